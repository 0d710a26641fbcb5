/- ElemMath, SetBytes, SetEq, SetFirsts, put together. -/
import Derived.Test.YthiiinbkkjacbaaDoorRt02
import Derived.Test.YthiiinbkkjacbaaDoorRt03
import Derived.Laws.AppendOwn
import Derived.OwnWalk
import Derived.Test.YthiiinbkkjacbaaDoorRt01
import Derived.ChangeKeysEq
import Derived.Laws.StructEq
import Derived.Handy
/- The elements of a set in their order, its least one, and its stretches: the mathematics, without the program. -/
namespace Go.Proofs.YthiiinbkkjacbaaDoor

theorem filter_first (p : Nat → Bool) (k : Nat) (hp : p k = true) (hlt : ∀ j, j < k → p j = false) : ∀ n, k < n → (List.range n).filter p = k :: (List.range n).filter (fun j => p j && decide (j ≠ k))
  | 0, h => by omega
  | n + 1, h => by
    rw [List.range_succ, List.filter_append, List.filter_append]
    by_cases e : k = n
    · subst e
      have e1 : (List.range k).filter p = [] := by
        rw [List.filter_eq_nil_iff]
        intro a ha
        rw [hlt a (List.mem_range.1 ha)]
        simp
      have e2 : (List.range k).filter (fun j => p j && decide (j ≠ k)) = [] := by
        rw [List.filter_eq_nil_iff]
        intro a ha
        rw [hlt a (List.mem_range.1 ha)]
        simp
      rw [e1, e2]
      simp [hp]
    · rw [filter_first p k hp hlt n (by omega), List.cons_append]
      congr 2
      have : decide (n ≠ k) = true := by simp; omega
      simp only [List.filter_cons, List.filter_nil, this, Bool.and_true]

/-! ### numbers and their bits -/
theorem ctz_bits (x : Nat) (h0 : x ≠ 0) (h : x < 18446744073709551616) :
    Lib.ctz 64 x < 64 ∧ x.testBit (Lib.ctz 64 x) = true ∧ (∀ j, j < Lib.ctz 64 x → x.testBit j = false) ∧ ∀ j, (x &&& (x - 1)).testBit j = (x.testBit j && decide (j ≠ Lib.ctz 64 x)) := by
  obtain ⟨m, hm, hk⟩ := Lib.ctzFrom_spec 64 x (by omega) h
  have e : Lib.ctz 64 x = Lib.ctzFrom 64 x := by simp [Lib.ctz, h0]
  rw [e]
  generalize Lib.ctzFrom 64 x = k at *
  have hx : ∀ j, x.testBit j = if j < k then false else (2 * m + 1).testBit (j - k) := fun j => by
    have := Nat.testBit_two_pow_mul_add (2 * m + 1) (i := k) (b := 0) (Nat.two_pow_pos k) j
    rw [Nat.add_zero, ← hm] at this
    rw [this]
    split <;> simp
  have h1 : x - 1 = 2 ^ k * (2 * m) + (2 ^ k - 1) := by
    have := Nat.two_pow_pos k
    rw [hm, Nat.mul_add, Nat.mul_one]
    omega
  have hy : ∀ j, (x - 1).testBit j = if j < k then true else (2 * m).testBit (j - k) := fun j => by
    rw [h1, Nat.testBit_two_pow_mul_add _ (by have := Nat.two_pow_pos k; omega)]
    split
    · rename_i hj
      rw [Nat.testBit_two_pow_sub_one]
      simp [hj]
    · rfl
  refine ⟨hk, ?_, ?_, ?_⟩
  · rw [hx]
    simp [Nat.testBit_zero]
  · intro j hj
    rw [hx]
    simp [hj]
  · intro j
    rw [Nat.testBit_and, hx, hy]
    by_cases hj : j < k
    · simp [hj]
    · by_cases he : j = k
      · subst he
        simp [Nat.testBit_zero]
      · obtain ⟨d, rfl⟩ : ∃ d, j = k + (d + 1) := ⟨j - k - 1, by omega⟩
        have e2 : k + (d + 1) - k = d + 1 := by omega
        rw [if_neg hj, if_neg hj, e2, Nat.testBit_succ, Nat.testBit_succ]
        have e3 : (2 * m + 1) / 2 = m := by omega
        have e4 : 2 * m / 2 = m := by omega
        rw [e3, e4]
        have : decide (k + (d + 1) ≠ k) = true := by simp
        rw [this]
        simp

/-- the bits of the i-th word, as bytes -/
def bitsOf (i x : Nat) : List Nat := ((List.range 64).filter fun j => x.testBit j).map fun j => 64 * i + j
theorem bitsOf_zero (i : Nat) : bitsOf i 0 = [] := by simp [bitsOf]
theorem bitsOf_step (i x : Nat) (h0 : x ≠ 0) (h : x < 18446744073709551616) : bitsOf i x = (64 * i + Lib.ctz 64 x) :: bitsOf i (x &&& (x - 1)) := by
  obtain ⟨hk, h1, h2, h3⟩ := ctz_bits x h0 h
  unfold bitsOf
  rw [filter_first (fun j => x.testBit j) _ h1 h2 64 hk, List.map_cons]
  congr 2
  refine List.filter_congr fun j _ => ?_
  rw [h3]
theorem bitsOf_length (i x : Nat) : (bitsOf i x).length = pop 64 x := by rw [bitsOf, List.length_map, pop_filter]
theorem bits_less (x : Nat) (h0 : x ≠ 0) : x &&& (x - 1) < x := Nat.lt_of_le_of_lt Nat.and_le_right (by omega)

/-! ### sets -/
def elems (f : Nat → Bool) : List Nat := (List.range 256).filter f
theorem elems_congr {f g : Nat → Bool} (h : ∀ n, n < 256 → f n = g n) : elems f = elems g := List.filter_congr fun n hn => h n (List.mem_range.1 hn)
theorem elems_words (f : Nat → Bool) : elems f = bitsOf 0 (word f 0) ++ (bitsOf 1 (word f 1) ++ (bitsOf 2 (word f 2) ++ bitsOf 3 (word f 3))) := by
  have hb : ∀ i, bitsOf i (word f i) = ((List.range 64).filter fun j => f (64 * i + j)).map fun j => 64 * i + j := fun i => by
    unfold bitsOf
    congr 1
    refine List.filter_congr fun j hj => ?_
    rw [word_bit]
    simp [List.mem_range.1 hj]
  have hr : List.range 256 = (List.range 64).map (fun j => 64 * 0 + j) ++ ((List.range 64).map (fun j => 64 * 1 + j) ++ ((List.range 64).map (fun j => 64 * 2 + j) ++ (List.range 64).map (fun j => 64 * 3 + j))) := by decide +kernel
  unfold elems
  rw [hr, List.filter_append, List.filter_append, List.filter_append, hb, hb, hb, hb, List.filter_map, List.filter_map, List.filter_map, List.filter_map]
  rfl
theorem count_words (f : Nat → Bool) : 0 + pop 64 (word f 0) + pop 64 (word f 1) + pop 64 (word f 2) + pop 64 (word f 3) = (elems f).length := by
  rw [elems_words, List.length_append, List.length_append, List.length_append, bitsOf_length, bitsOf_length, bitsOf_length, bitsOf_length]
  omega
theorem mem_elems (f : Nat → Bool) (n : Nat) : n ∈ elems f ↔ n < 256 ∧ f n = true := by simp [elems]
theorem elems_le (f : Nat → Bool) : (elems f).length ≤ 256 := by
  have := List.length_filter_le f (List.range 256)
  simpa [elems] using this
def firstOf (f : Nat → Bool) : Int := match elems f with
  | [] => -1
  | a :: _ => a
theorem firstOf_none {f : Nat → Bool} (h : ∀ n, n < 256 → f n = false) : firstOf f = -1 := by
  have : elems f = [] := by
    rw [elems, List.filter_eq_nil_iff]
    intro a ha
    rw [h a (List.mem_range.1 ha)]
    simp
  simp [firstOf, this]
theorem firstOf_at {f : Nat → Bool} {a : Nat} (ha : a < 256) (h : f a = true) (hlt : ∀ j, j < a → f j = false) : firstOf f = a := by
  have : elems f = a :: _ := filter_first f a h hlt 256 ha
  simp [firstOf, this]
theorem firstOf_word (f : Nat → Bool) (i : Nat) (hi : i < 4) (hz : ∀ j, j < i → word f j = 0) (h0 : word f i ≠ 0) : firstOf f = ((64 * i + Lib.ctz 64 (word f i) : Nat) : Int) := by
  obtain ⟨hk, h1, h2, _⟩ := ctz_bits (word f i) h0 (word_lt f i)
  refine firstOf_at (by omega) ?_ ?_
  · rw [word_bit] at h1
    simpa [hk] using h1
  · intro j hj
    have hb := word_bit f (j / 64) (j % 64)
    have hm : j % 64 < 64 := Nat.mod_lt _ (by decide)
    rw [Nat.div_add_mod] at hb
    simp only [hm, decide_true, Bool.true_and] at hb
    rw [← hb]
    by_cases hji : j / 64 < i
    · rw [hz _ hji]
      simp
    · have e : j / 64 = i := by omega
      rw [e]
      exact h2 _ (by omega)
/-- a set that has something has a least one -/
theorem least (f : Nat → Bool) (h : ¬ ∀ n, n < 256 → f n = false) : ∃ a, a < 256 ∧ f a = true ∧ (∀ j, j < a → f j = false) ∧ firstOf f = a := by
  have key : ∀ n, n ≤ 256 → (∀ m, m < n → f m = false) ∨ ∃ a, a < n ∧ f a = true ∧ ∀ j, j < a → f j = false := by
    intro n
    induction n with
    | zero => exact fun _ => .inl fun m hm => by omega
    | succ n ih =>
      intro hn
      rcases ih (by omega) with h1 | ⟨a, h1, h2, h3⟩
      · cases hf : f n
        · refine .inl fun m hm => ?_
          by_cases e : m = n
          · rw [e, hf]
          · exact h1 m (by omega)
        · exact .inr ⟨n, by omega, hf, h1⟩
      · exact .inr ⟨a, by omega, h2, h3⟩
  rcases key 256 (Nat.le_refl _) with h1 | ⟨a, h1, h2, h3⟩
  · exact absurd h1 h
  · exact ⟨a, h1, h2, h3, firstOf_at h1 h2 h3⟩

/-! ### stretches -/
def lastOf (f : Nat → Bool) : Nat → Nat → Nat
  | 0, b => b
  | n + 1, b => if b < 255 ∧ f (b + 1) = true then lastOf f n (b + 1) else b
theorem lastOf_succ (f : Nat → Bool) (n b : Nat) : lastOf f (n + 1) b = if b < 255 ∧ f (b + 1) = true then lastOf f n (b + 1) else b := rfl
theorem lastOf_step (f : Nat → Bool) : ∀ n b, 255 - b ≤ n → lastOf f n b = lastOf f 255 b := by
  have key : ∀ n b, 255 - b ≤ n → lastOf f (n + 1) b = lastOf f n b := by
    intro n
    induction n with
    | zero =>
      intro b hb
      simp only [lastOf]
      rw [if_neg (by omega)]
    | succ n ih =>
      intro b hb
      rw [lastOf_succ f (n + 1) b, lastOf_succ f n b]
      by_cases c : b < 255 ∧ f (b + 1) = true
      · rw [if_pos c, if_pos c, ih (b + 1) (by omega)]
      · rw [if_neg c, if_neg c]
  have up : ∀ d n b, 255 - b ≤ n → lastOf f (n + d) b = lastOf f n b := by
    intro d
    induction d with
    | zero => exact fun n b _ => rfl
    | succ d ih => exact fun n b hb => by rw [← Nat.add_assoc, key (n + d) b (by omega), ih n b hb]
  intro n b hb
  by_cases h : n ≤ 255
  · have := up (255 - n) n b hb
    rw [show n + (255 - n) = 255 by omega] at this
    exact this.symm
  · have := up (n - 255) 255 b (by omega)
    rw [show 255 + (n - 255) = n by omega] at this
    exact this
/-- the last one of the stretch in which b is -/
def lastR (f : Nat → Bool) (b : Nat) : Nat := lastOf f 255 b
theorem lastR_more {f : Nat → Bool} {b : Nat} (h : b < 255) (hf : f (b + 1) = true) : lastR f b = lastR f (b + 1) := by
  unfold lastR
  rw [← lastOf_step f 256 b (by omega), lastOf_succ f 255 b, if_pos ⟨h, hf⟩]
theorem lastR_end {f : Nat → Bool} {b : Nat} (h : ¬ (b < 255 ∧ f (b + 1) = true)) : lastR f b = b := by
  unfold lastR
  rw [lastOf_succ f 254 b, if_neg h]
theorem lastR_spec (f : Nat → Bool) : ∀ d b, 255 - b ≤ d → b < 256 → f b = true → b ≤ lastR f b ∧ lastR f b < 256 ∧ (∀ n, b ≤ n → n ≤ lastR f b → f n = true) ∧ (lastR f b < 255 → f (lastR f b + 1) = false)
  | d, b, hd, hb, hf => by
    by_cases c : b < 255 ∧ f (b + 1) = true
    · rw [lastR_more c.1 c.2]
      match d, hd with
      | 0, hd => omega
      | d + 1, hd =>
        obtain ⟨h1, h2, h3, h4⟩ := lastR_spec f d (b + 1) (by omega) (by omega) c.2
        refine ⟨by omega, h2, fun n hn hn' => ?_, h4⟩
        by_cases e : n = b
        · rw [e, hf]
        · exact h3 n (by omega) hn'
    · rw [lastR_end c]
      refine ⟨Nat.le_refl _, hb, fun n hn hn' => ?_, fun h => ?_⟩
      · rw [show n = b by omega, hf]
      · cases hg : f (b + 1)
        · rfl
        · exact absurd ⟨h, hg⟩ c
theorem lastR_congr {f g : Nat → Bool} : ∀ d b, 255 - b ≤ d → (∀ n, b < n → n < 256 → f n = g n) → lastR f b = lastR g b
  | d, b, hd, h => by
    by_cases hb : b < 255
    · match d, hd with
      | 0, hd => omega
      | d + 1, hd =>
        have e := h (b + 1) (by omega) (by omega)
        cases hg : g (b + 1)
        · rw [lastR_end (by rw [e, hg]; simp), lastR_end (by rw [hg]; simp)]
        · rw [lastR_more hb (e.trans hg), lastR_more hb hg]
          exact lastR_congr d (b + 1) (by omega) fun n hn hn' => h n (by omega) hn'
    · rw [lastR_end (by omega), lastR_end (by omega)]

def start (f : Nat → Bool) (b : Nat) : Bool := f b && (b == 0 || !f (b - 1))
def runs (f : Nat → Bool) : List (Nat × Nat) := ((List.range 256).filter (start f)).map fun b => (b, lastR f b)
theorem start_congr {f g : Nat → Bool} (h : ∀ n, n < 256 → f n = g n) (n : Nat) (hn : n < 256) : start f n = start g n := by
  unfold start
  rw [h n hn, h (n - 1) (by omega)]
theorem runs_congr {f g : Nat → Bool} (h : ∀ n, n < 256 → f n = g n) : runs f = runs g := by
  unfold runs
  rw [List.filter_congr fun n hn => start_congr h n (List.mem_range.1 hn)]
  exact List.map_congr_left fun b _ => by rw [lastR_congr 255 b (by omega) fun n _ hn => h n hn]
theorem runs_none {f : Nat → Bool} (h : ∀ n, n < 256 → f n = false) : runs f = [] := by
  unfold runs
  rw [List.filter_eq_nil_iff.2, List.map_nil]
  intro a ha
  simp [start, h a (List.mem_range.1 ha)]
/-- a set without the bytes from a to b -/
def without (f : Nat → Bool) (a b : Nat) (n : Nat) : Bool := f n && !(decide (a ≤ n) && decide (n ≤ b))
theorem runs_step (f : Nat → Bool) (a : Nat) (ha : a < 256) (h : f a = true) (hlt : ∀ j, j < a → f j = false) : runs f = (a, lastR f a) :: runs (without f a (lastR f a)) := by
  obtain ⟨h1, h2, h3, h4⟩ := lastR_spec f 255 a (by omega) ha h
  generalize hL : lastR f a = L at *
  have s0 : start f a = true := by
    unfold start
    rw [h]
    by_cases e : a = 0
    · simp [e]
    · rw [hlt (a - 1) (by omega)]
      simp
  have sl : ∀ j, j < a → start f j = false := fun j hj => by simp [start, hlt j hj]
  unfold runs
  rw [filter_first (start f) a s0 sl 256 ha, List.map_cons, hL]
  congr 1
  have e : ∀ n, n < 256 → (start f n && decide (n ≠ a)) = start (without f a L) n := fun n hn => by
    unfold start without
    by_cases c1 : n < a
    · rw [hlt n c1]
      simp
    · by_cases c2 : n ≤ L
      · have t1 : decide (a ≤ n) = true := by simp; omega
        have t2 : decide (n ≤ L) = true := by simp; omega
        rw [h3 n (by omega) c2, t1, t2]
        by_cases e : n = a
        · simp [e]
        · rw [h3 (n - 1) (by omega) (by omega)]
          have : (n == 0) = false := by simp; omega
          simp [this]
      · have t2 : decide (n ≤ L) = false := by simp; omega
        have t3 : decide (n ≠ a) = true := by simp; omega
        rw [t2, t3]
        by_cases e : n = L + 1
        · subst e
          rw [h4 (by omega)]
          simp
        · have t4 : decide (n - 1 ≤ L) = false := by simp; omega
          rw [t4]
          simp
  rw [List.filter_congr fun n hn => e n (List.mem_range.1 hn)]
  refine List.map_congr_left fun b hb => ?_
  have hs := (List.mem_filter.1 hb).2
  have hbL : L < b := by
    unfold start without at hs
    have := List.mem_range.1 (List.mem_filter.1 hb).1
    by_cases c1 : b < a
    · rw [hlt b c1] at hs
      simp at hs
    · by_cases c2 : b ≤ L
      · have t1 : decide (a ≤ b) = true := by simp; omega
        have t2 : decide (b ≤ L) = true := by simp; omega
        rw [t1, t2] at hs
        simp at hs
      · omega
  rw [lastR_congr 255 b (by omega) fun n hn _ => ?_]
  unfold without
  have t2 : decide (n ≤ L) = false := by simp; omega
  rw [t2]
  simp
end Go.Proofs.YthiiinbkkjacbaaDoor

/- Contracts of First, and of the two functions that list a set's bytes. -/
namespace Go.Proofs.YthiiinbkkjacbaaDoor
open Go.RowKit

theorem row_below {w w' : World} {base : Nat} {e : TypeId} {size : Nat} {v : Value} {n : Nat} {xs : List Value} (h : w.ownsRow base e size v n xs) (hb : Below w.heap.size w w') : w'.ownsRow base e size v n xs :=
  h.kept (row := none) ⟨hb.os, hb.tape, hb.output, hb.size, fun k hk _ => hb.block k hk⟩ (by cases v.ownBlock <;> simp)
theorem below_grown {B : Nat} {a w w' : World} {base : Nat} {e : TypeId} {size : Nat} {v : Value} {n : Nat} {xs : List Value} (h : Below B a w) (hown : w.ownsRow base e size v n xs) (hg : w.grownBy w' v.ownBlock) (hB : B ≤ base) (hw : B ≤ w.heap.size) : Below B a w' :=
  h.grown hg hw fun k hk => Nat.le_trans hB (hown.lt k hk).1
theorem SetAt.grown {w w' : World} {B base : Nat} {e : TypeId} {size : Nat} {v : Value} {n : Nat} {xs : List Value} {f : Nat → Bool} (h : SetAt w B f) (hown : w.ownsRow base e size v n xs) (hg : w.grownBy w' v.ownBlock) (hB : B < base) : SetAt w' B f := by
  refine (hg.block B h.lt fun e => ?_).trans h
  have := (hown.lt B e.symm).1
  omega
def byteV (n : Nat) : Value := .int .u8 n
theorem infoByte : (Tryd.prog.info? 5).map (fun i => (i.zero, i.size, i.bytes)) = some (some (.int .u8 0), 1, 1) := by kernel_rfl

/-- a slice of the call's own comes back, with these cells -/
def RetRow (base : Nat) (E : TypeId) (size n : Nat) (xs : List Value) (w : World) (e : Ending) (w' : World) : Prop := ∃ v, e = .returned v ∧ w'.ownsRow base E size v n xs ∧ Below w.heap.size w w'
theorem row_mono {w : World} {base base' : Nat} {e : TypeId} {size : Nat} {v : Value} {n : Nat} {xs : List Value} (h : w.ownsRow base e size v n xs) (hB : base' ≤ base) : w.ownsRow base' e size v n xs := by
  refine ⟨h.1, ?_⟩
  rcases h.2 with h1 | ⟨g, cap, cur, h1, h2, h3⟩
  · exact .inl h1
  · exact .inr ⟨g, cap, cur, h1, by omega, h3⟩
theorem take_more (f : Nat → Bool) (k : Nat) (h : f k = true) : ((List.range k).filter f) ++ [k] = (List.range (k + 1)).filter f := by
  rw [List.range_succ, List.filter_append]
  simp [h]
theorem take_same (f : Nat → Bool) (k : Nat) (h : f k = false) : (List.range k).filter f = (List.range (k + 1)).filter f := by
  rw [List.range_succ, List.filter_append]
  simp [h]
theorem filter_le (f : Nat → Bool) (k : Nat) : ((List.range k).filter f).length ≤ k := by
  have := List.length_filter_le f (List.range k)
  simpa using this
def GotB (f : Nat → Bool) (k base : Nat) (v : Value) (w : World) : Prop := w.ownsRow base 5 1 v ((List.range k).filter f).length (((List.range k).filter f).map byteV)
theorem gotB_step {f : Nat → Bool} {k base : Nat} {v : Value} {w : World} (h : f k = true) (hw : w.ownsRow base 5 1 v (((List.range k).filter f).length + 1) (((List.range k).filter f).map byteV ++ [.int .u8 k])) : GotB f (k + 1) base v w := by
  unfold GotB
  rw [← take_more f k h]
  simpa [byteV] using hw

theorem news_one {w : World} {x u : Value} {t : TypeId} {j : Nat} (hj : [x][j]? = some u) : (w.alloc (.cells #[x] t)).cell? ((⟨w.heap.size, 0, none⟩ : Addr).add j) = some u := by
  match j, hj with
  | 0, hj =>
    simp at hj
    subst hj
    rw [Addr.add_lit, World.cell?_alloc_at _ _ _ _ rfl]
    rfl

set_option maxRecDepth 100000 in
theorem rbytes_calls (f : Nat → Bool) (w : World) :
    Calls Tryd.prog 24 #[(.agg #[.int .u64 (word (f) 0), .int .u64 (word (f) 1), .int .u64 (word (f) 2), .int .u64 (word (f) 3)])] w (RetRow (w.heap.size + 1) 5 1 (elems f).length ((elems f).map byteV) w) := by
  obtain ⟨i0, hi, hz0, hz1, hz2⟩ := info_parts infoByte
  have HI := hidden hi
  have HZ := hidden (And.intro hz0 (And.intro hz1 hz2))
  clear hi hz0 hz1 hz2
  go_enter Tryd.func24, Tryd.ntmps24
  go_wp2
  go_loopw [3, 4] (fun v i wr => ∃ k : Nat, k ≤ 256 ∧ i = .int .i64 k ∧ GotB f k (w.heap.size + 1) v wr ∧ SetAt wr w.heap.size f ∧ Below w.heap.size w wr) (fun _ i _ => 256 - (intOf i).toNat)
  case atStart =>
    exact ⟨0, by omega, rfl, ⟨rfl, .inr ⟨_, 0, #[], rfl, Nat.le_refl _, heap_alloc2_new _ _ _, Nat.le_refl _, by decide, rfl, rfl⟩⟩, (SetAt.new w f).alloc _, by go_grown⟩
  case round =>
    obtain ⟨k, hk, rfl, hG, hS, hb⟩ := hrel
    have l1 := hS.lt
    by_cases hlt : k < 256
    · obtain ⟨c0, c1, c2, c3, _, _, _, _⟩ := hS.facts
      have HS := hidden hS
      have HG := hidden hG
      clear hS hG
      have hwr : IntKind.u8.wrap (k : Int) = k := by rw [IntKind.wrap_u8]; omega
      go_wp2_with fail
      refine (rhas_nat f k _ (by omega)).mono ?_
      rintro e w1 ⟨rfl, hb1⟩
      have HS1 := hidden (HS.out.below hb1)
      have HG1 := hidden (row_below HG.out hb1)
      have HB1 := hidden (below_then hb (by omega) hb1)
      have l2 := hb1.size
      clear hb1 HG HS hb c0 c1 c2 c3
      cases hf : f k
      · go_wp2
        refine ⟨⟨k + 1, by omega, by go_num, ?_, HS1.out, HB1.out⟩, by simp [intOf]; omega⟩
        unfold GotB
        rw [← take_same f k hf]
        exact HG1.out
      · have hle := filter_le f k
        go_wp2_with (at_builtin; refine wpList_append_own _ rfl _ _ 50 rfl (w.heap.size + 1) 5 i0 (.int .u8 0) 1 1 Tryd.underlying50 HI.out HZ.out.1 HZ.out.2.1 HZ.out.2.2 rfl (by decide) _ _ _ rfl (HG1.out.alloc _) ⟨w1.heap.size, 0, none⟩ 1 1 [.int .u8 k] rfl rfl ?c1 ?c2 ?c3 ?c4 ?c5 ?_)
        case c1 => exact fun j u hj => news_one hj
        case c2 => exact fun u hu => by simp at hu; subst hu; rfl
        case c3 => unfold maxLen; omega
        case c4 => omega
        case c5 => have := HB1.out.size; simp; omega
        intro v2 w2 hown2 hgrow2 _
        have HO := hidden (HG1.out.alloc (.cells #[.int .u8 k] 5))
        have HR := hidden hown2
        have HS2 := hidden ((HS1.out.alloc (.cells #[.int .u8 k] 5)).grown HO.out hgrow2 (Nat.lt_succ_self _))
        have HB2 := hidden (below_grown (HB1.out.alloc HB1.out.size (.cells #[.int .u8 k] 5)) HO.out hgrow2 (Nat.le_succ _) (by have := HB1.out.size; simp; omega))
        clear hown2 hgrow2
        go_wp2
        exact ⟨⟨k + 1, by omega, by go_num, gotB_step hf HR.out, HS2.out, HB2.out⟩, by simp [intOf]; omega⟩
    · have e : k = 256 := by omega
      subst e
      have HG := hidden hG
      clear hG hS
      go_wp2
      go_ret
      exact ⟨_, rfl, HG.out, hb⟩
end Go.Proofs.YthiiinbkkjacbaaDoor

/- Two arrays of four numbers, or of two, held against one another. -/
namespace Go.Proofs.YthiiinbkkjacbaaDoor
open Go.RowKit

theorem items_step {P : Program} {w : World} {d : Nat} {e : TypeId} {k : IntKind} (he : P.plainKey e = true) (hu : P.underlying e = some (.int k)) {xs ys : Array Value} {j : Nat} {x y : Int} {is : List Nat} {r : Bool}
    (hx : xs[j * 1]? = some (.int k x)) (hy : ys[j * 1]? = some (.int k y)) (h : (Op.eqItems (d + 1) e 1 xs ys is).run P w = .ok r w) : (Op.eqItems (d + 1) e 1 xs ys (j :: is)).run P w = .ok (x == y && r) w := by
  simp only [Op.eqItems, Sem.run_bind]
  rw [run_part_plain (P := P) (w := w) he hx]
  simp only [Result.andThen_ok]
  rw [run_part_plain (P := P) (w := w) he hy]
  simp only [Result.andThen_ok]
  rw [run_equalIn_int w d e k k x y hu]
  simp only [Result.andThen_ok]
  cases (x == y)
  · simp
  · simpa using h
theorem items_end {P : Program} {w : World} {d : Nat} {e : TypeId} {xs ys : Array Value} : (Op.eqItems d e 1 xs ys []).run P w = .ok true w := by
  simp [Op.eqItems]

theorem eq_four (w : World) (a0 a1 a2 a3 b0 b1 b2 b3 : Int) :
    (Op.equalIn 10000 25 (.agg #[.int .u64 a0, .int .u64 a1, .int .u64 a2, .int .u64 a3]) (.agg #[.int .u64 b0, .int .u64 b1, .int .u64 b2, .int .u64 b3])).run Tryd.prog w = .ok (a0 == b0 && (a1 == b1 && (a2 == b2 && (a3 == b3 && true)))) w := by
  obtain ⟨i, hi⟩ : ∃ i, Tryd.prog.info? 23 = some i := Option.isSome_iff_exists.1 (by kernel_rfl)
  have hc : Tryd.prog.cellsOf 23 = 1 := by kernel_rfl
  have he : Tryd.prog.plainKey 23 = true := by kernel_rfl
  rw [run_equalIn_array (P := Tryd.prog) (w := w) 9999 _ _ Tryd.underlying25 hi, hc, show List.range 4 = [0, 1, 2, 3] from rfl]
  exact items_step (d := 9998) he Tryd.underlying23 rfl rfl (items_step he Tryd.underlying23 rfl rfl (items_step he Tryd.underlying23 rfl rfl (items_step he Tryd.underlying23 rfl rfl items_end)))
theorem eq_two (w : World) (a0 a1 b0 b1 : Int) :
    (Op.equalIn 10000 70 (.agg #[.int .i64 a0, .int .i64 a1]) (.agg #[.int .i64 b0, .int .i64 b1])).run Tryd.prog w = .ok (a0 == b0 && (a1 == b1 && true)) w := by
  obtain ⟨i, hi⟩ : ∃ i, Tryd.prog.info? 3 = some i := Option.isSome_iff_exists.1 (by kernel_rfl)
  have hc : Tryd.prog.cellsOf 3 = 1 := by kernel_rfl
  have he : Tryd.prog.plainKey 3 = true := by kernel_rfl
  rw [run_equalIn_array (P := Tryd.prog) (w := w) 9999 _ _ Tryd.underlying70 hi, hc, show List.range 2 = [0, 1] from rfl]
  exact items_step (d := 9998) he Tryd.underlying3 rfl rfl (items_step he Tryd.underlying3 rfl rfl items_end)

/-- two sets held against one another -/
def sameSet (f g : Nat → Bool) : Bool := (word f 0 : Int) == word g 0 && ((word f 1 : Int) == word g 1 && ((word f 2 : Int) == word g 2 && ((word f 3 : Int) == word g 3 && true)))
theorem same_iff (f g : Nat → Bool) : sameSet f g = true ↔ ∀ n, n < 256 → f n = g n := by
  unfold sameSet
  constructor
  · intro h
    simp at h
    exact word_inj fun i hi => match i, hi with
      | 0, _ => by omega
      | 1, _ => by omega
      | 2, _ => by omega
      | 3, _ => by omega
  · intro h
    rw [word_ext h 0 (by decide), word_ext h 1 (by decide), word_ext h 2 (by decide), word_ext h 3 (by decide)]
    simp
theorem same_of {f g : Nat → Bool} (h : ∀ n, n < 256 → f n = g n) : sameSet f g = true := (same_iff f g).2 h
theorem eq_sets (w : World) (f g : Nat → Bool) : (Op.equalIn 10000 25 (.agg #[.int .u64 (word (f) 0), .int .u64 (word (f) 1), .int .u64 (word (f) 2), .int .u64 (word (f) 3)]) (.agg #[.int .u64 (word (g) 0), .int .u64 (word (g) 1), .int .u64 (word (g) 2), .int .u64 (word (g) 3)])).run Tryd.prog w = .ok (sameSet f g) w := eq_four w _ _ _ _ _ _ _ _
theorem eq_none (w : World) (f : Nat → Bool) : (Op.equalIn 10000 25 (.agg #[.int .u64 (word (f) 0), .int .u64 (word (f) 1), .int .u64 (word (f) 2), .int .u64 (word (f) 3)]) (.agg #[.int .u64 0, .int .u64 0, .int .u64 0, .int .u64 0])).run Tryd.prog w = .ok (sameSet f fNone) w := by
  rw [eq_four]
  simp [sameSet, word_none]
end Go.Proofs.YthiiinbkkjacbaaDoor

/- Contracts of the two functions that tell a set's least byte. -/
namespace Go.Proofs.YthiiinbkkjacbaaDoor
open Go.RowKit

set_option maxRecDepth 100000 in
theorem first_calls (f : Nat → Bool) (w : World) (ht : Tab w) :
    Calls Tryd.prog 19 #[(.agg #[.int .u64 (word (f) 0), .int .u64 (word (f) 1), .int .u64 (word (f) 2), .int .u64 (word (f) 3)])] w fun e w' => e = .returned (.int .i64 (firstOf f)) ∧ Below w.heap.size w w' := by
  by_cases hn : ∀ n, n < 256 → f n = false
  · have hq := fun w => eq_none w f
    have hs : sameSet f fNone = true := same_of fun n h => by rw [hn n h]; rfl
    rw [hs] at hq
    have HF := hidden (firstOf_none hn)
    clear hn hs
    go_enter Tryd.func19, Tryd.ntmps19
    go_wp2
    go_ret
    exact ⟨ret_i HF.out.symm, by go_grown⟩
  · have hq := fun w => eq_none w f
    have hs : sameSet f fNone = false := by
      rw [Bool.eq_false_iff]
      exact fun h => hn fun n hn' => (same_iff f fNone).1 h n hn'
    rw [hs] at hq
    have hc : word f 0 ≠ 0 ∨ (word f 0 = 0 ∧ word f 1 ≠ 0) ∨ (word f 0 = 0 ∧ word f 1 = 0 ∧ word f 2 ≠ 0) ∨ (word f 0 = 0 ∧ word f 1 = 0 ∧ word f 2 = 0 ∧ word f 3 ≠ 0) := by
      simp [sameSet, word_none] at hs
      omega
    have HL := hidden (fun i => word_lt f i)
    have HF := hidden (firstOf_word f)
    have HT := hidden (ht.below ((Below.refl w.heap.size w).alloc (Nat.le_refl _) (.cells #[.int .u64 (word (f) 0), .int .u64 (word (f) 1), .int .u64 (word (f) 2), .int .u64 (word (f) 3)] 25)))
    have hk := fun i h => (Lib.lowest_bit 64 (word f i) h (word_lt f i)).2
    have HK := hidden hk
    clear ht hk hn hs
    rcases hc with h0 | ⟨h0, h1⟩ | ⟨h0, h1, h2⟩ | ⟨h0, h1, h2, h3⟩
    · have g0 : ((word f 0 : Int) == 0) = false := by simp; omega
      have hz := HK.out 0 h0
      have hv := HF.out 0 (by decide) (fun j hj => by
        match j, hj with
        | j, hj => omega) h0
      have H0 := hidden h0
      have HV := hidden hv
      clear hv h0
      go_enter Tryd.func19, Tryd.ntmps19
      go_wp2
      refine wp_loop_rounds 1 ?_
      rw [rounds_succ]
      go_wp2_with fail
      refine (tz_calls _ _ (HL.out 0) H0.out HT.out).mono ?_
      rintro e w' ⟨rfl, rfl⟩
      go_wp2
      go_ret
      refine ⟨ret_i ?_, by go_grown⟩
      rw [HV.out]
      simp
    · have g0 : ((word f 0 : Int) == 0) = true := by simp; omega
      have g1 : ((word f 1 : Int) == 0) = false := by simp; omega
      have hz := HK.out 1 h1
      have hv := HF.out 1 (by decide) (fun j hj => by
        match j, hj with
        | 0, _ => exact h0) h1
      have H0 := hidden h0
      have H1 := hidden h1
      have HV := hidden hv
      clear hv h0 h1
      go_enter Tryd.func19, Tryd.ntmps19
      go_wp2
      refine wp_loop_rounds 2 ?_
      rw [rounds_succ]
      go_wp2
      rw [rounds_succ]
      go_wp2_with fail
      refine (tz_calls _ _ (HL.out 1) H1.out HT.out).mono ?_
      rintro e w' ⟨rfl, rfl⟩
      go_wp2
      go_ret
      refine ⟨ret_i ?_, by go_grown⟩
      rw [HV.out]
      simp
    · have g0 : ((word f 0 : Int) == 0) = true := by simp; omega
      have g1 : ((word f 1 : Int) == 0) = true := by simp; omega
      have g2 : ((word f 2 : Int) == 0) = false := by simp; omega
      have hz := HK.out 2 h2
      have hv := HF.out 2 (by decide) (fun j hj => by
        match j, hj with
        | 0, _ => exact h0
        | 1, _ => exact h1) h2
      have H0 := hidden h0
      have H1 := hidden h1
      have H2 := hidden h2
      have HV := hidden hv
      clear hv h0 h1 h2
      go_enter Tryd.func19, Tryd.ntmps19
      go_wp2
      refine wp_loop_rounds 3 ?_
      rw [rounds_succ]
      go_wp2
      rw [rounds_succ]
      go_wp2
      rw [rounds_succ]
      go_wp2_with fail
      refine (tz_calls _ _ (HL.out 2) H2.out HT.out).mono ?_
      rintro e w' ⟨rfl, rfl⟩
      go_wp2
      go_ret
      refine ⟨ret_i ?_, by go_grown⟩
      rw [HV.out]
      simp
    · have g0 : ((word f 0 : Int) == 0) = true := by simp; omega
      have g1 : ((word f 1 : Int) == 0) = true := by simp; omega
      have g2 : ((word f 2 : Int) == 0) = true := by simp; omega
      have g3 : ((word f 3 : Int) == 0) = false := by simp; omega
      have hz := HK.out 3 h3
      have hv := HF.out 3 (by decide) (fun j hj => by
        match j, hj with
        | 0, _ => exact h0
        | 1, _ => exact h1
        | 2, _ => exact h2) h3
      have H0 := hidden h0
      have H1 := hidden h1
      have H2 := hidden h2
      have H3 := hidden h3
      have HV := hidden hv
      clear hv h0 h1 h2 h3
      go_enter Tryd.func19, Tryd.ntmps19
      go_wp2
      refine wp_loop_rounds 4 ?_
      rw [rounds_succ]
      go_wp2
      rw [rounds_succ]
      go_wp2
      rw [rounds_succ]
      go_wp2
      rw [rounds_succ]
      go_wp2_with fail
      refine (tz_calls _ _ (HL.out 3) H3.out HT.out).mono ?_
      rintro e w' ⟨rfl, rfl⟩
      go_wp2
      go_ret
      refine ⟨ret_i ?_, by go_grown⟩
      rw [HV.out]
      simp

theorem row_form {w : World} {base : Nat} {e : TypeId} {size : Nat} {v : Value} {n : Nat} {xs : List Value} (h : w.ownsRow base e size v n xs) :
    (v = .slice none 0 0 ∧ n = 0) ∨ ∃ g cap, v = .slice (some ⟨g, 0, none⟩) n cap ∧ base ≤ g ∧ g < w.heap.size ∧ n ≤ cap ∧ cap ≤ maxLen ∧ ∀ j, j < n * size → w.cell? ⟨g, j, none⟩ = xs[j]? := by
  rcases h.2 with h1 | ⟨g, cap, cur, h1, h2, h3, h4, h5, h6, h7⟩
  · exact .inl h1
  · refine .inr ⟨g, cap, h1, h2, ?_, h4, h5, fun j hj => ?_⟩
    · rcases Nat.lt_or_ge g w.heap.size with hlt | hge
      · exact hlt
      · rw [Array.getElem?_eq_none hge] at h3
        cases h3
    · subst h1
      exact World.ownsRow.cellAt h j hj
theorem first_elem {f : Nat → Bool} {a : Nat} {r : List Nat} (h : elems f = a :: r) : firstOf f = a := by simp [firstOf, h]
end Go.Proofs.YthiiinbkkjacbaaDoor
