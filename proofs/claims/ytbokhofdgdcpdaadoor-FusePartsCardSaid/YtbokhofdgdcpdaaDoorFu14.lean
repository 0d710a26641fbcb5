/- Bits, ElemMath, SpList, put together. -/
import Derived.Test.YtbokhofdgdcpdaaDoorFu13
import Derived.Laws.Bits64b
import Derived.Handy
import Derived.Laws.Bits128
import Derived.Laws.BitsLemmas
import Derived.Test.YtbokhofdgdcpdaaDoorFu10
/- Contracts of math/bits.OnesCount64 and math/bits.TrailingZeros64 (the table of the second as it is laid). -/
namespace Go.Proofs.YtbokhofdgdcpdaaDoor
open Go.RowKit

/-- the table of trailing zeros, as its initialiser lays it -/
def Tab (w : World) : Prop := ∀ j, j < 64 → w.cell? ⟨0, j, none⟩ = some (.int .u8 (Lib.deBruijn64tab.getD j 0 : Nat))
theorem Tab.below {w w' : World} (h : Tab w) (hb : Below w.heap.size w w') : Tab w' := fun j hj => (hb.cell (p := ⟨_, j, none⟩) (cell_lt (h j hj))).trans (h j hj)
theorem Tab.drew {w : World} (h : Tab w) : Tab w.drew := h

theorem tz_key (x : Nat) (hx : x < 18446744073709551616) (h0 : x ≠ 0) :
    IntKind.u64.wrap (bits .and .u64 (x : Int) (IntKind.u64.wrap (-(x : Int))) * 285870213051353865) / 288230376151711744 = ((2 ^ Lib.ctz 64 x * 285870213051353865 % 18446744073709551616 / 288230376151711744 : Nat) : Int) := by
  have e1 : IntKind.u64.wrap (-(x : Int)) = ((18446744073709551616 - x : Nat) : Int) := by rw [IntKind.wrap_u64]; omega
  have hl := (Lib.lowest_bit 64 x h0 hx).1
  rw [e1, u64_and_nat x _ hx (by omega), show (18446744073709551616 : Nat) = 2 ^ 64 from rfl, hl, IntKind.wrap_u64]
  generalize 2 ^ Lib.ctz 64 x = y
  omega

theorem tz_core (x k idx : Nat) (w : World) (hx0 : ((x : Int) == 0) = false)
    (key : IntKind.u64.wrap (bits .and .u64 (x : Int) (IntKind.u64.wrap (-(x : Int))) * 285870213051353865) / 288230376151711744 = (idx : Int))
    (hi : idx < 64) (hk : k < 64) (hcell : w.cell? ⟨0, idx, none⟩ = some (.int .u8 k)) :
    Calls Tryd.prog 75 #[.int .u64 x] w fun e w' => e = .returned (.int .i64 k) ∧ w = w' := by
  go_enter Tryd.func75, Tryd.ntmps75
  go_wp2_with (simp only [key])
  go_ret
  exact ⟨rfl, rfl⟩
theorem tz_calls (x : Nat) (w : World) (hx : x < 18446744073709551616) (h0 : x ≠ 0) (ht : Tab w) :
    Calls Tryd.prog 75 #[.int .u64 x] w fun e w' => e = .returned (.int .i64 (Lib.ctz 64 x)) ∧ w = w' := by
  have hk := (Lib.lowest_bit 64 x h0 hx).2
  obtain ⟨hi, htab⟩ := Lib.deBruijn64_at _ hk
  have hc := ht _ hi
  rw [htab] at hc
  exact tz_core x _ _ w (by simp; omega) (tz_key x hx h0) hi hk hc

end Go.Proofs.YtbokhofdgdcpdaaDoor

/- The elements of a set in their order, its least one, and its stretches: the mathematics, without the program. -/
namespace Go.Proofs.YtbokhofdgdcpdaaDoor

theorem filter_first (p : Nat → Bool) (k : Nat) (hp : p k = true) (hlt : ∀ j, j < k → p j = false) : ∀ n, k < n → (List.range n).filter p = k :: (List.range n).filter (fun j => p j && decide (j ≠ k))
  | 0, h => by omega
  | n + 1, h => by
    rw [List.range_succ, List.filter_append, List.filter_append]
    by_cases e : k = n
    · subst e
      have e1 : (List.range k).filter p = [] := by
        rw [List.filter_eq_nil_iff]
        intro a ha
        rw [hlt a (List.mem_range.1 ha)]
        simp
      have e2 : (List.range k).filter (fun j => p j && decide (j ≠ k)) = [] := by
        rw [List.filter_eq_nil_iff]
        intro a ha
        rw [hlt a (List.mem_range.1 ha)]
        simp
      rw [e1, e2]
      simp [hp]
    · rw [filter_first p k hp hlt n (by omega), List.cons_append]
      congr 2
      have : decide (n ≠ k) = true := by simp; omega
      simp only [List.filter_cons, List.filter_nil, this, Bool.and_true]

/-! ### numbers and their bits -/
theorem ctz_bits (x : Nat) (h0 : x ≠ 0) (h : x < 18446744073709551616) :
    Lib.ctz 64 x < 64 ∧ x.testBit (Lib.ctz 64 x) = true ∧ (∀ j, j < Lib.ctz 64 x → x.testBit j = false) ∧ ∀ j, (x &&& (x - 1)).testBit j = (x.testBit j && decide (j ≠ Lib.ctz 64 x)) := by
  obtain ⟨m, hm, hk⟩ := Lib.ctzFrom_spec 64 x (by omega) h
  have e : Lib.ctz 64 x = Lib.ctzFrom 64 x := by simp [Lib.ctz, h0]
  rw [e]
  generalize Lib.ctzFrom 64 x = k at *
  have hx : ∀ j, x.testBit j = if j < k then false else (2 * m + 1).testBit (j - k) := fun j => by
    have := Nat.testBit_two_pow_mul_add (2 * m + 1) (i := k) (b := 0) (Nat.two_pow_pos k) j
    rw [Nat.add_zero, ← hm] at this
    rw [this]
    split <;> simp
  have h1 : x - 1 = 2 ^ k * (2 * m) + (2 ^ k - 1) := by
    have := Nat.two_pow_pos k
    rw [hm, Nat.mul_add, Nat.mul_one]
    omega
  have hy : ∀ j, (x - 1).testBit j = if j < k then true else (2 * m).testBit (j - k) := fun j => by
    rw [h1, Nat.testBit_two_pow_mul_add _ (by have := Nat.two_pow_pos k; omega)]
    split
    · rename_i hj
      rw [Nat.testBit_two_pow_sub_one]
      simp [hj]
    · rfl
  refine ⟨hk, ?_, ?_, ?_⟩
  · rw [hx]
    simp [Nat.testBit_zero]
  · intro j hj
    rw [hx]
    simp [hj]
  · intro j
    rw [Nat.testBit_and, hx, hy]
    by_cases hj : j < k
    · simp [hj]
    · by_cases he : j = k
      · subst he
        simp [Nat.testBit_zero]
      · obtain ⟨d, rfl⟩ : ∃ d, j = k + (d + 1) := ⟨j - k - 1, by omega⟩
        have e2 : k + (d + 1) - k = d + 1 := by omega
        rw [if_neg hj, if_neg hj, e2, Nat.testBit_succ, Nat.testBit_succ]
        have e3 : (2 * m + 1) / 2 = m := by omega
        have e4 : 2 * m / 2 = m := by omega
        rw [e3, e4]
        have : decide (k + (d + 1) ≠ k) = true := by simp
        rw [this]
        simp

/-- the bits of the i-th word, as bytes -/
def bitsOf (i x : Nat) : List Nat := ((List.range 64).filter fun j => x.testBit j).map fun j => 64 * i + j
theorem bitsOf_zero (i : Nat) : bitsOf i 0 = [] := by simp [bitsOf]
theorem bitsOf_step (i x : Nat) (h0 : x ≠ 0) (h : x < 18446744073709551616) : bitsOf i x = (64 * i + Lib.ctz 64 x) :: bitsOf i (x &&& (x - 1)) := by
  obtain ⟨hk, h1, h2, h3⟩ := ctz_bits x h0 h
  unfold bitsOf
  rw [filter_first (fun j => x.testBit j) _ h1 h2 64 hk, List.map_cons]
  congr 2
  refine List.filter_congr fun j _ => ?_
  rw [h3]
theorem bitsOf_length (i x : Nat) : (bitsOf i x).length = pop 64 x := by rw [bitsOf, List.length_map, pop_filter]
theorem bits_less (x : Nat) (h0 : x ≠ 0) : x &&& (x - 1) < x := Nat.lt_of_le_of_lt Nat.and_le_right (by omega)

/-! ### sets -/
def elems (f : Nat → Bool) : List Nat := (List.range 256).filter f
theorem elems_congr {f g : Nat → Bool} (h : ∀ n, n < 256 → f n = g n) : elems f = elems g := List.filter_congr fun n hn => h n (List.mem_range.1 hn)
theorem elems_words (f : Nat → Bool) : elems f = bitsOf 0 (word f 0) ++ (bitsOf 1 (word f 1) ++ (bitsOf 2 (word f 2) ++ bitsOf 3 (word f 3))) := by
  have hb : ∀ i, bitsOf i (word f i) = ((List.range 64).filter fun j => f (64 * i + j)).map fun j => 64 * i + j := fun i => by
    unfold bitsOf
    congr 1
    refine List.filter_congr fun j hj => ?_
    rw [word_bit]
    simp [List.mem_range.1 hj]
  have hr : List.range 256 = (List.range 64).map (fun j => 64 * 0 + j) ++ ((List.range 64).map (fun j => 64 * 1 + j) ++ ((List.range 64).map (fun j => 64 * 2 + j) ++ (List.range 64).map (fun j => 64 * 3 + j))) := by decide +kernel
  unfold elems
  rw [hr, List.filter_append, List.filter_append, List.filter_append, hb, hb, hb, hb, List.filter_map, List.filter_map, List.filter_map, List.filter_map]
  rfl
theorem count_words (f : Nat → Bool) : 0 + pop 64 (word f 0) + pop 64 (word f 1) + pop 64 (word f 2) + pop 64 (word f 3) = (elems f).length := by
  rw [elems_words, List.length_append, List.length_append, List.length_append, bitsOf_length, bitsOf_length, bitsOf_length, bitsOf_length]
  omega
theorem mem_elems (f : Nat → Bool) (n : Nat) : n ∈ elems f ↔ n < 256 ∧ f n = true := by simp [elems]
theorem elems_le (f : Nat → Bool) : (elems f).length ≤ 256 := by
  have := List.length_filter_le f (List.range 256)
  simpa [elems] using this
def firstOf (f : Nat → Bool) : Int := match elems f with
  | [] => -1
  | a :: _ => a
theorem firstOf_none {f : Nat → Bool} (h : ∀ n, n < 256 → f n = false) : firstOf f = -1 := by
  have : elems f = [] := by
    rw [elems, List.filter_eq_nil_iff]
    intro a ha
    rw [h a (List.mem_range.1 ha)]
    simp
  simp [firstOf, this]
theorem firstOf_at {f : Nat → Bool} {a : Nat} (ha : a < 256) (h : f a = true) (hlt : ∀ j, j < a → f j = false) : firstOf f = a := by
  have : elems f = a :: _ := filter_first f a h hlt 256 ha
  simp [firstOf, this]
theorem firstOf_word (f : Nat → Bool) (i : Nat) (hi : i < 4) (hz : ∀ j, j < i → word f j = 0) (h0 : word f i ≠ 0) : firstOf f = ((64 * i + Lib.ctz 64 (word f i) : Nat) : Int) := by
  obtain ⟨hk, h1, h2, _⟩ := ctz_bits (word f i) h0 (word_lt f i)
  refine firstOf_at (by omega) ?_ ?_
  · rw [word_bit] at h1
    simpa [hk] using h1
  · intro j hj
    have hb := word_bit f (j / 64) (j % 64)
    have hm : j % 64 < 64 := Nat.mod_lt _ (by decide)
    rw [Nat.div_add_mod] at hb
    simp only [hm, decide_true, Bool.true_and] at hb
    rw [← hb]
    by_cases hji : j / 64 < i
    · rw [hz _ hji]
      simp
    · have e : j / 64 = i := by omega
      rw [e]
      exact h2 _ (by omega)
/-- a set that has something has a least one -/
theorem least (f : Nat → Bool) (h : ¬ ∀ n, n < 256 → f n = false) : ∃ a, a < 256 ∧ f a = true ∧ (∀ j, j < a → f j = false) ∧ firstOf f = a := by
  have key : ∀ n, n ≤ 256 → (∀ m, m < n → f m = false) ∨ ∃ a, a < n ∧ f a = true ∧ ∀ j, j < a → f j = false := by
    intro n
    induction n with
    | zero => exact fun _ => .inl fun m hm => by omega
    | succ n ih =>
      intro hn
      rcases ih (by omega) with h1 | ⟨a, h1, h2, h3⟩
      · cases hf : f n
        · refine .inl fun m hm => ?_
          by_cases e : m = n
          · rw [e, hf]
          · exact h1 m (by omega)
        · exact .inr ⟨n, by omega, hf, h1⟩
      · exact .inr ⟨a, by omega, h2, h3⟩
  rcases key 256 (Nat.le_refl _) with h1 | ⟨a, h1, h2, h3⟩
  · exact absurd h1 h
  · exact ⟨a, h1, h2, h3, firstOf_at h1 h2 h3⟩

/-! ### stretches -/
def lastOf (f : Nat → Bool) : Nat → Nat → Nat
  | 0, b => b
  | n + 1, b => if b < 255 ∧ f (b + 1) = true then lastOf f n (b + 1) else b
theorem lastOf_succ (f : Nat → Bool) (n b : Nat) : lastOf f (n + 1) b = if b < 255 ∧ f (b + 1) = true then lastOf f n (b + 1) else b := rfl
theorem lastOf_step (f : Nat → Bool) : ∀ n b, 255 - b ≤ n → lastOf f n b = lastOf f 255 b := by
  have key : ∀ n b, 255 - b ≤ n → lastOf f (n + 1) b = lastOf f n b := by
    intro n
    induction n with
    | zero =>
      intro b hb
      simp only [lastOf]
      rw [if_neg (by omega)]
    | succ n ih =>
      intro b hb
      rw [lastOf_succ f (n + 1) b, lastOf_succ f n b]
      by_cases c : b < 255 ∧ f (b + 1) = true
      · rw [if_pos c, if_pos c, ih (b + 1) (by omega)]
      · rw [if_neg c, if_neg c]
  have up : ∀ d n b, 255 - b ≤ n → lastOf f (n + d) b = lastOf f n b := by
    intro d
    induction d with
    | zero => exact fun n b _ => rfl
    | succ d ih => exact fun n b hb => by rw [← Nat.add_assoc, key (n + d) b (by omega), ih n b hb]
  intro n b hb
  by_cases h : n ≤ 255
  · have := up (255 - n) n b hb
    rw [show n + (255 - n) = 255 by omega] at this
    exact this.symm
  · have := up (n - 255) 255 b (by omega)
    rw [show 255 + (n - 255) = n by omega] at this
    exact this
/-- the last one of the stretch in which b is -/
def lastR (f : Nat → Bool) (b : Nat) : Nat := lastOf f 255 b
theorem lastR_more {f : Nat → Bool} {b : Nat} (h : b < 255) (hf : f (b + 1) = true) : lastR f b = lastR f (b + 1) := by
  unfold lastR
  rw [← lastOf_step f 256 b (by omega), lastOf_succ f 255 b, if_pos ⟨h, hf⟩]
theorem lastR_end {f : Nat → Bool} {b : Nat} (h : ¬ (b < 255 ∧ f (b + 1) = true)) : lastR f b = b := by
  unfold lastR
  rw [lastOf_succ f 254 b, if_neg h]
theorem lastR_spec (f : Nat → Bool) : ∀ d b, 255 - b ≤ d → b < 256 → f b = true → b ≤ lastR f b ∧ lastR f b < 256 ∧ (∀ n, b ≤ n → n ≤ lastR f b → f n = true) ∧ (lastR f b < 255 → f (lastR f b + 1) = false)
  | d, b, hd, hb, hf => by
    by_cases c : b < 255 ∧ f (b + 1) = true
    · rw [lastR_more c.1 c.2]
      match d, hd with
      | 0, hd => omega
      | d + 1, hd =>
        obtain ⟨h1, h2, h3, h4⟩ := lastR_spec f d (b + 1) (by omega) (by omega) c.2
        refine ⟨by omega, h2, fun n hn hn' => ?_, h4⟩
        by_cases e : n = b
        · rw [e, hf]
        · exact h3 n (by omega) hn'
    · rw [lastR_end c]
      refine ⟨Nat.le_refl _, hb, fun n hn hn' => ?_, fun h => ?_⟩
      · rw [show n = b by omega, hf]
      · cases hg : f (b + 1)
        · rfl
        · exact absurd ⟨h, hg⟩ c
theorem lastR_congr {f g : Nat → Bool} : ∀ d b, 255 - b ≤ d → (∀ n, b < n → n < 256 → f n = g n) → lastR f b = lastR g b
  | d, b, hd, h => by
    by_cases hb : b < 255
    · match d, hd with
      | 0, hd => omega
      | d + 1, hd =>
        have e := h (b + 1) (by omega) (by omega)
        cases hg : g (b + 1)
        · rw [lastR_end (by rw [e, hg]; simp), lastR_end (by rw [hg]; simp)]
        · rw [lastR_more hb (e.trans hg), lastR_more hb hg]
          exact lastR_congr d (b + 1) (by omega) fun n hn hn' => h n (by omega) hn'
    · rw [lastR_end (by omega), lastR_end (by omega)]

def start (f : Nat → Bool) (b : Nat) : Bool := f b && (b == 0 || !f (b - 1))
def runs (f : Nat → Bool) : List (Nat × Nat) := ((List.range 256).filter (start f)).map fun b => (b, lastR f b)
theorem start_congr {f g : Nat → Bool} (h : ∀ n, n < 256 → f n = g n) (n : Nat) (hn : n < 256) : start f n = start g n := by
  unfold start
  rw [h n hn, h (n - 1) (by omega)]
theorem runs_congr {f g : Nat → Bool} (h : ∀ n, n < 256 → f n = g n) : runs f = runs g := by
  unfold runs
  rw [List.filter_congr fun n hn => start_congr h n (List.mem_range.1 hn)]
  exact List.map_congr_left fun b _ => by rw [lastR_congr 255 b (by omega) fun n _ hn => h n hn]
theorem runs_none {f : Nat → Bool} (h : ∀ n, n < 256 → f n = false) : runs f = [] := by
  unfold runs
  rw [List.filter_eq_nil_iff.2, List.map_nil]
  intro a ha
  simp [start, h a (List.mem_range.1 ha)]
/-- a set without the bytes from a to b -/
def without (f : Nat → Bool) (a b : Nat) (n : Nat) : Bool := f n && !(decide (a ≤ n) && decide (n ≤ b))
theorem runs_step (f : Nat → Bool) (a : Nat) (ha : a < 256) (h : f a = true) (hlt : ∀ j, j < a → f j = false) : runs f = (a, lastR f a) :: runs (without f a (lastR f a)) := by
  obtain ⟨h1, h2, h3, h4⟩ := lastR_spec f 255 a (by omega) ha h
  generalize hL : lastR f a = L at *
  have s0 : start f a = true := by
    unfold start
    rw [h]
    by_cases e : a = 0
    · simp [e]
    · rw [hlt (a - 1) (by omega)]
      simp
  have sl : ∀ j, j < a → start f j = false := fun j hj => by simp [start, hlt j hj]
  unfold runs
  rw [filter_first (start f) a s0 sl 256 ha, List.map_cons, hL]
  congr 1
  have e : ∀ n, n < 256 → (start f n && decide (n ≠ a)) = start (without f a L) n := fun n hn => by
    unfold start without
    by_cases c1 : n < a
    · rw [hlt n c1]
      simp
    · by_cases c2 : n ≤ L
      · have t1 : decide (a ≤ n) = true := by simp; omega
        have t2 : decide (n ≤ L) = true := by simp; omega
        rw [h3 n (by omega) c2, t1, t2]
        by_cases e : n = a
        · simp [e]
        · rw [h3 (n - 1) (by omega) (by omega)]
          have : (n == 0) = false := by simp; omega
          simp [this]
      · have t2 : decide (n ≤ L) = false := by simp; omega
        have t3 : decide (n ≠ a) = true := by simp; omega
        rw [t2, t3]
        by_cases e : n = L + 1
        · subst e
          rw [h4 (by omega)]
          simp
        · have t4 : decide (n - 1 ≤ L) = false := by simp; omega
          rw [t4]
          simp
  rw [List.filter_congr fun n hn => e n (List.mem_range.1 hn)]
  refine List.map_congr_left fun b hb => ?_
  have hs := (List.mem_filter.1 hb).2
  have hbL : L < b := by
    unfold start without at hs
    have := List.mem_range.1 (List.mem_filter.1 hb).1
    by_cases c1 : b < a
    · rw [hlt b c1] at hs
      simp at hs
    · by_cases c2 : b ≤ L
      · have t1 : decide (a ≤ b) = true := by simp; omega
        have t2 : decide (b ≤ L) = true := by simp; omega
        rw [t1, t2] at hs
        simp at hs
      · omega
  rw [lastR_congr 255 b (by omega) fun n hn _ => ?_]
  unfold without
  have t2 : decide (n ≤ L) = false := by simp; omega
  rw [t2]
  simp
end Go.Proofs.YtbokhofdgdcpdaaDoor

/- Contract of the list of a set of spots. -/
namespace Go.Proofs.YtbokhofdgdcpdaaDoor
open Go.RowKit

theorem and_pred (x : Nat) (h : x < 18446744073709551616) : bits .and .u64 (x : Int) (IntKind.u64.wrap ((x : Int) - 1)) = ((x &&& (x - 1) : Nat) : Int) := by
  by_cases h0 : x = 0
  · subst h0
    decide
  · have e : IntKind.u64.wrap ((x : Int) - 1) = ((x - 1 : Nat) : Int) := by rw [IntKind.wrap_u64]; omega
    rw [e, u64_and_nat x _ h (by omega)]
/-- the spots of the first k words -/
def upWords (f : Nat → Bool) : Nat → List Nat
  | 0 => []
  | k + 1 => upWords f k ++ bitsOf k (word f k)
theorem upWords_len (f : Nat → Bool) : ∀ k, (upWords f k).length ≤ 64 * k
  | 0 => by simp [upWords]
  | k + 1 => by
    have := upWords_len f k
    have h := bitsOf_length k (word f k)
    have h2 := pop_le 64 (word f k)
    rw [upWords, List.length_append]
    omega
theorem upWords_four (f : Nat → Bool) : upWords f 4 = elems f := by
  rw [elems_words]
  simp [upWords]
def spI (L : List Nat) : List Int := L.map (fun n : Nat => (n : Int))
theorem spI_more (L : List Nat) (m : Nat) : spI (L ++ [m]) = spI L ++ [(m : Int)] := by simp [spI]
theorem spI_len (L : List Nat) : (spI L).length = L.length := by simp [spI]
attribute [irreducible] spI
theorem four_at0 (a b c d : Int) (w : World) : (Instr.index 68 (.agg #[.int .u64 a, .int .u64 b, .int .u64 c, .int .u64 d]) (.int .i64 ((0 : Nat) : Int))).run Tryd.prog w = .ok (.int .u64 a) w := by kernel_rfl
theorem four_at1 (a b c d : Int) (w : World) : (Instr.index 68 (.agg #[.int .u64 a, .int .u64 b, .int .u64 c, .int .u64 d]) (.int .i64 ((1 : Nat) : Int))).run Tryd.prog w = .ok (.int .u64 b) w := by kernel_rfl
theorem four_at2 (a b c d : Int) (w : World) : (Instr.index 68 (.agg #[.int .u64 a, .int .u64 b, .int .u64 c, .int .u64 d]) (.int .i64 ((2 : Nat) : Int))).run Tryd.prog w = .ok (.int .u64 c) w := by kernel_rfl
theorem four_at3 (a b c d : Int) (w : World) : (Instr.index 68 (.agg #[.int .u64 a, .int .u64 b, .int .u64 c, .int .u64 d]) (.int .i64 ((3 : Nat) : Int))).run Tryd.prog w = .ok (.int .u64 d) w := by kernel_rfl
theorem four_at (f : Nat → Bool) (w : World) (k : Nat) (h : k < 4) : (Instr.index 68 (.agg #[.int .u64 (word (f) 0), .int .u64 (word (f) 1), .int .u64 (word (f) 2), .int .u64 (word (f) 3)]) (.int .i64 (k : Int))).run Tryd.prog w = .ok (.int .u64 (word f k)) w := by
  obtain rfl | rfl | rfl | rfl : k = 0 ∨ k = 1 ∨ k = 2 ∨ k = 3 := by omega
  · exact four_at0 _ _ _ _ w
  · exact four_at1 _ _ _ _ w
  · exact four_at2 _ _ _ _ w
  · exact four_at3 _ _ _ _ w
set_option maxHeartbeats 2000000 in
set_option maxRecDepth 100000 in
theorem spList_calls (f : Nat → Bool) (w : World) (ht : Tab w) : Calls Tryd.prog 49 #[(.agg #[.int .u64 (word (f) 0), .int .u64 (word (f) 1), .int .u64 (word (f) 2), .int .u64 (word (f) 3)])] w (RetZ w (spI (elems f))) := by
  have HL := hidden (fun i => word_lt f i)
  have HT0 := hidden ht
  have HA := hidden (fun k (h : k < 4) w => four_at f w k h)
  have HN := hidden (RowZ.nil (w.alloc (.cells #[.int .u64 (word (f) 0), .int .u64 (word (f) 1), .int .u64 (word (f) 2), .int .u64 (word (f) 3)] 68)) w.heap.size)
  have HI0 := hidden (show spI [] = [] by unfold spI; rfl)
  clear ht
  go_enter Tryd.func49, Tryd.ntmps49
  go_wp2
  go_loopw [3, 4, 5, 7] (fun v _ _ i wr => ∃ k : Nat, k ≤ 4 ∧ i = .int .i64 k ∧ RowZ wr w.heap.size v (spI (upWords f k)) ∧ Below w.heap.size w wr) (fun _ _ _ i _ => 4 - (intOf i).toNat)
  case atStart => exact ⟨0, by omega, rfl, by rw [show upWords f 0 = [] from rfl, HI0.out]; exact HN.out, (Below.refl _ _).alloc (Nat.le_refl _) _⟩
  case round =>
    obtain ⟨k, hk, rfl, hG, hb⟩ := hrel
    by_cases hlt : k < 4
    · have hx := HA.out k hlt
      have HG := hidden hG
      have HB := hidden hb
      have hd : decide ((k : Int) < 4) = true := by simp; omega
      clear hG hb
      go_wp2
      obtain ⟨wo, rfl⟩ : ∃ wo : World, wo = wr := ⟨_, rfl⟩
      go_loopw [3, 5] (fun v u wi => ∃ (x : Nat) (L : List Nat), u = .int .u64 x ∧ x < 18446744073709551616 ∧ Hid (L ++ bitsOf k x = upWords f (k + 1)) ∧ RowZ wi w.heap.size v (spI L) ∧ Below w.heap.size w wi) (fun _ u _ => (intOf u).toNat)
      case atStart => exact ⟨_, _, rfl, HL.out k, hidden rfl, HG.out, HB.out⟩
      case round =>
        obtain ⟨x, L, rfl, hxl, hL, hG1, hb1⟩ := hrel
        have HG1 := hidden hG1
        have HB1 := hidden hb1
        have HX := hidden hxl
        have hLl : L.length ≤ 256 := by
          have h1 := upWords_len f (k + 1)
          rw [← hL.out, List.length_append] at h1
          omega
        have hsz := hb1.size
        by_cases hz : x = 0
        · subst hz
          clear hG1 hxl hb1
          go_wp2
          refine ⟨⟨k + 1, by omega, by go_num, ?_, HB1.out⟩, by simp [intOf]; omega⟩
          have e := hL.out
          rw [bitsOf_zero, List.append_nil] at e
          rw [← e]
          exact HG1.out
        · have hnz : ((x : Int) != 0) = true := by simp; omega
          have HST := hidden (bitsOf_step k x hz hxl)
          have hp := and_pred x hxl
          have HLS := hidden (bits_less x hz)
          have HZ0 := hidden hz
          have HP := hidden hp
          have hb64 := (ctz_bits x hz hxl).1
          have HTR := hidden (HT0.out.below (hb1.mono (Nat.le_refl _)))
          have HM := hidden (fun m => spI_more L m)
          have hln := spI_len L
          have hw1 : IntKind.i64.wrap ((k : Int) * 64) = (k : Int) * 64 := by rw [IntKind.wrap_i64]; omega
          clear hG1 hxl hb1 hz hp
          go_wp2_with fail
          refine (tz_calls x _ HX.out HZ0.out HTR.out).mono ?_
          rintro e w' ⟨rfl, rfl⟩
          generalize hc : Lib.ctz 64 x = c at *
          have HCT := hidden hc
          have hw2 : IntKind.i64.wrap ((k : Int) * 64 + (c : Int)) = ((64 * k + c : Nat) : Int) := by rw [IntKind.wrap_i64]; omega
          have HR := hidden (HG1.out.kept ((Below.refl wr.heap.size wr).alloc (Nat.le_refl _) (.cells #[.int .i64 ((64 * k + c : Nat) : Int)] 3)))
          have HBA := hidden (HB1.out.alloc hsz (.cells #[.int .i64 ((64 * k + c : Nat) : Int)] 3))
          clear hc
          go_wp2_with (at_builtin; refine app_z rfl _ _ rfl rfl HR.out rfl (heap_alloc_new wr _) hln (by omega) (by simp; omega) ?_; intro g' c' w3 hr3 hg3 hb3; have HR3 := hidden hr3; have HB3 := hidden (HBA.out.trans hb3); clear hr3 hg3 hb3)
          go_roundw
          case rel =>
            refine ⟨x &&& (x - 1), L ++ [64 * k + c], by rw [HP.out], Nat.lt_trans HLS.out HX.out, ?_, ?_, HB3.out⟩
            · refine hidden ?_
              rw [← hL.out, HST.out, List.append_assoc]
              rfl
            · rw [HM.out]
              exact HR3.out
          case measure =>
            rw [HP.out]
            exact HLS.out
    · have e : k = 4 := by omega
      subst e
      have HG := hidden hG
      have HB := hidden hb
      clear hG hb
      go_wp2
      go_ret
      rw [upWords_four] at HG
      exact ⟨_, rfl, HG.out, HB.out⟩
end Go.Proofs.YtbokhofdgdcpdaaDoor
