/- ElemMath, MaMath, MaRow, put together. -/
import Derived.Test.YtbokhofdgdcpdaaDoorSp10
import Derived.Test.YtbokhofdgdcpdaaDoorSp01
import Derived.Lib.SlicesCompact
import Derived.Laws.OwnMore
import Derived.Lib.SmallJoins
import Derived.Laws.AppendOwn
import Derived.Laws.Rows
/- The elements of a set in their order, its least one, and its stretches: the mathematics, without the program. -/
namespace Go.Proofs.YtbokhofdgdcpdaaDoor

theorem filter_first (p : Nat → Bool) (k : Nat) (hp : p k = true) (hlt : ∀ j, j < k → p j = false) : ∀ n, k < n → (List.range n).filter p = k :: (List.range n).filter (fun j => p j && decide (j ≠ k))
  | 0, h => by omega
  | n + 1, h => by
    rw [List.range_succ, List.filter_append, List.filter_append]
    by_cases e : k = n
    · subst e
      have e1 : (List.range k).filter p = [] := by
        rw [List.filter_eq_nil_iff]
        intro a ha
        rw [hlt a (List.mem_range.1 ha)]
        simp
      have e2 : (List.range k).filter (fun j => p j && decide (j ≠ k)) = [] := by
        rw [List.filter_eq_nil_iff]
        intro a ha
        rw [hlt a (List.mem_range.1 ha)]
        simp
      rw [e1, e2]
      simp [hp]
    · rw [filter_first p k hp hlt n (by omega), List.cons_append]
      congr 2
      have : decide (n ≠ k) = true := by simp; omega
      simp only [List.filter_cons, List.filter_nil, this, Bool.and_true]

/-! ### numbers and their bits -/
theorem ctz_bits (x : Nat) (h0 : x ≠ 0) (h : x < 18446744073709551616) :
    Lib.ctz 64 x < 64 ∧ x.testBit (Lib.ctz 64 x) = true ∧ (∀ j, j < Lib.ctz 64 x → x.testBit j = false) ∧ ∀ j, (x &&& (x - 1)).testBit j = (x.testBit j && decide (j ≠ Lib.ctz 64 x)) := by
  obtain ⟨m, hm, hk⟩ := Lib.ctzFrom_spec 64 x (by omega) h
  have e : Lib.ctz 64 x = Lib.ctzFrom 64 x := by simp [Lib.ctz, h0]
  rw [e]
  generalize Lib.ctzFrom 64 x = k at *
  have hx : ∀ j, x.testBit j = if j < k then false else (2 * m + 1).testBit (j - k) := fun j => by
    have := Nat.testBit_two_pow_mul_add (2 * m + 1) (i := k) (b := 0) (Nat.two_pow_pos k) j
    rw [Nat.add_zero, ← hm] at this
    rw [this]
    split <;> simp
  have h1 : x - 1 = 2 ^ k * (2 * m) + (2 ^ k - 1) := by
    have := Nat.two_pow_pos k
    rw [hm, Nat.mul_add, Nat.mul_one]
    omega
  have hy : ∀ j, (x - 1).testBit j = if j < k then true else (2 * m).testBit (j - k) := fun j => by
    rw [h1, Nat.testBit_two_pow_mul_add _ (by have := Nat.two_pow_pos k; omega)]
    split
    · rename_i hj
      rw [Nat.testBit_two_pow_sub_one]
      simp [hj]
    · rfl
  refine ⟨hk, ?_, ?_, ?_⟩
  · rw [hx]
    simp [Nat.testBit_zero]
  · intro j hj
    rw [hx]
    simp [hj]
  · intro j
    rw [Nat.testBit_and, hx, hy]
    by_cases hj : j < k
    · simp [hj]
    · by_cases he : j = k
      · subst he
        simp [Nat.testBit_zero]
      · obtain ⟨d, rfl⟩ : ∃ d, j = k + (d + 1) := ⟨j - k - 1, by omega⟩
        have e2 : k + (d + 1) - k = d + 1 := by omega
        rw [if_neg hj, if_neg hj, e2, Nat.testBit_succ, Nat.testBit_succ]
        have e3 : (2 * m + 1) / 2 = m := by omega
        have e4 : 2 * m / 2 = m := by omega
        rw [e3, e4]
        have : decide (k + (d + 1) ≠ k) = true := by simp
        rw [this]
        simp

/-- the bits of the i-th word, as bytes -/
def bitsOf (i x : Nat) : List Nat := ((List.range 64).filter fun j => x.testBit j).map fun j => 64 * i + j
theorem bitsOf_zero (i : Nat) : bitsOf i 0 = [] := by simp [bitsOf]
theorem bitsOf_step (i x : Nat) (h0 : x ≠ 0) (h : x < 18446744073709551616) : bitsOf i x = (64 * i + Lib.ctz 64 x) :: bitsOf i (x &&& (x - 1)) := by
  obtain ⟨hk, h1, h2, h3⟩ := ctz_bits x h0 h
  unfold bitsOf
  rw [filter_first (fun j => x.testBit j) _ h1 h2 64 hk, List.map_cons]
  congr 2
  refine List.filter_congr fun j _ => ?_
  rw [h3]
theorem bitsOf_length (i x : Nat) : (bitsOf i x).length = pop 64 x := by rw [bitsOf, List.length_map, pop_filter]
theorem bits_less (x : Nat) (h0 : x ≠ 0) : x &&& (x - 1) < x := Nat.lt_of_le_of_lt Nat.and_le_right (by omega)

/-! ### sets -/
def elems (f : Nat → Bool) : List Nat := (List.range 256).filter f
theorem elems_congr {f g : Nat → Bool} (h : ∀ n, n < 256 → f n = g n) : elems f = elems g := List.filter_congr fun n hn => h n (List.mem_range.1 hn)
theorem elems_words (f : Nat → Bool) : elems f = bitsOf 0 (word f 0) ++ (bitsOf 1 (word f 1) ++ (bitsOf 2 (word f 2) ++ bitsOf 3 (word f 3))) := by
  have hb : ∀ i, bitsOf i (word f i) = ((List.range 64).filter fun j => f (64 * i + j)).map fun j => 64 * i + j := fun i => by
    unfold bitsOf
    congr 1
    refine List.filter_congr fun j hj => ?_
    rw [word_bit]
    simp [List.mem_range.1 hj]
  have hr : List.range 256 = (List.range 64).map (fun j => 64 * 0 + j) ++ ((List.range 64).map (fun j => 64 * 1 + j) ++ ((List.range 64).map (fun j => 64 * 2 + j) ++ (List.range 64).map (fun j => 64 * 3 + j))) := by decide +kernel
  unfold elems
  rw [hr, List.filter_append, List.filter_append, List.filter_append, hb, hb, hb, hb, List.filter_map, List.filter_map, List.filter_map, List.filter_map]
  rfl
theorem count_words (f : Nat → Bool) : 0 + pop 64 (word f 0) + pop 64 (word f 1) + pop 64 (word f 2) + pop 64 (word f 3) = (elems f).length := by
  rw [elems_words, List.length_append, List.length_append, List.length_append, bitsOf_length, bitsOf_length, bitsOf_length, bitsOf_length]
  omega
theorem mem_elems (f : Nat → Bool) (n : Nat) : n ∈ elems f ↔ n < 256 ∧ f n = true := by simp [elems]
theorem elems_le (f : Nat → Bool) : (elems f).length ≤ 256 := by
  have := List.length_filter_le f (List.range 256)
  simpa [elems] using this
def firstOf (f : Nat → Bool) : Int := match elems f with
  | [] => -1
  | a :: _ => a
theorem firstOf_none {f : Nat → Bool} (h : ∀ n, n < 256 → f n = false) : firstOf f = -1 := by
  have : elems f = [] := by
    rw [elems, List.filter_eq_nil_iff]
    intro a ha
    rw [h a (List.mem_range.1 ha)]
    simp
  simp [firstOf, this]
theorem firstOf_at {f : Nat → Bool} {a : Nat} (ha : a < 256) (h : f a = true) (hlt : ∀ j, j < a → f j = false) : firstOf f = a := by
  have : elems f = a :: _ := filter_first f a h hlt 256 ha
  simp [firstOf, this]
theorem firstOf_word (f : Nat → Bool) (i : Nat) (hi : i < 4) (hz : ∀ j, j < i → word f j = 0) (h0 : word f i ≠ 0) : firstOf f = ((64 * i + Lib.ctz 64 (word f i) : Nat) : Int) := by
  obtain ⟨hk, h1, h2, _⟩ := ctz_bits (word f i) h0 (word_lt f i)
  refine firstOf_at (by omega) ?_ ?_
  · rw [word_bit] at h1
    simpa [hk] using h1
  · intro j hj
    have hb := word_bit f (j / 64) (j % 64)
    have hm : j % 64 < 64 := Nat.mod_lt _ (by decide)
    rw [Nat.div_add_mod] at hb
    simp only [hm, decide_true, Bool.true_and] at hb
    rw [← hb]
    by_cases hji : j / 64 < i
    · rw [hz _ hji]
      simp
    · have e : j / 64 = i := by omega
      rw [e]
      exact h2 _ (by omega)
/-- a set that has something has a least one -/
theorem least (f : Nat → Bool) (h : ¬ ∀ n, n < 256 → f n = false) : ∃ a, a < 256 ∧ f a = true ∧ (∀ j, j < a → f j = false) ∧ firstOf f = a := by
  have key : ∀ n, n ≤ 256 → (∀ m, m < n → f m = false) ∨ ∃ a, a < n ∧ f a = true ∧ ∀ j, j < a → f j = false := by
    intro n
    induction n with
    | zero => exact fun _ => .inl fun m hm => by omega
    | succ n ih =>
      intro hn
      rcases ih (by omega) with h1 | ⟨a, h1, h2, h3⟩
      · cases hf : f n
        · refine .inl fun m hm => ?_
          by_cases e : m = n
          · rw [e, hf]
          · exact h1 m (by omega)
        · exact .inr ⟨n, by omega, hf, h1⟩
      · exact .inr ⟨a, by omega, h2, h3⟩
  rcases key 256 (Nat.le_refl _) with h1 | ⟨a, h1, h2, h3⟩
  · exact absurd h1 h
  · exact ⟨a, h1, h2, h3, firstOf_at h1 h2 h3⟩

/-! ### stretches -/
def lastOf (f : Nat → Bool) : Nat → Nat → Nat
  | 0, b => b
  | n + 1, b => if b < 255 ∧ f (b + 1) = true then lastOf f n (b + 1) else b
theorem lastOf_succ (f : Nat → Bool) (n b : Nat) : lastOf f (n + 1) b = if b < 255 ∧ f (b + 1) = true then lastOf f n (b + 1) else b := rfl
theorem lastOf_step (f : Nat → Bool) : ∀ n b, 255 - b ≤ n → lastOf f n b = lastOf f 255 b := by
  have key : ∀ n b, 255 - b ≤ n → lastOf f (n + 1) b = lastOf f n b := by
    intro n
    induction n with
    | zero =>
      intro b hb
      simp only [lastOf]
      rw [if_neg (by omega)]
    | succ n ih =>
      intro b hb
      rw [lastOf_succ f (n + 1) b, lastOf_succ f n b]
      by_cases c : b < 255 ∧ f (b + 1) = true
      · rw [if_pos c, if_pos c, ih (b + 1) (by omega)]
      · rw [if_neg c, if_neg c]
  have up : ∀ d n b, 255 - b ≤ n → lastOf f (n + d) b = lastOf f n b := by
    intro d
    induction d with
    | zero => exact fun n b _ => rfl
    | succ d ih => exact fun n b hb => by rw [← Nat.add_assoc, key (n + d) b (by omega), ih n b hb]
  intro n b hb
  by_cases h : n ≤ 255
  · have := up (255 - n) n b hb
    rw [show n + (255 - n) = 255 by omega] at this
    exact this.symm
  · have := up (n - 255) 255 b (by omega)
    rw [show 255 + (n - 255) = n by omega] at this
    exact this
/-- the last one of the stretch in which b is -/
def lastR (f : Nat → Bool) (b : Nat) : Nat := lastOf f 255 b
theorem lastR_more {f : Nat → Bool} {b : Nat} (h : b < 255) (hf : f (b + 1) = true) : lastR f b = lastR f (b + 1) := by
  unfold lastR
  rw [← lastOf_step f 256 b (by omega), lastOf_succ f 255 b, if_pos ⟨h, hf⟩]
theorem lastR_end {f : Nat → Bool} {b : Nat} (h : ¬ (b < 255 ∧ f (b + 1) = true)) : lastR f b = b := by
  unfold lastR
  rw [lastOf_succ f 254 b, if_neg h]
theorem lastR_spec (f : Nat → Bool) : ∀ d b, 255 - b ≤ d → b < 256 → f b = true → b ≤ lastR f b ∧ lastR f b < 256 ∧ (∀ n, b ≤ n → n ≤ lastR f b → f n = true) ∧ (lastR f b < 255 → f (lastR f b + 1) = false)
  | d, b, hd, hb, hf => by
    by_cases c : b < 255 ∧ f (b + 1) = true
    · rw [lastR_more c.1 c.2]
      match d, hd with
      | 0, hd => omega
      | d + 1, hd =>
        obtain ⟨h1, h2, h3, h4⟩ := lastR_spec f d (b + 1) (by omega) (by omega) c.2
        refine ⟨by omega, h2, fun n hn hn' => ?_, h4⟩
        by_cases e : n = b
        · rw [e, hf]
        · exact h3 n (by omega) hn'
    · rw [lastR_end c]
      refine ⟨Nat.le_refl _, hb, fun n hn hn' => ?_, fun h => ?_⟩
      · rw [show n = b by omega, hf]
      · cases hg : f (b + 1)
        · rfl
        · exact absurd ⟨h, hg⟩ c
theorem lastR_congr {f g : Nat → Bool} : ∀ d b, 255 - b ≤ d → (∀ n, b < n → n < 256 → f n = g n) → lastR f b = lastR g b
  | d, b, hd, h => by
    by_cases hb : b < 255
    · match d, hd with
      | 0, hd => omega
      | d + 1, hd =>
        have e := h (b + 1) (by omega) (by omega)
        cases hg : g (b + 1)
        · rw [lastR_end (by rw [e, hg]; simp), lastR_end (by rw [hg]; simp)]
        · rw [lastR_more hb (e.trans hg), lastR_more hb hg]
          exact lastR_congr d (b + 1) (by omega) fun n hn hn' => h n (by omega) hn'
    · rw [lastR_end (by omega), lastR_end (by omega)]

def start (f : Nat → Bool) (b : Nat) : Bool := f b && (b == 0 || !f (b - 1))
def runs (f : Nat → Bool) : List (Nat × Nat) := ((List.range 256).filter (start f)).map fun b => (b, lastR f b)
theorem start_congr {f g : Nat → Bool} (h : ∀ n, n < 256 → f n = g n) (n : Nat) (hn : n < 256) : start f n = start g n := by
  unfold start
  rw [h n hn, h (n - 1) (by omega)]
theorem runs_congr {f g : Nat → Bool} (h : ∀ n, n < 256 → f n = g n) : runs f = runs g := by
  unfold runs
  rw [List.filter_congr fun n hn => start_congr h n (List.mem_range.1 hn)]
  exact List.map_congr_left fun b _ => by rw [lastR_congr 255 b (by omega) fun n _ hn => h n hn]
theorem runs_none {f : Nat → Bool} (h : ∀ n, n < 256 → f n = false) : runs f = [] := by
  unfold runs
  rw [List.filter_eq_nil_iff.2, List.map_nil]
  intro a ha
  simp [start, h a (List.mem_range.1 ha)]
/-- a set without the bytes from a to b -/
def without (f : Nat → Bool) (a b : Nat) (n : Nat) : Bool := f n && !(decide (a ≤ n) && decide (n ≤ b))
theorem runs_step (f : Nat → Bool) (a : Nat) (ha : a < 256) (h : f a = true) (hlt : ∀ j, j < a → f j = false) : runs f = (a, lastR f a) :: runs (without f a (lastR f a)) := by
  obtain ⟨h1, h2, h3, h4⟩ := lastR_spec f 255 a (by omega) ha h
  generalize hL : lastR f a = L at *
  have s0 : start f a = true := by
    unfold start
    rw [h]
    by_cases e : a = 0
    · simp [e]
    · rw [hlt (a - 1) (by omega)]
      simp
  have sl : ∀ j, j < a → start f j = false := fun j hj => by simp [start, hlt j hj]
  unfold runs
  rw [filter_first (start f) a s0 sl 256 ha, List.map_cons, hL]
  congr 1
  have e : ∀ n, n < 256 → (start f n && decide (n ≠ a)) = start (without f a L) n := fun n hn => by
    unfold start without
    by_cases c1 : n < a
    · rw [hlt n c1]
      simp
    · by_cases c2 : n ≤ L
      · have t1 : decide (a ≤ n) = true := by simp; omega
        have t2 : decide (n ≤ L) = true := by simp; omega
        rw [h3 n (by omega) c2, t1, t2]
        by_cases e : n = a
        · simp [e]
        · rw [h3 (n - 1) (by omega) (by omega)]
          have : (n == 0) = false := by simp; omega
          simp [this]
      · have t2 : decide (n ≤ L) = false := by simp; omega
        have t3 : decide (n ≠ a) = true := by simp; omega
        rw [t2, t3]
        by_cases e : n = L + 1
        · subst e
          rw [h4 (by omega)]
          simp
        · have t4 : decide (n - 1 ≤ L) = false := by simp; omega
          rw [t4]
          simp
  rw [List.filter_congr fun n hn => e n (List.mem_range.1 hn)]
  refine List.map_congr_left fun b hb => ?_
  have hs := (List.mem_filter.1 hb).2
  have hbL : L < b := by
    unfold start without at hs
    have := List.mem_range.1 (List.mem_filter.1 hb).1
    by_cases c1 : b < a
    · rw [hlt b c1] at hs
      simp at hs
    · by_cases c2 : b ≤ L
      · have t1 : decide (a ≤ b) = true := by simp; omega
        have t2 : decide (b ≤ L) = true := by simp; omega
        rw [t1, t2] at hs
        simp at hs
      · omega
  rw [lastR_congr 255 b (by omega) fun n hn _ => ?_]
  unfold without
  have t2 : decide (n ≤ L) = false := by simp; omega
  rw [t2]
  simp
end Go.Proofs.YtbokhofdgdcpdaaDoor

/- Strictly rising lists of numbers: what a merge does with two, what putting a number in makes. Of no program. -/
namespace Go.Proofs.YtbokhofdgdcpdaaDoor

def Up (l : List Int) : Prop := l.Pairwise (· < ·)
theorem up_nil : Up [] := List.Pairwise.nil
theorem up_ext : ∀ {a b : List Int}, Up a → Up b → (∀ x, x ∈ a ↔ x ∈ b) → a = b
  | [], [], _, _, _ => rfl
  | [], y :: b, _, _, h => by have := (h y).2 (by simp); simp at this
  | x :: a, [], _, _, h => by have := (h x).1 (by simp); simp at this
  | x :: a, y :: b, ha, hb, h => by
    have ha' := List.pairwise_cons.1 ha
    have hb' := List.pairwise_cons.1 hb
    have hxy : x = y := by
      have h1 := (h x).1 (by simp)
      have h2 := (h y).2 (by simp)
      simp only [List.mem_cons] at h1 h2
      rcases h1 with e | e
      · exact e
      · rcases h2 with e2 | e2
        · exact e2.symm
        · have := hb'.1 x e
          have := ha'.1 y e2
          omega
    subst hxy
    rw [up_ext ha'.2 hb'.2 fun z => ?_]
    have hz := h z
    simp only [List.mem_cons] at hz
    constructor
    · intro g
      rcases hz.1 (.inr g) with e | e
      · have := ha'.1 z g
        omega
      · exact e
    · intro g
      rcases hz.2 (.inr g) with e | e
      · have := hb'.1 z g
        omega
      · exact e
/-- what a merge does: 0: of the first alone, 1: of both, 2: of the second alone -/
def evs : List Int → List Int → List (Nat × Int)
  | [], b => b.map fun y => (2, y)
  | x :: a, [] => (x :: a).map fun y => (0, y)
  | x :: a, y :: b => if x < y then (0, x) :: evs a (y :: b) else if y < x then (2, y) :: evs (x :: a) b else (1, x) :: evs a b
termination_by a b => a.length + b.length
theorem evs_nil (b : List Int) : evs [] b = b.map fun y => (2, y) := by rw [evs]
theorem evs_none (a : List Int) : evs a [] = a.map fun y => (0, y) := by
  cases a with
  | nil => rw [evs]; rfl
  | cons x a => rw [evs]
theorem evs_lt {x y : Int} (h : x < y) (a b : List Int) : evs (x :: a) (y :: b) = (0, x) :: evs a (y :: b) := by rw [evs, if_pos h]
theorem evs_gt {x y : Int} (h : y < x) (a b : List Int) : evs (x :: a) (y :: b) = (2, y) :: evs (x :: a) b := by rw [evs, if_neg (by omega), if_pos h]
theorem evs_eq (x : Int) (a b : List Int) : evs (x :: a) (x :: b) = (1, x) :: evs a b := by rw [evs, if_neg (by omega), if_neg (by omega)]
/-- where one list is at its end -/
theorem evs_end {a b : List Int} (h : a = [] ∨ b = []) : evs a b = (a.map fun y => (0, y)) ++ b.map fun y => (2, y) := by
  rcases h with rfl | rfl
  · rw [evs_nil]; rfl
  · rw [evs_none]; simp
def Told (a b : List Int) (k : Nat) (x : Int) : Prop := (k = 0 ∧ x ∈ a ∧ x ∉ b) ∨ (k = 1 ∧ x ∈ a ∧ x ∈ b) ∨ (k = 2 ∧ x ∉ a ∧ x ∈ b)
theorem up_cons {x : Int} {a : List Int} : Up (x :: a) ↔ (∀ y ∈ a, x < y) ∧ Up a := List.pairwise_cons
theorem up_map_snd (k : Nat) (a : List Int) : (a.map fun y => (k, y)).map Prod.snd = a := by
  rw [List.map_map]
  exact (List.map_congr_left fun _ _ => rfl).trans (List.map_id a)
theorem evs_facts : ∀ (n : Nat) (a b : List Int), a.length + b.length ≤ n → Up a → Up b → Up ((evs a b).map Prod.snd) ∧ ∀ k x, (k, x) ∈ evs a b ↔ Told a b k x
  | _, [], b, _, _, hb => by
    rw [evs_nil, up_map_snd]
    refine ⟨hb, fun k x => ?_⟩
    simp only [List.mem_map, Prod.mk.injEq, Told, List.not_mem_nil, false_and, and_false, false_or, not_false_eq_true, true_and]
    constructor
    · rintro ⟨y, h, rfl, rfl⟩; exact ⟨rfl, h⟩
    · rintro ⟨rfl, h⟩; exact ⟨x, h, rfl, rfl⟩
  | _, x :: a, [], _, ha, _ => by
    rw [evs_none, up_map_snd]
    refine ⟨ha, fun k z => ?_⟩
    simp only [List.mem_map, Prod.mk.injEq, Told, List.not_mem_nil, and_false, or_false, not_false_eq_true, and_true]
    constructor
    · rintro ⟨y, h, rfl, rfl⟩; exact ⟨rfl, h⟩
    · rintro ⟨rfl, h⟩; exact ⟨z, h, rfl, rfl⟩
  | 0, x :: a, y :: b, h, _, _ => by simp at h
  | n + 1, x :: a, y :: b, h, ha, hb => by
    have ha' := up_cons.1 ha
    have hb' := up_cons.1 hb
    simp only [List.length_cons] at h
    rcases Int.lt_trichotomy x y with hxy | rfl | hxy
    · obtain ⟨i1, i2⟩ := evs_facts n a (y :: b) (by simp only [List.length_cons]; omega) ha'.2 hb
      rw [evs_lt hxy]
      have hlow : ∀ z ∈ y :: b, x < z := fun z hz => by
        rcases List.mem_cons.1 hz with rfl | hz
        · exact hxy
        · have := hb'.1 z hz; omega
      refine ⟨up_cons.2 ⟨fun z hz => ?_, i1⟩, fun k z => ?_⟩
      · obtain ⟨⟨k, w⟩, hm, rfl⟩ := List.mem_map.1 hz
        rcases (i2 k w).1 hm with h1 | h1 | h1
        · exact ha'.1 _ h1.2.1
        · exact ha'.1 _ h1.2.1
        · exact hlow _ h1.2.2
      · have hnx : x ∉ y :: b := fun hm => by have := hlow x hm; omega
        have hna : x ∉ a := fun hm => by have := ha'.1 x hm; omega
        rw [List.mem_cons, i2, Prod.mk.injEq]
        unfold Told
        constructor
        · rintro (⟨rfl, rfl⟩ | h1 | h1 | h1)
          · exact .inl ⟨rfl, by simp, hnx⟩
          · exact .inl ⟨h1.1, List.mem_cons_of_mem _ h1.2.1, h1.2.2⟩
          · exact .inr (.inl ⟨h1.1, List.mem_cons_of_mem _ h1.2.1, h1.2.2⟩)
          · refine .inr (.inr ⟨h1.1, fun hm => ?_, h1.2.2⟩)
            rcases List.mem_cons.1 hm with rfl | hm
            · exact hnx h1.2.2
            · exact h1.2.1 hm
        · rintro (h1 | h1 | h1)
          · rcases List.mem_cons.1 h1.2.1 with rfl | hm
            · exact .inl ⟨h1.1, rfl⟩
            · exact .inr (.inl ⟨h1.1, hm, h1.2.2⟩)
          · rcases List.mem_cons.1 h1.2.1 with rfl | hm
            · exact absurd h1.2.2 hnx
            · exact .inr (.inr (.inl ⟨h1.1, hm, h1.2.2⟩))
          · exact .inr (.inr (.inr ⟨h1.1, fun hm => h1.2.1 (List.mem_cons_of_mem _ hm), h1.2.2⟩))
    · obtain ⟨i1, i2⟩ := evs_facts n a b (by omega) ha'.2 hb'.2
      rw [evs_eq]
      have hna : x ∉ a := fun hm => by have := ha'.1 x hm; omega
      have hnb : x ∉ b := fun hm => by have := hb'.1 x hm; omega
      refine ⟨up_cons.2 ⟨fun z hz => ?_, i1⟩, fun k z => ?_⟩
      · obtain ⟨⟨k, w⟩, hm, rfl⟩ := List.mem_map.1 hz
        rcases (i2 k w).1 hm with h1 | h1 | h1
        · exact ha'.1 _ h1.2.1
        · exact ha'.1 _ h1.2.1
        · exact hb'.1 _ h1.2.2
      · rw [List.mem_cons, i2, Prod.mk.injEq]
        unfold Told
        simp only [List.mem_cons, not_or]
        constructor
        · rintro (⟨rfl, rfl⟩ | h1 | h1 | h1)
          · exact .inr (.inl ⟨rfl, .inl rfl, .inl rfl⟩)
          · exact .inl ⟨h1.1, .inr h1.2.1, fun e => by subst e; exact hna h1.2.1, h1.2.2⟩
          · exact .inr (.inl ⟨h1.1, .inr h1.2.1, .inr h1.2.2⟩)
          · exact .inr (.inr ⟨h1.1, ⟨fun e => by subst e; exact hnb h1.2.2, h1.2.1⟩, .inr h1.2.2⟩)
        · rintro (h1 | h1 | h1)
          · rcases h1.2.1 with e | hm
            · exact absurd e h1.2.2.1
            · exact .inr (.inl ⟨h1.1, hm, h1.2.2.2⟩)
          · by_cases e : z = x
            · exact .inl ⟨h1.1, e⟩
            · exact .inr (.inr (.inl ⟨h1.1, h1.2.1.resolve_left e, h1.2.2.resolve_left e⟩))
          · exact .inr (.inr (.inr ⟨h1.1, h1.2.1.2, h1.2.2.resolve_left h1.2.1.1⟩))
    · obtain ⟨i1, i2⟩ := evs_facts n (x :: a) b (by simp only [List.length_cons]; omega) ha hb'.2
      rw [evs_gt hxy]
      have hlow : ∀ z ∈ x :: a, y < z := fun z hz => by
        rcases List.mem_cons.1 hz with rfl | hz
        · exact hxy
        · have := ha'.1 z hz; omega
      refine ⟨up_cons.2 ⟨fun z hz => ?_, i1⟩, fun k z => ?_⟩
      · obtain ⟨⟨k, w⟩, hm, rfl⟩ := List.mem_map.1 hz
        rcases (i2 k w).1 hm with h1 | h1 | h1
        · exact hlow _ h1.2.1
        · exact hlow _ h1.2.1
        · exact hb'.1 _ h1.2.2
      · have hny : y ∉ x :: a := fun hm => by have := hlow y hm; omega
        have hnb : y ∉ b := fun hm => by have := hb'.1 y hm; omega
        rw [List.mem_cons, i2, Prod.mk.injEq]
        unfold Told
        constructor
        · rintro (⟨rfl, rfl⟩ | h1 | h1 | h1)
          · exact .inr (.inr ⟨rfl, hny, by simp⟩)
          · refine .inl ⟨h1.1, h1.2.1, fun hm => ?_⟩
            rcases List.mem_cons.1 hm with rfl | hm
            · exact hny h1.2.1
            · exact h1.2.2 hm
          · exact .inr (.inl ⟨h1.1, h1.2.1, List.mem_cons_of_mem _ h1.2.2⟩)
          · exact .inr (.inr ⟨h1.1, h1.2.1, List.mem_cons_of_mem _ h1.2.2⟩)
        · rintro (h1 | h1 | h1)
          · exact .inr (.inl ⟨h1.1, h1.2.1, fun hm => h1.2.2 (List.mem_cons_of_mem _ hm)⟩)
          · rcases List.mem_cons.1 h1.2.2 with rfl | hm
            · exact absurd h1.2.1 hny
            · exact .inr (.inr (.inl ⟨h1.1, h1.2.1, hm⟩))
          · rcases List.mem_cons.1 h1.2.2 with rfl | hm
            · exact .inl ⟨h1.1, rfl⟩
            · exact .inr (.inr (.inr ⟨h1.1, h1.2.1, hm⟩))
/-- the events of some kinds -/
def pickV (p : Nat → Bool) (E : List (Nat × Int)) : List Int := (E.filter fun e => p e.1).map Prod.snd
theorem pick_append (p : Nat → Bool) (E F : List (Nat × Int)) : pickV p (E ++ F) = pickV p E ++ pickV p F := by simp [pickV]
theorem pick_up {p : Nat → Bool} {a b : List Int} (ha : Up a) (hb : Up b) : Up (pickV p (evs a b)) :=
  List.Pairwise.sublist ((List.filter_sublist).map Prod.snd) (evs_facts _ a b (Nat.le_refl _) ha hb).1
theorem pick_mem {p : Nat → Bool} {a b : List Int} (ha : Up a) (hb : Up b) (x : Int) : x ∈ pickV p (evs a b) ↔ (p 0 = true ∧ x ∈ a ∧ x ∉ b) ∨ (p 1 = true ∧ x ∈ a ∧ x ∈ b) ∨ (p 2 = true ∧ x ∉ a ∧ x ∈ b) := by
  have h := (evs_facts _ a b (Nat.le_refl _) ha hb).2
  unfold pickV
  constructor
  · intro hx
    obtain ⟨⟨k, z⟩, hm, rfl⟩ := List.mem_map.1 hx
    obtain ⟨h1, h2⟩ := List.mem_filter.1 hm
    rcases (h k z).1 h1 with ⟨rfl, h3⟩ | ⟨rfl, h3⟩ | ⟨rfl, h3⟩
    · exact .inl ⟨h2, h3⟩
    · exact .inr (.inl ⟨h2, h3⟩)
    · exact .inr (.inr ⟨h2, h3⟩)
  · rintro (⟨h1, h2⟩ | ⟨h1, h2⟩ | ⟨h1, h2⟩)
    · exact List.mem_map.2 ⟨(0, x), List.mem_filter.2 ⟨(h 0 x).2 (.inl ⟨rfl, h2⟩), h1⟩, rfl⟩
    · exact List.mem_map.2 ⟨(1, x), List.mem_filter.2 ⟨(h 1 x).2 (.inr (.inl ⟨rfl, h2⟩)), h1⟩, rfl⟩
    · exact List.mem_map.2 ⟨(2, x), List.mem_filter.2 ⟨(h 2 x).2 (.inr (.inr ⟨rfl, h2⟩)), h1⟩, rfl⟩
theorem evs_len : ∀ (n : Nat) (a b : List Int), a.length + b.length ≤ n → (evs a b).length ≤ a.length + b.length
  | _, [], b, _ => by rw [evs_nil]; simp
  | _, x :: a, [], _ => by rw [evs_none]; simp
  | 0, x :: a, y :: b, h => by simp at h
  | n + 1, x :: a, y :: b, h => by
    simp only [List.length_cons] at h
    rcases Int.lt_trichotomy x y with hxy | rfl | hxy
    · have := evs_len n a (y :: b) (by simp only [List.length_cons]; omega)
      rw [evs_lt hxy]
      simp only [List.length_cons] at this ⊢
      omega
    · have := evs_len n a b (by omega)
      rw [evs_eq]
      simp only [List.length_cons]
      omega
    · have := evs_len n (x :: a) b (by simp only [List.length_cons]; omega)
      rw [evs_gt hxy]
      simp only [List.length_cons] at this ⊢
      omega
theorem pick_len (p : Nat → Bool) (E : List (Nat × Int)) : (pickV p E).length ≤ E.length := by
  unfold pickV
  rw [List.length_map]
  exact List.length_filter_le _ _
/-! ### a number more -/
/-- how many stand ahead that are less -/
def lead : List Int → Int → Nat
  | [], _ => 0
  | y :: l, n => if y < n then lead l n + 1 else 0
theorem lead_le : ∀ (l : List Int) (n : Int), lead l n ≤ l.length
  | [], _ => Nat.le_refl _
  | y :: l, n => by
    have := lead_le l n
    simp only [lead, List.length_cons]
    split <;> omega
theorem lead_at : ∀ (l : List Int) (n : Int) (i : Nat), i ≤ lead l n → (i < lead l n ↔ i < l.length ∧ l.getD i 0 < n)
  | [], n, i, h => by simp [lead] at h ⊢
  | y :: l, n, i, h => by
    simp only [lead] at h ⊢
    split
    · rename_i hy
      rw [if_pos hy] at h
      cases i with
      | zero => simp [hy]
      | succ i =>
        have := lead_at l n i (by omega)
        simp only [List.length_cons, List.getD_cons_succ]
        omega
    · rename_i hy
      rw [if_neg hy] at h
      obtain rfl : i = 0 := by omega
      simp [hy]
def putV (l : List Int) (n : Int) : List Int := if n ∈ l then l else l.take (lead l n) ++ n :: l.drop (lead l n)
theorem put_cons (y n : Int) (l : List Int) (h : y < n) : putV (y :: l) n = y :: putV l n := by
  unfold putV
  have hne : n ≠ y := by omega
  simp only [List.mem_cons, hne, false_or, lead, if_pos h]
  split <;> simp
theorem put_facts : ∀ {l : List Int} {n : Int}, Up l → Up (putV l n) ∧ ∀ x, x ∈ putV l n ↔ x = n ∨ x ∈ l
  | [], n, _ => by simp [putV, lead, Up]
  | y :: l, n, hu => by
    have hu' := up_cons.1 hu
    by_cases h : y < n
    · obtain ⟨i1, i2⟩ := put_facts (n := n) hu'.2
      rw [put_cons y n l h]
      refine ⟨up_cons.2 ⟨fun z hz => ?_, i1⟩, fun x => ?_⟩
      · rcases (i2 z).1 hz with rfl | hz
        · exact h
        · exact hu'.1 z hz
      · rw [List.mem_cons, i2, List.mem_cons]
        constructor
        · rintro (h | h | h)
          · exact .inr (.inl h)
          · exact .inl h
          · exact .inr (.inr h)
        · rintro (h | h | h)
          · exact .inr (.inl h)
          · exact .inl h
          · exact .inr (.inr h)
    · unfold putV
      split
      · rename_i hm
        refine ⟨hu, fun x => ⟨fun h => .inr h, fun h => ?_⟩⟩
        rcases h with rfl | h
        · exact hm
        · exact h
      · rename_i hm
        have hne : n ≠ y := fun e => hm (by simp [e])
        simp only [lead, if_neg h, List.take_zero, List.drop_zero, List.nil_append]
        refine ⟨up_cons.2 ⟨fun z hz => ?_, hu⟩, fun x => by simp⟩
        rcases List.mem_cons.1 hz with rfl | hz
        · omega
        · have := hu'.1 z hz
          omega
theorem put_len (l : List Int) (n : Int) : (putV l n).length ≤ l.length + 1 := by
  unfold putV
  split
  · omega
  · have := lead_le l n
    simp
    omega
def putsV (l m : List Int) : List Int := m.foldl putV l
theorem puts_facts : ∀ (m : List Int) {l : List Int}, Up l → Up (putsV l m) ∧ ∀ x, x ∈ putsV l m ↔ x ∈ l ∨ x ∈ m
  | [], l, h => ⟨h, by simp [putsV]⟩
  | n :: m, l, h => by
    obtain ⟨h1, h2⟩ := put_facts (n := n) h
    obtain ⟨i1, i2⟩ := puts_facts m h1
    refine ⟨i1, fun x => ?_⟩
    have := i2 x
    unfold putsV at this ⊢
    rw [List.foldl_cons, this, h2, List.mem_cons]
    constructor
    · rintro ((h | h) | h)
      · exact .inr (.inl h)
      · exact .inl h
      · exact .inr (.inr h)
    · rintro (h | h | h)
      · exact .inl (.inr h)
      · exact .inl (.inl h)
      · exact .inr h
theorem puts_take (l m : List Int) (i : Nat) (h : i < m.length) : putsV l (m.take (i + 1)) = putV (putsV l (m.take i)) (m.getD i 0) := by
  unfold putsV
  rw [List.take_succ_eq_append_getElem h, List.foldl_append, List.getD_eq_getElem?_getD, List.getElem?_eq_getElem h]
  rfl
theorem puts_len : ∀ (m l : List Int), (putsV l m).length ≤ l.length + m.length
  | [], l => by simp [putsV]
  | n :: m, l => by
    have h1 := puts_len m (putV l n)
    have h2 := put_len l n
    unfold putsV at h1 ⊢
    rw [List.foldl_cons, List.length_cons]
    omega
/-- all numbers of a list, rising -/
def ofV (l : List Int) : List Int := putsV [] l
theorem of_facts (l : List Int) : Up (ofV l) ∧ ∀ x, x ∈ ofV l ↔ x ∈ l := by
  obtain ⟨h1, h2⟩ := puts_facts l up_nil
  exact ⟨h1, fun x => by rw [show ofV l = putsV [] l from rfl, h2]; simp⟩
theorem of_self {l : List Int} (h : Up l) : ofV l = l := up_ext (of_facts l).1 h (of_facts l).2
/-- those of a that are in b, or are not -/
def keptV (a b : List Int) (c : Bool) : List Int := a.filter fun x => decide (x ∈ b) == c
theorem kept_up {a : List Int} (h : Up a) (b : List Int) (c : Bool) : Up (keptV a b c) := List.Pairwise.sublist List.filter_sublist h
theorem union_eq {a b : List Int} (ha : Up a) (hb : Up b) : pickV (fun _ => true) (evs a b) = putsV (ofV a) b := by
  obtain ⟨h1, h2⟩ := puts_facts b (of_facts a).1
  refine up_ext (pick_up ha hb) h1 fun x => ?_
  rw [pick_mem ha hb, h2, (of_facts a).2]
  by_cases h3 : x ∈ a <;> by_cases h4 : x ∈ b <;> simp [h3, h4]
theorem common_eq {a b : List Int} (ha : Up a) (hb : Up b) : pickV (fun k => k == 1) (evs a b) = keptV a b true := by
  refine up_ext (pick_up ha hb) (kept_up ha b true) fun x => ?_
  rw [pick_mem ha hb]
  simp [keptV]
theorem less_eq {a b : List Int} (ha : Up a) (hb : Up b) : pickV (fun k => k == 0) (evs a b) = keptV a b false := by
  refine up_ext (pick_up ha hb) (kept_up ha b false) fun x => ?_
  rw [pick_mem ha hb]
  simp [keptV]
end Go.Proofs.YtbokhofdgdcpdaaDoor

/- Slices of numbers: what they read as; rows of the call's own; contracts of the reference's Has, Right and Same. -/
namespace Go.Proofs.YtbokhofdgdcpdaaDoor
open Go.RowKit Go.Lib Go.Joins

theorem infoInt : (Tryd.prog.info? 3).map (fun i => (i.zero, i.size, i.bytes)) = some (some (.int .i64 0), 1, 8) := by kernel_rfl
/-- slice value v reads as these numbers, in a block that stands below B -/
def RdZ (B : Nat) (w : World) (v : Value) (l : List Int) : Prop := ∃ a cap, v = .slice a l.length cap ∧ l.length ≤ cap ∧ cap ≤ maxLen ∧ (a = none → cap = 0) ∧ (0 < l.length → ∃ b off, a = some ⟨b, off, none⟩ ∧ b < B ∧ ∀ i, i < l.length → w.cell? ⟨b, off + i, none⟩ = some (.int .i64 (l.getD i 0)))
theorem RdZ.below {B B' : Nat} {w w' : World} {v : Value} {l : List Int} (h : RdZ B w v l) (hb : Below B w w') (hB : B ≤ B') : RdZ B' w' v l := by
  obtain ⟨a, cap, rfl, h1, h2, h3, h4⟩ := h
  refine ⟨a, cap, rfl, h1, h2, h3, fun hp => ?_⟩
  obtain ⟨b, off, e, hlt, hc⟩ := h4 hp
  exact ⟨b, off, e, by omega, fun i hi => (hb.cell (p := ⟨b, off + i, none⟩) hlt).trans (hc i hi)⟩
theorem RdZ.later {w w' : World} {v : Value} {l : List Int} (h : RdZ w.heap.size w v l) (hb : Below w.heap.size w w') : RdZ w'.heap.size w' v l := h.below hb hb.size
theorem RdZ.form {B : Nat} {w : World} {v : Value} {l : List Int} (h : RdZ B w v l) : ∃ a cap, v = .slice a l.length cap := by
  obtain ⟨a, cap, rfl, _⟩ := h
  exact ⟨a, cap, rfl⟩
/-- slice value v owns these numbers, in a block from base on -/
def RowZ (w : World) (base : Nat) (v : Value) (l : List Int) : Prop := w.ownsRow base 3 1 v l.length (l.map (Value.int .i64))
theorem RowZ.nil (w : World) (base : Nat) : RowZ w base (.slice none 0 0) [] := World.ownsRow_nil _ _ _ _
theorem RowZ.lit (w : World) (b : Nat) (hb : b = w.heap.size) (cur : Array Value) (hc : cur = #[]) : RowZ (w.alloc (.cells cur 3)) w.heap.size (.slice (some ⟨b, 0, none⟩) 0 0) [] := by
  subst hb hc
  exact World.ownsRow_lit (e := 3) (size := 1) w #[] 0 (Nat.le_refl _) (by decide) rfl
theorem RowZ.kept {w w' : World} {base : Nat} {v : Value} {l : List Int} (h : RowZ w base v l) (hb : Below w.heap.size w w') : RowZ w' base v l :=
  World.ownsRow.kept (row := none) h ⟨hb.os, hb.tape, hb.output, hb.size, fun k hk _ => hb.block k hk⟩ (by cases v.ownBlock <;> simp)
theorem RowZ.lower {w : World} {base base' : Nat} {v : Value} {l : List Int} (h : RowZ w base v l) (hb : base' ≤ base) : RowZ w base' v l := ownsRow_le h hb
theorem RowZ.form {w : World} {base : Nat} {v : Value} {l : List Int} (h : RowZ w base v l) : ∃ a cap, v = .slice a l.length cap := by
  rcases ownsRow_forms h with ⟨rfl, h0⟩ | ⟨g, cap, rfl⟩
  · exact ⟨none, 0, by rw [h0]⟩
  · exact ⟨_, _, rfl⟩
theorem RowZ.reads {w : World} {base : Nat} {v : Value} {l : List Int} (h : RowZ w base v l) : RdZ w.heap.size w v l := by
  have h' := h
  rcases h.2 with ⟨rfl, h0⟩ | ⟨g, cap, cur, rfl, hb, hg, h1, h2, h3, h4⟩
  · exact ⟨none, 0, by rw [h0], by omega, by decide, fun _ => rfl, fun hp => by omega⟩
  · refine ⟨some ⟨g, 0, none⟩, cap, rfl, h1, h2, (fun e => by cases e), fun _ => ⟨g, 0, rfl, (Array.getElem?_eq_some_iff.1 hg).1, fun i hi => ?_⟩⟩
    rw [Nat.zero_add, World.ownsRow.cellAt h' i (by omega), List.getElem?_map, List.getD_eq_getElem?_getD, List.getElem?_eq_getElem hi]
    rfl
def RetZ (w : World) (l : List Int) (e : Ending) (w' : World) : Prop := ∃ v, e = .returned v ∧ RowZ w' w.heap.size v l ∧ Below w.heap.size w w'
/-- an append of one number -/
theorem app_z {w : World} {ops : Array Oper} {rest : List Oper} {o : Oper} {a : Act} {Q : Exit → Act → World → Prop} (hgd : o.guard = none) (s x : Operand)
    (ho : o.op = .call { callee := .builtin .append, args := #[s, x], argTypes := #[30, 30] }) {base xb : Nat} {z : Int} {v : Value} {l : List Int}
    (hs : a.eval s = v) (hown : RowZ w base v l) (hx : a.eval x = .slice (some ⟨xb, 0, none⟩) 1 1) (hxb : w.heap[xb]? = some (.cells #[.int .i64 z] 3 (0, 0))) {n : Nat} (hn : l.length = n) (hn2 : n ≤ 100000) (hb0 : base ≤ w.heap.size)
    (h : ∀ g' c' w', RowZ w' base (.slice (some ⟨g', 0, none⟩) (n + 1) c') (l ++ [z]) → w.grownBy w' v.ownBlock → Below base w w' → wpList Tryd.prog ops Q rest (a.put o.dst (.slice (some ⟨g', 0, none⟩) (n + 1) c')) w') : wpList Tryd.prog ops Q (o :: rest) a w := by
  subst hn
  obtain ⟨i0, hi, hz0, hz1, hz2⟩ := info_parts infoInt
  refine wpList_append_own w hgd s x 30 ho base 3 i0 _ 1 8 Tryd.underlying30 hi hz0 hz1 hz2 rfl (by decide) _ l.length (l.map (Value.int .i64)) hs hown ⟨xb, 0, none⟩ 1 1 [.int .i64 z] hx rfl (fun j x hj => ?_) (fun x hx => by simp at hx; subst hx; rfl) (by unfold maxLen; omega) (by omega) hb0 fun v' w' h3 h4 _ => ?_
  · match j, hj with
    | 0, hj =>
      simp only [List.getElem?_cons_zero, Option.some.injEq] at hj
      subst hj
      rw [Addr.add_lit, cell_of_row w xb _ _ _ _ hxb]
      rfl
  · have hb : Below base w w' := (Below.refl base w).grown h4 hb0 fun k e => (hown.lt k e).1
    rcases ownsRow_forms h3 with ⟨_, h0⟩ | ⟨g, c, rfl⟩
    · omega
    · exact h g c w' (by unfold RowZ; simpa using h3) h4 hb
/-- does a list rise? -/
instance (l : List Int) : Decidable (Up l) := by unfold Up; infer_instance
end Go.Proofs.YtbokhofdgdcpdaaDoor
