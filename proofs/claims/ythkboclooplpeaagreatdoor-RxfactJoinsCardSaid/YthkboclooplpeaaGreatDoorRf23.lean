/- SetFirst, ElemMath, put together. -/
import Derived.Test.YthkboclooplpeaaGreatDoorRf22
import Derived.Test.YthkboclooplpeaaGreatDoorRf16
/- Contract of Count. -/
namespace Go.Proofs.YthkboclooplpeaaGreatDoor
open Go.RowKit

theorem count_calls (f : Nat → Bool) (w : World) :
    Calls Tryz.prog 123 #[(.agg #[.int .u64 (word (f) 0), .int .u64 (word (f) 1), .int .u64 (word (f) 2), .int .u64 (word (f) 3)])] w fun e w' => e = .returned (.int .i64 (0 + pop 64 (word f 0) + pop 64 (word f 1) + pop 64 (word f 2) + pop 64 (word f 3) : Nat)) ∧ Below w.heap.size w w' := by
  have p0 := pop_le 64 (word f 0)
  have p1 := pop_le 64 (word f 1)
  have p2 := pop_le 64 (word f 2)
  have p3 := pop_le 64 (word f 3)
  have HL := hidden (fun i => word_lt f i)
  go_enter Tryz.func123, Tryz.ntmps123
  go_wp2
  refine wp_loop_rounds 5 ?_
  iterate 4
    rw [rounds_succ]
    go_wp2_with fail
    refine (ones_calls _ _ (HL.out _)).mono ?_
    rintro e w' ⟨rfl, rfl⟩
    go_wp2
  rw [rounds_succ]
  go_wp2
  go_ret
  refine ⟨ret_i ?_, by go_grown⟩
  simp

end Go.Proofs.YthkboclooplpeaaGreatDoor

/- The elements of a set in their order, its least one, and its stretches: the mathematics, without the program. -/
namespace Go.Proofs.YthkboclooplpeaaGreatDoor

theorem filter_first (p : Nat → Bool) (k : Nat) (hp : p k = true) (hlt : ∀ j, j < k → p j = false) : ∀ n, k < n → (List.range n).filter p = k :: (List.range n).filter (fun j => p j && decide (j ≠ k))
  | 0, h => by omega
  | n + 1, h => by
    rw [List.range_succ, List.filter_append, List.filter_append]
    by_cases e : k = n
    · subst e
      have e1 : (List.range k).filter p = [] := by
        rw [List.filter_eq_nil_iff]
        intro a ha
        rw [hlt a (List.mem_range.1 ha)]
        simp
      have e2 : (List.range k).filter (fun j => p j && decide (j ≠ k)) = [] := by
        rw [List.filter_eq_nil_iff]
        intro a ha
        rw [hlt a (List.mem_range.1 ha)]
        simp
      rw [e1, e2]
      simp [hp]
    · rw [filter_first p k hp hlt n (by omega), List.cons_append]
      congr 2
      have : decide (n ≠ k) = true := by simp; omega
      simp only [List.filter_cons, List.filter_nil, this, Bool.and_true]

/-! ### numbers and their bits -/
theorem ctz_bits (x : Nat) (h0 : x ≠ 0) (h : x < 18446744073709551616) :
    Lib.ctz 64 x < 64 ∧ x.testBit (Lib.ctz 64 x) = true ∧ (∀ j, j < Lib.ctz 64 x → x.testBit j = false) ∧ ∀ j, (x &&& (x - 1)).testBit j = (x.testBit j && decide (j ≠ Lib.ctz 64 x)) := by
  obtain ⟨m, hm, hk⟩ := Lib.ctzFrom_spec 64 x (by omega) h
  have e : Lib.ctz 64 x = Lib.ctzFrom 64 x := by simp [Lib.ctz, h0]
  rw [e]
  generalize Lib.ctzFrom 64 x = k at *
  have hx : ∀ j, x.testBit j = if j < k then false else (2 * m + 1).testBit (j - k) := fun j => by
    have := Nat.testBit_two_pow_mul_add (2 * m + 1) (i := k) (b := 0) (Nat.two_pow_pos k) j
    rw [Nat.add_zero, ← hm] at this
    rw [this]
    split <;> simp
  have h1 : x - 1 = 2 ^ k * (2 * m) + (2 ^ k - 1) := by
    have := Nat.two_pow_pos k
    rw [hm, Nat.mul_add, Nat.mul_one]
    omega
  have hy : ∀ j, (x - 1).testBit j = if j < k then true else (2 * m).testBit (j - k) := fun j => by
    rw [h1, Nat.testBit_two_pow_mul_add _ (by have := Nat.two_pow_pos k; omega)]
    split
    · rename_i hj
      rw [Nat.testBit_two_pow_sub_one]
      simp [hj]
    · rfl
  refine ⟨hk, ?_, ?_, ?_⟩
  · rw [hx]
    simp [Nat.testBit_zero]
  · intro j hj
    rw [hx]
    simp [hj]
  · intro j
    rw [Nat.testBit_and, hx, hy]
    by_cases hj : j < k
    · simp [hj]
    · by_cases he : j = k
      · subst he
        simp [Nat.testBit_zero]
      · obtain ⟨d, rfl⟩ : ∃ d, j = k + (d + 1) := ⟨j - k - 1, by omega⟩
        have e2 : k + (d + 1) - k = d + 1 := by omega
        rw [if_neg hj, if_neg hj, e2, Nat.testBit_succ, Nat.testBit_succ]
        have e3 : (2 * m + 1) / 2 = m := by omega
        have e4 : 2 * m / 2 = m := by omega
        rw [e3, e4]
        have : decide (k + (d + 1) ≠ k) = true := by simp
        rw [this]
        simp

/-- the bits of the i-th word, as bytes -/
def bitsOf (i x : Nat) : List Nat := ((List.range 64).filter fun j => x.testBit j).map fun j => 64 * i + j
theorem bitsOf_zero (i : Nat) : bitsOf i 0 = [] := by simp [bitsOf]
theorem bitsOf_step (i x : Nat) (h0 : x ≠ 0) (h : x < 18446744073709551616) : bitsOf i x = (64 * i + Lib.ctz 64 x) :: bitsOf i (x &&& (x - 1)) := by
  obtain ⟨hk, h1, h2, h3⟩ := ctz_bits x h0 h
  unfold bitsOf
  rw [filter_first (fun j => x.testBit j) _ h1 h2 64 hk, List.map_cons]
  congr 2
  refine List.filter_congr fun j _ => ?_
  rw [h3]
theorem bitsOf_length (i x : Nat) : (bitsOf i x).length = pop 64 x := by rw [bitsOf, List.length_map, pop_filter]
theorem bits_less (x : Nat) (h0 : x ≠ 0) : x &&& (x - 1) < x := Nat.lt_of_le_of_lt Nat.and_le_right (by omega)

/-! ### sets -/
def elems (f : Nat → Bool) : List Nat := (List.range 256).filter f
theorem elems_congr {f g : Nat → Bool} (h : ∀ n, n < 256 → f n = g n) : elems f = elems g := List.filter_congr fun n hn => h n (List.mem_range.1 hn)
theorem elems_words (f : Nat → Bool) : elems f = bitsOf 0 (word f 0) ++ (bitsOf 1 (word f 1) ++ (bitsOf 2 (word f 2) ++ bitsOf 3 (word f 3))) := by
  have hb : ∀ i, bitsOf i (word f i) = ((List.range 64).filter fun j => f (64 * i + j)).map fun j => 64 * i + j := fun i => by
    unfold bitsOf
    congr 1
    refine List.filter_congr fun j hj => ?_
    rw [word_bit]
    simp [List.mem_range.1 hj]
  have hr : List.range 256 = (List.range 64).map (fun j => 64 * 0 + j) ++ ((List.range 64).map (fun j => 64 * 1 + j) ++ ((List.range 64).map (fun j => 64 * 2 + j) ++ (List.range 64).map (fun j => 64 * 3 + j))) := by decide +kernel
  unfold elems
  rw [hr, List.filter_append, List.filter_append, List.filter_append, hb, hb, hb, hb, List.filter_map, List.filter_map, List.filter_map, List.filter_map]
  rfl
theorem count_words (f : Nat → Bool) : 0 + pop 64 (word f 0) + pop 64 (word f 1) + pop 64 (word f 2) + pop 64 (word f 3) = (elems f).length := by
  rw [elems_words, List.length_append, List.length_append, List.length_append, bitsOf_length, bitsOf_length, bitsOf_length, bitsOf_length]
  omega
theorem mem_elems (f : Nat → Bool) (n : Nat) : n ∈ elems f ↔ n < 256 ∧ f n = true := by simp [elems]
theorem elems_le (f : Nat → Bool) : (elems f).length ≤ 256 := by
  have := List.length_filter_le f (List.range 256)
  simpa [elems] using this
def firstOf (f : Nat → Bool) : Int := match elems f with
  | [] => -1
  | a :: _ => a
theorem firstOf_none {f : Nat → Bool} (h : ∀ n, n < 256 → f n = false) : firstOf f = -1 := by
  have : elems f = [] := by
    rw [elems, List.filter_eq_nil_iff]
    intro a ha
    rw [h a (List.mem_range.1 ha)]
    simp
  simp [firstOf, this]
theorem firstOf_at {f : Nat → Bool} {a : Nat} (ha : a < 256) (h : f a = true) (hlt : ∀ j, j < a → f j = false) : firstOf f = a := by
  have : elems f = a :: _ := filter_first f a h hlt 256 ha
  simp [firstOf, this]
theorem firstOf_word (f : Nat → Bool) (i : Nat) (hi : i < 4) (hz : ∀ j, j < i → word f j = 0) (h0 : word f i ≠ 0) : firstOf f = ((64 * i + Lib.ctz 64 (word f i) : Nat) : Int) := by
  obtain ⟨hk, h1, h2, _⟩ := ctz_bits (word f i) h0 (word_lt f i)
  refine firstOf_at (by omega) ?_ ?_
  · rw [word_bit] at h1
    simpa [hk] using h1
  · intro j hj
    have hb := word_bit f (j / 64) (j % 64)
    have hm : j % 64 < 64 := Nat.mod_lt _ (by decide)
    rw [Nat.div_add_mod] at hb
    simp only [hm, decide_true, Bool.true_and] at hb
    rw [← hb]
    by_cases hji : j / 64 < i
    · rw [hz _ hji]
      simp
    · have e : j / 64 = i := by omega
      rw [e]
      exact h2 _ (by omega)
/-- a set that has something has a least one -/
theorem least (f : Nat → Bool) (h : ¬ ∀ n, n < 256 → f n = false) : ∃ a, a < 256 ∧ f a = true ∧ (∀ j, j < a → f j = false) ∧ firstOf f = a := by
  have key : ∀ n, n ≤ 256 → (∀ m, m < n → f m = false) ∨ ∃ a, a < n ∧ f a = true ∧ ∀ j, j < a → f j = false := by
    intro n
    induction n with
    | zero => exact fun _ => .inl fun m hm => by omega
    | succ n ih =>
      intro hn
      rcases ih (by omega) with h1 | ⟨a, h1, h2, h3⟩
      · cases hf : f n
        · refine .inl fun m hm => ?_
          by_cases e : m = n
          · rw [e, hf]
          · exact h1 m (by omega)
        · exact .inr ⟨n, by omega, hf, h1⟩
      · exact .inr ⟨a, by omega, h2, h3⟩
  rcases key 256 (Nat.le_refl _) with h1 | ⟨a, h1, h2, h3⟩
  · exact absurd h1 h
  · exact ⟨a, h1, h2, h3, firstOf_at h1 h2 h3⟩

/-! ### stretches -/
def lastOf (f : Nat → Bool) : Nat → Nat → Nat
  | 0, b => b
  | n + 1, b => if b < 255 ∧ f (b + 1) = true then lastOf f n (b + 1) else b
theorem lastOf_succ (f : Nat → Bool) (n b : Nat) : lastOf f (n + 1) b = if b < 255 ∧ f (b + 1) = true then lastOf f n (b + 1) else b := rfl
theorem lastOf_step (f : Nat → Bool) : ∀ n b, 255 - b ≤ n → lastOf f n b = lastOf f 255 b := by
  have key : ∀ n b, 255 - b ≤ n → lastOf f (n + 1) b = lastOf f n b := by
    intro n
    induction n with
    | zero =>
      intro b hb
      simp only [lastOf]
      rw [if_neg (by omega)]
    | succ n ih =>
      intro b hb
      rw [lastOf_succ f (n + 1) b, lastOf_succ f n b]
      by_cases c : b < 255 ∧ f (b + 1) = true
      · rw [if_pos c, if_pos c, ih (b + 1) (by omega)]
      · rw [if_neg c, if_neg c]
  have up : ∀ d n b, 255 - b ≤ n → lastOf f (n + d) b = lastOf f n b := by
    intro d
    induction d with
    | zero => exact fun n b _ => rfl
    | succ d ih => exact fun n b hb => by rw [← Nat.add_assoc, key (n + d) b (by omega), ih n b hb]
  intro n b hb
  by_cases h : n ≤ 255
  · have := up (255 - n) n b hb
    rw [show n + (255 - n) = 255 by omega] at this
    exact this.symm
  · have := up (n - 255) 255 b (by omega)
    rw [show 255 + (n - 255) = n by omega] at this
    exact this
/-- the last one of the stretch in which b is -/
def lastR (f : Nat → Bool) (b : Nat) : Nat := lastOf f 255 b
theorem lastR_more {f : Nat → Bool} {b : Nat} (h : b < 255) (hf : f (b + 1) = true) : lastR f b = lastR f (b + 1) := by
  unfold lastR
  rw [← lastOf_step f 256 b (by omega), lastOf_succ f 255 b, if_pos ⟨h, hf⟩]
theorem lastR_end {f : Nat → Bool} {b : Nat} (h : ¬ (b < 255 ∧ f (b + 1) = true)) : lastR f b = b := by
  unfold lastR
  rw [lastOf_succ f 254 b, if_neg h]
theorem lastR_spec (f : Nat → Bool) : ∀ d b, 255 - b ≤ d → b < 256 → f b = true → b ≤ lastR f b ∧ lastR f b < 256 ∧ (∀ n, b ≤ n → n ≤ lastR f b → f n = true) ∧ (lastR f b < 255 → f (lastR f b + 1) = false)
  | d, b, hd, hb, hf => by
    by_cases c : b < 255 ∧ f (b + 1) = true
    · rw [lastR_more c.1 c.2]
      match d, hd with
      | 0, hd => omega
      | d + 1, hd =>
        obtain ⟨h1, h2, h3, h4⟩ := lastR_spec f d (b + 1) (by omega) (by omega) c.2
        refine ⟨by omega, h2, fun n hn hn' => ?_, h4⟩
        by_cases e : n = b
        · rw [e, hf]
        · exact h3 n (by omega) hn'
    · rw [lastR_end c]
      refine ⟨Nat.le_refl _, hb, fun n hn hn' => ?_, fun h => ?_⟩
      · rw [show n = b by omega, hf]
      · cases hg : f (b + 1)
        · rfl
        · exact absurd ⟨h, hg⟩ c
theorem lastR_congr {f g : Nat → Bool} : ∀ d b, 255 - b ≤ d → (∀ n, b < n → n < 256 → f n = g n) → lastR f b = lastR g b
  | d, b, hd, h => by
    by_cases hb : b < 255
    · match d, hd with
      | 0, hd => omega
      | d + 1, hd =>
        have e := h (b + 1) (by omega) (by omega)
        cases hg : g (b + 1)
        · rw [lastR_end (by rw [e, hg]; simp), lastR_end (by rw [hg]; simp)]
        · rw [lastR_more hb (e.trans hg), lastR_more hb hg]
          exact lastR_congr d (b + 1) (by omega) fun n hn hn' => h n (by omega) hn'
    · rw [lastR_end (by omega), lastR_end (by omega)]

def start (f : Nat → Bool) (b : Nat) : Bool := f b && (b == 0 || !f (b - 1))
def runs (f : Nat → Bool) : List (Nat × Nat) := ((List.range 256).filter (start f)).map fun b => (b, lastR f b)
theorem start_congr {f g : Nat → Bool} (h : ∀ n, n < 256 → f n = g n) (n : Nat) (hn : n < 256) : start f n = start g n := by
  unfold start
  rw [h n hn, h (n - 1) (by omega)]
theorem runs_congr {f g : Nat → Bool} (h : ∀ n, n < 256 → f n = g n) : runs f = runs g := by
  unfold runs
  rw [List.filter_congr fun n hn => start_congr h n (List.mem_range.1 hn)]
  exact List.map_congr_left fun b _ => by rw [lastR_congr 255 b (by omega) fun n _ hn => h n hn]
theorem runs_none {f : Nat → Bool} (h : ∀ n, n < 256 → f n = false) : runs f = [] := by
  unfold runs
  rw [List.filter_eq_nil_iff.2, List.map_nil]
  intro a ha
  simp [start, h a (List.mem_range.1 ha)]
/-- a set without the bytes from a to b -/
def without (f : Nat → Bool) (a b : Nat) (n : Nat) : Bool := f n && !(decide (a ≤ n) && decide (n ≤ b))
theorem runs_step (f : Nat → Bool) (a : Nat) (ha : a < 256) (h : f a = true) (hlt : ∀ j, j < a → f j = false) : runs f = (a, lastR f a) :: runs (without f a (lastR f a)) := by
  obtain ⟨h1, h2, h3, h4⟩ := lastR_spec f 255 a (by omega) ha h
  generalize hL : lastR f a = L at *
  have s0 : start f a = true := by
    unfold start
    rw [h]
    by_cases e : a = 0
    · simp [e]
    · rw [hlt (a - 1) (by omega)]
      simp
  have sl : ∀ j, j < a → start f j = false := fun j hj => by simp [start, hlt j hj]
  unfold runs
  rw [filter_first (start f) a s0 sl 256 ha, List.map_cons, hL]
  congr 1
  have e : ∀ n, n < 256 → (start f n && decide (n ≠ a)) = start (without f a L) n := fun n hn => by
    unfold start without
    by_cases c1 : n < a
    · rw [hlt n c1]
      simp
    · by_cases c2 : n ≤ L
      · have t1 : decide (a ≤ n) = true := by simp; omega
        have t2 : decide (n ≤ L) = true := by simp; omega
        rw [h3 n (by omega) c2, t1, t2]
        by_cases e : n = a
        · simp [e]
        · rw [h3 (n - 1) (by omega) (by omega)]
          have : (n == 0) = false := by simp; omega
          simp [this]
      · have t2 : decide (n ≤ L) = false := by simp; omega
        have t3 : decide (n ≠ a) = true := by simp; omega
        rw [t2, t3]
        by_cases e : n = L + 1
        · subst e
          rw [h4 (by omega)]
          simp
        · have t4 : decide (n - 1 ≤ L) = false := by simp; omega
          rw [t4]
          simp
  rw [List.filter_congr fun n hn => e n (List.mem_range.1 hn)]
  refine List.map_congr_left fun b hb => ?_
  have hs := (List.mem_filter.1 hb).2
  have hbL : L < b := by
    unfold start without at hs
    have := List.mem_range.1 (List.mem_filter.1 hb).1
    by_cases c1 : b < a
    · rw [hlt b c1] at hs
      simp at hs
    · by_cases c2 : b ≤ L
      · have t1 : decide (a ≤ b) = true := by simp; omega
        have t2 : decide (b ≤ L) = true := by simp; omega
        rw [t1, t2] at hs
        simp at hs
      · omega
  rw [lastR_congr 255 b (by omega) fun n hn _ => ?_]
  unfold without
  have t2 : decide (n ≤ L) = false := by simp; omega
  rw [t2]
  simp
end Go.Proofs.YthkboclooplpeaaGreatDoor
