/- Sets of bytes as four numbers of 64 bits: the mathematics, without the program. -/
import Derived.Test.YtanjpajnciifiaaBase
import Derived.Lib.TrailingZeros
import Derived.Laws.BitsAllLaws
namespace Go.Proofs.Ytanjpajnciifiaa

def low (f : Nat → Bool) : Nat → Nat
  | 0 => 0
  | n + 1 => low f n + if f n then 2 ^ n else 0
theorem low_lt (f : Nat → Bool) : ∀ n, low f n < 2 ^ n
  | 0 => by simp [low]
  | n + 1 => by
    have := low_lt f n
    simp only [low, Nat.pow_succ]
    split <;> omega
theorem low_bit (f : Nat → Bool) : ∀ n j, (low f n).testBit j = (decide (j < n) && f j)
  | 0, j => by simp [low]
  | n + 1, j => by
    have h := low_lt f n
    have ih := low_bit f n j
    have e : low f (n + 1) = 2 ^ n * (if f n then 1 else 0) + low f n := by
      simp only [low]
      split <;> simp [Nat.add_comm]
    rw [e, Nat.testBit_two_pow_mul_add _ h]
    by_cases hj : j < n
    · rw [if_pos hj, ih]
      simp [hj]
      intro; omega
    · rw [if_neg hj]
      by_cases he : j = n
      · subst he
        cases f j <;> simp
      · have h1 : ¬ j < n + 1 := by omega
        have h2 : j - n ≠ 0 := by omega
        simp only [h1, decide_false, Bool.false_and]
        split
        · exact Nat.testBit_lt_two_pow (Nat.lt_of_lt_of_le (show 1 < 2 ^ 1 by decide) (Nat.pow_le_pow_right (by decide) (by omega)))
        · simp

def word (f : Nat → Bool) (i : Nat) : Nat := low (fun j => f (64 * i + j)) 64
theorem word_lt (f : Nat → Bool) (i : Nat) : word f i < 18446744073709551616 := low_lt _ 64
theorem word_bit (f : Nat → Bool) (i j : Nat) : (word f i).testBit j = (decide (j < 64) && f (64 * i + j)) := low_bit _ 64 j
theorem word_eq {f : Nat → Bool} {i x : Nat} (hx : x < 18446744073709551616) (h : ∀ j, j < 64 → x.testBit j = f (64 * i + j)) : x = word f i := by
  apply Nat.eq_of_testBit_eq
  intro j
  rw [word_bit]
  by_cases hj : j < 64
  · simp [hj, h j hj]
  · simp only [hj, decide_false, Bool.false_and]
    exact Nat.testBit_lt_two_pow (Nat.lt_of_lt_of_le hx (Nat.pow_le_pow_right (n := 2) (i := 64) (by decide) (by omega)))
theorem word_congr {f g : Nat → Bool} (i : Nat) (h : ∀ j, j < 64 → f (64 * i + j) = g (64 * i + j)) : word f i = word g i :=
  word_eq (word_lt f i) fun j hj => by rw [word_bit]; simp [hj, h j hj]
theorem word_ext {f g : Nat → Bool} (h : ∀ n, n < 256 → f n = g n) (i : Nat) (hi : i < 4) : word f i = word g i :=
  word_congr i fun j hj => h _ (by omega)
theorem word_inj {f g : Nat → Bool} (h : ∀ i, i < 4 → word f i = word g i) (n : Nat) (hn : n < 256) : f n = g n := by
  have := congrArg (fun x => x.testBit (n % 64)) (h (n / 64) (by omega))
  simp only [word_bit] at this
  have hj : n % 64 < 64 := Nat.mod_lt _ (by decide)
  simp only [hj, decide_true, Bool.true_and] at this
  rwa [Nat.div_add_mod] at this

/-- what four numbers of 64 bits have -/
def mem (a b c d : Nat) (n : Nat) : Bool := ([a, b, c, d].getD (n / 64) 0).testBit (n % 64)
theorem word_mem {a b c d : Nat} (ha : a < 18446744073709551616) (hb : b < 18446744073709551616) (hc : c < 18446744073709551616) (hd : d < 18446744073709551616) :
    word (mem a b c d) 0 = a ∧ word (mem a b c d) 1 = b ∧ word (mem a b c d) 2 = c ∧ word (mem a b c d) 3 = d := by
  have key : ∀ i j, j < 64 → (64 * i + j) / 64 = i ∧ (64 * i + j) % 64 = j := fun i j hj => by omega
  refine ⟨(word_eq ha fun j hj => ?_).symm, (word_eq hb fun j hj => ?_).symm, (word_eq hc fun j hj => ?_).symm, (word_eq hd fun j hj => ?_).symm⟩
  · unfold mem; rw [(key 0 j hj).1, (key 0 j hj).2]; rfl
  · unfold mem; rw [(key 1 j hj).1, (key 1 j hj).2]; rfl
  · unfold mem; rw [(key 2 j hj).1, (key 2 j hj).2]; rfl
  · unfold mem; rw [(key 3 j hj).1, (key 3 j hj).2]; rfl

/-- what operations on sets say of the words -/
def fOr (f g : Nat → Bool) (n : Nat) : Bool := f n || g n
def fAnd (f g : Nat → Bool) (n : Nat) : Bool := f n && g n
def fMinus (f g : Nat → Bool) (n : Nat) : Bool := f n && !g n
def fNot (f : Nat → Bool) (n : Nat) : Bool := !f n
def fOne (m : Nat) (n : Nat) : Bool := decide (n = m)
def fNone (_ : Nat) : Bool := false
def fSpan (lo hi : Int) (n : Nat) : Bool := decide (lo ≤ n) && decide ((n : Int) ≤ hi)
/-- f below k, nothing from there on -/
def fUpto (f : Nat → Bool) (k : Nat) (n : Nat) : Bool := decide (n < k) && f n

theorem word_none (i : Nat) : word fNone i = 0 := (word_eq (by decide) fun j _ => by simp [fNone]).symm
theorem word_or (f g : Nat → Bool) (i : Nat) : bits .or .u64 (word f i) (word g i) = word (fOr f g) i := by
  rw [u64_or_nat _ _ (word_lt f i) (word_lt g i)]
  congr 1
  refine word_eq (Nat.or_lt_two_pow (n := 64) (word_lt f i) (word_lt g i)) fun j hj => ?_
  rw [Nat.testBit_or, word_bit, word_bit]
  simp [hj, fOr]
theorem word_and (f g : Nat → Bool) (i : Nat) : bits .and .u64 (word f i) (word g i) = word (fAnd f g) i := by
  rw [u64_and_nat _ _ (word_lt f i) (word_lt g i)]
  congr 1
  refine word_eq (Nat.and_lt_two_pow (n := 64) _ (word_lt g i)) fun j hj => ?_
  rw [Nat.testBit_and, word_bit, word_bit]
  simp [hj, fAnd]
theorem word_andNot (f g : Nat → Bool) (i : Nat) : bits .andNot .u64 (word f i) (word g i) = word (fMinus f g) i := by
  have hg := word_lt g i
  rw [u64_andNot_nat _ _ (word_lt f i) hg]
  congr 1
  refine word_eq (Nat.and_lt_two_pow (n := 64) _ (by omega)) fun j hj => ?_
  have e : 18446744073709551615 - word g i = 2 ^ 64 - (word g i + 1) := by omega
  rw [Nat.testBit_and, e, Nat.testBit_two_pow_sub_succ (n := 64) hg, word_bit, word_bit]
  simp [hj, fMinus]
theorem word_not (f : Nat → Bool) (i : Nat) : bits .xor .u64 18446744073709551615 (word f i) = word (fNot f) i := by
  have h := u64_xor_nat 18446744073709551615 (word f i) (by decide) (word_lt f i)
  refine Eq.trans h ?_
  congr 1
  refine word_eq (Nat.xor_lt_two_pow (n := 64) (by decide) (word_lt f i)) fun j hj => ?_
  rw [Nat.testBit_xor, word_bit, show (18446744073709551615 : Nat) = 2 ^ 64 - 1 from rfl, Nat.testBit_two_pow_sub_one]
  simp [hj, fNot]
theorem pow_bit (n : Int) (h0 : 0 ≤ n) (i : Nat) (hi : n.toNat / 64 = i) : IntKind.u64.wrap (2 ^ (n % 64).toNat) = word (fOne n.toNat) i := by
  obtain ⟨k, rfl⟩ := Int.eq_ofNat_of_zero_le h0
  simp only [Int.toNat_natCast] at hi
  have e : ((k : Int) % 64).toNat = k % 64 := by omega
  have hj : k % 64 < 64 := Nat.mod_lt _ (by decide)
  have hlt : 2 ^ (k % 64) < 18446744073709551616 := Nat.pow_lt_pow_right (a := 2) (n := 64) (by decide) hj
  have hw : word (fOne (k : Int).toNat) i = 2 ^ (k % 64) := by
    refine (word_eq hlt fun j hj => ?_).symm
    rw [Nat.testBit_two_pow]
    simp only [fOne, Int.toNat_natCast]
    congr 1
    simp only [eq_iff_iff]
    omega
  rw [e, hw, IntKind.wrap_u64]
  have h2 : ((2 : Int) ^ (k % 64)) = ((2 ^ (k % 64) : Nat) : Int) := by simp
  rw [h2]
  omega
theorem word_one_other (n : Nat) (i : Nat) (h : n / 64 ≠ i) : word (fOne n) i = 0 := by
  refine (word_eq (by decide) fun j hj => ?_).symm
  simp [fOne]
  omega
theorem word_has (f : Nat → Bool) (i j : Nat) (hj : j < 64) : (word f i : Int) / 2 ^ j % 2 = if f (64 * i + j) then 1 else 0 := by
  have h : (word f i).testBit j = f (64 * i + j) := by rw [word_bit]; simp [hj]
  rw [Nat.testBit_eq_decide_div_mod_eq] at h
  have e : (word f i : Int) / 2 ^ j % 2 = ((word f i / 2 ^ j % 2 : Nat) : Int) := by
    simp
  rw [e, ← h]
  have : word f i / 2 ^ j % 2 < 2 := Nat.mod_lt _ (by decide)
  generalize word f i / 2 ^ j % 2 = x at *
  split
  · simp_all
  · simp at *; omega
theorem at4 (g : Nat → Nat) (i : Nat) (h : i < 4) : [Value.int .u64 (g 0), Value.int .u64 (g 1), Value.int .u64 (g 2), Value.int .u64 (g 3)][i]? = some (.int .u64 (g i)) := by
  match i, h with
  | 0, _ | 1, _ | 2, _ | 3, _ => rfl
end Go.Proofs.Ytanjpajnciifiaa
