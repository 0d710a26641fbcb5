/- Contracts of the set functions without a search: Has, One, with, And, Minus, Not. -/
import Derived.Test.YtanjpajnciifiaaSetMath
import Derived.Handy
namespace Go.Proofs.Ytanjpajnciifiaa
open Go.RowKit

theorem has_res (f : Nat → Bool) (n : Int) (h0 : 0 ≤ n) : ((word f (n / 64).toNat : Int) / 2 ^ (n % 64).toNat % 2 == 1) = f n.toNat := by
  obtain ⟨k, rfl⟩ := Int.eq_ofNat_of_zero_le h0
  have e1 : ((k : Int) / 64).toNat = k / 64 := by omega
  have e2 : ((k : Int) % 64).toNat = k % 64 := by omega
  rw [e1, e2, word_has f _ _ (Nat.mod_lt _ (by decide)), Nat.div_add_mod, Int.toNat_natCast]
  cases f k <;> rfl
theorem has_res1 (f : Nat → Bool) (n : Int) (h0 : 0 ≤ n) : (bits .and .u64 ((word f (n / 64).toNat : Int) / 2 ^ (n % 64).toNat) 1 == 1) = f n.toNat := by
  rw [← has_res f n h0]
  have hw := word_lt f (n / 64).toNat
  generalize word f (n / 64).toNat = x at *
  have e : (x : Int) / 2 ^ (n % 64).toNat = ((x / 2 ^ (n % 64).toNat : Nat) : Int) := by simp
  have hle : x / 2 ^ (n % 64).toNat ≤ x := Nat.div_le_self _ _
  rw [e, show (1 : Int) = ((1 : Nat) : Int) from rfl, u64_and_nat _ _ (by omega) (by decide), Nat.and_one_is_mod]
  simp
theorem has_res2 (f : Nat → Bool) (n : Int) (h0 : 0 ≤ n) : (((word f (n / 64).toNat : Int) / 2 ^ (n % 64).toNat).tmod 2 == 1) = f n.toNat := by
  rw [← has_res f n h0]
  have e : (word f (n / 64).toNat : Int) / 2 ^ (n % 64).toNat = ((word f (n / 64).toNat / 2 ^ (n % 64).toNat : Nat) : Int) := by simp
  rw [e, Int.tmod_eq_emod_of_nonneg (Int.natCast_nonneg _)]

theorem has_calls (f : Nat → Bool) (n : Int) (w : World) (h0 : 0 ≤ n) (h1 : n < 256) :
    Calls Try.prog 24 #[(.agg #[.int .u64 (word (f) 0), .int .u64 (word (f) 1), .int .u64 (word (f) 2), .int .u64 (word (f) 3)]), .int .u8 n] w fun e w' => e = .returned (.bool (f n.toNat)) ∧ Below w.heap.size w w' := by
  have hx := at4 (word f) (n / 64).toNat (by omega)
  go_enter Try.func24, Try.ntmps24
  go_wp2
  go_ret
  exact ⟨ret_b (has_res1 f n h0), (Below.refl _ _).alloc (Nat.le_refl _) _⟩
theorem rhas_calls (f : Nat → Bool) (n : Int) (w : World) (h0 : 0 ≤ n) (h1 : n < 256) :
    Calls Try.prog 18 #[(.agg #[.int .u64 (word (f) 0), .int .u64 (word (f) 1), .int .u64 (word (f) 2), .int .u64 (word (f) 3)]), .int .u8 n] w fun e w' => e = .returned (.bool (f n.toNat)) ∧ Below w.heap.size w w' := by
  have hx := at4 (word f) (n / 64).toNat (by omega)
  go_enter Try.func18, Try.ntmps18
  go_wp2
  go_ret
  exact ⟨ret_b (has_res2 f n h0), (Below.refl _ _).alloc (Nat.le_refl _) _⟩

/-- a set as it is returned, out of its four words -/
theorem ret_set {a b c d : Int} {f : Nat → Bool} (ha : a = word f 0) (hb : b = word f 1) (hc : c = word f 2) (hd : d = word f 3) :
    Ending.returned (.agg #[.int .u64 a, .int .u64 b, .int .u64 c, .int .u64 d]) = .returned (.agg #[.int .u64 (word (f) 0), .int .u64 (word (f) 1), .int .u64 (word (f) 2), .int .u64 (word (f) 3)]) := by
  rw [ha, hb, hc, hd]

theorem or_other (f : Nat → Bool) (n i : Nat) (h : n / 64 ≠ i) : word f i = word (fOr f (fOne n)) i :=
  word_congr i fun j hj => by
    simp only [fOr, fOne]
    have : decide (64 * i + j = n) = false := by simp; omega
    rw [this, Bool.or_false]

theorem with_calls (f : Nat → Bool) (n : Int) (w : World) (h0 : 0 ≤ n) (h1 : n < 256) :
    Calls Try.prog 25 #[(.agg #[.int .u64 (word (f) 0), .int .u64 (word (f) 1), .int .u64 (word (f) 2), .int .u64 (word (f) 3)]), .int .i64 n] w fun e w' => e = .returned (.agg #[.int .u64 (word (fOr f (fOne n.toNat)) 0), .int .u64 (word (fOr f (fOne n.toNat)) 1), .int .u64 (word (fOr f (fOne n.toNat)) 2), .int .u64 (word (fOr f (fOne n.toNat)) 3)]) ∧ Below w.heap.size w w' := by
  have HB := hidden (pow_bit n h0)
  have HO := hidden (or_other f n.toNat)
  have HW := hidden (word_or f (fOne n.toNat))
  have hc : (n / 64).toNat = 0 ∨ (n / 64).toNat = 1 ∨ (n / 64).toNat = 2 ∨ (n / 64).toNat = 3 := by omega
  rcases hc with hq | hq | hq | hq
  all_goals
    go_enter Try.func25, Try.ntmps25
    go_wp2
    go_returns
    refine ⟨ret_set ?_ ?_ ?_ ?_, by go_grown⟩
  all_goals first | (rw [← HO.out _ (by omega)]; done) | exact congrArg _ (HO.out _ (by omega)) | (rw [HB.out _ (show n.toNat / 64 = 0 by omega)]; exact HW.out _) | (rw [HB.out _ (show n.toNat / 64 = 1 by omega)]; exact HW.out _) | (rw [HB.out _ (show n.toNat / 64 = 2 by omega)]; exact HW.out _) | (rw [HB.out _ (show n.toNat / 64 = 3 by omega)]; exact HW.out _)

end Go.Proofs.Ytanjpajnciifiaa
