/- Contracts of num.Hex and the reference's Hex. -/
import Derived.Test.YtkonmgfgnppmlaaDoorBase
namespace Go.Proofs.YtkonmgfgnppmlaaDoor
open Go.RowKit

def hexDigit (n : Int) : Int := if n < 10 then 48 + n else 87 + n

theorem digit_calls (n : Int) (w : World) (h0 : 0 ≤ n) (h1 : n < 16) :
    Calls Tryd.prog 26 #[.int .i64 n] w fun e w' => e = .returned (.int .u8 (hexDigit n)) ∧ w = w' := by
  go_enter Tryd.func26, Tryd.ntmps26
  go_wp2
  · go_ret
    refine ⟨?_, rfl⟩
    simp [hexDigit, *]
  · go_ret
    refine ⟨?_, rfl⟩
    have h : ¬ n < 10 := by omega
    simp [hexDigit, h]
    omega

theorem rhex_calls (n : Int) (w : World) (h0 : 0 ≤ n) (h1 : n < 256) :
    Calls Tryd.prog 18 #[.int .u8 n] w fun e w' => e = .returned (.string (strOfNums [hexDigit (n / 16), hexDigit (n % 16)])) ∧ Below w.heap.size w w' := by
  go_enter Tryd.func18, Tryd.ntmps18
  go_wp2_with fail
  refine (digit_calls _ _ (by omega) (by omega)).mono ?_
  rintro e w' ⟨rfl, rfl⟩
  go_wp2_with fail
  refine (digit_calls _ _ (by omega) (by omega)).mono ?_
  rintro e w' ⟨rfl, rfl⟩
  go_wp2_with fail
  rw [run_convert_bytes_arg _ 35 5 Tryd.underlying35 Tryd.underlying5 w.heap.size 0 2 2 [hexDigit (n / 16), hexDigit (n % 16)] rfl (by
    intro i hi
    match i, hi with
    | 0, _ => simp
    | 1, _ => simp) 9 Tryd.underlying9]
  go_wp2
  go_ret
  exact ⟨rfl, by repeat (first | exact Below.refl _ _ | refine Below.alloc ?_ (Nat.le_refl _) _)⟩
theorem hexTab (m : Int) (h0 : 0 ≤ m) (h1 : m < 16) (h) : ((({ data := #[48, 49, 50, 51, 52, 53, 54, 55, 56, 57, 97, 98, 99, 100, 101, 102] } : ByteArray)[m.toNat]'h).toNat : Int) = hexDigit m := by
  obtain ⟨k, rfl⟩ := Int.eq_ofNat_of_zero_le h0
  have hk : k < 16 := by omega
  revert h
  simp only [Int.toNat_natCast]
  revert hk
  revert k
  intro k h0 h1 hk
  match k, hk with
  | 0, _ | 1, _ | 2, _ | 3, _ | 4, _ | 5, _ | 6, _ | 7, _ | 8, _ | 9, _ | 10, _ | 11, _ | 12, _ | 13, _ | 14, _ | 15, _ => intro h; rfl
theorem conv_two (w : World) (a b : Int) : (convert 35 9 (.slice (some ⟨w.heap.size, 0, none⟩) 2 2)).run Tryd.prog (w.alloc (.cells #[.int .u8 a, .int .u8 b] 5)).drew =
    .ok (.string (strOfNums [a, b])) (w.alloc (.cells #[.int .u8 a, .int .u8 b] 5)).drew :=
  run_convert_bytes_arg _ 35 5 Tryd.underlying35 Tryd.underlying5 w.heap.size 0 2 2 [a, b] rfl (by
    intro i hi
    match i, hi with
    | 0, _ => simp
    | 1, _ => simp) 9 Tryd.underlying9
theorem hex_calls (n : Int) (w : World) (h0 : 0 ≤ n) (h1 : n < 256) :
    Calls Tryd.prog 17 #[.int .u8 n] w fun e w' => e = .returned (.string (strOfNums [hexDigit (n / 16), hexDigit (n % 16)])) ∧ Below w.heap.size w w' := by
  have g0 : 0 ≤ n / 16 := by omega
  have g1 : n / 16 < 16 := by omega
  have g2 : 0 ≤ n % 16 := by omega
  have g3 : n % 16 < 16 := by omega
  have hc := fun a b => conv_two w a b
  go_enter Tryd.func17, Tryd.ntmps17
  go_wp2
  go_region
  go_wp2
  go_ret
  rw [hexTab _ g0 g1, hexTab _ g2 g3]
  exact ⟨rfl, ((Below.refl _ _).alloc (Nat.le_refl _) _).drew⟩
end Go.Proofs.YtkonmgfgnppmlaaDoor
