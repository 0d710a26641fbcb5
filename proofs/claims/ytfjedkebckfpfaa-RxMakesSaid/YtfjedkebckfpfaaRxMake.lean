/- Contracts of what makes one step: step, Set, Empty, the reference's Set and Empty. -/
import Derived.Test.YtfjedkebckfpfaaRxAsk
namespace Go.Proofs.Ytfjedkebckfpfaa
open Go.RowKit

theorem row_one (w : World) (s : Stp) (b : Nat) (hb : b = w.heap.size) (base : Nat) (h : base ≤ w.heap.size) : RowX (w.alloc (.cells #[.int .i64 s.k, .int .u64 s.a, .int .u64 s.b, .int .u64 s.c, .int .u64 s.d] 44)) base (.slice (some ⟨b, 0, none⟩) 1 1) [s] := by
  subst hb
  exact World.ownsRow_lit (e := 44) (size := 5) w _ 1 h (by decide) rfl
theorem step_rx (k : Int) (w : World) : Calls Try.prog 29 #[.int .i64 k] w (RetX w [kStp k]) := by
  go_enter Try.func29, Try.ntmps29
  go_wp2
  go_ret
  exact ⟨_, rfl, row_one w (kStp k) _ rfl _ (Nat.le_refl _), by go_grown⟩
theorem set_rx (a b c d : Int) (w : World) : Calls Try.prog 16 #[.agg #[.int .u64 a, .int .u64 b, .int .u64 c, .int .u64 d]] w (RetX w [⟨1, a, b, c, d⟩]) := by
  go_enter Try.func16, Try.ntmps16
  go_wp2
  go_ret
  exact ⟨_, rfl, row_one _ ⟨1, a, b, c, d⟩ _ (by simp) _ (by simp), by go_grown⟩
theorem rset_rx (a b c d : Int) (w : World) : Calls Try.prog 17 #[.agg #[.int .u64 a, .int .u64 b, .int .u64 c, .int .u64 d]] w (RetX w [⟨1, a, b, c, d⟩]) := by
  go_enter Try.func17, Try.ntmps17
  go_wp2
  go_ret
  exact ⟨_, rfl, row_one _ ⟨1, a, b, c, d⟩ _ (by simp) _ (by simp), by go_grown⟩
theorem empty_rx (w : World) : Calls Try.prog 18 #[] w (RetX w [kStp 2]) := by
  go_enter Try.func18, Try.ntmps18
  go_wp2_with fail
  refine (step_rx _ _).mono ?_
  rintro e w' ⟨v, rfl, hr, hb⟩
  go_wp2
  go_ret
  exact ⟨v, rfl, hr, hb⟩
theorem rempty_rx (w : World) : Calls Try.prog 19 #[] w (RetX w [kStp 2]) := by
  go_enter Try.func19, Try.ntmps19
  go_wp2
  go_ret
  exact ⟨_, rfl, row_one w (kStp 2) _ rfl _ (Nat.le_refl _), by go_grown⟩
end Go.Proofs.Ytfjedkebckfpfaa
