/- What the statements of layer 1 know: the chapter's examples. -/
import Derived.Test.YtlciajdkjchmcaaUnhex
import Derived.Test.YtlciajdkjchmcaaShow
import Derived.Test.YtlciajdkjchmcaaRead
import Derived.Test.YtlciajdkjchmcaaCap
namespace Go.Proofs.Ytlciajdkjchmcaa
open Go.RowKit

theorem show_120 (w : World) : Calls Try.prog 9 #[.int .i64 120] w fun e w' => e = .returned (.string ⟨#[49, 50, 48]⟩) ∧ Below w.heap.size w w' :=
  (show_calls 120 w (by decide) (by decide)).mono fun e w' ⟨he, hb⟩ => ⟨he.trans (ret_s (by decide +kernel)), hb⟩
theorem hex_171 (w : World) : Calls Try.prog 18 #[.int .u8 171] w fun e w' => e = .returned (.string ⟨#[97, 98]⟩) ∧ Below w.heap.size w w' :=
  (hex_calls 171 w (by decide) (by decide)).mono fun e w' ⟨he, hb⟩ => ⟨he.trans (ret_s (by decide +kernel)), hb⟩
theorem read_007 (w : World) : Calls Try.prog 12 #[.string ⟨#[48, 48, 55]⟩, .int .i64 9] w fun e w' => e = .returned (.tuple #[.int .i64 0, .int .i64 3]) ∧ w = w' :=
  (read_calls ⟨#[48, 48, 55]⟩ 9 w (by decide) (by decide) (by decide)).mono fun e w' ⟨he, hb⟩ => ⟨he.trans (ret_ii (by decide +kernel) (by decide +kernel)), hb⟩
theorem cap_274 (w : World) (B c : Nat) (h : B < w.heap.size) (h0 : w.cell? ⟨B, 0, none⟩ = some (.int .i64 2)) (h1 : w.cell? ⟨B, 1, none⟩ = some (.int .i64 (-7))) (h2 : w.cell? ⟨B, 2, none⟩ = some (.int .i64 4)) :
    Calls Try.prog 14 #[.int .i64 5, .slice (some ⟨B, 0, none⟩) 3 c] w fun e w' => e = .returned (.int .i64 5) ∧ Below w.heap.size w w' := by
  refine (cap_calls 5 _ 3 c [2, -7, 4] w (by decide) (by decide) (by decide) ?_ ⟨rfl, fun _ => ⟨B, 0, rfl, h, ?_⟩⟩).mono fun e w' ⟨he, hb⟩ => ⟨he.trans (ret_i (by decide +kernel)), hb⟩
  · intro i hi
    match i, hi with
    | 0, _ | 1, _ | 2, _ => decide
  · intro i hi
    match i, hi with
    | 0, _ => exact h0
    | 1, _ => exact h1
    | 2, _ => exact h2

set_option maxRecDepth 100000 in
theorem knows_calls (w : World) : Calls Try.prog 11 #[] w fun e w' => e = .returned (.bool true) ∧ Below w.heap.size w w' := by
  go_enter Try.func11, Try.ntmps11
  go_wp2_with fail
  refine (read_007 _).mono ?_
  rintro e w' ⟨rfl, rfl⟩
  go_wp2_with fail
  refine (show_120 _).mono ?_
  rintro e w1 ⟨rfl, hb1⟩
  go_wp2_with fail
  refine (cap_274 _ _ _ (by simp) (by simp) (by simp) (by simp)).mono ?_
  rintro e w2 ⟨rfl, hb2⟩
  go_wp2_with fail
  refine (hex_171 _).mono ?_
  rintro e w3 ⟨rfl, hb3⟩
  go_wp2
  go_ret
  exact ⟨rfl, below_after (below_after (hb1.alloc hb1.size _) hb2) hb3⟩
end Go.Proofs.Ytlciajdkjchmcaa
