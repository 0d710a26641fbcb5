/- Contract of Count. -/
import Derived.Test.YtfnpepmbklclfaaDoorBits
import Derived.Test.YtfnpepmbklclfaaDoorSetAll
namespace Go.Proofs.YtfnpepmbklclfaaDoor
open Go.RowKit

theorem count_calls (f : Nat → Bool) (w : World) :
    Calls Tryd.prog 22 #[(.agg #[.int .u64 (word (f) 0), .int .u64 (word (f) 1), .int .u64 (word (f) 2), .int .u64 (word (f) 3)])] w fun e w' => e = .returned (.int .i64 (0 + pop 64 (word f 0) + pop 64 (word f 1) + pop 64 (word f 2) + pop 64 (word f 3) : Nat)) ∧ Below w.heap.size w w' := by
  have p0 := pop_le 64 (word f 0)
  have p1 := pop_le 64 (word f 1)
  have p2 := pop_le 64 (word f 2)
  have p3 := pop_le 64 (word f 3)
  have HL := hidden (fun i => word_lt f i)
  go_enter Tryd.func22, Tryd.ntmps22
  go_wp2
  refine wp_loop_rounds 5 ?_
  iterate 4
    rw [rounds_succ]
    go_wp2_with fail
    refine (ones_calls _ _ (HL.out _)).mono ?_
    rintro e w' ⟨rfl, rfl⟩
    go_wp2
  rw [rounds_succ]
  go_wp2
  go_ret
  refine ⟨ret_i ?_, by go_grown⟩
  simp

end Go.Proofs.YtfnpepmbklclfaaDoor
