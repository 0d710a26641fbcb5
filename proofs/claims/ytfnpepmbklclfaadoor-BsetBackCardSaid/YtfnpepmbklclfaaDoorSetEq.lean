/- Two arrays of four numbers, or of two, held against one another. -/
import Derived.Test.YtfnpepmbklclfaaDoorSetMath
import Derived.ChangeKeysEq
import Derived.Laws.StructEq
import Derived.Handy
namespace Go.Proofs.YtfnpepmbklclfaaDoor
open Go.RowKit

theorem items_step {P : Program} {w : World} {d : Nat} {e : TypeId} {k : IntKind} (he : P.plainKey e = true) (hu : P.underlying e = some (.int k)) {xs ys : Array Value} {j : Nat} {x y : Int} {is : List Nat} {r : Bool}
    (hx : xs[j * 1]? = some (.int k x)) (hy : ys[j * 1]? = some (.int k y)) (h : (Op.eqItems (d + 1) e 1 xs ys is).run P w = .ok r w) : (Op.eqItems (d + 1) e 1 xs ys (j :: is)).run P w = .ok (x == y && r) w := by
  simp only [Op.eqItems, Sem.run_bind]
  rw [run_part_plain (P := P) (w := w) he hx]
  simp only [Result.andThen_ok]
  rw [run_part_plain (P := P) (w := w) he hy]
  simp only [Result.andThen_ok]
  rw [run_equalIn_int w d e k k x y hu]
  simp only [Result.andThen_ok]
  cases (x == y)
  · simp
  · simpa using h
theorem items_end {P : Program} {w : World} {d : Nat} {e : TypeId} {xs ys : Array Value} : (Op.eqItems d e 1 xs ys []).run P w = .ok true w := by
  simp [Op.eqItems]

theorem eq_four (w : World) (a0 a1 a2 a3 b0 b1 b2 b3 : Int) :
    (Op.equalIn 10000 24 (.agg #[.int .u64 a0, .int .u64 a1, .int .u64 a2, .int .u64 a3]) (.agg #[.int .u64 b0, .int .u64 b1, .int .u64 b2, .int .u64 b3])).run Tryd.prog w = .ok (a0 == b0 && (a1 == b1 && (a2 == b2 && (a3 == b3 && true)))) w := by
  obtain ⟨i, hi⟩ : ∃ i, Tryd.prog.info? 22 = some i := Option.isSome_iff_exists.1 (by kernel_rfl)
  have hc : Tryd.prog.cellsOf 22 = 1 := by kernel_rfl
  have he : Tryd.prog.plainKey 22 = true := by kernel_rfl
  rw [run_equalIn_array (P := Tryd.prog) (w := w) 9999 _ _ Tryd.underlying24 hi, hc, show List.range 4 = [0, 1, 2, 3] from rfl]
  exact items_step (d := 9998) he Tryd.underlying22 rfl rfl (items_step he Tryd.underlying22 rfl rfl (items_step he Tryd.underlying22 rfl rfl (items_step he Tryd.underlying22 rfl rfl items_end)))
theorem eq_two (w : World) (a0 a1 b0 b1 : Int) :
    (Op.equalIn 10000 44 (.agg #[.int .i64 a0, .int .i64 a1]) (.agg #[.int .i64 b0, .int .i64 b1])).run Tryd.prog w = .ok (a0 == b0 && (a1 == b1 && true)) w := by
  obtain ⟨i, hi⟩ : ∃ i, Tryd.prog.info? 3 = some i := Option.isSome_iff_exists.1 (by kernel_rfl)
  have hc : Tryd.prog.cellsOf 3 = 1 := by kernel_rfl
  have he : Tryd.prog.plainKey 3 = true := by kernel_rfl
  rw [run_equalIn_array (P := Tryd.prog) (w := w) 9999 _ _ Tryd.underlying44 hi, hc, show List.range 2 = [0, 1] from rfl]
  exact items_step (d := 9998) he Tryd.underlying3 rfl rfl (items_step he Tryd.underlying3 rfl rfl items_end)

/-- two sets held against one another -/
def sameSet (f g : Nat → Bool) : Bool := (word f 0 : Int) == word g 0 && ((word f 1 : Int) == word g 1 && ((word f 2 : Int) == word g 2 && ((word f 3 : Int) == word g 3 && true)))
theorem same_iff (f g : Nat → Bool) : sameSet f g = true ↔ ∀ n, n < 256 → f n = g n := by
  unfold sameSet
  constructor
  · intro h
    simp at h
    exact word_inj fun i hi => match i, hi with
      | 0, _ => by omega
      | 1, _ => by omega
      | 2, _ => by omega
      | 3, _ => by omega
  · intro h
    rw [word_ext h 0 (by decide), word_ext h 1 (by decide), word_ext h 2 (by decide), word_ext h 3 (by decide)]
    simp
theorem same_of {f g : Nat → Bool} (h : ∀ n, n < 256 → f n = g n) : sameSet f g = true := (same_iff f g).2 h
theorem eq_sets (w : World) (f g : Nat → Bool) : (Op.equalIn 10000 24 (.agg #[.int .u64 (word (f) 0), .int .u64 (word (f) 1), .int .u64 (word (f) 2), .int .u64 (word (f) 3)]) (.agg #[.int .u64 (word (g) 0), .int .u64 (word (g) 1), .int .u64 (word (g) 2), .int .u64 (word (g) 3)])).run Tryd.prog w = .ok (sameSet f g) w := eq_four w _ _ _ _ _ _ _ _
theorem eq_none (w : World) (f : Nat → Bool) : (Op.equalIn 10000 24 (.agg #[.int .u64 (word (f) 0), .int .u64 (word (f) 1), .int .u64 (word (f) 2), .int .u64 (word (f) 3)]) (.agg #[.int .u64 0, .int .u64 0, .int .u64 0, .int .u64 0])).run Tryd.prog w = .ok (sameSet f fNone) w := by
  rw [eq_four]
  simp [sameSet, word_none]
end Go.Proofs.YtfnpepmbklclfaaDoor
