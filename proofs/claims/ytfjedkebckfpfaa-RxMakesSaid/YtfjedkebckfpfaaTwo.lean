/- Blocks of two cells of any one-cell values (structs of two fields), and results that are such structs, with and without a plain result behind them. -/
import Derived.Test.YtfjedkebckfpfaaPair
namespace Go.Proofs.Ytfjedkebckfpfaa
open Go.RowKit

/-- block B is a struct of two one-cell fields -/
def TwoAt (t : TypeId) (w : World) (B : Nat) (u v : Value) : Prop := w.heap[B]? = some (.cells #[u, v] t (0, 0))
theorem TwoAt.cell0 {t : TypeId} {w : World} {B : Nat} {u v : Value} (h : TwoAt t w B u v) : w.cell? ⟨B, 0, none⟩ = some u := cell_of_row w B 0 _ _ _ h
theorem TwoAt.cell1 {t : TypeId} {w : World} {B : Nat} {u v : Value} (h : TwoAt t w B u v) : w.cell? ⟨B, 1, none⟩ = some v := cell_of_row w B 1 _ _ _ h
theorem TwoAt.frozen0 {t : TypeId} {w : World} {B : Nat} {u v : Value} (h : TwoAt t w B u v) : w.frozen? ⟨B, 0, none⟩ = false := frozen_of_row w B 0 _ _ h
theorem TwoAt.frozen1 {t : TypeId} {w : World} {B : Nat} {u v : Value} (h : TwoAt t w B u v) : w.frozen? ⟨B, 1, none⟩ = false := frozen_of_row w B 1 _ _ h
theorem TwoAt.lt {t : TypeId} {w : World} {B : Nat} {u v : Value} (h : TwoAt t w B u v) : B < w.heap.size := by
  rcases Nat.lt_or_ge B w.heap.size with hlt | hge
  · exact hlt
  · unfold TwoAt at h
    rw [Array.getElem?_eq_none hge] at h
    cases h
theorem TwoAt.kept {t : TypeId} {w w' : World} {B n : Nat} {u v : Value} (h : TwoAt t w B u v) (hb : Below n w w') (hB : B < n) : TwoAt t w' B u v := (hb.block B hB).trans h
theorem TwoAt.below {t : TypeId} {w w' : World} {B : Nat} {u v : Value} (h : TwoAt t w B u v) (hb : Below w.heap.size w w') : TwoAt t w' B u v := h.kept hb h.lt
theorem TwoAt.new (t : TypeId) (w : World) (u v : Value) : TwoAt t (w.alloc (.cells #[u, v] t)) w.heap.size u v := heap_alloc_new w _
theorem TwoAt.made {t : TypeId} {w : World} {u v : Value} {B : Nat} (h : B = w.heap.size) : TwoAt t (w.alloc (.cells #[u, v] t)) B u v := by
  subst h
  exact TwoAt.new t w u v
theorem TwoAt.alloc {t : TypeId} {w : World} {B : Nat} {u v : Value} (h : TwoAt t w B u v) (o : Obj) : TwoAt t (w.alloc o) B u v := (heap_alloc_old w _ h.lt).trans h
theorem TwoAt.stored0 {t : TypeId} {w : World} {B : Nat} {u v : Value} (h : TwoAt t w B u v) (u' : Value) : TwoAt t (w.setCell ⟨B, 0, none⟩ u') B u' v := heap_setCell_same _ B 0 _ _ _ h
theorem TwoAt.stored1 {t : TypeId} {w : World} {B : Nat} {u v : Value} (h : TwoAt t w B u v) (v' : Value) : TwoAt t (w.setCell ⟨B, 1, none⟩ v') B u v' := heap_setCell_same _ B 1 _ _ _ h
theorem TwoAt.stored {t : TypeId} {w : World} {B : Nat} {u v : Value} (h : TwoAt t w B u v) (u' v' : Value) : TwoAt t ((w.setCell ⟨B, 0, none⟩ u').setCell ⟨B, 1, none⟩ v') B u' v' := (h.stored0 u').stored1 v'
theorem TwoAt.other {t : TypeId} {w : World} {B b i : Nat} {x y : Value} (h : TwoAt t w B x y) (hne : B ≠ b) (v : Value) : TwoAt t (w.setCell ⟨b, i, none⟩ v) B x y := by
  unfold TwoAt at h ⊢
  rw [heap_setCell_other _ _ _ _ hne, h]
theorem TwoAt.drew {t : TypeId} {w : World} {B : Nat} {u v : Value} (h : TwoAt t w B u v) : TwoAt t w.drew B u v := h

theorem ret_two {fn : Func} {R : Ending → World → Prop} {a : Act} {w : World} {B p : Nat} {x y : Value} {t : TypeId} {fs : Array Field} (hf : fn.results = #[.cell p t]) (hp : a.tmps.getD p undef = .pointer (some ⟨B, 0, none⟩))
    (hd : a.defers = []) (hS : TwoAt t w B x y) (hu : Try.prog.underlying t = some (.struct fs)) (hi : (Try.prog.info? t).map (·.size) = some 2)
    (hR : R (.returned (.agg #[x, y])) w) : bodyPost Try.prog fn R .ret a w :=
  bodyPost_ret (results_cell_row hf _ w B t _ (0, 0) _ hp hS hu rfl hi) hd hR
theorem ret_two_tmp {fn : Func} {R : Ending → World → Prop} {a : Act} {w : World} {B p u : Nat} {x y : Value} {t : TypeId} {fs : Array Field} {v : Value} (hf : fn.results = #[.cell p t, .tmp u]) (hp : a.tmps.getD p undef = .pointer (some ⟨B, 0, none⟩))
    (hv : a.tmps.getD u undef = v)
    (hd : a.defers = []) (hS : TwoAt t w B x y) (hu : Try.prog.underlying t = some (.struct fs)) (hi : (Try.prog.info? t).map (·.size) = some 2)
    (hR : R (.returned (.tuple #[.agg #[x, y], v])) w) : bodyPost Try.prog fn R .ret a w := by
  refine bodyPost_ret ?_ hd hR
  rw [results_cell_tmp hf, hp]
  simp only [asAddr, Sem.run_pure, Result.andThen]
  rw [run_loadVar_row w B t t _ (0, 0) _ hS hu rfl hi]
  simp only [hv]
end Go.Proofs.Ytfjedkebckfpfaa
