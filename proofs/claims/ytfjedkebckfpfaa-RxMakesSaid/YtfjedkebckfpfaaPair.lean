/- Blocks of two numbers (structs of two ints), and results that are such structs, with and without a plain result behind them. -/
import Derived.Test.YtfjedkebckfpfaaTyped
import Derived.Handy
import Derived.Laws.ResultCell
import Derived.Laws.Rows
import Derived.Lib.SmallJoins
namespace Go.Proofs.Ytfjedkebckfpfaa
open Go.RowKit

/-- block B is a struct of two numbers -/
def PairAt (t : TypeId) (w : World) (B : Nat) (a b : Int) : Prop := w.heap[B]? = some (.cells #[.int .i64 a, .int .i64 b] t (0, 0))
theorem PairAt.facts {t : TypeId} {w : World} {B : Nat} {a b : Int} (h : PairAt t w B a b) :
    w.cell? ⟨B, 0, none⟩ = some (.int .i64 a) ∧ w.cell? ⟨B, 1, none⟩ = some (.int .i64 b) ∧ w.frozen? ⟨B, 0, none⟩ = false ∧ w.frozen? ⟨B, 1, none⟩ = false :=
  ⟨cell_of_row w B 0 _ _ _ h, cell_of_row w B 1 _ _ _ h, frozen_of_row w B 0 _ _ h, frozen_of_row w B 1 _ _ h⟩
theorem PairAt.lt {t : TypeId} {w : World} {B : Nat} {a b : Int} (h : PairAt t w B a b) : B < w.heap.size := by
  rcases Nat.lt_or_ge B w.heap.size with hlt | hge
  · exact hlt
  · unfold PairAt at h
    rw [Array.getElem?_eq_none hge] at h
    cases h
theorem PairAt.below {t : TypeId} {w w' : World} {B : Nat} {a b : Int} (h : PairAt t w B a b) (hb : Below w.heap.size w w') : PairAt t w' B a b :=
  (hb.block B h.lt).trans h
theorem PairAt.kept {t : TypeId} {w w' : World} {B n : Nat} {a b : Int} (h : PairAt t w B a b) (hb : Below n w w') (hB : B < n) : PairAt t w' B a b :=
  (hb.block B hB).trans h
theorem PairAt.new (t : TypeId) (w : World) (a b : Int) : PairAt t (w.alloc (.cells #[.int .i64 a, .int .i64 b] t)) w.heap.size a b := heap_alloc_new w _
theorem PairAt.alloc {t : TypeId} {w : World} {B : Nat} {a b : Int} (h : PairAt t w B a b) (o : Obj) : PairAt t (w.alloc o) B a b :=
  (heap_alloc_old w _ h.lt).trans h
theorem PairAt.stored {t : TypeId} {w : World} {B : Nat} {a b : Int} (h : PairAt t w B a b) (a' b' : Int) :
    PairAt t ((w.setCell ⟨B, 0, none⟩ (.int .i64 a')).setCell ⟨B, 1, none⟩ (.int .i64 b')) B a' b' :=
  heap_setCell_same _ B 1 _ _ _ (heap_setCell_same _ B 0 _ _ _ h)
theorem PairAt.other {t : TypeId} {w : World} {B b i : Nat} {x y : Int} (h : PairAt t w B x y) (hne : B ≠ b) (v : Value) : PairAt t (w.setCell ⟨b, i, none⟩ v) B x y := by
  unfold PairAt at h ⊢
  rw [heap_setCell_other _ _ _ _ hne, h]
theorem PairAt.drew {t : TypeId} {w : World} {B : Nat} {a b : Int} (h : PairAt t w B a b) : PairAt t w.drew B a b := h

theorem ret_pair {fn : Func} {R : Ending → World → Prop} {a : Act} {w : World} {B p : Nat} {x y : Int} {t : TypeId} {fs : Array Field} (hf : fn.results = #[.cell p t]) (hp : a.tmps.getD p undef = .pointer (some ⟨B, 0, none⟩))
    (hd : a.defers = []) (hS : PairAt t w B x y) (hu : Try.prog.underlying t = some (.struct fs)) (hi : (Try.prog.info? t).map (·.size) = some 2)
    (hR : R (.returned (.agg #[.int .i64 x, .int .i64 y])) w) : bodyPost Try.prog fn R .ret a w :=
  bodyPost_ret (results_cell_row hf _ w B t _ (0, 0) _ hp hS hu rfl hi) hd hR
theorem ret_pair_tmp {fn : Func} {R : Ending → World → Prop} {a : Act} {w : World} {B p u : Nat} {x y : Int} {t : TypeId} {fs : Array Field} {v : Value} (hf : fn.results = #[.cell p t, .tmp u]) (hp : a.tmps.getD p undef = .pointer (some ⟨B, 0, none⟩))
    (hv : a.tmps.getD u undef = v)
    (hd : a.defers = []) (hS : PairAt t w B x y) (hu : Try.prog.underlying t = some (.struct fs)) (hi : (Try.prog.info? t).map (·.size) = some 2)
    (hR : R (.returned (.tuple #[.agg #[.int .i64 x, .int .i64 y], v])) w) : bodyPost Try.prog fn R .ret a w := by
  refine bodyPost_ret ?_ hd hR
  rw [results_cell_tmp hf, hp]
  simp only [asAddr, Sem.run_pure, Result.andThen]
  rw [run_loadVar_row w B t t _ (0, 0) _ hS hu rfl hi]
  simp only [hv]
theorem PairAt.made {t : TypeId} {w : World} {a b : Int} {B : Nat} (h : B = w.heap.size) : PairAt t (w.alloc (.cells #[.int .i64 a, .int .i64 b] t)) B a b := by
  subst h
  exact PairAt.new t w a b
theorem ret_p {a b c d : Int} (h : a = c) (h' : b = d) : Ending.returned (.agg #[.int .i64 a, .int .i64 b]) = .returned (.agg #[.int .i64 c, .int .i64 d]) := by rw [h, h']
theorem ret_pb {a b c d : Int} {x y : Bool} (h : a = c) (h' : b = d) (h2 : x = y) : Ending.returned (.tuple #[.agg #[.int .i64 a, .int .i64 b], .bool x]) = .returned (.tuple #[.agg #[.int .i64 c, .int .i64 d], .bool y]) := by rw [h, h', h2]
open Go.ChangeShapes Go.WideShapes Go.Joins Go.Deep in
/-- an argument that is a struct of two ints -/
theorem open_pair {H : Type} {enc : TypeId × Value → H} {w : World} {base : Nat} {sp : Nat → Bool} {hd : Bool} {r : Reach} {b0 : Nat} {t : TypeId} {f0 f1 : Field} {v : Value} {d : DataW H} {p : List MemPlace}
    (hs : Try.prog.underlying t = some (.struct #[f0, f1])) (e0 : Try.prog.underlying f0.type = some (.int .i64)) (e1 : Try.prog.underlying f1.type = some (.int .i64)) (hone : oneCellFields Try.prog #[f0, f1] = true) (hC : Try.prog.cellsOf t = 2)
    (hv : Value.okWide Try.prog w r b0 t v) (h : DataW.Trod enc Try.prog w base sp hd t v d p) : ∃ a b : Int, v = .agg #[.int .i64 a, .int .i64 b] ∧ (Lit.int .i64 a).wf = true ∧ (Lit.int .i64 b).wf = true := by
  obtain ⟨v0, v1, y0, y1, n, rfl, _, _, h0, h1⟩ := open_agg2 hs hone hC hv h
  obtain ⟨x0, k0, _, w0⟩ := DataW.trod_int e0 h0
  obtain ⟨x1, k1, _, w1⟩ := DataW.trod_int e1 h1
  simp at k0 k1
  subst k0 k1
  exact ⟨x0, x1, rfl, w0, w1⟩
/-- block B is one cell -/
def OneAt (t : TypeId) (w : World) (B : Nat) (v : Value) : Prop := w.heap[B]? = some (.cells #[v] t (0, 0))
theorem OneAt.cell {t : TypeId} {w : World} {B : Nat} {v : Value} (h : OneAt t w B v) : w.cell? ⟨B, 0, none⟩ = some v := cell_of_row w B 0 _ _ _ h
theorem OneAt.frozen {t : TypeId} {w : World} {B : Nat} {v : Value} (h : OneAt t w B v) : w.frozen? ⟨B, 0, none⟩ = false := frozen_of_row w B 0 _ _ h
theorem OneAt.kept {t : TypeId} {w w' : World} {B n : Nat} {v : Value} (h : OneAt t w B v) (hb : Below n w w') (hB : B < n) : OneAt t w' B v := (hb.block B hB).trans h
theorem OneAt.lt {t : TypeId} {w : World} {B : Nat} {v : Value} (h : OneAt t w B v) : B < w.heap.size := by
  rcases Nat.lt_or_ge B w.heap.size with hlt | hge
  · exact hlt
  · unfold OneAt at h
    rw [Array.getElem?_eq_none hge] at h
    cases h
theorem OneAt.made {t : TypeId} {w : World} {v : Value} {B : Nat} (h : B = w.heap.size) : OneAt t (w.alloc (.cells #[v] t)) B v := by
  subst h
  exact heap_alloc_new w _
theorem OneAt.alloc {t : TypeId} {w : World} {B : Nat} {v : Value} (h : OneAt t w B v) (o : Obj) : OneAt t (w.alloc o) B v := (heap_alloc_old w _ h.lt).trans h
theorem OneAt.stored {t : TypeId} {w : World} {B : Nat} {v : Value} (h : OneAt t w B v) (v' : Value) : OneAt t (w.setCell ⟨B, 0, none⟩ v') B v' := heap_setCell_same _ B 0 _ _ _ h
theorem OneAt.other {t : TypeId} {w : World} {B b i : Nat} {v : Value} (h : OneAt t w B v) (hne : B ≠ b) (u : Value) : OneAt t (w.setCell ⟨b, i, none⟩ u) B v := by
  unfold OneAt at h ⊢
  rw [heap_setCell_other _ _ _ _ hne, h]
theorem results_cells2 {fn : Func} {p q : Tmp} {t u : TypeId} (h : fn.results = #[.cell p t, .cell q u]) (tmps : Array Value) (P : Program) (w : World) :
    (results fn tmps).run P w =
      ((asAddr (tmps.getD p undef)).run P w).andThen fun a w₁ => ((loadVar t a).run P w₁).andThen fun v w₂ => ((asAddr (tmps.getD q undef)).run P w₂).andThen fun b w₃ => ((loadVar u b).run P w₃).andThen fun x w₄ => .ok (.tuple #[v, x]) w₄ := by
  simp only [results, h]
  simp [Sem.run_bind, Result.andThen]
theorem below_two {B : Nat} {a w : World} (h : Below B a w) (b : Nat) (hb : B ≤ b) (v0 v1 : Value) :
    Below B a ((w.setCell ⟨b, 0, none⟩ v0).setCell ⟨b, 1, none⟩ v1) := (h.setCell hb _).setCell hb _
end Go.Proofs.Ytfjedkebckfpfaa
