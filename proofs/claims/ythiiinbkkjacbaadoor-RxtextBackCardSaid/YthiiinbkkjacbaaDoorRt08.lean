/- Two, RxRow, TxtBuild, TxtPut, put together. -/
import Derived.Test.YthiiinbkkjacbaaDoorRt07
import Derived.Test.YthiiinbkkjacbaaDoorRt04
import Derived.ChangeKeysEq
import Derived.Laws.StructEq
import Derived.Laws.OwnMore
import Derived.Deep.AppendLies
import Derived.Deep.RegionLaw
/- Blocks of two cells of any one-cell values (structs of two fields), and results that are such structs, with and without a plain result behind them. -/
namespace Go.Proofs.YthiiinbkkjacbaaDoor
open Go.RowKit

/-- block B is a struct of two one-cell fields -/
def TwoAt (t : TypeId) (w : World) (B : Nat) (u v : Value) : Prop := w.heap[B]? = some (.cells #[u, v] t (0, 0))
theorem TwoAt.cell0 {t : TypeId} {w : World} {B : Nat} {u v : Value} (h : TwoAt t w B u v) : w.cell? ⟨B, 0, none⟩ = some u := cell_of_row w B 0 _ _ _ h
theorem TwoAt.cell1 {t : TypeId} {w : World} {B : Nat} {u v : Value} (h : TwoAt t w B u v) : w.cell? ⟨B, 1, none⟩ = some v := cell_of_row w B 1 _ _ _ h
theorem TwoAt.frozen0 {t : TypeId} {w : World} {B : Nat} {u v : Value} (h : TwoAt t w B u v) : w.frozen? ⟨B, 0, none⟩ = false := frozen_of_row w B 0 _ _ h
theorem TwoAt.frozen1 {t : TypeId} {w : World} {B : Nat} {u v : Value} (h : TwoAt t w B u v) : w.frozen? ⟨B, 1, none⟩ = false := frozen_of_row w B 1 _ _ h
theorem TwoAt.lt {t : TypeId} {w : World} {B : Nat} {u v : Value} (h : TwoAt t w B u v) : B < w.heap.size := by
  rcases Nat.lt_or_ge B w.heap.size with hlt | hge
  · exact hlt
  · unfold TwoAt at h
    rw [Array.getElem?_eq_none hge] at h
    cases h
theorem TwoAt.kept {t : TypeId} {w w' : World} {B n : Nat} {u v : Value} (h : TwoAt t w B u v) (hb : Below n w w') (hB : B < n) : TwoAt t w' B u v := (hb.block B hB).trans h
theorem TwoAt.below {t : TypeId} {w w' : World} {B : Nat} {u v : Value} (h : TwoAt t w B u v) (hb : Below w.heap.size w w') : TwoAt t w' B u v := h.kept hb h.lt
theorem TwoAt.new (t : TypeId) (w : World) (u v : Value) : TwoAt t (w.alloc (.cells #[u, v] t)) w.heap.size u v := heap_alloc_new w _
theorem TwoAt.made {t : TypeId} {w : World} {u v : Value} {B : Nat} (h : B = w.heap.size) : TwoAt t (w.alloc (.cells #[u, v] t)) B u v := by
  subst h
  exact TwoAt.new t w u v
theorem TwoAt.alloc {t : TypeId} {w : World} {B : Nat} {u v : Value} (h : TwoAt t w B u v) (o : Obj) : TwoAt t (w.alloc o) B u v := (heap_alloc_old w _ h.lt).trans h
theorem TwoAt.stored0 {t : TypeId} {w : World} {B : Nat} {u v : Value} (h : TwoAt t w B u v) (u' : Value) : TwoAt t (w.setCell ⟨B, 0, none⟩ u') B u' v := heap_setCell_same _ B 0 _ _ _ h
theorem TwoAt.stored1 {t : TypeId} {w : World} {B : Nat} {u v : Value} (h : TwoAt t w B u v) (v' : Value) : TwoAt t (w.setCell ⟨B, 1, none⟩ v') B u v' := heap_setCell_same _ B 1 _ _ _ h
theorem TwoAt.stored {t : TypeId} {w : World} {B : Nat} {u v : Value} (h : TwoAt t w B u v) (u' v' : Value) : TwoAt t ((w.setCell ⟨B, 0, none⟩ u').setCell ⟨B, 1, none⟩ v') B u' v' := (h.stored0 u').stored1 v'
theorem TwoAt.other {t : TypeId} {w : World} {B b i : Nat} {x y : Value} (h : TwoAt t w B x y) (hne : B ≠ b) (v : Value) : TwoAt t (w.setCell ⟨b, i, none⟩ v) B x y := by
  unfold TwoAt at h ⊢
  rw [heap_setCell_other _ _ _ _ hne, h]
theorem TwoAt.drew {t : TypeId} {w : World} {B : Nat} {u v : Value} (h : TwoAt t w B u v) : TwoAt t w.drew B u v := h

theorem ret_two {fn : Func} {R : Ending → World → Prop} {a : Act} {w : World} {B p : Nat} {x y : Value} {t : TypeId} {fs : Array Field} (hf : fn.results = #[.cell p t]) (hp : a.tmps.getD p undef = .pointer (some ⟨B, 0, none⟩))
    (hd : a.defers = []) (hS : TwoAt t w B x y) (hu : Tryd.prog.underlying t = some (.struct fs)) (hi : (Tryd.prog.info? t).map (·.size) = some 2)
    (hR : R (.returned (.agg #[x, y])) w) : bodyPost Tryd.prog fn R .ret a w :=
  bodyPost_ret (results_cell_row hf _ w B t _ (0, 0) _ hp hS hu rfl hi) hd hR
theorem ret_two_tmp {fn : Func} {R : Ending → World → Prop} {a : Act} {w : World} {B p u : Nat} {x y : Value} {t : TypeId} {fs : Array Field} {v : Value} (hf : fn.results = #[.cell p t, .tmp u]) (hp : a.tmps.getD p undef = .pointer (some ⟨B, 0, none⟩))
    (hv : a.tmps.getD u undef = v)
    (hd : a.defers = []) (hS : TwoAt t w B x y) (hu : Tryd.prog.underlying t = some (.struct fs)) (hi : (Tryd.prog.info? t).map (·.size) = some 2)
    (hR : R (.returned (.tuple #[.agg #[x, y], v])) w) : bodyPost Tryd.prog fn R .ret a w := by
  refine bodyPost_ret ?_ hd hR
  rw [results_cell_tmp hf, hp]
  simp only [asAddr, Sem.run_pure, Result.andThen]
  rw [run_loadVar_row w B t t _ (0, 0) _ hS hu rfl hi]
  simp only [hv]
end Go.Proofs.YthiiinbkkjacbaaDoor

/- Slices of steps: what they read as; rows of steps that a call has made; two lists held against one another (slices.Equal, rx.Same). -/
namespace Go.Proofs.YthiiinbkkjacbaaDoor
open Go.RowKit Go.Lib Go.Joins

/-- block b has the step s from place i on -/
def RxAt (w : World) (b i : Nat) (s : Stp) : Prop :=
  w.cell? ⟨b, i, none⟩ = some (.int .i64 s.k) ∧ w.cell? ⟨b, i + 1, none⟩ = some (.int .u64 s.a) ∧ w.cell? ⟨b, i + 2, none⟩ = some (.int .u64 s.b) ∧ w.cell? ⟨b, i + 3, none⟩ = some (.int .u64 s.c) ∧ w.cell? ⟨b, i + 4, none⟩ = some (.int .u64 s.d)
theorem RxAt.kept {w w' : World} {b i : Nat} {s : Stp} (h : RxAt w b i s) (hb : w'.heap[b]? = w.heap[b]?) : RxAt w' b i s :=
  ⟨(World.cell?_of_block (a := ⟨b, _, none⟩) hb).trans h.1, (World.cell?_of_block (a := ⟨b, _, none⟩) hb).trans h.2.1, (World.cell?_of_block (a := ⟨b, _, none⟩) hb).trans h.2.2.1, (World.cell?_of_block (a := ⟨b, _, none⟩) hb).trans h.2.2.2.1, (World.cell?_of_block (a := ⟨b, _, none⟩) hb).trans h.2.2.2.2⟩
/-- a slice of steps that reads as a list, in a block that meets C -/
def Rxs (C : Nat → Prop) (w : World) (a : Option Addr) (len : Nat) (L : List Stp) : Prop :=
  L.length = len ∧ (0 < len → ∃ b off, a = some ⟨b, off, none⟩ ∧ C b ∧ ∀ i, i < len → RxAt w b (off + i * 5) (L.getD i default))
theorem Rxs.below {C C' : Nat → Prop} {w w' : World} {a : Option Addr} {len : Nat} {L : List Stp} (h : Rxs C w a len L) (hb : ∀ b, C b → C' b ∧ w'.heap[b]? = w.heap[b]?) : Rxs C' w' a len L := by
  refine ⟨h.1, fun hp => ?_⟩
  obtain ⟨b, off, e, hC, hc⟩ := h.2 hp
  exact ⟨b, off, e, (hb b hC).1, fun i hi => (hc i hi).kept (hb b hC).2⟩
/-- the cells of a list of steps -/
def rxCells : List Stp → List Value
  | [] => []
  | s :: r => s.cells ++ rxCells r
theorem rxCells_len : ∀ L, (rxCells L).length = L.length * 5
  | [] => rfl
  | s :: r => by
    simp only [rxCells, List.length_append, rxCells_len r, List.length_cons, Stp.cells, List.length_nil]
    omega
theorem rxCells_append : ∀ a b, rxCells (a ++ b) = rxCells a ++ rxCells b
  | [], b => rfl
  | s :: r, b => by simp [rxCells, rxCells_append r b]
theorem rxCells_get : ∀ (L : List Stp) (i : Nat), i < L.length → ∀ j, j < 5 → (rxCells L)[i * 5 + j]? = ((L.getD i default).cells)[j]?
  | [], i, h, _, _ => by simp at h
  | s :: r, 0, _, j, hj => by
    simp only [rxCells, List.getD_cons_zero, Nat.zero_mul, Nat.zero_add]
    rw [List.getElem?_append_left (by simpa [Stp.cells] using hj)]
  | s :: r, i + 1, h, j, hj => by
    have ih := rxCells_get r i (by simpa using h) j hj
    have e : (s.cells).length = 5 := rfl
    rw [rxCells, List.getD_cons_succ, ← ih, show (i + 1) * 5 + j = 5 + (i * 5 + j) by omega, List.getElem?_append_right (by rw [e]; omega), e, Nat.add_sub_cancel_left]
theorem rxCells_one {u : Value} {L : List Stp} (h : u ∈ rxCells L) : u.oneCell' = true := by
  induction L with
  | nil => simp [rxCells] at h
  | cons s r ih =>
    rw [rxCells, List.mem_append] at h
    rcases h with h | h
    · simp only [Stp.cells, List.mem_cons, List.not_mem_nil, or_false] at h
      rcases h with rfl | rfl | rfl | rfl | rfl <;> rfl
    · exact ih h
/-- the cells that an append reads -/
theorem Rxs.news {C : Nat → Prop} {w : World} {b off len : Nat} {L : List Stp} (h : Rxs C w (some ⟨b, off, none⟩) len L) : ∀ j u, (rxCells L)[j]? = some u → w.cell? ((⟨b, off, none⟩ : Addr).add j) = some u := by
  intro j u hj
  have hl : j < L.length * 5 := by
    have := (List.getElem?_eq_some_iff.1 hj).1
    rwa [rxCells_len] at this
  obtain ⟨b', off', e, _, hc⟩ := h.2 (by rw [← h.1]; omega)
  simp only [Option.some.injEq, Addr.mk.injEq, and_true] at e
  obtain ⟨rfl, rfl⟩ := e
  have hi : j / 5 < L.length := by omega
  obtain ⟨c0, c1, c2, c3, c4⟩ := hc (j / 5) (by rw [← h.1]; exact hi)
  have hg := rxCells_get L (j / 5) hi (j % 5) (Nat.mod_lt _ (by decide))
  rw [show j / 5 * 5 + j % 5 = j by omega, hj] at hg
  rw [Addr.add_lit]
  have hm : j % 5 = 0 ∨ j % 5 = 1 ∨ j % 5 = 2 ∨ j % 5 = 3 ∨ j % 5 = 4 := by omega
  rcases hm with e | e | e | e | e
  · rw [e] at hg; rw [show off + j = off + j / 5 * 5 by omega, c0, hg]; rfl
  · rw [e] at hg; rw [show off + j = off + j / 5 * 5 + 1 by omega, c1, hg]; rfl
  · rw [e] at hg; rw [show off + j = off + j / 5 * 5 + 2 by omega, c2, hg]; rfl
  · rw [e] at hg; rw [show off + j = off + j / 5 * 5 + 3 by omega, c3, hg]; rfl
  · rw [e] at hg; rw [show off + j = off + j / 5 * 5 + 4 by omega, c4, hg]; rfl

theorem infoRx : (Tryd.prog.info? 39).map (fun i => (i.zero, i.size, i.bytes)) = some (some (kStp 0).val, 5, 40) := by kernel_rfl
/-- slice value v owns the steps L, in a block from base on -/
def RowX (w : World) (base : Nat) (v : Value) (L : List Stp) : Prop := w.ownsRow base 39 5 v L.length (rxCells L)
/-- slice value v reads as the steps L, in a block that meets C -/
def SlX (C : Nat → Prop) (w : World) (v : Value) (L : List Stp) : Prop := ∃ a cap, v = .slice a L.length cap ∧ L.length ≤ cap ∧ cap ≤ maxLen ∧ (a = none → cap = 0) ∧ Rxs C w a L.length L
/-- slice value v reads as the steps L, in a block from base on -/
def ReadsX (w : World) (base : Nat) (v : Value) (L : List Stp) : Prop := SlX (fun b => base ≤ b ∧ b < w.heap.size) w v L
theorem SlX.below {C C' : Nat → Prop} {w w' : World} {v : Value} {L : List Stp} (h : SlX C w v L) (hb : ∀ b, C b → C' b ∧ w'.heap[b]? = w.heap[b]?) : SlX C' w' v L := by
  obtain ⟨a, cap, rfl, h1, h2, h0, hS⟩ := h
  exact ⟨a, cap, rfl, h1, h2, h0, hS.below hb⟩
theorem rxAt_of_cells {w : World} {g : Nat} {L : List Stp} {i : Nat} (hi : i < L.length) (h : ∀ j, j < L.length * 5 → w.cell? ⟨g, j, none⟩ = (rxCells L)[j]?) : RxAt w g (i * 5) (L.getD i default) := by
  have hg := rxCells_get L i hi
  refine ⟨?_, ?_, ?_, ?_, ?_⟩
  · rw [h _ (by omega)]; have := hg 0 (by decide); simpa [Stp.cells] using this
  · rw [h _ (by omega)]; have := hg 1 (by decide); simpa [Stp.cells] using this
  · rw [h _ (by omega)]; have := hg 2 (by decide); simpa [Stp.cells] using this
  · rw [h _ (by omega)]; have := hg 3 (by decide); simpa [Stp.cells] using this
  · rw [h _ (by omega)]; have := hg 4 (by decide); simpa [Stp.cells] using this
theorem RowX.reads {w : World} {base : Nat} {v : Value} {L : List Stp} (h : RowX w base v L) : ReadsX w base v L := by
  have h' := h
  obtain ⟨_, ⟨rfl, h1⟩ | ⟨g, cap, cur, rfl, hb, hg, h1, h2, h3, h4⟩⟩ := h
  · exact ⟨none, 0, by rw [h1], by omega, by decide, fun _ => rfl, rfl, fun h => by omega⟩
  · refine ⟨some ⟨g, 0, none⟩, cap, rfl, h1, h2, (fun e => by cases e), rfl, fun _ => ⟨g, 0, rfl, ⟨hb, (Array.getElem?_eq_some_iff.1 hg).1⟩, fun i hi => ?_⟩⟩
    rw [Nat.zero_add]
    exact rxAt_of_cells hi fun j hj => World.ownsRow.cellAt h' j hj
theorem ReadsX.kept {w w' : World} {base : Nat} {v : Value} {L : List Stp} (h : ReadsX w base v L) (hb : Below w.heap.size w w') : ReadsX w' base v L :=
  SlX.below h fun b hb' => ⟨⟨hb'.1, by have := hb.size; omega⟩, hb.block b hb'.2⟩
theorem ReadsX.lower {w : World} {base base' : Nat} {v : Value} {L : List Stp} (h : ReadsX w base v L) (hb : base' ≤ base) : ReadsX w base' v L :=
  SlX.below h fun b hb' => ⟨⟨by omega, hb'.2⟩, rfl⟩
theorem RowX.nil (w : World) (base : Nat) : RowX w base (.slice none 0 0) [] := World.ownsRow_nil _ _ _ _
theorem RowX.below {w w' : World} {base : Nat} {v : Value} {L : List Stp} (h : RowX w base v L) (hb : Below w.heap.size w w') : RowX w' base v L := by
  refine ⟨h.1, ?_⟩
  rcases h.2 with hn | ⟨g, cap, cur, rfl, hb', hgg, rest⟩
  · exact .inl hn
  · exact .inr ⟨g, cap, cur, rfl, hb', by rw [hb.block g (Array.getElem?_eq_some_iff.1 hgg).1]; exact hgg, rest⟩
theorem RowX.more {w : World} {base : Nat} {v : Value} {L M : List Stp} (h : w.ownsRow base 39 5 v (L.length + M.length) (rxCells L ++ rxCells M)) : RowX w base v (L ++ M) := by
  unfold RowX
  rw [rxCells_append, List.length_append]
  exact h
theorem RowX.lower {w : World} {base base' : Nat} {v : Value} {L : List Stp} (h : RowX w base v L) (hb : base' ≤ base) : RowX w base' v L := ownsRow_le h hb
/-- what a call that makes steps hands back -/
def RetX (w : World) (L : List Stp) (e : Ending) (w' : World) : Prop := ∃ v, e = .returned v ∧ RowX w' w.heap.size v L ∧ Below w.heap.size w w'

/-! ### two lists held against one another -/
open Classical in
noncomputable def sameX (a b : List Stp) : Bool := decide (a = b)
theorem sameX_yes (a : List Stp) : sameX a a = true := by simp [sameX]
theorem sameX_no {a b : List Stp} (h : a ≠ b) : sameX a b = false := by simp [sameX, h]
def eqStp (x y : Stp) : Bool := x.k == y.k && (x.a == y.a && (x.b == y.b && (x.c == y.c && (x.d == y.d && true))))
theorem eqStp_iff (x y : Stp) : eqStp x y = true ↔ x = y := by
  obtain ⟨k, a, b, c, d⟩ := x
  obtain ⟨k', a', b', c', d'⟩ := y
  simp [eqStp]
theorem eq_fourAt (w : World) (D : Nat) (a0 a1 a2 a3 b0 b1 b2 b3 : Int) :
    (Op.equalIn (D + 1 + 1) 25 (.agg #[.int .u64 a0, .int .u64 a1, .int .u64 a2, .int .u64 a3]) (.agg #[.int .u64 b0, .int .u64 b1, .int .u64 b2, .int .u64 b3])).run Tryd.prog w = .ok (a0 == b0 && (a1 == b1 && (a2 == b2 && (a3 == b3 && true)))) w := by
  obtain ⟨i, hi⟩ : ∃ i, Tryd.prog.info? 23 = some i := Option.isSome_iff_exists.1 (by kernel_rfl)
  have hc : Tryd.prog.cellsOf 23 = 1 := by kernel_rfl
  have he : Tryd.prog.plainKey 23 = true := by kernel_rfl
  rw [run_equalIn_array (P := Tryd.prog) (w := w) (D + 1) _ _ Tryd.underlying25 hi, hc, show List.range 4 = [0, 1, 2, 3] from rfl]
  exact items_step (d := D) he Tryd.underlying23 rfl rfl (items_step he Tryd.underlying23 rfl rfl (items_step he Tryd.underlying23 rfl rfl (items_step he Tryd.underlying23 rfl rfl items_end)))
theorem part_set (w : World) (k a b c d : Int) : (part 25 #[.int .i64 k, .int .u64 a, .int .u64 b, .int .u64 c, .int .u64 d] 1).run Tryd.prog w = .ok (.agg #[.int .u64 a, .int .u64 b, .int .u64 c, .int .u64 d]) w := by
  simp [part, isAgg, run_underlying Tryd.underlying25]
theorem eq_stp (w : World) (x y : Stp) : (Op.equalIn 10000 39 x.val y.val).run Tryd.prog w = .ok (eqStp x y) w := by
  obtain ⟨k, a, b, c, d⟩ := x
  obtain ⟨k', a', b', c', d'⟩ := y
  have he : Tryd.prog.plainKey 37 = true := by kernel_rfl
  have hf : Tryd.prog.underlying 39 = some (.struct (Tryd.prog.fieldsOf 39)) := by kernel_rfl
  have hm : (Tryd.prog.fieldsOf 39).toList.map (fun f => (f.type, f.offset, f.name)) = [(37, 0, "Kind"), (25, 1, "Set")] := by kernel_rfl
  obtain ⟨f0, f1, hfs, t0, o0, n0, t1, o1, n1⟩ : ∃ f0 f1, (Tryd.prog.fieldsOf 39).toList = [f0, f1] ∧ f0.type = 37 ∧ f0.offset = 0 ∧ f0.name = "Kind" ∧ f1.type = 25 ∧ f1.offset = 1 ∧ f1.name = "Set" := by
    generalize (Tryd.prog.fieldsOf 39).toList = l at hm
    rcases l with _ | ⟨f0, _ | ⟨f1, _ | ⟨f2, r⟩⟩⟩
    · cases hm
    · cases (List.cons.inj hm).2
    · simp only [List.map_cons, List.map_nil, List.cons.injEq, Prod.mk.injEq, and_true] at hm
      exact ⟨f0, f1, rfl, hm.1.1, hm.1.2.1, hm.1.2.2, hm.2.1, hm.2.2.1, hm.2.2.2⟩
    · cases (List.cons.inj (List.cons.inj hm).2).2
  unfold Stp.val
  rw [run_equalIn_struct w 9999 _ _ _ hf (by kernel_rfl), hfs]
  simp only [Op.eqFields, t0, o0, n0, t1, o1, n1]
  simp only [ne_eq, String.reduceEq, not_false_eq_true, if_true, Sem.run_bind]
  rw [run_part_plain (P := Tryd.prog) (w := w) he (v := .int .i64 k) rfl]
  simp only [Result.andThen_ok]
  rw [run_part_plain (P := Tryd.prog) (w := w) he (v := .int .i64 k') rfl]
  simp only [Result.andThen_ok]
  rw [run_equalIn_int w 9998 _ .i64 .i64 k k' Tryd.underlying37]
  simp only [Result.andThen_ok, eqStp]
  cases (k == k')
  · simp
  · simp only [Bool.not_true, Bool.false_eq_true, if_false, Sem.run_bind, part_set, Result.andThen_ok, eq_fourAt w 9997, Bool.true_and]
    cases (a == a' && (b == b' && (c == c' && (d == d' && true)))) <;> simp
end Go.Proofs.YthiiinbkkjacbaaDoor

/- The reader's builder in memory: its steps in a row of their own, the operators that wait in an array that is sliced; its methods put, wait, release. -/
namespace Go.Proofs.YthiiinbkkjacbaaDoor
open Go.RowKit Go.Lib Go.Joins

/-- what waits, as cells: the last one at the end -/
def waits8 (l : List Int) : List Value := l.reverse.map fun k => .int .i64 k
theorem waits8_cons (k : Int) (l : List Int) : waits8 (k :: l) = waits8 l ++ [Value.int .i64 k] := by simp [waits8]
theorem waits8_len (l : List Int) : (waits8 l).length = l.length := by simp [waits8]
/-- block b is a builder: its steps lie in a row of their own behind block b + 1, what waits in the array of block R -/
structure BldAt (w : World) (R b : Nat) (x : Bld) (v : Value) : Prop where
  blk : w.heap[b]? = some (.cells #[v, .slice (some ⟨R, 0, none⟩) x.wt.length 4096, .bool x.hp] 86 (0, 0))
  own : RowX w (b + 2) v x.st
  arr : ∃ cur, w.heap[R]? = some (.cells cur 83 (0, 0)) ∧ cur.size = 4096 ∧ cur.toList.take x.wt.length = waits8 x.wt
  ne : R < b
  low : b + 2 ≤ w.heap.size
  le : x.wt.length ≤ 4096
/-- a block that a method may not turn -/
def Kin (R b : Nat) (w : World) (k : Nat) : Prop := k < w.heap.size ∧ k ≠ R ∧ k ≠ b ∧ (k < b + 2 ∨ ∀ cs fr, w.heap[k]? ≠ some (.cells cs 39 fr))
/-- what a method leaves as it was -/
structure Keep (R b : Nat) (w w' : World) : Prop where
  os : w'.os = w.os
  tape : w'.tape = w.tape
  output : w'.output = w.output
  size : w.heap.size ≤ w'.heap.size
  block : ∀ k, Kin R b w k → w'.heap[k]? = w.heap[k]?
theorem Keep.refl (R b : Nat) (w : World) : Keep R b w w := ⟨rfl, rfl, rfl, Nat.le_refl _, fun _ _ => rfl⟩
theorem Kin.keep {R b : Nat} {w w' : World} {k : Nat} (h : Kin R b w k) (hk : Keep R b w w') : Kin R b w' k :=
  ⟨Nat.lt_of_lt_of_le h.1 hk.size, h.2.1, h.2.2.1, h.2.2.2.imp id fun h3 cs fr => by rw [hk.block k h]; exact h3 cs fr⟩
theorem Keep.trans {R b : Nat} {w1 w2 w3 : World} (h : Keep R b w1 w2) (k : Keep R b w2 w3) : Keep R b w1 w3 :=
  ⟨k.os.trans h.os, k.tape.trans h.tape, k.output.trans h.output, Nat.le_trans h.size k.size, fun i hi => (k.block i (hi.keep h)).trans (h.block i hi)⟩
theorem Keep.of_below {R b : Nat} {w w' : World} (h : Below w.heap.size w w') (_ : b + 2 ≤ w.heap.size) : Keep R b w w' := ⟨h.os, h.tape, h.output, h.size, fun k hk => h.block k hk.1⟩
theorem Keep.below {R b n : Nat} {w w' : World} (h : Keep R b w w') (hR : n ≤ R) (hb : n ≤ b) (hs : b ≤ w.heap.size) : Below n w w' :=
  ⟨h.os, h.tape, h.output, h.size, fun k hk => h.block k ⟨by omega, by omega, by omega, .inl (by omega)⟩⟩
theorem BldAt.below {w w' : World} {R b : Nat} {x : Bld} {v : Value} (h : BldAt w R b x v) (hb : Below w.heap.size w w') : BldAt w' R b x v := by
  obtain ⟨cur, h1, h2, h3⟩ := h.arr
  exact ⟨(hb.block b (by have := h.low; omega)).trans h.blk, h.own.below hb, ⟨cur, (hb.block R (by have := h.low; have := h.ne; omega)).trans h1, h2, h3⟩, h.ne, Nat.le_trans h.low hb.size, h.le⟩
theorem BldAt.drew {w : World} {R b : Nat} {x : Bld} {v : Value} (h : BldAt w R b x v) : BldAt w.drew R b x v := ⟨h.blk, h.own, h.arr, h.ne, h.low, h.le⟩
theorem BldAt.alloc {w : World} {R b : Nat} {x : Bld} {v : Value} (h : BldAt w R b x v) (o : Obj) : BldAt (w.alloc o) R b x v := h.below ((Below.refl _ _).alloc (Nat.le_refl _) o)
theorem BldAt.cells {w : World} {R b : Nat} {x : Bld} {v : Value} (h : BldAt w R b x v) :
    (w.cell? ⟨b, 0, none⟩ = some v ∧ w.cell? ⟨b, 1, none⟩ = some (.slice (some ⟨R, 0, none⟩) x.wt.length 4096) ∧ w.cell? ⟨b, 2, none⟩ = some (.bool x.hp)) ∧
    (w.frozen? ⟨b, 0, none⟩ = false ∧ w.frozen? ⟨b, 1, none⟩ = false ∧ w.frozen? ⟨b, 2, none⟩ = false) :=
  ⟨⟨cell_of_row w b 0 _ _ _ h.blk, cell_of_row w b 1 _ _ _ h.blk, cell_of_row w b 2 _ _ _ h.blk⟩, frozen_of_row w b 0 _ _ h.blk, frozen_of_row w b 1 _ _ h.blk, frozen_of_row w b 2 _ _ h.blk⟩
theorem BldAt.lt {w : World} {R b : Nat} {x : Bld} {v : Value} (h : BldAt w R b x v) : b < w.heap.size := by have := h.low; omega
theorem BldAt.form {w : World} {R b : Nat} {x : Bld} {v : Value} (h : BldAt w R b x v) : ∃ a c, v = .slice a x.st.length c := by
  rcases h.own.2 with ⟨rfl, h0⟩ | ⟨g, cap, cur, rfl, _⟩
  · exact ⟨none, 0, by rw [h0]⟩
  · exact ⟨_, cap, rfl⟩
/-- the row is none of the elder blocks -/
theorem BldAt.far {w : World} {R b : Nat} {x : Bld} {v : Value} (h : BldAt w R b x v) {k : Nat} (hk : k < b + 2) : some k ≠ v.ownBlock := fun e => by
  have := (h.own.lt k e.symm).1
  omega
theorem BldAt.far_kin {w : World} {R b : Nat} {x : Bld} {v : Value} (h : BldAt w R b x v) {k : Nat} (hk : Kin R b w k) : some k ≠ v.ownBlock := by
  rcases hk.2.2.2 with h1 | h1
  · exact h.far h1
  · intro e
    rcases h.own.2 with ⟨rfl, _⟩ | ⟨g, cap, cur, rfl, _, hg, _⟩
    · simp [Value.ownBlock] at e
    · simp only [Value.ownBlock, Option.some.injEq] at e
      subst e
      exact h1 _ _ hg
/-- what a method leaves that turns the builder -/
def Turn (R b : Nat) (w : World) (x : Bld) (w' : World) : Prop := (∃ v, BldAt w' R b x v) ∧ Keep R b w w'
theorem Turn.after {R b : Nat} {w w1 w2 : World} {x : Bld} (hs : Keep R b w w1) (h : Turn R b w1 x w2) : Turn R b w x w2 := ⟨h.1, hs.trans h.2⟩

/-- a row in blocks from base on, where other blocks are turned -/
theorem rowX_set {w : World} {base b i : Nat} {v : Value} {L : List Stp} (h : RowX w base v L) (hb : b < base) (u : Value) : RowX (w.setCell ⟨b, i, none⟩ u) base v L := by
  refine ⟨h.1, ?_⟩
  rcases h.2 with hn | ⟨g, cap, cur, hv, hg, hh, hr⟩
  · exact .inl hn
  · exact .inr ⟨g, cap, cur, hv, hg, by rw [heap_setCell_other _ _ _ _ (show g ≠ b by omega)]; exact hh, hr⟩
theorem size_set (w : World) (p : Addr) (u : Value) : (w.setCell p u).heap.size = w.heap.size := by simp [World.setCell]
/-- the row may have grown, and the new one is laid in the builder -/
theorem BldAt.turned {w w1 : World} {R b : Nat} {x : Bld} {v v' : Value} {st : List Stp} (h : BldAt w R b x v) (hg : w.grownBy w1 v.ownBlock) (hown : RowX w1 (b + 2) v' st) :
    BldAt (w1.setCell ⟨b, 0, none⟩ v') R b ⟨st, x.wt, x.hp⟩ v' ∧ Keep R b w (w1.setCell ⟨b, 0, none⟩ v') := by
  have hb := h.lt
  have hR := h.ne
  have h1 := (hg.block b hb (h.far (by omega))).trans h.blk
  obtain ⟨cur, a1, a2, a3⟩ := h.arr
  have h2 := (hg.block R (by omega) (h.far (by omega))).trans a1
  refine ⟨⟨heap_setCell_same w1 b 0 _ _ v' h1, rowX_set hown (by omega) v', ⟨cur, by rw [heap_setCell_other _ _ _ _ (show R ≠ b by omega)]; exact h2, a2, a3⟩, h.ne, ?_, h.le⟩, ⟨hg.os, hg.tape, hg.output, ?_, fun k hk => ?_⟩⟩
  · rw [size_set]; exact Nat.le_trans h.low hg.size
  · rw [size_set]; exact hg.size
  · rw [heap_setCell_other _ _ _ _ hk.2.2.1]
    exact hg.block k hk.1 (h.far_kin hk)
/-- a flag is laid -/
theorem BldAt.flag {w : World} {R b : Nat} {x : Bld} {v : Value} (h : BldAt w R b x v) (p : Bool) : Turn R b w ⟨x.st, x.wt, p⟩ (w.setCell ⟨b, 2, none⟩ (.bool p)) := by
  have hb := h.lt
  have hR := h.ne
  obtain ⟨cur, a1, a2, a3⟩ := h.arr
  refine ⟨⟨v, ⟨heap_setCell_same w b 2 _ _ _ h.blk, rowX_set h.own (by omega) _, ⟨cur, by rw [heap_setCell_other _ _ _ _ (show R ≠ b by omega)]; exact a1, a2, a3⟩, h.ne, by rw [size_set]; exact h.low, h.le⟩⟩, ⟨rfl, rfl, rfl, by rw [size_set]; exact Nat.le_refl _, fun k hk => ?_⟩⟩
  rw [heap_setCell_other _ _ _ _ hk.2.2.1]
/-- the last that waits is taken off -/
theorem BldAt.fewer {w : World} {R b : Nat} {st : List Stp} {k : Int} {r : List Int} {hp : Bool} {v : Value} (h : BldAt w R b ⟨st, k :: r, hp⟩ v) : Turn R b w ⟨st, r, hp⟩ (w.setCell ⟨b, 1, none⟩ (.slice (some ⟨R, 0, none⟩) r.length 4096)) := by
  have hb := h.lt
  have hR := h.ne
  have hl := h.le
  obtain ⟨cur, a1, a2, a3⟩ := h.arr
  simp only [List.length_cons] at hl a3
  refine ⟨⟨v, ⟨heap_setCell_same w b 1 _ _ _ h.blk, rowX_set h.own (by omega) _, ⟨cur, by rw [heap_setCell_other _ _ _ _ (show R ≠ b by omega)]; exact a1, a2, ?_⟩, h.ne, by rw [size_set]; exact h.low, by simp only; omega⟩⟩, ⟨rfl, rfl, rfl, by rw [size_set]; exact Nat.le_refl _, fun k hk => ?_⟩⟩
  · have e : (cur.toList.take (r.length + 1)).take r.length = cur.toList.take r.length := by
      rw [List.take_take]
      congr 1
      omega
    simp only
    rw [← e, a3, waits8_cons, List.take_left' (waits8_len r)]
  · rw [heap_setCell_other _ _ _ _ hk.2.2.1]
/-- one more waits -/
theorem BldAt.more {w : World} {R b : Nat} {x : Bld} {v : Value} (h : BldAt w R b x v) (hl : x.wt.length < 4096) (k : Int) {cur : Array Value} (hc : w.heap[R]? = some (.cells cur 83 (0, 0))) (h2 : cur.size = 4096) (h3 : cur.toList.take x.wt.length = waits8 x.wt) :
    Turn R b w ⟨x.st, k :: x.wt, x.hp⟩ ((w.setRow R (cur.toList.take x.wt.length ++ [Value.int .i64 k] ++ cur.toList.drop (x.wt.length + 1)).toArray).setCell ⟨b, 1, none⟩ (.slice (some ⟨R, 0, none⟩) (x.wt.length + 1) 4096)) := by
  have hb := h.lt
  have hR := h.ne
  have hblk := h.blk
  rw [← setRow_other w R b (cur.toList.take x.wt.length ++ [Value.int .i64 k] ++ cur.toList.drop (x.wt.length + 1)).toArray (by omega)] at hblk
  have hs : ∀ cs, (w.setRow R cs).heap.size = w.heap.size := fun cs => by simp [World.setRow]
  have hrow : RowX (w.setRow R (cur.toList.take x.wt.length ++ [Value.int .i64 k] ++ cur.toList.drop (x.wt.length + 1)).toArray) (b + 2) v x.st := by
    refine ⟨h.own.1, ?_⟩
    rcases h.own.2 with hn | ⟨g, cap, cur', hv, hg, hh, hr⟩
    · exact .inl hn
    · exact .inr ⟨g, cap, cur', hv, hg, by rw [setRow_other _ _ _ _ (show g ≠ R by omega)]; exact hh, hr⟩
  refine ⟨⟨v, ⟨heap_setCell_same _ b 1 _ _ _ hblk, rowX_set hrow (by omega) _, ⟨_, by rw [heap_setCell_other _ _ _ _ (show R ≠ b by omega)]; exact setRow_heap w R cur _ _ _ hc, ?_, ?_⟩, h.ne, by rw [size_set, hs]; exact h.low, by simp only [List.length_cons]; omega⟩⟩, ⟨rfl, rfl, rfl, by rw [size_set, hs]; exact Nat.le_refl _, fun k hk => ?_⟩⟩
  · simp only [List.size_toArray, List.length_append, List.length_take, List.length_drop, Array.length_toList, List.length_cons, List.length_nil]
    omega
  · simp only [List.length_cons]
    rw [waits8_cons, h3, List.take_append_of_le_length (by simp [waits8_len]), List.take_of_length_le (by simp [waits8_len])]
  · rw [heap_setCell_other _ _ _ _ hk.2.2.1, setRow_other _ _ _ _ hk.2.1]

/-! ### an append to a slice of an array, where there is room -/
theorem run_append_in {P : Program} (w : World) (t ty e e' : TypeId) (i : TypeInfo) (ht : P.underlying t = some (.slice e)) (hi : P.info? e = some i) (hone : i.size = 1)
    (g n cap : Nat) (cur : Array Value) (hg : w.heap[g]? = some (.cells cur e' (0, 0))) (a : Addr) (c : Nat) (u : Value) (hu : w.cell? a = some u) (ha : a.add 0 = a) (h1 : u.oneCell' = true) (hroom : n + 1 ≤ cap) (hfit : n + 1 ≤ cur.size) :
    (Builtin.append_ #[t, t] ty #[.slice (some ⟨g, 0, none⟩) n cap, .slice (some a) 1 c]).run P w =
      .ok (.slice (some ⟨g, 0, none⟩) (n + 1) cap) (w.setRow g (cur.toList.take n ++ [u] ++ cur.toList.drop (n + 1)).toArray) := by
  have hf := run_firstCells_some (P := P) w i.size 1 a 1 c [u] (by rw [hone]; rfl) (fun j z hj => by
    match j, hj with
    | 0, hj =>
      rw [ha]
      simpa [hu] using hj)
  have hst := run_storeCells_at P g (n * i.size) e' [u] 0 cur w hg (by rw [hone]; simpa using hfit) (by simpa using h1)
  rw [hone] at hf hst
  simp only [Nat.add_zero, Nat.mul_one, List.length_cons, List.length_nil] at hst
  simp [Builtin.append_, run_underlying ht, sizeOf, typeInfo, hi, Builtin.lenOf, hroom, hone, hf, Addr.add_lit, hst]
theorem wpList_append_in {w : World} {ops : Array Oper} {rest : List Oper} {o : Oper} {a : Act} {Q : Exit → Act → World → Prop} (hgd : o.guard = none) (s x : Operand)
    (ho : o.op = .call { callee := .builtin .append, args := #[s, x], argTypes := #[84, 84] })
    (g n cap : Nat) (cur : Array Value) (hg : w.heap[g]? = some (.cells cur 83 (0, 0))) (ad c : Nat) (k : Int) (hu : w.cell? ⟨ad, 0, none⟩ = some (.int .i64 k)) (hs : a.eval s = .slice (some ⟨g, 0, none⟩) n cap) (hx : a.eval x = .slice (some ⟨ad, 0, none⟩) 1 c)
    (hroom : n + 1 ≤ cap) (hfit : n + 1 ≤ cur.size)
    (h : ∀ W, Hid (W = w.setRow g (cur.toList.take n ++ [Value.int .i64 k] ++ cur.toList.drop (n + 1)).toArray) → wpList Tryd.prog ops Q rest (a.put o.dst (.slice (some ⟨g, 0, none⟩) (n + 1) cap)) W) : wpList Tryd.prog ops Q (o :: rest) a w := by
  obtain ⟨i, hi, hsz⟩ : ∃ i, Tryd.prog.info? 37 = some i ∧ i.size = 1 := Option.map_eq_some_iff.1 (show (Tryd.prog.info? 37).map (·.size) = some 1 by kernel_rfl)
  refine wpList_plain hgd fun _ hK => ?_
  have hr := run_append_in (P := Tryd.prog) w 84 o.type 37 83 i Tryd.underlying84 hi hsz g n cap cur hg ⟨ad, 0, none⟩ c (.int .i64 k) hu (by simp [Addr.add]) rfl hroom hfit
  unfold Oper.wp execOp
  simp only [ho, resolve, invoke, builtin, Sem.run_bind, Sem.run_pure, Result.andThen_ok, List.map_toArray, List.map_cons, List.map_nil, hs, hx, hr]
  exact hK _ _ (h _ (hidden rfl))
end Go.Proofs.YthiiinbkkjacbaaDoor

/- Contracts of the builder's methods that lay one thing: put, wait, release. -/
namespace Go.Proofs.YthiiinbkkjacbaaDoor
open Go.RowKit Go.Lib Go.Joins

set_option maxHeartbeats 2000000 in
set_option maxRecDepth 100000 in
theorem wait_calls {w : World} {R b : Nat} {x : Bld} {v : Value} (h : BldAt w R b x v) (k : Int) (hl : x.wt.length < 4096) :
    Calls Tryd.prog 72 #[.pointer (some ⟨b, 0, none⟩), .int .i64 k] w fun e w' => e = .returned (.tuple #[]) ∧ Turn R b w ⟨x.st, k :: x.wt, x.hp⟩ w' := by
  have H := hidden (h.alloc (.cells #[.int .i64 k] 37))
  have hlt := h.lt
  have hlow := h.low
  have HK := hidden (Keep.of_below (R := R) (b := b) ((Below.refl w.heap.size w).alloc (Nat.le_refl _) (.cells #[.int .i64 k] 37)) h.low)
  obtain ⟨⟨c0, c1, c2⟩, f0, f1, f2⟩ := h.cells
  obtain ⟨cur, a1, a2, a3⟩ := H.out.arr
  have HM := hidden (H.out.more hl k a1 a2 a3)
  have A1 := hidden a1
  have hR := h.ne
  obtain ⟨st, wt, hp⟩ := x
  simp only at *
  generalize hn : wt.length = n at *
  have HN := hidden hn
  clear a1 a3 h hn
  go_enter Tryd.func72, Tryd.ntmps72
  go_wp2_with (at_builtin; refine wpList_append_in rfl _ _ rfl R n 4096 cur A1.out w.heap.size 1 k ?c1 rfl rfl (by omega) (by omega) ?_)
  case c1 => simp
  intro W hW'
  have hW : W = (w.alloc (.cells #[.int .i64 k] 37)).setRow R (cur.toList.take n ++ [Value.int .i64 k] ++ cur.toList.drop (n + 1)).toArray := by
    rw [hW'.out]
    simp
  clear hW'
  have hblk : W.heap[b]? = some (.cells #[v, .slice (some ⟨R, 0, none⟩) n 4096, .bool hp] 86 (0, 0)) := by
    rw [hW, setRow_other _ _ _ _ (show b ≠ R by omega)]
    have hx := H.out.blk
    simp only [HN.out] at hx
    exact hx
  rw [← hW] at HM
  have d1 := cell_of_row W b 1 _ _ _ hblk
  have g1 := frozen_of_row W b 1 _ _ hblk
  clear hW hblk A1
  go_wp2
  go_end0
  exact ⟨rfl, Turn.after HK.out HM.out⟩
theorem put_news (w : World) (s : Stp) : ∀ j u, s.cells[j]? = some u → ((w.alloc (.cells #[.int .i64 s.k, .int .u64 s.a, .int .u64 s.b, .int .u64 s.c, .int .u64 s.d] 39)).drew.alloc (.cells #[.int .i64 s.k, .int .u64 s.a, .int .u64 s.b, .int .u64 s.c, .int .u64 s.d] 39)).cell? ((⟨w.heap.size + 1, 0, none⟩ : Addr).add j) = some u := by
  have h := heap_alloc_new (w.alloc (.cells #[.int .i64 s.k, .int .u64 s.a, .int .u64 s.b, .int .u64 s.c, .int .u64 s.d] 39)).drew (.cells #[.int .i64 s.k, .int .u64 s.a, .int .u64 s.b, .int .u64 s.c, .int .u64 s.d] 39)
  have e : (w.alloc (.cells #[.int .i64 s.k, .int .u64 s.a, .int .u64 s.b, .int .u64 s.c, .int .u64 s.d] 39)).drew.heap.size = w.heap.size + 1 := by simp
  rw [e] at h
  exact World.news_of_block h
theorem stp_cells1 {s : Stp} {u : Value} (h : u ∈ s.cells) : u.oneCell' = true := by
  simp only [Stp.cells, List.mem_cons, List.not_mem_nil, or_false] at h
  rcases h with rfl | rfl | rfl | rfl | rfl <;> rfl
/-- the world in which the append is run -/
def putW (w : World) (s : Stp) : World := (w.alloc (.cells #[.int .i64 s.k, .int .u64 s.a, .int .u64 s.b, .int .u64 s.c, .int .u64 s.d] 39)).drew.alloc (.cells #[.int .i64 s.k, .int .u64 s.a, .int .u64 s.b, .int .u64 s.c, .int .u64 s.d] 39)
theorem putW_bld {w : World} {R b : Nat} {x : Bld} {v : Value} (h : BldAt w R b x v) (s : Stp) : BldAt (putW w s) R b x v := (h.alloc _).drew.alloc _
theorem put_cell {w w5 : World} {R b : Nat} {x : Bld} {v : Value} {s : Stp} (h : BldAt w R b x v) (hg : ((w.alloc (.cells #[.int .i64 s.k, .int .u64 s.a, .int .u64 s.b, .int .u64 s.c, .int .u64 s.d] 39)).drew.alloc (.cells #[.int .i64 s.k, .int .u64 s.a, .int .u64 s.b, .int .u64 s.c, .int .u64 s.d] 39)).grownBy w5 v.ownBlock) : w5.cell? ⟨b, 0, none⟩ = some v ∧ w5.frozen? ⟨b, 0, none⟩ = false := by
  have h' := putW_bld h s
  have hb := (hg.block b h'.lt (h'.far (by omega))).trans h'.blk
  exact ⟨cell_of_row w5 b 0 _ _ _ hb, frozen_of_row w5 b 0 _ _ hb⟩
theorem put_turned {w w5 : World} {R b : Nat} {x : Bld} {v v' : Value} {s : Stp} (h : BldAt w R b x v) (hg : ((w.alloc (.cells #[.int .i64 s.k, .int .u64 s.a, .int .u64 s.b, .int .u64 s.c, .int .u64 s.d] 39)).drew.alloc (.cells #[.int .i64 s.k, .int .u64 s.a, .int .u64 s.b, .int .u64 s.c, .int .u64 s.d] 39)).grownBy w5 v.ownBlock) (hown : w5.ownsRow (b + 2) 39 5 v' (x.st.length + 1) (rxCells x.st ++ s.cells)) :
    BldAt (w5.setCell ⟨b, 0, none⟩ v') R b ⟨x.st ++ [s], x.wt, x.hp⟩ v' ∧ Keep R b w (w5.setCell ⟨b, 0, none⟩ v') := by
  have h' := putW_bld h s
  have hr : RowX w5 (b + 2) v' (x.st ++ [s]) := RowX.more (M := [s]) (by simpa [rxCells] using hown)
  obtain ⟨t1, t2⟩ := h'.turned hg hr
  exact ⟨t1, (Keep.of_below (((Below.refl w.heap.size w).alloc (Nat.le_refl _) _).drew.alloc (by simp) _) h.low).trans t2⟩
set_option maxHeartbeats 2000000 in
set_option maxRecDepth 100000 in
theorem put_calls {w : World} {R b : Nat} {x : Bld} {v : Value} (h : BldAt w R b x v) (s : Stp) (hl : x.st.length < 900000) :
    Calls Tryd.prog 56 #[.pointer (some ⟨b, 0, none⟩), s.val] w fun e w' => e = .returned (.tuple #[]) ∧ Turn R b w ⟨x.st ++ [s], x.wt, x.hp⟩ w' := by
  have hlt := h.lt
  have hlow := h.low
  obtain ⟨i0, hi, hz0, hz1, hz2⟩ := info_parts infoRx
  obtain ⟨⟨c0, c1, c2⟩, f0, f1, f2⟩ := h.cells
  obtain ⟨a0, cp, rfl⟩ := h.form
  have HI := hidden hi
  have HZ := hidden (And.intro hz0 (And.intro hz1 hz2))
  have hS := hidden h
  clear h hi hz0 hz1 hz2
  have K3 := hidden (show x.st.length + 1 ≤ maxLen by unfold maxLen; omega)
  have K4 := hidden (show (x.st.length + 1) * 40 ≤ 140737488355328 by omega)
  have hO : Hid (((w.alloc (.cells #[.int .i64 s.k, .int .u64 s.a, .int .u64 s.b, .int .u64 s.c, .int .u64 s.d] 39)).drew.alloc (.cells #[.int .i64 s.k, .int .u64 s.a, .int .u64 s.b, .int .u64 s.c, .int .u64 s.d] 39)).ownsRow (b + 2) 39 5 (.slice a0 x.st.length cp) x.st.length (rxCells x.st)) := hidden ((hS.out.alloc (.cells #[.int .i64 s.k, .int .u64 s.a, .int .u64 s.b, .int .u64 s.c, .int .u64 s.d] 39)).drew.alloc (.cells #[.int .i64 s.k, .int .u64 s.a, .int .u64 s.b, .int .u64 s.c, .int .u64 s.d] 39)).own
  unfold Stp.val
  go_enter Tryd.func56, Tryd.ntmps56
  go_wp2
  go_region_law (refine step_append_lies _ rfl _ _ 22 rfl (b + 2) 39 i0 (kStp 0).val 5 40 Tryd.underlying22 HI.out HZ.out.1 HZ.out.2.1 HZ.out.2.2 rfl (by decide) _ _ _ rfl hO.out ⟨w.heap.size + 1, 0, none⟩ 1 1 s.cells rfl rfl (put_news w s) (fun u hu => stp_cells1 hu) (by decide) K3.out K4.out ((hS.out.alloc (.cells #[.int .i64 s.k, .int .u64 s.a, .int .u64 s.b, .int .u64 s.c, .int .u64 s.d] 39)).drew.alloc (.cells #[.int .i64 s.k, .int .u64 s.a, .int .u64 s.b, .int .u64 s.c, .int .u64 s.d] 39)).low _ rfl ?_; intro g5 cap5 w5 hown5 hgrow5 hlie5 hlt5; have hT5 := hidden (put_turned hS.out hgrow5 hown5); have d5 : w5.cell? ⟨b, 0, none⟩ = some (.slice a0 x.st.length cp) := (put_cell hS.out hgrow5).1; have e5 : w5.frozen? ⟨b, 0, none⟩ = false := (put_cell hS.out hgrow5).2; clear hown5 hgrow5 hlie5 hlt5)
  all_goals
    go_wp2
    go_end0
    exact ⟨rfl, ⟨_, hT5.out.1⟩, hT5.out.2⟩
end Go.Proofs.YthiiinbkkjacbaaDoor
