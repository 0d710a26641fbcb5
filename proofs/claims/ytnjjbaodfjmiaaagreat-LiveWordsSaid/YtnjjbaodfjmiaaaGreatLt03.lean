/- RxRow, RxAsk, RxMake, RxJoin, put together. -/
import Derived.Test.YtnjjbaodfjmiaaaGreatLt02
import Derived.ChangeKeysEq
import Derived.Laws.StructEq
import Derived.Laws.OwnMore
import Derived.RangeFuncBox
import Derived.Laws.AppendOwnNone
/- Slices of steps: what they read as; rows of steps that a call has made; two lists held against one another (slices.Equal, rx.Same). -/
namespace Go.Proofs.YtnjjbaodfjmiaaaGreat
open Go.RowKit Go.Lib Go.Joins

/-- block b has the step s from place i on -/
def RxAt (w : World) (b i : Nat) (s : Stp) : Prop :=
  w.cell? ⟨b, i, none⟩ = some (.int .i64 s.k) ∧ w.cell? ⟨b, i + 1, none⟩ = some (.int .u64 s.a) ∧ w.cell? ⟨b, i + 2, none⟩ = some (.int .u64 s.b) ∧ w.cell? ⟨b, i + 3, none⟩ = some (.int .u64 s.c) ∧ w.cell? ⟨b, i + 4, none⟩ = some (.int .u64 s.d)
theorem RxAt.kept {w w' : World} {b i : Nat} {s : Stp} (h : RxAt w b i s) (hb : w'.heap[b]? = w.heap[b]?) : RxAt w' b i s :=
  ⟨(World.cell?_of_block (a := ⟨b, _, none⟩) hb).trans h.1, (World.cell?_of_block (a := ⟨b, _, none⟩) hb).trans h.2.1, (World.cell?_of_block (a := ⟨b, _, none⟩) hb).trans h.2.2.1, (World.cell?_of_block (a := ⟨b, _, none⟩) hb).trans h.2.2.2.1, (World.cell?_of_block (a := ⟨b, _, none⟩) hb).trans h.2.2.2.2⟩
/-- a slice of steps that reads as a list, in a block that meets C -/
def Rxs (C : Nat → Prop) (w : World) (a : Option Addr) (len : Nat) (L : List Stp) : Prop :=
  L.length = len ∧ (0 < len → ∃ b off, a = some ⟨b, off, none⟩ ∧ C b ∧ ∀ i, i < len → RxAt w b (off + i * 5) (L.getD i default))
theorem Rxs.below {C C' : Nat → Prop} {w w' : World} {a : Option Addr} {len : Nat} {L : List Stp} (h : Rxs C w a len L) (hb : ∀ b, C b → C' b ∧ w'.heap[b]? = w.heap[b]?) : Rxs C' w' a len L := by
  refine ⟨h.1, fun hp => ?_⟩
  obtain ⟨b, off, e, hC, hc⟩ := h.2 hp
  exact ⟨b, off, e, (hb b hC).1, fun i hi => (hc i hi).kept (hb b hC).2⟩
/-- the cells of a list of steps -/
def rxCells : List Stp → List Value
  | [] => []
  | s :: r => s.cells ++ rxCells r
theorem rxCells_len : ∀ L, (rxCells L).length = L.length * 5
  | [] => rfl
  | s :: r => by
    simp only [rxCells, List.length_append, rxCells_len r, List.length_cons, Stp.cells, List.length_nil]
    omega
theorem rxCells_append : ∀ a b, rxCells (a ++ b) = rxCells a ++ rxCells b
  | [], b => rfl
  | s :: r, b => by simp [rxCells, rxCells_append r b]
theorem rxCells_get : ∀ (L : List Stp) (i : Nat), i < L.length → ∀ j, j < 5 → (rxCells L)[i * 5 + j]? = ((L.getD i default).cells)[j]?
  | [], i, h, _, _ => by simp at h
  | s :: r, 0, _, j, hj => by
    simp only [rxCells, List.getD_cons_zero, Nat.zero_mul, Nat.zero_add]
    rw [List.getElem?_append_left (by simpa [Stp.cells] using hj)]
  | s :: r, i + 1, h, j, hj => by
    have ih := rxCells_get r i (by simpa using h) j hj
    have e : (s.cells).length = 5 := rfl
    rw [rxCells, List.getD_cons_succ, ← ih, show (i + 1) * 5 + j = 5 + (i * 5 + j) by omega, List.getElem?_append_right (by rw [e]; omega), e, Nat.add_sub_cancel_left]
theorem rxCells_one {u : Value} {L : List Stp} (h : u ∈ rxCells L) : u.oneCell' = true := by
  induction L with
  | nil => simp [rxCells] at h
  | cons s r ih =>
    rw [rxCells, List.mem_append] at h
    rcases h with h | h
    · simp only [Stp.cells, List.mem_cons, List.not_mem_nil, or_false] at h
      rcases h with rfl | rfl | rfl | rfl | rfl <;> rfl
    · exact ih h
/-- the cells that an append reads -/
theorem Rxs.news {C : Nat → Prop} {w : World} {b off len : Nat} {L : List Stp} (h : Rxs C w (some ⟨b, off, none⟩) len L) : ∀ j u, (rxCells L)[j]? = some u → w.cell? ((⟨b, off, none⟩ : Addr).add j) = some u := by
  intro j u hj
  have hl : j < L.length * 5 := by
    have := (List.getElem?_eq_some_iff.1 hj).1
    rwa [rxCells_len] at this
  obtain ⟨b', off', e, _, hc⟩ := h.2 (by rw [← h.1]; omega)
  simp only [Option.some.injEq, Addr.mk.injEq, and_true] at e
  obtain ⟨rfl, rfl⟩ := e
  have hi : j / 5 < L.length := by omega
  obtain ⟨c0, c1, c2, c3, c4⟩ := hc (j / 5) (by rw [← h.1]; exact hi)
  have hg := rxCells_get L (j / 5) hi (j % 5) (Nat.mod_lt _ (by decide))
  rw [show j / 5 * 5 + j % 5 = j by omega, hj] at hg
  rw [Addr.add_lit]
  have hm : j % 5 = 0 ∨ j % 5 = 1 ∨ j % 5 = 2 ∨ j % 5 = 3 ∨ j % 5 = 4 := by omega
  rcases hm with e | e | e | e | e
  · rw [e] at hg; rw [show off + j = off + j / 5 * 5 by omega, c0, hg]; rfl
  · rw [e] at hg; rw [show off + j = off + j / 5 * 5 + 1 by omega, c1, hg]; rfl
  · rw [e] at hg; rw [show off + j = off + j / 5 * 5 + 2 by omega, c2, hg]; rfl
  · rw [e] at hg; rw [show off + j = off + j / 5 * 5 + 3 by omega, c3, hg]; rfl
  · rw [e] at hg; rw [show off + j = off + j / 5 * 5 + 4 by omega, c4, hg]; rfl

theorem infoRx : (Tryz.prog.info? 129).map (fun i => (i.zero, i.size, i.bytes)) = some (some (kStp 0).val, 5, 40) := by kernel_rfl
/-- slice value v owns the steps L, in a block from base on -/
def RowX (w : World) (base : Nat) (v : Value) (L : List Stp) : Prop := w.ownsRow base 129 5 v L.length (rxCells L)
/-- slice value v reads as the steps L, in a block that meets C -/
def SlX (C : Nat → Prop) (w : World) (v : Value) (L : List Stp) : Prop := ∃ a cap, v = .slice a L.length cap ∧ L.length ≤ cap ∧ cap ≤ maxLen ∧ (a = none → cap = 0) ∧ Rxs C w a L.length L
/-- slice value v reads as the steps L, in a block from base on -/
def ReadsX (w : World) (base : Nat) (v : Value) (L : List Stp) : Prop := SlX (fun b => base ≤ b ∧ b < w.heap.size) w v L
theorem SlX.below {C C' : Nat → Prop} {w w' : World} {v : Value} {L : List Stp} (h : SlX C w v L) (hb : ∀ b, C b → C' b ∧ w'.heap[b]? = w.heap[b]?) : SlX C' w' v L := by
  obtain ⟨a, cap, rfl, h1, h2, h0, hS⟩ := h
  exact ⟨a, cap, rfl, h1, h2, h0, hS.below hb⟩
theorem rxAt_of_cells {w : World} {g : Nat} {L : List Stp} {i : Nat} (hi : i < L.length) (h : ∀ j, j < L.length * 5 → w.cell? ⟨g, j, none⟩ = (rxCells L)[j]?) : RxAt w g (i * 5) (L.getD i default) := by
  have hg := rxCells_get L i hi
  refine ⟨?_, ?_, ?_, ?_, ?_⟩
  · rw [h _ (by omega)]; have := hg 0 (by decide); simpa [Stp.cells] using this
  · rw [h _ (by omega)]; have := hg 1 (by decide); simpa [Stp.cells] using this
  · rw [h _ (by omega)]; have := hg 2 (by decide); simpa [Stp.cells] using this
  · rw [h _ (by omega)]; have := hg 3 (by decide); simpa [Stp.cells] using this
  · rw [h _ (by omega)]; have := hg 4 (by decide); simpa [Stp.cells] using this
theorem RowX.reads {w : World} {base : Nat} {v : Value} {L : List Stp} (h : RowX w base v L) : ReadsX w base v L := by
  have h' := h
  obtain ⟨_, ⟨rfl, h1⟩ | ⟨g, cap, cur, rfl, hb, hg, h1, h2, h3, h4⟩⟩ := h
  · exact ⟨none, 0, by rw [h1], by omega, by decide, fun _ => rfl, rfl, fun h => by omega⟩
  · refine ⟨some ⟨g, 0, none⟩, cap, rfl, h1, h2, (fun e => by cases e), rfl, fun _ => ⟨g, 0, rfl, ⟨hb, (Array.getElem?_eq_some_iff.1 hg).1⟩, fun i hi => ?_⟩⟩
    rw [Nat.zero_add]
    exact rxAt_of_cells hi fun j hj => World.ownsRow.cellAt h' j hj
theorem ReadsX.kept {w w' : World} {base : Nat} {v : Value} {L : List Stp} (h : ReadsX w base v L) (hb : Below w.heap.size w w') : ReadsX w' base v L :=
  SlX.below h fun b hb' => ⟨⟨hb'.1, by have := hb.size; omega⟩, hb.block b hb'.2⟩
theorem ReadsX.lower {w : World} {base base' : Nat} {v : Value} {L : List Stp} (h : ReadsX w base v L) (hb : base' ≤ base) : ReadsX w base' v L :=
  SlX.below h fun b hb' => ⟨⟨by omega, hb'.2⟩, rfl⟩
theorem RowX.nil (w : World) (base : Nat) : RowX w base (.slice none 0 0) [] := World.ownsRow_nil _ _ _ _
theorem RowX.below {w w' : World} {base : Nat} {v : Value} {L : List Stp} (h : RowX w base v L) (hb : Below w.heap.size w w') : RowX w' base v L := by
  refine ⟨h.1, ?_⟩
  rcases h.2 with hn | ⟨g, cap, cur, rfl, hb', hgg, rest⟩
  · exact .inl hn
  · exact .inr ⟨g, cap, cur, rfl, hb', by rw [hb.block g (Array.getElem?_eq_some_iff.1 hgg).1]; exact hgg, rest⟩
theorem RowX.more {w : World} {base : Nat} {v : Value} {L M : List Stp} (h : w.ownsRow base 129 5 v (L.length + M.length) (rxCells L ++ rxCells M)) : RowX w base v (L ++ M) := by
  unfold RowX
  rw [rxCells_append, List.length_append]
  exact h
theorem RowX.lower {w : World} {base base' : Nat} {v : Value} {L : List Stp} (h : RowX w base v L) (hb : base' ≤ base) : RowX w base' v L := ownsRow_le h hb
/-- what a call that makes steps hands back -/
def RetX (w : World) (L : List Stp) (e : Ending) (w' : World) : Prop := ∃ v, e = .returned v ∧ RowX w' w.heap.size v L ∧ Below w.heap.size w w'

/-! ### two lists held against one another -/
open Classical in
noncomputable def sameX (a b : List Stp) : Bool := decide (a = b)
theorem sameX_yes (a : List Stp) : sameX a a = true := by simp [sameX]
theorem sameX_no {a b : List Stp} (h : a ≠ b) : sameX a b = false := by simp [sameX, h]
def eqStp (x y : Stp) : Bool := x.k == y.k && (x.a == y.a && (x.b == y.b && (x.c == y.c && (x.d == y.d && true))))
theorem eqStp_iff (x y : Stp) : eqStp x y = true ↔ x = y := by
  obtain ⟨k, a, b, c, d⟩ := x
  obtain ⟨k', a', b', c', d'⟩ := y
  simp [eqStp]
theorem eq_fourAt (w : World) (D : Nat) (a0 a1 a2 a3 b0 b1 b2 b3 : Int) :
    (Op.equalIn (D + 1 + 1) 103 (.agg #[.int .u64 a0, .int .u64 a1, .int .u64 a2, .int .u64 a3]) (.agg #[.int .u64 b0, .int .u64 b1, .int .u64 b2, .int .u64 b3])).run Tryz.prog w = .ok (a0 == b0 && (a1 == b1 && (a2 == b2 && (a3 == b3 && true)))) w := by
  obtain ⟨i, hi⟩ : ∃ i, Tryz.prog.info? 101 = some i := Option.isSome_iff_exists.1 (by kernel_rfl)
  have hc : Tryz.prog.cellsOf 101 = 1 := by kernel_rfl
  have he : Tryz.prog.plainKey 101 = true := by kernel_rfl
  rw [run_equalIn_array (P := Tryz.prog) (w := w) (D + 1) _ _ Tryz.underlying103 hi, hc, show List.range 4 = [0, 1, 2, 3] from rfl]
  exact items_step (d := D) he Tryz.underlying101 rfl rfl (items_step he Tryz.underlying101 rfl rfl (items_step he Tryz.underlying101 rfl rfl (items_step he Tryz.underlying101 rfl rfl items_end)))
theorem part_set (w : World) (k a b c d : Int) : (part 103 #[.int .i64 k, .int .u64 a, .int .u64 b, .int .u64 c, .int .u64 d] 1).run Tryz.prog w = .ok (.agg #[.int .u64 a, .int .u64 b, .int .u64 c, .int .u64 d]) w := by
  simp [part, isAgg, run_underlying Tryz.underlying103]
theorem eq_stp (w : World) (x y : Stp) : (Op.equalIn 10000 129 x.val y.val).run Tryz.prog w = .ok (eqStp x y) w := by
  obtain ⟨k, a, b, c, d⟩ := x
  obtain ⟨k', a', b', c', d'⟩ := y
  have he : Tryz.prog.plainKey 127 = true := by kernel_rfl
  have hf : Tryz.prog.underlying 129 = some (.struct (Tryz.prog.fieldsOf 129)) := by kernel_rfl
  have hm : (Tryz.prog.fieldsOf 129).toList.map (fun f => (f.type, f.offset, f.name)) = [(127, 0, "Kind"), (103, 1, "Set")] := by kernel_rfl
  obtain ⟨f0, f1, hfs, t0, o0, n0, t1, o1, n1⟩ : ∃ f0 f1, (Tryz.prog.fieldsOf 129).toList = [f0, f1] ∧ f0.type = 127 ∧ f0.offset = 0 ∧ f0.name = "Kind" ∧ f1.type = 103 ∧ f1.offset = 1 ∧ f1.name = "Set" := by
    generalize (Tryz.prog.fieldsOf 129).toList = l at hm
    rcases l with _ | ⟨f0, _ | ⟨f1, _ | ⟨f2, r⟩⟩⟩
    · cases hm
    · cases (List.cons.inj hm).2
    · simp only [List.map_cons, List.map_nil, List.cons.injEq, Prod.mk.injEq, and_true] at hm
      exact ⟨f0, f1, rfl, hm.1.1, hm.1.2.1, hm.1.2.2, hm.2.1, hm.2.2.1, hm.2.2.2⟩
    · cases (List.cons.inj (List.cons.inj hm).2).2
  unfold Stp.val
  rw [run_equalIn_struct w 9999 _ _ _ hf (by kernel_rfl), hfs]
  simp only [Op.eqFields, t0, o0, n0, t1, o1, n1]
  simp only [ne_eq, String.reduceEq, not_false_eq_true, if_true, Sem.run_bind]
  rw [run_part_plain (P := Tryz.prog) (w := w) he (v := .int .i64 k) rfl]
  simp only [Result.andThen_ok]
  rw [run_part_plain (P := Tryz.prog) (w := w) he (v := .int .i64 k') rfl]
  simp only [Result.andThen_ok]
  rw [run_equalIn_int w 9998 _ .i64 .i64 k k' Tryz.underlying127]
  simp only [Result.andThen_ok, eqStp]
  cases (k == k')
  · simp
  · simp only [Bool.not_true, Bool.false_eq_true, if_false, Sem.run_bind, part_set, Result.andThen_ok, eq_fourAt w 9997, Bool.true_and]
    cases (a == a' && (b == b' && (c == c' && (d == d' && true)))) <;> simp
end Go.Proofs.YtnjjbaodfjmiaaaGreat

/- Contracts of what is asked of steps: operands, measure, Check, High, Begin, slices.Equal at steps, Same. -/
namespace Go.Proofs.YtnjjbaodfjmiaaaGreat
open Go.RowKit

/-! ### what is wrong with steps, and how many parts they make -/
theorem meas_step {L : List Stp} {k : Nat} {p h : Int} {r : Int × Int} (e : r = measGo (L.drop k) p h) (hk : k < L.length) :
    (¬ (L.getD k default).good → r = (0, 1)) ∧ ((L.getD k default).good → p < kOps (L.getD k default).k → r = (0, 3)) ∧ ((L.getD k default).good → kOps (L.getD k default).k ≤ p → r = measGo (L.drop (k + 1)) (p + (1 - kOps (L.getD k default).k)) (max h (p + (1 - kOps (L.getD k default).k)))) := by
  rw [List.drop_eq_getElem_cons hk, measGo] at e
  have e1 : L.getD k default = L[k] := by rw [List.getD_eq_getElem?_getD, List.getElem?_eq_getElem hk]; rfl
  rw [e1]
  refine ⟨fun h1 => ?_, fun h1 h2 => ?_, fun h1 h2 => ?_⟩
  · rw [if_neg h1] at e; exact e
  · rw [if_pos h1, if_pos h2] at e; exact e
  · rw [if_pos h1, if_neg (by omega)] at e; exact e
theorem meas_end {L : List Stp} {k : Nat} {p h : Int} {r : Int × Int} (e : r = measGo (L.drop k) p h) (hk : L.length ≤ k) : r = if p = 1 then (h, 0) else (0, 3) := by
  rw [List.drop_eq_nil_of_le hk] at e
  exact e
/-! ### where a part begins -/
end Go.Proofs.YtnjjbaodfjmiaaaGreat

/- Contracts of what makes one step: step, Set, Empty, the reference's Set and Empty. -/
namespace Go.Proofs.YtnjjbaodfjmiaaaGreat
open Go.RowKit

theorem row_one (w : World) (s : Stp) (b : Nat) (hb : b = w.heap.size) (base : Nat) (h : base ≤ w.heap.size) : RowX (w.alloc (.cells #[.int .i64 s.k, .int .u64 s.a, .int .u64 s.b, .int .u64 s.c, .int .u64 s.d] 129)) base (.slice (some ⟨b, 0, none⟩) 1 1) [s] := by
  subst hb
  exact World.ownsRow_lit (e := 129) (size := 5) w _ 1 h (by decide) rfl
theorem rset_rx (a b c d : Int) (w : World) : Calls Tryz.prog 106 #[.agg #[.int .u64 a, .int .u64 b, .int .u64 c, .int .u64 d]] w (RetX w [⟨1, a, b, c, d⟩]) := by
  go_enter Tryz.func106, Tryz.ntmps106
  go_wp2
  go_ret
  exact ⟨_, rfl, row_one _ ⟨1, a, b, c, d⟩ _ (by simp) _ (by simp), by go_grown⟩
theorem rempty_rx (w : World) : Calls Tryz.prog 120 #[] w (RetX w [kStp 2]) := by
  go_enter Tryz.func120, Tryz.ntmps120
  go_wp2
  go_ret
  exact ⟨_, rfl, row_one w (kStp 2) _ rfl _ (Nat.le_refl _), by go_grown⟩
end Go.Proofs.YtnjjbaodfjmiaaaGreat

/- Lists of lists of steps; contracts of what joins them: the closure of joined, joined, the reference's many. -/
namespace Go.Proofs.YtnjjbaodfjmiaaaGreat
open Go.RowKit Go.Lib Go.Joins

/-- a slice of slices of steps that reads as a list of lists; all blocks meet C -/
def Rxss (C : Nat → Prop) (w : World) (a : Option Addr) (len : Nat) (LL : List (List Stp)) : Prop :=
  LL.length = len ∧ (0 < len → ∃ b off, a = some ⟨b, off, none⟩ ∧ C b ∧ ∀ i, i < len → ∃ v, w.cell? ⟨b, off + i, none⟩ = some v ∧ SlX C w v (LL.getD i []))
def SlXs (C : Nat → Prop) (w : World) (v : Value) (LL : List (List Stp)) : Prop := ∃ a cap, v = .slice a LL.length cap ∧ LL.length ≤ cap ∧ cap ≤ maxLen ∧ Rxss C w a LL.length LL
theorem Rxss.below {C C' : Nat → Prop} {w w' : World} {a : Option Addr} {len : Nat} {LL : List (List Stp)} (h : Rxss C w a len LL) (hb : ∀ b, C b → C' b ∧ w'.heap[b]? = w.heap[b]?) : Rxss C' w' a len LL := by
  refine ⟨h.1, fun hp => ?_⟩
  obtain ⟨b, off, e, hC, hc⟩ := h.2 hp
  refine ⟨b, off, e, (hb b hC).1, fun i hi => ?_⟩
  obtain ⟨v, h1, h2⟩ := hc i hi
  exact ⟨v, (World.cell?_of_block (a := ⟨b, off + i, none⟩) (hb b hC).2).trans h1, h2.below hb⟩
theorem SlXs.below {C C' : Nat → Prop} {w w' : World} {v : Value} {LL : List (List Stp)} (h : SlXs C w v LL) (hb : ∀ b, C b → C' b ∧ w'.heap[b]? = w.heap[b]?) : SlXs C' w' v LL := by
  obtain ⟨a, cap, rfl, h1, h2, hS⟩ := h
  exact ⟨a, cap, rfl, h1, h2, hS.below hb⟩

/-- an append to a row of the call's own, from wherever the steps lie -/
theorem append_rx {P : Program} {w : World} {ops : Array Oper} {rest : List Oper} {o : Oper} {a : Act} {Q : Exit → Act → World → Prop} (hP : P = Tryz.prog) (hgd : o.guard = none) (s x : Operand)
    (ho : o.op = .call { callee := .builtin .append, args := #[s, x], argTypes := #[61, 61] })
    (base : Nat) (v u : Value) (L M : List Stp) (hs : a.eval s = v) (hown : RowX w base v L) {C : Nat → Prop} (hx : a.eval x = u) (hM : SlX C w u M) (hsz : L.length + M.length ≤ 1000000) (hbase : base ≤ w.heap.size)
    (h : ∀ a' l' c' w', RowX w' base (.slice a' l' c') (L ++ M) → w.grownBy w' v.ownBlock → wpList P ops Q rest (a.put o.dst (.slice a' l' c')) w') : wpList P ops Q (o :: rest) a w := by
  have h : ∀ v' w', RowX w' base v' (L ++ M) → w.grownBy w' v.ownBlock → wpList P ops Q rest (a.put o.dst v') w' := fun v' w' h1 h2 => by
    rcases ownsRow_forms h1 with ⟨rfl, _⟩ | ⟨g, cap, rfl⟩
    · exact h _ _ _ _ h1 h2
    · exact h _ _ _ _ h1 h2
  subst hP
  obtain ⟨i0, hi, hz0, hz1, hz2⟩ := info_parts infoRx
  obtain ⟨ad, cap, rfl, h1, h2, h0, hS⟩ := hM
  cases ad with
  | none =>
    have e0 := h0 rfl
    subst e0
    have hM0 : M = [] := List.eq_nil_of_length_eq_zero (by omega)
    subst hM0
    refine wpList_append_own_none hgd s x 61 ho base 129 i0 5 Tryz.underlying61 hi v L.length (rxCells L) hs hown hx (h v w ?_ ⟨rfl, rfl, rfl, Nat.le_refl _, fun _ _ _ => rfl⟩)
    rw [List.append_nil]
    exact hown
  | some ad =>
    obtain ⟨b, off, spot⟩ := ad
    have hnews : ∀ j z, (rxCells M)[j]? = some z → w.cell? ((⟨b, off, spot⟩ : Addr).add j) = some z := by
      by_cases hm : 0 < M.length
      · obtain ⟨b', off', e, _⟩ := hS.2 hm
        simp only [Option.some.injEq, Addr.mk.injEq] at e
        obtain ⟨rfl, rfl, rfl⟩ := e
        exact hS.news
      · have hM0 : M = [] := List.eq_nil_of_length_eq_zero (by omega)
        subst hM0
        intro j z hz
        simp [rxCells] at hz
    refine wpList_append_own w hgd s x 61 ho base 129 i0 _ 5 40 Tryz.underlying61 hi hz0 hz1 hz2 rfl (by decide) v L.length (rxCells L) hs hown ⟨b, off, spot⟩ M.length cap (rxCells M) hx (rxCells_len M) hnews (fun z hz => rxCells_one hz) (by unfold maxLen; omega) (by omega) hbase fun v' w' h3 h4 _ => h v' w' (RowX.more h3) h4
/-! ### lists of steps put behind one another -/
def jt (k : Int) : List (List Stp) → List Stp
  | [] => []
  | x :: r => x ++ [kStp k] ++ jt k r
def jn (k : Int) : List (List Stp) → List Stp
  | [] => []
  | x :: r => x ++ jt k r
theorem jt_append (k : Int) : ∀ a b, jt k (a ++ b) = jt k a ++ jt k b
  | [], b => rfl
  | x :: r, b => by simp [jt, jt_append k r b]
theorem take_moreL (R : List (List Stp)) (i : Nat) (h : i < R.length) : R.take (i + 1) = R.take i ++ [R.getD i []] := by
  rw [List.take_succ_eq_append_getElem h, List.getD_eq_getElem?_getD, List.getElem?_eq_getElem h]
  rfl
theorem jt_take (k : Int) (R : List (List Stp)) (i : Nat) (h : i < R.length) : jt k (R.take (i + 1)) = jt k (R.take i) ++ R.getD i [] ++ [kStp k] := by
  rw [take_moreL R i h, jt_append]
  simp [jt]
theorem jt_le (k : Int) (R : List (List Stp)) (i : Nat) : (jt k (R.take i)).length ≤ (jt k R).length := by
  have := jt_append k (R.take i) (R.drop i)
  rw [List.take_append_drop] at this
  rw [this]
  simp
theorem one_slX (w : World) (s : Stp) (b : Nat) (hb : b = w.heap.size) : SlX (fun _ => True) (w.alloc (.cells #[.int .i64 s.k, .int .u64 s.a, .int .u64 s.b, .int .u64 s.c, .int .u64 s.d] 129)) (.slice (some ⟨b, 0, none⟩) 1 1) [s] :=
  SlX.below (row_one w s b hb 0 (Nat.zero_le _)).reads fun _ _ => ⟨trivial, rfl⟩
end Go.Proofs.YtnjjbaodfjmiaaaGreat
