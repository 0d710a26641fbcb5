/- RxRow, RxAsk, TxtRefK, put together. -/
import Derived.Test.YtbokhofdgdcpdaaDoorFu07
import Derived.Test.YtbokhofdgdcpdaaDoorFu02
import Derived.Test.YtbokhofdgdcpdaaDoorFu01
import Derived.ChangeKeysEq
import Derived.Laws.StructEq
import Derived.Laws.OwnMore
/- Slices of steps: what they read as; rows of steps that a call has made; two lists held against one another (slices.Equal, rx.Same). -/
namespace Go.Proofs.YtbokhofdgdcpdaaDoor
open Go.RowKit Go.Lib Go.Joins

/-- block b has the step s from place i on -/
def RxAt (w : World) (b i : Nat) (s : Stp) : Prop :=
  w.cell? ⟨b, i, none⟩ = some (.int .i64 s.k) ∧ w.cell? ⟨b, i + 1, none⟩ = some (.int .u64 s.a) ∧ w.cell? ⟨b, i + 2, none⟩ = some (.int .u64 s.b) ∧ w.cell? ⟨b, i + 3, none⟩ = some (.int .u64 s.c) ∧ w.cell? ⟨b, i + 4, none⟩ = some (.int .u64 s.d)
theorem RxAt.kept {w w' : World} {b i : Nat} {s : Stp} (h : RxAt w b i s) (hb : w'.heap[b]? = w.heap[b]?) : RxAt w' b i s :=
  ⟨(World.cell?_of_block (a := ⟨b, _, none⟩) hb).trans h.1, (World.cell?_of_block (a := ⟨b, _, none⟩) hb).trans h.2.1, (World.cell?_of_block (a := ⟨b, _, none⟩) hb).trans h.2.2.1, (World.cell?_of_block (a := ⟨b, _, none⟩) hb).trans h.2.2.2.1, (World.cell?_of_block (a := ⟨b, _, none⟩) hb).trans h.2.2.2.2⟩
/-- a slice of steps that reads as a list, in a block that meets C -/
def Rxs (C : Nat → Prop) (w : World) (a : Option Addr) (len : Nat) (L : List Stp) : Prop :=
  L.length = len ∧ (0 < len → ∃ b off, a = some ⟨b, off, none⟩ ∧ C b ∧ ∀ i, i < len → RxAt w b (off + i * 5) (L.getD i default))
theorem Rxs.below {C C' : Nat → Prop} {w w' : World} {a : Option Addr} {len : Nat} {L : List Stp} (h : Rxs C w a len L) (hb : ∀ b, C b → C' b ∧ w'.heap[b]? = w.heap[b]?) : Rxs C' w' a len L := by
  refine ⟨h.1, fun hp => ?_⟩
  obtain ⟨b, off, e, hC, hc⟩ := h.2 hp
  exact ⟨b, off, e, (hb b hC).1, fun i hi => (hc i hi).kept (hb b hC).2⟩
/-- the cells of a list of steps -/
def rxCells : List Stp → List Value
  | [] => []
  | s :: r => s.cells ++ rxCells r
theorem rxCells_len : ∀ L, (rxCells L).length = L.length * 5
  | [] => rfl
  | s :: r => by
    simp only [rxCells, List.length_append, rxCells_len r, List.length_cons, Stp.cells, List.length_nil]
    omega
theorem rxCells_append : ∀ a b, rxCells (a ++ b) = rxCells a ++ rxCells b
  | [], b => rfl
  | s :: r, b => by simp [rxCells, rxCells_append r b]
theorem rxCells_get : ∀ (L : List Stp) (i : Nat), i < L.length → ∀ j, j < 5 → (rxCells L)[i * 5 + j]? = ((L.getD i default).cells)[j]?
  | [], i, h, _, _ => by simp at h
  | s :: r, 0, _, j, hj => by
    simp only [rxCells, List.getD_cons_zero, Nat.zero_mul, Nat.zero_add]
    rw [List.getElem?_append_left (by simpa [Stp.cells] using hj)]
  | s :: r, i + 1, h, j, hj => by
    have ih := rxCells_get r i (by simpa using h) j hj
    have e : (s.cells).length = 5 := rfl
    rw [rxCells, List.getD_cons_succ, ← ih, show (i + 1) * 5 + j = 5 + (i * 5 + j) by omega, List.getElem?_append_right (by rw [e]; omega), e, Nat.add_sub_cancel_left]
theorem rxCells_one {u : Value} {L : List Stp} (h : u ∈ rxCells L) : u.oneCell' = true := by
  induction L with
  | nil => simp [rxCells] at h
  | cons s r ih =>
    rw [rxCells, List.mem_append] at h
    rcases h with h | h
    · simp only [Stp.cells, List.mem_cons, List.not_mem_nil, or_false] at h
      rcases h with rfl | rfl | rfl | rfl | rfl <;> rfl
    · exact ih h
/-- the cells that an append reads -/
theorem Rxs.news {C : Nat → Prop} {w : World} {b off len : Nat} {L : List Stp} (h : Rxs C w (some ⟨b, off, none⟩) len L) : ∀ j u, (rxCells L)[j]? = some u → w.cell? ((⟨b, off, none⟩ : Addr).add j) = some u := by
  intro j u hj
  have hl : j < L.length * 5 := by
    have := (List.getElem?_eq_some_iff.1 hj).1
    rwa [rxCells_len] at this
  obtain ⟨b', off', e, _, hc⟩ := h.2 (by rw [← h.1]; omega)
  simp only [Option.some.injEq, Addr.mk.injEq, and_true] at e
  obtain ⟨rfl, rfl⟩ := e
  have hi : j / 5 < L.length := by omega
  obtain ⟨c0, c1, c2, c3, c4⟩ := hc (j / 5) (by rw [← h.1]; exact hi)
  have hg := rxCells_get L (j / 5) hi (j % 5) (Nat.mod_lt _ (by decide))
  rw [show j / 5 * 5 + j % 5 = j by omega, hj] at hg
  rw [Addr.add_lit]
  have hm : j % 5 = 0 ∨ j % 5 = 1 ∨ j % 5 = 2 ∨ j % 5 = 3 ∨ j % 5 = 4 := by omega
  rcases hm with e | e | e | e | e
  · rw [e] at hg; rw [show off + j = off + j / 5 * 5 by omega, c0, hg]; rfl
  · rw [e] at hg; rw [show off + j = off + j / 5 * 5 + 1 by omega, c1, hg]; rfl
  · rw [e] at hg; rw [show off + j = off + j / 5 * 5 + 2 by omega, c2, hg]; rfl
  · rw [e] at hg; rw [show off + j = off + j / 5 * 5 + 3 by omega, c3, hg]; rfl
  · rw [e] at hg; rw [show off + j = off + j / 5 * 5 + 4 by omega, c4, hg]; rfl

theorem infoRx : (Tryd.prog.info? 67).map (fun i => (i.zero, i.size, i.bytes)) = some (some (kStp 0).val, 5, 40) := by kernel_rfl
/-- slice value v owns the steps L, in a block from base on -/
def RowX (w : World) (base : Nat) (v : Value) (L : List Stp) : Prop := w.ownsRow base 67 5 v L.length (rxCells L)
/-- slice value v reads as the steps L, in a block that meets C -/
def SlX (C : Nat → Prop) (w : World) (v : Value) (L : List Stp) : Prop := ∃ a cap, v = .slice a L.length cap ∧ L.length ≤ cap ∧ cap ≤ maxLen ∧ (a = none → cap = 0) ∧ Rxs C w a L.length L
/-- slice value v reads as the steps L, in a block from base on -/
def ReadsX (w : World) (base : Nat) (v : Value) (L : List Stp) : Prop := SlX (fun b => base ≤ b ∧ b < w.heap.size) w v L
theorem SlX.below {C C' : Nat → Prop} {w w' : World} {v : Value} {L : List Stp} (h : SlX C w v L) (hb : ∀ b, C b → C' b ∧ w'.heap[b]? = w.heap[b]?) : SlX C' w' v L := by
  obtain ⟨a, cap, rfl, h1, h2, h0, hS⟩ := h
  exact ⟨a, cap, rfl, h1, h2, h0, hS.below hb⟩
theorem rxAt_of_cells {w : World} {g : Nat} {L : List Stp} {i : Nat} (hi : i < L.length) (h : ∀ j, j < L.length * 5 → w.cell? ⟨g, j, none⟩ = (rxCells L)[j]?) : RxAt w g (i * 5) (L.getD i default) := by
  have hg := rxCells_get L i hi
  refine ⟨?_, ?_, ?_, ?_, ?_⟩
  · rw [h _ (by omega)]; have := hg 0 (by decide); simpa [Stp.cells] using this
  · rw [h _ (by omega)]; have := hg 1 (by decide); simpa [Stp.cells] using this
  · rw [h _ (by omega)]; have := hg 2 (by decide); simpa [Stp.cells] using this
  · rw [h _ (by omega)]; have := hg 3 (by decide); simpa [Stp.cells] using this
  · rw [h _ (by omega)]; have := hg 4 (by decide); simpa [Stp.cells] using this
theorem RowX.reads {w : World} {base : Nat} {v : Value} {L : List Stp} (h : RowX w base v L) : ReadsX w base v L := by
  have h' := h
  obtain ⟨_, ⟨rfl, h1⟩ | ⟨g, cap, cur, rfl, hb, hg, h1, h2, h3, h4⟩⟩ := h
  · exact ⟨none, 0, by rw [h1], by omega, by decide, fun _ => rfl, rfl, fun h => by omega⟩
  · refine ⟨some ⟨g, 0, none⟩, cap, rfl, h1, h2, (fun e => by cases e), rfl, fun _ => ⟨g, 0, rfl, ⟨hb, (Array.getElem?_eq_some_iff.1 hg).1⟩, fun i hi => ?_⟩⟩
    rw [Nat.zero_add]
    exact rxAt_of_cells hi fun j hj => World.ownsRow.cellAt h' j hj
theorem ReadsX.kept {w w' : World} {base : Nat} {v : Value} {L : List Stp} (h : ReadsX w base v L) (hb : Below w.heap.size w w') : ReadsX w' base v L :=
  SlX.below h fun b hb' => ⟨⟨hb'.1, by have := hb.size; omega⟩, hb.block b hb'.2⟩
theorem ReadsX.lower {w : World} {base base' : Nat} {v : Value} {L : List Stp} (h : ReadsX w base v L) (hb : base' ≤ base) : ReadsX w base' v L :=
  SlX.below h fun b hb' => ⟨⟨by omega, hb'.2⟩, rfl⟩
theorem RowX.nil (w : World) (base : Nat) : RowX w base (.slice none 0 0) [] := World.ownsRow_nil _ _ _ _
theorem RowX.below {w w' : World} {base : Nat} {v : Value} {L : List Stp} (h : RowX w base v L) (hb : Below w.heap.size w w') : RowX w' base v L := by
  refine ⟨h.1, ?_⟩
  rcases h.2 with hn | ⟨g, cap, cur, rfl, hb', hgg, rest⟩
  · exact .inl hn
  · exact .inr ⟨g, cap, cur, rfl, hb', by rw [hb.block g (Array.getElem?_eq_some_iff.1 hgg).1]; exact hgg, rest⟩
theorem RowX.more {w : World} {base : Nat} {v : Value} {L M : List Stp} (h : w.ownsRow base 67 5 v (L.length + M.length) (rxCells L ++ rxCells M)) : RowX w base v (L ++ M) := by
  unfold RowX
  rw [rxCells_append, List.length_append]
  exact h
theorem RowX.lower {w : World} {base base' : Nat} {v : Value} {L : List Stp} (h : RowX w base v L) (hb : base' ≤ base) : RowX w base' v L := ownsRow_le h hb
/-- what a call that makes steps hands back -/
def RetX (w : World) (L : List Stp) (e : Ending) (w' : World) : Prop := ∃ v, e = .returned v ∧ RowX w' w.heap.size v L ∧ Below w.heap.size w w'

/-! ### two lists held against one another -/
open Classical in
noncomputable def sameX (a b : List Stp) : Bool := decide (a = b)
theorem sameX_yes (a : List Stp) : sameX a a = true := by simp [sameX]
theorem sameX_no {a b : List Stp} (h : a ≠ b) : sameX a b = false := by simp [sameX, h]
def eqStp (x y : Stp) : Bool := x.k == y.k && (x.a == y.a && (x.b == y.b && (x.c == y.c && (x.d == y.d && true))))
theorem eqStp_iff (x y : Stp) : eqStp x y = true ↔ x = y := by
  obtain ⟨k, a, b, c, d⟩ := x
  obtain ⟨k', a', b', c', d'⟩ := y
  simp [eqStp]
theorem eq_fourAt (w : World) (D : Nat) (a0 a1 a2 a3 b0 b1 b2 b3 : Int) :
    (Op.equalIn (D + 1 + 1) 28 (.agg #[.int .u64 a0, .int .u64 a1, .int .u64 a2, .int .u64 a3]) (.agg #[.int .u64 b0, .int .u64 b1, .int .u64 b2, .int .u64 b3])).run Tryd.prog w = .ok (a0 == b0 && (a1 == b1 && (a2 == b2 && (a3 == b3 && true)))) w := by
  obtain ⟨i, hi⟩ : ∃ i, Tryd.prog.info? 26 = some i := Option.isSome_iff_exists.1 (by kernel_rfl)
  have hc : Tryd.prog.cellsOf 26 = 1 := by kernel_rfl
  have he : Tryd.prog.plainKey 26 = true := by kernel_rfl
  rw [run_equalIn_array (P := Tryd.prog) (w := w) (D + 1) _ _ Tryd.underlying28 hi, hc, show List.range 4 = [0, 1, 2, 3] from rfl]
  exact items_step (d := D) he Tryd.underlying26 rfl rfl (items_step he Tryd.underlying26 rfl rfl (items_step he Tryd.underlying26 rfl rfl (items_step he Tryd.underlying26 rfl rfl items_end)))
theorem part_set (w : World) (k a b c d : Int) : (part 28 #[.int .i64 k, .int .u64 a, .int .u64 b, .int .u64 c, .int .u64 d] 1).run Tryd.prog w = .ok (.agg #[.int .u64 a, .int .u64 b, .int .u64 c, .int .u64 d]) w := by
  simp [part, isAgg, run_underlying Tryd.underlying28]
theorem eq_stp (w : World) (x y : Stp) : (Op.equalIn 10000 67 x.val y.val).run Tryd.prog w = .ok (eqStp x y) w := by
  obtain ⟨k, a, b, c, d⟩ := x
  obtain ⟨k', a', b', c', d'⟩ := y
  have he : Tryd.prog.plainKey 65 = true := by kernel_rfl
  have hf : Tryd.prog.underlying 67 = some (.struct (Tryd.prog.fieldsOf 67)) := by kernel_rfl
  have hm : (Tryd.prog.fieldsOf 67).toList.map (fun f => (f.type, f.offset, f.name)) = [(65, 0, "Kind"), (28, 1, "Set")] := by kernel_rfl
  obtain ⟨f0, f1, hfs, t0, o0, n0, t1, o1, n1⟩ : ∃ f0 f1, (Tryd.prog.fieldsOf 67).toList = [f0, f1] ∧ f0.type = 65 ∧ f0.offset = 0 ∧ f0.name = "Kind" ∧ f1.type = 28 ∧ f1.offset = 1 ∧ f1.name = "Set" := by
    generalize (Tryd.prog.fieldsOf 67).toList = l at hm
    rcases l with _ | ⟨f0, _ | ⟨f1, _ | ⟨f2, r⟩⟩⟩
    · cases hm
    · cases (List.cons.inj hm).2
    · simp only [List.map_cons, List.map_nil, List.cons.injEq, Prod.mk.injEq, and_true] at hm
      exact ⟨f0, f1, rfl, hm.1.1, hm.1.2.1, hm.1.2.2, hm.2.1, hm.2.2.1, hm.2.2.2⟩
    · cases (List.cons.inj (List.cons.inj hm).2).2
  unfold Stp.val
  rw [run_equalIn_struct w 9999 _ _ _ hf (by kernel_rfl), hfs]
  simp only [Op.eqFields, t0, o0, n0, t1, o1, n1]
  simp only [ne_eq, String.reduceEq, not_false_eq_true, if_true, Sem.run_bind]
  rw [run_part_plain (P := Tryd.prog) (w := w) he (v := .int .i64 k) rfl]
  simp only [Result.andThen_ok]
  rw [run_part_plain (P := Tryd.prog) (w := w) he (v := .int .i64 k') rfl]
  simp only [Result.andThen_ok]
  rw [run_equalIn_int w 9998 _ .i64 .i64 k k' Tryd.underlying65]
  simp only [Result.andThen_ok, eqStp]
  cases (k == k')
  · simp
  · simp only [Bool.not_true, Bool.false_eq_true, if_false, Sem.run_bind, part_set, Result.andThen_ok, eq_fourAt w 9997, Bool.true_and]
    cases (a == a' && (b == b' && (c == c' && (d == d' && true)))) <;> simp
end Go.Proofs.YtbokhofdgdcpdaaDoor

/- Contracts of what is asked of steps: operands, measure, Check, High, Begin, slices.Equal at steps, Same. -/
namespace Go.Proofs.YtbokhofdgdcpdaaDoor
open Go.RowKit

set_option maxRecDepth 100000 in
theorem operands_calls (k : Int) (w : World) : Calls Tryd.prog 92 #[.int .i64 k] w fun e w' => e = .returned (.int .i64 (kOps k)) ∧ w = w' := by
  have hk : k = 1 ∨ k = 2 ∨ k = 3 ∨ k = 4 ∨ k = 5 ∨ k = 6 ∨ k = 7 ∨ (¬ k = 1 ∧ ¬ k = 2 ∧ ¬ k = 3 ∧ ¬ k = 4 ∧ ¬ k = 5 ∧ ¬ k = 6 ∧ ¬ k = 7) := by omega
  rcases hk with rfl | rfl | rfl | rfl | rfl | rfl | rfl | ⟨h1, h2, h3, h4, h5, h6, h7⟩
  case inr.inr.inr.inr.inr.inr.inr =>
    have e : kOps k = -1 := by unfold kOps; rw [if_neg (by omega), if_neg (by omega), if_neg (by omega)]
    have HE := hidden e
    clear e
    have q1 : (k == 1) = false := by simp [h1]
    have q2 : (k == 2) = false := by simp [h2]
    have q3 : (k == 3) = false := by simp [h3]
    have q4 : (k == 4) = false := by simp [h4]
    have q5 : (k == 5) = false := by simp [h5]
    have q6 : (k == 6) = false := by simp [h6]
    have q7 : (k == 7) = false := by simp [h7]
    clear h1 h2 h3 h4 h5 h6 h7
    go_enter Tryd.func92, Tryd.ntmps92
    go_wp2
    go_ret
    exact ⟨ret_i HE.out.symm, rfl⟩
  all_goals
    go_enter Tryd.func92, Tryd.ntmps92
    go_wp2
    go_ret
    exact ⟨ret_i (by decide), rfl⟩

/-! ### what is wrong with steps, and how many parts they make -/
theorem meas_step {L : List Stp} {k : Nat} {p h : Int} {r : Int × Int} (e : r = measGo (L.drop k) p h) (hk : k < L.length) :
    (¬ (L.getD k default).good → r = (0, 1)) ∧ ((L.getD k default).good → p < kOps (L.getD k default).k → r = (0, 3)) ∧ ((L.getD k default).good → kOps (L.getD k default).k ≤ p → r = measGo (L.drop (k + 1)) (p + (1 - kOps (L.getD k default).k)) (max h (p + (1 - kOps (L.getD k default).k)))) := by
  rw [List.drop_eq_getElem_cons hk, measGo] at e
  have e1 : L.getD k default = L[k] := by rw [List.getD_eq_getElem?_getD, List.getElem?_eq_getElem hk]; rfl
  rw [e1]
  refine ⟨fun h1 => ?_, fun h1 h2 => ?_, fun h1 h2 => ?_⟩
  · rw [if_neg h1] at e; exact e
  · rw [if_pos h1, if_pos h2] at e; exact e
  · rw [if_pos h1, if_neg (by omega)] at e; exact e
theorem meas_end {L : List Stp} {k : Nat} {p h : Int} {r : Int × Int} (e : r = measGo (L.drop k) p h) (hk : L.length ≤ k) : r = if p = 1 then (h, 0) else (0, 3) := by
  rw [List.drop_eq_nil_of_le hk] at e
  exact e
theorem ret_two_i {a b : Int} {r : Int × Int} (h : r = (a, b)) : Ending.returned (.tuple #[.int .i64 a, .int .i64 b]) = .returned (.tuple #[.int .i64 r.1, .int .i64 r.2]) := by rw [h]
set_option maxHeartbeats 4000000 in
set_option maxRecDepth 100000 in
theorem measure_calls {C : Nat → Prop} (a : Option Addr) (n cap : Nat) (L : List Stp) (w : World) (_ : n ≤ cap) (_ : cap ≤ maxLen) (hS : Rxs C w a n L) (hC : ∀ b, C b → b < w.heap.size) :
    Calls Tryd.prog 73 #[.slice a n cap] w fun e w' => e = .returned (.tuple #[.int .i64 (measV L).1, .int .i64 (measV L).2]) ∧ Below w.heap.size w w' := by
  by_cases hn : 512 < n
  · have e : measV L = (0, 4) := by unfold measV; rw [if_pos (by rw [hS.1]; exact hn)]
    have HE := hidden e
    clear e hS
    go_enter Tryd.func73, Tryd.ntmps73
    go_wp2
    go_ret2
    exact ⟨ret_two_i HE.out, Below.refl _ _⟩
  · have hM : measV L = measGo (L.drop 0) 0 0 := by
      unfold measV
      rw [if_neg (by rw [hS.1]; exact hn), List.drop_zero]
    obtain ⟨r, hr⟩ : ∃ r, r = measV L := ⟨_, rfl⟩
    rw [← hr] at hM ⊢
    have HM := hidden hM
    have HS := hidden hS
    have HC := hidden hC
    clear hM hS hC hr
    go_enter Tryd.func73, Tryd.ntmps73
    go_wp2
    go_loopw [4, 5, 14] (fun p h i wr => ∃ (k : Nat) (P H : Int), k ≤ n ∧ i = .int .i64 k ∧ p = .int .i64 P ∧ h = .int .i64 H ∧ 0 ≤ P ∧ P ≤ k ∧ 0 ≤ H ∧ H ≤ k ∧ r = measGo (L.drop k) P H ∧ Below w.heap.size w wr) (fun _ _ i _ => n - (intOf i).toNat)
    case atStart => exact ⟨0, 0, 0, by omega, rfl, rfl, rfl, by omega, by omega, by omega, by omega, HM.out, Below.refl _ _⟩
    case round =>
      obtain ⟨k, P, H, hk, rfl, rfl, rfl, hP0, hPk, hH0, hHk, he, hb⟩ := hrel
      have HE := hidden he
      have HB := hidden hb
      clear he hb
      by_cases hlt : k < n
      · obtain ⟨b, off, rfl, hCb, hc⟩ := HS.out.2 (by omega)
        obtain ⟨c0, c1, c2, c3, c4⟩ := (hc k hlt).kept (w' := wr) (HB.out.block b (HC.out b hCb))
        have H1 := hidden (meas_step HE.out (by rw [HS.out.1]; exact hlt))
        obtain ⟨x, hx⟩ : ∃ x, x = L.getD k default := ⟨_, rfl⟩
        rw [← hx] at c0 c1 c2 c3 c4 H1
        have hO := kOps_range x.k
        have HK := hidden (operands_calls x.k)
        clear hc hCb hx
        obtain ⟨K, x1, x2, x3, x4⟩ := x
        simp only at c0 c1 c2 c3 c4 hO HK
        have hg : ((⟨K, x1, x2, x3, x4⟩ : Stp).good ↔ 0 ≤ kOps K ∧ (K = 1 ∨ (x1 = 0 ∧ x2 = 0 ∧ x3 = 0 ∧ x4 = 0))) := Iff.rfl
        have HG := hidden hg
        have hq := fun w => eq_four w x1 x2 x3 x4 0 0 0 0
        simp only [Bool.and_true] at hq
        clear hg
        have H2 : Hid ((⟨K, x1, x2, x3, x4⟩ : Stp).k = K) := hidden rfl
        rw [H2.out] at H1
        clear H2
        generalize kOps K = o at *
        by_cases q0 : o < 0
        · have hres := hidden (H1.out.1 (fun h => by have := (HG.out.1 h).1; omega))
          clear H1
          go_wp2_with fail
          refine (HK.out _).mono ?_
          rintro e w1 ⟨rfl, rfl⟩
          go_wp2
          go_ret2
          exact ⟨ret_two_i hres.out, by have hq := HB.out; go_grown; exact hq.size⟩
        · have hd0 : decide (o < 0) = false := decide_eq_false q0
          have hcase : (K = 1) ∨ (K ≠ 1 ∧ x1 = 0 ∧ x2 = 0 ∧ x3 = 0 ∧ x4 = 0) ∨ (K ≠ 1 ∧ ¬ (x1 = 0 ∧ x2 = 0 ∧ x3 = 0 ∧ x4 = 0)) := by
            by_cases h1 : K = 1
            · exact .inl h1
            · by_cases h2 : x1 = 0 ∧ x2 = 0 ∧ x3 = 0 ∧ x4 = 0
              · exact .inr (.inl ⟨h1, h2⟩)
              · exact .inr (.inr ⟨h1, h2⟩)
          rcases hcase with h1 | ⟨h1, h2, h3, h4, h5⟩ | ⟨h1, h2⟩
          case' inl =>
            have hgood := HG.out.2 ⟨by omega, .inl h1⟩
            have q1 : (K == 1) = true := by simp [h1]
            have q2 : (K != 1) = false := by simp [h1]
            clear hq
          case' inr.inl =>
            have hgood := HG.out.2 ⟨by omega, .inr ⟨h2, h3, h4, h5⟩⟩
            have q1 : (K == 1) = false := by simp [h1]
            have q2 : (K != 1) = true := by simp [h1]
            have q3 : (x1 == 0 && (x2 == 0 && (x3 == 0 && x4 == 0))) = true := by simp [h2, h3, h4, h5]
            rw [q3] at hq
            clear q3 h2 h3 h4 h5
          case inr.inr =>
            have hres := hidden (H1.out.1 (fun h => (HG.out.1 h).2.elim h1 h2))
            have q1 : (K == 1) = false := by simp [h1]
            have q2 : (K != 1) = true := by simp [h1]
            have q3 : (x1 == 0 && (x2 == 0 && (x3 == 0 && x4 == 0))) = false := by
              rw [Bool.eq_false_iff]
              intro h
              simp at h
              exact h2 ⟨h.1, h.2.1, h.2.2.1, h.2.2.2⟩
            rw [q3] at hq
            clear q3 h2 H1
            go_wp2_with fail
            refine (HK.out _).mono ?_
            rintro e w1 ⟨rfl, rfl⟩
            go_wp2
            go_ret2
            exact ⟨ret_two_i hres.out, by have hq := HB.out; go_grown; exact hq.size⟩
          all_goals
            have H2 := hidden (H1.out.2.1 hgood)
            have H3 := hidden (H1.out.2.2 hgood)
            clear H1 HG hgood h1
            by_cases q5 : P < o
            · have hres := hidden (H2.out q5)
              clear H2 H3
              go_wp2_with fail
              refine (HK.out _).mono ?_
              rintro e w1 ⟨rfl, rfl⟩
              go_wp2
              go_ret2
              exact ⟨ret_two_i hres.out, by have hq := HB.out; go_grown; exact hq.size⟩
            · have hres := hidden (H3.out (by omega))
              have hd5 : decide (P < o) = false := decide_eq_false q5
              clear H2 H3
              go_wp2_with fail
              refine (HK.out _).mono ?_
              rintro e w1 ⟨rfl, rfl⟩
              go_wp2
              go_roundw
              case rel => exact ⟨k + 1, P + (1 - o), max H (P + (1 - o)), by omega, by go_num, by go_num, by go_num, by omega, by omega, by omega, by omega, hres.out, by have hq := HB.out; go_grown; exact hq.size⟩
              case measure => simp [intOf]; omega
      · have hres := hidden (meas_end HE.out (by rw [HS.out.1]; omega))
        by_cases q : P = 1
        · subst q
          rw [if_pos rfl] at hres
          go_wp2
          go_ret2
          exact ⟨ret_two_i hres.out, HB.out⟩
        · rw [if_neg q] at hres
          have q' : (P == 1) = false := by simp [q]
          go_wp2
          go_ret2
          exact ⟨ret_two_i hres.out, HB.out⟩
theorem check_rx {C : Nat → Prop} (a : Option Addr) (n cap : Nat) (L : List Stp) (w : World) (hl : n ≤ cap) (hcap : cap ≤ maxLen) (hS : Rxs C w a n L) (hC : ∀ b, C b → b < w.heap.size) :
    Calls Tryd.prog 47 #[.slice a n cap] w fun e w' => e = .returned (.int .i64 (measV L).2) ∧ Below w.heap.size w w' := by
  have H := hidden (measure_calls a n cap L w hl hcap hS hC)
  generalize measV L = r at *
  clear hl hcap hS hC
  go_enter Tryd.func47, Tryd.ntmps47
  go_wp2_with fail
  refine H.out.mono ?_
  rintro e w' ⟨rfl, hb⟩
  go_wp2
  go_ret
  exact ⟨rfl, hb⟩
theorem high_rx {C : Nat → Prop} (a : Option Addr) (n cap : Nat) (L : List Stp) (w : World) (hl : n ≤ cap) (hcap : cap ≤ maxLen) (hS : Rxs C w a n L) (hC : ∀ b, C b → b < w.heap.size) :
    Calls Tryd.prog 78 #[.slice a n cap] w fun e w' => e = .returned (.int .i64 (measV L).1) ∧ Below w.heap.size w w' := by
  have H := hidden (measure_calls a n cap L w hl hcap hS hC)
  generalize measV L = r at *
  clear hl hcap hS hC
  go_enter Tryd.func78, Tryd.ntmps78
  go_wp2_with fail
  refine H.out.mono ?_
  rintro e w' ⟨rfl, hb⟩
  go_wp2
  go_ret
  exact ⟨rfl, hb⟩
theorem check_slX {C : Nat → Prop} {v : Value} {L : List Stp} {w : World} (h : SlX C w v L) (hC : ∀ b, C b → b < w.heap.size) :
    Calls Tryd.prog 47 #[v] w fun e w' => e = .returned (.int .i64 (measV L).2) ∧ Below w.heap.size w w' := by
  obtain ⟨a, cap, rfl, h1, h2, _, hS⟩ := h
  exact check_rx _ _ _ _ _ h1 h2 hS hC
theorem high_slX {C : Nat → Prop} {v : Value} {L : List Stp} {w : World} (h : SlX C w v L) (hC : ∀ b, C b → b < w.heap.size) :
    Calls Tryd.prog 78 #[v] w fun e w' => e = .returned (.int .i64 (measV L).1) ∧ Below w.heap.size w w' := by
  obtain ⟨a, cap, rfl, h1, h2, _, hS⟩ := h
  exact high_rx _ _ _ _ _ h1 h2 hS hC

/-! ### where a part begins -/
end Go.Proofs.YtbokhofdgdcpdaaDoor

/- The reference's Of, Check and Same over lists of steps. -/
namespace Go.Proofs.YtbokhofdgdcpdaaDoor
open Go.RowKit Go.Lib Go.Joins

set_option maxRecDepth 100000 in
theorem rof_calls (k : Int) (w : World) : Calls Tryd.prog 57 #[.int .i64 k] w fun e w' => e = .returned (.int .i64 (kOps k)) ∧ w = w' := by
  by_cases h : k = 1 ∨ k = 2 ∨ k = 3 ∨ k = 4 ∨ k = 5 ∨ k = 6 ∨ k = 7
  · rcases h with rfl | rfl | rfl | rfl | rfl | rfl | rfl
    all_goals
      go_enter Tryd.func57, Tryd.ntmps57
      go_wp2
      go_ret
      exact ⟨rfl, rfl⟩
  · have q1 : (k == 1) = false := by simp; omega
    have q2 : (k == 2) = false := by simp; omega
    have q3 : (k == 3) = false := by simp; omega
    have q4 : (k == 4) = false := by simp; omega
    have q5 : (k == 5) = false := by simp; omega
    have q6 : (k == 6) = false := by simp; omega
    have q7 : (k == 7) = false := by simp; omega
    have HR := hidden (show kOps k = -1 by
      unfold kOps
      rw [if_neg (by omega), if_neg (by omega), if_neg (by omega)])
    clear h
    go_enter Tryd.func57, Tryd.ntmps57
    go_wp2
    go_ret
    exact ⟨ret_i HR.out.symm, rfl⟩
theorem take_moreX (a : List Stp) (k : Nat) (h : k < a.length) : a.take (k + 1) = a.take k ++ [a.getD k default] := by
  rw [List.getD_eq_getElem?_getD, List.getElem?_eq_getElem h]
  exact (List.take_append_getElem h).symm
theorem take_eqX {a b : List Stp} (h : a.length = b.length) (k : Nat) (hk : k < a.length) (h2 : a.take k = b.take k) :
    (a.getD k default = b.getD k default → a.take (k + 1) = b.take (k + 1)) ∧ (a.getD k default ≠ b.getD k default → a ≠ b) := by
  refine ⟨fun e => ?_, fun e e' => e (by rw [e'])⟩
  rw [take_moreX a k hk, take_moreX b k (by omega), h2, e]
set_option maxHeartbeats 4000000 in
set_option maxRecDepth 100000 in
theorem rcheck_rx {C : Nat → Prop} (a : Option Addr) (n cap : Nat) (L : List Stp) (w : World) (_ : n ≤ cap) (_ : cap ≤ maxLen) (hS : Rxs C w a n L) :
    Calls Tryd.prog 22 #[.slice a n cap] w fun e w' => e = .returned (.int .i64 (measV L).2) ∧ w = w' := by
  by_cases hn : 512 < n
  · have e : measV L = (0, 4) := by unfold measV; rw [if_pos (by rw [hS.1]; exact hn)]
    have HE := hidden e
    clear e hS
    go_enter Tryd.func22, Tryd.ntmps22
    go_wp2
    go_ret
    exact ⟨by rw [HE.out]; rfl, rfl⟩
  · have hM : measV L = measGo (L.drop 0) 0 0 := by
      unfold measV
      rw [if_neg (by rw [hS.1]; exact hn), List.drop_zero]
    obtain ⟨r, hr⟩ : ∃ r, r = measV L := ⟨_, rfl⟩
    rw [← hr] at hM ⊢
    have HM := hidden hM
    have HS := hidden hS
    clear hM hS hr
    go_enter Tryd.func22, Tryd.ntmps22
    go_wp2
    go_loop [3, 4] (fun p i => ∃ (k : Nat) (P H : Int), k ≤ n ∧ i = .int .i64 k ∧ p = .int .i64 P ∧ 0 ≤ P ∧ P ≤ k ∧ r = measGo (L.drop k) P H) (fun _ i => n - (RowKit.intOf i).toNat)
    case atStart => exact ⟨0, 0, 0, by omega, rfl, rfl, by omega, by omega, HM.out⟩
    case round =>
      obtain ⟨k, P, H, hk, rfl, rfl, hP0, hPk, he⟩ := hrel
      have HE := hidden he
      clear he
      by_cases hlt : k < n
      · obtain ⟨b, off, rfl, hCb, hc⟩ := HS.out.2 (by omega)
        obtain ⟨c0, c1, c2, c3, c4⟩ := hc k hlt
        have H1 := hidden (meas_step HE.out (by rw [HS.out.1]; exact hlt))
        obtain ⟨x, hx⟩ : ∃ x, x = L.getD k default := ⟨_, rfl⟩
        rw [← hx] at c0 c1 c2 c3 c4 H1
        have hO := kOps_range x.k
        have HK := hidden (rof_calls x.k)
        clear hc hCb hx
        obtain ⟨K, x1, x2, x3, x4⟩ := x
        simp only at c0 c1 c2 c3 c4 hO HK
        have hg : ((⟨K, x1, x2, x3, x4⟩ : Stp).good ↔ 0 ≤ kOps K ∧ (K = 1 ∨ (x1 = 0 ∧ x2 = 0 ∧ x3 = 0 ∧ x4 = 0))) := Iff.rfl
        have HG := hidden hg
        have hq := fun w => eq_four w x1 x2 x3 x4 0 0 0 0
        simp only [Bool.and_true] at hq
        clear hg
        have H2 : Hid ((⟨K, x1, x2, x3, x4⟩ : Stp).k = K) := hidden rfl
        rw [H2.out] at H1
        clear H2
        generalize kOps K = o at *
        have q0k : decide ((k : Int) < n) = true := decide_eq_true (by omega)
        by_cases q0 : o < 0
        · have hres := hidden (H1.out.1 (fun h => by have := (HG.out.1 h).1; omega))
          have hd0 : decide (o < 0) = true := decide_eq_true q0
          clear H1
          go_wp2_with fail
          refine (HK.out _).mono ?_
          rintro e w1 ⟨rfl, rfl⟩
          go_wp2
          go_ret
          exact ⟨by rw [hres.out]; rfl, rfl⟩
        · have hd0 : decide (o < 0) = false := decide_eq_false q0
          have hcase : (K = 1) ∨ (K ≠ 1 ∧ x1 = 0 ∧ x2 = 0 ∧ x3 = 0 ∧ x4 = 0) ∨ (K ≠ 1 ∧ ¬ (x1 = 0 ∧ x2 = 0 ∧ x3 = 0 ∧ x4 = 0)) := by
            by_cases h1 : K = 1
            · exact .inl h1
            · by_cases h2 : x1 = 0 ∧ x2 = 0 ∧ x3 = 0 ∧ x4 = 0
              · exact .inr (.inl ⟨h1, h2⟩)
              · exact .inr (.inr ⟨h1, h2⟩)
          rcases hcase with h1 | ⟨h1, h2, h3, h4, h5⟩ | ⟨h1, h2⟩
          case' inl =>
            have hgood := HG.out.2 ⟨by omega, .inl h1⟩
            have q1 : (K == 1) = true := by simp [h1]
            have q2 : (K != 1) = false := by simp [h1]
            clear hq
          case' inr.inl =>
            have hgood := HG.out.2 ⟨by omega, .inr ⟨h2, h3, h4, h5⟩⟩
            have q1 : (K == 1) = false := by simp [h1]
            have q2 : (K != 1) = true := by simp [h1]
            have q3 : (x1 == 0 && (x2 == 0 && (x3 == 0 && x4 == 0))) = true := by simp [h2, h3, h4, h5]
            rw [q3] at hq
            clear q3 h2 h3 h4 h5
          case inr.inr =>
            have hres := hidden (H1.out.1 (fun h => (HG.out.1 h).2.elim h1 h2))
            have q1 : (K == 1) = false := by simp [h1]
            have q2 : (K != 1) = true := by simp [h1]
            have q3 : (x1 == 0 && (x2 == 0 && (x3 == 0 && x4 == 0))) = false := by
              rw [Bool.eq_false_iff]
              intro h
              simp at h
              exact h2 ⟨h.1, h.2.1, h.2.2.1, h.2.2.2⟩
            rw [q3] at hq
            clear q3 h2 H1
            go_wp2_with fail
            refine (HK.out _).mono ?_
            rintro e w1 ⟨rfl, rfl⟩
            go_wp2
            go_ret
            exact ⟨by rw [hres.out]; rfl, rfl⟩
          all_goals
            have H2 := hidden (H1.out.2.1 hgood)
            have H3 := hidden (H1.out.2.2 hgood)
            clear H1 HG hgood h1
            by_cases q5 : P < o
            · have hres := hidden (H2.out q5)
              have hd5 : decide (P < o) = true := decide_eq_true q5
              clear H2 H3
              go_wp2_with fail
              refine (HK.out _).mono ?_
              rintro e w1 ⟨rfl, rfl⟩
              go_wp2
              go_ret
              exact ⟨by rw [hres.out]; rfl, rfl⟩
            · have hres := hidden (H3.out (by omega))
              have hd5 : decide (P < o) = false := decide_eq_false q5
              clear H2 H3
              go_wp2_with fail
              refine (HK.out _).mono ?_
              rintro e w1 ⟨rfl, rfl⟩
              go_wp2
              go_round
              case rel => exact ⟨k + 1, P + (1 - o), max H (P + (1 - o)), by omega, by go_num, by go_num, by omega, by omega, hres.out⟩
              case measure => simp [RowKit.intOf]; omega
      · have hres := hidden (meas_end HE.out (by rw [HS.out.1]; omega))
        have q0k : decide ((k : Int) < n) = false := decide_eq_false (by omega)
        by_cases q : P = 1
        · subst q
          rw [if_pos rfl] at hres
          go_wp2
          go_ret
          exact ⟨by rw [hres.out]; rfl, rfl⟩
        · rw [if_neg q] at hres
          have q' : (P == 1) = false := by simp [q]
          go_wp2
          go_ret
          exact ⟨by rw [hres.out]; rfl, rfl⟩
theorem rcheck_slX {C : Nat → Prop} {v : Value} {L : List Stp} {w : World} (h : SlX C w v L) :
    Calls Tryd.prog 22 #[v] w fun e w' => e = .returned (.int .i64 (measV L).2) ∧ w = w' := by
  obtain ⟨a, cap, rfl, h1, h2, _, hS⟩ := h
  exact rcheck_rx _ _ _ _ _ h1 h2 hS
end Go.Proofs.YtbokhofdgdcpdaaDoor
