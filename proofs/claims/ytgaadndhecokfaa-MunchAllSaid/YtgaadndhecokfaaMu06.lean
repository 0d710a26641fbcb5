/- SetEq, RxRow, RxAsk, SpSets, put together. -/
import Derived.Test.YtgaadndhecokfaaMu01
import Derived.ChangeKeysEq
import Derived.Laws.StructEq
import Derived.Handy
import Derived.Test.YtgaadndhecokfaaMu05
import Derived.Laws.OwnMore
import Derived.Lib.SmallJoins
import Derived.Laws.AppendOwn
import Derived.Laws.Rows
/- Two arrays of four numbers, or of two, held against one another. -/
namespace Go.Proofs.Ytgaadndhecokfaa
open Go.RowKit

theorem items_step {P : Program} {w : World} {d : Nat} {e : TypeId} {k : IntKind} (he : P.plainKey e = true) (hu : P.underlying e = some (.int k)) {xs ys : Array Value} {j : Nat} {x y : Int} {is : List Nat} {r : Bool}
    (hx : xs[j * 1]? = some (.int k x)) (hy : ys[j * 1]? = some (.int k y)) (h : (Op.eqItems (d + 1) e 1 xs ys is).run P w = .ok r w) : (Op.eqItems (d + 1) e 1 xs ys (j :: is)).run P w = .ok (x == y && r) w := by
  simp only [Op.eqItems, Sem.run_bind]
  rw [run_part_plain (P := P) (w := w) he hx]
  simp only [Result.andThen_ok]
  rw [run_part_plain (P := P) (w := w) he hy]
  simp only [Result.andThen_ok]
  rw [run_equalIn_int w d e k k x y hu]
  simp only [Result.andThen_ok]
  cases (x == y)
  · simp
  · simpa using h
theorem items_end {P : Program} {w : World} {d : Nat} {e : TypeId} {xs ys : Array Value} : (Op.eqItems d e 1 xs ys []).run P w = .ok true w := by
  simp [Op.eqItems]

theorem eq_four (w : World) (a0 a1 a2 a3 b0 b1 b2 b3 : Int) :
    (Op.equalIn 10000 90 (.agg #[.int .u64 a0, .int .u64 a1, .int .u64 a2, .int .u64 a3]) (.agg #[.int .u64 b0, .int .u64 b1, .int .u64 b2, .int .u64 b3])).run Try.prog w = .ok (a0 == b0 && (a1 == b1 && (a2 == b2 && (a3 == b3 && true)))) w := by
  obtain ⟨i, hi⟩ : ∃ i, Try.prog.info? 88 = some i := Option.isSome_iff_exists.1 (by kernel_rfl)
  have hc : Try.prog.cellsOf 88 = 1 := by kernel_rfl
  have he : Try.prog.plainKey 88 = true := by kernel_rfl
  rw [run_equalIn_array (P := Try.prog) (w := w) 9999 _ _ Try.underlying90 hi, hc, show List.range 4 = [0, 1, 2, 3] from rfl]
  exact items_step (d := 9998) he Try.underlying88 rfl rfl (items_step he Try.underlying88 rfl rfl (items_step he Try.underlying88 rfl rfl (items_step he Try.underlying88 rfl rfl items_end)))
end Go.Proofs.Ytgaadndhecokfaa

/- Slices of steps: what they read as; rows of steps that a call has made; two lists held against one another (slices.Equal, rx.Same). -/
namespace Go.Proofs.Ytgaadndhecokfaa
open Go.RowKit Go.Lib Go.Joins

/-- block b has the step s from place i on -/
def RxAt (w : World) (b i : Nat) (s : Stp) : Prop :=
  w.cell? ⟨b, i, none⟩ = some (.int .i64 s.k) ∧ w.cell? ⟨b, i + 1, none⟩ = some (.int .u64 s.a) ∧ w.cell? ⟨b, i + 2, none⟩ = some (.int .u64 s.b) ∧ w.cell? ⟨b, i + 3, none⟩ = some (.int .u64 s.c) ∧ w.cell? ⟨b, i + 4, none⟩ = some (.int .u64 s.d)
theorem RxAt.kept {w w' : World} {b i : Nat} {s : Stp} (h : RxAt w b i s) (hb : w'.heap[b]? = w.heap[b]?) : RxAt w' b i s :=
  ⟨(World.cell?_of_block (a := ⟨b, _, none⟩) hb).trans h.1, (World.cell?_of_block (a := ⟨b, _, none⟩) hb).trans h.2.1, (World.cell?_of_block (a := ⟨b, _, none⟩) hb).trans h.2.2.1, (World.cell?_of_block (a := ⟨b, _, none⟩) hb).trans h.2.2.2.1, (World.cell?_of_block (a := ⟨b, _, none⟩) hb).trans h.2.2.2.2⟩
/-- a slice of steps that reads as a list, in a block that meets C -/
def Rxs (C : Nat → Prop) (w : World) (a : Option Addr) (len : Nat) (L : List Stp) : Prop :=
  L.length = len ∧ (0 < len → ∃ b off, a = some ⟨b, off, none⟩ ∧ C b ∧ ∀ i, i < len → RxAt w b (off + i * 5) (L.getD i default))
theorem Rxs.below {C C' : Nat → Prop} {w w' : World} {a : Option Addr} {len : Nat} {L : List Stp} (h : Rxs C w a len L) (hb : ∀ b, C b → C' b ∧ w'.heap[b]? = w.heap[b]?) : Rxs C' w' a len L := by
  refine ⟨h.1, fun hp => ?_⟩
  obtain ⟨b, off, e, hC, hc⟩ := h.2 hp
  exact ⟨b, off, e, (hb b hC).1, fun i hi => (hc i hi).kept (hb b hC).2⟩
/-- the cells of a list of steps -/
def rxCells : List Stp → List Value
  | [] => []
  | s :: r => s.cells ++ rxCells r
theorem rxCells_len : ∀ L, (rxCells L).length = L.length * 5
  | [] => rfl
  | s :: r => by
    simp only [rxCells, List.length_append, rxCells_len r, List.length_cons, Stp.cells, List.length_nil]
    omega
theorem rxCells_append : ∀ a b, rxCells (a ++ b) = rxCells a ++ rxCells b
  | [], b => rfl
  | s :: r, b => by simp [rxCells, rxCells_append r b]
theorem rxCells_get : ∀ (L : List Stp) (i : Nat), i < L.length → ∀ j, j < 5 → (rxCells L)[i * 5 + j]? = ((L.getD i default).cells)[j]?
  | [], i, h, _, _ => by simp at h
  | s :: r, 0, _, j, hj => by
    simp only [rxCells, List.getD_cons_zero, Nat.zero_mul, Nat.zero_add]
    rw [List.getElem?_append_left (by simpa [Stp.cells] using hj)]
  | s :: r, i + 1, h, j, hj => by
    have ih := rxCells_get r i (by simpa using h) j hj
    have e : (s.cells).length = 5 := rfl
    rw [rxCells, List.getD_cons_succ, ← ih, show (i + 1) * 5 + j = 5 + (i * 5 + j) by omega, List.getElem?_append_right (by rw [e]; omega), e, Nat.add_sub_cancel_left]
theorem rxCells_one {u : Value} {L : List Stp} (h : u ∈ rxCells L) : u.oneCell' = true := by
  induction L with
  | nil => simp [rxCells] at h
  | cons s r ih =>
    rw [rxCells, List.mem_append] at h
    rcases h with h | h
    · simp only [Stp.cells, List.mem_cons, List.not_mem_nil, or_false] at h
      rcases h with rfl | rfl | rfl | rfl | rfl <;> rfl
    · exact ih h
/-- the cells that an append reads -/
theorem Rxs.news {C : Nat → Prop} {w : World} {b off len : Nat} {L : List Stp} (h : Rxs C w (some ⟨b, off, none⟩) len L) : ∀ j u, (rxCells L)[j]? = some u → w.cell? ((⟨b, off, none⟩ : Addr).add j) = some u := by
  intro j u hj
  have hl : j < L.length * 5 := by
    have := (List.getElem?_eq_some_iff.1 hj).1
    rwa [rxCells_len] at this
  obtain ⟨b', off', e, _, hc⟩ := h.2 (by rw [← h.1]; omega)
  simp only [Option.some.injEq, Addr.mk.injEq, and_true] at e
  obtain ⟨rfl, rfl⟩ := e
  have hi : j / 5 < L.length := by omega
  obtain ⟨c0, c1, c2, c3, c4⟩ := hc (j / 5) (by rw [← h.1]; exact hi)
  have hg := rxCells_get L (j / 5) hi (j % 5) (Nat.mod_lt _ (by decide))
  rw [show j / 5 * 5 + j % 5 = j by omega, hj] at hg
  rw [Addr.add_lit]
  have hm : j % 5 = 0 ∨ j % 5 = 1 ∨ j % 5 = 2 ∨ j % 5 = 3 ∨ j % 5 = 4 := by omega
  rcases hm with e | e | e | e | e
  · rw [e] at hg; rw [show off + j = off + j / 5 * 5 by omega, c0, hg]; rfl
  · rw [e] at hg; rw [show off + j = off + j / 5 * 5 + 1 by omega, c1, hg]; rfl
  · rw [e] at hg; rw [show off + j = off + j / 5 * 5 + 2 by omega, c2, hg]; rfl
  · rw [e] at hg; rw [show off + j = off + j / 5 * 5 + 3 by omega, c3, hg]; rfl
  · rw [e] at hg; rw [show off + j = off + j / 5 * 5 + 4 by omega, c4, hg]; rfl

theorem infoRx : (Try.prog.info? 109).map (fun i => (i.zero, i.size, i.bytes)) = some (some (kStp 0).val, 5, 40) := by kernel_rfl
/-- slice value v owns the steps L, in a block from base on -/
def RowX (w : World) (base : Nat) (v : Value) (L : List Stp) : Prop := w.ownsRow base 109 5 v L.length (rxCells L)
/-- slice value v reads as the steps L, in a block that meets C -/
def SlX (C : Nat → Prop) (w : World) (v : Value) (L : List Stp) : Prop := ∃ a cap, v = .slice a L.length cap ∧ L.length ≤ cap ∧ cap ≤ maxLen ∧ (a = none → cap = 0) ∧ Rxs C w a L.length L
/-- slice value v reads as the steps L, in a block from base on -/
def ReadsX (w : World) (base : Nat) (v : Value) (L : List Stp) : Prop := SlX (fun b => base ≤ b ∧ b < w.heap.size) w v L
theorem SlX.below {C C' : Nat → Prop} {w w' : World} {v : Value} {L : List Stp} (h : SlX C w v L) (hb : ∀ b, C b → C' b ∧ w'.heap[b]? = w.heap[b]?) : SlX C' w' v L := by
  obtain ⟨a, cap, rfl, h1, h2, h0, hS⟩ := h
  exact ⟨a, cap, rfl, h1, h2, h0, hS.below hb⟩
theorem rxAt_of_cells {w : World} {g : Nat} {L : List Stp} {i : Nat} (hi : i < L.length) (h : ∀ j, j < L.length * 5 → w.cell? ⟨g, j, none⟩ = (rxCells L)[j]?) : RxAt w g (i * 5) (L.getD i default) := by
  have hg := rxCells_get L i hi
  refine ⟨?_, ?_, ?_, ?_, ?_⟩
  · rw [h _ (by omega)]; have := hg 0 (by decide); simpa [Stp.cells] using this
  · rw [h _ (by omega)]; have := hg 1 (by decide); simpa [Stp.cells] using this
  · rw [h _ (by omega)]; have := hg 2 (by decide); simpa [Stp.cells] using this
  · rw [h _ (by omega)]; have := hg 3 (by decide); simpa [Stp.cells] using this
  · rw [h _ (by omega)]; have := hg 4 (by decide); simpa [Stp.cells] using this
theorem RowX.reads {w : World} {base : Nat} {v : Value} {L : List Stp} (h : RowX w base v L) : ReadsX w base v L := by
  have h' := h
  obtain ⟨_, ⟨rfl, h1⟩ | ⟨g, cap, cur, rfl, hb, hg, h1, h2, h3, h4⟩⟩ := h
  · exact ⟨none, 0, by rw [h1], by omega, by decide, fun _ => rfl, rfl, fun h => by omega⟩
  · refine ⟨some ⟨g, 0, none⟩, cap, rfl, h1, h2, (fun e => by cases e), rfl, fun _ => ⟨g, 0, rfl, ⟨hb, (Array.getElem?_eq_some_iff.1 hg).1⟩, fun i hi => ?_⟩⟩
    rw [Nat.zero_add]
    exact rxAt_of_cells hi fun j hj => World.ownsRow.cellAt h' j hj
theorem ReadsX.kept {w w' : World} {base : Nat} {v : Value} {L : List Stp} (h : ReadsX w base v L) (hb : Below w.heap.size w w') : ReadsX w' base v L :=
  SlX.below h fun b hb' => ⟨⟨hb'.1, by have := hb.size; omega⟩, hb.block b hb'.2⟩
theorem ReadsX.lower {w : World} {base base' : Nat} {v : Value} {L : List Stp} (h : ReadsX w base v L) (hb : base' ≤ base) : ReadsX w base' v L :=
  SlX.below h fun b hb' => ⟨⟨by omega, hb'.2⟩, rfl⟩
theorem RowX.nil (w : World) (base : Nat) : RowX w base (.slice none 0 0) [] := World.ownsRow_nil _ _ _ _
theorem RowX.below {w w' : World} {base : Nat} {v : Value} {L : List Stp} (h : RowX w base v L) (hb : Below w.heap.size w w') : RowX w' base v L := by
  refine ⟨h.1, ?_⟩
  rcases h.2 with hn | ⟨g, cap, cur, rfl, hb', hgg, rest⟩
  · exact .inl hn
  · exact .inr ⟨g, cap, cur, rfl, hb', by rw [hb.block g (Array.getElem?_eq_some_iff.1 hgg).1]; exact hgg, rest⟩
theorem RowX.more {w : World} {base : Nat} {v : Value} {L M : List Stp} (h : w.ownsRow base 109 5 v (L.length + M.length) (rxCells L ++ rxCells M)) : RowX w base v (L ++ M) := by
  unfold RowX
  rw [rxCells_append, List.length_append]
  exact h
theorem RowX.lower {w : World} {base base' : Nat} {v : Value} {L : List Stp} (h : RowX w base v L) (hb : base' ≤ base) : RowX w base' v L := ownsRow_le h hb
/-- what a call that makes steps hands back -/
def RetX (w : World) (L : List Stp) (e : Ending) (w' : World) : Prop := ∃ v, e = .returned v ∧ RowX w' w.heap.size v L ∧ Below w.heap.size w w'

/-! ### two lists held against one another -/
end Go.Proofs.Ytgaadndhecokfaa

/- Contracts of what is asked of steps: operands, measure, Check, High, Begin, slices.Equal at steps, Same. -/
namespace Go.Proofs.Ytgaadndhecokfaa
open Go.RowKit

/-! ### what is wrong with steps, and how many parts they make -/
theorem meas_step {L : List Stp} {k : Nat} {p h : Int} {r : Int × Int} (e : r = measGo (L.drop k) p h) (hk : k < L.length) :
    (¬ (L.getD k default).good → r = (0, 1)) ∧ ((L.getD k default).good → p < kOps (L.getD k default).k → r = (0, 3)) ∧ ((L.getD k default).good → kOps (L.getD k default).k ≤ p → r = measGo (L.drop (k + 1)) (p + (1 - kOps (L.getD k default).k)) (max h (p + (1 - kOps (L.getD k default).k)))) := by
  rw [List.drop_eq_getElem_cons hk, measGo] at e
  have e1 : L.getD k default = L[k] := by rw [List.getD_eq_getElem?_getD, List.getElem?_eq_getElem hk]; rfl
  rw [e1]
  refine ⟨fun h1 => ?_, fun h1 h2 => ?_, fun h1 h2 => ?_⟩
  · rw [if_neg h1] at e; exact e
  · rw [if_pos h1, if_pos h2] at e; exact e
  · rw [if_pos h1, if_neg (by omega)] at e; exact e
theorem meas_end {L : List Stp} {k : Nat} {p h : Int} {r : Int × Int} (e : r = measGo (L.drop k) p h) (hk : L.length ≤ k) : r = if p = 1 then (h, 0) else (0, 3) := by
  rw [List.drop_eq_nil_of_le hk] at e
  exact e
/-! ### where a part begins -/
end Go.Proofs.Ytgaadndhecokfaa

/- Contract of Sets. -/
namespace Go.Proofs.Ytgaadndhecokfaa
open Go.RowKit Go.Lib Go.Joins

theorem infoS : (Try.prog.info? 90).map (fun i => (i.zero, i.size, i.bytes)) = some (some (.agg #[.int .u64 0, .int .u64 0, .int .u64 0, .int .u64 0]), 4, 32) := by kernel_rfl
def setC (s : Stp) : List Value := [.int .u64 s.a, .int .u64 s.b, .int .u64 s.c, .int .u64 s.d]
/-- slice value v owns the sets of these steps, in a block from base on -/
def RowS (w : World) (base : Nat) (v : Value) (S : List Stp) : Prop := w.ownsRow base 90 4 v S.length (S.flatMap setC)
theorem RowS.nil (w : World) (base : Nat) : RowS w base (.slice none 0 0) [] := World.ownsRow_nil _ _ _ _
theorem RowS.kept {w w' : World} {base : Nat} {v : Value} {l : List Stp} (h : RowS w base v l) (hb : Below w.heap.size w w') : RowS w' base v l :=
  World.ownsRow.kept (row := none) h ⟨hb.os, hb.tape, hb.output, hb.size, fun k hk _ => hb.block k hk⟩ (by cases v.ownBlock <;> simp)
def RetS (w : World) (l : List Stp) (e : Ending) (w' : World) : Prop := ∃ v, e = .returned v ∧ RowS w' w.heap.size v l ∧ Below w.heap.size w w'
theorem app_s {w : World} {ops : Array Oper} {rest : List Oper} {o : Oper} {a : Act} {Q : Exit → Act → World → Prop} (hgd : o.guard = none) (s x : Operand)
    (ho : o.op = .call { callee := .builtin .append, args := #[s, x], argTypes := #[50, 50] }) {base xb : Nat} {z : Stp} {v : Value} {l : List Stp}
    (hs : a.eval s = v) (hown : RowS w base v l) (hx : a.eval x = .slice (some ⟨xb, 0, none⟩) 1 1) (hxb : w.heap[xb]? = some (.cells #[.int .u64 z.a, .int .u64 z.b, .int .u64 z.c, .int .u64 z.d] 90 (0, 0))) {n : Nat} (hn : l.length = n) (hn2 : n ≤ 100000) (hb0 : base ≤ w.heap.size)
    (h : ∀ g' c' w', RowS w' base (.slice (some ⟨g', 0, none⟩) (n + 1) c') (l ++ [z]) → w.grownBy w' v.ownBlock → Below base w w' → wpList Try.prog ops Q rest (a.put o.dst (.slice (some ⟨g', 0, none⟩) (n + 1) c')) w') : wpList Try.prog ops Q (o :: rest) a w := by
  subst hn
  obtain ⟨i0, hi, hz0, hz1, hz2⟩ := info_parts infoS
  refine wpList_append_own w hgd s x 50 ho base 90 i0 _ 4 32 Try.underlying50 hi hz0 hz1 hz2 rfl (by decide) _ l.length (l.flatMap setC) hs hown ⟨xb, 0, none⟩ 1 1 (setC z) hx rfl (fun j x hj => ?_) (fun x hx => by simp [setC] at hx; rcases hx with rfl | rfl | rfl | rfl <;> rfl) (by unfold maxLen; omega) (by omega) hb0 fun v' w' h3 h4 _ => ?_
  · rw [Addr.add_lit, Nat.zero_add, cell_of_row w xb _ _ _ _ hxb]
    simpa [setC] using hj
  · have hb : Below base w w' := (Below.refl base w).grown h4 hb0 fun k e => (hown.lt k e).1
    rcases ownsRow_forms h3 with ⟨_, h0⟩ | ⟨g, c, rfl⟩
    · omega
    · exact h g c w' (by unfold RowS; simpa using h3) h4 hb
/-- the steps that are sets -/
def sets (L : List Stp) : List Stp := L.filter fun s => s.k == 1
theorem sets_take {L : List Stp} {k : Nat} (h : k < L.length) : sets (L.take (k + 1)) = if (L.getD k default).k = 1 then sets (L.take k) ++ [L.getD k default] else sets (L.take k) := by
  have e : L.take (k + 1) = L.take k ++ [L.getD k default] := by rw [List.take_add_one, List.getElem?_eq_getElem h, List.getD_eq_getElem?_getD, List.getElem?_eq_getElem h]; rfl
  unfold sets
  rw [e, List.filter_append]
  generalize L.getD k default = s
  by_cases hk : s.k = 1
  · rw [if_pos hk]; simp [hk]
  · rw [if_neg hk]; simp [hk]
theorem sets_len (L : List Stp) (k : Nat) : (sets (L.take k)).length ≤ k := Nat.le_trans (List.length_filter_le _ _) (by simp; omega)
attribute [local irreducible] sets
end Go.Proofs.Ytgaadndhecokfaa
