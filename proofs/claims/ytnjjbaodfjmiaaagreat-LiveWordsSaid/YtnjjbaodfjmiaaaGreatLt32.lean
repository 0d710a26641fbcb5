/- DfOwn, DfPut, LvRReach, LvWaitC, put together. -/
import Derived.Test.YtnjjbaodfjmiaaaGreatLt16
import Derived.Test.YtnjjbaodfjmiaaaGreatLt26
import Derived.Laws.ResultCell
import Derived.Laws.CopyRow
import Derived.Test.YtnjjbaodfjmiaaaGreatLt31
import Derived.Deep.RegionLaw
import Derived.Deep.CutRange
/- Rows of a call's own that lie apart, beside blocks that are no rows: one row grows, is let go, or is begun anew; what is far from all of them stays as it is. -/
namespace Go.Proofs.YtnjjbaodfjmiaaaGreat
open Go.RowKit Go.Lib Go.Joins

/-- rows that lie apart, outside the blocks X -/
structure OwnR (w : World) (X : Nat → Prop) (base : Nat) (rs : List R5) : Prop where
  rows : ∀ r ∈ rs, r.at w base
  apart : rs.Pairwise fun r s => away r.v s.v
  out : ∀ r ∈ rs, ∀ k, r.v.ownBlock = some k → ¬ X k
  fixed : ∀ k, X k → k < w.heap.size
/-- a block that is none of them -/
def FarR (w : World) (X : Nat → Prop) (rs : List R5) (k : Nat) : Prop := k < w.heap.size ∧ ¬ X k ∧ ∀ r ∈ rs, r.v.ownBlock ≠ some k
/-- what is far stays far, and as it is -/
def StayR (X : Nat → Prop) (w : World) (rs : List R5) (w' : World) (rs' : List R5) : Prop := ∀ k, FarR w X rs k → FarR w' X rs' k ∧ w'.heap[k]? = w.heap[k]?
theorem StayR.refl (X : Nat → Prop) (w : World) (rs : List R5) : StayR X w rs w rs := fun _ h => ⟨h, rfl⟩
theorem StayR.trans {X : Nat → Prop} {a b c : World} {ra rb rc : List R5} (h : StayR X a ra b rb) (k : StayR X b rb c rc) : StayR X a ra c rc := fun i hi => ⟨(k i (h i hi).1).1, (k i (h i hi).1).2.trans (h i hi).2⟩
section
variable {w w' : World} {X : Nat → Prop} {base : Nat} {rs : List R5}
theorem OwnR.kept (h : OwnR w X base rs) (hb : Below w.heap.size w w') : OwnR w' X base rs :=
  ⟨fun r hr => World.ownsRow.kept (row := none) (h.rows r hr) ⟨hb.os, hb.tape, hb.output, hb.size, fun k hk _ => hb.block k hk⟩ (by cases r.v.ownBlock <;> simp), h.apart, h.out, fun k hk => Nat.lt_of_lt_of_le (h.fixed k hk) hb.size⟩
theorem StayR.below (hb : Below w.heap.size w w') : StayR X w rs w' rs := fun k hk => ⟨⟨Nat.lt_of_lt_of_le hk.1 hb.size, hk.2⟩, hb.block k hk.1⟩
/-- a row's block -/
theorem OwnR.lt (h : OwnR w X base rs) {r : R5} (hr : r ∈ rs) {k : Nat} (hk : r.v.ownBlock = some k) : base ≤ k ∧ k < w.heap.size := World.ownsRow.lt (h.rows r hr) k hk
/-- row i becomes a row that lies where it lay, or in a new block -/
theorem OwnR.grow (h : OwnR w X base rs) (i : Nat) (hi : i < rs.length) (r' : R5) (hg : w.grownBy w' rs[i].v.ownBlock) (ho : r'.at w' base) (hat : ∀ k, r'.v.ownBlock = some k → rs[i].v.ownBlock = some k ∨ w.heap.size ≤ k) : OwnR w' X base (rs.set i r') := by
  have haw : ∀ j (hj : j < rs.length), j ≠ i → away r'.v rs[j].v := by
    intro j hj hne
    cases hv : r'.v.ownBlock with
    | none => exact .inl hv
    | some k =>
      refine .inr fun e => ?_
      rw [hv] at e
      rcases hat k hv with e2 | e2
      · rcases away_at h.apart i hi j hj (Ne.symm hne) with e3 | e3
        · rw [e2] at e3; cases e3
        · exact e3 (e2.trans e)
      · have := (h.lt (List.getElem_mem hj) e.symm).2
        omega
  refine ⟨?_, ?_, ?_, fun k hk => Nat.lt_of_lt_of_le (h.fixed k hk) hg.size⟩
  · intro r hr
    obtain ⟨j, hj, rfl⟩ := List.getElem_of_mem hr
    rw [List.length_set] at hj
    rw [List.getElem_set]
    by_cases e : i = j
    · rw [if_pos e]; exact ho
    · rw [if_neg e]
      exact World.ownsRow.kept (h.rows _ (List.getElem_mem hj)) hg (away_at h.apart j hj i hi (Ne.symm e))
  · rw [List.pairwise_iff_getElem]
    intro a b ha hb hab
    rw [List.length_set] at ha hb
    rw [List.getElem_set, List.getElem_set]
    by_cases e1 : i = a
    · subst e1
      rw [if_pos rfl, if_neg (by omega)]
      exact haw b hb (by omega)
    · rw [if_neg e1]
      by_cases e2 : i = b
      · subst e2
        rw [if_pos rfl]
        exact (haw a ha (by omega)).symm
      · rw [if_neg e2]
        exact away_at h.apart a ha b hb (by omega)
  · intro r hr k hk hX
    rcases List.mem_or_eq_of_mem_set hr with hr | rfl
    · exact h.out r hr k hk hX
    · rcases hat k hk with e | e
      · exact h.out _ (List.getElem_mem hi) k e hX
      · have := h.fixed k hX; omega
theorem StayR.grow (i : Nat) (hi : i < rs.length) (r' : R5) (hg : w.grownBy w' rs[i].v.ownBlock) (hat : ∀ k, r'.v.ownBlock = some k → rs[i].v.ownBlock = some k ∨ w.heap.size ≤ k) : StayR X w rs w' (rs.set i r') := by
  rintro k ⟨h1, h2, h3⟩
  refine ⟨⟨Nat.lt_of_lt_of_le h1 hg.size, h2, fun r hr e => ?_⟩, hg.block k h1 fun e => h3 _ (List.getElem_mem hi) e.symm⟩
  rcases List.mem_or_eq_of_mem_set hr with hr | rfl
  · exact h3 r hr e
  · rcases hat k e with e2 | e2
    · exact h3 _ (List.getElem_mem hi) e2
    · omega
/-- a block of X, behind a row's growth -/
theorem OwnR.fix (h : OwnR w X base rs) {o : Option Nat} (hg : w.grownBy w' o) (ho : ∀ k, o = some k → ∃ r ∈ rs, r.v.ownBlock = some k) {k : Nat} (hX : X k) : w'.heap[k]? = w.heap[k]? :=
  hg.block k (h.fixed k hX) fun e => by
    obtain ⟨r, hr, e2⟩ := ho k e.symm
    exact h.out r hr k e2 hX
/-- a store to a block of X -/
theorem OwnR.store (h : OwnR w X base rs) {B : Nat} (hX : X B) (j : Nat) (u : Value) : OwnR (w.setCell ⟨B, j, none⟩ u) X base rs := by
  have hgs : w.grownBy (w.setCell ⟨B, j, none⟩ u) (some B) := ⟨rfl, rfl, rfl, by simp, fun k _ hk => heap_setCell_other _ _ _ _ (fun e => hk (by rw [e]))⟩
  exact ⟨fun r hr => World.ownsRow.kept (h.rows r hr) hgs (.inr fun e => h.out r hr B e hX), h.apart, h.out, fun k hk => by simpa using h.fixed k hk⟩
theorem StayR.store {B : Nat} (hX : X B) (j : Nat) (u : Value) : StayR X w rs (w.setCell ⟨B, j, none⟩ u) rs := by
  rintro k ⟨h1, h2, h3⟩
  exact ⟨⟨by simpa using h1, h2, h3⟩, heap_setCell_other _ _ _ _ (fun e => h2 (e ▸ hX))⟩
/-- row i is let go: its block is far -/
theorem OwnR.drop (h : OwnR w X base rs) (i : Nat) (hi : i < rs.length) (t : TypeId) (sz : Nat) : OwnR w X base (rs.set i ⟨t, sz, .slice none 0 0, 0, []⟩) :=
  h.grow i hi _ ⟨rfl, rfl, rfl, Nat.le_refl _, fun _ _ _ => rfl⟩ (World.ownsRow_nil w base t sz) (by intro k hk; cases hk)
theorem StayR.drop (i : Nat) (hi : i < rs.length) (t : TypeId) (sz : Nat) : StayR X w rs w (rs.set i ⟨t, sz, .slice none 0 0, 0, []⟩) :=
  StayR.grow i hi _ ⟨rfl, rfl, rfl, Nat.le_refl _, fun _ _ _ => rfl⟩ (by intro k hk; cases hk)
theorem OwnR.far_drop (h : OwnR w X base rs) (i : Nat) (hi : i < rs.length) (t : TypeId) (sz : Nat) {k : Nat} (hk : rs[i].v.ownBlock = some k) : FarR w X (rs.set i ⟨t, sz, .slice none 0 0, 0, []⟩) k := by
  refine ⟨(h.lt (List.getElem_mem hi) hk).2, h.out _ (List.getElem_mem hi) k hk, fun r hr e => ?_⟩
  obtain ⟨j, hj, rfl⟩ := List.getElem_of_mem hr
  rw [List.length_set] at hj
  rw [List.getElem_set] at e
  by_cases e1 : i = j
  · rw [if_pos e1] at e; cases e
  · rw [if_neg e1] at e
    rcases away_at h.apart i hi j hj e1 with e3 | e3
    · rw [hk] at e3; cases e3
    · exact e3 (hk.trans e.symm)
/-- a row that lies in new blocks: its elements are far -/
theorem OwnR.far_new (h : OwnR w X base rs) {B k : Nat} (hB : w.heap.size ≤ B) (hk : B ≤ k ∧ k < w'.heap.size) : FarR w' X rs k :=
  ⟨hk.2, fun hX => by have := h.fixed k hX; omega, fun r hr e => by have := (h.lt hr e).2; omega⟩
end
/-- values that read as lists, in blocks of a kind -/
def Els (P : Nat → Prop) (w : World) (us : List Value) (L : List (List Int)) : Prop := us.length = L.length ∧ ∀ i, i < L.length → ElR P w (us.getD i undef) (L.getD i [])
theorem Els.mono {P P' : Nat → Prop} {w w' : World} {us : List Value} {L : List (List Int)} (h : Els P w us L) (hk : ∀ k, P k → P' k ∧ w'.heap[k]? = w.heap[k]?) : Els P' w' us L := ⟨h.1, fun i hi => (h.2 i hi).mono hk⟩
theorem Els.nil (P : Nat → Prop) (w : World) : Els P w [] [] := ⟨rfl, fun _ h => absurd h (Nat.not_lt_zero _)⟩
theorem Els.snoc {P : Nat → Prop} {w : World} {us : List Value} {L : List (List Int)} (h : Els P w us L) {u : Value} {l : List Int} (hu : ElR P w u l) : Els P w (us ++ [u]) (L ++ [l]) := by
  refine ⟨by simp [h.1], fun i hi => ?_⟩
  have hl := h.1
  simp only [List.length_append, List.length_cons, List.length_nil] at hi
  by_cases hi2 : i < L.length
  · have e1 : (us ++ [u]).getD i undef = us.getD i undef := by rw [List.getD_eq_getElem?_getD, List.getD_eq_getElem?_getD, List.getElem?_append_left (by omega)]
    have e2 : (L ++ [l]).getD i [] = L.getD i [] := by rw [List.getD_eq_getElem?_getD, List.getD_eq_getElem?_getD, List.getElem?_append_left (by omega)]
    rw [e1, e2]
    exact h.2 i hi2
  · have hi3 : i = L.length := by omega
    have e1 : (us ++ [u]).getD i undef = u := by rw [List.getD_eq_getElem?_getD, hi3, ← hl, List.getElem?_append_right (Nat.le_refl _)]; simp
    have e2 : (L ++ [l]).getD i [] = l := by rw [List.getD_eq_getElem?_getD, hi3, List.getElem?_append_right (Nat.le_refl _)]; simp
    rw [e1, e2]
    exact hu
/-- a row of lists, read -/
theorem Els.reads {P : Nat → Prop} {w : World} {us : List Value} {L : List (List Int)} {v : Value} {base : Nat} (h : Els P w us L) (hr : w.ownsRow base 24 1 v L.length us) (hP : ∀ k, P k → k < w.heap.size) : RdZZ w.heap.size w v L := by
  rcases hr.2 with ⟨rfl, h0⟩ | ⟨g, cap, cur, rfl, hb, hg, h1, h2, h3, h4⟩
  · exact ⟨none, 0, by rw [h0], by omega, by decide, fun _ => rfl, fun hp => by omega⟩
  · refine ⟨some ⟨g, 0, none⟩, cap, rfl, h1, h2, (fun e => by cases e), fun _ => ⟨g, 0, rfl, (Array.getElem?_eq_some_iff.1 hg).1, fun i hi => ?_⟩⟩
    have hi' : i < us.length := by rw [h.1]; exact hi
    refine ⟨us.getD i undef, ?_, ?_⟩
    · rw [Nat.zero_add, World.ownsRow.cellAt hr i (by omega), List.getD_eq_getElem?_getD, List.getElem?_eq_getElem hi']
      rfl
    · obtain ⟨a, c, e, k1, k2, k3, k4⟩ := h.2 i hi
      exact ⟨a, c, e, k1, k2, k3, fun hp => by
        obtain ⟨b, off, e, hPb, hc⟩ := k4 hp
        exact ⟨b, off, e, hP b hPb, hc⟩⟩
end Go.Proofs.YtnjjbaodfjmiaaaGreat

/- A machine that a call builds: the empty one, its classes and its fields stored, and a result that lies in memory. -/
namespace Go.Proofs.YtnjjbaodfjmiaaaGreat
open Go.RowKit Go.Lib Go.Joins

def zG (_ : Nat) : Nat := 0
theorem run_zero_dfa (w : World) : (zeroValue 26).run Tryz.prog w = .ok (dfaA zG 0 (.slice none 0 0) (.slice none 0 0)) w := by
  unfold dfaA dfaC
  rw [show nV zG = (fun _ => Value.int .u8 0) from rfl, ← cellsN_zero]
  kernel_rfl
theorem run_build_dfa (w : World) : (Instr.build 26 #[]).run Tryz.prog w = .ok (dfaA zG 0 (.slice none 0 0) (.slice none 0 0)) w := by
  unfold dfaA dfaC
  rw [show nV zG = (fun _ => Value.int .u8 0) from rfl, ← cellsN_zero]
  kernel_rfl
theorem dfaC_one (g : Nat → Nat) (wd : Int) {vn vl : Value} (h1 : vn.oneCell' = true) (h2 : vl.oneCell' = true) : (dfaC g wd vn vl).all (·.oneCell') = true := by
  unfold dfaC
  rw [Array.all_append, cellsN_one _ fun _ => rfl]
  simp [h1, h2, show (Value.int IntKind.i64 wd).oneCell' = true from rfl]
section
variable {w w' : World} {B : Nat} {g h : Nat → Nat} {wd wd' : Int} {vn vl vn' vl' : Value}
/-- the whole machine is stored -/
theorem store_dfa {ops : Array Oper} {rest : List Oper} {o : Oper} {a : Act} {Q : Exit → Act → World → Prop} (hgd : o.guard = none) {x y : Operand} (ho : o.op = .store 26 x y)
    (hx : a.eval x = .pointer (some ⟨B, 0, none⟩)) (hy : a.eval y = dfaA h wd' vn' vl') (hA : DfaAt w B g wd vn vl) (h1 : vn'.oneCell' = true) (h2 : vl'.oneCell' = true)
    (hk : ∀ w', DfaAt w' B h wd' vn' vl' → w.grownBy w' (some B) → w'.heap.size = w.heap.size → wpList Tryz.prog ops Q rest (a.put o.dst undef) w') : wpList Tryz.prog ops Q (o :: rest) a w :=
  wpList_store_row hgd 26 x y ho B _ hx hy 26 _ hA (by rw [dfaC_size]; exact size_dfa) (by rw [dfaC_size, dfaC_size]) (dfaC_one h wd' h1 h2)
    (hk _ (setRow_heap w B _ _ _ _ hA) ⟨rfl, rfl, rfl, by simp, fun k _ hne => setRow_other w B k _ (by simpa using hne)⟩ (by simp))
/-- its classes are stored -/
theorem store_cls {ops : Array Oper} {rest : List Oper} {o : Oper} {a : Act} {Q : Exit → Act → World → Prop} (hgd : o.guard = none) {x y : Operand} (ho : o.op = .store 22 x y)
    (hx : a.eval x = .pointer (some ⟨B, 0, none⟩)) (hy : a.eval y = ar h) (hA : DfaAt w B g wd vn vl)
    (hk : ∀ w', DfaAt w' B h wd vn vl → w.grownBy w' (some B) → w'.heap.size = w.heap.size → wpList Tryz.prog ops Q rest (a.put o.dst undef) w') : wpList Tryz.prog ops Q (o :: rest) a w := by
  refine wpList_plain hgd fun K hK => ?_
  have hr := run_storeCells_at (P := Tryz.prog) B 0 26 (cellsN (nV h)).toList 0 (dfaC g wd vn vl) w hA (by rw [Array.length_toList, cellsN_size, dfaC_size]; omega) (fun v hv => (Array.all_eq_true_iff_forall_mem.1 (cellsN_one (nV h) fun _ => rfl)) v (by simpa using hv))
  have e : ((dfaC g wd vn vl).toList.take (0 + 0) ++ (cellsN (nV h)).toList ++ (dfaC g wd vn vl).toList.drop (0 + 0 + (cellsN (nV h)).toList.length)).toArray = dfaC h wd vn vl := by
    rw [Array.length_toList, cellsN_size]
    unfold dfaC
    rw [Array.toList_append, List.drop_append_of_le_length (by rw [Array.length_toList, cellsN_size]; omega)]
    rw [List.drop_eq_nil_of_le (by rw [Array.length_toList, cellsN_size]; omega)]
    simp
  rw [e] at hr
  have hK' := hK _ _ (hk (w.setRow B (dfaC h wd vn vl)) (setRow_heap w B _ _ _ _ hA) ⟨rfl, rfl, rfl, by simp, fun k _ hne => setRow_other w B k _ (by simpa using hne)⟩ (by simp))
  cases hq : Tryz.prog.info? 22 with
  | none => have := size_arr; simp [hq] at this
  | some i =>
    have hs : i.size = 256 := by have := size_arr; simpa [hq] using this
    have hst : (storeVar 22 ⟨B, 0, none⟩ (ar h)).run Tryz.prog w = .ok () (w.setRow B (dfaC h wd vn vl)) := by
      simp [storeVar, sizeOf, typeInfo, hq, Value.cells, hs, cellsN_size, hr]
    unfold Oper.wp execOp
    simp only [ho, hx, hy, Instr.storeAt, Instr.sureAddr, Sem.run_bind, Sem.run_pure, Result.andThen_ok, hst]
    exact hK'
theorem dfaC_set256 (g : Nat → Nat) (wd wd' : Int) (vn vl : Value) : (dfaC g wd vn vl).setIfInBounds 256 (.int .i64 wd') = dfaC g wd' vn vl := by
  unfold dfaC
  rw [Array.setIfInBounds_append_right (by rw [cellsN_size]; omega), cellsN_size]
  rfl
theorem dfaC_set257 (g : Nat → Nat) (wd : Int) (vn vn' vl : Value) : (dfaC g wd vn vl).setIfInBounds 257 vn' = dfaC g wd vn' vl := by
  unfold dfaC
  rw [Array.setIfInBounds_append_right (by rw [cellsN_size]; omega), cellsN_size]
  rfl
theorem dfaC_set258 (g : Nat → Nat) (wd : Int) (vn vl vl' : Value) : (dfaC g wd vn vl).setIfInBounds 258 vl' = dfaC g wd vn vl' := by
  unfold dfaC
  rw [Array.setIfInBounds_append_right (by rw [cellsN_size]; omega), cellsN_size]
  rfl
theorem DfaAt.putWidth (hA : DfaAt w B g wd vn vl) (wd' : Int) : DfaAt (w.setCell ⟨B, 256, none⟩ (.int .i64 wd')) B g wd' vn vl := by
  unfold DfaAt
  rw [heap_setCell_same _ _ _ _ _ _ hA, dfaC_set256]
theorem DfaAt.putNext (hA : DfaAt w B g wd vn vl) (vn' : Value) : DfaAt (w.setCell ⟨B, 257, none⟩ vn') B g wd vn' vl := by
  unfold DfaAt
  rw [heap_setCell_same _ _ _ _ _ _ hA, dfaC_set257]
theorem DfaAt.putLabel (hA : DfaAt w B g wd vn vl) (vl' : Value) : DfaAt (w.setCell ⟨B, 258, none⟩ vl') B g wd vn vl' := by
  unfold DfaAt
  rw [heap_setCell_same _ _ _ _ _ _ hA, dfaC_set258]
theorem DfaAt.grown (hA : DfaAt w B g wd vn vl) {o : Option Nat} (hg : w.grownBy w' o) (ho : o ≠ some B) : DfaAt w' B g wd vn vl := (hg.block B hA.lt (Ne.symm ho)).trans hA
theorem DfaAt.put (hA : DfaAt w B g wd vn vl) {C j : Nat} (u : Value) (hne : B ≠ C) : DfaAt (w.setCell ⟨C, j, none⟩ u) B g wd vn vl := (heap_setCell_other _ _ _ _ hne).trans hA
theorem results_cell_tmp2 {fn : Func} {p u z : Tmp} {ty : TypeId} (h : fn.results = #[.cell p ty, .tmp u, .tmp z]) (tmps : Array Value) (P : Program) (w : World) :
    (results fn tmps).run P w = ((asAddr (tmps.getD p undef)).run P w).andThen fun a w₁ => ((loadVar ty a).run P w₁).andThen fun v w₂ => .ok (.tuple #[v, tmps.getD u undef, tmps.getD z undef]) w₂ := by
  simp only [results, h]
  simp [Sem.run_bind, Result.andThen]
/-- results: a machine in memory, and two values -/
theorem ret_dfa3 {fn : Func} {R : Ending → World → Prop} {a : Act} {p u z : Nat} {x y : Value} (hf : fn.results = #[.cell p 26, .tmp u, .tmp z]) (hp : a.tmps.getD p undef = .pointer (some ⟨B, 0, none⟩))
    (hu : a.tmps.getD u undef = x) (hz : a.tmps.getD z undef = y) (hd : a.defers = []) (hA : DfaAt w B g wd vn vl) (hR : R (.returned (.tuple #[dfaA g wd vn vl, x, y])) w) : bodyPost Tryz.prog fn R .ret a w := by
  have hl := run_load_dfa hA
  refine bodyPost_ret (v := .tuple #[dfaA g wd vn vl, x, y]) ?_ hd hR
  rw [results_cell_tmp2 hf, hp, hu, hz]
  simp [asAddr, hl, Result.andThen]
end
end Go.Proofs.YtnjjbaodfjmiaaaGreat

/- Contract of the reference's Reached. -/
namespace Go.Proofs.YtnjjbaodfjmiaaaGreat
open Go.RowKit

/-- block X holds the machine, block B a row of truths -/
structure RSt (w0 w : World) (X B : Nat) (g : Nat → Nat) (wd : Int) (vn vl : Value) (S : List Bool) : Prop where
  d : DfaAt w X g wd vn vl
  r : RowAt w B 4 Value.bool S
  b : Below w0.heap.size w0 w
  ne : X ≠ B
  lo : w0.heap.size ≤ B
section
variable {w0 w w' : World} {X B : Nat} {g : Nat → Nat} {wd : Int} {vn vl : Value} {S : List Bool}
theorem RSt.put (h : RSt w0 w X B g wd vn vl S) (i : Nat) (x : Bool) : RSt w0 (w.setCell ⟨B, i, none⟩ (.bool x)) X B g wd vn vl (S.set i x) :=
  ⟨h.d.put _ h.ne, h.r.set i x, h.b.setCell (p := ⟨B, i, none⟩) h.lo _, h.ne, h.lo⟩
theorem RSt.drew (h : RSt w0 w X B g wd vn vl S) : RSt w0 w.drew X B g wd vn vl S := ⟨h.d, h.r, h.b.drew, h.ne, h.lo⟩
theorem RSt.kept (h : RSt w0 w X B g wd vn vl S) (hb : Below w.heap.size w w') : RSt w0 w' X B g wd vn vl S := ⟨h.d.below hb, h.r.below hb, below_then h.b h.b.size hb, h.ne, h.lo⟩
end
theorem rep_set (n : Nat) (z u : Value) : (Array.replicate n z).setIfInBounds 0 u = ((List.replicate n z).set 0 u).toArray := by
  rw [← List.setIfInBounds_toArray, List.toArray_replicate]
theorem rch_width {D : DfaM} (hR : rightD D = true) : ∃ W : Nat, D.width = W ∧ D.width.toNat = W := by
  obtain ⟨_, h2, _⟩ := rightD_spec hR
  exact ⟨wid D.cls 256, h2, by rw [h2]; rfl⟩
/-- what a right machine's cells are -/
theorem RdDfa.row {B : Nat} {w w' : World} {an : Option Addr} {n cn : Nat} {vl : Value} {D : DfaM} (h : RdDfa B w (.slice an n cn) vl D) (hR : rightD D = true) {W : Nat} (hW : D.width = W) (hb : Below B w w') (i : Nat) (hi : i < D.next.length) :
    ∃ b off b2 off2 c', an = some ⟨b, off, none⟩ ∧ w'.cell? ⟨b, off + i, none⟩ = some (.slice (some ⟨b2, off2, none⟩) W c') ∧ b < B ∧ b2 < B ∧ ∀ c, c < W → w'.cell? ⟨b2, off2 + c, none⟩ = some (.int .i64 (toD D i c)) := by
  obtain ⟨b, off, a', c', rfl, hbb, hc, hrr⟩ := h.next.at hb i hi
  have hl : (D.next.getD i []).length = W := by
    have := ((rightD_spec hR).2.2.2.2 i hi).1
    omega
  have h0 : 0 < W := by
    have h2 := (rightD_spec hR).2.1
    have := wid_ge D.cls (show 0 < 256 by omega)
    omega
  obtain ⟨b2, off2, rfl, hb2, _⟩ := hrr.atZ (Below.refl _ _) 0 (by omega)
  rw [hl] at hc
  refine ⟨b, off, b2, off2, c', rfl, hc, hbb, hb2, fun c hcw => ?_⟩
  obtain ⟨b3, off3, e, _, hc3⟩ := hrr.atZ (Below.refl _ _) c (by omega)
  simp only [Option.some.injEq, Addr.mk.injEq, and_true] at e
  obtain ⟨rfl, rfl⟩ := e
  exact hc3

set_option maxHeartbeats 4000000 in
set_option maxRecDepth 100000 in
theorem rreached_calls {w : World} {vn vl : Value} {D : DfaM} (h : RdDfa w.heap.size w vn vl D) (hN : D.next.length ≤ 1000) :
    Calls Tryz.prog 11 #[dfaA D.cls D.width vn vl] w (RetBo w (reachedL D)) := by
  obtain ⟨an, cn, rfl⟩ := h.next.form
  have HR := hidden (fun w' (hb : Below w.heap.size w w') => rright14_calls (h.below hb hb.size))
  have HD := hidden h
  have HX := hidden (DfaAt.new w D.cls D.width (.slice an D.next.length cn) vl)
  have HB0 := hidden ((Below.refl w.heap.size w).alloc (Nat.le_refl _) (.cells (dfaC D.cls D.width (.slice an D.next.length cn) vl) 26))
  have hbx := run_box_dfa D.cls D.width (.slice an D.next.length cn) vl
  obtain ⟨n, hn⟩ : ∃ n, n = D.next.length := ⟨_, rfl⟩
  rw [← hn] at HD HX HB0 HR hbx hN ⊢
  have HN := hidden hn
  clear h hn
  go_enter Tryz.func11, Tryz.ntmps11
  go_wp2_with (refine load_dfa rfl (x := .tmp 1) rfl rfl HX.out ?_)
  refine (HR.out _ HB0.out).mono ?_
  rintro e w1 ⟨rfl, hb1⟩
  have HX1 := hidden (HX.out.below hb1)
  have HB1 := hidden (below_then HB0.out HB0.out.size hb1)
  have e2 := (HX.out.below hb1).next
  clear hb1
  cases hr : rightD D with
  | false =>
    have HF := hidden (show reachedL D = [] by unfold reachedL; rw [if_neg (by simp [hr])])
    clear hr
    go_wp2
    go_ret
    exact ⟨_, rfl, by rw [HF.out]; exact rdb_none (by simp), HB1.out.alloc HB1.out.size _, own_at HB1.out.size⟩
  | true =>
    have HRT := hidden hr
    have HL := hidden (show reachedL D = rchN D n by unfold reachedL; rw [if_pos hr, HN.out])
    obtain ⟨W, hW, hWn⟩ := rch_width hr
    have HW := hidden hW
    have HWN := hidden hWn
    have hn0 : 0 < n := by have := (rightD_spec hr).2.2.1; have := HN.out; omega
    have hm := run_make_b w1 n (by omega)
    have hsz : w.heap.size < w1.heap.size := HX1.out.lt
    clear hr hW hWn
    go_wp2
    obtain ⟨B, hB⟩ : ∃ B, B = w1.heap.size := ⟨_, rfl⟩
    rw [← hB] at hsz ⊢
    have HBB := hidden hB
    have HLEN := hidden (fun k => show (rchN D k).length = n from by unfold rchN; rw [iter_len (fun S => rchI_len S _), start_len, HN.out])
    have HILEN := hidden (fun k i => show (rchI D (rchN D k) i).length = n from by rw [rchI_len, HLEN.out k])
    have H0 := hidden (show rchN D 0 = (List.replicate n false).set 0 true by rw [HN.out]; rfl)
    clear hm hB e2
    go_loopw [4] (fun i wr => ∃ k : Nat, k ≤ n ∧ i = .int .i64 k ∧ RSt w wr w.heap.size B D.cls D.width (.slice an n cn) vl (rchN D k)) (fun i _ => n - (Go.RowKit.intOf i).toNat)
    case atStart => exact ⟨0, by omega, rfl, ⟨HX1.out.alloc _, by rw [H0.out]; exact RowAt.newAt HBB.out (by simp only [List.map_set, List.map_replicate]; exact rep_set n _ _), HB1.out.alloc HB1.out.size _, by omega, by omega⟩⟩
    case round =>
      obtain ⟨k, hk, rfl, hS⟩ := hrel
      have HS := hidden hS
      clear hS
      by_cases hlt : k < n
      · have HNX := hidden (show rchN D (k + 1) = rchI D (rchN D k) n by rw [HN.out]; rfl)
        obtain ⟨wq, rfl⟩ : ∃ wq, wq = wr := ⟨wr, rfl⟩
        have hkd : decide ((k : Int) < n) = true := decide_eq_true (by omega)
        obtain ⟨T, hT⟩ : ∃ T, T = rchN D k := ⟨_, rfl⟩
        rw [← hT] at HS HNX
        have HTL := hidden (show T.length = D.next.length by rw [hT, HLEN.out, HN.out])
        have HIL := hidden (fun i => show (rchI D T i).length = n by rw [rchI_len, HTL.out, HN.out])
        clear hT
        go_wp2
        go_loopw [5] (fun i wr => ∃ j : Nat, j ≤ n ∧ i = .int .i64 j ∧ RSt w wr w.heap.size B D.cls D.width (.slice an n cn) vl (rchI D T j)) (fun i _ => n - (Go.RowKit.intOf i).toNat)
        case atStart => exact ⟨0, by omega, rfl, HS.out⟩
        case round =>
          obtain ⟨j, hj, rfl, hS2⟩ := hrel
          have HS2 := hidden hS2
          clear hS2
          by_cases hlj : j < n
          · obtain ⟨wp, rfl⟩ : ∃ wp, wp = wr := ⟨wr, rfl⟩
            have hjd : decide ((j : Int) < n) = true := decide_eq_true (by omega)
            obtain ⟨U, hU⟩ : ∃ U, U = rchI D T j := ⟨_, rfl⟩
            rw [← hU] at HS2
            have HUL := hidden (show U.length = D.next.length by rw [hU, HIL.out, HN.out])
            have HNJ := hidden (show rchI D T (j + 1) = if On U j then rchC D j U D.width.toNat else U by rw [hU]; rfl)
            have HCL := hidden (fun c => show (rchC D j U c).length = n by rw [rchC_len, HUL.out, HN.out])
            clear hU
            go_wp2
            go_loopw [6] (fun i wr => ∃ c : Nat, c ≤ W ∧ i = .int .i64 c ∧ RSt w wr w.heap.size B D.cls D.width (.slice an n cn) vl (rchC D j U c) ∧ (¬ On U j → c = 0)) (fun i _ => W - (Go.RowKit.intOf i).toNat)
            case atStart => exact ⟨0, by omega, rfl, HS2.out, fun _ => rfl⟩
            case round =>
              obtain ⟨c, hc, rfl, hS3, hno⟩ := hrel
              have HS3 := hidden hS3
              have HNO := hidden hno
              clear hS3 hno
              have c0 := HS3.out.r.cell (i := j) (by rw [HCL.out]; exact hlj) false
              have e1 := HS3.out.d.width
              have e2 := HS3.out.d.next
              rw [HW.out] at e1
              by_cases ho : On U j
              · have hoc : On (rchC D j U c) j := (on_rchC HRT.out (by rw [← HN.out]; exact hlj) HUL.out c (by rw [HWN.out]; exact hc) j).2 (.inl ho)
                rw [show (rchC D j U c).getD j false = true from hoc] at c0
                have HO := hidden ho
                clear ho hoc
                by_cases hcw : c < W
                · obtain ⟨b, off, b2, off2, c', rfl, q1, _, _, q2⟩ := HD.out.row HRT.out HW.out HS3.out.b j (by rw [← HN.out]; exact hlj)
                  have q3 := q2 c hcw
                  have hin := to_in HRT.out (i := j) (c := c) (by rw [← HN.out]; exact hlj) (by rw [HWN.out]; exact hcw)
                  rw [← HN.out] at hin
                  have HX3 := hidden (show rchC D j U (c + 1) = setI (rchC D j U c) (toD D j c) from rfl)
                  have hwid : W ≤ 256 := by
                    have h2 := (rightD_spec HRT.out).2.1
                    have := wid_le D.cls 256 256 HD.out.small
                    have := HW.out
                    omega
                  obtain ⟨x, hx⟩ : ∃ x, x = toD D j c := ⟨_, rfl⟩
                  rw [← hx] at q3 hin HX3
                  clear hx q2
                  by_cases hx0 : 0 ≤ x
                  · obtain ⟨y, rfl⟩ : ∃ y : Nat, x = y := ⟨x.toNat, by omega⟩
                    have hy : y < n := by omega
                    have f0 := HS3.out.r.frozen y
                    have HS4 := hidden (show RSt w (wr.setCell ⟨B, y, none⟩ (.bool true)) w.heap.size B D.cls D.width (.slice (some ⟨b, off, none⟩) n cn) vl (rchC D j U (c + 1)) by
                      rw [HX3.out]
                      unfold setI
                      rw [if_pos hx0, Int.toNat_natCast]
                      exact HS3.out.put y true)
                    have hBs : B < wr.heap.size := HS3.out.r.lt
                    have c9 := HS3.out.r.cell (i := y) (by rw [HCL.out]; exact hy) false
                    clear hin HX3
                    go_wp2
                    go_roundw
                    case rel => exact ⟨c + 1, by omega, by go_num, HS4.out, fun h => absurd HO.out h⟩
                    case measure => simp [Go.RowKit.intOf]; omega
                  · have HS4 := hidden (show RSt w wr w.heap.size B D.cls D.width (.slice (some ⟨b, off, none⟩) n cn) vl (rchC D j U (c + 1)) by
                      rw [HX3.out]
                      unfold setI
                      rw [if_neg hx0]
                      exact HS3.out)
                    have hxd : decide (0 ≤ x) = false := decide_eq_false hx0
                    clear hin HX3
                    go_wp2
                    go_roundw
                    case rel => exact ⟨c + 1, by omega, by go_num, HS4.out, fun h => absurd HO.out h⟩
                    case measure => simp [Go.RowKit.intOf]; omega
                · obtain rfl : c = W := by omega
                  have HJ := hidden (show RSt w wr w.heap.size B D.cls D.width (.slice an n cn) vl (rchI D T (j + 1)) by rw [HNJ.out, if_pos HO.out, HWN.out]; exact HS3.out)
                  go_wp2
                  go_roundw
                  case rel => exact ⟨j + 1, by omega, by go_num, HJ.out⟩
                  case measure => simp [Go.RowKit.intOf]; omega
              · obtain rfl : c = 0 := HNO.out ho
                rw [show (rchC D j U 0).getD j false = false from by rw [getD_on]; exact decide_eq_false ho] at c0
                have HJ := hidden (show RSt w wr w.heap.size B D.cls D.width (.slice an n cn) vl (rchI D T (j + 1)) by rw [HNJ.out, if_neg ho]; exact HS3.out)
                clear ho
                go_wp2
                go_roundw
                case rel => exact ⟨j + 1, by omega, by go_num, HJ.out⟩
                case measure => simp [Go.RowKit.intOf]; omega
          · obtain rfl : j = n := by omega
            have HJ := hidden (show RSt w wr w.heap.size B D.cls D.width (.slice an j cn) vl (rchN D (k + 1)) by rw [HNX.out]; exact HS2.out)
            go_wp2
            go_roundw
            case rel => exact ⟨k + 1, by omega, by go_num, HJ.out⟩
            case measure => simp [Go.RowKit.intOf]; omega
      · obtain rfl : k = n := by omega
        go_wp2
        go_ret
        exact ⟨_, rfl, by rw [HL.out]; exact HS.out.r.reads (by rw [HLEN.out]; omega) (HLEN.out _).symm, HS.out.b, own_at HS.out.lo⟩
end Go.Proofs.YtnjjbaodfjmiaaaGreat

/- Contract of each's wait: a state is found, waits, and is shown. -/
namespace Go.Proofs.YtnjjbaodfjmiaaaGreat
open Go.RowKit Go.Lib Go.Joins

theorem infoWt : (Tryz.prog.info? 83).map (fun i => (i.zero, i.size, i.bytes)) = some (some (.agg #[.int .i64 0, .pointer none, .slice none 0 0]), 3, 40) := by kernel_rfl
/-- what comes of a state that is shown -/
def SeeR (n : Nat) (W : World) (J' P : World → Prop) (e : Ending) (W' : World) : Prop := SeeF n W W' ∧ ((e = .returned (.bool true) ∧ J' W') ∨ (e = .returned (.bool false) ∧ P W'))
set_option maxHeartbeats 4000000 in
set_option maxRecDepth 100000 in
theorem wait_calls {n : Nat} {w : World} {FB LB SB RB : Nat} {qv bv ov : Value} {f : FuncId} {caps : Array Value} {fnd : List Bool} {qs : List Ent} {Q : List Vis} {s : Nat} {u : List Nat} (J J' P : World → Prop)
    (hE : EaSt n w FB LB SB RB qv (.func (.func f) #[] caps) fnd qs Q) (hef : ∀ args w, (callFunc f args).run Tryz.prog w = .ok (.enter f args) w) (hJE : ∀ W W', J W → EachF n W W' → J W') (hJ : J w) (hw : WordAt w bv ov u) (hs : s < fnd.length) (hql : qs.length ≤ 100000)
    (hsee : ∀ W bv ov, J W → WordAt W bv ov u → n ≤ W.heap.size → Calls Tryz.prog f (#[.int .i64 (s : Nat), .agg #[bv, ov]] ++ caps) W (SeeR n W J' P)) :
    Calls Tryz.prog 54 #[.int .i64 (s : Nat), .agg #[bv, ov], .pointer (some ⟨FB, 0, none⟩), .pointer (some ⟨LB, 0, none⟩), .pointer (some ⟨SB, 0, none⟩)] w fun e w' => WaitF n w w' LB RB qv ∧ KeepW w w' ∧
      ((e = .returned (.bool true) ∧ J' w' ∧ ∃ qv', EaSt n w' FB LB SB RB qv' (.func (.func f) #[] caps) (fnd.set s true) (qs ++ [(s, bv, ov)]) (Q ++ [(s, u)]) ∧ ∀ k, qv'.ownBlock = some k → qv.ownBlock = some k ∨ w.heap.size ≤ k) ∨ (e = .returned (.bool false) ∧ P w')) := by
  obtain ⟨x, a, m, c, rfl, rfl⟩ := hw.form
  obtain ⟨fl, hfl'⟩ : ∃ k, k = fnd.length := ⟨_, rfl⟩
  have HB0 := hidden ((Below.refl w.heap.size w).alloc (Nat.le_refl _) (.cells #[.pointer x, .slice a m c] 52))
  have HE0 := hidden (hE.below HB0.out)
  have HW0 := hidden (hw.mono (.of_below HB0.out))
  have HJ0 := hidden (hJE _ _ hJ (EachF.of_below HB0.out))
  have hTW := (show TwoAt 52 (w.alloc (.cells #[.pointer x, .slice a m c] 52)) w.heap.size (.pointer x) (.slice a m c) from TwoAt.new _ _ _ _)
  obtain ⟨hE2, hF2, hK2⟩ := HE0.out.put s
  have hb3 : Below ((w.alloc (.cells #[.pointer x, .slice a m c] 52)).setCell ⟨RB, s, none⟩ (.bool true)).heap.size ((w.alloc (.cells #[.pointer x, .slice a m c] 52)).setCell ⟨RB, s, none⟩ (.bool true)) (((w.alloc (.cells #[.pointer x, .slice a m c] 52)).setCell ⟨RB, s, none⟩ (.bool true)).alloc (.cells #[.int .i64 (s : Nat), .pointer x, .slice a m c] 83)) := (Below.refl _ _).alloc (Nat.le_refl _) _
  have HE3 := hidden (hE2.below hb3)
  have HF3 := hidden (hF2.trans (EachF.of_below hb3))
  have HK3 := hidden (hK2.trans (KeepW.of_below hb3))
  have hwn : ∀ {B : Nat} {W : World} {t : TypeId} {v : Value}, W.heap[B]? = some (.cells #[v] t (0, 0)) → TwoAt 52 W w.heap.size (.pointer x) (.slice a m c) → w.heap.size ≠ B := fun hb hT e => by
    subst e
    unfold TwoAt at hT
    rw [hT] at hb
    simp at hb
  have hrn : w.heap.size ≠ RB := fun e => by
    have h5 := hE.r.lt
    omega
  have HT2 := hidden (hTW.other (i := s) hrn (.bool true))
  have HT3 := hidden (HT2.out.alloc (.cells #[.int .i64 (s : Nat), .pointer x, .slice a m c] 83))
  have f0 := HE0.out.f.cell
  have r0 := HE0.out.r.cell (i := s) hs false
  have r1 := HE0.out.r.frozen s
  have l2 := hE2.l.cell
  have g0 := HT2.out.cell0
  have g1 := HT2.out.cell1
  have hln : LB ≠ w.heap.size := fun e => by
    have h5 := hE.l.lt
    omega
  obtain ⟨qa, qc, hqv⟩ := hE.q.form
  subst hqv
  have HQ3 := hidden HE3.out.q
  have HNS := hidden HE3.out.nsz
  have hsz2 : ((w.alloc (.cells #[.pointer x, .slice a m c] 52)).setCell ⟨RB, s, none⟩ (.bool true)).heap.size = w.heap.size + 1 := by simp
  have hent := World.news_of_block (w := ((w.alloc (.cells #[.pointer x, .slice a m c] 52)).setCell ⟨RB, s, none⟩ (.bool true)).alloc (.cells #[.int .i64 (s : Nat), .pointer x, .slice a m c] 83)) (heap_alloc_new _ _)
  rw [hsz2] at hent
  have HENT := hidden hent
  have HI := hidden infoWt
  have HJE := hidden hJE
  have HSEE := hidden hsee
  have HEF := hef
  have HE := hidden hE
  have HQL := hidden (show qs.length + 1 ≤ 1000000 by omega)
  rw [← hfl'] at f0 hs
  have HFL := hidden hfl'
  clear hsz2 hent hE hw hJ hJE hsee hfl' hE2 hF2 hK2 hb3 hTW hwn
  go_enter Tryz.func54, Tryz.ntmps54
  go_wp2_with (at_builtin; (first | refine wpList_app_q (v := .slice qa qs.length qc) (news := [.int .i64 (s : Nat), .pointer x, .slice a m c]) rfl _ _ rfl HI.out Tryz.underlying81 rfl (by decide) (by decide) rfl HQ3.out rfl HENT.out rfl (by intro u hu; simp only [List.mem_cons, List.not_mem_nil, or_false] at hu; rcases hu with rfl | rfl | rfl <;> rfl) HQL.out HNS.out ?_ | fail); intro v4 w4 hA; obtain ⟨a4, c4, hv4⟩ := hA.own.form; subst hv4; have HP := hidden (HE3.out.push (x := (s, .pointer x, .slice a m c)) (v := (s, u)) hA rfl ((HW0.out.mono HK3.out))); have p1 := HP.out.2.2.2.cell; have p2 := HP.out.2.2.2.frozen; have p3 := HP.out.1.s.cell; have HT5 := hidden ((show TwoAt 52 w4 w.heap.size (.pointer x) (.slice a m c) from (hA.grown.block _ HT3.out.lt (fun e => HQ3.out.off_type HT3.out (by decide) e.symm)).trans HT3.out).other (i := 0) (Ne.symm hln) (.slice a4 (qs.length + 1) c4)); have t0 := HT5.out.cell0; have t1 := HT5.out.cell1; have HG4 := hidden hA.grown; have HLI := hidden hA.lies; clear hA)
  have HW5 := hidden ((HW0.out.mono HK3.out).mono HP.out.2.2.1)
  have HJ5 := hidden (HJE.out _ _ HJ0.out (HF3.out.trans HP.out.2.1))
  have HFR := hidden (show ∀ k, k < w.heap.size → k ≠ LB → k ≠ RB → (Value.slice qa qs.length qc).ownBlock ≠ some k → (w4.setCell ⟨LB, 0, none⟩ (.slice a4 (qs.length + 1) c4)).heap[k]? = w.heap[k]? from fun k hk h1 h2 h3 => by
    refine (heap_setCell_other _ _ _ _ h1).trans ((HG4.out.block k (by simp; omega) h3.symm).trans ?_)
    exact (heap_alloc_old _ _ (by simp; omega)).trans ((heap_setCell_other _ _ _ _ h2).trans (heap_alloc_old w _ hk)))
  have HSZ := hidden (show w.heap.size ≤ (w4.setCell ⟨LB, 0, none⟩ (.slice a4 (qs.length + 1) c4)).heap.size from by have := HG4.out.size; simp at this ⊢; omega)
  have HKW := hidden ((KeepW.of_below HB0.out).trans (HK3.out.trans HP.out.2.2.1))
  refine (HSEE.out _ _ _ HJ5.out HW5.out HP.out.1.nsz).mono ?_
  rintro e w6 ⟨hsf, hor⟩
  have HWF := hidden (show WaitF n w w6 LB RB (.slice qa qs.length qc) from ⟨Nat.le_trans HSZ.out hsf.size, fun k hk hn hi h1 h2 h3 => by
    have e5 := HFR.out k hk h1 h2 h3
    refine (hsf.block k (Nat.lt_of_lt_of_le hk HSZ.out) hn ?_).trans e5
    rintro ⟨cs, fr, hb⟩
    exact hi ⟨cs, fr, e5.symm.trans hb⟩⟩)
  have HKF := hidden (HKW.out.trans hsf.words)
  have HEF6 := hidden (HP.out.1.see hsf)
  clear hsf f0 r0 r1 g0 g1 l2 p1 p2 p3 t0 t1
  rcases hor with ⟨rfl, hj⟩ | ⟨rfl, hp⟩
  · have HJ6 := hidden hj
    clear hj
    go_wp2
    go_ret
    exact ⟨HWF.out, HKF.out, .inl ⟨rfl, HJ6.out, _, HEF6.out, fun k hk => by
      rcases HLI.out with e | e
      · exact .inl (e ▸ hk)
      · rw [e] at hk
        simp at hk
        exact .inr (by omega)⟩⟩
  · have HP6 := hidden hp
    clear hp
    go_wp2
    go_ret
    exact ⟨HWF.out, HKF.out, .inr ⟨rfl, HP6.out⟩⟩
/-! ### the whole search, in memory -/
section
variable {n : Nat} {w w' : World} {FB LB SB RB : Nat} {qv sv : Value} {fnd : List Bool} {qs : List Ent} {Q : List Vis}
theorem WaitF.keep (h : WaitF n w w' LB RB qv) (hE : EaSt n w FB LB SB RB qv sv fnd qs Q) {B : Nat} {cs : Array Value} {t : TypeId} {fr : Nat × Nat} (hb : w.heap[B]? = some (.cells cs t fr)) (hn : n ≤ B) (ht : t ≠ 3 ∧ t ≠ 81 ∧ t ≠ 4) (h3 : qv.ownBlock ≠ some B) : w'.heap[B]? = some (.cells cs t fr) := by
  refine (h.2 B (Array.getElem?_eq_some_iff.1 hb).1 hn (not_int hb ht.1) (fun e => ?_) (fun e => ?_) h3).trans hb
  · subst e
    have h5 := hE.l
    unfold Boxed at h5
    rw [h5] at hb
    simp only [Option.some.injEq, Obj.cells.injEq] at hb
    exact ht.2.1 hb.2.1.symm
  · subst e
    have h5 := hE.r
    unfold RowAt at h5
    rw [h5] at hb
    simp only [Option.some.injEq, Obj.cells.injEq] at hb
    exact ht.2.2 hb.2.1.symm
/-- the first state that waits is let go -/
theorem EaSt.pop {x : Ent} {v : Vis} (h : EaSt n w FB LB SB RB qv sv fnd (x :: qs) (v :: Q)) {qv' : Value} (hq : QRow w n 83 3 qv' qs.length (qCells qs)) :
    EaSt n (w.setCell ⟨LB, 0, none⟩ qv') FB LB SB RB qv' sv fnd qs Q ∧ EachF n w (w.setCell ⟨LB, 0, none⟩ qv') ∧ KeepW w (w.setCell ⟨LB, 0, none⟩ qv') := by
  have hg := setCell_grown w LB 0 qv'
  have hne : ∀ {B : Nat} {t : TypeId} {cs : Array Value} {fr : Nat × Nat}, w.heap[B]? = some (.cells cs t fr) → t ≠ 81 → LB ≠ B := fun hb ht e => by
    subst e
    have h5 := h.l
    unfold Boxed at h5
    rw [h5] at hb
    simp only [Option.some.injEq, Obj.cells.injEq] at hb
    exact ht hb.2.1.symm
  have hk2 : KeepW w (w.setCell ⟨LB, 0, none⟩ qv') := KeepW.grown hg fun k e cs t fr hb => by
    obtain rfl := Option.some.inj e
    exact ⟨fun ht => hne hb (by rw [ht]; decide) rfl, fun ht => hne hb (by rw [ht]; decide) rfl⟩
  have hf2 : EachF n w (w.setCell ⟨LB, 0, none⟩ qv') := EachF.grown hg fun k e => by
    obtain rfl := Option.some.inj e
    exact ⟨h.lo.2.1, not_int h.l (by decide)⟩
  refine ⟨⟨h.f.kept hg fun e => hne h.f (by decide) (Option.some.inj e).symm, h.r.other _ (Ne.symm (hne h.r (by decide))), h.l.set qv', h.s.kept hg fun e => hne h.s (by decide) (Option.some.inj e).symm, ?_, (h.e.tail.2.2).mono hk2, h.lo, by simpa using h.nsz⟩, hf2, hk2⟩
  refine hq.kept hg fun k e e2 => ?_
  obtain rfl := Option.some.inj e2
  exact hq.off_type h.l (by decide) e
/-- the search begins -/
theorem EaSt.start {w : World} {SB : Nat} {sv : Value} (hS : Boxed w SB 54 sv) (hn : n ≤ SB) (hw : n ≤ w.heap.size) (m : Nat) :
    EaSt n (((w.alloc (.cells (Array.replicate m (.bool false)) 4)).alloc (.cells #[.slice (some ⟨w.heap.size, 0, none⟩) m m] 30)).alloc (.cells #[.slice none 0 0] 81)) (w.heap.size + 1) (w.heap.size + 1 + 1) SB w.heap.size (.slice none 0 0) sv (List.replicate m false) [] [] := by
  have s1 : (w.alloc (.cells (Array.replicate m (.bool false)) 4)).heap.size = w.heap.size + 1 := by simp
  have s2 : ((w.alloc (.cells (Array.replicate m (.bool false)) 4)).alloc (.cells #[.slice (some ⟨w.heap.size, 0, none⟩) m m] 30)).heap.size = w.heap.size + 1 + 1 := by simp
  have hr : RowAt (w.alloc (.cells (Array.replicate m (.bool false)) 4)) w.heap.size 4 Value.bool (List.replicate m false) := RowAt.newAt rfl (by rw [List.map_replicate, List.toArray_replicate])
  have hf := Boxed.new (w.alloc (.cells (Array.replicate m (.bool false)) 4)) 30 (.slice (some ⟨w.heap.size, 0, none⟩) m m)
  rw [s1] at hf
  have hl := Boxed.new ((w.alloc (.cells (Array.replicate m (.bool false)) 4)).alloc (.cells #[.slice (some ⟨w.heap.size, 0, none⟩) m m] 30)) 81 (.slice none 0 0)
  rw [s2] at hl
  exact ⟨by rw [List.length_replicate]; exact hf.alloc _, (hr.alloc _).alloc _, hl, ((hS.alloc _).alloc _).alloc _, QRow.nil _ _ _ _, Ents.nil _, by omega, by simp; omega⟩
end
/-- what holds at each state of the search: V is found, Q waits -/
structure EaV (n : Nat) (w : World) (D : DfaM) (J : List Vis → World → Prop) (XB AB FB LB SB RB : Nat) (vn vl qv sv : Value) (fnd : List Bool) (qs : List Ent) (V Q : List Vis) : Prop where
  e : EaSt n w FB LB SB RB qv sv fnd qs Q
  fl : fnd.length = D.next.length
  fo : ∀ j, j < D.next.length → (On fnd j ↔ inV V j)
  j : J V w
  d : DfaAt w XB D.cls D.width vn vl
  a : ArrAt w AB 22 (nV (lbC D.cls))
  lo : n ≤ XB ∧ n ≤ AB
theorem inV_snoc (V : List Vis) (s : Nat) (u : List Nat) (j : Nat) : inV (V ++ [(s, u)]) j ↔ inV V j ∨ j = s := by simp [inV]
section
variable {n : Nat} {w w' : World} {D : DfaM} {J : List Vis → World → Prop} {XB AB FB LB SB RB : Nat} {vn vl qv sv : Value} {fnd : List Bool} {qs : List Ent} {V Q : List Vis}
theorem EaV.below (h : EaV n w D J XB AB FB LB SB RB vn vl qv sv fnd qs V Q) (hJE : ∀ pre W W', J pre W → EachF n W W' → J pre W') (hb : Below w.heap.size w w') : EaV n w' D J XB AB FB LB SB RB vn vl qv sv fnd qs V Q :=
  ⟨h.e.below hb, h.fl, h.fo, hJE _ _ _ h.j (EachF.of_below hb), h.d.below hb, h.a.below hb, h.lo⟩
theorem wait_ea {f : FuncId} {caps : Array Value} {bv ov : Value} {s : Nat} {u : List Nat} (P : World → Prop) (h : EaV n w D J XB AB FB LB SB RB vn vl qv (.func (.func f) #[] caps) fnd qs V Q)
    (hef : ∀ args w, (callFunc f args).run Tryz.prog w = .ok (.enter f args) w) (hJE : ∀ pre W W', J pre W → EachF n W W' → J pre W') (hw : WordAt w bv ov u) (hs : s < D.next.length) (hql : qs.length ≤ 100000)
    (hsee : ∀ W bv ov, J V W → WordAt W bv ov u → n ≤ W.heap.size → Calls Tryz.prog f (#[.int .i64 (s : Nat), .agg #[bv, ov]] ++ caps) W (SeeR n W (J (V ++ [(s, u)])) P)) :
    Calls Tryz.prog 54 #[.int .i64 (s : Nat), .agg #[bv, ov], .pointer (some ⟨FB, 0, none⟩), .pointer (some ⟨LB, 0, none⟩), .pointer (some ⟨SB, 0, none⟩)] w fun e w' => KeepW w w' ∧ WaitF n w w' LB RB qv ∧
      ((e = .returned (.bool true) ∧ ∃ qv', EaV n w' D J XB AB FB LB SB RB vn vl qv' (.func (.func f) #[] caps) (fnd.set s true) (qs ++ [(s, bv, ov)]) (V ++ [(s, u)]) (Q ++ [(s, u)]) ∧ ∀ k, qv'.ownBlock = some k → qv.ownBlock = some k ∨ w.heap.size ≤ k) ∨ (e = .returned (.bool false) ∧ P w')) := by
  refine (wait_calls (J V) (J (V ++ [(s, u)])) P h.e hef (hJE V) h.j hw (by rw [h.fl]; exact hs) hql hsee).mono ?_
  rintro e w' ⟨hwf, hk, hor⟩
  refine ⟨hk, hwf, ?_⟩
  rcases hor with ⟨he, hj, qv', hE, hli⟩ | hp
  · refine .inl ⟨he, qv', ⟨hE, by rw [List.length_set]; exact h.fl, fun j hj => ?_, hj, hwf.keep h.e h.d h.lo.1 ⟨by decide, by decide, by decide⟩ (h.e.q.off_type h.d (by decide)), hwf.keep h.e h.a h.lo.2 ⟨by decide, by decide, by decide⟩ (h.e.q.off_type h.a (by decide)), h.lo⟩, hli⟩
    rw [on_set (by rw [h.fl]; exact hs), inV_snoc, h.fo j hj]
  · exact .inr hp
end
end Go.Proofs.YtnjjbaodfjmiaaaGreat
