/- DfPut, DfState, DfFrom, FuMoved, put together. -/
import Derived.Test.YtmpjjnjggihojaaGreatDoorDf14
import Derived.Test.YtmpjjnjggihojaaGreatDoorDf25
import Derived.Laws.ResultCell
import Derived.Laws.CopyRow
import Derived.Laws.MakeOwn
import Derived.Test.YtmpjjnjggihojaaGreatDoorDf12
/- A machine that a call builds: the empty one, its classes and its fields stored, and a result that lies in memory. -/
namespace Go.Proofs.YtmpjjnjggihojaaGreatDoor
open Go.RowKit Go.Lib Go.Joins

def zG (_ : Nat) : Nat := 0
theorem run_zero_dfa (w : World) : (zeroValue 32).run Tryz.prog w = .ok (dfaA zG 0 (.slice none 0 0) (.slice none 0 0)) w := by
  unfold dfaA dfaC
  rw [show nV zG = (fun _ => Value.int .u8 0) from rfl, ← cellsN_zero]
  kernel_rfl
theorem run_build_dfa (w : World) : (Instr.build 32 #[]).run Tryz.prog w = .ok (dfaA zG 0 (.slice none 0 0) (.slice none 0 0)) w := by
  unfold dfaA dfaC
  rw [show nV zG = (fun _ => Value.int .u8 0) from rfl, ← cellsN_zero]
  kernel_rfl
theorem dfaC_one (g : Nat → Nat) (wd : Int) {vn vl : Value} (h1 : vn.oneCell' = true) (h2 : vl.oneCell' = true) : (dfaC g wd vn vl).all (·.oneCell') = true := by
  unfold dfaC
  rw [Array.all_append, cellsN_one _ fun _ => rfl]
  simp [h1, h2, show (Value.int IntKind.i64 wd).oneCell' = true from rfl]
section
variable {w w' : World} {B : Nat} {g h : Nat → Nat} {wd wd' : Int} {vn vl vn' vl' : Value}
/-- the whole machine is stored -/
theorem store_dfa {ops : Array Oper} {rest : List Oper} {o : Oper} {a : Act} {Q : Exit → Act → World → Prop} (hgd : o.guard = none) {x y : Operand} (ho : o.op = .store 32 x y)
    (hx : a.eval x = .pointer (some ⟨B, 0, none⟩)) (hy : a.eval y = dfaA h wd' vn' vl') (hA : DfaAt w B g wd vn vl) (h1 : vn'.oneCell' = true) (h2 : vl'.oneCell' = true)
    (hk : ∀ w', DfaAt w' B h wd' vn' vl' → w.grownBy w' (some B) → w'.heap.size = w.heap.size → wpList Tryz.prog ops Q rest (a.put o.dst undef) w') : wpList Tryz.prog ops Q (o :: rest) a w :=
  wpList_store_row hgd 32 x y ho B _ hx hy 32 _ hA (by rw [dfaC_size]; exact size_dfa) (by rw [dfaC_size, dfaC_size]) (dfaC_one h wd' h1 h2)
    (hk _ (setRow_heap w B _ _ _ _ hA) ⟨rfl, rfl, rfl, by simp, fun k _ hne => setRow_other w B k _ (by simpa using hne)⟩ (by simp))
/-- its classes are stored -/
theorem store_cls {ops : Array Oper} {rest : List Oper} {o : Oper} {a : Act} {Q : Exit → Act → World → Prop} (hgd : o.guard = none) {x y : Operand} (ho : o.op = .store 30 x y)
    (hx : a.eval x = .pointer (some ⟨B, 0, none⟩)) (hy : a.eval y = ar h) (hA : DfaAt w B g wd vn vl)
    (hk : ∀ w', DfaAt w' B h wd vn vl → w.grownBy w' (some B) → w'.heap.size = w.heap.size → wpList Tryz.prog ops Q rest (a.put o.dst undef) w') : wpList Tryz.prog ops Q (o :: rest) a w := by
  refine wpList_plain hgd fun K hK => ?_
  have hr := run_storeCells_at (P := Tryz.prog) B 0 32 (cellsN (nV h)).toList 0 (dfaC g wd vn vl) w hA (by rw [Array.length_toList, cellsN_size, dfaC_size]; omega) (fun v hv => (Array.all_eq_true_iff_forall_mem.1 (cellsN_one (nV h) fun _ => rfl)) v (by simpa using hv))
  have e : ((dfaC g wd vn vl).toList.take (0 + 0) ++ (cellsN (nV h)).toList ++ (dfaC g wd vn vl).toList.drop (0 + 0 + (cellsN (nV h)).toList.length)).toArray = dfaC h wd vn vl := by
    rw [Array.length_toList, cellsN_size]
    unfold dfaC
    rw [Array.toList_append, List.drop_append_of_le_length (by rw [Array.length_toList, cellsN_size]; omega)]
    rw [List.drop_eq_nil_of_le (by rw [Array.length_toList, cellsN_size]; omega)]
    simp
  rw [e] at hr
  have hK' := hK _ _ (hk (w.setRow B (dfaC h wd vn vl)) (setRow_heap w B _ _ _ _ hA) ⟨rfl, rfl, rfl, by simp, fun k _ hne => setRow_other w B k _ (by simpa using hne)⟩ (by simp))
  cases hq : Tryz.prog.info? 30 with
  | none => have := size_arr; simp [hq] at this
  | some i =>
    have hs : i.size = 256 := by have := size_arr; simpa [hq] using this
    have hst : (storeVar 30 ⟨B, 0, none⟩ (ar h)).run Tryz.prog w = .ok () (w.setRow B (dfaC h wd vn vl)) := by
      simp [storeVar, sizeOf, typeInfo, hq, Value.cells, hs, cellsN_size, hr]
    unfold Oper.wp execOp
    simp only [ho, hx, hy, Instr.storeAt, Instr.sureAddr, Sem.run_bind, Sem.run_pure, Result.andThen_ok, hst]
    exact hK'
theorem dfaC_set256 (g : Nat → Nat) (wd wd' : Int) (vn vl : Value) : (dfaC g wd vn vl).setIfInBounds 256 (.int .i64 wd') = dfaC g wd' vn vl := by
  unfold dfaC
  rw [Array.setIfInBounds_append_right (by rw [cellsN_size]; omega), cellsN_size]
  rfl
theorem dfaC_set257 (g : Nat → Nat) (wd : Int) (vn vn' vl : Value) : (dfaC g wd vn vl).setIfInBounds 257 vn' = dfaC g wd vn' vl := by
  unfold dfaC
  rw [Array.setIfInBounds_append_right (by rw [cellsN_size]; omega), cellsN_size]
  rfl
theorem dfaC_set258 (g : Nat → Nat) (wd : Int) (vn vl vl' : Value) : (dfaC g wd vn vl).setIfInBounds 258 vl' = dfaC g wd vn vl' := by
  unfold dfaC
  rw [Array.setIfInBounds_append_right (by rw [cellsN_size]; omega), cellsN_size]
  rfl
theorem DfaAt.putWidth (hA : DfaAt w B g wd vn vl) (wd' : Int) : DfaAt (w.setCell ⟨B, 256, none⟩ (.int .i64 wd')) B g wd' vn vl := by
  unfold DfaAt
  rw [heap_setCell_same _ _ _ _ _ _ hA, dfaC_set256]
theorem DfaAt.putNext (hA : DfaAt w B g wd vn vl) (vn' : Value) : DfaAt (w.setCell ⟨B, 257, none⟩ vn') B g wd vn' vl := by
  unfold DfaAt
  rw [heap_setCell_same _ _ _ _ _ _ hA, dfaC_set257]
theorem DfaAt.putLabel (hA : DfaAt w B g wd vn vl) (vl' : Value) : DfaAt (w.setCell ⟨B, 258, none⟩ vl') B g wd vn vl' := by
  unfold DfaAt
  rw [heap_setCell_same _ _ _ _ _ _ hA, dfaC_set258]
theorem DfaAt.grown (hA : DfaAt w B g wd vn vl) {o : Option Nat} (hg : w.grownBy w' o) (ho : o ≠ some B) : DfaAt w' B g wd vn vl := (hg.block B hA.lt (Ne.symm ho)).trans hA
theorem DfaAt.put (hA : DfaAt w B g wd vn vl) {C j : Nat} (u : Value) (hne : B ≠ C) : DfaAt (w.setCell ⟨C, j, none⟩ u) B g wd vn vl := (heap_setCell_other _ _ _ _ hne).trans hA
theorem results_cell_tmp2 {fn : Func} {p u z : Tmp} {ty : TypeId} (h : fn.results = #[.cell p ty, .tmp u, .tmp z]) (tmps : Array Value) (P : Program) (w : World) :
    (results fn tmps).run P w = ((asAddr (tmps.getD p undef)).run P w).andThen fun a w₁ => ((loadVar ty a).run P w₁).andThen fun v w₂ => .ok (.tuple #[v, tmps.getD u undef, tmps.getD z undef]) w₂ := by
  simp only [results, h]
  simp [Sem.run_bind, Result.andThen]
/-- results: a machine in memory, and two values -/
theorem ret_dfa3 {fn : Func} {R : Ending → World → Prop} {a : Act} {p u z : Nat} {x y : Value} (hf : fn.results = #[.cell p 32, .tmp u, .tmp z]) (hp : a.tmps.getD p undef = .pointer (some ⟨B, 0, none⟩))
    (hu : a.tmps.getD u undef = x) (hz : a.tmps.getD z undef = y) (hd : a.defers = []) (hA : DfaAt w B g wd vn vl) (hR : R (.returned (.tuple #[dfaA g wd vn vl, x, y])) w) : bodyPost Tryz.prog fn R .ret a w := by
  have hl := run_load_dfa hA
  refine bodyPost_ret (v := .tuple #[dfaA g wd vn vl, x, y]) ?_ hd hR
  rw [results_cell_tmp2 hf, hp, hu, hz]
  simp [asAddr, hl, Result.andThen]
end
end Go.Proofs.YtmpjjnjggihojaaGreatDoor

/- A machine that is built, the lists found, and the row beside it: what a step makes of them. -/
namespace Go.Proofs.YtmpjjnjggihojaaGreatDoor
open Go.RowKit Go.Lib Go.Joins

def XB (RB DB k : Nat) : Prop := k = RB ∨ k = DB
def rows4 (vn vl fv rv : Value) (us ws : List Value) (N : List (List Int)) (L : List Int) (F : List (List Int)) (R : List Int) : List R5 :=
  [⟨23, 1, vn, N.length, us⟩, ⟨3, 1, vl, L.length, L.map (Value.int .i64)⟩, ⟨23, 1, fv, F.length, ws⟩, ⟨3, 1, rv, R.length, R.map (Value.int .i64)⟩]
/-- block DB holds the machine, block RB none; the lists found and the row beside it -/
structure DfSt (w0 : World) (base : Nat) (w : World) (RB DB : Nat) (g : Nat → Nat) (wd : Int) (vn vl fv rv : Value) (us ws : List Value) (N : List (List Int)) (L : List Int) (F : List (List Int)) (R : List Int) : Prop where
  own : OwnR w (XB RB DB) base (rows4 vn vl fv rv us ws N L F R)
  d : DfaAt w DB g wd vn vl
  r : DfaAt w RB zG 0 (.slice none 0 0) (.slice none 0 0)
  ne : RB ≠ DB
  lo : base ≤ RB ∧ base ≤ DB
  elN : Els (FarR w (XB RB DB) (rows4 vn vl fv rv us ws N L F R)) w us N
  elF : Els (FarR w (XB RB DB) (rows4 vn vl fv rv us ws N L F R)) w ws F
  below : Below base w0 w
  size : base ≤ w0.heap.size
section
variable {w0 w w' : World} {base RB DB : Nat} {g : Nat → Nat} {wd : Int} {vn vl fv rv : Value} {us ws : List Value} {N : List (List Int)} {L : List Int} {F : List (List Int)} {R : List Int}
theorem DfSt.sz (h : DfSt w0 base w RB DB g wd vn vl fv rv us ws N L F R) : base ≤ w.heap.size := Nat.le_trans h.size h.below.size
theorem DfSt.kept (h : DfSt w0 base w RB DB g wd vn vl fv rv us ws N L F R) (hb : Below w.heap.size w w') : DfSt w0 base w' RB DB g wd vn vl fv rv us ws N L F R :=
  ⟨h.own.kept hb, h.d.below hb, h.r.below hb, h.ne, h.lo, h.elN.mono (StayR.below hb), h.elF.mono (StayR.below hb), below_then h.below h.sz hb, h.size⟩
theorem DfSt.rowN (h : DfSt w0 base w RB DB g wd vn vl fv rv us ws N L F R) : w.ownsRow base 23 1 vn N.length us := h.own.rows ⟨23, 1, vn, N.length, us⟩ (by simp [rows4])
theorem DfSt.rowL (h : DfSt w0 base w RB DB g wd vn vl fv rv us ws N L F R) : RowZ w base vl L := h.own.rows ⟨3, 1, vl, L.length, L.map (Value.int .i64)⟩ (by simp [rows4])
theorem DfSt.rowF (h : DfSt w0 base w RB DB g wd vn vl fv rv us ws N L F R) : w.ownsRow base 23 1 fv F.length ws := h.own.rows ⟨23, 1, fv, F.length, ws⟩ (by simp [rows4])
theorem DfSt.rowR (h : DfSt w0 base w RB DB g wd vn vl fv rv us ws N L F R) : RowZ w base rv R := h.own.rows ⟨3, 1, rv, R.length, R.map (Value.int .i64)⟩ (by simp [rows4])
theorem DfSt.found (h : DfSt w0 base w RB DB g wd vn vl fv rv us ws N L F R) : RdZZ w.heap.size w fv F := h.elF.reads h.rowF fun _ hk => hk.1
theorem DfSt.nexts (h : DfSt w0 base w RB DB g wd vn vl fv rv us ws N L F R) : RdZZ w.heap.size w vn N := h.elN.reads h.rowN fun _ hk => hk.1
/-- what is appended lies in the old block or in a new one -/
theorem Appd.at {b : Nat} {e : TypeId} {size : Nat} {v v' : Value} {n : Nat} {xs : List Value} (h : Appd w w' b e size v v' n xs) : ∀ k, v'.ownBlock = some k → v.ownBlock = some k ∨ w.heap.size ≤ k := fun k hk => by
  rcases h.lies with e | e
  · exact .inl (e ▸ hk)
  · rw [e] at hk
    simp only [Option.some.injEq] at hk
    exact .inr (by omega)
theorem DfSt.off (h : DfSt w0 base w RB DB g wd vn vl fv rv us ws N L F R) {r : R5} (hr : r ∈ rows4 vn vl fv rv us ws N L F R) : r.v.ownBlock ≠ some RB ∧ r.v.ownBlock ≠ some DB :=
  ⟨fun e => h.own.out r hr RB e (.inl rfl), fun e => h.own.out r hr DB e (.inr rfl)⟩
/-- a list is found -/
theorem DfSt.putF (h : DfSt w0 base w RB DB g wd vn vl fv rv us ws N L F R) {fv' u : Value} {t : List Int} (hu : ElR (FarR w (XB RB DB) (rows4 vn vl fv rv us ws N L F R)) w u t) (hA : Appd w w' base 23 1 fv fv' (F.length + 1) (ws ++ [u])) :
    DfSt w0 base w' RB DB g wd vn vl fv' rv us (ws ++ [u]) N L (F ++ [t]) R := by
  have hm : (⟨23, 1, fv, F.length, ws⟩ : R5) ∈ rows4 vn vl fv rv us ws N L F R := by simp [rows4]
  have e : (rows4 vn vl fv rv us ws N L F R).set 2 ⟨23, 1, fv', F.length + 1, ws ++ [u]⟩ = rows4 vn vl fv' rv us (ws ++ [u]) N L (F ++ [t]) R := by simp [rows4]
  have h1 := h.own.grow 2 (by simp [rows4]) ⟨23, 1, fv', F.length + 1, ws ++ [u]⟩ hA.grown hA.own hA.at
  have h2 := StayR.grow (X := XB RB DB) 2 (by simp [rows4]) ⟨23, 1, fv', F.length + 1, ws ++ [u]⟩ (rs := rows4 vn vl fv rv us ws N L F R) hA.grown hA.at
  rw [e] at h1 h2
  exact ⟨h1, h.d.grown hA.grown (h.off hm).2, h.r.grown hA.grown (h.off hm).1, h.ne, h.lo, h.elN.mono h2, (h.elF.mono h2).snoc (hu.mono h2), h.below.grown hA.grown h.sz fun k hk => (h.own.lt hm hk).1, h.size⟩
/-- a number more in the row -/
theorem DfSt.putR (h : DfSt w0 base w RB DB g wd vn vl fv rv us ws N L F R) {rv' : Value} {x : Int} (hA : Appd w w' base 3 1 rv rv' (R.length + 1) (R.map (Value.int .i64) ++ [Value.int IntKind.i64 x])) :
    DfSt w0 base w' RB DB g wd vn vl fv rv' us ws N L F (R ++ [x]) := by
  have hm : (⟨3, 1, rv, R.length, R.map (Value.int .i64)⟩ : R5) ∈ rows4 vn vl fv rv us ws N L F R := by simp [rows4]
  have e : (rows4 vn vl fv rv us ws N L F R).set 3 ⟨3, 1, rv', R.length + 1, R.map (Value.int .i64) ++ [Value.int IntKind.i64 x]⟩ = rows4 vn vl fv rv' us ws N L F (R ++ [x]) := by simp [rows4]
  have h1 := h.own.grow 3 (by simp [rows4]) ⟨3, 1, rv', R.length + 1, R.map (Value.int .i64) ++ [Value.int IntKind.i64 x]⟩ hA.grown hA.own hA.at
  have h2 := StayR.grow (X := XB RB DB) 3 (by simp [rows4]) ⟨3, 1, rv', R.length + 1, R.map (Value.int .i64) ++ [Value.int IntKind.i64 x]⟩ (rs := rows4 vn vl fv rv us ws N L F R) hA.grown hA.at
  rw [e] at h1 h2
  exact ⟨h1, h.d.grown hA.grown (h.off hm).2, h.r.grown hA.grown (h.off hm).1, h.ne, h.lo, h.elN.mono h2, h.elF.mono h2, h.below.grown hA.grown h.sz fun k hk => (h.own.lt hm hk).1, h.size⟩
/-- the row is let go -/
theorem DfSt.dropR (h : DfSt w0 base w RB DB g wd vn vl fv rv us ws N L F R) : DfSt w0 base w RB DB g wd vn vl fv (.slice none 0 0) us ws N L F [] ∧ ElR (FarR w (XB RB DB) (rows4 vn vl fv (.slice none 0 0) us ws N L F [])) w rv R := by
  have e : (rows4 vn vl fv rv us ws N L F R).set 3 ⟨3, 1, .slice none 0 0, 0, []⟩ = rows4 vn vl fv (.slice none 0 0) us ws N L F [] := by simp [rows4]
  have h1 := h.own.drop 3 (by simp [rows4]) 3 1
  have h2 := StayR.drop (w := w) (X := XB RB DB) (rs := rows4 vn vl fv rv us ws N L F R) 3 (by simp [rows4]) 3 1
  rw [e] at h1 h2
  refine ⟨⟨h1, h.d, h.r, h.ne, h.lo, h.elN.mono h2, h.elF.mono h2, h.below, h.size⟩, ?_⟩
  have hr := h.rowR
  rcases hr.2 with ⟨e1, h0⟩ | ⟨b, cap, cur, rfl, hb, hg, k1, k2, k3, k4⟩
  · exact ⟨none, 0, by rw [h0]; exact e1, by omega, by decide, fun _ => rfl, fun hp => by omega⟩
  · refine ⟨some ⟨b, 0, none⟩, cap, rfl, k1, k2, (fun e => by cases e), fun _ => ⟨b, 0, rfl, ?_, fun i hi => ?_⟩⟩
    · have := h.own.far_drop 3 (by simp [rows4]) 3 1 (k := b) rfl
      rwa [e] at this
    · rw [Nat.zero_add, World.ownsRow.cellAt hr i (by omega), List.getElem?_map, List.getD_eq_getElem?_getD, List.getElem?_eq_getElem hi]
      rfl
/-- a new row is begun -/
theorem DfSt.newR (h : DfSt w0 base w RB DB g wd vn vl fv rv us ws N L F R) : DfSt w0 base (w.alloc (.cells #[] 3)) RB DB g wd vn vl fv (.slice (some ⟨w.heap.size, 0, none⟩) 0 0) us ws N L F [] := by
  obtain ⟨h', _⟩ := h.dropR
  have hb : Below w.heap.size w (w.alloc (.cells #[] 3)) := (Below.refl w.heap.size w).alloc (Nat.le_refl _) _
  have hg : w.grownBy (w.alloc (.cells #[] 3)) (Value.slice none 0 0).ownBlock := World.grownBy_alloc w _ _
  have hat : ∀ k, (Value.slice (some ⟨w.heap.size, 0, none⟩) 0 0).ownBlock = some k → (Value.slice none 0 0).ownBlock = some k ∨ w.heap.size ≤ k := fun k hk => by
    simp only [Value.ownBlock, Option.some.injEq] at hk
    exact .inr (by omega)
  have ho := World.ownsRow_made (base := base) (e := 3) (size := 1) w #[] 0 h.sz (by decide) (by simp)
  have e : (rows4 vn vl fv (.slice none 0 0) us ws N L F []).set 3 ⟨3, 1, .slice (some ⟨w.heap.size, 0, none⟩) 0 0, 0, []⟩ = rows4 vn vl fv (.slice (some ⟨w.heap.size, 0, none⟩) 0 0) us ws N L F [] := by simp [rows4]
  have h1 := h'.own.grow 3 (by simp [rows4]) ⟨3, 1, .slice (some ⟨w.heap.size, 0, none⟩) 0 0, 0, []⟩ hg ho hat
  have h2 := StayR.grow (X := XB RB DB) 3 (by simp [rows4]) ⟨3, 1, .slice (some ⟨w.heap.size, 0, none⟩) 0 0, 0, []⟩ (rs := rows4 vn vl fv (.slice none 0 0) us ws N L F []) hg hat
  rw [e] at h1 h2
  exact ⟨h1, h.d.below hb, h.r.below hb, h.ne, h.lo, h'.elN.mono h2, h'.elF.mono h2, below_then h.below h.sz hb, h.size⟩
/-- the row is put behind the machine's rows -/
theorem DfSt.putN (h : DfSt w0 base w RB DB g wd vn vl fv rv us ws N L F R) {u vn' : Value} {t : List Int} (hu : ElR (FarR w (XB RB DB) (rows4 vn vl fv rv us ws N L F R)) w u t) (hA : Appd w w' base 23 1 vn vn' (N.length + 1) (us ++ [u])) :
    DfSt w0 base (w'.setCell ⟨DB, 257, none⟩ vn') RB DB g wd vn' vl fv rv (us ++ [u]) ws (N ++ [t]) L F R := by
  have hm : (⟨23, 1, vn, N.length, us⟩ : R5) ∈ rows4 vn vl fv rv us ws N L F R := by simp [rows4]
  have e : (rows4 vn vl fv rv us ws N L F R).set 0 ⟨23, 1, vn', N.length + 1, us ++ [u]⟩ = rows4 vn' vl fv rv (us ++ [u]) ws (N ++ [t]) L F R := by simp [rows4]
  have h1 := h.own.grow 0 (by simp [rows4]) ⟨23, 1, vn', N.length + 1, us ++ [u]⟩ hA.grown hA.own hA.at
  have h2 := StayR.grow (X := XB RB DB) 0 (by simp [rows4]) ⟨23, 1, vn', N.length + 1, us ++ [u]⟩ (rs := rows4 vn vl fv rv us ws N L F R) hA.grown hA.at
  rw [e] at h1 h2
  have h3 := h2.trans (StayR.store (B := DB) (.inr rfl) 257 vn')
  exact ⟨h1.store (.inr rfl) 257 vn', (h.d.grown hA.grown (h.off hm).2).putNext vn', (h.r.grown hA.grown (h.off hm).1).put _ h.ne, h.ne, h.lo, (h.elN.mono h3).snoc (hu.mono h3), h.elF.mono h3,
    (h.below.grown hA.grown h.sz fun k hk => (h.own.lt hm hk).1).setCell h.lo.2 _, h.size⟩
/-- a label is put behind the machine's labels -/
theorem DfSt.putL (h : DfSt w0 base w RB DB g wd vn vl fv rv us ws N L F R) {vl' : Value} {x : Int} (hA : Appd w w' base 3 1 vl vl' (L.length + 1) (L.map (Value.int .i64) ++ [Value.int IntKind.i64 x])) :
    DfSt w0 base (w'.setCell ⟨DB, 258, none⟩ vl') RB DB g wd vn vl' fv rv us ws N (L ++ [x]) F R := by
  have hm : (⟨3, 1, vl, L.length, L.map (Value.int .i64)⟩ : R5) ∈ rows4 vn vl fv rv us ws N L F R := by simp [rows4]
  have e : (rows4 vn vl fv rv us ws N L F R).set 1 ⟨3, 1, vl', L.length + 1, L.map (Value.int .i64) ++ [Value.int IntKind.i64 x]⟩ = rows4 vn vl' fv rv us ws N (L ++ [x]) F R := by simp [rows4]
  have h1 := h.own.grow 1 (by simp [rows4]) ⟨3, 1, vl', L.length + 1, L.map (Value.int .i64) ++ [Value.int IntKind.i64 x]⟩ hA.grown hA.own hA.at
  have h2 := StayR.grow (X := XB RB DB) 1 (by simp [rows4]) ⟨3, 1, vl', L.length + 1, L.map (Value.int .i64) ++ [Value.int IntKind.i64 x]⟩ (rs := rows4 vn vl fv rv us ws N L F R) hA.grown hA.at
  rw [e] at h1 h2
  have h3 := h2.trans (StayR.store (B := DB) (.inr rfl) 258 vl')
  exact ⟨h1.store (.inr rfl) 258 vl', (h.d.grown hA.grown (h.off hm).2).putLabel vl', (h.r.grown hA.grown (h.off hm).1).put _ h.ne, h.ne, h.lo, h.elN.mono h3, h.elF.mono h3,
    (h.below.grown hA.grown h.sz fun k hk => (h.own.lt hm hk).1).setCell h.lo.2 _, h.size⟩
/-- a list of a call's own is far -/
theorem DfSt.fresh (h : DfSt w0 base w RB DB g wd vn vl fv rv us ws N L F R) {u : Value} {t : List Int} (hr : RowZ w' w.heap.size u t) : ElR (FarR w' (XB RB DB) (rows4 vn vl fv rv us ws N L F R)) w' u t :=
  hr.el.mono fun _ hk => ⟨h.own.far_new (Nat.le_refl _) hk, rfl⟩
/-- the beginning: the empty list is found -/
theorem DfSt.start (hd : DfaAt w DB g wd (.slice none 0 0) (.slice none 0 0)) (hr : DfaAt w RB zG 0 (.slice none 0 0) (.slice none 0 0)) (hne : RB ≠ DB) (hlo : base ≤ RB ∧ base ≤ DB) (hb : Below base w0 w) (hs : base ≤ w0.heap.size) :
    DfSt w0 base ((w.alloc (.cells #[] 3)).alloc (.cells #[.slice (some ⟨w.heap.size, 0, none⟩) 0 0] 23)) RB DB g wd (.slice none 0 0) (.slice none 0 0) (.slice (some ⟨w.heap.size + 1, 0, none⟩) 1 1) (.slice none 0 0) [] [.slice (some ⟨w.heap.size, 0, none⟩) 0 0] [] [] [[]] [] := by
  have hsz : base ≤ w.heap.size := Nat.le_trans hs hb.size
  have hl1 := hd.lt
  have hl2 := hr.lt
  have hrow : ((w.alloc (.cells #[] 3)).alloc (.cells #[.slice (some ⟨w.heap.size, 0, none⟩) 0 0] 23)).ownsRow base 23 1 (.slice (some ⟨w.heap.size + 1, 0, none⟩) 1 1) 1 [.slice (some ⟨w.heap.size, 0, none⟩) 0 0] := by
    have := World.ownsRow_lit (base := base) (e := 23) (size := 1) (w.alloc (.cells #[] 3)) #[.slice (some ⟨w.heap.size, 0, none⟩) 0 0] 1 (by simp; omega) (by decide) (by simp)
    simpa using this
  have hob : ∀ r ∈ rows4 (.slice none 0 0) (.slice none 0 0) (.slice (some ⟨w.heap.size + 1, 0, none⟩) 1 1) (.slice none 0 0) [] [.slice (some ⟨w.heap.size, 0, none⟩) 0 0] [] [] [[]] [], ∀ k, r.v.ownBlock = some k → k = w.heap.size + 1 := by
    intro r hr k hk
    simp only [rows4, List.mem_cons, List.not_mem_nil, or_false] at hr
    rcases hr with rfl | rfl | rfl | rfl <;> simp [Value.ownBlock] at hk
    omega
  refine ⟨⟨?_, ?_, ?_, ?_⟩, (hd.alloc _).alloc _, (hr.alloc _).alloc _, hne, hlo, Els.nil _ _, ⟨rfl, fun i hi => ?_⟩, (hb.alloc hsz _).alloc (by simp; omega) _, hs⟩
  · intro r hr
    simp only [rows4, List.mem_cons, List.not_mem_nil, or_false] at hr
    rcases hr with rfl | rfl | rfl | rfl
    · exact World.ownsRow_nil _ _ _ _
    · exact World.ownsRow_nil _ _ _ _
    · exact hrow
    · exact World.ownsRow_nil _ _ _ _
  · simp [rows4, away, Value.ownBlock]
  · intro r hr k hk hX
    have := hob r hr k hk
    rcases hX with e | e <;> omega
  · intro k hX
    rcases hX with e | e <;> (simp; omega)
  · obtain rfl : i = 0 := by simpa using hi
    exact ⟨_, _, rfl, Nat.le_refl _, by decide, (fun e => by cases e), fun hp => absurd hp (by simp)⟩
end
end Go.Proofs.YtmpjjnjggihojaaGreatDoor

/- Contract of from: for each class the spots that its bytes lead to. -/
namespace Go.Proofs.YtmpjjnjggihojaaGreatDoor
open Go.RowKit Go.Lib Go.Joins

def iV (x : Int) : Value := .int .i64 x
/-- the lists that are built: a table of slices, a row of the call's own each -/
def FromS (w1 : World) (W : Nat) (us : Nat → Value) (L : Nat → List Int) (wr : World) : Prop :=
  OwnR wr (fun k => k = w1.heap.size) w1.heap.size (rowsN 3 iV W us L) ∧ TabAt wr w1.heap.size 23 W us ∧ Below w1.heap.size w1 wr ∧ w1.heap.size + 1 ≤ wr.heap.size
theorem FromS.start (w1 : World) (W : Nat) {L : Nat → List Int} (hL : ∀ c, c < W → L c = []) : FromS w1 W (fun _ => .slice none 0 0) L (w1.alloc (.cells (madeCells #[.slice none 0 0] W) 23)) := by
  refine ⟨⟨fun r hr => ?_, ?_, fun r hr k hk => ?_, fun k hk => by simp; omega⟩, TabAt.mk _ _ _ _, (Below.refl _ _).alloc (Nat.le_refl _) _, by simp⟩
  · unfold rowsN at hr
    obtain ⟨i, hi, rfl⟩ := List.mem_map.1 hr
    simp only [hL i (List.mem_range.1 hi)]
    exact World.ownsRow_nil _ _ _ _
  · unfold rowsN
    rw [List.pairwise_map]
    exact List.pairwise_lt_range.imp fun _ => .inl rfl
  · unfold rowsN at hr
    obtain ⟨i, _, rfl⟩ := List.mem_map.1 hr
    cases hk
theorem FromS.row {w1 wr : World} {W : Nat} {us : Nat → Value} {L : Nat → List Int} (h : FromS w1 W us L wr) {c : Nat} (hc : c < W) : RowZ wr w1.heap.size (us c) (L c) := h.1.rows _ (rowsN_mem hc)
theorem FromS.kept {w1 wr w' : World} {W : Nat} {us : Nat → Value} {L : Nat → List Int} (h : FromS w1 W us L wr) (hb : Below wr.heap.size wr w') : FromS w1 W us L w' :=
  ⟨h.1.kept hb, h.2.1.at (hb.block _ h.2.1.lt), below_then h.2.2.1 (Nat.le_trans (Nat.le_succ _) h.2.2.2) hb, Nat.le_trans h.2.2.2 hb.size⟩
/-- a number more in one list -/
theorem FromS.put {w1 wr w' : World} {W : Nat} {us : Nat → Value} {L L' : Nat → List Int} (h : FromS w1 W us L wr) {c : Nat} (hc : c < W) {v' : Value} {x : Int} (hA : Appd wr w' w1.heap.size 3 1 (us c) v' ((L c).length + 1) ((L c).map iV ++ [iV x]))
    (hL : ∀ j, L' j = if j = c then L c ++ [x] else L j) : FromS w1 W (upd us c v') L' (w'.setCell ⟨w1.heap.size, c, none⟩ v') := by
  have hm := rowsN_get (t := 3) (f := iV) (us := us) (L := L) hc
  have hl : c < (rowsN 3 iV W us L).length := by rw [rowsN_len]; exact hc
  have hg := h.1.grow c hl ⟨3, 1, v', (L c ++ [x]).length, (L c ++ [x]).map iV⟩ (by rw [hm]; exact hA.grown) (by
    have := hA.own
    unfold R5.at
    simpa using this) (fun k hk => by rw [hm]; exact hA.at k hk)
  rw [rowsN_set v' (L c ++ [x]) hL] at hg
  have hob : (us c).ownBlock ≠ some w1.heap.size := fun e => h.1.out _ (rowsN_mem hc) _ e rfl
  exact ⟨hg.store rfl c v', (h.2.1.grown hA.grown hob).store c v', (h.2.2.1.grown hA.grown (Nat.le_trans (Nat.le_succ _) h.2.2.2) (fun k e => (h.1.lt (rowsN_mem hc) e).1)).setCell (Nat.le_refl _) _, by simpa using Nat.le_trans h.2.2.2 hA.grown.size⟩
theorem FromS.congr {w1 wr : World} {W : Nat} {us : Nat → Value} {L L' : Nat → List Int} (h : FromS w1 W us L wr) (hL : ∀ c, c < W → L c = L' c) : FromS w1 W us L' wr := by
  unfold FromS at *
  rw [rowsN_congr (t := 3) (f := iV) (us := us) hL] at h
  exact h
theorem row_slice14 {w : World} {base : Nat} {e : TypeId} {size : Nat} {v : Value} {n : Nat} {xs : List Value} (h : w.ownsRow base e size v n xs) : ∃ a c, v = .slice a n c := by
  rcases h.2 with ⟨rfl, rfl⟩ | ⟨g, cap, cur, rfl, _⟩
  · exact ⟨none, 0, rfl⟩
  · exact ⟨_, cap, rfl⟩
/-- what from hands out -/
def RetF (w : World) (SB : Nat) (N : NetM) (st : Nat) (l : List Int) (e : Ending) (w' : World) : Prop :=
  ∃ (B : Nat) (us : Nat → Value) (T : Nat → Int), e = .returned (.slice (some ⟨B, 0, none⟩) (widN N) (widN N)) ∧ w.heap.size ≤ B ∧ TabAt w' B 23 (widN N) us ∧ (∀ c, c < widN N → ElR (fun k => w.heap.size ≤ k ∧ k < w'.heap.size) w' (us c) (goN N st l c)) ∧
    But w.heap.size (fun k => k = SB) w w' ∧ SeenAt w' SB N.sets.length T ∧ ∀ q, q < N.sets.length → T q ≤ st
theorem infoZ1 : (Tryz.prog.info? 23).map (fun i => (i.zero, i.size, i.bytes)) = some (some (.slice none 0 0), 1, 24) := by kernel_rfl
set_option maxHeartbeats 8000000 in
set_option maxRecDepth 100000 in
theorem from_calls {G : Nat → Prop} {e0 P CB BF SB : Nat} {w : World} {vs vo vl vf v1 b1 : Value} {us : Nat → Value} {N : NetM} (h : PathR G e0 w P CB BF SB vs vo vl vf v1 b1 us (fun q => clsU N q (widN N)) N) (hG : ∀ k, G k → k < w.heap.size)
    (hR : rightB N = true) (hn : N.sets.length ≤ 900) {T : Nat → Int} (hS : SeenAt w SB N.sets.length T) {st : Nat} (hT0 : st = 0 → ∀ q, q < N.sets.length → T q ≤ 0) (hT : st ≠ 0 → ∀ q, q < N.sets.length → T q < st) {sv : Value} {l : List Int} (hl : ElR G w sv l) (hr : ∀ x ∈ l, 0 ≤ x ∧ x < (N.sets.length : Int)) :
    Calls Tryz.prog 55 #[.pointer (some ⟨P, 0, none⟩), .int .i64 st, sv] w (RetF w SB N st l) := by
  have hGX : ∀ k, G k → k < w.heap.size ∧ k ≠ SB := fun k hk => ⟨hG k hk, fun e => h.far.2.2.2 (e ▸ hk)⟩
  have he0 : e0 ≤ w.heap.size := Nat.le_of_not_lt fun hlt => by have := hG _ (h.low _ hlt); omega
  have hsb : SB < w.heap.size := hS.lt
  have hwd : widN N ≤ 256 := cntK_le _ 256
  obtain ⟨hxu, hxr⟩ := nxt_up hR st l
  have hxl : (nxtL N st l).length ≤ 900 := Nat.le_trans (nodup_len (hxu.imp fun h => by omega) hxr) hn
  obtain ⟨i1, hj, hy0, hy1, hy2⟩ := info_parts infoZ1
  have hmk : ∀ W, (Instr.makeSlice 25 (.int .i64 ((widN N : Nat) : Int)) (.int .i64 ((widN N : Nat) : Int))).run Tryz.prog W = .ok (.slice (some ⟨W.heap.size, 0, none⟩) (widN N) (widN N)) (W.alloc (.cells (madeCells #[Value.slice none 0 0] (widN N)) 23)) := fun W => by
    have := run_make (P := Tryz.prog) W 25 23 i1 _ Tryz.underlying25 hj hy0 .i64 .i64 (widN N : Int) (widN N : Int) (by omega) (by omega) (by rw [hy2]; omega) (by omega)
    simpa [hy1, Value.cells] using this
  have HC := hidden (fun W (hb : But w.heap.size (fun k => k = SB) w W) => (h.but hb hGX).cells)
  have HK := hidden (fun q (hq : q < N.sets.length) => (show ∃ a' c', (∀ W, But w.heap.size (fun k => k = SB) w W → W.cell? ⟨CB, q, none⟩ = some (.slice a' (clsU N q (widN N)).length c')) ∧ ∀ i, i < (clsU N q (widN N)).length → ∃ b off, a' = some ⟨b, off, none⟩ ∧ ∃ c : Nat, (clsU N q (widN N)).getD i 0 = c ∧ c < widN N ∧
      ∀ W, But w.heap.size (fun k => k = SB) w W → W.cell? ⟨b, off + i, none⟩ = some (.int .u8 (c : Int)) from by
    obtain ⟨a', c', e, _, _, _, k4⟩ := h.el q hq
    refine ⟨a', c', fun W hbW => ?_, fun i hi => ?_⟩
    · have hg := hGX CB h.far.2.2.1
      rw [hbW.cell (p := ⟨CB, q, none⟩) hg.1 hg.2, h.cls.cell hq, e]
    · obtain ⟨b, off, e2, hGb, hc⟩ := k4 (by omega)
      refine ⟨b, off, e2, (clsU N q (widN N))[i], by rw [List.getD_eq_getElem?_getD, List.getElem?_eq_getElem hi]; rfl, clsU_lt _ _ _ _ (List.getElem_mem hi), fun W hbW => ?_⟩
      rw [hbW.cell (p := ⟨b, off + i, none⟩) (hGX b hGb).1 (hGX b hGb).2, hc i hi]
      congr 3
      rw [List.getD_eq_getElem?_getD, List.getElem?_eq_getElem hi]
      rfl))
  have HKL := hidden (fun q => (show (clsU N q (widN N)).length ≤ 256 from Nat.le_trans (clsU_len _ _ _) hwd))
  have HLJ := hidden (fun j i (hi : i < (clsU N ((nxtL N st l).getD j 0).toNat (widN N)).length) c => (show lstJ N (nxtL N st l) j (i + 1) c = if c = (clsU N ((nxtL N st l).getD j 0).toNat (widN N)).getD i 0 then lstJ N (nxtL N st l) j i c ++ [(nxtL N st l).getD j 0] else lstJ N (nxtL N st l) j i c from by
    rw [lstJ_more N (nxtL N st l) j i hi c, List.getD_eq_getElem?_getD (l := clsU N ((nxtL N st l).getD j 0).toNat (widN N)), List.getElem?_eq_getElem hi]
    rfl))
  have HLN := hidden (fun j (hj : j < (nxtL N st l).length) c (hc : c < widN N) => lstJ_next N (nxtL N st l) j hj c hc)
  have HLA := hidden (fun c => lstJ_all hR st l c)
  have HL0 := hidden (fun c => lstJ_start N (nxtL N st l) c)
  have HLB := hidden (fun j i c => (show (lstJ N (nxtL N st l) j i c).length ≤ 901 from by
    unfold lstJ
    have h1 := List.length_filter_le (fun x => hasC N c x.toNat) ((nxtL N st l).take j)
    rw [List.length_take] at h1
    rw [List.length_append]
    split <;> simp <;> omega))
  have HXQ := hidden (fun j (hj : j < (nxtL N st l).length) => (show ∃ q : Nat, (nxtL N st l).getD j 0 = q ∧ q < N.sets.length from by
    have hg : (nxtL N st l).getD j 0 = (nxtL N st l)[j] := by rw [List.getD_eq_getElem?_getD, List.getElem?_eq_getElem hj]; rfl
    have := hxr _ (List.getElem_mem hj)
    exact ⟨((nxtL N st l)[j]).toNat, by rw [hg]; omega, by omega⟩))
  have HFS := hidden (fun w1 => FromS.start w1 (widN N) (L := lstJ N (nxtL N st l) 0 0) fun c _ => lstJ_start N _ c)
  have HHD := hidden (show N.first.length ≤ 9223372036854775807 by
    obtain ⟨_, _, _, h1, h2, _⟩ := h.net.first
    unfold maxLen at h2
    omega)
  obtain ⟨fa, fc, rfl⟩ := h.net.first.form
  have HFI := hidden (show st = 0 → nxtL N st l = N.first from fun h => if_pos h)
  have HFR := hidden (fun W (hb : But w.heap.size (fun k => k = SB) w W) => h.net.first.below (hb.under he0 fun k e => e ▸ h.lo) (Nat.le_trans he0 hb.size))
  have HAF := hidden (fun h0 : st ≠ 0 => (show Calls Tryz.prog 74 #[.pointer (some ⟨P, 0, none⟩), .int .i64 st, sv] w fun e w' => ∃ v T', e = .returned v ∧ RowZ w' w.heap.size v (nxtL N st l) ∧ But w.heap.size (fun k => k = SB) w w' ∧ SeenAt w' SB N.sets.length T' ∧ ∀ q, q < N.sets.length → T' q ≤ st from by
    unfold nxtL
    rw [if_neg h0]
    exact after_calls h hG hR hn hS (hT h0) hl hr))
  have HS0 := hidden (show st = 0 → SeenAt w SB N.sets.length T ∧ ∀ q, q < N.sets.length → T q ≤ st from fun h0 => ⟨hS, fun q hq => by have := hT0 h0 q hq; omega⟩)
  obtain ⟨sa, sc, rfl⟩ : ∃ a c, sv = .slice a l.length c := by obtain ⟨a, c, e, _⟩ := hl; exact ⟨a, c, e⟩
  unfold RetF
  obtain ⟨W, hW⟩ : ∃ W, W = widN N := ⟨_, rfl⟩
  have HW := hidden hW
  rw [← hW] at HC HK HKL HLJ HLN HFS hwd hmk ⊢
  obtain ⟨ns, hns⟩ : ∃ ns, ns = N.sets.length := ⟨_, rfl⟩
  have HNS := hidden hns
  rw [← hns] at HC HK HXQ hn
  obtain ⟨X, hX⟩ : ∃ X, X = nxtL N st l := ⟨_, rfl⟩
  rw [← hX] at HLJ HLN HLA HL0 HLB HXQ HFS HFI HAF hxl
  obtain ⟨nx, hnx⟩ : ∃ nx, nx = X.length := ⟨_, rfl⟩
  have HNX := hidden hnx
  rw [← hnx] at HLN HLA HXQ hxl
  obtain ⟨lv, hlv⟩ : ∃ lv, lv = l.length := ⟨_, rfl⟩
  rw [← hlv] at HAF ⊢
  obtain ⟨n1, hn1⟩ : ∃ n1, n1 = N.first.length := ⟨_, rfl⟩
  have HN1 := hidden hn1
  rw [← hn1] at HC HFR HHD
  clear h hG hGX hS hT0 hT hl hr hR hxu hxr he0 hj hy0 hy1 hy2 hns hX hnx hlv hn1 hW
  obtain ⟨c3, c4, c10, c11, c12⟩ := HC.out w (But.refl _ _ _)
  by_cases h0 : st = 0
  case' pos =>
    have hst : ¬ (0 : Int) < (st : Int) := by omega
    have hxf := HFI.out h0
    have hnn : nx = n1 := by rw [HN1.out, HNX.out, hxf]
    subst hnn
    have HT1 := hidden (HS0.out h0)
    have HB1 := hidden (But.refl w.heap.size (fun k => k = SB) w)
    have hz := HFR.out w HB1.out
    rw [← hxf] at hz
    have HZ := hidden hz
    clear hxf hz HFI HS0 HFR HAF h0
    go_enter Tryz.func55, Tryz.ntmps55
    go_wp2
    obtain ⟨w1, hw1⟩ : ∃ w1, w1 = w := ⟨_, rfl⟩
    subst hw1
  case' neg =>
    have hst : (0 : Int) < (st : Int) := by omega
    have HAF2 := hidden (HAF.out h0)
    clear HAF h0 HFI HS0 HFR HHD
    go_enter Tryz.func55, Tryz.ntmps55
    go_wp2_with fail
    refine HAF2.out.mono ?_
    rintro e w1 ⟨v1', T1, rfl, hr1, hb1, hs1⟩
    obtain ⟨fa1, fc1, hv1⟩ := hr1.form
    subst hv1
    rw [← HNX.out] at hr1 ⊢
    have HZ := hidden (hr1.reads)
    have HB1 := hidden hb1
    have HT1 := hidden hs1
    obtain ⟨_, _, d10, d11, _⟩ := HC.out w1 HB1.out
    clear hr1 hb1 hs1 HAF2
    go_wp2
  all_goals
    have HFS1 := hidden (HFS.out w1)
    have HSB1 := hidden (show SB < w1.heap.size from Nat.lt_of_lt_of_le hsb HB1.out.size)
    have HSZ1 := hidden HB1.out.size
    clear HFS hmk c4
    go_loopw [31] (fun i wr => ∃ (j : Nat) (us2 : Nat → Value), j ≤ nx ∧ i = .int .i64 j ∧ FromS w1 W us2 (lstJ N X j 0) wr) (fun i _ => nx - (Go.RowKit.intOf i).toNat)
    case atStart => exact ⟨0, _, by omega, rfl, HFS1.out⟩
    case round =>
      clear HFS1
      obtain ⟨j, us2, hj, rfl, hF⟩ := hrel
      have HF := hidden hF
      have HBF := hidden (HB1.out.below HSZ1.out hF.2.2.1)
      clear hF
      obtain ⟨wo, rfl⟩ : ∃ wo : World, wo = wr := ⟨wr, rfl⟩
      obtain ⟨_, _, d10, d11, _⟩ := HC.out wo HBF.out
      by_cases hlt : j < nx
      · obtain ⟨b, off, rfl, _, d0⟩ := HZ.out.atZ HF.out.2.2.1 j (by have := HNX.out; omega)
        obtain ⟨q, hq, hqs⟩ := HXQ.out j hlt
        rw [hq] at d0
        obtain ⟨a', c', hcell, hci⟩ := HK.out q hqs
        have d2 := hcell wo HBF.out
        have HCI := hidden hci
        have hkl := HKL.out q
        have HLJ2 := hidden (fun i hi => HLJ.out j i hi)
        have HLN2 := hidden (HLN.out j hlt)
        rw [hq, Int.toNat_natCast] at HLJ2 HLN2
        have hqi : (q : Int) < (ns : Int) := by omega
        obtain ⟨KL, hKL⟩ : ∃ KL, KL = clsU N q W := ⟨_, rfl⟩
        rw [← hKL] at d2 HCI hkl HLJ2 HLN2
        obtain ⟨lk, hlk⟩ : ∃ lk, lk = KL.length := ⟨_, rfl⟩
        have HLK := hidden hlk
        rw [← hlk] at d2 HCI hkl HLJ2 HLN2
        have HQ := hidden hq
        clear hcell hci hq hKL hlk
        go_wp2
        go_loopw [43] (fun i wr => ∃ (m : Nat) (us3 : Nat → Value), m ≤ lk ∧ i = .int .i64 m ∧ FromS w1 W us3 (lstJ N X j m) wr) (fun i _ => lk - (Go.RowKit.intOf i).toNat)
        case atStart => exact ⟨0, _, by omega, rfl, HF.out⟩
        case round =>
          obtain ⟨m, us3, hm, rfl, hF3⟩ := hrel
          have HF3 := hidden hF3
          have HBF3 := hidden (HB1.out.below HSZ1.out hF3.2.2.1)
          clear hF3
          by_cases hmt : m < lk
          · obtain ⟨b2, off2, rfl, c, hce, hcW, hcc⟩ := HCI.out m hmt
            have e0 := hcc wr HBF3.out
            obtain ⟨ac, cc, huc⟩ := (HF3.out.row hcW).form
            have e1 := HF3.out.2.1.cell hcW
            have ef := HF3.out.2.1.frozen c
            have HA := hidden (HF3.out.kept ((Below.refl wr.heap.size wr).alloc (Nat.le_refl _) (.cells #[.int .i64 (q : Int)] 3)))
            have hown := HA.out.row hcW
            unfold RowZ at hown
            have hl9 := HLB.out j m c
            have HNEW := hidden (show ∀ j', lstJ N X j (m + 1) j' = if j' = c then lstJ N X j m c ++ [(q : Int)] else lstJ N X j m j' from fun j' => by
              have h1 := HLJ2.out m hmt j'
              rw [hce] at h1
              rw [h1]
              by_cases e : j' = c
              · rw [if_pos e, if_pos e, e]
              · rw [if_neg e, if_neg e])
            obtain ⟨L3, hL3⟩ : ∃ L, L = lstJ N X j m c := ⟨_, rfl⟩
            have HL3 := hidden hL3
            rw [← hL3] at huc hown hl9
            obtain ⟨q3, hq3⟩ : ∃ n, n = L3.length := ⟨_, rfl⟩
            have HQ3 := hidden hq3
            rw [← hq3] at huc hown hl9
            have HUC := hidden huc
            rw [huc] at e1 hown
            have HOW := hidden hown
            have HLN9 := hidden (show q3 + 1 ≤ 1000000 by omega)
            have HBS := hidden (show w1.heap.size ≤ (wr.alloc (.cells #[.int .i64 (q : Int)] 3)).heap.size from Nat.le_trans (Nat.le_succ _) HA.out.2.2.2)
            have hci2 : (c : Int) < (W : Int) := by omega
            have HI := hidden infoInt
            clear hcc hown hL3 hq3 huc
            go_wp2_with (at_builtin; refine wpList_app (v := .slice ac q3 cc) rfl _ _ rfl HI.out Tryz.underlying23 rfl (by decide) (by decide) rfl HOW.out rfl (Src.one wr (.int .i64 (q : Int)) 3 _ rfl) (by simp) (by simp [Value.oneCell']) HLN9.out HBS.out ?_; intro v9 w9 hA9; have HA9 := hidden hA9; have hob : (Value.slice ac q3 cc).ownBlock ≠ some w1.heap.size := (fun e => (by rw [← HUC.out] at e; exact HA.out.1.out _ (rowsN_mem hcW) _ e rfl)); have ht9 := HA.out.2.1.grown hA9.grown hob; have g0 := ht9.cell hcW; have g1 := ht9.frozen c; obtain ⟨a9, c9, hv9⟩ := row_slice14 hA9.own; subst hv9; clear hA9 hob ht9)
            go_roundw
            case rel =>
              have hput := FromS.put (x := (q : Int)) (v' := .slice a9 (q3 + 1) c9) HA.out hcW (by
                have hA := HA9.out
                rw [HUC.out, ← HL3.out, ← HQ3.out]
                exact hA) (fun j' => HNEW.out j')
              repeat (refine Exists.intro _ ?_; (try (refine And.intro ?_ rfl)))
              exact ⟨m + 1, _, by omega, by go_num, hput⟩
            case measure => simp [Go.RowKit.intOf]; omega
          · obtain rfl : m = lk := by omega
            go_wp2
            go_roundw
            case rel => exact ⟨j + 1, us3, by omega, by go_num, HF3.out.congr HLN2.out⟩
            case measure => simp [Go.RowKit.intOf]; omega
      · obtain rfl : j = nx := by omega
        go_wp2
        go_ret
        refine ⟨w1.heap.size, us2, _, rfl, HSZ1.out, HF.out.2.1, fun c hc => ?_, HBF.out, HT1.out.1.at (HF.out.2.2.1.block SB HSB1.out), HT1.out.2⟩
        have hz := (HF.out.row hc).el
        rw [HLA.out c] at hz
        exact hz.mono fun k hk => ⟨⟨Nat.le_trans HSZ1.out hk.1, hk.2⟩, rfl⟩
end Go.Proofs.YtmpjjnjggihojaaGreatDoor

/- Contracts of moved and of the reference's: every spot of a list, greater by so many. -/
namespace Go.Proofs.YtmpjjnjggihojaaGreatDoor
open Go.RowKit Go.Lib Go.Joins
def mvd (l : List Int) (d : Int) : List Int := l.map fun x => IntKind.i64.wrap (x + d)
theorem mvd_take (l : List Int) (d : Int) (k : Nat) (hk : k < l.length) : mvd (l.take (k + 1)) d = mvd (l.take k) d ++ [IntKind.i64.wrap (l.getD k 0 + d)] := by
  unfold mvd
  rw [List.take_succ_eq_append_getElem hk, List.map_append, List.getD_eq_getElem?_getD, List.getElem?_eq_getElem hk, Option.getD_some]
  rfl
theorem mvd_len (l : List Int) (d : Int) : (mvd l d).length = l.length := by simp [mvd]
theorem mvd_small {l : List Int} {d : Int} (h : ∀ x ∈ l, 0 ≤ x + d ∧ x + d < 9223372036854775808) : mvd l d = l.map (· + d) := by
  unfold mvd
  refine List.map_congr_left fun x hx => ?_
  have := h x hx
  rw [IntKind.wrap_i64]
  omega
set_option maxHeartbeats 4000000 in
set_option maxRecDepth 100000 in
theorem rmoved_calls {w : World} {v : Value} {l : List Int} (d : Int) (h : RdZ w.heap.size w v l) (hlen : l.length ≤ 10000) : Calls Tryz.prog 45 #[v, .int .i64 d] w (RetZ w (mvd l d)) := by
  obtain ⟨a, c, rfl⟩ := h.form
  have HA := hidden (fun W (hb : Below w.heap.size w W) i (hi : i < l.length) => h.atZ hb i hi)
  have HF := hidden (fun k (hk : k < l.length) => mvd_take l d k hk)
  have HFL := hidden (fun k (hk : k ≤ l.length) => (show (mvd (l.take k) d).length = k by rw [mvd_len, List.length_take]; omega))
  have HE := hidden (show mvd (l.take l.length) d = mvd l d by rw [List.take_length])
  have HN0 := hidden (show RowZ (w.alloc (.cells #[] 3)) w.heap.size (.slice (some ⟨w.heap.size, 0, none⟩) 0 0) (mvd (l.take 0) d) from by simpa [mvd] using RowZ.lit w _ rfl #[] rfl)
  obtain ⟨m, hm⟩ : ∃ m, m = l.length := ⟨_, rfl⟩
  rw [← hm] at HA HF HFL HE hlen ⊢
  clear h hm
  go_enter Tryz.func45, Tryz.ntmps45
  go_wp2
  go_loopw [5, 6] (fun v i wr => ∃ (k : Nat) (o : Value), k ≤ m ∧ o = v ∧ i = .int .i64 k ∧ RowZ wr w.heap.size o (mvd (l.take k) d) ∧ Below w.heap.size w wr) (fun _ i _ => m - (intOf i).toNat)
  case atStart => exact ⟨0, _, by omega, rfl, rfl, HN0.out, (Below.refl w.heap.size w).alloc (Nat.le_refl _) _⟩
  case round =>
    clear HN0
    obtain ⟨k, o, hk, rfl, rfl, hG, hb3⟩ := hrel
    have HG := hidden hG
    have HB := hidden hb3
    clear hG hb3
    by_cases hlt : k < m
    · obtain ⟨ba, oa, rfl, _, c0⟩ := HA.out wr HB.out k hlt
      have HK := hidden (HF.out k hlt)
      have hl := HFL.out k hk
      generalize l.getD k 0 = x at *
      obtain ⟨y, hy⟩ : ∃ y, y = IntKind.i64.wrap (x + d) := ⟨_, rfl⟩
      have hy1 : IntKind.i64.wrap (x + d) = y := hy.symm
      have hy2 : wrap64 (x + d) = y := by rw [hy]; simp [IntKind.wrap_i64, wrap64]
      rw [hy1] at HK
      clear hy
      have HR := hidden (HG.out.kept ((Below.refl wr.heap.size wr).alloc (Nat.le_refl _) (.cells #[.int .i64 y] 3)))
      have HBA := hidden (HB.out.alloc HB.out.size (.cells #[.int .i64 y] 3))
      have hsz := HB.out.size
      go_wp2_with (at_builtin; refine app_z rfl _ _ rfl rfl HR.out rfl (heap_alloc_new wr _) hl (by omega) (by simp; omega) ?_; intro g' c' w3 hr3 hg3 hb3; have HR3 := hidden hr3; have HB3 := hidden (HBA.out.trans hb3); clear hr3 hg3 hb3)
      go_roundw
      case rel => exact ⟨k + 1, _, by omega, rfl, by go_num, by rw [HK.out]; exact HR3.out, HB3.out⟩
      case measure => simp [intOf]; omega
    · have e : k = m := by omega
      subst e
      go_wp2
      go_ret
      rw [HE.out] at HG
      exact ⟨_, rfl, HG.out, HB.out⟩
end Go.Proofs.YtmpjjnjggihojaaGreatDoor
