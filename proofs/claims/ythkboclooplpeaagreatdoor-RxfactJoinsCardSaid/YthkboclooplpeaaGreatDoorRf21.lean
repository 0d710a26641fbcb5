/- FaLetF, FaRch, put together. -/
import Derived.Test.YthkboclooplpeaaGreatDoorRf20
/- lettersOf, First, Used. -/
namespace Go.Proofs.YthkboclooplpeaaGreatDoor
open Go.RowKit Go.Lib Go.Joins
attribute [local go_sem] evalR_tmp evalR_const evalR_global evalR_func
def aggD (d : TypeDesc) : Bool := match d with | .struct _ | .array _ _ => true | _ => false
theorem ret_row {fn : Func} {R : Ending → World → Prop} {a : Act} {w : World} {B p : Nat} {t ty : TypeId} {cs : Array Value} {d : TypeDesc} (h : fn.results = #[.cell p ty]) (hp : a.tmps.getD p undef = .pointer (some ⟨B, 0, none⟩))
    (hd : a.defers = []) (hS : w.heap[B]? = some (.cells cs t (0, 0))) (hdd : aggD d = true) (hu : Tryz.prog.underlying ty = some d) (hi : (Tryz.prog.info? ty).map (·.size) = some cs.size)
    (hR : R (.returned (.agg cs)) w) : bodyPost Tryz.prog fn R .ret a w :=
  bodyPost_ret (results_cell_row h _ w B t _ (0, 0) _ hp hS hu (by unfold aggD at hdd; cases d <;> simp_all) hi) hd hR
theorem field_agg {ops : Array Oper} {rest : List Oper} {o : Oper} {a : Act} {w : World} {Q : Exit → Act → World → Prop} (hgd : o.guard = none) {ty : TypeId} {x : Operand} {fi : Nat} (ho : o.op = .field ty x fi)
    {cs cs' : Array Value} {fs : Array Field} {f : Field} {d : TypeDesc} (n : Nat) (hx : a.eval x = .agg cs) (hu : Tryz.prog.underlying ty = some (.struct fs)) (hf : fs[fi]? = some f)
    (hdd : aggD d = true) (hu2 : Tryz.prog.underlying f.type = some d) (hi : (Tryz.prog.info? f.type).map (·.size) = some n) (hc : cs.extract f.offset (f.offset + n) = cs')
    (h : wpList Tryz.prog ops Q rest (a.put o.dst (.agg cs')) w) : wpList Tryz.prog ops Q (o :: rest) a w := by
  refine wpList_plain hgd fun K hK => ?_
  have hagg : (isAgg f.type).run Tryz.prog w = .ok true w := by
    unfold isAgg
    rw [Sem.run_bind, run_underlying hu2 w]
    cases d <;> simp_all [aggD]
  have hK' := hK _ _ h
  cases hq : Tryz.prog.info? f.type with
  | none => simp [hq] at hi
  | some i =>
    have hs : i.size = n := by simpa [hq] using hi
    have hr : (Instr.field ty (a.eval x) fi).run Tryz.prog w = .ok (.agg cs') w := by
      simp [Instr.field, hx, Sem.run_bind, run_underlying hu w, hf, asAgg, part, hagg, sizeOf, typeInfo, hq, hs, hc]
    unfold Oper.wp execOp
    simp only [ho, Sem.run_bind, hr, Result.andThen_ok, Sem.run_pure]
    exact hK'
/-- the letters of what a list of steps says -/
def letF (L : List Stp) : Let := if (measV L).2 = 0 then letE (treeE L) else ⟨false, false, fNone, fNone⟩
theorem evalL_any {C : Nat → Prop} {v0 : Value} {L : List Stp} {w : World} (h : SlX C w v0 L) (hC : ∀ b, C b → b < w.heap.size) (hwd : ∀ s ∈ L, s.wide) :
    ∃ b, Calls Tryz.prog 85 #[v0, .agg #[.func (.func 86) #[] #[], .func (.func 87) #[] #[], .func (.func 88) #[] #[], .func (.func 89) #[] #[], .func (.func 90) #[] #[], .func (.func 91) #[] #[], .func (.func 90) #[] #[]]] w fun e w' => e = .returned (.tuple #[letV (letF L), .bool b]) ∧ Below w.heap.size w w' := by
  unfold letF
  by_cases hz : (measV L).2 = 0
  · rw [if_pos hz]; exact ⟨true, evalL_calls h hC hz hwd⟩
  · rw [if_neg hz]; exact ⟨false, evalL_none h hC hz⟩
set_option maxHeartbeats 4000000 in
set_option maxRecDepth 100000 in
theorem lettersOf_calls {C : Nat → Prop} {v0 : Value} {L : List Stp} {w : World} (h : SlX C w v0 L) (hC : ∀ b, C b → b < w.heap.size) (hwd : ∀ s ∈ L, s.wide) :
    Calls Tryz.prog 61 #[v0] w fun e w' => e = .returned (letV (letF L)) ∧ Below w.heap.size w w' := by
  have hba := (Below.refl w.heap.size w).alloc (Nat.le_refl _) (.cells #[.bool false, .bool false, .int .u64 0, .int .u64 0, .int .u64 0, .int .u64 0, .int .u64 0, .int .u64 0, .int .u64 0, .int .u64 0] 66)
  have hsl := h.below (C' := fun b => b < (w.alloc (.cells #[.bool false, .bool false, .int .u64 0, .int .u64 0, .int .u64 0, .int .u64 0, .int .u64 0, .int .u64 0, .int .u64 0, .int .u64 0] 66)).heap.size) (w' := w.alloc (.cells #[.bool false, .bool false, .int .u64 0, .int .u64 0, .int .u64 0, .int .u64 0, .int .u64 0, .int .u64 0, .int .u64 0, .int .u64 0] 66)) fun b hb => ⟨Nat.lt_of_lt_of_le (hC b hb) hba.size, hba.block b (hC b hb)⟩
  obtain ⟨bb, hE⟩ := evalL_any hsl (fun b hb => hb) hwd
  have HE := hidden hE
  have HB := hidden hba
  have HT := hidden (heap_alloc_new w (.cells #[.bool false, .bool false, .int .u64 0, .int .u64 0, .int .u64 0, .int .u64 0, .int .u64 0, .int .u64 0, .int .u64 0, .int .u64 0] 66))
  obtain ⟨av, cv, rfl, _⟩ := h
  generalize hx : letF L = x at *
  have HX := hidden hx
  clear hx hsl hba hE
  go_enter Tryz.func61, Tryz.ntmps61
  go_wp2_with fail
  refine HE.out.mono ?_
  rintro e w1 ⟨rfl, hb⟩
  have hlw : w.heap.size < w1.heap.size := by have := hb.size; simp at this; omega
  have HT1 := hidden ((heap_alloc_old w1 (.cells #[.bool x.some, .bool x.null, .int .u64 (word (x.first) 0), .int .u64 (word (x.first) 1), .int .u64 (word (x.first) 2), .int .u64 (word (x.first) 3), .int .u64 (word (x.used) 0), .int .u64 (word (x.used) 1), .int .u64 (word (x.used) 2), .int .u64 (word (x.used) 3)] 66) hlw).trans ((hb.block w.heap.size (by simp)).trans HT.out))
  have HB1 := hidden ((below_then HB.out HB.out.size hb).alloc (by omega) (.cells #[.bool x.some, .bool x.null, .int .u64 (word (x.first) 0), .int .u64 (word (x.first) 1), .int .u64 (word (x.first) 2), .int .u64 (word (x.first) 3), .int .u64 (word (x.used) 0), .int .u64 (word (x.used) 1), .int .u64 (word (x.used) 2), .int .u64 (word (x.used) 3)] 66))
  clear hb
  unfold letV
  dsimp only
  go_wp2_with (refine store_row (B := w.heap.size) (cs := #[.bool x.some, .bool x.null, .int .u64 (word (x.first) 0), .int .u64 (word (x.first) 1), .int .u64 (word (x.first) 2), .int .u64 (word (x.first) 3), .int .u64 (word (x.used) 0), .int .u64 (word (x.used) 1), .int .u64 (word (x.used) 2), .int .u64 (word (x.used) 3)]) (old := #[.bool false, .bool false, .int .u64 0, .int .u64 0, .int .u64 0, .int .u64 0, .int .u64 0, .int .u64 0, .int .u64 0, .int .u64 0]) (t := 66) rfl (ty := 66) (x := .tmp 2) (y := .tmp 11) rfl rfl rfl HT1.out 10 (by kernel_rfl) rfl rfl (by kernel_rfl) ?_; intro w6 hw6 hg6; have HL6 := hidden hw6; have HG6 := hidden hg6; clear hw6 hg6)
  exact ret_let (l := x) Tryz.results61 rfl rfl HL6.out ⟨by rfl, HB1.out.grown HG6.out (by simp; omega) (fun j e => by simp only [Option.some.injEq] at e; omega)⟩
set_option maxHeartbeats 4000000 in
set_option maxRecDepth 100000 in
theorem First_calls {C : Nat → Prop} {v0 : Value} {L : List Stp} {w : World} (h : SlX C w v0 L) (hC : ∀ b, C b → b < w.heap.size) (hwd : ∀ s ∈ L, s.wide) :
    Calls Tryz.prog 19 #[v0] w fun e w' => e = .returned (.agg #[.int .u64 (word ((letF L).first) 0), .int .u64 (word ((letF L).first) 1), .int .u64 (word ((letF L).first) 2), .int .u64 (word ((letF L).first) 3)]) ∧ Below w.heap.size w w' := by
  have hba := (Below.refl w.heap.size w).alloc (Nat.le_refl _) (.cells #[.int .u64 0, .int .u64 0, .int .u64 0, .int .u64 0] 33)
  have hsl := h.below (C' := fun b => b < (w.alloc (.cells #[.int .u64 0, .int .u64 0, .int .u64 0, .int .u64 0] 33)).heap.size) (w' := w.alloc (.cells #[.int .u64 0, .int .u64 0, .int .u64 0, .int .u64 0] 33)) fun b hb => ⟨Nat.lt_of_lt_of_le (hC b hb) hba.size, hba.block b (hC b hb)⟩
  have HE := hidden (lettersOf_calls hsl (fun b hb => hb) hwd)
  have HB := hidden hba
  have HT := hidden (heap_alloc_new w (.cells #[.int .u64 0, .int .u64 0, .int .u64 0, .int .u64 0] 33))
  obtain ⟨av, cv, rfl, _⟩ := h
  generalize hx : letF L = x at *
  have HX := hidden hx
  clear hx hsl hba
  go_enter Tryz.func19, Tryz.ntmps19
  go_wp2_with fail
  refine HE.out.mono ?_
  rintro e w1 ⟨rfl, hb⟩
  have hlw : w.heap.size < w1.heap.size := by have := hb.size; simp at this; omega
  have HT1 := hidden ((hb.block w.heap.size (by simp)).trans HT.out)
  have HB1 := hidden (below_then HB.out HB.out.size hb)
  clear hb
  unfold letV
  dsimp only
  go_wp2_with (first | (refine field_agg rfl (ty := 66) (x := .tmp 4) (fi := 2) (cs := #[.bool x.some, .bool x.null, .int .u64 (word (x.first) 0), .int .u64 (word (x.first) 1), .int .u64 (word (x.first) 2), .int .u64 (word (x.first) 3), .int .u64 (word (x.used) 0), .int .u64 (word (x.used) 1), .int .u64 (word (x.used) 2), .int .u64 (word (x.used) 3)]) (cs' := #[.int .u64 (word (x.first) 0), .int .u64 (word (x.first) 1), .int .u64 (word (x.first) 2), .int .u64 (word (x.first) 3)]) (d := .array 4 31) (f := { name := "first", type := 33, offset := 2, embedded := false, tag := "", pkgPath := "facsimile/rxfact", byteOffset := 8 }) rfl 4 rfl Tryz.underlying66 rfl rfl Tryz.underlying33 (by kernel_rfl) rfl ?_) | refine store_row (B := w.heap.size) (cs := #[.int .u64 (word (x.first) 0), .int .u64 (word (x.first) 1), .int .u64 (word (x.first) 2), .int .u64 (word (x.first) 3)]) (old := #[.int .u64 0, .int .u64 0, .int .u64 0, .int .u64 0]) (t := 33) rfl (ty := 33) (x := .tmp 2) (y := .tmp 5) rfl rfl rfl HT1.out 4 (by kernel_rfl) rfl rfl (by kernel_rfl) ?_; intro w6 hw6 hg6; have HL6 := hidden hw6; have HG6 := hidden hg6; clear hw6 hg6)
  exact ret_row Tryz.results19 rfl rfl HL6.out rfl Tryz.underlying33 (by kernel_rfl) ⟨by rfl, HB1.out.grown HG6.out (by omega) (fun j e => by simp only [Option.some.injEq] at e; omega)⟩
set_option maxHeartbeats 4000000 in
set_option maxRecDepth 100000 in
theorem Used_calls {C : Nat → Prop} {v0 : Value} {L : List Stp} {w : World} (h : SlX C w v0 L) (hC : ∀ b, C b → b < w.heap.size) (hwd : ∀ s ∈ L, s.wide) :
    Calls Tryz.prog 21 #[v0] w fun e w' => e = .returned (.agg #[.int .u64 (word ((letF L).used) 0), .int .u64 (word ((letF L).used) 1), .int .u64 (word ((letF L).used) 2), .int .u64 (word ((letF L).used) 3)]) ∧ Below w.heap.size w w' := by
  have hba := (Below.refl w.heap.size w).alloc (Nat.le_refl _) (.cells #[.int .u64 0, .int .u64 0, .int .u64 0, .int .u64 0] 33)
  have hsl := h.below (C' := fun b => b < (w.alloc (.cells #[.int .u64 0, .int .u64 0, .int .u64 0, .int .u64 0] 33)).heap.size) (w' := w.alloc (.cells #[.int .u64 0, .int .u64 0, .int .u64 0, .int .u64 0] 33)) fun b hb => ⟨Nat.lt_of_lt_of_le (hC b hb) hba.size, hba.block b (hC b hb)⟩
  have HE := hidden (lettersOf_calls hsl (fun b hb => hb) hwd)
  have HB := hidden hba
  have HT := hidden (heap_alloc_new w (.cells #[.int .u64 0, .int .u64 0, .int .u64 0, .int .u64 0] 33))
  obtain ⟨av, cv, rfl, _⟩ := h
  generalize hx : letF L = x at *
  have HX := hidden hx
  clear hx hsl hba
  go_enter Tryz.func21, Tryz.ntmps21
  go_wp2_with fail
  refine HE.out.mono ?_
  rintro e w1 ⟨rfl, hb⟩
  have hlw : w.heap.size < w1.heap.size := by have := hb.size; simp at this; omega
  have HT1 := hidden ((hb.block w.heap.size (by simp)).trans HT.out)
  have HB1 := hidden (below_then HB.out HB.out.size hb)
  clear hb
  unfold letV
  dsimp only
  go_wp2_with (first | (refine field_agg rfl (ty := 66) (x := .tmp 4) (fi := 3) (cs := #[.bool x.some, .bool x.null, .int .u64 (word (x.first) 0), .int .u64 (word (x.first) 1), .int .u64 (word (x.first) 2), .int .u64 (word (x.first) 3), .int .u64 (word (x.used) 0), .int .u64 (word (x.used) 1), .int .u64 (word (x.used) 2), .int .u64 (word (x.used) 3)]) (cs' := #[.int .u64 (word (x.used) 0), .int .u64 (word (x.used) 1), .int .u64 (word (x.used) 2), .int .u64 (word (x.used) 3)]) (d := .array 4 31) (f := { name := "used", type := 33, offset := 6, embedded := false, tag := "", pkgPath := "facsimile/rxfact", byteOffset := 40 }) rfl 4 rfl Tryz.underlying66 rfl rfl Tryz.underlying33 (by kernel_rfl) rfl ?_) | refine store_row (B := w.heap.size) (cs := #[.int .u64 (word (x.used) 0), .int .u64 (word (x.used) 1), .int .u64 (word (x.used) 2), .int .u64 (word (x.used) 3)]) (old := #[.int .u64 0, .int .u64 0, .int .u64 0, .int .u64 0]) (t := 33) rfl (ty := 33) (x := .tmp 2) (y := .tmp 5) rfl rfl rfl HT1.out 4 (by kernel_rfl) rfl rfl (by kernel_rfl) ?_; intro w6 hw6 hg6; have HL6 := hidden hw6; have HG6 := hidden hg6; clear hw6 hg6)
  exact ret_row Tryz.results21 rfl rfl HL6.out rfl Tryz.underlying33 (by kernel_rfl) ⟨by rfl, HB1.out.grown HG6.out (by omega) (fun j e => by simp only [Option.some.injEq] at e; omega)⟩
end Go.Proofs.YthkboclooplpeaaGreatDoor

/- Where the words of a part begin and end, in memory: reach.or, reach.orEmpty, the reach of the empty word. -/
namespace Go.Proofs.YthkboclooplpeaaGreatDoor
open Go.RowKit Go.Lib Go.Joins
def rchV (l : Rch) : Value := .agg #[.bool l.null, .int .u64 (word (l.first) 0), .int .u64 (word (l.first) 1), .int .u64 (word (l.first) 2), .int .u64 (word (l.first) 3), .int .u64 (word (l.last) 0), .int .u64 (word (l.last) 1), .int .u64 (word (l.last) 2), .int .u64 (word (l.last) 3)]
/-- block B has these -/
def RchAt (w : World) (B : Nat) (l : Rch) : Prop := w.heap[B]? = some (.cells #[.bool l.null, .int .u64 (word (l.first) 0), .int .u64 (word (l.first) 1), .int .u64 (word (l.first) 2), .int .u64 (word (l.first) 3), .int .u64 (word (l.last) 0), .int .u64 (word (l.last) 1), .int .u64 (word (l.last) 2), .int .u64 (word (l.last) 3)] 83 (0, 0))
theorem RchAt.lt {w : World} {B : Nat} {l : Rch} (h : RchAt w B l) : B < w.heap.size := (Array.getElem?_eq_some_iff.1 h).1
theorem RchAt.below {w w' : World} {B : Nat} {l : Rch} (h : RchAt w B l) (hb : Below w.heap.size w w') : RchAt w' B l := (hb.block B h.lt).trans h
def RchCells (w : World) (B : Nat) (l : Rch) : Prop :=
  w.cell? ⟨B, 0, none⟩ = some (.bool l.null) ∧ w.cell? ⟨B, 1, none⟩ = some (.int .u64 (word l.first 0)) ∧ w.cell? ⟨B, 2, none⟩ = some (.int .u64 (word l.first 1)) ∧ w.cell? ⟨B, 3, none⟩ = some (.int .u64 (word l.first 2)) ∧ w.cell? ⟨B, 4, none⟩ = some (.int .u64 (word l.first 3)) ∧ w.cell? ⟨B, 5, none⟩ = some (.int .u64 (word l.last 0)) ∧ w.cell? ⟨B, 6, none⟩ = some (.int .u64 (word l.last 1)) ∧ w.cell? ⟨B, 7, none⟩ = some (.int .u64 (word l.last 2)) ∧ w.cell? ⟨B, 8, none⟩ = some (.int .u64 (word l.last 3))
theorem RchAt.cells {w : World} {B : Nat} {l : Rch} (h : RchAt w B l) : RchCells w B l := by
  have h' : w.heap[B]? = some (.cells #[.bool l.null, .int .u64 (word (l.first) 0), .int .u64 (word (l.first) 1), .int .u64 (word (l.first) 2), .int .u64 (word (l.first) 3), .int .u64 (word (l.last) 0), .int .u64 (word (l.last) 1), .int .u64 (word (l.last) 2), .int .u64 (word (l.last) 3)] 83 (0, 0)) := h
  exact ⟨cell_of_row w B 0 _ _ _ h', cell_of_row w B 1 _ _ _ h', cell_of_row w B 2 _ _ _ h', cell_of_row w B 3 _ _ _ h', cell_of_row w B 4 _ _ _ h', cell_of_row w B 5 _ _ _ h', cell_of_row w B 6 _ _ _ h', cell_of_row w B 7 _ _ _ h', cell_of_row w B 8 _ _ _ h'⟩
theorem RchAt.frozen {w : World} {B : Nat} {l : Rch} (h : RchAt w B l) (j : Nat) : w.frozen? ⟨B, j, none⟩ = false := frozen_of_row w B j _ _ h
theorem ret_rch {fn : Func} {R : Ending → World → Prop} {a : Act} {w : World} {B p : Nat} {l : Rch} (h : fn.results = #[.cell p 83]) (hp : a.tmps.getD p undef = .pointer (some ⟨B, 0, none⟩))
    (hd : a.defers = []) (hS : RchAt w B l) (hR : R (.returned (rchV l)) w) : bodyPost Tryz.prog fn R .ret a w :=
  bodyPost_ret (results_cell_row h _ w B 83 _ (0, 0) _ hp hS Tryz.underlying83 rfl (by kernel_rfl)) hd hR
attribute [local go_sem] evalR_tmp evalR_const evalR_global evalR_func
set_option maxHeartbeats 2000000 in
set_option maxRecDepth 100000 in
theorem rchEmpty_calls (a : Rch) (w : World) : Calls Tryz.prog 105 #[rchV a] w fun e w' => e = .returned (rchV ⟨true, a.first, a.last⟩) ∧ Below w.heap.size w w' := by
  unfold rchV
  go_enter Tryz.func105, Tryz.ntmps105
  go_wp2
  exact ret_rch (l := ⟨true, a.first, a.last⟩) Tryz.results105 rfl rfl (heap_alloc2_new w _ _) ⟨rfl, ((Below.refl w.heap.size w).alloc (Nat.le_refl _) _).alloc (by simp) _⟩
set_option maxHeartbeats 2000000 in
set_option maxRecDepth 100000 in
theorem rchEmp_calls (w : World) : Calls Tryz.prog 100 #[] w fun e w' => e = .returned (rchV ⟨true, fNone, fNone⟩) ∧ Below w.heap.size w w' := by
  have hl : RchAt (w.alloc (.cells #[.bool true, .int .u64 0, .int .u64 0, .int .u64 0, .int .u64 0, .int .u64 0, .int .u64 0, .int .u64 0, .int .u64 0] 83)) w.heap.size ⟨true, fNone, fNone⟩ := by
    unfold RchAt
    simp only [word_zero]
    exact heap_alloc_new w _
  have HL := hidden hl
  clear hl
  generalize hv : rchV ⟨true, fNone, fNone⟩ = v
  have HV := hidden hv
  clear hv
  go_enter Tryz.func100, Tryz.ntmps100
  go_wp2
  exact ret_rch (l := ⟨true, fNone, fNone⟩) Tryz.results100 rfl rfl HL.out ⟨by rw [HV.out], (Below.refl w.heap.size w).alloc (Nat.le_refl _) _⟩
/-- what stays while reach.or goes on -/
structure Wro (w : World) (a b : Rch) (wr : World) : Prop where
  one : RchAt wr w.heap.size a
  two : RchAt wr (w.heap.size + 1) b
  out : wr.heap[w.heap.size + 2]? = some (.cells #[.bool false, .int .u64 0, .int .u64 0, .int .u64 0, .int .u64 0, .int .u64 0, .int .u64 0, .int .u64 0, .int .u64 0] 83 (0, 0))
  frame : Below w.heap.size w wr
theorem Wro.below {w wr w' : World} {a b : Rch} (h : Wro w a b wr) (hb : Below wr.heap.size wr w') : Wro w a b w' := ⟨h.one.below hb, h.two.below hb, (hb.block _ (Array.getElem?_eq_some_iff.1 h.out).1).trans h.out, below_then h.frame h.frame.size hb⟩
theorem Wro.cells {w wr : World} {a b : Rch} (h : Wro w a b wr) : RchCells wr w.heap.size a ∧ RchCells wr (w.heap.size + 1) b := ⟨h.one.cells, h.two.cells⟩
theorem Wro.start (w : World) (a b : Rch) : Wro w a b ((((w.alloc (.cells #[.bool a.null, .int .u64 (word (a.first) 0), .int .u64 (word (a.first) 1), .int .u64 (word (a.first) 2), .int .u64 (word (a.first) 3), .int .u64 (word (a.last) 0), .int .u64 (word (a.last) 1), .int .u64 (word (a.last) 2), .int .u64 (word (a.last) 3)] 83)).alloc (.cells #[.bool b.null, .int .u64 (word (b.first) 0), .int .u64 (word (b.first) 1), .int .u64 (word (b.first) 2), .int .u64 (word (b.first) 3), .int .u64 (word (b.last) 0), .int .u64 (word (b.last) 1), .int .u64 (word (b.last) 2), .int .u64 (word (b.last) 3)] 83)).alloc (.cells #[.bool false, .int .u64 0, .int .u64 0, .int .u64 0, .int .u64 0, .int .u64 0, .int .u64 0, .int .u64 0, .int .u64 0] 83)).drew) := by
  have h1 : RchAt (w.alloc (.cells #[.bool a.null, .int .u64 (word (a.first) 0), .int .u64 (word (a.first) 1), .int .u64 (word (a.first) 2), .int .u64 (word (a.first) 3), .int .u64 (word (a.last) 0), .int .u64 (word (a.last) 1), .int .u64 (word (a.last) 2), .int .u64 (word (a.last) 3)] 83)) w.heap.size a := heap_alloc_new w _
  have b1 := (Below.refl w.heap.size w).alloc (Nat.le_refl _) (.cells #[.bool a.null, .int .u64 (word (a.first) 0), .int .u64 (word (a.first) 1), .int .u64 (word (a.first) 2), .int .u64 (word (a.first) 3), .int .u64 (word (a.last) 0), .int .u64 (word (a.last) 1), .int .u64 (word (a.last) 2), .int .u64 (word (a.last) 3)] 83)
  have h2 : RchAt ((w.alloc (.cells #[.bool a.null, .int .u64 (word (a.first) 0), .int .u64 (word (a.first) 1), .int .u64 (word (a.first) 2), .int .u64 (word (a.first) 3), .int .u64 (word (a.last) 0), .int .u64 (word (a.last) 1), .int .u64 (word (a.last) 2), .int .u64 (word (a.last) 3)] 83)).alloc (.cells #[.bool b.null, .int .u64 (word (b.first) 0), .int .u64 (word (b.first) 1), .int .u64 (word (b.first) 2), .int .u64 (word (b.first) 3), .int .u64 (word (b.last) 0), .int .u64 (word (b.last) 1), .int .u64 (word (b.last) 2), .int .u64 (word (b.last) 3)] 83)) (w.heap.size + 1) b := heap_alloc2_new w _ _
  have h3 := heap_alloc_new ((w.alloc (.cells #[.bool a.null, .int .u64 (word (a.first) 0), .int .u64 (word (a.first) 1), .int .u64 (word (a.first) 2), .int .u64 (word (a.first) 3), .int .u64 (word (a.last) 0), .int .u64 (word (a.last) 1), .int .u64 (word (a.last) 2), .int .u64 (word (a.last) 3)] 83)).alloc (.cells #[.bool b.null, .int .u64 (word (b.first) 0), .int .u64 (word (b.first) 1), .int .u64 (word (b.first) 2), .int .u64 (word (b.first) 3), .int .u64 (word (b.last) 0), .int .u64 (word (b.last) 1), .int .u64 (word (b.last) 2), .int .u64 (word (b.last) 3)] 83)) (.cells #[.bool false, .int .u64 0, .int .u64 0, .int .u64 0, .int .u64 0, .int .u64 0, .int .u64 0, .int .u64 0, .int .u64 0] 83)
  have hs : ((w.alloc (.cells #[.bool a.null, .int .u64 (word (a.first) 0), .int .u64 (word (a.first) 1), .int .u64 (word (a.first) 2), .int .u64 (word (a.first) 3), .int .u64 (word (a.last) 0), .int .u64 (word (a.last) 1), .int .u64 (word (a.last) 2), .int .u64 (word (a.last) 3)] 83)).alloc (.cells #[.bool b.null, .int .u64 (word (b.first) 0), .int .u64 (word (b.first) 1), .int .u64 (word (b.first) 2), .int .u64 (word (b.first) 3), .int .u64 (word (b.last) 0), .int .u64 (word (b.last) 1), .int .u64 (word (b.last) 2), .int .u64 (word (b.last) 3)] 83)).heap.size = w.heap.size + 2 := by simp
  rw [hs] at h3
  exact ⟨((h1.below ((Below.refl _ _).alloc (Nat.le_refl _) _)).below ((Below.refl _ _).alloc (Nat.le_refl _) _)).below (Below.refl _ _).drew, (h2.below ((Below.refl _ _).alloc (Nat.le_refl _) _)).below (Below.refl _ _).drew, h3, ((b1.alloc (by simp) _).alloc (by simp; omega) _).drew⟩
def Lro (w : World) (a b : Rch) : List (Value → World → Prop) := [
  Is (.pointer (some ⟨w.heap.size, 0, none⟩)), Is (.bool a.null), Is (.bool a.null), fun v _ => a.null = false → v = .pointer (some ⟨w.heap.size + 1, 0, none⟩), fun v _ => a.null = false → v = .bool b.null, Is (.bool (a.null || b.null)), Is (.pointer (some ⟨w.heap.size, 1, none⟩)), Is (.agg #[.int .u64 (word (a.first) 0), .int .u64 (word (a.first) 1), .int .u64 (word (a.first) 2), .int .u64 (word (a.first) 3)]), Is (.pointer (some ⟨w.heap.size + 1, 1, none⟩)), Is (.agg #[.int .u64 (word (b.first) 0), .int .u64 (word (b.first) 1), .int .u64 (word (b.first) 2), .int .u64 (word (b.first) 3)]), fun v w => ∃ ad, v = .slice ad 2 2 ∧ Sets w ad 2 [a.first, b.first], Is (.agg #[.int .u64 (word (fAny [a.first, b.first]) 0), .int .u64 (word (fAny [a.first, b.first]) 1), .int .u64 (word (fAny [a.first, b.first]) 2), .int .u64 (word (fAny [a.first, b.first]) 3)]), Is (.pointer (some ⟨w.heap.size, 5, none⟩)), Is (.agg #[.int .u64 (word (a.last) 0), .int .u64 (word (a.last) 1), .int .u64 (word (a.last) 2), .int .u64 (word (a.last) 3)]), Is (.pointer (some ⟨w.heap.size + 1, 5, none⟩)), Is (.agg #[.int .u64 (word (b.last) 0), .int .u64 (word (b.last) 1), .int .u64 (word (b.last) 2), .int .u64 (word (b.last) 3)]), fun v w => ∃ ad, v = .slice ad 2 2 ∧ Sets w ad 2 [a.last, b.last], Is (.agg #[.int .u64 (word (fAny [a.last, b.last]) 0), .int .u64 (word (fAny [a.last, b.last]) 1), .int .u64 (word (fAny [a.last, b.last]) 2), .int .u64 (word (fAny [a.last, b.last]) 3)]), Is (.agg #[.bool (a.null || b.null), .int .u64 (word (fAny [a.first, b.first]) 0), .int .u64 (word (fAny [a.first, b.first]) 1), .int .u64 (word (fAny [a.first, b.first]) 2), .int .u64 (word (fAny [a.first, b.first]) 3), .int .u64 (word (fAny [a.last, b.last]) 0), .int .u64 (word (fAny [a.last, b.last]) 1), .int .u64 (word (fAny [a.last, b.last]) 2), .int .u64 (word (fAny [a.last, b.last]) 3)])]
set_option maxHeartbeats 8000000 in
set_option maxRecDepth 100000 in
theorem rchOr_calls (a b : Rch) (w : World) : Calls Tryz.prog 102 #[rchV a, rchV b] w fun e w' => e = .returned (rchV ⟨a.null || b.null, fAny [a.first, b.first], fAny [a.last, b.last]⟩) ∧ Below w.heap.size w w' := by
  unfold rchV
  go_enter Tryz.func102, Tryz.ntmps102
  go_wp2
  refine wp_region_stepsL 19 (typ (Lro w a b)) (Wro w a b) (by kernel_rfl) (by kernel_rfl) (by kernel_rfl) (by kernel_rfl) (by kernel_rfl) (by kernel_rfl) ?mono ?start ?step ?last
  case mono =>
    refine typ_mono ?_
    simp only [Lro, List.forall_mem_cons]
    repeat' (first | exact is_mono _ | (intro p hp; cases hp; done) | exact (fun v w w' h _ => h) | refine And.intro ?_ ?_)
    all_goals
      rintro v w w' ⟨ad, rfl, h⟩ hb
      exact ⟨ad, rfl, sets_mono h hb⟩
  case start => exact Wro.start w a b
  case last =>
    intro a1 w1 hs hv hW
    have h4 : a1.tmps.getD 4 undef = .pointer (some ⟨w.heap.size + 2, 0, none⟩) := hs.slot 4 (by kernel_rfl)
    have h23 : a1.tmps.getD 23 undef = (.agg #[.bool (a.null || b.null), .int .u64 (word (fAny [a.first, b.first]) 0), .int .u64 (word (fAny [a.first, b.first]) 1), .int .u64 (word (fAny [a.first, b.first]) 2), .int .u64 (word (fAny [a.first, b.first]) 3), .int .u64 (word (fAny [a.last, b.last]) 0), .int .u64 (word (fAny [a.last, b.last]) 1), .int .u64 (word (fAny [a.last, b.last]) 2), .int .u64 (word (fAny [a.last, b.last]) 3)]) := hv 18 23 (by decide) (by kernel_rfl)
    have hd := hs.defers
    have HW := hidden hW
    clear hs hv hW
    refine wpOp_of_list rfl rfl ?_
    refine store_row (B := w.heap.size + 2) (cs := #[.bool (a.null || b.null), .int .u64 (word (fAny [a.first, b.first]) 0), .int .u64 (word (fAny [a.first, b.first]) 1), .int .u64 (word (fAny [a.first, b.first]) 2), .int .u64 (word (fAny [a.first, b.first]) 3), .int .u64 (word (fAny [a.last, b.last]) 0), .int .u64 (word (fAny [a.last, b.last]) 1), .int .u64 (word (fAny [a.last, b.last]) 2), .int .u64 (word (fAny [a.last, b.last]) 3)]) (old := #[.bool false, .int .u64 0, .int .u64 0, .int .u64 0, .int .u64 0, .int .u64 0, .int .u64 0, .int .u64 0, .int .u64 0]) (t := 83) rfl (ty := 83) (x := .tmp 4) (y := .tmp 23) rfl h4 h23 HW.out.out 9 (by kernel_rfl) rfl rfl (by kernel_rfl) ?_
    intro w6 hw6 hg6
    have HL6 := hidden hw6
    have HF := hidden (HW.out.frame.grown hg6 (by have := HW.out.frame.size; omega) (fun j e => by simp only [Option.some.injEq] at e; omega))
    clear hw6 hg6
    go_wp2
    exact ret_rch (l := ⟨a.null || b.null, fAny [a.first, b.first], fAny [a.last, b.last]⟩) Tryz.results102 h4 hd HL6.out ⟨rfl, HF.out⟩
  case step =>
    refine ⟨?_, ?_, ?_, ?_, ?_, ?_, ?_, ?_, ?_, ?_, ?_, ?_, ?_, ?_, ?_, ?_, ?_, ?_, ?_, trivial⟩
    · change StepOk _ _ _ _ _ _ _
      intro ρ w1 hF hW
      have HW := hidden hW
      clear hW
      have e2 : ρ 2 = .pointer (some ⟨w.heap.size, 0, none⟩) := hF 2 (by decide)
      clear hF
      unfold Does
      go_simp
      exact ⟨rfl, HW.out, Below.refl _ _⟩
    · change StepOk _ _ _ _ _ _ _
      intro ρ w1 hF hW
      have HW := hidden hW
      clear hW
      have e5 : ρ 5 = .pointer (some ⟨w.heap.size, 0, none⟩) := hF 5 (by decide)
      clear hF
      obtain ⟨⟨c0, c1, c2, c3, c4, c5, c6, c7, c8⟩, d0, d1, d2, d3, d4, d5, d6, d7, d8⟩ := HW.out.cells
      unfold Does
      go_simp
      exact ⟨rfl, HW.out, Below.refl _ _⟩
    · change StepOk _ _ _ _ _ _ _
      intro ρ w1 hF hW
      have HW := hidden hW
      clear hW
      have e6 : ρ 6 = .bool a.null := hF 6 (by decide)
      clear hF
      unfold Does
      go_simp
      exact ⟨rfl, HW.out, Below.refl _ _⟩
    · refine ⟨a.null, fun v w h => h, fun hgx => ?_, fun hgx w => ?_⟩
      rotate_left
      · intro hg2
        exact absurd hg2 hgx
      change StepOk _ _ _ _ _ _ _
      intro ρ w1 hF hW
      have HW := hidden hW
      clear hW
      have e3 : ρ 3 = .pointer (some ⟨w.heap.size + 1, 0, none⟩) := hF 3 (by decide)
      clear hF
      unfold Does
      go_simp
      exact ⟨fun _ => rfl, HW.out, Below.refl _ _⟩
    · refine ⟨a.null, fun v w h => h, fun hgx => ?_, fun hgx w => ?_⟩
      rotate_left
      · intro hg2
        exact absurd hg2 hgx
      change StepOk _ _ _ _ _ _ _
      intro ρ w1 hF hW
      have HW := hidden hW
      clear hW
      have hG8 := hF 8 (by decide)
      clear hF
      obtain ⟨⟨c0, c1, c2, c3, c4, c5, c6, c7, c8⟩, d0, d1, d2, d3, d4, d5, d6, d7, d8⟩ := HW.out.cells
      have e8 : ρ 8 = _ := hG8 hgx
      clear hG8
      unfold Does
      go_simp
      exact ⟨fun _ => rfl, HW.out, Below.refl _ _⟩
    · change StepOk _ _ _ _ _ _ _
      intro ρ w1 hF hW
      have HW := hidden hW
      clear hW
      have e7 : ρ 7 = .bool a.null := hF 7 (by decide)
      have hG9 := hF 9 (by decide)
      clear hF
      rcases Bool.eq_false_or_eq_true (a.null) with hx | hx
      · have ex : ρ 7 = .bool true := by rw [e7, hx]
        clear e7
        skip
        clear hG9
        unfold Does
        go_simp
        exact ⟨show Value.bool _ = Value.bool (a.null || b.null) from by rw [hx]; rfl, HW.out, Below.refl _ _⟩
      · have ex : ρ 7 = .bool false := by rw [e7, hx]
        clear e7
        have ey := hG9 hx
        clear hG9
        have ey : ρ 9 = .bool (b.null) := ey
        unfold Does
        go_simp
        exact ⟨show Value.bool _ = Value.bool (a.null || b.null) from by rw [hx]; rfl, HW.out, Below.refl _ _⟩
    · change StepOk _ _ _ _ _ _ _
      intro ρ w1 hF hW
      have HW := hidden hW
      clear hW
      have e2 : ρ 2 = .pointer (some ⟨w.heap.size, 0, none⟩) := hF 2 (by decide)
      clear hF
      unfold Does
      go_simp
      exact ⟨rfl, HW.out, Below.refl _ _⟩
    · change StepOk _ _ _ _ _ _ _
      intro ρ w1 hF hW
      have HW := hidden hW
      clear hW
      have e11 : ρ 11 = .pointer (some ⟨w.heap.size, 1, none⟩) := hF 11 (by decide)
      clear hF
      obtain ⟨⟨c0, c1, c2, c3, c4, c5, c6, c7, c8⟩, d0, d1, d2, d3, d4, d5, d6, d7, d8⟩ := HW.out.cells
      unfold Does
      go_simp
      exact ⟨rfl, HW.out, Below.refl _ _⟩
    · change StepOk _ _ _ _ _ _ _
      intro ρ w1 hF hW
      have HW := hidden hW
      clear hW
      have e3 : ρ 3 = .pointer (some ⟨w.heap.size + 1, 0, none⟩) := hF 3 (by decide)
      clear hF
      unfold Does
      go_simp
      exact ⟨rfl, HW.out, Below.refl _ _⟩
    · change StepOk _ _ _ _ _ _ _
      intro ρ w1 hF hW
      have HW := hidden hW
      clear hW
      have e13 : ρ 13 = .pointer (some ⟨w.heap.size + 1, 1, none⟩) := hF 13 (by decide)
      clear hF
      obtain ⟨⟨c0, c1, c2, c3, c4, c5, c6, c7, c8⟩, d0, d1, d2, d3, d4, d5, d6, d7, d8⟩ := HW.out.cells
      unfold Does
      go_simp
      exact ⟨rfl, HW.out, Below.refl _ _⟩
    · change StepOk _ _ _ _ _ _ _
      intro ρ w1 hF hW
      have HW := hidden hW
      clear hW
      have e12 : ρ 12 = (.agg #[.int .u64 (word (a.first) 0), .int .u64 (word (a.first) 1), .int .u64 (word (a.first) 2), .int .u64 (word (a.first) 3)]) := hF 12 (by decide)
      have e14 : ρ 14 = (.agg #[.int .u64 (word (b.first) 0), .int .u64 (word (b.first) 1), .int .u64 (word (b.first) 2), .int .u64 (word (b.first) 3)]) := hF 14 (by decide)
      clear hF
      unfold Does
      go_simp
      exact ⟨⟨_, rfl, sets_two w1 _ _ _⟩, Wro.below HW.out ((Below.refl _ _).alloc (Nat.le_refl _) _), (Below.refl _ _).alloc (Nat.le_refl _) _⟩
    · change StepOk _ _ _ _ _ _ _
      intro ρ w1 hF hW
      have HW := hidden hW
      clear hW
      obtain ⟨ad, e15, hs⟩ : ∃ ad, ρ 15 = .slice ad 2 2 ∧ Sets w1 ad 2 [a.first, b.first] := hF 15 (by decide)
      clear hF
      unfold Does
      go_simp
      refine (all_calls _ 2 2 [a.first, b.first] _ (by omega) hs).mono ?_
      rintro e w2 ⟨rfl, hb⟩
      exact ⟨_, rfl, rfl, Wro.below HW.out hb, hb⟩
    · change StepOk _ _ _ _ _ _ _
      intro ρ w1 hF hW
      have HW := hidden hW
      clear hW
      have e2 : ρ 2 = .pointer (some ⟨w.heap.size, 0, none⟩) := hF 2 (by decide)
      clear hF
      unfold Does
      go_simp
      exact ⟨rfl, HW.out, Below.refl _ _⟩
    · change StepOk _ _ _ _ _ _ _
      intro ρ w1 hF hW
      have HW := hidden hW
      clear hW
      have e17 : ρ 17 = .pointer (some ⟨w.heap.size, 5, none⟩) := hF 17 (by decide)
      clear hF
      obtain ⟨⟨c0, c1, c2, c3, c4, c5, c6, c7, c8⟩, d0, d1, d2, d3, d4, d5, d6, d7, d8⟩ := HW.out.cells
      unfold Does
      go_simp
      exact ⟨rfl, HW.out, Below.refl _ _⟩
    · change StepOk _ _ _ _ _ _ _
      intro ρ w1 hF hW
      have HW := hidden hW
      clear hW
      have e3 : ρ 3 = .pointer (some ⟨w.heap.size + 1, 0, none⟩) := hF 3 (by decide)
      clear hF
      unfold Does
      go_simp
      exact ⟨rfl, HW.out, Below.refl _ _⟩
    · change StepOk _ _ _ _ _ _ _
      intro ρ w1 hF hW
      have HW := hidden hW
      clear hW
      have e19 : ρ 19 = .pointer (some ⟨w.heap.size + 1, 5, none⟩) := hF 19 (by decide)
      clear hF
      obtain ⟨⟨c0, c1, c2, c3, c4, c5, c6, c7, c8⟩, d0, d1, d2, d3, d4, d5, d6, d7, d8⟩ := HW.out.cells
      unfold Does
      go_simp
      exact ⟨rfl, HW.out, Below.refl _ _⟩
    · change StepOk _ _ _ _ _ _ _
      intro ρ w1 hF hW
      have HW := hidden hW
      clear hW
      have e18 : ρ 18 = (.agg #[.int .u64 (word (a.last) 0), .int .u64 (word (a.last) 1), .int .u64 (word (a.last) 2), .int .u64 (word (a.last) 3)]) := hF 18 (by decide)
      have e20 : ρ 20 = (.agg #[.int .u64 (word (b.last) 0), .int .u64 (word (b.last) 1), .int .u64 (word (b.last) 2), .int .u64 (word (b.last) 3)]) := hF 20 (by decide)
      clear hF
      unfold Does
      go_simp
      exact ⟨⟨_, rfl, sets_two w1 _ _ _⟩, Wro.below HW.out ((Below.refl _ _).alloc (Nat.le_refl _) _), (Below.refl _ _).alloc (Nat.le_refl _) _⟩
    · change StepOk _ _ _ _ _ _ _
      intro ρ w1 hF hW
      have HW := hidden hW
      clear hW
      obtain ⟨ad, e21, hs⟩ : ∃ ad, ρ 21 = .slice ad 2 2 ∧ Sets w1 ad 2 [a.last, b.last] := hF 21 (by decide)
      clear hF
      unfold Does
      go_simp
      refine (all_calls _ 2 2 [a.last, b.last] _ (by omega) hs).mono ?_
      rintro e w2 ⟨rfl, hb⟩
      exact ⟨_, rfl, rfl, Wro.below HW.out hb, hb⟩
    · change StepOk _ _ _ _ _ _ _
      intro ρ w1 hF hW
      have HW := hidden hW
      clear hW
      have e10 : ρ 10 = .bool (a.null || b.null) := hF 10 (by decide)
      have e16 : ρ 16 = (.agg #[.int .u64 (word (fAny [a.first, b.first]) 0), .int .u64 (word (fAny [a.first, b.first]) 1), .int .u64 (word (fAny [a.first, b.first]) 2), .int .u64 (word (fAny [a.first, b.first]) 3)]) := hF 16 (by decide)
      have e22 : ρ 22 = (.agg #[.int .u64 (word (fAny [a.last, b.last]) 0), .int .u64 (word (fAny [a.last, b.last]) 1), .int .u64 (word (fAny [a.last, b.last]) 2), .int .u64 (word (fAny [a.last, b.last]) 3)]) := hF 22 (by decide)
      clear hF
      unfold Does
      go_simp
      exact ⟨rfl, HW.out, Below.refl _ _⟩
end Go.Proofs.YthkboclooplpeaaGreatDoor
