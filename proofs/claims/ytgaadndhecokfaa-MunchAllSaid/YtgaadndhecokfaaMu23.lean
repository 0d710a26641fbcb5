/- MuRWhole, MuPCut, MuPFirst, TypedS, put together. -/
import Derived.Test.YtgaadndhecokfaaMu22
import Derived.RangeFuncBox
import Derived.Maps.AppendAt
import Derived.Test.YtgaadndhecokfaaMu16
/- Contract of the reference's Whole. -/
namespace Go.Proofs.Ytgaadndhecokfaa
open Go.RowKit Go.Lib Go.Joins
attribute [local go_sem] Rl.evalR_tmp Rl.evalR_const Rl.evalR_global Rl.evalR_func

theorem does_load_dfa16 {o : Oper} {ρ : Tmp → Value} {w : World} {Kv : Value → World → Prop} {x : Tmp} {B : Nat} {g : Nat → Nat} {wd : Int} {vn vl : Value} (ho : o.op = .load 26 (.tmp x)) (hx : ρ x = .pointer (some ⟨B, 0, none⟩)) (hA : DfaAt w B g wd vn vl) (h : Kv (dfaA g wd vn vl) w) : Rl.Does Try.prog o ρ w Kv := by
  have hl := run_load_dfa hA
  unfold Rl.Does execOp
  simp only [ho, Rl.evalR_tmp, hx, Instr.loadAt, Instr.sureAddr, Sem.run_bind, Sem.run_pure, Result.andThen_ok, hl]
  exact h
/-- block B holds a piece -/
def PcAt (w : World) (B : Nat) (p : Pc) : Prop := w.heap[B]? = some (.cells #[.int .i64 p.1, .string p.2] 33 (0, 0))
section
variable {w w' : World} {B : Nat} {p : Pc}
theorem PcAt.lt (h : PcAt w B p) : B < w.heap.size := (Array.getElem?_eq_some_iff.1 h).1
theorem PcAt.tok (h : PcAt w B p) : w.cell? ⟨B, 0, none⟩ = some (.int .i64 p.1) := cell_of_row w B 0 _ _ _ h
theorem PcAt.text (h : PcAt w B p) : w.cell? ⟨B, 1, none⟩ = some (.string p.2) := cell_of_row w B 1 _ _ _ h
theorem PcAt.frozen (h : PcAt w B p) (j : Nat) : w.frozen? ⟨B, j, none⟩ = false := frozen_of_row w B j _ _ h
theorem PcAt.below (h : PcAt w B p) (hb : Below w.heap.size w w') : PcAt w' B p := (hb.block B h.lt).trans h
theorem PcAt.alloc (h : PcAt w B p) (o : Obj) : PcAt (w.alloc o) B p := (heap_alloc_old w o h.lt).trans h
theorem PcAt.new (w : World) (p : Pc) : PcAt (w.alloc (.cells #[.int .i64 p.1, .string p.2] 33)) w.heap.size p := heap_alloc_new w _
theorem PcAt.one (h : PcAt w B p) : RdP (B + 1) w (.slice (some ⟨B, 0, none⟩) 1 1) [p] :=
  ⟨_, 1, rfl, Nat.le_refl _, by decide, fun _ => ⟨B, 0, rfl, by omega, fun i hi => by
    obtain rfl : i = 0 := by simpa using hi
    exact ⟨h.tok, h.text⟩⟩⟩
end
/-- what a slice of pieces reads as, typed -/
def RdPV (l : List Pc) (v : Value) (w : World) : Prop := RdP w.heap.size w v l
theorem RdPV.below {l : List Pc} {v : Value} {w w' : World} (h : RdPV l v w) (hb : Below w.heap.size w w') : RdPV l v w' := RdP.below h hb hb.size
theorem txt_ne {s : ByteArray} (h : s ≠ ⟨#[]⟩) : s.size ≠ 0 := fun e => h (by
  have := data_yes e
  cases s with | mk a => cases a; simp at this; simp [this])
set_option maxHeartbeats 4000000 in
set_option maxRecDepth 100000 in
theorem rwhole16_calls {w : World} {vn vl : Value} {D : DfaM} (p : Pc) (h : RdDfa w.heap.size w vn vl D) (hs : p.2.size ≤ 1000) :
    Calls Try.prog 17 #[dfaA D.cls D.width vn vl, .agg #[.int .i64 p.1, .string p.2]] w fun e w' => e = .returned (.bool (wholeV D p)) ∧ Below w.heap.size w w' := by
  have hbx := run_box_dfa D.cls D.width vn vl
  have HXR := hidden ((DfaAt.new w D.cls D.width vn vl).alloc (.cells #[.int .i64 p.1, .string p.2] 33))
  have hP0 := PcAt.new (w.alloc (.cells (dfaC D.cls D.width vn vl) 26)) p
  obtain ⟨w0, hw0⟩ : ∃ w0, w0 = (w.alloc (.cells (dfaC D.cls D.width vn vl) 26)).alloc (.cells #[.int .i64 p.1, .string p.2] 33) := ⟨_, rfl⟩
  have hB0 : Below w.heap.size w w0 := by rw [hw0]; exact ((Below.refl _ _).alloc (Nat.le_refl _) _).alloc (by simp) _
  have HX0 := HXR
  rw [← hw0] at HX0 hP0
  rw [show (w.alloc (.cells (dfaC D.cls D.width vn vl) 26)).heap.size = w.heap.size + 1 by simp] at hP0
  have HP0 := hidden hP0
  have HCUT := hidden (fun W (hb : Below w0.heap.size w0 W) => rcut16_calls p.2 (h.below (below_then hB0 hB0.size hb) (Nat.le_trans hB0.size hb.size)) hs)
  have HB0 := hidden hB0
  obtain ⟨t, s⟩ := p
  dsimp only at *
  clear h hP0 hB0
  by_cases he : s = ⟨#[]⟩
  · subst he
    have HV := hidden (show wholeV D (t, ⟨#[]⟩) = false by simp [wholeV])
    go_enter Try.func17, Try.ntmps17
    go_wp2
    rw [← hw0]
    have e1 := HP0.out.text
    have c1 := fun (q : Later w0) => Later.cell e1 HP0.out.lt q
    refine wp_region_later (by kernel_rfl) (by kernel_rfl) ?_
    repeat (go_big_quiet_step (fail))
    refine wpQuiet_nil ?_
    rintro _ ⟨⟨_, hb5⟩, rfl⟩
    rename_i w5
    go_wp2
    rw [HV.out]
    go_ret
    exact ⟨rfl, below_then HB0.out HB0.out.size hb5⟩
  · have HV := hidden (show wholeV D (t, s) = sameP (cutS D s) [(t, s)] by simp [wholeV, he])
    have hz := txt_ne he
    have e1 : s.toList.isEmpty = false := by
      rw [ByteArray.toList_eq, Bool.eq_false_iff]
      intro e
      rw [List.isEmpty_iff, ← List.length_eq_zero_iff] at e
      exact hz e
    have e2 : ¬ s.toList = [] := fun e => by rw [e] at e1; cases e1
    obtain ⟨L, hL⟩ : ∃ L, L = cutS D s := ⟨_, rfl⟩
    rw [← hL] at HCUT HV
    clear hL he hz
    go_enter Try.func17, Try.ntmps17
    go_wp2
    rw [← hw0]
    have hz0 : w0.heap.size = w.heap.size + 2 := by rw [hw0]; simp
    clear hw0
    obtain ⟨B, hB⟩ : ∃ B, B = w.heap.size := ⟨_, rfl⟩
    rw [← hB] at HX0 HP0 ⊢
    have HBE := hidden hB
    clear hB hz0
    refine Rl.wp_region_steps (R := fun w1 w2 => Below w1.heap.size w1 w2) (Rl.typ [Rl.Is (.pointer (some ⟨B + 1, 1, none⟩)), Rl.Is (.string s), Rl.Is (.bool true), Rl.Is (.bool true), Rl.Is (dfaA D.cls D.width vn vl), Rl.Is (.pointer (some ⟨B + 1, 1, none⟩)), Rl.Is (.string s), RdPV L, Rl.Is (.agg #[.int .i64 t, .string s]), RdPV [(t, s)], Rl.Is (.bool (sameP L [(t, s)])), Rl.Is (.bool (sameP L [(t, s)])), Rl.Is (.bool (sameP L [(t, s)]))]) (fun w1 => Below w0.heap.size w0 w1) (by kernel_rfl) (by kernel_rfl) (by kernel_rfl) (by kernel_rfl) ?mono (Below.refl _ _).drew [3] (by kernel_rfl) ?guards ?step ?fin
    case mono =>
      refine Rl.typ_mono ?_
      simp only [List.forall_mem_cons]
      repeat' (first | exact (fun v w w' h _ => h) | exact (fun v w w' h hb => RdPV.below h hb) | (intro p hp; cases hp; done) | refine And.intro ?_ ?_)
    case guards =>
      intro g hg v w h
      simp at hg
      subst hg
      exact h
    case step =>
      refine ⟨?_, ?_, ?_, ?_, ?_, ?_, ?_, ?_, ?_, ?_, ?_, ?_, ?_, trivial⟩
      · intro ρ w1 hF hW
        have e0 : ρ 3 = .pointer (some ⟨B + 1, 0, none⟩) := hF 3 (by decide)
        have HW := hidden hW
        clear hF hW
        unfold Rl.Does
        go_simp
        exact ⟨rfl, HW.out, Below.refl _ _⟩
      · intro ρ w1 hF hW
        have e0 : ρ 5 = .pointer (some ⟨B + 1, 1, none⟩) := hF 5 (by decide)
        have HW := hidden hW
        have c0 := (HP0.out.below hW).text
        clear hF hW
        unfold Rl.Does
        go_simp
        exact ⟨rfl, HW.out, Below.refl _ _⟩
      · intro ρ w1 hF hW
        have e0 : ρ 6 = .string s := hF 6 (by decide)
        have HW := hidden hW
        clear hF hW
        unfold Rl.Does
        go_simp
        exact ⟨rfl, HW.out, Below.refl _ _⟩
      · intro ρ w1 hF hW
        have e0 : ρ 7 = .bool true := hF 7 (by decide)
        have HW := hidden hW
        clear hF hW
        unfold Rl.Does
        go_simp
        exact ⟨rfl, HW.out, Below.refl _ _⟩
      · intro ρ w1 hF hW
        have e0 : ρ 2 = .pointer (some ⟨B, 0, none⟩) := hF 2 (by decide)
        have HW := hidden hW
        exact does_load_dfa16 rfl e0 (HX0.out.below HW.out) ⟨rfl, HW.out, Below.refl _ _⟩
      · intro ρ w1 hF hW
        have e0 : ρ 3 = .pointer (some ⟨B + 1, 0, none⟩) := hF 3 (by decide)
        have HW := hidden hW
        clear hF hW
        unfold Rl.Does
        go_simp
        exact ⟨rfl, HW.out, Below.refl _ _⟩
      · intro ρ w1 hF hW
        have e0 : ρ 10 = .pointer (some ⟨B + 1, 1, none⟩) := hF 10 (by decide)
        have HW := hidden hW
        have c0 := (HP0.out.below hW).text
        clear hF hW
        unfold Rl.Does
        go_simp
        exact ⟨rfl, HW.out, Below.refl _ _⟩
      · intro ρ w1 hF hW
        have e0 : ρ 9 = dfaA D.cls D.width vn vl := hF 9 (by decide)
        have e1 : ρ 11 = .string s := hF 11 (by decide)
        have HW := hidden hW
        clear hF hW
        unfold Rl.Does
        go_simp
        refine (HCUT.out _ HW.out).mono ?_
        rintro e w3 ⟨v, rfl, hr, hb⟩
        exact ⟨_, rfl, hr.reads, below_then HW.out HW.out.size hb, hb⟩
      · intro ρ w1 hF hW
        have e0 : ρ 3 = .pointer (some ⟨B + 1, 0, none⟩) := hF 3 (by decide)
        have HW := hidden hW
        have c0 := (HP0.out.below hW).text
        have c1 := (HP0.out.below hW).tok
        clear hF hW
        unfold Rl.Does
        go_simp
        exact ⟨rfl, HW.out, Below.refl _ _⟩
      · intro ρ w1 hF hW
        have e0 : ρ 13 = .agg #[.int .i64 t, .string s] := hF 13 (by decide)
        have HW := hidden hW
        clear hF hW
        unfold Rl.Does
        go_simp
        have hb := (Below.refl w1.heap.size w1).alloc (Nat.le_refl _) (.cells #[.int .i64 t, .string s] 33)
        exact ⟨(PcAt.new w1 (t, s)).one.below (Below.refl _ _) (by simp), below_then HW.out HW.out.size hb, hb⟩
      · intro ρ w1 hF hW
        have f0 : RdPV L (ρ 12) w1 := hF 12 (by decide)
        have f1 : RdPV [(t, s)] (ρ 14) w1 := hF 14 (by decide)
        have HW := hidden hW
        have HS := hidden (rsame16_calls f0 f1)
        clear hF hW f0 f1
        unfold Rl.Does
        go_simp
        refine HS.out.mono ?_
        rintro e w3 ⟨rfl, hb⟩
        exact ⟨_, rfl, rfl, below_then HW.out HW.out.size hb, hb⟩
      · intro ρ w1 hF hW
        have e0 : ρ 8 = .bool true := hF 8 (by decide)
        have e1 : ρ 15 = .bool (sameP L [(t, s)]) := hF 15 (by decide)
        have HW := hidden hW
        clear hF hW
        unfold Rl.Does
        go_simp
        exact ⟨rfl, HW.out, Below.refl _ _⟩
      · intro ρ w1 hF hW
        have e1 : ρ 16 = .bool (sameP L [(t, s)]) := hF 16 (by decide)
        have HW := hidden hW
        clear hF hW
        unfold Rl.Does
        go_simp
        exact ⟨rfl, HW.out, Below.refl _ _⟩
    case fin =>
      intro a1 w11 hst hv hW
      have h8 : a1.tmps.getD 4 undef = .bool (sameP L [(t, s)]) := hv 12 4 (by kernel_rfl)
      have hd := hst.defers
      have HW := hidden hW
      clear hv hW
      (try go_wp2)
      refine bodyPost_ret (results_tmp rfl _ _ _) hd ?_
      rw [h8, HV.out]
      exact ⟨rfl, below_then HB0.out HB0.out.size HW.out⟩
end Go.Proofs.Ytgaadndhecokfaa

/- Contracts of munch.pieces, slices.AppendSeq and slices.Collect at its iterator, and munch.Cut. -/
namespace Go.Proofs.Ytgaadndhecokfaa
open Go.RowKit Go.Lib Go.Joins Go.Shelf
attribute [local go_sem] Oper.semAt_some

theorem pieces_calls (s : ByteArray) (g : Nat → Nat) (wd : Int) (vn vl : Value) (w : World) : Calls Try.prog 26 #[dfaA g wd vn vl, .string s] w fun e w' => e = .returned (.func (.func 46) #[] #[.pointer (some ⟨w.heap.size, 0, none⟩), .pointer (some ⟨w.heap.size + 1, 0, none⟩)]) ∧ w' = (w.alloc (.cells (dfaC g wd vn vl) 26)).alloc (.cells #[.string s] 9) := by
  have hbx := run_box_dfa g wd vn vl
  go_enter Try.func26, Try.ntmps26
  go_wp2
  go_ret
  exact ⟨rfl, rfl⟩
/-- the iterator, as a range meets it -/
theorem pieces_stops (n : Nat) (hn : 1 ≤ n) (Bd Bs : Nat) (s : ByteArray) (D : DfaM) (vn vl : Value) (hs : s.size ≤ 200) (w : World) (hS : Bs < w.heap.size) (hBd : DfaAt w Bd D.cls D.width vn vl) (hc : w.cell? ⟨Bs, 0, none⟩ = some (.string s)) (hD : RdDfa w.heap.size w vn vl D) :
    SeqStopsK Fence.wide n Try.prog 46 #[.pointer (some ⟨Bd, 0, none⟩), .pointer (some ⟨Bs, 0, none⟩)] encPc (KeepX w.heap.size) (fun ys => ys = cutS D s) (fun pre => pre <+: cutS D s) (cutS D s).length w := fun l J Jx W hW hJ _ hY h0 =>
  pieces_in n hn l Bd Bs w.heap.size s D vn vl hs J Jx hY (fun pre W W' h hg => hJ pre W W' none h hg (fun r e => by cases e)) W hS hW.size (hBd.below hW) ((hW.cell (p := ⟨Bs, 0, none⟩) hS).trans hc) (hD.below hW (Nat.le_refl _)) h0

/-- behind an append to a boxed variable whose row lies from n₀ on, the box below n₀ -/
theorem appendedX {W w1 : World} {n₀ B n1 : Nat} {size : Nat} {v v' : Value} {k m : Nat} {xs ys : List Value} {tmp : Obj}
    (hv : Boxed W B 34 v) (hrow : W.ownsRow n₀ 33 size v k xs) (hn₀ : n₀ ≤ W.heap.size) (hb : n1 ≤ B ∧ n1 ≤ n₀)
    (hown' : w1.ownsRow n₀ 33 size v' m ys) (hgrow : (W.alloc tmp).grownBy w1 v.ownBlock) :
    Boxed w1 B 34 v ∧ Boxed (w1.setCell ⟨B, 0, none⟩ v') B 34 v' ∧ (w1.setCell ⟨B, 0, none⟩ v').ownsRow n₀ 33 size v' m ys ∧ KeepsOthers W (w1.setCell ⟨B, 0, none⟩ v') ∧ KeepX n1 W (w1.setCell ⟨B, 0, none⟩ v') := by
  have hte : (34 : TypeId) ≠ 33 := by decide
  have hv1 : Boxed w1 B 34 v := (hv.alloc tmp).kept hgrow (hv.not_row hte hrow)
  have hlow : ∀ j, v.ownBlock = some j → n₀ ≤ j := fun j e => (hrow.lt j e).1
  refine ⟨hv1, hv1.set v', hown'.kept (grownBy_setCell' w1 B v') (.inr (hv1.not_row hte hown').symm), ?_, ?_, ?_⟩
  · refine ((KeepsOthers.alloc W tmp).trans (KeepsOthers.of_grownBy hgrow fun j o ej hj => ?_)).trans (KeepsOthers.setCell _ _ _)
    rcases (hrow.alloc tmp).2 with ⟨rfl, _⟩ | ⟨g, cap, cur, rfl, _, hgb, _⟩
    · simp [Value.ownBlock] at ej
    · obtain rfl : g = j := by simpa [Value.ownBlock] using ej
      rw [hgb] at hj; cases hj; rfl
  · exact (((Below.refl n1 W).alloc (by omega) tmp).grown hgrow (by simp; omega) fun j ej => by have := hlow j ej; omega).setCell (p := ⟨B, 0, none⟩) hb.1 v'
  · intro j cs hj
    have hjl : j < W.heap.size := (Array.getElem?_eq_some_iff.1 hj).1
    have hjB : j ≠ B := fun e => by
      subst e
      have h : W.heap[j]? = _ := hv
      rw [h] at hj
      simp only [Option.some.injEq, Obj.cells.injEq] at hj
      exact absurd hj.2.1 (by decide)
    have hjo : some j ≠ v.ownBlock := fun e => by
      rcases hrow.2 with ⟨rfl, _⟩ | ⟨g, cap, cur, rfl, _, hgb, _⟩
      · simp [Value.ownBlock] at e
      · simp only [Value.ownBlock, Option.some.injEq] at e
        subst e
        rw [hgb] at hj
        simp only [Option.some.injEq, Obj.cells.injEq] at hj
        exact absurd hj.2.1 (by decide)
    rw [Below.heap_setCell _ _ _ _ hjB, hgrow.block j (by simp; omega) hjo]
    exact heap_alloc_old _ _ hjl
theorem pcAt_own {β : Type} (B : Nat) (f : β → Pc) : Own (fun s W => PcAt W B (f s)) := fun s X Y row hs hg hrow => by
  have hs : PcAt X B (f s) := hs
  refine (hg.block B hs.lt (fun e' => ?_)).trans hs
  obtain ⟨o, ho, hc⟩ := hrow B e'.symm
  unfold PcAt at hs
  rw [hs] at ho
  cases ho
  cases hc
theorem flat_more (pre : List Pc) (x : Pc) : (pre ++ [x]).flatMap pcC = pre.flatMap pcC ++ [.int .i64 x.1, .string x.2] := by simp [pcC]

set_option maxRecDepth 100000 in
set_option maxHeartbeats 8000000 in
theorem aseq_calls {w : World} {Bd Bs : Nat} {vn vl : Value} {D : DfaM} (s : ByteArray) (hs : s.size ≤ 200) (hS : Bs < w.heap.size) (hBd : DfaAt w Bd D.cls D.width vn vl) (hc : w.cell? ⟨Bs, 0, none⟩ = some (.string s)) (hD : RdDfa w.heap.size w vn vl D) :
    Calls Try.prog 45 #[.slice none 0 0, .func (.func 46) #[] #[.pointer (some ⟨Bd, 0, none⟩), .pointer (some ⟨Bs, 0, none⟩)]] w (RetP w (cutS D s)) := by
  have HST := hidden (pieces_stops 4 (by decide) Bd Bs s D vn vl hs w hS hBd hc hD)
  have HLEN := hidden (show (cutS D s).length ≤ s.size by
    unfold cutS
    split
    · rw [List.length_map]; exact cut_len s.size _ (list_len s)
    · simp)
  clear hBd hc hD
  refine (callsIn_wide (n := 5)).1 ?_
  obtain ⟨i0, hi, hz0, hz1, hz2⟩ := info_parts infoPc
  refine callsIn_of_wp_marks Try.func45 rfl trivial ?_ rfl
  simp only [Try.ntmps45, List.size_toArray, List.length_cons, List.length_nil, Nat.reduceAdd, Nat.reduceSub, Array.replicate_succ, Array.replicate_zero, List.push_toArray, List.append_toArray, List.nil_append, List.cons_append]
  gi_wp2
  obtain ⟨W0, hW0⟩ : ∃ W0, w.alloc (.cells #[.slice none 0 0] 34) = W0 := ⟨_, rfl⟩
  have hsz : W0.heap.size = w.heap.size + 1 := by rw [← hW0]; simp
  have hBB : Below w.heap.size w W0 := by rw [← hW0]; go_grown
  have bO : Boxed W0 w.heap.size 34 (.slice none 0 0) := by rw [← hW0]; exact Boxed.new w _ _
  rw [hW0]
  clear hW0
  refine wpIn_rangeFunc_ownH rfl (by decide) (gf := 46) (lb := #[.pointer (some ⟨Bd, 0, none⟩), .pointer (some ⟨Bs, 0, none⟩)]) rfl trivial (enters_of Try.func46 (by kernel_rfl) rfl)
    HST.out KeepX.trans (fun W l o o' hl => KeepX.put (Nat.le_refl _) W l o o' (Nat.le_trans (by omega) hl)) hBB (fun _ => rfl)
    (fun pre W => (∃ v, Boxed W w.heap.size 34 v ∧ W.ownsRow W0.heap.size 33 2 v pre.length (pre.flatMap pcC) ∧ True) ∧ Below w.heap.size w W ∧ W0.heap.size ≤ W.heap.size)
    (fun _ _ _ => False)
    (OwnFrom.and (Own.from (holdsRow_own W0.heap.size w.heap.size 34 33 2 (fun pre : List Pc => pre.length) (fun pre => pre.flatMap pcC) (fun _ _ => True)) _) (OwnFrom.and (ownFrom_below (Nat.le_refl _) (by omega)) (fun _ _ _ _ h hg _ => Nat.le_trans h hg.size)))
    (fun _ _ _ _ _ hs _ _ => hs)
    ⟨⟨_, bO, World.ownsRow_nil _ _ _ _, trivial⟩, hBB, Nat.le_refl _⟩
    (fun x a' W => ∃ Bx, W0.heap.size ≤ Bx ∧ PcAt W Bx x ∧ a' = { tmps := #[.slice none 0 0, .func (.func 46) #[] #[.pointer (some ⟨Bd, 0, none⟩), .pointer (some ⟨Bs, 0, none⟩)], .pointer (some ⟨w.heap.size, 0, none⟩), undef, .slice none 0 0, .pointer (some ⟨Bx, 0, none⟩), .func (.func 46) #[] #[.pointer (some ⟨Bd, 0, none⟩), .pointer (some ⟨Bs, 0, none⟩)], .agg #[.int .i64 x.1, .string x.2], undef, undef, undef, undef, undef], defers := [] })
    (fun x a' => ?hax) ?assign ?body ?done ?stop
  case hax =>
    rintro ⟨⟩ X Y row ⟨Bx, h1, h2, h3⟩ hg hr
    exact ⟨Bx, h1, (Own.from (pcAt_own Bx (fun _ : Unit => x)) W0.heap.size) () X Y row h2 hg hr, h3⟩
  case assign =>
    rintro l pre x W K ⟨⟨v, hv, hrow, _⟩, hB, hWs⟩ hK
    dsimp only [encPc]
    gi_wp2
    have hb := (Below.refl W.heap.size W).alloc (Nat.le_refl _) (.cells #[.int .i64 x.1, .string x.2] 33)
    refine hK _ _ ((KeepsOthers.alloc _ _).from _) (KeepX.later hB.size hb) ⟨⟨v, hv.alloc _, hrow.alloc _, trivial⟩, below_then hB hB.size hb, by simp; omega⟩ ⟨W.heap.size, by omega, PcAt.new W x, rfl⟩
  case body =>
    rintro l pre x a' W hl ⟨r, hr⟩ ⟨⟨v, hv, hrow, _⟩, hB, hWs⟩ ⟨Bx, hBx, bX, rfl⟩ hlt
    have hc := hv.cell
    have c0 := bX.tok
    have c1 := bX.text
    have hpl : pre.length ≤ 1000 := by have := HLEN.out; omega
    have HWX := hidden hWs
    have HFM := hidden (flat_more pre x)
    have HAW := hidden (hrow.alloc (.cells #[.int .i64 x.1, .string x.2] 33))
    have HHV := hidden hv
    have HHR := hidden hrow
    clear hrow hv
    gi_wp2_with (gi_at_builtin; refine wpListIn_append_own _ rfl _ _ 34 rfl W0.heap.size 33 i0 (.agg #[.int .i64 0, .string ⟨#[]⟩]) 2 24 Try.underlying34 hi hz0 hz1 hz2 rfl (by decide) _ _ _ rfl HAW.out ⟨W.heap.size, 0, none⟩ 1 1 [.int .i64 x.1, .string x.2] rfl rfl (fun j z hj => (by rw [Addr.add_lit, Nat.zero_add, cell_of_row _ _ _ _ _ _ (heap_alloc_new W _)]; simpa using hj)) (by simp [Value.oneCell']) (by unfold maxLen; omega) (by omega) (by simp; omega) ?_; intro v' w1 hown' hgrow _; obtain ⟨g', cap', rfl⟩ := ownsRow_succ hown'; obtain ⟨hv1, hv2, hr2, hk2, hx2⟩ := appendedX (n1 := w.heap.size) HHV.out HHR.out HWX.out (by omega) hown' hgrow; have hc1 := hv1.cell; have hf1 := hv1.frozen)
    exact ⟨hk2.from _, hx2, ⟨_, hv2, by rw [HFM.out]; simpa using hr2, trivial⟩, hB.trans hx2.below, by have := hx2.below.size; omega⟩
  case done =>
    rintro D' ys W hD' rfl ⟨⟨v, hv, hrow, _⟩, hB, _⟩ hK
    have hc := hv.cell
    have HRW := hidden hrow
    clear hrow
    gi_wp2
    refine ⟨by simp, .inl ⟨_, _, rfl, run_takeDeferred hK, ?_⟩⟩
    exact ⟨_, results_tmp rfl _ _ _, v, rfl, (RowP.lower (base := W0.heap.size) (ownsRow_putObj HRW.out _ hK rfl) (by omega)), hB.trans (belowK_b (w := w) (Nat.le_refl _) W D' _ _ (by omega) hK rfl rfl)⟩
  case stop =>
    rintro D' c pre W _ _ h _
    exact h.elim
set_option maxRecDepth 100000 in
set_option maxHeartbeats 4000000 in
theorem collect_calls {w : World} {Bd Bs : Nat} {vn vl : Value} {D : DfaM} (s : ByteArray) (hs : s.size ≤ 200) (hS : Bs < w.heap.size) (hBd : DfaAt w Bd D.cls D.width vn vl) (hc : w.cell? ⟨Bs, 0, none⟩ = some (.string s)) (hD : RdDfa w.heap.size w vn vl D) :
    Calls Try.prog 25 #[.func (.func 46) #[] #[.pointer (some ⟨Bd, 0, none⟩), .pointer (some ⟨Bs, 0, none⟩)]] w (RetP w (cutS D s)) := by
  have HA := hidden (aseq_calls s hs hS hBd hc hD)
  clear hBd hc hD hS
  go_enter Try.func25, Try.ntmps25
  go_wp2_with fail
  refine HA.out.mono ?_
  rintro e w1 ⟨v, rfl, hr, hb⟩
  obtain ⟨a, c, rfl⟩ := hr.form
  have HR := hidden hr
  clear hr
  go_wp2
  go_ret
  exact ⟨_, rfl, HR.out, hb⟩
set_option maxRecDepth 100000 in
set_option maxHeartbeats 4000000 in
theorem cut16_calls {w : World} {vn vl : Value} {D : DfaM} (s : ByteArray) (h : RdDfa w.heap.size w vn vl D) (hs : s.size ≤ 200) :
    Calls Try.prog 11 #[dfaA D.cls D.width vn vl, .string s] w (RetP w (cutS D s)) := by
  have HX := hidden (DfaAt.new w D.cls D.width vn vl)
  have hbx := run_box_dfa D.cls D.width vn vl
  have HRD := hidden h
  clear h
  go_enter Try.func11, Try.ntmps11
  go_wp2_with (refine load_dfa rfl (x := .tmp 2) rfl rfl HX.out ?_)
  refine (pieces_calls s D.cls D.width vn vl _).mono ?_
  rintro e w1 ⟨rfl, rfl⟩
  obtain ⟨w0, hw0⟩ : ∃ w0, w0 = w.alloc (.cells (dfaC D.cls D.width vn vl) 26) := ⟨_, rfl⟩
  rw [← hw0]
  have hB0 : Below w.heap.size w w0 := by rw [hw0]; exact (Below.refl _ _).alloc (Nat.le_refl _) _
  obtain ⟨w2, hw2⟩ : ∃ w2, w2 = (w0.alloc (.cells (dfaC D.cls D.width vn vl) 26)).alloc (.cells #[.string s] 9) := ⟨_, rfl⟩
  rw [← hw2]
  have hB2 : Below w0.heap.size w0 w2 := by rw [hw2]; exact ((Below.refl _ _).alloc (Nat.le_refl _) _).alloc (by simp) _
  have hsz : w2.heap.size = w0.heap.size + 2 := by rw [hw2]; simp
  have hx : DfaAt w2 w0.heap.size D.cls D.width vn vl := by rw [hw2]; exact (DfaAt.new w0 D.cls D.width vn vl).alloc _
  have hss : w2.cell? ⟨w0.heap.size + 1, 0, none⟩ = some (.string s) := by
    rw [hw2]
    have := heap_alloc_new (w0.alloc (.cells (dfaC D.cls D.width vn vl) 26)) (.cells #[.string s] 9)
    rw [show (w0.alloc (.cells (dfaC D.cls D.width vn vl) 26)).heap.size = w0.heap.size + 1 by simp] at this
    exact cell_of_row _ _ 0 _ _ _ this
  have HB2 := hidden (below_then hB0 hB0.size hB2)
  have HC := hidden (collect_calls s hs (by omega) hx hss (HRD.out.below HB2.out HB2.out.size))
  clear hw0 hw2 hB0 hB2 hx hss
  go_wp2_with fail
  refine HC.out.mono ?_
  rintro e w3 ⟨v, rfl, hr, hb⟩
  obtain ⟨a, c, rfl⟩ := hr.form
  have HR := hidden hr
  clear hr
  go_wp2
  go_ret
  exact ⟨_, rfl, HR.out.lower HB2.out.size, below_then HB2.out HB2.out.size hb⟩
end Go.Proofs.Ytgaadndhecokfaa

/- Contract of munch.first. -/
namespace Go.Proofs.Ytgaadndhecokfaa
open Go.RowKit Go.Lib Go.Joins Go.Shelf
attribute [local go_sem] Oper.semAt_some

/-- the first piece, and whether there is one -/
def fstV (L : List Pc) : Pc × Bool := match L with
  | [] => ((0, ⟨#[]⟩), false)
  | p :: _ => (p, true)
theorem results_cells216 {fn : Func} {p q : Tmp} {t u : TypeId} (h : fn.results = #[.cell p t, .cell q u]) (tmps : Array Value) (P : Program) (w : World) :
    (results fn tmps).run P w =
      ((asAddr (tmps.getD p undef)).run P w).andThen fun a w₁ => ((loadVar t a).run P w₁).andThen fun v w₂ => ((asAddr (tmps.getD q undef)).run P w₂).andThen fun b w₃ => ((loadVar u b).run P w₃).andThen fun x w₄ => .ok (.tuple #[v, x]) w₄ := by
  simp only [results, h]
  simp [Sem.run_bind, Result.andThen]
theorem fst_results {tmps : Array Value} {W : World} {B C : Nat} {p : Pc} {v : Value} (hp : tmps.getD 4 undef = .pointer (some ⟨B, 0, none⟩)) (hq : tmps.getD 5 undef = .pointer (some ⟨C, 0, none⟩))
    (hP : PcAt W B p) (hO : OneAt 4 W C v) : (results Try.f24 tmps).run Try.prog W = .ok (.tuple #[.agg #[.int .i64 p.1, .string p.2], v]) W := by
  rw [results_cells216 Try.results24, hp, hq]
  have hc := hO.cell
  simp only [asAddr, Sem.run_pure, Result.andThen]
  rw [run_loadVar_row W B 33 33 _ (0, 0) _ hP Try.underlying33 rfl (by kernel_rfl)]
  simp [go_sem, hc]
theorem PcAt.stored {w : World} {B : Nat} {p : Pc} (h : PcAt w B p) (q : Pc) : PcAt ((w.setCell ⟨B, 0, none⟩ (.int .i64 q.1)).setCell ⟨B, 1, none⟩ (.string q.2)) B q :=
  heap_setCell_same _ B 1 _ _ _ (heap_setCell_same _ B 0 _ _ _ h)
theorem PcAt.other {w : World} {B b i : Nat} {p : Pc} (h : PcAt w B p) (hne : B ≠ b) (v : Value) : PcAt (w.setCell ⟨b, i, none⟩ v) B p := by
  unfold PcAt at h ⊢
  rw [heap_setCell_other _ _ _ _ hne, h]
theorem PcAt.put {W : World} {B D : Nat} {p : Pc} (h : PcAt W B p) (hne : B ≠ D) (o : Obj) : PcAt (W.putObj D o) B p :=
  ((grownBy_putObj' W D o).block B h.lt (fun e => by cases e; exact hne rfl)).trans h
theorem oneAt_put16 {t : TypeId} {W : World} {B D : Nat} {v : Value} (h : OneAt t W B v) (hne : B ≠ D) (o : Obj) : OneAt t (W.putObj D o) B v :=
  ((grownBy_putObj' W D o).block B h.lt (fun e => by cases e; exact hne rfl)).trans h
theorem oneAt_own16 {β : Type} (t : TypeId) (B : Nat) (f : β → Value) : Own (fun s W => OneAt t W B (f s)) := fun s X Y row hs hg hrow => by
  have hs : OneAt t X B (f s) := hs
  refine (hg.block B hs.lt (fun e' => ?_)).trans hs
  obtain ⟨o, ho, hc⟩ := hrow B e'.symm
  unfold OneAt at hs
  rw [hs] at ho
  cases ho
  cases hc
theorem below_two16 {B n : Nat} {a w : World} (h : Below n a w) (hB : n ≤ B) (v u : Value) : Below n a ((w.setCell ⟨B, 0, none⟩ v).setCell ⟨B, 1, none⟩ u) := (h.setCell hB v).setCell hB u
set_option maxRecDepth 100000 in
set_option maxHeartbeats 8000000 in
theorem first16_calls {w : World} {vn vl : Value} {D : DfaM} (s : ByteArray) (h : RdDfa w.heap.size w vn vl D) (hs : s.size ≤ 200) :
    Calls Try.prog 24 #[dfaA D.cls D.width vn vl, .string s] w fun e w' => e = .returned (.tuple #[.agg #[.int .i64 (fstV (cutS D s)).1.1, .string (fstV (cutS D s)).1.2], .bool (fstV (cutS D s)).2]) ∧ Below w.heap.size w w' := by
  have hbx := run_box_dfa D.cls D.width vn vl
  have HX := hidden (((DfaAt.new w D.cls D.width vn vl).alloc (.cells #[.int .i64 0, .string ⟨#[]⟩] 33)).alloc (.cells #[.bool false] 4))
  have HRD := hidden h
  clear h
  obtain ⟨L, hL⟩ : ∃ L, L = cutS D s := ⟨_, rfl⟩
  rw [← hL]
  have HL := hidden hL
  clear hL
  refine (callsIn_wide (n := 5)).1 ?_
  refine callsIn_of_wp_marks Try.func24 rfl trivial ?_ rfl
  simp only [Try.ntmps24, List.size_toArray, List.length_cons, List.length_nil, Nat.reduceAdd, Nat.reduceSub, Array.replicate_succ, Array.replicate_zero, List.push_toArray, List.append_toArray, List.nil_append, List.cons_append]
  gi_wp2_with (first
    | (refine wpListIn_load_is rfl (x := .tmp 2) rfl rfl (run_load_dfa HX.out) ?_)
    | (refine ⟨trivial, ?_⟩; gi_at_call 26; refine (callsIn_wide.2 (pieces_calls s D.cls D.width vn vl _)).mono ?_; rintro e w' ⟨rfl, rfl⟩))
  obtain ⟨w1, hw1⟩ : ∃ w1, w1 = ((w.alloc (.cells (dfaC D.cls D.width vn vl) 26)).alloc (.cells #[.int .i64 0, .string ⟨#[]⟩] 33)).alloc (.cells #[.bool false] 4) := ⟨_, rfl⟩
  rw [← hw1]
  have hs1 : w1.heap.size = w.heap.size + 1 + 1 + 1 := by rw [hw1]; simp
  have hB1 : Below w.heap.size w w1 := by rw [hw1]; go_grown
  have hP1 : PcAt w1 (w.heap.size + 1) (0, ⟨#[]⟩) := by
    rw [hw1]
    have := PcAt.new (w.alloc (.cells (dfaC D.cls D.width vn vl) 26)) (0, ⟨#[]⟩)
    rw [show (w.alloc (.cells (dfaC D.cls D.width vn vl) 26)).heap.size = w.heap.size + 1 by simp] at this
    exact this.alloc _
  have hT1 : OneAt 4 w1 (w.heap.size + 1 + 1) (.bool false) := by rw [hw1]; exact OneAt.made (by simp)
  obtain ⟨W0, hW0⟩ : ∃ W0, W0 = (w1.alloc (.cells (dfaC D.cls D.width vn vl) 26)).alloc (.cells #[.string s] 9) := ⟨_, rfl⟩
  rw [← hW0]
  have hsz : W0.heap.size = w1.heap.size + 2 := by rw [hW0]; simp
  have hBB : Below w1.heap.size w1 W0 := by rw [hW0]; exact ((Below.refl _ _).alloc (Nat.le_refl _) _).alloc (by simp) _
  have hx : DfaAt W0 w1.heap.size D.cls D.width vn vl := by rw [hW0]; exact (DfaAt.new w1 D.cls D.width vn vl).alloc _
  have hss : W0.cell? ⟨w1.heap.size + 1, 0, none⟩ = some (.string s) := by
    rw [hW0]
    have := heap_alloc_new (w1.alloc (.cells (dfaC D.cls D.width vn vl) 26)) (.cells #[.string s] 9)
    rw [show (w1.alloc (.cells (dfaC D.cls D.width vn vl) 26)).heap.size = w1.heap.size + 1 by simp] at this
    exact cell_of_row _ _ 0 _ _ _ this
  have HB0 := hidden (below_then hB1 hB1.size hBB)
  have HP0 := hidden (hP1.below hBB)
  have HT0 := hidden (hT1.kept hBB hT1.lt)
  have HST := hidden (pieces_stops 4 (by decide) w1.heap.size (w1.heap.size + 1) s D vn vl hs W0 (by omega) hx hss (HRD.out.below HB0.out HB0.out.size))
  rw [← HL.out] at HST
  clear hw1 hB1 hP1 hT1 hW0 hBB hx hss
  have hq1 : w.heap.size + 1 + 1 + 1 = w1.heap.size := hs1.symm
  rw [hq1]
  have HSZ := hidden (And.intro hs1 hsz)
  clear hq1 hs1 hsz
  have hw01 : w.heap.size + 3 ≤ W0.heap.size := by have := HSZ.out.1; have := HSZ.out.2; omega
  have HW01 := hidden hw01
  clear hw01
  refine wpIn_rangeFunc_ownH rfl (by decide) (gf := 46) (lb := #[.pointer (some ⟨w1.heap.size, 0, none⟩), .pointer (some ⟨w1.heap.size + 1, 0, none⟩)]) rfl trivial (enters_of Try.func46 (by kernel_rfl) rfl)
    HST.out KeepX.trans (fun W l o o' hl => KeepX.put (Nat.le_refl _) W l o o' hl) (Below.refl _ _) (fun _ => rfl)
    (fun pre W => pre = [] ∧ PcAt W (w.heap.size + 1) (0, ⟨#[]⟩) ∧ OneAt 4 W (w.heap.size + 1 + 1) (.bool false) ∧ Below w.heap.size w W ∧ W0.heap.size ≤ W.heap.size)
    (fun c pre W => (c = .ret ∧ pre ≠ []) ∧ PcAt W (w.heap.size + 1) (fstV pre).1 ∧ OneAt 4 W (w.heap.size + 1 + 1) (.bool true) ∧ Below w.heap.size w W)
    (OwnFrom.and (ownFrom_pure _ _) (OwnFrom.and (Own.from (pcAt_own _ _) _) (OwnFrom.and (Own.from (oneAt_own16 _ _ _) _) (OwnFrom.and (ownFrom_below (Nat.le_refl _) (by have := HW01.out; omega)) (fun _ _ _ _ h hg _ => Nat.le_trans h hg.size)))))
    (fun c => OwnFrom.and (ownFrom_pure _ _) (OwnFrom.and (Own.from (pcAt_own _ _) _) (OwnFrom.and (Own.from (oneAt_own16 _ _ _) _) (ownFrom_below (Nat.le_refl _) (by have := HW01.out; omega)))))
    ⟨rfl, HP0.out, HT0.out, HB0.out, Nat.le_refl _⟩
    (fun x a' W => ∃ Bx, W0.heap.size ≤ Bx ∧ PcAt W Bx x ∧ a' = { tmps := #[dfaA D.cls D.width vn vl, .string s, .pointer (some ⟨w.heap.size, 0, none⟩), undef, .pointer (some ⟨w.heap.size + 1, 0, none⟩), .pointer (some ⟨w.heap.size + 1 + 1, 0, none⟩), .pointer (some ⟨Bx, 0, none⟩), dfaA D.cls D.width vn vl, .string s, .func (.func 46) #[] #[.pointer (some ⟨w1.heap.size, 0, none⟩), .pointer (some ⟨w1.heap.size + 1, 0, none⟩)], .agg #[.int .i64 x.1, .string x.2], undef, undef], defers := [] })
    (fun x a' => ?hax) ?assign ?body ?done ?stop
  case hax =>
    rintro ⟨⟩ X Y row ⟨Bx, h1, h2, h3⟩ hg hr
    exact ⟨Bx, h1, (Own.from (pcAt_own Bx (fun _ : Unit => x)) W0.heap.size) () X Y row h2 hg hr, h3⟩
  case assign =>
    rintro l pre x W K ⟨hp, hP, hT, hB, hWs⟩ hK
    have HH := hidden (And.intro hp (And.intro hP (And.intro hT (And.intro hB hWs))))
    clear hp hP hT hB hWs
    dsimp only [encPc]
    gi_wp2
    obtain ⟨hp, hP, hT, hB, hWs⟩ := HH.out
    have hb := (Below.refl W.heap.size W).alloc (Nat.le_refl _) (.cells #[.int .i64 x.1, .string x.2] 33)
    exact hK _ _ ((KeepsOthers.alloc _ _).from _) (KeepX.later hWs hb) ⟨hp, hP.below hb, hT.alloc _, below_then hB hB.size hb, by simp; omega⟩ ⟨W.heap.size, hWs, PcAt.new W x, rfl⟩
  case body =>
    rintro l pre x a' W hl ⟨r, hr⟩ ⟨rfl, hP, hT, hB, hWs⟩ ⟨Bx, hBx, bX, rfl⟩ hlt
    have c0 := bX.tok
    have c1 := bX.text
    have f0 := hP.frozen 0
    have f1 := hP.frozen 1
    have f2 := hT.frozen
    have r0 := hP.tok
    have r1 := hP.text
    have r2 := hT.cell
    have HH := hidden (And.intro hP (And.intro hT hB))
    clear hP hT hB
    gi_wp2
    obtain ⟨hP, hT, hB⟩ := HH.out
    refine ⟨((KeepsOthers.setCell _ _ _).trans ((KeepsOthers.setCell _ _ _).trans (KeepsOthers.setCell _ _ _))).from _, ⟨rfl, by simp⟩, ?_, ?_, ?_⟩
    · exact (hP.stored x).other (by omega) _
    · exact ((hT.other (by omega) _).other (by omega) _).stored _
    · exact (below_two16 hB (by omega) _ _).setCell (by simp; omega) _
  case done =>
    rintro D' ys W hD rfl ⟨hp, hP, hT, hB, hWs⟩ hK
    have HV := hidden (show fstV ys = ((0, ⟨#[]⟩), false) by rw [hp]; rfl)
    have f0 := hP.frozen 0
    have f1 := hP.frozen 1
    have f2 := hT.frozen
    have r0 := hP.tok
    have r1 := hP.text
    have r2 := hT.cell
    have HH := hidden (And.intro hP (And.intro hT hB))
    clear hp hP hT hB
    gi_wp2
    obtain ⟨hP, hT, hB⟩ := HH.out
    have hK' := ((KeepsOthers.setCell W ⟨w.heap.size + 1, 0, none⟩ (.int .i64 0)).trans ((KeepsOthers.setCell _ ⟨w.heap.size + 1, 1, none⟩ (.string ⟨#[]⟩)).trans (KeepsOthers.setCell _ ⟨w.heap.size + 1 + 1, 0, none⟩ (.bool false)))).same D' _ hK rfl
    refine ⟨by simp, .inl ⟨_, _, rfl, run_takeDeferred hK', ?_⟩⟩
    have hP' := ((hP.stored (0, ⟨#[]⟩)).other (by omega) (.bool false) (b := w.heap.size + 1 + 1) (i := 0)).put (D := D') (by have := HW01.out; omega) (.deferred none)
    have hQ' := oneAt_put16 (((hT.other (b := w.heap.size + 1) (i := 0) (by omega) (.int .i64 0)).other (b := w.heap.size + 1) (i := 1) (by omega) (.string ⟨#[]⟩)).stored (.bool false)) (D := D') (by have := HW01.out; omega) (.deferred none)
    refine ⟨_, fst_results rfl rfl hP' hQ', by rw [HV.out], ?_⟩
    exact ((below_two16 hB (by omega) _ _).setCell (by simp; omega) _).trans (belowK_b (w := w) (Nat.le_refl _) _ D' _ _ (by have := HW01.out; omega) hK' rfl rfl)
  case stop =>
    rintro D' c pre W hD hpre ⟨⟨rfl, hne⟩, hP, hT, hB⟩ hK
    have HV := hidden (show fstV L = ((fstV pre).1, true) by
      obtain ⟨r, hr⟩ := hpre
      cases pre with
      | nil => exact absurd rfl hne
      | cons p q => rw [← hr]; rfl)
    have HH := hidden (And.intro hP (And.intro hT hB))
    clear hpre hne hP hT hB
    gi_wp2
    obtain ⟨hP, hT, hB⟩ := HH.out
    refine ⟨by simp, .inl ⟨_, _, rfl, run_takeDeferred hK, ?_⟩⟩
    have hP' := hP.put (D := D') (by have := HW01.out; omega) (.deferred none)
    have hQ' := oneAt_put16 hT (D := D') (by have := HW01.out; omega) (.deferred none)
    refine ⟨_, fst_results rfl rfl hP' hQ', by rw [HV.out], ?_⟩
    exact hB.trans (belowK_b (w := w) (Nat.le_refl _) _ D' _ _ (by have := HW01.out; omega) hK rfl rfl)
end Go.Proofs.Ytgaadndhecokfaa

/- The law of regions that draw their order, operation by operation, where an operation without an answer (a store) leaves something that is said of the slot that it stores to; edges of other orders than the chosen one lead anywhere. -/
namespace Go.Proofs.Ytgaadndhecokfaa.Rl
open Go.RowKit

section
variable {R : World → World → Prop} {P : Program} {ops : Array Oper} {Q : Exit → Act → World → Prop} {T : Nat → Value → World → Prop} {W : World → Prop} {a0 : Act} {sl : Nat → Nat}

/-- of what an operation's word is said: its answer, or the slot that it stores to -/
def keyS (sl : Nat → Nat) (j : Nat) (o : Oper) (a : Act) (v : Value) : Value := match o.dst with
  | some _ => v
  | none => a.tmps.getD (sl j) undef
/-- the slot that a store stores to is written ahead of it alone -/
def safeS (ops : Array Oper) (sl : Nat → Nat) : Bool := (List.range ops.size).all fun j => match ops[j]? with
  | none => true
  | some o => o.dst.isSome || (List.range ops.size).all fun i => match ops[i]? with
    | none => true
    | some o' => o'.dst != some (sl j) || o.after.any fun e => e.on == i && Region.binds .any e
/-- what an operation leaves -/
def LeavesS (sl : Nat → Nat) (R : World → World → Prop) (T : Nat → Value → World → Prop) (W : World → Prop) (j : Nat) (o : Oper) (a : Act) (w : World) (a' : Act) (w' : World) : Prop :=
  ∃ v, a' = a.put o.dst v ∧ T j (keyS sl j o a v) w' ∧ W w' ∧ R w w'

structure MidS (sl : Nat → Nat) (ops : Array Oper) (T : Nat → Value → World → Prop) (W : World → Prop) (a0 : Act) (listed : Array Bool) (a : Act) (w : World) : Prop where
  still : Still ops a0 a
  done : ∀ j d, listed.getD j true = true → (ops[j]?).bind (·.dst) = some d → T j (a.tmps.getD d undef) w
  world : W w
  gh : ∀ j o, ops[j]? = some o → o.dst = none → listed.getD j true = true → T j (a.tmps.getD (sl j) undef) w
  clo : ∀ j o, ops[j]? = some o → listed.getD j true = true → ∀ e ∈ o.after, Region.binds .any e = true → listed.getD e.on true = true

def wellOrderedS (ops : Array Oper) (n : Nat) : Bool :=
  (List.range ops.size).all fun j => match ops[j]? with
    | none => true
    | some o => (o.after.all fun e => !Region.binds .any e || decide (e.on < j)) && (match o.dst with
      | none => true
      | some d => decide (d < n) && (List.range ops.size).all fun i => i == j || (ops[i]?).bind (·.dst) != some d)

theorem ready_of_missingS {listed : Array Bool} (hw : wellOrderedS ops a0.tmps.size = true) : ∀ n, n ≤ ops.size → Region.ready .any ops listed = [] → ∀ j, j < n → listed.getD j true = true := by
  intro n
  induction n with
  | zero => intro _ _ j hj; omega
  | succ n ih =>
    intro hn hr j hj
    have ih := ih (by omega) hr
    by_cases e : j = n
    · subst e
      by_cases hl : listed.getD j true = true
      · exact hl
      · exfalso
        have : j ∈ Region.ready .any ops listed := by
          unfold Region.ready
          refine List.mem_filter.2 ⟨List.mem_range.2 (by omega), ?_⟩
          have ho := Array.getElem?_eq_getElem (xs := ops) (i := j) (by omega)
          have hl' : listed.getD j true = false := by simpa using hl
          rw [hl', ho]
          simp only [Bool.not_false, Bool.true_and, Option.map_some, Option.getD_some]
          rw [Array.all_eq_true_iff_forall_mem]
          intro ed hed
          have hwj := List.all_eq_true.1 hw j (List.mem_range.2 (by omega))
          rw [ho] at hwj
          simp only [Bool.and_eq_true] at hwj
          have hor := Array.all_eq_true_iff_forall_mem.1 hwj.1 ed hed
          cases hbd : Region.binds .any ed
          · rfl
          rw [hbd, Bool.not_true, Bool.false_or] at hor
          have hlt := of_decide_eq_true hor
          have h1 := ih ed.on hlt
          have : listed.getD ed.on false = true := by
            rcases Nat.lt_or_ge ed.on listed.size with h2 | h2
            · simp only [Array.getD_eq_getD_getElem?, Array.getElem?_eq_getElem h2, Option.getD_some] at h1 ⊢
              exact h1
            · have h3 : listed.getD j true = true := by simp [Array.getD_eq_getD_getElem?, Array.getElem?_eq_none (show listed.size ≤ j by omega)]
              rw [h3] at hl'
              cases hl'
          rw [this]
          simp
        rw [hr] at this
        cases this
    · exact ih j (by omega)

theorem typed_soundS (hsafe : safeS ops sl = true) (hw : wellOrderedS ops a0.tmps.size = true)
    (hT : ∀ j v w w', T j v w → R w w' → T j v w')
    (step : ∀ j o, ops[j]? = some o → ∀ a w, Still ops a0 a → Ahead ops T o a w → W w → wpOp P ops Q j (LeavesS sl R T W j o a w) a w)
    (fin : ∀ a w, Still ops a0 a → (∀ j d, (ops[j]?).bind (·.dst) = some d → T j (a.tmps.getD d undef) w) → (∀ j o, ops[j]? = some o → o.dst = none → T j (a.tmps.getD (sl j) undef) w) → W w → Q .normal a w) :
    ∀ (fuel : Nat) (listed : Array Bool) (a : Act) (w : World), missing ops listed ≤ fuel → listed.size = ops.size → MidS sl ops T W a0 listed a w → wpAny P .any ops Q fuel listed a w := by
  have finish : ∀ (listed : Array Bool) (a : Act) (w : World), listed.size = ops.size → MidS sl ops T W a0 listed a w → Region.ready .any ops listed = [] → Q .normal a w := fun listed a w hsz hm hr => by
    have hall := ready_of_missingS hw ops.size (Nat.le_refl _) hr
    refine fin a w hm.still (fun j d hd => hm.done j d ?_ hd) (fun j o hj hd => hm.gh j o hj hd (hall j (Array.getElem?_eq_some_iff.1 hj).1)) hm.world
    rcases Nat.lt_or_ge j ops.size with h | h
    · exact hall j h
    · rw [Array.getElem?_eq_none h] at hd
      cases hd
  intro fuel
  induction fuel with
  | zero =>
    intro listed a w hmis hsz hm
    have hr : Region.ready .any ops listed = [] := by
      rw [Region.ready, List.filter_eq_nil_iff]
      intro i hi
      have h0 : missing ops listed = 0 := by omega
      unfold missing at h0
      rw [List.countP_eq_zero] at h0
      have := h0 i hi
      simp only [Bool.not_eq_true, Bool.not_eq_false'] at this
      rw [this]
      simp
    exact ⟨hr, finish listed a w hsz hm hr⟩
  | succ fuel ih =>
    intro listed a w hmis hsz hm
    refine ⟨finish listed a w hsz hm, fun i hi => ?_⟩
    unfold Region.ready at hi
    obtain ⟨hr1, hr2⟩ := List.mem_filter.1 hi
    have hin : i < ops.size := List.mem_range.1 hr1
    have ho := Array.getElem?_eq_getElem (xs := ops) (i := i) hin
    rw [ho] at hr2
    simp only [Option.map_some, Option.getD_some, Bool.and_eq_true, Bool.not_eq_true'] at hr2
    have hun : listed.getD i true = false := by simpa using hr2.1
    have hahead : Ahead ops T ops[i] a w := fun e he hb d hd => by
      have h1 := Array.all_eq_true_iff_forall_mem.1 hr2.2 e he
      rw [hb] at h1
      simp only [Bool.not_true, Bool.false_or] at h1
      refine hm.done e.on d ?_ hd
      rcases Nat.lt_or_ge e.on listed.size with h2 | h2
      · simp only [Array.getD_eq_getD_getElem?, Array.getElem?_eq_getElem h2, Option.getD_some] at h1 ⊢
        exact h1
      · simp [Array.getD_eq_getD_getElem?, Array.getElem?_eq_none h2]
    refine wpOp_mono (fun a' w' h => ?_) (step i ops[i] ho a w hm.still hahead hm.world)
    obtain ⟨v, rfl, hv, hW', hb⟩ := h
    have hwi := List.all_eq_true.1 hw i (List.mem_range.2 hin)
    rw [ho] at hwi
    simp only [Bool.and_eq_true] at hwi
    have hedge : ∀ e ∈ ops[i].after, Region.binds .any e = true → listed.getD e.on true = true := fun e he hb => by
      have h1 := Array.all_eq_true_iff_forall_mem.1 hr2.2 e he
      rw [hb] at h1
      simp only [Bool.not_true, Bool.false_or] at h1
      rcases Nat.lt_or_ge e.on listed.size with h2 | h2
      · simp only [Array.getD_eq_getD_getElem?, Array.getElem?_eq_getElem h2, Option.getD_some] at h1 ⊢
        exact h1
      · simp [Array.getD_eq_getD_getElem?, Array.getElem?_eq_none h2]
    have hkeep : ∀ s, ops[i].dst ≠ some s → (a.put ops[i].dst v).tmps.getD s undef = a.tmps.getD s undef := fun s hs => by
      cases hx : ops[i].dst with
      | none => rfl
      | some x =>
        rw [hx] at hs
        have : x ≠ s := fun e => hs (by rw [e])
        simp [Act.put, Array.getD_eq_getD_getElem?, Array.getElem?_setIfInBounds_ne this]
    refine ih (listed.setIfInBounds i true) _ w' (by have := missing_set (ops := ops) hin hun; omega) (by simpa using hsz) ⟨⟨?_, ?_, ?_⟩, ?_, hW', fun j oj hj hjd hl => by
        rw [getD_set] at hl
        by_cases e : i = j
        · subst e
          rw [ho] at hj
          cases hj
          have hk : keyS sl i ops[i] a v = a.tmps.getD (sl i) undef := by unfold keyS; rw [hjd]
          rw [hk] at hv
          rw [hkeep (sl i) (by rw [hjd]; simp)]
          exact hv
        · rw [if_neg e] at hl
          have hu := hT j _ w w' (hm.gh j oj hj hjd hl) hb
          rw [hkeep (sl j) fun hc => ?_]
          · exact hu
          · have hjs := (Array.getElem?_eq_some_iff.1 hj).1
            have h1 := List.all_eq_true.1 hsafe j (List.mem_range.2 hjs)
            rw [hj] at h1
            simp only [hjd, Option.isSome_none, Bool.false_or] at h1
            have h2 := List.all_eq_true.1 h1 i (List.mem_range.2 hin)
            rw [ho] at h2
            simp only [hc, bne_self_eq_false, Bool.false_or] at h2
            obtain ⟨ed, he, h3⟩ := Array.any_eq_true'.1 h2
            simp only [Bool.and_eq_true, beq_iff_eq] at h3
            have h4 := hm.clo j oj hj hl ed he h3.2
            rw [h3.1, hun] at h4
            exact absurd h4 (by simp), fun j oj hj hl ed he hbd => by
        rw [getD_set] at hl ⊢
        by_cases e2 : i = ed.on
        · rw [if_pos e2]
        rw [if_neg e2]
        by_cases e : i = j
        · subst e
          rw [ho] at hj
          cases hj
          exact hedge ed he hbd
        · rw [if_neg e] at hl
          exact hm.clo j oj hj hl ed he hbd⟩
    · rw [← hm.still.size]
      cases ops[i].dst <;> simp [Act.put]
    · rw [← hm.still.defers]
      cases ops[i].dst <;> rfl
    · intro d hd
      rw [← hm.still.slot d hd]
      have hne := Array.all_eq_true_iff_forall_mem.1 hd ops[i] (Array.getElem_mem hin)
      cases hx : ops[i].dst with
      | none => rfl
      | some x =>
        rw [hx] at hne
        have : x ≠ d := by simpa using hne
        simp [Act.put, Array.getD_eq_getD_getElem?, Array.getElem?_setIfInBounds_ne this]
    · intro j d hl hd
      rw [getD_set] at hl
      by_cases e : i = j
      · subst e
        rw [ho] at hd
        have hd : ops[i].dst = some d := hd
        have hlt : d < a.tmps.size := by
          rw [hd] at hwi
          simp only [Bool.and_eq_true] at hwi
          have := of_decide_eq_true hwi.2.1
          rw [hm.still.size]
          exact this
        have e2 : (a.put ops[i].dst v).tmps.getD d undef = v := by
          rw [hd]
          simp [Act.put, Array.getD_eq_getD_getElem?, hlt]
        rw [e2]
        have hk : keyS sl i ops[i] a v = v := by unfold keyS; rw [hd]
        rw [hk] at hv
        exact hv
      · rw [if_neg e] at hl
        have h1 := hT j _ w w' (hm.done j d hl hd) hb
        have e2 : (a.put ops[i].dst v).tmps.getD d undef = a.tmps.getD d undef := by
          cases hx : ops[i].dst with
          | none => rfl
          | some x =>
            rw [hx] at hwi
            simp only [Bool.and_eq_true] at hwi
            have hj : j < ops.size := by
              rcases Nat.lt_or_ge j ops.size with h | h
              · exact h
              · rw [Array.getElem?_eq_none h] at hd
                cases hd
            have h2 := List.all_eq_true.1 hwi.2.2 j (List.mem_range.2 hj)
            rw [hd] at h2
            have : x ≠ d := by
              rintro rfl
              simp at h2
              exact e h2.symm
            simp [Act.put, Array.getD_eq_getD_getElem?, Array.getElem?_setIfInBounds_ne this]
        rw [e2]
        exact h1

/-- THE LAW -/
theorem wp_region_typedS {id : Nat} {w : World} (sl : Nat → Nat) (hsafe : safeS ops sl = true) (T : Nat → Value → World → Prop) (W : World → Prop) (hm : P.follows .mixedOrders = true) (hw : wellOrderedS ops a0.tmps.size = true)
    (hT : ∀ j v w w', T j v w → R w w' → T j v w') (h0 : W w.drew)
    (step : ∀ j o, ops[j]? = some o → ∀ a w, Still ops a0 a → Ahead ops T o a w → W w → wpOp P ops Q j (LeavesS sl R T W j o a w) a w)
    (fin : ∀ a w, Still ops a0 a → (∀ j d, (ops[j]?).bind (·.dst) = some d → T j (a.tmps.getD d undef) w) → (∀ j o, ops[j]? = some o → o.dst = none → T j (a.tmps.getD (sl j) undef) w) → W w → Q .normal a w) :
    (Code.region id ops true).wp P Q a0 w := by
  refine wp_region_any hm (typed_soundS hsafe hw hT step fin ops.size _ a0 w.drew ?_ (by simp) ⟨⟨rfl, rfl, fun _ _ => rfl⟩, fun j d hl hd => ?_, h0, fun j oj hj _ hl => ?_, fun j oj hj hl => ?_⟩)
  · unfold missing
    exact Nat.le_trans List.countP_le_length (by simp)
  · exfalso
    rcases Nat.lt_or_ge j ops.size with h | h
    · simp [Array.getD_eq_getD_getElem?, h] at hl
    · rw [Array.getElem?_eq_none h] at hd
      cases hd
  · exfalso
    have hjs := (Array.getElem?_eq_some_iff.1 hj).1
    simp [Array.getD_eq_getD_getElem?, hjs] at hl
  · exfalso
    have hjs := (Array.getElem?_eq_some_iff.1 hj).1
    simp [Array.getD_eq_getD_getElem?, hjs] at hl

theorem does_wpOpS {j : Nat} {o : Oper} {ρ : Tmp → Value} {a : Act} {w : World} (hi : ops[j]? = some o) (hsel : ∀ cs b, o.op ≠ .select cs b) (hr : ∀ t ∈ reads o, a.tmps.getD t undef = ρ t)
    (hg : Region.wanted o (yielded ops a.tmps) = true) (hs : o.dst = none → a.tmps.getD (sl j) undef = ρ (sl j)) (h : Does P o ρ w fun v w' => T j (match o.dst with | some _ => v | none => ρ (sl j)) w' ∧ W w' ∧ R w w') : wpOp P ops Q j (LeavesS sl R T W j o a w) a w := by
  have he : execOp a.eval o = execOp (evalR ρ) o := execOp_congr o hsel fun x hx => by
    cases x with
    | tmp t => exact hr t (List.mem_filterMap.2 ⟨.tmp t, by simpa using hx, rfl⟩)
    | _ => rfl
  have hk : ∀ v, (match o.dst with | some _ => v | none => ρ (sl j)) = keyS sl j o a v := fun v => by
    unfold keyS
    cases hd : o.dst with
    | none => exact (hs hd).symm
    | some _ => rfl
  simp only [hk] at h
  unfold wpOp
  simp only [hi, hg, if_true]
  refine .inl ?_
  unfold Oper.wp Does at *
  rw [he]
  generalize (execOp (evalR ρ) o).run P w = r at *
  cases r with
  | ok n w' =>
    cases n <;> simp only [Oper.upon] at h ⊢
    case value v => exact ⟨v, rfl, h.1, h.2.1, h.2.2⟩
    case skip => exact ⟨undef, rfl, h.1, h.2.1, h.2.2⟩
    case enter f args =>
      refine Calls.mono h fun e w'' he => ?_
      obtain ⟨v, rfl, h1, h2, h3⟩ := he
      exact ⟨v, rfl, h1, h2, h3⟩
  | halt x w' => exact h.elim

/-- one operation -/
def StepOkS (sl : Nat → Nat) (R : World → World → Prop) (P : Program) (ops : Array Oper) (a0 : Act) (T : Nat → Value → World → Prop) (W : World → Prop) (j : Nat) (o : Oper) : Prop :=
  ∀ ρ w, (∀ t ∈ reads o, Fact ops a0 T t (ρ t) w) → W w → Does P o ρ w fun v w' => T j (match o.dst with | some _ => v | none => ρ (sl j)) w' ∧ W w' ∧ R w w'
/-- THE LAW, operation by operation -/
theorem wp_region_stepsS {id : Nat} {w : World} (sl : Nat → Nat) (hsafe : safeS ops sl = true) (T : Nat → Value → World → Prop) (W : World → Prop) (hm : P.follows .mixedOrders = true) (hw : wellOrderedS ops a0.tmps.size = true) (hcov : covered ops = true) (hs : Region.noSelect ops = true)
    (hT : ∀ j v w w', T j v w → R w w' → T j v w') (h0 : W w.drew)
    (gs : List Nat) (hguard : ops.all (fun o => match o.guard with
      | none => true
      | some (g, b) => b && gs.contains g) = true)
    (htrue : ∀ g ∈ gs, ∀ v w, T g v w → v = .bool true)
    (steps : Steps (StepOkS sl R P ops a0 T W) 0 ops.toList)
    (fin : ∀ a w, Still ops a0 a → (∀ j d, (ops[j]?).bind (·.dst) = some d → T j (a.tmps.getD d undef) w) → (∀ j o, ops[j]? = some o → o.dst = none → T j (a.tmps.getD (sl j) undef) w) → W w → Q .normal a w) :
    (Code.region id ops true).wp P Q a0 w := by
  refine wp_region_typedS sl hsafe T W hm hw hT h0 (fun j o ho a w1 hst ha hW => ?_) fin
  have hc := Array.all_eq_true_iff_forall_mem.1 hcov o (Array.mem_of_getElem? ho)
  simp only [Bool.and_eq_true] at hc
  have wait : ∀ i d, waits o i = true → (ops[i]?).bind (·.dst) = some d → T i (a.tmps.getD d undef) w1 := fun i d hwt hd => by
    unfold waits at hwt
    obtain ⟨e, he, h1⟩ := Array.any_eq_true'.1 hwt
    simp only [Bool.and_eq_true, beq_iff_eq] at h1
    obtain ⟨rfl, h2⟩ := h1
    exact ha e he h2 d hd
  have hst1 := steps.at j o (by simpa using ho)
  rw [Nat.zero_add] at hst1
  refine does_wpOpS ho (fun cs b => Region.noSelect_spec hs j o cs b ho) (ρ := fun t => a.tmps.getD t undef) (fun t _ => rfl) ?_ (fun _ => rfl) (hst1 _ w1 (fun t ht => ?_) hW)
  · unfold Region.wanted
    cases hgd : o.guard with
    | none => rfl
    | some gb =>
      obtain ⟨g, b⟩ := gb
      have hb := Array.all_eq_true_iff_forall_mem.1 hguard o (Array.mem_of_getElem? ho)
      rw [hgd] at hb
      have hb : (b && gs.contains g) = true := hb
      simp only [Bool.and_eq_true] at hb
      obtain ⟨rfl, hgs⟩ := hb
      have hc2 := hc.2
      rw [hgd] at hc2
      simp only [Bool.and_eq_true] at hc2
      obtain ⟨d, hd⟩ := Option.isSome_iff_exists.1 hc2.2
      have hv := htrue g (by simpa using hgs) _ _ (wait g d hc2.1 hd)
      have : yielded ops a.tmps g = some true := by
        unfold yielded
        rw [hd]
        simp only [Option.bind_some]
        rcases Nat.lt_or_ge d a.tmps.size with h | h
        · simp only [Array.getD_eq_getD_getElem?, Array.getElem?_eq_getElem h, Option.getD_some] at hv
          rw [Array.getElem?_eq_getElem h, hv]
        · simp only [Array.getD_eq_getD_getElem?, Array.getElem?_eq_none h, Option.getD_none] at hv
          cases hv
      show (yielded ops a.tmps g == some true) = true
      rw [this]
      rfl
  · have h1 := List.all_eq_true.1 hc.1 t ht
    unfold Fact
    cases hsrc : srcOf ops t with
    | none =>
      refine hst.slot t ?_
      rw [Array.all_eq_true_iff_forall_mem]
      intro o' ho'
      obtain ⟨i, hi, rfl⟩ := Array.mem_iff_getElem.1 ho'
      unfold srcOf at hsrc
      have := List.find?_eq_none.1 hsrc i (List.mem_range.2 hi)
      rw [Array.getElem?_eq_getElem hi] at this
      simpa using this
    | some i =>
      rw [hsrc] at h1
      refine wait i t h1 ?_
      unfold srcOf at hsrc
      simpa using List.find?_some hsrc

end
end Go.Proofs.Ytgaadndhecokfaa.Rl
