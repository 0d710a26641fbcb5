/- LvPEx, LvKv, LvTk, FuFar, put together. -/
import Derived.Test.YtnjjbaodfjmiaaaGreatLt37
import Derived.Test.YtnjjbaodfjmiaaaGreatLt06
import Derived.Test.YtnjjbaodfjmiaaaGreatLt23
import Derived.Test.YtnjjbaodfjmiaaaGreatLt29
import Derived.Test.YtnjjbaodfjmiaaaGreatLt36
import Derived.Test.YtnjjbaodfjmiaaaGreatLt17
import Derived.Test.YtnjjbaodfjmiaaaGreatLt19
/- Contract of the program's Example. -/
namespace Go.Proofs.YtnjjbaodfjmiaaaGreat
open Go.RowKit Go.Lib Go.Joins

/-- where no state that was met has the label -/
structure ExJ (base : Nat) (w : World) (DB TB XB YB : Nat) (D : DfaM) (t : Int) (vn vl : Value) (pre : List Vis) (W : World) : Prop where
  d : DfaAt W DB D.cls D.width vn vl
  tb : Boxed W TB 3 (.int .i64 t)
  x : Boxed W XB 9 (.string ⟨#[]⟩)
  y : Boxed W YB 4 (.bool false)
  b : Below base w W
  s : base ≤ W.heap.size
  n : ∀ x ∈ pre, D.label.getD x.1 0 ≠ t
/-- where one has it -/
structure ExP (base : Nat) (w : World) (XB YB : Nat) (D : DfaM) (t : Int) (W : World) : Prop where
  f : ∃ u, firstV D t (visA D) = some u ∧ Boxed W XB 9 (strOf u)
  y : Boxed W YB 4 (.bool true)
  b : Below base w W
  s : base ≤ W.heap.size
theorem firstV_at {D : DfaM} {t : Int} {pre : List Vis} {x : Vis} {V : List Vis} (h : pre ++ [x] <+: V) (hn : ∀ x ∈ pre, D.label.getD x.1 0 ≠ t) (hx : D.label.getD x.1 0 = t) : firstV D t V = some x.2 := by
  obtain ⟨r, rfl⟩ := h
  have h1 : (pre.find? fun x => decide (D.label.getD x.1 0 = t)) = none := List.find?_eq_none.2 fun x hx => by simpa using hn x hx
  unfold firstV
  rw [List.append_assoc, List.find?_append, h1, Option.none_or, List.singleton_append, List.find?_cons_of_pos (by exact decide_eq_true hx)]
  rfl
theorem firstV_none {D : DfaM} {t : Int} {V : List Vis} (hn : ∀ x ∈ V, D.label.getD x.1 0 ≠ t) : firstV D t V = none := by
  unfold firstV
  rw [List.find?_eq_none.2 fun x hx => by simpa using hn x hx]
  rfl
set_option maxHeartbeats 8000000 in
set_option maxRecDepth 100000 in
theorem ex1_calls {w W : World} {base DB TB XB YB n s : Nat} {t : Int} {u : List Nat} {pre : List Vis} {bv ov vn vl : Value} {D : DfaM} (hj : ExJ base w DB TB XB YB D t vn vl pre W) (hp : pre ++ [(s, u)] <+: visA D) (hs : s < D.label.length) (hlo : base ≤ XB ∧ base ≤ YB) (hn : XB < n ∧ YB < n) (hne : XB ≠ YB) (hl : RdZ base w vl D.label) (hw : WordAt W bv ov u) (hu : ∀ b ∈ u, b < 256) (hul : u.length ≤ 100000) :
    Calls Tryz.prog 33 (#[.int .i64 (s : Nat), .agg #[bv, ov]] ++ #[.pointer (some ⟨DB, 0, none⟩), .pointer (some ⟨TB, 0, none⟩), .pointer (some ⟨XB, 0, none⟩), .pointer (some ⟨YB, 0, none⟩)]) W (SeeR n W (ExJ base w DB TB XB YB D t vn vl (pre ++ [(s, u)])) (ExP base w XB YB D t)) := by
  obtain ⟨hd, ht, hx, hy, hB, hbs, hnn⟩ := hj
  obtain ⟨x, a, k, c, rfl, rfl⟩ := hw.form
  obtain ⟨al, cl, rfl⟩ := hl.form
  obtain ⟨ln, hln⟩ : ∃ m, m = D.label.length := ⟨_, rfl⟩
  have hb1 : Below W.heap.size W (W.alloc (.cells #[.pointer x, .slice a k c] 52)) := (Below.refl _ _).alloc (Nat.le_refl _) _
  have hB1 := hB.alloc hbs (.cells #[.pointer x, .slice a k c] 52)
  obtain ⟨b9, o9, hal, hb9, q9⟩ := hl.atZ hB1 s hs
  subst hal
  have HD := hidden (hd.below hb1)
  have HT := hidden (show Boxed (W.alloc (.cells #[.pointer x, .slice a k c] 52)) TB 3 (.int .i64 t) from (hb1.block _ ht.lt).trans ht)
  have HX := hidden (show Boxed (W.alloc (.cells #[.pointer x, .slice a k c] 52)) XB 9 (.string ⟨#[]⟩) from (hb1.block _ hx.lt).trans hx)
  have HY := hidden (show Boxed (W.alloc (.cells #[.pointer x, .slice a k c] 52)) YB 4 (.bool false) from (hb1.block _ hy.lt).trans hy)
  have HS0 := hidden (SeeF.of_below (n := n) hb1)
  have HBB := hidden hB1
  have HBS := hidden (show base ≤ (W.alloc (.cells #[.pointer x, .slice a k c] 52)).heap.size by simp; omega)
  have HWD := hidden (hw.mono (KeepW.of_below hb1))
  have hTW : TwoAt 52 (W.alloc (.cells #[.pointer x, .slice a k c] 52)) W.heap.size (.pointer x) (.slice a k c) := TwoAt.new _ _ _ _
  obtain ⟨lx, hlx⟩ : ∃ y, y = D.label.getD s 0 := ⟨_, rfl⟩
  have hsl : (s : Int) < (ln : Int) := by omega
  rw [← hln] at HD
  rw [← hlx] at q9
  have HLE := hidden hln
  have HLX := hidden hlx
  have d1 := HD.out.label
  have t0 := HT.out.cell
  have g0 := hTW.cell0
  have g1 := hTW.cell1
  obtain ⟨W1, hW1⟩ : ∃ W1, W1 = W.alloc (.cells #[.pointer x, .slice a k c] 52) := ⟨_, rfl⟩
  have HW1 := hidden hW1
  have e1 := (show (W.alloc (.cells #[.pointer x, .slice a k c] 52)).drew.cell? ⟨DB, 258, none⟩ = some (.slice (some ⟨b9, o9, none⟩) ln cl) from d1)
  have e2 := (show (W.alloc (.cells #[.pointer x, .slice a k c] 52)).drew.cell? ⟨TB, 0, none⟩ = some (.int .i64 t) from t0)
  have e3 := (show (W.alloc (.cells #[.pointer x, .slice a k c] 52)).drew.cell? ⟨b9, o9 + s, none⟩ = some (.int .i64 lx) from q9)
  show Calls Tryz.prog 33 #[.int .i64 (s : Nat), .agg #[.pointer x, .slice a k c], .pointer (some ⟨DB, 0, none⟩), .pointer (some ⟨TB, 0, none⟩), .pointer (some ⟨XB, 0, none⟩), .pointer (some ⟨YB, 0, none⟩)] W _
  by_cases hx1 : lx = t
  · subst hx1
    have q1 : (lx == lx) = true := by simp
    have q2 : (lx != lx) = false := by simp
    have q3 : decide (lx = lx) = true := by simp
    have HFV := hidden (firstV_at hp hnn HLX.out.symm)
    rw [← hW1] at HD HT HX HY HS0 HBB HBS HWD hTW
    have hbd : Below W1.heap.size W1 W1.drew := (Below.refl _ _).drew
    clear hd ht hx hy hB hbs hw hl hb1 hB1 hln hlx hnn hp hW1 e1 e2 e3
    have HTW := hidden hTW
    go_enter Tryz.func33, Tryz.ntmps33
    go_wp2_with fail
    rw [← HW1.out] at d1 t0 q9 g0 g1 ⊢
    have e1 := (show W1.drew.cell? ⟨DB, 258, none⟩ = some (.slice (some ⟨b9, o9, none⟩) ln cl) from d1)
    have e2 := (show W1.drew.cell? ⟨TB, 0, none⟩ = some (.int .i64 lx) from t0)
    have e3 := (show W1.drew.cell? ⟨b9, o9 + s, none⟩ = some (.int .i64 lx) from q9)
    go_region_law (fail)
    all_goals
      have HXd := hidden (show Boxed W1.drew XB 9 (.string ⟨#[]⟩) from HX.out)
      have HYd := hidden (show Boxed W1.drew YB 4 (.bool false) from HY.out)
      have HWDd := hidden (HWD.out.mono (KeepW.drew W1))
      have HBd := hidden (HBB.out.drew)
      have HBSd := hidden (show base ≤ W1.drew.heap.size from HBS.out)
      have HSd := hidden (HS0.out.trans (SeeF.of_below hbd))
      have k0 := (show W1.drew.cell? ⟨W.heap.size, 0, none⟩ = some (.pointer x) from g0)
      have k1 := (show W1.drew.cell? ⟨W.heap.size, 1, none⟩ = some (.slice a k c) from g1)
      clear e1 e2 e3 d1 t0 q9 g0 g1 hbd hTW HTW HWD HX HY HBB HBS HS0 HD HT HW1
      generalize W1.drew = wf at *
      go_wp2_with fail
      refine (text_calls HWDd.out hu hul).mono ?_
      rintro e w5 ⟨rfl, hb5⟩
      obtain ⟨sd, hsd⟩ : ∃ sd, strOf u = .string sd := ⟨_, rfl⟩
      rw [hsd]
      have HX5 := hidden (show Boxed w5 XB 9 (.string ⟨#[]⟩) from (hb5.block _ HXd.out.lt).trans HXd.out)
      have HY5 := hidden (show Boxed w5 YB 4 (.bool false) from (hb5.block _ HYd.out.lt).trans HYd.out)
      have HB5 := hidden (below_then HBd.out HBSd.out hb5)
      have HY6 := hidden (show Boxed (w5.setCell ⟨XB, 0, none⟩ (.string sd)) YB 4 (.bool false) from (heap_setCell_other _ _ _ _ hne.symm).trans HY5.out)
      have x0 := HX5.out.cell
      have x1 := HX5.out.frozen
      have y0 := HY6.out.cell
      have y1 := HY6.out.frozen
      have HPF := hidden (show ExP base w XB YB D lx ((w5.setCell ⟨XB, 0, none⟩ (.string sd)).setCell ⟨YB, 0, none⟩ (.bool true)) from
        ⟨⟨u, HFV.out, by rw [hsd]; exact (heap_setCell_other _ _ _ _ hne).trans (HX5.out.set _)⟩, HY6.out.set _, (HB5.out.setCell (p := ⟨XB, 0, none⟩) hlo.1 _).setCell (p := ⟨YB, 0, none⟩) hlo.2 _, by have := HBSd.out; have := hb5.size; simp; omega⟩)
      have HSF := hidden (show SeeF n W ((w5.setCell ⟨XB, 0, none⟩ (.string sd)).setCell ⟨YB, 0, none⟩ (.bool true)) from
        ((HSd.out.trans (SeeF.of_below hb5)).trans (SeeF.grown (setCell_grown w5 XB 0 _) fun k e => by
          obtain rfl := Option.some.inj e
          exact ⟨_, _, _, HX5.out, .inl hn.1, by decide, by decide⟩)).trans (SeeF.grown (setCell_grown _ YB 0 _) fun k e => by
          obtain rfl := Option.some.inj e
          exact ⟨_, _, _, HY6.out, .inl hn.2, by decide, by decide⟩))
      clear hsd hb5 k0 k1
      go_wp2
      go_ret
      exact ⟨HSF.out, .inr ⟨rfl, HPF.out⟩⟩
  · have q1 : (lx == t) = false := by simpa using hx1
    have q2 : (lx != t) = true := by simpa using hx1
    have q3 : decide (lx = t) = false := by simpa using hx1
    have HJ := hidden (show ExJ base w DB TB XB YB D t vn (.slice (some ⟨b9, o9, none⟩) D.label.length cl) (pre ++ [(s, u)]) (W.alloc (.cells #[.pointer x, .slice a k c] 52)).drew from
      ⟨by rw [← hln]; exact HD.out, HT.out, HX.out, HY.out, HBB.out.drew, HBS.out, fun z hz => by
        rcases List.mem_append.1 hz with h | h
        · exact hnn z h
        · simp only [List.mem_singleton] at h
          subst h
          rw [← HLX.out]
          exact hx1⟩)
    have HSF := hidden (HS0.out.trans (SeeF.of_below (show Below (W.alloc (.cells #[.pointer x, .slice a k c] 52)).heap.size _ (W.alloc (.cells #[.pointer x, .slice a k c] 52)).drew from (Below.refl _ _).drew)))
    rw [← hW1] at HJ HSF
    clear hd ht hx hy hB hbs hw hl hb1 hB1 hln hlx hx1 hnn hp hW1 e1 e2 e3 hTW g0 g1
    go_enter Tryz.func33, Tryz.ntmps33
    go_wp2_with fail
    rw [← HW1.out] at d1 t0 q9 ⊢
    have e1 := (show W1.drew.cell? ⟨DB, 258, none⟩ = some (.slice (some ⟨b9, o9, none⟩) ln cl) from d1)
    have e2 := (show W1.drew.cell? ⟨TB, 0, none⟩ = some (.int .i64 t) from t0)
    have e3 := (show W1.drew.cell? ⟨b9, o9 + s, none⟩ = some (.int .i64 lx) from q9)
    go_region_law (fail)
    all_goals
      generalize W1.drew = wf at *
      go_wp2
      go_ret
      exact ⟨HSF.out, .inl ⟨rfl, HJ.out⟩⟩
theorem vis_short {D : DfaM} (hR : rightD D = true) : ∀ (i : Nat) (x : Vis), (visA D)[i]? = some x → x.2.length ≤ i := by
  obtain ⟨_, _, H⟩ := vis_done hR
  intro i
  induction i using Nat.strongRecOn with
  | _ i ih =>
    intro x hx
    rcases H.cand x (List.mem_of_getElem? hx) with e | ⟨k, y, d, hy, _, _, e⟩
    · rw [e]; exact Nat.zero_le _
    · have hl : x.2.length = y.2.length + 1 := by rw [e]; simp
      have hki : k < i := by
        by_cases h : k < i
        · exact h
        · exfalso
          by_cases h2 : k = i
          · subst h2
            rw [hx] at hy
            obtain rfl := Option.some.inj hy
            omega
          · obtain ⟨h3, h4⟩ := List.getElem?_eq_some_iff.1 hx
            obtain ⟨h5, h6⟩ := List.getElem?_eq_some_iff.1 hy
            have := List.pairwise_iff_getElem.1 H.sorted i k h3 h5 (by omega)
            rw [h4, h6] at this
            rcases this with h | h <;> omega
      have := ih k hki y hy
      omega
theorem vis_short' {D : DfaM} (hR : rightD D = true) {x : Vis} (hx : x ∈ visA D) : x.2.length ≤ D.next.length := by
  obtain ⟨i, hi⟩ := List.getElem?_of_mem hx
  have h1 := vis_short hR i x hi
  have h2 := (List.getElem?_eq_some_iff.1 hi).1
  have h3 := visA_len hR
  omega
/-- what the program's Example answers -/
def exV (D : DfaM) (t : Int) : Option (List Nat) := if 0 ≤ t ∧ rightD D = true then firstV D t (visA D) else none
def exR (o : Option (List Nat)) : Value := .tuple #[strOf (o.getD []), .bool o.isSome]
set_option maxHeartbeats 8000000 in
set_option maxRecDepth 100000 in
theorem lexample_calls {w : World} {vn vl : Value} {D : DfaM} (t : Int) (h : RdDfa w.heap.size w vn vl D) (hN : D.next.length ≤ 1000) :
    Calls Tryz.prog 17 #[dfaA D.cls D.width vn vl, .int .i64 t] w fun e w' => e = .returned (exR (exV D t)) ∧ Below w.heap.size w w' := by
  have HR := hidden (fun w' (hb : Below w.heap.size w w') => right14_calls (h.below hb hb.size))
  have HD := hidden h
  have HNN := hidden hN
  have hbx := run_box_dfa D.cls D.width vn vl
  have HX := hidden ((DfaAt.new w D.cls D.width vn vl).alloc (.cells #[.int .i64 t] 3))
  have HB0 := hidden (((Below.refl w.heap.size w).alloc (Nat.le_refl _) (.cells (dfaC D.cls D.width vn vl) 26)).alloc (by simp) (.cells #[.int .i64 t] 3))
  have HTB := hidden (show Boxed ((w.alloc (.cells (dfaC D.cls D.width vn vl) 26)).alloc (.cells #[.int .i64 t] 3)) (w.heap.size + 1) 3 (.int .i64 t) from by
    have := Boxed.new (w.alloc (.cells (dfaC D.cls D.width vn vl) 26)) 3 (.int .i64 t)
    simpa using this)
  clear h hN
  by_cases ht : t < 0
  · have HV := hidden (show exV D t = none by unfold exV; rw [if_neg (by omega)])
    have q1 : decide (t < 0) = true := decide_eq_true ht
    clear ht
    go_enter Tryz.func17, Tryz.ntmps17
    go_wp2
    exact bodyPost_ret (results_tmp2 rfl _ _ _) rfl ⟨by rw [HV.out]; rfl, HB0.out⟩
  · have q1 : decide (t < 0) = false := decide_eq_false ht
    have HT0 := hidden ht
    clear ht
    go_enter Tryz.func17, Tryz.ntmps17
    go_wp2_with fail
    refine wp_load_any (x := .tmp 2) rfl rfl (run_load_dfa HX.out) ?_
    go_wp2_with fail
    refine (HR.out _ HB0.out).mono ?_
    rintro e w1 ⟨rfl, hb1⟩
    have HX1 := hidden (HX.out.below hb1)
    have HTB1 := hidden (show Boxed w1 (w.heap.size + 1) 3 (.int .i64 t) from (hb1.block _ HTB.out.lt).trans HTB.out)
    have HB1 := hidden (below_then HB0.out HB0.out.size hb1)
    clear hb1
    cases hr : rightD D with
    | false =>
      have HV := hidden (show exV D t = none by unfold exV; rw [if_neg (by simp [hr])])
      clear hr
      go_wp2
      exact bodyPost_ret (results_tmp2 rfl _ _ _) rfl ⟨by rw [HV.out]; rfl, HB1.out⟩
    | true =>
      have HV := hidden (show exV D t = firstV D t (visA D) by unfold exV; rw [if_pos ⟨by have := HT0.out; omega, hr⟩])
      have HRT := hidden hr
      clear hr
      have hl1 := HX1.out.lt
      have hl2 := HTB1.out.lt
      have HB2 := hidden (HB1.out.alloc HB1.out.size (.cells #[.string ⟨#[]⟩] 9))
      have HB3 := hidden (HB2.out.alloc HB2.out.size (.cells #[.bool false] 4))
      have HX3 := hidden ((HX1.out.alloc (.cells #[.string ⟨#[]⟩] 9)).alloc (.cells #[.bool false] 4))
      have HT3 := hidden (show Boxed ((w1.alloc (.cells #[.string ⟨#[]⟩] 9)).alloc (.cells #[.bool false] 4)) (w.heap.size + 1) 3 (.int .i64 t) from (HTB1.out.alloc _).alloc _)
      have HS3 := hidden (show Boxed ((w1.alloc (.cells #[.string ⟨#[]⟩] 9)).alloc (.cells #[.bool false] 4)) w1.heap.size 9 (.string ⟨#[]⟩) from (Boxed.new _ _ _).alloc _)
      have HY3 := hidden (show Boxed ((w1.alloc (.cells #[.string ⟨#[]⟩] 9)).alloc (.cells #[.bool false] 4)) (w1.heap.size + 1) 4 (.bool false) from by
        have := Boxed.new (w1.alloc (.cells #[.string ⟨#[]⟩] 9)) 4 (.bool false)
        simpa using this)
      have HZ3 := hidden (show ((w1.alloc (.cells #[.string ⟨#[]⟩] 9)).alloc (.cells #[.bool false] 4)).heap.size = w1.heap.size + 1 + 1 by simp)
      have hwl : w.heap.size ≤ w1.heap.size := HB1.out.size
      go_wp2_with fail
      refine wp_load_any (x := .tmp 2) rfl rfl (run_load_dfa HX3.out) ?_
      obtain ⟨w3, hw3⟩ : ∃ w3, w3 = (w1.alloc (.cells #[.string ⟨#[]⟩] 9)).alloc (.cells #[.bool false] 4) := ⟨_, rfl⟩
      rw [← hw3] at HB3 HX3 HT3 HS3 HY3 HZ3 ⊢
      obtain ⟨XB, hXB⟩ : ∃ b, b = w1.heap.size := ⟨_, rfl⟩
      rw [← hXB] at HS3 HY3 HZ3 hl1 hl2 hwl ⊢
      have hz := HZ3.out
      have HD3 := hidden (HD.out.below HB3.out (Nat.le_refl _))
      have HJ0 := hidden (show ExJ w.heap.size w3 w.heap.size (w.heap.size + 1) XB (XB + 1) D t vn vl [] w3 from ⟨HX3.out, HT3.out, HS3.out, HY3.out, Below.refl _ _, by omega, fun x hx => by cases hx⟩)
      clear hw3 hXB hbx
      go_wp2_with fail
      refine (each_calls (ExJ w.heap.size w3 w.heap.size (w.heap.size + 1) XB (XB + 1) D t vn vl) (ExP w.heap.size w3 XB (XB + 1) D t) (caps := #[.pointer (some ⟨w.heap.size, 0, none⟩), .pointer (some ⟨w.heap.size + 1, 0, none⟩), .pointer (some ⟨XB, 0, none⟩), .pointer (some ⟨XB + 1, 0, none⟩)]) HRT.out HNN.out HD.out.small (m0 := w.heap.size) HD3.out (by omega) (fun _ _ hj => hj.b) ?_ HJ0.out ?_ ?_).mono ?_
      · rintro pre W W' hj hE
        exact ⟨(hE.block _ hj.d.lt (.inl (by omega))).trans hj.d, (hE.block _ hj.tb.lt (.inl (by omega))).trans hj.tb, (hE.block _ hj.x.lt (.inl (by omega))).trans hj.x, (hE.block _ hj.y.lt (.inl (by omega))).trans hj.y, below_join hj.b (hE.below (by omega) hj.b.size), Nat.le_trans hj.s hE.size, hj.n⟩
      · exact fun args W => Go.MuLone.run_callFunc_enter Tryz.func33 (by kernel_rfl) rfl args W
      · intro pre x W bv ov hp hj hw hnsz
        have hm := hp.subset (List.mem_append_right pre (List.mem_singleton.2 rfl))
        have hle := vis_sound HRT.out x hm
        have hin := hle.lt HRT.out
        have hll := (rightD_spec HRT.out).2.2.2.1
        have hul := vis_short' HRT.out hm
        have := HNN.out
        exact ex1_calls hj hp (by omega) ⟨by omega, by omega⟩ ⟨by omega, by omega⟩ (by omega) HD3.out.label hw hle.1 (by omega)
      · rintro e W ⟨rfl, hj | hp⟩
        · have HO := hidden (show exV D t = none by rw [HV.out]; exact firstV_none hj.n)
          have HBE := hidden (below_join HB3.out hj.b)
          have x0 := hj.x.cell
          have y0 := hj.y.cell
          have x1 := (show W.drew.cell? ⟨XB, 0, none⟩ = some (.string ⟨#[]⟩) from x0)
          have y1 := (show W.drew.cell? ⟨XB + 1, 0, none⟩ = some (.bool false) from y0)
          clear hj
          go_wp2_with fail
          go_region_law (fail)
          all_goals
            have HBF := hidden (HBE.out.drew)
            generalize W.drew = wf at *
            go_wp2
            exact bodyPost_ret (results_tmp2 rfl _ _ _) rfl ⟨by rw [HO.out]; rfl, HBF.out⟩
        · obtain ⟨⟨u, hf, hbx⟩, hy, hb, hs⟩ := hp
          have HO := hidden (show exV D t = some u by rw [HV.out]; exact hf)
          have HBE := hidden (below_join HB3.out hb)
          obtain ⟨sd, hsd⟩ : ∃ sd, strOf u = .string sd := ⟨_, rfl⟩
          rw [hsd] at hbx
          have HSD := hidden hsd
          have x0 := hbx.cell
          have y0 := hy.cell
          have x1 := (show W.drew.cell? ⟨XB, 0, none⟩ = some (.string sd) from x0)
          have y1 := (show W.drew.cell? ⟨XB + 1, 0, none⟩ = some (.bool true) from y0)
          clear hf hbx hy hb hs hsd
          go_wp2_with fail
          go_region_law (fail)
          all_goals
            have HBF := hidden (HBE.out.drew)
            generalize W.drew = wf at *
            go_wp2
            exact bodyPost_ret (results_tmp2 rfl _ _ _) rfl ⟨by rw [HO.out]; unfold exR; rw [show strOf ((some u).getD []) = .string sd from HSD.out]; rfl, HBF.out⟩
end Go.Proofs.YtnjjbaodfjmiaaaGreat

/- The chapter's machines: what the model answers at them, by the kernel. -/
namespace Go.Proofs.YtnjjbaodfjmiaaaGreat
open Go.RowKit Go.Lib Go.Joins

def kbL : List Stp := [sStp (clR false 98 100), kStp 6, bS 99, kStp 3]
def kaL : List Stp := [bS 97]
def kcL : List Stp := [bS 97, sStp (clR true 0 255), kStp 3]
def k1T : List (List Stp) := [kbL]
def k2T : List (List Stp) := [kaL, kcL]
theorem k1_len : (machB (fuseM k1T) 50).next.length = 3 := by decide +kernel
theorem k2_len : (machB (fuseM k2T) 50).next.length = 2 := by decide +kernel
theorem k1_ex : exV (machB (fuseM k1T) 50) 0 = some [98, 99] := by decide +kernel
theorem k2_trim : (trimM (machB (fuseM k2T) 50)).next.length = 2 := by decide +kernel
theorem k2_tok : tokM (trimM (machB (fuseM k2T) 50)) = [0] := by decide +kernel
theorem k1_rows : (∀ i, i < (machB (fuseM k1T) 50).next.length → 2 ≤ ((machB (fuseM k1T) 50).next.getD i []).length) ∧ 2 ≤ (machB (fuseM k1T) 50).label.length := by decide +kernel
theorem k2_rows : (∀ i, i < (machB (fuseM k2T) 50).next.length → 2 ≤ ((machB (fuseM k2T) 50).next.getD i []).length) ∧ 2 ≤ (machB (fuseM k2T) 50).label.length := by decide +kernel
theorem k1_sz : (fuseM k1T).sets.length = 2 ∧ (fuseM k1T).fol.length = 2 ∧ (fuseM k1T).fol.all (fun l => decide (l.length ≤ 1000)) = true := by decide +kernel
theorem k2_sz : (fuseM k2T).sets.length = 3 ∧ (fuseM k2T).fol.length = 3 ∧ (fuseM k2T).fol.all (fun l => decide (l.length ≤ 1000)) = true := by decide +kernel
end Go.Proofs.YtnjjbaodfjmiaaaGreat

/- A row of tokens of the call's own: one more. -/
namespace Go.Proofs.YtnjjbaodfjmiaaaGreat
open Go.RowKit Go.Lib Go.Joins

theorem infoTk : (Tryz.prog.info? 67).map (fun i => (i.zero, i.size, i.bytes)) = some (some (.agg #[.string ⟨#[]⟩, .slice none 0 0, .int .i64 0]), 3, 48) := by kernel_rfl
/-- a row of tokens, of the call's own -/
def Tg (w : World) (T : List (List Stp)) (v : Value) (wr : World) : Prop :=
  ∃ vals : List Value, wr.ownsRow w.heap.size 67 3 v T.length vals ∧ Below w.heap.size w wr ∧ ∀ i, i < T.length → ∃ u, vals[i * 3 + 1]? = some u ∧ SlX (Typed wr) wr u (T.getD i [])
theorem Tg.frame {w : World} {T : List (List Stp)} {v : Value} {wr : World} (h : Tg w T v wr) : Below w.heap.size w wr := by
  obtain ⟨_, _, h, _⟩ := h
  exact h
theorem Tg.below {w : World} {T : List (List Stp)} {v : Value} {wr w' : World} (h : Tg w T v wr) (hb : Below wr.heap.size wr w') : Tg w T v w' := by
  obtain ⟨vals, h1, h2, h3⟩ := h
  refine ⟨vals, ⟨h1.1, ?_⟩, below_then h2 h2.size hb, fun i hi => ?_⟩
  · rcases h1.2 with hn | ⟨g, cap, cur, rfl, hb', hgg, rest⟩
    · exact .inl hn
    · exact .inr ⟨g, cap, cur, rfl, hb', by rw [hb.block g (Array.getElem?_eq_some_iff.1 hgg).1]; exact hgg, rest⟩
  · obtain ⟨u, g1, g2⟩ := h3 i hi
    exact ⟨u, g1, typed_below g2 hb⟩
theorem Tg.nil (w : World) (b : Nat) (hb : b = w.heap.size) (cur : Array Value) (hc : cur = #[]) : Tg w [] (.slice (some ⟨b, 0, none⟩) 0 0) (w.alloc (.cells cur 67)) := by
  subst hb hc
  exact ⟨[], World.ownsRow_lit (e := 67) (size := 3) w #[] 0 (Nat.le_refl _) (by decide) rfl, (Below.refl _ _).alloc (Nat.le_refl _) _, fun i hi => absurd hi (by simp)⟩
theorem Tg.form {w : World} {T : List (List Stp)} {v : Value} {wr : World} (h : Tg w T v wr) : ∃ a c, v = .slice a T.length c := by
  obtain ⟨vals, h1, _, _⟩ := h
  rcases h1.2 with ⟨rfl, h0⟩ | ⟨g, cap, cur, rfl, _⟩
  · exact ⟨none, 0, by rw [h0]⟩
  · exact ⟨_, _, rfl⟩
theorem Tg.toks {w : World} {T : List (List Stp)} {v : Value} {wr : World} (h : Tg w T v wr) : Toks (fun b => b < wr.heap.size) wr v T := by
  obtain ⟨vals, h1, _, h3⟩ := h
  rcases h1.2 with ⟨rfl, h0⟩ | ⟨g, cap, cur, rfl, hb, hgg, g1, g2, _⟩
  · obtain rfl : T = [] := List.eq_nil_of_length_eq_zero h0
    exact ⟨none, 0, rfl, Nat.le_refl _, by decide, fun h => absurd h (by simp)⟩
  · refine ⟨some ⟨g, 0, none⟩, cap, rfl, by omega, g2, fun _ => ⟨g, 0, rfl, (Array.getElem?_eq_some_iff.1 hgg).1, fun i hi => ?_⟩⟩
    obtain ⟨u, q1, q2⟩ := h3 i hi
    exact ⟨u, by rw [Nat.zero_add, World.ownsRow.cellAt h1 (i * 3 + 1) (by omega)]; exact q1, q2.below fun b hb => ⟨typed_lt hb, rfl⟩⟩
/-- one token more -/
theorem app_tg {w0 w : World} {ops : Array Oper} {rest : List Oper} {o : Oper} {a : Act} {Q : Exit → Act → World → Prop} (hgd : o.guard = none) (s x : Operand)
    (ho : o.op = .call { callee := .builtin .append, args := #[s, x], argTypes := #[60, 60] }) {xb : Nat} {v u m y : Value} {T : List (List Stp)} {L : List Stp}
    (hs : a.eval s = v) (hS : Tg w0 T v w) (hx : a.eval x = .slice (some ⟨xb, 0, none⟩) 1 1) (hxb : w.heap[xb]? = some (.cells #[m, u, y] 67 (0, 0))) (hm1 : m.oneCell' = true) (hu1 : u.oneCell' = true) (hy1 : y.oneCell' = true) (hu : SlX (Typed w) w u L) {n : Nat} (hn : T.length = n) (hn2 : n ≤ 1000)
    (h : ∀ g' c' w', Tg w0 (T ++ [L]) (.slice (some ⟨g', 0, none⟩) (n + 1) c') w' → wpList Tryz.prog ops Q rest (a.put o.dst (.slice (some ⟨g', 0, none⟩) (n + 1) c')) w') : wpList Tryz.prog ops Q (o :: rest) a w := by
  subst hn
  obtain ⟨i0, hi, hz0, hz1, hz2⟩ := info_parts infoTk
  obtain ⟨vals, hown, hB, hall⟩ := hS
  refine wpList_append_own w hgd s x 60 ho w0.heap.size 67 i0 _ 3 48 Tryz.underlying60 hi hz0 hz1 hz2 rfl (by decide) _ T.length vals hs hown ⟨xb, 0, none⟩ 1 1 [m, u, y] hx rfl (fun j z hj => ?_) (fun z hz => by simp at hz; rcases hz with rfl | rfl | rfl <;> assumption) (by unfold maxLen; omega) (by omega) hB.size fun v' w' h3 h4 _ => ?_
  · have hj' : j < 3 := by
      have := (List.getElem?_eq_some_iff.1 hj).1
      simpa using this
    rw [Addr.add_lit, cell_of_row w xb _ _ _ _ hxb]
    have e : j = 0 ∨ j = 1 ∨ j = 2 := by omega
    rcases e with rfl | rfl | rfl <;> simpa using hj
  · have hk : ∀ b, Typed w b → w'.heap[b]? = w.heap[b]? := fun b hb => h4.block b (typed_lt hb) fun e => by
      obtain ⟨cur, hc⟩ := hb
      rcases hown.2 with ⟨rfl, _⟩ | ⟨g, cap, cur', rfl, _, hgg, _⟩
      · cases e
      · simp only [Value.ownBlock, Option.some.injEq] at e
        subst e
        rw [hgg] at hc
        simp at hc
    have hlen : vals.length = T.length * 3 := by simpa using hown.1
    have hS' : Tg w0 (T ++ [L]) v' w' := by
      refine ⟨vals ++ [m, u, y], by simpa using h3, hB.grown h4 hB.size fun k e => (hown.lt k e).1, fun i hi => ?_⟩
      by_cases e : i = T.length
      · subst e
        refine ⟨u, by rw [List.getElem?_append_right (by omega), hlen, show T.length * 3 + 1 - T.length * 3 = 1 by omega]; rfl, ?_⟩
        have hg : (T ++ [L]).getD T.length [] = L := by simp [List.getD_eq_getElem?_getD]
        rw [hg]
        exact typed_kept hu hk
      · have hi' : i < T.length := by simp at hi; omega
        obtain ⟨x, g1, g2⟩ := hall i hi'
        have hg : (T ++ [L]).getD i [] = T.getD i [] := by simp [List.getD_eq_getElem?_getD, List.getElem?_append_left hi']
        rw [hg]
        exact ⟨x, by rw [List.getElem?_append_left (by omega)]; exact g1, typed_kept g2 hk⟩
    rcases ownsRow_forms h3 with ⟨_, h0⟩ | ⟨g, c, rfl⟩
    · omega
    · exact h g c w' hS'
end Go.Proofs.YtnjjbaodfjmiaaaGreat

/- What lies far from a net that is built stays as it is; a set, a number, a flag, a list put behind a net's rows. -/
namespace Go.Proofs.YtnjjbaodfjmiaaaGreat
open Go.RowKit Go.Lib Go.Joins
/-- what is far from the net is as it was, and far -/
def FarK (NB : Nat) (w : World) (rs : List R5) (w' : World) (rs' : List R5) : Prop := ∀ k, Far w NB rs k → Far w' NB rs' k ∧ w'.heap[k]? = w.heap[k]?
theorem FarK.refl (NB : Nat) (w : World) (rs : List R5) : FarK NB w rs w rs := fun _ h => ⟨h, rfl⟩
theorem FarK.trans {NB : Nat} {a b c : World} {ra rb rc : List R5} (h : FarK NB a ra b rb) (k : FarK NB b rb c rc) : FarK NB a ra c rc := fun i hi => ⟨(k i (h i hi).1).1, (k i (h i hi).1).2.trans (h i hi).2⟩
theorem FarK.below {NB : Nat} {w w' : World} {rs : List R5} (hb : Below w.heap.size w w') : FarK NB w rs w' rs := fun k hk => ⟨⟨Nat.lt_of_lt_of_le hk.1 hb.size, hk.2⟩, hb.block k hk.1⟩
theorem FarK.put {NB : Nat} {w w' : World} {rs : List R5} (i : Nat) (hi : i < rs.length) (r' : R5) (hg : w.grownBy w' rs[i].v.ownBlock) (hat : r'.v.ownBlock = rs[i].v.ownBlock ∨ r'.v.ownBlock = some w.heap.size) : FarK NB w rs (w'.setCell ⟨NB, i, none⟩ r'.v) (rs.set i r') := fun k hk => by
  obtain ⟨h1, h2⟩ := InO.other i hi r' hg hat hk.1 hk.2
  exact ⟨⟨by have := hg.size; have := hk.1; simp; omega, h2⟩, h1⟩
/-- a net that is built, beside what was far from it in world wA -/
def StF (w0 : World) (base : Nat) (wA : World) (rsA : List R5) (NB : Nat) (N : NetM) (w : World) : Prop :=
  ∃ vs vo vl vf v1 us, NetW w NB base vs vo vl vf v1 us N ∧ FarK NB wA rsA w (rows5 vs vo vl vf v1 us N) ∧ Below base w0 w
section
variable {w w0 w' wA : World} {rsA : List R5} {NB base : Nat} {vs vo vl vf v1 : Value} {us : List Value} {N : NetM}
theorem StF.putS {S' : List Stp} {v' : Value} (h : NetW w NB base vs vo vl vf v1 us N) (hE : FarK NB wA rsA w (rows5 vs vo vl vf v1 us N)) (h0 : Below base w0 w) (hB : base ≤ NB) (hs : base ≤ w.heap.size)
    (hA : Appd w w' base 103 4 vs v' (N.sets.length + S'.length) (N.sets.flatMap setC ++ S'.flatMap setC)) : StF w0 base wA rsA NB { N with sets := N.sets ++ S' } (w'.setCell ⟨NB, 0, none⟩ v') :=
  ⟨_, _, _, _, _, _, h.putS hA.grown (rowS_app hA.own) hA.lies, hE.trans (FarK.put (rs := rows5 vs vo vl vf v1 us N) 0 (by simp [rows5]) ⟨103, 4, v', (N.sets ++ S').length, (N.sets ++ S').flatMap setC⟩ hA.grown hA.lies), put_below h0 hs hA.grown (row_low h.rowS) hB⟩
theorem StF.putO {m : List Int} {v' : Value} (h : NetW w NB base vs vo vl vf v1 us N) (hE : FarK NB wA rsA w (rows5 vs vo vl vf v1 us N)) (h0 : Below base w0 w) (hB : base ≤ NB) (hs : base ≤ w.heap.size)
    (hA : Appd w w' base 3 1 vo v' (N.of.length + m.length) (N.of.map (Value.int .i64) ++ m.map (Value.int .i64))) : StF w0 base wA rsA NB { N with of := N.of ++ m } (w'.setCell ⟨NB, 1, none⟩ v') :=
  ⟨_, _, _, _, _, _, h.putO hA.grown (rowZ_app hA.own) hA.lies, hE.trans (FarK.put (rs := rows5 vs vo vl vf v1 us N) 1 (by simp [rows5]) ⟨3, 1, v', (N.of ++ m).length, (N.of ++ m).map (Value.int .i64)⟩ hA.grown hA.lies), put_below h0 hs hA.grown (row_low h.rowO) hB⟩
theorem StF.putL {m : List Bool} {v' : Value} (h : NetW w NB base vs vo vl vf v1 us N) (hE : FarK NB wA rsA w (rows5 vs vo vl vf v1 us N)) (h0 : Below base w0 w) (hB : base ≤ NB) (hs : base ≤ w.heap.size)
    (hA : Appd w w' base 4 1 vl v' (N.last.length + m.length) (N.last.map Value.bool ++ m.map Value.bool)) : StF w0 base wA rsA NB { N with last := N.last ++ m } (w'.setCell ⟨NB, 2, none⟩ v') :=
  ⟨_, _, _, _, _, _, h.putL hA.grown (rowB_app hA.own) hA.lies, hE.trans (FarK.put (rs := rows5 vs vo vl vf v1 us N) 2 (by simp [rows5]) ⟨4, 1, v', (N.last ++ m).length, (N.last ++ m).map Value.bool⟩ hA.grown hA.lies), put_below h0 hs hA.grown (row_low h.rowL) hB⟩
theorem StF.put1 {m : List Int} {v' : Value} (h : NetW w NB base vs vo vl vf v1 us N) (hE : FarK NB wA rsA w (rows5 vs vo vl vf v1 us N)) (h0 : Below base w0 w) (hB : base ≤ NB) (hs : base ≤ w.heap.size)
    (hA : Appd w w' base 3 1 v1 v' (N.first.length + m.length) (N.first.map (Value.int .i64) ++ m.map (Value.int .i64))) : StF w0 base wA rsA NB { N with first := N.first ++ m } (w'.setCell ⟨NB, 4, none⟩ v') :=
  ⟨_, _, _, _, _, _, h.put1 hA.grown (rowZ_app hA.own) hA.lies, hE.trans (FarK.put (rs := rows5 vs vo vl vf v1 us N) 4 (by simp [rows5]) ⟨3, 1, v', (N.first ++ m).length, (N.first ++ m).map (Value.int .i64)⟩ hA.grown hA.lies), put_below h0 hs hA.grown (row_low h.row1) hB⟩
theorem StF.putF {x : Value} {l : List Int} {v' : Value} (h : NetW w NB base vs vo vl vf v1 us N) (hE : FarK NB wA rsA w (rows5 vs vo vl vf v1 us N)) (h0 : Below base w0 w) (hB : base ≤ NB) (hs : base ≤ w.heap.size)
    (hx : ElR (Far w NB (rows5 vs vo vl vf v1 us N)) w x l) (hA : Appd w w' base 24 1 vf v' (N.fol.length + 1) (us ++ [x])) : StF w0 base wA rsA NB { N with fol := N.fol ++ [l] } (w'.setCell ⟨NB, 3, none⟩ v') := by
  have hR : rows5 vs vo vl v' v1 (us ++ [x]) { N with fol := N.fol ++ [l] } = (rows5 vs vo vl vf v1 us N).set 3 ⟨24, 1, v', N.fol.length + 1, us ++ [x]⟩ := by simp [rows5]
  refine ⟨_, _, _, _, _, _, h.putF hx hA.grown hA.own hA.lies, ?_, put_below h0 hs hA.grown (row_low h.rowF) hB⟩
  rw [hR]
  exact hE.trans (FarK.put (rs := rows5 vs vo vl vf v1 us N) 3 (by simp [rows5]) ⟨24, 1, v', N.fol.length + 1, us ++ [x]⟩ hA.grown hA.lies)
/-- a slice of sets in a block of this kind -/
def ElS (P : Nat → Prop) (w : World) (v : Value) (S : List Stp) : Prop := ∃ a cap, v = .slice a S.length cap ∧ (0 < S.length → ∃ b off, a = some ⟨b, off, none⟩ ∧ P b ∧ ∀ i, i < S.length → w.cell? ⟨b, off + i * 4, none⟩ = some (.int .u64 (S.getD i default).a) ∧ w.cell? ⟨b, off + i * 4 + 1, none⟩ = some (.int .u64 (S.getD i default).b) ∧ w.cell? ⟨b, off + i * 4 + 2, none⟩ = some (.int .u64 (S.getD i default).c) ∧ w.cell? ⟨b, off + i * 4 + 3, none⟩ = some (.int .u64 (S.getD i default).d))
theorem ElS.at {P P' : Nat → Prop} {a : Option Addr} {n c : Nat} {S : List Stp} (h : ElS P w (.slice a n c) S) (hk : ∀ k, P k → P' k ∧ w'.heap[k]? = w.heap[k]?) (i : Nat) (hi : i < S.length) : ∃ b off, a = some ⟨b, off, none⟩ ∧ P' b ∧ w'.cell? ⟨b, off + i * 4, none⟩ = some (.int .u64 (S.getD i default).a) ∧ w'.cell? ⟨b, off + i * 4 + 1, none⟩ = some (.int .u64 (S.getD i default).b) ∧ w'.cell? ⟨b, off + i * 4 + 2, none⟩ = some (.int .u64 (S.getD i default).c) ∧ w'.cell? ⟨b, off + i * 4 + 3, none⟩ = some (.int .u64 (S.getD i default).d) := by
  obtain ⟨a', cap, e, h4⟩ := h
  simp only [Value.slice.injEq] at e
  obtain ⟨rfl, _, _⟩ := e
  obtain ⟨b, off, e, hP, hc⟩ := h4 (by omega)
  obtain ⟨x0, x1, x2, x3⟩ := hc i hi
  exact ⟨b, off, e, (hk b hP).1, (World.cell?_of_block (a := ⟨b, off + i * 4, none⟩) (hk b hP).2).trans x0, (World.cell?_of_block (a := ⟨b, off + i * 4 + 1, none⟩) (hk b hP).2).trans x1, (World.cell?_of_block (a := ⟨b, off + i * 4 + 2, none⟩) (hk b hP).2).trans x2, (World.cell?_of_block (a := ⟨b, off + i * 4 + 3, none⟩) (hk b hP).2).trans x3⟩
theorem RowS.el {B : Nat} {v : Value} {S : List Stp} (h : RowS w B v S) : ElS (fun k => B ≤ k ∧ k < w.heap.size) w v S := by
  have h' := h
  rcases h.2 with ⟨rfl, h0⟩ | ⟨g, cap, cur, rfl, hb, hg, h1, h2, h3, h4⟩
  · exact ⟨none, 0, by rw [h0], fun hp => by omega⟩
  · refine ⟨some ⟨g, 0, none⟩, cap, rfl, fun _ => ⟨g, 0, rfl, ⟨hb, (Array.getElem?_eq_some_iff.1 hg).1⟩, fun i hi => ?_⟩⟩
    have hc : ∀ j, j < 4 → w.cell? ⟨g, i * 4 + j, none⟩ = (setC (S.getD i default))[j]? := fun j hj => by
      rw [World.ownsRow.cellAt h' (i * 4 + j) (by omega)]
      exact flat_set4 S i hi j hj
    rw [Nat.zero_add]
    exact ⟨hc 0 (by omega), hc 1 (by omega), hc 2 (by omega), hc 3 (by omega)⟩
theorem NetW.freshS {B : Nat} {S : List Stp} {u : Value} (h : NetW w NB base vs vo vl vf v1 us N) (hr : RowS w' B u S) (hB : w.heap.size ≤ B) : ElS (Far w' NB (rows5 vs vo vl vf v1 us N)) w' u S := by
  obtain ⟨a, cap, e, h4⟩ := hr.el
  refine ⟨a, cap, e, fun hp => ?_⟩
  obtain ⟨b, off, e, hP, hc⟩ := h4 hp
  exact ⟨b, off, e, ⟨hP.2, fun hI => by have := h.own.ltO hI; omega⟩, hc⟩
theorem ElS.mono {P P' : Nat → Prop} {u : Value} {S : List Stp} (h : ElS P w u S) (hk : ∀ k, P k → P' k ∧ w'.heap[k]? = w.heap[k]?) : ElS P' w' u S := by
  obtain ⟨a, cap, rfl, h4⟩ := h
  refine ⟨a, cap, rfl, fun hp => ?_⟩
  obtain ⟨b, off, e, hP, hc⟩ := h4 hp
  refine ⟨b, off, e, (hk b hP).1, fun i hi => ?_⟩
  obtain ⟨x0, x1, x2, x3⟩ := hc i hi
  exact ⟨(World.cell?_of_block (a := ⟨b, off + i * 4, none⟩) (hk b hP).2).trans x0, (World.cell?_of_block (a := ⟨b, off + i * 4 + 1, none⟩) (hk b hP).2).trans x1, (World.cell?_of_block (a := ⟨b, off + i * 4 + 2, none⟩) (hk b hP).2).trans x2, (World.cell?_of_block (a := ⟨b, off + i * 4 + 3, none⟩) (hk b hP).2).trans x3⟩
end
theorem Src.four (w : World) (x0 x1 x2 x3 : Value) (t : TypeId) (b : Nat) (hb : b = w.heap.size) : Src (w.alloc (.cells #[x0, x1, x2, x3] t)) (.slice (some ⟨b, 0, none⟩) 1 1) 1 [x0, x1, x2, x3] := by
  subst hb
  refine .inr ⟨_, _, rfl, fun j u hj => ?_⟩
  rw [Addr.add_lit, Nat.zero_add, cell_of_row _ _ _ _ _ _ (heap_alloc_new w (.cells #[x0, x1, x2, x3] t))]
  simpa using hj
theorem rspsets_calls {C : Nat → Prop} {v : Value} {L : List Stp} {w : World} (h : SlX C w v L) (hC : ∀ b, C b → b < w.heap.size) (hl : L.length ≤ 512) : Calls Tryz.prog 68 #[v] w (RetS w (setsL L)) := by
  unfold setsL
  by_cases hz : (measV L).2 = 0
  · rw [if_pos hz]
    exact rsets_calls h hC hz hl
  · rw [if_neg hz]
    exact rsets_none h hC hz
/-- behind j rounds of the reference's inner loop -/
def refK (N : NetM) (token : Int) (L : List Stp) (j : Nat) : NetM :=
  ⟨N.sets ++ (setsL L).take j, N.of ++ List.replicate j token, N.last ++ (List.range j).map (fun i : Nat => decide ((i : Int) ∈ spI (elems (prtL L).last))),
    N.fol ++ (List.range j).map (fun i : Nat => mvd (spI (elems (folL i L))) N.sets.length), N.first⟩
theorem refK_more (N : NetM) (token : Int) (L : List Stp) (k : Nat) (hk : k < (setsL L).length) : refK N token L (k + 1) = { { { { refK N token L k with
    sets := (refK N token L k).sets ++ [(setsL L).getD k default] } with of := (refK N token L k).of ++ [token] } with last := (refK N token L k).last ++ [decide ((k : Int) ∈ spI (elems (prtL L).last))] } with fol := (refK N token L k).fol ++ [mvd (spI (elems (folL k L))) N.sets.length] } := by
  simp only [refK, List.range_succ, List.replicate_succ', List.map_append, List.map_cons, List.map_nil, List.append_assoc, NetM.mk.injEq, and_self, and_true]
  rw [List.take_succ_eq_append_getElem hk, List.getD_eq_getElem?_getD, List.getElem?_eq_getElem hk]
  rfl
theorem refK_zero (N : NetM) (token : Int) (L : List Stp) : refK N token L 0 = N := by simp [refK]
theorem refK_all (N : NetM) (token : Int) (L : List Stp) : { refK N token L (setsL L).length with first := (refK N token L (setsL L).length).first ++ mvd (spI (elems (prtL L).first)) N.sets.length } = addM N token L := by
  simp [refK, addM]
end Go.Proofs.YtnjjbaodfjmiaaaGreat
