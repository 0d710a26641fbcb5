/- LvKn, LvRTrim, KiEq, DfSame, put together. -/
import Derived.Test.YtnjjbaodfjmiaaaGreatLt39
import Derived.Test.YtnjjbaodfjmiaaaGreatLt40
import Derived.Test.YtnjjbaodfjmiaaaGreatLt36
import Derived.Test.YtnjjbaodfjmiaaaGreatLt34
import Derived.Deep.RegionLaw
import Derived.Deep.CutRange
import Derived.StillTailTactics
import Derived.Test.YtnjjbaodfjmiaaaGreatLt23
import Derived.Laws.StructEq
import Derived.ChangeKeysEq
import Derived.Handy
import Derived.Test.YtnjjbaodfjmiaaaGreatLt26
/- What the law's knows answers. -/
namespace Go.Proofs.YtnjjbaodfjmiaaaGreat
open Go.RowKit Go.Lib Go.Joins

theorem wide_set (f : Nat → Bool) : (sStp f).wide := by
  have h := fun i => word_lt f i
  exact ⟨⟨Int.natCast_nonneg _, by have := h 0; simp only [sStp]; omega⟩, ⟨Int.natCast_nonneg _, by have := h 1; simp only [sStp]; omega⟩, ⟨Int.natCast_nonneg _, by have := h 2; simp only [sStp]; omega⟩, ⟨Int.natCast_nonneg _, by have := h 3; simp only [sStp]; omega⟩⟩
theorem wide_k (k : Int) : (kStp k).wide := ⟨by simp [kStp], by simp [kStp], by simp [kStp], by simp [kStp]⟩
theorem k1_few : FewT k1T := by
  refine ⟨by decide, fun i => ?_, fun i s hs => ?_⟩
  · match i with
    | 0 => decide
    | _ + 1 => simp [k1T]
  · match i with
    | 0 =>
      simp only [k1T, kbL, List.getD_cons_zero, List.mem_cons, List.not_mem_nil, or_false] at hs
      rcases hs with rfl | rfl | rfl | rfl
      · exact wide_set _
      · exact wide_k _
      · exact wide_set _
      · exact wide_k _
    | _ + 1 => simp [k1T] at hs
theorem k2_few : FewT k2T := by
  refine ⟨by decide, fun i => ?_, fun i s hs => ?_⟩
  · match i with
    | 0 => decide
    | 1 => decide
    | _ + 2 => simp [k2T]
  · match i with
    | 0 =>
      simp only [k2T, kaL, List.getD_cons_zero, List.mem_cons, List.not_mem_nil, or_false] at hs
      subst hs
      exact wide_set _
    | 1 =>
      simp only [k2T, kcL, List.getD_cons_succ, List.getD_cons_zero, List.mem_cons, List.not_mem_nil, or_false] at hs
      rcases hs with rfl | rfl | rfl
      · exact wide_set _
      · exact wide_set _
      · exact wide_k _
    | _ + 2 => simp [k2T] at hs
theorem k1_wide : ∀ s ∈ (fuseM k1T).sets, s.wide := by
  unfold Stp.wide
  decide +kernel
theorem k2_wide : ∀ s ∈ (fuseM k2T).sets, s.wide := by
  unfold Stp.wide
  decide +kernel
theorem fol_few {N : NetM} (ha : N.fol.all (fun l => decide (l.length ≤ 1000)) = true) (i : Nat) : (N.fol.getD i []).length ≤ 1000 := by
  rw [List.getD_eq_getElem?_getD]
  cases e : N.fol[i]? with
  | none => simp
  | some l =>
    have := List.all_eq_true.1 ha l (List.mem_of_getElem? e)
    simpa using this
/-- the first machine -/
theorem of_one (w : World) (b : Nat) (hb : b = w.heap.size) (cur : Array Value) (hc : cur = #[.string kbT]) :
    Calls Tryz.prog 26 #[.slice (some ⟨b, 0, none⟩) 1 1] (w.alloc (.cells cur 9)) (RetD (w.alloc (.cells cur 9)) (machB (fuseM k1T) 50)) := by
  subst hb hc
  obtain ⟨s1, _, s3⟩ := k1_sz
  refine of_calls (ss := [kbT]) (T := k1T) rfl (by decide) (by simp) (fun i hi => ?_) (fun i hi W => ?_) k1_few k1_wide (by omega) (fol_few s3) k1_rows.1 k1_rows.2
  · obtain rfl : i = 0 := by omega
    exact cell_of_row _ _ 0 _ _ _ (heap_alloc_new w _)
  · obtain rfl : i = 0 := by omega
    exact kb_read W
/-- the second machine -/
theorem of_two (w : World) (b : Nat) (hb : b = w.heap.size) (cur : Array Value) (hc : cur = #[.string kaT, .string kcT]) :
    Calls Tryz.prog 26 #[.slice (some ⟨b, 0, none⟩) 2 2] (w.alloc (.cells cur 9)) (RetD (w.alloc (.cells cur 9)) (machB (fuseM k2T) 50)) := by
  subst hb hc
  obtain ⟨s1, _, s3⟩ := k2_sz
  refine of_calls (ss := [kaT, kcT]) (T := k2T) rfl (by decide) (by simp) (fun i hi => ?_) (fun i hi W => ?_) k2_few k2_wide (by omega) (fol_few s3) k2_rows.1 k2_rows.2
  · have hi' : i = 0 ∨ i = 1 := by omega
    rcases hi' with rfl | rfl
    · exact cell_of_row _ _ 0 _ _ _ (heap_alloc_new w _)
    · exact cell_of_row _ _ 1 _ _ _ (heap_alloc_new w _)
  · have hi' : i = 0 ∨ i = 1 := by omega
    rcases hi' with rfl | rfl
    · exact ka_read W
    · exact kc_read W
theorem rz_one (w : World) : RdZ (w.alloc (.cells #[.int .i64 0] 3)).heap.size (w.alloc (.cells #[.int .i64 0] 3)) (.slice (some ⟨w.heap.size, 0, none⟩) 1 1) [0] :=
  ⟨some ⟨w.heap.size, 0, none⟩, 1, rfl, by decide, by decide, (fun e => by cases e), fun _ => ⟨w.heap.size, 0, rfl, by simp, fun i hi => by
    obtain rfl : i = 0 := by simpa using hi
    exact cell_of_row _ _ 0 _ _ _ (heap_alloc_new w _)⟩⟩
set_option maxHeartbeats 8000000 in
set_option maxRecDepth 100000 in
theorem knows15_calls (w : World) : Calls Tryz.prog 8 #[] w fun e w' => e = .returned (.bool true) ∧ Below w.heap.size w w' := by
  have hal := run_zero_dfa
  have HO1 := hidden (of_one w w.heap.size rfl _ rfl)
  go_enter Tryz.func8, Tryz.ntmps8
  go_wp2_with fail
  refine HO1.out.mono ?_
  rintro e w1 ⟨vn, vl, rfl, hr1, hb1⟩
  have HB1 := hidden (below_then ((Below.refl w.heap.size w).alloc (Nat.le_refl _) (.cells #[.string kbT] 9)) (by simp) hb1)
  have HE := hidden (lexample_calls 0 hr1 (by rw [k1_len]; omega))
  rw [k1_ex] at HE
  clear HO1 hb1 hr1
  generalize machB (fuseM k1T) 50 = D1 at *
  dsimp only
  go_wp2_with fail
  refine HE.out.mono ?_
  rintro e w2 ⟨rfl, hb2⟩
  have HB2 := hidden (below_then HB1.out HB1.out.size hb2)
  have HO2 := hidden (of_two w2 w2.heap.size rfl _ rfl)
  clear hb2 HE HB1
  rw [show exR (some [98, 99]) = .tuple #[.string ⟨#[98, 99]⟩, .bool true] from rfl]
  go_wp2_with fail
  refine HO2.out.mono ?_
  rintro e w3 ⟨vn3, vl3, rfl, hr3, hb3⟩
  have HB3 := hidden (below_then (HB2.out.alloc HB2.out.size (.cells #[.string kaT, .string kcT] 9)) (by have := HB2.out.size; simp; omega) hb3)
  have HT := hidden (ltrim_calls hr3 (by rw [k2_len]; omega))
  have HTL := hidden k2_trim
  have HTK := hidden k2_tok
  clear HO2 hb3 hr3 HB2
  generalize machB (fuseM k2T) 50 = D2 at *
  dsimp only
  go_wp2_with fail
  refine HT.out.mono ?_
  rintro e w4 ⟨vn4, vl4, rfl, hr4, hb4⟩
  have HB4 := hidden (below_then HB3.out HB3.out.size hb4)
  generalize trimM D2 = D at *
  have HR4 := hidden hr4
  obtain ⟨an, cn, rfl⟩ := hr4.next.form
  obtain ⟨al, cl, rfl⟩ := hr4.label.form
  clear HB3 HT hr4 hb4
  rw [HTL.out] at HR4 ⊢
  have hb5 := (Below.refl w4.heap.size w4).alloc (Nat.le_refl _) (.cells (dfaC zG 0 (.slice none 0 0) (.slice none 0 0)) 26)
  dsimp only
  go_wp2_with (first
    | (refine store_dfa rfl (x := .tmp 3) (y := .tmp 12) rfl rfl rfl (DfaAt.new w4 zG 0 (.slice none 0 0) (.slice none 0 0)) rfl rfl ?_; intro w5 hA5 hg5 hs5; have HX5 := hidden hA5; have HB5 := hidden (hb5.grown hg5 (by simp) (by intro k hk; simp only [Option.some.injEq] at hk; omega)); have e5 := hA5.next; clear hA5 hg5 hs5)
    | fail)
  have HBB := hidden (below_then HB4.out HB4.out.size HB5.out)
  have HTO := hidden (ltokens_calls (HR4.out.below HB5.out HB5.out.size) (by rw [HTL.out]; omega))
  rw [HTK.out] at HTO
  refine wp_load_any (x := .tmp 3) rfl rfl (run_load_dfa HX5.out) ?_
  simp only [Act.put, List.setIfInBounds_toArray, List.set_cons_zero, List.set_cons_succ]
  go_wp2_with fail
  refine HTO.out.mono ?_
  rintro e w6 ⟨v, rfl, hr6, hb6⟩
  have hb7 := (Below.refl w6.heap.size w6).alloc (Nat.le_refl _) (.cells #[.int .i64 0] 3)
  have HSA := hidden (rsame_calls (hr6.reads.below hb7 hb7.size) (rz_one w6))
  have HB6 := hidden ((below_then HBB.out HBB.out.size hb6).alloc (Nat.le_trans HBB.out.size hb6.size) (.cells #[.int .i64 0] 3))
  clear hb7 hr6 hb6 e5 HX5 HB5 HBB HTO HB4 hb5
  rw [decide_eq_true (show ([0] : List Int) = [0] from rfl)] at HSA
  dsimp only
  go_wp2_with fail
  refine HSA.out.mono ?_
  rintro e w7 ⟨rfl, hb7⟩
  have HB7 := hidden (below_then HB6.out HB6.out.size hb7)
  clear hb7
  go_wp2
  go_ret
  exact ⟨rfl, HB7.out⟩
end Go.Proofs.YtnjjbaodfjmiaaaGreat

/- Contract of the reference's Trim. -/
namespace Go.Proofs.YtnjjbaodfjmiaaaGreat
open Go.RowKit Go.Lib Go.Joins
attribute [local go_sem] Rl.evalR_tmp Rl.evalR_const Rl.evalR_global Rl.evalR_func

set_option maxHeartbeats 8000000 in
set_option maxRecDepth 100000 in
theorem rtrim_calls {w : World} {vn vl : Value} {D : DfaM} (h : RdDfa w.heap.size w vn vl D) (hN : D.next.length ≤ 1000) :
    Calls Tryz.prog 16 #[dfaA D.cls D.width vn vl] w (RetD w (trimM D)) := by
  obtain ⟨an, cn, rfl⟩ := h.next.form
  obtain ⟨al, cl, rfl⟩ := h.label.form
  have HR := hidden (fun w' (hb : Below w.heap.size w w') => rright14_calls (h.below hb hb.size))
  have HRE := hidden (fun w' (hb : Below w.heap.size w w') => rreached_calls (h.below hb hb.size) hN)
  have HAL := hidden (fun w' (hb : Below w.heap.size w w') => ralive_calls (h.below hb hb.size) hN)
  have HD := hidden h
  obtain ⟨ln, hln⟩ : ∃ m, m = D.label.length := ⟨_, rfl⟩
  obtain ⟨n, hn⟩ : ∃ n, n = D.next.length := ⟨_, rfl⟩
  have HX := hidden (DfaAt.new w D.cls D.width (.slice an D.next.length cn) (.slice al D.label.length cl))
  have HB0 := hidden ((Below.refl w.heap.size w).alloc (Nat.le_refl _) (.cells (dfaC D.cls D.width (.slice an D.next.length cn) (.slice al D.label.length cl)) 26))
  have hbx := run_box_dfa D.cls D.width (.slice an D.next.length cn) (.slice al D.label.length cl)
  rw [← hn, ← hln] at HD HX HB0 HR HRE HAL hbx ⊢
  rw [← hn] at hN
  have HN := hidden hn
  have HLN := hidden hln
  have HBX := hidden hbx
  have hal := run_zero_dfa
  have hbu := run_build_dfa
  have HXa := hidden (HX.out.alloc (.cells (dfaC zG 0 (.slice none 0 0) (.slice none 0 0)) 26))
  clear h hn hln
  go_enter Tryz.func16, Tryz.ntmps16
  go_wp2_with (refine load_dfa rfl (x := .tmp 1) rfl rfl HXa.out ?_)
  obtain ⟨w0, hw0⟩ : ∃ w0, w0 = w.alloc (.cells (dfaC D.cls D.width (.slice an n cn) (.slice al ln cl)) 26) := ⟨_, rfl⟩
  have hs0 : w0.heap.size = w.heap.size + 1 := by rw [hw0]; simp
  rw [← hw0] at HX HB0 HXa ⊢
  have HS0 := hidden hs0
  have HRB := hidden (show DfaAt (w0.alloc (.cells (dfaC zG 0 (.slice none 0 0) (.slice none 0 0)) 26)) (w.heap.size + 1) zG 0 (.slice none 0 0) (.slice none 0 0) from DfaAt.newAt hs0)
  have HBa := hidden ((Below.refl (w.heap.size + 1) w0).alloc (Nat.le_of_eq hs0.symm) (.cells (dfaC zG 0 (.slice none 0 0) (.slice none 0 0)) 26))
  have HBw := hidden (HB0.out.alloc HB0.out.size (.cells (dfaC zG 0 (.slice none 0 0) (.slice none 0 0)) 26))
  clear hw0 hs0 hbx
  obtain ⟨wa, hwa⟩ : ∃ wa, wa = w0.alloc (.cells (dfaC zG 0 (.slice none 0 0) (.slice none 0 0)) 26) := ⟨_, rfl⟩
  rw [← hwa] at HXa HRB HBa HBw ⊢
  clear hwa
  refine (HR.out _ HBw.out).mono ?_
  rintro e w1 ⟨rfl, hb1⟩
  have HX1 := hidden (HXa.out.below hb1)
  have HR1 := hidden (HRB.out.below hb1)
  have HB1 := hidden (below_then HBa.out (Nat.le_trans (Nat.le_of_eq HS0.out.symm) HBa.out.size) hb1)
  have HBW1 := hidden (below_then HBw.out HBw.out.size hb1)
  clear hb1 HXa HRB HBa HBw
  cases hr : rightD D with
  | false =>
    have HF := hidden (show trimM D = zeroD by unfold trimM; rw [if_neg (by simp [hr])])
    clear hr
    go_wp2_with (refine store_dfa rfl (x := .tmp 2) (y := .tmp 16) rfl rfl rfl HR1.out rfl rfl ?_; intro w2 hA2 hg2 hs2; have HA2 := hidden hA2; have HB2 := hidden (HBW1.out.grown hg2 HBW1.out.size (by intro k hk; simp only [Option.some.injEq] at hk; omega)); clear hA2 hg2)
    refine ret_dfa1 Tryz.results16 rfl rfl HA2.out ⟨.slice none 0 0, .slice none 0 0, ?_, ?_, HB2.out⟩
    · rw [HF.out]; rfl
    · rw [HF.out]; exact zeroD_reads _
  | true =>
    have HRT := hidden hr
    have HL := hidden (show trimM D = trimX D by unfold trimM; rw [if_pos hr])
    clear hr
    go_wp2_with fail
    refine Rl.wp_region_steps (R := fun w1 w2 => Below w1.heap.size w1 w2) (Rl.typ [Rl.Is (dfaA D.cls D.width (.slice an n cn) (.slice al ln cl)), RdBoolV (reachedL D), Rl.Is (dfaA D.cls D.width (.slice an n cn) (.slice al ln cl)), RdBoolV (aliveL D), RdBoolV (reachedL D), RdBoolV (aliveL D)]) (fun w' => Below w1.heap.size w1 w') (by kernel_rfl) (by kernel_rfl) (by kernel_rfl) (by kernel_rfl) ?mono (Below.refl _ _).drew [] (by kernel_rfl) ?guards ?step ?fin
    case mono =>
      refine Rl.typ_mono ?_
      simp only [List.forall_mem_cons]
      repeat' (first | exact (fun v w w' h _ => h) | exact (fun v w w' h hb => RdB.below h hb hb.size) | (intro p hp; cases hp; done) | refine And.intro ?_ ?_)
    case guards => intro g hg; cases hg
    case step =>
      refine ⟨?_, ?_, ?_, ?_, ?_, ?_, trivial⟩
      · intro ρ w2 hF hW
        have e1 : ρ 1 = .pointer (some ⟨w.heap.size, 0, none⟩) := hF 1 (by decide)
        have HW := hidden hW
        exact does_load_dfaT rfl e1 (HX1.out.below HW.out) ⟨rfl, HW.out, Below.refl _ _⟩
      · intro ρ w2 hF hW
        have e17 : ρ 17 = dfaA D.cls D.width (.slice an n cn) (.slice al ln cl) := hF 17 (by decide)
        have HW := hidden hW
        clear hF hW
        unfold Rl.Does
        go_simp
        refine (HRE.out _ (below_then HBW1.out HBW1.out.size HW.out)).mono ?_
        rintro e w3 ⟨v, rfl, hr, hb, _⟩
        exact ⟨_, rfl, hr, below_after HW.out hb, hb⟩
      · intro ρ w2 hF hW
        have e1 : ρ 1 = .pointer (some ⟨w.heap.size, 0, none⟩) := hF 1 (by decide)
        have HW := hidden hW
        exact does_load_dfaT rfl e1 (HX1.out.below HW.out) ⟨rfl, HW.out, Below.refl _ _⟩
      · intro ρ w2 hF hW
        have e19 : ρ 19 = dfaA D.cls D.width (.slice an n cn) (.slice al ln cl) := hF 19 (by decide)
        have HW := hidden hW
        clear hF hW
        unfold Rl.Does
        go_simp
        refine (HAL.out _ (below_then HBW1.out HBW1.out.size HW.out)).mono ?_
        rintro e w3 ⟨v, rfl, hr, hb, _⟩
        exact ⟨_, rfl, hr, below_after HW.out hb, hb⟩
      · intro ρ w2 hF hW
        have e18 : RdB w2.heap.size w2 (ρ 18) (reachedL D) := hF 18 (by decide)
        have HW := hidden hW
        have HE := hidden e18
        clear hF hW e18
        unfold Rl.Does
        go_simp
        exact ⟨HE.out, HW.out, Below.refl _ _⟩
      · intro ρ w2 hF hW
        have e20 : RdB w2.heap.size w2 (ρ 20) (aliveL D) := hF 20 (by decide)
        have HW := hidden hW
        have HE := hidden e20
        clear hF hW e20
        unfold Rl.Does
        go_simp
        exact ⟨HE.out, HW.out, Below.refl _ _⟩
    case fin =>
      intro a1 w2 hs hv hW
      have h3 : RdB w2.heap.size w2 (a1.tmps.getD 3 undef) (reachedL D) := hv 4 3 (by kernel_rfl)
      have h4 : RdB w2.heap.size w2 (a1.tmps.getD 4 undef) (aliveL D) := hv 5 4 (by kernel_rfl)
      have HX2 := hidden (HX1.out.below hW)
      have HR2 := hidden (HR1.out.below hW)
      have HB2 := hidden (below_then HB1.out (Nat.le_trans (Nat.le_of_eq HS0.out.symm) HB1.out.size) hW)
      have HBW2 := hidden (below_then HBW1.out HBW1.out.size hW)
      have hd := hs.defers
      have hz := hs.lit [17, 18, 19, 20, 3, 4] (by kernel_rfl)
      clear hs hv hW
      obtain ⟨tm, df⟩ := a1
      simp only at hz hd h3 h4
      simp only [List.foldl_cons, List.foldl_nil, List.setIfInBounds_toArray, List.set_cons_zero, List.set_cons_succ] at hz
      obtain ⟨ra, rc, hv3⟩ := h3.form
      obtain ⟨aa, ac, hv4⟩ := h4.form
      have HRV := hidden h3
      have HAV := hidden h4
      rw [hv3] at HRV hz
      rw [hv4] at HAV hz
      generalize tm.getD 17 undef = u17 at hz
      generalize tm.getD 18 undef = u18 at hz
      generalize tm.getD 19 undef = u19 at hz
      generalize tm.getD 20 undef = u20 at hz
      clear h3 h4 hv3 hv4
      subst hz hd
      have e2 := HX2.out.next
      have hm := run_make_z w2 n (by omega)
      go_wp2
      obtain ⟨NB, hNB⟩ : ∃ B, B = w2.heap.size := ⟨_, rfl⟩
      have hsz : w.heap.size < NB := by rw [hNB]; exact HX2.out.lt
      rw [← hNB]
      have HNB := hidden hNB
      have HRN := hidden (show (reachedL D).length = n by rw [reached_len HRT.out, HN.out])
      have HAN := hidden (show (aliveL D).length = n by rw [alive_len HRT.out, HN.out])
      have HNL := hidden (fun i => show (numD D i).length = n by rw [numD_len, HN.out])
      rw [HRN.out] at HRV
      rw [HAN.out] at HAV
      rw [HRN.out, HAN.out]
      clear hm hNB e2
      go_loopw [6, 7] (fun cv iv wr => ∃ i : Nat, i ≤ n ∧ cv = .int .i64 (rankD D i : Nat) ∧ iv = .int .i64 i ∧ RowAt wr NB 3 (Value.int .i64) (numD D i) ∧ Below NB w2 wr) (fun _ i _ => n - (Go.RowKit.intOf i).toNat)
      case atStart => exact ⟨0, by omega, rfl, rfl, RowAt.newAt HNB.out (by rw [numD_zero, ← HN.out]; exact rep_map n), by rw [HNB.out]; exact (Below.refl _ _).alloc (Nat.le_refl _) _⟩
      case round =>
        obtain ⟨i, hi, rfl, rfl, hrow, hbe⟩ := hrel
        have HROW := hidden hrow
        have HBE := hidden hbe
        have hnl := hrow.lt
        clear hrow hbe
        by_cases hlt : i < n
        · obtain ⟨b1, o1, rfl, _, c1⟩ := HRV.out.at (by rw [← HNB.out]; exact HBE.out) i (by rw [HRN.out]; exact hlt)
          obtain ⟨b2, o2, rfl, _, c2⟩ := HAV.out.at (by rw [← HNB.out]; exact HBE.out) i (by rw [HAN.out]; exact hlt)
          have f0 := HROW.out.frozen i
          have c0 := HROW.out.cell (i := i) (by rw [HNL.out]; exact hlt) 0
          have HR1 := hidden (rank_more D i)
          have HNM := hidden (numD_more D i)
          have HKP := hidden (show kept D i = (decide (i = 0) || (decide (On (reachedL D) i) && decide (On (aliveL D) i))) from rfl)
          have hb1 : b1 < NB := by rw [HNB.out]; assumption
          have hb2 : b2 < NB := by rw [HNB.out]; assumption
          have hne1 : b1 ≠ NB := by omega
          have hne2 : b2 ≠ NB := by omega
          have HRK := hidden (rank_le D i)
          obtain ⟨rk, hrk⟩ : ∃ r, r = rankD D i := ⟨_, rfl⟩
          rw [← hrk] at HR1 HNM HRK ⊢
          have hrk2 : rk ≤ 1000 := by have := HRK.out; omega
          have c1' := (World.cell?_setCell_other wr ⟨NB, i, none⟩ ⟨b1, o1 + i, none⟩ (.int .i64 (-1)) (by simp <;> omega)).trans c1
          have c2' := (World.cell?_setCell_other wr ⟨NB, i, none⟩ ⟨b2, o2 + i, none⟩ (.int .i64 (-1)) (by simp <;> omega)).trans c2
          have HS1 := hidden (HROW.out.set i (-1))
          have f1 := HS1.out.frozen i
          have k1 := HS1.out.cell (i := i) (by rw [List.length_set, HNL.out]; exact hlt) 0
          have hnl1 := HS1.out.lt
          have HBS := hidden (HBE.out.setCell (p := ⟨NB, i, none⟩) (Nat.le_refl _) (.int .i64 (-1)))
          have hfin : ∀ (x : Bool), kept D i = x → (x = true → RowAt ((wr.setCell ⟨NB, i, none⟩ (.int .i64 (-1))).setCell ⟨NB, i, none⟩ (.int .i64 (rk : Nat))) NB 3 (Value.int .i64) (numD D (i + 1))) ∧ (x = false → RowAt (wr.setCell ⟨NB, i, none⟩ (.int .i64 (-1))) NB 3 (Value.int .i64) (numD D (i + 1))) := fun x hx => by
            refine ⟨fun h => ?_, fun h => ?_⟩
            · rw [← HNM.out, hx, h, if_pos rfl]
              have := HS1.out.set i (rk : Int)
              rw [List.set_set] at this
              exact this
            · rw [← HNM.out, hx, h, if_neg (by simp)]
              exact HS1.out
          have HFIN := hidden hfin
          clear hfin hrk c1 c2
          rw [getD_on] at c1' c2'
          by_cases h0 : i = 0
          · have HK := hidden (show kept D i = true by rw [HKP.out, decide_eq_true h0]; rfl)
            have q1 : ((i : Int) == 0) = true := by simp [h0]
            have q2 : decide ((i : Int) = 0) = true := by simp [h0]
            have h0H := hidden h0
            clear h0
            go_wp2
            go_roundw
            case rel => exact ⟨i + 1, by omega, by rw [HR1.out, HK.out]; go_num, by go_num, (HFIN.out true HK.out).1 rfl, HBS.out.setCell (Nat.le_refl _) _⟩
            case measure => simp [Go.RowKit.intOf]; omega
          · have q1 : ((i : Int) == 0) = false := by simp [h0]
            have q2 : decide ((i : Int) = 0) = false := by simp [h0]
            rw [decide_eq_false h0, Bool.false_or] at HKP
            have h0H := hidden h0
            clear h0
            by_cases hr : On (reachedL D) i
            · rw [decide_eq_true hr] at c1' HKP
              by_cases ha : On (aliveL D) i
              · rw [decide_eq_true ha] at c2' HKP
                have HK := hidden (show kept D i = true from HKP.out)
                clear hr ha
                go_wp2
                go_roundw
                case rel => exact ⟨i + 1, by omega, by rw [HR1.out, HK.out]; go_num, by go_num, (HFIN.out true HK.out).1 rfl, HBS.out.setCell (Nat.le_refl _) _⟩
                case measure => simp [Go.RowKit.intOf]; omega
              · rw [decide_eq_false ha] at c2' HKP
                have HK := hidden (show kept D i = false from HKP.out)
                clear hr ha
                go_wp2
                go_roundw
                case rel => exact ⟨i + 1, by omega, by rw [HR1.out, HK.out]; simp, by go_num, (HFIN.out false HK.out).2 rfl, HBS.out⟩
                case measure => simp [Go.RowKit.intOf]; omega
            · rw [decide_eq_false hr] at c1' HKP
              have HK := hidden (show kept D i = false from by rw [HKP.out]; rfl)
              clear hr
              go_wp2
              go_roundw
              case rel => exact ⟨i + 1, by omega, by rw [HR1.out, HK.out]; simp, by go_num, (HFIN.out false HK.out).2 rfl, HBS.out⟩
              case measure => simp [Go.RowKit.intOf]; omega
        · obtain rfl : n = i := by omega
          have HXw := hidden (HX2.out.under HBE.out hsz)
          have HRw := hidden (HR2.out.under HBE.out (by have := HR2.out.lt; rw [HNB.out]; exact this))
          have e1 := HXw.out.width
          have hDB : NB < wr.heap.size := hnl
          go_wp2_with (first
            | (refine load_any14 rfl (x := .tmp 54) rfl rfl (run_load_cls HXw.out) ?_)
            | (refine wp_load_any (x := .tmp 54) rfl rfl (run_load_cls HXw.out) ?_)
            | (refine build_dfa2 rfl (x := .tmp 55) (y := .tmp 57) rfl rfl rfl ?_)
            | (refine store_dfa rfl (x := .tmp 8) (y := .tmp 58) rfl rfl rfl (DfaAt.new wr zG 0 (.slice none 0 0) (.slice none 0 0)) rfl rfl ?_; intro w4 hA4 hg4 hs4; have HA4 := hidden hA4; have HG4 := hidden hg4; have HS4 := hidden hs4; clear hA4 hg4 hs4)
            | fail)
          have hs1 : w.heap.size + 1 ≤ NB := hsz
          have HBn := hidden (below_then HB2.out (Nat.le_trans (Nat.le_of_eq HS0.out.symm) HB2.out.size) (by rw [← HNB.out]; exact HBE.out))
          have hst : TrSt w0 (w.heap.size + 1) w4 (w.heap.size + 1) wr.heap.size D.cls D.width (.slice none 0 0) (.slice none 0 0) (.slice none 0 0) [] [] [] [] [.slice (some ⟨NB, 0, none⟩) n n] [numD D n] := by
            have ho : ∀ k, k < wr.heap.size → w4.heap[k]? = wr.heap[k]? := fun k hk => by
              rw [HG4.out.block k (by simp; omega) (by simp; omega)]
              exact heap_alloc_old wr _ hk
            have hR2 : w.heap.size + 1 < NB := by have := HR2.out.lt; rw [HNB.out]; exact this
            refine TrSt.start HA4.out ((ho _ (by omega)).trans HRw.out) (by omega) ⟨Nat.le_refl _, by omega⟩ ((HBn.out.alloc (by omega) _).grown HG4.out (by simp; omega) (by intro k hk; simp only [Option.some.injEq] at hk; omega)) (Nat.le_of_eq HS0.out.symm) ⟨rfl, fun j hj => ?_⟩
            obtain rfl : j = 0 := by simpa using hj
            have hrow4 : RowAt w4 NB 3 (Value.int .i64) (numD D n) := (ho NB (by omega)).trans HROW.out
            exact hrow4.el (by rw [HNL.out]; omega) (HNL.out n).symm ⟨hrow4.lt, by omega, by omega⟩
          have HST := hidden hst
          have HW7 := hidden (rch_width HRT.out)
          have HDB := hidden (show w.heap.size + 1 ≤ wr.heap.size by omega)
          obtain ⟨DB, hDBe⟩ : ∃ b, b = wr.heap.size := ⟨_, rfl⟩
          rw [← hDBe] at HST HDB ⊢
          clear hst hDBe HA4 HG4 HS4 HROW HBE HXw HRw HRV HAV HRN HAN HX2 HR2 HB2 HBW2 HBn HX1 HR1 HB1 HBW1 e1 hDB hnl hbu HRE HAL HR
          obtain ⟨W, hW, hWn⟩ := HW7.out
          have HW := hidden hW
          have HWN := hidden hWn
          have hwid : W ≤ 256 := by
            have h2 := (rightD_spec HRT.out).2.1
            have := wid_le D.cls 256 256 HD.out.small
            omega
          have HBM := hidden (fun (wr : World) (hb : Below (w.heap.size + 1) w0 wr) => (HB0.out.trans (hb.mono (Nat.le_succ _)) : Below w.heap.size w wr))
          clear hW hWn HW7
          go_loopw [9] (fun iv wr => ∃ (i : Nat) (vn vl : Value) (us : List Value), i ≤ n ∧ iv = .int .i64 i ∧ TrSt w0 (w.heap.size + 1) wr (w.heap.size + 1) DB D.cls D.width vn vl (.slice none 0 0) us (trN D i) (trL D i) [] [.slice (some ⟨NB, 0, none⟩) n n] [numD D n]) (fun i _ => n - (Go.RowKit.intOf i).toNat)
          case atStart => exact ⟨0, _, _, _, by omega, rfl, HST.out⟩
          case round =>
            obtain ⟨i, vn, vl, us, hi, rfl, hS⟩ := hrel
            have HS := hidden hS
            clear hS HST
            by_cases hlt : i < n
            · have c0 := ((HS.out.x.get 0 (by simp)).cellN (i := i) (by rw [show [numD D n].getD 0 [] = numD D n from rfl, HNL.out]; exact hlt)).2
              rw [show [numD D n].getD 0 [] = numD D n from rfl, HN.out, numD_at (show i < D.next.length by rw [← HN.out]; exact hlt)] at c0
              have HNX := hidden (trN_more D i)
              have HLX := hidden (trL_more D i)
              by_cases hk : kept D i = true
              · rw [if_pos hk] at c0 HNX HLX
                have hrk := rank_le D i
                obtain ⟨rk, hrke⟩ : ∃ r, r = rankD D i := ⟨_, rfl⟩
                rw [← hrke] at c0 hrk
                have hrk2 : ¬ ((rk : Nat) : Int) < 0 := by omega
                have HK := hidden hk
                clear hk hrke
                go_wp2
                have HSn := hidden HS.out.newR
                obtain ⟨wi, hwi⟩ : ∃ wi, wi = wr.alloc (.cells #[] 3) := ⟨_, rfl⟩
                rw [← hwi] at HSn ⊢
                clear hwi c0
                have hid : decide ((i : Int) < n) = true := decide_eq_true (by omega)
                go_loopw [10, 11] (fun rv cv wq => ∃ c : Nat, c ≤ W ∧ cv = .int .i64 c ∧ TrSt w0 (w.heap.size + 1) wq (w.heap.size + 1) DB D.cls D.width vn vl rv us (trN D i) (trL D i) (trR D i c) [.slice (some ⟨NB, 0, none⟩) n n] [numD D n]) (fun _ c _ => W - (Go.RowKit.intOf c).toNat)
                case atStart => exact ⟨0, by omega, rfl, HSn.out⟩
                case round =>
                  obtain ⟨c, hc, rfl, hQ⟩ := hrel
                  obtain ⟨ra, rc, hrv⟩ := hQ.s.rowR.form
                  subst hrv
                  have HQ := hidden hQ
                  clear hQ HSn
                  have HRL := hidden (show (trR D i c).length = c by simp [trR])
                  have hXq := HX.out.under (HQ.out.s.below) (by omega)
                  have e1 := hXq.width
                  have e2 := hXq.next
                  rw [HW.out] at e1
                  by_cases hcw : c < W
                  · obtain ⟨b, off, b2, off2, c', rfl, q1, _, _, q2⟩ := HD.out.row HRT.out HW.out (HBM.out _ HQ.out.s.below) i (by rw [← HN.out]; exact hlt)
                    have q3 := q2 c hcw
                    have hin := to_in HRT.out (i := i) (c := c) (by rw [← HN.out]; exact hlt) (by rw [HWN.out]; exact hcw)
                    rw [← HN.out] at hin
                    have HX3 := hidden (trR_more D i c)
                    have hnum := fun (y : Nat) (hy : y < n) => ((HQ.out.x.get 0 (by simp)).cellN (i := y) (by rw [show [numD D n].getD 0 [] = numD D n from rfl, HNL.out]; exact hy)).2
                    have hren : ∀ y : Nat, y < n → (numD D n).getD y 0 = renD D (y : Int) := fun y hy => by
                      have := ren_num (D := D) (x := (y : Int)) (by omega) (by rw [← HN.out]; omega)
                      rw [← HN.out, Int.toNat_natCast] at this
                      exact this
                    rw [show [numD D n].getD 0 [] = numD D n from rfl] at hnum
                    obtain ⟨x, hx⟩ : ∃ x, x = toD D i c := ⟨_, rfl⟩
                    rw [← hx] at q3 hin HX3
                    obtain ⟨z, hz⟩ : ∃ z, z = renD D x := ⟨_, rfl⟩
                    rw [← hz] at HX3
                    have hal3 : Below wr.heap.size wr (wr.alloc (.cells #[.int .i64 z] 3)) := (Below.refl wr.heap.size wr).alloc (Nat.le_refl _) _
                    have HQc := hidden (HQ.out.kept hal3)
                    have hown := HQc.out.s.rowR
                    have hown' : (wr.alloc (.cells #[.int .i64 z] 3)).ownsRow (w.heap.size + 1) 3 1 (.slice ra c rc) c ((trR D i c).map (Value.int .i64)) := by
                      have h5 := hown
                      unfold RowZ at h5
                      rw [HRL.out] at h5
                      exact h5
                    have HOW := hidden hown'
                    have HI := hidden infoInt
                    have HBS := hidden HQc.out.s.sz
                    have HLNB := hidden (show c + 1 ≤ 1000000 by omega)
                    rw [HRL.out]
                    have HZ := hidden hz
                    clear hx q2 hown hown' hal3
                    by_cases hx0 : 0 ≤ x
                    · obtain ⟨y, rfl⟩ : ∃ y : Nat, x = y := ⟨x.toNat, by omega⟩
                      have hy : y < n := by omega
                      have k1 := hnum y hy
                      rw [hren y hy, ← hz] at k1
                      clear hin hnum hren hz
                      go_wp2_with (at_builtin; (first | refine wpList_app (v := .slice ra c rc) rfl _ _ rfl HI.out Tryz.underlying24 rfl (by decide) (by decide) rfl HOW.out rfl (Src.one wr (.int .i64 z) 3 _ rfl) (by simp) (by simp [Value.oneCell']) HLNB.out HBS.out ?_ | refine wp_app (v := .slice ra c rc) _ _ rfl HI.out Tryz.underlying24 rfl (by decide) (by decide) rfl HOW.out rfl (Src.one wr (.int .i64 z) 3 _ rfl) (by simp) (by simp [Value.oneCell']) HLNB.out HBS.out ?_); intro v13 w13 hA; have HA13 := hidden hA; obtain ⟨a13, c13, hv13⟩ := row_slice14 hA.own; subst hv13; clear hA)
                      go_roundw
                      case rel =>
                        refine ⟨c + 1, by omega, by go_num, ?_⟩
                        rw [HX3.out]
                        have hA := HA13.out
                        have hq := HQc.out
                        rw [HRL.out] at hq
                        refine hq.putR ?_
                        rw [HRL.out]
                        exact hA
                      case measure => simp [Go.RowKit.intOf]; omega
                    · have hxd : decide (0 ≤ x) = false := decide_eq_false hx0
                      have hzx : z = x := by
                        rw [hz]
                        unfold renD
                        rw [if_pos (by omega)]
                      subst hzx
                      clear hin hnum hren hz
                      go_wp2_with (at_builtin; (first | refine wpList_app (v := .slice ra c rc) rfl _ _ rfl HI.out Tryz.underlying24 rfl (by decide) (by decide) rfl HOW.out rfl (Src.one wr (.int .i64 z) 3 _ rfl) (by simp) (by simp [Value.oneCell']) HLNB.out HBS.out ?_ | refine wp_app (v := .slice ra c rc) _ _ rfl HI.out Tryz.underlying24 rfl (by decide) (by decide) rfl HOW.out rfl (Src.one wr (.int .i64 z) 3 _ rfl) (by simp) (by simp [Value.oneCell']) HLNB.out HBS.out ?_); intro v13 w13 hA; have HA13 := hidden hA; obtain ⟨a13, c13, hv13⟩ := row_slice14 hA.own; subst hv13; clear hA)
                      go_roundw
                      case rel =>
                        refine ⟨c + 1, by omega, by go_num, ?_⟩
                        rw [HX3.out]
                        have hA := HA13.out
                        have hq := HQc.out
                        rw [HRL.out] at hq
                        refine hq.putR ?_
                        rw [HRL.out]
                        exact hA
                      case measure => simp [Go.RowKit.intOf]; omega
                  · obtain rfl : W = c := by omega
                    have HRA := hidden (show trR D i W = (D.next.getD i []).map (renD D) from trR_all (by have := ((rightD_spec HRT.out).2.2.2.2 i (by rw [← HN.out]; exact hlt)).1; have := HW.out; omega))
                    have hq := HQ.out
                    rw [HRL.out]
                    rw [HRA.out] at hq HRL
                    obtain ⟨hD, hE⟩ := hq.dropR
                    obtain ⟨rr, hrr⟩ : ∃ l, l = (D.next.getD i []).map (renD D) := ⟨_, rfl⟩
                    rw [← hrr] at hE HRL HNX
                    rw [HRL.out] at hE
                    obtain ⟨an2, cn2, hvn⟩ := hD.s.nexts.form
                    have hmem := hD.s.off (r := ⟨24, 1, vn, (trN D i).length, us⟩) (by simp [rows4])
                    subst hvn
                    obtain ⟨al2, cl2, hvl2⟩ := hD.s.rowL.form
                    subst hvl2
                    have HLEN := hidden (show (trN D i).length + 1 ≤ 1000000 ∧ (trL D i).length + 1 ≤ 1000000 by
                      have := tr_len D i
                      omega)
                    have halr := (Below.refl wr.heap.size wr).alloc (Nat.le_refl _) (.cells #[.slice ra W rc] 24)
                    have HDa := hidden (hD.kept halr)
                    have HEa := hidden (hE.mono (StayR.below halr))
                    have HBS := hidden HDa.out.s.sz
                    have HI := hidden infoZZ
                    have k2 := hD.s.d.next
                    have HMEM := hidden hmem
                    have HLLE := hidden (tr_len D i)
                    clear hD hE halr hmem hq
                    go_wp2_with (at_builtin; (first | refine wpList_app (v := .slice an2 (trN D i).length cn2) rfl _ _ rfl HI.out Tryz.underlying23 rfl (by decide) (by decide) rfl HDa.out.s.rowN rfl (Src.one wr (.slice ra W rc) 24 _ rfl) (by simp) (by simp [Value.oneCell']) HLEN.out.1 HBS.out ?_ | refine wp_app (v := .slice an2 (trN D i).length cn2) _ _ rfl HI.out Tryz.underlying23 rfl (by decide) (by decide) rfl HDa.out.s.rowN rfl (Src.one wr (.slice ra W rc) 24 _ rfl) (by simp) (by simp [Value.oneCell']) HLEN.out.1 HBS.out ?_); intro v13 w13 hA; have HA13 := hidden hA; have HD13 := hidden (HDa.out.s.d.grown hA.grown HMEM.out.2); have r4 := HD13.out.next; have hf9 := HD13.out.frozen 257; obtain ⟨a13, c13, hv13⟩ := row_slice14 hA.own; subst hv13; clear hA)
                    have HSN := hidden (TrSt.putN (t := rr) HDa.out HEa.out HA13.out)
                    clear r4 hf9 k2
                    generalize w13.setCell ⟨DB, 257, none⟩ (.slice a13 ((trN D i).length + 1) c13) = w14 at *
                    have HSd := hidden (HSN.out.kept (w' := w14.drew) (Below.refl _ _).drew)
                    have hXd := HX.out.under HSd.out.s.below (by omega)
                    have m3 := hXd.label
                    obtain ⟨b9, o9, hal9, _, q9⟩ := HD.out.label.atZ (HBM.out _ HSd.out.s.below) i (by have := (rightD_spec HRT.out).2.2.2.1; have := HN.out; omega)
                    subst hal9
                    have hil : (i : Int) < (ln : Int) := by
                      have := (rightD_spec HRT.out).2.2.2.1
                      have := HN.out
                      have := HLN.out
                      omega
                    have l4 := HSd.out.s.d.label
                    obtain ⟨lx, hlx⟩ : ∃ x, x = D.label.getD i 0 := ⟨_, rfl⟩
                    rw [← hlx] at q9 HLX
                    have HS6 := hidden (HSd.out.kept (w' := w14.drew.alloc (.cells #[.int .i64 lx] 3)) ((Below.refl _ _).alloc (Nat.le_refl _) _))
                    have l6 := HS6.out.s.d.label
                    have l7 := (HSN.out.kept (w' := w14.alloc (.cells #[.int .i64 lx] 3)) ((Below.refl _ _).alloc (Nat.le_refl _) _)).s.d.label
                    have HI2 := hidden infoInt
                    have HB7 := hidden HS6.out.s.sz
                    have HRO := hidden HS6.out.s.rowL
                    have HOFF := hidden (HS6.out.s.off (r := ⟨3, 1, .slice al2 (trL D i).length cl2, (trL D i).length, (trL D i).map (Value.int .i64)⟩) (by simp [rows4]))
                    clear hlx hXd
                    go_wp2_with fail
                    go_region_law (refine step_app (v := .slice al2 (trL D i).length cl2) rfl _ _ rfl HI2.out Tryz.underlying24 rfl (by decide) (by decide) rfl HRO.out rfl (Src.one _ (.int .i64 lx) 3 _ rfl) (by simp) (by simp [Value.oneCell']) HLEN.out.2 HB7.out ?_; intro v9 w9 hA9; have HA9 := hidden hA9; have HD9 := hidden (HS6.out.s.d.grown hA9.grown HOFF.out.2); have r4 := HD9.out.label; have hf9 := HD9.out.frozen 258; obtain ⟨a9, c9, hv9⟩ := row_slice14 hA9.own; subst hv9; clear hA9)
                    all_goals (have HF := hidden (HS6.out.putL HA9.out))
                    all_goals (rw [← HNX.out, ← HLX.out] at HF)
                    all_goals clear HA9 HS6 HD9 HOFF HRO HB7 HSN HSd HA13 HD13 HDa HEa HMEM HBS l4 l6 l7 m3 q9 r4 hf9 hil e1 e2 hXq
                    all_goals go_wp2_with fail
                    all_goals go_roundw
                    all_goals first
                      | (simp [Go.RowKit.intOf]; omega)
                      | exact ⟨i + 1, _, _, _, by omega, by go_num, HF.out⟩
              · rw [if_neg hk] at c0 HNX HLX
                rw [List.append_nil] at HNX HLX
                have HK := hidden hk
                clear hk
                go_wp2
                go_roundw
                case rel => exact ⟨i + 1, vn, vl, us, by omega, by go_num, by rw [HNX.out, HLX.out]; exact HS.out⟩
                case measure => simp [Go.RowKit.intOf]; omega
            · obtain rfl : n = i := by omega
              obtain ⟨an2, cn2, hvn⟩ := HS.out.s.nexts.form
              subst hvn
              obtain ⟨al2, cl2, hvl2⟩ := HS.out.s.rowL.form
              subst hvl2
              have HDD := hidden HS.out.s.d
              have HRR := hidden HS.out.s.r
              go_wp2_with (first
                | (refine load_dfa rfl (x := .tmp 8) rfl rfl HDD.out ?_)
                | (refine wp_load_any (x := .tmp 8) rfl rfl (run_load_dfa HDD.out) ?_)
                | (refine store_dfa rfl (x := .tmp 2) (y := .tmp 111) rfl rfl rfl HRR.out rfl rfl ?_; intro w12 hA2 hg2 hs2; have HA2 := hidden hA2; have HG2 := hidden hg2; clear hA2 hg2 hs2)
                | fail)
              refine ret_dfa1 Tryz.results16 rfl rfl HA2.out ⟨.slice an2 (trN D n).length cn2, .slice al2 (trL D n).length cl2, ?_, ?_, ?_⟩
              · rw [HL.out]; rfl
              · rw [HL.out, trX_is, ← HN.out]
                exact HS.out.reads HG2.out HD.out.small
              · exact (HBM.out _ HS.out.s.below).grown HG2.out (HBM.out _ HS.out.s.below).size (by intro k hk; simp only [Option.some.injEq] at hk; omega)
end Go.Proofs.YtnjjbaodfjmiaaaGreat

/- Two arrays of 256 held against one another; a whole array loaded at a guarded operation. -/
namespace Go.Proofs.YtnjjbaodfjmiaaaGreat
open Go.RowKit

/-- two arrays held against one another -/
theorem kitems_step {P : Program} {w : World} {d : Nat} {e : TypeId} {k : IntKind} (he : P.plainKey e = true) (hu : P.underlying e = some (.int k)) {xs ys : Array Value} {j : Nat} {x y : Int} {is : List Nat} {r : Bool}
    (hx : xs[j * 1]? = some (.int k x)) (hy : ys[j * 1]? = some (.int k y)) (h : (Op.eqItems (d + 1) e 1 xs ys is).run P w = .ok r w) : (Op.eqItems (d + 1) e 1 xs ys (j :: is)).run P w = .ok (x == y && r) w := by
  simp only [Op.eqItems, Sem.run_bind]
  rw [run_part_plain (P := P) (w := w) he hx]
  simp only [Result.andThen_ok]
  rw [run_part_plain (P := P) (w := w) he hy]
  simp only [Result.andThen_ok]
  rw [run_equalIn_int w d e k k x y hu]
  simp only [Result.andThen_ok]
  cases (x == y)
  · simp
  · simpa using h
theorem eq_items (w : World) (g h : Nat → Nat) : ∀ is : List Nat, (∀ j ∈ is, j < 256) → (Op.eqItems 9999 5 1 (cellsN (nV g)) (cellsN (nV h)) is).run Tryz.prog w = .ok (is.all fun j => ((g j : Int) == (h j : Int))) w
  | [], _ => by simp [Op.eqItems]
  | j :: is, hj => by
    rw [List.all_cons]
    exact kitems_step (d := 9998) (by kernel_rfl) Tryz.underlying5 (by rw [Nat.mul_one]; exact cellsN_get _ (hj j (by simp))) (by rw [Nat.mul_one]; exact cellsN_get _ (hj j (by simp))) (eq_items w g h is fun i hi => hj i (by simp [hi]))
/-- the same at each place -/
def sameA (g h : Nat → Nat) : Bool := (List.range 256).all fun j => ((g j : Int) == (h j : Int))
theorem sameA_of {g h : Nat → Nat} (e : ∀ j, j < 256 → g j = h j) : sameA g h = true := by
  unfold sameA
  rw [List.all_eq_true]
  intro j hj
  rw [e j (by simpa using hj)]
  simp
theorem eq_arrs (w : World) (g h : Nat → Nat) : (Op.equalIn 10000 22 (ar g) (ar h)).run Tryz.prog w = .ok (sameA g h) w := by
  obtain ⟨i, hi⟩ : ∃ i, Tryz.prog.info? 5 = some i := Option.isSome_iff_exists.1 (by kernel_rfl)
  have hc : Tryz.prog.cellsOf 5 = 1 := by kernel_rfl
  rw [run_equalIn_array (P := Tryz.prog) (w := w) 9999 _ _ Tryz.underlying22 hi, hc]
  exact eq_items w g h _ fun j hj => by simpa using hj
theorem eq_same (w : World) {g h : Nat → Nat} (e : ∀ j, j < 256 → g j = h j) : (Op.equalIn 10000 22 (ar g) (ar h)).run Tryz.prog w = .ok true w := by
  rw [eq_arrs, sameA_of e]

end Go.Proofs.YtnjjbaodfjmiaaaGreat

/- Contracts of the reference's Label, and of its Same at two machines that read as one. -/
namespace Go.Proofs.YtnjjbaodfjmiaaaGreat
open Go.RowKit

/-- something is loaded -/
theorem load_any {ops : Array Oper} {rest : List Oper} {o : Oper} {a : Act} {w : World} {Q : Exit → Act → World → Prop} (hgd : o.guard = none) {t : TypeId} {x : Operand} {p : Addr} {v : Value} (ho : o.op = .load t x) (hx : a.eval x = .pointer (some p))
    (hl : (loadVar t p).run Tryz.prog w = .ok v w) (h : wpList Tryz.prog ops Q rest (a.put o.dst v) w) : wpList Tryz.prog ops Q (o :: rest) a w :=
  wpList_plain hgd fun _ hK => by
    unfold Oper.wp execOp
    simp only [ho, hx, Instr.loadAt, Instr.sureAddr, Sem.run_bind, Sem.run_pure, Result.andThen_ok, hl]
    exact hK _ _ h

set_option maxHeartbeats 2000000 in
set_option maxRecDepth 100000 in
theorem rlabel_calls {w : World} {vn vl : Value} {D : DfaM} (s : Int) (h : RdDfa w.heap.size w vn vl D) :
    Calls Tryz.prog 24 #[dfaA D.cls D.width vn vl, .int .i64 s] w fun e w' => e = .returned (.int .i64 (labelD D s)) ∧ Below w.heap.size w w' := by
  obtain ⟨al, cl, rfl⟩ := h.label.form
  have hbl : D.label.length ≤ 9223372036854775807 := by
    obtain ⟨_, _, e, h1, h2, _⟩ := h.label
    unfold maxLen at h2
    omega
  have HR := hidden (fun w' (hb : Below w.heap.size w w') => rright14_calls (h.below hb hb.size))
  obtain ⟨m, hm⟩ : ∃ m, m = D.label.length := ⟨_, rfl⟩
  rw [← hm] at hbl h HR ⊢
  have HM := hidden hm
  have HD := hidden h
  have HX := hidden (DfaAt.new w D.cls D.width vn (.slice al m cl))
  have HB0 := hidden ((Below.refl w.heap.size w).alloc (Nat.le_refl _) (.cells (dfaC D.cls D.width vn (.slice al m cl)) 26))
  have hbx := run_box_dfa D.cls D.width vn (.slice al m cl)
  clear h hm
  go_enter Tryz.func24, Tryz.ntmps24
  go_wp2_with (refine load_dfa rfl (x := .tmp 2) rfl rfl HX.out ?_)
  refine (HR.out _ HB0.out).mono ?_
  rintro e w1 ⟨rfl, hb1⟩
  have HX1 := hidden (HX.out.below hb1)
  have HB1 := hidden (below_then HB0.out HB0.out.size hb1)
  have e3 := (HX.out.below hb1).label
  clear hb1
  cases hr : rightD D with
  | false =>
    have HF := hidden (show labelD D s = -1 by unfold labelD; rw [if_neg (by simp [hr])])
    clear hr
    go_wp2
    go_ret
    exact ⟨ret_i HF.out.symm, HB1.out⟩
  | true =>
    have HRT := hidden hr
    clear hr
    by_cases h0 : s < 0
    · have HF := hidden (show labelD D s = -1 by unfold labelD; rw [if_neg (by omega)])
      go_wp2
      go_ret
      exact ⟨ret_i HF.out.symm, HB1.out⟩
    · by_cases h1 : s < m
      · obtain ⟨j, rfl⟩ : ∃ j : Nat, s = j := ⟨s.toNat, by omega⟩
        have hj : j < m := by omega
        have HF := hidden (show labelD D (j : Int) = D.label.getD j 0 by unfold labelD; rw [if_pos ⟨HRT.out, by omega, by rw [← HM.out]; omega⟩]; rfl)
        obtain ⟨b, off, rfl, hbb, hc⟩ := (HM.out ▸ HD.out.label).atZ HB1.out j (by rw [← HM.out]; exact hj)
        generalize D.label.getD j 0 = x at *
        go_wp2
        go_ret
        exact ⟨ret_i HF.out.symm, HB1.out⟩
      · have HF := hidden (show labelD D s = -1 by unfold labelD; rw [if_neg (by rw [← HM.out]; omega)])
        go_wp2
        go_ret
        exact ⟨ret_i HF.out.symm, HB1.out⟩

set_option maxHeartbeats 2000000 in
set_option maxRecDepth 100000 in
theorem rsame14_calls {w : World} {vn vl un ul : Value} {D : DfaM} (h : RdDfa w.heap.size w vn vl D) (k : RdDfa w.heap.size w un ul D) :
    Calls Tryz.prog 14 #[dfaA D.cls D.width vn vl, dfaA D.cls D.width un ul] w fun e w' => e = .returned (.bool true) ∧ Below w.heap.size w w' := by
  obtain ⟨an, cn, rfl⟩ := h.next.form
  obtain ⟨bn, dn, rfl⟩ := k.next.form
  have hbn : D.next.length ≤ 9223372036854775807 := by
    obtain ⟨_, _, e, h1, h2, _⟩ := h.next
    unfold maxLen at h2
    omega
  have HL := hidden (fun w' (hb : Below w.heap.size w w') => (rsame_calls (w := w') (h.label.below hb hb.size) (k.label.below hb hb.size)).mono fun e w2 h => (⟨h.1.trans (by rw [decide_eq_true rfl]), h.2⟩ : e = .returned (.bool true) ∧ Below w'.heap.size w' w2))
  obtain ⟨n, hn⟩ : ∃ n, n = D.next.length := ⟨_, rfl⟩
  rw [← hn] at hbn h k ⊢
  have HN := hidden hn
  have HD := hidden h
  have HK := hidden k
  have HX := hidden ((DfaAt.new w D.cls D.width (.slice an n cn) vl).alloc (.cells (dfaC D.cls D.width (.slice bn n dn) ul) 26))
  have HY := hidden (DfaAt.newAt (g := D.cls) (wd := D.width) (vn := .slice bn n dn) (vl := ul) (show (w.alloc (.cells (dfaC D.cls D.width (.slice an n cn) vl) 26)).heap.size = w.heap.size + 1 by simp))
  have HB0 := hidden (((Below.refl w.heap.size w).alloc (Nat.le_refl _) (.cells (dfaC D.cls D.width (.slice an n cn) vl) 26)).alloc (by simp) (.cells (dfaC D.cls D.width (.slice bn n dn) ul) 26))
  have hbx := run_box_dfa D.cls D.width (.slice an n cn) vl
  have hbx2 := run_box_dfa D.cls D.width (.slice bn n dn) ul
  have heq := fun w' => eq_same w' (g := D.cls) (h := D.cls) fun _ _ => rfl
  have x1 := HX.out.width
  have x2 := HX.out.next
  have x3 := HX.out.label
  have y1 := HY.out.width
  have y2 := HY.out.next
  have y3 := HY.out.label
  have q1 : (D.width == D.width) = true := by simp
  have q2 : ((n : Int) == (n : Int)) = true := by simp
  clear h k hn
  go_enter Tryz.func14, Tryz.ntmps14
  go_wp2_with (first | (refine load_any rfl (x := .tmp 6) rfl rfl (run_load_cls HX.out) ?_) | (refine load_any rfl (x := .tmp 8) rfl rfl (run_load_cls HY.out) ?_))
  refine (HL.out _ HB0.out).mono ?_
  rintro e w1 ⟨rfl, hb1⟩
  have HX1 := hidden (HX.out.below hb1)
  have HY1 := hidden (HY.out.below hb1)
  have HB1 := hidden (below_then HB0.out HB0.out.size hb1)
  clear hb1 heq x1 x2 x3 y1 y2 y3 q1 q2 HX HY HB0
  go_wp2
  go_loopw [5] (fun i wr => ∃ j : Nat, j ≤ n ∧ i = .int .i64 j ∧ Below w1.heap.size w1 wr) (fun i _ => n - (Go.RowKit.intOf i).toNat)
  case atStart => exact ⟨0, by omega, rfl, Below.refl _ _⟩
  case round =>
    obtain ⟨j, hj, rfl, hb⟩ := hrel
    have HB := hidden hb
    have hX := HX1.out.below hb
    have hY := HY1.out.below hb
    have x2 := hX.next
    have c2 := fun (p : Later wr) => Later.cell hX.next hX.lt p
    have c3 := fun (p : Later wr) => Later.cell hY.next hY.lt p
    clear hb hX hY
    by_cases hlt : j < n
    · obtain ⟨b, off, a', c', rfl, hbb, hc, hr⟩ := (HN.out ▸ HD.out.next).at (below_then HB1.out HB1.out.size HB.out) j (by rw [← HN.out]; exact hlt)
      obtain ⟨b2, off2, a2, c22, rfl, hbb2, hc2, hr2⟩ := (HN.out ▸ HK.out.next).at (below_then HB1.out HB1.out.size HB.out) j (by rw [← HN.out]; exact hlt)
      have d0 := fun (p : Later wr) => Later.cell hc (cell_lt hc) p
      have d1 := fun (p : Later wr) => Later.cell hc2 (cell_lt hc2) p
      have hwz : w.heap.size ≤ wr.heap.size := (below_then HB1.out HB1.out.size HB.out).size
      have HS := hidden (fun (p : Later wr) => rsame_calls (w := p.at') (hr.below (p.ok.mono hwz) (Nat.le_refl _)) (hr2.below (p.ok.mono hwz) (Nat.le_refl _)))
      generalize (D.next.getD j []).length = rl at *
      generalize D.next.getD j [] = r at *
      have HS := hidden (fun (p : Later wr) => (HS.out p).mono fun e w' h => (⟨h.1.trans (by rw [decide_eq_true rfl]), h.2⟩ : e = .returned (.bool true) ∧ Below p.at'.heap.size p.at' w'))
      have hjn : (j : Int) < n := by omega
      clear hr hr2 hc hc2
      go_wp2
      clear x2
      refine wp_region_later (by kernel_rfl) (by kernel_rfl) ?_
      repeat (go_big_quiet_step ((go_at_call 19; exact Later.calls (HS.out _))))
      refine wpQuiet_nil ?_
      rintro _ ⟨⟨w5, hb5⟩, rfl⟩
      go_wp2
      go_roundw
      case rel => exact ⟨j + 1, by omega, by go_num, below_then HB.out HB.out.size hb5⟩
      case measure => simp [Go.RowKit.intOf]; omega
    · obtain rfl : j = n := by omega
      go_wp2
      go_ret
      exact ⟨rfl, below_then HB1.out HB1.out.size HB.out⟩
end Go.Proofs.YtnjjbaodfjmiaaaGreat
