/- 'LiveTells' answers true for every machine: Reached, Alive and Trim answer as the reference does, and the chapter's examples answer as they should. -/
import Derived.Test.YtnjjbaodfjmiaaaGreatLt41
import Derived.Test.YtnjjbaodfjmiaaaGreatLt43
namespace Go.Proofs.YtnjjbaodfjmiaaaGreat
open Go.RowKit Go.Lib Go.Joins
attribute [local go_sem] Rl.evalR_tmp Rl.evalR_const Rl.evalR_global Rl.evalR_func

set_option maxHeartbeats 16000000 in
set_option maxRecDepth 100000 in
theorem walkLiveTells (vn vl : Value) (D : DfaM) (w : World) (h : RdDfa w.heap.size w vn vl D) :
    Calls Tryz.prog 3 #[dfaA D.cls D.width vn vl] w fun e w' => e = .returned (.bool true) ∧ Below w.heap.size w w' := by
  obtain ⟨an, cn, rfl⟩ := h.next.form
  have HRD := hidden h
  have HX0 := hidden (DfaAt.new w D.cls D.width (.slice an D.next.length cn) vl)
  have HB0 := hidden ((Below.refl w.heap.size w).alloc (Nat.le_refl _) (.cells (dfaC D.cls D.width (.slice an D.next.length cn) vl) 26))
  have HSM := hidden (smallM_calls (h.below HB0.out HB0.out.size))
  have hbx := run_box_dfa D.cls D.width (.slice an D.next.length cn) vl
  obtain ⟨n, hn⟩ : ∃ n, n = D.next.length := ⟨_, rfl⟩
  rw [← hn] at HRD HX0 HB0 HSM hbx ⊢
  have HN := hidden hn
  clear h hn
  go_enter Tryz.func3, Tryz.ntmps3
  go_wp2_with (refine load_dfa rfl (x := .tmp 1) rfl rfl HX0.out ?_)
  refine HSM.out.mono ?_
  rintro e wa ⟨rfl, hb1⟩
  have HX := hidden (HX0.out.below hb1)
  have HBA := hidden (below_then HB0.out HB0.out.size hb1)
  obtain ⟨B, hB⟩ : ∃ B, B = w.heap.size := ⟨_, rfl⟩
  rw [← hB] at HX ⊢
  have HBE := hidden hB
  clear hb1 hB HX0 HB0 HSM
  cases hsm : smallM D with
  | false =>
    clear hsm
    go_wp2_with fail
    refine (knows15_calls _).mono ?_
    rintro e w2 ⟨rfl, hb2⟩
    go_wp2
    go_ret
    exact ⟨rfl, below_then (HBE.out ▸ HBA.out) HBA.out.size hb2⟩
  | true =>
    clear hsm
    have e0 := HX.out.next
    by_cases p1 : 60 < n
    · have q2 : decide ((60 : Int) < (n : Int)) = true := decide_eq_true (by omega)
      have q3 : decide (60 < n) = true := decide_eq_true p1
      clear p1
      go_wp2_with fail
      refine (knows15_calls _).mono ?_
      rintro e w2 ⟨rfl, hb2⟩
      go_wp2
      go_ret
      exact ⟨rfl, below_then (HBE.out ▸ HBA.out) HBA.out.size hb2⟩
    have q2 : decide ((60 : Int) < (n : Int)) = false := decide_eq_false (by omega)
    have q3 : decide (60 < n) = false := decide_eq_false p1
    have hN : D.next.length ≤ 1000 := by have := HN.out; omega
    clear p1
    have hba : Below w.heap.size w wa := HBA.out
    have hrd : ∀ W, Below wa.heap.size wa W → RdDfa W.heap.size W (.slice an n cn) vl D := fun W hb => HRD.out.below (below_then hba hba.size hb) (Nat.le_trans hba.size hb.size)
    have HLR := hidden (fun W (hb : Below wa.heap.size wa W) => lreached_calls (hrd W hb) hN)
    have HRR := hidden (fun W (hb : Below wa.heap.size wa W) => rreached_calls (hrd W hb) hN)
    have HLA := hidden (fun W (hb : Below wa.heap.size wa W) => lalive_calls (hrd W hb) hN)
    have HRA := hidden (fun W (hb : Below wa.heap.size wa W) => ralive_calls (hrd W hb) hN)
    have HLT := hidden (fun W (hb : Below wa.heap.size wa W) => ltrim_calls (hrd W hb) hN)
    have HRT := hidden (fun W (hb : Below wa.heap.size wa W) => rtrim_calls (hrd W hb) hN)
    clear hba hrd hN
    go_wp2_with fail
    clear e0
    refine Rl.wp_region_steps (R := fun w1 w2 => Below w1.heap.size w1 w2) (Rl.typ [Rl.Is (dfaA D.cls D.width (.slice an n cn) vl), RdBoolV (reachedL D), Rl.Is (dfaA D.cls D.width (.slice an n cn) vl), RdBoolV (reachedL D), Rl.Is (.bool true), Rl.Is (.bool true), Rl.Is (dfaA D.cls D.width (.slice an n cn) vl), RdBoolV (aliveL D), Rl.Is (dfaA D.cls D.width (.slice an n cn) vl), RdBoolV (aliveL D), Rl.Is (.bool true), Rl.Is (.bool true), Rl.Is (.bool true), Rl.Is (dfaA D.cls D.width (.slice an n cn) vl), RdDfaV (trimM D), Rl.Is (dfaA D.cls D.width (.slice an n cn) vl), RdDfaV (trimM D), Rl.Is (.bool true), Rl.Is (.bool true), Rl.Is (.bool true), Rl.Is (.bool true), Rl.Is (.bool true), Rl.Is (.bool true)]) (fun w1 => Below wa.heap.size wa w1) (by kernel_rfl) (by kernel_rfl) (by kernel_rfl) (by kernel_rfl) ?mono (Below.refl _ _).drew [5, 12, 19] (by kernel_rfl) ?guards ?step ?fin
    case mono =>
      refine Rl.typ_mono ?_
      simp only [List.forall_mem_cons]
      repeat' (first | exact (fun v w w' h _ => h) | exact (fun v w w' h hb => RdB.below h hb hb.size) | exact (fun v w w' h hb => RdDfaV.below h hb) | (intro p hp; cases hp; done) | refine And.intro ?_ ?_)
    case guards =>
      intro g hg v w h
      simp at hg
      rcases hg with rfl | rfl | rfl <;> exact h
    case step =>
      refine ⟨?_, ?_, ?_, ?_, ?_, ?_, ?_, ?_, ?_, ?_, ?_, ?_, ?_, ?_, ?_, ?_, ?_, ?_, ?_, ?_, ?_, ?_, ?_, trivial⟩
      · intro ρ w1 hF hW
        have e1 : ρ 1 = .pointer (some ⟨B, 0, none⟩) := hF 1 (by decide)
        have HW := hidden hW
        exact does_load_dfaT rfl e1 (HX.out.below HW.out) ⟨rfl, HW.out, Below.refl _ _⟩
      · intro ρ w1 hF hW
        have e13 : ρ 13 = dfaA D.cls D.width (.slice an n cn) vl := hF 13 (by decide)
        have HW := hidden hW
        clear hF hW
        unfold Rl.Does
        go_simp
        refine (HLR.out _ HW.out).mono ?_
        rintro e w3 ⟨v, rfl, hr, hb, _⟩
        exact ⟨_, rfl, hr, below_after HW.out hb, hb⟩
      · intro ρ w1 hF hW
        have e1 : ρ 1 = .pointer (some ⟨B, 0, none⟩) := hF 1 (by decide)
        have HW := hidden hW
        exact does_load_dfaT rfl e1 (HX.out.below HW.out) ⟨rfl, HW.out, Below.refl _ _⟩
      · intro ρ w1 hF hW
        have e15 : ρ 15 = dfaA D.cls D.width (.slice an n cn) vl := hF 15 (by decide)
        have HW := hidden hW
        clear hF hW
        unfold Rl.Does
        go_simp
        refine (HRR.out _ HW.out).mono ?_
        rintro e w3 ⟨v, rfl, hr, hb, _⟩
        exact ⟨_, rfl, hr, below_after HW.out hb, hb⟩
      · intro ρ w1 hF hW
        have f1 : RdB w1.heap.size w1 (ρ 14) (reachedL D) := hF 14 (by decide)
        have f2 : RdB w1.heap.size w1 (ρ 16) (reachedL D) := hF 16 (by decide)
        have HS := hidden (sameBools_calls f1 f2 (Nat.le_refl _))
        rw [sameB_self] at HS
        have HW := hidden hW
        clear hF hW f1 f2
        unfold Rl.Does
        go_simp
        refine HS.out.mono ?_
        rintro e w3 ⟨rfl, hb⟩
        exact ⟨_, rfl, rfl, below_after HW.out hb, hb⟩
      · intro ρ w1 hF hW
        have e17 : ρ 17 = .bool true := hF 17 (by decide)
        have HW := hidden hW
        clear hF hW
        unfold Rl.Does
        go_simp
        first
          | exact ⟨rfl, HW.out, Below.refl _ _⟩
          | (simp; exact ⟨rfl, HW.out, Below.refl _ _⟩)
      · intro ρ w1 hF hW
        have e1 : ρ 1 = .pointer (some ⟨B, 0, none⟩) := hF 1 (by decide)
        have HW := hidden hW
        exact does_load_dfaT rfl e1 (HX.out.below HW.out) ⟨rfl, HW.out, Below.refl _ _⟩
      · intro ρ w1 hF hW
        have e19 : ρ 19 = dfaA D.cls D.width (.slice an n cn) vl := hF 19 (by decide)
        have HW := hidden hW
        clear hF hW
        unfold Rl.Does
        go_simp
        refine (HLA.out _ HW.out).mono ?_
        rintro e w3 ⟨v, rfl, hr, hb, _⟩
        exact ⟨_, rfl, hr, below_after HW.out hb, hb⟩
      · intro ρ w1 hF hW
        have e1 : ρ 1 = .pointer (some ⟨B, 0, none⟩) := hF 1 (by decide)
        have HW := hidden hW
        exact does_load_dfaT rfl e1 (HX.out.below HW.out) ⟨rfl, HW.out, Below.refl _ _⟩
      · intro ρ w1 hF hW
        have e21 : ρ 21 = dfaA D.cls D.width (.slice an n cn) vl := hF 21 (by decide)
        have HW := hidden hW
        clear hF hW
        unfold Rl.Does
        go_simp
        refine (HRA.out _ HW.out).mono ?_
        rintro e w3 ⟨v, rfl, hr, hb, _⟩
        exact ⟨_, rfl, hr, below_after HW.out hb, hb⟩
      · intro ρ w1 hF hW
        have f1 : RdB w1.heap.size w1 (ρ 20) (aliveL D) := hF 20 (by decide)
        have f2 : RdB w1.heap.size w1 (ρ 22) (aliveL D) := hF 22 (by decide)
        have HS := hidden (sameBools_calls f1 f2 (Nat.le_refl _))
        rw [sameB_self] at HS
        have HW := hidden hW
        clear hF hW f1 f2
        unfold Rl.Does
        go_simp
        refine HS.out.mono ?_
        rintro e w3 ⟨rfl, hb⟩
        exact ⟨_, rfl, rfl, below_after HW.out hb, hb⟩
      · intro ρ w1 hF hW
        have e18 : ρ 18 = .bool true := hF 18 (by decide)
        have e23 : ρ 23 = .bool true := hF 23 (by decide)
        have HW := hidden hW
        clear hF hW
        unfold Rl.Does
        go_simp
        first
          | exact ⟨rfl, HW.out, Below.refl _ _⟩
          | (simp; exact ⟨rfl, HW.out, Below.refl _ _⟩)
      · intro ρ w1 hF hW
        have e24 : ρ 24 = .bool true := hF 24 (by decide)
        have HW := hidden hW
        clear hF hW
        unfold Rl.Does
        go_simp
        first
          | exact ⟨rfl, HW.out, Below.refl _ _⟩
          | (simp; exact ⟨rfl, HW.out, Below.refl _ _⟩)
      · intro ρ w1 hF hW
        have e1 : ρ 1 = .pointer (some ⟨B, 0, none⟩) := hF 1 (by decide)
        have HW := hidden hW
        exact does_load_dfaT rfl e1 (HX.out.below HW.out) ⟨rfl, HW.out, Below.refl _ _⟩
      · intro ρ w1 hF hW
        have e26 : ρ 26 = dfaA D.cls D.width (.slice an n cn) vl := hF 26 (by decide)
        have HW := hidden hW
        clear hF hW
        unfold Rl.Does
        go_simp
        refine (HLT.out _ HW.out).mono ?_
        rintro e w3 ⟨vn', vl', rfl, hr, hb⟩
        exact ⟨_, rfl, ⟨_, _, rfl, hr⟩, below_after HW.out hb, hb⟩
      · intro ρ w1 hF hW
        have e1 : ρ 1 = .pointer (some ⟨B, 0, none⟩) := hF 1 (by decide)
        have HW := hidden hW
        exact does_load_dfaT rfl e1 (HX.out.below HW.out) ⟨rfl, HW.out, Below.refl _ _⟩
      · intro ρ w1 hF hW
        have e28 : ρ 28 = dfaA D.cls D.width (.slice an n cn) vl := hF 28 (by decide)
        have HW := hidden hW
        clear hF hW
        unfold Rl.Does
        go_simp
        refine (HRT.out _ HW.out).mono ?_
        rintro e w3 ⟨vn', vl', rfl, hr, hb⟩
        exact ⟨_, rfl, ⟨_, _, rfl, hr⟩, below_after HW.out hb, hb⟩
      · intro ρ w1 hF hW
        obtain ⟨un1, ul1, e1, r1⟩ : RdDfaV (trimM D) (ρ 27) w1 := hF 27 (by decide)
        obtain ⟨un2, ul2, e2, r2⟩ : RdDfaV (trimM D) (ρ 29) w1 := hF 29 (by decide)
        have HS := hidden (rsame14_calls r1 r2)
        have HW := hidden hW
        clear hF hW r1 r2
        unfold Rl.Does
        go_simp
        refine HS.out.mono ?_
        rintro e w3 ⟨rfl, hb⟩
        exact ⟨_, rfl, rfl, below_after HW.out hb, hb⟩
      · intro ρ w1 hF hW
        have e25 : ρ 25 = .bool true := hF 25 (by decide)
        have e30 : ρ 30 = .bool true := hF 30 (by decide)
        have HW := hidden hW
        clear hF hW
        unfold Rl.Does
        go_simp
        first
          | exact ⟨rfl, HW.out, Below.refl _ _⟩
          | (simp; exact ⟨rfl, HW.out, Below.refl _ _⟩)
      · intro ρ w1 hF hW
        have e31 : ρ 31 = .bool true := hF 31 (by decide)
        have HW := hidden hW
        clear hF hW
        unfold Rl.Does
        go_simp
        first
          | exact ⟨rfl, HW.out, Below.refl _ _⟩
          | (simp; exact ⟨rfl, HW.out, Below.refl _ _⟩)
      · intro ρ w1 hF hW
        have HW := hidden hW
        clear hF hW
        unfold Rl.Does
        go_simp
        refine (knows15_calls _).mono ?_
        rintro e w3 ⟨rfl, hb⟩
        exact ⟨_, rfl, rfl, below_after HW.out hb, hb⟩
      · intro ρ w1 hF hW
        have e32 : ρ 32 = .bool true := hF 32 (by decide)
        have e33 : ρ 33 = .bool true := hF 33 (by decide)
        have HW := hidden hW
        clear hF hW
        unfold Rl.Does
        go_simp
        first
          | exact ⟨rfl, HW.out, Below.refl _ _⟩
          | (simp; exact ⟨rfl, HW.out, Below.refl _ _⟩)
      · intro ρ w1 hF hW
        have e34 : ρ 34 = .bool true := hF 34 (by decide)
        have HW := hidden hW
        clear hF hW
        unfold Rl.Does
        go_simp
        first
          | exact ⟨rfl, HW.out, Below.refl _ _⟩
          | (simp; exact ⟨rfl, HW.out, Below.refl _ _⟩)
    case fin =>
      intro a1 w11 hst hv hW
      have h8 : a1.tmps.getD 2 undef = .bool true := hv 22 2 (by kernel_rfl)
      have hd := hst.defers
      have HW := hidden hW
      clear hv hW
      (try go_wp2)
      refine bodyPost_ret (results_tmp rfl _ _ _) hd ?_
      rw [h8]
      exact ⟨rfl, below_then HBA.out HBA.out.size HW.out⟩
namespace lawLiveTells
open Go.ChangeShapes Go.WideShapes Go.ChangeAt Go.RowKit Go.Deep
open Go.ChangeMaps (open_string shut_string)

set_option maxRecDepth 100000 in
theorem lifted (os : Os) (started : os.Started) (H : Type) (enc : TypeId × Value → H) :
    ReturnsInHanded {} Tryz.checked os 3 .any (Rows.liveTellsSpec.pre6 enc Tryz.prog Tryz.f3 Rows.liveTellsRow.domain false) (Rows.liveTellsSpec.post enc Tryz.prog Tryz.f3 false true false false) := by
  refine returnsInHanded_of_change (C := Tryz.checked) own started (by kernel_rfl) Tryz.func3
    (ChangeSpec.witness6 (enc := enc) (C := Tryz.checked) false ⟨#[], #[dfaA (fun _ => 0) 0 (.slice none 0 0) (.slice none 0 0)], []⟩ 8 (by kernel_rfl) (by kernel_rfl) (by kernel_rfl) (by kernel_rfl)) ?_
  intro W base args ds gs before hval0 hW hcnd _
  have hval : ∀ (j : Nat) t v, Tryz.f3.params[j]? = some t → args[j]? = some v → Value.okWide Tryz.prog W .any base t v := hval0
  have hW' : DataW.Whole enc Tryz.prog Tryz.f3.params.toList Rows.liveTellsSpec.vars false W args.toList ds gs before := hW
  obtain ⟨p, q, hA0, hV, rfl, hfz, hnd⟩ := hW
  have hA : DataW.TrodAll enc Tryz.prog W 0 (fun _ => true) true Tryz.f3.params.toList args.toList ds p := hA0
  have hlt : ∀ x ∈ p, x.block < W.heap.size := fun x hx => hW'.lt x (List.mem_append_left _ hx)
  rw [Tryz.params3] at hA hval
  obtain ⟨v0, vs0, d0, ds0, p0, q0, hargs, hd0, hp0, h0, r0⟩ := trodAll_cons hA
  obtain ⟨rfl, _, _⟩ := trodAll_nil r0
  obtain rfl : args = #[v0] := by cases args; simp_all
  obtain ⟨s0a, s0b, z0, rfl, w0⟩ := open_dfa (hval 0 26 v0 rfl rfl) h0
  refine (walkLiveTells s0a s0b z0 W w0).mono fun e W' ⟨he, hb⟩ => ⟨_, he, ends_true hW' rfl (by kernel_rfl) ?_ (by kernel_rfl) hb⟩
  intro xs hxs
  match xs, hxs with
  | [_], _ => rfl

theorem proved : Rows.LiveTellsSaid :=
  OpenClaim.holds_of_wide 3 Tryz.f3 rfl rfl rfl rfl rfl rfl rfl ⟨rfl, rfl, rfl, rfl, rfl⟩ rfl rfl rfl rfl rfl (by kernel_rfl) Tryz.func3 (by kernel_rfl)
    (of_decide_eq_true (by kernel_rfl)) (by unfold Func.isWrapper; first | (rw [if_pos (by decide +kernel)]; kernel_rfl) | (rw [if_neg (by decide +kernel)]; exact ⟨rfl, rfl⟩))
    (fun os started H enc _ => lifted os started H enc)

end lawLiveTells
end Go.Proofs.YtnjjbaodfjmiaaaGreat
