/- 'MunchCuts' answers true for every machine, text and piece: Cut, Join and Whole answer as the reference does, and the chapter's examples answer as they should. -/
import Derived.Test.YtgaadndhecokfaaMu38
namespace Go.Proofs.Ytgaadndhecokfaa
open Go.RowKit Go.Lib Go.Joins
attribute [local go_sem] Rl.evalR_tmp Rl.evalR_const Rl.evalR_global Rl.evalR_func

theorem same_self16 (l : List Pc) : sameP l l = true := decide_eq_true rfl
set_option maxHeartbeats 8000000 in
set_option maxRecDepth 100000 in
theorem walkMunchCuts (vn vl : Value) (D : DfaM) (s : ByteArray) (t : Int) (y : ByteArray) (w : World) (h : RdDfa w.heap.size w vn vl D) (hs : s.size ≤ maxLen) (hy : y.size ≤ maxLen) :
    Calls Try.prog 4 #[dfaA D.cls D.width vn vl, .string s, .agg #[.int .i64 t, .string y]] w fun e w' => e = .returned (.bool true) ∧ Below w.heap.size w w' := by
  unfold maxLen at hs hy
  have hnl : D.next.length ≤ 9223372036854775807 := by
    obtain ⟨_, _, e, h1, h2, _⟩ := h.next
    unfold maxLen at h2
    omega
  obtain ⟨an, cn, rfl⟩ := h.next.form
  have HRD := hidden h
  have HX0 := hidden ((DfaAt.new w D.cls D.width (.slice an D.next.length cn) vl).alloc (.cells #[.int .i64 t, .string y] 33))
  have hP0 := PcAt.new (w.alloc (.cells (dfaC D.cls D.width (.slice an D.next.length cn) vl) 26)) (t, y)
  rw [show (w.alloc (.cells (dfaC D.cls D.width (.slice an D.next.length cn) vl) 26)).heap.size = w.heap.size + 1 by simp] at hP0
  have hB0 := ((Below.refl w.heap.size w).alloc (Nat.le_refl _) (.cells (dfaC D.cls D.width (.slice an D.next.length cn) vl) 26)).alloc (by simp) (.cells #[.int .i64 t, .string y] 33)
  have HSM := hidden (smallM_calls (h.below hB0 hB0.size))
  have HB0 := hidden hB0
  have HP0 := hidden hP0
  have hbx := run_box_dfa D.cls D.width (.slice an D.next.length cn) vl
  obtain ⟨n, hn⟩ : ∃ n, n = D.next.length := ⟨_, rfl⟩
  rw [← hn] at HRD HX0 HB0 HSM hbx hnl HP0 ⊢
  clear h hn hB0 hP0
  go_enter Try.func4, Try.ntmps4
  go_wp2_with (refine load_dfa rfl (x := .tmp 3) rfl rfl HX0.out ?_)
  refine HSM.out.mono ?_
  rintro e wa ⟨rfl, hb1⟩
  have HX := hidden (HX0.out.below hb1)
  have HP := hidden (HP0.out.below hb1)
  have HBA := hidden (below_then HB0.out HB0.out.size hb1)
  clear hb1 HX0 HB0 HSM HP0
  cases hsm : smallM D with
  | false =>
    clear hsm
    go_wp2_with fail
    refine (knows16_calls _).mono ?_
    rintro e w2 ⟨rfl, hb2⟩
    go_wp2
    go_ret
    exact ⟨rfl, below_then HBA.out HBA.out.size hb2⟩
  | true =>
    clear hsm
    have e0 := HX.out.next
    have e9 := HP.out.text
    by_cases p1 : 60 < n
    · have q2 : decide ((60 : Int) < (n : Int)) = true := decide_eq_true (by omega)
      have q3 : decide (60 < n) = true := decide_eq_true p1
      clear p1
      go_wp2_with fail
      refine (knows16_calls _).mono ?_
      rintro e w2 ⟨rfl, hb2⟩
      go_wp2
      go_ret
      exact ⟨rfl, below_then HBA.out HBA.out.size hb2⟩
    have q2 : decide ((60 : Int) < (n : Int)) = false := decide_eq_false (by omega)
    have q3 : decide (60 < n) = false := decide_eq_false p1
    by_cases p2 : 60 < s.size
    · have q4 : decide ((60 : Int) < (s.size : Int)) = true := decide_eq_true (by omega)
      have q5 : decide (60 < s.size) = true := decide_eq_true p2
      clear p1 p2
      go_wp2_with fail
      refine (knows16_calls _).mono ?_
      rintro e w2 ⟨rfl, hb2⟩
      go_wp2
      go_ret
      exact ⟨rfl, below_then HBA.out HBA.out.size hb2⟩
    have q4 : decide ((60 : Int) < (s.size : Int)) = false := decide_eq_false (by omega)
    have q5 : decide (60 < s.size) = false := decide_eq_false p2
    by_cases p3 : 60 < y.size
    · have q6 : decide ((60 : Int) < (y.size : Int)) = true := decide_eq_true (by omega)
      have q7 : decide (60 < y.size) = true := decide_eq_true p3
      clear p1 p2 p3
      go_wp2_with fail
      refine (knows16_calls _).mono ?_
      rintro e w2 ⟨rfl, hb2⟩
      go_wp2
      go_ret
      exact ⟨rfl, below_then HBA.out HBA.out.size hb2⟩
    have q6 : decide ((60 : Int) < (y.size : Int)) = false := decide_eq_false (by omega)
    have q7 : decide (60 < y.size) = false := decide_eq_false p3
    have hba : Below w.heap.size w wa := HBA.out
    have hrd : ∀ W, Below wa.heap.size wa W → RdDfa W.heap.size W (.slice an n cn) vl D := fun W hb => HRD.out.below (below_then hba hba.size hb) (Nat.le_trans hba.size hb.size)
    have HPC := hidden (cut16_calls s (hrd wa (Below.refl _ _)) (by omega))
    have HRC := hidden (fun W (hb : Below wa.heap.size wa W) => rcut16_calls s (hrd W hb) (by omega))
    have HPW := hidden (fun W (hb : Below wa.heap.size wa W) => whole16_calls (t, y) (hrd W hb) (show y.size ≤ 200 by omega))
    have HRW := hidden (fun W (hb : Below wa.heap.size wa W) => rwhole16_calls (t, y) (hrd W hb) (show y.size ≤ 1000 by omega))
    have HSZ := hidden (show (joinS (cutS D s)).size ≤ 100000 by have := join_size D s; omega)
    obtain ⟨wv, hwv⟩ : ∃ wv, wv = wholeV D (t, y) := ⟨_, rfl⟩
    rw [← hwv] at HPW HRW
    obtain ⟨L, hL⟩ : ∃ L, L = cutS D s := ⟨_, rfl⟩
    rw [← hL] at HPC HRC HSZ
    obtain ⟨J, hJ⟩ : ∃ J, J = joinS L := ⟨_, rfl⟩
    have HJ := hidden hJ.symm
    dsimp only at HPW HRW
    clear p1 p2 p3 hL hba hrd hwv hJ
    go_wp2_with fail
    refine wpl_any16 (x := .tmp 3) rfl rfl (run_load_dfa HX.out) ?_
    simp only [Act.put, List.setIfInBounds_toArray, List.set_cons_zero, List.set_cons_succ]
    go_wp2_with fail
    refine HPC.out.mono ?_
    rintro e wb ⟨v7, rfl, hr7, hb7⟩
    obtain ⟨a7, c7, rfl⟩ := hr7.form
    have HL := hidden (fun W (hb : Below wb.heap.size wb W) => (show RdPV L (.slice a7 L.length c7) W from RdPV.below hr7.reads hb))
    obtain ⟨m, hm⟩ : ∃ m, m = L.length := ⟨_, rfl⟩
    rw [← hm] at HL ⊢
    have HX := hidden (HX.out.below hb7)
    have HP := hidden (HP.out.below hb7)
    have HRC := hidden (fun W (hb : Below wb.heap.size wb W) => HRC.out W (below_then hb7 hb7.size hb))
    have HPW := hidden (fun W (hb : Below wb.heap.size wb W) => HPW.out W (below_then hb7 hb7.size hb))
    have HRW := hidden (fun W (hb : Below wb.heap.size wb W) => HRW.out W (below_then hb7 hb7.size hb))
    have HBA := hidden (below_then HBA.out HBA.out.size hb7)
    obtain ⟨B, hB⟩ : ∃ B, B = w.heap.size := ⟨_, rfl⟩
    rw [← hB] at HX HP ⊢
    have HBE := hidden hB
    clear hr7 hb7 hm hB e0 e9
    go_wp2_with fail
    refine Rl.wp_region_steps (R := fun w1 w2 => Below w1.heap.size w1 w2) (Rl.typ [RdPV L, Rl.Is (dfaA D.cls D.width (.slice an n cn) vl), Rl.Is (.string s), RdPV L, Rl.Is (.bool true), Rl.Is (.bool true), RdPV L, Rl.Is (.string J), RdPV L, Rl.Is (.string J), Rl.Is (.bool true), Rl.Is (.bool true), Rl.Is (.bool true), Rl.Is (dfaA D.cls D.width (.slice an n cn) vl), Rl.Is (.agg #[.int .i64 t, .string y]), Rl.Is (.bool wv), Rl.Is (dfaA D.cls D.width (.slice an n cn) vl), Rl.Is (.agg #[.int .i64 t, .string y]), Rl.Is (.bool wv), Rl.Is (.bool true), Rl.Is (.bool true), Rl.Is (.bool true), Rl.Is (.bool true), Rl.Is (.bool true), Rl.Is (.bool true)]) (fun w1 => Below wb.heap.size wb w1) (by kernel_rfl) (by kernel_rfl) (by kernel_rfl) (by kernel_rfl) ?mono (Below.refl _ _).drew [5, 12, 21] (by kernel_rfl) ?guards ?step ?fin
    case mono =>
      refine Rl.typ_mono ?_
      simp only [List.forall_mem_cons]
      repeat' (first | exact (fun v w w' h _ => h) | exact (fun v w w' h hb => RdPV.below h hb) | (intro p hp; cases hp; done) | refine And.intro ?_ ?_)
    case guards =>
      intro g hg v w h
      simp at hg
      rcases hg with rfl | rfl | rfl <;> exact h
    case step =>
      refine ⟨?_, ?_, ?_, ?_, ?_, ?_, ?_, ?_, ?_, ?_, ?_, ?_, ?_, ?_, ?_, ?_, ?_, ?_, ?_, ?_, ?_, ?_, ?_, ?_, ?_, trivial⟩
      · intro ρ w1 hF hW
        have e7 : ρ 7 = .slice a7 m c7 := hF 7 (by decide)
        have HW := hidden hW
        clear hF hW
        unfold Rl.Does
        go_simp
        exact ⟨HL.out _ HW.out, HW.out, Below.refl _ _⟩
      · intro ρ w1 hF hW
        have e3 : ρ 3 = .pointer (some ⟨B, 0, none⟩) := hF 3 (by decide)
        have HW := hidden hW
        exact does_load_dfa16 rfl e3 (HX.out.below HW.out) ⟨rfl, HW.out, Below.refl _ _⟩
      · intro ρ w1 hF hW
        have e1 : ρ 1 = .string s := hF 1 (by decide)
        have HW := hidden hW
        clear hF hW
        unfold Rl.Does
        go_simp
        first
          | exact ⟨rfl, HW.out, Below.refl _ _⟩
          | (simp; exact ⟨rfl, HW.out, Below.refl _ _⟩)
      · intro ρ w1 hF hW
        have e33 : ρ 33 = dfaA D.cls D.width (.slice an n cn) vl := hF 33 (by decide)
        have e34 : ρ 34 = .string s := hF 34 (by decide)
        have HW := hidden hW
        clear hF hW
        unfold Rl.Does
        go_simp
        refine (HRC.out _ HW.out).mono ?_
        rintro e w3 ⟨v, rfl, hr, hb⟩
        exact ⟨_, rfl, hr.reads, below_then HW.out HW.out.size hb, hb⟩
      · intro ρ w1 hF hW
        have f0 : RdPV L (ρ 32) w1 := hF 32 (by decide)
        have f1 : RdPV L (ρ 35) w1 := hF 35 (by decide)
        have HW := hidden hW
        have HS := hidden (rsame16_calls f0 f1)
        rw [same_self16] at HS
        clear hF hW f0 f1
        unfold Rl.Does
        go_simp
        refine HS.out.mono ?_
        rintro e w3 ⟨rfl, hb⟩
        exact ⟨_, rfl, rfl, below_then HW.out HW.out.size hb, hb⟩
      · intro ρ w1 hF hW
        have e36 : ρ 36 = .bool true := hF 36 (by decide)
        have HW := hidden hW
        clear hF hW
        unfold Rl.Does
        go_simp
        first
          | exact ⟨rfl, HW.out, Below.refl _ _⟩
          | (simp; exact ⟨rfl, HW.out, Below.refl _ _⟩)
      · intro ρ w1 hF hW
        have e7 : ρ 7 = .slice a7 m c7 := hF 7 (by decide)
        have HW := hidden hW
        clear hF hW
        unfold Rl.Does
        go_simp
        exact ⟨HL.out _ HW.out, HW.out, Below.refl _ _⟩
      · intro ρ w1 hF hW
        have f0 : RdPV L (ρ 38) w1 := hF 38 (by decide)
        have HW := hidden hW
        have HS := hidden (join16_calls f0 HSZ.out)
        rw [HJ.out] at HS
        clear hF hW f0
        unfold Rl.Does
        go_simp
        refine HS.out.mono ?_
        rintro e w3 ⟨rfl, hb⟩
        exact ⟨_, rfl, rfl, below_then HW.out HW.out.size hb, hb⟩
      · intro ρ w1 hF hW
        have e7 : ρ 7 = .slice a7 m c7 := hF 7 (by decide)
        have HW := hidden hW
        clear hF hW
        unfold Rl.Does
        go_simp
        exact ⟨HL.out _ HW.out, HW.out, Below.refl _ _⟩
      · intro ρ w1 hF hW
        have f0 : RdPV L (ρ 40) w1 := hF 40 (by decide)
        have HW := hidden hW
        have HS := hidden (rjoin16_calls f0 HSZ.out)
        rw [HJ.out] at HS
        clear hF hW f0
        unfold Rl.Does
        go_simp
        refine HS.out.mono ?_
        rintro e w3 ⟨rfl, hb⟩
        exact ⟨_, rfl, rfl, below_then HW.out HW.out.size hb, hb⟩
      · intro ρ w1 hF hW
        have e39 : ρ 39 = .string J := hF 39 (by decide)
        have e41 : ρ 41 = .string J := hF 41 (by decide)
        have HW := hidden hW
        clear hF hW
        unfold Rl.Does
        go_simp
        first
          | exact ⟨rfl, HW.out, Below.refl _ _⟩
          | (simp; exact ⟨rfl, HW.out, Below.refl _ _⟩)
      · intro ρ w1 hF hW
        have e37 : ρ 37 = .bool true := hF 37 (by decide)
        have e42 : ρ 42 = .bool true := hF 42 (by decide)
        have HW := hidden hW
        clear hF hW
        unfold Rl.Does
        go_simp
        first
          | exact ⟨rfl, HW.out, Below.refl _ _⟩
          | (simp; exact ⟨rfl, HW.out, Below.refl _ _⟩)
      · intro ρ w1 hF hW
        have e43 : ρ 43 = .bool true := hF 43 (by decide)
        have HW := hidden hW
        clear hF hW
        unfold Rl.Does
        go_simp
        first
          | exact ⟨rfl, HW.out, Below.refl _ _⟩
          | (simp; exact ⟨rfl, HW.out, Below.refl _ _⟩)
      · intro ρ w1 hF hW
        have e3 : ρ 3 = .pointer (some ⟨B, 0, none⟩) := hF 3 (by decide)
        have HW := hidden hW
        exact does_load_dfa16 rfl e3 (HX.out.below HW.out) ⟨rfl, HW.out, Below.refl _ _⟩
      · intro ρ w1 hF hW
        have e5 : ρ 5 = .pointer (some ⟨B + 1, 0, none⟩) := hF 5 (by decide)
        have HW := hidden hW
        have c0 := (HP.out.below hW).tok
        have c1 := (HP.out.below hW).text
        clear hF hW
        unfold Rl.Does
        go_simp
        exact ⟨rfl, HW.out, Below.refl _ _⟩
      · intro ρ w1 hF hW
        have e45 : ρ 45 = dfaA D.cls D.width (.slice an n cn) vl := hF 45 (by decide)
        have e46 : ρ 46 = .agg #[.int .i64 t, .string y] := hF 46 (by decide)
        have HW := hidden hW
        clear hF hW
        unfold Rl.Does
        go_simp
        refine (HPW.out _ HW.out).mono ?_
        rintro e w3 ⟨rfl, hb⟩
        exact ⟨_, rfl, rfl, below_then HW.out HW.out.size hb, hb⟩
      · intro ρ w1 hF hW
        have e3 : ρ 3 = .pointer (some ⟨B, 0, none⟩) := hF 3 (by decide)
        have HW := hidden hW
        exact does_load_dfa16 rfl e3 (HX.out.below HW.out) ⟨rfl, HW.out, Below.refl _ _⟩
      · intro ρ w1 hF hW
        have e5 : ρ 5 = .pointer (some ⟨B + 1, 0, none⟩) := hF 5 (by decide)
        have HW := hidden hW
        have c0 := (HP.out.below hW).tok
        have c1 := (HP.out.below hW).text
        clear hF hW
        unfold Rl.Does
        go_simp
        exact ⟨rfl, HW.out, Below.refl _ _⟩
      · intro ρ w1 hF hW
        have e48 : ρ 48 = dfaA D.cls D.width (.slice an n cn) vl := hF 48 (by decide)
        have e49 : ρ 49 = .agg #[.int .i64 t, .string y] := hF 49 (by decide)
        have HW := hidden hW
        clear hF hW
        unfold Rl.Does
        go_simp
        refine (HRW.out _ HW.out).mono ?_
        rintro e w3 ⟨rfl, hb⟩
        exact ⟨_, rfl, rfl, below_then HW.out HW.out.size hb, hb⟩
      · intro ρ w1 hF hW
        have e47 : ρ 47 = .bool wv := hF 47 (by decide)
        have e50 : ρ 50 = .bool wv := hF 50 (by decide)
        have HW := hidden hW
        clear hF hW
        unfold Rl.Does
        go_simp
        first
          | exact ⟨rfl, HW.out, Below.refl _ _⟩
          | (simp; exact ⟨rfl, HW.out, Below.refl _ _⟩)
      · intro ρ w1 hF hW
        have e44 : ρ 44 = .bool true := hF 44 (by decide)
        have e51 : ρ 51 = .bool true := hF 51 (by decide)
        have HW := hidden hW
        clear hF hW
        unfold Rl.Does
        go_simp
        first
          | exact ⟨rfl, HW.out, Below.refl _ _⟩
          | (simp; exact ⟨rfl, HW.out, Below.refl _ _⟩)
      · intro ρ w1 hF hW
        have e52 : ρ 52 = .bool true := hF 52 (by decide)
        have HW := hidden hW
        clear hF hW
        unfold Rl.Does
        go_simp
        first
          | exact ⟨rfl, HW.out, Below.refl _ _⟩
          | (simp; exact ⟨rfl, HW.out, Below.refl _ _⟩)
      · intro ρ w1 hF hW
        have HW := hidden hW
        clear hF hW
        unfold Rl.Does
        go_simp
        refine (knows16_calls _).mono ?_
        rintro e w3 ⟨rfl, hb⟩
        exact ⟨_, rfl, rfl, below_then HW.out HW.out.size hb, hb⟩
      · intro ρ w1 hF hW
        have e53 : ρ 53 = .bool true := hF 53 (by decide)
        have e54 : ρ 54 = .bool true := hF 54 (by decide)
        have HW := hidden hW
        clear hF hW
        unfold Rl.Does
        go_simp
        first
          | exact ⟨rfl, HW.out, Below.refl _ _⟩
          | (simp; exact ⟨rfl, HW.out, Below.refl _ _⟩)
      · intro ρ w1 hF hW
        have e55 : ρ 55 = .bool true := hF 55 (by decide)
        have HW := hidden hW
        clear hF hW
        unfold Rl.Does
        go_simp
        first
          | exact ⟨rfl, HW.out, Below.refl _ _⟩
          | (simp; exact ⟨rfl, HW.out, Below.refl _ _⟩)
    case fin =>
      intro a1 w11 hst hv hW
      have h8 : a1.tmps.getD 6 undef = .bool true := hv 24 6 (by kernel_rfl)
      have hd := hst.defers
      have HW := hidden hW
      clear hv hW
      (try go_wp2)
      refine bodyPost_ret (results_tmp rfl _ _ _) hd ?_
      rw [h8]
      exact ⟨rfl, below_then (HBE.out ▸ HBA.out) HBA.out.size HW.out⟩
namespace lawMunchCuts
open Go.ChangeShapes Go.WideShapes Go.ChangeAt Go.RowKit Go.Deep
open Go.ChangeMaps (open_string shut_string)

set_option maxRecDepth 100000 in
theorem lifted (os : Os) (started : os.Started) (H : Type) (enc : TypeId × Value → H) :
    ReturnsInHanded {} Try.checked os 4 .any (Rows.munchCutsSpec.pre6 enc Try.prog Try.f4 Rows.munchCutsRow.domain false) (Rows.munchCutsSpec.post enc Try.prog Try.f4 false true false false) := by
  refine returnsInHanded_of_change (C := Try.checked) own started (by kernel_rfl) Try.func4
    (ChangeSpec.witness6 (enc := enc) (C := Try.checked) false ⟨#[], #[dfaA (fun _ => 0) 0 (.slice none 0 0) (.slice none 0 0), .string ⟨#[]⟩, .agg #[.int .i64 0, .string ⟨#[]⟩]], []⟩ 8 (by kernel_rfl) (by kernel_rfl) (by kernel_rfl) (by kernel_rfl)) ?_
  intro W base args ds gs before hval0 hW hcnd _
  have hval : ∀ (j : Nat) t v, Try.f4.params[j]? = some t → args[j]? = some v → Value.okWide Try.prog W .any base t v := hval0
  have hW' : DataW.Whole enc Try.prog Try.f4.params.toList Rows.munchCutsSpec.vars false W args.toList ds gs before := hW
  obtain ⟨p, q, hA0, hV, rfl, hfz, hnd⟩ := hW
  have hA : DataW.TrodAll enc Try.prog W 0 (fun _ => true) true Try.f4.params.toList args.toList ds p := hA0
  have hlt : ∀ x ∈ p, x.block < W.heap.size := fun x hx => hW'.lt x (List.mem_append_left _ hx)
  rw [Try.params4] at hA hval
  obtain ⟨v0, vs0, d0, ds0, p0, q0, hargs, hd0, hp0, h0, r0⟩ := trodAll_cons hA
  obtain ⟨v1, vs1, d1, ds1, p1, q1, rfl, hd1, hp1, h1, r1⟩ := trodAll_cons r0
  obtain ⟨v2, vs2, d2, ds2, p2, q2, rfl, hd2, hp2, h2, r2⟩ := trodAll_cons r1
  obtain ⟨rfl, _, _⟩ := trodAll_nil r2
  obtain rfl : args = #[v0, v1, v2] := by cases args; simp_all
  obtain ⟨s0a, s0b, z0, rfl, w0⟩ := open_dfa (hval 0 26 v0 rfl rfl) h0
  obtain ⟨a1, rfl, _, _, w1⟩ := open_string Try.underlying9 (hval 1 9 v1 rfl rfl) h1
  obtain ⟨a2, b2, rfl, w2⟩ := open_pc (hval 2 33 v2 rfl rfl) h2
  refine (walkMunchCuts s0a s0b z0 a1 a2 b2 W w0 w1 w2).mono fun e W' ⟨he, hb⟩ => ⟨_, he, ends_true hW' rfl (by kernel_rfl) ?_ (by kernel_rfl) hb⟩
  intro xs hxs
  match xs, hxs with
  | [_, _, _], _ => rfl

theorem proved : Rows.MunchCutsSaid :=
  OpenClaim.holds_of_wide 4 Try.f4 rfl rfl rfl rfl rfl rfl rfl ⟨rfl, rfl, rfl, rfl, rfl⟩ rfl rfl rfl rfl rfl (by kernel_rfl) Try.func4 (by kernel_rfl)
    (of_decide_eq_true (by kernel_rfl)) (by unfold Func.isWrapper; first | (rw [if_pos (by decide +kernel)]; kernel_rfl) | (rw [if_neg (by decide +kernel)]; exact ⟨rfl, rfl⟩))
    (fun os started H enc _ => lifted os started H enc)

end lawMunchCuts
end Go.Proofs.Ytgaadndhecokfaa
