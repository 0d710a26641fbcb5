/- 'LiveWords' answers true for every machine and label: Example and Tokens answer as the reference does, and an example is there just if the label is among the tokens. -/
import Derived.Test.YtnjjbaodfjmiaaaGreatLt41
import Derived.Test.YtnjjbaodfjmiaaaGreatLw43
import Derived.Test.YtnjjbaodfjmiaaaGreatLt36
namespace Go.Proofs.YtnjjbaodfjmiaaaGreat
open Go.RowKit Go.Lib Go.Joins
attribute [local go_sem] Rl.evalR_tmp Rl.evalR_const Rl.evalR_global Rl.evalR_func

def RdZV (l : List Int) (v : Value) (w : World) : Prop := RdZ w.heap.size w v l
theorem exV_is {D : DfaM} {t : Int} (ht : 0 ≤ t) : ExSpec D t (exV D t) := by
  unfold exV
  by_cases hR : rightD D = true
  · rw [if_pos ⟨ht, hR⟩]
    exact vis_example hR ht
  · rw [if_neg fun h => hR h.2]
    intro w _ e
    unfold labelD at e
    rw [if_neg fun h => hR h.1] at e
    omega
theorem ex_same (D : DfaM) (t : Int) : exM D t = exV D t := by
  by_cases h : rightD D = true ∧ 0 ≤ t
  · exact ExSpec.one (exM_ok h.1 h.2) (exV_is h.2)
  · unfold exM exV
    rw [if_neg h, if_neg fun e => h ⟨e.2, e.1⟩]
theorem ex_has (D : DfaM) (t : Int) : (exV D t).isSome = decide (t ∈ tokM D) := by
  have hm : t ∈ tokM D ↔ ∃ i, i < (reachedL D).length ∧ On (reachedL D) i ∧ 0 ≤ D.label.getD i 0 ∧ t = D.label.getD i 0 := by
    unfold tokM
    rw [(of_facts _).2, tokL_mem]
  by_cases h : rightD D = true ∧ 0 ≤ t
  · have hs := exV_is (D := D) h.2
    cases e : exV D t with
    | none =>
      rw [e] at hs
      refine (decide_eq_false fun hin => ?_).symm
      obtain ⟨i, hi, ho, h0, ht⟩ := hm.1 hin
      obtain ⟨v, hv, _⟩ := lev_all h.1 ((reached_iff h.1 i).1 ho)
      exact hs v hv.1 (leads_reads h.1 hv ht.symm)
    | some u =>
      rw [e] at hs
      refine (decide_eq_true (hm.2 ?_)).symm
      obtain ⟨i, hl, hi, ht⟩ := reads_leads h.1 h.2 hs.1 hs.2.1
      have ho := (reached_iff h.1 i).2 (leads_rch h.1 _ u rfl i hl)
      exact ⟨i, ho.lt, ho, by omega, ht.symm⟩
  · have e : exV D t = none := by unfold exV; rw [if_neg fun e => h ⟨e.2, e.1⟩]
    rw [e]
    refine (decide_eq_false fun hin => ?_).symm
    obtain ⟨i, hi, ho, h0, ht⟩ := hm.1 hin
    by_cases hR : rightD D = true
    · exact h ⟨hR, by omega⟩
    · have : (reachedL D).length = 0 := by unfold reachedL; rw [if_neg hR]; rfl
      omega
set_option maxHeartbeats 16000000 in
set_option maxRecDepth 100000 in
theorem walkLiveWords (vn vl : Value) (D : DfaM) (t : Int) (w : World) (h : RdDfa w.heap.size w vn vl D) (_ : -9223372036854775808 ≤ t ∧ t ≤ 9223372036854775807) :
    Calls Tryz.prog 4 #[dfaA D.cls D.width vn vl, .int .i64 t] w fun e w' => e = .returned (.bool true) ∧ Below w.heap.size w w' := by
  obtain ⟨an, cn, rfl⟩ := h.next.form
  have HRD := hidden h
  have HX0 := hidden (DfaAt.new w D.cls D.width (.slice an D.next.length cn) vl)
  have HB0 := hidden ((Below.refl w.heap.size w).alloc (Nat.le_refl _) (.cells (dfaC D.cls D.width (.slice an D.next.length cn) vl) 26))
  have HSM := hidden (smallM_calls (h.below HB0.out HB0.out.size))
  have hbx := run_box_dfa D.cls D.width (.slice an D.next.length cn) vl
  obtain ⟨n, hn⟩ : ∃ n, n = D.next.length := ⟨_, rfl⟩
  rw [← hn] at HRD HX0 HB0 HSM hbx ⊢
  have HN := hidden hn
  clear h hn
  go_enter Tryz.func4, Tryz.ntmps4
  go_wp2_with (refine load_dfa rfl (x := .tmp 2) rfl rfl HX0.out ?_)
  refine HSM.out.mono ?_
  rintro e wa ⟨rfl, hb1⟩
  have HXA := hidden (HX0.out.below hb1)
  have HBA := hidden (below_then HB0.out HB0.out.size hb1)
  obtain ⟨B, hB⟩ : ∃ B, B = w.heap.size := ⟨_, rfl⟩
  rw [← hB] at HXA ⊢
  have HBE := hidden hB
  clear hb1 hB HX0 HB0 HSM hbx
  cases hsm : smallM D with
  | false =>
    clear hsm
    go_wp2_with fail
    refine (knows15_calls _).mono ?_
    rintro e w2 ⟨rfl, hb2⟩
    go_wp2
    go_ret
    exact ⟨rfl, below_then (HBE.out ▸ HBA.out) HBA.out.size hb2⟩
  | true =>
    clear hsm
    have e0 := HXA.out.next
    by_cases p1 : 40 < n
    · have q2 : decide ((40 : Int) < (n : Int)) = true := decide_eq_true (by omega)
      have q3 : decide (40 < n) = true := decide_eq_true p1
      clear p1
      go_wp2_with fail
      refine (knows15_calls _).mono ?_
      rintro e w2 ⟨rfl, hb2⟩
      go_wp2
      go_ret
      exact ⟨rfl, below_then (HBE.out ▸ HBA.out) HBA.out.size hb2⟩
    have q2 : decide ((40 : Int) < (n : Int)) = false := decide_eq_false (by omega)
    have q3 : decide (40 < n) = false := decide_eq_false p1
    have hN : D.next.length ≤ 1000 := by have := HN.out; omega
    have HNN := hidden hN
    have HT := hidden (lexample_calls t (HRD.out.below HBA.out HBA.out.size) HNN.out)
    clear p1 hN
    obtain ⟨X, hX⟩ : ∃ X, strOf ((exV D t).getD []) = .string X := ⟨_, rfl⟩
    obtain ⟨f, hf⟩ : ∃ f, f = (exV D t).isSome := ⟨_, rfl⟩
    have hexr : exR (exV D t) = .tuple #[.string X, .bool f] := by unfold exR; rw [hX, hf]
    have HEX := hidden hexr
    have HF := hidden (show f = decide (t ∈ tokM D) by rw [hf, ex_has])
    rw [hexr] at HT
    clear hX hf hexr
    go_wp2_with (refine load_dfa rfl (x := .tmp 2) rfl rfl HXA.out ?_)
    refine HT.out.mono ?_
    rintro e wb ⟨rfl, hb4⟩
    have HBB := hidden (below_then HBA.out HBA.out.size hb4)
    have HXB := hidden (HXA.out.below hb4)
    have HRB := hidden (HRD.out.below HBB.out HBB.out.size)
    have HT2 := hidden (rexample_calls t HRB.out HNN.out)
    rw [ex_same, HEX.out] at HT2
    clear hb4 HT HXA HBA HRD q2 q3 e0
    dsimp only
    go_wp2_with (refine load_dfa rfl (x := .tmp 2) rfl rfl HXB.out ?_)
    refine HT2.out.mono ?_
    rintro e wc ⟨rfl, hb5⟩
    have HBC := hidden (below_then HBB.out HBB.out.size hb5)
    have HXC := hidden (HXB.out.below hb5)
    have HRC := hidden (HRB.out.below hb5 hb5.size)
    have HX := hidden (fun W (hb : Below wc.heap.size wc W) => HXC.out.below hb)
    have HLT := hidden (fun W (hb : Below wc.heap.size wc W) => ltokens_calls (HRC.out.below hb hb.size) HNN.out)
    have HRT := hidden (fun W (hb : Below wc.heap.size wc W) => rtokens_calls (HRC.out.below hb hb.size) HNN.out)
    clear hb5 HT2 HBB HXB HRB HEX
    dsimp only
    go_wp2_with fail
    refine Rl.wp_region_steps (R := fun w1 w2 => Below w1.heap.size w1 w2) (Rl.typ [Rl.Is (.string X), Rl.Is (.string X), Rl.Is (.bool true), Rl.Is (.bool true), Rl.Is (.bool f), Rl.Is (.bool f), Rl.Is (.bool true), Rl.Is (.bool true), Rl.Is (.bool true), Rl.Is (dfaA D.cls D.width (.slice an n cn) vl), RdZV (tokM D), Rl.Is (dfaA D.cls D.width (.slice an n cn) vl), RdZV (tokM D), Rl.Is (.bool true), Rl.Is (.bool true), Rl.Is (.bool true), Rl.Is (.bool f), Rl.Is (dfaA D.cls D.width (.slice an n cn) vl), RdZV (tokM D), Rl.Is (.int .i64 t), Rl.Is (.bool f), Rl.Is (.bool true), Rl.Is (.bool true), Rl.Is (.bool true), Rl.Is (.bool true), Rl.Is (.bool true), Rl.Is (.bool true)]) (fun w1 => Below wc.heap.size wc w1) (by kernel_rfl) (by kernel_rfl) (by kernel_rfl) (by kernel_rfl) ?mono (Below.refl _ _).drew [3, 8, 15, 23] (by kernel_rfl) ?guards ?step ?fin
    case mono =>
      refine Rl.typ_mono ?_
      simp only [List.forall_mem_cons]
      repeat' (first | exact (fun v w w' h _ => h) | exact (fun v w w' h hb => RdZ.below h hb hb.size) | (intro p hp; cases hp; done) | refine And.intro ?_ ?_)
    case guards =>
      intro g hg v w h
      simp at hg
      rcases hg with rfl | rfl | rfl | rfl <;> exact h
    case step =>
      refine ⟨?_, ?_, ?_, ?_, ?_, ?_, ?_, ?_, ?_, ?_, ?_, ?_, ?_, ?_, ?_, ?_, ?_, ?_, ?_, ?_, ?_, ?_, ?_, ?_, ?_, ?_, ?_, trivial⟩
      · intro ρ w1 hF hW
        have e5 : ρ 5 = .string X := hF 5 (by decide)
        have HW := hidden hW
        clear hF hW
        unfold Rl.Does
        go_simp
        first
          | exact ⟨rfl, HW.out, Below.refl _ _⟩
          | (simp; exact ⟨rfl, HW.out, Below.refl _ _⟩)
      · intro ρ w1 hF hW
        have e7 : ρ 7 = .string X := hF 7 (by decide)
        have HW := hidden hW
        clear hF hW
        unfold Rl.Does
        go_simp
        first
          | exact ⟨rfl, HW.out, Below.refl _ _⟩
          | (simp; exact ⟨rfl, HW.out, Below.refl _ _⟩)
      · intro ρ w1 hF hW
        have e31 : ρ 31 = .string X := hF 31 (by decide)
        have e32 : ρ 32 = .string X := hF 32 (by decide)
        have HW := hidden hW
        clear hF hW
        unfold Rl.Does
        go_simp
        first
          | exact ⟨rfl, HW.out, Below.refl _ _⟩
          | (simp; exact ⟨rfl, HW.out, Below.refl _ _⟩)
      · intro ρ w1 hF hW
        have e33 : ρ 33 = .bool true := hF 33 (by decide)
        have HW := hidden hW
        clear hF hW
        unfold Rl.Does
        go_simp
        first
          | exact ⟨rfl, HW.out, Below.refl _ _⟩
          | (simp; exact ⟨rfl, HW.out, Below.refl _ _⟩)
      · intro ρ w1 hF hW
        have e6 : ρ 6 = .bool f := hF 6 (by decide)
        have HW := hidden hW
        clear hF hW
        unfold Rl.Does
        go_simp
        first
          | exact ⟨rfl, HW.out, Below.refl _ _⟩
          | (simp; exact ⟨rfl, HW.out, Below.refl _ _⟩)
      · intro ρ w1 hF hW
        have e8 : ρ 8 = .bool f := hF 8 (by decide)
        have HW := hidden hW
        clear hF hW
        unfold Rl.Does
        go_simp
        first
          | exact ⟨rfl, HW.out, Below.refl _ _⟩
          | (simp; exact ⟨rfl, HW.out, Below.refl _ _⟩)
      · intro ρ w1 hF hW
        have e35 : ρ 35 = .bool f := hF 35 (by decide)
        have e36 : ρ 36 = .bool f := hF 36 (by decide)
        have HW := hidden hW
        clear hF hW
        unfold Rl.Does
        go_simp
        first
          | exact ⟨rfl, HW.out, Below.refl _ _⟩
          | (simp; exact ⟨rfl, HW.out, Below.refl _ _⟩)
      · intro ρ w1 hF hW
        have e34 : ρ 34 = .bool true := hF 34 (by decide)
        have e37 : ρ 37 = .bool true := hF 37 (by decide)
        have HW := hidden hW
        clear hF hW
        unfold Rl.Does
        go_simp
        first
          | exact ⟨rfl, HW.out, Below.refl _ _⟩
          | (simp; exact ⟨rfl, HW.out, Below.refl _ _⟩)
      · intro ρ w1 hF hW
        have e38 : ρ 38 = .bool true := hF 38 (by decide)
        have HW := hidden hW
        clear hF hW
        unfold Rl.Does
        go_simp
        first
          | exact ⟨rfl, HW.out, Below.refl _ _⟩
          | (simp; exact ⟨rfl, HW.out, Below.refl _ _⟩)
      · intro ρ w1 hF hW
        have e1 : ρ 2 = .pointer (some ⟨B, 0, none⟩) := hF 2 (by decide)
        have HW := hidden hW
        exact does_load_dfaT rfl e1 (HX.out _ HW.out) ⟨rfl, HW.out, Below.refl _ _⟩
      · intro ρ w1 hF hW
        have e40 : ρ 40 = dfaA D.cls D.width (.slice an n cn) vl := hF 40 (by decide)
        have HW := hidden hW
        clear hF hW
        unfold Rl.Does
        go_simp
        refine (HLT.out _ HW.out).mono ?_
        rintro e w3 ⟨v, rfl, hr, hb⟩
        exact ⟨_, rfl, hr.reads, below_after HW.out hb, hb⟩
      · intro ρ w1 hF hW
        have e1 : ρ 2 = .pointer (some ⟨B, 0, none⟩) := hF 2 (by decide)
        have HW := hidden hW
        exact does_load_dfaT rfl e1 (HX.out _ HW.out) ⟨rfl, HW.out, Below.refl _ _⟩
      · intro ρ w1 hF hW
        have e42 : ρ 42 = dfaA D.cls D.width (.slice an n cn) vl := hF 42 (by decide)
        have HW := hidden hW
        clear hF hW
        unfold Rl.Does
        go_simp
        refine (HRT.out _ HW.out).mono ?_
        rintro e w3 ⟨v, rfl, hr, hb⟩
        exact ⟨_, rfl, hr.reads, below_after HW.out hb, hb⟩
      · intro ρ w1 hF hW
        have f1 : RdZ w1.heap.size w1 (ρ 41) (tokM D) := hF 41 (by decide)
        have f2 : RdZ w1.heap.size w1 (ρ 43) (tokM D) := hF 43 (by decide)
        have HS := hidden (rsame_calls f1 f2)
        rw [decide_eq_true (show tokM D = tokM D from rfl)] at HS
        have HW := hidden hW
        clear hF hW f1 f2
        unfold Rl.Does
        go_simp
        refine HS.out.mono ?_
        rintro e w3 ⟨rfl, hb⟩
        exact ⟨_, rfl, rfl, below_after HW.out hb, hb⟩
      · intro ρ w1 hF hW
        have e39 : ρ 39 = .bool true := hF 39 (by decide)
        have e44 : ρ 44 = .bool true := hF 44 (by decide)
        have HW := hidden hW
        clear hF hW
        unfold Rl.Does
        go_simp
        first
          | exact ⟨rfl, HW.out, Below.refl _ _⟩
          | (simp; exact ⟨rfl, HW.out, Below.refl _ _⟩)
      · intro ρ w1 hF hW
        have e45 : ρ 45 = .bool true := hF 45 (by decide)
        have HW := hidden hW
        clear hF hW
        unfold Rl.Does
        go_simp
        first
          | exact ⟨rfl, HW.out, Below.refl _ _⟩
          | (simp; exact ⟨rfl, HW.out, Below.refl _ _⟩)
      · intro ρ w1 hF hW
        have e6 : ρ 6 = .bool f := hF 6 (by decide)
        have HW := hidden hW
        clear hF hW
        unfold Rl.Does
        go_simp
        first
          | exact ⟨rfl, HW.out, Below.refl _ _⟩
          | (simp; exact ⟨rfl, HW.out, Below.refl _ _⟩)
      · intro ρ w1 hF hW
        have e1 : ρ 2 = .pointer (some ⟨B, 0, none⟩) := hF 2 (by decide)
        have HW := hidden hW
        exact does_load_dfaT rfl e1 (HX.out _ HW.out) ⟨rfl, HW.out, Below.refl _ _⟩
      · intro ρ w1 hF hW
        have e48 : ρ 48 = dfaA D.cls D.width (.slice an n cn) vl := hF 48 (by decide)
        have HW := hidden hW
        clear hF hW
        unfold Rl.Does
        go_simp
        refine (HLT.out _ HW.out).mono ?_
        rintro e w3 ⟨v, rfl, hr, hb⟩
        exact ⟨_, rfl, hr.reads, below_after HW.out hb, hb⟩
      · intro ρ w1 hF hW
        have e1 : ρ 1 = .int .i64 t := hF 1 (by decide)
        have HW := hidden hW
        clear hF hW
        unfold Rl.Does
        go_simp
        first
          | exact ⟨rfl, HW.out, Below.refl _ _⟩
          | (simp; exact ⟨rfl, HW.out, Below.refl _ _⟩)
      · intro ρ w1 hF hW
        have f1 : RdZ w1.heap.size w1 (ρ 49) (tokM D) := hF 49 (by decide)
        have e50 : ρ 50 = .int .i64 t := hF 50 (by decide)
        have HS := hidden (has11_calls w1 (ρ 49) (tokM D) t f1)
        rw [← HF.out] at HS
        have HW := hidden hW
        clear hF hW f1
        unfold Rl.Does
        go_simp
        refine HS.out.mono ?_
        rintro e w3 ⟨rfl, hb⟩
        exact ⟨_, rfl, rfl, below_after HW.out hb, hb⟩
      · intro ρ w1 hF hW
        have e47 : ρ 47 = .bool f := hF 47 (by decide)
        have e51 : ρ 51 = .bool f := hF 51 (by decide)
        have HW := hidden hW
        clear hF hW
        unfold Rl.Does
        go_simp
        first
          | exact ⟨rfl, HW.out, Below.refl _ _⟩
          | (simp; exact ⟨rfl, HW.out, Below.refl _ _⟩)
      · intro ρ w1 hF hW
        have e46 : ρ 46 = .bool true := hF 46 (by decide)
        have e52 : ρ 52 = .bool true := hF 52 (by decide)
        have HW := hidden hW
        clear hF hW
        unfold Rl.Does
        go_simp
        first
          | exact ⟨rfl, HW.out, Below.refl _ _⟩
          | (simp; exact ⟨rfl, HW.out, Below.refl _ _⟩)
      · intro ρ w1 hF hW
        have e53 : ρ 53 = .bool true := hF 53 (by decide)
        have HW := hidden hW
        clear hF hW
        unfold Rl.Does
        go_simp
        first
          | exact ⟨rfl, HW.out, Below.refl _ _⟩
          | (simp; exact ⟨rfl, HW.out, Below.refl _ _⟩)
      · intro ρ w1 hF hW
        have HW := hidden hW
        clear hF hW
        unfold Rl.Does
        go_simp
        refine (knows15_calls _).mono ?_
        rintro e w3 ⟨rfl, hb⟩
        exact ⟨_, rfl, rfl, below_after HW.out hb, hb⟩
      · intro ρ w1 hF hW
        have e54 : ρ 54 = .bool true := hF 54 (by decide)
        have e55 : ρ 55 = .bool true := hF 55 (by decide)
        have HW := hidden hW
        clear hF hW
        unfold Rl.Does
        go_simp
        first
          | exact ⟨rfl, HW.out, Below.refl _ _⟩
          | (simp; exact ⟨rfl, HW.out, Below.refl _ _⟩)
      · intro ρ w1 hF hW
        have e56 : ρ 56 = .bool true := hF 56 (by decide)
        have HW := hidden hW
        clear hF hW
        unfold Rl.Does
        go_simp
        first
          | exact ⟨rfl, HW.out, Below.refl _ _⟩
          | (simp; exact ⟨rfl, HW.out, Below.refl _ _⟩)
    case fin =>
      intro a1 w11 hst hv hW
      have h8 : a1.tmps.getD 4 undef = .bool true := hv 26 4 (by kernel_rfl)
      have hd := hst.defers
      have HW := hidden hW
      clear hv hW
      (try go_wp2)
      refine bodyPost_ret (results_tmp rfl _ _ _) hd ?_
      rw [h8]
      have hz := below_then HBC.out HBC.out.size HW.out
      first
        | exact ⟨rfl, hz⟩
        | exact ⟨rfl, HBE.out ▸ hz⟩
namespace lawLiveWords
open Go.ChangeShapes Go.WideShapes Go.ChangeAt Go.RowKit Go.Deep
open Go.ChangeMaps (open_string shut_string)

set_option maxRecDepth 100000 in
theorem lifted (os : Os) (started : os.Started) (H : Type) (enc : TypeId × Value → H) :
    ReturnsInHanded {} Tryz.checked os 4 .any (Rows.liveWordsSpec.pre6 enc Tryz.prog Tryz.f4 Rows.liveWordsRow.domain false) (Rows.liveWordsSpec.post enc Tryz.prog Tryz.f4 false true false false) := by
  refine returnsInHanded_of_change (C := Tryz.checked) own started (by kernel_rfl) Tryz.func4
    (ChangeSpec.witness6 (enc := enc) (C := Tryz.checked) false ⟨#[], #[dfaA (fun _ => 0) 0 (.slice none 0 0) (.slice none 0 0), .int .i64 0], []⟩ 8 (by kernel_rfl) (by kernel_rfl) (by kernel_rfl) (by kernel_rfl)) ?_
  intro W base args ds gs before hval0 hW hcnd _
  have hval : ∀ (j : Nat) t v, Tryz.f4.params[j]? = some t → args[j]? = some v → Value.okWide Tryz.prog W .any base t v := hval0
  have hW' : DataW.Whole enc Tryz.prog Tryz.f4.params.toList Rows.liveWordsSpec.vars false W args.toList ds gs before := hW
  obtain ⟨p, q, hA0, hV, rfl, hfz, hnd⟩ := hW
  have hA : DataW.TrodAll enc Tryz.prog W 0 (fun _ => true) true Tryz.f4.params.toList args.toList ds p := hA0
  have hlt : ∀ x ∈ p, x.block < W.heap.size := fun x hx => hW'.lt x (List.mem_append_left _ hx)
  rw [Tryz.params4] at hA hval
  obtain ⟨v0, vs0, d0, ds0, p0, q0, hargs, hd0, hp0, h0, r0⟩ := trodAll_cons hA
  obtain ⟨v1, vs1, d1, ds1, p1, q1, rfl, hd1, hp1, h1, r1⟩ := trodAll_cons r0
  obtain ⟨rfl, _, _⟩ := trodAll_nil r1
  obtain rfl : args = #[v0, v1] := by cases args; simp_all
  obtain ⟨s0a, s0b, z0, rfl, w0⟩ := open_dfa (hval 0 26 v0 rfl rfl) h0
  obtain ⟨a1, rfl, _, _, w1⟩ := open_int Tryz.underlying3 (hval 1 3 v1 rfl rfl) h1
  refine (walkLiveWords s0a s0b z0 a1 W w0 (wf_i64 w1)).mono fun e W' ⟨he, hb⟩ => ⟨_, he, ends_true hW' rfl (by kernel_rfl) ?_ (by kernel_rfl) hb⟩
  intro xs hxs
  match xs, hxs with
  | [_, _], _ => rfl

theorem proved : Rows.LiveWordsSaid :=
  OpenClaim.holds_of_wide 4 Tryz.f4 rfl rfl rfl rfl rfl rfl rfl ⟨rfl, rfl, rfl, rfl, rfl⟩ rfl rfl rfl rfl rfl (by kernel_rfl) Tryz.func4 (by kernel_rfl)
    (of_decide_eq_true (by kernel_rfl)) (by unfold Func.isWrapper; first | (rw [if_pos (by decide +kernel)]; kernel_rfl) | (rw [if_neg (by decide +kernel)]; exact ⟨rfl, rfl⟩))
    (fun os started H enc _ => lifted os started H enc)

end lawLiveWords
end Go.Proofs.YtnjjbaodfjmiaaaGreat
