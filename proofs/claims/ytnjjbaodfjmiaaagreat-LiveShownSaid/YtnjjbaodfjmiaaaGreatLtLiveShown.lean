/- 'LiveShown' answers true for every machine, label and word: an example is read with its label; no word that is shorter, or as short and less, is. -/
import Derived.Test.YtnjjbaodfjmiaaaGreatLt41
import Derived.Test.YtnjjbaodfjmiaaaGreatLt43
namespace Go.Proofs.YtnjjbaodfjmiaaaGreat
open Go.RowKit Go.Lib Go.Joins
attribute [local go_sem] Rl.evalR_tmp Rl.evalR_const Rl.evalR_global Rl.evalR_func

theorem less_lx : ∀ x y : List UInt8, Op.bytesLess x y = lxB (x.map (·.toNat)) (y.map (·.toNat))
  | [], [] => rfl
  | _ :: _, [] => rfl
  | [], _ :: _ => rfl
  | a :: x, b :: y => by
    have h1 : decide (a < b) = decide (a.toNat < b.toNat) := decide_eq_decide.2 UInt8.lt_iff_toNat_lt
    have h2 : (a == b) = decide (a.toNat = b.toNat) := by
      by_cases h : a = b
      · subst h
        simp
      · rw [decide_eq_false fun e => h (UInt8.toNat_inj.1 e)]
        simpa using h
    show (decide (a < b) || (a == b && Op.bytesLess x y)) = (decide (a.toNat < b.toNat) || (decide (a.toNat = b.toNat) && lxB (x.map (·.toNat)) (y.map (·.toNat))))
    rw [h1, h2, less_lx x y]
theorem exV_spec {D : DfaM} {t : Int} (ht : 0 ≤ t) : ExSpec D t (exV D t) := by
  unfold exV
  by_cases hR : rightD D = true
  · rw [if_pos ⟨ht, hR⟩]
    exact vis_example hR ht
  · rw [if_neg fun h => hR h.2]
    intro w _ e
    unfold labelD at e
    rw [if_neg fun h => hR h.1] at e
    omega
theorem exV_pos {D : DfaM} {t : Int} {u : List Nat} (h : exV D t = some u) : 0 ≤ t := by
  unfold exV at h
  split at h
  · rename_i h2
    exact h2.1
  · cases h
def byS (u : List Nat) : ByteArray := ⟨(u.map UInt8.ofNat).toArray⟩
theorem byS_nat {u : List Nat} (h : ∀ b ∈ u, b < 256) : (byS u).data.toList.map (·.toNat) = u := by
  unfold byS
  simp only [List.map_map]
  have : u.map ((fun x : UInt8 => x.toNat) ∘ UInt8.ofNat) = u.map id := List.map_congr_left fun b hb => by
    have := h b hb
    simp
    omega
  rw [this, List.map_id]
theorem byS_size (u : List Nat) : (byS u).size = u.length := by
  show ((u.map UInt8.ofNat).toArray).size = _
  simp
theorem str_small (s : ByteArray) : ∀ b ∈ s.data.toList.map (·.toNat), b < 256 := by
  intro b hb
  obtain ⟨c, _, rfl⟩ := List.mem_map.1 hb
  exact c.toNat_lt
theorem str_len (s : ByteArray) : (s.data.toList.map (·.toNat)).length = s.size := by
  rw [List.length_map]
  rfl
theorem exV_len {D : DfaM} {t : Int} {u : List Nat} (h : exV D t = some u) : u.length ≤ D.next.length := by
  unfold exV at h
  split at h
  · rename_i h2
    unfold firstV at h
    obtain ⟨x, hx, rfl⟩ := Option.map_eq_some_iff.1 h
    exact vis_short' h2.2 (List.mem_of_find?_eq_some hx)
  · cases h
set_option maxHeartbeats 16000000 in
set_option maxRecDepth 100000 in
theorem walkLiveShown (vn vl : Value) (D : DfaM) (t : Int) (s : ByteArray) (w : World) (h : RdDfa w.heap.size w vn vl D) (_ : -9223372036854775808 ≤ t ∧ t ≤ 9223372036854775807) (hs : s.size ≤ maxLen) :
    Calls Tryz.prog 6 #[dfaA D.cls D.width vn vl, .int .i64 t, .string s] w fun e w' => e = .returned (.bool true) ∧ Below w.heap.size w w' := by
  obtain ⟨an, cn, rfl⟩ := h.next.form
  have HRD := hidden h
  have HSZ := hidden hs
  have HX0 := hidden (DfaAt.new w D.cls D.width (.slice an D.next.length cn) vl)
  have HB0 := hidden ((Below.refl w.heap.size w).alloc (Nat.le_refl _) (.cells (dfaC D.cls D.width (.slice an D.next.length cn) vl) 26))
  have HSM := hidden (smallM_calls (h.below HB0.out HB0.out.size))
  have hbx := run_box_dfa D.cls D.width (.slice an D.next.length cn) vl
  obtain ⟨n, hn⟩ : ∃ n, n = D.next.length := ⟨_, rfl⟩
  rw [← hn] at HRD HX0 HB0 HSM hbx ⊢
  have HN := hidden hn
  clear h hn hs
  go_enter Tryz.func6, Tryz.ntmps6
  go_wp2_with (refine load_dfa rfl (x := .tmp 3) rfl rfl HX0.out ?_)
  refine HSM.out.mono ?_
  rintro e wa ⟨rfl, hb1⟩
  have HXA := hidden (HX0.out.below hb1)
  have HBA := hidden (below_then HB0.out HB0.out.size hb1)
  obtain ⟨B, hB⟩ : ∃ B, B = w.heap.size := ⟨_, rfl⟩
  rw [← hB] at HXA ⊢
  have HBE := hidden hB
  clear hb1 hB HX0 HB0 HSM hbx
  cases hsm : smallM D with
  | false =>
    clear hsm
    go_wp2_with fail
    refine (knows15_calls _).mono ?_
    rintro e w2 ⟨rfl, hb2⟩
    go_wp2
    go_ret
    exact ⟨rfl, below_then (HBE.out ▸ HBA.out) HBA.out.size hb2⟩
  | true =>
    clear hsm
    have e0 := HXA.out.next
    by_cases p1 : 60 < n
    · have q2 : decide ((60 : Int) < (n : Int)) = true := decide_eq_true (by omega)
      have q3 : decide (60 < n) = true := decide_eq_true p1
      clear p1
      go_wp2_with fail
      refine (knows15_calls _).mono ?_
      rintro e w2 ⟨rfl, hb2⟩
      go_wp2
      go_ret
      exact ⟨rfl, below_then (HBE.out ▸ HBA.out) HBA.out.size hb2⟩
    have q2 : decide ((60 : Int) < (n : Int)) = false := decide_eq_false (by omega)
    have q3 : decide (60 < n) = false := decide_eq_false p1
    have hN : D.next.length ≤ 1000 := by have := HN.out; omega
    have HNN := hidden hN
    clear p1 hN
    by_cases p1 : 60 < s.size
    · have q4 : decide ((60 : Int) < (s.size : Int)) = true := decide_eq_true (by omega)
      have q5 : decide (60 < s.size) = true := decide_eq_true p1
      clear p1
      go_wp2_with fail
      refine (knows15_calls _).mono ?_
      rintro e w2 ⟨rfl, hb2⟩
      go_wp2
      go_ret
      exact ⟨rfl, below_then (HBE.out ▸ HBA.out) HBA.out.size hb2⟩
    have q4 : decide ((60 : Int) < (s.size : Int)) = false := decide_eq_false (by omega)
    have q5 : decide (60 < s.size) = false := decide_eq_false p1
    have hs60 : s.size ≤ 60 := by omega
    have HT := hidden (lexample_calls t (HRD.out.below HBA.out HBA.out.size) HNN.out)
    clear p1
    go_wp2_with (refine load_dfa rfl (x := .tmp 3) rfl rfl HXA.out ?_)
    refine HT.out.mono ?_
    rintro e wb ⟨rfl, hb4⟩
    have HBB := hidden (below_then HBA.out HBA.out.size hb4)
    have HXB := hidden (HXA.out.below hb4)
    have HRB := hidden (HRD.out.below (below_then HBA.out HBA.out.size hb4) (below_then HBA.out HBA.out.size hb4).size)
    have HX := hidden (fun W (hb : Below wb.heap.size wb W) => HXB.out.below hb)
    obtain ⟨ru, hru⟩ : ∃ r, r = runD D (s.data.toList.map (·.toNat)) := ⟨_, rfl⟩
    obtain ⟨la, hla⟩ : ∃ r, r = labelD D ru := ⟨_, rfl⟩
    have HRW := hidden (fun W (hb : Below wb.heap.size wb W) => (show Calls Tryz.prog 25 #[dfaA D.cls D.width (.slice an n cn) vl, .string s] W fun e w' => e = .returned (.int .i64 ru) ∧ Below W.heap.size W w' by have h := rrun14_calls s (HRB.out.below hb hb.size) HSZ.out; rw [← hru] at h; exact h))
    have HLW := hidden (fun W (hb : Below wb.heap.size wb W) => (show Calls Tryz.prog 24 #[dfaA D.cls D.width (.slice an n cn) vl, .int .i64 ru] W fun e w' => e = .returned (.int .i64 la) ∧ Below W.heap.size W w' by have h := rlabel_calls ru (HRB.out.below hb hb.size); rw [← hla] at h; exact h))
    have HLA := hidden (show la = labelD D (runD D (s.data.toList.map (·.toNat))) by rw [hla, hru])
    clear hru hla hb4 HT HBA HXA HRD q2 q3 q4 q5 e0
    cases hex : exV D t with
    | none =>
      rw [show exR none = .tuple #[.string ⟨#[]⟩, .bool false] from rfl]
      dsimp only
      by_cases ht : 0 ≤ t
      · have hne : la ≠ t := by
          have h := exV_spec (D := D) ht
          rw [hex] at h
          rw [HLA.out]
          exact h _ (str_small s)
        have k1 : decide (0 ≤ t) = true := decide_eq_true ht
        have k2 : (la == t) = false := by rw [Bool.eq_false_iff]; intro e; exact hne (by simpa using e)
        clear hne ht hex
        go_wp2_with fail
        refine Rl.wp_region_stepsN (R := fun w1 w2 => Below w1.heap.size w1 w2) (Rl.typ [Rl.Is (.bool false), Rl.Is (.bool false), Rl.Is (undef), Rl.Is (undef), Rl.Is (undef), Rl.Is (undef), Rl.Is (undef), Rl.Is (undef), Rl.Is (undef), Rl.Is (undef), Rl.Is (undef), Rl.Is (undef), Rl.Is (undef), Rl.Is (.bool false)]) (fun w1 => Below wb.heap.size wb w1) (fun w1 => Below.refl _ _) (by kernel_rfl) (by kernel_rfl) (by kernel_rfl) (by kernel_rfl) ?mono (Below.refl _ _).drew ?step ?fin
        case mono =>
          refine Rl.typ_mono ?_
          simp only [List.forall_mem_cons]
          repeat' (first | exact (fun v w w' h _ => h) | (intro p hp; cases hp; done) | refine And.intro ?_ ?_)
        case step =>
          refine ⟨?_, ?_, ?_, ?_, ?_, ?_, ?_, ?_, ?_, ?_, ?_, ?_, ?_, ?_, trivial⟩
          · intro ρ w1 hF hW
            have e8 : ρ 8 = .bool false := hF 8 (by decide)
            have HW := hidden hW
            clear hF hW
            unfold Rl.Does
            go_simp
            first
              | exact ⟨rfl, HW.out, Below.refl _ _⟩
              | (simp; exact ⟨rfl, HW.out, Below.refl _ _⟩)
          · intro ρ w1 hF hW
            have e30 : ρ 30 = .bool false := hF 30 (by decide)
            have HW := hidden hW
            clear hF hW
            unfold Rl.Does
            go_simp
            first
              | exact ⟨rfl, HW.out, Below.refl _ _⟩
              | (simp; exact ⟨rfl, HW.out, Below.refl _ _⟩)
          · exact .inl ⟨false, fun v w h => h, (fun h => by cases h), fun _ _ => rfl⟩
          · exact .inl ⟨false, fun v w h => h, (fun h => by cases h), fun _ _ => rfl⟩
          · exact .inl ⟨false, fun v w h => h, (fun h => by cases h), fun _ _ => rfl⟩
          · exact .inr ⟨fun v w h => h, fun _ => rfl⟩
          · exact .inr ⟨fun v w h => h, fun _ => rfl⟩
          · exact .inr ⟨fun v w h => h, fun _ => rfl⟩
          · exact .inr ⟨fun v w h => h, fun _ => rfl⟩
          · exact .inr ⟨fun v w h => h, fun _ => rfl⟩
          · exact .inr ⟨fun v w h => h, fun _ => rfl⟩
          · exact .inr ⟨fun v w h => h, fun _ => rfl⟩
          · exact .inl ⟨false, fun v w h => h, (fun h => by cases h), fun _ _ => rfl⟩
          · intro ρ w1 hF hW
            have e31 : ρ 31 = .bool false := hF 31 (by decide)
            have HW := hidden hW
            clear hF hW
            unfold Rl.Does
            go_simp
            first
              | exact ⟨rfl, HW.out, Below.refl _ _⟩
              | (simp; exact ⟨rfl, HW.out, Below.refl _ _⟩)
        case fin =>
          intro a1 wc0 hst hv hW
          have hl : a1.tmps.getD 43 undef = .bool false := hv 13 43 (by kernel_rfl)
          have hd := hst.defers
          have hz := hst.lit [30, 31, 32, 33, 34, 35, 36, 37, 38, 39, 40, 41, 42, 43] (by kernel_rfl)
          have HBC0 := hidden hW
          clear hst hv hW
          obtain ⟨tm, df⟩ := a1
          simp only at hz hd hl
          simp only [List.foldl_cons, List.foldl_nil, List.setIfInBounds_toArray, List.set_cons_zero, List.set_cons_succ] at hz
          rw [hl] at hz
          generalize tm.getD 30 undef = v30 at hz
          generalize tm.getD 31 undef = v31 at hz
          generalize tm.getD 32 undef = v32 at hz
          generalize tm.getD 33 undef = v33 at hz
          generalize tm.getD 34 undef = v34 at hz
          generalize tm.getD 35 undef = v35 at hz
          generalize tm.getD 36 undef = v36 at hz
          generalize tm.getD 37 undef = v37 at hz
          generalize tm.getD 38 undef = v38 at hz
          generalize tm.getD 39 undef = v39 at hz
          generalize tm.getD 40 undef = v40 at hz
          generalize tm.getD 41 undef = v41 at hz
          generalize tm.getD 42 undef = v42 at hz
          clear hl
          subst hz hd
          have HX := hidden (fun W (hb : Below wc0.heap.size wc0 W) => HX.out W (below_then HBC0.out HBC0.out.size hb))
          have HRW := hidden (fun W (hb : Below wc0.heap.size wc0 W) => HRW.out W (below_then HBC0.out HBC0.out.size hb))
          have HLW := hidden (fun W (hb : Below wc0.heap.size wc0 W) => HLW.out W (below_then HBC0.out HBC0.out.size hb))
          have HBB := hidden (below_then HBB.out HBB.out.size HBC0.out)
          go_wp2_with fail
          refine Rl.wp_region_stepsN (R := fun w1 w2 => Below w1.heap.size w1 w2) (Rl.typ [Rl.Is (.int .i64 t), Rl.Is (.bool true), Rl.Is (.bool true), Rl.Is (dfaA D.cls D.width (.slice an n cn) vl), Rl.Is (dfaA D.cls D.width (.slice an n cn) vl), Rl.Is (.string s), Rl.Is (.int .i64 ru), Rl.Is (.int .i64 la), Rl.Is (.int .i64 t), Rl.Is (.bool false), Rl.Is (.bool false), Rl.Is (.bool false), Rl.Is (undef), Rl.Is (undef), Rl.Is (undef), Rl.Is (undef), Rl.Is (undef), Rl.Is (undef), Rl.Is (undef), Rl.Is (undef), Rl.Is (undef), Rl.Is (undef), Rl.Is (undef), Rl.Is (undef), Rl.Is (undef), Rl.Is (undef), Rl.Is (undef), Rl.Is (undef), Rl.Is (undef), Rl.Is (undef), Rl.Is (undef), Rl.Is (undef), Rl.Is (undef), Rl.Is (.bool false)]) (fun w1 => Below wc0.heap.size wc0 w1) (fun w1 => Below.refl _ _) (by kernel_rfl) (by kernel_rfl) (by kernel_rfl) (by kernel_rfl) ?mono (Below.refl _ _).drew ?step ?fin
          case mono =>
            refine Rl.typ_mono ?_
            simp only [List.forall_mem_cons]
            repeat' (first | exact (fun v w w' h _ => h) | (intro p hp; cases hp; done) | refine And.intro ?_ ?_)
          case step =>
            refine ⟨?_, ?_, ?_, ?_, ?_, ?_, ?_, ?_, ?_, ?_, ?_, ?_, ?_, ?_, ?_, ?_, ?_, ?_, ?_, ?_, ?_, ?_, ?_, ?_, ?_, ?_, ?_, ?_, ?_, ?_, ?_, ?_, ?_, ?_, trivial⟩
            · intro ρ w1 hF hW
              have e1 : ρ 1 = .int .i64 t := hF 1 (by decide)
              have HW := hidden hW
              clear hF hW
              unfold Rl.Does
              go_simp
              first
                | exact ⟨rfl, HW.out, Below.refl _ _⟩
                | (simp; exact ⟨rfl, HW.out, Below.refl _ _⟩)
            · intro ρ w1 hF hW
              have e44 : ρ 44 = .int .i64 t := hF 44 (by decide)
              have HW := hidden hW
              clear hF hW
              unfold Rl.Does
              go_simp
              first
                | exact ⟨rfl, HW.out, Below.refl _ _⟩
                | (simp; exact ⟨rfl, HW.out, Below.refl _ _⟩)
            · intro ρ w1 hF hW
              have e45 : ρ 45 = .bool true := hF 45 (by decide)
              have HW := hidden hW
              clear hF hW
              unfold Rl.Does
              go_simp
              first
                | exact ⟨rfl, HW.out, Below.refl _ _⟩
                | (simp; exact ⟨rfl, HW.out, Below.refl _ _⟩)
            · refine .inl ⟨true, fun v w h => h, fun _ => ?_, fun h => absurd rfl h⟩
              intro ρ w1 hF hW
              have e1 : ρ 3 = .pointer (some ⟨B, 0, none⟩) := hF 3 (by decide)
              have HW := hidden hW
              exact does_load_dfaT rfl e1 (HX.out _ HW.out) ⟨rfl, HW.out, Below.refl _ _⟩
            · refine .inl ⟨true, fun v w h => h, fun _ => ?_, fun h => absurd rfl h⟩
              intro ρ w1 hF hW
              have e1 : ρ 3 = .pointer (some ⟨B, 0, none⟩) := hF 3 (by decide)
              have HW := hidden hW
              exact does_load_dfaT rfl e1 (HX.out _ HW.out) ⟨rfl, HW.out, Below.refl _ _⟩
            · refine .inl ⟨true, fun v w h => h, fun _ => ?_, fun h => absurd rfl h⟩
              intro ρ w1 hF hW
              have e2 : ρ 2 = .string s := hF 2 (by decide)
              have HW := hidden hW
              clear hF hW
              unfold Rl.Does
              go_simp
              first
                | exact ⟨rfl, HW.out, Below.refl _ _⟩
                | (simp; exact ⟨rfl, HW.out, Below.refl _ _⟩)
            · refine .inl ⟨true, fun v w h => h, fun _ => ?_, fun h => absurd rfl h⟩
              intro ρ w1 hF hW
              have e48 : ρ 48 = dfaA D.cls D.width (.slice an n cn) vl := hF 48 (by decide)
              have e49 : ρ 49 = .string s := hF 49 (by decide)
              have HW := hidden hW
              clear hF hW
              unfold Rl.Does
              go_simp
              refine (HRW.out _ HW.out).mono ?_
              rintro e w3 ⟨rfl, hb⟩
              exact ⟨_, rfl, rfl, below_after HW.out hb, hb⟩
            · refine .inl ⟨true, fun v w h => h, fun _ => ?_, fun h => absurd rfl h⟩
              intro ρ w1 hF hW
              have e47 : ρ 47 = dfaA D.cls D.width (.slice an n cn) vl := hF 47 (by decide)
              have e50 : ρ 50 = .int .i64 ru := hF 50 (by decide)
              have HW := hidden hW
              clear hF hW
              unfold Rl.Does
              go_simp
              refine (HLW.out _ HW.out).mono ?_
              rintro e w3 ⟨rfl, hb⟩
              exact ⟨_, rfl, rfl, below_after HW.out hb, hb⟩
            · refine .inl ⟨true, fun v w h => h, fun _ => ?_, fun h => absurd rfl h⟩
              intro ρ w1 hF hW
              have e1 : ρ 1 = .int .i64 t := hF 1 (by decide)
              have HW := hidden hW
              clear hF hW
              unfold Rl.Does
              go_simp
              first
                | exact ⟨rfl, HW.out, Below.refl _ _⟩
                | (simp; exact ⟨rfl, HW.out, Below.refl _ _⟩)
            · refine .inl ⟨true, fun v w h => h, fun _ => ?_, fun h => absurd rfl h⟩
              intro ρ w1 hF hW
              have e51 : ρ 51 = .int .i64 la := hF 51 (by decide)
              have e52 : ρ 52 = .int .i64 t := hF 52 (by decide)
              have HW := hidden hW
              clear hF hW
              unfold Rl.Does
              go_simp
              first
                | exact ⟨rfl, HW.out, Below.refl _ _⟩
                | (simp; exact ⟨rfl, HW.out, Below.refl _ _⟩)
            · intro ρ w1 hF hW
              have e46 : ρ 46 = .bool true := hF 46 (by decide)
              have e53 : ρ 53 = .bool false := hF 53 (by decide)
              have HW := hidden hW
              clear hF hW
              unfold Rl.Does
              go_simp
              first
                | exact ⟨rfl, HW.out, Below.refl _ _⟩
                | (simp; exact ⟨rfl, HW.out, Below.refl _ _⟩)
            · intro ρ w1 hF hW
              have e54 : ρ 54 = .bool false := hF 54 (by decide)
              have HW := hidden hW
              clear hF hW
              unfold Rl.Does
              go_simp
              first
                | exact ⟨rfl, HW.out, Below.refl _ _⟩
                | (simp; exact ⟨rfl, HW.out, Below.refl _ _⟩)
            · exact .inl ⟨false, fun v w h => h, (fun h => by cases h), fun _ _ => rfl⟩
            · exact .inl ⟨false, fun v w h => h, (fun h => by cases h), fun _ _ => rfl⟩
            · exact .inl ⟨false, fun v w h => h, (fun h => by cases h), fun _ _ => rfl⟩
            · exact .inr ⟨fun v w h => h, fun _ => rfl⟩
            · exact .inr ⟨fun v w h => h, fun _ => rfl⟩
            · exact .inr ⟨fun v w h => h, fun _ => rfl⟩
            · exact .inr ⟨fun v w h => h, fun _ => rfl⟩
            · exact .inr ⟨fun v w h => h, fun _ => rfl⟩
            · exact .inl ⟨false, fun v w h => h, (fun h => by cases h), fun _ _ => rfl⟩
            · exact .inl ⟨false, fun v w h => h, (fun h => by cases h), fun _ _ => rfl⟩
            · exact .inr ⟨fun v w h => h, fun _ => rfl⟩
            · exact .inr ⟨fun v w h => h, fun _ => rfl⟩
            · exact .inr ⟨fun v w h => h, fun _ => rfl⟩
            · exact .inr ⟨fun v w h => h, fun _ => rfl⟩
            · exact .inr ⟨fun v w h => h, fun _ => rfl⟩
            · exact .inr ⟨fun v w h => h, fun _ => rfl⟩
            · exact .inr ⟨fun v w h => h, fun _ => rfl⟩
            · exact .inr ⟨fun v w h => h, fun _ => rfl⟩
            · exact .inr ⟨fun v w h => h, fun _ => rfl⟩
            · exact .inr ⟨fun v w h => h, fun _ => rfl⟩
            · exact .inl ⟨false, fun v w h => h, (fun h => by cases h), fun _ _ => rfl⟩
            · intro ρ w1 hF hW
              have e55 : ρ 55 = .bool false := hF 55 (by decide)
              have HW := hidden hW
              clear hF hW
              unfold Rl.Does
              go_simp
              first
                | exact ⟨rfl, HW.out, Below.refl _ _⟩
                | (simp; exact ⟨rfl, HW.out, Below.refl _ _⟩)
          case fin =>
            intro a1 wc hst hv hW
            have hl : a1.tmps.getD 77 undef = .bool false := hv 33 77 (by kernel_rfl)
            have hd := hst.defers
            have hz := hst.lit [44, 45, 46, 47, 48, 49, 50, 51, 52, 53, 54, 55, 56, 57, 58, 59, 60, 61, 62, 63, 64, 65, 66, 67, 68, 69, 70, 71, 72, 73, 74, 75, 76, 77] (by kernel_rfl)
            have HBC := hidden hW
            clear hst hv hW
            obtain ⟨tm, df⟩ := a1
            simp only at hz hd hl
            simp only [List.foldl_cons, List.foldl_nil, List.setIfInBounds_toArray, List.set_cons_zero, List.set_cons_succ] at hz
            rw [hl] at hz
            generalize tm.getD 44 undef = v44 at hz
            generalize tm.getD 45 undef = v45 at hz
            generalize tm.getD 46 undef = v46 at hz
            generalize tm.getD 47 undef = v47 at hz
            generalize tm.getD 48 undef = v48 at hz
            generalize tm.getD 49 undef = v49 at hz
            generalize tm.getD 50 undef = v50 at hz
            generalize tm.getD 51 undef = v51 at hz
            generalize tm.getD 52 undef = v52 at hz
            generalize tm.getD 53 undef = v53 at hz
            generalize tm.getD 54 undef = v54 at hz
            generalize tm.getD 55 undef = v55 at hz
            generalize tm.getD 56 undef = v56 at hz
            generalize tm.getD 57 undef = v57 at hz
            generalize tm.getD 58 undef = v58 at hz
            generalize tm.getD 59 undef = v59 at hz
            generalize tm.getD 60 undef = v60 at hz
            generalize tm.getD 61 undef = v61 at hz
            generalize tm.getD 62 undef = v62 at hz
            generalize tm.getD 63 undef = v63 at hz
            generalize tm.getD 64 undef = v64 at hz
            generalize tm.getD 65 undef = v65 at hz
            generalize tm.getD 66 undef = v66 at hz
            generalize tm.getD 67 undef = v67 at hz
            generalize tm.getD 68 undef = v68 at hz
            generalize tm.getD 69 undef = v69 at hz
            generalize tm.getD 70 undef = v70 at hz
            generalize tm.getD 71 undef = v71 at hz
            generalize tm.getD 72 undef = v72 at hz
            generalize tm.getD 73 undef = v73 at hz
            generalize tm.getD 74 undef = v74 at hz
            generalize tm.getD 75 undef = v75 at hz
            generalize tm.getD 76 undef = v76 at hz
            clear hl
            subst hz hd
            go_wp2_with fail
            refine (knows15_calls _).mono ?_
            rintro e w9 ⟨rfl, hb9⟩
            go_wp2
            go_ret
            have hz := below_then (below_then HBB.out HBB.out.size HBC.out) (below_then HBB.out HBB.out.size HBC.out).size hb9
            first
              | exact ⟨rfl, hz⟩
              | exact ⟨rfl, HBE.out ▸ hz⟩
      · have k1 : decide (0 ≤ t) = false := decide_eq_false ht
        clear ht hex
        go_wp2_with fail
        refine Rl.wp_region_stepsN (R := fun w1 w2 => Below w1.heap.size w1 w2) (Rl.typ [Rl.Is (.bool false), Rl.Is (.bool false), Rl.Is (undef), Rl.Is (undef), Rl.Is (undef), Rl.Is (undef), Rl.Is (undef), Rl.Is (undef), Rl.Is (undef), Rl.Is (undef), Rl.Is (undef), Rl.Is (undef), Rl.Is (undef), Rl.Is (.bool false)]) (fun w1 => Below wb.heap.size wb w1) (fun w1 => Below.refl _ _) (by kernel_rfl) (by kernel_rfl) (by kernel_rfl) (by kernel_rfl) ?mono (Below.refl _ _).drew ?step ?fin
        case mono =>
          refine Rl.typ_mono ?_
          simp only [List.forall_mem_cons]
          repeat' (first | exact (fun v w w' h _ => h) | (intro p hp; cases hp; done) | refine And.intro ?_ ?_)
        case step =>
          refine ⟨?_, ?_, ?_, ?_, ?_, ?_, ?_, ?_, ?_, ?_, ?_, ?_, ?_, ?_, trivial⟩
          · intro ρ w1 hF hW
            have e8 : ρ 8 = .bool false := hF 8 (by decide)
            have HW := hidden hW
            clear hF hW
            unfold Rl.Does
            go_simp
            first
              | exact ⟨rfl, HW.out, Below.refl _ _⟩
              | (simp; exact ⟨rfl, HW.out, Below.refl _ _⟩)
          · intro ρ w1 hF hW
            have e30 : ρ 30 = .bool false := hF 30 (by decide)
            have HW := hidden hW
            clear hF hW
            unfold Rl.Does
            go_simp
            first
              | exact ⟨rfl, HW.out, Below.refl _ _⟩
              | (simp; exact ⟨rfl, HW.out, Below.refl _ _⟩)
          · exact .inl ⟨false, fun v w h => h, (fun h => by cases h), fun _ _ => rfl⟩
          · exact .inl ⟨false, fun v w h => h, (fun h => by cases h), fun _ _ => rfl⟩
          · exact .inl ⟨false, fun v w h => h, (fun h => by cases h), fun _ _ => rfl⟩
          · exact .inr ⟨fun v w h => h, fun _ => rfl⟩
          · exact .inr ⟨fun v w h => h, fun _ => rfl⟩
          · exact .inr ⟨fun v w h => h, fun _ => rfl⟩
          · exact .inr ⟨fun v w h => h, fun _ => rfl⟩
          · exact .inr ⟨fun v w h => h, fun _ => rfl⟩
          · exact .inr ⟨fun v w h => h, fun _ => rfl⟩
          · exact .inr ⟨fun v w h => h, fun _ => rfl⟩
          · exact .inl ⟨false, fun v w h => h, (fun h => by cases h), fun _ _ => rfl⟩
          · intro ρ w1 hF hW
            have e31 : ρ 31 = .bool false := hF 31 (by decide)
            have HW := hidden hW
            clear hF hW
            unfold Rl.Does
            go_simp
            first
              | exact ⟨rfl, HW.out, Below.refl _ _⟩
              | (simp; exact ⟨rfl, HW.out, Below.refl _ _⟩)
        case fin =>
          intro a1 wc0 hst hv hW
          have hl : a1.tmps.getD 43 undef = .bool false := hv 13 43 (by kernel_rfl)
          have hd := hst.defers
          have hz := hst.lit [30, 31, 32, 33, 34, 35, 36, 37, 38, 39, 40, 41, 42, 43] (by kernel_rfl)
          have HBC0 := hidden hW
          clear hst hv hW
          obtain ⟨tm, df⟩ := a1
          simp only at hz hd hl
          simp only [List.foldl_cons, List.foldl_nil, List.setIfInBounds_toArray, List.set_cons_zero, List.set_cons_succ] at hz
          rw [hl] at hz
          generalize tm.getD 30 undef = v30 at hz
          generalize tm.getD 31 undef = v31 at hz
          generalize tm.getD 32 undef = v32 at hz
          generalize tm.getD 33 undef = v33 at hz
          generalize tm.getD 34 undef = v34 at hz
          generalize tm.getD 35 undef = v35 at hz
          generalize tm.getD 36 undef = v36 at hz
          generalize tm.getD 37 undef = v37 at hz
          generalize tm.getD 38 undef = v38 at hz
          generalize tm.getD 39 undef = v39 at hz
          generalize tm.getD 40 undef = v40 at hz
          generalize tm.getD 41 undef = v41 at hz
          generalize tm.getD 42 undef = v42 at hz
          clear hl
          subst hz hd
          have HX := hidden (fun W (hb : Below wc0.heap.size wc0 W) => HX.out W (below_then HBC0.out HBC0.out.size hb))
          have HRW := hidden (fun W (hb : Below wc0.heap.size wc0 W) => HRW.out W (below_then HBC0.out HBC0.out.size hb))
          have HLW := hidden (fun W (hb : Below wc0.heap.size wc0 W) => HLW.out W (below_then HBC0.out HBC0.out.size hb))
          have HBB := hidden (below_then HBB.out HBB.out.size HBC0.out)
          go_wp2_with fail
          refine Rl.wp_region_stepsN (R := fun w1 w2 => Below w1.heap.size w1 w2) (Rl.typ [Rl.Is (.int .i64 t), Rl.Is (.bool false), Rl.Is (.bool false), Rl.Is (undef), Rl.Is (undef), Rl.Is (undef), Rl.Is (undef), Rl.Is (undef), Rl.Is (undef), Rl.Is (undef), Rl.Is (.bool false), Rl.Is (.bool false), Rl.Is (undef), Rl.Is (undef), Rl.Is (undef), Rl.Is (undef), Rl.Is (undef), Rl.Is (undef), Rl.Is (undef), Rl.Is (undef), Rl.Is (undef), Rl.Is (undef), Rl.Is (undef), Rl.Is (undef), Rl.Is (undef), Rl.Is (undef), Rl.Is (undef), Rl.Is (undef), Rl.Is (undef), Rl.Is (undef), Rl.Is (undef), Rl.Is (undef), Rl.Is (undef), Rl.Is (.bool false)]) (fun w1 => Below wc0.heap.size wc0 w1) (fun w1 => Below.refl _ _) (by kernel_rfl) (by kernel_rfl) (by kernel_rfl) (by kernel_rfl) ?mono (Below.refl _ _).drew ?step ?fin
          case mono =>
            refine Rl.typ_mono ?_
            simp only [List.forall_mem_cons]
            repeat' (first | exact (fun v w w' h _ => h) | (intro p hp; cases hp; done) | refine And.intro ?_ ?_)
          case step =>
            refine ⟨?_, ?_, ?_, ?_, ?_, ?_, ?_, ?_, ?_, ?_, ?_, ?_, ?_, ?_, ?_, ?_, ?_, ?_, ?_, ?_, ?_, ?_, ?_, ?_, ?_, ?_, ?_, ?_, ?_, ?_, ?_, ?_, ?_, ?_, trivial⟩
            · intro ρ w1 hF hW
              have e1 : ρ 1 = .int .i64 t := hF 1 (by decide)
              have HW := hidden hW
              clear hF hW
              unfold Rl.Does
              go_simp
              first
                | exact ⟨rfl, HW.out, Below.refl _ _⟩
                | (simp; exact ⟨rfl, HW.out, Below.refl _ _⟩)
            · intro ρ w1 hF hW
              have e44 : ρ 44 = .int .i64 t := hF 44 (by decide)
              have HW := hidden hW
              clear hF hW
              unfold Rl.Does
              go_simp
              first
                | exact ⟨rfl, HW.out, Below.refl _ _⟩
                | (simp; exact ⟨rfl, HW.out, Below.refl _ _⟩)
            · intro ρ w1 hF hW
              have e45 : ρ 45 = .bool false := hF 45 (by decide)
              have HW := hidden hW
              clear hF hW
              unfold Rl.Does
              go_simp
              first
                | exact ⟨rfl, HW.out, Below.refl _ _⟩
                | (simp; exact ⟨rfl, HW.out, Below.refl _ _⟩)
            · exact .inl ⟨false, fun v w h => h, (fun h => by cases h), fun _ _ => rfl⟩
            · exact .inl ⟨false, fun v w h => h, (fun h => by cases h), fun _ _ => rfl⟩
            · exact .inl ⟨false, fun v w h => h, (fun h => by cases h), fun _ _ => rfl⟩
            · exact .inl ⟨false, fun v w h => h, (fun h => by cases h), fun _ _ => rfl⟩
            · exact .inl ⟨false, fun v w h => h, (fun h => by cases h), fun _ _ => rfl⟩
            · exact .inl ⟨false, fun v w h => h, (fun h => by cases h), fun _ _ => rfl⟩
            · exact .inl ⟨false, fun v w h => h, (fun h => by cases h), fun _ _ => rfl⟩
            · intro ρ w1 hF hW
              have e46 : ρ 46 = .bool false := hF 46 (by decide)
              have HW := hidden hW
              clear hF hW
              unfold Rl.Does
              go_simp
              first
                | exact ⟨rfl, HW.out, Below.refl _ _⟩
                | (simp; exact ⟨rfl, HW.out, Below.refl _ _⟩)
            · intro ρ w1 hF hW
              have e54 : ρ 54 = .bool false := hF 54 (by decide)
              have HW := hidden hW
              clear hF hW
              unfold Rl.Does
              go_simp
              first
                | exact ⟨rfl, HW.out, Below.refl _ _⟩
                | (simp; exact ⟨rfl, HW.out, Below.refl _ _⟩)
            · exact .inl ⟨false, fun v w h => h, (fun h => by cases h), fun _ _ => rfl⟩
            · exact .inl ⟨false, fun v w h => h, (fun h => by cases h), fun _ _ => rfl⟩
            · exact .inl ⟨false, fun v w h => h, (fun h => by cases h), fun _ _ => rfl⟩
            · exact .inr ⟨fun v w h => h, fun _ => rfl⟩
            · exact .inr ⟨fun v w h => h, fun _ => rfl⟩
            · exact .inr ⟨fun v w h => h, fun _ => rfl⟩
            · exact .inr ⟨fun v w h => h, fun _ => rfl⟩
            · exact .inr ⟨fun v w h => h, fun _ => rfl⟩
            · exact .inl ⟨false, fun v w h => h, (fun h => by cases h), fun _ _ => rfl⟩
            · exact .inl ⟨false, fun v w h => h, (fun h => by cases h), fun _ _ => rfl⟩
            · exact .inr ⟨fun v w h => h, fun _ => rfl⟩
            · exact .inr ⟨fun v w h => h, fun _ => rfl⟩
            · exact .inr ⟨fun v w h => h, fun _ => rfl⟩
            · exact .inr ⟨fun v w h => h, fun _ => rfl⟩
            · exact .inr ⟨fun v w h => h, fun _ => rfl⟩
            · exact .inr ⟨fun v w h => h, fun _ => rfl⟩
            · exact .inr ⟨fun v w h => h, fun _ => rfl⟩
            · exact .inr ⟨fun v w h => h, fun _ => rfl⟩
            · exact .inr ⟨fun v w h => h, fun _ => rfl⟩
            · exact .inr ⟨fun v w h => h, fun _ => rfl⟩
            · exact .inl ⟨false, fun v w h => h, (fun h => by cases h), fun _ _ => rfl⟩
            · intro ρ w1 hF hW
              have e55 : ρ 55 = .bool false := hF 55 (by decide)
              have HW := hidden hW
              clear hF hW
              unfold Rl.Does
              go_simp
              first
                | exact ⟨rfl, HW.out, Below.refl _ _⟩
                | (simp; exact ⟨rfl, HW.out, Below.refl _ _⟩)
          case fin =>
            intro a1 wc hst hv hW
            have hl : a1.tmps.getD 77 undef = .bool false := hv 33 77 (by kernel_rfl)
            have hd := hst.defers
            have hz := hst.lit [44, 45, 46, 47, 48, 49, 50, 51, 52, 53, 54, 55, 56, 57, 58, 59, 60, 61, 62, 63, 64, 65, 66, 67, 68, 69, 70, 71, 72, 73, 74, 75, 76, 77] (by kernel_rfl)
            have HBC := hidden hW
            clear hst hv hW
            obtain ⟨tm, df⟩ := a1
            simp only at hz hd hl
            simp only [List.foldl_cons, List.foldl_nil, List.setIfInBounds_toArray, List.set_cons_zero, List.set_cons_succ] at hz
            rw [hl] at hz
            generalize tm.getD 44 undef = v44 at hz
            generalize tm.getD 45 undef = v45 at hz
            generalize tm.getD 46 undef = v46 at hz
            generalize tm.getD 47 undef = v47 at hz
            generalize tm.getD 48 undef = v48 at hz
            generalize tm.getD 49 undef = v49 at hz
            generalize tm.getD 50 undef = v50 at hz
            generalize tm.getD 51 undef = v51 at hz
            generalize tm.getD 52 undef = v52 at hz
            generalize tm.getD 53 undef = v53 at hz
            generalize tm.getD 54 undef = v54 at hz
            generalize tm.getD 55 undef = v55 at hz
            generalize tm.getD 56 undef = v56 at hz
            generalize tm.getD 57 undef = v57 at hz
            generalize tm.getD 58 undef = v58 at hz
            generalize tm.getD 59 undef = v59 at hz
            generalize tm.getD 60 undef = v60 at hz
            generalize tm.getD 61 undef = v61 at hz
            generalize tm.getD 62 undef = v62 at hz
            generalize tm.getD 63 undef = v63 at hz
            generalize tm.getD 64 undef = v64 at hz
            generalize tm.getD 65 undef = v65 at hz
            generalize tm.getD 66 undef = v66 at hz
            generalize tm.getD 67 undef = v67 at hz
            generalize tm.getD 68 undef = v68 at hz
            generalize tm.getD 69 undef = v69 at hz
            generalize tm.getD 70 undef = v70 at hz
            generalize tm.getD 71 undef = v71 at hz
            generalize tm.getD 72 undef = v72 at hz
            generalize tm.getD 73 undef = v73 at hz
            generalize tm.getD 74 undef = v74 at hz
            generalize tm.getD 75 undef = v75 at hz
            generalize tm.getD 76 undef = v76 at hz
            clear hl
            subst hz hd
            go_wp2_with fail
            refine (knows15_calls _).mono ?_
            rintro e w9 ⟨rfl, hb9⟩
            go_wp2
            go_ret
            have hz := below_then (below_then HBB.out HBB.out.size HBC.out) (below_then HBB.out HBB.out.size HBC.out).size hb9
            first
              | exact ⟨rfl, hz⟩
              | exact ⟨rfl, HBE.out ▸ hz⟩
    | some u =>
      have ht := exV_pos hex
      have hsp := exV_spec (D := D) ht
      have hul := exV_len hex
      rw [hex] at hsp
      obtain ⟨hu, hut, hum⟩ := hsp
      obtain ⟨X, hX⟩ : ∃ X, X = byS u := ⟨_, rfl⟩
      rw [show exR (some u) = .tuple #[.string X, .bool true] from by rw [hX]; rfl]
      dsimp only
      have hXn : X.data.toList.map (·.toNat) = u := by rw [hX]; exact byS_nat hu
      have hXs : X.size = u.length := by rw [hX]; exact byS_size u
      obtain ⟨rx, hrx⟩ : ∃ r, r = runD D u := ⟨_, rfl⟩
      have HRX := hidden (fun W (hb : Below wb.heap.size wb W) => (show Calls Tryz.prog 25 #[dfaA D.cls D.width (.slice an n cn) vl, .string X] W fun e w' => e = .returned (.int .i64 rx) ∧ Below W.heap.size W w' by have h := rrun14_calls X (HRB.out.below hb hb.size) (by have := HNN.out; unfold maxLen; omega); rw [hXn, ← hrx] at h; exact h))
      have HLX := hidden (fun W (hb : Below wb.heap.size wb W) => (show Calls Tryz.prog 24 #[dfaA D.cls D.width (.slice an n cn) vl, .int .i64 rx] W fun e w' => e = .returned (.int .i64 t) ∧ Below W.heap.size W w' by have h := rlabel_calls rx (HRB.out.below hb hb.size); rw [hrx, hut] at h; rw [hrx]; exact h))
      have k0 : decide (t < 0) = false := decide_eq_false (by omega)
      have k1 : decide (0 ≤ t) = true := decide_eq_true ht
      have HUM := hidden hum
      have HXN := hidden hXn
      have HXS := hidden hXs
      clear hu hut hum hX hXn hXs hrx hex hul ht
      go_wp2_with fail
      refine Rl.wp_region_stepsN (R := fun w1 w2 => Below w1.heap.size w1 w2) (Rl.typ [Rl.Is (.bool true), Rl.Is (.bool true), Rl.Is (.int .i64 t), Rl.Is (.bool false), Rl.Is (.bool false), Rl.Is (dfaA D.cls D.width (.slice an n cn) vl), Rl.Is (dfaA D.cls D.width (.slice an n cn) vl), Rl.Is (.string X), Rl.Is (.int .i64 rx), Rl.Is (.int .i64 t), Rl.Is (.int .i64 t), Rl.Is (.bool false), Rl.Is (.bool false), Rl.Is (.bool false)]) (fun w1 => Below wb.heap.size wb w1) (fun w1 => Below.refl _ _) (by kernel_rfl) (by kernel_rfl) (by kernel_rfl) (by kernel_rfl) ?mono (Below.refl _ _).drew ?step ?fin
      case mono =>
        refine Rl.typ_mono ?_
        simp only [List.forall_mem_cons]
        repeat' (first | exact (fun v w w' h _ => h) | (intro p hp; cases hp; done) | refine And.intro ?_ ?_)
      case step =>
        refine ⟨?_, ?_, ?_, ?_, ?_, ?_, ?_, ?_, ?_, ?_, ?_, ?_, ?_, ?_, trivial⟩
        · intro ρ w1 hF hW
          have e8 : ρ 8 = .bool true := hF 8 (by decide)
          have HW := hidden hW
          clear hF hW
          unfold Rl.Does
          go_simp
          first
            | exact ⟨rfl, HW.out, Below.refl _ _⟩
            | (simp; exact ⟨rfl, HW.out, Below.refl _ _⟩)
        · intro ρ w1 hF hW
          have e30 : ρ 30 = .bool true := hF 30 (by decide)
          have HW := hidden hW
          clear hF hW
          unfold Rl.Does
          go_simp
          first
            | exact ⟨rfl, HW.out, Below.refl _ _⟩
            | (simp; exact ⟨rfl, HW.out, Below.refl _ _⟩)
        · refine .inl ⟨true, fun v w h => h, fun _ => ?_, fun h => absurd rfl h⟩
          intro ρ w1 hF hW
          have e1 : ρ 1 = .int .i64 t := hF 1 (by decide)
          have HW := hidden hW
          clear hF hW
          unfold Rl.Does
          go_simp
          first
            | exact ⟨rfl, HW.out, Below.refl _ _⟩
            | (simp; exact ⟨rfl, HW.out, Below.refl _ _⟩)
        · refine .inl ⟨true, fun v w h => h, fun _ => ?_, fun h => absurd rfl h⟩
          intro ρ w1 hF hW
          have e32 : ρ 32 = .int .i64 t := hF 32 (by decide)
          have HW := hidden hW
          clear hF hW
          unfold Rl.Does
          go_simp
          first
            | exact ⟨rfl, HW.out, Below.refl _ _⟩
            | (simp; exact ⟨rfl, HW.out, Below.refl _ _⟩)
        · refine .inl ⟨true, fun v w h => h, fun _ => ?_, fun h => absurd rfl h⟩
          intro ρ w1 hF hW
          have e33 : ρ 33 = .bool false := hF 33 (by decide)
          have HW := hidden hW
          clear hF hW
          unfold Rl.Does
          go_simp
          first
            | exact ⟨rfl, HW.out, Below.refl _ _⟩
            | (simp; exact ⟨rfl, HW.out, Below.refl _ _⟩)
        · refine .inl ⟨false, fun v w h => h, fun _ => ?_, fun h => absurd rfl h⟩
          intro ρ w1 hF hW
          have e1 : ρ 3 = .pointer (some ⟨B, 0, none⟩) := hF 3 (by decide)
          have HW := hidden hW
          exact does_load_dfaT rfl e1 (HX.out _ HW.out) ⟨rfl, HW.out, Below.refl _ _⟩
        · refine .inl ⟨false, fun v w h => h, fun _ => ?_, fun h => absurd rfl h⟩
          intro ρ w1 hF hW
          have e1 : ρ 3 = .pointer (some ⟨B, 0, none⟩) := hF 3 (by decide)
          have HW := hidden hW
          exact does_load_dfaT rfl e1 (HX.out _ HW.out) ⟨rfl, HW.out, Below.refl _ _⟩
        · refine .inl ⟨false, fun v w h => h, fun _ => ?_, fun h => absurd rfl h⟩
          intro ρ w1 hF hW
          have e7 : ρ 7 = .string X := hF 7 (by decide)
          have HW := hidden hW
          clear hF hW
          unfold Rl.Does
          go_simp
          first
            | exact ⟨rfl, HW.out, Below.refl _ _⟩
            | (simp; exact ⟨rfl, HW.out, Below.refl _ _⟩)
        · refine .inl ⟨false, fun v w h => h, fun _ => ?_, fun h => absurd rfl h⟩
          intro ρ w1 hF hW
          have e36 : ρ 36 = dfaA D.cls D.width (.slice an n cn) vl := hF 36 (by decide)
          have e37 : ρ 37 = .string X := hF 37 (by decide)
          have HW := hidden hW
          clear hF hW
          unfold Rl.Does
          go_simp
          refine (HRX.out _ HW.out).mono ?_
          rintro e w3 ⟨rfl, hb⟩
          exact ⟨_, rfl, rfl, below_after HW.out hb, hb⟩
        · refine .inl ⟨false, fun v w h => h, fun _ => ?_, fun h => absurd rfl h⟩
          intro ρ w1 hF hW
          have e35 : ρ 35 = dfaA D.cls D.width (.slice an n cn) vl := hF 35 (by decide)
          have e38 : ρ 38 = .int .i64 rx := hF 38 (by decide)
          have HW := hidden hW
          clear hF hW
          unfold Rl.Does
          go_simp
          refine (HLX.out _ HW.out).mono ?_
          rintro e w3 ⟨rfl, hb⟩
          exact ⟨_, rfl, rfl, below_after HW.out hb, hb⟩
        · refine .inl ⟨false, fun v w h => h, fun _ => ?_, fun h => absurd rfl h⟩
          intro ρ w1 hF hW
          have e1 : ρ 1 = .int .i64 t := hF 1 (by decide)
          have HW := hidden hW
          clear hF hW
          unfold Rl.Does
          go_simp
          first
            | exact ⟨rfl, HW.out, Below.refl _ _⟩
            | (simp; exact ⟨rfl, HW.out, Below.refl _ _⟩)
        · refine .inl ⟨false, fun v w h => h, fun _ => ?_, fun h => absurd rfl h⟩
          intro ρ w1 hF hW
          have e39 : ρ 39 = .int .i64 t := hF 39 (by decide)
          have e40 : ρ 40 = .int .i64 t := hF 40 (by decide)
          have HW := hidden hW
          clear hF hW
          unfold Rl.Does
          go_simp
          first
            | exact ⟨rfl, HW.out, Below.refl _ _⟩
            | (simp; exact ⟨rfl, HW.out, Below.refl _ _⟩)
        · refine .inl ⟨true, fun v w h => h, fun _ => ?_, fun h => absurd rfl h⟩
          intro ρ w1 hF hW
          have e34 : ρ 34 = .bool false := hF 34 (by decide)
          have e41 : ρ 41 = .bool false := hF 41 (by decide)
          have HW := hidden hW
          clear hF hW
          unfold Rl.Does
          go_simp
          first
            | exact ⟨rfl, HW.out, Below.refl _ _⟩
            | (simp; exact ⟨rfl, HW.out, Below.refl _ _⟩)
        · intro ρ w1 hF hW
          have e31 : ρ 31 = .bool true := hF 31 (by decide)
          have e42 : ρ 42 = .bool false := hF 42 (by decide)
          have HW := hidden hW
          clear hF hW
          unfold Rl.Does
          go_simp
          first
            | exact ⟨rfl, HW.out, Below.refl _ _⟩
            | (simp; exact ⟨rfl, HW.out, Below.refl _ _⟩)
      case fin =>
        intro a1 wc0 hst hv hW
        have hl : a1.tmps.getD 43 undef = .bool false := hv 13 43 (by kernel_rfl)
        have hd := hst.defers
        have hz := hst.lit [30, 31, 32, 33, 34, 35, 36, 37, 38, 39, 40, 41, 42, 43] (by kernel_rfl)
        have HBC0 := hidden hW
        clear hst hv hW
        obtain ⟨tm, df⟩ := a1
        simp only at hz hd hl
        simp only [List.foldl_cons, List.foldl_nil, List.setIfInBounds_toArray, List.set_cons_zero, List.set_cons_succ] at hz
        rw [hl] at hz
        generalize tm.getD 30 undef = v30 at hz
        generalize tm.getD 31 undef = v31 at hz
        generalize tm.getD 32 undef = v32 at hz
        generalize tm.getD 33 undef = v33 at hz
        generalize tm.getD 34 undef = v34 at hz
        generalize tm.getD 35 undef = v35 at hz
        generalize tm.getD 36 undef = v36 at hz
        generalize tm.getD 37 undef = v37 at hz
        generalize tm.getD 38 undef = v38 at hz
        generalize tm.getD 39 undef = v39 at hz
        generalize tm.getD 40 undef = v40 at hz
        generalize tm.getD 41 undef = v41 at hz
        generalize tm.getD 42 undef = v42 at hz
        clear hl
        subst hz hd
        have HX := hidden (fun W (hb : Below wc0.heap.size wc0 W) => HX.out W (below_then HBC0.out HBC0.out.size hb))
        have HRW := hidden (fun W (hb : Below wc0.heap.size wc0 W) => HRW.out W (below_then HBC0.out HBC0.out.size hb))
        have HLW := hidden (fun W (hb : Below wc0.heap.size wc0 W) => HLW.out W (below_then HBC0.out HBC0.out.size hb))
        have HBB := hidden (below_then HBB.out HBB.out.size HBC0.out)
        by_cases hlt : la = t
        · have hm := HUM.out _ (str_small s) (by rw [← HLA.out]; exact hlt)
          rw [str_len] at hm
          have k2 : (la == t) = true := by rw [hlt]; simp
          have k3 : decide ((s.size : Int) < (X.size : Int)) = false := decide_eq_false (by have := HXS.out; omega)
          have k3' : decide (s.size < X.size) = false := decide_eq_false (by have := HXS.out; omega)
          clear hlt
          by_cases hE : s.size = X.size
          · have k4 : ((s.size : Int) == (X.size : Int)) = true := by rw [hE]; simp
            have k5 : Op.bytesLess s.toList X.toList = false := by
              rw [less_lx, Lib.toList_data, Lib.toList_data, HXN.out]
              rcases hm with h1 | h1
              · have := HXS.out; omega
              · exact h1.2
            clear hm hE
            go_wp2_with fail
            refine Rl.wp_region_stepsN (R := fun w1 w2 => Below w1.heap.size w1 w2) (Rl.typ [Rl.Is (.int .i64 t), Rl.Is (.bool true), Rl.Is (.bool true), Rl.Is (dfaA D.cls D.width (.slice an n cn) vl), Rl.Is (dfaA D.cls D.width (.slice an n cn) vl), Rl.Is (.string s), Rl.Is (.int .i64 ru), Rl.Is (.int .i64 la), Rl.Is (.int .i64 t), Rl.Is (.bool true), Rl.Is (.bool true), Rl.Is (.bool true), Rl.Is (.bool true), Rl.Is (.bool false), Rl.Is (.bool false), Rl.Is (.string s), Rl.Is (.int .i64 (s.size : Int)), Rl.Is (.string X), Rl.Is (.int .i64 (X.size : Int)), Rl.Is (.bool false), Rl.Is (.bool false), Rl.Is (.bool false), Rl.Is (.string s), Rl.Is (.int .i64 (s.size : Int)), Rl.Is (.string X), Rl.Is (.int .i64 (X.size : Int)), Rl.Is (.bool true), Rl.Is (.bool true), Rl.Is (.string s), Rl.Is (.string X), Rl.Is (.bool false), Rl.Is (.bool false), Rl.Is (.bool false), Rl.Is (.bool false)]) (fun w1 => Below wc0.heap.size wc0 w1) (fun w1 => Below.refl _ _) (by kernel_rfl) (by kernel_rfl) (by kernel_rfl) (by kernel_rfl) ?mono (Below.refl _ _).drew ?step ?fin
            case mono =>
              refine Rl.typ_mono ?_
              simp only [List.forall_mem_cons]
              repeat' (first | exact (fun v w w' h _ => h) | (intro p hp; cases hp; done) | refine And.intro ?_ ?_)
            case step =>
              refine ⟨?_, ?_, ?_, ?_, ?_, ?_, ?_, ?_, ?_, ?_, ?_, ?_, ?_, ?_, ?_, ?_, ?_, ?_, ?_, ?_, ?_, ?_, ?_, ?_, ?_, ?_, ?_, ?_, ?_, ?_, ?_, ?_, ?_, ?_, trivial⟩
              · intro ρ w1 hF hW
                have e1 : ρ 1 = .int .i64 t := hF 1 (by decide)
                have HW := hidden hW
                clear hF hW
                unfold Rl.Does
                go_simp
                first
                  | exact ⟨rfl, HW.out, Below.refl _ _⟩
                  | (simp; exact ⟨rfl, HW.out, Below.refl _ _⟩)
              · intro ρ w1 hF hW
                have e44 : ρ 44 = .int .i64 t := hF 44 (by decide)
                have HW := hidden hW
                clear hF hW
                unfold Rl.Does
                go_simp
                first
                  | exact ⟨rfl, HW.out, Below.refl _ _⟩
                  | (simp; exact ⟨rfl, HW.out, Below.refl _ _⟩)
              · intro ρ w1 hF hW
                have e45 : ρ 45 = .bool true := hF 45 (by decide)
                have HW := hidden hW
                clear hF hW
                unfold Rl.Does
                go_simp
                first
                  | exact ⟨rfl, HW.out, Below.refl _ _⟩
                  | (simp; exact ⟨rfl, HW.out, Below.refl _ _⟩)
              · refine .inl ⟨true, fun v w h => h, fun _ => ?_, fun h => absurd rfl h⟩
                intro ρ w1 hF hW
                have e1 : ρ 3 = .pointer (some ⟨B, 0, none⟩) := hF 3 (by decide)
                have HW := hidden hW
                exact does_load_dfaT rfl e1 (HX.out _ HW.out) ⟨rfl, HW.out, Below.refl _ _⟩
              · refine .inl ⟨true, fun v w h => h, fun _ => ?_, fun h => absurd rfl h⟩
                intro ρ w1 hF hW
                have e1 : ρ 3 = .pointer (some ⟨B, 0, none⟩) := hF 3 (by decide)
                have HW := hidden hW
                exact does_load_dfaT rfl e1 (HX.out _ HW.out) ⟨rfl, HW.out, Below.refl _ _⟩
              · refine .inl ⟨true, fun v w h => h, fun _ => ?_, fun h => absurd rfl h⟩
                intro ρ w1 hF hW
                have e2 : ρ 2 = .string s := hF 2 (by decide)
                have HW := hidden hW
                clear hF hW
                unfold Rl.Does
                go_simp
                first
                  | exact ⟨rfl, HW.out, Below.refl _ _⟩
                  | (simp; exact ⟨rfl, HW.out, Below.refl _ _⟩)
              · refine .inl ⟨true, fun v w h => h, fun _ => ?_, fun h => absurd rfl h⟩
                intro ρ w1 hF hW
                have e48 : ρ 48 = dfaA D.cls D.width (.slice an n cn) vl := hF 48 (by decide)
                have e49 : ρ 49 = .string s := hF 49 (by decide)
                have HW := hidden hW
                clear hF hW
                unfold Rl.Does
                go_simp
                refine (HRW.out _ HW.out).mono ?_
                rintro e w3 ⟨rfl, hb⟩
                exact ⟨_, rfl, rfl, below_after HW.out hb, hb⟩
              · refine .inl ⟨true, fun v w h => h, fun _ => ?_, fun h => absurd rfl h⟩
                intro ρ w1 hF hW
                have e47 : ρ 47 = dfaA D.cls D.width (.slice an n cn) vl := hF 47 (by decide)
                have e50 : ρ 50 = .int .i64 ru := hF 50 (by decide)
                have HW := hidden hW
                clear hF hW
                unfold Rl.Does
                go_simp
                refine (HLW.out _ HW.out).mono ?_
                rintro e w3 ⟨rfl, hb⟩
                exact ⟨_, rfl, rfl, below_after HW.out hb, hb⟩
              · refine .inl ⟨true, fun v w h => h, fun _ => ?_, fun h => absurd rfl h⟩
                intro ρ w1 hF hW
                have e1 : ρ 1 = .int .i64 t := hF 1 (by decide)
                have HW := hidden hW
                clear hF hW
                unfold Rl.Does
                go_simp
                first
                  | exact ⟨rfl, HW.out, Below.refl _ _⟩
                  | (simp; exact ⟨rfl, HW.out, Below.refl _ _⟩)
              · refine .inl ⟨true, fun v w h => h, fun _ => ?_, fun h => absurd rfl h⟩
                intro ρ w1 hF hW
                have e51 : ρ 51 = .int .i64 la := hF 51 (by decide)
                have e52 : ρ 52 = .int .i64 t := hF 52 (by decide)
                have HW := hidden hW
                clear hF hW
                unfold Rl.Does
                go_simp
                first
                  | exact ⟨rfl, HW.out, Below.refl _ _⟩
                  | (simp; exact ⟨rfl, HW.out, Below.refl _ _⟩)
              · intro ρ w1 hF hW
                have e46 : ρ 46 = .bool true := hF 46 (by decide)
                have e53 : ρ 53 = .bool true := hF 53 (by decide)
                have HW := hidden hW
                clear hF hW
                unfold Rl.Does
                go_simp
                first
                  | exact ⟨rfl, HW.out, Below.refl _ _⟩
                  | (simp; exact ⟨rfl, HW.out, Below.refl _ _⟩)
              · intro ρ w1 hF hW
                have e54 : ρ 54 = .bool true := hF 54 (by decide)
                have HW := hidden hW
                clear hF hW
                unfold Rl.Does
                go_simp
                first
                  | exact ⟨rfl, HW.out, Below.refl _ _⟩
                  | (simp; exact ⟨rfl, HW.out, Below.refl _ _⟩)
              · refine .inl ⟨true, fun v w h => h, fun _ => ?_, fun h => absurd rfl h⟩
                intro ρ w1 hF hW
                have e8 : ρ 8 = .bool true := hF 8 (by decide)
                have HW := hidden hW
                clear hF hW
                unfold Rl.Does
                go_simp
                first
                  | exact ⟨rfl, HW.out, Below.refl _ _⟩
                  | (simp; exact ⟨rfl, HW.out, Below.refl _ _⟩)
              · refine .inl ⟨true, fun v w h => h, fun _ => ?_, fun h => absurd rfl h⟩
                intro ρ w1 hF hW
                have e56 : ρ 56 = .bool true := hF 56 (by decide)
                have HW := hidden hW
                clear hF hW
                unfold Rl.Does
                go_simp
                first
                  | exact ⟨rfl, HW.out, Below.refl _ _⟩
                  | (simp; exact ⟨rfl, HW.out, Below.refl _ _⟩)
              · refine .inl ⟨true, fun v w h => h, fun _ => ?_, fun h => absurd rfl h⟩
                intro ρ w1 hF hW
                have e57 : ρ 57 = .bool false := hF 57 (by decide)
                have HW := hidden hW
                clear hF hW
                unfold Rl.Does
                go_simp
                first
                  | exact ⟨rfl, HW.out, Below.refl _ _⟩
                  | (simp; exact ⟨rfl, HW.out, Below.refl _ _⟩)
              · refine .inl ⟨false, fun v w h => h, fun _ => ?_, fun h => absurd rfl h⟩
                intro ρ w1 hF hW
                have e2 : ρ 2 = .string s := hF 2 (by decide)
                have HW := hidden hW
                clear hF hW
                unfold Rl.Does
                go_simp
                first
                  | exact ⟨rfl, HW.out, Below.refl _ _⟩
                  | (simp; exact ⟨rfl, HW.out, Below.refl _ _⟩)
              · refine .inl ⟨false, fun v w h => h, fun _ => ?_, fun h => absurd rfl h⟩
                intro ρ w1 hF hW
                have e59 : ρ 59 = .string s := hF 59 (by decide)
                have HW := hidden hW
                clear hF hW
                unfold Rl.Does
                go_simp
                first
                  | exact ⟨rfl, HW.out, Below.refl _ _⟩
                  | (simp; exact ⟨rfl, HW.out, Below.refl _ _⟩)
              · refine .inl ⟨false, fun v w h => h, fun _ => ?_, fun h => absurd rfl h⟩
                intro ρ w1 hF hW
                have e7 : ρ 7 = .string X := hF 7 (by decide)
                have HW := hidden hW
                clear hF hW
                unfold Rl.Does
                go_simp
                first
                  | exact ⟨rfl, HW.out, Below.refl _ _⟩
                  | (simp; exact ⟨rfl, HW.out, Below.refl _ _⟩)
              · refine .inl ⟨false, fun v w h => h, fun _ => ?_, fun h => absurd rfl h⟩
                intro ρ w1 hF hW
                have e61 : ρ 61 = .string X := hF 61 (by decide)
                have HW := hidden hW
                clear hF hW
                unfold Rl.Does
                go_simp
                first
                  | exact ⟨rfl, HW.out, Below.refl _ _⟩
                  | (simp; exact ⟨rfl, HW.out, Below.refl _ _⟩)
              · refine .inl ⟨false, fun v w h => h, fun _ => ?_, fun h => absurd rfl h⟩
                intro ρ w1 hF hW
                have e60 : ρ 60 = .int .i64 (s.size : Int) := hF 60 (by decide)
                have e62 : ρ 62 = .int .i64 (X.size : Int) := hF 62 (by decide)
                have HW := hidden hW
                clear hF hW
                unfold Rl.Does
                go_simp
                first
                  | exact ⟨rfl, HW.out, Below.refl _ _⟩
                  | (simp; exact ⟨rfl, HW.out, Below.refl _ _⟩)
              · refine .inl ⟨true, fun v w h => h, fun _ => ?_, fun h => absurd rfl h⟩
                intro ρ w1 hF hW
                have e58 : ρ 58 = .bool false := hF 58 (by decide)
                have e63 : ρ 63 = .bool false := hF 63 (by decide)
                have HW := hidden hW
                clear hF hW
                unfold Rl.Does
                go_simp
                first
                  | exact ⟨rfl, HW.out, Below.refl _ _⟩
                  | (simp; exact ⟨rfl, HW.out, Below.refl _ _⟩)
              · refine .inl ⟨true, fun v w h => h, fun _ => ?_, fun h => absurd rfl h⟩
                intro ρ w1 hF hW
                have e64 : ρ 64 = .bool false := hF 64 (by decide)
                have HW := hidden hW
                clear hF hW
                unfold Rl.Does
                go_simp
                first
                  | exact ⟨rfl, HW.out, Below.refl _ _⟩
                  | (simp; exact ⟨rfl, HW.out, Below.refl _ _⟩)
              · refine .inl ⟨false, fun v w h => h, fun _ => ?_, fun h => absurd rfl h⟩
                intro ρ w1 hF hW
                have e2 : ρ 2 = .string s := hF 2 (by decide)
                have HW := hidden hW
                clear hF hW
                unfold Rl.Does
                go_simp
                first
                  | exact ⟨rfl, HW.out, Below.refl _ _⟩
                  | (simp; exact ⟨rfl, HW.out, Below.refl _ _⟩)
              · refine .inl ⟨false, fun v w h => h, fun _ => ?_, fun h => absurd rfl h⟩
                intro ρ w1 hF hW
                have e66 : ρ 66 = .string s := hF 66 (by decide)
                have HW := hidden hW
                clear hF hW
                unfold Rl.Does
                go_simp
                first
                  | exact ⟨rfl, HW.out, Below.refl _ _⟩
                  | (simp; exact ⟨rfl, HW.out, Below.refl _ _⟩)
              · refine .inl ⟨false, fun v w h => h, fun _ => ?_, fun h => absurd rfl h⟩
                intro ρ w1 hF hW
                have e7 : ρ 7 = .string X := hF 7 (by decide)
                have HW := hidden hW
                clear hF hW
                unfold Rl.Does
                go_simp
                first
                  | exact ⟨rfl, HW.out, Below.refl _ _⟩
                  | (simp; exact ⟨rfl, HW.out, Below.refl _ _⟩)
              · refine .inl ⟨false, fun v w h => h, fun _ => ?_, fun h => absurd rfl h⟩
                intro ρ w1 hF hW
                have e68 : ρ 68 = .string X := hF 68 (by decide)
                have HW := hidden hW
                clear hF hW
                unfold Rl.Does
                go_simp
                first
                  | exact ⟨rfl, HW.out, Below.refl _ _⟩
                  | (simp; exact ⟨rfl, HW.out, Below.refl _ _⟩)
              · refine .inl ⟨false, fun v w h => h, fun _ => ?_, fun h => absurd rfl h⟩
                intro ρ w1 hF hW
                have e67 : ρ 67 = .int .i64 (s.size : Int) := hF 67 (by decide)
                have e69 : ρ 69 = .int .i64 (X.size : Int) := hF 69 (by decide)
                have HW := hidden hW
                clear hF hW
                unfold Rl.Does
                go_simp
                first
                  | exact ⟨rfl, HW.out, Below.refl _ _⟩
                  | (simp; exact ⟨rfl, HW.out, Below.refl _ _⟩)
              · refine .inl ⟨false, fun v w h => h, fun _ => ?_, fun h => absurd rfl h⟩
                intro ρ w1 hF hW
                have e70 : ρ 70 = .bool true := hF 70 (by decide)
                have HW := hidden hW
                clear hF hW
                unfold Rl.Does
                go_simp
                first
                  | exact ⟨rfl, HW.out, Below.refl _ _⟩
                  | (simp; exact ⟨rfl, HW.out, Below.refl _ _⟩)
              · refine .inl ⟨true, fun v w h => h, fun _ => ?_, fun h => absurd rfl h⟩
                intro ρ w1 hF hW
                have e2 : ρ 2 = .string s := hF 2 (by decide)
                have HW := hidden hW
                clear hF hW
                unfold Rl.Does
                go_simp
                first
                  | exact ⟨rfl, HW.out, Below.refl _ _⟩
                  | (simp; exact ⟨rfl, HW.out, Below.refl _ _⟩)
              · refine .inl ⟨true, fun v w h => h, fun _ => ?_, fun h => absurd rfl h⟩
                intro ρ w1 hF hW
                have e7 : ρ 7 = .string X := hF 7 (by decide)
                have HW := hidden hW
                clear hF hW
                unfold Rl.Does
                go_simp
                first
                  | exact ⟨rfl, HW.out, Below.refl _ _⟩
                  | (simp; exact ⟨rfl, HW.out, Below.refl _ _⟩)
              · refine .inl ⟨true, fun v w h => h, fun _ => ?_, fun h => absurd rfl h⟩
                intro ρ w1 hF hW
                have e72 : ρ 72 = .string s := hF 72 (by decide)
                have e73 : ρ 73 = .string X := hF 73 (by decide)
                have HW := hidden hW
                clear hF hW
                unfold Rl.Does
                go_simp
                first
                  | exact ⟨rfl, HW.out, Below.refl _ _⟩
                  | (simp; exact ⟨rfl, HW.out, Below.refl _ _⟩)
              · refine .inl ⟨false, fun v w h => h, fun _ => ?_, fun h => absurd rfl h⟩
                intro ρ w1 hF hW
                have e71 : ρ 71 = .bool true := hF 71 (by decide)
                have e74 : ρ 74 = .bool false := hF 74 (by decide)
                have HW := hidden hW
                clear hF hW
                unfold Rl.Does
                go_simp
                first
                  | exact ⟨rfl, HW.out, Below.refl _ _⟩
                  | (simp; exact ⟨rfl, HW.out, Below.refl _ _⟩)
              · refine .inl ⟨true, fun v w h => h, fun _ => ?_, fun h => absurd rfl h⟩
                intro ρ w1 hF hW
                have e65 : ρ 65 = .bool false := hF 65 (by decide)
                have e75 : ρ 75 = .bool false := hF 75 (by decide)
                have HW := hidden hW
                clear hF hW
                unfold Rl.Does
                go_simp
                first
                  | exact ⟨rfl, HW.out, Below.refl _ _⟩
                  | (simp; exact ⟨rfl, HW.out, Below.refl _ _⟩)
              · intro ρ w1 hF hW
                have e55 : ρ 55 = .bool true := hF 55 (by decide)
                have e76 : ρ 76 = .bool false := hF 76 (by decide)
                have HW := hidden hW
                clear hF hW
                unfold Rl.Does
                go_simp
                first
                  | exact ⟨rfl, HW.out, Below.refl _ _⟩
                  | (simp; exact ⟨rfl, HW.out, Below.refl _ _⟩)
            case fin =>
              intro a1 wc hst hv hW
              have hl : a1.tmps.getD 77 undef = .bool false := hv 33 77 (by kernel_rfl)
              have hd := hst.defers
              have hz := hst.lit [44, 45, 46, 47, 48, 49, 50, 51, 52, 53, 54, 55, 56, 57, 58, 59, 60, 61, 62, 63, 64, 65, 66, 67, 68, 69, 70, 71, 72, 73, 74, 75, 76, 77] (by kernel_rfl)
              have HBC := hidden hW
              clear hst hv hW
              obtain ⟨tm, df⟩ := a1
              simp only at hz hd hl
              simp only [List.foldl_cons, List.foldl_nil, List.setIfInBounds_toArray, List.set_cons_zero, List.set_cons_succ] at hz
              rw [hl] at hz
              generalize tm.getD 44 undef = v44 at hz
              generalize tm.getD 45 undef = v45 at hz
              generalize tm.getD 46 undef = v46 at hz
              generalize tm.getD 47 undef = v47 at hz
              generalize tm.getD 48 undef = v48 at hz
              generalize tm.getD 49 undef = v49 at hz
              generalize tm.getD 50 undef = v50 at hz
              generalize tm.getD 51 undef = v51 at hz
              generalize tm.getD 52 undef = v52 at hz
              generalize tm.getD 53 undef = v53 at hz
              generalize tm.getD 54 undef = v54 at hz
              generalize tm.getD 55 undef = v55 at hz
              generalize tm.getD 56 undef = v56 at hz
              generalize tm.getD 57 undef = v57 at hz
              generalize tm.getD 58 undef = v58 at hz
              generalize tm.getD 59 undef = v59 at hz
              generalize tm.getD 60 undef = v60 at hz
              generalize tm.getD 61 undef = v61 at hz
              generalize tm.getD 62 undef = v62 at hz
              generalize tm.getD 63 undef = v63 at hz
              generalize tm.getD 64 undef = v64 at hz
              generalize tm.getD 65 undef = v65 at hz
              generalize tm.getD 66 undef = v66 at hz
              generalize tm.getD 67 undef = v67 at hz
              generalize tm.getD 68 undef = v68 at hz
              generalize tm.getD 69 undef = v69 at hz
              generalize tm.getD 70 undef = v70 at hz
              generalize tm.getD 71 undef = v71 at hz
              generalize tm.getD 72 undef = v72 at hz
              generalize tm.getD 73 undef = v73 at hz
              generalize tm.getD 74 undef = v74 at hz
              generalize tm.getD 75 undef = v75 at hz
              generalize tm.getD 76 undef = v76 at hz
              clear hl
              subst hz hd
              go_wp2_with fail
              refine (knows15_calls _).mono ?_
              rintro e w9 ⟨rfl, hb9⟩
              go_wp2
              go_ret
              have hz := below_then (below_then HBB.out HBB.out.size HBC.out) (below_then HBB.out HBB.out.size HBC.out).size hb9
              first
                | exact ⟨rfl, hz⟩
                | exact ⟨rfl, HBE.out ▸ hz⟩
          · have k4 : ((s.size : Int) == (X.size : Int)) = false := by rw [Bool.eq_false_iff]; intro e; have := eq_of_beq e; omega
            clear hm hE
            go_wp2_with fail
            refine Rl.wp_region_stepsN (R := fun w1 w2 => Below w1.heap.size w1 w2) (Rl.typ [Rl.Is (.int .i64 t), Rl.Is (.bool true), Rl.Is (.bool true), Rl.Is (dfaA D.cls D.width (.slice an n cn) vl), Rl.Is (dfaA D.cls D.width (.slice an n cn) vl), Rl.Is (.string s), Rl.Is (.int .i64 ru), Rl.Is (.int .i64 la), Rl.Is (.int .i64 t), Rl.Is (.bool true), Rl.Is (.bool true), Rl.Is (.bool true), Rl.Is (.bool true), Rl.Is (.bool false), Rl.Is (.bool false), Rl.Is (.string s), Rl.Is (.int .i64 (s.size : Int)), Rl.Is (.string X), Rl.Is (.int .i64 (X.size : Int)), Rl.Is (.bool false), Rl.Is (.bool false), Rl.Is (.bool false), Rl.Is (.string s), Rl.Is (.int .i64 (s.size : Int)), Rl.Is (.string X), Rl.Is (.int .i64 (X.size : Int)), Rl.Is (.bool false), Rl.Is (.bool false), Rl.Is (undef), Rl.Is (undef), Rl.Is (undef), Rl.Is (.bool false), Rl.Is (.bool false), Rl.Is (.bool false)]) (fun w1 => Below wc0.heap.size wc0 w1) (fun w1 => Below.refl _ _) (by kernel_rfl) (by kernel_rfl) (by kernel_rfl) (by kernel_rfl) ?mono (Below.refl _ _).drew ?step ?fin
            case mono =>
              refine Rl.typ_mono ?_
              simp only [List.forall_mem_cons]
              repeat' (first | exact (fun v w w' h _ => h) | (intro p hp; cases hp; done) | refine And.intro ?_ ?_)
            case step =>
              refine ⟨?_, ?_, ?_, ?_, ?_, ?_, ?_, ?_, ?_, ?_, ?_, ?_, ?_, ?_, ?_, ?_, ?_, ?_, ?_, ?_, ?_, ?_, ?_, ?_, ?_, ?_, ?_, ?_, ?_, ?_, ?_, ?_, ?_, ?_, trivial⟩
              · intro ρ w1 hF hW
                have e1 : ρ 1 = .int .i64 t := hF 1 (by decide)
                have HW := hidden hW
                clear hF hW
                unfold Rl.Does
                go_simp
                first
                  | exact ⟨rfl, HW.out, Below.refl _ _⟩
                  | (simp; exact ⟨rfl, HW.out, Below.refl _ _⟩)
              · intro ρ w1 hF hW
                have e44 : ρ 44 = .int .i64 t := hF 44 (by decide)
                have HW := hidden hW
                clear hF hW
                unfold Rl.Does
                go_simp
                first
                  | exact ⟨rfl, HW.out, Below.refl _ _⟩
                  | (simp; exact ⟨rfl, HW.out, Below.refl _ _⟩)
              · intro ρ w1 hF hW
                have e45 : ρ 45 = .bool true := hF 45 (by decide)
                have HW := hidden hW
                clear hF hW
                unfold Rl.Does
                go_simp
                first
                  | exact ⟨rfl, HW.out, Below.refl _ _⟩
                  | (simp; exact ⟨rfl, HW.out, Below.refl _ _⟩)
              · refine .inl ⟨true, fun v w h => h, fun _ => ?_, fun h => absurd rfl h⟩
                intro ρ w1 hF hW
                have e1 : ρ 3 = .pointer (some ⟨B, 0, none⟩) := hF 3 (by decide)
                have HW := hidden hW
                exact does_load_dfaT rfl e1 (HX.out _ HW.out) ⟨rfl, HW.out, Below.refl _ _⟩
              · refine .inl ⟨true, fun v w h => h, fun _ => ?_, fun h => absurd rfl h⟩
                intro ρ w1 hF hW
                have e1 : ρ 3 = .pointer (some ⟨B, 0, none⟩) := hF 3 (by decide)
                have HW := hidden hW
                exact does_load_dfaT rfl e1 (HX.out _ HW.out) ⟨rfl, HW.out, Below.refl _ _⟩
              · refine .inl ⟨true, fun v w h => h, fun _ => ?_, fun h => absurd rfl h⟩
                intro ρ w1 hF hW
                have e2 : ρ 2 = .string s := hF 2 (by decide)
                have HW := hidden hW
                clear hF hW
                unfold Rl.Does
                go_simp
                first
                  | exact ⟨rfl, HW.out, Below.refl _ _⟩
                  | (simp; exact ⟨rfl, HW.out, Below.refl _ _⟩)
              · refine .inl ⟨true, fun v w h => h, fun _ => ?_, fun h => absurd rfl h⟩
                intro ρ w1 hF hW
                have e48 : ρ 48 = dfaA D.cls D.width (.slice an n cn) vl := hF 48 (by decide)
                have e49 : ρ 49 = .string s := hF 49 (by decide)
                have HW := hidden hW
                clear hF hW
                unfold Rl.Does
                go_simp
                refine (HRW.out _ HW.out).mono ?_
                rintro e w3 ⟨rfl, hb⟩
                exact ⟨_, rfl, rfl, below_after HW.out hb, hb⟩
              · refine .inl ⟨true, fun v w h => h, fun _ => ?_, fun h => absurd rfl h⟩
                intro ρ w1 hF hW
                have e47 : ρ 47 = dfaA D.cls D.width (.slice an n cn) vl := hF 47 (by decide)
                have e50 : ρ 50 = .int .i64 ru := hF 50 (by decide)
                have HW := hidden hW
                clear hF hW
                unfold Rl.Does
                go_simp
                refine (HLW.out _ HW.out).mono ?_
                rintro e w3 ⟨rfl, hb⟩
                exact ⟨_, rfl, rfl, below_after HW.out hb, hb⟩
              · refine .inl ⟨true, fun v w h => h, fun _ => ?_, fun h => absurd rfl h⟩
                intro ρ w1 hF hW
                have e1 : ρ 1 = .int .i64 t := hF 1 (by decide)
                have HW := hidden hW
                clear hF hW
                unfold Rl.Does
                go_simp
                first
                  | exact ⟨rfl, HW.out, Below.refl _ _⟩
                  | (simp; exact ⟨rfl, HW.out, Below.refl _ _⟩)
              · refine .inl ⟨true, fun v w h => h, fun _ => ?_, fun h => absurd rfl h⟩
                intro ρ w1 hF hW
                have e51 : ρ 51 = .int .i64 la := hF 51 (by decide)
                have e52 : ρ 52 = .int .i64 t := hF 52 (by decide)
                have HW := hidden hW
                clear hF hW
                unfold Rl.Does
                go_simp
                first
                  | exact ⟨rfl, HW.out, Below.refl _ _⟩
                  | (simp; exact ⟨rfl, HW.out, Below.refl _ _⟩)
              · intro ρ w1 hF hW
                have e46 : ρ 46 = .bool true := hF 46 (by decide)
                have e53 : ρ 53 = .bool true := hF 53 (by decide)
                have HW := hidden hW
                clear hF hW
                unfold Rl.Does
                go_simp
                first
                  | exact ⟨rfl, HW.out, Below.refl _ _⟩
                  | (simp; exact ⟨rfl, HW.out, Below.refl _ _⟩)
              · intro ρ w1 hF hW
                have e54 : ρ 54 = .bool true := hF 54 (by decide)
                have HW := hidden hW
                clear hF hW
                unfold Rl.Does
                go_simp
                first
                  | exact ⟨rfl, HW.out, Below.refl _ _⟩
                  | (simp; exact ⟨rfl, HW.out, Below.refl _ _⟩)
              · refine .inl ⟨true, fun v w h => h, fun _ => ?_, fun h => absurd rfl h⟩
                intro ρ w1 hF hW
                have e8 : ρ 8 = .bool true := hF 8 (by decide)
                have HW := hidden hW
                clear hF hW
                unfold Rl.Does
                go_simp
                first
                  | exact ⟨rfl, HW.out, Below.refl _ _⟩
                  | (simp; exact ⟨rfl, HW.out, Below.refl _ _⟩)
              · refine .inl ⟨true, fun v w h => h, fun _ => ?_, fun h => absurd rfl h⟩
                intro ρ w1 hF hW
                have e56 : ρ 56 = .bool true := hF 56 (by decide)
                have HW := hidden hW
                clear hF hW
                unfold Rl.Does
                go_simp
                first
                  | exact ⟨rfl, HW.out, Below.refl _ _⟩
                  | (simp; exact ⟨rfl, HW.out, Below.refl _ _⟩)
              · refine .inl ⟨true, fun v w h => h, fun _ => ?_, fun h => absurd rfl h⟩
                intro ρ w1 hF hW
                have e57 : ρ 57 = .bool false := hF 57 (by decide)
                have HW := hidden hW
                clear hF hW
                unfold Rl.Does
                go_simp
                first
                  | exact ⟨rfl, HW.out, Below.refl _ _⟩
                  | (simp; exact ⟨rfl, HW.out, Below.refl _ _⟩)
              · refine .inl ⟨false, fun v w h => h, fun _ => ?_, fun h => absurd rfl h⟩
                intro ρ w1 hF hW
                have e2 : ρ 2 = .string s := hF 2 (by decide)
                have HW := hidden hW
                clear hF hW
                unfold Rl.Does
                go_simp
                first
                  | exact ⟨rfl, HW.out, Below.refl _ _⟩
                  | (simp; exact ⟨rfl, HW.out, Below.refl _ _⟩)
              · refine .inl ⟨false, fun v w h => h, fun _ => ?_, fun h => absurd rfl h⟩
                intro ρ w1 hF hW
                have e59 : ρ 59 = .string s := hF 59 (by decide)
                have HW := hidden hW
                clear hF hW
                unfold Rl.Does
                go_simp
                first
                  | exact ⟨rfl, HW.out, Below.refl _ _⟩
                  | (simp; exact ⟨rfl, HW.out, Below.refl _ _⟩)
              · refine .inl ⟨false, fun v w h => h, fun _ => ?_, fun h => absurd rfl h⟩
                intro ρ w1 hF hW
                have e7 : ρ 7 = .string X := hF 7 (by decide)
                have HW := hidden hW
                clear hF hW
                unfold Rl.Does
                go_simp
                first
                  | exact ⟨rfl, HW.out, Below.refl _ _⟩
                  | (simp; exact ⟨rfl, HW.out, Below.refl _ _⟩)
              · refine .inl ⟨false, fun v w h => h, fun _ => ?_, fun h => absurd rfl h⟩
                intro ρ w1 hF hW
                have e61 : ρ 61 = .string X := hF 61 (by decide)
                have HW := hidden hW
                clear hF hW
                unfold Rl.Does
                go_simp
                first
                  | exact ⟨rfl, HW.out, Below.refl _ _⟩
                  | (simp; exact ⟨rfl, HW.out, Below.refl _ _⟩)
              · refine .inl ⟨false, fun v w h => h, fun _ => ?_, fun h => absurd rfl h⟩
                intro ρ w1 hF hW
                have e60 : ρ 60 = .int .i64 (s.size : Int) := hF 60 (by decide)
                have e62 : ρ 62 = .int .i64 (X.size : Int) := hF 62 (by decide)
                have HW := hidden hW
                clear hF hW
                unfold Rl.Does
                go_simp
                first
                  | exact ⟨rfl, HW.out, Below.refl _ _⟩
                  | (simp; exact ⟨rfl, HW.out, Below.refl _ _⟩)
              · refine .inl ⟨true, fun v w h => h, fun _ => ?_, fun h => absurd rfl h⟩
                intro ρ w1 hF hW
                have e58 : ρ 58 = .bool false := hF 58 (by decide)
                have e63 : ρ 63 = .bool false := hF 63 (by decide)
                have HW := hidden hW
                clear hF hW
                unfold Rl.Does
                go_simp
                first
                  | exact ⟨rfl, HW.out, Below.refl _ _⟩
                  | (simp; exact ⟨rfl, HW.out, Below.refl _ _⟩)
              · refine .inl ⟨true, fun v w h => h, fun _ => ?_, fun h => absurd rfl h⟩
                intro ρ w1 hF hW
                have e64 : ρ 64 = .bool false := hF 64 (by decide)
                have HW := hidden hW
                clear hF hW
                unfold Rl.Does
                go_simp
                first
                  | exact ⟨rfl, HW.out, Below.refl _ _⟩
                  | (simp; exact ⟨rfl, HW.out, Below.refl _ _⟩)
              · refine .inl ⟨false, fun v w h => h, fun _ => ?_, fun h => absurd rfl h⟩
                intro ρ w1 hF hW
                have e2 : ρ 2 = .string s := hF 2 (by decide)
                have HW := hidden hW
                clear hF hW
                unfold Rl.Does
                go_simp
                first
                  | exact ⟨rfl, HW.out, Below.refl _ _⟩
                  | (simp; exact ⟨rfl, HW.out, Below.refl _ _⟩)
              · refine .inl ⟨false, fun v w h => h, fun _ => ?_, fun h => absurd rfl h⟩
                intro ρ w1 hF hW
                have e66 : ρ 66 = .string s := hF 66 (by decide)
                have HW := hidden hW
                clear hF hW
                unfold Rl.Does
                go_simp
                first
                  | exact ⟨rfl, HW.out, Below.refl _ _⟩
                  | (simp; exact ⟨rfl, HW.out, Below.refl _ _⟩)
              · refine .inl ⟨false, fun v w h => h, fun _ => ?_, fun h => absurd rfl h⟩
                intro ρ w1 hF hW
                have e7 : ρ 7 = .string X := hF 7 (by decide)
                have HW := hidden hW
                clear hF hW
                unfold Rl.Does
                go_simp
                first
                  | exact ⟨rfl, HW.out, Below.refl _ _⟩
                  | (simp; exact ⟨rfl, HW.out, Below.refl _ _⟩)
              · refine .inl ⟨false, fun v w h => h, fun _ => ?_, fun h => absurd rfl h⟩
                intro ρ w1 hF hW
                have e68 : ρ 68 = .string X := hF 68 (by decide)
                have HW := hidden hW
                clear hF hW
                unfold Rl.Does
                go_simp
                first
                  | exact ⟨rfl, HW.out, Below.refl _ _⟩
                  | (simp; exact ⟨rfl, HW.out, Below.refl _ _⟩)
              · refine .inl ⟨false, fun v w h => h, fun _ => ?_, fun h => absurd rfl h⟩
                intro ρ w1 hF hW
                have e67 : ρ 67 = .int .i64 (s.size : Int) := hF 67 (by decide)
                have e69 : ρ 69 = .int .i64 (X.size : Int) := hF 69 (by decide)
                have HW := hidden hW
                clear hF hW
                unfold Rl.Does
                go_simp
                first
                  | exact ⟨rfl, HW.out, Below.refl _ _⟩
                  | (simp; exact ⟨rfl, HW.out, Below.refl _ _⟩)
              · refine .inl ⟨false, fun v w h => h, fun _ => ?_, fun h => absurd rfl h⟩
                intro ρ w1 hF hW
                have e70 : ρ 70 = .bool false := hF 70 (by decide)
                have HW := hidden hW
                clear hF hW
                unfold Rl.Does
                go_simp
                first
                  | exact ⟨rfl, HW.out, Below.refl _ _⟩
                  | (simp; exact ⟨rfl, HW.out, Below.refl _ _⟩)
              · exact .inl ⟨false, fun v w h => h, (fun h => by cases h), fun _ _ => rfl⟩
              · exact .inl ⟨false, fun v w h => h, (fun h => by cases h), fun _ _ => rfl⟩
              · exact .inl ⟨false, fun v w h => h, (fun h => by cases h), fun _ _ => rfl⟩
              · refine .inl ⟨false, fun v w h => h, fun _ => ?_, fun h => absurd rfl h⟩
                intro ρ w1 hF hW
                have e71 : ρ 71 = .bool false := hF 71 (by decide)
                have HW := hidden hW
                clear hF hW
                unfold Rl.Does
                go_simp
                first
                  | exact ⟨rfl, HW.out, Below.refl _ _⟩
                  | (simp; exact ⟨rfl, HW.out, Below.refl _ _⟩)
              · refine .inl ⟨true, fun v w h => h, fun _ => ?_, fun h => absurd rfl h⟩
                intro ρ w1 hF hW
                have e65 : ρ 65 = .bool false := hF 65 (by decide)
                have e75 : ρ 75 = .bool false := hF 75 (by decide)
                have HW := hidden hW
                clear hF hW
                unfold Rl.Does
                go_simp
                first
                  | exact ⟨rfl, HW.out, Below.refl _ _⟩
                  | (simp; exact ⟨rfl, HW.out, Below.refl _ _⟩)
              · intro ρ w1 hF hW
                have e55 : ρ 55 = .bool true := hF 55 (by decide)
                have e76 : ρ 76 = .bool false := hF 76 (by decide)
                have HW := hidden hW
                clear hF hW
                unfold Rl.Does
                go_simp
                first
                  | exact ⟨rfl, HW.out, Below.refl _ _⟩
                  | (simp; exact ⟨rfl, HW.out, Below.refl _ _⟩)
            case fin =>
              intro a1 wc hst hv hW
              have hl : a1.tmps.getD 77 undef = .bool false := hv 33 77 (by kernel_rfl)
              have hd := hst.defers
              have hz := hst.lit [44, 45, 46, 47, 48, 49, 50, 51, 52, 53, 54, 55, 56, 57, 58, 59, 60, 61, 62, 63, 64, 65, 66, 67, 68, 69, 70, 71, 72, 73, 74, 75, 76, 77] (by kernel_rfl)
              have HBC := hidden hW
              clear hst hv hW
              obtain ⟨tm, df⟩ := a1
              simp only at hz hd hl
              simp only [List.foldl_cons, List.foldl_nil, List.setIfInBounds_toArray, List.set_cons_zero, List.set_cons_succ] at hz
              rw [hl] at hz
              generalize tm.getD 44 undef = v44 at hz
              generalize tm.getD 45 undef = v45 at hz
              generalize tm.getD 46 undef = v46 at hz
              generalize tm.getD 47 undef = v47 at hz
              generalize tm.getD 48 undef = v48 at hz
              generalize tm.getD 49 undef = v49 at hz
              generalize tm.getD 50 undef = v50 at hz
              generalize tm.getD 51 undef = v51 at hz
              generalize tm.getD 52 undef = v52 at hz
              generalize tm.getD 53 undef = v53 at hz
              generalize tm.getD 54 undef = v54 at hz
              generalize tm.getD 55 undef = v55 at hz
              generalize tm.getD 56 undef = v56 at hz
              generalize tm.getD 57 undef = v57 at hz
              generalize tm.getD 58 undef = v58 at hz
              generalize tm.getD 59 undef = v59 at hz
              generalize tm.getD 60 undef = v60 at hz
              generalize tm.getD 61 undef = v61 at hz
              generalize tm.getD 62 undef = v62 at hz
              generalize tm.getD 63 undef = v63 at hz
              generalize tm.getD 64 undef = v64 at hz
              generalize tm.getD 65 undef = v65 at hz
              generalize tm.getD 66 undef = v66 at hz
              generalize tm.getD 67 undef = v67 at hz
              generalize tm.getD 68 undef = v68 at hz
              generalize tm.getD 69 undef = v69 at hz
              generalize tm.getD 70 undef = v70 at hz
              generalize tm.getD 71 undef = v71 at hz
              generalize tm.getD 72 undef = v72 at hz
              generalize tm.getD 73 undef = v73 at hz
              generalize tm.getD 74 undef = v74 at hz
              generalize tm.getD 75 undef = v75 at hz
              generalize tm.getD 76 undef = v76 at hz
              clear hl
              subst hz hd
              go_wp2_with fail
              refine (knows15_calls _).mono ?_
              rintro e w9 ⟨rfl, hb9⟩
              go_wp2
              go_ret
              have hz := below_then (below_then HBB.out HBB.out.size HBC.out) (below_then HBB.out HBB.out.size HBC.out).size hb9
              first
                | exact ⟨rfl, hz⟩
                | exact ⟨rfl, HBE.out ▸ hz⟩
        · have k2 : (la == t) = false := by rw [Bool.eq_false_iff]; intro e; exact hlt (by simpa using e)
          clear hlt
          go_wp2_with fail
          refine Rl.wp_region_stepsN (R := fun w1 w2 => Below w1.heap.size w1 w2) (Rl.typ [Rl.Is (.int .i64 t), Rl.Is (.bool true), Rl.Is (.bool true), Rl.Is (dfaA D.cls D.width (.slice an n cn) vl), Rl.Is (dfaA D.cls D.width (.slice an n cn) vl), Rl.Is (.string s), Rl.Is (.int .i64 ru), Rl.Is (.int .i64 la), Rl.Is (.int .i64 t), Rl.Is (.bool false), Rl.Is (.bool false), Rl.Is (.bool false), Rl.Is (undef), Rl.Is (undef), Rl.Is (undef), Rl.Is (undef), Rl.Is (undef), Rl.Is (undef), Rl.Is (undef), Rl.Is (undef), Rl.Is (undef), Rl.Is (undef), Rl.Is (undef), Rl.Is (undef), Rl.Is (undef), Rl.Is (undef), Rl.Is (undef), Rl.Is (undef), Rl.Is (undef), Rl.Is (undef), Rl.Is (undef), Rl.Is (undef), Rl.Is (undef), Rl.Is (.bool false)]) (fun w1 => Below wc0.heap.size wc0 w1) (fun w1 => Below.refl _ _) (by kernel_rfl) (by kernel_rfl) (by kernel_rfl) (by kernel_rfl) ?mono (Below.refl _ _).drew ?step ?fin
          case mono =>
            refine Rl.typ_mono ?_
            simp only [List.forall_mem_cons]
            repeat' (first | exact (fun v w w' h _ => h) | (intro p hp; cases hp; done) | refine And.intro ?_ ?_)
          case step =>
            refine ⟨?_, ?_, ?_, ?_, ?_, ?_, ?_, ?_, ?_, ?_, ?_, ?_, ?_, ?_, ?_, ?_, ?_, ?_, ?_, ?_, ?_, ?_, ?_, ?_, ?_, ?_, ?_, ?_, ?_, ?_, ?_, ?_, ?_, ?_, trivial⟩
            · intro ρ w1 hF hW
              have e1 : ρ 1 = .int .i64 t := hF 1 (by decide)
              have HW := hidden hW
              clear hF hW
              unfold Rl.Does
              go_simp
              first
                | exact ⟨rfl, HW.out, Below.refl _ _⟩
                | (simp; exact ⟨rfl, HW.out, Below.refl _ _⟩)
            · intro ρ w1 hF hW
              have e44 : ρ 44 = .int .i64 t := hF 44 (by decide)
              have HW := hidden hW
              clear hF hW
              unfold Rl.Does
              go_simp
              first
                | exact ⟨rfl, HW.out, Below.refl _ _⟩
                | (simp; exact ⟨rfl, HW.out, Below.refl _ _⟩)
            · intro ρ w1 hF hW
              have e45 : ρ 45 = .bool true := hF 45 (by decide)
              have HW := hidden hW
              clear hF hW
              unfold Rl.Does
              go_simp
              first
                | exact ⟨rfl, HW.out, Below.refl _ _⟩
                | (simp; exact ⟨rfl, HW.out, Below.refl _ _⟩)
            · refine .inl ⟨true, fun v w h => h, fun _ => ?_, fun h => absurd rfl h⟩
              intro ρ w1 hF hW
              have e1 : ρ 3 = .pointer (some ⟨B, 0, none⟩) := hF 3 (by decide)
              have HW := hidden hW
              exact does_load_dfaT rfl e1 (HX.out _ HW.out) ⟨rfl, HW.out, Below.refl _ _⟩
            · refine .inl ⟨true, fun v w h => h, fun _ => ?_, fun h => absurd rfl h⟩
              intro ρ w1 hF hW
              have e1 : ρ 3 = .pointer (some ⟨B, 0, none⟩) := hF 3 (by decide)
              have HW := hidden hW
              exact does_load_dfaT rfl e1 (HX.out _ HW.out) ⟨rfl, HW.out, Below.refl _ _⟩
            · refine .inl ⟨true, fun v w h => h, fun _ => ?_, fun h => absurd rfl h⟩
              intro ρ w1 hF hW
              have e2 : ρ 2 = .string s := hF 2 (by decide)
              have HW := hidden hW
              clear hF hW
              unfold Rl.Does
              go_simp
              first
                | exact ⟨rfl, HW.out, Below.refl _ _⟩
                | (simp; exact ⟨rfl, HW.out, Below.refl _ _⟩)
            · refine .inl ⟨true, fun v w h => h, fun _ => ?_, fun h => absurd rfl h⟩
              intro ρ w1 hF hW
              have e48 : ρ 48 = dfaA D.cls D.width (.slice an n cn) vl := hF 48 (by decide)
              have e49 : ρ 49 = .string s := hF 49 (by decide)
              have HW := hidden hW
              clear hF hW
              unfold Rl.Does
              go_simp
              refine (HRW.out _ HW.out).mono ?_
              rintro e w3 ⟨rfl, hb⟩
              exact ⟨_, rfl, rfl, below_after HW.out hb, hb⟩
            · refine .inl ⟨true, fun v w h => h, fun _ => ?_, fun h => absurd rfl h⟩
              intro ρ w1 hF hW
              have e47 : ρ 47 = dfaA D.cls D.width (.slice an n cn) vl := hF 47 (by decide)
              have e50 : ρ 50 = .int .i64 ru := hF 50 (by decide)
              have HW := hidden hW
              clear hF hW
              unfold Rl.Does
              go_simp
              refine (HLW.out _ HW.out).mono ?_
              rintro e w3 ⟨rfl, hb⟩
              exact ⟨_, rfl, rfl, below_after HW.out hb, hb⟩
            · refine .inl ⟨true, fun v w h => h, fun _ => ?_, fun h => absurd rfl h⟩
              intro ρ w1 hF hW
              have e1 : ρ 1 = .int .i64 t := hF 1 (by decide)
              have HW := hidden hW
              clear hF hW
              unfold Rl.Does
              go_simp
              first
                | exact ⟨rfl, HW.out, Below.refl _ _⟩
                | (simp; exact ⟨rfl, HW.out, Below.refl _ _⟩)
            · refine .inl ⟨true, fun v w h => h, fun _ => ?_, fun h => absurd rfl h⟩
              intro ρ w1 hF hW
              have e51 : ρ 51 = .int .i64 la := hF 51 (by decide)
              have e52 : ρ 52 = .int .i64 t := hF 52 (by decide)
              have HW := hidden hW
              clear hF hW
              unfold Rl.Does
              go_simp
              first
                | exact ⟨rfl, HW.out, Below.refl _ _⟩
                | (simp; exact ⟨rfl, HW.out, Below.refl _ _⟩)
            · intro ρ w1 hF hW
              have e46 : ρ 46 = .bool true := hF 46 (by decide)
              have e53 : ρ 53 = .bool false := hF 53 (by decide)
              have HW := hidden hW
              clear hF hW
              unfold Rl.Does
              go_simp
              first
                | exact ⟨rfl, HW.out, Below.refl _ _⟩
                | (simp; exact ⟨rfl, HW.out, Below.refl _ _⟩)
            · intro ρ w1 hF hW
              have e54 : ρ 54 = .bool false := hF 54 (by decide)
              have HW := hidden hW
              clear hF hW
              unfold Rl.Does
              go_simp
              first
                | exact ⟨rfl, HW.out, Below.refl _ _⟩
                | (simp; exact ⟨rfl, HW.out, Below.refl _ _⟩)
            · exact .inl ⟨false, fun v w h => h, (fun h => by cases h), fun _ _ => rfl⟩
            · exact .inl ⟨false, fun v w h => h, (fun h => by cases h), fun _ _ => rfl⟩
            · exact .inl ⟨false, fun v w h => h, (fun h => by cases h), fun _ _ => rfl⟩
            · exact .inr ⟨fun v w h => h, fun _ => rfl⟩
            · exact .inr ⟨fun v w h => h, fun _ => rfl⟩
            · exact .inr ⟨fun v w h => h, fun _ => rfl⟩
            · exact .inr ⟨fun v w h => h, fun _ => rfl⟩
            · exact .inr ⟨fun v w h => h, fun _ => rfl⟩
            · exact .inl ⟨false, fun v w h => h, (fun h => by cases h), fun _ _ => rfl⟩
            · exact .inl ⟨false, fun v w h => h, (fun h => by cases h), fun _ _ => rfl⟩
            · exact .inr ⟨fun v w h => h, fun _ => rfl⟩
            · exact .inr ⟨fun v w h => h, fun _ => rfl⟩
            · exact .inr ⟨fun v w h => h, fun _ => rfl⟩
            · exact .inr ⟨fun v w h => h, fun _ => rfl⟩
            · exact .inr ⟨fun v w h => h, fun _ => rfl⟩
            · exact .inr ⟨fun v w h => h, fun _ => rfl⟩
            · exact .inr ⟨fun v w h => h, fun _ => rfl⟩
            · exact .inr ⟨fun v w h => h, fun _ => rfl⟩
            · exact .inr ⟨fun v w h => h, fun _ => rfl⟩
            · exact .inr ⟨fun v w h => h, fun _ => rfl⟩
            · exact .inl ⟨false, fun v w h => h, (fun h => by cases h), fun _ _ => rfl⟩
            · intro ρ w1 hF hW
              have e55 : ρ 55 = .bool false := hF 55 (by decide)
              have HW := hidden hW
              clear hF hW
              unfold Rl.Does
              go_simp
              first
                | exact ⟨rfl, HW.out, Below.refl _ _⟩
                | (simp; exact ⟨rfl, HW.out, Below.refl _ _⟩)
          case fin =>
            intro a1 wc hst hv hW
            have hl : a1.tmps.getD 77 undef = .bool false := hv 33 77 (by kernel_rfl)
            have hd := hst.defers
            have hz := hst.lit [44, 45, 46, 47, 48, 49, 50, 51, 52, 53, 54, 55, 56, 57, 58, 59, 60, 61, 62, 63, 64, 65, 66, 67, 68, 69, 70, 71, 72, 73, 74, 75, 76, 77] (by kernel_rfl)
            have HBC := hidden hW
            clear hst hv hW
            obtain ⟨tm, df⟩ := a1
            simp only at hz hd hl
            simp only [List.foldl_cons, List.foldl_nil, List.setIfInBounds_toArray, List.set_cons_zero, List.set_cons_succ] at hz
            rw [hl] at hz
            generalize tm.getD 44 undef = v44 at hz
            generalize tm.getD 45 undef = v45 at hz
            generalize tm.getD 46 undef = v46 at hz
            generalize tm.getD 47 undef = v47 at hz
            generalize tm.getD 48 undef = v48 at hz
            generalize tm.getD 49 undef = v49 at hz
            generalize tm.getD 50 undef = v50 at hz
            generalize tm.getD 51 undef = v51 at hz
            generalize tm.getD 52 undef = v52 at hz
            generalize tm.getD 53 undef = v53 at hz
            generalize tm.getD 54 undef = v54 at hz
            generalize tm.getD 55 undef = v55 at hz
            generalize tm.getD 56 undef = v56 at hz
            generalize tm.getD 57 undef = v57 at hz
            generalize tm.getD 58 undef = v58 at hz
            generalize tm.getD 59 undef = v59 at hz
            generalize tm.getD 60 undef = v60 at hz
            generalize tm.getD 61 undef = v61 at hz
            generalize tm.getD 62 undef = v62 at hz
            generalize tm.getD 63 undef = v63 at hz
            generalize tm.getD 64 undef = v64 at hz
            generalize tm.getD 65 undef = v65 at hz
            generalize tm.getD 66 undef = v66 at hz
            generalize tm.getD 67 undef = v67 at hz
            generalize tm.getD 68 undef = v68 at hz
            generalize tm.getD 69 undef = v69 at hz
            generalize tm.getD 70 undef = v70 at hz
            generalize tm.getD 71 undef = v71 at hz
            generalize tm.getD 72 undef = v72 at hz
            generalize tm.getD 73 undef = v73 at hz
            generalize tm.getD 74 undef = v74 at hz
            generalize tm.getD 75 undef = v75 at hz
            generalize tm.getD 76 undef = v76 at hz
            clear hl
            subst hz hd
            go_wp2_with fail
            refine (knows15_calls _).mono ?_
            rintro e w9 ⟨rfl, hb9⟩
            go_wp2
            go_ret
            have hz := below_then (below_then HBB.out HBB.out.size HBC.out) (below_then HBB.out HBB.out.size HBC.out).size hb9
            first
              | exact ⟨rfl, hz⟩
              | exact ⟨rfl, HBE.out ▸ hz⟩
namespace lawLiveShown
open Go.ChangeShapes Go.WideShapes Go.ChangeAt Go.RowKit Go.Deep
open Go.ChangeMaps (open_string shut_string)

set_option maxRecDepth 100000 in
theorem lifted (os : Os) (started : os.Started) (H : Type) (enc : TypeId × Value → H) :
    ReturnsInHanded {} Tryz.checked os 6 .any (Rows.liveShownSpec.pre6 enc Tryz.prog Tryz.f6 Rows.liveShownRow.domain false) (Rows.liveShownSpec.post enc Tryz.prog Tryz.f6 false true false false) := by
  refine returnsInHanded_of_change (C := Tryz.checked) own started (by kernel_rfl) Tryz.func6
    (ChangeSpec.witness6 (enc := enc) (C := Tryz.checked) false ⟨#[], #[dfaA (fun _ => 0) 0 (.slice none 0 0) (.slice none 0 0), .int .i64 0, .string ⟨#[]⟩], []⟩ 8 (by kernel_rfl) (by kernel_rfl) (by kernel_rfl) (by kernel_rfl)) ?_
  intro W base args ds gs before hval0 hW hcnd _
  have hval : ∀ (j : Nat) t v, Tryz.f6.params[j]? = some t → args[j]? = some v → Value.okWide Tryz.prog W .any base t v := hval0
  have hW' : DataW.Whole enc Tryz.prog Tryz.f6.params.toList Rows.liveShownSpec.vars false W args.toList ds gs before := hW
  obtain ⟨p, q, hA0, hV, rfl, hfz, hnd⟩ := hW
  have hA : DataW.TrodAll enc Tryz.prog W 0 (fun _ => true) true Tryz.f6.params.toList args.toList ds p := hA0
  have hlt : ∀ x ∈ p, x.block < W.heap.size := fun x hx => hW'.lt x (List.mem_append_left _ hx)
  rw [Tryz.params6] at hA hval
  obtain ⟨v0, vs0, d0, ds0, p0, q0, hargs, hd0, hp0, h0, r0⟩ := trodAll_cons hA
  obtain ⟨v1, vs1, d1, ds1, p1, q1, rfl, hd1, hp1, h1, r1⟩ := trodAll_cons r0
  obtain ⟨v2, vs2, d2, ds2, p2, q2, rfl, hd2, hp2, h2, r2⟩ := trodAll_cons r1
  obtain ⟨rfl, _, _⟩ := trodAll_nil r2
  obtain rfl : args = #[v0, v1, v2] := by cases args; simp_all
  obtain ⟨s0a, s0b, z0, rfl, w0⟩ := open_dfa (hval 0 26 v0 rfl rfl) h0
  obtain ⟨a1, rfl, _, _, w1⟩ := open_int Tryz.underlying3 (hval 1 3 v1 rfl rfl) h1
  obtain ⟨a2, rfl, _, _, w2⟩ := open_string Tryz.underlying9 (hval 2 9 v2 rfl rfl) h2
  refine (walkLiveShown s0a s0b z0 a1 a2 W w0 (wf_i64 w1) w2).mono fun e W' ⟨he, hb⟩ => ⟨_, he, ends_true hW' rfl (by kernel_rfl) ?_ (by kernel_rfl) hb⟩
  intro xs hxs
  match xs, hxs with
  | [_, _, _], _ => rfl

theorem proved : Rows.LiveShownSaid :=
  OpenClaim.holds_of_wide 6 Tryz.f6 rfl rfl rfl rfl rfl rfl rfl ⟨rfl, rfl, rfl, rfl, rfl⟩ rfl rfl rfl rfl rfl (by kernel_rfl) Tryz.func6 (by kernel_rfl)
    (of_decide_eq_true (by kernel_rfl)) (by unfold Func.isWrapper; first | (rw [if_pos (by decide +kernel)]; kernel_rfl) | (rw [if_neg (by decide +kernel)]; exact ⟨rfl, rfl⟩))
    (fun os started H enc _ => lifted os started H enc)

end lawLiveShown
end Go.Proofs.YtnjjbaodfjmiaaaGreat
