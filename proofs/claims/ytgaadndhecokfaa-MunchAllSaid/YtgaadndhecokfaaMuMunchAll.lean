/- 'MunchAll' answers true for every machine and text: the pieces of a text, joined, are the text; none is empty; each is of its token, and no longer beginning of what is left is of any; one of no token is a byte. -/
import Derived.Test.YtgaadndhecokfaaMu38
namespace Go.Proofs.Ytgaadndhecokfaa
open Go.RowKit Go.Lib Go.Joins

theorem wrap_next16 {i : Nat} (h : i ≤ 1000) : wrap64 ((i : Int) + 1) = (i : Int) + 1 := by unfold wrap64; omega
theorem max16 : 1000 ≤ maxLen := by decide
/-- where the i-th piece stands -/
def stand16 (D : DfaM) (s : ByteArray) (i : Nat) : Nat := (joinP ((cutP D s.data.toList).take i)).length
theorem lab_bys {D : DfaM} (s : ByteArray) (a e : Nat) : labelD D (runD D (bys (s.extract a e))) = labW D ((s.data.toList.drop a).take (e - a)) := by
  unfold bys
  rw [part_list]
  rfl
theorem all_says {D : DfaM} (hR : rightD D = true) (s : ByteArray) (i : Nat) (hi : i < (cutS D s).length) : ∃ (t : Int) (x : ByteArray) (n : Nat), (cutS D s).getD i (0, ⟨#[]⟩) = (t, x) ∧ x.size = n ∧ 1 ≤ n ∧ stand16 D s i + n ≤ s.size ∧ stand16 D s (i + 1) = stand16 D s i + n ∧
    ((t = -1 ∧ n = 1 ∧ ∀ E, stand16 D s i < E → E ≤ s.size → labelD D (runD D (bys (s.extract (stand16 D s i) E))) < 0) ∨ (0 ≤ t ∧ labelD D (runD D (bys x)) = t ∧ ∀ E, stand16 D s i + n < E → E ≤ s.size → labelD D (runD D (bys (s.extract (stand16 D s i) E))) < 0)) := by
  have hc : cutS D s = (cutP D s.data.toList).map pk := by unfold cutS; rw [if_pos hR]
  rw [hc, List.length_map] at hi
  obtain ⟨p, hp⟩ : ∃ p, (cutP D s.data.toList)[i]? = some p := ⟨_, List.getElem?_eq_getElem hi⟩
  obtain ⟨v, hv, hne, hpv⟩ := cut_at i s.data.toList p hp
  have hst : (joinP ((cutP D s.data.toList).take i)).length = stand16 D s i := rfl
  rw [hst] at hv
  have hl := nx_len (D := D) hne
  have hvl : v.length = s.size - stand16 D s i := by rw [hv, List.length_drop, list_len]
  have hnext : stand16 D s (i + 1) = stand16 D s i + (nxP D v).2 := by
    unfold stand16
    rw [join_more _ _ _ hp, List.length_append, hpv]
    show _ + (v.take _).length = _
    rw [List.length_take, Nat.min_eq_left hl.2]
  refine ⟨(nxP D v).1, txt (v.take (nxP D v).2), (nxP D v).2, ?_, ?_, hl.1, by omega, hnext, ?_⟩
  · rw [hc, List.getD_eq_getElem?_getD, List.getElem?_map, hp, hpv]
    rfl
  · rw [txt_size, List.length_take, Nat.min_eq_left hl.2]
  · have hlab : ∀ E, stand16 D s i < E → E ≤ s.size → labelD D (runD D (bys (s.extract (stand16 D s i) E))) = labW D (v.take (E - stand16 D s i)) := fun E _ _ => by rw [lab_bys, hv]
    rcases nx_says (D := D) hne with ⟨h1, h2, h3⟩ | ⟨h1, h2, h3⟩
    · exact .inl ⟨h1, h2, fun E g1 g2 => by rw [hlab E g1 g2]; exact h3 _ (by omega) (by omega)⟩
    · exact .inr ⟨h1, by rw [← h2]; unfold bys; rw [txt_data]; rfl, fun E g1 g2 => by rw [hlab E (by omega) g2]; exact h3 _ (by omega) (by omega)⟩
theorem stand_all {D : DfaM} (hR : rightD D = true) (s : ByteArray) : stand16 D s (cutS D s).length = s.size := by
  unfold stand16
  have hc : (cutS D s).length = (cutP D s.data.toList).length := by unfold cutS; rw [if_pos hR, List.length_map]
  rw [hc, List.take_of_length_le (Nat.le_refl _), cut_join _ _ rfl, list_len]
theorem cutS_len (D : DfaM) (s : ByteArray) : (cutS D s).length ≤ s.size := by
  unfold cutS
  split
  · rw [List.length_map]; exact cut_len s.size _ (list_len s)
  · simp
set_option maxHeartbeats 16000000 in
set_option maxRecDepth 100000 in
theorem walkMunchAll (vn vl : Value) (D : DfaM) (s : ByteArray) (w : World) (h : RdDfa w.heap.size w vn vl D) (hs : s.size ≤ maxLen) :
    Calls Try.prog 5 #[dfaA D.cls D.width vn vl, .string s] w fun e w' => e = .returned (.bool true) ∧ Below w.heap.size w w' := by
  unfold maxLen at hs
  have hnl : D.next.length ≤ 9223372036854775807 := by
    obtain ⟨_, _, e, h1, h2, _⟩ := h.next
    unfold maxLen at h2
    omega
  obtain ⟨an, cn, rfl⟩ := h.next.form
  have HRD := hidden h
  have HX0 := hidden (DfaAt.new w D.cls D.width (.slice an D.next.length cn) vl)
  have hB0 := (Below.refl w.heap.size w).alloc (Nat.le_refl _) (.cells (dfaC D.cls D.width (.slice an D.next.length cn) vl) 26)
  have HSM := hidden (smallM_calls (h.below hB0 hB0.size))
  have HB0 := hidden hB0
  have hbx := run_box_dfa D.cls D.width (.slice an D.next.length cn) vl
  obtain ⟨nx, hnx⟩ : ∃ n, n = D.next.length := ⟨_, rfl⟩
  rw [← hnx] at HRD HX0 HB0 HSM hbx hnl ⊢
  clear h hnx hB0
  go_enter Try.func5, Try.ntmps5
  go_wp2_with (refine load_dfa rfl (x := .tmp 2) rfl rfl HX0.out ?_)
  refine HSM.out.mono ?_
  rintro e wa ⟨rfl, hb1⟩
  have HXA := hidden (HX0.out.below hb1)
  have HBA := hidden (below_then HB0.out HB0.out.size hb1)
  clear hb1 HX0 HB0 HSM hbx
  cases hsm : smallM D with
  | false =>
    clear hsm
    go_wp2_with fail
    refine (knows16_calls _).mono ?_
    rintro e w2 ⟨rfl, hb2⟩
    go_wp2
    go_ret
    exact ⟨rfl, below_then HBA.out HBA.out.size hb2⟩
  | true =>
    clear hsm
    have e0 := HXA.out.next
    by_cases p1 : 60 < nx
    · have q2 : decide ((60 : Int) < (nx : Int)) = true := decide_eq_true (by omega)
      have q3 : decide (60 < nx) = true := decide_eq_true p1
      clear p1
      go_wp2_with fail
      refine (knows16_calls _).mono ?_
      rintro e w2 ⟨rfl, hb2⟩
      go_wp2
      go_ret
      exact ⟨rfl, below_then HBA.out HBA.out.size hb2⟩
    have q2 : decide ((60 : Int) < (nx : Int)) = false := decide_eq_false (by omega)
    have q3 : decide (60 < nx) = false := decide_eq_false p1
    by_cases p2 : 60 < s.size
    · have q4 : decide ((60 : Int) < (s.size : Int)) = true := decide_eq_true (by omega)
      have q5 : decide (60 < s.size) = true := decide_eq_true p2
      clear p1 p2
      go_wp2_with fail
      refine (knows16_calls _).mono ?_
      rintro e w2 ⟨rfl, hb2⟩
      go_wp2
      go_ret
      exact ⟨rfl, below_then HBA.out HBA.out.size hb2⟩
    have q4 : decide ((60 : Int) < (s.size : Int)) = false := decide_eq_false (by omega)
    have q5 : decide (60 < s.size) = false := decide_eq_false p2
    have hs60 : s.size ≤ 60 := by omega
    have hba : Below w.heap.size w wa := HBA.out
    have hrd : ∀ W, Below wa.heap.size wa W → RdDfa W.heap.size W (.slice an nx cn) vl D := fun W hb => HRD.out.below (below_then hba hba.size hb) (Nat.le_trans hba.size hb.size)
    have HRR := hidden (rright14_calls (hrd wa (Below.refl _ _)))
    have HRDW := hidden hrd
    have HPC := hidden (fun W (hb : Below wa.heap.size wa W) => cut16_calls s (hrd W hb) (by omega))
    have HSZ := hidden (show (joinS (cutS D s)).size ≤ 100000 by have := join_size D s; omega)
    clear p1 p2 hba hrd
    go_wp2_with fail
    refine wpl_any16 (x := .tmp 2) rfl rfl (run_load_dfa HXA.out) ?_
    simp only [Act.put, List.setIfInBounds_toArray, List.set_cons_zero, List.set_cons_succ]
    go_wp2_with fail
    refine HRR.out.mono ?_
    rintro e w1 ⟨rfl, hb1⟩
    have HXB := hidden (HXA.out.below hb1)
    have HB1 := hidden hb1
    clear hb1 q2 q3 q4 q5 e0
    cases hr : rightD D with
    | false =>
      clear hr
      go_wp2_with fail
      refine (knows16_calls _).mono ?_
      rintro e w2 ⟨rfl, hb2⟩
      go_wp2
      go_ret
      have hz := below_then HBA.out HBA.out.size HB1.out
      exact ⟨rfl, below_then hz hz.size hb2⟩
    | true =>
      have HJ := hidden (joinS_cut hr s)
      have HSAY := hidden (fun i hi => all_says hr s i hi)
      have HALL := hidden (stand_all hr s)
      have HLE := hidden (cutS_len D s)
      have HA0 := hidden (show stand16 D s 0 = 0 from rfl)
      obtain ⟨L, hL⟩ : ∃ L, L = cutS D s := ⟨_, rfl⟩
      obtain ⟨AF, hAF⟩ : ∃ AF, AF = stand16 D s := ⟨_, rfl⟩
      rw [← hL] at HPC HSZ HJ HSAY HALL HLE
      rw [← hAF] at HSAY HALL HA0
      clear hr hL hAF
      go_wp2_with (refine load_dfa rfl (x := .tmp 2) rfl rfl HXB.out ?_)
      refine (HPC.out _ HB1.out).mono ?_
      rintro e w2 ⟨v7, rfl, hr7, hb7⟩
      obtain ⟨a7, c7, rfl⟩ := hr7.form
      have HL2 := hidden hr7.reads
      have HB2 := hidden (below_then HB1.out HB1.out.size hb7)
      have HXB2 := hidden (HXB.out.below hb7)
      have HJO := hidden (join16_calls hr7.reads HSZ.out)
      rw [HJ.out] at HJO
      obtain ⟨m, hm⟩ : ∃ m, m = L.length := ⟨_, rfl⟩
      rw [← hm] at HL2 HJO HSAY HALL HLE ⊢
      have HM := hidden hm
      have hss : (s.toList == s.toList) = true := by simp
      clear hr7 hb7 hm HXB
      go_wp2_with fail
      refine HJO.out.mono ?_
      rintro e wb ⟨rfl, hbj⟩
      have HBB := hidden (below_then HB2.out HB2.out.size hbj)
      have HXC2 := hidden (HXB2.out.below hbj)
      have HLB := hidden (HL2.out.below hbj hbj.size)
      have HAT := hidden (fun W (hb : Below wb.heap.size wb W) i (hi : i < m) => HLB.out.at hb i (by rw [← HM.out]; exact hi))
      have HRUNB := hidden (fun W (hb : Below wb.heap.size wb W) (u : ByteArray) (hu : u.size ≤ maxLen) => (show Calls Try.prog 20 #[dfaA D.cls D.width (.slice an nx cn) vl, .string u] W fun e w' => e = .returned (.int .i64 (runD D (bys u))) ∧ Below W.heap.size W w' from rrun14_calls u (HRDW.out W (below_then HBB.out HBB.out.size hb)) hu))
      have HLABB := hidden (fun W (hb : Below wb.heap.size wb W) (q : Int) => rlabel_calls q (HRDW.out W (below_then HBB.out HBB.out.size hb)))
      obtain ⟨B, hB⟩ : ∃ B, B = w.heap.size := ⟨_, rfl⟩
      rw [← hB] at HXC2 ⊢
      have HBE := hidden hB
      have HM60 := hidden (show m ≤ 60 by have := HLE.out; omega)
      clear hbj hB HPC HJO HSZ
      go_wp2
      go_loopw [6, 7, 8, 9] (fun at' iq _ _ wr => ∃ i : Nat, i ≤ m ∧ at' = .int .i64 ((AF i : Nat) : Int) ∧ iq = .int .i64 (i : Int) ∧ Below wb.heap.size wb wr) (fun _ iq _ _ _ => m - (Go.RowKit.intOf iq).toNat)
      case atStart => exact ⟨0, by omega, by rw [HA0.out]; rfl, rfl, Below.refl _ _⟩
      case round =>
        obtain ⟨i, hi, rfl, rfl, hb⟩ := hrel
        have HB := hidden hb
        clear hb
        by_cases hlt : i < m
        · obtain ⟨xb, xo, rfl, hx, x1, x2⟩ := HAT.out wr HB.out i hlt
          obtain ⟨t, x, n, hq, hxn, hn1, hAn, hA1, hways⟩ := HSAY.out i hlt
          rw [hq] at x1 x2
          have HAN := hidden hA1
          obtain ⟨A, hA⟩ : ∃ A, A = AF i := ⟨_, rfl⟩
          obtain ⟨G, hG⟩ : ∃ G, G = A + n := ⟨_, rfl⟩
          rw [← hA] at HAN hAn hways ⊢
          rw [← hG] at HAN hAn hways
          have hxb : xb < wr.heap.size := Nat.lt_of_lt_of_le hx HB.out.size
          have HC0 := hidden (fun W (hb : Below wr.heap.size wr W) => (hb.cell (p := ⟨xb, xo + i * 2, none⟩) hxb).trans x1)
          have HC1 := hidden (fun W (hb : Below wr.heap.size wr W) => (hb.cell (p := ⟨xb, xo + i * 2 + 1, none⟩) hxb).trans x2)
          have HX := hidden (fun W (hb : Below wr.heap.size wr W) => HXC2.out.below (below_then HB.out HB.out.size hb))
          have HRUN0 := hidden (fun W (hb : Below wr.heap.size wr W) => HRUNB.out W (below_then HB.out HB.out.size hb))
          have HLAB0 := hidden (fun W (hb : Below wr.heap.size wr W) => HLABB.out W (below_then HB.out HB.out.size hb))
          have HW3 := hidden (wrap_next16 (i := i) (by have := HM60.out; omega))
          have hki : (i : Int) < (m : Int) := by omega
          have hnx : (x.size : Int) = (n : Int) := by omega
          have hw1 : IntKind.i64.wrap ((A : Int) + (n : Int)) = (G : Int) := by rw [IntKind.wrap_i64]; omega
          have hw2 : IntKind.i64.wrap ((A : Int) + 1) = ((A + 1 : Nat) : Int) := by rw [IntKind.wrap_i64]; omega
          have hn0 : ((n : Int) == 0) = false := by simp; omega
          have hGs : G ≤ s.size := hAn
          have hAG : A < G := by omega
          have hxsz : x.size ≤ 60 := by omega
          clear hq hA1 hA hG hAn x1
          rcases hways with ⟨htm, hnm, hfar⟩ | ⟨ht0, hlb, hfar⟩
          · have HFAR := hidden hfar
            have k1 : decide (t < 0) = true := decide_eq_true (by omega)
            have k2 : (t == -1) = true := by simpa using htm
            have k2' : (t != -1) = false := by simpa using htm
            have k3 : ((n : Int) == 1) = true := by simp; omega
            have k3' : ((n : Int) != 1) = false := by simp; omega
            have k4 : decide (0 ≤ t) = false := decide_eq_false (by omega)
            clear hfar htm hnm hn1
            go_wp2_with fail
            refine reg11_none rfl rfl rfl rfl HC0 hki hn0 k1 k2' k3' k4 ?_
            intro a1 wc hst hl hW
            have hd := hst.defers
            have hz := hst.lit [49, 50, 51, 52, 53, 54, 55, 56, 57, 58, 59, 60, 61, 62, 63, 64, 65, 66, 67, 68, 69, 70, 71, 72, 73, 74, 75, 76, 77, 78, 79, 80, 81, 82, 83, 84, 85, 86, 87, 88, 89, 90, 91, 92, 93, 94, 95] (by kernel_rfl)
            have HBWC := hidden hW
            clear hst hW
            obtain ⟨tm, df⟩ := a1
            simp only at hz hd hl
            simp only [List.foldl_cons, List.foldl_nil, List.setIfInBounds_toArray, List.set_cons_zero, List.set_cons_succ] at hz
            rw [hl] at hz
            generalize tm.getD 49 undef = v49 at hz
            generalize tm.getD 50 undef = v50 at hz
            generalize tm.getD 51 undef = v51 at hz
            generalize tm.getD 52 undef = v52 at hz
            generalize tm.getD 53 undef = v53 at hz
            generalize tm.getD 54 undef = v54 at hz
            generalize tm.getD 55 undef = v55 at hz
            generalize tm.getD 56 undef = v56 at hz
            generalize tm.getD 57 undef = v57 at hz
            generalize tm.getD 58 undef = v58 at hz
            generalize tm.getD 59 undef = v59 at hz
            generalize tm.getD 60 undef = v60 at hz
            generalize tm.getD 61 undef = v61 at hz
            generalize tm.getD 62 undef = v62 at hz
            generalize tm.getD 63 undef = v63 at hz
            generalize tm.getD 64 undef = v64 at hz
            generalize tm.getD 65 undef = v65 at hz
            generalize tm.getD 66 undef = v66 at hz
            generalize tm.getD 67 undef = v67 at hz
            generalize tm.getD 68 undef = v68 at hz
            generalize tm.getD 69 undef = v69 at hz
            generalize tm.getD 70 undef = v70 at hz
            generalize tm.getD 71 undef = v71 at hz
            generalize tm.getD 72 undef = v72 at hz
            generalize tm.getD 73 undef = v73 at hz
            generalize tm.getD 74 undef = v74 at hz
            generalize tm.getD 75 undef = v75 at hz
            generalize tm.getD 76 undef = v76 at hz
            generalize tm.getD 77 undef = v77 at hz
            generalize tm.getD 78 undef = v78 at hz
            generalize tm.getD 79 undef = v79 at hz
            generalize tm.getD 80 undef = v80 at hz
            generalize tm.getD 81 undef = v81 at hz
            generalize tm.getD 82 undef = v82 at hz
            generalize tm.getD 83 undef = v83 at hz
            generalize tm.getD 84 undef = v84 at hz
            generalize tm.getD 85 undef = v85 at hz
            generalize tm.getD 86 undef = v86 at hz
            generalize tm.getD 87 undef = v87 at hz
            generalize tm.getD 88 undef = v88 at hz
            generalize tm.getD 89 undef = v89 at hz
            generalize tm.getD 90 undef = v90 at hz
            generalize tm.getD 91 undef = v91 at hz
            generalize tm.getD 92 undef = v92 at hz
            generalize tm.getD 93 undef = v93 at hz
            generalize tm.getD 94 undef = v94 at hz
            clear hl
            subst hz hd
            have HXC := hidden (fun W (hb : Below wc.heap.size wc W) => HX.out W (below_then HBWC.out HBWC.out.size hb))
            have HD0 := hidden (fun W (hb : Below wc.heap.size wc W) => HC0.out W (below_then HBWC.out HBWC.out.size hb))
            have HRUN := hidden (fun W (hb : Below wc.heap.size wc W) => HRUN0.out W (below_then HBWC.out HBWC.out.size hb))
            have HLAB := hidden (fun W (hb : Below wc.heap.size wc W) => HLAB0.out W (below_then HBWC.out HBWC.out.size hb))
            clear HX HC0 HC1
            go_wp2
            go_loopw [9] (fun e wi => ∃ E : Nat, A < E ∧ E ≤ s.size + 1 ∧ e = .int .i64 (E : Int) ∧ Below wc.heap.size wc wi) (fun e _ => s.size + 1 - (Go.RowKit.intOf e).toNat)
            case atStart => exact ⟨A + 1, by omega, by omega, by go_num, Below.refl _ _⟩
            case round =>
              obtain ⟨E, hE0, hE1, rfl, hbi⟩ := hrel
              obtain ⟨wi, rfl⟩ : ∃ wi, wi = wr := ⟨wr, rfl⟩
              have HBI := hidden hbi
              clear hbi
              by_cases hle : E ≤ s.size
              · have d1 : decide ((E : Int) ≤ (s.size : Int)) = true := decide_eq_true (by omega)
                have d1' : decide (E ≤ s.size) = true := decide_eq_true hle
                have HX := hidden (fun W (hb : Below wi.heap.size wi W) => HXC.out W (below_then HBI.out HBI.out.size hb))
                have HC0 := hidden (fun W (hb : Below wi.heap.size wi W) => HD0.out W (below_then HBI.out HBI.out.size hb))
                by_cases hfar : G < E
                · have d2 : decide ((G : Int) < (E : Int)) = true := decide_eq_true (by omega)
                  have d2' : decide (G < E) = true := decide_eq_true hfar
                  have hsl : ∀ W : World, (Instr.slice 9 (.string s) (some (.int .i64 (A : Int))) (some (.int .i64 (E : Int))) none).run Try.prog W = .ok (.string (s.extract A E)) W := fun W => by
                    rw [run_slice_string W 9 s .i64 .i64 (A : Int) (E : Int) Try.underlying9 (by omega) (by omega) (by omega), Int.toNat_natCast, Int.toNat_natCast]
                  obtain ⟨z, hz⟩ : ∃ z, z = s.extract A E := ⟨_, rfl⟩
                  obtain ⟨sz, hsz⟩ : ∃ r, r = runD D (bys z) := ⟨_, rfl⟩
                  obtain ⟨lz, hlz⟩ : ∃ r, r = labelD D sz := ⟨_, rfl⟩
                  have hneg := HFAR.out E hE0 hle
                  rw [← hz, ← hsz, ← hlz] at hneg
                  have HRZ := hidden (fun W (hb : Below wi.heap.size wi W) => (show Calls Try.prog 20 #[dfaA D.cls D.width (.slice an nx cn) vl, .string z] W fun e w' => e = .returned (.int .i64 sz) ∧ Below W.heap.size W w' by have h := HRUN.out W (below_then HBI.out HBI.out.size hb) z (by rw [hz, ByteArray.size_extract]; have := max16; omega); rw [← hsz] at h; exact h))
                  have HLZ := hidden (fun W (hb : Below wi.heap.size wi W) => (show Calls Try.prog 19 #[dfaA D.cls D.width (.slice an nx cn) vl, .int .i64 sz] W fun e w' => e = .returned (.int .i64 lz) ∧ Below W.heap.size W w' by have h := HLAB.out W (below_then HBI.out HBI.out.size hb) sz; rw [← hlz] at h; exact h))
                  rw [← hz] at hsl
                  have k9 : decide (0 ≤ lz) = false := decide_eq_false (by omega)
                  clear hz hsz hlz hneg
                  go_wp2_with fail
                  refine reg16_far (D := D) rfl rfl rfl rfl rfl rfl hw1 d2' hsl HX HRZ HLZ k9 ?_
                  intro a1 wj hst hl hW
                  have hd := hst.defers
                  have hz := hst.lit [104, 105, 106, 107, 108, 109, 110, 111, 112, 113, 114, 115, 116, 117, 118, 119, 120, 121, 122, 123, 124, 125, 126, 127] (by kernel_rfl)
                  have HBWJ := hidden hW
                  clear hst hW
                  obtain ⟨tm, df⟩ := a1
                  simp only at hz hd hl
                  simp only [List.foldl_cons, List.foldl_nil, List.setIfInBounds_toArray, List.set_cons_zero, List.set_cons_succ] at hz
                  rw [hl] at hz
                  generalize tm.getD 104 undef = v104 at hz
                  generalize tm.getD 105 undef = v105 at hz
                  generalize tm.getD 106 undef = v106 at hz
                  generalize tm.getD 107 undef = v107 at hz
                  generalize tm.getD 108 undef = v108 at hz
                  generalize tm.getD 109 undef = v109 at hz
                  generalize tm.getD 110 undef = v110 at hz
                  generalize tm.getD 111 undef = v111 at hz
                  generalize tm.getD 112 undef = v112 at hz
                  generalize tm.getD 113 undef = v113 at hz
                  generalize tm.getD 114 undef = v114 at hz
                  generalize tm.getD 115 undef = v115 at hz
                  generalize tm.getD 116 undef = v116 at hz
                  generalize tm.getD 117 undef = v117 at hz
                  generalize tm.getD 118 undef = v118 at hz
                  generalize tm.getD 119 undef = v119 at hz
                  generalize tm.getD 120 undef = v120 at hz
                  generalize tm.getD 121 undef = v121 at hz
                  generalize tm.getD 122 undef = v122 at hz
                  generalize tm.getD 123 undef = v123 at hz
                  generalize tm.getD 124 undef = v124 at hz
                  generalize tm.getD 125 undef = v125 at hz
                  generalize tm.getD 126 undef = v126 at hz
                  clear hl
                  subst hz hd
                  have HBJ := hidden (below_then HBI.out HBI.out.size HBWJ.out)
                  go_wp2
                  go_roundw
                  case rel => exact ⟨E + 1, by omega, by omega, by go_num, HBJ.out⟩
                  case measure => simp [Go.RowKit.intOf]; omega
                · have d2 : decide ((G : Int) < (E : Int)) = false := decide_eq_false (by omega)
                  have d2' : decide (G < E) = false := decide_eq_false hfar
                  have hsl : ∀ W : World, (Instr.slice 9 (.string s) (some (.int .i64 (A : Int))) (some (.int .i64 (E : Int))) none).run Try.prog W = .ok (.string (s.extract A E)) W := fun W => by
                    rw [run_slice_string W 9 s .i64 .i64 (A : Int) (E : Int) Try.underlying9 (by omega) (by omega) (by omega), Int.toNat_natCast, Int.toNat_natCast]
                  obtain ⟨z, hz⟩ : ∃ z, z = s.extract A E := ⟨_, rfl⟩
                  obtain ⟨sz, hsz⟩ : ∃ r, r = runD D (bys z) := ⟨_, rfl⟩
                  obtain ⟨lz, hlz⟩ : ∃ r, r = labelD D sz := ⟨_, rfl⟩
                  have hneg := HFAR.out E hE0 hle
                  rw [← hz, ← hsz, ← hlz] at hneg
                  have HRZ := hidden (fun W (hb : Below wi.heap.size wi W) => (show Calls Try.prog 20 #[dfaA D.cls D.width (.slice an nx cn) vl, .string z] W fun e w' => e = .returned (.int .i64 sz) ∧ Below W.heap.size W w' by have h := HRUN.out W (below_then HBI.out HBI.out.size hb) z (by rw [hz, ByteArray.size_extract]; have := max16; omega); rw [← hsz] at h; exact h))
                  have HLZ := hidden (fun W (hb : Below wi.heap.size wi W) => (show Calls Try.prog 19 #[dfaA D.cls D.width (.slice an nx cn) vl, .int .i64 sz] W fun e w' => e = .returned (.int .i64 lz) ∧ Below W.heap.size W w' by have h := HLAB.out W (below_then HBI.out HBI.out.size hb) sz; rw [← hlz] at h; exact h))
                  rw [← hz] at hsl
                  have k9 : decide (0 ≤ lz) = false := decide_eq_false (by omega)
                  clear hz hsz hlz hneg
                  go_wp2_with fail
                  refine reg16_none (D := D) rfl rfl rfl rfl rfl rfl rfl rfl hw1 d2' HC0 hki k1 hsl HX HRZ HLZ k9 ?_
                  intro a1 wj hst hl hW
                  have hd := hst.defers
                  have hz := hst.lit [104, 105, 106, 107, 108, 109, 110, 111, 112, 113, 114, 115, 116, 117, 118, 119, 120, 121, 122, 123, 124, 125, 126, 127] (by kernel_rfl)
                  have HBWJ := hidden hW
                  clear hst hW
                  obtain ⟨tm, df⟩ := a1
                  simp only at hz hd hl
                  simp only [List.foldl_cons, List.foldl_nil, List.setIfInBounds_toArray, List.set_cons_zero, List.set_cons_succ] at hz
                  rw [hl] at hz
                  generalize tm.getD 104 undef = v104 at hz
                  generalize tm.getD 105 undef = v105 at hz
                  generalize tm.getD 106 undef = v106 at hz
                  generalize tm.getD 107 undef = v107 at hz
                  generalize tm.getD 108 undef = v108 at hz
                  generalize tm.getD 109 undef = v109 at hz
                  generalize tm.getD 110 undef = v110 at hz
                  generalize tm.getD 111 undef = v111 at hz
                  generalize tm.getD 112 undef = v112 at hz
                  generalize tm.getD 113 undef = v113 at hz
                  generalize tm.getD 114 undef = v114 at hz
                  generalize tm.getD 115 undef = v115 at hz
                  generalize tm.getD 116 undef = v116 at hz
                  generalize tm.getD 117 undef = v117 at hz
                  generalize tm.getD 118 undef = v118 at hz
                  generalize tm.getD 119 undef = v119 at hz
                  generalize tm.getD 120 undef = v120 at hz
                  generalize tm.getD 121 undef = v121 at hz
                  generalize tm.getD 122 undef = v122 at hz
                  generalize tm.getD 123 undef = v123 at hz
                  generalize tm.getD 124 undef = v124 at hz
                  generalize tm.getD 125 undef = v125 at hz
                  generalize tm.getD 126 undef = v126 at hz
                  clear hl
                  subst hz hd
                  have HBJ := hidden (below_then HBI.out HBI.out.size HBWJ.out)
                  go_wp2
                  go_roundw
                  case rel => exact ⟨E + 1, by omega, by omega, by go_num, HBJ.out⟩
                  case measure => simp [Go.RowKit.intOf]; omega
              · have d1 : decide ((E : Int) ≤ (s.size : Int)) = false := decide_eq_false (by omega)
                have d1' : decide (E ≤ s.size) = false := decide_eq_false hle
                have HBZ := hidden (below_then (below_then HB.out HB.out.size HBWC.out) (below_then HB.out HB.out.size HBWC.out).size HBI.out)
                go_wp2
                rw [HW3.out]
                clear hw1 hw2
                exact ⟨⟨i + 1, by omega, by rw [HAN.out], by go_num, HBZ.out⟩, by simp [Go.RowKit.intOf]; omega⟩
          · have HFAR := hidden hfar
            have k1 : decide (t < 0) = false := decide_eq_false (by omega)
            have k4 : decide (0 ≤ t) = true := decide_eq_true ht0
            have k5 : (t == t) = true := by simp
            have k5' : (t != t) = false := by simp
            clear hfar ht0 hn1
            obtain ⟨st, hst⟩ : ∃ r, r = runD D (bys x) := ⟨_, rfl⟩
            rw [← hst] at hlb
            have HRX := hidden (fun W (hb : Below wr.heap.size wr W) => (show Calls Try.prog 20 #[dfaA D.cls D.width (.slice an nx cn) vl, .string x] W fun e w' => e = .returned (.int .i64 st) ∧ Below W.heap.size W w' by have h := HRUN0.out W hb x (by have := max16; omega); rw [← hst] at h; exact h))
            have HLX := hidden (fun W (hb : Below wr.heap.size wr W) => (show Calls Try.prog 19 #[dfaA D.cls D.width (.slice an nx cn) vl, .int .i64 st] W fun e w' => e = .returned (.int .i64 t) ∧ Below W.heap.size W w' by have h := HLAB0.out W hb st; rw [hlb] at h; exact h))
            clear hst hlb
            go_wp2_with fail
            refine reg11_some (D := D) rfl rfl rfl rfl rfl HC0 HC1 HX HRX HLX hki hn0 k1 k4 ?_
            intro a1 wc hst hl hW
            have hd := hst.defers
            have hz := hst.lit [49, 50, 51, 52, 53, 54, 55, 56, 57, 58, 59, 60, 61, 62, 63, 64, 65, 66, 67, 68, 69, 70, 71, 72, 73, 74, 75, 76, 77, 78, 79, 80, 81, 82, 83, 84, 85, 86, 87, 88, 89, 90, 91, 92, 93, 94, 95] (by kernel_rfl)
            have HBWC := hidden hW
            clear hst hW
            obtain ⟨tm, df⟩ := a1
            simp only at hz hd hl
            simp only [List.foldl_cons, List.foldl_nil, List.setIfInBounds_toArray, List.set_cons_zero, List.set_cons_succ] at hz
            rw [hl] at hz
            generalize tm.getD 49 undef = v49 at hz
            generalize tm.getD 50 undef = v50 at hz
            generalize tm.getD 51 undef = v51 at hz
            generalize tm.getD 52 undef = v52 at hz
            generalize tm.getD 53 undef = v53 at hz
            generalize tm.getD 54 undef = v54 at hz
            generalize tm.getD 55 undef = v55 at hz
            generalize tm.getD 56 undef = v56 at hz
            generalize tm.getD 57 undef = v57 at hz
            generalize tm.getD 58 undef = v58 at hz
            generalize tm.getD 59 undef = v59 at hz
            generalize tm.getD 60 undef = v60 at hz
            generalize tm.getD 61 undef = v61 at hz
            generalize tm.getD 62 undef = v62 at hz
            generalize tm.getD 63 undef = v63 at hz
            generalize tm.getD 64 undef = v64 at hz
            generalize tm.getD 65 undef = v65 at hz
            generalize tm.getD 66 undef = v66 at hz
            generalize tm.getD 67 undef = v67 at hz
            generalize tm.getD 68 undef = v68 at hz
            generalize tm.getD 69 undef = v69 at hz
            generalize tm.getD 70 undef = v70 at hz
            generalize tm.getD 71 undef = v71 at hz
            generalize tm.getD 72 undef = v72 at hz
            generalize tm.getD 73 undef = v73 at hz
            generalize tm.getD 74 undef = v74 at hz
            generalize tm.getD 75 undef = v75 at hz
            generalize tm.getD 76 undef = v76 at hz
            generalize tm.getD 77 undef = v77 at hz
            generalize tm.getD 78 undef = v78 at hz
            generalize tm.getD 79 undef = v79 at hz
            generalize tm.getD 80 undef = v80 at hz
            generalize tm.getD 81 undef = v81 at hz
            generalize tm.getD 82 undef = v82 at hz
            generalize tm.getD 83 undef = v83 at hz
            generalize tm.getD 84 undef = v84 at hz
            generalize tm.getD 85 undef = v85 at hz
            generalize tm.getD 86 undef = v86 at hz
            generalize tm.getD 87 undef = v87 at hz
            generalize tm.getD 88 undef = v88 at hz
            generalize tm.getD 89 undef = v89 at hz
            generalize tm.getD 90 undef = v90 at hz
            generalize tm.getD 91 undef = v91 at hz
            generalize tm.getD 92 undef = v92 at hz
            generalize tm.getD 93 undef = v93 at hz
            generalize tm.getD 94 undef = v94 at hz
            clear hl
            subst hz hd
            have HXC := hidden (fun W (hb : Below wc.heap.size wc W) => HX.out W (below_then HBWC.out HBWC.out.size hb))
            have HD0 := hidden (fun W (hb : Below wc.heap.size wc W) => HC0.out W (below_then HBWC.out HBWC.out.size hb))
            have HRUN := hidden (fun W (hb : Below wc.heap.size wc W) => HRUN0.out W (below_then HBWC.out HBWC.out.size hb))
            have HLAB := hidden (fun W (hb : Below wc.heap.size wc W) => HLAB0.out W (below_then HBWC.out HBWC.out.size hb))
            clear HX HC0 HC1 HRX HLX
            go_wp2
            go_loopw [9] (fun e wi => ∃ E : Nat, A < E ∧ E ≤ s.size + 1 ∧ e = .int .i64 (E : Int) ∧ Below wc.heap.size wc wi) (fun e _ => s.size + 1 - (Go.RowKit.intOf e).toNat)
            case atStart => exact ⟨A + 1, by omega, by omega, by go_num, Below.refl _ _⟩
            case round =>
              obtain ⟨E, hE0, hE1, rfl, hbi⟩ := hrel
              obtain ⟨wi, rfl⟩ : ∃ wi, wi = wr := ⟨wr, rfl⟩
              have HBI := hidden hbi
              clear hbi
              by_cases hle : E ≤ s.size
              · have d1 : decide ((E : Int) ≤ (s.size : Int)) = true := decide_eq_true (by omega)
                have d1' : decide (E ≤ s.size) = true := decide_eq_true hle
                have HX := hidden (fun W (hb : Below wi.heap.size wi W) => HXC.out W (below_then HBI.out HBI.out.size hb))
                have HC0 := hidden (fun W (hb : Below wi.heap.size wi W) => HD0.out W (below_then HBI.out HBI.out.size hb))
                by_cases hfar : G < E
                · have d2 : decide ((G : Int) < (E : Int)) = true := decide_eq_true (by omega)
                  have d2' : decide (G < E) = true := decide_eq_true hfar
                  have hsl : ∀ W : World, (Instr.slice 9 (.string s) (some (.int .i64 (A : Int))) (some (.int .i64 (E : Int))) none).run Try.prog W = .ok (.string (s.extract A E)) W := fun W => by
                    rw [run_slice_string W 9 s .i64 .i64 (A : Int) (E : Int) Try.underlying9 (by omega) (by omega) (by omega), Int.toNat_natCast, Int.toNat_natCast]
                  obtain ⟨z, hz⟩ : ∃ z, z = s.extract A E := ⟨_, rfl⟩
                  obtain ⟨sz, hsz⟩ : ∃ r, r = runD D (bys z) := ⟨_, rfl⟩
                  obtain ⟨lz, hlz⟩ : ∃ r, r = labelD D sz := ⟨_, rfl⟩
                  have hneg := HFAR.out E hfar hle
                  rw [← hz, ← hsz, ← hlz] at hneg
                  have HRZ := hidden (fun W (hb : Below wi.heap.size wi W) => (show Calls Try.prog 20 #[dfaA D.cls D.width (.slice an nx cn) vl, .string z] W fun e w' => e = .returned (.int .i64 sz) ∧ Below W.heap.size W w' by have h := HRUN.out W (below_then HBI.out HBI.out.size hb) z (by rw [hz, ByteArray.size_extract]; have := max16; omega); rw [← hsz] at h; exact h))
                  have HLZ := hidden (fun W (hb : Below wi.heap.size wi W) => (show Calls Try.prog 19 #[dfaA D.cls D.width (.slice an nx cn) vl, .int .i64 sz] W fun e w' => e = .returned (.int .i64 lz) ∧ Below W.heap.size W w' by have h := HLAB.out W (below_then HBI.out HBI.out.size hb) sz; rw [← hlz] at h; exact h))
                  rw [← hz] at hsl
                  have k9 : decide (0 ≤ lz) = false := decide_eq_false (by omega)
                  clear hz hsz hlz hneg
                  go_wp2_with fail
                  refine reg16_far (D := D) rfl rfl rfl rfl rfl rfl hw1 d2' hsl HX HRZ HLZ k9 ?_
                  intro a1 wj hst hl hW
                  have hd := hst.defers
                  have hz := hst.lit [104, 105, 106, 107, 108, 109, 110, 111, 112, 113, 114, 115, 116, 117, 118, 119, 120, 121, 122, 123, 124, 125, 126, 127] (by kernel_rfl)
                  have HBWJ := hidden hW
                  clear hst hW
                  obtain ⟨tm, df⟩ := a1
                  simp only at hz hd hl
                  simp only [List.foldl_cons, List.foldl_nil, List.setIfInBounds_toArray, List.set_cons_zero, List.set_cons_succ] at hz
                  rw [hl] at hz
                  generalize tm.getD 104 undef = v104 at hz
                  generalize tm.getD 105 undef = v105 at hz
                  generalize tm.getD 106 undef = v106 at hz
                  generalize tm.getD 107 undef = v107 at hz
                  generalize tm.getD 108 undef = v108 at hz
                  generalize tm.getD 109 undef = v109 at hz
                  generalize tm.getD 110 undef = v110 at hz
                  generalize tm.getD 111 undef = v111 at hz
                  generalize tm.getD 112 undef = v112 at hz
                  generalize tm.getD 113 undef = v113 at hz
                  generalize tm.getD 114 undef = v114 at hz
                  generalize tm.getD 115 undef = v115 at hz
                  generalize tm.getD 116 undef = v116 at hz
                  generalize tm.getD 117 undef = v117 at hz
                  generalize tm.getD 118 undef = v118 at hz
                  generalize tm.getD 119 undef = v119 at hz
                  generalize tm.getD 120 undef = v120 at hz
                  generalize tm.getD 121 undef = v121 at hz
                  generalize tm.getD 122 undef = v122 at hz
                  generalize tm.getD 123 undef = v123 at hz
                  generalize tm.getD 124 undef = v124 at hz
                  generalize tm.getD 125 undef = v125 at hz
                  generalize tm.getD 126 undef = v126 at hz
                  clear hl
                  subst hz hd
                  have HBJ := hidden (below_then HBI.out HBI.out.size HBWJ.out)
                  go_wp2
                  go_roundw
                  case rel => exact ⟨E + 1, by omega, by omega, by go_num, HBJ.out⟩
                  case measure => simp [Go.RowKit.intOf]; omega
                · have d2 : decide ((G : Int) < (E : Int)) = false := decide_eq_false (by omega)
                  have d2' : decide (G < E) = false := decide_eq_false hfar
                  go_wp2_with fail
                  refine reg16_some rfl rfl rfl rfl rfl rfl hw1 d2' HC0 hki k1 ?_
                  intro a1 wj hst hl hW
                  have hd := hst.defers
                  have hz := hst.lit [104, 105, 106, 107, 108, 109, 110, 111, 112, 113, 114, 115, 116, 117, 118, 119, 120, 121, 122, 123, 124, 125, 126, 127] (by kernel_rfl)
                  have HBWJ := hidden hW
                  clear hst hW
                  obtain ⟨tm, df⟩ := a1
                  simp only at hz hd hl
                  simp only [List.foldl_cons, List.foldl_nil, List.setIfInBounds_toArray, List.set_cons_zero, List.set_cons_succ] at hz
                  rw [hl] at hz
                  generalize tm.getD 104 undef = v104 at hz
                  generalize tm.getD 105 undef = v105 at hz
                  generalize tm.getD 106 undef = v106 at hz
                  generalize tm.getD 107 undef = v107 at hz
                  generalize tm.getD 108 undef = v108 at hz
                  generalize tm.getD 109 undef = v109 at hz
                  generalize tm.getD 110 undef = v110 at hz
                  generalize tm.getD 111 undef = v111 at hz
                  generalize tm.getD 112 undef = v112 at hz
                  generalize tm.getD 113 undef = v113 at hz
                  generalize tm.getD 114 undef = v114 at hz
                  generalize tm.getD 115 undef = v115 at hz
                  generalize tm.getD 116 undef = v116 at hz
                  generalize tm.getD 117 undef = v117 at hz
                  generalize tm.getD 118 undef = v118 at hz
                  generalize tm.getD 119 undef = v119 at hz
                  generalize tm.getD 120 undef = v120 at hz
                  generalize tm.getD 121 undef = v121 at hz
                  generalize tm.getD 122 undef = v122 at hz
                  generalize tm.getD 123 undef = v123 at hz
                  generalize tm.getD 124 undef = v124 at hz
                  generalize tm.getD 125 undef = v125 at hz
                  generalize tm.getD 126 undef = v126 at hz
                  clear hl
                  subst hz hd
                  have HBJ := hidden (below_then HBI.out HBI.out.size HBWJ.out)
                  go_wp2
                  go_roundw
                  case rel => exact ⟨E + 1, by omega, by omega, by go_num, HBJ.out⟩
                  case measure => simp [Go.RowKit.intOf]; omega
              · have d1 : decide ((E : Int) ≤ (s.size : Int)) = false := decide_eq_false (by omega)
                have d1' : decide (E ≤ s.size) = false := decide_eq_false hle
                have HBZ := hidden (below_then (below_then HB.out HB.out.size HBWC.out) (below_then HB.out HB.out.size HBWC.out).size HBI.out)
                go_wp2
                rw [HW3.out]
                clear hw1 hw2
                exact ⟨⟨i + 1, by omega, by rw [HAN.out], by go_num, HBZ.out⟩, by simp [Go.RowKit.intOf]; omega⟩
        · obtain rfl : i = m := by omega
          have HBZ := hidden (below_then HBB.out HBB.out.size HB.out)
          have HBW := hidden (below_then HBA.out HBA.out.size HBZ.out)
          have hsz0 : ((s.size : Int) == (s.size : Int)) = true := by simp
          rw [HALL.out]
          go_wp2_with fail
          refine (knows16_calls _).mono ?_
          rintro e w9 ⟨rfl, hb9⟩
          go_wp2
          go_ret
          exact ⟨rfl, below_then HBW.out HBW.out.size hb9⟩
namespace lawMunchAll
open Go.ChangeShapes Go.WideShapes Go.ChangeAt Go.RowKit Go.Deep
open Go.ChangeMaps (open_string shut_string)

set_option maxRecDepth 100000 in
theorem lifted (os : Os) (started : os.Started) (H : Type) (enc : TypeId × Value → H) :
    ReturnsInHanded {} Try.checked os 5 .any (Rows.munchAllSpec.pre6 enc Try.prog Try.f5 Rows.munchAllRow.domain false) (Rows.munchAllSpec.post enc Try.prog Try.f5 false true false false) := by
  refine returnsInHanded_of_change (C := Try.checked) own started (by kernel_rfl) Try.func5
    (ChangeSpec.witness6 (enc := enc) (C := Try.checked) false ⟨#[], #[dfaA (fun _ => 0) 0 (.slice none 0 0) (.slice none 0 0), .string ⟨#[]⟩], []⟩ 8 (by kernel_rfl) (by kernel_rfl) (by kernel_rfl) (by kernel_rfl)) ?_
  intro W base args ds gs before hval0 hW hcnd _
  have hval : ∀ (j : Nat) t v, Try.f5.params[j]? = some t → args[j]? = some v → Value.okWide Try.prog W .any base t v := hval0
  have hW' : DataW.Whole enc Try.prog Try.f5.params.toList Rows.munchAllSpec.vars false W args.toList ds gs before := hW
  obtain ⟨p, q, hA0, hV, rfl, hfz, hnd⟩ := hW
  have hA : DataW.TrodAll enc Try.prog W 0 (fun _ => true) true Try.f5.params.toList args.toList ds p := hA0
  have hlt : ∀ x ∈ p, x.block < W.heap.size := fun x hx => hW'.lt x (List.mem_append_left _ hx)
  rw [Try.params5] at hA hval
  obtain ⟨v0, vs0, d0, ds0, p0, q0, hargs, hd0, hp0, h0, r0⟩ := trodAll_cons hA
  obtain ⟨v1, vs1, d1, ds1, p1, q1, rfl, hd1, hp1, h1, r1⟩ := trodAll_cons r0
  obtain ⟨rfl, _, _⟩ := trodAll_nil r1
  obtain rfl : args = #[v0, v1] := by cases args; simp_all
  obtain ⟨s0a, s0b, z0, rfl, w0⟩ := open_dfa (hval 0 26 v0 rfl rfl) h0
  obtain ⟨a1, rfl, _, _, w1⟩ := open_string Try.underlying9 (hval 1 9 v1 rfl rfl) h1
  refine (walkMunchAll s0a s0b z0 a1 W w0 w1).mono fun e W' ⟨he, hb⟩ => ⟨_, he, ends_true hW' rfl (by kernel_rfl) ?_ (by kernel_rfl) hb⟩
  intro xs hxs
  match xs, hxs with
  | [_, _], _ => rfl

theorem proved : Rows.MunchAllSaid :=
  OpenClaim.holds_of_wide 5 Try.f5 rfl rfl rfl rfl rfl rfl rfl ⟨rfl, rfl, rfl, rfl, rfl⟩ rfl rfl rfl rfl rfl (by kernel_rfl) Try.func5 (by kernel_rfl)
    (of_decide_eq_true (by kernel_rfl)) (by unfold Func.isWrapper; first | (rw [if_pos (by decide +kernel)]; kernel_rfl) | (rw [if_neg (by decide +kernel)]; exact ⟨rfl, rfl⟩))
    (fun os started H enc _ => lifted os started H enc)

end lawMunchAll
end Go.Proofs.Ytgaadndhecokfaa
