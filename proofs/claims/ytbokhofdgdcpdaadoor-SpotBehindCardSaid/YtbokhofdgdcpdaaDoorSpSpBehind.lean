/- 'SpotBehind' answers true for every two lists of steps: of two expressions, one behind the other, the spots of the second one are counted on, each last one of the first is followed by each first one of the second; one of both has both first ones. Conditions: the listed table math/bits.deBruijn64tab holds what its initialiser lays (listed and tied). -/
import Derived.Test.YtbokhofdgdcpdaaDoorSpSpTells
import Derived.Test.YtbokhofdgdcpdaaDoorSp21
namespace Go.Proofs.YtbokhofdgdcpdaaDoor
open Go.RowKit Go.Lib Go.Joins
/-- two slices that came in, in a literal -/
theorem two_in {w W : World} {v u : Value} {L M : List Stp} (h : SlX (fun b => b < w.heap.size) w v L) (hu : SlX (fun b => b < w.heap.size) w u M) (hb : Below w.heap.size w W) (g : Nat) (hg : g = W.heap.size) :
    SlXs (fun b => b < (W.alloc (.cells #[v, u] 22)).heap.size) (W.alloc (.cells #[v, u] 22)) (.slice (some ⟨g, 0, none⟩) 2 2) [L, M] := by
  subst hg
  have hs := hb.size
  have hk : ∀ x N, SlX (fun b => b < w.heap.size) w x N → SlX (fun b => b < (W.alloc (.cells #[v, u] 22)).heap.size) (W.alloc (.cells #[v, u] 22)) x N := fun x N hx =>
    hx.below fun b hb' => ⟨by simp; omega, (heap_alloc_old W _ (by omega)).trans (hb.block b hb')⟩
  refine ⟨_, 2, rfl, Nat.le_refl _, by decide, rfl, fun _ => ⟨W.heap.size, 0, rfl, by simp, fun i hi => ?_⟩⟩
  have hg := heap_alloc_new W (.cells #[v, u] 22)
  rw [Nat.zero_add]
  match i, hi with
  | 0, _ => exact ⟨v, cell_of_row _ _ 0 _ _ _ hg, hk _ _ h⟩
  | 1, _ => exact ⟨u, cell_of_row _ _ 1 _ _ _ hg, hk _ _ hu⟩
theorem cat_two (L M : List Stp) : catV [L, M] = L ++ M ++ [kStp 3] := by simp [catV, jn, jt]
theorem alt_two (L M : List Stp) : altV [L, M] = L ++ M ++ [kStp 4] := by simp [altV, jn, jt]
theorem endE_shift (last : Bool) (d : Nat) : ∀ (e : Ex) (i : Nat), endE last e (i + d) = (endE last e i).map (· + d)
  | .set _, i => rfl
  | .emp, i => rfl
  | .un _ a, i => endE_shift last d a i
  | .alt a c, i => by
    simp only [endE, List.map_append]
    rw [endE_shift last d a i, show i + d + plc a = i + plc a + d by omega, endE_shift last d c (i + plc a)]
  | .cat a c, i => by
    simp only [endE]
    rw [endE_shift last d a i, show i + d + plc a = i + plc a + d by omega, endE_shift last d c (i + plc a)]
    split <;> split <;> simp
structure Behind (La Lb : List Stp) (n : Nat) : Prop where
  na : (sets La).length = n
  ok3 : (measV (La ++ Lb ++ [kStp 3])).2 = 0
  ok4 : (measV (La ++ Lb ++ [kStp 4])).2 = 0
  nl : (sets (La ++ Lb ++ [kStp 3])).length = n + (sets Lb).length
  fol : ∀ p ∈ elems (prtL La).last, ∀ q ∈ elems (prtL Lb).first, q + n ∈ elems (folL (p : Int) (La ++ Lb ++ [kStp 3]))
  fst : elems (prtL (La ++ Lb ++ [kStp 4])).first = elems (prtL La).first ++ (elems (prtL Lb).first).map (· + n)
  fr3 : (prtL (La ++ Lb ++ [kStp 3])).free = ((prtL La).free && (prtL Lb).free)
  fr4 : (prtL (La ++ Lb ++ [kStp 4])).free = ((prtL La).free || (prtL Lb).free)
theorem behind_facts {La Lb : List Stp} (hA : (measV La).2 = 0) (hB : (measV Lb).2 = 0) (wA : ∀ s ∈ La, s.wide) (wB : ∀ s ∈ Lb, s.wide) (hl : La.length + Lb.length ≤ 60) : Behind La Lb (plc (treeE La)) := by
  obtain ⟨_, eA⟩ := meas_expr hA
  obtain ⟨_, eB⟩ := meas_expr hB
  have m4 : (measV (La ++ Lb ++ [kStp 4])).2 = 0 := by rw [expr_meas (expr_two eA eB (.inr rfl)) (by simp; omega)]
  have m3 : (measV (La ++ Lb ++ [kStp 3])).2 = 0 := by rw [expr_meas (expr_two eA eB (.inl rfl)) (by simp; omega)]
  have w3 := wide_two 3 wA wB
  have w4 := wide_two 4 wA wB
  have t3 := tree_cat eA eB wA wB
  have t4 := tree_alt eA eB wA wB
  obtain ⟨pA, sA⟩ := expr_plc hA wA
  obtain ⟨pB, sB⟩ := expr_plc hB wB
  obtain ⟨p3, s3⟩ := expr_plc m3 w3
  obtain ⟨p4, s4⟩ := expr_plc m4 w4
  rw [t3] at p3 s3
  rw [t4] at p4
  simp only [plc] at p3 s3 p4
  have xA : ∀ last, elems (if last then gL (treeE La) 0 else gF (treeE La) 0) = endE last (treeE La) 0 := fun last => endE_elems (by omega)
  have xB : ∀ last, elems (if last then gL (treeE Lb) 0 else gF (treeE Lb) 0) = endE last (treeE Lb) 0 := fun last => endE_elems (by omega)
  have rA : prtL La = prtE (treeE La) 0 := by unfold prtL; rw [if_pos hA]
  have rB : prtL Lb = prtE (treeE Lb) 0 := by unfold prtL; rw [if_pos hB]
  have r3 : prtL (La ++ Lb ++ [kStp 3]) = prtE (.cat (treeE La) (treeE Lb)) 0 := by unfold prtL; rw [if_pos m3, t3]
  have r4 : prtL (La ++ Lb ++ [kStp 4]) = prtE (.alt (treeE La) (treeE Lb)) 0 := by unfold prtL; rw [if_pos m4, t4]
  refine ⟨sA, m3, m4, by omega, fun p hp q hq => ?_, ?_, ?_, ?_⟩
  · rw [rA] at hp
    rw [rB] at hq
    have hp' := (elems_mem _ _).1 hp
    have hq' : q ∈ endE false (treeE Lb) 0 := by rw [← xB false]; exact hq
    have hgL : gL (treeE La) 0 p = true := hp'.2
    have hgF : gF (treeE Lb) (0 + plc (treeE La)) (q + plc (treeE La)) = true := by
      have h1 : q + plc (treeE La) ∈ endE false (treeE Lb) (0 + plc (treeE La)) := by
        rw [endE_shift]
        exact List.mem_map.2 ⟨q, hq', rfl⟩
      simpa using (endE_mem false _ _ _).1 h1
    have i1 := gL_in _ _ _ hgL
    have i2 := gF_in _ _ _ hgF
    rw [folL_elems m3 w3, t3]
    unfold hits
    simp only [List.mem_filter, List.mem_range, Bool.and_eq_true, plc, Int.toNat_natCast]
    refine ⟨by omega, decide_eq_true ⟨by omega, by omega⟩, ?_⟩
    rw [show (met (.cat (treeE La) (treeE Lb)) 0).any (pq p (q + plc (treeE La))) = gE (.cat (treeE La) (treeE Lb)) 0 p (q + plc (treeE La)) from met_iff _ 0 _ _]
    simp only [gE]
    rw [hgL, hgF]
    simp
  · rw [r4, rA, rB]
    show elems (gF (.alt (treeE La) (treeE Lb)) 0) = elems (gF (treeE La) 0) ++ (elems (gF (treeE Lb) 0)).map (· + plc (treeE La))
    have h1 := endE_elems (last := false) (e := .alt (treeE La) (treeE Lb)) (n := 0) (by simp only [plc]; omega)
    have h2 := xA false
    have h3 := xB false
    simp only [Bool.false_eq_true, if_false] at h1 h2 h3
    rw [h1, h2, h3, ← endE_shift]
    rfl
  · rw [r3, rA, rB]; rfl
  · rw [r4, rA, rB]; rfl
set_option maxHeartbeats 16000000 in
set_option maxRecDepth 100000 in
theorem walkBehind (a0 : Option Addr) (len0 cap0 : Nat) (L : List Stp) (a1 : Option Addr) (len1 cap1 : Nat) (M : List Stp) (w : World) (h : SlX (fun b => b < w.heap.size) w (.slice a0 len0 cap0) L ∧ ∀ s ∈ L, s.fit) (h' : SlX (fun b => b < w.heap.size) w (.slice a1 len1 cap1) M ∧ ∀ s ∈ M, s.fit) (ht : Tab w) :
    Calls Tryd.prog 5 #[.slice a0 len0 cap0, .slice a1 len1 cap1] w fun e w' => e = .returned (.bool true) ∧ Below w.heap.size w w' := by
  obtain ⟨hX, hfit⟩ := h
  obtain ⟨hY, hfit2⟩ := h'
  have hwd : ∀ s ∈ L, s.wide := fun s hs => fit_wide (hfit s hs)
  have hwd2 : ∀ s ∈ M, s.wide := fun s hs => fit_wide (hfit2 s hs)
  have HLEN := hidden hX.len
  have HLEN2 := hidden hY.len
  obtain ⟨sm, hsm⟩ : ∃ sm, sm = IntKind.i64.wrap ((len0 : Int) + (len1 : Int)) := ⟨_, rfl⟩
  have hw0 := hsm.symm
  have HSM := hidden hsm
  clear hsm
  have HCa := hidden (rcheck_slX hX)
  have HCb := hidden (rcheck_slX hY)
  have HTB := hidden ht
  have HX := hidden (fun W (hb : Below w.heap.size w W) => hX.later hb)
  have HY := hidden (fun W (hb : Below w.heap.size w W) => hY.later hb)
  have HXY := hidden (fun W (hb : Below w.heap.size w W) g hg => two_in hX hY hb g hg)
  have HWD := hidden hwd
  have HWE := hidden hwd2
  clear ht hX hwd hfit hY hwd2 hfit2
  by_cases p0 : 60 < sm
  case pos =>
    have q0 : decide ((60 : Int) < sm) = true := decide_eq_true p0
    clear p0
    go_enter Tryd.func5, Tryd.ntmps5
    go_wp2_with fail
    refine (knows10_calls _ HTB.out).mono ?_
    rintro e w4 ⟨rfl, hb4⟩
    go_wp2
    go_ret
    exact ⟨rfl, hb4⟩
  have q0 : decide ((60 : Int) < sm) = false := decide_eq_false p0
  by_cases p4 : (measV L).2 = 0
  case neg =>
    have q4 : ((measV L).2 != 0) = true := by simpa using p4
    generalize (measV L).2 = c4 at *
    clear p0 p4
    go_enter Tryd.func5, Tryd.ntmps5
    go_wp2_with fail
    refine HCa.out.mono ?_
    rintro e w2 ⟨rfl, rfl⟩
    go_wp2_with fail
    refine (knows10_calls _ HTB.out).mono ?_
    rintro e w4 ⟨rfl, hb4⟩
    go_wp2
    go_ret
    exact ⟨rfl, hb4⟩
  by_cases p5 : (measV M).2 = 0
  case neg =>
    have q5 : ((measV M).2 != 0) = true := by simpa using p5
    rw [p4] at HCa
    generalize (measV M).2 = c5 at *
    clear p0 p4 p5
    go_enter Tryd.func5, Tryd.ntmps5
    go_wp2_with fail
    refine HCa.out.mono ?_
    rintro e w2 ⟨rfl, rfl⟩
    go_wp2_with fail
    refine HCb.out.mono ?_
    rintro e w2 ⟨rfl, rfl⟩
    go_wp2_with fail
    refine (knows10_calls _ HTB.out).mono ?_
    rintro e w4 ⟨rfl, hb4⟩
    go_wp2
    go_ret
    exact ⟨rfl, hb4⟩
  have HL60 := hidden (show L.length + M.length ≤ 60 by
    have h1 := (meas_expr p4).1
    have h2 := (meas_expr p5).1
    have h3 := HLEN.out
    have h4 := HLEN2.out
    have h5 := HSM.out
    rw [IntKind.wrap_i64] at h5
    omega)
  rw [p4] at HCa
  rw [p5] at HCb
  have HBF := hidden (behind_facts p4 p5 HWD.out HWE.out (by have := HL60.out; omega))
  obtain ⟨n, hn⟩ : ∃ n, n = plc (treeE L) := ⟨_, rfl⟩
  rw [← hn] at HBF
  have HLL := hidden (show (L ++ M ++ [kStp 3]).length ≤ 512 by have := HL60.out; simp; omega)
  have HLM := hidden (show L.length ≤ 512 ∧ M.length ≤ 512 by have := HL60.out; omega)
  have W3 := hidden (wide_two 3 HWD.out HWE.out)
  have W4 := hidden (wide_two 4 HWD.out HWE.out)
  have HCT := hidden (fun W (hb : Below w.heap.size w W) g hg => rcat_calls (W.alloc (.cells #[.slice a0 len0 cap0, .slice a1 len1 cap1] 22)) _ _ (HXY.out W hb g hg) (fun b hb => hb) (by have := HL60.out; rw [cat_two]; simp; omega))
  have HAL := hidden (fun W (hb : Below w.heap.size w W) g hg => ralt_calls (W.alloc (.cells #[.slice a0 len0 cap0, .slice a1 len1 cap1] 22)) _ _ (HXY.out W hb g hg) (fun b hb => hb) (by have := HL60.out; rw [alt_two]; simp; omega))
  rw [cat_two] at HCT
  rw [alt_two] at HAL
  have P4 := hidden p4
  have P5 := hidden p5
  have hnb : n ≤ 60 := by
    have h1 := HBF.out.na
    have h2 := List.length_filter_le (fun s : Stp => s.k == 1) L
    have := HL60.out
    unfold sets at h1
    omega
  obtain ⟨nb, hnb2⟩ : ∃ nb, nb = (sets M).length := ⟨_, rfl⟩
  have hnbb : nb ≤ 60 := by
    have h2 := List.length_filter_le (fun s : Stp => s.k == 1) M
    have := HL60.out
    rw [hnb2]
    unfold sets
    omega
  have HNB := hidden hnb2.symm
  have hwn : IntKind.i64.wrap ((n : Int) + (nb : Int)) = (n : Int) + (nb : Int) := by rw [IntKind.wrap_i64]; omega
  have hnn : ((((n + nb : Nat) : Int)) == (n : Int) + (nb : Int)) = true := by simp
  obtain ⟨LL, hLL⟩ : ∃ LL, LL = L ++ M ++ [kStp 3] := ⟨_, rfl⟩
  obtain ⟨LM, hLM⟩ : ∃ LM, LM = L ++ M ++ [kStp 4] := ⟨_, rfl⟩
  have O3 := hidden (show (measV LL).2 = 0 by rw [hLL]; exact HBF.out.ok3)
  have O4 := hidden (show (measV LM).2 = 0 by rw [hLM]; exact HBF.out.ok4)
  have NL := hidden (show (sets LL).length = n + nb by rw [hLL, hnb2]; exact HBF.out.nl)
  have NA := hidden HBF.out.na
  have F3 := hidden (show (prtL LL).free = ((prtL L).free && (prtL M).free) by rw [hLL]; exact HBF.out.fr3)
  have F4 := hidden (show (prtL LM).free = ((prtL L).free || (prtL M).free) by rw [hLM]; exact HBF.out.fr4)
  have FST := hidden (show spI (elems (prtL LM).first) = spI (elems (prtL L).first) ++ (spI (elems (prtL M).first)).map (· + (n : Int)) by
    rw [hLM, HBF.out.fst, spI_append]
    unfold spI
    simp [List.map_map, Function.comp_def])
  obtain ⟨X, hXX⟩ : ∃ X, X = spI (elems (prtL L).last) := ⟨_, rfl⟩
  obtain ⟨Y, hYY⟩ : ∃ Y, Y = spI (elems (prtL M).first) := ⟨_, rfl⟩
  obtain ⟨Z, hZZ⟩ : ∃ Z, Z = spI (elems (prtL L).first) := ⟨_, rfl⟩
  have hel : ∀ f : Nat → Bool, (elems f).length ≤ 256 := fun f => by
    unfold elems
    exact Nat.le_trans (List.length_filter_le _ _) (by simp)
  have hXl : X.length ≤ 256 := by rw [hXX, spI_len]; exact hel _
  have hYl : Y.length ≤ 256 := by rw [hYY, spI_len]; exact hel _
  have hZl : Z.length ≤ 256 := by rw [hZZ, spI_len]; exact hel _
  have XIN := hidden (fun i (hi : i < X.length) => (show ∃ p : Nat, p ∈ elems (prtL L).last ∧ X.getD i 0 = (p : Int) from by
    have h1 : X.getD i 0 ∈ X := by rw [List.getD_eq_getElem?_getD, List.getElem?_eq_getElem hi]; exact List.getElem_mem _
    rw [hXX] at h1 ⊢
    unfold spI at h1 ⊢
    obtain ⟨p, hp, e⟩ := List.mem_map.1 h1
    exact ⟨p, hp, e.symm⟩))
  have YIN := hidden (fun i (hi : i < Y.length) => (show ∃ p : Nat, p ∈ elems (prtL M).first ∧ Y.getD i 0 = (p : Int) ∧ p < 256 from by
    have h1 : Y.getD i 0 ∈ Y := by rw [List.getD_eq_getElem?_getD, List.getElem?_eq_getElem hi]; exact List.getElem_mem _
    rw [hYY] at h1 ⊢
    unfold spI at h1 ⊢
    obtain ⟨p, hp, e⟩ := List.mem_map.1 h1
    exact ⟨p, hp, e.symm, ((elems_mem _ _).1 hp).1⟩))
  have FOL := hidden (show ∀ p ∈ elems (prtL L).last, ∀ q ∈ elems (prtL M).first, decide ((q : Int) + (n : Int) ∈ spI (elems (folL (p : Int) LL))) = true from fun p hp q hq => by
    have := HBF.out.fol p hp q hq
    rw [← hLL] at this
    refine decide_eq_true ?_
    rw [show (q : Int) + (n : Int) = ((q + n : Nat) : Int) by omega, mem_spI]
    exact this)
  have YTK := hidden (fun k (hk : k < Y.length) => (show (Y.take (k + 1)).map (· + (n : Int)) = (Y.take k).map (· + (n : Int)) ++ [Y.getD k 0 + (n : Int)] from by
    rw [List.take_succ_eq_append_getElem hk, List.map_append, List.getD_eq_getElem?_getD, List.getElem?_eq_getElem hk]
    rfl))
  have YALL := hidden (show (Y.take Y.length).map (· + (n : Int)) = Y.map (· + (n : Int)) by rw [List.take_length])
  rw [← hYY, ← hZZ] at FST
  rw [← hLL] at HCT HLL W3
  rw [← hLM] at HAL W4
  have HXX := hidden hXX
  have HYY := hidden hYY
  have HZZ := hidden hZZ
  clear hXX hYY hZZ hLL hLM hn hnb2 p0 p4 p5 hel HBF HL60 HLEN HLEN2 HSM
  obtain ⟨xl, hxl⟩ : ∃ xl, xl = X.length := ⟨_, rfl⟩
  obtain ⟨yl, hyl⟩ : ∃ yl, yl = Y.length := ⟨_, rfl⟩
  rw [← hxl] at hXl XIN
  rw [← hyl] at hYl YIN YTK YALL
  have HXL := hidden hxl.symm
  have HYL := hidden hyl.symm
  clear hxl hyl
  go_enter Tryd.func5, Tryd.ntmps5
  go_wp2_with fail
  refine HCa.out.mono ?_
  rintro e w2 ⟨rfl, rfl⟩
  go_wp2_with fail
  refine HCb.out.mono ?_
  rintro e w2 ⟨rfl, rfl⟩
  go_wp2_with fail
  refine (HCT.out w (Below.refl _ _) _ rfl).mono ?_
  rintro e w1 ⟨vl, rfl, hr1, hb1⟩
  have HB1 := hidden (below_then ((Below.refl _ _).alloc (Nat.le_refl _) (.cells #[.slice a0 len0 cap0, .slice a1 len1 cap1] 22)) (by simp) hb1)
  have HVL1 := hidden hr1.reads
  obtain ⟨al, ll, cl, rfl⟩ := rowX_slice hr1
  clear hr1 hb1
  go_wp2_with fail
  refine (HAL.out w1 HB1.out _ rfl).mono ?_
  rintro e w2 ⟨vm, rfl, hr2, hb2⟩
  have HB21 := hidden (below_then ((Below.refl w1.heap.size w1).alloc (Nat.le_refl _) (.cells #[.slice a0 len0 cap0, .slice a1 len1 cap1] 22)) (by simp) hb2)
  have HB2 := hidden (below_after HB1.out HB21.out)
  have HVM2 := hidden hr2.reads
  have HVL2 := hidden (HVL1.out.kept HB21.out)
  obtain ⟨am, lm, cm, rfl⟩ := rowX_slice hr2
  clear hr2 hb2
  go_wp2_with fail
  refine (sets_calls (HX.out _ HB2.out) (fun b hb => hb) P4.out HLM.out.1).mono ?_
  rintro e w3 ⟨u, rfl, hr3, hb3⟩
  obtain ⟨a3, c3, rfl⟩ := rowS_slice hr3
  rw [NA.out]
  have HB3 := hidden (below_after HB2.out hb3)
  have HVL3 := hidden (HVL2.out.kept hb3)
  have HVM3 := hidden (HVM2.out.kept hb3)
  clear hr3 hb3
  go_wp2_with fail
  refine (spLast_calls (HX.out _ HB3.out) (fun b hb => hb) HWD.out (HTB.out.below HB3.out)).mono ?_
  rintro e w4 ⟨u, rfl, hr4, hb4⟩
  rw [← HXX.out] at hr4
  obtain ⟨a4, c4, rfl⟩ := hr4.form
  rw [HXL.out]
  have HR4 := hidden hr4.reads
  rw [HXL.out] at HR4
  have HB4 := hidden (below_after HB3.out hb4)
  have HVL4 := hidden (HVL3.out.kept hb4)
  have HVM4 := hidden (HVM3.out.kept hb4)
  clear hr4 hb4
  go_wp2_with fail
  refine (spFirst_calls (HY.out _ HB4.out) (fun b hb => hb) HWE.out (HTB.out.below HB4.out)).mono ?_
  rintro e w5 ⟨u, rfl, hr5, hb5⟩
  rw [← HYY.out] at hr5
  obtain ⟨a5, c5, rfl⟩ := hr5.form
  rw [HYL.out]
  have HR5 := hidden hr5.reads
  rw [HYL.out] at HR5
  have HR45 := hidden (HR4.out.later hb5)
  have HB5 := hidden (below_after HB4.out hb5)
  have HVL5 := hidden (HVL4.out.kept hb5)
  have HVM5 := hidden (HVM4.out.kept hb5)
  clear hr5 hb5
  have XC := hidden (fun W (hb : Below w5.heap.size w5 W) k (hk : k < xl) => (show ∃ g o, a4 = some ⟨g, o, none⟩ ∧ W.cell? ⟨g, o + k, none⟩ = some (.int .i64 (X.getD k 0)) from by
    obtain ⟨a', cap', e, _, _, _, hc⟩ := HR45.out
    simp only [Value.slice.injEq] at e
    obtain ⟨rfl, e2, _⟩ := e
    obtain ⟨g, o, rfl, hg, hc⟩ := hc (by omega)
    exact ⟨g, o, rfl, (hb.cell (p := ⟨g, o + k, none⟩) hg).trans (hc k (by omega))⟩))
  have YC := hidden (fun W (hb : Below w5.heap.size w5 W) k (hk : k < yl) => (show ∃ g o, a5 = some ⟨g, o, none⟩ ∧ W.cell? ⟨g, o + k, none⟩ = some (.int .i64 (Y.getD k 0)) from by
    obtain ⟨a', cap', e, _, _, _, hc⟩ := HR5.out
    simp only [Value.slice.injEq] at e
    obtain ⟨rfl, e2, _⟩ := e
    obtain ⟨g, o, rfl, hg, hc⟩ := hc (by omega)
    exact ⟨g, o, rfl, (hb.cell (p := ⟨g, o + k, none⟩) hg).trans (hc k (by omega))⟩))
  go_wp2
  go_loopw [10] (fun j wr => ∃ k : Nat, k ≤ xl ∧ j = .int .i64 k ∧ Below w5.heap.size w5 wr) (fun j _ => xl - (intOf j).toNat)
  case atStart => exact ⟨0, by omega, rfl, Below.refl _ _⟩
  case round =>
    obtain ⟨k, hk, rfl, hb⟩ := hrel
    have HB := hidden hb
    clear hb
    by_cases hlt : k < xl
    · obtain ⟨g4, o4, rfl, d4⟩ := XC.out wr HB.out k hlt
      obtain ⟨p, hp, ep⟩ := XIN.out k hlt
      rw [ep] at d4
      have HP := hidden hp
      have hdk : decide ((k : Int) < (xl : Int)) = true := decide_eq_true (by omega)
      have hdk2 : decide (k < xl) = true := decide_eq_true hlt
      have HKN := hidden hlt
      clear hp ep
      go_wp2_with fail
      refine (spFollow_calls (p : Int) (HVL5.out.kept HB.out) (fun b hb => hb.2) W3.out (HTB.out.below (below_after HB5.out HB.out))).mono ?_
      rintro e w6 ⟨u, rfl, hr6, hb6⟩
      obtain ⟨a6, c6, rfl⟩ := hr6.form
      have HR6 := hidden hr6.reads
      have HB6 := hidden (below_after HB.out hb6)
      clear hr6 hb6
      go_wp2
      go_loopw [12] (fun j w7 => ∃ q : Nat, q ≤ yl ∧ j = .int .i64 q ∧ Below w6.heap.size w6 w7) (fun j _ => yl - (intOf j).toNat)
      case atStart => exact ⟨0, by omega, rfl, Below.refl _ _⟩
      case round =>
        obtain ⟨j, hj, rfl, hb⟩ := hrel
        have HB7 := hidden hb
        clear hb
        by_cases hlt2 : j < yl
        · obtain ⟨g5, o5, rfl, d5⟩ := YC.out wr (below_after HB6.out HB7.out) j hlt2
          obtain ⟨q, hq, eq, hq256⟩ := YIN.out j hlt2
          rw [eq] at d5
          have hadd : IntKind.i64.wrap ((q : Int) + (n : Int)) = (q : Int) + (n : Int) := by rw [IntKind.wrap_i64]; omega
          have HH := hidden (has10_calls wr _ _ ((q : Int) + (n : Int)) (HR6.out.later HB7.out))
          rw [FOL.out p HP.out q hq] at HH
          have hlt2' := hlt2
          clear hq eq
          go_wp2_with fail
          refine HH.out.mono ?_
          rintro e w8 ⟨rfl, hb8⟩
          have HB8 := hidden (below_after HB7.out hb8)
          clear hb8
          go_wp2
          go_roundw
          case rel => exact ⟨j + 1, by omega, by go_num, HB8.out⟩
          case measure => simp [intOf]; omega
        · obtain rfl : j = yl := by omega
          have hd0 : decide ((j : Int) < (j : Int)) = false := by simp
          go_wp2
          go_roundw
          case rel => exact ⟨k + 1, by have := HKN.out; omega, by go_num, below_after HB6.out HB7.out⟩
          case measure => have := HKN.out; simp [intOf]; omega
    · obtain rfl : k = xl := by omega
      have hd0 : decide ((k : Int) < (k : Int)) = false := by simp
      have HB6 := hidden (below_after HB5.out HB.out)
      go_wp2_with fail
      refine (spFirst_calls (HX.out _ HB6.out) (fun b hb => hb) HWD.out (HTB.out.below HB6.out)).mono ?_
      rintro e w7 ⟨u, rfl, hr7, hb7⟩
      rw [← HZZ.out] at hr7
      obtain ⟨a7, c7, rfl⟩ := hr7.form
      obtain ⟨bs, hbs⟩ : ∃ bs, bs = wr.heap.size := ⟨_, rfl⟩
      have HR7 := hidden (show RowZ w7 bs (.slice a7 Z.length c7) (Z ++ (Y.take 0).map (· + (n : Int))) by rw [hbs]; simpa using hr7)
      have HB75 := hidden (below_after HB.out hb7)
      have HB7 := hidden (below_after HB6.out hb7)
      have HBS := hidden (show w5.heap.size ≤ bs ∧ bs ≤ w7.heap.size from by rw [hbs]; exact ⟨HB.out.size, hb7.size⟩)
      have HKL := hidden (show ∀ i, i ≤ yl → (Z ++ (Y.take i).map (· + (n : Int))).length ≤ 512 from fun i hi => by
        have := HYL.out
        simp only [List.length_append, List.length_map, List.length_take]
        omega)
      clear hr7 hb7 hbs
      go_wp2
      go_loopw [13, 14] (fun v j w8 => ∃ (q : Nat) (o : Value), q ≤ yl ∧ o = v ∧ j = .int .i64 q ∧ RowZ w8 bs o (Z ++ (Y.take q).map (· + (n : Int))) ∧ Below w5.heap.size w5 w8 ∧ w7.heap.size ≤ w8.heap.size) (fun _ j _ => yl - (intOf j).toNat)
      case atStart => exact ⟨0, _, by omega, rfl, rfl, HR7.out, HB75.out, Nat.le_refl _⟩
      case round =>
        obtain ⟨q, o, hq, rfl, rfl, hG, hb, hs7⟩ := hrel
        have HG := hidden hG
        have HB8 := hidden hb
        have HS7 := hidden hs7
        clear hG hb hs7
        by_cases hlt : q < yl
        · obtain ⟨g5, o5, rfl, d5⟩ := YC.out wr HB8.out q hlt
          obtain ⟨y, _, ey, hy256⟩ := YIN.out q hlt
          have HTK := hidden (YTK.out q hlt)
          rw [ey] at d5 HTK
          have hadd : IntKind.i64.wrap ((y : Int) + (n : Int)) = (y : Int) + (n : Int) := by rw [IntKind.wrap_i64]; omega
          have hln := HKL.out q (by omega)
          obtain ⟨m, hm⟩ : ∃ m, m = (Z ++ (Y.take q).map (· + (n : Int))).length := ⟨_, rfl⟩
          rw [← hm] at hln
          have HMM := hidden hm.symm
          have HA := hidden (HG.out.kept ((Below.refl wr.heap.size wr).alloc (Nat.le_refl _) (.cells #[.int .i64 ((y : Int) + (n : Int))] 3)))
          have HBA := hidden (HB8.out.alloc HB8.out.size (.cells #[.int .i64 ((y : Int) + (n : Int))] 3))
          have HZW := hidden (show bs ≤ (wr.alloc (.cells #[.int .i64 ((y : Int) + (n : Int))] 3)).heap.size by have := HS7.out; have := HBS.out; simp; omega)
          have hlt' := hlt
          have HTK2 := hidden (show Z ++ (Y.take (q + 1)).map (· + (n : Int)) = Z ++ (Y.take q).map (· + (n : Int)) ++ [(y : Int) + (n : Int)] by rw [HTK.out, List.append_assoc])
          clear hm ey HTK
          go_wp2_with (at_builtin; refine app_z rfl _ _ rfl rfl HA.out rfl (heap_alloc_new wr _) HMM.out (by omega) HZW.out ?_; intro g' c' w9 hr9 hg9 hb9; have HR9 := hidden hr9; have HB9 := hidden (show Below w5.heap.size w5 w9 from HBA.out.trans (hb9.mono HBS.out.1)); have HS9 := hidden (show w7.heap.size ≤ w9.heap.size by have := hg9.size; have := HS7.out; simp at this ⊢; simp at *; omega); clear hr9 hg9 hb9)
          go_roundw
          case rel => exact ⟨q + 1, _, by omega, rfl, by go_num, by rw [HTK2.out]; exact HR9.out, HB9.out, HS9.out⟩
          case measure => simp [intOf]; omega
        · obtain rfl : q = yl := by omega
          have hd0 : decide ((q : Int) < (q : Int)) = false := by simp
          have HBW := hidden (below_after HB5.out HB8.out)
          have HGR := hidden (show RdZ wr.heap.size wr o (spI (elems (prtL LM).first)) from by
            rw [FST.out, ← YALL.out]
            exact HG.out.reads)
          have HVL := hidden (HVL5.out.kept HB8.out)
          have HVM := hidden (HVM5.out.kept HB8.out)
          have W3F := hidden (fun W (hb : Below w.heap.size w W) => spFree_calls (HX.out W hb) (fun b hb => hb) HWD.out)
          have W4F := hidden (fun W (hb : Below w.heap.size w W) => spFree_calls (HY.out W hb) (fun b hb => hb) HWE.out)
          have W5F := hidden (fun W (hb : Below wr.heap.size wr W) => spFree_calls (HVL.out.kept hb) (fun b hb => hb.2) W3.out)
          have W6F := hidden (fun W (hb : Below wr.heap.size wr W) => spFree_calls (HVM.out.kept hb) (fun b hb => hb.2) W4.out)
          rw [F3.out] at W5F
          rw [F4.out] at W6F
          have W7F := hidden (fun W (hb : Below wr.heap.size wr W) => spFirst_calls (HVM.out.kept hb) (fun b hb => hb.2) W4.out (HTB.out.below (below_after HBW.out hb)))
          generalize hXM : spI (elems (prtL LM).first) = XM at *
          generalize (prtL L).free = fa at *
          generalize (prtL M).free = fb at *
          obtain ⟨ao, co, rfl⟩ := HGR.out.form
          clear F3 F4 FST HG HKL YTK YALL hXM
          cases fa
          case false =>
            have hfb : (fb == fb) = true := by simp
            simp only [Bool.false_and, Bool.false_or] at W5F W6F
            have HW8 := hidden (Below.refl wr.heap.size wr)
            go_wp2_with fail
            refine (sets_calls HVL.out (fun b hb => hb.2) O3.out HLL.out).mono ?_
            rintro e w11 ⟨u, rfl, hr, hb⟩
            obtain ⟨a11, c11, rfl⟩ := rowS_slice hr
            rw [NL.out]
            have HW9 := hidden (below_after HW8.out hb)
            clear hr hb
            go_wp2_with fail
            refine (sets_calls (HY.out _ (below_after HBW.out HW9.out)) (fun b hb => hb) P5.out HLM.out.2).mono ?_
            rintro e w12 ⟨u, rfl, hr, hb⟩
            obtain ⟨a12, c12, rfl⟩ := rowS_slice hr
            rw [HNB.out]
            have HW10 := hidden (below_after HW9.out hb)
            clear hr hb
            go_wp2_with fail
            refine (W7F.out _ HW10.out).mono ?_
            rintro e w13 ⟨u, rfl, hr, hb⟩
            obtain ⟨a13, c13, rfl⟩ := hr.form
            have HW11 := hidden (below_after HW10.out hb)
            have HXA := hidden hr.reads
            have HXB := hidden (HGR.out.later HW11.out)
            clear hr hb
            go_wp2_with fail
            refine (same09_self HXA.out HXB.out).mono ?_
            rintro e w14 ⟨rfl, hb⟩
            have HW12 := hidden (below_after HW11.out hb)
            clear hb
            go_wp2_with fail
            refine (W5F.out _ HW12.out).mono ?_
            rintro e w15 ⟨rfl, hb⟩
            have HW13 := hidden (below_after HW12.out hb)
            clear hb
            go_wp2_with fail
            refine (W3F.out _ (below_after HBW.out HW13.out)).mono ?_
            rintro e w16 ⟨rfl, hb⟩
            have HW14 := hidden (below_after HW13.out hb)
            clear hb
            go_wp2_with fail
            refine (W6F.out _ HW14.out).mono ?_
            rintro e w17 ⟨rfl, hb⟩
            have HW15 := hidden (below_after HW14.out hb)
            clear hb
            go_wp2_with fail
            refine (W3F.out _ (below_after HBW.out HW15.out)).mono ?_
            rintro e w18 ⟨rfl, hb⟩
            have HW16 := hidden (below_after HW15.out hb)
            clear hb
            go_wp2_with fail
            refine (W4F.out _ (below_after HBW.out HW16.out)).mono ?_
            rintro e w19 ⟨rfl, hb⟩
            have HW17 := hidden (below_after HW16.out hb)
            clear hb
            go_wp2_with fail
            refine (knows10_calls _ (HTB.out.below (below_after HBW.out HW17.out))).mono ?_
            rintro e w99 ⟨rfl, hb99⟩
            go_wp2
            go_ret
            exact ⟨rfl, below_after (below_after HBW.out HW17.out) hb99⟩
          case true =>
            have hfb : (fb == fb) = true := by simp
            simp only [Bool.true_and, Bool.true_or] at W5F W6F
            have HW8 := hidden (Below.refl wr.heap.size wr)
            go_wp2_with fail
            refine (sets_calls HVL.out (fun b hb => hb.2) O3.out HLL.out).mono ?_
            rintro e w11 ⟨u, rfl, hr, hb⟩
            obtain ⟨a11, c11, rfl⟩ := rowS_slice hr
            rw [NL.out]
            have HW9 := hidden (below_after HW8.out hb)
            clear hr hb
            go_wp2_with fail
            refine (sets_calls (HY.out _ (below_after HBW.out HW9.out)) (fun b hb => hb) P5.out HLM.out.2).mono ?_
            rintro e w12 ⟨u, rfl, hr, hb⟩
            obtain ⟨a12, c12, rfl⟩ := rowS_slice hr
            rw [HNB.out]
            have HW10 := hidden (below_after HW9.out hb)
            clear hr hb
            go_wp2_with fail
            refine (W7F.out _ HW10.out).mono ?_
            rintro e w13 ⟨u, rfl, hr, hb⟩
            obtain ⟨a13, c13, rfl⟩ := hr.form
            have HW11 := hidden (below_after HW10.out hb)
            have HXA := hidden hr.reads
            have HXB := hidden (HGR.out.later HW11.out)
            clear hr hb
            go_wp2_with fail
            refine (same09_self HXA.out HXB.out).mono ?_
            rintro e w14 ⟨rfl, hb⟩
            have HW12 := hidden (below_after HW11.out hb)
            clear hb
            go_wp2_with fail
            refine (W5F.out _ HW12.out).mono ?_
            rintro e w15 ⟨rfl, hb⟩
            have HW13 := hidden (below_after HW12.out hb)
            clear hb
            go_wp2_with fail
            refine (W3F.out _ (below_after HBW.out HW13.out)).mono ?_
            rintro e w16 ⟨rfl, hb⟩
            have HW14 := hidden (below_after HW13.out hb)
            clear hb
            go_wp2_with fail
            refine (W4F.out _ (below_after HBW.out HW14.out)).mono ?_
            rintro e w17 ⟨rfl, hb⟩
            have HW15 := hidden (below_after HW14.out hb)
            clear hb
            go_wp2_with fail
            refine (W6F.out _ HW15.out).mono ?_
            rintro e w18 ⟨rfl, hb⟩
            have HW16 := hidden (below_after HW15.out hb)
            clear hb
            go_wp2_with fail
            refine (W3F.out _ (below_after HBW.out HW16.out)).mono ?_
            rintro e w19 ⟨rfl, hb⟩
            have HW17 := hidden (below_after HW16.out hb)
            clear hb
            go_wp2_with fail
            refine (knows10_calls _ (HTB.out.below (below_after HBW.out HW17.out))).mono ?_
            rintro e w99 ⟨rfl, hb99⟩
            go_wp2
            go_ret
            exact ⟨rfl, below_after (below_after HBW.out HW17.out) hb99⟩
namespace lawSpotBehind
open Go.ChangeShapes Go.WideShapes Go.ChangeAt Go.RowKit Go.Deep
open Go.ChangeMaps (open_string shut_string)

set_option maxRecDepth 100000 in
theorem lifted (os : Os) (started : os.Started) (H : Type) (enc : TypeId × Value → H) :
    ReturnsInHanded {} Tryd.checked os 5 .any (fun w args => (Rows.spotBehindSpec.pre enc Tryd.prog Tryd.f5 Rows.spotBehindRow.domain false w args ∧ laidMetH Tryd.prog [("math/bits.deBruijn64tab", Rows.laid_math_bits_deBruijn64tab)] w) ∧ sizedMet enc Tryd.prog Tryd.f5 (OpenSpec.ofChange Rows.spotBehindSpec) false w args)
      (Rows.spotBehindSpec.post enc Tryd.prog Tryd.f5 false true false false) := by
  refine returnsInHanded_of_change_and (C := Tryd.checked) (X := fun w _ => laidMetH Tryd.prog [("math/bits.deBruijn64tab", Rows.laid_math_bits_deBruijn64tab)] w) (fun _ _ _ hh h => h.of_heap hh) own started (by kernel_rfl) Tryd.func5
    (ChangeSpec.witness_shaped (enc := enc) (C := Tryd.checked) (os := os) (X := fun w _ => laidMetH Tryd.prog [("math/bits.deBruijn64tab", Rows.laid_math_bits_deBruijn64tab)] w) false (World.laidAll Tryd.prog os [("math/bits.deBruijn64tab", Rows.laid_math_bits_deBruijn64tab)]) #[.slice none 0 0, .slice none 0 0] 8 (World.laidAll_os _ _ _)
      (World.shaped_of_ZipB (by kernel_rfl) (by kernel_rfl)) (by kernel_rfl) (by kernel_rfl) (by kernel_rfl)
      (by rw [MakeChecks.laidMetH_plain _ _ _ (by kernel_rfl)]; exact laidMet_laidAll _ (by kernel_rfl) (by kernel_rfl))) ?_
  intro W base args ds gs before hval0 hW hcnd _ hL _
  have hval : ∀ (j : Nat) t v, Tryd.f5.params[j]? = some t → args[j]? = some v → Value.okWide Tryd.prog W .any base t v := hval0
  have hW' : DataW.Whole enc Tryd.prog Tryd.f5.params.toList Rows.spotBehindSpec.vars false W args.toList ds gs before := hW
  obtain ⟨p, q, hA0, hV, rfl, hfz, hnd⟩ := hW
  have hA : DataW.TrodAll enc Tryd.prog W 0 (fun _ => true) true Tryd.f5.params.toList args.toList ds p := hA0
  have ht : Tab W := of_laid (by kernel_rfl) hL
  rw [Tryd.params5] at hA hval
  obtain ⟨v0, vs0, d0, ds0, p0, q0, hargs, hd0, hp0, h0, r0⟩ := trodAll_cons hA
  obtain ⟨v1, vs1, d1, ds1, p1, q1, rfl, hd1, hp1, h1, r1⟩ := trodAll_cons r0
  obtain ⟨rfl, _, _⟩ := trodAll_nil r1
  obtain rfl : args = #[v0, v1] := by cases args; simp_all
  obtain ⟨a0, len0, cap0, rfl⟩ := okWide_slice Tryd.underlying22 (hval 0 22 v0 rfl rfl)
  obtain ⟨z0, w0⟩ := open_rx h0
  obtain ⟨a1, len1, cap1, rfl⟩ := okWide_slice Tryd.underlying22 (hval 1 22 v1 rfl rfl)
  obtain ⟨z1, w1⟩ := open_rx h1
  refine (walkBehind a0 len0 cap0 z0 a1 len1 cap1 z1 W w0 w1 ht).mono fun e W' ⟨he, hb⟩ => ⟨_, he, ends_true hW' rfl (by kernel_rfl) ?_ (by kernel_rfl) hb⟩
  intro xs hxs
  match xs, hxs with
  | [_, _], _ => rfl

theorem proved : Rows.SpotBehindSaid :=
  OpenClaim.holds_of_wide 5 Tryd.f5 rfl rfl rfl rfl rfl rfl rfl ⟨rfl, rfl, rfl, rfl, rfl⟩ rfl rfl rfl rfl rfl (by kernel_rfl) Tryd.func5 (by kernel_rfl)
    (of_decide_eq_true (by kernel_rfl)) (by unfold Func.isWrapper; first | (rw [if_pos (by decide +kernel)]; kernel_rfl) | (rw [if_neg (by decide +kernel)]; exact ⟨rfl, rfl⟩))
    (fun os started H enc _ => lifted os started H enc)

/-- the card: the row, and what it lists tied to the program's text -/
theorem card : Rows.SpotBehindCardSaid :=
  Claim7.holds_tied_plain_at .later [] [.data] true (true, "2d7a7cdab9648aa92af065527db2f9159c0a253275d1700557e608e94f046fb4") false
    proved (fun _ h => by cases h) (by kernel_rfl) (fun _ h => by cases h) spotBehind_row_tie rfl ⟨rfl, rfl⟩ (by kernel_rfl) rfl
    (fun f fn hf hfn => by
      obtain rfl : f = 5 := Option.some.inj ((show Tryd.prog.funcNamed "facsimile/facsimilelaw10.SpotBehind" = some 5 by kernel_rfl).symm.trans hf) |>.symm
      obtain rfl : fn = Tryd.f5 := (Option.some.inj (Tryd.func5.symm.trans hfn)).symm
      exact ⟨by kernel_rfl, fun j t ht => by
        rw [Tryd.params5] at ht
        have hm : t ∈ [22, 22] := by simpa using Array.mem_of_getElem? ht
        have hall : ([22, 22].all fun u => !Tryd.prog.wantsStandIn u) = true := by kernel_rfl
        exact (show Tryd.prog.wantsStandIn t = false by simpa using List.all_eq_true.1 hall t hm)⟩)
    (by kernel_rfl)

end lawSpotBehind
end Go.Proofs.YtbokhofdgdcpdaaDoor
