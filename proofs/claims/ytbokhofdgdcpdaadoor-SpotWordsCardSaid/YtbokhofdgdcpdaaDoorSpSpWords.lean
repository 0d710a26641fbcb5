/- 'SpotWords' answers true for every list of steps and every word: an expression says a word just if its bytes lead from a first spot by those that follow to a last one, or the word is empty, and may be. Conditions: the listed table math/bits.deBruijn64tab holds what its initialiser lays (listed and tied). -/
import Derived.Test.YtbokhofdgdcpdaaDoorSpSpTells
import Derived.Test.YtbokhofdgdcpdaaDoorSp21
import Derived.Test.YtbokhofdgdcpdaaDoorSp24
import Derived.Test.YtbokhofdgdcpdaaDoorSp25
namespace Go.Proofs.YtbokhofdgdcpdaaDoor
open Go.RowKit Go.Lib Go.Joins
theorem spI_getD (N : List Nat) (j : Nat) : (spI N).getD j 0 = ((N.getD j 0 : Nat) : Int) := by
  unfold spI
  rw [List.getD_eq_getElem?_getD, List.getD_eq_getElem?_getD, List.getElem?_map]
  cases N[j]? <;> rfl
theorem RdZ.at {B : Nat} {w : World} {a : Option Addr} {n c : Nat} {N : List Nat} (h : RdZ B w (.slice a n c) (spI N)) (j : Nat) (hj : j < N.length) : ∃ g o, a = some ⟨g, o, none⟩ ∧ g < B ∧ w.cell? ⟨g, o + j, none⟩ = some (.int .i64 ((N.getD j 0 : Nat) : Int)) := by
  obtain ⟨a', cap', e, _, _, _, hc⟩ := h
  simp only [Value.slice.injEq] at e
  obtain ⟨rfl, e2, _⟩ := e
  rw [spI_len] at hc
  obtain ⟨g, o, rfl, hg, hc⟩ := hc (by omega)
  have := hc j hj
  rw [spI_getD] at this
  exact ⟨g, o, rfl, hg, this⟩
theorem getD_in {N : List Nat} {j : Nat} (hj : j < N.length) : N.getD j 0 ∈ N := by
  rw [List.getD_eq_getElem?_getD, List.getElem?_eq_getElem hj]
  exact List.getElem_mem _
theorem take_in {N : List Nat} {j : Nat} (hj : j < N.length) (p : Nat) : p ∈ N.take (j + 1) ↔ p ∈ N.take j ∨ p = N.getD j 0 := by
  rw [List.take_succ_eq_append_getElem hj, List.mem_append, List.mem_singleton, List.getD_eq_getElem?_getD, List.getElem?_eq_getElem hj]
  rfl
theorem fol_mem {L : List Stp} (hz : (measV L).2 = 0) {p : Nat} (hp : p < 256) (hpl : plc (treeE L) ≤ 256) (q : Nat) : q ∈ elems (folL (p : Int) L) ↔ gE (treeE L) 0 p q = true := by
  rw [elems_mem]
  unfold folL
  rw [if_pos hz, folG_all p hp]
  have e2 : ((met (treeE L) 0).any fun x => x.1.last p && x.2.first q) = gE (treeE L) 0 p q := met_iff (treeE L) 0 p q
  rw [e2]
  simp only [fNone, Bool.false_or]
  exact ⟨fun h => h.2, fun h => ⟨by have := gE_in _ _ _ _ h; omega, h⟩⟩
theorem elems_len (f : Nat → Bool) : (elems f).length ≤ 256 := by
  unfold elems
  exact Nat.le_trans (List.length_filter_le _ _) (by simp)
set_option maxHeartbeats 16000000 in
set_option maxRecDepth 100000 in
theorem walkSWords (a0 : Option Addr) (len0 cap0 : Nat) (L : List Stp) (s : ByteArray) (w : World) (h : SlX (fun b => b < w.heap.size) w (.slice a0 len0 cap0) L ∧ ∀ s ∈ L, s.fit) (_ : s.size ≤ maxLen) (ht : Tab w) :
    Calls Tryd.prog 4 #[.slice a0 len0 cap0, .string s] w fun e w' => e = .returned (.bool true) ∧ Below w.heap.size w w' := by
  obtain ⟨hX, hfit⟩ := h
  have hwd : ∀ s ∈ L, s.wide := fun s hs => fit_wide (hfit s hs)
  have HLEN := hidden hX.len
  have HCa := hidden (rcheck_slX hX)
  have HTB := hidden ht
  have HX := hidden (fun W (hb : Below w.heap.size w W) => hX.later hb)
  have HWD := hidden hwd
  clear ht hX hwd hfit
  by_cases p0 : 60 < len0
  case pos =>
    have q0 : decide ((60 : Int) < (len0 : Int)) = true := decide_eq_true (by omega)
    have q1 : decide (60 < len0) = true := decide_eq_true p0
    clear p0
    go_enter Tryd.func4, Tryd.ntmps4
    go_wp2_with fail
    refine (knows10_calls _ HTB.out).mono ?_
    rintro e w4 ⟨rfl, hb4⟩
    go_wp2
    go_ret
    exact ⟨rfl, hb4⟩
  have q0 : decide ((60 : Int) < (len0 : Int)) = false := decide_eq_false (by omega)
  have q1 : decide (60 < len0) = false := decide_eq_false p0
  by_cases p1 : 30 < s.size
  case pos =>
    have q2 : decide ((30 : Int) < (s.size : Int)) = true := decide_eq_true (by omega)
    have q3 : decide (30 < s.size) = true := decide_eq_true p1
    clear p0 p1
    go_enter Tryd.func4, Tryd.ntmps4
    go_wp2_with fail
    refine (knows10_calls _ HTB.out).mono ?_
    rintro e w4 ⟨rfl, hb4⟩
    go_wp2
    go_ret
    exact ⟨rfl, hb4⟩
  have q2 : decide ((30 : Int) < (s.size : Int)) = false := decide_eq_false (by omega)
  have q3 : decide (30 < s.size) = false := decide_eq_false p1
  by_cases p4 : (measV L).2 = 0
  case neg =>
    have q4 : ((measV L).2 != 0) = true := by simpa using p4
    generalize (measV L).2 = c4 at *
    clear p0 p1 p4
    go_enter Tryd.func4, Tryd.ntmps4
    go_wp2_with fail
    refine HCa.out.mono ?_
    rintro e w2 ⟨rfl, rfl⟩
    go_wp2_with fail
    refine (knows10_calls _ HTB.out).mono ?_
    rintro e w4 ⟨rfl, hb4⟩
    go_wp2
    go_ret
    exact ⟨rfl, hb4⟩
  obtain ⟨h512, hE⟩ := meas_expr p4
  obtain ⟨hone, hok, hops⟩ := tree_of hE HWD.out
  obtain ⟨hp256, hsl⟩ := expr_plc p4 HWD.out
  have hm30 : plc (treeE L) ≤ 60 := by
    have h1 := plc_ops (treeE L)
    have h2 := HLEN.out
    rw [hops] at h1
    omega
  have HS := hidden (sets_calls (HX.out w (Below.refl _ _)) (fun b hb => hb) p4 h512)
  have HRS := hidden (fun W (hb : Below w.heap.size w W) => rsays_calls (HX.out W hb) (fun b hb => hb) s (by omega) HWD.out)
  have HSAY := hidden (show lastIs (endsV L (byN s) 0) s.size = true ↔ Lang (treeE L) (byN s) from by
    rw [show (0 : Int) = ((0 : Nat) : Int) from rfl, endsV_yes p4 (Nat.zero_le _), ← byN_len, lastIs_iff, says_iff])
  have HSA := hidden (fun q (hq : q < plc (treeE L)) => (show ∃ f, (sets L).getD q default = sStp f ∧ ∀ c, c < 256 → gS (treeE L) 0 q c = f c from by
    have := set_at hok hq
    rwa [hops] at this))
  have HFM := hidden (fun (p : Nat) (hp : p < 256) q => fol_mem p4 hp hp256 q)
  have HFI := hidden (fun q => (show q ∈ elems (prtL L).first ↔ gF (treeE L) 0 q = true from by
    unfold prtL
    rw [if_pos p4, elems_mem]
    exact ⟨fun h => h.2, fun h => ⟨by have := gF_in _ _ _ h; omega, h⟩⟩))
  have HLA := hidden (fun q => (show q ∈ elems (prtL L).last ↔ gL (treeE L) 0 q = true from by
    unfold prtL
    rw [if_pos p4, elems_mem]
    exact ⟨fun h => h.2, fun h => ⟨by have := gL_in _ _ _ h; omega, h⟩⟩))
  have HFR := hidden (show (prtL L).free = nul (treeE L) from by unfold prtL; rw [if_pos p4]; rfl)
  have HCS := hidden (come_said hok (byN s))
  have HCM := hidden (fun k (hk : k < s.size) q => come_more (e := treeE L) (W := byN s) (k := k) (by rw [byN_len]; exact hk) q)
  have HBY := hidden (fun k (hk : k < s.size) => (show (byN s).getD k 0 = s[k].toNat ∧ (byN s).getD k 0 < 256 from by
    have h1 := byN_at s k hk
    have h2 := s[k].toNat_lt
    exact ⟨h1, by omega⟩))
  have HBL := hidden (byN_len s)
  rw [p4] at HCa
  have HFC := hidden (fun W (hb : Below w.heap.size w W) => spFirst_calls (HX.out W hb) (fun b hb => hb) HWD.out (HTB.out.below hb))
  have HLC := hidden (fun W (hb : Below w.heap.size w W) => spLast_calls (HX.out W hb) (fun b hb => hb) HWD.out (HTB.out.below hb))
  have HOC := hidden (fun (p : Nat) W (hb : Below w.heap.size w W) => spFollow_calls (p : Int) (HX.out W hb) (fun b hb => hb) HWD.out (HTB.out.below hb))
  have HNC := hidden (fun W (hb : Below w.heap.size w W) => spFree_calls (HX.out W hb) (fun b hb => hb) HWD.out)
  have HEL := hidden elems_len
  obtain ⟨T, hT⟩ : ∃ T, T = treeE L := ⟨_, rfl⟩
  rw [← hT] at HSA HFM HFI HLA HFR HCS HCM HSAY hm30 hsl
  rw [HFR.out] at HNC
  obtain ⟨SL, hSL⟩ : ∃ SL, SL = sets L := ⟨_, rfl⟩
  rw [← hSL] at HS HSA hsl
  obtain ⟨FI, hFI⟩ : ∃ FI, FI = elems (prtL L).first := ⟨_, rfl⟩
  rw [← hFI] at HFI HFC
  have HFL := hidden (show FI.length ≤ 256 by rw [hFI]; exact elems_len _)
  obtain ⟨LA, hLA⟩ : ∃ LA, LA = elems (prtL L).last := ⟨_, rfl⟩
  rw [← hLA] at HLA HLC
  obtain ⟨FO, hFO⟩ : ∃ FO : Nat → List Nat, FO = fun p : Nat => elems (folL (p : Int) L) := ⟨_, rfl⟩
  have HFOL := hidden (fun p => (show (FO p).length ≤ 256 by rw [hFO]; exact elems_len _))
  have HFM := hidden (fun (p : Nat) (hp : p < 256) q => (show q ∈ FO p ↔ gE T 0 p q = true by rw [hFO]; exact HFM.out p hp q))
  have HOC := hidden (fun (p : Nat) W (hb : Below w.heap.size w W) => (show Calls Tryd.prog 18 #[.slice a0 len0 cap0, .int .i64 (p : Int)] W (RetZ W (spI (FO p))) by rw [hFO]; exact HOC.out p W hb))
  obtain ⟨n, hn⟩ : ∃ n, n = s.size := ⟨_, rfl⟩
  obtain ⟨B, hB⟩ : ∃ B, B = byN s := ⟨_, rfl⟩
  rw [← hB] at HCS HCM HSAY HBY HBL HRS
  generalize nul T = nl at *
  generalize lastIs (endsV L B 0) s.size = say at *
  obtain ⟨m, hm⟩ : ∃ m, m = plc T := ⟨_, rfl⟩
  rw [← hm] at HSA hm30 hsl
  have HMM := hidden hm
  have HSL := hidden hsl
  clear h512 hE hone hok hops hp256 p0 p4 HWD HLEN hT hSL hFI hLA hFO hB hm hsl HX
  have HN := hidden hn
  clear hn
  go_enter Tryd.func4, Tryd.ntmps4
  go_wp2_with fail
  refine HCa.out.mono ?_
  rintro e w2 ⟨rfl, rfl⟩
  go_wp2_with fail
  refine HS.out.mono ?_
  rintro e w1 ⟨u, rfl, hr1, hb1⟩
  obtain ⟨a1, c1, rfl⟩ := rowS_slice hr1
  rw [HSL.out]
  have SC := hidden (fun W (hb : Below w1.heap.size w1 W) q (hq : q < m) => (show ∃ g f, a1 = some ⟨g, 0, none⟩ ∧ g < W.heap.size ∧ (∀ c, c < 256 → gS T 0 q c = f c) ∧ W.cell? ⟨g, q * 4, none⟩ = some (.int .u64 (word f 0)) ∧ W.cell? ⟨g, q * 4 + 1, none⟩ = some (.int .u64 (word f 1)) ∧ W.cell? ⟨g, q * 4 + 2, none⟩ = some (.int .u64 (word f 2)) ∧ W.cell? ⟨g, q * 4 + 3, none⟩ = some (.int .u64 (word f 3)) from by
    obtain ⟨f, hf, hfc⟩ := HSA.out q hq
    obtain ⟨g, e1, e2, x0, x1, x2, x3⟩ := hr1.cells q (by rw [HSL.out]; exact hq)
    rw [hf] at x0 x1 x2 x3
    exact ⟨g, f, e1, Nat.lt_of_lt_of_le e2 hb.size, hfc, (hb.cell (p := ⟨g, q * 4, none⟩) e2).trans x0, (hb.cell (p := ⟨g, q * 4 + 1, none⟩) e2).trans x1, (hb.cell (p := ⟨g, q * 4 + 2, none⟩) e2).trans x2, (hb.cell (p := ⟨g, q * 4 + 3, none⟩) e2).trans x3⟩))
  have HB1 := hidden hb1
  clear hr1 hb1
  have HR0 := hidden ((RowZ.lit w1 w1.heap.size rfl #[] rfl).reads)
  have HBA := hidden ((Below.refl w1.heap.size w1).alloc (Nat.le_refl _) (.cells #[] 3))
  go_wp2
  go_loopw [6, 7] (fun v i wr => ∃ (k : Nat) (o : Value) (N : List Nat), k ≤ s.size ∧ o = v ∧ i = .int .i64 k ∧ RdZ wr.heap.size wr o (spI N) ∧ Hid (N.Nodup ∧ ∀ q, q ∈ N ↔ Come T B k q) ∧ Below w1.heap.size w1 wr) (fun _ i _ => s.size - (intOf i).toNat)
  case atStart => exact ⟨0, _, [], by omega, rfl, rfl, by rw [spI_nil]; exact HR0.out, hidden ⟨List.nodup_nil, fun q => ⟨fun h => absurd h (by simp), fun h => absurd h (come_zero _ _ _)⟩⟩, HBA.out⟩
  case round =>
    obtain ⟨k, o, N, hk, rfl, rfl, hR, HNO, hb⟩ := hrel
    obtain ⟨wo, rfl⟩ : ∃ wo, wo = wr := ⟨wr, rfl⟩
    have HRN := hidden hR
    have HBO := hidden hb
    have HN60 := hidden (show N.length ≤ 60 by
      have := nodup_len m N HNO.out.1 (fun x hx => by have := come_lt ((HNO.out.2 x).1 hx); have := HMM.out; omega)
      omega)
    clear hR hb
    obtain ⟨ao, co, rfl⟩ := HRN.out.form
    by_cases hlt : k < s.size
    · have hlt' := hlt
      have HBW := hidden (below_after HB1.out HBO.out)
      obtain ⟨hby, hc256⟩ := HBY.out k hlt
      have HCK := hidden (HCM.out k hlt)
      obtain ⟨c, hc⟩ : ∃ c, c = B.getD k 0 := ⟨_, rfl⟩
      rw [← hc] at hby hc256 HCK
      have hx : ((s[k]'hlt).toNat : Int) = (c : Int) := by rw [hby]
      have hdo : decide ((k : Int) < (s.size : Int)) = true := decide_eq_true (by omega)
      have hdo2 : decide (k < s.size) = true := decide_eq_true hlt
      have hNl : (spI N).length = N.length := spI_len N
      obtain ⟨nN, hnN⟩ : ∃ nN, nN = (spI N).length := ⟨_, rfl⟩
      rw [← hnN] at HRN hNl ⊢
      have HNN := hidden hNl
      have hnN60 : nN ≤ 60 := by have := HNN.out; have := HN60.out; omega
      clear hby hc
      have HLK := hidden hlt
      have HL0 := hidden (RowZ.lit wo wo.heap.size rfl #[] rfl)
      have HBL0 := hidden ((Below.refl wo.heap.size wo).alloc (Nat.le_refl _) (.cells #[] 3))
      by_cases hk0 : k = 0
      case' pos =>
        have hk0' : ((k : Int) == 0) = true := by rw [hk0]; rfl
        have HK0 := hidden hk0
        clear hk0 hNl hnN
        go_wp2_with fail
        refine (HFC.out _ (below_after HBW.out HBL0.out)).mono ?_
        rintro e w3 ⟨u, rfl, hr3, hb3⟩
        have HX3 := hidden (show RowZ w3 wo.heap.size u (spI FI) from hr3.lower HBL0.out.size)
        have HB3 := hidden (below_after HBL0.out hb3)
        have HNX := hidden (show FI.length ≤ 256 * (0 + 1) ∧ ∀ q, q ∈ FI ↔ (k = 0 ∧ gF T 0 q = true) ∨ ∃ p, p ∈ N.take 0 ∧ gE T 0 p q = true from ⟨HFL.out, fun q => by rw [HFI.out]; simp [HK0.out]⟩)
        clear hr3 hb3
        go_wp2
      case' neg =>
        have hk0' : ((k : Int) == 0) = false := by simp; omega
        have HX3 := hidden (show RowZ (wo.alloc (.cells #[] 3)) wo.heap.size (.slice (some ⟨wo.heap.size, 0, none⟩) 0 0) (spI []) from by rw [spI_nil]; exact HL0.out)
        have HB3 := hidden HBL0.out
        have HNX := hidden (show ([] : List Nat).length ≤ 256 * (0 + 1) ∧ ∀ q, q ∈ ([] : List Nat) ↔ (k = 0 ∧ gF T 0 q = true) ∨ ∃ p, p ∈ N.take 0 ∧ gE T 0 p q = true from ⟨by simp, fun q => by simp [hk0]⟩)
        clear hk0 hNl hnN
        go_wp2
      all_goals
        clear hk0'
        go_loopw [8, 9] (fun v i wr => ∃ (j : Nat) (o8 : Value) (Nx : List Nat), j ≤ nN ∧ o8 = v ∧ i = .int .i64 j ∧ RowZ wr wo.heap.size o8 (spI Nx) ∧ Hid (Nx.length ≤ 256 * (j + 1) ∧ ∀ q, q ∈ Nx ↔ (k = 0 ∧ gF T 0 q = true) ∨ ∃ p, p ∈ N.take j ∧ gE T 0 p q = true) ∧ Below wo.heap.size wo wr) (fun _ i _ => nN - (intOf i).toNat)
        case atStart => exact ⟨0, _, _, by omega, rfl, rfl, HX3.out, HNX, HB3.out⟩
        case round =>
          clear HX3 HNX HB3
          obtain ⟨j, o8, Nx, hj, rfl, rfl, hR8, HNX, hb⟩ := hrel
          obtain ⟨wi, rfl⟩ : ∃ wi, wi = wr := ⟨wr, rfl⟩
          have HR8 := hidden hR8
          have HBI := hidden hb
          clear hR8 hb
          by_cases hlt2 : j < nN
          · have hlt2' := hlt2
            obtain ⟨g6, o6, rfl, _, d6⟩ := (HRN.out.later HBI.out).at j (by rw [← HNN.out]; exact hlt2)
            have hpin := getD_in (N := N) (j := j) (by rw [← HNN.out]; exact hlt2)
            have HTK := hidden (take_in (N := N) (j := j) (by rw [← HNN.out]; exact hlt2))
            obtain ⟨p, hp⟩ : ∃ p, p = N.getD j 0 := ⟨_, rfl⟩
            rw [← hp] at d6 hpin HTK
            have hp256 : p < 256 := by
              have h1 := come_lt ((HNO.out.2 p).1 hpin)
              have := HMM.out
              omega
            have HFP := hidden (HFM.out p hp256)
            have HNL := hidden (show (spI Nx).length + (spI (FO p)).length ≤ 1000000 ∧ (Nx ++ FO p).length ≤ 256 * (j + 1 + 1) from by
              have h1 := HNX.out.1
              have h2 := HFOL.out p
              have h3 := HN60.out
              have h4 := HNN.out
              rw [spI_len, spI_len, List.length_append]
              omega)
            clear hp hpin
            go_wp2_with fail
            refine (HOC.out p _ (below_after HBW.out HBI.out)).mono ?_
            rintro e w5 ⟨u, rfl, hr5, hb5⟩
            have HR5 := hidden hr5.reads
            have HG5 := hidden (HR8.out.kept hb5)
            have HB5 := hidden (below_after HBI.out hb5)
            clear hr5 hb5
            go_wp2_with (at_builtin; refine app_zz rfl _ _ rfl rfl HG5.out rfl HR5.out HNL.out.1 HB5.out.size ?_; intro a9 l9 c9 w9 hr9 hg9 hb9; have HR9 := hidden hr9; have HB9 := hidden (HB5.out.trans hb9); clear hr9 hg9 hb9)
            go_roundw
            case rel =>
              refine ⟨j + 1, _, Nx ++ FO p, hlt2', rfl, by go_num, by rw [spI_append]; exact HR9.out, hidden ⟨HNL.out.2, fun q => ?_⟩, HB9.out⟩
              rw [List.mem_append, HNX.out.2, HFP.out]
              constructor
              · rintro ((h | ⟨r, h1, h2⟩) | h)
                · exact .inl h
                · exact .inr ⟨r, (HTK.out r).2 (.inl h1), h2⟩
                · exact .inr ⟨p, (HTK.out p).2 (.inr rfl), h⟩
              · rintro (h | ⟨r, h1, h2⟩)
                · exact .inl (.inl h)
                · rcases (HTK.out r).1 h1 with h3 | rfl
                  · exact .inl (.inr ⟨r, h3, h2⟩)
                  · exact .inr h2
            case measure => simp [intOf]; omega
          · obtain rfl : j = nN := by omega
            have hd0 : decide ((j : Int) < (j : Int)) = false := by simp
            have HNXT := hidden (show Nx.length ≤ 100000 ∧ ∀ q, q ∈ Nx ↔ Nxt T B k q from by
              have h1 := HNX.out
              refine ⟨by have := h1.1; omega, fun q => ?_⟩
              rw [h1.2 q, List.take_of_length_le (by rw [HNN.out]; exact Nat.le_refl _)]
              unfold Nxt
              simp only [HNO.out.2])
            have HRX := hidden HR8.out.reads
            obtain ⟨a8, c8, rfl⟩ := HR8.out.form
            have HXL := hidden (spI_len Nx)
            obtain ⟨nx, hnx⟩ : ∃ nx, nx = (spI Nx).length := ⟨_, rfl⟩
            rw [← hnx] at HRX HXL ⊢
            have HBWI := hidden (below_after HBW.out HBI.out)
            have HB1I := hidden (below_after HBO.out HBI.out)
            have HRL := hidden (RowZ.lit wi wi.heap.size rfl #[] rfl)
            have HBL1 := hidden ((Below.refl wi.heap.size wi).alloc (Nat.le_refl _) (.cells #[] 3))
            have hnxb : nx ≤ 100000 := by have := HXL.out; have := HNXT.out.1; omega
            clear HR8 HNX hnx HBI HL0 HBL0 HRN
            go_wp2
            go_loopw [6, 10] (fun v i wr => ∃ (q : Nat) (o : Value) (M : List Nat), q ≤ nx ∧ o = v ∧ i = .int .i64 q ∧ RowZ wr wi.heap.size o (spI M) ∧ Hid (M.Nodup ∧ ∀ x, x ∈ M ↔ x ∈ Nx.take q ∧ gS T 0 x c = true) ∧ Below wi.heap.size wi wr) (fun _ i _ => nx - (intOf i).toNat)
            case atStart => exact ⟨0, _, [], by omega, rfl, rfl, by rw [spI_nil]; exact HRL.out, hidden ⟨List.nodup_nil, fun x => by simp⟩, HBL1.out⟩
            case round =>
              clear HRL HBL1
              obtain ⟨q, o6, M, hq, rfl, rfl, hR6, HM, hb⟩ := hrel
              obtain ⟨wq, rfl⟩ : ∃ wq, wq = wr := ⟨wr, rfl⟩
              have HR6 := hidden hR6
              have HBQ := hidden hb
              clear hR6 hb
              obtain ⟨a6, c6, rfl⟩ := HR6.out.form
              have HML := hidden (spI_len M)
              have HMB := hidden (show M.length ≤ m from nodup_len m M HM.out.1 (fun x hx => by
                have h1 := (HNXT.out.2 x).1 (List.mem_of_mem_take ((HM.out.2 x).1 hx).1)
                have h2 := nxt_lt h1
                have := HMM.out
                omega))
              by_cases hlt3 : q < nx
              · have hlt3' := hlt3
                obtain ⟨g8, o8, rfl, hg8, d8⟩ := (HRX.out.later HBQ.out).at q (by rw [← HXL.out]; exact hlt3)
                have hxin := getD_in (N := Nx) (j := q) (by rw [← HXL.out]; exact hlt3)
                have HTK := hidden (take_in (N := Nx) (j := q) (by rw [← HXL.out]; exact hlt3))
                obtain ⟨x, hx2⟩ : ∃ x, x = Nx.getD q 0 := ⟨_, rfl⟩
                rw [← hx2] at d8 hxin HTK
                have hxm : x < m := by
                  have h1 := nxt_lt ((HNXT.out.2 x).1 hxin)
                  have := HMM.out
                  omega
                obtain ⟨g1, f, rfl, hg1, hfc, e0, e1, e2, e3⟩ := SC.out wq (below_after HB1I.out HBQ.out) x hxm
                have HFC2 := hidden (hfc c hc256)
                have r0 : decide ((x : Int) < 0) = false := decide_eq_false (by omega)
                have r1 : decide ((m : Int) ≤ (x : Int)) = false := decide_eq_false (by omega)
                have r2 : decide (m ≤ x) = false := decide_eq_false (by omega)
                have HH := hidden (fun W => rhas_nat f c W hc256)
                have HT10 := hidden (fun (W : Later wq) => has10_calls W.at' _ _ (x : Int) (HR6.out.reads.later W.ok))
                generalize hsm : (spI M).length = sm at *
                have le0 := fun (p : Later wq) => Later.cell e0 hg1 p
                have le1 := fun (p : Later wq) => Later.cell e1 hg1 p
                have le2 := fun (p : Later wq) => Later.cell e2 hg1 p
                have le3 := fun (p : Later wq) => Later.cell e3 hg1 p
                clear hx2 hxin hfc hg8
                by_cases hf : f c = true
                case neg =>
                  rw [show f c = false by simpa using hf] at HH HFC2
                  have HMN := hidden (show M.Nodup ∧ ∀ y, y ∈ M ↔ y ∈ Nx.take (q + 1) ∧ gS T 0 y c = true from ⟨HM.out.1, fun y => by
                    rw [HM.out.2, HTK.out]
                    constructor
                    · rintro ⟨h1, h2⟩; exact ⟨.inl h1, h2⟩
                    · rintro ⟨h1 | rfl, h2⟩
                      · exact ⟨h1, h2⟩
                      · rw [HFC2.out] at h2; cases h2⟩)
                  clear hf
                  go_wp2
                  refine wp_region_later (by kernel_rfl) (by kernel_rfl) ?_
                  repeat (go_big_quiet_step (first | (with_reducible exact Later.calls (HH.out _)) | (with_reducible exact Later.calls (HT10.out _))))
                  refine wpQuiet_nil ?_
                  rintro _ ⟨⟨_, hb9⟩, rfl⟩
                  rename_i w9
                  have HB9 := hidden (below_after HBQ.out hb9)
                  have HG9 := hidden (HR6.out.kept hb9)
                  clear hb9 le0 le1 le2 le3
                  go_wp2
                  go_roundw
                  case rel => exact ⟨q + 1, _, M, hlt3', rfl, by go_num, HG9.out, HMN, HB9.out⟩
                  case measure => simp [intOf]; omega
                case pos =>
                  rw [hf] at HH HFC2
                  clear hf
                  by_cases hxM : x ∈ M
                  case pos =>
                    have HT10 := hidden (fun (W : Later wq) => (show Calls Tryd.prog 24 #[.slice a6 sm c6, .int .i64 (x : Int)] W.at' fun e w' => e = .returned (.bool true) ∧ Below W.at'.heap.size W.at' w' from by
                      have h := HT10.out W
                      rw [show decide ((x : Int) ∈ spI M) = true from decide_eq_true ((mem_spI x M).2 hxM)] at h
                      exact h))
                    have HMN := hidden (show M.Nodup ∧ ∀ y, y ∈ M ↔ y ∈ Nx.take (q + 1) ∧ gS T 0 y c = true from ⟨HM.out.1, fun y => by
                      rw [HM.out.2, HTK.out]
                      constructor
                      · rintro ⟨h1, h2⟩; exact ⟨.inl h1, h2⟩
                      · rintro ⟨h1 | rfl, h2⟩
                        · exact ⟨h1, h2⟩
                        · exact (HM.out.2 _).1 hxM⟩)
                    clear hxM
                    go_wp2
                    refine wp_region_later (by kernel_rfl) (by kernel_rfl) ?_
                    repeat (go_big_quiet_step (first | (with_reducible exact Later.calls (HH.out _)) | (with_reducible exact Later.calls (HT10.out _))))
                    refine wpQuiet_nil ?_
                    rintro _ ⟨⟨_, hb9⟩, rfl⟩
                    rename_i w9
                    have HB9 := hidden (below_after HBQ.out hb9)
                    have HG9 := hidden (HR6.out.kept hb9)
                    clear hb9 le0 le1 le2 le3
                    go_wp2
                    go_roundw
                    case rel => exact ⟨q + 1, _, M, hlt3', rfl, by go_num, HG9.out, HMN, HB9.out⟩
                    case measure => simp [intOf]; omega
                  case neg =>
                    have HT10 := hidden (fun (W : Later wq) => (show Calls Tryd.prog 24 #[.slice a6 sm c6, .int .i64 (x : Int)] W.at' fun e w' => e = .returned (.bool false) ∧ Below W.at'.heap.size W.at' w' from by
                      have h := HT10.out W
                      rw [show decide ((x : Int) ∈ spI M) = false from decide_eq_false (fun h => hxM ((mem_spI x M).1 h))] at h
                      exact h))
                    have HMN := hidden (show (M ++ [x]).Nodup ∧ ∀ y, y ∈ M ++ [x] ↔ y ∈ Nx.take (q + 1) ∧ gS T 0 y c = true from ⟨List.nodup_append.2 ⟨HM.out.1, by simp, by intro a ha b hb e; simp at hb; subst hb; subst e; exact hxM ha⟩, fun y => by
                      rw [List.mem_append, List.mem_singleton, HM.out.2, HTK.out]
                      constructor
                      · rintro (⟨h1, h2⟩ | rfl)
                        · exact ⟨.inl h1, h2⟩
                        · exact ⟨.inr rfl, HFC2.out⟩
                      · rintro ⟨h1 | rfl, h2⟩
                        · exact .inl ⟨h1, h2⟩
                        · exact .inr rfl⟩)
                    clear hxM
                    go_wp2
                    refine wp_region_later (by kernel_rfl) (by kernel_rfl) ?_
                    repeat (go_big_quiet_step (first | (with_reducible exact Later.calls (HH.out _)) | (with_reducible exact Later.calls (HT10.out _))))
                    refine wpQuiet_nil ?_
                    rintro _ ⟨⟨_, hb9⟩, rfl⟩
                    rename_i w9
                    have HB9 := hidden (below_after HBQ.out hb9)
                    have HG9 := hidden (HR6.out.kept hb9)
                    clear hb9 le0 le1 le2 le3
                    have HA := hidden (HG9.out.kept ((Below.refl w9.heap.size w9).alloc (Nat.le_refl _) (.cells #[.int .i64 (x : Int)] 3)))
                    have HBA := hidden (HB9.out.alloc HB9.out.size (.cells #[.int .i64 (x : Int)] 3))
                    have HSM := hidden hsm
                    have hsm9 : sm ≤ 100000 := by have := HMB.out; have := HML.out; omega
                    clear hsm
                    go_wp2_with (at_builtin; refine app_z rfl _ _ rfl rfl HA.out rfl (heap_alloc_new w9 _) HSM.out (by omega) HBA.out.size ?_; intro g' c' w10 hr10 hg10 hb10; have HR10 := hidden hr10; have HB10 := hidden (HBA.out.trans hb10); clear hr10 hg10 hb10)
                    go_roundw
                    case rel => exact ⟨q + 1, _, M ++ [x], hlt3', rfl, by go_num, by rw [spI_append, spI_one]; exact HR10.out, HMN, HB10.out⟩
                    case measure => simp [intOf]; omega
              · obtain rfl : q = nx := by omega
                have hd1 : decide ((q : Int) < (q : Int)) = false := by simp
                have HEND := hidden (show M.Nodup ∧ ∀ y, y ∈ M ↔ Come T B (k + 1) y from ⟨HM.out.1, fun y => by
                  rw [HM.out.2, HCK.out, List.take_of_length_le (by rw [HXL.out]; exact Nat.le_refl _), HNXT.out.2]⟩)
                have HRE := hidden HR6.out.reads
                have HBE := hidden (below_after HB1I.out HBQ.out)
                clear hlt'
                have hlt' := HLK.out
                go_wp2
                go_roundw
                case rel => exact ⟨k + 1, _, M, hlt', rfl, by go_num, HRE.out, HEND, HBE.out⟩
                case measure => simp [intOf]; omega
    · obtain rfl : k = s.size := by omega
      have hd2 : decide ((s.size : Int) < (s.size : Int)) = false := by simp
      have HBW := hidden (below_after HB1.out HBO.out)
      have HFIN := hidden (show (say = true ↔ (s.size = 0 ∧ nl = true) ∨ ∃ p, p ∈ N ∧ gL T 0 p = true) from by
        rw [HSAY.out, ← HCS.out, HBL.out]
        simp only [HNO.out.2])
      obtain ⟨nN, hnN⟩ : ∃ nN, nN = (spI N).length := ⟨_, rfl⟩
      rw [← hnN] at HRN ⊢
      have HNN := hidden (hnN.trans (spI_len N))
      have hnN60 : nN ≤ 60 := by have := HNN.out; have := HN60.out; omega
      clear hnN
      by_cases hs0 : s.size = 0
      case' pos =>
        have hs0' : ((s.size : Int) == 0) = true := by rw [hs0]; rfl
        have HI := hidden (show nl = true ↔ (s.size = 0 ∧ nl = true) ∨ ∃ p, p ∈ N.take 0 ∧ gL T 0 p = true from by simp [hs0])
        clear hs0
        go_wp2_with fail
        refine (HNC.out _ HBW.out).mono ?_
        rintro e w3 ⟨rfl, hb3⟩
        have HB3 := hidden hb3
        clear hb3
      case' neg =>
        have hs0' : ((s.size : Int) == 0) = false := by rw [beq_eq_false_iff_ne]; omega
        have HI := hidden (show false = true ↔ (s.size = 0 ∧ nl = true) ∨ ∃ p, p ∈ N.take 0 ∧ gL T 0 p = true from by simp [hs0])
        have HB3 := hidden (Below.refl wo.heap.size wo)
        clear hs0
      all_goals
        go_wp2_with fail
        refine (HLC.out _ (below_after HBW.out HB3.out)).mono ?_
        rintro e w4 ⟨u, rfl, hr4, hb4⟩
        have HR4 := hidden hr4.reads
        have HB4 := hidden (below_after HB3.out hb4)
        have HR0 := hidden (HRN.out.later HB4.out)
        obtain ⟨a4, c4, rfl⟩ := hr4.form
        have HML := hidden (fun (p : Nat) => mem_spI p LA)
        generalize spI LA = SLA at *
        generalize SLA.length = la at *
        clear hr4 hb4
        go_wp2
        go_loopw [12, 14] (fun v i wr => ∃ (j : Nat) (b : Bool), j ≤ nN ∧ v = .bool b ∧ i = .int .i64 j ∧ Hid (b = true ↔ (s.size = 0 ∧ nl = true) ∨ ∃ p, p ∈ N.take j ∧ gL T 0 p = true) ∧ Below w4.heap.size w4 wr) (fun _ i _ => nN - (intOf i).toNat)
        case atStart => exact ⟨0, _, by omega, rfl, rfl, HI, Below.refl _ _⟩
        case round =>
          clear HI
          obtain ⟨j, b, hj, rfl, rfl, HI, hb⟩ := hrel
          have HB5 := hidden hb
          clear hb
          by_cases hlt4 : j < nN
          · have hlt4' := hlt4
            obtain ⟨g6, o6, rfl, _, d6⟩ := (HR0.out.later HB5.out).at j (by rw [← HNN.out]; exact hlt4)
            have HTK := hidden (take_in (N := N) (j := j) (by rw [← HNN.out]; exact hlt4))
            obtain ⟨p, hp⟩ : ∃ p, p = N.getD j 0 := ⟨_, rfl⟩
            rw [← hp] at d6 HTK
            have HH := hidden (has10_calls wr _ _ (p : Int) (HR4.out.later HB5.out))
            clear hp
            cases b
            case true =>
              have HI2 := hidden (show true = true ↔ (s.size = 0 ∧ nl = true) ∨ ∃ p, p ∈ N.take (j + 1) ∧ gL T 0 p = true from by
                refine iff_of_true rfl ?_
                rcases HI.out.1 rfl with h | ⟨r, h1, h2⟩
                · exact .inl h
                · exact .inr ⟨r, (HTK.out r).2 (.inl h1), h2⟩)
              go_wp2
              go_roundw
              case rel => exact ⟨j + 1, true, hlt4', rfl, by go_num, HI2, HB5.out⟩
              case measure => simp [intOf]; omega
            case false =>
              have HI2 := hidden (show decide ((p : Int) ∈ SLA) = true ↔ (s.size = 0 ∧ nl = true) ∨ ∃ p, p ∈ N.take (j + 1) ∧ gL T 0 p = true from by
                rw [decide_eq_true_eq, HML.out, HLA.out]
                constructor
                · exact fun h => .inr ⟨p, (HTK.out p).2 (.inr rfl), h⟩
                · rintro (h | ⟨r, h1, h2⟩)
                  · exact absurd (HI.out.2 (.inl h)) (by decide)
                  · rcases (HTK.out r).1 h1 with h3 | rfl
                    · exact absurd (HI.out.2 (.inr ⟨r, h3, h2⟩)) (by decide)
                    · exact h2)
              generalize decide ((p : Int) ∈ SLA) = b2 at *
              go_wp2_with fail
              refine HH.out.mono ?_
              rintro e w6 ⟨rfl, hb6⟩
              have HB6 := hidden (below_after HB5.out hb6)
              clear hb6
              go_wp2
              go_roundw
              case rel => exact ⟨j + 1, b2, hlt4', rfl, by go_num, HI2, HB6.out⟩
              case measure => simp [intOf]; omega
          · obtain rfl : j = nN := by omega
            have hd4 : decide ((j : Int) < (j : Int)) = false := by simp
            have hbs : b = say := by
              rw [Bool.eq_iff_iff, HFIN.out, HI.out, List.take_of_length_le (by rw [HNN.out]; exact Nat.le_refl _)]
            subst hbs
            have hbb : (b == b) = true := by simp
            have HBX := hidden (below_after (below_after HBW.out HB4.out) HB5.out)
            clear HI
            go_wp2_with fail
            refine (HRS.out _ HBX.out).mono ?_
            rintro e w7 ⟨rfl, hb7⟩
            have HB7 := hidden (below_after HBX.out hb7)
            clear hb7
            go_wp2_with fail
            refine (knows10_calls _ (HTB.out.below HB7.out)).mono ?_
            rintro e w8 ⟨rfl, hb8⟩
            go_wp2
            go_ret
            exact ⟨rfl, below_after HB7.out hb8⟩
namespace lawSpotWords
open Go.ChangeShapes Go.WideShapes Go.ChangeAt Go.RowKit Go.Deep
open Go.ChangeMaps (open_string shut_string)

set_option maxRecDepth 100000 in
theorem lifted (os : Os) (started : os.Started) (H : Type) (enc : TypeId × Value → H) :
    ReturnsInHanded {} Tryd.checked os 4 .any (fun w args => (Rows.spotWordsSpec.pre enc Tryd.prog Tryd.f4 Rows.spotWordsRow.domain false w args ∧ laidMetH Tryd.prog [("math/bits.deBruijn64tab", Rows.laid_math_bits_deBruijn64tab)] w) ∧ sizedMet enc Tryd.prog Tryd.f4 (OpenSpec.ofChange Rows.spotWordsSpec) false w args)
      (Rows.spotWordsSpec.post enc Tryd.prog Tryd.f4 false true false false) := by
  refine returnsInHanded_of_change_and (C := Tryd.checked) (X := fun w _ => laidMetH Tryd.prog [("math/bits.deBruijn64tab", Rows.laid_math_bits_deBruijn64tab)] w) (fun _ _ _ hh h => h.of_heap hh) own started (by kernel_rfl) Tryd.func4
    (ChangeSpec.witness_shaped (enc := enc) (C := Tryd.checked) (os := os) (X := fun w _ => laidMetH Tryd.prog [("math/bits.deBruijn64tab", Rows.laid_math_bits_deBruijn64tab)] w) false (World.laidAll Tryd.prog os [("math/bits.deBruijn64tab", Rows.laid_math_bits_deBruijn64tab)]) #[.slice none 0 0, .string ⟨#[]⟩] 8 (World.laidAll_os _ _ _)
      (World.shaped_of_ZipB (by kernel_rfl) (by kernel_rfl)) (by kernel_rfl) (by kernel_rfl) (by kernel_rfl)
      (by rw [MakeChecks.laidMetH_plain _ _ _ (by kernel_rfl)]; exact laidMet_laidAll _ (by kernel_rfl) (by kernel_rfl))) ?_
  intro W base args ds gs before hval0 hW hcnd _ hL _
  have hval : ∀ (j : Nat) t v, Tryd.f4.params[j]? = some t → args[j]? = some v → Value.okWide Tryd.prog W .any base t v := hval0
  have hW' : DataW.Whole enc Tryd.prog Tryd.f4.params.toList Rows.spotWordsSpec.vars false W args.toList ds gs before := hW
  obtain ⟨p, q, hA0, hV, rfl, hfz, hnd⟩ := hW
  have hA : DataW.TrodAll enc Tryd.prog W 0 (fun _ => true) true Tryd.f4.params.toList args.toList ds p := hA0
  have ht : Tab W := of_laid (by kernel_rfl) hL
  rw [Tryd.params4] at hA hval
  obtain ⟨v0, vs0, d0, ds0, p0, q0, hargs, hd0, hp0, h0, r0⟩ := trodAll_cons hA
  obtain ⟨v1, vs1, d1, ds1, p1, q1, rfl, hd1, hp1, h1, r1⟩ := trodAll_cons r0
  obtain ⟨rfl, _, _⟩ := trodAll_nil r1
  obtain rfl : args = #[v0, v1] := by cases args; simp_all
  obtain ⟨a0, len0, cap0, rfl⟩ := okWide_slice Tryd.underlying22 (hval 0 22 v0 rfl rfl)
  obtain ⟨z0, w0⟩ := open_rx h0
  obtain ⟨a1, rfl, _, _, w1⟩ := open_string Tryd.underlying9 (hval 1 9 v1 rfl rfl) h1
  refine (walkSWords a0 len0 cap0 z0 a1 W w0 w1 ht).mono fun e W' ⟨he, hb⟩ => ⟨_, he, ends_true hW' rfl (by kernel_rfl) ?_ (by kernel_rfl) hb⟩
  intro xs hxs
  match xs, hxs with
  | [_, _], _ => rfl

theorem proved : Rows.SpotWordsSaid :=
  OpenClaim.holds_of_wide 4 Tryd.f4 rfl rfl rfl rfl rfl rfl rfl ⟨rfl, rfl, rfl, rfl, rfl⟩ rfl rfl rfl rfl rfl (by kernel_rfl) Tryd.func4 (by kernel_rfl)
    (of_decide_eq_true (by kernel_rfl)) (by unfold Func.isWrapper; first | (rw [if_pos (by decide +kernel)]; kernel_rfl) | (rw [if_neg (by decide +kernel)]; exact ⟨rfl, rfl⟩))
    (fun os started H enc _ => lifted os started H enc)

/-- the card: the row, and what it lists tied to the program's text -/
theorem card : Rows.SpotWordsCardSaid :=
  Claim7.holds_tied_plain_at .later [] [.data] true (true, "2d7a7cdab9648aa92af065527db2f9159c0a253275d1700557e608e94f046fb4") false
    proved (fun _ h => by cases h) (by kernel_rfl) (fun _ h => by cases h) spotWords_row_tie rfl ⟨rfl, rfl⟩ (by kernel_rfl) rfl
    (fun f fn hf hfn => by
      obtain rfl : f = 4 := Option.some.inj ((show Tryd.prog.funcNamed "facsimile/facsimilelaw10.SpotWords" = some 4 by kernel_rfl).symm.trans hf) |>.symm
      obtain rfl : fn = Tryd.f4 := (Option.some.inj (Tryd.func4.symm.trans hfn)).symm
      exact ⟨by kernel_rfl, fun j t ht => by
        rw [Tryd.params4] at ht
        have hm : t ∈ [22, 9] := by simpa using Array.mem_of_getElem? ht
        have hall : ([22, 9].all fun u => !Tryd.prog.wantsStandIn u) = true := by kernel_rfl
        exact (show Tryd.prog.wantsStandIn t = false by simpa using List.all_eq_true.1 hall t hm)⟩)
    (by kernel_rfl)

end lawSpotWords
end Go.Proofs.YtbokhofdgdcpdaaDoor
