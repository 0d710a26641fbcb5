/- SpRef, SpKn, Later, put together. -/
import Derived.Test.YtbokhofdgdcpdaaDoorFu26
import Derived.Test.YtbokhofdgdcpdaaDoorFu11
import Derived.Test.YtbokhofdgdcpdaaDoorFu07
import Derived.Deep.QuietTactic
import Derived.BigQuiet
/- Contracts of the reference's First, Last, Free and Follow. -/
namespace Go.Proofs.YtbokhofdgdcpdaaDoor
open Go.RowKit Go.Lib Go.Joins
theorem elems_none : elems fNone = [] := by
  refine nup_ext (elems_up _) .nil fun p => ?_
  rw [elems_mem]
  simp [fNone]
theorem sl_lay {C : Nat → Prop} {v : Value} {L : List Stp} {w : World} (h : SlX C w v L) (hC : ∀ b, C b → b < w.heap.size) (hpos : 0 < L.length) : ∃ b off cap, v = .slice (some ⟨b, off, none⟩) L.length cap ∧ Lay b off L w ∧ L.length ≤ cap ∧ cap ≤ maxLen := by
  obtain ⟨a, cap, rfl, h1, h2, _, hS⟩ := h
  obtain ⟨b, off, rfl, hCb, hc⟩ := hS.2 hpos
  exact ⟨b, off, cap, rfl, ⟨hC b hCb, hc⟩, h1, h2⟩
theorem expr_plc {L : List Stp} (hz : (measV L).2 = 0) (hwd : ∀ s ∈ L, s.wide) : plc (treeE L) ≤ 256 ∧ (sets L).length = plc (treeE L) := by
  obtain ⟨h512, hE⟩ := meas_expr hz
  obtain ⟨hone, hok, hops⟩ := tree_of hE hwd
  have h1 := plc_ops (treeE L)
  have h2 := sets_ops (treeE L) hok
  rw [hops] at h1 h2
  exact ⟨by omega, h2⟩
set_option maxHeartbeats 2000000 in
set_option maxRecDepth 100000 in
theorem rFirst_calls {C : Nat → Prop} {v : Value} {L : List Stp} {w : World} (h : SlX C w v L) (hC : ∀ b, C b → b < w.heap.size) (hwd : ∀ s ∈ L, s.wide) : Calls Tryd.prog 15 #[v] w (RetZ w (spI (elems (prtL L).first))) := by
  have HK := hidden (rcheck_slX h)
  by_cases hz : (measV L).2 = 0
  · obtain ⟨h512, hE⟩ := meas_expr hz
    obtain ⟨hone, hok, hops⟩ := tree_of hE hwd
    have hpos := expr_ne hE
    obtain ⟨b, off, cap, rfl, hL, hc, hm⟩ := sl_lay h hC hpos
    have HE := hidden (show TellZ b off cap L false (L.length - 1) (spI (elems (prtL L).first)) from by
      have h1 := rends (b := b) (off := off) (cap := cap) false h512 hc hm (treeE L) hok [] [] (L.length - 1) (by rw [hops]; simp) (by rw [hops]; simp; omega)
      have h2 : elems (prtL L).first = endE false (treeE L) (sets []).length := by
        unfold prtL
        rw [if_pos hz]
        exact endE_elems (last := false) (by have := (expr_plc hz hwd).1; omega)
      rw [h2]
      exact h1)
    have HL := hidden hL
    have hsub : IntKind.i64.wrap ((L.length : Int) - 1) = ((L.length - 1 : Nat) : Int) := by rw [IntKind.wrap_i64]; omega
    rw [hz] at HK
    generalize hR : spI (elems (prtL L).first) = R at *
    obtain ⟨j, hj⟩ : ∃ j, j = L.length - 1 := ⟨_, rfl⟩
    rw [← hj] at hsub HE
    obtain ⟨n, hn⟩ : ∃ n, n = L.length := ⟨_, rfl⟩
    have HNN := hidden hn.symm
    rw [← hn] at hsub HK ⊢
    clear h hC hwd hE hone hok hops hpos hL hR hn hj hz hc hm h512
    go_enter Tryd.func15, Tryd.ntmps15
    go_wp2_with fail
    refine HK.out.mono ?_
    rintro e w1 ⟨rfl, rfl⟩
    go_wp2_with fail
    rw [← HNN.out]
    refine (HE.out w HL.out).mono ?_
    rintro e w1 ⟨u, rfl, hr, hb⟩
    go_wp2
    go_ret
    exact ⟨_, rfl, hr, hb⟩
  · have hR : spI (elems (prtL L).first) = [] := by
      unfold prtL
      rw [if_neg hz, elems_none, spI_nil]
    rw [hR]
    have HR := hidden (RowZ.lit w w.heap.size rfl #[] rfl)
    have HB := hidden ((Below.refl w.heap.size w).alloc (Nat.le_refl _) (.cells #[] 3))
    have hne : ((measV L).2 != 0) = true := by simpa using hz
    obtain ⟨a, cap, rfl, _⟩ := h
    generalize (measV L).2 = m at *
    clear hC hwd hz hR
    go_enter Tryd.func15, Tryd.ntmps15
    go_wp2_with fail
    refine HK.out.mono ?_
    rintro e w1 ⟨rfl, rfl⟩
    go_wp2
    go_ret
    exact ⟨_, rfl, HR.out, HB.out⟩
set_option maxHeartbeats 2000000 in
set_option maxRecDepth 100000 in
theorem rLast_calls {C : Nat → Prop} {v : Value} {L : List Stp} {w : World} (h : SlX C w v L) (hC : ∀ b, C b → b < w.heap.size) (hwd : ∀ s ∈ L, s.wide) : Calls Tryd.prog 17 #[v] w (RetZ w (spI (elems (prtL L).last))) := by
  have HK := hidden (rcheck_slX h)
  by_cases hz : (measV L).2 = 0
  · obtain ⟨h512, hE⟩ := meas_expr hz
    obtain ⟨hone, hok, hops⟩ := tree_of hE hwd
    have hpos := expr_ne hE
    obtain ⟨b, off, cap, rfl, hL, hc, hm⟩ := sl_lay h hC hpos
    have HE := hidden (show TellZ b off cap L true (L.length - 1) (spI (elems (prtL L).last)) from by
      have h1 := rends (b := b) (off := off) (cap := cap) true h512 hc hm (treeE L) hok [] [] (L.length - 1) (by rw [hops]; simp) (by rw [hops]; simp; omega)
      have h2 : elems (prtL L).last = endE true (treeE L) (sets []).length := by
        unfold prtL
        rw [if_pos hz]
        exact endE_elems (last := true) (by have := (expr_plc hz hwd).1; omega)
      rw [h2]
      exact h1)
    have HL := hidden hL
    have hsub : IntKind.i64.wrap ((L.length : Int) - 1) = ((L.length - 1 : Nat) : Int) := by rw [IntKind.wrap_i64]; omega
    rw [hz] at HK
    generalize hR : spI (elems (prtL L).last) = R at *
    obtain ⟨j, hj⟩ : ∃ j, j = L.length - 1 := ⟨_, rfl⟩
    rw [← hj] at hsub HE
    obtain ⟨n, hn⟩ : ∃ n, n = L.length := ⟨_, rfl⟩
    have HNN := hidden hn.symm
    rw [← hn] at hsub HK ⊢
    clear h hC hwd hE hone hok hops hpos hL hR hn hj hz hc hm h512
    go_enter Tryd.func17, Tryd.ntmps17
    go_wp2_with fail
    refine HK.out.mono ?_
    rintro e w1 ⟨rfl, rfl⟩
    go_wp2_with fail
    rw [← HNN.out]
    refine (HE.out w HL.out).mono ?_
    rintro e w1 ⟨u, rfl, hr, hb⟩
    go_wp2
    go_ret
    exact ⟨_, rfl, hr, hb⟩
  · have hR : spI (elems (prtL L).last) = [] := by
      unfold prtL
      rw [if_neg hz, elems_none, spI_nil]
    rw [hR]
    have HR := hidden (RowZ.lit w w.heap.size rfl #[] rfl)
    have HB := hidden ((Below.refl w.heap.size w).alloc (Nat.le_refl _) (.cells #[] 3))
    have hne : ((measV L).2 != 0) = true := by simpa using hz
    obtain ⟨a, cap, rfl, _⟩ := h
    generalize (measV L).2 = m at *
    clear hC hwd hz hR
    go_enter Tryd.func17, Tryd.ntmps17
    go_wp2_with fail
    refine HK.out.mono ?_
    rintro e w1 ⟨rfl, rfl⟩
    go_wp2
    go_ret
    exact ⟨_, rfl, HR.out, HB.out⟩
set_option maxHeartbeats 2000000 in
set_option maxRecDepth 100000 in
theorem rFree_calls {C : Nat → Prop} {v : Value} {L : List Stp} {w : World} (h : SlX C w v L) (hC : ∀ b, C b → b < w.heap.size) (hwd : ∀ s ∈ L, s.wide) : Calls Tryd.prog 21 #[v] w fun e w' => e = .returned (.bool (prtL L).free) ∧ w = w' := by
  have HK := hidden (rcheck_slX h)
  by_cases hz : (measV L).2 = 0
  · obtain ⟨h512, hE⟩ := meas_expr hz
    obtain ⟨hone, hok, hops⟩ := tree_of hE hwd
    have hpos := expr_ne hE
    obtain ⟨b, off, cap, rfl, hL, hc, hm⟩ := sl_lay h hC hpos
    have HE := hidden (show Tell b off cap L 56 (L.length - 1) (.bool (prtL L).free) from by
      have h1 := rfree (b := b) (off := off) (cap := cap) (L := L) (by omega) (treeE L) hok [] [] (L.length - 1) (by rw [hops]; simp) (by rw [hops]; simp; omega)
      unfold prtL
      rw [if_pos hz]
      exact h1)
    have HL := hidden hL
    have hsub : IntKind.i64.wrap ((L.length : Int) - 1) = ((L.length - 1 : Nat) : Int) := by rw [IntKind.wrap_i64]; omega
    rw [hz] at HK
    generalize hR : (prtL L).free = R at *
    obtain ⟨j, hj⟩ : ∃ j, j = L.length - 1 := ⟨_, rfl⟩
    rw [← hj] at hsub HE
    obtain ⟨n, hn⟩ : ∃ n, n = L.length := ⟨_, rfl⟩
    have HNN := hidden hn.symm
    rw [← hn] at hsub HK ⊢
    clear h hC hwd hE hone hok hops hpos hL hR hn hj hz hc hm h512
    go_enter Tryd.func21, Tryd.ntmps21
    go_wp2_with fail
    refine HK.out.mono ?_
    rintro e w1 ⟨rfl, rfl⟩
    go_wp2_with fail
    rw [← HNN.out]
    refine (HE.out w HL.out).mono ?_
    rintro e w1 ⟨rfl, rfl⟩
    go_wp2
    go_ret
    exact ⟨rfl, rfl⟩
  · have hR : (prtL L).free = false := by
      unfold prtL
      rw [if_neg hz]
    rw [hR]
    have hne : ((measV L).2 == 0) = false := by simpa using hz
    obtain ⟨a, cap, rfl, _⟩ := h
    generalize (measV L).2 = m at *
    clear hC hwd hz hR
    go_enter Tryd.func21, Tryd.ntmps21
    go_wp2_with fail
    refine HK.out.mono ?_
    rintro e w1 ⟨rfl, rfl⟩
    go_wp2
    go_ret
    exact ⟨rfl, rfl⟩
/-- those below m that are hit -/
def hits (G : Nat → Bool) (m : Nat) : List Nat := (List.range m).filter G
theorem hits_more (G : Nat → Bool) (m : Nat) : hits G (m + 1) = if G m = true then hits G m ++ [m] else hits G m := by
  unfold hits
  rw [List.range_succ, List.filter_append]
  cases h : G m <;> simp [h]
theorem hits_len (G : Nat → Bool) (m : Nat) : (hits G m).length ≤ m := Nat.le_trans (List.length_filter_le _ _) (by simp)
theorem hits_zero (G : Nat → Bool) : hits G 0 = [] := rfl
set_option maxHeartbeats 4000000 in
set_option maxRecDepth 100000 in
theorem rfollow_gen {a : Option Addr} {n cap : Nat} {w : World} {i : Int} {S : List Stp} {F : Nat → Nat → Bool} {m : Nat} (hm : m = S.length) (hm2 : m ≤ 1000)
    (HS : ∀ w', Below w.heap.size w w' → Calls Tryd.prog 12 #[.slice a n cap] w' (RetS w' S))
    (HF : ∀ w', Below w.heap.size w w' → ∀ p q : Nat, p < m → q < m → Calls Tryd.prog 55 #[.slice a n cap, .int .i64 p, .int .i64 q] w' fun e w'' => e = .returned (.bool (F p q)) ∧ Below w'.heap.size w' w'') :
    Calls Tryd.prog 19 #[.slice a n cap, .int .i64 i] w (RetZ w (spI (hits (fun q => decide (0 ≤ i ∧ i < m) && F i.toNat q) m))) := by
  have hb0 := (Below.refl w.heap.size w).alloc (Nat.le_refl _) (.cells #[] 3)
  have HN := hidden (RowZ.lit w w.heap.size rfl #[] rfl)
  have HB0 := hidden hb0
  have HS0 := hidden (HS _ hb0)
  have HFF := hidden HF
  obtain ⟨P, hP⟩ : ∃ P : Nat → List Nat, P = hits (fun q => decide (0 ≤ i ∧ i < m) && F i.toNat q) := ⟨_, rfl⟩
  have H0 := hidden (show spI (P 0) = [] by rw [hP, hits_zero, spI_nil])
  have HLN := hidden (fun k => (show (spI (P k)).length ≤ k by rw [hP, spI_len]; exact hits_len _ k))
  have HT := hidden (fun k => (show spI (P (k + 1)) = if (decide (0 ≤ i ∧ i < m) && F i.toNat k) = true then spI (P k) ++ [(k : Int)] else spI (P k) by
    rw [hP, hits_more]
    split
    · rw [spI_more]
    · rfl))
  rw [show hits (fun q => decide (0 ≤ i ∧ i < m) && F i.toNat q) = P from hP.symm]
  clear HS HF hb0 hP
  go_enter Tryd.func19, Tryd.ntmps19
  go_wp2_with fail
  refine HS0.out.mono ?_
  rintro e w1 ⟨u, rfl, hr, hb⟩
  have HB1 := hidden (below_then HB0.out HB0.out.size hb)
  have HN1 := hidden (HN.out.kept hb)
  have hu : ∃ a' c', u = .slice a' m c' := by
    rcases ownsRow_forms hr with ⟨rfl, h⟩ | ⟨g, c, rfl⟩
    · exact ⟨none, 0, by rw [hm, h]⟩
    · exact ⟨some ⟨g, 0, none⟩, c, by rw [hm]⟩
  obtain ⟨a', c', rfl⟩ := hu
  clear hr hb hm
  go_wp2
  go_loopw [5, 7] (fun v j wr => ∃ (k : Nat) (o : Value), k ≤ m ∧ o = v ∧ j = .int .i64 k ∧ RowZ wr w.heap.size o (spI (P k)) ∧ Below w.heap.size w wr) (fun _ j _ => m - (intOf j).toNat)
  case atStart => exact ⟨0, _, by omega, rfl, rfl, by rw [H0.out]; exact HN1.out, HB1.out⟩
  case round =>
    obtain ⟨k, o, hk, rfl, rfl, hG, hb⟩ := hrel
    have HG := hidden hG
    have HB := hidden hb
    have hsz := hb.size
    clear hG hb
    by_cases hlt : k < m
    · have HTK := hidden (HT.out k)
      have hln := HLN.out k
      obtain ⟨q, hq⟩ : ∃ q, q = (spI (P k)).length := ⟨_, rfl⟩
      rw [← hq] at hln
      have HM := hidden hq.symm
      have hlt' := hlt
      clear hq
      by_cases hi : 0 ≤ i ∧ i < m
      · obtain ⟨p, rfl⟩ : ∃ p : Nat, i = p := ⟨i.toNat, by omega⟩
        have HC := hidden (HFF.out wr HB.out p k (by omega) hlt)
        have hd0 : decide (0 ≤ (p : Int)) = true := decide_eq_true hi.1
        have hd1 : decide ((p : Int) < (m : Int)) = true := decide_eq_true hi.2
        have hd2 : decide (p < m) = true := decide_eq_true (by omega)
        have HD := hidden (show decide (0 ≤ (p : Int) ∧ (p : Int) < m) = true from decide_eq_true hi)
        rw [HD.out, Bool.true_and, Int.toNat_natCast] at HTK
        clear hi
        generalize F p k = f at *
        cases f
        · have HR := hidden (show spI (P (k + 1)) = spI (P k) by rw [HTK.out]; rfl)
          go_wp2_with fail
          refine HC.out.mono ?_
          rintro e w2 ⟨rfl, hb2⟩
          have HB2 := hidden (below_after HB.out hb2)
          have HG2 := hidden (HG.out.kept hb2)
          clear hb2
          go_wp2
          go_roundw
          case rel => exact ⟨k + 1, _, by omega, rfl, by go_num, by rw [HR.out]; exact HG2.out, HB2.out⟩
          case measure => simp [intOf]; omega
        · have HR := hidden (show spI (P (k + 1)) = spI (P k) ++ [(k : Int)] by rw [HTK.out]; rfl)
          go_wp2_with fail
          refine HC.out.mono ?_
          rintro e w2 ⟨rfl, hb2⟩
          have HB2 := hidden (below_after HB.out hb2)
          have HG2 := hidden ((HG.out.kept hb2).kept ((Below.refl w2.heap.size w2).alloc (Nat.le_refl _) (.cells #[.int .i64 (k : Int)] 3)))
          have HBA := hidden (HB2.out.alloc HB2.out.size (.cells #[.int .i64 (k : Int)] 3))
          clear hb2
          go_wp2_with (at_builtin; refine app_z rfl _ _ rfl rfl HG2.out rfl (heap_alloc_new w2 _) HM.out (by omega) HBA.out.size ?_; intro g' c3 w3 hr3 hg3 hb3; have HR3 := hidden hr3; have HB3 := hidden (HBA.out.trans hb3); clear hr3 hg3 hb3)
          go_roundw
          case rel => exact ⟨k + 1, _, by omega, rfl, by go_num, by rw [HR.out]; exact HR3.out, HB3.out⟩
          case measure => simp [intOf]; omega
      · have HD := hidden (show decide (0 ≤ i ∧ i < m) = false from decide_eq_false hi)
        have HR := hidden (show spI (P (k + 1)) = spI (P k) by rw [HTK.out, HD.out]; rfl)
        by_cases h0 : 0 ≤ i
        · have hd0 : decide (0 ≤ i) = true := decide_eq_true h0
          have hd1 : decide (i < (m : Int)) = false := decide_eq_false (by omega)
          clear hi h0
          go_wp2
          go_roundw
          case rel => exact ⟨k + 1, _, by omega, rfl, by go_num, by rw [HR.out]; exact HG.out, HB.out⟩
          case measure => simp [intOf]; omega
        · have hd0 : decide (0 ≤ i) = false := decide_eq_false h0
          clear hi h0
          go_wp2
          go_roundw
          case rel => exact ⟨k + 1, _, by omega, rfl, by go_num, by rw [HR.out]; exact HG.out, HB.out⟩
          case measure => simp [intOf]; omega
    · have e : k = m := by omega
      subst e
      go_wp2
      go_ret
      exact ⟨_, rfl, HG.out, HB.out⟩
theorem folL_elems {L : List Stp} {i : Int} (hz : (measV L).2 = 0) (hwd : ∀ s ∈ L, s.wide) : elems (folL i L) = hits (fun q => decide (0 ≤ i ∧ i < (plc (treeE L) : Nat)) && (met (treeE L) 0).any (pq i.toNat q)) (plc (treeE L)) := by
  have hp := (expr_plc hz hwd).1
  refine nup_ext (elems_up _) (List.Pairwise.filter _ List.pairwise_lt_range) fun q => ?_
  rw [elems_mem]
  unfold hits folL
  rw [if_pos hz]
  simp only [List.mem_filter, List.mem_range, Bool.and_eq_true, decide_eq_true_eq]
  by_cases h256 : 0 ≤ i ∧ i < 256
  · obtain ⟨p, rfl⟩ : ∃ p : Nat, i = p := ⟨i.toNat, by omega⟩
    rw [folG_all p (by omega), Int.toNat_natCast]
    have e : (met (treeE L) 0).any (pq p q) = gE (treeE L) 0 p q := met_iff (treeE L) 0 p q
    have e2 : ((met (treeE L) 0).any fun x => x.1.last p && x.2.first q) = gE (treeE L) 0 p q := met_iff (treeE L) 0 p q
    rw [e, e2]
    simp only [fNone, Bool.false_or]
    constructor
    · rintro ⟨_, h⟩
      have := gE_in _ _ _ _ h
      exact ⟨by omega, ⟨by omega, by omega⟩, h⟩
    · rintro ⟨h1, _, h⟩
      exact ⟨by omega, h⟩
  · have key : ∀ (D : List (Prt × Prt)) (G : Nat → Bool), D.foldl (fun G x => folG i G x.1 x.2) G = G := fun D => by
      induction D with
      | nil => intro G; rfl
      | cons x r ih => intro G; rw [List.foldl_cons, ih, folG_out i h256]
    rw [key]
    simp only [fNone]
    constructor
    · rintro ⟨_, h⟩; cases h
    · rintro ⟨_, ⟨h1, h2⟩, _⟩; omega
theorem rFollow_calls {C : Nat → Prop} {v : Value} {L : List Stp} {w : World} (i : Int) (h : SlX C w v L) (hC : ∀ b, C b → b < w.heap.size) (hwd : ∀ s ∈ L, s.wide) : Calls Tryd.prog 19 #[v, .int .i64 i] w (RetZ w (spI (elems (folL i L)))) := by
  by_cases hz : (measV L).2 = 0
  · obtain ⟨h512, hE⟩ := meas_expr hz
    have hpos := expr_ne hE
    obtain ⟨hp, hsl⟩ := expr_plc hz hwd
    rw [folL_elems hz hwd]
    obtain ⟨b, off, cap, rfl, hL, hc, hm⟩ := sl_lay h hC hpos
    refine rfollow_gen (S := sets L) hsl.symm (by omega) (fun w' hb => ?_) (fun w' hb p q _ _ => rfollows_calls p q (hL.below hb) hz hwd hc hm)
    exact rsets_calls ((hL.below hb).sl hc hm) (fun b hb => hb) hz h512
  · have e : elems (folL i L) = hits (fun q => decide (0 ≤ i ∧ i < (0 : Nat)) && false) 0 := by
      unfold folL
      rw [if_neg hz, elems_none]
      rfl
    rw [e]
    have h' := fun w' (hb : Below w.heap.size w w') => rsets_none (h.below (C' := fun b => b < w'.heap.size) (w' := w') fun b hb' => ⟨by have := hb.size; have := hC b hb'; omega, hb.block b (hC b hb')⟩) (fun b hb => hb) hz
    obtain ⟨a, cap, rfl, _⟩ := h
    exact rfollow_gen (F := fun _ _ => false) (S := []) rfl (by omega) h' (fun w' hb p q hp _ => by omega)
end Go.Proofs.YtbokhofdgdcpdaaDoor

/- What every statement of stage 10 knows besides: the chapter's example. -/
namespace Go.Proofs.YtbokhofdgdcpdaaDoor
open Go.RowKit Go.Lib Go.Joins
theorem k_sets : (sets kL).length = 3 := by decide +kernel
theorem k_ok : (measV kL).2 = 0 := by decide +kernel
theorem k_first : elems (prtL kL).first = [0, 1, 2] := by decide +kernel
theorem k_last : elems (prtL kL).last = [2] := by decide +kernel
theorem k_fol : elems (folL 0 kL) = [0, 1, 2] := by decide +kernel
theorem k_free : (prtL kL).free = false := by decide +kernel
theorem kL_len : kL.length = 6 := rfl
theorem k_wide : ∀ s ∈ kL, s.wide := by
  intro s hs
  simp only [kL, List.mem_cons, List.not_mem_nil, or_false] at hs
  have hk : ∀ k, (kStp k).wide := fun k => ⟨by simp [kStp], by simp [kStp], by simp [kStp], by simp [kStp]⟩
  have hb : ∀ c, (bS c).wide := fun c => by
    have h := fun i => word_lt (fOne c.toNat) i
    exact ⟨⟨Int.natCast_nonneg _, by have := h 0; simp only [bS, sStp]; omega⟩, ⟨Int.natCast_nonneg _, by have := h 1; simp only [bS, sStp]; omega⟩, ⟨Int.natCast_nonneg _, by have := h 2; simp only [bS, sStp]; omega⟩, ⟨Int.natCast_nonneg _, by have := h 3; simp only [bS, sStp]; omega⟩⟩
  rcases hs with rfl | rfl | rfl | rfl | rfl | rfl
  · exact hb _
  · exact hb _
  · exact hk _
  · exact hk _
  · exact hb _
  · exact hk _
theorem rowz_lits (w : World) (l : List Int) (b n : Nat) (hb : b = w.heap.size) (hn : n = l.length) (hl : n ≤ 1000) (cur : Array Value) (hc : cur = (l.map (Value.int .i64)).toArray) : RowZ (w.alloc (.cells cur 3)) w.heap.size (.slice (some ⟨b, 0, none⟩) n n) l := by
  subst hb hc hn
  unfold RowZ
  have h := World.ownsRow_lit (e := 3) (size := 1) w (l.map (Value.int .i64)).toArray l.length (Nat.le_refl _) (by unfold maxLen; omega) (by simp)
  simpa using h
theorem rowS_slice {w : World} {base : Nat} {v : Value} {S : List Stp} (h : RowS w base v S) : ∃ a c, v = .slice a S.length c := by
  rcases ownsRow_forms h with ⟨rfl, h0⟩ | ⟨g, cap, rfl⟩
  · exact ⟨none, 0, by rw [h0]⟩
  · exact ⟨_, _, rfl⟩
set_option maxHeartbeats 4000000 in
set_option maxRecDepth 100000 in
theorem knows10_calls (w : World) (ht : Tab w) : Calls Tryd.prog 10 #[] w fun e w' => e = .returned (.bool true) ∧ Below w.heap.size w w' := by
  have HT := hidden ht
  clear ht
  go_enter Tryd.func10, Tryd.ntmps10
  go_wp2_with fail
  refine (k_read _).mono ?_
  rintro e w1 ⟨⟨v, rfl, hr⟩, hb1⟩
  have HV1 := hidden hr.reads
  have HB1 := hidden hb1
  obtain ⟨a1, l1, c1, rfl⟩ := rowX_slice hr
  clear hr hb1
  go_wp2_with fail
  refine (sets_calls HV1.out (fun b hb => hb.2) k_ok (by rw [kL_len]; omega)).mono ?_
  rintro e w2 ⟨u, rfl, hr2, hb2⟩
  obtain ⟨a2, c2, rfl⟩ := rowS_slice hr2
  rw [k_sets]
  have HV2 := hidden (HV1.out.kept hb2)
  have HB2 := hidden (below_after HB1.out hb2)
  clear hb2 hr2
  go_wp2_with fail
  refine (spFirst_calls HV2.out (fun b hb => hb.2) k_wide (HT.out.below HB2.out)).mono ?_
  rintro e w3 ⟨u, rfl, hr3, hb3⟩
  rw [k_first] at hr3
  have HV3 := hidden (HV2.out.kept hb3)
  have HB3 := hidden (below_after HB2.out hb3)
  obtain ⟨a3, c3, rfl⟩ := hr3.form
  have HS3 := hidden (rsame09_calls (B := (w3.alloc (.cells #[.int .i64 0, .int .i64 1, .int .i64 2] 3)).heap.size) (hr3.reads.later ((Below.refl _ _).alloc (Nat.le_refl _) (.cells #[.int .i64 0, .int .i64 1, .int .i64 2] 3))) (rowz_lits w3 [0, 1, 2] _ 3 rfl rfl (by omega) #[.int .i64 0, .int .i64 1, .int .i64 2] rfl).reads)
  rw [show decide (spI [0, 1, 2] = [0, 1, 2]) = true by unfold spI; rfl] at HS3
  clear hb3 hr3
  go_wp2_with fail
  refine HS3.out.mono ?_
  rintro e w4 ⟨rfl, hb4⟩
  have HB43 := hidden (below_then ((Below.refl w3.heap.size w3).alloc (Nat.le_refl _) _) (by simp) hb4)
  have HV4 := hidden (HV3.out.kept HB43.out)
  have HB4 := hidden (below_after HB3.out HB43.out)
  clear hb4
  go_wp2_with fail
  refine (spLast_calls HV4.out (fun b hb => hb.2) k_wide (HT.out.below HB4.out)).mono ?_
  rintro e w5 ⟨u, rfl, hr5, hb5⟩
  rw [k_last] at hr5
  have HV5 := hidden (HV4.out.kept hb5)
  have HB5 := hidden (below_after HB4.out hb5)
  obtain ⟨a5, c5, rfl⟩ := hr5.form
  have HS5 := hidden (rsame09_calls (B := (w5.alloc (.cells #[.int .i64 2] 3)).heap.size) (hr5.reads.later ((Below.refl _ _).alloc (Nat.le_refl _) (.cells #[.int .i64 2] 3))) (rowz_lits w5 [2] _ 1 rfl rfl (by omega) #[.int .i64 2] rfl).reads)
  rw [show decide (spI [2] = [2]) = true by unfold spI; rfl] at HS5
  clear hb5 hr5
  go_wp2_with fail
  refine HS5.out.mono ?_
  rintro e w6 ⟨rfl, hb6⟩
  have HB65 := hidden (below_then ((Below.refl w5.heap.size w5).alloc (Nat.le_refl _) _) (by simp) hb6)
  have HV6 := hidden (HV5.out.kept HB65.out)
  have HB6 := hidden (below_after HB5.out HB65.out)
  clear hb6
  go_wp2_with fail
  refine (spFollow_calls 0 HV6.out (fun b hb => hb.2) k_wide (HT.out.below HB6.out)).mono ?_
  rintro e w7 ⟨u, rfl, hr7, hb7⟩
  rw [k_fol] at hr7
  have HV7 := hidden (HV6.out.kept hb7)
  have HB7 := hidden (below_after HB6.out hb7)
  obtain ⟨a7, c7, rfl⟩ := hr7.form
  have HS7 := hidden (rsame09_calls (B := (w7.alloc (.cells #[.int .i64 0, .int .i64 1, .int .i64 2] 3)).heap.size) (hr7.reads.later ((Below.refl _ _).alloc (Nat.le_refl _) (.cells #[.int .i64 0, .int .i64 1, .int .i64 2] 3))) (rowz_lits w7 [0, 1, 2] _ 3 rfl rfl (by omega) #[.int .i64 0, .int .i64 1, .int .i64 2] rfl).reads)
  rw [show decide (spI [0, 1, 2] = [0, 1, 2]) = true by unfold spI; rfl] at HS7
  clear hb7 hr7
  go_wp2_with fail
  refine HS7.out.mono ?_
  rintro e w8 ⟨rfl, hb8⟩
  have HB87 := hidden (below_then ((Below.refl w7.heap.size w7).alloc (Nat.le_refl _) _) (by simp) hb8)
  have HV8 := hidden (HV7.out.kept HB87.out)
  have HB8 := hidden (below_after HB7.out HB87.out)
  clear hb8
  go_wp2_with fail
  refine (spFree_calls HV8.out (fun b hb => hb.2) k_wide).mono ?_
  rintro e w9 ⟨rfl, hb9⟩
  rw [k_free]
  have HB9 := hidden (below_after HB8.out hb9)
  clear hb9
  go_wp2
  go_ret
  exact ⟨rfl, HB9.out⟩
end Go.Proofs.YtbokhofdgdcpdaaDoor

/- A region that draws its order, whose own operations only read, and whose callees may lay blocks but hand back plain values: walked once, in the text's order. -/
namespace Go.Proofs.YtbokhofdgdcpdaaDoor
open Go.RowKit

/-- a world behind w: of what was there nothing has turned -/
structure Later (w : World) where
  at' : World
  ok : Below w.heap.size w at'
instance later_one (w : World) : Nonempty (Later w) := ⟨⟨w, Below.refl _ _⟩⟩
theorem wp_region_later {P : Program} {id : Nat} {Q : Exit → Act → World → Prop} {a : Act} {w : World} {l : List Oper} (hm : P.follows .mixedOrders = true) (hB : Region.lexB .any l.toArray = true)
    (h : wpQuiet P l.toArray (fun w' => ∃ p : Later w, w' = p.at') (fun a' => ∀ w', (∃ p : Later w, w' = p.at') → Q .normal a' w') l a) : (Code.region id l.toArray true).wp P Q a w :=
  wp_region_quiet (C := fun w' => ∃ p : Later w, w' = p.at') hm hB ⟨⟨w.drew, (Below.refl _ _).drew⟩, rfl⟩ (by simpa using h)
theorem Later.cell {w : World} {a : Addr} {v : Value} (h : w.cell? a = some v) (ha : a.block < w.heap.size) (p : Later w) : p.at'.cell? a = some v := (p.ok.cell ha).trans h
theorem Later.calls {P : Program} {f : FuncId} {args : Array Value} {w : World} {p : Later w} {v : Value}
    (h : Calls P f args p.at' fun e w' => e = .returned v ∧ Below p.at'.heap.size p.at' w') : Calls P f args p.at' fun e w'' => e = .returned v ∧ ∃ q : Later w, w'' = q.at' :=
  h.mono fun _ w'' ⟨he, hb⟩ => ⟨he, ⟨w'', below_after p.ok hb⟩, rfl⟩
theorem Later.same {P : Program} {f : FuncId} {args : Array Value} {w : World} {p : Later w} {v : Value}
    (h : Calls P f args p.at' fun e w' => e = .returned v ∧ p.at' = w') : Calls P f args p.at' fun e w'' => e = .returned v ∧ ∃ q : Later w, w'' = q.at' :=
  h.mono fun _ _ ⟨he, hb⟩ => ⟨he, p, hb.symm⟩
theorem PairAt.later0 {t : TypeId} {w : World} {B : Nat} {a b : Int} (h : PairAt t w B a b) (p : Later w) : p.at'.cell? ⟨B, 0, none⟩ = some (.int .i64 a) := Later.cell h.facts.1 h.lt p
theorem PairAt.later1 {t : TypeId} {w : World} {B : Nat} {a b : Int} (h : PairAt t w B a b) (p : Later w) : p.at'.cell? ⟨B, 1, none⟩ = some (.int .i64 b) := Later.cell h.facts.2.1 h.lt p
end Go.Proofs.YtbokhofdgdcpdaaDoor
