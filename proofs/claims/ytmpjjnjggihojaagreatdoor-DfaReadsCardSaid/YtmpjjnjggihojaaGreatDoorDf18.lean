/- SpRef, FuHave, FuWith, FuJoin, put together. -/
import Derived.Test.YtmpjjnjggihojaaGreatDoorDf17
import Derived.Test.YtmpjjnjggihojaaGreatDoorDf14
import Derived.Test.YtmpjjnjggihojaaGreatDoorDf02
import Derived.Laws.MakeOwn
import Derived.Deep.OwnRows
import Derived.Lib.SmallJoins
/- Contracts of the reference's First, Last, Free and Follow. -/
namespace Go.Proofs.YtmpjjnjggihojaaGreatDoor
open Go.RowKit Go.Lib Go.Joins
theorem elems_none : elems fNone = [] := by
  refine nup_ext (elems_up _) .nil fun p => ?_
  rw [elems_mem]
  simp [fNone]
theorem sl_lay {C : Nat → Prop} {v : Value} {L : List Stp} {w : World} (h : SlX C w v L) (hC : ∀ b, C b → b < w.heap.size) (hpos : 0 < L.length) : ∃ b off cap, v = .slice (some ⟨b, off, none⟩) L.length cap ∧ Lay b off L w ∧ L.length ≤ cap ∧ cap ≤ maxLen := by
  obtain ⟨a, cap, rfl, h1, h2, _, hS⟩ := h
  obtain ⟨b, off, rfl, hCb, hc⟩ := hS.2 hpos
  exact ⟨b, off, cap, rfl, ⟨hC b hCb, hc⟩, h1, h2⟩
theorem expr_plc {L : List Stp} (hz : (measV L).2 = 0) (hwd : ∀ s ∈ L, s.wide) : plc (treeE L) ≤ 256 ∧ (sets L).length = plc (treeE L) := by
  obtain ⟨h512, hE⟩ := meas_expr hz
  obtain ⟨hone, hok, hops⟩ := tree_of hE hwd
  have h1 := plc_ops (treeE L)
  have h2 := sets_ops (treeE L) hok
  rw [hops] at h1 h2
  exact ⟨by omega, h2⟩
set_option maxHeartbeats 2000000 in
set_option maxRecDepth 100000 in
theorem rFirst_calls {C : Nat → Prop} {v : Value} {L : List Stp} {w : World} (h : SlX C w v L) (hC : ∀ b, C b → b < w.heap.size) (hwd : ∀ s ∈ L, s.wide) : Calls Tryz.prog 47 #[v] w (RetZ w (spI (elems (prtL L).first))) := by
  have HK := hidden (rcheck_slX h)
  by_cases hz : (measV L).2 = 0
  · obtain ⟨h512, hE⟩ := meas_expr hz
    obtain ⟨hone, hok, hops⟩ := tree_of hE hwd
    have hpos := expr_ne hE
    obtain ⟨b, off, cap, rfl, hL, hc, hm⟩ := sl_lay h hC hpos
    have HE := hidden (show TellZ b off cap L false (L.length - 1) (spI (elems (prtL L).first)) from by
      have h1 := rends (b := b) (off := off) (cap := cap) false h512 hc hm (treeE L) hok [] [] (L.length - 1) (by rw [hops]; simp) (by rw [hops]; simp; omega)
      have h2 : elems (prtL L).first = endE false (treeE L) (sets []).length := by
        unfold prtL
        rw [if_pos hz]
        exact endE_elems (last := false) (by have := (expr_plc hz hwd).1; omega)
      rw [h2]
      exact h1)
    have HL := hidden hL
    have hsub : IntKind.i64.wrap ((L.length : Int) - 1) = ((L.length - 1 : Nat) : Int) := by rw [IntKind.wrap_i64]; omega
    rw [hz] at HK
    generalize hR : spI (elems (prtL L).first) = R at *
    obtain ⟨j, hj⟩ : ∃ j, j = L.length - 1 := ⟨_, rfl⟩
    rw [← hj] at hsub HE
    obtain ⟨n, hn⟩ : ∃ n, n = L.length := ⟨_, rfl⟩
    have HNN := hidden hn.symm
    rw [← hn] at hsub HK ⊢
    clear h hC hwd hE hone hok hops hpos hL hR hn hj hz hc hm h512
    go_enter Tryz.func47, Tryz.ntmps47
    go_wp2_with fail
    refine HK.out.mono ?_
    rintro e w1 ⟨rfl, rfl⟩
    go_wp2_with fail
    rw [← HNN.out]
    refine (HE.out w HL.out).mono ?_
    rintro e w1 ⟨u, rfl, hr, hb⟩
    go_wp2
    go_ret
    exact ⟨_, rfl, hr, hb⟩
  · have hR : spI (elems (prtL L).first) = [] := by
      unfold prtL
      rw [if_neg hz, elems_none, spI_nil]
    rw [hR]
    have HR := hidden (RowZ.lit w w.heap.size rfl #[] rfl)
    have HB := hidden ((Below.refl w.heap.size w).alloc (Nat.le_refl _) (.cells #[] 3))
    have hne : ((measV L).2 != 0) = true := by simpa using hz
    obtain ⟨a, cap, rfl, _⟩ := h
    generalize (measV L).2 = m at *
    clear hC hwd hz hR
    go_enter Tryz.func47, Tryz.ntmps47
    go_wp2_with fail
    refine HK.out.mono ?_
    rintro e w1 ⟨rfl, rfl⟩
    go_wp2
    go_ret
    exact ⟨_, rfl, HR.out, HB.out⟩
set_option maxHeartbeats 2000000 in
set_option maxRecDepth 100000 in
theorem rLast_calls {C : Nat → Prop} {v : Value} {L : List Stp} {w : World} (h : SlX C w v L) (hC : ∀ b, C b → b < w.heap.size) (hwd : ∀ s ∈ L, s.wide) : Calls Tryz.prog 43 #[v] w (RetZ w (spI (elems (prtL L).last))) := by
  have HK := hidden (rcheck_slX h)
  by_cases hz : (measV L).2 = 0
  · obtain ⟨h512, hE⟩ := meas_expr hz
    obtain ⟨hone, hok, hops⟩ := tree_of hE hwd
    have hpos := expr_ne hE
    obtain ⟨b, off, cap, rfl, hL, hc, hm⟩ := sl_lay h hC hpos
    have HE := hidden (show TellZ b off cap L true (L.length - 1) (spI (elems (prtL L).last)) from by
      have h1 := rends (b := b) (off := off) (cap := cap) true h512 hc hm (treeE L) hok [] [] (L.length - 1) (by rw [hops]; simp) (by rw [hops]; simp; omega)
      have h2 : elems (prtL L).last = endE true (treeE L) (sets []).length := by
        unfold prtL
        rw [if_pos hz]
        exact endE_elems (last := true) (by have := (expr_plc hz hwd).1; omega)
      rw [h2]
      exact h1)
    have HL := hidden hL
    have hsub : IntKind.i64.wrap ((L.length : Int) - 1) = ((L.length - 1 : Nat) : Int) := by rw [IntKind.wrap_i64]; omega
    rw [hz] at HK
    generalize hR : spI (elems (prtL L).last) = R at *
    obtain ⟨j, hj⟩ : ∃ j, j = L.length - 1 := ⟨_, rfl⟩
    rw [← hj] at hsub HE
    obtain ⟨n, hn⟩ : ∃ n, n = L.length := ⟨_, rfl⟩
    have HNN := hidden hn.symm
    rw [← hn] at hsub HK ⊢
    clear h hC hwd hE hone hok hops hpos hL hR hn hj hz hc hm h512
    go_enter Tryz.func43, Tryz.ntmps43
    go_wp2_with fail
    refine HK.out.mono ?_
    rintro e w1 ⟨rfl, rfl⟩
    go_wp2_with fail
    rw [← HNN.out]
    refine (HE.out w HL.out).mono ?_
    rintro e w1 ⟨u, rfl, hr, hb⟩
    go_wp2
    go_ret
    exact ⟨_, rfl, hr, hb⟩
  · have hR : spI (elems (prtL L).last) = [] := by
      unfold prtL
      rw [if_neg hz, elems_none, spI_nil]
    rw [hR]
    have HR := hidden (RowZ.lit w w.heap.size rfl #[] rfl)
    have HB := hidden ((Below.refl w.heap.size w).alloc (Nat.le_refl _) (.cells #[] 3))
    have hne : ((measV L).2 != 0) = true := by simpa using hz
    obtain ⟨a, cap, rfl, _⟩ := h
    generalize (measV L).2 = m at *
    clear hC hwd hz hR
    go_enter Tryz.func43, Tryz.ntmps43
    go_wp2_with fail
    refine HK.out.mono ?_
    rintro e w1 ⟨rfl, rfl⟩
    go_wp2
    go_ret
    exact ⟨_, rfl, HR.out, HB.out⟩
/-- those below m that are hit -/
def hits (G : Nat → Bool) (m : Nat) : List Nat := (List.range m).filter G
theorem hits_more (G : Nat → Bool) (m : Nat) : hits G (m + 1) = if G m = true then hits G m ++ [m] else hits G m := by
  unfold hits
  rw [List.range_succ, List.filter_append]
  cases h : G m <;> simp [h]
theorem hits_len (G : Nat → Bool) (m : Nat) : (hits G m).length ≤ m := Nat.le_trans (List.length_filter_le _ _) (by simp)
theorem hits_zero (G : Nat → Bool) : hits G 0 = [] := rfl
set_option maxHeartbeats 4000000 in
set_option maxRecDepth 100000 in
theorem rfollow_gen {a : Option Addr} {n cap : Nat} {w : World} {i : Int} {S : List Stp} {F : Nat → Nat → Bool} {m : Nat} (hm : m = S.length) (hm2 : m ≤ 1000)
    (HS : ∀ w', Below w.heap.size w w' → Calls Tryz.prog 42 #[.slice a n cap] w' (RetS w' S))
    (HF : ∀ w', Below w.heap.size w w' → ∀ p q : Nat, p < m → q < m → Calls Tryz.prog 63 #[.slice a n cap, .int .i64 p, .int .i64 q] w' fun e w'' => e = .returned (.bool (F p q)) ∧ Below w'.heap.size w' w'') :
    Calls Tryz.prog 46 #[.slice a n cap, .int .i64 i] w (RetZ w (spI (hits (fun q => decide (0 ≤ i ∧ i < m) && F i.toNat q) m))) := by
  have hb0 := (Below.refl w.heap.size w).alloc (Nat.le_refl _) (.cells #[] 3)
  have HN := hidden (RowZ.lit w w.heap.size rfl #[] rfl)
  have HB0 := hidden hb0
  have HS0 := hidden (HS _ hb0)
  have HFF := hidden HF
  obtain ⟨P, hP⟩ : ∃ P : Nat → List Nat, P = hits (fun q => decide (0 ≤ i ∧ i < m) && F i.toNat q) := ⟨_, rfl⟩
  have H0 := hidden (show spI (P 0) = [] by rw [hP, hits_zero, spI_nil])
  have HLN := hidden (fun k => (show (spI (P k)).length ≤ k by rw [hP, spI_len]; exact hits_len _ k))
  have HT := hidden (fun k => (show spI (P (k + 1)) = if (decide (0 ≤ i ∧ i < m) && F i.toNat k) = true then spI (P k) ++ [(k : Int)] else spI (P k) by
    rw [hP, hits_more]
    split
    · rw [spI_more]
    · rfl))
  rw [show hits (fun q => decide (0 ≤ i ∧ i < m) && F i.toNat q) = P from hP.symm]
  clear HS HF hb0 hP
  go_enter Tryz.func46, Tryz.ntmps46
  go_wp2_with fail
  refine HS0.out.mono ?_
  rintro e w1 ⟨u, rfl, hr, hb⟩
  have HB1 := hidden (below_then HB0.out HB0.out.size hb)
  have HN1 := hidden (HN.out.kept hb)
  have hu : ∃ a' c', u = .slice a' m c' := by
    rcases ownsRow_forms hr with ⟨rfl, h⟩ | ⟨g, c, rfl⟩
    · exact ⟨none, 0, by rw [hm, h]⟩
    · exact ⟨some ⟨g, 0, none⟩, c, by rw [hm]⟩
  obtain ⟨a', c', rfl⟩ := hu
  clear hr hb hm
  go_wp2
  go_loopw [5, 7] (fun v j wr => ∃ (k : Nat) (o : Value), k ≤ m ∧ o = v ∧ j = .int .i64 k ∧ RowZ wr w.heap.size o (spI (P k)) ∧ Below w.heap.size w wr) (fun _ j _ => m - (intOf j).toNat)
  case atStart => exact ⟨0, _, by omega, rfl, rfl, by rw [H0.out]; exact HN1.out, HB1.out⟩
  case round =>
    obtain ⟨k, o, hk, rfl, rfl, hG, hb⟩ := hrel
    have HG := hidden hG
    have HB := hidden hb
    have hsz := hb.size
    clear hG hb
    by_cases hlt : k < m
    · have HTK := hidden (HT.out k)
      have hln := HLN.out k
      obtain ⟨q, hq⟩ : ∃ q, q = (spI (P k)).length := ⟨_, rfl⟩
      rw [← hq] at hln
      have HM := hidden hq.symm
      have hlt' := hlt
      clear hq
      by_cases hi : 0 ≤ i ∧ i < m
      · obtain ⟨p, rfl⟩ : ∃ p : Nat, i = p := ⟨i.toNat, by omega⟩
        have HC := hidden (HFF.out wr HB.out p k (by omega) hlt)
        have hd0 : decide (0 ≤ (p : Int)) = true := decide_eq_true hi.1
        have hd1 : decide ((p : Int) < (m : Int)) = true := decide_eq_true hi.2
        have hd2 : decide (p < m) = true := decide_eq_true (by omega)
        have HD := hidden (show decide (0 ≤ (p : Int) ∧ (p : Int) < m) = true from decide_eq_true hi)
        rw [HD.out, Bool.true_and, Int.toNat_natCast] at HTK
        clear hi
        generalize F p k = f at *
        cases f
        · have HR := hidden (show spI (P (k + 1)) = spI (P k) by rw [HTK.out]; rfl)
          go_wp2_with fail
          refine HC.out.mono ?_
          rintro e w2 ⟨rfl, hb2⟩
          have HB2 := hidden (below_after HB.out hb2)
          have HG2 := hidden (HG.out.kept hb2)
          clear hb2
          go_wp2
          go_roundw
          case rel => exact ⟨k + 1, _, by omega, rfl, by go_num, by rw [HR.out]; exact HG2.out, HB2.out⟩
          case measure => simp [intOf]; omega
        · have HR := hidden (show spI (P (k + 1)) = spI (P k) ++ [(k : Int)] by rw [HTK.out]; rfl)
          go_wp2_with fail
          refine HC.out.mono ?_
          rintro e w2 ⟨rfl, hb2⟩
          have HB2 := hidden (below_after HB.out hb2)
          have HG2 := hidden ((HG.out.kept hb2).kept ((Below.refl w2.heap.size w2).alloc (Nat.le_refl _) (.cells #[.int .i64 (k : Int)] 3)))
          have HBA := hidden (HB2.out.alloc HB2.out.size (.cells #[.int .i64 (k : Int)] 3))
          clear hb2
          go_wp2_with (at_builtin; refine app_z rfl _ _ rfl rfl HG2.out rfl (heap_alloc_new w2 _) HM.out (by omega) HBA.out.size ?_; intro g' c3 w3 hr3 hg3 hb3; have HR3 := hidden hr3; have HB3 := hidden (HBA.out.trans hb3); clear hr3 hg3 hb3)
          go_roundw
          case rel => exact ⟨k + 1, _, by omega, rfl, by go_num, by rw [HR.out]; exact HR3.out, HB3.out⟩
          case measure => simp [intOf]; omega
      · have HD := hidden (show decide (0 ≤ i ∧ i < m) = false from decide_eq_false hi)
        have HR := hidden (show spI (P (k + 1)) = spI (P k) by rw [HTK.out, HD.out]; rfl)
        by_cases h0 : 0 ≤ i
        · have hd0 : decide (0 ≤ i) = true := decide_eq_true h0
          have hd1 : decide (i < (m : Int)) = false := decide_eq_false (by omega)
          clear hi h0
          go_wp2
          go_roundw
          case rel => exact ⟨k + 1, _, by omega, rfl, by go_num, by rw [HR.out]; exact HG.out, HB.out⟩
          case measure => simp [intOf]; omega
        · have hd0 : decide (0 ≤ i) = false := decide_eq_false h0
          clear hi h0
          go_wp2
          go_roundw
          case rel => exact ⟨k + 1, _, by omega, rfl, by go_num, by rw [HR.out]; exact HG.out, HB.out⟩
          case measure => simp [intOf]; omega
    · have e : k = m := by omega
      subst e
      go_wp2
      go_ret
      exact ⟨_, rfl, HG.out, HB.out⟩
theorem folL_elems {L : List Stp} {i : Int} (hz : (measV L).2 = 0) (hwd : ∀ s ∈ L, s.wide) : elems (folL i L) = hits (fun q => decide (0 ≤ i ∧ i < (plc (treeE L) : Nat)) && (met (treeE L) 0).any (pq i.toNat q)) (plc (treeE L)) := by
  have hp := (expr_plc hz hwd).1
  refine nup_ext (elems_up _) (List.Pairwise.filter _ List.pairwise_lt_range) fun q => ?_
  rw [elems_mem]
  unfold hits folL
  rw [if_pos hz]
  simp only [List.mem_filter, List.mem_range, Bool.and_eq_true, decide_eq_true_eq]
  by_cases h256 : 0 ≤ i ∧ i < 256
  · obtain ⟨p, rfl⟩ : ∃ p : Nat, i = p := ⟨i.toNat, by omega⟩
    rw [folG_all p (by omega), Int.toNat_natCast]
    have e : (met (treeE L) 0).any (pq p q) = gE (treeE L) 0 p q := met_iff (treeE L) 0 p q
    have e2 : ((met (treeE L) 0).any fun x => x.1.last p && x.2.first q) = gE (treeE L) 0 p q := met_iff (treeE L) 0 p q
    rw [e, e2]
    simp only [fNone, Bool.false_or]
    constructor
    · rintro ⟨_, h⟩
      have := gE_in _ _ _ _ h
      exact ⟨by omega, ⟨by omega, by omega⟩, h⟩
    · rintro ⟨h1, _, h⟩
      exact ⟨by omega, h⟩
  · have key : ∀ (D : List (Prt × Prt)) (G : Nat → Bool), D.foldl (fun G x => folG i G x.1 x.2) G = G := fun D => by
      induction D with
      | nil => intro G; rfl
      | cons x r ih => intro G; rw [List.foldl_cons, ih, folG_out i h256]
    rw [key]
    simp only [fNone]
    constructor
    · rintro ⟨_, h⟩; cases h
    · rintro ⟨_, ⟨h1, h2⟩, _⟩; omega
theorem rFollow_calls {C : Nat → Prop} {v : Value} {L : List Stp} {w : World} (i : Int) (h : SlX C w v L) (hC : ∀ b, C b → b < w.heap.size) (hwd : ∀ s ∈ L, s.wide) : Calls Tryz.prog 46 #[v, .int .i64 i] w (RetZ w (spI (elems (folL i L)))) := by
  by_cases hz : (measV L).2 = 0
  · obtain ⟨h512, hE⟩ := meas_expr hz
    have hpos := expr_ne hE
    obtain ⟨hp, hsl⟩ := expr_plc hz hwd
    rw [folL_elems hz hwd]
    obtain ⟨b, off, cap, rfl, hL, hc, hm⟩ := sl_lay h hC hpos
    refine rfollow_gen (S := sets L) hsl.symm (by omega) (fun w' hb => ?_) (fun w' hb p q _ _ => rfollows_calls p q (hL.below hb) hz hwd hc hm)
    exact rsets_calls ((hL.below hb).sl hc hm) (fun b hb => hb) hz h512
  · have e : elems (folL i L) = hits (fun q => decide (0 ≤ i ∧ i < (0 : Nat)) && false) 0 := by
      unfold folL
      rw [if_neg hz, elems_none]
      rfl
    rw [e]
    have h' := fun w' (hb : Below w.heap.size w w') => rsets_none (h.below (C' := fun b => b < w'.heap.size) (w' := w') fun b hb' => ⟨by have := hb.size; have := hC b hb'; omega, hb.block b (hC b hb')⟩) (fun b hb => hb) hz
    obtain ⟨a, cap, rfl, _⟩ := h
    exact rfollow_gen (F := fun _ _ => false) (S := []) rfl (by omega) h' (fun w' hb p q hp _ => by omega)
end Go.Proofs.YtmpjjnjggihojaaGreatDoor

/- Contracts of having and of the reference's with: spots whose set has a byte. -/
namespace Go.Proofs.YtmpjjnjggihojaaGreatDoor
open Go.RowKit Go.Lib Go.Joins
/-- has the set of a spot the byte? -/
def selB (S : List Stp) (b : Nat) (x : Int) : Bool := bitsE (S.getD x.toNat default) b
theorem filter_take (p : Int → Bool) (l : List Int) (k : Nat) (hk : k < l.length) : (l.take (k + 1)).filter p = if p (l.getD k 0) = true then (l.take k).filter p ++ [l.getD k 0] else (l.take k).filter p := by
  rw [List.take_succ_eq_append_getElem hk, List.filter_append, List.getD_eq_getElem?_getD, List.getElem?_eq_getElem hk, Option.getD_some]
  cases h : p l[k] <;> simp [h]
theorem getD_inZ {l : List Int} {k : Nat} (hk : k < l.length) : l.getD k 0 ∈ l := by
  rw [List.getD_eq_getElem?_getD, List.getElem?_eq_getElem hk]
  exact List.getElem_mem _
/-- the four cells of a set, as words of a set of bytes -/
theorem RdS.words {B : Nat} {w w' : World} {a : Option Addr} {n c : Nat} {S : List Stp} (h : RdS B w (.slice a n c) S) (hw : ∀ s ∈ S, s.wide) (hb : Below B w w') (p : Nat) (hp : p < S.length) : ∃ g off, a = some ⟨g, off, none⟩ ∧ g < B ∧ w'.cell? ⟨g, off + p * 4, none⟩ = some (.int .u64 (word (bitsE (S.getD p default)) 0)) ∧ w'.cell? ⟨g, off + p * 4 + 1, none⟩ = some (.int .u64 (word (bitsE (S.getD p default)) 1)) ∧ w'.cell? ⟨g, off + p * 4 + 2, none⟩ = some (.int .u64 (word (bitsE (S.getD p default)) 2)) ∧ w'.cell? ⟨g, off + p * 4 + 3, none⟩ = some (.int .u64 (word (bitsE (S.getD p default)) 3)) := by
  obtain ⟨g, off, e, hg, x0, x1, x2, x3⟩ := h.at hb p hp
  have hwd : (S.getD p default).wide := hw _ (by
    rw [List.getD_eq_getElem?_getD, List.getElem?_eq_getElem hp]
    exact List.getElem_mem _)
  obtain ⟨e0, e1, e2, e3⟩ := bitsE_words hwd
  rw [← e0] at x0
  rw [← e1] at x1
  rw [← e2] at x2
  rw [← e3] at x3
  exact ⟨g, off, e, hg, x0, x1, x2, x3⟩
theorem has_bit (f : Nat → Bool) (b : Nat) : (bits .and .u64 ((word f (b / 64) : Int) / 2 ^ (b % 64)) 1 == 1) = f b := by
  have h := has_res1 f (b : Int) (by omega)
  rw [show ((b : Int) / 64).toNat = b / 64 by omega, show ((b : Int) % 64).toNat = b % 64 by omega, Int.toNat_natCast] at h
  exact h
set_option maxHeartbeats 8000000 in
set_option maxRecDepth 100000 in
theorem having_calls {w : World} {v vo vl vf v1 : Value} {sa : Option Addr} {ns cs b : Nat} {S : List Stp} {l : List Int} (hs : RdS w.heap.size w (.slice sa ns cs) S) (hw : ∀ s ∈ S, s.wide) (h : RdZ w.heap.size w v l) (hb : b < 256) (hl : ∀ x ∈ l, 0 ≤ x ∧ x < S.length) (hlen : l.length ≤ 100000) :
    Calls Tryz.prog 96 #[.agg #[.slice sa ns cs, vo, vl, vf, v1], v, .int .u8 b] w (RetZ w (l.filter (selB S b))) := by
  have hba := (Below.refl w.heap.size w).alloc (Nat.le_refl _) (.cells #[.slice sa ns cs, vo, vl, vf, v1] 27)
  have hbx := net_box w (.slice sa ns cs) vo vl vf v1 27
  obtain ⟨w0, hw0⟩ : ∃ w0, w0 = w.alloc (.cells #[.slice sa ns cs, vo, vl, vf, v1] 27) := ⟨_, rfl⟩
  have hs0 : w0.heap.size = w.heap.size + 1 := by rw [hw0]; simp
  rw [← hw0] at hba hbx
  have HBA := hidden hba
  have HBX := hidden hbx
  obtain ⟨a, c, rfl⟩ := h.form
  have hns : ns = S.length := by
    obtain ⟨_, _, e, _⟩ := hs
    simp only [Value.slice.injEq] at e
    exact e.2.1
  have HA := hidden (fun W (hb : Below w.heap.size w W) i (hi : i < l.length) => h.atZ hb i hi)
  have HW := hidden (fun W (hb : Below w.heap.size w W) p (hp : p < S.length) => hs.words hw hb p hp)
  have HL := hidden (fun i (hi : i < l.length) => (show ∃ p : Nat, l.getD i 0 = p ∧ p < S.length from by
    have := hl _ (getD_inZ hi)
    exact ⟨(l.getD i 0).toNat, by omega, by omega⟩))
  have HF := hidden (fun k (hk : k < l.length) => filter_take (selB S b) l k hk)
  have HFL := hidden (fun k => (show ((l.take k).filter (selB S b)).length ≤ k from Nat.le_trans (List.length_filter_le _ _) (by rw [List.length_take]; omega)))
  have HE := hidden (show (l.take l.length).filter (selB S b) = l.filter (selB S b) by rw [List.take_length])
  have HN0 := hidden (show RowZ w0 (w.heap.size + 1) (.slice none 0 0) ((l.take 0).filter (selB S b)) from by simpa using RowZ.nil _ _)
  have HW0 := hidden hw0
  have HS0 := hidden hs0
  have hbi : 0 ≤ (b : Int) / 64 ∧ (b : Int) / 64 < 4 := by omega
  have hb0 := hbi.1
  have hb1 := hbi.2
  have hb2 : b / 64 < 4 := by omega
  obtain ⟨m, hm⟩ : ∃ m, m = l.length := ⟨_, rfl⟩
  rw [← hm] at HA HL HF HE hlen ⊢
  rw [← hns] at HW HL
  clear h hba hbx hs hw hl hm hns hbi hw0 hs0
  go_enter Tryz.func96, Tryz.ntmps96
  go_wp2
  rw [← HW0.out]
  go_loopw [7, 12] (fun v i wr => ∃ (k : Nat) (o : Value), k ≤ m ∧ o = v ∧ i = .int .i64 k ∧ RowZ wr (w.heap.size + 1) o ((l.take k).filter (selB S b)) ∧ Below (w.heap.size + 1) w0 wr) (fun _ i _ => m - (intOf i).toNat)
  case atStart => exact ⟨0, _, by omega, rfl, rfl, HN0.out, Below.refl _ _⟩
  case round =>
    clear HN0
    obtain ⟨k, o, hk, rfl, rfl, hG, hb3⟩ := hrel
    have HG := hidden hG
    have HB := hidden hb3
    obtain ⟨b0, b1, b2, b3, b4⟩ := HBX.out wr HB.out
    have HBW := hidden (show Below w.heap.size w wr from HBA.out.trans (hb3.mono (by omega)))
    clear hG hb3
    by_cases hlt : k < m
    · obtain ⟨ba, oa, rfl, _, c0⟩ := HA.out wr HBW.out k hlt
      obtain ⟨p, hp, hps⟩ := HL.out k hlt
      have HK := hidden (HF.out k hlt)
      obtain ⟨g, og, rfl, _, x0, x1, x2, x3⟩ := HW.out wr HBW.out p hps
      rw [hp] at c0 HK
      have hpi : (p : Int) < (ns : Int) := by omega
      have HSB := hidden (show selB S b (p : Int) = bitsE (S.getD p default) b from rfl)
      obtain ⟨f, hf⟩ : ∃ f, f = bitsE (S.getD p default) := ⟨_, rfl⟩
      rw [← hf] at x0 x1 x2 x3 HSB
      have hcell : wr.cell? ⟨g, og + p * 4 + b / 64, none⟩ = some (.int .u64 (word f (b / 64))) := by
        have hc : b / 64 = 0 ∨ b / 64 = 1 ∨ b / 64 = 2 ∨ b / 64 = 3 := by omega
        rcases hc with hc | hc | hc | hc <;> rw [hc]
        · exact x0
        · exact x1
        · exact x2
        · exact x3
      have hres := has_bit f b
      have hlt' := hlt
      have hln := HFL.out k
      have hkb : IntKind.i64.wrap ((k : Int) + 1) = (k : Int) + 1 := by rw [IntKind.wrap_i64]; omega
      clear x0 x1 x2 x3 hp hf
      cases hfb : f b
      · rw [hfb] at hres
        have HR := hidden (show (l.take (k + 1)).filter (selB S b) = (l.take k).filter (selB S b) by rw [HK.out, HSB.out, hfb]; rfl)
        clear hfb HK
        go_wp2
        go_roundw
        case rel => exact ⟨k + 1, _, by omega, rfl, by go_num, by rw [HR.out]; exact HG.out, HB.out⟩
        case measure => simp [intOf]; omega
      · rw [hfb] at hres
        have HR := hidden (show (l.take (k + 1)).filter (selB S b) = (l.take k).filter (selB S b) ++ [(p : Int)] by rw [HK.out, HSB.out, hfb]; rfl)
        obtain ⟨q, hq⟩ : ∃ q, q = ((l.take k).filter (selB S b)).length := ⟨_, rfl⟩
        rw [← hq] at hln
        have HM := hidden hq.symm
        have hsz := HB.out.size
        have HAA := hidden (HG.out.kept ((Below.refl wr.heap.size wr).alloc (Nat.le_refl _) (.cells #[.int .i64 (p : Int)] 3)))
        have HBB := hidden (HB.out.alloc (by have := HS0.out; omega) (.cells #[.int .i64 (p : Int)] 3))
        have HBL := hidden (show w.heap.size + 1 ≤ (wr.alloc (.cells #[.int .i64 (p : Int)] 3)).heap.size by have := HB.out.size; have := HS0.out; simp; omega)
        clear hfb HK hq
        go_wp2_with (at_builtin; refine app_z rfl _ _ rfl rfl HAA.out rfl (heap_alloc_new wr _) HM.out (by omega) HBL.out ?_; intro g' c3 w3 hr3 hg3 hb4; have HR3 := hidden hr3; have HB3 := hidden (HBB.out.trans hb4); clear hr3 hg3 hb4)
        go_roundw
        case rel => exact ⟨k + 1, _, by omega, rfl, by go_num, by rw [HR.out]; exact HR3.out, HB3.out⟩
        case measure => simp [intOf]; omega
    · obtain rfl : k = m := by omega
      rw [HE.out] at HG
      go_wp2
      go_ret
      exact ⟨_, rfl, HG.out.lower (by omega), HBW.out⟩
end Go.Proofs.YtmpjjnjggihojaaGreatDoor

/- Contract of the reference's with; what having answers of a rising list is what with answers. -/
namespace Go.Proofs.YtmpjjnjggihojaaGreatDoor
open Go.RowKit Go.Lib Go.Joins
theorem zup_ext : ∀ {a b : List Int}, a.Pairwise (· < ·) → b.Pairwise (· < ·) → (∀ p, p ∈ a ↔ p ∈ b) → a = b
  | [], [], _, _, _ => rfl
  | [], y :: b, _, _, h => by have := (h y).2 (by simp); simp at this
  | x :: a, [], _, _, h => by have := (h x).1 (by simp); simp at this
  | x :: a, y :: b, ha, hb, h => by
    obtain ⟨ha1, ha2⟩ := List.pairwise_cons.1 ha
    obtain ⟨hb1, hb2⟩ := List.pairwise_cons.1 hb
    have hxy : x = y := by
      have h1 := (h x).1 (by simp)
      have h2 := (h y).2 (by simp)
      simp only [List.mem_cons] at h1 h2
      rcases h1 with h1 | h1
      · exact h1
      · rcases h2 with h2 | h2
        · exact h2.symm
        · have := hb1 x h1; have := ha1 y h2; omega
    subst hxy
    congr 1
    refine zup_ext ha2 hb2 fun p => ?_
    have h1 := h p
    simp only [List.mem_cons] at h1
    constructor
    · intro hp
      have := ha1 p hp
      rcases h1.1 (.inr hp) with h2 | h2
      · omega
      · exact h2
    · intro hp
      have := hb1 p hp
      rcases h1.2 (.inr hp) with h2 | h2
      · omega
      · exact h2
theorem hits_up (G : Nat → Bool) (n : Nat) : (hits G n).Pairwise (· < ·) := List.Pairwise.filter _ List.pairwise_lt_range
theorem spI_up {l : List Nat} (h : l.Pairwise (· < ·)) : (spI l).Pairwise (· < ·) := by
  unfold spI
  rw [List.pairwise_map]
  exact h.imp fun h => by omega
theorem hits_mem (G : Nat → Bool) (n : Nat) (p : Nat) : p ∈ hits G n ↔ p < n ∧ G p = true := by unfold hits; simp
theorem mem_spIZ (x : Int) (l : List Nat) : x ∈ spI l ↔ ∃ p : Nat, x = p ∧ p ∈ l := by
  unfold spI
  rw [List.mem_map]
  exact ⟨fun ⟨a, h, e⟩ => ⟨a, e.symm, h⟩, fun ⟨p, e, h⟩ => ⟨p, h, e.symm⟩⟩
/-- what is said of rising spots below n -/
def withG (S : List Stp) (b : Nat) (l : List Int) (i : Nat) : Bool := decide ((i : Int) ∈ l) && selB S b i
theorem filter_with {S : List Stp} {b : Nat} {l : List Int} {n : Nat} (hu : l.Pairwise (· < ·)) (hl : ∀ x ∈ l, 0 ≤ x ∧ x < n) : l.filter (selB S b) = spI (hits (withG S b l) n) := by
  refine zup_ext (hu.filter _) (spI_up (hits_up _ _)) fun x => ?_
  rw [List.mem_filter, mem_spIZ]
  constructor
  · rintro ⟨h1, h2⟩
    have := hl x h1
    refine ⟨x.toNat, by omega, (hits_mem _ _ _).2 ⟨by omega, ?_⟩⟩
    unfold withG
    rw [show ((x.toNat : Nat) : Int) = x by omega, decide_eq_true h1, h2]
    rfl
  · rintro ⟨p, rfl, h⟩
    have h2 := ((hits_mem _ _ _).1 h).2
    unfold withG at h2
    simp only [Bool.and_eq_true, decide_eq_true_eq] at h2
    exact h2
set_option maxHeartbeats 8000000 in
set_option maxRecDepth 100000 in
theorem rwith12_calls {w : World} {v vo vl vf v1 : Value} {sa : Option Addr} {ns cs b : Nat} {S : List Stp} {l : List Int} (hs : RdS w.heap.size w (.slice sa ns cs) S) (hw : ∀ s ∈ S, s.wide) (h : RdZ w.heap.size w v l) (hb : b < 256) (hn : ns ≤ 100000) :
    Calls Tryz.prog 59 #[.agg #[.slice sa ns cs, vo, vl, vf, v1], v, .int .u8 b] w (RetZ w (spI (hits (withG S b l) ns))) := by
  have hba := (Below.refl w.heap.size w).alloc (Nat.le_refl _) (.cells #[.slice sa ns cs, vo, vl, vf, v1] 27)
  have hbx := net_box w (.slice sa ns cs) vo vl vf v1 27
  obtain ⟨w0, hw0⟩ : ∃ w0, w0 = w.alloc (.cells #[.slice sa ns cs, vo, vl, vf, v1] 27) := ⟨_, rfl⟩
  have hs0 : w0.heap.size = w.heap.size + 1 := by rw [hw0]; simp
  rw [← hw0] at hba hbx
  have HBA := hidden hba
  have HBX := hidden hbx
  have HN0 := hidden (RowZ.lit w0 w0.heap.size rfl #[] rfl)
  have HW0 := hidden hw0
  have HS0 := hidden hs0
  obtain ⟨a, c, rfl⟩ := h.form
  have hns : ns = S.length := by
    obtain ⟨_, _, e, _⟩ := hs
    simp only [Value.slice.injEq] at e
    exact e.2.1
  have HW := hidden (fun W (hb : Below w.heap.size w W) p (hp : p < S.length) => hs.words hw hb p hp)
  have HH := hidden (fun W (hb : Below w.heap.size w W) (i : Nat) => has11_calls (B := W.heap.size) W _ l (i : Int) (h.later hb))
  have H2 := hidden (fun f W => rhas_nat f b W hb)
  have HTT := hidden (fun r => (show spI (hits (withG S b l) (r + 1)) = if withG S b l r = true then spI (hits (withG S b l) r) ++ [(r : Int)] else spI (hits (withG S b l) r) by
    rw [hits_more]
    split
    · rw [spI_more]
    · rfl))
  have HLN := hidden (fun r => (show (spI (hits (withG S b l) r)).length ≤ r by rw [spI_len]; exact hits_len _ r))
  have HWG := hidden (fun i : Nat => (show withG S b l i = (decide ((i : Int) ∈ l) && bitsE (S.getD i default) b) from rfl))
  have HZ := hidden (show spI (hits (withG S b l) 0) = [] by rw [hits_zero, spI_nil])
  rw [← hns] at HW
  obtain ⟨R, hR⟩ : ∃ R, R = fun r => spI (hits (withG S b l) r) := ⟨_, rfl⟩
  have HTT := hidden (fun r => (show R (r + 1) = if withG S b l r = true then R r ++ [(r : Int)] else R r by rw [hR]; exact HTT.out r))
  have HLN := hidden (fun r => (show (R r).length ≤ r by rw [hR]; exact HLN.out r))
  have HZ := hidden (show R 0 = [] by rw [hR]; exact HZ.out)
  rw [show spI (hits (withG S b l) ns) = R ns by rw [hR]]
  obtain ⟨ln, hln⟩ : ∃ ln, ln = l.length := ⟨_, rfl⟩
  rw [← hln] at HH ⊢
  clear h hba hbx hs hw hns hw0 hs0 hR hln
  go_enter Tryz.func59, Tryz.ntmps59
  go_wp2
  rw [← HW0.out]
  have hq0 := HS0.out
  go_loopw [7, 8] (fun v i wr => ∃ (k : Nat) (o : Value), k ≤ ns ∧ o = v ∧ i = .int .i64 k ∧ RowZ wr (w.heap.size + 1) o (R k) ∧ Below (w.heap.size + 1) w0 wr) (fun _ i _ => ns - (intOf i).toNat)
  case atStart => exact ⟨0, _, by omega, rfl, rfl, by rw [HZ.out]; have := HN0.out; rw [hq0] at this; exact this, by rw [← hq0]; exact (Below.refl _ _).alloc (Nat.le_refl _) _⟩
  case round =>
    clear HN0
    obtain ⟨k, o, hk, rfl, rfl, hG, hb3⟩ := hrel
    have HG := hidden hG
    have HB := hidden hb3
    obtain ⟨b0, b1, b2, b3, b4⟩ := HBX.out wr HB.out
    have HBW := hidden (show Below w.heap.size w wr from HBA.out.trans (hb3.mono (by omega)))
    clear hG hb3
    by_cases hlt : k < ns
    · obtain ⟨g, og, rfl, hg, x0, x1, x2, x3⟩ := HW.out wr HBW.out k hlt
      have HK := hidden (HTT.out k)
      have HGK := hidden (HWG.out k)
      have HHK := hidden (HH.out wr HBW.out k)
      have hlt' := hlt
      have hln := HLN.out k
      obtain ⟨f, hf⟩ : ∃ f, f = bitsE (S.getD k default) := ⟨_, rfl⟩
      rw [← hf] at x0 x1 x2 x3 HGK
      generalize decide ((k : Int) ∈ l) = u at *
      clear hf
      cases u
      case false =>
        have HR := hidden (show R (k + 1) = R k by rw [HK.out, HGK.out]; rfl)
        clear x0 x1 x2 x3
        go_wp2_with fail
        refine HHK.out.mono ?_
        rintro e w5 ⟨rfl, hb5⟩
        have HB5 := hidden (below_then HB.out (by have := HB.out.size; omega) hb5)
        have HG5 := hidden (HG.out.kept hb5)
        clear hb5
        go_wp2
        go_roundw
        case rel => exact ⟨k + 1, _, by omega, rfl, by go_num, by rw [HR.out]; exact HG5.out, HB5.out⟩
        case measure => simp [intOf]; omega
      case true =>
        rw [Bool.true_and] at HGK
        have HH2 := hidden (H2.out f)
        have HX := hidden (fun W (hb : Below wr.heap.size wr W) => (show W.cell? ⟨g, og + k * 4, none⟩ = some (.int .u64 (word f 0)) ∧ W.cell? ⟨g, og + k * 4 + 1, none⟩ = some (.int .u64 (word f 1)) ∧ W.cell? ⟨g, og + k * 4 + 2, none⟩ = some (.int .u64 (word f 2)) ∧ W.cell? ⟨g, og + k * 4 + 3, none⟩ = some (.int .u64 (word f 3)) from ⟨(hb.cell (p := ⟨g, og + k * 4, none⟩) (cell_lt x0)).trans x0, (hb.cell (p := ⟨g, og + k * 4 + 1, none⟩) (cell_lt x1)).trans x1, (hb.cell (p := ⟨g, og + k * 4 + 2, none⟩) (cell_lt x2)).trans x2, (hb.cell (p := ⟨g, og + k * 4 + 3, none⟩) (cell_lt x3)).trans x3⟩))
        clear x0 x1 x2 x3
        cases hfb : f b
        case false =>
          rw [hfb] at HGK HH2
          have HR := hidden (show R (k + 1) = R k by rw [HK.out, HGK.out]; rfl)
          clear hfb
          go_wp2_with fail
          refine HHK.out.mono ?_
          rintro e w5 ⟨rfl, hb5⟩
          have HB5 := hidden (below_then HB.out (by have := HB.out.size; omega) hb5)
          have HG5 := hidden (HG.out.kept hb5)
          obtain ⟨x0, x1, x2, x3⟩ := HX.out w5 hb5
          obtain ⟨b0, b1, b2, b3, b4⟩ := HBX.out w5 HB5.out
          clear hb5
          go_wp2_with fail
          refine (HH2.out _).mono ?_
          rintro e w6 ⟨rfl, hb6⟩
          have HB6 := hidden (below_then HB5.out (by have := HB5.out.size; omega) hb6)
          have HG6 := hidden (HG5.out.kept hb6)
          clear hb6
          go_wp2
          go_roundw
          case rel => exact ⟨k + 1, _, by omega, rfl, by go_num, by rw [HR.out]; exact HG6.out, HB6.out⟩
          case measure => simp [intOf]; omega
        case true =>
          rw [hfb] at HGK HH2
          have HR := hidden (show R (k + 1) = R k ++ [(k : Int)] by rw [HK.out, HGK.out]; rfl)
          obtain ⟨q, hq⟩ : ∃ q, q = (R k).length := ⟨_, rfl⟩
          rw [← hq] at hln
          have HM := hidden hq.symm
          clear hfb hq
          go_wp2_with fail
          refine HHK.out.mono ?_
          rintro e w5 ⟨rfl, hb5⟩
          have HB5 := hidden (below_then HB.out (by have := HB.out.size; omega) hb5)
          have HG5 := hidden (HG.out.kept hb5)
          obtain ⟨x0, x1, x2, x3⟩ := HX.out w5 hb5
          obtain ⟨b0, b1, b2, b3, b4⟩ := HBX.out w5 HB5.out
          clear hb5
          go_wp2_with fail
          refine (HH2.out _).mono ?_
          rintro e w6 ⟨rfl, hb6⟩
          have HB6 := hidden (below_then HB5.out (by have := HB5.out.size; omega) hb6)
          have HG6 := hidden (HG5.out.kept hb6)
          have HAA := hidden (HG6.out.kept ((Below.refl w6.heap.size w6).alloc (Nat.le_refl _) (.cells #[.int .i64 (k : Int)] 3)))
          have HBB := hidden (HB6.out.alloc (by have := HB6.out.size; omega) (.cells #[.int .i64 (k : Int)] 3))
          have HBL := hidden (show w.heap.size + 1 ≤ (w6.alloc (.cells #[.int .i64 (k : Int)] 3)).heap.size by have := HB6.out.size; simp; omega)
          clear hb6
          go_wp2_with (at_builtin; refine app_z rfl _ _ rfl rfl HAA.out rfl (heap_alloc_new w6 _) HM.out (by omega) HBL.out ?_; intro g' c3 w7 hr7 hg7 hb7; have HR7 := hidden hr7; have HB7 := hidden (HBB.out.trans hb7); clear hr7 hg7 hb7)
          go_roundw
          case rel => exact ⟨k + 1, _, by omega, rfl, by go_num, by rw [HR.out]; exact HR7.out, HB7.out⟩
          case measure => simp [intOf]; omega
    · obtain rfl : k = ns := by omega
      go_wp2
      go_ret
      exact ⟨_, rfl, HG.out.lower (by omega), HBW.out⟩
end Go.Proofs.YtmpjjnjggihojaaGreatDoor

/- Contract of joined: what is in any of some lists. -/
namespace Go.Proofs.YtmpjjnjggihojaaGreatDoor
open Go.RowKit Go.Lib Go.Joins
def anyB (F : List (List Int)) (p : Nat) : Bool := F.any fun l => decide ((p : Int) ∈ l)
theorem anyB_more (F : List (List Int)) (k : Nat) (hk : k < F.length) (p : Nat) : anyB (F.take (k + 1)) p = (anyB (F.take k) p || decide ((p : Int) ∈ F.getD k [])) := by
  unfold anyB
  rw [List.take_succ_eq_append_getElem hk, List.any_append, List.getD_eq_getElem?_getD, List.getElem?_eq_getElem hk]
  simp
theorem take_mem (l : List Int) (j : Nat) (hj : j < l.length) (x : Int) : x ∈ l.take (j + 1) ↔ x ∈ l.take j ∨ x = l.getD j 0 := by
  rw [List.take_succ_eq_append_getElem hj, List.mem_append, List.mem_singleton, List.getD_eq_getElem?_getD, List.getElem?_eq_getElem hj]
  rfl
theorem infoBoolJ : (Tryz.prog.info? 4).map (fun i => (i.zero, i.size, i.bytes)) = some (some (.bool false), 1, 1) := by kernel_rfl
set_option maxHeartbeats 8000000 in
set_option maxRecDepth 100000 in
theorem joined_calls {w : World} {v : Value} {F : List (List Int)} {n : Nat} (h : RdZZ w.heap.size w v F) (hn : n ≤ 100000) : Calls Tryz.prog 75 #[.int .i64 n, v] w (RetZ w (spI (hits (anyB F) n))) := by
  obtain ⟨i1, hj, hy0, hy1, hy2⟩ := info_parts infoBoolJ
  have hmk : ∀ W, (Instr.makeSlice 24 (.int .i64 ((n : Nat) : Int)) (.int .i64 ((n : Nat) : Int))).run Tryz.prog W = .ok (.slice (some ⟨W.heap.size, 0, none⟩) n n) (W.alloc (.cells (madeCells #[Value.bool false] n) 4)) := fun W => by
    have := run_make (P := Tryz.prog) W 24 4 i1 _ Tryz.underlying24 hj hy0 .i64 .i64 (n : Int) (n : Int) (by omega) (by omega) (by rw [hy2]; omega) (by omega)
    simpa [hy1, Value.cells] using this
  have HRI := hidden (World.rowIs_made w (.bool false) n 4)
  have HBA := hidden ((Below.refl w.heap.size w).alloc (Nat.le_refl _) (.cells (madeCells #[Value.bool false] n) 4))
  have HSZ := hidden (show (w.alloc (.cells (madeCells #[Value.bool false] n) 4)).heap.size = w.heap.size + 1 by simp)
  obtain ⟨cur, hcur⟩ : ∃ cur, cur = madeCells #[Value.bool false] n := ⟨_, rfl⟩
  simp only [← hcur] at hmk HRI HBA HSZ
  obtain ⟨a, c, rfl⟩ := h.form
  have hFb : F.length ≤ 9223372036854775807 := by
    obtain ⟨_, _, e, h1, h2, _⟩ := h
    unfold maxLen at h2
    omega
  have HAT := hidden (fun W (hb : Below w.heap.size w W) i (hi : i < F.length) => h.at hb i hi)
  have HAM := hidden (fun k (hk : k < F.length) => anyB_more F k hk)
  have HTL := hidden (show F.take F.length = F from List.take_length)
  obtain ⟨m, hm⟩ : ∃ m, m = F.length := ⟨_, rfl⟩
  rw [← hm] at HAT HAM HTL hFb ⊢
  obtain ⟨g, hg⟩ : ∃ g, g = w.heap.size := ⟨_, rfl⟩
  have HG := hidden hg
  have HWS := hidden (show ∀ W, Below w.heap.size w W → g ≤ W.heap.size from fun W hb => by rw [hg]; exact hb.size)
  clear h hm hcur hg
  go_enter Tryz.func75, Tryz.ntmps75
  go_wp2
  clear hmk
  go_loopw [16] (fun i wr => ∃ k : Nat, k ≤ m ∧ i = .int .i64 k ∧ (wr.rowIs w.heap.size 4 n fun p => .bool (anyB (F.take k) p)) ∧ Below w.heap.size w wr) (fun i _ => m - (intOf i).toNat)
  case atStart => exact ⟨0, by omega, rfl, HRI.out, HBA.out⟩
  case round =>
    clear HRI HBA
    obtain ⟨k, hk, rfl, hri, hb⟩ := hrel
    obtain ⟨wo, rfl⟩ : ∃ wo, wo = wr := ⟨wr, rfl⟩
    have HR := hidden hri
    have HB := hidden hb
    clear hri hb
    by_cases hlt : k < m
    · obtain ⟨b, off, a', c', rfl, hbw, d0, hrz⟩ := HAT.out wo HB.out k hlt
      have HZ := hidden hrz
      have HZ0 := hidden (show RdZ w.heap.size w (.slice a' (F.getD k []).length c') (F.getD k []) from by
        obtain ⟨b0, off0, a0, c0, e1, e2, e3, e4⟩ := HAT.out w (Below.refl _ _) k hlt
        simp only [Option.some.injEq, Addr.mk.injEq, and_true] at e1
        obtain ⟨rfl, rfl⟩ := e1
        have e5 := (HB.out.cell (p := ⟨b, off + k, none⟩) e2).trans e3
        rw [d0] at e5
        simp only [Option.some.injEq, Value.slice.injEq] at e5
        obtain ⟨rfl, _, rfl⟩ := e5
        exact e4)
      have HKM := hidden (HAM.out k hlt)
      have hlt' := hlt
      have hdk : decide ((k : Int) < (m : Int)) = true := decide_eq_true (by omega)
      have hdk2 : decide (k < m) = true := decide_eq_true hlt
      have hlb := hrz.bound.2
      obtain ⟨l, hl⟩ : ∃ l, l = F.getD k [] := ⟨_, rfl⟩
      rw [← hl] at d0 HZ HZ0 HKM hlb
      have HTM := hidden (fun j hj => take_mem l j hj)
      have HTN := hidden (show l.take l.length = l from List.take_length)
      obtain ⟨q, hq⟩ : ∃ q, q = l.length := ⟨_, rfl⟩
      rw [← hq] at d0 HZ HZ0 HTM HTN hlb
      have HQ := hidden hq.symm
      have HLT := hidden hlt
      have HZC := hidden (fun W (hb : Below w.heap.size w W) j (hj : j < q) => (show ∃ b2 off2, a' = some ⟨b2, off2, none⟩ ∧ W.cell? ⟨b2, off2 + j, none⟩ = some (.int .i64 (l.getD j 0)) from by
        obtain ⟨b2, o2, e1, e2, e3⟩ := HZ0.out.atZ hb j (by have := HQ.out; omega)
        exact ⟨b2, o2, e1, e3⟩))
      clear hrz hl hq
      go_wp2
      go_loopw [22] (fun i wr => ∃ j : Nat, j ≤ q ∧ i = .int .i64 j ∧ (wr.rowIs w.heap.size 4 n fun p => .bool (anyB (F.take k) p || decide ((p : Int) ∈ l.take j))) ∧ Below w.heap.size w wr) (fun i _ => q - (intOf i).toNat)
      case atStart => exact ⟨0, by omega, rfl, HR.out.congr (fun i hi => by simp), HB.out⟩
      case round =>
        clear HR
        obtain ⟨j, hj, rfl, hri, hb⟩ := hrel
        have HR := hidden hri
        have HBJ := hidden hb
        clear hri hb
        by_cases hlt2 : j < q
        · obtain ⟨b2, off2, rfl, e0⟩ := HZC.out wr HBJ.out j hlt2
          have HTJ := hidden (HTM.out j (by have := HQ.out; omega))
          have hlt2' := hlt2
          generalize l.getD j 0 = x at *
          by_cases hx0 : 0 ≤ x
          · obtain ⟨p, rfl⟩ : ∃ p : Nat, x = p := ⟨x.toNat, by omega⟩
            have hd0 : decide (0 ≤ (p : Int)) = true := decide_eq_true hx0
            by_cases hxn : p < n
            · have hd1 : decide ((p : Int) < (n : Int)) = true := decide_eq_true (by omega)
              have hd2 : decide (p < n) = true := decide_eq_true hxn
              have f0 := HR.out.cell hxn
              have f1 := HR.out.frozen p
              have HR2 := hidden (show (wr.setCell ⟨w.heap.size, p, none⟩ (.bool true)).rowIs w.heap.size 4 n fun r => .bool (anyB (F.take k) r || decide ((r : Int) ∈ l.take (j + 1))) from (HR.out.set p (.bool true)).congr fun r hr => by
                by_cases e : r = p
                · subst e
                  have : decide ((r : Int) ∈ l.take (j + 1)) = true := decide_eq_true ((HTJ.out r).2 (.inr rfl))
                  simp [this]
                · have : decide ((r : Int) ∈ l.take (j + 1)) = decide ((r : Int) ∈ l.take j) := by
                    rw [decide_eq_decide, HTJ.out]
                    exact ⟨fun h => h.resolve_right (by omega), .inl⟩
                  simp [e, this])
              have HB2 := hidden (HBJ.out.setCell (p := ⟨w.heap.size, p, none⟩) (Nat.le_refl _) (.bool true))
              clear hx0
              go_wp2
              go_roundw
              case rel => exact ⟨j + 1, by omega, by go_num, HR2.out, HB2.out⟩
              case measure => simp [intOf]; omega
            · have hd1 : decide ((p : Int) < (n : Int)) = false := decide_eq_false (by omega)
              have hd2 : decide (p < n) = false := decide_eq_false hxn
              have HR2 := hidden (show wr.rowIs w.heap.size 4 n fun r => .bool (anyB (F.take k) r || decide ((r : Int) ∈ l.take (j + 1))) from HR.out.congr fun r hr => by
                have : decide ((r : Int) ∈ l.take (j + 1)) = decide ((r : Int) ∈ l.take j) := by
                  rw [decide_eq_decide, HTJ.out]
                  exact ⟨fun h => h.resolve_right (by omega), .inl⟩
                rw [this])
              clear hx0
              go_wp2
              go_roundw
              case rel => exact ⟨j + 1, by omega, by go_num, HR2.out, HBJ.out⟩
              case measure => simp [intOf]; omega
          · have hd0 : decide (0 ≤ x) = false := decide_eq_false hx0
            have HR2 := hidden (show wr.rowIs w.heap.size 4 n fun r => .bool (anyB (F.take k) r || decide ((r : Int) ∈ l.take (j + 1))) from HR.out.congr fun r hr => by
              have : decide ((r : Int) ∈ l.take (j + 1)) = decide ((r : Int) ∈ l.take j) := by
                rw [decide_eq_decide, HTJ.out]
                exact ⟨fun h => h.resolve_right (by omega), .inl⟩
              rw [this])
            clear hx0
            go_wp2
            go_roundw
            case rel => exact ⟨j + 1, by omega, by go_num, HR2.out, HBJ.out⟩
            case measure => simp [intOf]; omega
        · obtain rfl : j = q := by omega
          have hdj : decide ((j : Int) < (j : Int)) = false := by simp
          have HR2 := hidden (show wr.rowIs w.heap.size 4 n fun r => .bool (anyB (F.take (k + 1)) r) from HR.out.congr fun r hr => by rw [HKM.out, HTN.out])
          go_wp2
          go_roundw
          case rel => exact ⟨k + 1, by have := HLT.out; omega, by go_num, HR2.out, HBJ.out⟩
          case measure => have := HLT.out; simp [intOf]; omega
    · obtain rfl : k = m := by omega
      have hdk : decide ((k : Int) < (k : Int)) = false := by simp
      have HR1 := hidden (show wo.rowIs w.heap.size 4 n fun p => .bool (anyB F p) from HR.out.congr fun r hr => by rw [HTL.out])
      have HWL := hidden (show w.heap.size + 1 ≤ wo.heap.size from HR1.out.lt)
      have HN0 := hidden (show RowZ wo (w.heap.size + 1) (.slice none 0 0) (spI (hits (anyB F) 0)) by rw [hits_zero, spI_nil]; exact RowZ.nil _ _)
      have HTT := hidden (fun r => (show spI (hits (anyB F) (r + 1)) = if anyB F r = true then spI (hits (anyB F) r) ++ [(r : Int)] else spI (hits (anyB F) r) by
        rw [hits_more]
        split
        · rw [spI_more]
        · rfl))
      have HLN := hidden (fun r => (show (spI (hits (anyB F) r)).length ≤ r by rw [spI_len]; exact hits_len _ r))
      clear HR
      go_wp2
      go_loopw [10, 39] (fun v i wr => ∃ (r : Nat) (o : Value), r ≤ n ∧ o = v ∧ i = .int .i64 r ∧ RowZ wr (w.heap.size + 1) o (spI (hits (anyB F) r)) ∧ Below (w.heap.size + 1) wo wr ∧ wo.heap.size ≤ wr.heap.size) (fun _ i _ => n - (intOf i).toNat)
      case atStart => exact ⟨0, _, by omega, rfl, rfl, HN0.out, Below.refl _ _, Nat.le_refl _⟩
      case round =>
        clear HN0
        obtain ⟨r, o, hr, rfl, rfl, hG, hb, hs⟩ := hrel
        have HGG := hidden hG
        have HBR := hidden hb
        have HSR := hidden hs
        have hri := HR1.out.of_block (hb.block w.heap.size (by omega))
        clear hG hb hs
        by_cases hlt : r < n
        · have f0 := hri.cell hlt
          have HTK := hidden (HTT.out r)
          have hln := HLN.out r
          have hlt' := hlt
          clear hri
          generalize anyB F r = bb at *
          cases bb
          · have HE := hidden (show spI (hits (anyB F) (r + 1)) = spI (hits (anyB F) r) from HTK.out)
            go_wp2
            go_roundw
            case rel => exact ⟨r + 1, _, by omega, rfl, by go_num, by rw [HE.out]; exact HGG.out, HBR.out, HSR.out⟩
            case measure => simp [intOf]; omega
          · have HE := hidden (show spI (hits (anyB F) (r + 1)) = spI (hits (anyB F) r) ++ [(r : Int)] from HTK.out)
            obtain ⟨q, hq⟩ : ∃ q, q = (spI (hits (anyB F) r)).length := ⟨_, rfl⟩
            rw [← hq] at hln
            have HM := hidden hq.symm
            have HA := hidden (HGG.out.kept ((Below.refl wr.heap.size wr).alloc (Nat.le_refl _) (.cells #[.int .i64 (r : Int)] 3)))
            have HBA := hidden (HBR.out.alloc (by have := HSR.out; have := HWL.out; omega) (.cells #[.int .i64 (r : Int)] 3))
            clear hq
            go_wp2_with (at_builtin; refine app_z rfl _ _ rfl rfl HA.out rfl (heap_alloc_new wr _) HM.out (by omega) (by have := HSR.out; have := HWL.out; simp; omega) ?_; intro g' c3 w3 hr3 hg3 hb3; have HR3 := hidden hr3; have HB3 := hidden (HBA.out.trans hb3); have HS3 := hidden (show wo.heap.size ≤ w3.heap.size by have := hg3.size; have := HSR.out; simp at *; omega); clear hr3 hg3 hb3)
            go_roundw
            case rel => exact ⟨r + 1, _, by omega, rfl, by go_num, by rw [HE.out]; exact HR3.out, HB3.out, HS3.out⟩
            case measure => simp [intOf]; omega
        · obtain rfl : r = n := by omega
          have hdr : decide ((r : Int) < (r : Int)) = false := by simp
          have HF := hidden (HGG.out.lower (base' := w.heap.size) (by omega))
          have HBF := hidden (HB.out.trans (HBR.out.mono (by omega)))
          go_wp2
          go_ret
          exact ⟨_, rfl, HF.out, HBF.out⟩
end Go.Proofs.YtmpjjnjggihojaaGreatDoor
