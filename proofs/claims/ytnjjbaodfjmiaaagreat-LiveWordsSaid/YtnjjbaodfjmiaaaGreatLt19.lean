/- SpRef, SpKn, Later, FuRight, put together. -/
import Derived.Test.YtnjjbaodfjmiaaaGreatLt18
import Derived.Test.YtnjjbaodfjmiaaaGreatLt07
import Derived.Test.YtnjjbaodfjmiaaaGreatLt01
import Derived.Deep.QuietTactic
import Derived.BigQuiet
import Derived.Test.YtnjjbaodfjmiaaaGreatLt13
/- Contracts of the reference's First, Last, Free and Follow. -/
namespace Go.Proofs.YtnjjbaodfjmiaaaGreat
open Go.RowKit Go.Lib Go.Joins
theorem elems_none : elems fNone = [] := by
  refine nup_ext (elems_up _) .nil fun p => ?_
  rw [elems_mem]
  simp [fNone]
theorem sl_lay {C : Nat → Prop} {v : Value} {L : List Stp} {w : World} (h : SlX C w v L) (hC : ∀ b, C b → b < w.heap.size) (hpos : 0 < L.length) : ∃ b off cap, v = .slice (some ⟨b, off, none⟩) L.length cap ∧ Lay b off L w ∧ L.length ≤ cap ∧ cap ≤ maxLen := by
  obtain ⟨a, cap, rfl, h1, h2, _, hS⟩ := h
  obtain ⟨b, off, rfl, hCb, hc⟩ := hS.2 hpos
  exact ⟨b, off, cap, rfl, ⟨hC b hCb, hc⟩, h1, h2⟩
theorem expr_plc {L : List Stp} (hz : (measV L).2 = 0) (hwd : ∀ s ∈ L, s.wide) : plc (treeE L) ≤ 256 ∧ (sets L).length = plc (treeE L) := by
  obtain ⟨h512, hE⟩ := meas_expr hz
  obtain ⟨hone, hok, hops⟩ := tree_of hE hwd
  have h1 := plc_ops (treeE L)
  have h2 := sets_ops (treeE L) hok
  rw [hops] at h1 h2
  exact ⟨by omega, h2⟩
set_option maxHeartbeats 2000000 in
set_option maxRecDepth 100000 in
theorem rFirst_calls {C : Nat → Prop} {v : Value} {L : List Stp} {w : World} (h : SlX C w v L) (hC : ∀ b, C b → b < w.heap.size) (hwd : ∀ s ∈ L, s.wide) : Calls Tryz.prog 72 #[v] w (RetZ w (spI (elems (prtL L).first))) := by
  have HK := hidden (rcheck_slX h)
  by_cases hz : (measV L).2 = 0
  · obtain ⟨h512, hE⟩ := meas_expr hz
    obtain ⟨hone, hok, hops⟩ := tree_of hE hwd
    have hpos := expr_ne hE
    obtain ⟨b, off, cap, rfl, hL, hc, hm⟩ := sl_lay h hC hpos
    have HE := hidden (show TellZ b off cap L false (L.length - 1) (spI (elems (prtL L).first)) from by
      have h1 := rends (b := b) (off := off) (cap := cap) false h512 hc hm (treeE L) hok [] [] (L.length - 1) (by rw [hops]; simp) (by rw [hops]; simp; omega)
      have h2 : elems (prtL L).first = endE false (treeE L) (sets []).length := by
        unfold prtL
        rw [if_pos hz]
        exact endE_elems (last := false) (by have := (expr_plc hz hwd).1; omega)
      rw [h2]
      exact h1)
    have HL := hidden hL
    have hsub : IntKind.i64.wrap ((L.length : Int) - 1) = ((L.length - 1 : Nat) : Int) := by rw [IntKind.wrap_i64]; omega
    rw [hz] at HK
    generalize hR : spI (elems (prtL L).first) = R at *
    obtain ⟨j, hj⟩ : ∃ j, j = L.length - 1 := ⟨_, rfl⟩
    rw [← hj] at hsub HE
    obtain ⟨n, hn⟩ : ∃ n, n = L.length := ⟨_, rfl⟩
    have HNN := hidden hn.symm
    rw [← hn] at hsub HK ⊢
    clear h hC hwd hE hone hok hops hpos hL hR hn hj hz hc hm h512
    go_enter Tryz.func72, Tryz.ntmps72
    go_wp2_with fail
    refine HK.out.mono ?_
    rintro e w1 ⟨rfl, rfl⟩
    go_wp2_with fail
    rw [← HNN.out]
    refine (HE.out w HL.out).mono ?_
    rintro e w1 ⟨u, rfl, hr, hb⟩
    go_wp2
    go_ret
    exact ⟨_, rfl, hr, hb⟩
  · have hR : spI (elems (prtL L).first) = [] := by
      unfold prtL
      rw [if_neg hz, elems_none, spI_nil]
    rw [hR]
    have HR := hidden (RowZ.lit w w.heap.size rfl #[] rfl)
    have HB := hidden ((Below.refl w.heap.size w).alloc (Nat.le_refl _) (.cells #[] 3))
    have hne : ((measV L).2 != 0) = true := by simpa using hz
    obtain ⟨a, cap, rfl, _⟩ := h
    generalize (measV L).2 = m at *
    clear hC hwd hz hR
    go_enter Tryz.func72, Tryz.ntmps72
    go_wp2_with fail
    refine HK.out.mono ?_
    rintro e w1 ⟨rfl, rfl⟩
    go_wp2
    go_ret
    exact ⟨_, rfl, HR.out, HB.out⟩
set_option maxHeartbeats 2000000 in
set_option maxRecDepth 100000 in
theorem rLast_calls {C : Nat → Prop} {v : Value} {L : List Stp} {w : World} (h : SlX C w v L) (hC : ∀ b, C b → b < w.heap.size) (hwd : ∀ s ∈ L, s.wide) : Calls Tryz.prog 69 #[v] w (RetZ w (spI (elems (prtL L).last))) := by
  have HK := hidden (rcheck_slX h)
  by_cases hz : (measV L).2 = 0
  · obtain ⟨h512, hE⟩ := meas_expr hz
    obtain ⟨hone, hok, hops⟩ := tree_of hE hwd
    have hpos := expr_ne hE
    obtain ⟨b, off, cap, rfl, hL, hc, hm⟩ := sl_lay h hC hpos
    have HE := hidden (show TellZ b off cap L true (L.length - 1) (spI (elems (prtL L).last)) from by
      have h1 := rends (b := b) (off := off) (cap := cap) true h512 hc hm (treeE L) hok [] [] (L.length - 1) (by rw [hops]; simp) (by rw [hops]; simp; omega)
      have h2 : elems (prtL L).last = endE true (treeE L) (sets []).length := by
        unfold prtL
        rw [if_pos hz]
        exact endE_elems (last := true) (by have := (expr_plc hz hwd).1; omega)
      rw [h2]
      exact h1)
    have HL := hidden hL
    have hsub : IntKind.i64.wrap ((L.length : Int) - 1) = ((L.length - 1 : Nat) : Int) := by rw [IntKind.wrap_i64]; omega
    rw [hz] at HK
    generalize hR : spI (elems (prtL L).last) = R at *
    obtain ⟨j, hj⟩ : ∃ j, j = L.length - 1 := ⟨_, rfl⟩
    rw [← hj] at hsub HE
    obtain ⟨n, hn⟩ : ∃ n, n = L.length := ⟨_, rfl⟩
    have HNN := hidden hn.symm
    rw [← hn] at hsub HK ⊢
    clear h hC hwd hE hone hok hops hpos hL hR hn hj hz hc hm h512
    go_enter Tryz.func69, Tryz.ntmps69
    go_wp2_with fail
    refine HK.out.mono ?_
    rintro e w1 ⟨rfl, rfl⟩
    go_wp2_with fail
    rw [← HNN.out]
    refine (HE.out w HL.out).mono ?_
    rintro e w1 ⟨u, rfl, hr, hb⟩
    go_wp2
    go_ret
    exact ⟨_, rfl, hr, hb⟩
  · have hR : spI (elems (prtL L).last) = [] := by
      unfold prtL
      rw [if_neg hz, elems_none, spI_nil]
    rw [hR]
    have HR := hidden (RowZ.lit w w.heap.size rfl #[] rfl)
    have HB := hidden ((Below.refl w.heap.size w).alloc (Nat.le_refl _) (.cells #[] 3))
    have hne : ((measV L).2 != 0) = true := by simpa using hz
    obtain ⟨a, cap, rfl, _⟩ := h
    generalize (measV L).2 = m at *
    clear hC hwd hz hR
    go_enter Tryz.func69, Tryz.ntmps69
    go_wp2_with fail
    refine HK.out.mono ?_
    rintro e w1 ⟨rfl, rfl⟩
    go_wp2
    go_ret
    exact ⟨_, rfl, HR.out, HB.out⟩
/-- those below m that are hit -/
def hits (G : Nat → Bool) (m : Nat) : List Nat := (List.range m).filter G
theorem hits_more (G : Nat → Bool) (m : Nat) : hits G (m + 1) = if G m = true then hits G m ++ [m] else hits G m := by
  unfold hits
  rw [List.range_succ, List.filter_append]
  cases h : G m <;> simp [h]
theorem hits_len (G : Nat → Bool) (m : Nat) : (hits G m).length ≤ m := Nat.le_trans (List.length_filter_le _ _) (by simp)
theorem hits_zero (G : Nat → Bool) : hits G 0 = [] := rfl
set_option maxHeartbeats 4000000 in
set_option maxRecDepth 100000 in
theorem rfollow_gen {a : Option Addr} {n cap : Nat} {w : World} {i : Int} {S : List Stp} {F : Nat → Nat → Bool} {m : Nat} (hm : m = S.length) (hm2 : m ≤ 1000)
    (HS : ∀ w', Below w.heap.size w w' → Calls Tryz.prog 68 #[.slice a n cap] w' (RetS w' S))
    (HF : ∀ w', Below w.heap.size w w' → ∀ p q : Nat, p < m → q < m → Calls Tryz.prog 95 #[.slice a n cap, .int .i64 p, .int .i64 q] w' fun e w'' => e = .returned (.bool (F p q)) ∧ Below w'.heap.size w' w'') :
    Calls Tryz.prog 71 #[.slice a n cap, .int .i64 i] w (RetZ w (spI (hits (fun q => decide (0 ≤ i ∧ i < m) && F i.toNat q) m))) := by
  have hb0 := (Below.refl w.heap.size w).alloc (Nat.le_refl _) (.cells #[] 3)
  have HN := hidden (RowZ.lit w w.heap.size rfl #[] rfl)
  have HB0 := hidden hb0
  have HS0 := hidden (HS _ hb0)
  have HFF := hidden HF
  obtain ⟨P, hP⟩ : ∃ P : Nat → List Nat, P = hits (fun q => decide (0 ≤ i ∧ i < m) && F i.toNat q) := ⟨_, rfl⟩
  have H0 := hidden (show spI (P 0) = [] by rw [hP, hits_zero, spI_nil])
  have HLN := hidden (fun k => (show (spI (P k)).length ≤ k by rw [hP, spI_len]; exact hits_len _ k))
  have HT := hidden (fun k => (show spI (P (k + 1)) = if (decide (0 ≤ i ∧ i < m) && F i.toNat k) = true then spI (P k) ++ [(k : Int)] else spI (P k) by
    rw [hP, hits_more]
    split
    · rw [spI_more]
    · rfl))
  rw [show hits (fun q => decide (0 ≤ i ∧ i < m) && F i.toNat q) = P from hP.symm]
  clear HS HF hb0 hP
  go_enter Tryz.func71, Tryz.ntmps71
  go_wp2_with fail
  refine HS0.out.mono ?_
  rintro e w1 ⟨u, rfl, hr, hb⟩
  have HB1 := hidden (below_then HB0.out HB0.out.size hb)
  have HN1 := hidden (HN.out.kept hb)
  have hu : ∃ a' c', u = .slice a' m c' := by
    rcases ownsRow_forms hr with ⟨rfl, h⟩ | ⟨g, c, rfl⟩
    · exact ⟨none, 0, by rw [hm, h]⟩
    · exact ⟨some ⟨g, 0, none⟩, c, by rw [hm]⟩
  obtain ⟨a', c', rfl⟩ := hu
  clear hr hb hm
  go_wp2
  go_loopw [5, 7] (fun v j wr => ∃ (k : Nat) (o : Value), k ≤ m ∧ o = v ∧ j = .int .i64 k ∧ RowZ wr w.heap.size o (spI (P k)) ∧ Below w.heap.size w wr) (fun _ j _ => m - (Go.RowKit.intOf j).toNat)
  case atStart => exact ⟨0, _, by omega, rfl, rfl, by rw [H0.out]; exact HN1.out, HB1.out⟩
  case round =>
    obtain ⟨k, o, hk, rfl, rfl, hG, hb⟩ := hrel
    have HG := hidden hG
    have HB := hidden hb
    have hsz := hb.size
    clear hG hb
    by_cases hlt : k < m
    · have HTK := hidden (HT.out k)
      have hln := HLN.out k
      obtain ⟨q, hq⟩ : ∃ q, q = (spI (P k)).length := ⟨_, rfl⟩
      rw [← hq] at hln
      have HM := hidden hq.symm
      have hlt' := hlt
      clear hq
      by_cases hi : 0 ≤ i ∧ i < m
      · obtain ⟨p, rfl⟩ : ∃ p : Nat, i = p := ⟨i.toNat, by omega⟩
        have HC := hidden (HFF.out wr HB.out p k (by omega) hlt)
        have hd0 : decide (0 ≤ (p : Int)) = true := decide_eq_true hi.1
        have hd1 : decide ((p : Int) < (m : Int)) = true := decide_eq_true hi.2
        have hd2 : decide (p < m) = true := decide_eq_true (by omega)
        have HD := hidden (show decide (0 ≤ (p : Int) ∧ (p : Int) < m) = true from decide_eq_true hi)
        rw [HD.out, Bool.true_and, Int.toNat_natCast] at HTK
        clear hi
        generalize F p k = f at *
        cases f
        · have HR := hidden (show spI (P (k + 1)) = spI (P k) by rw [HTK.out]; rfl)
          go_wp2_with fail
          refine HC.out.mono ?_
          rintro e w2 ⟨rfl, hb2⟩
          have HB2 := hidden (below_after HB.out hb2)
          have HG2 := hidden (HG.out.kept hb2)
          clear hb2
          go_wp2
          go_roundw
          case rel => exact ⟨k + 1, _, by omega, rfl, by go_num, by rw [HR.out]; exact HG2.out, HB2.out⟩
          case measure => simp [Go.RowKit.intOf]; omega
        · have HR := hidden (show spI (P (k + 1)) = spI (P k) ++ [(k : Int)] by rw [HTK.out]; rfl)
          go_wp2_with fail
          refine HC.out.mono ?_
          rintro e w2 ⟨rfl, hb2⟩
          have HB2 := hidden (below_after HB.out hb2)
          have HG2 := hidden ((HG.out.kept hb2).kept ((Below.refl w2.heap.size w2).alloc (Nat.le_refl _) (.cells #[.int .i64 (k : Int)] 3)))
          have HBA := hidden (HB2.out.alloc HB2.out.size (.cells #[.int .i64 (k : Int)] 3))
          clear hb2
          go_wp2_with (at_builtin; refine app_z rfl _ _ rfl rfl HG2.out rfl (heap_alloc_new w2 _) HM.out (by omega) HBA.out.size ?_; intro g' c3 w3 hr3 hg3 hb3; have HR3 := hidden hr3; have HB3 := hidden (HBA.out.trans hb3); clear hr3 hg3 hb3)
          go_roundw
          case rel => exact ⟨k + 1, _, by omega, rfl, by go_num, by rw [HR.out]; exact HR3.out, HB3.out⟩
          case measure => simp [Go.RowKit.intOf]; omega
      · have HD := hidden (show decide (0 ≤ i ∧ i < m) = false from decide_eq_false hi)
        have HR := hidden (show spI (P (k + 1)) = spI (P k) by rw [HTK.out, HD.out]; rfl)
        by_cases h0 : 0 ≤ i
        · have hd0 : decide (0 ≤ i) = true := decide_eq_true h0
          have hd1 : decide (i < (m : Int)) = false := decide_eq_false (by omega)
          clear hi h0
          go_wp2
          go_roundw
          case rel => exact ⟨k + 1, _, by omega, rfl, by go_num, by rw [HR.out]; exact HG.out, HB.out⟩
          case measure => simp [Go.RowKit.intOf]; omega
        · have hd0 : decide (0 ≤ i) = false := decide_eq_false h0
          clear hi h0
          go_wp2
          go_roundw
          case rel => exact ⟨k + 1, _, by omega, rfl, by go_num, by rw [HR.out]; exact HG.out, HB.out⟩
          case measure => simp [Go.RowKit.intOf]; omega
    · have e : k = m := by omega
      subst e
      go_wp2
      go_ret
      exact ⟨_, rfl, HG.out, HB.out⟩
theorem folL_elems {L : List Stp} {i : Int} (hz : (measV L).2 = 0) (hwd : ∀ s ∈ L, s.wide) : elems (folL i L) = hits (fun q => decide (0 ≤ i ∧ i < (plc (treeE L) : Nat)) && (met (treeE L) 0).any (pq i.toNat q)) (plc (treeE L)) := by
  have hp := (expr_plc hz hwd).1
  refine nup_ext (elems_up _) (List.Pairwise.filter _ List.pairwise_lt_range) fun q => ?_
  rw [elems_mem]
  unfold hits folL
  rw [if_pos hz]
  simp only [List.mem_filter, List.mem_range, Bool.and_eq_true, decide_eq_true_eq]
  by_cases h256 : 0 ≤ i ∧ i < 256
  · obtain ⟨p, rfl⟩ : ∃ p : Nat, i = p := ⟨i.toNat, by omega⟩
    rw [folG_all p (by omega), Int.toNat_natCast]
    have e : (met (treeE L) 0).any (pq p q) = gE (treeE L) 0 p q := met_iff (treeE L) 0 p q
    have e2 : ((met (treeE L) 0).any fun x => x.1.last p && x.2.first q) = gE (treeE L) 0 p q := met_iff (treeE L) 0 p q
    rw [e, e2]
    simp only [fNone, Bool.false_or]
    constructor
    · rintro ⟨_, h⟩
      have := gE_in _ _ _ _ h
      exact ⟨by omega, ⟨by omega, by omega⟩, h⟩
    · rintro ⟨h1, _, h⟩
      exact ⟨by omega, h⟩
  · have key : ∀ (D : List (Prt × Prt)) (G : Nat → Bool), D.foldl (fun G x => folG i G x.1 x.2) G = G := fun D => by
      induction D with
      | nil => intro G; rfl
      | cons x r ih => intro G; rw [List.foldl_cons, ih, folG_out i h256]
    rw [key]
    simp only [fNone]
    constructor
    · rintro ⟨_, h⟩; cases h
    · rintro ⟨_, ⟨h1, h2⟩, _⟩; omega
theorem rFollow_calls {C : Nat → Prop} {v : Value} {L : List Stp} {w : World} (i : Int) (h : SlX C w v L) (hC : ∀ b, C b → b < w.heap.size) (hwd : ∀ s ∈ L, s.wide) : Calls Tryz.prog 71 #[v, .int .i64 i] w (RetZ w (spI (elems (folL i L)))) := by
  by_cases hz : (measV L).2 = 0
  · obtain ⟨h512, hE⟩ := meas_expr hz
    have hpos := expr_ne hE
    obtain ⟨hp, hsl⟩ := expr_plc hz hwd
    rw [folL_elems hz hwd]
    obtain ⟨b, off, cap, rfl, hL, hc, hm⟩ := sl_lay h hC hpos
    refine rfollow_gen (S := sets L) hsl.symm (by omega) (fun w' hb => ?_) (fun w' hb p q _ _ => rfollows_calls p q (hL.below hb) hz hwd hc hm)
    exact rsets_calls ((hL.below hb).sl hc hm) (fun b hb => hb) hz h512
  · have e : elems (folL i L) = hits (fun q => decide (0 ≤ i ∧ i < (0 : Nat)) && false) 0 := by
      unfold folL
      rw [if_neg hz, elems_none]
      rfl
    rw [e]
    have h' := fun w' (hb : Below w.heap.size w w') => rsets_none (h.below (C' := fun b => b < w'.heap.size) (w' := w') fun b hb' => ⟨by have := hb.size; have := hC b hb'; omega, hb.block b (hC b hb')⟩) (fun b hb => hb) hz
    obtain ⟨a, cap, rfl, _⟩ := h
    exact rfollow_gen (F := fun _ _ => false) (S := []) rfl (by omega) h' (fun w' hb p q hp _ => by omega)
end Go.Proofs.YtnjjbaodfjmiaaaGreat

/- What every statement of stage 10 knows besides: the chapter's example. -/
namespace Go.Proofs.YtnjjbaodfjmiaaaGreat
open Go.RowKit Go.Lib Go.Joins
end Go.Proofs.YtnjjbaodfjmiaaaGreat

/- A region that draws its order, whose own operations only read, and whose callees may lay blocks but hand back plain values: walked once, in the text's order. -/
namespace Go.Proofs.YtnjjbaodfjmiaaaGreat
open Go.RowKit

/-- a world behind w: of what was there nothing has turned -/
structure Later (w : World) where
  at' : World
  ok : Below w.heap.size w at'
instance later_one (w : World) : Nonempty (Later w) := ⟨⟨w, Below.refl _ _⟩⟩
theorem wp_region_later {P : Program} {id : Nat} {Q : Exit → Act → World → Prop} {a : Act} {w : World} {l : List Oper} (hm : P.follows .mixedOrders = true) (hB : Region.lexB .any l.toArray = true)
    (h : wpQuiet P l.toArray (fun w' => ∃ p : Later w, w' = p.at') (fun a' => ∀ w', (∃ p : Later w, w' = p.at') → Q .normal a' w') l a) : (Code.region id l.toArray true).wp P Q a w :=
  wp_region_quiet (C := fun w' => ∃ p : Later w, w' = p.at') hm hB ⟨⟨w.drew, (Below.refl _ _).drew⟩, rfl⟩ (by simpa using h)
theorem Later.cell {w : World} {a : Addr} {v : Value} (h : w.cell? a = some v) (ha : a.block < w.heap.size) (p : Later w) : p.at'.cell? a = some v := (p.ok.cell ha).trans h
theorem Later.calls {P : Program} {f : FuncId} {args : Array Value} {w : World} {p : Later w} {v : Value}
    (h : Calls P f args p.at' fun e w' => e = .returned v ∧ Below p.at'.heap.size p.at' w') : Calls P f args p.at' fun e w'' => e = .returned v ∧ ∃ q : Later w, w'' = q.at' :=
  h.mono fun _ w'' ⟨he, hb⟩ => ⟨he, ⟨w'', below_after p.ok hb⟩, rfl⟩
theorem Later.same {P : Program} {f : FuncId} {args : Array Value} {w : World} {p : Later w} {v : Value}
    (h : Calls P f args p.at' fun e w' => e = .returned v ∧ p.at' = w') : Calls P f args p.at' fun e w'' => e = .returned v ∧ ∃ q : Later w, w'' = q.at' :=
  h.mono fun _ _ ⟨he, hb⟩ => ⟨he, p, hb.symm⟩
theorem PairAt.later0 {t : TypeId} {w : World} {B : Nat} {a b : Int} (h : PairAt t w B a b) (p : Later w) : p.at'.cell? ⟨B, 0, none⟩ = some (.int .i64 a) := Later.cell h.facts.1 h.lt p
theorem PairAt.later1 {t : TypeId} {w : World} {B : Nat} {a b : Int} (h : PairAt t w B a b) (p : Later w) : p.at'.cell? ⟨B, 1, none⟩ = some (.int .i64 b) := Later.cell h.facts.2.1 h.lt p
end Go.Proofs.YtnjjbaodfjmiaaaGreat

/- Contracts of areSpots and Right, and of the reference's spots and Right. -/
namespace Go.Proofs.YtnjjbaodfjmiaaaGreat
open Go.RowKit Go.Lib Go.Joins
theorem RdZ.bound {B : Nat} {w : World} {a : Option Addr} {n c : Nat} {l : List Int} (h : RdZ B w (.slice a n c) l) : n = l.length ∧ l.length ≤ 9223372036854775807 := by
  obtain ⟨a', cap, e, h1, h2, _, _⟩ := h
  simp only [Value.slice.injEq] at e
  unfold maxLen at h2
  omega
theorem all_drop (p : Int → Bool) (l : List Int) (k : Nat) (hk : k < l.length) : (l.drop k).all p = (p (l.getD k 0) && (l.drop (k + 1)).all p) := by
  rw [List.drop_eq_getElem_cons hk, List.all_cons, List.getD_eq_getElem?_getD, List.getElem?_eq_getElem hk]
  rfl
set_option maxHeartbeats 4000000 in
set_option maxRecDepth 100000 in
theorem rspots_calls {w : World} {v vo vl vf v1 : Value} {sa : Option Addr} {n cs : Nat} {l : List Int} (h : RdZ w.heap.size w v l) : Calls Tryz.prog 90 #[.agg #[.slice sa n cs, vo, vl, vf, v1], v] w fun e w' => e = .returned (.bool (spotsB l n)) ∧ Below w.heap.size w w' := by
  have HS := hidden (show spotsB l n = ((l.drop 0).all (fun x => decide (0 ≤ x) && decide (x < n)) && upB l) by unfold spotsB; rw [List.drop_zero, Bool.and_comm])
  have hba := (Below.refl w.heap.size w).alloc (Nat.le_refl _) (.cells #[.slice sa n cs, vo, vl, vf, v1] 72)
  have HBA := hidden hba
  have HBX := hidden (net_box w (.slice sa n cs) vo vl vf v1 72)
  have HU := hidden (fun W (hb : Below w.heap.size w W) => rright_calls W v l (h.later hb))
  obtain ⟨a, c, rfl⟩ := h.form
  have hb := h.bound.2
  have HA := hidden (fun W (hb : Below w.heap.size w W) i (hi : i < l.length) => h.atZ hb i hi)
  have HD := hidden (fun k (hk : k < l.length) => all_drop (fun x => decide (0 ≤ x) && decide (x < n)) l k hk)
  have HN := hidden (fun k (hk : l.length ≤ k) => (show (l.drop k).all (fun x => decide (0 ≤ x) && decide (x < (n : Int))) = true by rw [List.drop_eq_nil_of_le hk]; rfl))
  obtain ⟨m, hm⟩ : ∃ m, m = l.length := ⟨_, rfl⟩
  rw [← hm] at HU HA HD HN hb ⊢
  clear h hm hba
  generalize spotsB l n = R at *
  go_enter Tryz.func90, Tryz.ntmps90
  go_wp2
  go_loopw [5] (fun i wr => ∃ k : Nat, k ≤ m ∧ i = .int .i64 k ∧ Hid (R = ((l.drop k).all (fun x => decide (0 ≤ x) && decide (x < (n : Int))) && upB l)) ∧ Below (w.heap.size + 1) (w.alloc (.cells #[.slice sa n cs, vo, vl, vf, v1] 72)) wr) (fun i _ => m - (Go.RowKit.intOf i).toNat)
  case atStart => exact ⟨0, by omega, rfl, HS, Below.refl _ _⟩
  case round =>
    obtain ⟨k, hk, rfl, hd, hb2⟩ := hrel
    have HB := hidden hb2
    obtain ⟨b0, b1, b2, b3, b4⟩ := HBX.out wr HB.out
    have HBW := hidden (show Below w.heap.size w wr from HBA.out.trans (hb2.mono (by omega)))
    clear hb2
    by_cases hlt : k < m
    · obtain ⟨b, off, rfl, _, c0⟩ := HA.out wr HBW.out k hlt
      have HK := hidden (HD.out k hlt)
      have hlt' := hlt
      have hkb : IntKind.i64.wrap ((k : Int) + 1) = (k : Int) + 1 := by rw [IntKind.wrap_i64]; omega
      generalize l.getD k 0 = x at *
      by_cases hx : 0 ≤ x
      · have hd0 : decide (x < 0) = false := decide_eq_false (by omega)
        have hd1 : decide (0 ≤ x) = true := decide_eq_true hx
        by_cases hx2 : x < (n : Int)
        · have hd2 : decide ((n : Int) ≤ x) = false := decide_eq_false (by omega)
          have HE := hidden (show R = ((l.drop (k + 1)).all (fun x => decide (0 ≤ x) && decide (x < (n : Int))) && upB l) from by rw [hd.out, HK.out, hd1, decide_eq_true hx2]; simp)
          clear hx hx2 hd HK hd1
          go_wp2
          go_region
          all_goals
            go_wp2
            go_roundw
            case rel => exact ⟨k + 1, by omega, by go_num, HE, below_drawn HB.out 1⟩
            case measure => simp [Go.RowKit.intOf]; omega
        · have hd2 : decide ((n : Int) ≤ x) = true := decide_eq_true (by omega)
          have HE := hidden (show R = false from by rw [hd.out, HK.out, decide_eq_false hx2]; simp)
          clear hx hx2 hd HK hd1
          go_wp2
          go_region
          all_goals
            go_wp2
            go_ret
            exact ⟨ret_b HE.out.symm, below_drawn HBW.out 1⟩
      · have hd0 : decide (x < 0) = true := decide_eq_true (by omega)
        have HE := hidden (show R = false from by rw [hd.out, HK.out, decide_eq_false hx]; simp)
        clear hx hd HK
        go_wp2
        go_region
        all_goals
          go_wp2
          go_ret
          exact ⟨ret_b HE.out.symm, below_drawn HBW.out 1⟩
    · obtain rfl : k = m := by omega
      have HE := hidden (show R = upB l from by rw [hd.out, HN.out _ (Nat.le_refl _), Bool.true_and])
      clear hd
      go_wp2_with fail
      refine (HU.out wr HBW.out).mono ?_
      rintro e w5 ⟨rfl, hb5⟩
      go_wp2
      go_ret
      exact ⟨ret_b HE.out.symm, below_after HBW.out hb5⟩
end Go.Proofs.YtnjjbaodfjmiaaaGreat
