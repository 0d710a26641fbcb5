/- FuHave, FuWith, FuJoin, FuRightN, put together. -/
import Derived.Test.YtnjjbaodfjmiaaaGreatLt19
import Derived.Test.YtnjjbaodfjmiaaaGreatLt05
import Derived.Laws.MakeOwn
import Derived.Deep.OwnRows
import Derived.Lib.SmallJoins
/- Contracts of having and of the reference's with: spots whose set has a byte. -/
namespace Go.Proofs.YtnjjbaodfjmiaaaGreat
open Go.RowKit Go.Lib Go.Joins
/-- has the set of a spot the byte? -/
def selB (S : List Stp) (b : Nat) (x : Int) : Bool := bitsE (S.getD x.toNat default) b
/-- the four cells of a set, as words of a set of bytes -/
theorem RdS.words {B : Nat} {w w' : World} {a : Option Addr} {n c : Nat} {S : List Stp} (h : RdS B w (.slice a n c) S) (hw : ∀ s ∈ S, s.wide) (hb : Below B w w') (p : Nat) (hp : p < S.length) : ∃ g off, a = some ⟨g, off, none⟩ ∧ g < B ∧ w'.cell? ⟨g, off + p * 4, none⟩ = some (.int .u64 (word (bitsE (S.getD p default)) 0)) ∧ w'.cell? ⟨g, off + p * 4 + 1, none⟩ = some (.int .u64 (word (bitsE (S.getD p default)) 1)) ∧ w'.cell? ⟨g, off + p * 4 + 2, none⟩ = some (.int .u64 (word (bitsE (S.getD p default)) 2)) ∧ w'.cell? ⟨g, off + p * 4 + 3, none⟩ = some (.int .u64 (word (bitsE (S.getD p default)) 3)) := by
  obtain ⟨g, off, e, hg, x0, x1, x2, x3⟩ := h.at hb p hp
  have hwd : (S.getD p default).wide := hw _ (by
    rw [List.getD_eq_getElem?_getD, List.getElem?_eq_getElem hp]
    exact List.getElem_mem _)
  obtain ⟨e0, e1, e2, e3⟩ := bitsE_words hwd
  rw [← e0] at x0
  rw [← e1] at x1
  rw [← e2] at x2
  rw [← e3] at x3
  exact ⟨g, off, e, hg, x0, x1, x2, x3⟩
end Go.Proofs.YtnjjbaodfjmiaaaGreat

/- Contract of the reference's with; what having answers of a rising list is what with answers. -/
namespace Go.Proofs.YtnjjbaodfjmiaaaGreat
open Go.RowKit Go.Lib Go.Joins
theorem zup_ext : ∀ {a b : List Int}, a.Pairwise (· < ·) → b.Pairwise (· < ·) → (∀ p, p ∈ a ↔ p ∈ b) → a = b
  | [], [], _, _, _ => rfl
  | [], y :: b, _, _, h => by have := (h y).2 (by simp); simp at this
  | x :: a, [], _, _, h => by have := (h x).1 (by simp); simp at this
  | x :: a, y :: b, ha, hb, h => by
    obtain ⟨ha1, ha2⟩ := List.pairwise_cons.1 ha
    obtain ⟨hb1, hb2⟩ := List.pairwise_cons.1 hb
    have hxy : x = y := by
      have h1 := (h x).1 (by simp)
      have h2 := (h y).2 (by simp)
      simp only [List.mem_cons] at h1 h2
      rcases h1 with h1 | h1
      · exact h1
      · rcases h2 with h2 | h2
        · exact h2.symm
        · have := hb1 x h1; have := ha1 y h2; omega
    subst hxy
    congr 1
    refine zup_ext ha2 hb2 fun p => ?_
    have h1 := h p
    simp only [List.mem_cons] at h1
    constructor
    · intro hp
      have := ha1 p hp
      rcases h1.1 (.inr hp) with h2 | h2
      · omega
      · exact h2
    · intro hp
      have := hb1 p hp
      rcases h1.2 (.inr hp) with h2 | h2
      · omega
      · exact h2
theorem hits_up (G : Nat → Bool) (n : Nat) : (hits G n).Pairwise (· < ·) := List.Pairwise.filter _ List.pairwise_lt_range
theorem spI_up {l : List Nat} (h : l.Pairwise (· < ·)) : (spI l).Pairwise (· < ·) := by
  unfold spI
  rw [List.pairwise_map]
  exact h.imp fun h => by omega
theorem hits_mem (G : Nat → Bool) (n : Nat) (p : Nat) : p ∈ hits G n ↔ p < n ∧ G p = true := by unfold hits; simp
theorem mem_spIZ (x : Int) (l : List Nat) : x ∈ spI l ↔ ∃ p : Nat, x = p ∧ p ∈ l := by
  unfold spI
  rw [List.mem_map]
  exact ⟨fun ⟨a, h, e⟩ => ⟨a, e.symm, h⟩, fun ⟨p, e, h⟩ => ⟨p, h, e.symm⟩⟩
/-- what is said of rising spots below n -/
def withG (S : List Stp) (b : Nat) (l : List Int) (i : Nat) : Bool := decide ((i : Int) ∈ l) && selB S b i
set_option maxHeartbeats 8000000 in
set_option maxRecDepth 100000 in
theorem rwith12_calls {w : World} {v vo vl vf v1 : Value} {sa : Option Addr} {ns cs b : Nat} {S : List Stp} {l : List Int} (hs : RdS w.heap.size w (.slice sa ns cs) S) (hw : ∀ s ∈ S, s.wide) (h : RdZ w.heap.size w v l) (hb : b < 256) (hn : ns ≤ 100000) :
    Calls Tryz.prog 92 #[.agg #[.slice sa ns cs, vo, vl, vf, v1], v, .int .u8 b] w (RetZ w (spI (hits (withG S b l) ns))) := by
  have hba := (Below.refl w.heap.size w).alloc (Nat.le_refl _) (.cells #[.slice sa ns cs, vo, vl, vf, v1] 72)
  have hbx := net_box w (.slice sa ns cs) vo vl vf v1 72
  obtain ⟨w0, hw0⟩ : ∃ w0, w0 = w.alloc (.cells #[.slice sa ns cs, vo, vl, vf, v1] 72) := ⟨_, rfl⟩
  have hs0 : w0.heap.size = w.heap.size + 1 := by rw [hw0]; simp
  rw [← hw0] at hba hbx
  have HBA := hidden hba
  have HBX := hidden hbx
  have HN0 := hidden (RowZ.lit w0 w0.heap.size rfl #[] rfl)
  have HW0 := hidden hw0
  have HS0 := hidden hs0
  obtain ⟨a, c, rfl⟩ := h.form
  have hns : ns = S.length := by
    obtain ⟨_, _, e, _⟩ := hs
    simp only [Value.slice.injEq] at e
    exact e.2.1
  have HW := hidden (fun W (hb : Below w.heap.size w W) p (hp : p < S.length) => hs.words hw hb p hp)
  have HH := hidden (fun W (hb : Below w.heap.size w W) (i : Nat) => has11_calls (B := W.heap.size) W _ l (i : Int) (h.later hb))
  have H2 := hidden (fun f W => rhas_nat f b W hb)
  have HTT := hidden (fun r => (show spI (hits (withG S b l) (r + 1)) = if withG S b l r = true then spI (hits (withG S b l) r) ++ [(r : Int)] else spI (hits (withG S b l) r) by
    rw [hits_more]
    split
    · rw [spI_more]
    · rfl))
  have HLN := hidden (fun r => (show (spI (hits (withG S b l) r)).length ≤ r by rw [spI_len]; exact hits_len _ r))
  have HWG := hidden (fun i : Nat => (show withG S b l i = (decide ((i : Int) ∈ l) && bitsE (S.getD i default) b) from rfl))
  have HZ := hidden (show spI (hits (withG S b l) 0) = [] by rw [hits_zero, spI_nil])
  rw [← hns] at HW
  obtain ⟨R, hR⟩ : ∃ R, R = fun r => spI (hits (withG S b l) r) := ⟨_, rfl⟩
  have HTT := hidden (fun r => (show R (r + 1) = if withG S b l r = true then R r ++ [(r : Int)] else R r by rw [hR]; exact HTT.out r))
  have HLN := hidden (fun r => (show (R r).length ≤ r by rw [hR]; exact HLN.out r))
  have HZ := hidden (show R 0 = [] by rw [hR]; exact HZ.out)
  rw [show spI (hits (withG S b l) ns) = R ns by rw [hR]]
  obtain ⟨ln, hln⟩ : ∃ ln, ln = l.length := ⟨_, rfl⟩
  rw [← hln] at HH ⊢
  clear h hba hbx hs hw hns hw0 hs0 hR hln
  go_enter Tryz.func92, Tryz.ntmps92
  go_wp2
  rw [← HW0.out]
  have hq0 := HS0.out
  go_loopw [7, 8] (fun v i wr => ∃ (k : Nat) (o : Value), k ≤ ns ∧ o = v ∧ i = .int .i64 k ∧ RowZ wr (w.heap.size + 1) o (R k) ∧ Below (w.heap.size + 1) w0 wr) (fun _ i _ => ns - (Go.RowKit.intOf i).toNat)
  case atStart => exact ⟨0, _, by omega, rfl, rfl, by rw [HZ.out]; have := HN0.out; rw [hq0] at this; exact this, by rw [← hq0]; exact (Below.refl _ _).alloc (Nat.le_refl _) _⟩
  case round =>
    clear HN0
    obtain ⟨k, o, hk, rfl, rfl, hG, hb3⟩ := hrel
    have HG := hidden hG
    have HB := hidden hb3
    obtain ⟨b0, b1, b2, b3, b4⟩ := HBX.out wr HB.out
    have HBW := hidden (show Below w.heap.size w wr from HBA.out.trans (hb3.mono (by omega)))
    clear hG hb3
    by_cases hlt : k < ns
    · obtain ⟨g, og, rfl, hg, x0, x1, x2, x3⟩ := HW.out wr HBW.out k hlt
      have HK := hidden (HTT.out k)
      have HGK := hidden (HWG.out k)
      have HHK := hidden (HH.out wr HBW.out k)
      have hlt' := hlt
      have hln := HLN.out k
      obtain ⟨f, hf⟩ : ∃ f, f = bitsE (S.getD k default) := ⟨_, rfl⟩
      rw [← hf] at x0 x1 x2 x3 HGK
      generalize decide ((k : Int) ∈ l) = u at *
      clear hf
      cases u
      case false =>
        have HR := hidden (show R (k + 1) = R k by rw [HK.out, HGK.out]; rfl)
        clear x0 x1 x2 x3
        go_wp2_with fail
        refine HHK.out.mono ?_
        rintro e w5 ⟨rfl, hb5⟩
        have HB5 := hidden (below_then HB.out (by have := HB.out.size; omega) hb5)
        have HG5 := hidden (HG.out.kept hb5)
        clear hb5
        go_wp2
        go_roundw
        case rel => exact ⟨k + 1, _, by omega, rfl, by go_num, by rw [HR.out]; exact HG5.out, HB5.out⟩
        case measure => simp [Go.RowKit.intOf]; omega
      case true =>
        rw [Bool.true_and] at HGK
        have HH2 := hidden (H2.out f)
        have HX := hidden (fun W (hb : Below wr.heap.size wr W) => (show W.cell? ⟨g, og + k * 4, none⟩ = some (.int .u64 (word f 0)) ∧ W.cell? ⟨g, og + k * 4 + 1, none⟩ = some (.int .u64 (word f 1)) ∧ W.cell? ⟨g, og + k * 4 + 2, none⟩ = some (.int .u64 (word f 2)) ∧ W.cell? ⟨g, og + k * 4 + 3, none⟩ = some (.int .u64 (word f 3)) from ⟨(hb.cell (p := ⟨g, og + k * 4, none⟩) (cell_lt x0)).trans x0, (hb.cell (p := ⟨g, og + k * 4 + 1, none⟩) (cell_lt x1)).trans x1, (hb.cell (p := ⟨g, og + k * 4 + 2, none⟩) (cell_lt x2)).trans x2, (hb.cell (p := ⟨g, og + k * 4 + 3, none⟩) (cell_lt x3)).trans x3⟩))
        clear x0 x1 x2 x3
        cases hfb : f b
        case false =>
          rw [hfb] at HGK HH2
          have HR := hidden (show R (k + 1) = R k by rw [HK.out, HGK.out]; rfl)
          clear hfb
          go_wp2_with fail
          refine HHK.out.mono ?_
          rintro e w5 ⟨rfl, hb5⟩
          have HB5 := hidden (below_then HB.out (by have := HB.out.size; omega) hb5)
          have HG5 := hidden (HG.out.kept hb5)
          obtain ⟨x0, x1, x2, x3⟩ := HX.out w5 hb5
          obtain ⟨b0, b1, b2, b3, b4⟩ := HBX.out w5 HB5.out
          clear hb5
          go_wp2_with fail
          refine (HH2.out _).mono ?_
          rintro e w6 ⟨rfl, hb6⟩
          have HB6 := hidden (below_then HB5.out (by have := HB5.out.size; omega) hb6)
          have HG6 := hidden (HG5.out.kept hb6)
          clear hb6
          go_wp2
          go_roundw
          case rel => exact ⟨k + 1, _, by omega, rfl, by go_num, by rw [HR.out]; exact HG6.out, HB6.out⟩
          case measure => simp [Go.RowKit.intOf]; omega
        case true =>
          rw [hfb] at HGK HH2
          have HR := hidden (show R (k + 1) = R k ++ [(k : Int)] by rw [HK.out, HGK.out]; rfl)
          obtain ⟨q, hq⟩ : ∃ q, q = (R k).length := ⟨_, rfl⟩
          rw [← hq] at hln
          have HM := hidden hq.symm
          clear hfb hq
          go_wp2_with fail
          refine HHK.out.mono ?_
          rintro e w5 ⟨rfl, hb5⟩
          have HB5 := hidden (below_then HB.out (by have := HB.out.size; omega) hb5)
          have HG5 := hidden (HG.out.kept hb5)
          obtain ⟨x0, x1, x2, x3⟩ := HX.out w5 hb5
          obtain ⟨b0, b1, b2, b3, b4⟩ := HBX.out w5 HB5.out
          clear hb5
          go_wp2_with fail
          refine (HH2.out _).mono ?_
          rintro e w6 ⟨rfl, hb6⟩
          have HB6 := hidden (below_then HB5.out (by have := HB5.out.size; omega) hb6)
          have HG6 := hidden (HG5.out.kept hb6)
          have HAA := hidden (HG6.out.kept ((Below.refl w6.heap.size w6).alloc (Nat.le_refl _) (.cells #[.int .i64 (k : Int)] 3)))
          have HBB := hidden (HB6.out.alloc (by have := HB6.out.size; omega) (.cells #[.int .i64 (k : Int)] 3))
          have HBL := hidden (show w.heap.size + 1 ≤ (w6.alloc (.cells #[.int .i64 (k : Int)] 3)).heap.size by have := HB6.out.size; simp; omega)
          clear hb6
          go_wp2_with (at_builtin; refine app_z rfl _ _ rfl rfl HAA.out rfl (heap_alloc_new w6 _) HM.out (by omega) HBL.out ?_; intro g' c3 w7 hr7 hg7 hb7; have HR7 := hidden hr7; have HB7 := hidden (HBB.out.trans hb7); clear hr7 hg7 hb7)
          go_roundw
          case rel => exact ⟨k + 1, _, by omega, rfl, by go_num, by rw [HR.out]; exact HR7.out, HB7.out⟩
          case measure => simp [Go.RowKit.intOf]; omega
    · obtain rfl : k = ns := by omega
      go_wp2
      go_ret
      exact ⟨_, rfl, HG.out.lower (by omega), HBW.out⟩
end Go.Proofs.YtnjjbaodfjmiaaaGreat

/- Contract of joined: what is in any of some lists. -/
namespace Go.Proofs.YtnjjbaodfjmiaaaGreat
open Go.RowKit Go.Lib Go.Joins
end Go.Proofs.YtnjjbaodfjmiaaaGreat

/- Contracts of Right and of the reference's Right. -/
namespace Go.Proofs.YtnjjbaodfjmiaaaGreat
open Go.RowKit Go.Lib Go.Joins
def rowB (N : NetM) (i : Nat) : Bool := decide (0 ≤ N.of.getD i 0) && spotsB (N.fol.getD i []) N.sets.length
theorem rightB_lens {N : NetM} (h : ¬ (N.of.length = N.sets.length ∧ N.last.length = N.sets.length ∧ N.fol.length = N.sets.length)) : rightB N = false := by
  unfold rightB
  rw [decide_eq_false h, Bool.false_and]
theorem rightB_first {N : NetM} (h : spotsB N.first N.sets.length = false) : rightB N = false := by
  unfold rightB
  rw [h, Bool.false_and, Bool.and_false]
theorem rightB_row {N : NetM} {i : Nat} (hi : i < N.sets.length) (h : rowB N i = false) : rightB N = false := by
  unfold rightB
  have : ((List.range N.sets.length).all fun i => decide (0 ≤ N.of.getD i 0) && spotsB (N.fol.getD i []) N.sets.length) = false := by
    rw [List.all_eq_false]
    exact ⟨i, List.mem_range.2 hi, by unfold rowB at h; rw [h]; decide⟩
  rw [this, Bool.and_false, Bool.and_false]
theorem rightB_all {N : NetM} (h1 : N.of.length = N.sets.length ∧ N.last.length = N.sets.length ∧ N.fol.length = N.sets.length) (h2 : spotsB N.first N.sets.length = true) (h3 : ∀ i, i < N.sets.length → rowB N i = true) : rightB N = true := by
  unfold rightB
  rw [decide_eq_true h1, h2, Bool.true_and, Bool.true_and, List.all_eq_true]
  intro i hi
  exact h3 i (List.mem_range.1 hi)
theorem rightB_iff (N : NetM) : rightB N = true ↔ (N.of.length = N.sets.length ∧ N.last.length = N.sets.length ∧ N.fol.length = N.sets.length) ∧ spotsB N.first N.sets.length = true ∧ ∀ i, i < N.sets.length → rowB N i = true := by
  constructor
  · intro h
    refine ⟨Classical.byContradiction fun e => ?_, ?_, fun i hi => ?_⟩
    · rw [rightB_lens e] at h; cases h
    · cases e : spotsB N.first N.sets.length
      · rw [rightB_first e] at h; cases h
      · rfl
    · cases e : rowB N i
      · rw [rightB_row hi e] at h; cases h
      · rfl
  · rintro ⟨h1, h2, h3⟩
    exact rightB_all h1 h2 h3
set_option maxHeartbeats 8000000 in
set_option maxRecDepth 100000 in
theorem rright12_calls {w : World} {vs vo vl vf v1 : Value} {N : NetM} (h : RdNet w.heap.size w vs vo vl vf v1 N) : Calls Tryz.prog 62 #[.agg #[vs, vo, vl, vf, v1]] w fun e w' => e = .returned (.bool (rightB N)) ∧ Below w.heap.size w w' := by
  obtain ⟨sa, cs, rfl⟩ := h.sets.form
  obtain ⟨so, co, rfl⟩ := h.of.form
  obtain ⟨sl, cl, rfl⟩ := h.last.form
  obtain ⟨sf, cf, rfl⟩ := h.fol.form
  obtain ⟨s1, c1, rfl⟩ := h.first.form
  have hnb := h.of.bound.2
  have hba := (Below.refl w.heap.size w).alloc (Nat.le_refl _) (.cells #[.slice sa N.sets.length cs, .slice so N.of.length co, .slice sl N.last.length cl, .slice sf N.fol.length cf, .slice s1 N.first.length c1] 72)
  have HBA := hidden hba
  have HBX := hidden (net_box w (.slice sa N.sets.length cs) (.slice so N.of.length co) (.slice sl N.last.length cl) (.slice sf N.fol.length cf) (.slice s1 N.first.length c1) 72)
  have HFS := hidden (fun W (hb : Below w.heap.size w W) => (rspots_calls (vo := .slice so N.of.length co) (vl := .slice sl N.last.length cl) (vf := .slice sf N.fol.length cf) (v1 := .slice s1 N.first.length c1) (sa := sa) (n := N.sets.length) (cs := cs) ((h.first).later hb)))
  have HOF := hidden (fun W (hb : Below w.heap.size w W) i (hi : i < N.of.length) => h.of.atZ hb i hi)
  have HFO := hidden (fun W (hb : Below w.heap.size w W) i (hi : i < N.fol.length) => h.fol.at hb i hi)
  have HSP := hidden (fun W (hb : Below w.heap.size w W) a' c' i (hr : RdZ w.heap.size W (.slice a' (N.fol.getD i []).length c') (N.fol.getD i [])) => (rspots_calls (vo := .slice so N.of.length co) (vl := .slice sl N.last.length cl) (vf := .slice sf N.fol.length cf) (v1 := .slice s1 N.first.length c1) (sa := sa) (n := N.sets.length) (cs := cs) (hr.below (Below.refl _ _) hb.size)))
  have HX1 := hidden (rightB_lens (N := N))
  have HX2 := hidden (rightB_first (N := N))
  have HX3 := hidden (fun i => rightB_row (N := N) (i := i))
  have HX4 := hidden (rightB_all (N := N))
  obtain ⟨ns, hns⟩ : ∃ k, k = N.sets.length := ⟨_, rfl⟩
  obtain ⟨no, hno⟩ : ∃ k, k = N.of.length := ⟨_, rfl⟩
  obtain ⟨nl, hnl⟩ : ∃ k, k = N.last.length := ⟨_, rfl⟩
  obtain ⟨nf, hnf⟩ : ∃ k, k = N.fol.length := ⟨_, rfl⟩
  obtain ⟨n1, hn1⟩ : ∃ k, k = N.first.length := ⟨_, rfl⟩
  have HRB := hidden (fun i => (show rowB N i = (decide (0 ≤ N.of.getD i 0) && spotsB (N.fol.getD i []) ns) by rw [hns]; rfl))
  rw [← hns, ← hno, ← hnl, ← hnf] at HX1 HX4
  rw [← hns] at HX2 HX3 HSP HFS HBX HBA ⊢
  rw [← hno] at HOF HBX HBA HFS HSP hnb ⊢
  rw [← hnl] at HBX HBA HFS HSP ⊢
  rw [← hnf] at HFO HBX HBA HFS HSP ⊢
  rw [← hn1] at HFS HSP HBX HBA ⊢
  clear h hba hns hno hnl hnf hn1
  generalize rightB N = R at *
  generalize spotsB N.first ns = f1 at *
  by_cases e0 : no = ns
  case neg =>
    have HE := hidden (HX1.out (fun h => e0 h.1))
    have q0 : ((no : Int) != (ns : Int)) = true := by rw [bne_iff_ne]; omega
    clear e0 HX1 HX2 HX3 HX4
    obtain ⟨b0, b1, b2, b3, b4⟩ := HBX.out _ (Below.refl _ _)
    go_enter Tryz.func62, Tryz.ntmps62
    go_wp2
    go_ret
    exact ⟨ret_b HE.out.symm, HBA.out⟩
  have q0 : ((no : Int) != (ns : Int)) = false := by rw [bne_eq_false_iff_eq]; omega
  have E0 := hidden e0
  clear e0
  by_cases e1 : nl = ns
  case neg =>
    have HE := hidden (HX1.out (fun h => e1 h.2.1))
    have q1 : ((nl : Int) != (ns : Int)) = true := by rw [bne_iff_ne]; omega
    clear e1 HX1 HX2 HX3 HX4
    obtain ⟨b0, b1, b2, b3, b4⟩ := HBX.out _ (Below.refl _ _)
    go_enter Tryz.func62, Tryz.ntmps62
    go_wp2
    go_ret
    exact ⟨ret_b HE.out.symm, HBA.out⟩
  have q1 : ((nl : Int) != (ns : Int)) = false := by rw [bne_eq_false_iff_eq]; omega
  have E1 := hidden e1
  clear e1
  by_cases e2 : nf = ns
  case neg =>
    have HE := hidden (HX1.out (fun h => e2 h.2.2))
    have q2 : ((nf : Int) != (ns : Int)) = true := by rw [bne_iff_ne]; omega
    clear e2 HX1 HX2 HX3 HX4
    obtain ⟨b0, b1, b2, b3, b4⟩ := HBX.out _ (Below.refl _ _)
    go_enter Tryz.func62, Tryz.ntmps62
    go_wp2
    go_ret
    exact ⟨ret_b HE.out.symm, HBA.out⟩
  have q2 : ((nf : Int) != (ns : Int)) = false := by rw [bne_eq_false_iff_eq]; omega
  have E2 := hidden e2
  clear e2
  have HLN := hidden (show no = ns ∧ nl = ns ∧ nf = ns from ⟨E0.out, E1.out, E2.out⟩)
  cases f1
  case false =>
    have HE := hidden (HX2.out rfl)
    clear HX1 HX2 HX3 HX4
    obtain ⟨b0, b1, b2, b3, b4⟩ := HBX.out _ (Below.refl _ _)
    go_enter Tryz.func62, Tryz.ntmps62
    go_wp2_with fail
    refine (HFS.out _ HBA.out).mono ?_
    rintro e w1 ⟨rfl, hb1⟩
    go_wp2
    go_ret
    exact ⟨ret_b HE.out.symm, below_then HBA.out (by simp) hb1⟩
  case true =>
    have HX5 := hidden (HX4.out HLN.out rfl)
    clear HX1 HX2 HX4
    obtain ⟨b0, b1, b2, b3, b4⟩ := HBX.out _ (Below.refl _ _)
    go_enter Tryz.func62, Tryz.ntmps62
    go_wp2_with fail
    refine (HFS.out _ HBA.out).mono ?_
    rintro e w1 ⟨rfl, hb1⟩
    have HB1 := hidden (show Below (w.heap.size + 1) (w.alloc (.cells #[.slice sa ns cs, .slice so no co, .slice sl nl cl, .slice sf nf cf, .slice s1 n1 c1] 72)) w1 by simpa using hb1)
    clear hb1 b0 b1 b2 b3 b4
    go_wp2
    go_loopw [3] (fun i wr => ∃ k : Nat, k ≤ ns ∧ i = .int .i64 k ∧ Hid (∀ j, j < k → rowB N j = true) ∧ Below (w.heap.size + 1) (w.alloc (.cells #[.slice sa ns cs, .slice so no co, .slice sl nl cl, .slice sf nf cf, .slice s1 n1 c1] 72)) wr) (fun i _ => ns - (Go.RowKit.intOf i).toNat)
    case atStart => exact ⟨0, by omega, rfl, hidden (fun j hj => absurd hj (by omega)), HB1.out⟩
    case round =>
      clear HB1
      obtain ⟨k, hk, rfl, hd, hb2⟩ := hrel
      have HB := hidden hb2
      obtain ⟨b0, b1, b2, b3, b4⟩ := HBX.out wr HB.out
      have HBW := hidden (show Below w.heap.size w wr from HBA.out.trans (hb2.mono (by omega)))
      clear hb2
      by_cases hlt : k < ns
      · have hlo : k < no := by have := HLN.out; omega
        have hlf : k < nf := by have := HLN.out; omega
        obtain ⟨bo, oo, rfl, hbo, c0⟩ := HOF.out wr HBW.out k hlo
        obtain ⟨bf, of, a', c', rfl, hbf, d0, hr⟩ := HFO.out wr HBW.out k hlf
        have HS := hidden (fun W (hb : Below wr.heap.size wr W) => HSP.out W (below_after HBW.out hb) a' c' k (hr.below (hb.mono HBW.out.size) (Nat.le_refl _)))
        have HK := hidden (HRB.out k)
        have hlt' := hlt
        have hkb : IntKind.i64.wrap ((k : Int) + 1) = (k : Int) + 1 := by rw [IntKind.wrap_i64]; have := HLN.out; omega
        obtain ⟨lk, hlk⟩ : ∃ lk, lk = (N.fol.getD k []).length := ⟨_, rfl⟩
        rw [← hlk] at d0 HS
        generalize spotsB (N.fol.getD k []) ns = sk at *
        generalize N.of.getD k 0 = x at *
        clear hr hlk
        by_cases hx : x < 0
        case pos =>
          have hd0 : decide (x < 0) = true := decide_eq_true hx
          have HE := hidden (HX3.out k hlt (by rw [HK.out, decide_eq_false (show ¬ 0 ≤ x by omega), Bool.false_and]))
          clear hx
          have hbl : w.heap.size < wr.heap.size := by have := HB.out.size; simp at this; omega
          have hsw := HBW.out.size
          have hcc := fun (p : Later wr) => Later.cell c0 (show bo < wr.heap.size by omega) p
          have hdc := fun (p : Later wr) => Later.cell d0 (show bf < wr.heap.size by omega) p
          have h0 := fun (p : Later wr) => Later.cell b0 hbl p
          have h1 := fun (p : Later wr) => Later.cell b1 hbl p
          have h2 := fun (p : Later wr) => Later.cell b2 hbl p
          have h3 := fun (p : Later wr) => Later.cell b3 hbl p
          have h4 := fun (p : Later wr) => Later.cell b4 hbl p
          have HSL := hidden (fun (p : Later wr) => HS.out p.at' p.ok)
          go_wp2
          refine wp_region_later (by kernel_rfl) (by kernel_rfl) ?_
          repeat (go_big_quiet_step (with_reducible exact Later.calls (HSL.out _)))
          refine wpQuiet_nil ?_
          rintro _ ⟨⟨_, hb5⟩, rfl⟩
          rename_i w5
          have HB5 := hidden (below_then HB.out (by have := HB.out.size; simpa using this) hb5)
          have HBW5 := hidden (below_after HBW.out hb5)
          clear hb5 hcc hdc h0 h1 h2 h3 h4
          go_wp2
          go_ret
          exact ⟨ret_b HE.out.symm, HBW5.out⟩
        case neg =>
          have hd0 : decide (x < 0) = false := decide_eq_false hx
          rw [decide_eq_true (show 0 ≤ x by omega), Bool.true_and] at HK
          clear hx
          cases sk
          case false =>
            have HE := hidden (HX3.out k hlt HK.out)
            have hbl : w.heap.size < wr.heap.size := by have := HB.out.size; simp at this; omega
            have hsw := HBW.out.size
            have hcc := fun (p : Later wr) => Later.cell c0 (show bo < wr.heap.size by omega) p
            have hdc := fun (p : Later wr) => Later.cell d0 (show bf < wr.heap.size by omega) p
            have h0 := fun (p : Later wr) => Later.cell b0 hbl p
            have h1 := fun (p : Later wr) => Later.cell b1 hbl p
            have h2 := fun (p : Later wr) => Later.cell b2 hbl p
            have h3 := fun (p : Later wr) => Later.cell b3 hbl p
            have h4 := fun (p : Later wr) => Later.cell b4 hbl p
            have HSL := hidden (fun (p : Later wr) => HS.out p.at' p.ok)
            go_wp2
            refine wp_region_later (by kernel_rfl) (by kernel_rfl) ?_
            repeat (go_big_quiet_step (with_reducible exact Later.calls (HSL.out _)))
            refine wpQuiet_nil ?_
            rintro _ ⟨⟨_, hb5⟩, rfl⟩
            rename_i w5
            have HB5 := hidden (below_then HB.out (by have := HB.out.size; simpa using this) hb5)
            have HBW5 := hidden (below_after HBW.out hb5)
            clear hb5 hcc hdc h0 h1 h2 h3 h4
            go_wp2
            go_ret
            exact ⟨ret_b HE.out.symm, HBW5.out⟩
          case true =>
            have HD2 := hidden (show ∀ j, j < k + 1 → rowB N j = true from fun j hj => by
              by_cases e : j = k
              · subst e; exact HK.out
              · exact hd.out j (by omega))
            have hbl : w.heap.size < wr.heap.size := by have := HB.out.size; simp at this; omega
            have hsw := HBW.out.size
            have hcc := fun (p : Later wr) => Later.cell c0 (show bo < wr.heap.size by omega) p
            have hdc := fun (p : Later wr) => Later.cell d0 (show bf < wr.heap.size by omega) p
            have h0 := fun (p : Later wr) => Later.cell b0 hbl p
            have h1 := fun (p : Later wr) => Later.cell b1 hbl p
            have h2 := fun (p : Later wr) => Later.cell b2 hbl p
            have h3 := fun (p : Later wr) => Later.cell b3 hbl p
            have h4 := fun (p : Later wr) => Later.cell b4 hbl p
            have HSL := hidden (fun (p : Later wr) => HS.out p.at' p.ok)
            go_wp2
            refine wp_region_later (by kernel_rfl) (by kernel_rfl) ?_
            repeat (go_big_quiet_step (with_reducible exact Later.calls (HSL.out _)))
            refine wpQuiet_nil ?_
            rintro _ ⟨⟨_, hb5⟩, rfl⟩
            rename_i w5
            have HB5 := hidden (below_then HB.out (by have := HB.out.size; simpa using this) hb5)
            have HBW5 := hidden (below_after HBW.out hb5)
            clear hb5 hcc hdc h0 h1 h2 h3 h4
            go_wp2
            go_roundw
            case rel => exact ⟨k + 1, by omega, by go_num, HD2, HB5.out⟩
            case measure => simp [Go.RowKit.intOf]; omega
      · obtain rfl : k = ns := by omega
        have HE := hidden (HX5.out hd.out)
        have hdd : decide ((k : Int) < (k : Int)) = false := by simp
        clear hd
        go_wp2
        go_ret
        exact ⟨ret_b HE.out.symm, HBW.out⟩
end Go.Proofs.YtnjjbaodfjmiaaaGreat
