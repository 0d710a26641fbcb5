/- FuRightN, FuStep, FuStart, FuStepP, put together. -/
import Derived.Test.YtgaadndhecokfaaMu28
import Derived.Test.YtgaadndhecokfaaMu16
/- Contracts of Right and of the reference's Right. -/
namespace Go.Proofs.Ytgaadndhecokfaa
open Go.RowKit Go.Lib Go.Joins
def rowB (N : NetM) (i : Nat) : Bool := decide (0 ≤ N.of.getD i 0) && spotsB (N.fol.getD i []) N.sets.length
theorem rightB_lens {N : NetM} (h : ¬ (N.of.length = N.sets.length ∧ N.last.length = N.sets.length ∧ N.fol.length = N.sets.length)) : rightB N = false := by
  unfold rightB
  rw [decide_eq_false h, Bool.false_and]
theorem rightB_first {N : NetM} (h : spotsB N.first N.sets.length = false) : rightB N = false := by
  unfold rightB
  rw [h, Bool.false_and, Bool.and_false]
theorem rightB_row {N : NetM} {i : Nat} (hi : i < N.sets.length) (h : rowB N i = false) : rightB N = false := by
  unfold rightB
  have : ((List.range N.sets.length).all fun i => decide (0 ≤ N.of.getD i 0) && spotsB (N.fol.getD i []) N.sets.length) = false := by
    rw [List.all_eq_false]
    exact ⟨i, List.mem_range.2 hi, by unfold rowB at h; rw [h]; decide⟩
  rw [this, Bool.and_false, Bool.and_false]
theorem rightB_all {N : NetM} (h1 : N.of.length = N.sets.length ∧ N.last.length = N.sets.length ∧ N.fol.length = N.sets.length) (h2 : spotsB N.first N.sets.length = true) (h3 : ∀ i, i < N.sets.length → rowB N i = true) : rightB N = true := by
  unfold rightB
  rw [decide_eq_true h1, h2, Bool.true_and, Bool.true_and, List.all_eq_true]
  intro i hi
  exact h3 i (List.mem_range.1 hi)
theorem rightB_iff (N : NetM) : rightB N = true ↔ (N.of.length = N.sets.length ∧ N.last.length = N.sets.length ∧ N.fol.length = N.sets.length) ∧ spotsB N.first N.sets.length = true ∧ ∀ i, i < N.sets.length → rowB N i = true := by
  constructor
  · intro h
    refine ⟨Classical.byContradiction fun e => ?_, ?_, fun i hi => ?_⟩
    · rw [rightB_lens e] at h; cases h
    · cases e : spotsB N.first N.sets.length
      · rw [rightB_first e] at h; cases h
      · rfl
    · cases e : rowB N i
      · rw [rightB_row hi e] at h; cases h
      · rfl
  · rintro ⟨h1, h2, h3⟩
    exact rightB_all h1 h2 h3
set_option maxHeartbeats 8000000 in
set_option maxRecDepth 100000 in
theorem rright12_calls {w : World} {vs vo vl vf v1 : Value} {N : NetM} (h : RdNet w.heap.size w vs vo vl vf v1 N) : Calls Try.prog 32 #[.agg #[vs, vo, vl, vf, v1]] w fun e w' => e = .returned (.bool (rightB N)) ∧ Below w.heap.size w w' := by
  obtain ⟨sa, cs, rfl⟩ := h.sets.form
  obtain ⟨so, co, rfl⟩ := h.of.form
  obtain ⟨sl, cl, rfl⟩ := h.last.form
  obtain ⟨sf, cf, rfl⟩ := h.fol.form
  obtain ⟨s1, c1, rfl⟩ := h.first.form
  have hnb := h.of.bound.2
  have hba := (Below.refl w.heap.size w).alloc (Nat.le_refl _) (.cells #[.slice sa N.sets.length cs, .slice so N.of.length co, .slice sl N.last.length cl, .slice sf N.fol.length cf, .slice s1 N.first.length c1] 53)
  have HBA := hidden hba
  have HBX := hidden (net_box w (.slice sa N.sets.length cs) (.slice so N.of.length co) (.slice sl N.last.length cl) (.slice sf N.fol.length cf) (.slice s1 N.first.length c1) 53)
  have HFS := hidden (fun W (hb : Below w.heap.size w W) => (rspots_calls (vo := .slice so N.of.length co) (vl := .slice sl N.last.length cl) (vf := .slice sf N.fol.length cf) (v1 := .slice s1 N.first.length c1) (sa := sa) (n := N.sets.length) (cs := cs) ((h.first).later hb)))
  have HOF := hidden (fun W (hb : Below w.heap.size w W) i (hi : i < N.of.length) => h.of.atZ hb i hi)
  have HFO := hidden (fun W (hb : Below w.heap.size w W) i (hi : i < N.fol.length) => h.fol.at hb i hi)
  have HSP := hidden (fun W (hb : Below w.heap.size w W) a' c' i (hr : RdZ w.heap.size W (.slice a' (N.fol.getD i []).length c') (N.fol.getD i [])) => (rspots_calls (vo := .slice so N.of.length co) (vl := .slice sl N.last.length cl) (vf := .slice sf N.fol.length cf) (v1 := .slice s1 N.first.length c1) (sa := sa) (n := N.sets.length) (cs := cs) (hr.below (Below.refl _ _) hb.size)))
  have HX1 := hidden (rightB_lens (N := N))
  have HX2 := hidden (rightB_first (N := N))
  have HX3 := hidden (fun i => rightB_row (N := N) (i := i))
  have HX4 := hidden (rightB_all (N := N))
  obtain ⟨ns, hns⟩ : ∃ k, k = N.sets.length := ⟨_, rfl⟩
  obtain ⟨no, hno⟩ : ∃ k, k = N.of.length := ⟨_, rfl⟩
  obtain ⟨nl, hnl⟩ : ∃ k, k = N.last.length := ⟨_, rfl⟩
  obtain ⟨nf, hnf⟩ : ∃ k, k = N.fol.length := ⟨_, rfl⟩
  obtain ⟨n1, hn1⟩ : ∃ k, k = N.first.length := ⟨_, rfl⟩
  have HRB := hidden (fun i => (show rowB N i = (decide (0 ≤ N.of.getD i 0) && spotsB (N.fol.getD i []) ns) by rw [hns]; rfl))
  rw [← hns, ← hno, ← hnl, ← hnf] at HX1 HX4
  rw [← hns] at HX2 HX3 HSP HFS HBX HBA ⊢
  rw [← hno] at HOF HBX HBA HFS HSP hnb ⊢
  rw [← hnl] at HBX HBA HFS HSP ⊢
  rw [← hnf] at HFO HBX HBA HFS HSP ⊢
  rw [← hn1] at HFS HSP HBX HBA ⊢
  clear h hba hns hno hnl hnf hn1
  generalize rightB N = R at *
  generalize spotsB N.first ns = f1 at *
  by_cases e0 : no = ns
  case neg =>
    have HE := hidden (HX1.out (fun h => e0 h.1))
    have q0 : ((no : Int) != (ns : Int)) = true := by rw [bne_iff_ne]; omega
    clear e0 HX1 HX2 HX3 HX4
    obtain ⟨b0, b1, b2, b3, b4⟩ := HBX.out _ (Below.refl _ _)
    go_enter Try.func32, Try.ntmps32
    go_wp2
    go_ret
    exact ⟨ret_b HE.out.symm, HBA.out⟩
  have q0 : ((no : Int) != (ns : Int)) = false := by rw [bne_eq_false_iff_eq]; omega
  have E0 := hidden e0
  clear e0
  by_cases e1 : nl = ns
  case neg =>
    have HE := hidden (HX1.out (fun h => e1 h.2.1))
    have q1 : ((nl : Int) != (ns : Int)) = true := by rw [bne_iff_ne]; omega
    clear e1 HX1 HX2 HX3 HX4
    obtain ⟨b0, b1, b2, b3, b4⟩ := HBX.out _ (Below.refl _ _)
    go_enter Try.func32, Try.ntmps32
    go_wp2
    go_ret
    exact ⟨ret_b HE.out.symm, HBA.out⟩
  have q1 : ((nl : Int) != (ns : Int)) = false := by rw [bne_eq_false_iff_eq]; omega
  have E1 := hidden e1
  clear e1
  by_cases e2 : nf = ns
  case neg =>
    have HE := hidden (HX1.out (fun h => e2 h.2.2))
    have q2 : ((nf : Int) != (ns : Int)) = true := by rw [bne_iff_ne]; omega
    clear e2 HX1 HX2 HX3 HX4
    obtain ⟨b0, b1, b2, b3, b4⟩ := HBX.out _ (Below.refl _ _)
    go_enter Try.func32, Try.ntmps32
    go_wp2
    go_ret
    exact ⟨ret_b HE.out.symm, HBA.out⟩
  have q2 : ((nf : Int) != (ns : Int)) = false := by rw [bne_eq_false_iff_eq]; omega
  have E2 := hidden e2
  clear e2
  have HLN := hidden (show no = ns ∧ nl = ns ∧ nf = ns from ⟨E0.out, E1.out, E2.out⟩)
  cases f1
  case false =>
    have HE := hidden (HX2.out rfl)
    clear HX1 HX2 HX3 HX4
    obtain ⟨b0, b1, b2, b3, b4⟩ := HBX.out _ (Below.refl _ _)
    go_enter Try.func32, Try.ntmps32
    go_wp2_with fail
    refine (HFS.out _ HBA.out).mono ?_
    rintro e w1 ⟨rfl, hb1⟩
    go_wp2
    go_ret
    exact ⟨ret_b HE.out.symm, below_then HBA.out (by simp) hb1⟩
  case true =>
    have HX5 := hidden (HX4.out HLN.out rfl)
    clear HX1 HX2 HX4
    obtain ⟨b0, b1, b2, b3, b4⟩ := HBX.out _ (Below.refl _ _)
    go_enter Try.func32, Try.ntmps32
    go_wp2_with fail
    refine (HFS.out _ HBA.out).mono ?_
    rintro e w1 ⟨rfl, hb1⟩
    have HB1 := hidden (show Below (w.heap.size + 1) (w.alloc (.cells #[.slice sa ns cs, .slice so no co, .slice sl nl cl, .slice sf nf cf, .slice s1 n1 c1] 53)) w1 by simpa using hb1)
    clear hb1 b0 b1 b2 b3 b4
    go_wp2
    go_loopw [3] (fun i wr => ∃ k : Nat, k ≤ ns ∧ i = .int .i64 k ∧ Hid (∀ j, j < k → rowB N j = true) ∧ Below (w.heap.size + 1) (w.alloc (.cells #[.slice sa ns cs, .slice so no co, .slice sl nl cl, .slice sf nf cf, .slice s1 n1 c1] 53)) wr) (fun i _ => ns - (Go.RowKit.intOf i).toNat)
    case atStart => exact ⟨0, by omega, rfl, hidden (fun j hj => absurd hj (by omega)), HB1.out⟩
    case round =>
      clear HB1
      obtain ⟨k, hk, rfl, hd, hb2⟩ := hrel
      have HB := hidden hb2
      obtain ⟨b0, b1, b2, b3, b4⟩ := HBX.out wr HB.out
      have HBW := hidden (show Below w.heap.size w wr from HBA.out.trans (hb2.mono (by omega)))
      clear hb2
      by_cases hlt : k < ns
      · have hlo : k < no := by have := HLN.out; omega
        have hlf : k < nf := by have := HLN.out; omega
        obtain ⟨bo, oo, rfl, hbo, c0⟩ := HOF.out wr HBW.out k hlo
        obtain ⟨bf, of, a', c', rfl, hbf, d0, hr⟩ := HFO.out wr HBW.out k hlf
        have HS := hidden (fun W (hb : Below wr.heap.size wr W) => HSP.out W (below_after HBW.out hb) a' c' k (hr.below (hb.mono HBW.out.size) (Nat.le_refl _)))
        have HK := hidden (HRB.out k)
        have hlt' := hlt
        have hkb : IntKind.i64.wrap ((k : Int) + 1) = (k : Int) + 1 := by rw [IntKind.wrap_i64]; have := HLN.out; omega
        obtain ⟨lk, hlk⟩ : ∃ lk, lk = (N.fol.getD k []).length := ⟨_, rfl⟩
        rw [← hlk] at d0 HS
        generalize spotsB (N.fol.getD k []) ns = sk at *
        generalize N.of.getD k 0 = x at *
        clear hr hlk
        by_cases hx : x < 0
        case pos =>
          have hd0 : decide (x < 0) = true := decide_eq_true hx
          have HE := hidden (HX3.out k hlt (by rw [HK.out, decide_eq_false (show ¬ 0 ≤ x by omega), Bool.false_and]))
          clear hx
          have hbl : w.heap.size < wr.heap.size := by have := HB.out.size; simp at this; omega
          have hsw := HBW.out.size
          have hcc := fun (p : Later wr) => Later.cell c0 (show bo < wr.heap.size by omega) p
          have hdc := fun (p : Later wr) => Later.cell d0 (show bf < wr.heap.size by omega) p
          have h0 := fun (p : Later wr) => Later.cell b0 hbl p
          have h1 := fun (p : Later wr) => Later.cell b1 hbl p
          have h2 := fun (p : Later wr) => Later.cell b2 hbl p
          have h3 := fun (p : Later wr) => Later.cell b3 hbl p
          have h4 := fun (p : Later wr) => Later.cell b4 hbl p
          have HSL := hidden (fun (p : Later wr) => HS.out p.at' p.ok)
          go_wp2
          refine wp_region_later (by kernel_rfl) (by kernel_rfl) ?_
          repeat (go_big_quiet_step (with_reducible exact Later.calls (HSL.out _)))
          refine wpQuiet_nil ?_
          rintro _ ⟨⟨_, hb5⟩, rfl⟩
          rename_i w5
          have HB5 := hidden (below_then HB.out (by have := HB.out.size; simpa using this) hb5)
          have HBW5 := hidden (below_after HBW.out hb5)
          clear hb5 hcc hdc h0 h1 h2 h3 h4
          go_wp2
          go_ret
          exact ⟨ret_b HE.out.symm, HBW5.out⟩
        case neg =>
          have hd0 : decide (x < 0) = false := decide_eq_false hx
          rw [decide_eq_true (show 0 ≤ x by omega), Bool.true_and] at HK
          clear hx
          cases sk
          case false =>
            have HE := hidden (HX3.out k hlt HK.out)
            have hbl : w.heap.size < wr.heap.size := by have := HB.out.size; simp at this; omega
            have hsw := HBW.out.size
            have hcc := fun (p : Later wr) => Later.cell c0 (show bo < wr.heap.size by omega) p
            have hdc := fun (p : Later wr) => Later.cell d0 (show bf < wr.heap.size by omega) p
            have h0 := fun (p : Later wr) => Later.cell b0 hbl p
            have h1 := fun (p : Later wr) => Later.cell b1 hbl p
            have h2 := fun (p : Later wr) => Later.cell b2 hbl p
            have h3 := fun (p : Later wr) => Later.cell b3 hbl p
            have h4 := fun (p : Later wr) => Later.cell b4 hbl p
            have HSL := hidden (fun (p : Later wr) => HS.out p.at' p.ok)
            go_wp2
            refine wp_region_later (by kernel_rfl) (by kernel_rfl) ?_
            repeat (go_big_quiet_step (with_reducible exact Later.calls (HSL.out _)))
            refine wpQuiet_nil ?_
            rintro _ ⟨⟨_, hb5⟩, rfl⟩
            rename_i w5
            have HB5 := hidden (below_then HB.out (by have := HB.out.size; simpa using this) hb5)
            have HBW5 := hidden (below_after HBW.out hb5)
            clear hb5 hcc hdc h0 h1 h2 h3 h4
            go_wp2
            go_ret
            exact ⟨ret_b HE.out.symm, HBW5.out⟩
          case true =>
            have HD2 := hidden (show ∀ j, j < k + 1 → rowB N j = true from fun j hj => by
              by_cases e : j = k
              · subst e; exact HK.out
              · exact hd.out j (by omega))
            have hbl : w.heap.size < wr.heap.size := by have := HB.out.size; simp at this; omega
            have hsw := HBW.out.size
            have hcc := fun (p : Later wr) => Later.cell c0 (show bo < wr.heap.size by omega) p
            have hdc := fun (p : Later wr) => Later.cell d0 (show bf < wr.heap.size by omega) p
            have h0 := fun (p : Later wr) => Later.cell b0 hbl p
            have h1 := fun (p : Later wr) => Later.cell b1 hbl p
            have h2 := fun (p : Later wr) => Later.cell b2 hbl p
            have h3 := fun (p : Later wr) => Later.cell b3 hbl p
            have h4 := fun (p : Later wr) => Later.cell b4 hbl p
            have HSL := hidden (fun (p : Later wr) => HS.out p.at' p.ok)
            go_wp2
            refine wp_region_later (by kernel_rfl) (by kernel_rfl) ?_
            repeat (go_big_quiet_step (with_reducible exact Later.calls (HSL.out _)))
            refine wpQuiet_nil ?_
            rintro _ ⟨⟨_, hb5⟩, rfl⟩
            rename_i w5
            have HB5 := hidden (below_then HB.out (by have := HB.out.size; simpa using this) hb5)
            have HBW5 := hidden (below_after HBW.out hb5)
            clear hb5 hcc hdc h0 h1 h2 h3 h4
            go_wp2
            go_roundw
            case rel => exact ⟨k + 1, by omega, by go_num, HD2, HB5.out⟩
            case measure => simp [Go.RowKit.intOf]; omega
      · obtain rfl : k = ns := by omega
        have HE := hidden (HX5.out hd.out)
        have hdd : decide ((k : Int) < (k : Int)) = false := by simp
        clear hd
        go_wp2
        go_ret
        exact ⟨ret_b HE.out.symm, HBW.out⟩
end Go.Proofs.Ytgaadndhecokfaa

/- Contracts of step and Start, and of the reference's Start. -/
namespace Go.Proofs.Ytgaadndhecokfaa
open Go.RowKit Go.Lib Go.Joins
/-- a row of slices -/
def RowV (w : World) (base : Nat) (v : Value) (us : List Value) : Prop := w.ownsRow base 24 1 v us.length us
theorem RowV.form {w : World} {base : Nat} {v : Value} {us : List Value} (h : RowV w base v us) : ∃ a cap, v = .slice a us.length cap := by
  rcases ownsRow_forms h with ⟨rfl, h0⟩ | ⟨g, cap, rfl⟩
  · exact ⟨none, 0, by rw [h0]⟩
  · exact ⟨_, _, rfl⟩
theorem RowV.reads {w : World} {base : Nat} {v : Value} {us : List Value} {F : List (List Int)} (h : RowV w base v us) (hl : us.length = F.length) (hr : ∀ i, i < F.length → RdZ w.heap.size w (us.getD i (.slice none 0 0)) (F.getD i [])) : RdZZ w.heap.size w v F := by
  rcases ownsRow_forms h with ⟨rfl, h0⟩ | ⟨g, cap, rfl⟩
  · have h1 : F.length = 0 := by omega
    exact ⟨none, 0, by rw [h1], by omega, by decide, fun _ => rfl, fun hp => by omega⟩
  · have hcell : ∀ i, i < us.length → w.cell? ⟨g, i, none⟩ = us[i]? := fun i hi => World.ownsRow.cellAt h i (by omega)
    have hlt := (World.ownsRow.lt h g rfl).2
    have hcap : us.length ≤ cap ∧ cap ≤ maxLen := by
      rcases h.2 with ⟨e, _⟩ | ⟨g', cap', cur, e, _, _, hn, hm, _⟩
      · cases e
      · simp only [Value.slice.injEq, Option.some.injEq, Addr.mk.injEq, and_true, true_and] at e
        obtain ⟨rfl, rfl⟩ := e
        exact ⟨hn, hm⟩
    rw [hl] at hcap ⊢
    refine ⟨some ⟨g, 0, none⟩, cap, rfl, hcap.1, hcap.2, (fun e => by cases e), fun _ => ⟨g, 0, rfl, hlt, fun i hi => ⟨us.getD i (.slice none 0 0), ?_, hr i hi⟩⟩⟩
    rw [Nat.zero_add, hcell i (by omega), List.getD_eq_getElem?_getD, List.getElem?_eq_getElem (by omega)]
    rfl
theorem RowV.kept {w w' : World} {base : Nat} {v : Value} {us : List Value} (h : RowV w base v us) (hb : Below w.heap.size w w') : RowV w' base v us :=
  World.ownsRow.kept (row := none) h ⟨hb.os, hb.tape, hb.output, hb.size, fun k hk _ => hb.block k hk⟩ (by cases v.ownBlock <;> simp)
theorem hits_congr {G H : Nat → Bool} {n : Nat} (h : ∀ p, p < n → G p = H p) : hits G n = hits H n := by
  unfold hits
  refine List.filter_congr fun p hp => h p (List.mem_range.1 hp)
end Go.Proofs.Ytgaadndhecokfaa

/- Contracts of Start and the reference's Start. -/
namespace Go.Proofs.Ytgaadndhecokfaa
open Go.RowKit Go.Lib Go.Joins
def startM (N : NetM) (b : Nat) : List Nat := if rightB N = true then hits (withG N.sets b N.first) N.sets.length else []
set_option maxHeartbeats 4000000 in
set_option maxRecDepth 100000 in
theorem rstart_calls {w : World} {vs vo vl vf v1 : Value} {N : NetM} {b : Nat} (h : RdNet w.heap.size w vs vo vl vf v1 N) (hw : ∀ s ∈ N.sets, s.wide) (hn : N.sets.length ≤ 100000) (hb : b < 256) :
    Calls Try.prog 36 #[.agg #[vs, vo, vl, vf, v1], .int .u8 b] w (RetZ w (spI (startM N b))) := by
  have hba := (Below.refl w.heap.size w).alloc (Nat.le_refl _) (.cells #[vs, vo, vl, vf, v1] 53)
  have hbx := net_box w vs vo vl vf v1 53
  obtain ⟨w0, hw0⟩ : ∃ w0, w0 = w.alloc (.cells #[vs, vo, vl, vf, v1] 53) := ⟨_, rfl⟩
  have hs0 : w0.heap.size = w.heap.size + 1 := by rw [hw0]; simp
  rw [← hw0] at hba hbx
  have HBA := hidden hba
  have HBX := hidden hbx
  have HW0 := hidden hw0
  have HS0 := hidden hs0
  have HR := hidden (rright12_calls (h.later hba))
  have HB0 := hidden (Below.refl (w.heap.size + 1) w0)
  have HHV := hidden (fun (hR : rightB N = true) W (hb2 : Below w.heap.size w W) => (show Calls Try.prog 54 #[.agg #[vs, vo, vl, vf, v1], v1, .int .u8 b] W (RetZ W (spI (hits (withG N.sets b N.first) N.sets.length))) from by
    have h2 := h.later hb2
    obtain ⟨sa, cs, rfl⟩ := h2.sets.form
    exact rwith12_calls (vo := vo) (vl := vl) (vf := vf) (v1 := v1) (b := b) h2.sets hw h2.first (by assumption) hn))
  have HST := hidden (show startM N b = if rightB N = true then hits (withG N.sets b N.first) N.sets.length else [] from rfl)
  obtain ⟨sa, cs, rfl⟩ := h.sets.form
  obtain ⟨so, co, rfl⟩ := h.of.form
  obtain ⟨sl, cl, rfl⟩ := h.last.form
  obtain ⟨sf, cf, rfl⟩ := h.fol.form
  obtain ⟨s1, c1, rfl⟩ := h.first.form
  generalize N.sets.length = ns at *
  generalize N.of.length = no at *
  generalize N.last.length = nl at *
  generalize N.fol.length = nf at *
  generalize N.first.length = n1 at *
  clear h hba hbx hw hw0 hs0
  cases hR : rightB N
  case' false =>
    rw [hR, if_neg (by decide)] at HST
    rw [hR] at HR
    rw [HST.out, spI_nil]
  case' true =>
    rw [hR, if_pos rfl] at HST
    have HHV := hidden (HHV.out hR)
    rw [hR] at HR
    rw [HST.out]
  all_goals
    clear hR
  all_goals
    go_enter Try.func36, Try.ntmps36
    obtain ⟨b0, b1, b2, b3, b4⟩ := HBX.out w0 HB0.out
    rw [HW0.out] at b0 b1 b2 b3 b4 HR
    go_wp2_with fail
    refine HR.out.mono ?_
    rintro e w1 ⟨rfl, hb1⟩
    rw [← HW0.out] at hb1
    have HB1 := hidden (show Below (w.heap.size + 1) w0 w1 by rw [← HS0.out]; exact hb1)
    have HBW := hidden (below_then HBA.out HBA.out.size hb1)
    clear hb1 b0 b1 b2 b3 b4
    obtain ⟨b0, b1, b2, b3, b4⟩ := HBX.out w1 HB1.out
  · go_wp2_with fail
    refine (HHV.out w1 HBW.out).mono ?_
    rintro e w2 ⟨u, rfl, hr, hb2⟩
    go_wp2
    go_ret
    exact ⟨_, rfl, hr.lower HBW.out.size, below_after HBW.out hb2⟩
  · go_wp2
    go_ret
    exact ⟨_, rfl, (by
      have := RowZ.lit w1 w1.heap.size rfl #[] rfl
      exact this.lower HBW.out.size), HBW.out.alloc HBW.out.size _⟩
end Go.Proofs.Ytgaadndhecokfaa

/- Contracts of Step and the reference's Step. -/
namespace Go.Proofs.Ytgaadndhecokfaa
open Go.RowKit Go.Lib Go.Joins
/-- does q stand behind one of the spots of l? -/
def nextB (N : NetM) (l : List Int) (q : Nat) : Bool := l.any fun x => decide (0 ≤ x) && (decide (x < N.sets.length) && decide ((q : Int) ∈ N.fol.getD x.toNat []))
def stepM (N : NetM) (l : List Int) (b : Nat) : List Nat := if rightB N = true then hits (fun q => nextB N l q && selB N.sets b q) N.sets.length else []
end Go.Proofs.Ytgaadndhecokfaa
