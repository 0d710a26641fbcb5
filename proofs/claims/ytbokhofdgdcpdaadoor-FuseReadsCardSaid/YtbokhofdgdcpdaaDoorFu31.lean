/- FuStepR, FuRun, FuRunP, put together. -/
import Derived.Test.YtbokhofdgdcpdaaDoorFu30
import Derived.Deep.RegionLaw
import Derived.Test.YtbokhofdgdcpdaaDoorFu05
/- Contract of the reference's Step. -/
namespace Go.Proofs.YtbokhofdgdcpdaaDoor
open Go.RowKit Go.Lib Go.Joins
/-- app_zz at a step of a region that draws -/
theorem step_app_zz {w : World} {ops : Array Oper} {o : Oper} {a : Act} {K : Act → World → Prop} {Q : Exit → Act → World → Prop} {E : Prop} (hgd : o.guard = none) (s x : Operand)
    (ho : o.op = .call { callee := .builtin .append, args := #[s, x], argTypes := #[30, 30] }) {base B : Nat} {v u : Value} {l m : List Int}
    (hs : a.eval s = v) (hown : RowZ w base v l) (hx : a.eval x = u) (hM : RdZ B w u m) (hsz : l.length + m.length ≤ 1000000) (hb0 : base ≤ w.heap.size)
    (h : ∀ a' l' c' w', RowZ w' base (.slice a' l' c') (l ++ m) → w.grownBy w' v.ownBlock → Below base w w' → K (a.put o.dst (.slice a' l' c')) w') : if Region.wanted o (yielded ops a.tmps) = true then Oper.wp Tryd.prog o a w K Q else E := by
  have hw : Region.wanted o (yielded ops a.tmps) = true := by simp [Region.wanted, hgd]
  rw [if_pos hw]
  have hlow : ∀ j, v.ownBlock = some j → base ≤ j := fun j e => (World.ownsRow.lt hown j e).1
  have h : ∀ v' w', RowZ w' base v' (l ++ m) → w.grownBy w' v.ownBlock → K (a.put o.dst v') w' := fun v' w' h1 h2 => by
    obtain ⟨a', c', rfl⟩ := h1.form
    exact h _ _ _ _ h1 h2 ((Below.refl base w).grown h2 hb0 hlow)
  obtain ⟨i0, hi, hz0, hz1, hz2⟩ := info_parts infoInt
  obtain ⟨ad, cap, rfl, h1, h2, h0, hS⟩ := hM
  cases ad with
  | none =>
    have e0 := h0 rfl
    subst e0
    have hM0 : m = [] := List.eq_nil_of_length_eq_zero (by omega)
    subst hM0
    have hrun := run_append_owned_none (P := Tryd.prog) (w := w) base 30 o.type 3 i0 1 Tryd.underlying30 hi v l.length (l.map (Value.int .i64)) hown
    unfold Oper.wp
    have hx' : a.eval x = .slice none 0 0 := hx
    simp [execOp, ho, resolve, invoke, builtin, hs, hx', hrun, Result.andThen]
    exact h v w (by rw [List.append_nil]; exact hown) ⟨rfl, rfl, rfl, Nat.le_refl _, fun _ _ _ => rfl⟩
  | some ad =>
    obtain ⟨b, off, spot⟩ := ad
    have hnews : ∀ j z, (m.map (Value.int .i64))[j]? = some z → w.cell? ((⟨b, off, spot⟩ : Addr).add j) = some z := by
      intro j z hz
      have hj : j < m.length := by
        have := (List.getElem?_eq_some_iff.1 hz).1
        simpa using this
      obtain ⟨b', off', e, _, hc⟩ := hS (by omega)
      simp only [Option.some.injEq, Addr.mk.injEq] at e
      obtain ⟨rfl, rfl, rfl⟩ := e
      rw [Addr.add_lit, hc j hj]
      rw [List.getElem?_map, List.getElem?_eq_getElem hj] at hz
      rw [List.getD_eq_getElem?_getD, List.getElem?_eq_getElem hj]
      exact hz
    refine wp_append_own w s x 30 ho base 3 i0 _ 1 8 Tryd.underlying30 hi hz0 hz1 hz2 rfl (by decide) v l.length (l.map (Value.int .i64)) hs hown ⟨b, off, spot⟩ m.length cap (m.map (Value.int .i64)) hx (by simp) hnews (fun z hz => ints_one hz) (by unfold maxLen; omega) (by omega) hb0 fun v' w' h3 h4 _ => h v' w' ?_ h4
    unfold RowZ
    rw [List.length_append, List.map_append]
    exact h3
/-- what stands behind the spots of a list, one list behind the other -/
def restOf (N : NetM) (l : List Int) : List Int := l.flatMap fun x : Int => if 0 ≤ x ∧ x < (N.sets.length : Int) then N.fol.getD x.toNat [] else []
theorem rest_next (N : NetM) (l : List Int) (S : List Stp) (b q : Nat) : withG S b (restOf N l) q = (nextB N l q && selB S b q) := by
  unfold withG
  congr 1
  unfold restOf nextB
  rw [Bool.eq_iff_iff, decide_eq_true_eq, List.mem_flatMap, List.any_eq_true]
  simp only [Bool.and_eq_true, decide_eq_true_eq]
  constructor
  · rintro ⟨x, hx, h⟩
    split at h
    · rename_i h1
      exact ⟨x, hx, h1.1, h1.2, h⟩
    · simp at h
  · rintro ⟨x, hx, h0, h1, h2⟩
    exact ⟨x, hx, by rw [if_pos ⟨h0, h1⟩]; exact h2⟩
theorem rest_more (N : NetM) (l : List Int) (k : Nat) (hk : k < l.length) : restOf N (l.take (k + 1)) = restOf N (l.take k) ++ (if 0 ≤ l.getD k 0 ∧ l.getD k 0 < (N.sets.length : Int) then N.fol.getD (l.getD k 0).toNat [] else []) := by
  unfold restOf
  rw [List.take_succ_eq_append_getElem hk, List.flatMap_append, List.getD_eq_getElem?_getD, List.getElem?_eq_getElem hk, Option.getD_some]
  congr 1
  rw [List.flatMap_cons, List.flatMap_nil, List.append_nil]
theorem rest_len (N : NetM) (hf : ∀ i, (N.fol.getD i []).length ≤ 1000) : ∀ l : List Int, (restOf N l).length ≤ 1000 * l.length
  | [] => by simp [restOf]
  | x :: r => by
    have h1 := rest_len N hf r
    have h2 := hf x.toNat
    unfold restOf at *
    rw [List.flatMap_cons, List.length_append, List.length_cons]
    split
    · omega
    · simp only [List.length_nil]; omega
set_option maxHeartbeats 8000000 in
set_option maxRecDepth 100000 in
theorem rStep_calls {w : World} {v vs vo vl vf v1 : Value} {N : NetM} {b : Nat} {l : List Int} (h : RdNet w.heap.size w vs vo vl vf v1 N) (hw : ∀ s ∈ N.sets, s.wide) (hn : N.sets.length ≤ 100000) (hr : RdZ w.heap.size w v l) (hb : b < 256) (hf : ∀ i, (N.fol.getD i []).length ≤ 1000) (hlen : l.length ≤ 900) :
    Calls Tryd.prog 40 #[.agg #[vs, vo, vl, vf, v1], v, .int .u8 b] w (RetZ w (spI (stepM N l b))) := by
  obtain ⟨sa, cs, rfl⟩ := h.sets.form
  obtain ⟨so, co, rfl⟩ := h.of.form
  obtain ⟨sl, cl, rfl⟩ := h.last.form
  obtain ⟨sf, cf, rfl⟩ := h.fol.form
  obtain ⟨s1, c1, rfl⟩ := h.first.form
  obtain ⟨av, cv, rfl⟩ := hr.form
  have hba := (Below.refl w.heap.size w).alloc (Nat.le_refl _) (.cells #[.slice sa N.sets.length cs, .slice so N.of.length co, .slice sl N.last.length cl, .slice sf N.fol.length cf, .slice s1 N.first.length c1] 48)
  have hbx := net_box w (.slice sa N.sets.length cs) (.slice so N.of.length co) (.slice sl N.last.length cl) (.slice sf N.fol.length cf) (.slice s1 N.first.length c1) 48
  obtain ⟨w0, hw0⟩ : ∃ w0, w0 = w.alloc (.cells #[.slice sa N.sets.length cs, .slice so N.of.length co, .slice sl N.last.length cl, .slice sf N.fol.length cf, .slice s1 N.first.length c1] 48) := ⟨_, rfl⟩
  have hs0 : w0.heap.size = w.heap.size + 1 := by rw [hw0]; simp
  rw [← hw0] at hba hbx
  obtain ⟨w2, hw2⟩ : ∃ w2, w2 = w0.alloc (.cells #[] 3) := ⟨_, rfl⟩
  have hb20 : Below (w.heap.size + 1) w0 w2 := by rw [hw2, ← hs0]; exact (Below.refl _ _).alloc (Nat.le_refl _) _
  have hb2 : Below w.heap.size w w2 := hba.trans (hb20.mono (by omega))
  have HBA := hidden hba
  have HBX := hidden hbx
  have HW0 := hidden hw0
  have HW2 := hidden hw2
  have HS0 := hidden hs0
  have HB2 := hidden hb20
  have HBW2 := hidden hb2
  have HR := hidden (rright12_calls (h.later hb2))
  have HN0 := hidden (show RowZ w2 (w.heap.size + 1) (.slice (some ⟨w.heap.size + 1, 0, none⟩) 0 0) [] by rw [hw2, ← hs0]; exact RowZ.lit w0 w0.heap.size rfl #[] rfl)
  have HA := hidden (fun W (hb : Below w.heap.size w W) i (hi : i < l.length) => hr.atZ hb i hi)
  have HFO := hidden (fun W (hb : Below w.heap.size w W) i (hi : i < N.fol.length) => h.fol.at hb i hi)
  have HFN := hidden (fun (hR : rightB N = true) => ((rightB_iff N).1 hR).1.2.2)
  have HFL := hidden hf
  have HRM := hidden (fun k (hk : k < l.length) => rest_more N l k hk)
  have HRL := hidden (fun k (hk : k ≤ l.length) => (show (restOf N (l.take k)).length ≤ 900000 from by
    have h1 := rest_len N hf (l.take k)
    rw [List.length_take] at h1
    omega))
  have HRE := hidden (show restOf N (l.take l.length) = restOf N l by rw [List.take_length])
  have HRZ := hidden (show restOf N (l.take 0) = [] from rfl)
  have HWC := hidden (fun W (hb2 : Below w.heap.size w W) u (hu : RdZ W.heap.size W u (restOf N l)) => (show Calls Tryd.prog 69 #[.agg #[.slice sa N.sets.length cs, .slice so N.of.length co, .slice sl N.last.length cl, .slice sf N.fol.length cf, .slice s1 N.first.length c1], u, .int .u8 b] W (RetZ W (spI (hits (fun q => nextB N l q && selB N.sets b q) N.sets.length))) from by
    have h2 := h.later hb2
    have h1 := rwith12_calls (vo := .slice so N.of.length co) (vl := .slice sl N.last.length cl) (vf := .slice sf N.fol.length cf) (v1 := .slice s1 N.first.length c1) (b := b) h2.sets hw hu (by assumption) hn
    rw [hits_congr (H := fun q => nextB N l q && selB N.sets b q) (fun p _ => rest_next N l N.sets b p)] at h1
    exact h1))
  have HST := hidden (show stepM N l b = if rightB N = true then hits (fun q => nextB N l q && selB N.sets b q) N.sets.length else [] from rfl)
  generalize N.of.length = no at *
  generalize N.last.length = nl at *
  generalize N.first.length = n1 at *
  obtain ⟨ns, hns⟩ : ∃ ns, ns = N.sets.length := ⟨_, rfl⟩
  obtain ⟨nf, hnf⟩ : ∃ nf, nf = N.fol.length := ⟨_, rfl⟩
  obtain ⟨lv, hlv⟩ : ∃ lv, lv = l.length := ⟨_, rfl⟩
  rw [← hns] at HWC HST HR HBX HW0 HRM HFN hn ⊢
  rw [← hnf] at HWC HR HBX HW0 HFO HFN ⊢
  rw [← hlv] at HA HRM HRL HRE hlen ⊢
  clear h hba hbx hw hw0 hw2 hs0 hr hb20 hb2 hns hnf hlv hf
  by_cases hR : rightB N = true
  · rw [if_pos hR] at HST
    have HFN := hidden (HFN.out hR)
    rw [hR] at HR
    rw [HST.out]
    clear hR
    go_enter Tryd.func40, Tryd.ntmps40
    obtain ⟨b0, b1, b2, b3, b4⟩ := HBX.out w2 HB2.out
    have hs0 := HS0.out
    rw [HW0.out] at hs0
    go_wp2_with fail
    rw [← HW0.out, ← HW2.out]
    refine HR.out.mono ?_
    rintro e w1 ⟨rfl, hb1⟩
    have HB1 := hidden (show Below (w.heap.size + 1) w0 w1 from HB2.out.trans (hb1.mono (by have := HB2.out.size; have := HS0.out; omega)))
    have HN1 := hidden (HN0.out.kept hb1)
    clear hb1 b0 b1 b2 b3 b4 hs0
    have hlvb : lv ≤ 900 := hlen
    go_wp2
    go_loopw [7, 8] (fun v i wr => ∃ (k : Nat) (o : Value), k ≤ lv ∧ o = v ∧ i = .int .i64 k ∧ RowZ wr (w.heap.size + 1) o (restOf N (l.take k)) ∧ Below (w.heap.size + 1) w0 wr) (fun _ i _ => lv - (intOf i).toNat)
    case atStart => exact ⟨0, _, by omega, rfl, rfl, by rw [HRZ.out]; exact HN1.out, HB1.out⟩
    case round =>
      clear HN1 HB1
      obtain ⟨k, o, hk, rfl, rfl, hG, hb3⟩ := hrel
      obtain ⟨wo, rfl⟩ : ∃ wo, wo = wr := ⟨wr, rfl⟩
      have HG := hidden hG
      have HB := hidden hb3
      have HBW := hidden (show Below w.heap.size w wo from HBA.out.trans (hb3.mono (by omega)))
      have HSZ := hidden (show w.heap.size + 1 ≤ wo.heap.size by have := hb3.size; have := HS0.out; omega)
      obtain ⟨b0, b1, b2, b3, b4⟩ := HBX.out wo HB.out
      have hbl : w.heap.size < wo.heap.size := by have := HSZ.out; omega
      clear hG hb3
      by_cases hlt : k < lv
      · obtain ⟨ba, oa, rfl, hba, c0⟩ := HA.out wo HBW.out k hlt
        have HRK := hidden (HRM.out k hlt)
        have HRLK := hidden (HRL.out k (by omega))
        have hlt' := hlt
        have hkb : IntKind.i64.wrap ((k : Int) + 1) = (k : Int) + 1 := by rw [IntKind.wrap_i64]; omega
        have hbaw : ba < wo.heap.size := cell_lt c0
        generalize l.getD k 0 = x at *
        have h0 := fun (p : Later wo) => Later.cell b0 hbl p
        have h1 := fun (p : Later wo) => Later.cell b1 hbl p
        have h2 := fun (p : Later wo) => Later.cell b2 hbl p
        have h3 := fun (p : Later wo) => Later.cell b3 hbl p
        have h4 := fun (p : Later wo) => Later.cell b4 hbl p
        have hc := fun (p : Later wo) => Later.cell c0 hbaw p
        by_cases hx : 0 ≤ x ∧ x < (ns : Int)
        case neg =>
          rw [if_neg hx, List.append_nil] at HRK
          by_cases hx0 : 0 ≤ x
          case' pos =>
            have hd0 : decide (0 ≤ x) = true := decide_eq_true hx0
            have hd1 : decide (x < (ns : Int)) = false := decide_eq_false (by omega)
          case' neg =>
            have hd0 : decide (0 ≤ x) = false := decide_eq_false hx0
          all_goals
            clear hx hx0
            go_wp2
            refine wp_region_later (by kernel_rfl) (by kernel_rfl) ?_
            repeat (go_big_quiet_step (fail))
            refine wpQuiet_nil ?_
            rintro _ ⟨⟨_, hb5⟩, rfl⟩
            rename_i w5
            have HB5 := hidden (below_then HB.out HSZ.out hb5)
            have HG5 := hidden (HG.out.kept hb5)
            clear hb5 h0 h1 h2 h3 h4 hc b0 b1 b2 b3 b4 c0
            go_wp2
            go_roundw
            case rel => exact ⟨k + 1, _, by omega, rfl, by go_num, by rw [HRK.out]; exact HG5.out, HB5.out⟩
            case measure => simp [intOf]; omega
        case pos =>
          rw [if_pos hx] at HRK
          obtain ⟨p, rfl⟩ : ∃ p : Nat, x = p := ⟨x.toNat, by omega⟩
          rw [Int.toNat_natCast] at HRK
          have hd0 : decide (0 ≤ (p : Int)) = true := decide_eq_true hx.1
          have hd1 : decide ((p : Int) < (ns : Int)) = true := decide_eq_true hx.2
          have hd2 : decide (p < ns) = true := decide_eq_true (by omega)
          have hpf : p < nf := by have := HFN.out; omega
          have hpi : (p : Int) < (nf : Int) := by omega
          have HLF := hidden (HFL.out p)
          clear hx
          go_wp2
          refine wp_region_later (by kernel_rfl) (by kernel_rfl) ?_
          repeat (go_big_quiet_step (fail))
          refine wpQuiet_nil ?_
          rintro _ ⟨⟨_, hb5⟩, rfl⟩
          rename_i w5
          have HB5 := hidden (below_then HB.out HSZ.out hb5)
          have HBW5 := hidden (below_after HBW.out hb5)
          have HG5 := hidden (HG.out.kept hb5)
          have HSZ5 := hidden (show w.heap.size + 1 ≤ w5.heap.size by have := HSZ.out; have := hb5.size; omega)
          have c5 := (hb5.cell (p := ⟨ba, oa + k, none⟩) hbaw).trans c0
          clear hb5 h0 h1 h2 h3 h4 hc b0 b1 b2 b3 b4 c0
          obtain ⟨bf, of, a', c', rfl, hbf, d0, hrz⟩ := HFO.out w5 HBW5.out p hpf
          obtain ⟨b0, b1, b2, b3, b4⟩ := HBX.out w5 HB5.out
          have HRF := hidden hrz
          generalize N.fol.getD p [] = fl at *
          obtain ⟨lf, hlf⟩ : ∃ lf, lf = fl.length := ⟨_, rfl⟩
          rw [← hlf] at d0 HRF
          have HLL := hidden (show (restOf N (l.take k)).length + fl.length ≤ 1000000 by have := HRLK.out; have := HLF.out; omega)
          have HGD := hidden (show RowZ w5.drew (w.heap.size + 1) o (restOf N (l.take k)) from HG5.out)
          have HRD := hidden (show RdZ w.heap.size w5.drew (.slice a' lf c') fl from HRF.out)
          have HSD := hidden (show w.heap.size + 1 ≤ w5.drew.heap.size from HSZ5.out)
          have HBD := hidden (show Below (w.heap.size + 1) w0 w5.drew from below_drawn HB5.out 1)
          clear hrz hlf
          go_wp2
          go_region_law (refine step_app_zz rfl _ _ rfl rfl HGD.out rfl HRD.out HLL.out HSD.out ?_; intro a9 l9 c9 w9 hr9 hg9 hb9; have HR9 := hidden hr9; have HB9 := hidden (HBD.out.trans hb9); clear hr9 hg9 hb9)
          all_goals
            go_wp2
            go_roundw
            case rel => exact ⟨k + 1, _, by omega, rfl, by go_num, by rw [HRK.out]; exact HR9.out, HB9.out⟩
            case measure => simp [intOf]; omega
      · obtain rfl : k = lv := by omega
        have hdk : decide ((k : Int) < (k : Int)) = false := by simp
        rw [HRE.out] at HG
        have HRD := hidden HG.out.reads
        go_wp2_with fail
        refine (HWC.out wo HBW.out _ HRD.out).mono ?_
        rintro e w5 ⟨u, rfl, hr5, hb5⟩
        go_wp2
        go_ret
        exact ⟨_, rfl, hr5.lower HBW.out.size, below_after HBW.out hb5⟩
  · rw [if_neg hR] at HST
    rw [show rightB N = false by simpa using hR] at HR
    rw [HST.out, spI_nil]
    clear hR
    go_enter Tryd.func40, Tryd.ntmps40
    obtain ⟨b0, b1, b2, b3, b4⟩ := HBX.out w2 HB2.out
    have hs0 := HS0.out
    rw [HW0.out] at hs0
    go_wp2_with fail
    rw [← HW0.out, ← HW2.out]
    refine HR.out.mono ?_
    rintro e w1 ⟨rfl, hb1⟩
    have HB1 := hidden (below_after HBW2.out hb1)
    have HN1 := hidden ((HN0.out.kept hb1).lower (base' := w.heap.size) (by omega))
    clear hb1 b0 b1 b2 b3 b4 hs0
    go_wp2
    go_ret
    exact ⟨_, rfl, HN1.out, HB1.out⟩
end Go.Proofs.YtbokhofdgdcpdaaDoor

/- Contracts of Run and the reference's Run. -/
namespace Go.Proofs.YtbokhofdgdcpdaaDoor
open Go.RowKit Go.Lib Go.Joins
def runM (N : NetM) : List Nat → List Nat
  | [] => []
  | c :: r => r.foldl (fun l b => stepM N (spI l) b) (startM N c)
theorem runM_one (N : NetM) (c : Nat) : runM N [c] = startM N c := rfl
theorem runM_more (N : NetM) (W : List Nat) (k : Nat) (hk0 : 0 < k) (hk : k < W.length) : runM N (W.take (k + 1)) = stepM N (spI (runM N (W.take k))) (W.getD k 0) := by
  cases W with
  | nil => simp at hk
  | cons c r =>
    obtain ⟨j, rfl⟩ : ∃ j, k = j + 1 := ⟨k - 1, by omega⟩
    simp only [List.take_succ_cons, runM, List.length_cons] at *
    have e : (c :: r).getD (j + 1) 0 = r.getD j 0 := by simp
    rw [e, List.take_succ_eq_append_getElem (by omega), List.foldl_append, List.getD_eq_getElem?_getD, List.getElem?_eq_getElem (by omega)]
    rfl
theorem stepM_nil (N : NetM) (b : Nat) : stepM N [] b = [] := by
  unfold stepM
  split
  · unfold hits nextB
    simp
  · rfl
theorem runM_stop (N : NetM) (W : List Nat) (k : Nat) (hk0 : 0 < k) (h : runM N (W.take k) = []) : ∀ d, runM N (W.take (k + d)) = []
  | 0 => h
  | d + 1 => by
    by_cases hl : k + d < W.length
    · rw [← Nat.add_assoc, runM_more N W (k + d) (by omega) hl, runM_stop N W k hk0 h d, spI_nil, stepM_nil]
    · have := runM_stop N W k hk0 h d
      rw [List.take_of_length_le (by omega)] at this ⊢
      exact this
theorem stepM_len (N : NetM) (l : List Int) (b : Nat) : (stepM N l b).length ≤ N.sets.length := by
  unfold stepM
  split
  · exact hits_len _ _
  · simp
theorem startM_len (N : NetM) (b : Nat) : (startM N b).length ≤ N.sets.length := by
  unfold startM
  split
  · exact hits_len _ _
  · simp
theorem stepM_lt (N : NetM) (l : List Int) (b : Nat) : ∀ q ∈ stepM N l b, q < N.sets.length := by
  unfold stepM
  split
  · exact fun q hq => ((hits_mem _ _ _).1 hq).1
  · simp
theorem startM_lt (N : NetM) (b : Nat) : ∀ q ∈ startM N b, q < N.sets.length := by
  unfold startM
  split
  · exact fun q hq => ((hits_mem _ _ _).1 hq).1
  · simp
theorem runM_facts (N : NetM) (W : List Nat) : ∀ k, k ≤ W.length → (runM N (W.take k)).length ≤ N.sets.length ∧ ∀ q ∈ runM N (W.take k), q < N.sets.length
  | 0, _ => by simp [runM]
  | k + 1, hk => by
    by_cases h0 : k = 0
    · subst h0
      have e : W.take 1 = [W.getD 0 0] := by
        rw [List.take_succ_eq_append_getElem (by omega), List.getD_eq_getElem?_getD, List.getElem?_eq_getElem (by omega)]
        simp
      rw [e, runM_one]
      exact ⟨startM_len _ _, startM_lt _ _⟩
    · rw [runM_more N W k (by omega) (by omega)]
      exact ⟨stepM_len _ _ _, stepM_lt _ _ _⟩
theorem run_first (N : NetM) (W : List Nat) (h : 0 < W.length) : runM N (W.take (0 + 1)) = startM N (W.getD 0 0) := by
  have e : W.take 1 = [W.getD 0 0] := by
    rw [List.take_succ_eq_append_getElem (by omega), List.getD_eq_getElem?_getD, List.getElem?_eq_getElem (by omega)]
    simp
  rw [Nat.zero_add, e, runM_one]
set_option maxHeartbeats 8000000 in
set_option maxRecDepth 100000 in
theorem rRun_calls {w : World} {vs vo vl vf v1 : Value} {N : NetM} (s : ByteArray) (h : RdNet w.heap.size w vs vo vl vf v1 N) (hw : ∀ s ∈ N.sets, s.wide) (hn : N.sets.length ≤ 900) (hf : ∀ i, (N.fol.getD i []).length ≤ 1000) (hss : s.size ≤ 1000) :
    Calls Tryd.prog 42 #[.agg #[vs, vo, vl, vf, v1], .string s] w (RetZ w (spI (runM N (byN s)))) := by
  obtain ⟨sa, cs, rfl⟩ := h.sets.form
  obtain ⟨so, co, rfl⟩ := h.of.form
  obtain ⟨sl, cl, rfl⟩ := h.last.form
  obtain ⟨sf, cf, rfl⟩ := h.fol.form
  obtain ⟨s1, c1, rfl⟩ := h.first.form
  have hba := (Below.refl w.heap.size w).alloc (Nat.le_refl _) (.cells #[.slice sa N.sets.length cs, .slice so N.of.length co, .slice sl N.last.length cl, .slice sf N.fol.length cf, .slice s1 N.first.length c1] 48)
  have hbx := net_box w (.slice sa N.sets.length cs) (.slice so N.of.length co) (.slice sl N.last.length cl) (.slice sf N.fol.length cf) (.slice s1 N.first.length c1) 48
  obtain ⟨w0, hw0⟩ : ∃ w0, w0 = w.alloc (.cells #[.slice sa N.sets.length cs, .slice so N.of.length co, .slice sl N.last.length cl, .slice sf N.fol.length cf, .slice s1 N.first.length c1] 48) := ⟨_, rfl⟩
  have hs0 : w0.heap.size = w.heap.size + 1 := by rw [hw0]; simp
  rw [← hw0] at hba hbx
  have HBA := hidden hba
  have HBX := hidden hbx
  have HW0 := hidden hw0
  have HS0 := hidden hs0
  have HB0 := hidden (Below.refl (w.heap.size + 1) w0)
  obtain ⟨w2, hw2⟩ : ∃ w2, w2 = w0.alloc (.cells #[] 3) := ⟨_, rfl⟩
  have HW2 := hidden hw2
  have HB2 := hidden (show Below (w.heap.size + 1) w0 w2 by rw [hw2, ← hs0]; exact (Below.refl _ _).alloc (Nat.le_refl _) _)
  have HN0 := hidden (show RowZ w2 (w.heap.size + 1) (.slice (some ⟨w.heap.size + 1, 0, none⟩) 0 0) [] by rw [hw2, ← hs0]; exact RowZ.lit w0 w0.heap.size rfl #[] rfl)
  have HSC := hidden (fun W (hb2 : Below w.heap.size w W) b (hb : b < 256) => rstart_calls (b := b) (h.later hb2) hw (by omega) hb)
  have HTC := hidden (fun W (hb2 : Below w.heap.size w W) u k (hk : k ≤ (byN s).length) b (hb : b < 256) (hu : RdZ W.heap.size W u (spI (runM N ((byN s).take k)))) => rStep_calls (b := b) (h.later hb2) hw (by omega) hu hb hf (by rw [spI_len]; have := (runM_facts N (byN s) k hk).1; omega))
  have HRM := hidden (fun k (hk0 : 0 < k) (hk : k < (byN s).length) => runM_more N (byN s) k hk0 hk)
  have HRF := hidden (fun (h : 0 < (byN s).length) => run_first N (byN s) h)
  have HBY := hidden (fun k (hk : k < s.size) => (show (byN s).getD k 0 = s[k].toNat ∧ (byN s).getD k 0 < 256 from by
    have h1 := byN_at s k hk
    have h2 := s[k].toNat_lt
    exact ⟨h1, by omega⟩))
  have HRE := hidden (show runM N ((byN s).take s.size) = runM N (byN s) by rw [List.take_of_length_le (by rw [byN_len]; exact Nat.le_refl _)])
  rw [byN_len] at HTC HRM HRF
  generalize byN s = B at *
  generalize N.sets.length = ns at *
  generalize N.of.length = no at *
  generalize N.last.length = nl at *
  generalize N.fol.length = nf at *
  generalize N.first.length = n1 at *
  clear h hba hbx hw hw0 hw2 hs0 hn hf
  go_enter Tryd.func42, Tryd.ntmps42
  have hs0 := HS0.out
  rw [HW0.out] at hs0
  go_wp2
  rw [← HW0.out, ← HW2.out]
  clear hs0
  go_loopw [5, 6] (fun v i wr => ∃ (k : Nat) (o : Value), k ≤ s.size ∧ o = v ∧ i = .int .i64 k ∧ RowZ wr (w.heap.size + 1) o (spI (runM N (B.take k))) ∧ Below (w.heap.size + 1) w0 wr) (fun _ i _ => s.size - (intOf i).toNat)
  case atStart => exact ⟨0, _, by omega, rfl, rfl, by rw [List.take_zero, show runM N [] = [] from rfl, spI_nil]; exact HN0.out, HB2.out⟩
  case round =>
    clear HN0 HB2
    obtain ⟨k, o, hk, rfl, rfl, hG, hb3⟩ := hrel
    obtain ⟨wo, rfl⟩ : ∃ wo, wo = wr := ⟨wr, rfl⟩
    have HG := hidden hG
    have HB := hidden hb3
    have HBW := hidden (show Below w.heap.size w wo from HBA.out.trans (hb3.mono (by omega)))
    have HSZ := hidden (show w.heap.size + 1 ≤ wo.heap.size by have := hb3.size; have := HS0.out; omega)
    obtain ⟨b0, b1, b2, b3, b4⟩ := HBX.out wo HB.out
    clear hG hb3
    by_cases hlt : k < s.size
    · obtain ⟨hby, hc256⟩ := HBY.out k hlt
      obtain ⟨c, hc⟩ : ∃ c, c = B.getD k 0 := ⟨_, rfl⟩
      have HCC := hidden hc
      rw [← hc] at hby hc256
      have hlt' := hlt
      have hkb : IntKind.i64.wrap ((k : Int) + 1) = (k : Int) + 1 := by rw [IntKind.wrap_i64]; omega
      have HBD := hidden (show Below w.heap.size w wo.drew from below_drawn HBW.out 1)
      by_cases hk0 : k = 0
      · subst hk0
        have hx : ((s[0]'hlt).toNat : Int) = (c : Int) := by rw [hby]
        have HE := hidden (show runM N (B.take (0 + 1)) = startM N c by rw [HRF.out hlt, HCC.out])
        have HCS := hidden (HSC.out _ HBD.out c hc256)
        have h0s : (0 : Int) < (s.size : Int) := by omega
        clear hby hc
        go_wp2
        go_region_with (go_at_call 38; refine HCS.out.mono ?_; rintro e w5 ⟨u5, rfl, hr5, hb5⟩; have HR5 := hidden hr5; have HB5 := hidden (show Below wo.heap.size wo w5 from (below_refl_drew _).trans hb5); clear hr5 hb5)
        all_goals
          have HBB := hidden (below_then HB.out HSZ.out HB5.out)
          have HRR := hidden (show RowZ w5 (w.heap.size + 1) u5 (spI (runM N (B.take (0 + 1)))) by rw [HE.out]; exact HR5.out.lower HSZ.out)
          go_wp2
          go_roundw
          case rel => exact ⟨0 + 1, _, by omega, rfl, by go_num, HRR.out, HBB.out⟩
          case measure => simp [intOf]; omega
      · have hx : ((s[k]'hlt).toNat : Int) = (c : Int) := by rw [hby]
        have hq : ((k : Int) == 0) = false := by rw [beq_eq_false_iff_ne]; omega
        have HE := hidden (show runM N (B.take (k + 1)) = stepM N (spI (runM N (B.take k))) c by rw [HRM.out k (by omega) hlt, HCC.out])
        have HRD := hidden (show RdZ wo.drew.heap.size wo.drew o (spI (runM N (B.take k))) from HG.out.reads)
        have HCT := hidden (HTC.out _ HBD.out o k (by omega) c hc256 HRD.out)
        clear hby hc hk0
        go_wp2
        go_region_with (go_at_call 40; refine HCT.out.mono ?_; rintro e w5 ⟨u5, rfl, hr5, hb5⟩; have HR5 := hidden hr5; have HB5 := hidden (show Below wo.heap.size wo w5 from (below_refl_drew _).trans hb5); clear hr5 hb5)
        all_goals
          have HBB := hidden (below_then HB.out HSZ.out HB5.out)
          have HRR := hidden (show RowZ w5 (w.heap.size + 1) u5 (spI (runM N (B.take (k + 1)))) by rw [HE.out]; exact HR5.out.lower HSZ.out)
          go_wp2
          go_roundw
          case rel => exact ⟨k + 1, _, by omega, rfl, by go_num, HRR.out, HBB.out⟩
          case measure => simp [intOf]; omega
    · obtain rfl : k = s.size := by omega
      have hdk : decide ((s.size : Int) < (s.size : Int)) = false := by simp
      rw [HRE.out] at HG
      go_wp2
      go_ret
      exact ⟨_, rfl, HG.out.lower (by omega), HBW.out⟩
end Go.Proofs.YtbokhofdgdcpdaaDoor

/- Contract of Run. -/
namespace Go.Proofs.YtbokhofdgdcpdaaDoor
open Go.RowKit Go.Lib Go.Joins
set_option maxHeartbeats 8000000 in
set_option maxRecDepth 100000 in
theorem Run_calls {w : World} {vs vo vl vf v1 : Value} {N : NetM} (s : ByteArray) (h : RdNet w.heap.size w vs vo vl vf v1 N) (hw : ∀ s ∈ N.sets, s.wide) (hn : N.sets.length ≤ 900) (hn1 : N.first.length ≤ 100000) (hss : s.size ≤ 1000) :
    Calls Tryd.prog 41 #[.agg #[vs, vo, vl, vf, v1], .string s] w (RetZ w (spI (runM N (byN s)))) := by
  obtain ⟨sa, cs, rfl⟩ := h.sets.form
  obtain ⟨so, co, rfl⟩ := h.of.form
  obtain ⟨sl, cl, rfl⟩ := h.last.form
  obtain ⟨sf, cf, rfl⟩ := h.fol.form
  obtain ⟨s1, c1, rfl⟩ := h.first.form
  have hba := (Below.refl w.heap.size w).alloc (Nat.le_refl _) (.cells #[.slice sa N.sets.length cs, .slice so N.of.length co, .slice sl N.last.length cl, .slice sf N.fol.length cf, .slice s1 N.first.length c1] 48)
  have hbx := net_box w (.slice sa N.sets.length cs) (.slice so N.of.length co) (.slice sl N.last.length cl) (.slice sf N.fol.length cf) (.slice s1 N.first.length c1) 48
  obtain ⟨w0, hw0⟩ : ∃ w0, w0 = w.alloc (.cells #[.slice sa N.sets.length cs, .slice so N.of.length co, .slice sl N.last.length cl, .slice sf N.fol.length cf, .slice s1 N.first.length c1] 48) := ⟨_, rfl⟩
  have hs0 : w0.heap.size = w.heap.size + 1 := by rw [hw0]; simp
  rw [← hw0] at hba hbx
  have HBA := hidden hba
  have HBX := hidden hbx
  have HW0 := hidden hw0
  have HS0 := hidden hs0
  have HB0 := hidden (Below.refl (w.heap.size + 1) w0)
  have HR := hidden (right12_calls (h.later hba))
  have HNR := hidden (fun (hR : ¬ rightB N = true) => (show runM N (byN s) = [] from by
    have h1 : ∀ c, startM N c = [] := fun c => by unfold startM; rw [if_neg hR]
    have h2 : ∀ l c, stepM N l c = [] := fun l c => by unfold stepM; rw [if_neg hR]
    cases byN s with
    | nil => rfl
    | cons c r =>
      rw [show runM N (c :: r) = r.foldl (fun l b => stepM N (spI l) b) (startM N c) from rfl, h1]
      have : ∀ r : List Nat, r.foldl (fun l b => stepM N (spI l) b) [] = [] := fun r => by
        induction r with
        | nil => rfl
        | cons x r ih => rw [List.foldl_cons, h2]; exact ih
      exact this r))
  have HSC := hidden (fun (hR : rightB N = true) W (hb2 : Below w.heap.size w W) (b : Nat) (hb : b < 256) => (show Calls Tryd.prog 68 #[.agg #[.slice sa N.sets.length cs, .slice so N.of.length co, .slice sl N.last.length cl, .slice sf N.fol.length cf, .slice s1 N.first.length c1], .slice s1 N.first.length c1, .int .u8 b] W (RetZ W (spI (startM N b))) from by
    have h2 := h.later hb2
    have h1 := having_calls (vo := .slice so N.of.length co) (vl := .slice sl N.last.length cl) (vf := .slice sf N.fol.length cf) (v1 := .slice s1 N.first.length c1) (b := b) h2.sets hw h2.first hb (right_first hR).2 hn1
    rw [filter_with (right_first hR).1 (right_first hR).2] at h1
    unfold startM
    rw [if_pos hR]
    exact h1))
  have HTC := hidden (fun (hR : rightB N = true) W (hb2 : Below w.heap.size w W) u (k : Nat) (hk : k ≤ (byN s).length) (b : Nat) (hb : b < 256) (hu : RdZ W.heap.size W u (spI (runM N ((byN s).take k)))) => (show Calls Tryd.prog 70 #[.agg #[.slice sa N.sets.length cs, .slice so N.of.length co, .slice sl N.last.length cl, .slice sf N.fol.length cf, .slice s1 N.first.length c1], u, .int .u8 b] W (RetZ W (spI (stepM N (spI (runM N ((byN s).take k))) b))) from by
    have hlt := (runM_facts N (byN s) k hk).2
    have h1 := step_calls (b := b) (h.later hb2) hw hR (by omega) hu hb (fun x hx => by
      obtain ⟨p, rfl, hp⟩ := (mem_spIZ _ _).1 hx
      have := hlt p hp
      omega) (by rw [spI_len]; have := (runM_facts N (byN s) k hk).1; omega)
    unfold stepM
    rw [if_pos hR]
    rw [hits_congr (H := fun q => nextB N (spI (runM N ((byN s).take k))) q && selB N.sets b q) (fun p hp => ?_)] at h1
    · exact h1
    · congr 1
      unfold anyB folsOf nextB
      rw [Bool.eq_iff_iff]
      simp only [List.any_eq_true, List.mem_map, decide_eq_true_eq, Bool.and_eq_true]
      constructor
      · rintro ⟨f, ⟨x, hx, rfl⟩, hq⟩
        obtain ⟨r, rfl, hr⟩ := (mem_spIZ _ _).1 hx
        have := hlt r hr
        exact ⟨r, hx, by omega, by omega, hq⟩
      · rintro ⟨x, hx, _, _, hq⟩
        exact ⟨_, ⟨x, hx, rfl⟩, hq⟩))
  have HRM := hidden (fun k (hk0 : 0 < k) (hk : k < (byN s).length) => runM_more N (byN s) k hk0 hk)
  have HRF := hidden (fun (h : 0 < (byN s).length) => run_first N (byN s) h)
  have HBY := hidden (fun k (hk : k < s.size) => (show (byN s).getD k 0 = s[k].toNat ∧ (byN s).getD k 0 < 256 from by
    have h1 := byN_at s k hk
    have h2 := s[k].toNat_lt
    exact ⟨h1, by omega⟩))
  have HRE := hidden (show runM N ((byN s).take s.size) = runM N (byN s) by rw [List.take_of_length_le (by rw [byN_len]; exact Nat.le_refl _)])
  have HSTP := hidden (fun k (hk0 : 0 < k) (hk : k ≤ s.size) (h : runM N ((byN s).take k) = []) => (show runM N (byN s) = [] from by
    have := runM_stop N (byN s) k hk0 h (s.size - k)
    rw [show k + (s.size - k) = s.size by omega, List.take_of_length_le (by rw [byN_len]; exact Nat.le_refl _)] at this
    exact this))
  have HE0 := hidden (fun (h : s.size = 0) => (show runM N (byN s) = [] from by
    have : byN s = [] := List.eq_nil_of_length_eq_zero (by rw [byN_len]; exact h)
    rw [this]; rfl))
  rw [byN_len] at HTC HRM HRF
  generalize byN s = B at *
  generalize N.sets.length = ns at *
  generalize N.of.length = no at *
  generalize N.last.length = nl at *
  generalize N.fol.length = nf at *
  generalize N.first.length = n1 at *
  clear h hba hbx hw hw0 hs0 hn hn1
  by_cases hs0 : s.size = 0
  · rw [HE0.out hs0, spI_nil]
    have hse : s = ⟨#[]⟩ := by
      apply ByteArray.ext
      exact Array.eq_empty_of_size_eq_zero hs0
    subst hse
    clear HTC HRM HRF HBY HRE HSTP HE0 hs0
    go_enter Tryd.func41, Tryd.ntmps41
    go_wp2
    go_ret
    exact ⟨_, rfl, RowZ.nil _ _, by rw [← HW0.out]; exact HBA.out⟩
  have hl1 : ¬ s.toList = [] := by
    rw [ByteArray.toList_eq]
    intro e
    apply hs0
    have := congrArg List.length e
    simpa using this
  have hl2 : s.toList.isEmpty = false := by simpa using hl1
  by_cases hR : rightB N = true
  case neg =>
    rw [HNR.out hR, spI_nil]
    rw [show rightB N = false by simpa using hR] at HR
    clear hR
    go_enter Tryd.func41, Tryd.ntmps41
    obtain ⟨b0, b1, b2, b3, b4⟩ := HBX.out w0 HB0.out
    rw [HW0.out] at b0 b1 b2 b3 b4 HR
    go_wp2_with fail
    refine HR.out.mono ?_
    rintro e w1 ⟨rfl, hb1⟩
    rw [← HW0.out] at hb1
    have HBW := hidden (below_then HBA.out HBA.out.size hb1)
    go_wp2
    go_ret
    exact ⟨_, rfl, RowZ.nil _ _, HBW.out⟩
  have HSC := hidden (HSC.out hR)
  have HTC := hidden (HTC.out hR)
  rw [hR] at HR
  clear hR HNR
  have hlt0 : 0 < s.size := by omega
  obtain ⟨hby0, hc0⟩ := HBY.out 0 hlt0
  obtain ⟨c, hc⟩ : ∃ c, c = B.getD 0 0 := ⟨_, rfl⟩
  rw [← hc] at hby0 hc0
  have hx0 : ((s[0]'hlt0).toNat : Int) = (c : Int) := by rw [hby0]
  have HE0 := hidden (show runM N (B.take (0 + 1)) = startM N c by rw [HRF.out hlt0, hc])
  have h0s : (0 : Int) < (s.size : Int) := by omega
  clear hby0 hc hs0
  go_enter Tryd.func41, Tryd.ntmps41
  obtain ⟨b0, b1, b2, b3, b4⟩ := HBX.out w0 HB0.out
  rw [HW0.out] at b0 b1 b2 b3 b4 HR
  go_wp2_with fail
  refine HR.out.mono ?_
  rintro e w1 ⟨rfl, hb1⟩
  rw [← HW0.out] at hb1
  have HB1 := hidden (show Below (w.heap.size + 1) w0 w1 by rw [← HS0.out]; exact hb1)
  have HBW := hidden (below_then HBA.out HBA.out.size hb1)
  have HSZ := hidden (show w.heap.size + 1 ≤ w1.heap.size by have := HB1.out.size; have := HS0.out; omega)
  clear hb1 b0 b1 b2 b3 b4
  obtain ⟨b0, b1, b2, b3, b4⟩ := HBX.out w1 HB1.out
  have hbl : w.heap.size < w1.heap.size := by have := HSZ.out; omega
  have HCS := hidden (HSC.out _ (show Below w.heap.size w w1.drew from below_drawn HBW.out 1) c hc0)
  go_wp2
  go_region_with (go_at_call 68; refine HCS.out.mono ?_; rintro e w5 ⟨u5, rfl, hr5, hb5⟩; have HR5 := hidden hr5; have HB5 := hidden (show Below w1.heap.size w1 w5 from (below_refl_drew _).trans hb5); clear hr5 hb5)
  all_goals
    have HBB := hidden (below_then HB1.out HSZ.out HB5.out)
    have HRR := hidden (show RowZ w5 (w.heap.size + 1) u5 (spI (runM N (B.take (0 + 1)))) by rw [HE0.out]; exact HR5.out.lower HSZ.out)
    clear hbl b0 b1 b2 b3 b4 hx0 h0s hc0
    go_wp2
    go_loopw [5, 6] (fun v i wr => ∃ (k : Nat) (o : Value), 0 < k ∧ k ≤ s.size ∧ o = v ∧ i = .int .i64 k ∧ RowZ wr (w.heap.size + 1) o (spI (runM N (B.take k))) ∧ Below (w.heap.size + 1) w0 wr) (fun _ i _ => s.size - (intOf i).toNat)
    case atStart => exact ⟨0 + 1, _, by omega, by omega, rfl, rfl, HRR.out, HBB.out⟩
    case round =>
      clear HRR HBB
      obtain ⟨k, o, hk0, hk, rfl, rfl, hG, hb3⟩ := hrel
      obtain ⟨wo, rfl⟩ : ∃ wo, wo = wr := ⟨wr, rfl⟩
      have HG := hidden hG
      have HB := hidden hb3
      have HBW2 := hidden (show Below w.heap.size w wo from HBA.out.trans (hb3.mono (by omega)))
      have HSZ2 := hidden (show w.heap.size + 1 ≤ wo.heap.size by have := hb3.size; have := HS0.out; omega)
      obtain ⟨b0, b1, b2, b3, b4⟩ := HBX.out wo HB.out
      have hbl : w.heap.size < wo.heap.size := by have := HSZ2.out; omega
      obtain ⟨ao, co, rfl⟩ := HG.out.form
      have HLZ := hidden (fun (h : (spI (runM N (B.take k))).length = 0) => (show runM N (B.take k) = [] from by
        rw [spI_len] at h
        exact List.eq_nil_of_length_eq_zero h))
      obtain ⟨lo, hlo⟩ : ∃ lo, lo = (spI (runM N (B.take k))).length := ⟨_, rfl⟩
      have HRD := hidden (show RdZ wo.drew.heap.size wo.drew (.slice ao lo co) (spI (runM N (B.take k))) from by rw [hlo]; exact HG.out.reads)
      rw [← hlo] at HG HLZ ⊢
      clear hG hb3 hlo
      by_cases hlt : k < s.size
      · have hd0 : decide ((k : Int) < (s.size : Int)) = true := decide_eq_true (by omega)
        have hd1 : decide (k < s.size) = true := decide_eq_true hlt
        by_cases hl0 : lo = 0
        · have HE := hidden (show spI (runM N B) = spI (runM N (B.take k)) by rw [HLZ.out hl0, HSTP.out k hk0 hk (HLZ.out hl0)])
          have hd2 : decide ((0 : Int) < (lo : Int)) = false := decide_eq_false (by omega)
          have hd3 : decide (0 < lo) = false := decide_eq_false (by omega)
          have HF := hidden (show RowZ wo w.heap.size (.slice ao lo co) (spI (runM N B)) by rw [HE.out]; exact HG.out.lower (Nat.le_succ _))
          clear hl0
          go_wp2
          go_ret
          exact ⟨_, rfl, HF.out, HBW2.out⟩
        · have hd2 : decide ((0 : Int) < (lo : Int)) = true := decide_eq_true (by omega)
          have hd3 : decide (0 < lo) = true := decide_eq_true (by omega)
          obtain ⟨hby, hc256⟩ := HBY.out k hlt
          obtain ⟨d, hd⟩ : ∃ d, d = B.getD k 0 := ⟨_, rfl⟩
          rw [← hd] at hby hc256
          have hx : ((s[k]'hlt).toNat : Int) = (d : Int) := by rw [hby]
          have HE := hidden (show runM N (B.take (k + 1)) = stepM N (spI (runM N (B.take k))) d by rw [HRM.out k hk0 hlt, hd])
          have HCT := hidden (HTC.out _ (show Below w.heap.size w wo.drew from below_drawn HBW2.out 1) _ k hk d hc256 HRD.out)
          have hlt' := hlt
          have hkb : IntKind.i64.wrap ((k : Int) + 1) = (k : Int) + 1 := by rw [IntKind.wrap_i64]; omega
          have HLT := hidden hlt
          clear hby hd hl0
          go_wp2
          go_region_with (go_at_call 70; refine HCT.out.mono ?_; rintro e w7 ⟨u7, rfl, hr7, hb7⟩; have HR7 := hidden hr7; have HB7 := hidden (show Below wo.heap.size wo w7 from (below_refl_drew _).trans hb7); clear hr7 hb7)
          all_goals
            have HBB := hidden (below_then HB.out HSZ2.out HB7.out)
            have HRR := hidden (show RowZ w7 (w.heap.size + 1) u7 (spI (runM N (B.take (k + 1)))) by rw [HE.out]; exact HR7.out.lower HSZ2.out)
            go_wp2
            go_roundw
            case rel => exact ⟨k + 1, _, by omega, by have := HLT.out; omega, rfl, by go_num, HRR.out, HBB.out⟩
            case measure => have := HLT.out; simp [intOf]; omega
      · obtain rfl : k = s.size := by omega
        have hdk : decide ((s.size : Int) < (s.size : Int)) = false := by simp
        rw [HRE.out] at HG
        go_wp2
        go_ret
        exact ⟨_, rfl, HG.out.lower (by omega), HBW2.out⟩
end Go.Proofs.YtbokhofdgdcpdaaDoor
