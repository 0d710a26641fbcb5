/- FuStepR, FuTok, FaMat, FaTab, put together. -/
import Derived.Test.YtmpjjnjggihojaaGreatDoorDf19
import Derived.Deep.RegionLaw
import Derived.Test.YtmpjjnjggihojaaGreatDoorDf11
import Derived.Test.YtmpjjnjggihojaaGreatDoorDf02
import Derived.Lib.SmallJoins
import Derived.Laws.MakeOwn
import Derived.Maps.AppendAt
import Derived.Deep.OwnRows
import Derived.RangeFuncBox
/- Contract of the reference's Step. -/
namespace Go.Proofs.YtmpjjnjggihojaaGreatDoor
open Go.RowKit Go.Lib Go.Joins
/-- app_zz at a step of a region that draws -/
theorem step_app_zz {w : World} {ops : Array Oper} {o : Oper} {a : Act} {K : Act → World → Prop} {Q : Exit → Act → World → Prop} {E : Prop} (hgd : o.guard = none) (s x : Operand)
    (ho : o.op = .call { callee := .builtin .append, args := #[s, x], argTypes := #[23, 23] }) {base B : Nat} {v u : Value} {l m : List Int}
    (hs : a.eval s = v) (hown : RowZ w base v l) (hx : a.eval x = u) (hM : RdZ B w u m) (hsz : l.length + m.length ≤ 1000000) (hb0 : base ≤ w.heap.size)
    (h : ∀ a' l' c' w', RowZ w' base (.slice a' l' c') (l ++ m) → w.grownBy w' v.ownBlock → Below base w w' → K (a.put o.dst (.slice a' l' c')) w') : if Region.wanted o (yielded ops a.tmps) = true then Oper.wp Tryz.prog o a w K Q else E := by
  have hw : Region.wanted o (yielded ops a.tmps) = true := by simp [Region.wanted, hgd]
  rw [if_pos hw]
  have hlow : ∀ j, v.ownBlock = some j → base ≤ j := fun j e => (World.ownsRow.lt hown j e).1
  have h : ∀ v' w', RowZ w' base v' (l ++ m) → w.grownBy w' v.ownBlock → K (a.put o.dst v') w' := fun v' w' h1 h2 => by
    obtain ⟨a', c', rfl⟩ := h1.form
    exact h _ _ _ _ h1 h2 ((Below.refl base w).grown h2 hb0 hlow)
  obtain ⟨i0, hi, hz0, hz1, hz2⟩ := info_parts infoInt
  obtain ⟨ad, cap, rfl, h1, h2, h0, hS⟩ := hM
  cases ad with
  | none =>
    have e0 := h0 rfl
    subst e0
    have hM0 : m = [] := List.eq_nil_of_length_eq_zero (by omega)
    subst hM0
    have hrun := run_append_owned_none (P := Tryz.prog) (w := w) base 23 o.type 3 i0 1 Tryz.underlying23 hi v l.length (l.map (Value.int .i64)) hown
    unfold Oper.wp
    have hx' : a.eval x = .slice none 0 0 := hx
    simp [execOp, ho, resolve, invoke, builtin, hs, hx', hrun, Result.andThen]
    exact h v w (by rw [List.append_nil]; exact hown) ⟨rfl, rfl, rfl, Nat.le_refl _, fun _ _ _ => rfl⟩
  | some ad =>
    obtain ⟨b, off, spot⟩ := ad
    have hnews : ∀ j z, (m.map (Value.int .i64))[j]? = some z → w.cell? ((⟨b, off, spot⟩ : Addr).add j) = some z := by
      intro j z hz
      have hj : j < m.length := by
        have := (List.getElem?_eq_some_iff.1 hz).1
        simpa using this
      obtain ⟨b', off', e, _, hc⟩ := hS (by omega)
      simp only [Option.some.injEq, Addr.mk.injEq] at e
      obtain ⟨rfl, rfl, rfl⟩ := e
      rw [Addr.add_lit, hc j hj]
      rw [List.getElem?_map, List.getElem?_eq_getElem hj] at hz
      rw [List.getD_eq_getElem?_getD, List.getElem?_eq_getElem hj]
      exact hz
    refine wp_append_own w s x 23 ho base 3 i0 _ 1 8 Tryz.underlying23 hi hz0 hz1 hz2 rfl (by decide) v l.length (l.map (Value.int .i64)) hs hown ⟨b, off, spot⟩ m.length cap (m.map (Value.int .i64)) hx (by simp) hnews (fun z hz => ints_one hz) (by unfold maxLen; omega) (by omega) hb0 fun v' w' h3 h4 _ => h v' w' ?_ h4
    unfold RowZ
    rw [List.length_append, List.map_append]
    exact h3
/-- what stands behind the spots of a list, one list behind the other -/
def restOf (N : NetM) (l : List Int) : List Int := l.flatMap fun x : Int => if 0 ≤ x ∧ x < (N.sets.length : Int) then N.fol.getD x.toNat [] else []
theorem rest_next (N : NetM) (l : List Int) (S : List Stp) (b q : Nat) : withG S b (restOf N l) q = (nextB N l q && selB S b q) := by
  unfold withG
  congr 1
  unfold restOf nextB
  rw [Bool.eq_iff_iff, decide_eq_true_eq, List.mem_flatMap, List.any_eq_true]
  simp only [Bool.and_eq_true, decide_eq_true_eq]
  constructor
  · rintro ⟨x, hx, h⟩
    split at h
    · rename_i h1
      exact ⟨x, hx, h1.1, h1.2, h⟩
    · simp at h
  · rintro ⟨x, hx, h0, h1, h2⟩
    exact ⟨x, hx, by rw [if_pos ⟨h0, h1⟩]; exact h2⟩
theorem rest_more (N : NetM) (l : List Int) (k : Nat) (hk : k < l.length) : restOf N (l.take (k + 1)) = restOf N (l.take k) ++ (if 0 ≤ l.getD k 0 ∧ l.getD k 0 < (N.sets.length : Int) then N.fol.getD (l.getD k 0).toNat [] else []) := by
  unfold restOf
  rw [List.take_succ_eq_append_getElem hk, List.flatMap_append, List.getD_eq_getElem?_getD, List.getElem?_eq_getElem hk, Option.getD_some]
  congr 1
  rw [List.flatMap_cons, List.flatMap_nil, List.append_nil]
theorem rest_len (N : NetM) (hf : ∀ i, (N.fol.getD i []).length ≤ 1000) : ∀ l : List Int, (restOf N l).length ≤ 1000 * l.length
  | [] => by simp [restOf]
  | x :: r => by
    have h1 := rest_len N hf r
    have h2 := hf x.toNat
    unfold restOf at *
    rw [List.flatMap_cons, List.length_append, List.length_cons]
    split
    · omega
    · simp only [List.length_nil]; omega
set_option maxHeartbeats 8000000 in
set_option maxRecDepth 100000 in
theorem rStep_calls {w : World} {v vs vo vl vf v1 : Value} {N : NetM} {b : Nat} {l : List Int} (h : RdNet w.heap.size w vs vo vl vf v1 N) (hw : ∀ s ∈ N.sets, s.wide) (hn : N.sets.length ≤ 100000) (hr : RdZ w.heap.size w v l) (hb : b < 256) (hf : ∀ i, (N.fol.getD i []).length ≤ 1000) (hlen : l.length ≤ 900) :
    Calls Tryz.prog 30 #[.agg #[vs, vo, vl, vf, v1], v, .int .u8 b] w (RetZ w (spI (stepM N l b))) := by
  obtain ⟨sa, cs, rfl⟩ := h.sets.form
  obtain ⟨so, co, rfl⟩ := h.of.form
  obtain ⟨sl, cl, rfl⟩ := h.last.form
  obtain ⟨sf, cf, rfl⟩ := h.fol.form
  obtain ⟨s1, c1, rfl⟩ := h.first.form
  obtain ⟨av, cv, rfl⟩ := hr.form
  have hba := (Below.refl w.heap.size w).alloc (Nat.le_refl _) (.cells #[.slice sa N.sets.length cs, .slice so N.of.length co, .slice sl N.last.length cl, .slice sf N.fol.length cf, .slice s1 N.first.length c1] 27)
  have hbx := net_box w (.slice sa N.sets.length cs) (.slice so N.of.length co) (.slice sl N.last.length cl) (.slice sf N.fol.length cf) (.slice s1 N.first.length c1) 27
  obtain ⟨w0, hw0⟩ : ∃ w0, w0 = w.alloc (.cells #[.slice sa N.sets.length cs, .slice so N.of.length co, .slice sl N.last.length cl, .slice sf N.fol.length cf, .slice s1 N.first.length c1] 27) := ⟨_, rfl⟩
  have hs0 : w0.heap.size = w.heap.size + 1 := by rw [hw0]; simp
  rw [← hw0] at hba hbx
  obtain ⟨w2, hw2⟩ : ∃ w2, w2 = w0.alloc (.cells #[] 3) := ⟨_, rfl⟩
  have hb20 : Below (w.heap.size + 1) w0 w2 := by rw [hw2, ← hs0]; exact (Below.refl _ _).alloc (Nat.le_refl _) _
  have hb2 : Below w.heap.size w w2 := hba.trans (hb20.mono (by omega))
  have HBA := hidden hba
  have HBX := hidden hbx
  have HW0 := hidden hw0
  have HW2 := hidden hw2
  have HS0 := hidden hs0
  have HB2 := hidden hb20
  have HBW2 := hidden hb2
  have HR := hidden (rright12_calls (h.later hb2))
  have HN0 := hidden (show RowZ w2 (w.heap.size + 1) (.slice (some ⟨w.heap.size + 1, 0, none⟩) 0 0) [] by rw [hw2, ← hs0]; exact RowZ.lit w0 w0.heap.size rfl #[] rfl)
  have HA := hidden (fun W (hb : Below w.heap.size w W) i (hi : i < l.length) => hr.atZ hb i hi)
  have HFO := hidden (fun W (hb : Below w.heap.size w W) i (hi : i < N.fol.length) => h.fol.at hb i hi)
  have HFN := hidden (fun (hR : rightB N = true) => ((rightB_iff N).1 hR).1.2.2)
  have HFL := hidden hf
  have HRM := hidden (fun k (hk : k < l.length) => rest_more N l k hk)
  have HRL := hidden (fun k (hk : k ≤ l.length) => (show (restOf N (l.take k)).length ≤ 900000 from by
    have h1 := rest_len N hf (l.take k)
    rw [List.length_take] at h1
    omega))
  have HRE := hidden (show restOf N (l.take l.length) = restOf N l by rw [List.take_length])
  have HRZ := hidden (show restOf N (l.take 0) = [] from rfl)
  have HWC := hidden (fun W (hb2 : Below w.heap.size w W) u (hu : RdZ W.heap.size W u (restOf N l)) => (show Calls Tryz.prog 59 #[.agg #[.slice sa N.sets.length cs, .slice so N.of.length co, .slice sl N.last.length cl, .slice sf N.fol.length cf, .slice s1 N.first.length c1], u, .int .u8 b] W (RetZ W (spI (hits (fun q => nextB N l q && selB N.sets b q) N.sets.length))) from by
    have h2 := h.later hb2
    have h1 := rwith12_calls (vo := .slice so N.of.length co) (vl := .slice sl N.last.length cl) (vf := .slice sf N.fol.length cf) (v1 := .slice s1 N.first.length c1) (b := b) h2.sets hw hu (by assumption) hn
    rw [hits_congr (H := fun q => nextB N l q && selB N.sets b q) (fun p _ => rest_next N l N.sets b p)] at h1
    exact h1))
  have HST := hidden (show stepM N l b = if rightB N = true then hits (fun q => nextB N l q && selB N.sets b q) N.sets.length else [] from rfl)
  generalize N.of.length = no at *
  generalize N.last.length = nl at *
  generalize N.first.length = n1 at *
  obtain ⟨ns, hns⟩ : ∃ ns, ns = N.sets.length := ⟨_, rfl⟩
  obtain ⟨nf, hnf⟩ : ∃ nf, nf = N.fol.length := ⟨_, rfl⟩
  obtain ⟨lv, hlv⟩ : ∃ lv, lv = l.length := ⟨_, rfl⟩
  rw [← hns] at HWC HST HR HBX HW0 HRM HFN hn ⊢
  rw [← hnf] at HWC HR HBX HW0 HFO HFN ⊢
  rw [← hlv] at HA HRM HRL HRE hlen ⊢
  clear h hba hbx hw hw0 hw2 hs0 hr hb20 hb2 hns hnf hlv hf
  by_cases hR : rightB N = true
  · rw [if_pos hR] at HST
    have HFN := hidden (HFN.out hR)
    rw [hR] at HR
    rw [HST.out]
    clear hR
    go_enter Tryz.func30, Tryz.ntmps30
    obtain ⟨b0, b1, b2, b3, b4⟩ := HBX.out w2 HB2.out
    have hs0 := HS0.out
    rw [HW0.out] at hs0
    go_wp2_with fail
    rw [← HW0.out, ← HW2.out]
    refine HR.out.mono ?_
    rintro e w1 ⟨rfl, hb1⟩
    have HB1 := hidden (show Below (w.heap.size + 1) w0 w1 from HB2.out.trans (hb1.mono (by have := HB2.out.size; have := HS0.out; omega)))
    have HN1 := hidden (HN0.out.kept hb1)
    clear hb1 b0 b1 b2 b3 b4 hs0
    have hlvb : lv ≤ 900 := hlen
    go_wp2
    go_loopw [7, 8] (fun v i wr => ∃ (k : Nat) (o : Value), k ≤ lv ∧ o = v ∧ i = .int .i64 k ∧ RowZ wr (w.heap.size + 1) o (restOf N (l.take k)) ∧ Below (w.heap.size + 1) w0 wr) (fun _ i _ => lv - (intOf i).toNat)
    case atStart => exact ⟨0, _, by omega, rfl, rfl, by rw [HRZ.out]; exact HN1.out, HB1.out⟩
    case round =>
      clear HN1 HB1
      obtain ⟨k, o, hk, rfl, rfl, hG, hb3⟩ := hrel
      obtain ⟨wo, rfl⟩ : ∃ wo, wo = wr := ⟨wr, rfl⟩
      have HG := hidden hG
      have HB := hidden hb3
      have HBW := hidden (show Below w.heap.size w wo from HBA.out.trans (hb3.mono (by omega)))
      have HSZ := hidden (show w.heap.size + 1 ≤ wo.heap.size by have := hb3.size; have := HS0.out; omega)
      obtain ⟨b0, b1, b2, b3, b4⟩ := HBX.out wo HB.out
      have hbl : w.heap.size < wo.heap.size := by have := HSZ.out; omega
      clear hG hb3
      by_cases hlt : k < lv
      · obtain ⟨ba, oa, rfl, hba, c0⟩ := HA.out wo HBW.out k hlt
        have HRK := hidden (HRM.out k hlt)
        have HRLK := hidden (HRL.out k (by omega))
        have hlt' := hlt
        have hkb : IntKind.i64.wrap ((k : Int) + 1) = (k : Int) + 1 := by rw [IntKind.wrap_i64]; omega
        have hbaw : ba < wo.heap.size := cell_lt c0
        generalize l.getD k 0 = x at *
        have h0 := fun (p : Later wo) => Later.cell b0 hbl p
        have h1 := fun (p : Later wo) => Later.cell b1 hbl p
        have h2 := fun (p : Later wo) => Later.cell b2 hbl p
        have h3 := fun (p : Later wo) => Later.cell b3 hbl p
        have h4 := fun (p : Later wo) => Later.cell b4 hbl p
        have hc := fun (p : Later wo) => Later.cell c0 hbaw p
        by_cases hx : 0 ≤ x ∧ x < (ns : Int)
        case neg =>
          rw [if_neg hx, List.append_nil] at HRK
          by_cases hx0 : 0 ≤ x
          case' pos =>
            have hd0 : decide (0 ≤ x) = true := decide_eq_true hx0
            have hd1 : decide (x < (ns : Int)) = false := decide_eq_false (by omega)
          case' neg =>
            have hd0 : decide (0 ≤ x) = false := decide_eq_false hx0
          all_goals
            clear hx hx0
            go_wp2
            refine wp_region_later (by kernel_rfl) (by kernel_rfl) ?_
            repeat (go_big_quiet_step (fail))
            refine wpQuiet_nil ?_
            rintro _ ⟨⟨_, hb5⟩, rfl⟩
            rename_i w5
            have HB5 := hidden (below_then HB.out HSZ.out hb5)
            have HG5 := hidden (HG.out.kept hb5)
            clear hb5 h0 h1 h2 h3 h4 hc b0 b1 b2 b3 b4 c0
            go_wp2
            go_roundw
            case rel => exact ⟨k + 1, _, by omega, rfl, by go_num, by rw [HRK.out]; exact HG5.out, HB5.out⟩
            case measure => simp [intOf]; omega
        case pos =>
          rw [if_pos hx] at HRK
          obtain ⟨p, rfl⟩ : ∃ p : Nat, x = p := ⟨x.toNat, by omega⟩
          rw [Int.toNat_natCast] at HRK
          have hd0 : decide (0 ≤ (p : Int)) = true := decide_eq_true hx.1
          have hd1 : decide ((p : Int) < (ns : Int)) = true := decide_eq_true hx.2
          have hd2 : decide (p < ns) = true := decide_eq_true (by omega)
          have hpf : p < nf := by have := HFN.out; omega
          have hpi : (p : Int) < (nf : Int) := by omega
          have HLF := hidden (HFL.out p)
          clear hx
          go_wp2
          refine wp_region_later (by kernel_rfl) (by kernel_rfl) ?_
          repeat (go_big_quiet_step (fail))
          refine wpQuiet_nil ?_
          rintro _ ⟨⟨_, hb5⟩, rfl⟩
          rename_i w5
          have HB5 := hidden (below_then HB.out HSZ.out hb5)
          have HBW5 := hidden (below_after HBW.out hb5)
          have HG5 := hidden (HG.out.kept hb5)
          have HSZ5 := hidden (show w.heap.size + 1 ≤ w5.heap.size by have := HSZ.out; have := hb5.size; omega)
          have c5 := (hb5.cell (p := ⟨ba, oa + k, none⟩) hbaw).trans c0
          clear hb5 h0 h1 h2 h3 h4 hc b0 b1 b2 b3 b4 c0
          obtain ⟨bf, of, a', c', rfl, hbf, d0, hrz⟩ := HFO.out w5 HBW5.out p hpf
          obtain ⟨b0, b1, b2, b3, b4⟩ := HBX.out w5 HB5.out
          have HRF := hidden hrz
          generalize N.fol.getD p [] = fl at *
          obtain ⟨lf, hlf⟩ : ∃ lf, lf = fl.length := ⟨_, rfl⟩
          rw [← hlf] at d0 HRF
          have HLL := hidden (show (restOf N (l.take k)).length + fl.length ≤ 1000000 by have := HRLK.out; have := HLF.out; omega)
          have HGD := hidden (show RowZ w5.drew (w.heap.size + 1) o (restOf N (l.take k)) from HG5.out)
          have HRD := hidden (show RdZ w.heap.size w5.drew (.slice a' lf c') fl from HRF.out)
          have HSD := hidden (show w.heap.size + 1 ≤ w5.drew.heap.size from HSZ5.out)
          have HBD := hidden (show Below (w.heap.size + 1) w0 w5.drew from below_drawn HB5.out 1)
          clear hrz hlf
          go_wp2
          go_region_law (refine step_app_zz rfl _ _ rfl rfl HGD.out rfl HRD.out HLL.out HSD.out ?_; intro a9 l9 c9 w9 hr9 hg9 hb9; have HR9 := hidden hr9; have HB9 := hidden (HBD.out.trans hb9); clear hr9 hg9 hb9)
          all_goals
            go_wp2
            go_roundw
            case rel => exact ⟨k + 1, _, by omega, rfl, by go_num, by rw [HRK.out]; exact HR9.out, HB9.out⟩
            case measure => simp [intOf]; omega
      · obtain rfl : k = lv := by omega
        have hdk : decide ((k : Int) < (k : Int)) = false := by simp
        rw [HRE.out] at HG
        have HRD := hidden HG.out.reads
        go_wp2_with fail
        refine (HWC.out wo HBW.out _ HRD.out).mono ?_
        rintro e w5 ⟨u, rfl, hr5, hb5⟩
        go_wp2
        go_ret
        exact ⟨_, rfl, hr5.lower HBW.out.size, below_after HBW.out hb5⟩
  · rw [if_neg hR] at HST
    rw [show rightB N = false by simpa using hR] at HR
    rw [HST.out, spI_nil]
    clear hR
    go_enter Tryz.func30, Tryz.ntmps30
    obtain ⟨b0, b1, b2, b3, b4⟩ := HBX.out w2 HB2.out
    have hs0 := HS0.out
    rw [HW0.out] at hs0
    go_wp2_with fail
    rw [← HW0.out, ← HW2.out]
    refine HR.out.mono ?_
    rintro e w1 ⟨rfl, hb1⟩
    have HB1 := hidden (below_after HBW2.out hb1)
    have HN1 := hidden ((HN0.out.kept hb1).lower (base' := w.heap.size) (by omega))
    clear hb1 b0 b1 b2 b3 b4 hs0
    go_wp2
    go_ret
    exact ⟨_, rfl, HN1.out, HB1.out⟩
end Go.Proofs.YtmpjjnjggihojaaGreatDoor

/- Contracts of Token and the reference's Token. -/
namespace Go.Proofs.YtmpjjnjggihojaaGreatDoor
open Go.RowKit Go.Lib Go.Joins
/-- is x a spot that is last? -/
def lasB (N : NetM) (x : Int) : Bool := decide (0 ≤ x) && (decide (x < N.sets.length) && N.last.getD x.toNat false)
def tokS (N : NetM) (t : Int) (x : Int) : Int := if (lasB N x && (decide (t < 0) || decide (N.of.getD x.toNat 0 < t))) = true then N.of.getD x.toNat 0 else t
def tokV (N : NetM) (l : List Int) : Int := l.foldl (tokS N) (-1)
def tokenM (N : NetM) (l : List Int) : Int := if rightB N = true then tokV N l else -1
theorem spI_getDJ (N : List Nat) (j : Nat) : (spI N).getD j 0 = ((N.getD j 0 : Nat) : Int) := by
  unfold spI
  rw [List.getD_eq_getElem?_getD, List.getD_eq_getElem?_getD, List.getElem?_map]
  cases N[j]? <;> rfl
theorem tokV_more (N : NetM) (l : List Int) (k : Nat) (hk : k < l.length) : tokV N (l.take (k + 1)) = tokS N (tokV N (l.take k)) (l.getD k 0) := by
  unfold tokV
  rw [List.take_succ_eq_append_getElem hk, List.foldl_append, List.getD_eq_getElem?_getD, List.getElem?_eq_getElem hk]
  rfl
/-- what a token that is told is -/
def IsTok (N : NetM) (P : Int → Prop) (t : Int) : Prop := (t = -1 ∧ ∀ x, P x → lasB N x = false) ∨ (0 ≤ t ∧ (∃ x, P x ∧ lasB N x = true ∧ N.of.getD x.toNat 0 = t) ∧ ∀ x, P x → lasB N x = true → t ≤ N.of.getD x.toNat 0)
theorem tok_one {N : NetM} {P : Int → Prop} {s t : Int} (h : IsTok N P s) (k : IsTok N P t) : s = t := by
  rcases h with ⟨rfl, h⟩ | ⟨h0, ⟨x, hx, he, hs⟩, hm⟩
  · rcases k with ⟨rfl, _⟩ | ⟨_, ⟨y, hy, he, _⟩, _⟩
    · rfl
    · rw [h y hy] at he; cases he
  · rcases k with ⟨rfl, k⟩ | ⟨_, ⟨y, hy, hf, ht⟩, kn⟩
    · rw [k x hx] at he; cases he
    · have h1 := hm y hy hf
      have h2 := kn x hx he
      omega
theorem tok_is {N : NetM} (hR : rightB N = true) : ∀ l : List Int, IsTok N (· ∈ l) (tokV N l) := by
  have key : ∀ (l : List Int) (P : Int → Prop) (t : Int), IsTok N P t → IsTok N (fun x => P x ∨ x ∈ l) (l.foldl (tokS N) t) := by
    intro l
    induction l with
    | nil => intro P t h; simpa using h
    | cons y r ih =>
      intro P t h
      have h1 : IsTok N (fun x => P x ∨ x = y) (tokS N t y) := by
        unfold tokS
        by_cases he : lasB N y = true
        · have hof : 0 ≤ N.of.getD y.toNat 0 := by
            unfold lasB at he
            simp only [Bool.and_eq_true, decide_eq_true_eq] at he
            exact (right_fol hR y.toNat (by omega)).1
          rw [he, Bool.true_and]
          rcases h with ⟨rfl, h⟩ | ⟨h0, ⟨x, hx, hxe, hs⟩, hm⟩
          · rw [if_pos (by simp)]
            refine .inr ⟨hof, ⟨y, .inr rfl, he, rfl⟩, fun x hx hxe => ?_⟩
            rcases hx with hx | rfl
            · rw [h x hx] at hxe; cases hxe
            · exact Int.le_refl _
          · by_cases hlt : N.of.getD y.toNat 0 < t
            · rw [if_pos (by rw [decide_eq_true hlt, Bool.or_true])]
              refine .inr ⟨hof, ⟨y, .inr rfl, he, rfl⟩, fun x hx hxe => ?_⟩
              rcases hx with hx | rfl
              · have := hm x hx hxe; omega
              · exact Int.le_refl _
            · rw [if_neg (by simp only [Bool.or_eq_true, decide_eq_true_eq]; omega)]
              refine .inr ⟨h0, ⟨x, .inl hx, hxe, hs⟩, fun z hz hze => ?_⟩
              rcases hz with hz | rfl
              · exact hm z hz hze
              · omega
        · have he' : lasB N y = false := by simpa using he
          rw [he', Bool.false_and, if_neg (by decide)]
          rcases h with ⟨rfl, h⟩ | ⟨h0, ⟨x, hx, hxe, hs⟩, hm⟩
          · refine .inl ⟨rfl, fun x hx => ?_⟩
            rcases hx with hx | rfl
            · exact h x hx
            · exact he'
          · refine .inr ⟨h0, ⟨x, .inl hx, hxe, hs⟩, fun z hz hze => ?_⟩
            rcases hz with hz | rfl
            · exact hm z hz hze
            · rw [he'] at hze; cases hze
      have h2 := ih _ _ h1
      rw [List.foldl_cons]
      have e : (fun x => (P x ∨ x = y) ∨ x ∈ r) = (fun x => P x ∨ x ∈ y :: r) := by
        funext x
        rw [List.mem_cons, or_assoc]
      rw [e] at h2
      exact h2
  intro l
  have := key l (fun _ => False) (-1) (.inl ⟨rfl, fun x h => h.elim⟩)
  unfold tokV
  simpa using this
/-- which list tells the spots makes no difference -/
theorem tok_joined {N : NetM} (hR : rightB N = true) (l : List Int) : tokV N (spI (hits (anyB [l]) N.sets.length)) = tokV N l := by
  have h1 := tok_is hR (spI (hits (anyB [l]) N.sets.length))
  have h2 := tok_is hR l
  have hin : ∀ x, lasB N x = true → (x ∈ spI (hits (anyB [l]) N.sets.length) ↔ x ∈ l) := fun x he => by
    unfold lasB at he
    simp only [Bool.and_eq_true, decide_eq_true_eq] at he
    rw [mem_spIZ]
    constructor
    · rintro ⟨p, rfl, hp⟩
      have := ((hits_mem _ _ _).1 hp).2
      simpa [anyB] using this
    · intro hx
      refine ⟨x.toNat, by omega, (hits_mem _ _ _).2 ⟨by omega, ?_⟩⟩
      simp only [anyB, List.any_cons, List.any_nil, Bool.or_false, decide_eq_true_eq]
      rw [show ((x.toNat : Nat) : Int) = x by omega]
      exact hx
  refine tok_one (P := (· ∈ l)) ?_ h2
  rcases h1 with ⟨e, h⟩ | ⟨h0, ⟨x, hx, he, hs⟩, hm⟩
  · refine .inl ⟨e, fun x hx => ?_⟩
    cases he : lasB N x
    · rfl
    · rw [h x ((hin x he).2 hx)] at he; cases he
  · exact .inr ⟨h0, ⟨x, (hin x he).1 hx, he, hs⟩, fun z hz hze => hm z ((hin z hze).2 hz) hze⟩
set_option maxHeartbeats 8000000 in
set_option maxRecDepth 100000 in
theorem rToken_calls {w : World} {v vs vo vl vf v1 : Value} {N : NetM} {l : List Int} (h : RdNet w.heap.size w vs vo vl vf v1 N) (hr : RdZ w.heap.size w v l) (hlen : l.length ≤ 100000) :
    Calls Tryz.prog 33 #[.agg #[vs, vo, vl, vf, v1], v] w fun e w' => e = .returned (.int .i64 (tokenM N l)) ∧ Below w.heap.size w w' := by
  obtain ⟨sa, cs, rfl⟩ := h.sets.form
  obtain ⟨so, co, rfl⟩ := h.of.form
  obtain ⟨sl, cl, rfl⟩ := h.last.form
  obtain ⟨sf, cf, rfl⟩ := h.fol.form
  obtain ⟨s1, c1, rfl⟩ := h.first.form
  obtain ⟨av, cv, rfl⟩ := hr.form
  have hba := (Below.refl w.heap.size w).alloc (Nat.le_refl _) (.cells #[.slice sa N.sets.length cs, .slice so N.of.length co, .slice sl N.last.length cl, .slice sf N.fol.length cf, .slice s1 N.first.length c1] 27)
  have hbx := net_box w (.slice sa N.sets.length cs) (.slice so N.of.length co) (.slice sl N.last.length cl) (.slice sf N.fol.length cf) (.slice s1 N.first.length c1) 27
  obtain ⟨w0, hw0⟩ : ∃ w0, w0 = w.alloc (.cells #[.slice sa N.sets.length cs, .slice so N.of.length co, .slice sl N.last.length cl, .slice sf N.fol.length cf, .slice s1 N.first.length c1] 27) := ⟨_, rfl⟩
  have hs0 : w0.heap.size = w.heap.size + 1 := by rw [hw0]; simp
  rw [← hw0] at hba hbx
  have HBA := hidden hba
  have HBX := hidden hbx
  have HW0 := hidden hw0
  have HS0 := hidden hs0
  have HB0 := hidden (Below.refl (w.heap.size + 1) w0)
  have HR := hidden (rright12_calls (h.later hba))
  have HA := hidden (fun W (hb : Below w.heap.size w W) i (hi : i < l.length) => hr.atZ hb i hi)
  have HOF := hidden (fun W (hb : Below w.heap.size w W) i (hi : i < N.of.length) => h.of.atZ hb i hi)
  have HLA := hidden (fun W (hb : Below w.heap.size w W) i (hi : i < N.last.length) => h.last.at hb i hi)
  have HFN := hidden (fun (hR : rightB N = true) => ((rightB_iff N).1 hR).1)
  have HTM := hidden (fun k (hk : k < l.length) => tokV_more N l k hk)
  have HTE := hidden (show tokV N (l.take l.length) = tokV N l by rw [List.take_length])
  have HTZ := hidden (show tokV N (l.take 0) = -1 from rfl)
  have HTK := hidden (show tokenM N l = if rightB N = true then tokV N l else -1 from rfl)
  have HEB := hidden (fun x => (show lasB N x = (decide (0 ≤ x) && (decide (x < (N.sets.length : Int)) && N.last.getD x.toNat false)) from rfl))
  have HTS := hidden (fun t x => (show tokS N t x = if (lasB N x && (decide (t < 0) || decide (N.of.getD x.toNat 0 < t))) = true then N.of.getD x.toNat 0 else t from rfl))
  generalize N.fol.length = nf at *
  generalize N.first.length = n1 at *
  obtain ⟨ns, hns⟩ : ∃ ns, ns = N.sets.length := ⟨_, rfl⟩
  obtain ⟨no, hno⟩ : ∃ no, no = N.of.length := ⟨_, rfl⟩
  obtain ⟨nl, hnl⟩ : ∃ nl, nl = N.last.length := ⟨_, rfl⟩
  obtain ⟨lv, hlv⟩ : ∃ lv, lv = l.length := ⟨_, rfl⟩
  rw [← hns] at HR HBX HW0 HFN HEB ⊢
  rw [← hno] at HR HBX HW0 HFN HOF ⊢
  rw [← hnl] at HR HBX HW0 HFN HLA ⊢
  rw [← hlv] at HA HTM HTE hlen ⊢
  clear h hba hbx hw0 hs0 hr hns hno hnl hlv
  by_cases hR : rightB N = true
  case neg =>
    rw [if_neg hR] at HTK
    rw [show rightB N = false by simpa using hR] at HR
    rw [HTK.out]
    clear hR
    go_enter Tryz.func33, Tryz.ntmps33
    obtain ⟨b0, b1, b2, b3, b4⟩ := HBX.out w0 HB0.out
    rw [HW0.out] at b0 b1 b2 b3 b4 HR
    go_wp2_with fail
    refine HR.out.mono ?_
    rintro e w1 ⟨rfl, hb1⟩
    rw [← HW0.out] at hb1
    have HBW := hidden (below_then HBA.out HBA.out.size hb1)
    go_wp2
    go_ret
    exact ⟨rfl, HBW.out⟩
  rw [if_pos hR] at HTK
  have HFN := hidden (HFN.out hR)
  rw [hR] at HR
  rw [HTK.out]
  clear hR
  go_enter Tryz.func33, Tryz.ntmps33
  obtain ⟨b0, b1, b2, b3, b4⟩ := HBX.out w0 HB0.out
  rw [HW0.out] at b0 b1 b2 b3 b4 HR
  go_wp2_with fail
  refine HR.out.mono ?_
  rintro e w1 ⟨rfl, hb1⟩
  rw [← HW0.out] at hb1
  have HB1 := hidden (show Below (w.heap.size + 1) w0 w1 by rw [← HS0.out]; exact hb1)
  clear hb1 b0 b1 b2 b3 b4
  go_wp2
  go_loopw [5, 6] (fun v i wr => ∃ (k : Nat) (t : Int), k ≤ lv ∧ v = .int .i64 t ∧ Hid (t = tokV N (l.take k)) ∧ i = .int .i64 k ∧ Below (w.heap.size + 1) w0 wr) (fun _ i _ => lv - (intOf i).toNat)
  case atStart => exact ⟨0, -1, by omega, rfl, hidden HTZ.out.symm, rfl, HB1.out⟩
  case round =>
    clear HB1
    obtain ⟨k, t, hk, rfl, HT, rfl, hb3⟩ := hrel
    obtain ⟨wo, rfl⟩ : ∃ wo, wo = wr := ⟨wr, rfl⟩
    have HB := hidden hb3
    have HBW := hidden (show Below w.heap.size w wo from HBA.out.trans (hb3.mono (by omega)))
    have HSZ := hidden (show w.heap.size + 1 ≤ wo.heap.size by have := hb3.size; have := HS0.out; omega)
    obtain ⟨b0, b1, b2, b3, b4⟩ := HBX.out wo HB.out
    have hbl : w.heap.size < wo.heap.size := by have := HSZ.out; omega
    clear hb3
    by_cases hlt : k < lv
    · obtain ⟨ba, oa, rfl, hba, c0⟩ := HA.out wo HBW.out k hlt
      have HK := hidden (HTM.out k hlt)
      have hlt' := hlt
      have hkb : IntKind.i64.wrap ((k : Int) + 1) = (k : Int) + 1 := by rw [IntKind.wrap_i64]; omega
      have hbaw : ba < wo.heap.size := cell_lt c0
      generalize l.getD k 0 = x at *
      have HEX := hidden (HEB.out x)
      have HSX := hidden (HTS.out t x)
      have h0 := fun (p : Later wo) => Later.cell b0 hbl p
      have h1 := fun (p : Later wo) => Later.cell b1 hbl p
      have h2 := fun (p : Later wo) => Later.cell b2 hbl p
      have h3 := fun (p : Later wo) => Later.cell b3 hbl p
      have h4 := fun (p : Later wo) => Later.cell b4 hbl p
      have hc := fun (p : Later wo) => Later.cell c0 hbaw p
      by_cases hx : 0 ≤ x ∧ x < (ns : Int)
      case neg =>
        have hee : lasB N x = false := by
          rw [HEX.out]
          by_cases h0 : 0 ≤ x
          · rw [decide_eq_false (show ¬ x < (ns : Int) by omega)]; simp
          · rw [decide_eq_false h0, Bool.false_and]
        have HT2 := hidden (show t = tokV N (l.take (k + 1)) by rw [HK.out, ← HT.out, HSX.out, hee]; rfl)
        by_cases hx0 : 0 ≤ x
        case' pos =>
          have hd0 : decide (0 ≤ x) = true := decide_eq_true hx0
          have hd1 : decide (x < (ns : Int)) = false := decide_eq_false (by omega)
        case' neg =>
          have hd0 : decide (0 ≤ x) = false := decide_eq_false hx0
        all_goals
          clear hx hx0 hee
          go_wp2
          refine wp_region_later (by kernel_rfl) (by kernel_rfl) ?_
          repeat (go_big_quiet_step (fail))
          refine wpQuiet_nil ?_
          rintro _ ⟨⟨_, hb5⟩, rfl⟩
          rename_i w5
          have HB5 := hidden (below_then HB.out HSZ.out hb5)
          clear hb5 h0 h1 h2 h3 h4 hc b0 b1 b2 b3 b4 c0
          go_wp2
          go_roundw
          case rel => exact ⟨k + 1, t, by omega, rfl, HT2, by go_num, HB5.out⟩
          case measure => simp [intOf]; omega
      case pos =>
        obtain ⟨p, rfl⟩ : ∃ p : Nat, x = p := ⟨x.toNat, by omega⟩
        have hd0 : decide (0 ≤ (p : Int)) = true := decide_eq_true hx.1
        have hd1 : decide ((p : Int) < (ns : Int)) = true := decide_eq_true hx.2
        have hd2 : decide (p < ns) = true := decide_eq_true (by omega)
        have hpo : p < no := by have := HFN.out; omega
        have hpl : p < nl := by have := HFN.out; omega
        have hpoi : (p : Int) < (no : Int) := by omega
        have hpli : (p : Int) < (nl : Int) := by omega
        rw [hd0, hd1, Bool.true_and, Bool.true_and, Int.toNat_natCast] at HEX
        rw [Int.toNat_natCast, HEX.out] at HSX
        obtain ⟨bo, oo, rfl, hbo, e0⟩ := HOF.out wo HBW.out p hpo
        obtain ⟨bl, ol, rfl, hbl2, f0⟩ := HLA.out wo HBW.out p hpl
        have hbow : bo < wo.heap.size := cell_lt e0
        have hblw : bl < wo.heap.size := cell_lt f0
        generalize N.of.getD p 0 = y at *
        generalize N.last.getD p false = lb at *
        have he := fun (p : Later wo) => Later.cell e0 hbow p
        have hf := fun (p : Later wo) => Later.cell f0 hblw p
        clear hx HEX
        have WALK1 : True := trivial
        cases lb
        case false =>
          have HT2 := hidden (show t = tokV N (l.take (k + 1)) by rw [HK.out, ← HT.out, HSX.out]; rfl)
          go_wp2
          refine wp_region_later (by kernel_rfl) (by kernel_rfl) ?_
          repeat (go_big_quiet_step (fail))
          refine wpQuiet_nil ?_
          rintro _ ⟨⟨_, hb5⟩, rfl⟩
          rename_i w5
          have HB5 := hidden (below_then HB.out HSZ.out hb5)
          clear hb5 h0 h1 h2 h3 h4 hc he hf b0 b1 b2 b3 b4 c0 e0 f0
          go_wp2
          go_roundw
          case rel => exact ⟨k + 1, t, by omega, rfl, HT2, by go_num, HB5.out⟩
          case measure => simp [intOf]; omega
        case true =>
          rw [Bool.true_and] at HSX
          by_cases htt : t < 0 ∨ y < t
          case neg =>
            have g0 : decide (t < 0) = false := decide_eq_false (by omega)
            have g1 : decide (y < t) = false := decide_eq_false (by omega)
            have HT2 := hidden (show t = tokV N (l.take (k + 1)) by rw [HK.out, ← HT.out, HSX.out, g0, g1]; rfl)
            clear htt
            go_wp2
            refine wp_region_later (by kernel_rfl) (by kernel_rfl) ?_
            repeat (go_big_quiet_step (fail))
            refine wpQuiet_nil ?_
            rintro _ ⟨⟨_, hb5⟩, rfl⟩
            rename_i w5
            have HB5 := hidden (below_then HB.out HSZ.out hb5)
            clear hb5 h0 h1 h2 h3 h4 hc he hf b0 b1 b2 b3 b4 c0 e0 f0
            go_wp2
            go_roundw
            case rel => exact ⟨k + 1, t, by omega, rfl, HT2, by go_num, HB5.out⟩
            case measure => simp [intOf]; omega
          case pos =>
            have HT2 := hidden (show y = tokV N (l.take (k + 1)) by
              rw [HK.out, ← HT.out, HSX.out, if_pos (by simpa using htt)])
            by_cases ht0 : t < 0
            case' pos => have g0 : decide (t < 0) = true := decide_eq_true ht0
            case' neg =>
              have g0 : decide (t < 0) = false := decide_eq_false ht0
              have g1 : decide (y < t) = true := decide_eq_true (by omega)
            all_goals
              clear htt ht0
              go_wp2
              refine wp_region_later (by kernel_rfl) (by kernel_rfl) ?_
              repeat (go_big_quiet_step (fail))
              refine wpQuiet_nil ?_
              rintro _ ⟨⟨_, hb5⟩, rfl⟩
              rename_i w5
              have HB5 := hidden (below_then HB.out HSZ.out hb5)
              have c5 := (hb5.cell (p := ⟨ba, oa + k, none⟩) hbaw).trans c0
              have e5 := (hb5.cell (p := ⟨bo, oo + p, none⟩) hbow).trans e0
              have hs5 := hb5.size
              clear hb5 h0 h1 h2 h3 h4 hc he hf b0 b1 b2 b3 b4 c0 e0 f0
              obtain ⟨b0, b1, b2, b3, b4⟩ := HBX.out w5 HB5.out
              have hbl5 : w.heap.size < w5.heap.size := by omega
              have h0 := fun (p : Later w5) => Later.cell b0 hbl5 p
              have h1 := fun (p : Later w5) => Later.cell b1 hbl5 p
              have h2 := fun (p : Later w5) => Later.cell b2 hbl5 p
              have h3 := fun (p : Later w5) => Later.cell b3 hbl5 p
              have h4 := fun (p : Later w5) => Later.cell b4 hbl5 p
              have hc := fun (p : Later w5) => Later.cell c5 (show ba < w5.heap.size by omega) p
              have he := fun (p : Later w5) => Later.cell e5 (show bo < w5.heap.size by omega) p
              have HS5 := hidden (show w.heap.size + 1 ≤ w5.heap.size by omega)
              go_wp2
              refine wp_region_later (by kernel_rfl) (by kernel_rfl) ?_
              repeat (go_big_quiet_step (fail))
              refine wpQuiet_nil ?_
              rintro _ ⟨⟨_, hb6⟩, rfl⟩
              rename_i w6
              have HB6 := hidden (below_then HB5.out HS5.out hb6)
              clear hb6 h0 h1 h2 h3 h4 hc he b0 b1 b2 b3 b4 c5 e5
              go_wp2
              go_roundw
              case rel => exact ⟨k + 1, y, by omega, rfl, HT2, by go_num, HB6.out⟩
              case measure => simp [intOf]; omega
    · obtain rfl : k = lv := by omega
      have hdk : decide ((k : Int) < (k : Int)) = false := by simp
      have HF := hidden (HT.out.trans HTE.out)
      go_wp2
      go_ret
      exact ⟨ret_i HF.out, HBW.out⟩
set_option maxHeartbeats 8000000 in
set_option maxRecDepth 100000 in
theorem Token_calls {w : World} {v vs vo vl vf v1 : Value} {N : NetM} {l : List Int} (h : RdNet w.heap.size w vs vo vl vf v1 N) (hn : N.sets.length ≤ 100000) (hr : RdZ w.heap.size w v l) :
    Calls Tryz.prog 56 #[.agg #[vs, vo, vl, vf, v1], v] w fun e w' => e = .returned (.int .i64 (tokenM N l)) ∧ Below w.heap.size w w' := by
  obtain ⟨sa, cs, rfl⟩ := h.sets.form
  obtain ⟨so, co, rfl⟩ := h.of.form
  obtain ⟨sl, cl, rfl⟩ := h.last.form
  obtain ⟨sf, cf, rfl⟩ := h.fol.form
  obtain ⟨s1, c1, rfl⟩ := h.first.form
  obtain ⟨av, cv, rfl⟩ := hr.form
  have hba := (Below.refl w.heap.size w).alloc (Nat.le_refl _) (.cells #[.slice sa N.sets.length cs, .slice so N.of.length co, .slice sl N.last.length cl, .slice sf N.fol.length cf, .slice s1 N.first.length c1] 27)
  have hbx := net_box w (.slice sa N.sets.length cs) (.slice so N.of.length co) (.slice sl N.last.length cl) (.slice sf N.fol.length cf) (.slice s1 N.first.length c1) 27
  obtain ⟨w0, hw0⟩ : ∃ w0, w0 = w.alloc (.cells #[.slice sa N.sets.length cs, .slice so N.of.length co, .slice sl N.last.length cl, .slice sf N.fol.length cf, .slice s1 N.first.length c1] 27) := ⟨_, rfl⟩
  have hs0 : w0.heap.size = w.heap.size + 1 := by rw [hw0]; simp
  rw [← hw0] at hba hbx
  have HBA := hidden hba
  have HBX := hidden hbx
  have HW0 := hidden hw0
  have HS0 := hidden hs0
  have HB0 := hidden (Below.refl (w.heap.size + 1) w0)
  have HR := hidden (right12_calls (h.later hba))
  have HJ := hidden (fun W (hb2 : Below w.heap.size w W) g (hg : g = W.heap.size) => joined_calls (w := W.alloc (.cells #[.slice av l.length cv] 23)) (n := N.sets.length) (one_zz (hr.later hb2) g hg) hn)
  have HOF := hidden (fun W (hb : Below w.heap.size w W) i (hi : i < N.of.length) => h.of.atZ hb i hi)
  have HLA := hidden (fun W (hb : Below w.heap.size w W) i (hi : i < N.last.length) => h.last.at hb i hi)
  have HFN := hidden (fun (hR : rightB N = true) => ((rightB_iff N).1 hR).1)
  have HTJ := hidden (fun (hR : rightB N = true) => tok_joined hR l)
  have HTK := hidden (show tokenM N l = if rightB N = true then tokV N l else -1 from rfl)
  have HTR := hidden (fun (hR : rightB N = true) (l : List Int) => (show tokV N l = -1 ∨ 0 ≤ tokV N l from by
    rcases tok_is hR l with h | h
    · exact .inl h.1
    · exact .inr h.1))
  obtain ⟨J, hJ⟩ : ∃ J, J = hits (anyB [l]) N.sets.length := ⟨_, rfl⟩
  rw [← hJ] at HJ HTJ
  have HJB := hidden (fun i (hi : i < J.length) => (show J.getD i 0 < N.sets.length from by
    have h1 : J.getD i 0 ∈ J := by rw [List.getD_eq_getElem?_getD, List.getElem?_eq_getElem hi]; exact List.getElem_mem _
    rw [hJ] at h1
    have := ((hits_mem _ _ _).1 h1).1
    rwa [← hJ] at this))
  have HJL := hidden (show J.length ≤ 100000 by rw [hJ]; exact Nat.le_trans (hits_len _ _) hn)
  have HTM := hidden (fun k (hk : k < J.length) => (show tokV N ((spI J).take (k + 1)) = tokS N (tokV N ((spI J).take k)) ((J.getD k 0 : Nat) : Int) from by
    have := tokV_more N (spI J) k (by rw [spI_len]; exact hk)
    rwa [spI_getDJ] at this))
  have HTE := hidden (show tokV N ((spI J).take J.length) = tokV N (spI J) by rw [List.take_of_length_le (by rw [spI_len]; exact Nat.le_refl _)])
  have HTZ := hidden (show tokV N ((spI J).take 0) = -1 from rfl)
  have HSX := hidden (fun (t : Int) (p : Nat) (hp : p < N.sets.length) => (show tokS N t (p : Int) = if (N.last.getD p false && (decide (t < 0) || decide (N.of.getD p 0 < t))) = true then N.of.getD p 0 else t from by
    unfold tokS lasB
    rw [decide_eq_true (show (0 : Int) ≤ (p : Int) by omega), decide_eq_true (show (p : Int) < (N.sets.length : Int) by omega), Bool.true_and, Bool.true_and, Int.toNat_natCast]))
  generalize N.fol.length = nf at *
  generalize N.first.length = n1 at *
  obtain ⟨ns, hns⟩ : ∃ ns, ns = N.sets.length := ⟨_, rfl⟩
  obtain ⟨no, hno⟩ : ∃ no, no = N.of.length := ⟨_, rfl⟩
  obtain ⟨nl, hnl⟩ : ∃ nl, nl = N.last.length := ⟨_, rfl⟩
  obtain ⟨lv, hlv⟩ : ∃ lv, lv = l.length := ⟨_, rfl⟩
  obtain ⟨nj, hnj⟩ : ∃ nj, nj = J.length := ⟨_, rfl⟩
  rw [← hns] at HR HBX HW0 HFN HJ HJB HSX ⊢
  rw [← hno] at HR HBX HW0 HFN HOF ⊢
  rw [← hnl] at HR HBX HW0 HFN HLA ⊢
  rw [← hlv] at HJ ⊢
  rw [← hnj] at HJB HJL HTM HTE
  have HNJ := hidden hnj.symm
  clear h hba hbx hw0 hs0 hr hns hno hnl hlv hJ hnj hn
  by_cases hR : rightB N = true
  case neg =>
    rw [if_neg hR] at HTK
    rw [show rightB N = false by simpa using hR] at HR
    rw [HTK.out]
    clear hR
    go_enter Tryz.func56, Tryz.ntmps56
    obtain ⟨b0, b1, b2, b3, b4⟩ := HBX.out w0 HB0.out
    rw [HW0.out] at b0 b1 b2 b3 b4 HR
    go_wp2_with fail
    refine HR.out.mono ?_
    rintro e w1 ⟨rfl, hb1⟩
    rw [← HW0.out] at hb1
    have HBW := hidden (below_then HBA.out HBA.out.size hb1)
    go_wp2
    go_ret
    exact ⟨rfl, HBW.out⟩
  rw [if_pos hR] at HTK
  have HFN := hidden (HFN.out hR)
  have HTR := hidden (HTR.out hR)
  have HTJ := hidden (HTJ.out hR)
  rw [hR] at HR
  rw [HTK.out]
  clear hR
  go_enter Tryz.func56, Tryz.ntmps56
  obtain ⟨b0, b1, b2, b3, b4⟩ := HBX.out w0 HB0.out
  rw [HW0.out] at b0 b1 b2 b3 b4 HR
  go_wp2_with fail
  refine HR.out.mono ?_
  rintro e w1 ⟨rfl, hb1⟩
  rw [← HW0.out] at hb1
  have HB1 := hidden (show Below (w.heap.size + 1) w0 w1 by rw [← HS0.out]; exact hb1)
  have HBW1 := hidden (below_then HBA.out HBA.out.size hb1)
  have HSZ1 := hidden (show w.heap.size + 1 ≤ w1.heap.size by have := HB1.out.size; have := HS0.out; omega)
  clear hb1 b0 b1 b2 b3 b4
  obtain ⟨b0, b1, b2, b3, b4⟩ := HBX.out w1 HB1.out
  go_wp2_with fail
  refine (HJ.out w1 HBW1.out _ rfl).mono ?_
  rintro e w2 ⟨u, rfl, hr2, hb2⟩
  have HR2 := hidden hr2.reads
  have HB21 := hidden (below_then ((Below.refl w1.heap.size w1).alloc (Nat.le_refl _) _) (by simp) hb2)
  have HB2 := hidden (below_then HB1.out HSZ1.out HB21.out)
  obtain ⟨a2, c2, rfl⟩ := hr2.form
  have HJC := hidden (fun W (hb : Below w2.heap.size w2 W) k (hk : k < nj) => (show ∃ g o, a2 = some ⟨g, o, none⟩ ∧ W.cell? ⟨g, o + k, none⟩ = some (.int .i64 ((J.getD k 0 : Nat) : Int)) from by
    obtain ⟨g, o, e1, e2, e3⟩ := HR2.out.atZ hb k (by rw [spI_len, HNJ.out]; exact hk)
    rw [spI_getDJ] at e3
    exact ⟨g, o, e1, e3⟩))
  have hsj : (spI J).length = nj := by rw [spI_len, HNJ.out]
  rw [hsj]
  have HS2 := hidden (show w.heap.size + 1 ≤ w2.heap.size by have := HSZ1.out; have := HB21.out.size; omega)
  clear hr2 hb2 hsj b0 b1 b2 b3 b4
  go_wp2
  go_loopw [5, 18] (fun v i wr => ∃ (k : Nat) (t : Int), k ≤ nj ∧ v = .int .i64 t ∧ Hid (t = tokV N ((spI J).take k)) ∧ i = .int .i64 k ∧ Below w2.heap.size w2 wr) (fun _ i _ => nj - (intOf i).toNat)
  case atStart => exact ⟨0, -1, by omega, rfl, hidden HTZ.out.symm, rfl, Below.refl _ _⟩
  case round =>
    obtain ⟨k, t, hk, rfl, HT, rfl, hb3⟩ := hrel
    obtain ⟨wo, rfl⟩ : ∃ wo, wo = wr := ⟨wr, rfl⟩
    have HB := hidden hb3
    have HBB := hidden (below_then HB2.out HS2.out hb3)
    have HBW := hidden (show Below w.heap.size w wo from HBA.out.trans (HBB.out.mono (by omega)))
    obtain ⟨b0, b1, b2, b3, b4⟩ := HBX.out wo HBB.out
    clear hb3
    by_cases hlt : k < nj
    · obtain ⟨g, og, rfl, c0⟩ := HJC.out wo HB.out k hlt
      have hpn := HJB.out k (by rw [← HNJ.out] at hlt; rw [HNJ.out] at hlt; exact hlt)
      have HK := hidden (HTM.out k hlt)
      have hlt' := hlt
      have hkb : IntKind.i64.wrap ((k : Int) + 1) = (k : Int) + 1 := by rw [IntKind.wrap_i64]; have := HJL.out; omega
      have htr := HTR.out ((spI J).take k)
      rw [← HT.out] at htr
      generalize J.getD k 0 = p at *
      have HSP := hidden (HSX.out t p hpn)
      have hpo : p < no := by have := HFN.out; omega
      have hpl : p < nl := by have := HFN.out; omega
      have hpoi : (p : Int) < (no : Int) := by omega
      have hpli : (p : Int) < (nl : Int) := by omega
      obtain ⟨bo, oo, rfl, hbo, e0⟩ := HOF.out wo HBW.out p hpo
      obtain ⟨bl, ol, rfl, hbl2, f0⟩ := HLA.out wo HBW.out p hpl
      generalize N.of.getD p 0 = y at *
      generalize N.last.getD p false = lb at *
      cases lb
      case false =>
        have HT2 := hidden (show t = tokV N ((spI J).take (k + 1)) by rw [HK.out, ← HT.out, HSP.out]; rfl)
        clear htr
        go_wp2
        go_roundw
        case rel => exact ⟨k + 1, t, by omega, rfl, HT2, by go_num, HB.out⟩
        case measure => simp [intOf]; omega
      case true =>
        rw [Bool.true_and] at HSP
        by_cases ht0 : t = -1
        · subst ht0
          have HT2 := hidden (show y = tokV N ((spI J).take (k + 1)) by rw [HK.out, ← HT.out, HSP.out, if_pos (by simp)])
          clear htr
          go_wp2
          go_roundw
          case rel => exact ⟨k + 1, y, by omega, rfl, HT2, by go_num, HB.out⟩
          case measure => simp [intOf]; omega
        · have hq : (t == -1) = false := by rw [beq_eq_false_iff_ne]; exact ht0
          have hd0 : decide (t < 0) = false := decide_eq_false (by omega)
          rw [hd0, Bool.false_or] at HSP
          by_cases hyt : y < t
          · have hd1 : decide (y < t) = true := decide_eq_true hyt
            have HT2 := hidden (show y = tokV N ((spI J).take (k + 1)) by rw [HK.out, ← HT.out, HSP.out, hd1, if_pos rfl])
            clear htr ht0 hyt hd0
            go_wp2
            go_roundw
            case rel => exact ⟨k + 1, y, by omega, rfl, HT2, by go_num, HB.out⟩
            case measure => simp [intOf]; omega
          · have hd1 : decide (y < t) = false := decide_eq_false hyt
            have HT2 := hidden (show t = tokV N ((spI J).take (k + 1)) by rw [HK.out, ← HT.out, HSP.out, hd1, if_neg (by decide)])
            clear htr ht0 hyt hd0
            go_wp2
            go_roundw
            case rel => exact ⟨k + 1, t, by omega, rfl, HT2, by go_num, HB.out⟩
            case measure => simp [intOf]; omega
    · obtain rfl : k = nj := by omega
      have hdk : decide ((k : Int) < (k : Int)) = false := by simp
      have HF := hidden (HT.out.trans (HTE.out.trans HTJ.out))
      go_wp2
      go_ret
      exact ⟨ret_i HF.out, HBW.out⟩
end Go.Proofs.YtmpjjnjggihojaaGreatDoor

/- Which place of a word leads to which, as tables: the reference's way, and the words that are matched. Of no program. -/
namespace Go.Proofs.YtmpjjnjggihojaaGreatDoor

def mBoth (A B : Nat → Nat → Bool) (p q : Nat) : Bool := A p q || B p q
def mBehind (N : Nat) (A B : Nat → Nat → Bool) (p q : Nat) : Bool := (List.range N).any fun k => decide (p ≤ k) && (decide (k ≤ q) && (A p k && B k q))
def mSame (p q : Nat) : Bool := decide (p = q)
def mSet (f : Nat → Bool) (W : List Nat) (p q : Nat) : Bool := decide (p < W.length) && (decide (q = p + 1) && f (W.getD p 0))
def mAgain (N : Nat) (A : Nat → Nat → Bool) : Nat → Nat → Nat → Bool
  | 0 => A
  | t + 1 => mBoth (mAgain N A t) (mBehind N (mAgain N A t) (mAgain N A t))
/-- the same at all places of a word -/
def Alike (N : Nat) (A B : Nat → Nat → Bool) : Prop := ∀ p q, p < N → q < N → A p q = B p q
theorem Alike.refl (N : Nat) (A : Nat → Nat → Bool) : Alike N A A := fun _ _ _ _ => rfl
theorem Alike.trans {N : Nat} {A B C : Nat → Nat → Bool} (h : Alike N A B) (k : Alike N B C) : Alike N A C := fun p q hp hq => (h p q hp hq).trans (k p q hp hq)
theorem Alike.both {N : Nat} {A B A' B' : Nat → Nat → Bool} (h : Alike N A A') (k : Alike N B B') : Alike N (mBoth A B) (mBoth A' B') := fun p q hp hq => by
  simp only [mBoth, h p q hp hq, k p q hp hq]
theorem any_congr {α : Type} {l : List α} {f g : α → Bool} (h : ∀ x ∈ l, f x = g x) : l.any f = l.any g := by
  induction l with
  | nil => rfl
  | cons x r ih => rw [List.any_cons, List.any_cons, h x (by simp), ih fun y hy => h y (by simp [hy])]
theorem Alike.behind {N : Nat} {A B A' B' : Nat → Nat → Bool} (h : Alike N A A') (k : Alike N B B') : Alike N (mBehind N A B) (mBehind N A' B') := fun p q hp hq => by
  unfold mBehind
  refine any_congr fun x hx => ?_
  have hx' := List.mem_range.1 hx
  rw [h p x hp hx', k x q hx' hq]
theorem Alike.again {N : Nat} {A A' : Nat → Nat → Bool} (h : Alike N A A') : ∀ t, Alike N (mAgain N A t) (mAgain N A' t)
  | 0 => h
  | t + 1 => ((Alike.again h t).both ((Alike.again h t).behind (Alike.again h t)))

theorem sub_len {W : List Nat} {p q : Nat} (h : q ≤ W.length) : (sub W p q).length = q - p := by
  unfold sub
  simp
  omega
theorem sub_split {W : List Nat} {p k q : Nat} (h1 : p ≤ k) (h2 : k ≤ q) : sub W p q = sub W p k ++ sub W k q := by
  unfold sub
  have e : W.take q = W.take k ++ (W.take q).drop k := by
    have := (List.take_append_drop k (W.take q)).symm
    rwa [List.take_take, Nat.min_eq_left h2] at this
  rcases Nat.lt_or_ge W.length k with h | h
  · have e2 : (W.take q).drop k = [] := by
      rw [List.drop_eq_nil_iff]
      simp
      omega
    rw [e2, List.append_nil, List.take_of_length_le (by omega : W.length ≤ q), List.take_of_length_le (by omega : W.length ≤ k)]
  · conv => lhs; rw [e]
    rw [List.drop_append_of_le_length (by simp; omega)]
theorem sub_parts {W : List Nat} {p q : Nat} (hp : p ≤ q) (hq : q ≤ W.length) {x y : List Nat} (h : sub W p q = x ++ y) : p + x.length ≤ q ∧ x = sub W p (p + x.length) ∧ y = sub W (p + x.length) q := by
  have hl := congrArg List.length h
  rw [sub_len hq, List.length_append] at hl
  have h1 : p + x.length ≤ q := by omega
  have h2 := sub_split (W := W) (p := p) (k := p + x.length) (q := q) (by omega) h1
  rw [h] at h2
  have h3 := List.append_inj h2 (by rw [sub_len (by omega)]; omega)
  exact ⟨h1, h3.1, h3.2⟩
theorem sub_one {W : List Nat} {p : Nat} (h : p < W.length) : sub W p (p + 1) = [W.getD p 0] := by
  have e := sub_more W p 0
  rw [Nat.add_zero] at e
  rw [e, List.drop_eq_getElem_cons h, List.getD_eq_getElem?_getD, List.getElem?_eq_getElem h]
  rfl

theorem mat_set (f : Nat → Bool) {W : List Nat} (hW : ∀ c ∈ W, c < 256) : Alike (W.length + 1) (mSet f W) (lgB (.set f) W) := fun p q hp hq => by
  rw [Bool.eq_iff_iff, lgB_iff]
  simp only [mSet, Bool.and_eq_true, decide_eq_true_eq]
  constructor
  · rintro ⟨h1, rfl, h3⟩
    refine ⟨by omega, by omega, W.getD p 0, sub_one h1, hW _ ?_, h3⟩
    rw [List.getD_eq_getElem?_getD, List.getElem?_eq_getElem h1]
    exact List.getElem_mem h1
  · rintro ⟨h1, h2, c, h3, _, h5⟩
    have hl := congrArg List.length h3
    rw [sub_len h2] at hl
    simp only [List.length_cons, List.length_nil] at hl
    obtain rfl : q = p + 1 := by omega
    rw [sub_one (by omega)] at h3
    cases h3
    exact ⟨by omega, rfl, h5⟩
theorem mat_emp (W : List Nat) : Alike (W.length + 1) mSame (lgB .emp W) := fun p q hp hq => by
  rw [Bool.eq_iff_iff, lgB_iff]
  simp only [mSame, decide_eq_true_eq, Lang]
  constructor
  · rintro rfl
    exact ⟨Nat.le_refl _, by omega, sub_self W p⟩
  · rintro ⟨h1, h2, h3⟩
    have hl := congrArg List.length h3
    rw [sub_len h2] at hl
    simp only [List.length_nil] at hl
    omega
theorem mat_cat (a b : Ex) (W : List Nat) : Alike (W.length + 1) (mBehind (W.length + 1) (lgB a W) (lgB b W)) (lgB (.cat a b) W) := fun p q hp hq => by
  rw [Bool.eq_iff_iff, lgB_iff]
  simp only [mBehind, List.any_eq_true, List.mem_range, Bool.and_eq_true, decide_eq_true_eq, lgB_iff, Lang]
  constructor
  · rintro ⟨k, hk, h1, h2, ⟨_, h4, h5⟩, _, h7, h8⟩
    exact ⟨by omega, h7, _, _, sub_split h1 h2, h5, h8⟩
  · rintro ⟨h1, h2, x, y, h3, h4, h5⟩
    obtain ⟨g1, g2, g3⟩ := sub_parts h1 h2 h3
    rw [g2] at h4
    rw [g3] at h5
    exact ⟨p + x.length, by omega, by omega, g1, ⟨by omega, by omega, h4⟩, g1, h2, h5⟩
theorem mat_alt (a b : Ex) (W : List Nat) : Alike (W.length + 1) (mBoth (lgB a W) (lgB b W)) (lgB (.alt a b) W) := fun p q hp hq => by
  rw [Bool.eq_iff_iff, lgB_iff]
  simp only [mBoth, Bool.or_eq_true, lgB_iff, Lang]
  constructor
  · rintro (⟨h1, h2, h3⟩ | ⟨h1, h2, h3⟩)
    · exact ⟨h1, h2, .inl h3⟩
    · exact ⟨h1, h2, .inr h3⟩
  · rintro ⟨h1, h2, h3 | h3⟩
    · exact .inl ⟨h1, h2, h3⟩
    · exact .inr ⟨h1, h2, h3⟩
/-- put together of some of the words -/
theorem many_words {P : List Nat → Prop} {u : List Nat} (h : Many P u) : ∃ ws : List (List Nat), 1 ≤ ws.length ∧ (∀ w ∈ ws, P w) ∧ u = ws.flatten := by
  induction h with
  | @one u h => exact ⟨[u], by simp, by simpa using h, by simp⟩
  | @more u v h t ih =>
    obtain ⟨ws, h1, h2, rfl⟩ := ih
    exact ⟨u :: ws, by simp, by simpa using ⟨h, h2⟩, by simp⟩
/-- no more words than bytes, but for one -/
theorem few_words {P : List Nat → Prop} {u : List Nat} (h : Many P u) : ∃ ws : List (List Nat), 1 ≤ ws.length ∧ ws.length ≤ u.length + 1 ∧ (∀ w ∈ ws, P w) ∧ u = ws.flatten := by
  obtain ⟨ws, h1, h2, h3⟩ := many_words h
  by_cases hu : u = []
  · subst hu
    cases ws with
    | nil => simp at h1
    | cons w r =>
      have hw : w = [] := by
        rw [List.flatten_cons] at h3
        exact (List.append_eq_nil_iff.1 h3.symm).1
      exact ⟨[w], by simp, by simp, by simpa using h2 w (by simp), by simp [hw]⟩
  · have key : ∀ l : List (List Nat), (∀ w ∈ l, P w) → ∃ l' : List (List Nat), l'.length ≤ l.flatten.length ∧ (∀ w ∈ l', P w) ∧ l'.flatten = l.flatten := by
      intro l
      induction l with
      | nil => exact fun _ => ⟨[], by simp, by simp, rfl⟩
      | cons w r ih =>
        intro hl
        obtain ⟨l', g1, g2, g3⟩ := ih fun x hx => hl x (by simp [hx])
        by_cases hw : w = []
        · subst hw
          exact ⟨l', by simpa using g1, g2, by simpa using g3⟩
        · refine ⟨w :: l', ?_, ?_, by simp [g3]⟩
          · have : 1 ≤ w.length := by cases w <;> simp_all
            simp only [List.length_cons, List.flatten_cons, List.length_append]
            omega
          · intro x hx
            rcases List.mem_cons.1 hx with rfl | hx
            · exact hl x (by simp)
            · exact g2 x hx
    obtain ⟨l', g1, g2, g3⟩ := key ws h2
    rw [← h3] at g1 g3
    refine ⟨l', ?_, by omega, g2, g3.symm⟩
    cases l' with
    | nil =>
      simp at g3
      exact absurd g3.symm (by simpa using hu)
    | cons => simp
theorem many_append {P : List Nat → Prop} {u v : List Nat} (h : Many P u) (k : Many P v) : Many P (u ++ v) := by
  induction h with
  | one h => exact .more h k
  | more h t ih => rw [List.append_assoc]; exact .more h ih
theorem again_sound {a : Ex} {W : List Nat} : ∀ t p q, p < W.length + 1 → q < W.length + 1 → mAgain (W.length + 1) (lgB a W) t p q = true → p ≤ q ∧ Many (Lang a) (sub W p q)
  | 0, p, q, _, _, h => by
    obtain ⟨h1, _, h3⟩ := lgB_iff.1 h
    exact ⟨h1, .one h3⟩
  | t + 1, p, q, hp, hq, h => by
    simp only [mAgain, mBoth, Bool.or_eq_true] at h
    rcases h with h | h
    · exact again_sound t p q hp hq h
    · simp only [mBehind, List.any_eq_true, List.mem_range, Bool.and_eq_true, decide_eq_true_eq] at h
      obtain ⟨k, hk, h1, h2, h3, h4⟩ := h
      rw [sub_split h1 h2]
      exact ⟨by omega, many_append (again_sound t p k hp hk h3).2 (again_sound t k q hk hq h4).2⟩
theorem again_full {a : Ex} {W : List Nat} : ∀ t p q, p ≤ q → q < W.length + 1 → ∀ ws : List (List Nat), 1 ≤ ws.length → ws.length ≤ 2 ^ t → (∀ w ∈ ws, Lang a w) → sub W p q = ws.flatten → mAgain (W.length + 1) (lgB a W) t p q = true
  | 0, p, q, hp, hq, ws, h1, h2, h3, h4 => by
    match ws, h1, h2 with
    | [w], _, _ =>
      simp only [List.flatten_cons, List.flatten_nil, List.append_nil] at h4
      exact lgB_iff.2 ⟨hp, by omega, by rw [h4]; exact h3 w (by simp)⟩
    | _ :: _ :: _, _, h2 => simp at h2
  | t + 1, p, q, hp, hq, ws, h1, h2, h3, h4 => by
    simp only [mAgain, mBoth, Bool.or_eq_true]
    by_cases hs : ws.length ≤ 2 ^ t
    · exact .inl (again_full t p q hp hq ws h1 hs h3 h4)
    · refine .inr ?_
      have hpow : 2 ^ (t + 1) = 2 * 2 ^ t := by rw [Nat.pow_succ]; omega
      have hpos : 1 ≤ 2 ^ t := Nat.one_le_two_pow
      have e : ws = ws.take (2 ^ t) ++ ws.drop (2 ^ t) := (List.take_append_drop _ _).symm
      rw [e, List.flatten_append] at h4
      obtain ⟨g1, g2, g3⟩ := sub_parts hp (by omega) h4
      simp only [mBehind, List.any_eq_true, List.mem_range, Bool.and_eq_true, decide_eq_true_eq]
      refine ⟨p + (ws.take (2 ^ t)).flatten.length, by omega, by omega, g1, ?_, ?_⟩
      · exact again_full t _ _ (by omega) (by omega) (ws.take (2 ^ t)) (by simp; omega) (by simp; omega) (fun w hw => h3 w (List.mem_of_mem_take hw)) g2.symm
      · exact again_full t _ _ g1 hq (ws.drop (2 ^ t)) (by simp; omega) (by simp; omega) (fun w hw => h3 w (List.mem_of_mem_drop hw)) g3.symm
theorem again_iff {a : Ex} {W : List Nat} {t : Nat} (ht : W.length + 1 < 2 ^ t) {p q : Nat} (hp : p < W.length + 1) (hq : q < W.length + 1) : mAgain (W.length + 1) (lgB a W) t p q = true ↔ p ≤ q ∧ Many (Lang a) (sub W p q) := by
  refine ⟨again_sound t p q hp hq, fun ⟨h1, h2⟩ => ?_⟩
  obtain ⟨ws, g1, g2, g3, g4⟩ := few_words h2
  rw [sub_len (by omega)] at g2
  exact again_full t p q h1 hq ws g1 (by omega) g3 g4
theorem mat_plus (a : Ex) {W : List Nat} {t : Nat} (ht : W.length + 1 < 2 ^ t) : Alike (W.length + 1) (mAgain (W.length + 1) (lgB a W) t) (lgB (.un 6 a) W) := fun p q hp hq => by
  rw [Bool.eq_iff_iff, again_iff ht hp hq, lgB_iff]
  simp only [Lang, Int.reduceEq, if_false, if_true]
  exact ⟨fun h => ⟨h.1, by omega, h.2⟩, fun h => ⟨h.1, h.2.2⟩⟩
theorem mat_star (a : Ex) {W : List Nat} {t : Nat} (ht : W.length + 1 < 2 ^ t) : Alike (W.length + 1) (mBoth mSame (mAgain (W.length + 1) (lgB a W) t)) (lgB (.un 5 a) W) := fun p q hp hq => by
  rw [Bool.eq_iff_iff, lgB_iff]
  simp only [mBoth, Bool.or_eq_true, again_iff ht hp hq, mSame, decide_eq_true_eq, Lang, if_true]
  constructor
  · rintro (rfl | ⟨h1, h2⟩)
    · exact ⟨Nat.le_refl _, by omega, .inl (sub_self W p)⟩
    · exact ⟨h1, by omega, .inr h2⟩
  · rintro ⟨h1, h2, h3 | h3⟩
    · have hl := congrArg List.length h3
      rw [sub_len h2] at hl
      simp only [List.length_nil] at hl
      exact .inl (by omega)
    · exact .inr ⟨h1, h3⟩
theorem mat_opt (a : Ex) (W : List Nat) : Alike (W.length + 1) (mBoth mSame (lgB a W)) (lgB (.un 7 a) W) := fun p q hp hq => by
  rw [Bool.eq_iff_iff, lgB_iff]
  simp only [mBoth, Bool.or_eq_true, lgB_iff, mSame, decide_eq_true_eq, Lang, Int.reduceEq, if_false]
  constructor
  · rintro (rfl | ⟨h1, h2, h3⟩)
    · exact ⟨Nat.le_refl _, by omega, .inl (sub_self W p)⟩
    · exact ⟨h1, h2, .inr h3⟩
  · rintro ⟨h1, h2, h3 | h3⟩
    · have hl := congrArg List.length h3
      rw [sub_len h2] at hl
      simp only [List.length_nil] at hl
      exact .inl (by omega)
    · exact .inr ⟨h1, h2, h3⟩
end Go.Proofs.YtmpjjnjggihojaaGreatDoor

/- The reference's tables in memory: what a table reads as, a table of the call's own; none, same, set, both. -/
namespace Go.Proofs.YtmpjjnjggihojaaGreatDoor
open Go.RowKit Go.Lib Go.Joins

/-- block b has cells of a type -/
def Typ (w : World) (b : Nat) (t : TypeId) : Prop := ∃ cs fz, w.heap[b]? = some (.cells cs t fz)
theorem Typ.below {w w' : World} {b : Nat} {t : TypeId} (h : Typ w b t) (hb : Below w.heap.size w w') : Typ w' b t := by
  obtain ⟨cs, fz, h⟩ := h
  exact ⟨cs, fz, (hb.block b (Array.getElem?_eq_some_iff.1 h).1).trans h⟩
/-- slice value v reads as a table -/
def MatR (w : World) (v : Value) (N : Nat) (M : Nat → Nat → Bool) : Prop :=
  ∃ b off cap, v = .slice (some ⟨b, off, none⟩) N cap ∧ ∀ p, p < N → ∃ c o cp, w.cell? ⟨b, off + p, none⟩ = some (.slice (some ⟨c, o, none⟩) N cp) ∧ (∀ q, q < N → w.cell? ⟨c, o + q, none⟩ = some (.bool (M p q))) ∧ Typ w c 4
theorem MatR.below {w w' : World} {v : Value} {N : Nat} {M : Nat → Nat → Bool} (h : MatR w v N M) (hb : Below w.heap.size w w') : MatR w' v N M := by
  obtain ⟨b, off, cap, rfl, hc⟩ := h
  refine ⟨b, off, cap, rfl, fun p hp => ?_⟩
  obtain ⟨c, o, cp, h1, h2, h3⟩ := hc p hp
  exact ⟨c, o, cp, (hb.cell (p := ⟨b, off + p, none⟩) (cell_lt h1)).trans h1, fun q hq => (hb.cell (p := ⟨c, o + q, none⟩) (cell_lt (h2 q hq))).trans (h2 q hq), h3.below hb⟩
theorem MatR.congr {w : World} {v : Value} {N : Nat} {M M' : Nat → Nat → Bool} (h : MatR w v N M) (e : Alike N M M') : MatR w v N M' := by
  obtain ⟨b, off, cap, rfl, hc⟩ := h
  refine ⟨b, off, cap, rfl, fun p hp => ?_⟩
  obtain ⟨c, o, cp, h1, h2, h3⟩ := hc p hp
  exact ⟨c, o, cp, h1, fun q hq => by rw [h2 q hq, e p q hp hq], h3⟩
theorem grownBy_set (w : World) (b q : Nat) (v : Value) : w.grownBy (w.setCell ⟨b, q, none⟩ v) (some b) :=
  ⟨rfl, rfl, rfl, by simp [World.setCell], fun k _ hk => heap_setCell_other _ _ _ _ fun e => hk (by rw [e])⟩
def rowV (N c : Nat) : Value := .slice (some ⟨c, 0, none⟩) N N
/-- a table of the call's own, that may be written -/
structure TabW (w : World) (base g cap : Nat) (rs : List Nat) (N : Nat) (M : Nat → Nat → Bool) : Prop where
  own : w.ownsRow base 24 1 (.slice (some ⟨g, 0, none⟩) N cap) N (rs.map (rowV N))
  len : rs.length = N
  nodup : rs.Nodup
  low : ∀ p, p < N → base ≤ rs.getD p 0
  row : ∀ p, p < N → w.rowIs (rs.getD p 0) 4 N fun q => .bool (M p q)
section
variable {w : World} {base g cap : Nat} {rs : List Nat} {N : Nat} {M : Nat → Nat → Bool}
theorem TabW.blk (h : TabW w base g cap rs N M) : ∃ cur, w.heap[g]? = some (.cells cur 24 (0, 0)) := by
  rcases h.own.2 with ⟨e, _⟩ | ⟨g', cap', cur, e, _, hg, _⟩
  · cases e
  · simp only [Value.slice.injEq, Option.some.injEq, Addr.mk.injEq, and_true, true_and] at e
    obtain ⟨rfl, rfl⟩ := e
    exact ⟨cur, hg⟩
theorem TabW.ne (h : TabW w base g cap rs N M) {p : Nat} (hp : p < N) : rs.getD p 0 ≠ g := by
  intro e
  obtain ⟨cur, hg⟩ := h.blk
  obtain ⟨cs, hc, _⟩ := h.row p hp
  rw [e, hg] at hc
  simp at hc
theorem TabW.cell1 (h : TabW w base g cap rs N M) {p : Nat} (hp : p < N) : w.cell? ⟨g, p, none⟩ = some (.slice (some ⟨rs.getD p 0, 0, none⟩) N N) := by
  have hl := h.len
  rw [World.ownsRow.cellAt h.own p (by omega), List.getElem?_map, List.getElem?_eq_getElem (by omega), List.getD_eq_getElem?_getD, List.getElem?_eq_getElem (by omega)]
  rfl
theorem TabW.cell2 (h : TabW w base g cap rs N M) {p q : Nat} (hp : p < N) (hq : q < N) : w.cell? ⟨rs.getD p 0, q, none⟩ = some (.bool (M p q)) := (h.row p hp).cell hq
theorem TabW.frozen2 (h : TabW w base g cap rs N M) {p : Nat} (q : Nat) (hp : p < N) : w.frozen? ⟨rs.getD p 0, q, none⟩ = false := (h.row p hp).frozen q
theorem TabW.reads (h : TabW w base g cap rs N M) : MatR w (.slice (some ⟨g, 0, none⟩) N cap) N M :=
  ⟨g, 0, cap, rfl, fun p hp => ⟨rs.getD p 0, 0, N, by rw [Nat.zero_add]; exact h.cell1 hp, fun q hq => by rw [Nat.zero_add]; exact h.cell2 hp hq, (h.row p hp).imp fun cs hc => ⟨_, hc.1⟩⟩⟩
theorem TabW.congr {M' : Nat → Nat → Bool} (h : TabW w base g cap rs N M) (e : Alike N M M') : TabW w base g cap rs N M' :=
  ⟨h.own, h.len, h.nodup, h.low, fun p hp => (h.row p hp).congr fun q hq => by rw [e p q hp hq]⟩
theorem TabW.below {w' : World} (h : TabW w base g cap rs N M) (hb : Below w.heap.size w w') : TabW w' base g cap rs N M :=
  ⟨h.own.kept (row := none) ⟨hb.os, hb.tape, hb.output, hb.size, fun k hk _ => hb.block k hk⟩ (.inr (by simp [Value.ownBlock])), h.len, h.nodup, h.low, fun p hp => (h.row p hp).of_block (hb.block _ (h.row p hp).lt)⟩
theorem TabW.lower {base' : Nat} (h : TabW w base g cap rs N M) (hb : base' ≤ base) : TabW w base' g cap rs N M :=
  ⟨ownsRow_le h.own hb, h.len, h.nodup, fun p hp => Nat.le_trans hb (h.low p hp), h.row⟩
theorem TabW.drew (h : TabW w base g cap rs N M) : TabW w.drew base g cap rs N M := h.below ⟨rfl, rfl, rfl, Nat.le_refl _, fun _ _ => rfl⟩
theorem TabW.set (h : TabW w base g cap rs N M) {p : Nat} (hp : p < N) (q : Nat) (x : Bool) : TabW (w.setCell ⟨rs.getD p 0, q, none⟩ (.bool x)) base g cap rs N (fun a b => if a = p ∧ b = q then x else M a b) := by
  refine ⟨?_, h.len, h.nodup, h.low, fun a ha => ?_⟩
  · exact h.own.kept (grownBy_set w _ q _) (.inr (by simp only [Value.ownBlock, ne_eq, Option.some.injEq]; exact (h.ne hp).symm))
  · by_cases e : a = p
    · subst e
      refine ((h.row a ha).set q (.bool x)).congr fun b hb => ?_
      by_cases e2 : b = q <;> simp [e2]
    · have hne : rs.getD a 0 ≠ rs.getD p 0 := by
        have hl := h.len
        rw [List.getD_eq_getElem?_getD, List.getD_eq_getElem?_getD, List.getElem?_eq_getElem (by omega), List.getElem?_eq_getElem (by omega)]
        have hpw := List.pairwise_iff_getElem.1 h.nodup
        rcases Nat.lt_trichotomy a p with h1 | h1 | h1
        · exact hpw a p _ _ h1
        · exact absurd h1 e
        · exact (hpw p a _ _ h1).symm
      refine ((h.row a ha).setOther (a := ⟨rs.getD p 0, q, none⟩) hne _).congr fun b hb => ?_
      simp [e]
end
/-- what a call that makes a table hands back -/
def RetM (w : World) (N : Nat) (M : Nat → Nat → Bool) (e : Ending) (w' : World) : Prop := ∃ g cap rs, e = .returned (.slice (some ⟨g, 0, none⟩) N cap) ∧ TabW w' w.heap.size g cap rs N M ∧ Below w.heap.size w w'

/-! ### an empty table -/
theorem infoBools : (Tryz.prog.info? 24).map (fun i => (i.zero, i.size, i.bytes)) = some (some (.slice none 0 0), 1, 24) := by kernel_rfl
theorem infoBool : (Tryz.prog.info? 4).map (fun i => (i.zero, i.size, i.bytes)) = some (some (.bool false), 1, 1) := by kernel_rfl
/-- the first k rows -/
structure Rows0 (w : World) (N k : Nat) (v : Value) (rs : List Nat) (wr : World) : Prop where
  own : wr.ownsRow w.heap.size 24 1 v k (rs.map (rowV N))
  len : rs.length = k
  nodup : rs.Nodup
  low : ∀ c ∈ rs, w.heap.size ≤ c
  row : ∀ c ∈ rs, wr.rowIs c 4 N fun _ => .bool false
  frame : Below w.heap.size w wr
theorem Rows0.done {w wr : World} {N : Nat} {g cap : Nat} {rs : List Nat} (h : Rows0 w N N (.slice (some ⟨g, 0, none⟩) N cap) rs wr) : TabW wr w.heap.size g cap rs N (fun _ _ => false) := by
  have hl := h.len
  have hm : ∀ p, p < N → rs.getD p 0 ∈ rs := fun p hp => by
    rw [List.getD_eq_getElem?_getD, List.getElem?_eq_getElem (by omega)]
    exact List.getElem_mem _
  exact ⟨h.own, h.len, h.nodup, fun p hp => h.low _ (hm p hp), fun p hp => h.row _ (hm p hp)⟩
theorem Rows0.start (w : World) (N b : Nat) (hb : b = w.heap.size) (cur : Array Value) (hc : cur = #[]) : Rows0 w N 0 (.slice (some ⟨b, 0, none⟩) 0 0) [] (w.alloc (.cells cur 24)) := by
  subst hb hc
  exact ⟨World.ownsRow_lit (e := 24) (size := 1) w #[] 0 (Nat.le_refl _) (by decide) rfl, rfl, List.nodup_nil, (fun c hc => by cases hc), (fun c hc => by cases hc), (Below.refl _ _).alloc (Nat.le_refl _) _⟩
/-- a row is made -/
theorem Rows0.made {w wr : World} {N k : Nat} {v : Value} {rs : List Nat} (h : Rows0 w N k v rs wr) (cur : Array Value) (hc : cur = madeCells #[Value.bool false] N) (x : Value) :
    Rows0 w N k v rs ((wr.alloc (.cells cur 4)).alloc (.cells #[x] 24)) ∧ wr.heap.size ∉ rs ∧ w.heap.size ≤ wr.heap.size ∧ ((wr.alloc (.cells cur 4)).alloc (.cells #[x] 24)).rowIs wr.heap.size 4 N fun _ => .bool false := by
  subst hc
  refine ⟨⟨World.ownsRow.alloc (World.ownsRow.alloc h.own _) _, h.len, h.nodup, h.low, fun c hc => ((h.row c hc).alloc _).alloc _, (h.frame.alloc h.frame.size _).alloc (by have := h.frame.size; simp; omega) _⟩, fun hm => ?_, h.frame.size, (World.rowIs_made wr _ N _).alloc _⟩
  exact absurd (h.row _ hm).lt (Nat.lt_irrefl _)
/-- and put behind the others -/
theorem Rows0.more {w wr w' : World} {N k c : Nat} {v v' : Value} {rs : List Nat} (h : Rows0 w N k v rs wr) (hn : c ∉ rs) (hlow : w.heap.size ≤ c) (hr : wr.rowIs c 4 N fun _ => .bool false)
    (hown : w'.ownsRow w.heap.size 24 1 v' (k + 1) (rs.map (rowV N) ++ [rowV N c])) (hg : wr.grownBy w' v.ownBlock) : Rows0 w N (k + 1) v' (rs ++ [c]) w' := by
  have hne : ∀ d, (wr.rowIs d 4 N fun _ => .bool false) → some d ≠ v.ownBlock := fun d hd e => by
    obtain ⟨cs, hc, _⟩ := hd
    rcases h.own.2 with ⟨rfl, _⟩ | ⟨g, cap, cur, rfl, _, hgg, _⟩
    · simp [Value.ownBlock] at e
    · simp only [Value.ownBlock, Option.some.injEq] at e
      subst e
      rw [hgg] at hc
      simp at hc
  have hkeep : ∀ d, (wr.rowIs d 4 N fun _ => .bool false) → w'.rowIs d 4 N fun _ => .bool false := fun d hd => hd.of_block (hg.block d hd.lt (hne d hd))
  refine ⟨by simpa using hown, by simp [h.len], ?_, ?_, ?_, h.frame.grown hg h.frame.size fun j e => (h.own.lt j e).1⟩
  · rw [List.nodup_append]
    exact ⟨h.nodup, by simp, fun a ha b hb => by simp at hb; rintro rfl; exact hn (hb ▸ ha)⟩
  · intro d hd
    rcases List.mem_append.1 hd with hd | hd
    · exact h.low d hd
    · simp at hd; subst hd; exact hlow
  · intro d hd
    rcases List.mem_append.1 hd with hd | hd
    · exact hkeep d (h.row d hd)
    · simp at hd; subst hd; exact hkeep d hr
set_option maxHeartbeats 2000000 in
set_option maxRecDepth 100000 in
theorem none_calls (s : ByteArray) (w : World) (hs : s.size ≤ 1000) : Calls Tryz.prog 98 #[.string s] w (RetM w (s.size + 1) fun _ _ => false) := by
  obtain ⟨i0, hi, hz0, hz1, hz2⟩ := info_parts infoBools
  obtain ⟨i1, hj, hy0, hy1, hy2⟩ := info_parts infoBool
  have hadd : IntKind.i64.wrap ((s.size : Int) + 1) = ((s.size + 1 : Nat) : Int) := by rw [IntKind.wrap_i64]; omega
  have hmk : ∀ W, (Instr.makeSlice 24 (.int .i64 ((s.size + 1 : Nat) : Int)) (.int .i64 ((s.size + 1 : Nat) : Int))).run Tryz.prog W = .ok (.slice (some ⟨W.heap.size, 0, none⟩) (s.size + 1) (s.size + 1)) (W.alloc (.cells (madeCells #[Value.bool false] (s.size + 1)) 4)) := fun W => by
    have := run_make (P := Tryz.prog) W 24 4 i1 _ Tryz.underlying24 hj hy0 .i64 .i64 ((s.size + 1 : Nat) : Int) ((s.size + 1 : Nat) : Int) (by omega) (by omega) (by rw [hy2]; omega) (by omega)
    simpa [hy1, Value.cells] using this
  obtain ⟨n, hn⟩ : ∃ n, n = s.size := ⟨_, rfl⟩
  rw [← hn] at hs hadd hmk ⊢
  obtain ⟨N, hN⟩ : ∃ N, N = n + 1 := ⟨_, rfl⟩
  obtain ⟨cur0, hcur⟩ : ∃ c, c = madeCells #[Value.bool false] (n + 1) := ⟨_, rfl⟩
  rw [← hN] at hmk hadd ⊢
  rw [← hN] at hcur
  rw [← hcur] at hmk
  have HC := hidden hcur
  have HN := hidden hN
  have HNN := hidden hn
  have hnn : s.size = n := hn.symm
  have hNle : N ≤ 1001 := by omega
  clear hy0 hy1 hy2 hj hcur hN hn
  go_enter Tryz.func98, Tryz.ntmps98
  go_wp2
  go_loopw [3, 4] (fun v i wr => ∃ (j : Nat) (rs : List Nat), j ≤ N ∧ i = .int .i64 j ∧ Rows0 w N j v rs wr) (fun _ i _ => N - (intOf i).toNat)
  case atStart => exact ⟨0, [], by omega, rfl, Rows0.start w N _ rfl _ rfl⟩
  case round =>
    obtain ⟨j, rs, hj, rfl, hp⟩ := hrel
    have HP := hidden hp
    clear hp
    have hNn : N = n + 1 := HN.out
    by_cases hlt : j < N
    · have hd : decide ((j : Int) ≤ n) = true := decide_eq_true (by omega)
      have hd' : decide (j ≤ n) = true := decide_eq_true (by omega)
      obtain ⟨p1, p2, p3, p4⟩ := HP.out.made cur0 HC.out (rowV N wr.heap.size)
      have P1 := hidden p1
      have P2 := hidden p2
      have P4 := hidden p4
      have HL := hidden hlt
      clear p1 p2 p4
      clear hNn
      go_wp2_with (at_builtin; refine wpList_append_own _ rfl _ _ 100 rfl w.heap.size 24 i0 (.slice none 0 0) 1 24 Tryz.underlying100 hi hz0 hz1 hz2 rfl (by decide) _ j (rs.map (rowV N)) rfl P1.out.own ⟨wr.heap.size + 1, 0, none⟩ 1 1 [rowV N wr.heap.size] rfl rfl ?d1 ?d2 ?d3 ?d4 ?d5 ?_)
      case d1 =>
        have := cell_one_new (wr.alloc (.cells cur0 4)) (rowV N wr.heap.size) 24
        have e : (wr.alloc (.cells cur0 4)).heap.size = wr.heap.size + 1 := by simp
        rw [e] at this
        exact this
      case d2 => intro x hx; simp at hx; subst hx; rfl
      case d3 => have := HN.out; unfold maxLen; omega
      case d4 => have := HN.out; omega
      case d5 => simp; omega
      intro v' w3 hown hgrow _
      have HS := hidden (P1.out.more P2.out p3 P4.out hown hgrow)
      clear hown hgrow
      go_wp2
      have hNn := HN.out
      have hlt' := HL.out
      go_roundw
      case rel => exact ⟨j + 1, _, by omega, by go_num, HS.out⟩
      case measure => simp [intOf]; omega
    · have hj' : j = N := by omega
      subst hj'
      have hd : decide ((j : Int) ≤ n) = false := decide_eq_false (by omega)
      have hd' : decide (j ≤ n) = false := decide_eq_false (by omega)
      rcases ownsRow_forms HP.out.own with ⟨_, h0⟩ | ⟨g', cap', rfl⟩
      · omega
      clear hNn
      go_wp2
      go_ret
      exact ⟨g', cap', rs, rfl, HP.out.done, HP.out.frame⟩
end Go.Proofs.YtmpjjnjggihojaaGreatDoor
