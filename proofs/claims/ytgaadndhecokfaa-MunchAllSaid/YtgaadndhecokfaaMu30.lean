/- FuTok, FuStepR, FaMat, FaTab, put together. -/
import Derived.Test.YtgaadndhecokfaaMu29
import Derived.Deep.RegionLaw
import Derived.Test.YtgaadndhecokfaaMu11
import Derived.Test.YtgaadndhecokfaaMu02
import Derived.Lib.SmallJoins
import Derived.Laws.MakeOwn
import Derived.Maps.AppendAt
import Derived.Deep.OwnRows
import Derived.RangeFuncBox
/- Contracts of Token and the reference's Token. -/
namespace Go.Proofs.Ytgaadndhecokfaa
open Go.RowKit Go.Lib Go.Joins
/-- is x a spot that is last? -/
def lasB (N : NetM) (x : Int) : Bool := decide (0 ≤ x) && (decide (x < N.sets.length) && N.last.getD x.toNat false)
def tokS (N : NetM) (t : Int) (x : Int) : Int := if (lasB N x && (decide (t < 0) || decide (N.of.getD x.toNat 0 < t))) = true then N.of.getD x.toNat 0 else t
def tokV (N : NetM) (l : List Int) : Int := l.foldl (tokS N) (-1)
def tokenM (N : NetM) (l : List Int) : Int := if rightB N = true then tokV N l else -1
theorem tokV_more (N : NetM) (l : List Int) (k : Nat) (hk : k < l.length) : tokV N (l.take (k + 1)) = tokS N (tokV N (l.take k)) (l.getD k 0) := by
  unfold tokV
  rw [List.take_succ_eq_append_getElem hk, List.foldl_append, List.getD_eq_getElem?_getD, List.getElem?_eq_getElem hk]
  rfl
set_option maxHeartbeats 8000000 in
set_option maxRecDepth 100000 in
theorem rToken_calls {w : World} {v vs vo vl vf v1 : Value} {N : NetM} {l : List Int} (h : RdNet w.heap.size w vs vo vl vf v1 N) (hr : RdZ w.heap.size w v l) (hlen : l.length ≤ 100000) :
    Calls Try.prog 38 #[.agg #[vs, vo, vl, vf, v1], v] w fun e w' => e = .returned (.int .i64 (tokenM N l)) ∧ Below w.heap.size w w' := by
  obtain ⟨sa, cs, rfl⟩ := h.sets.form
  obtain ⟨so, co, rfl⟩ := h.of.form
  obtain ⟨sl, cl, rfl⟩ := h.last.form
  obtain ⟨sf, cf, rfl⟩ := h.fol.form
  obtain ⟨s1, c1, rfl⟩ := h.first.form
  obtain ⟨av, cv, rfl⟩ := hr.form
  have hba := (Below.refl w.heap.size w).alloc (Nat.le_refl _) (.cells #[.slice sa N.sets.length cs, .slice so N.of.length co, .slice sl N.last.length cl, .slice sf N.fol.length cf, .slice s1 N.first.length c1] 53)
  have hbx := net_box w (.slice sa N.sets.length cs) (.slice so N.of.length co) (.slice sl N.last.length cl) (.slice sf N.fol.length cf) (.slice s1 N.first.length c1) 53
  obtain ⟨w0, hw0⟩ : ∃ w0, w0 = w.alloc (.cells #[.slice sa N.sets.length cs, .slice so N.of.length co, .slice sl N.last.length cl, .slice sf N.fol.length cf, .slice s1 N.first.length c1] 53) := ⟨_, rfl⟩
  have hs0 : w0.heap.size = w.heap.size + 1 := by rw [hw0]; simp
  rw [← hw0] at hba hbx
  have HBA := hidden hba
  have HBX := hidden hbx
  have HW0 := hidden hw0
  have HS0 := hidden hs0
  have HB0 := hidden (Below.refl (w.heap.size + 1) w0)
  have HR := hidden (rright12_calls (h.later hba))
  have HA := hidden (fun W (hb : Below w.heap.size w W) i (hi : i < l.length) => hr.atZ hb i hi)
  have HOF := hidden (fun W (hb : Below w.heap.size w W) i (hi : i < N.of.length) => h.of.atZ hb i hi)
  have HLA := hidden (fun W (hb : Below w.heap.size w W) i (hi : i < N.last.length) => h.last.at hb i hi)
  have HFN := hidden (fun (hR : rightB N = true) => ((rightB_iff N).1 hR).1)
  have HTM := hidden (fun k (hk : k < l.length) => tokV_more N l k hk)
  have HTE := hidden (show tokV N (l.take l.length) = tokV N l by rw [List.take_length])
  have HTZ := hidden (show tokV N (l.take 0) = -1 from rfl)
  have HTK := hidden (show tokenM N l = if rightB N = true then tokV N l else -1 from rfl)
  have HEB := hidden (fun x => (show lasB N x = (decide (0 ≤ x) && (decide (x < (N.sets.length : Int)) && N.last.getD x.toNat false)) from rfl))
  have HTS := hidden (fun t x => (show tokS N t x = if (lasB N x && (decide (t < 0) || decide (N.of.getD x.toNat 0 < t))) = true then N.of.getD x.toNat 0 else t from rfl))
  generalize N.fol.length = nf at *
  generalize N.first.length = n1 at *
  obtain ⟨ns, hns⟩ : ∃ ns, ns = N.sets.length := ⟨_, rfl⟩
  obtain ⟨no, hno⟩ : ∃ no, no = N.of.length := ⟨_, rfl⟩
  obtain ⟨nl, hnl⟩ : ∃ nl, nl = N.last.length := ⟨_, rfl⟩
  obtain ⟨lv, hlv⟩ : ∃ lv, lv = l.length := ⟨_, rfl⟩
  rw [← hns] at HR HBX HW0 HFN HEB ⊢
  rw [← hno] at HR HBX HW0 HFN HOF ⊢
  rw [← hnl] at HR HBX HW0 HFN HLA ⊢
  rw [← hlv] at HA HTM HTE hlen ⊢
  clear h hba hbx hw0 hs0 hr hns hno hnl hlv
  by_cases hR : rightB N = true
  case neg =>
    rw [if_neg hR] at HTK
    rw [show rightB N = false by simpa using hR] at HR
    rw [HTK.out]
    clear hR
    go_enter Try.func38, Try.ntmps38
    obtain ⟨b0, b1, b2, b3, b4⟩ := HBX.out w0 HB0.out
    rw [HW0.out] at b0 b1 b2 b3 b4 HR
    go_wp2_with fail
    refine HR.out.mono ?_
    rintro e w1 ⟨rfl, hb1⟩
    rw [← HW0.out] at hb1
    have HBW := hidden (below_then HBA.out HBA.out.size hb1)
    go_wp2
    go_ret
    exact ⟨rfl, HBW.out⟩
  rw [if_pos hR] at HTK
  have HFN := hidden (HFN.out hR)
  rw [hR] at HR
  rw [HTK.out]
  clear hR
  go_enter Try.func38, Try.ntmps38
  obtain ⟨b0, b1, b2, b3, b4⟩ := HBX.out w0 HB0.out
  rw [HW0.out] at b0 b1 b2 b3 b4 HR
  go_wp2_with fail
  refine HR.out.mono ?_
  rintro e w1 ⟨rfl, hb1⟩
  rw [← HW0.out] at hb1
  have HB1 := hidden (show Below (w.heap.size + 1) w0 w1 by rw [← HS0.out]; exact hb1)
  clear hb1 b0 b1 b2 b3 b4
  go_wp2
  go_loopw [5, 6] (fun v i wr => ∃ (k : Nat) (t : Int), k ≤ lv ∧ v = .int .i64 t ∧ Hid (t = tokV N (l.take k)) ∧ i = .int .i64 k ∧ Below (w.heap.size + 1) w0 wr) (fun _ i _ => lv - (Go.RowKit.intOf i).toNat)
  case atStart => exact ⟨0, -1, by omega, rfl, hidden HTZ.out.symm, rfl, HB1.out⟩
  case round =>
    clear HB1
    obtain ⟨k, t, hk, rfl, HT, rfl, hb3⟩ := hrel
    obtain ⟨wo, rfl⟩ : ∃ wo, wo = wr := ⟨wr, rfl⟩
    have HB := hidden hb3
    have HBW := hidden (show Below w.heap.size w wo from HBA.out.trans (hb3.mono (by omega)))
    have HSZ := hidden (show w.heap.size + 1 ≤ wo.heap.size by have := hb3.size; have := HS0.out; omega)
    obtain ⟨b0, b1, b2, b3, b4⟩ := HBX.out wo HB.out
    have hbl : w.heap.size < wo.heap.size := by have := HSZ.out; omega
    clear hb3
    by_cases hlt : k < lv
    · obtain ⟨ba, oa, rfl, hba, c0⟩ := HA.out wo HBW.out k hlt
      have HK := hidden (HTM.out k hlt)
      have hlt' := hlt
      have hkb : IntKind.i64.wrap ((k : Int) + 1) = (k : Int) + 1 := by rw [IntKind.wrap_i64]; omega
      have hbaw : ba < wo.heap.size := cell_lt c0
      generalize l.getD k 0 = x at *
      have HEX := hidden (HEB.out x)
      have HSX := hidden (HTS.out t x)
      have h0 := fun (p : Later wo) => Later.cell b0 hbl p
      have h1 := fun (p : Later wo) => Later.cell b1 hbl p
      have h2 := fun (p : Later wo) => Later.cell b2 hbl p
      have h3 := fun (p : Later wo) => Later.cell b3 hbl p
      have h4 := fun (p : Later wo) => Later.cell b4 hbl p
      have hc := fun (p : Later wo) => Later.cell c0 hbaw p
      by_cases hx : 0 ≤ x ∧ x < (ns : Int)
      case neg =>
        have hee : lasB N x = false := by
          rw [HEX.out]
          by_cases h0 : 0 ≤ x
          · rw [decide_eq_false (show ¬ x < (ns : Int) by omega)]; simp
          · rw [decide_eq_false h0, Bool.false_and]
        have HT2 := hidden (show t = tokV N (l.take (k + 1)) by rw [HK.out, ← HT.out, HSX.out, hee]; rfl)
        by_cases hx0 : 0 ≤ x
        case' pos =>
          have hd0 : decide (0 ≤ x) = true := decide_eq_true hx0
          have hd1 : decide (x < (ns : Int)) = false := decide_eq_false (by omega)
        case' neg =>
          have hd0 : decide (0 ≤ x) = false := decide_eq_false hx0
        all_goals
          clear hx hx0 hee
          go_wp2
          refine wp_region_later (by kernel_rfl) (by kernel_rfl) ?_
          repeat (go_big_quiet_step (fail))
          refine wpQuiet_nil ?_
          rintro _ ⟨⟨_, hb5⟩, rfl⟩
          rename_i w5
          have HB5 := hidden (below_then HB.out HSZ.out hb5)
          clear hb5 h0 h1 h2 h3 h4 hc b0 b1 b2 b3 b4 c0
          go_wp2
          go_roundw
          case rel => exact ⟨k + 1, t, by omega, rfl, HT2, by go_num, HB5.out⟩
          case measure => simp [Go.RowKit.intOf]; omega
      case pos =>
        obtain ⟨p, rfl⟩ : ∃ p : Nat, x = p := ⟨x.toNat, by omega⟩
        have hd0 : decide (0 ≤ (p : Int)) = true := decide_eq_true hx.1
        have hd1 : decide ((p : Int) < (ns : Int)) = true := decide_eq_true hx.2
        have hd2 : decide (p < ns) = true := decide_eq_true (by omega)
        have hpo : p < no := by have := HFN.out; omega
        have hpl : p < nl := by have := HFN.out; omega
        have hpoi : (p : Int) < (no : Int) := by omega
        have hpli : (p : Int) < (nl : Int) := by omega
        rw [hd0, hd1, Bool.true_and, Bool.true_and, Int.toNat_natCast] at HEX
        rw [Int.toNat_natCast, HEX.out] at HSX
        obtain ⟨bo, oo, rfl, hbo, e0⟩ := HOF.out wo HBW.out p hpo
        obtain ⟨bl, ol, rfl, hbl2, f0⟩ := HLA.out wo HBW.out p hpl
        have hbow : bo < wo.heap.size := cell_lt e0
        have hblw : bl < wo.heap.size := cell_lt f0
        generalize N.of.getD p 0 = y at *
        generalize N.last.getD p false = lb at *
        have he := fun (p : Later wo) => Later.cell e0 hbow p
        have hf := fun (p : Later wo) => Later.cell f0 hblw p
        clear hx HEX
        have WALK1 : True := trivial
        cases lb
        case false =>
          have HT2 := hidden (show t = tokV N (l.take (k + 1)) by rw [HK.out, ← HT.out, HSX.out]; rfl)
          go_wp2
          refine wp_region_later (by kernel_rfl) (by kernel_rfl) ?_
          repeat (go_big_quiet_step (fail))
          refine wpQuiet_nil ?_
          rintro _ ⟨⟨_, hb5⟩, rfl⟩
          rename_i w5
          have HB5 := hidden (below_then HB.out HSZ.out hb5)
          clear hb5 h0 h1 h2 h3 h4 hc he hf b0 b1 b2 b3 b4 c0 e0 f0
          go_wp2
          go_roundw
          case rel => exact ⟨k + 1, t, by omega, rfl, HT2, by go_num, HB5.out⟩
          case measure => simp [Go.RowKit.intOf]; omega
        case true =>
          rw [Bool.true_and] at HSX
          by_cases htt : t < 0 ∨ y < t
          case neg =>
            have g0 : decide (t < 0) = false := decide_eq_false (by omega)
            have g1 : decide (y < t) = false := decide_eq_false (by omega)
            have HT2 := hidden (show t = tokV N (l.take (k + 1)) by rw [HK.out, ← HT.out, HSX.out, g0, g1]; rfl)
            clear htt
            go_wp2
            refine wp_region_later (by kernel_rfl) (by kernel_rfl) ?_
            repeat (go_big_quiet_step (fail))
            refine wpQuiet_nil ?_
            rintro _ ⟨⟨_, hb5⟩, rfl⟩
            rename_i w5
            have HB5 := hidden (below_then HB.out HSZ.out hb5)
            clear hb5 h0 h1 h2 h3 h4 hc he hf b0 b1 b2 b3 b4 c0 e0 f0
            go_wp2
            go_roundw
            case rel => exact ⟨k + 1, t, by omega, rfl, HT2, by go_num, HB5.out⟩
            case measure => simp [Go.RowKit.intOf]; omega
          case pos =>
            have HT2 := hidden (show y = tokV N (l.take (k + 1)) by
              rw [HK.out, ← HT.out, HSX.out, if_pos (by simpa using htt)])
            by_cases ht0 : t < 0
            case' pos => have g0 : decide (t < 0) = true := decide_eq_true ht0
            case' neg =>
              have g0 : decide (t < 0) = false := decide_eq_false ht0
              have g1 : decide (y < t) = true := decide_eq_true (by omega)
            all_goals
              clear htt ht0
              go_wp2
              refine wp_region_later (by kernel_rfl) (by kernel_rfl) ?_
              repeat (go_big_quiet_step (fail))
              refine wpQuiet_nil ?_
              rintro _ ⟨⟨_, hb5⟩, rfl⟩
              rename_i w5
              have HB5 := hidden (below_then HB.out HSZ.out hb5)
              have c5 := (hb5.cell (p := ⟨ba, oa + k, none⟩) hbaw).trans c0
              have e5 := (hb5.cell (p := ⟨bo, oo + p, none⟩) hbow).trans e0
              have hs5 := hb5.size
              clear hb5 h0 h1 h2 h3 h4 hc he hf b0 b1 b2 b3 b4 c0 e0 f0
              obtain ⟨b0, b1, b2, b3, b4⟩ := HBX.out w5 HB5.out
              have hbl5 : w.heap.size < w5.heap.size := by omega
              have h0 := fun (p : Later w5) => Later.cell b0 hbl5 p
              have h1 := fun (p : Later w5) => Later.cell b1 hbl5 p
              have h2 := fun (p : Later w5) => Later.cell b2 hbl5 p
              have h3 := fun (p : Later w5) => Later.cell b3 hbl5 p
              have h4 := fun (p : Later w5) => Later.cell b4 hbl5 p
              have hc := fun (p : Later w5) => Later.cell c5 (show ba < w5.heap.size by omega) p
              have he := fun (p : Later w5) => Later.cell e5 (show bo < w5.heap.size by omega) p
              have HS5 := hidden (show w.heap.size + 1 ≤ w5.heap.size by omega)
              go_wp2
              refine wp_region_later (by kernel_rfl) (by kernel_rfl) ?_
              repeat (go_big_quiet_step (fail))
              refine wpQuiet_nil ?_
              rintro _ ⟨⟨_, hb6⟩, rfl⟩
              rename_i w6
              have HB6 := hidden (below_then HB5.out HS5.out hb6)
              clear hb6 h0 h1 h2 h3 h4 hc he b0 b1 b2 b3 b4 c5 e5
              go_wp2
              go_roundw
              case rel => exact ⟨k + 1, y, by omega, rfl, HT2, by go_num, HB6.out⟩
              case measure => simp [Go.RowKit.intOf]; omega
    · obtain rfl : k = lv := by omega
      have hdk : decide ((k : Int) < (k : Int)) = false := by simp
      have HF := hidden (HT.out.trans HTE.out)
      go_wp2
      go_ret
      exact ⟨ret_i HF.out, HBW.out⟩
end Go.Proofs.Ytgaadndhecokfaa

/- Contract of the reference's Step. -/
namespace Go.Proofs.Ytgaadndhecokfaa
open Go.RowKit Go.Lib Go.Joins
/-- app_zz at a step of a region that draws -/
theorem step_app_zz {w : World} {ops : Array Oper} {o : Oper} {a : Act} {K : Act → World → Prop} {Q : Exit → Act → World → Prop} {E : Prop} (hgd : o.guard = none) (s x : Operand)
    (ho : o.op = .call { callee := .builtin .append, args := #[s, x], argTypes := #[24, 24] }) {base B : Nat} {v u : Value} {l m : List Int}
    (hs : a.eval s = v) (hown : RowZ w base v l) (hx : a.eval x = u) (hM : RdZ B w u m) (hsz : l.length + m.length ≤ 1000000) (hb0 : base ≤ w.heap.size)
    (h : ∀ a' l' c' w', RowZ w' base (.slice a' l' c') (l ++ m) → w.grownBy w' v.ownBlock → Below base w w' → K (a.put o.dst (.slice a' l' c')) w') : if Region.wanted o (yielded ops a.tmps) = true then Oper.wp Try.prog o a w K Q else E := by
  have hw : Region.wanted o (yielded ops a.tmps) = true := by simp [Region.wanted, hgd]
  rw [if_pos hw]
  have hlow : ∀ j, v.ownBlock = some j → base ≤ j := fun j e => (World.ownsRow.lt hown j e).1
  have h : ∀ v' w', RowZ w' base v' (l ++ m) → w.grownBy w' v.ownBlock → K (a.put o.dst v') w' := fun v' w' h1 h2 => by
    obtain ⟨a', c', rfl⟩ := h1.form
    exact h _ _ _ _ h1 h2 ((Below.refl base w).grown h2 hb0 hlow)
  obtain ⟨i0, hi, hz0, hz1, hz2⟩ := info_parts infoInt
  obtain ⟨ad, cap, rfl, h1, h2, h0, hS⟩ := hM
  cases ad with
  | none =>
    have e0 := h0 rfl
    subst e0
    have hM0 : m = [] := List.eq_nil_of_length_eq_zero (by omega)
    subst hM0
    have hrun := run_append_owned_none (P := Try.prog) (w := w) base 24 o.type 3 i0 1 Try.underlying24 hi v l.length (l.map (Value.int .i64)) hown
    unfold Oper.wp
    have hx' : a.eval x = .slice none 0 0 := hx
    simp [execOp, ho, resolve, invoke, builtin, hs, hx', hrun, Result.andThen]
    exact h v w (by rw [List.append_nil]; exact hown) ⟨rfl, rfl, rfl, Nat.le_refl _, fun _ _ _ => rfl⟩
  | some ad =>
    obtain ⟨b, off, spot⟩ := ad
    have hnews : ∀ j z, (m.map (Value.int .i64))[j]? = some z → w.cell? ((⟨b, off, spot⟩ : Addr).add j) = some z := by
      intro j z hz
      have hj : j < m.length := by
        have := (List.getElem?_eq_some_iff.1 hz).1
        simpa using this
      obtain ⟨b', off', e, _, hc⟩ := hS (by omega)
      simp only [Option.some.injEq, Addr.mk.injEq] at e
      obtain ⟨rfl, rfl, rfl⟩ := e
      rw [Addr.add_lit, hc j hj]
      rw [List.getElem?_map, List.getElem?_eq_getElem hj] at hz
      rw [List.getD_eq_getElem?_getD, List.getElem?_eq_getElem hj]
      exact hz
    refine wp_append_own w s x 24 ho base 3 i0 _ 1 8 Try.underlying24 hi hz0 hz1 hz2 rfl (by decide) v l.length (l.map (Value.int .i64)) hs hown ⟨b, off, spot⟩ m.length cap (m.map (Value.int .i64)) hx (by simp) hnews (fun z hz => ints_one hz) (by unfold maxLen; omega) (by omega) hb0 fun v' w' h3 h4 _ => h v' w' ?_ h4
    unfold RowZ
    rw [List.length_append, List.map_append]
    exact h3
/-- what stands behind the spots of a list, one list behind the other -/
def restOf (N : NetM) (l : List Int) : List Int := l.flatMap fun x : Int => if 0 ≤ x ∧ x < (N.sets.length : Int) then N.fol.getD x.toNat [] else []
theorem rest_next (N : NetM) (l : List Int) (S : List Stp) (b q : Nat) : withG S b (restOf N l) q = (nextB N l q && selB S b q) := by
  unfold withG
  congr 1
  unfold restOf nextB
  rw [Bool.eq_iff_iff, decide_eq_true_eq, List.mem_flatMap, List.any_eq_true]
  simp only [Bool.and_eq_true, decide_eq_true_eq]
  constructor
  · rintro ⟨x, hx, h⟩
    split at h
    · rename_i h1
      exact ⟨x, hx, h1.1, h1.2, h⟩
    · simp at h
  · rintro ⟨x, hx, h0, h1, h2⟩
    exact ⟨x, hx, by rw [if_pos ⟨h0, h1⟩]; exact h2⟩
theorem rest_more (N : NetM) (l : List Int) (k : Nat) (hk : k < l.length) : restOf N (l.take (k + 1)) = restOf N (l.take k) ++ (if 0 ≤ l.getD k 0 ∧ l.getD k 0 < (N.sets.length : Int) then N.fol.getD (l.getD k 0).toNat [] else []) := by
  unfold restOf
  rw [List.take_succ_eq_append_getElem hk, List.flatMap_append, List.getD_eq_getElem?_getD, List.getElem?_eq_getElem hk, Option.getD_some]
  congr 1
  rw [List.flatMap_cons, List.flatMap_nil, List.append_nil]
theorem rest_len (N : NetM) (hf : ∀ i, (N.fol.getD i []).length ≤ 1000) : ∀ l : List Int, (restOf N l).length ≤ 1000 * l.length
  | [] => by simp [restOf]
  | x :: r => by
    have h1 := rest_len N hf r
    have h2 := hf x.toNat
    unfold restOf at *
    rw [List.flatMap_cons, List.length_append, List.length_cons]
    split
    · omega
    · simp only [List.length_nil]; omega
set_option maxHeartbeats 8000000 in
set_option maxRecDepth 100000 in
theorem rStep_calls {w : World} {v vs vo vl vf v1 : Value} {N : NetM} {b : Nat} {l : List Int} (h : RdNet w.heap.size w vs vo vl vf v1 N) (hw : ∀ s ∈ N.sets, s.wide) (hn : N.sets.length ≤ 100000) (hr : RdZ w.heap.size w v l) (hb : b < 256) (hf : ∀ i, (N.fol.getD i []).length ≤ 1000) (hlen : l.length ≤ 900) :
    Calls Try.prog 35 #[.agg #[vs, vo, vl, vf, v1], v, .int .u8 b] w (RetZ w (spI (stepM N l b))) := by
  obtain ⟨sa, cs, rfl⟩ := h.sets.form
  obtain ⟨so, co, rfl⟩ := h.of.form
  obtain ⟨sl, cl, rfl⟩ := h.last.form
  obtain ⟨sf, cf, rfl⟩ := h.fol.form
  obtain ⟨s1, c1, rfl⟩ := h.first.form
  obtain ⟨av, cv, rfl⟩ := hr.form
  have hba := (Below.refl w.heap.size w).alloc (Nat.le_refl _) (.cells #[.slice sa N.sets.length cs, .slice so N.of.length co, .slice sl N.last.length cl, .slice sf N.fol.length cf, .slice s1 N.first.length c1] 53)
  have hbx := net_box w (.slice sa N.sets.length cs) (.slice so N.of.length co) (.slice sl N.last.length cl) (.slice sf N.fol.length cf) (.slice s1 N.first.length c1) 53
  obtain ⟨w0, hw0⟩ : ∃ w0, w0 = w.alloc (.cells #[.slice sa N.sets.length cs, .slice so N.of.length co, .slice sl N.last.length cl, .slice sf N.fol.length cf, .slice s1 N.first.length c1] 53) := ⟨_, rfl⟩
  have hs0 : w0.heap.size = w.heap.size + 1 := by rw [hw0]; simp
  rw [← hw0] at hba hbx
  obtain ⟨w2, hw2⟩ : ∃ w2, w2 = w0.alloc (.cells #[] 3) := ⟨_, rfl⟩
  have hb20 : Below (w.heap.size + 1) w0 w2 := by rw [hw2, ← hs0]; exact (Below.refl _ _).alloc (Nat.le_refl _) _
  have hb2 : Below w.heap.size w w2 := hba.trans (hb20.mono (by omega))
  have HBA := hidden hba
  have HBX := hidden hbx
  have HW0 := hidden hw0
  have HW2 := hidden hw2
  have HS0 := hidden hs0
  have HB2 := hidden hb20
  have HBW2 := hidden hb2
  have HR := hidden (rright12_calls (h.later hb2))
  have HN0 := hidden (show RowZ w2 (w.heap.size + 1) (.slice (some ⟨w.heap.size + 1, 0, none⟩) 0 0) [] by rw [hw2, ← hs0]; exact RowZ.lit w0 w0.heap.size rfl #[] rfl)
  have HA := hidden (fun W (hb : Below w.heap.size w W) i (hi : i < l.length) => hr.atZ hb i hi)
  have HFO := hidden (fun W (hb : Below w.heap.size w W) i (hi : i < N.fol.length) => h.fol.at hb i hi)
  have HFN := hidden (fun (hR : rightB N = true) => ((rightB_iff N).1 hR).1.2.2)
  have HFL := hidden hf
  have HRM := hidden (fun k (hk : k < l.length) => rest_more N l k hk)
  have HRL := hidden (fun k (hk : k ≤ l.length) => (show (restOf N (l.take k)).length ≤ 900000 from by
    have h1 := rest_len N hf (l.take k)
    rw [List.length_take] at h1
    omega))
  have HRE := hidden (show restOf N (l.take l.length) = restOf N l by rw [List.take_length])
  have HRZ := hidden (show restOf N (l.take 0) = [] from rfl)
  have HWC := hidden (fun W (hb2 : Below w.heap.size w W) u (hu : RdZ W.heap.size W u (restOf N l)) => (show Calls Try.prog 54 #[.agg #[.slice sa N.sets.length cs, .slice so N.of.length co, .slice sl N.last.length cl, .slice sf N.fol.length cf, .slice s1 N.first.length c1], u, .int .u8 b] W (RetZ W (spI (hits (fun q => nextB N l q && selB N.sets b q) N.sets.length))) from by
    have h2 := h.later hb2
    have h1 := rwith12_calls (vo := .slice so N.of.length co) (vl := .slice sl N.last.length cl) (vf := .slice sf N.fol.length cf) (v1 := .slice s1 N.first.length c1) (b := b) h2.sets hw hu (by assumption) hn
    rw [hits_congr (H := fun q => nextB N l q && selB N.sets b q) (fun p _ => rest_next N l N.sets b p)] at h1
    exact h1))
  have HST := hidden (show stepM N l b = if rightB N = true then hits (fun q => nextB N l q && selB N.sets b q) N.sets.length else [] from rfl)
  generalize N.of.length = no at *
  generalize N.last.length = nl at *
  generalize N.first.length = n1 at *
  obtain ⟨ns, hns⟩ : ∃ ns, ns = N.sets.length := ⟨_, rfl⟩
  obtain ⟨nf, hnf⟩ : ∃ nf, nf = N.fol.length := ⟨_, rfl⟩
  obtain ⟨lv, hlv⟩ : ∃ lv, lv = l.length := ⟨_, rfl⟩
  rw [← hns] at HWC HST HR HBX HW0 HRM HFN hn ⊢
  rw [← hnf] at HWC HR HBX HW0 HFO HFN ⊢
  rw [← hlv] at HA HRM HRL HRE hlen ⊢
  clear h hba hbx hw hw0 hw2 hs0 hr hb20 hb2 hns hnf hlv hf
  by_cases hR : rightB N = true
  · rw [if_pos hR] at HST
    have HFN := hidden (HFN.out hR)
    rw [hR] at HR
    rw [HST.out]
    clear hR
    go_enter Try.func35, Try.ntmps35
    obtain ⟨b0, b1, b2, b3, b4⟩ := HBX.out w2 HB2.out
    have hs0 := HS0.out
    rw [HW0.out] at hs0
    go_wp2_with fail
    rw [← HW0.out, ← HW2.out]
    refine HR.out.mono ?_
    rintro e w1 ⟨rfl, hb1⟩
    have HB1 := hidden (show Below (w.heap.size + 1) w0 w1 from HB2.out.trans (hb1.mono (by have := HB2.out.size; have := HS0.out; omega)))
    have HN1 := hidden (HN0.out.kept hb1)
    clear hb1 b0 b1 b2 b3 b4 hs0
    have hlvb : lv ≤ 900 := hlen
    go_wp2
    go_loopw [7, 8] (fun v i wr => ∃ (k : Nat) (o : Value), k ≤ lv ∧ o = v ∧ i = .int .i64 k ∧ RowZ wr (w.heap.size + 1) o (restOf N (l.take k)) ∧ Below (w.heap.size + 1) w0 wr) (fun _ i _ => lv - (Go.RowKit.intOf i).toNat)
    case atStart => exact ⟨0, _, by omega, rfl, rfl, by rw [HRZ.out]; exact HN1.out, HB1.out⟩
    case round =>
      clear HN1 HB1
      obtain ⟨k, o, hk, rfl, rfl, hG, hb3⟩ := hrel
      obtain ⟨wo, rfl⟩ : ∃ wo, wo = wr := ⟨wr, rfl⟩
      have HG := hidden hG
      have HB := hidden hb3
      have HBW := hidden (show Below w.heap.size w wo from HBA.out.trans (hb3.mono (by omega)))
      have HSZ := hidden (show w.heap.size + 1 ≤ wo.heap.size by have := hb3.size; have := HS0.out; omega)
      obtain ⟨b0, b1, b2, b3, b4⟩ := HBX.out wo HB.out
      have hbl : w.heap.size < wo.heap.size := by have := HSZ.out; omega
      clear hG hb3
      by_cases hlt : k < lv
      · obtain ⟨ba, oa, rfl, hba, c0⟩ := HA.out wo HBW.out k hlt
        have HRK := hidden (HRM.out k hlt)
        have HRLK := hidden (HRL.out k (by omega))
        have hlt' := hlt
        have hkb : IntKind.i64.wrap ((k : Int) + 1) = (k : Int) + 1 := by rw [IntKind.wrap_i64]; omega
        have hbaw : ba < wo.heap.size := cell_lt c0
        generalize l.getD k 0 = x at *
        have h0 := fun (p : Later wo) => Later.cell b0 hbl p
        have h1 := fun (p : Later wo) => Later.cell b1 hbl p
        have h2 := fun (p : Later wo) => Later.cell b2 hbl p
        have h3 := fun (p : Later wo) => Later.cell b3 hbl p
        have h4 := fun (p : Later wo) => Later.cell b4 hbl p
        have hc := fun (p : Later wo) => Later.cell c0 hbaw p
        by_cases hx : 0 ≤ x ∧ x < (ns : Int)
        case neg =>
          rw [if_neg hx, List.append_nil] at HRK
          by_cases hx0 : 0 ≤ x
          case' pos =>
            have hd0 : decide (0 ≤ x) = true := decide_eq_true hx0
            have hd1 : decide (x < (ns : Int)) = false := decide_eq_false (by omega)
          case' neg =>
            have hd0 : decide (0 ≤ x) = false := decide_eq_false hx0
          all_goals
            clear hx hx0
            go_wp2
            refine wp_region_later (by kernel_rfl) (by kernel_rfl) ?_
            repeat (go_big_quiet_step (fail))
            refine wpQuiet_nil ?_
            rintro _ ⟨⟨_, hb5⟩, rfl⟩
            rename_i w5
            have HB5 := hidden (below_then HB.out HSZ.out hb5)
            have HG5 := hidden (HG.out.kept hb5)
            clear hb5 h0 h1 h2 h3 h4 hc b0 b1 b2 b3 b4 c0
            go_wp2
            go_roundw
            case rel => exact ⟨k + 1, _, by omega, rfl, by go_num, by rw [HRK.out]; exact HG5.out, HB5.out⟩
            case measure => simp [Go.RowKit.intOf]; omega
        case pos =>
          rw [if_pos hx] at HRK
          obtain ⟨p, rfl⟩ : ∃ p : Nat, x = p := ⟨x.toNat, by omega⟩
          rw [Int.toNat_natCast] at HRK
          have hd0 : decide (0 ≤ (p : Int)) = true := decide_eq_true hx.1
          have hd1 : decide ((p : Int) < (ns : Int)) = true := decide_eq_true hx.2
          have hd2 : decide (p < ns) = true := decide_eq_true (by omega)
          have hpf : p < nf := by have := HFN.out; omega
          have hpi : (p : Int) < (nf : Int) := by omega
          have HLF := hidden (HFL.out p)
          clear hx
          go_wp2
          refine wp_region_later (by kernel_rfl) (by kernel_rfl) ?_
          repeat (go_big_quiet_step (fail))
          refine wpQuiet_nil ?_
          rintro _ ⟨⟨_, hb5⟩, rfl⟩
          rename_i w5
          have HB5 := hidden (below_then HB.out HSZ.out hb5)
          have HBW5 := hidden (below_after HBW.out hb5)
          have HG5 := hidden (HG.out.kept hb5)
          have HSZ5 := hidden (show w.heap.size + 1 ≤ w5.heap.size by have := HSZ.out; have := hb5.size; omega)
          have c5 := (hb5.cell (p := ⟨ba, oa + k, none⟩) hbaw).trans c0
          clear hb5 h0 h1 h2 h3 h4 hc b0 b1 b2 b3 b4 c0
          obtain ⟨bf, of, a', c', rfl, hbf, d0, hrz⟩ := HFO.out w5 HBW5.out p hpf
          obtain ⟨b0, b1, b2, b3, b4⟩ := HBX.out w5 HB5.out
          have HRF := hidden hrz
          generalize N.fol.getD p [] = fl at *
          obtain ⟨lf, hlf⟩ : ∃ lf, lf = fl.length := ⟨_, rfl⟩
          rw [← hlf] at d0 HRF
          have HLL := hidden (show (restOf N (l.take k)).length + fl.length ≤ 1000000 by have := HRLK.out; have := HLF.out; omega)
          have HGD := hidden (show RowZ w5.drew (w.heap.size + 1) o (restOf N (l.take k)) from HG5.out)
          have HRD := hidden (show RdZ w.heap.size w5.drew (.slice a' lf c') fl from HRF.out)
          have HSD := hidden (show w.heap.size + 1 ≤ w5.drew.heap.size from HSZ5.out)
          have HBD := hidden (show Below (w.heap.size + 1) w0 w5.drew from below_drawn HB5.out 1)
          clear hrz hlf
          go_wp2
          go_region_law (refine step_app_zz rfl _ _ rfl rfl HGD.out rfl HRD.out HLL.out HSD.out ?_; intro a9 l9 c9 w9 hr9 hg9 hb9; have HR9 := hidden hr9; have HB9 := hidden (HBD.out.trans hb9); clear hr9 hg9 hb9)
          all_goals
            go_wp2
            go_roundw
            case rel => exact ⟨k + 1, _, by omega, rfl, by go_num, by rw [HRK.out]; exact HR9.out, HB9.out⟩
            case measure => simp [Go.RowKit.intOf]; omega
      · obtain rfl : k = lv := by omega
        have hdk : decide ((k : Int) < (k : Int)) = false := by simp
        rw [HRE.out] at HG
        have HRD := hidden HG.out.reads
        go_wp2_with fail
        refine (HWC.out wo HBW.out _ HRD.out).mono ?_
        rintro e w5 ⟨u, rfl, hr5, hb5⟩
        go_wp2
        go_ret
        exact ⟨_, rfl, hr5.lower HBW.out.size, below_after HBW.out hb5⟩
  · rw [if_neg hR] at HST
    rw [show rightB N = false by simpa using hR] at HR
    rw [HST.out, spI_nil]
    clear hR
    go_enter Try.func35, Try.ntmps35
    obtain ⟨b0, b1, b2, b3, b4⟩ := HBX.out w2 HB2.out
    have hs0 := HS0.out
    rw [HW0.out] at hs0
    go_wp2_with fail
    rw [← HW0.out, ← HW2.out]
    refine HR.out.mono ?_
    rintro e w1 ⟨rfl, hb1⟩
    have HB1 := hidden (below_after HBW2.out hb1)
    have HN1 := hidden ((HN0.out.kept hb1).lower (base' := w.heap.size) (by omega))
    clear hb1 b0 b1 b2 b3 b4 hs0
    go_wp2
    go_ret
    exact ⟨_, rfl, HN1.out, HB1.out⟩
end Go.Proofs.Ytgaadndhecokfaa

/- Which place of a word leads to which, as tables: the reference's way, and the words that are matched. Of no program. -/
namespace Go.Proofs.Ytgaadndhecokfaa

/-- the same at all places of a word -/
def Alike (N : Nat) (A B : Nat → Nat → Bool) : Prop := ∀ p q, p < N → q < N → A p q = B p q
theorem Alike.refl (N : Nat) (A : Nat → Nat → Bool) : Alike N A A := fun _ _ _ _ => rfl
theorem Alike.trans {N : Nat} {A B C : Nat → Nat → Bool} (h : Alike N A B) (k : Alike N B C) : Alike N A C := fun p q hp hq => (h p q hp hq).trans (k p q hp hq)
end Go.Proofs.Ytgaadndhecokfaa

/- The reference's tables in memory: what a table reads as, a table of the call's own; none, same, set, both. -/
namespace Go.Proofs.Ytgaadndhecokfaa
open Go.RowKit Go.Lib Go.Joins

/-- block b has cells of a type -/
def Typ (w : World) (b : Nat) (t : TypeId) : Prop := ∃ cs fz, w.heap[b]? = some (.cells cs t fz)
theorem Typ.below {w w' : World} {b : Nat} {t : TypeId} (h : Typ w b t) (hb : Below w.heap.size w w') : Typ w' b t := by
  obtain ⟨cs, fz, h⟩ := h
  exact ⟨cs, fz, (hb.block b (Array.getElem?_eq_some_iff.1 h).1).trans h⟩
/-- slice value v reads as a table -/
def MatR (w : World) (v : Value) (N : Nat) (M : Nat → Nat → Bool) : Prop :=
  ∃ b off cap, v = .slice (some ⟨b, off, none⟩) N cap ∧ ∀ p, p < N → ∃ c o cp, w.cell? ⟨b, off + p, none⟩ = some (.slice (some ⟨c, o, none⟩) N cp) ∧ (∀ q, q < N → w.cell? ⟨c, o + q, none⟩ = some (.bool (M p q))) ∧ Typ w c 4
theorem MatR.below {w w' : World} {v : Value} {N : Nat} {M : Nat → Nat → Bool} (h : MatR w v N M) (hb : Below w.heap.size w w') : MatR w' v N M := by
  obtain ⟨b, off, cap, rfl, hc⟩ := h
  refine ⟨b, off, cap, rfl, fun p hp => ?_⟩
  obtain ⟨c, o, cp, h1, h2, h3⟩ := hc p hp
  exact ⟨c, o, cp, (hb.cell (p := ⟨b, off + p, none⟩) (cell_lt h1)).trans h1, fun q hq => (hb.cell (p := ⟨c, o + q, none⟩) (cell_lt (h2 q hq))).trans (h2 q hq), h3.below hb⟩
theorem MatR.congr {w : World} {v : Value} {N : Nat} {M M' : Nat → Nat → Bool} (h : MatR w v N M) (e : Alike N M M') : MatR w v N M' := by
  obtain ⟨b, off, cap, rfl, hc⟩ := h
  refine ⟨b, off, cap, rfl, fun p hp => ?_⟩
  obtain ⟨c, o, cp, h1, h2, h3⟩ := hc p hp
  exact ⟨c, o, cp, h1, fun q hq => by rw [h2 q hq, e p q hp hq], h3⟩
theorem grownBy_set (w : World) (b q : Nat) (v : Value) : w.grownBy (w.setCell ⟨b, q, none⟩ v) (some b) :=
  ⟨rfl, rfl, rfl, by simp [World.setCell], fun k _ hk => heap_setCell_other _ _ _ _ fun e => hk (by rw [e])⟩
def rowV (N c : Nat) : Value := .slice (some ⟨c, 0, none⟩) N N
/-- a table of the call's own, that may be written -/
structure TabW (w : World) (base g cap : Nat) (rs : List Nat) (N : Nat) (M : Nat → Nat → Bool) : Prop where
  own : w.ownsRow base 51 1 (.slice (some ⟨g, 0, none⟩) N cap) N (rs.map (rowV N))
  len : rs.length = N
  nodup : rs.Nodup
  low : ∀ p, p < N → base ≤ rs.getD p 0
  row : ∀ p, p < N → w.rowIs (rs.getD p 0) 4 N fun q => .bool (M p q)
section
variable {w : World} {base g cap : Nat} {rs : List Nat} {N : Nat} {M : Nat → Nat → Bool}
theorem TabW.blk (h : TabW w base g cap rs N M) : ∃ cur, w.heap[g]? = some (.cells cur 51 (0, 0)) := by
  rcases h.own.2 with ⟨e, _⟩ | ⟨g', cap', cur, e, _, hg, _⟩
  · cases e
  · simp only [Value.slice.injEq, Option.some.injEq, Addr.mk.injEq, and_true, true_and] at e
    obtain ⟨rfl, rfl⟩ := e
    exact ⟨cur, hg⟩
theorem TabW.ne (h : TabW w base g cap rs N M) {p : Nat} (hp : p < N) : rs.getD p 0 ≠ g := by
  intro e
  obtain ⟨cur, hg⟩ := h.blk
  obtain ⟨cs, hc, _⟩ := h.row p hp
  rw [e, hg] at hc
  simp at hc
theorem TabW.cell1 (h : TabW w base g cap rs N M) {p : Nat} (hp : p < N) : w.cell? ⟨g, p, none⟩ = some (.slice (some ⟨rs.getD p 0, 0, none⟩) N N) := by
  have hl := h.len
  rw [World.ownsRow.cellAt h.own p (by omega), List.getElem?_map, List.getElem?_eq_getElem (by omega), List.getD_eq_getElem?_getD, List.getElem?_eq_getElem (by omega)]
  rfl
theorem TabW.cell2 (h : TabW w base g cap rs N M) {p q : Nat} (hp : p < N) (hq : q < N) : w.cell? ⟨rs.getD p 0, q, none⟩ = some (.bool (M p q)) := (h.row p hp).cell hq
theorem TabW.reads (h : TabW w base g cap rs N M) : MatR w (.slice (some ⟨g, 0, none⟩) N cap) N M :=
  ⟨g, 0, cap, rfl, fun p hp => ⟨rs.getD p 0, 0, N, by rw [Nat.zero_add]; exact h.cell1 hp, fun q hq => by rw [Nat.zero_add]; exact h.cell2 hp hq, (h.row p hp).imp fun cs hc => ⟨_, hc.1⟩⟩⟩
theorem TabW.congr {M' : Nat → Nat → Bool} (h : TabW w base g cap rs N M) (e : Alike N M M') : TabW w base g cap rs N M' :=
  ⟨h.own, h.len, h.nodup, h.low, fun p hp => (h.row p hp).congr fun q hq => by rw [e p q hp hq]⟩
theorem TabW.below {w' : World} (h : TabW w base g cap rs N M) (hb : Below w.heap.size w w') : TabW w' base g cap rs N M :=
  ⟨h.own.kept (row := none) ⟨hb.os, hb.tape, hb.output, hb.size, fun k hk _ => hb.block k hk⟩ (.inr (by simp [Value.ownBlock])), h.len, h.nodup, h.low, fun p hp => (h.row p hp).of_block (hb.block _ (h.row p hp).lt)⟩
theorem TabW.lower {base' : Nat} (h : TabW w base g cap rs N M) (hb : base' ≤ base) : TabW w base' g cap rs N M :=
  ⟨ownsRow_le h.own hb, h.len, h.nodup, fun p hp => Nat.le_trans hb (h.low p hp), h.row⟩
theorem TabW.drew (h : TabW w base g cap rs N M) : TabW w.drew base g cap rs N M := h.below ⟨rfl, rfl, rfl, Nat.le_refl _, fun _ _ => rfl⟩
theorem TabW.set (h : TabW w base g cap rs N M) {p : Nat} (hp : p < N) (q : Nat) (x : Bool) : TabW (w.setCell ⟨rs.getD p 0, q, none⟩ (.bool x)) base g cap rs N (fun a b => if a = p ∧ b = q then x else M a b) := by
  refine ⟨?_, h.len, h.nodup, h.low, fun a ha => ?_⟩
  · exact h.own.kept (grownBy_set w _ q _) (.inr (by simp only [Value.ownBlock, ne_eq, Option.some.injEq]; exact (h.ne hp).symm))
  · by_cases e : a = p
    · subst e
      refine ((h.row a ha).set q (.bool x)).congr fun b hb => ?_
      by_cases e2 : b = q <;> simp [e2]
    · have hne : rs.getD a 0 ≠ rs.getD p 0 := by
        have hl := h.len
        rw [List.getD_eq_getElem?_getD, List.getD_eq_getElem?_getD, List.getElem?_eq_getElem (by omega), List.getElem?_eq_getElem (by omega)]
        have hpw := List.pairwise_iff_getElem.1 h.nodup
        rcases Nat.lt_trichotomy a p with h1 | h1 | h1
        · exact hpw a p _ _ h1
        · exact absurd h1 e
        · exact (hpw p a _ _ h1).symm
      refine ((h.row a ha).setOther (a := ⟨rs.getD p 0, q, none⟩) hne _).congr fun b hb => ?_
      simp [e]
end
/-! ### an empty table -/
/-- the first k rows -/
structure Rows0 (w : World) (N k : Nat) (v : Value) (rs : List Nat) (wr : World) : Prop where
  own : wr.ownsRow w.heap.size 51 1 v k (rs.map (rowV N))
  len : rs.length = k
  nodup : rs.Nodup
  low : ∀ c ∈ rs, w.heap.size ≤ c
  row : ∀ c ∈ rs, wr.rowIs c 4 N fun _ => .bool false
  frame : Below w.heap.size w wr
theorem Rows0.done {w wr : World} {N : Nat} {g cap : Nat} {rs : List Nat} (h : Rows0 w N N (.slice (some ⟨g, 0, none⟩) N cap) rs wr) : TabW wr w.heap.size g cap rs N (fun _ _ => false) := by
  have hl := h.len
  have hm : ∀ p, p < N → rs.getD p 0 ∈ rs := fun p hp => by
    rw [List.getD_eq_getElem?_getD, List.getElem?_eq_getElem (by omega)]
    exact List.getElem_mem _
  exact ⟨h.own, h.len, h.nodup, fun p hp => h.low _ (hm p hp), fun p hp => h.row _ (hm p hp)⟩
theorem Rows0.start (w : World) (N b : Nat) (hb : b = w.heap.size) (cur : Array Value) (hc : cur = #[]) : Rows0 w N 0 (.slice (some ⟨b, 0, none⟩) 0 0) [] (w.alloc (.cells cur 51)) := by
  subst hb hc
  exact ⟨World.ownsRow_lit (e := 51) (size := 1) w #[] 0 (Nat.le_refl _) (by decide) rfl, rfl, List.nodup_nil, (fun c hc => by cases hc), (fun c hc => by cases hc), (Below.refl _ _).alloc (Nat.le_refl _) _⟩
/-- a row is made -/
theorem Rows0.made {w wr : World} {N k : Nat} {v : Value} {rs : List Nat} (h : Rows0 w N k v rs wr) (cur : Array Value) (hc : cur = madeCells #[Value.bool false] N) (x : Value) :
    Rows0 w N k v rs ((wr.alloc (.cells cur 4)).alloc (.cells #[x] 51)) ∧ wr.heap.size ∉ rs ∧ w.heap.size ≤ wr.heap.size ∧ ((wr.alloc (.cells cur 4)).alloc (.cells #[x] 51)).rowIs wr.heap.size 4 N fun _ => .bool false := by
  subst hc
  refine ⟨⟨World.ownsRow.alloc (World.ownsRow.alloc h.own _) _, h.len, h.nodup, h.low, fun c hc => ((h.row c hc).alloc _).alloc _, (h.frame.alloc h.frame.size _).alloc (by have := h.frame.size; simp; omega) _⟩, fun hm => ?_, h.frame.size, (World.rowIs_made wr _ N _).alloc _⟩
  exact absurd (h.row _ hm).lt (Nat.lt_irrefl _)
/-- and put behind the others -/
theorem Rows0.more {w wr w' : World} {N k c : Nat} {v v' : Value} {rs : List Nat} (h : Rows0 w N k v rs wr) (hn : c ∉ rs) (hlow : w.heap.size ≤ c) (hr : wr.rowIs c 4 N fun _ => .bool false)
    (hown : w'.ownsRow w.heap.size 51 1 v' (k + 1) (rs.map (rowV N) ++ [rowV N c])) (hg : wr.grownBy w' v.ownBlock) : Rows0 w N (k + 1) v' (rs ++ [c]) w' := by
  have hne : ∀ d, (wr.rowIs d 4 N fun _ => .bool false) → some d ≠ v.ownBlock := fun d hd e => by
    obtain ⟨cs, hc, _⟩ := hd
    rcases h.own.2 with ⟨rfl, _⟩ | ⟨g, cap, cur, rfl, _, hgg, _⟩
    · simp [Value.ownBlock] at e
    · simp only [Value.ownBlock, Option.some.injEq] at e
      subst e
      rw [hgg] at hc
      simp at hc
  have hkeep : ∀ d, (wr.rowIs d 4 N fun _ => .bool false) → w'.rowIs d 4 N fun _ => .bool false := fun d hd => hd.of_block (hg.block d hd.lt (hne d hd))
  refine ⟨by simpa using hown, by simp [h.len], ?_, ?_, ?_, h.frame.grown hg h.frame.size fun j e => (h.own.lt j e).1⟩
  · rw [List.nodup_append]
    exact ⟨h.nodup, by simp, fun a ha b hb => by simp at hb; rintro rfl; exact hn (hb ▸ ha)⟩
  · intro d hd
    rcases List.mem_append.1 hd with hd | hd
    · exact h.low d hd
    · simp at hd; subst hd; exact hlow
  · intro d hd
    rcases List.mem_append.1 hd with hd | hd
    · exact hkeep d (h.row d hd)
    · simp at hd; subst hd; exact hkeep d hr
end Go.Proofs.Ytgaadndhecokfaa
