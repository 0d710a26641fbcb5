/- FuStep, FuStart, FuStepP, FuTok, put together. -/
import Derived.Test.YtnjjbaodfjmiaaaGreatLt20
import Derived.Test.YtnjjbaodfjmiaaaGreatLt15
/- Contracts of step and Start, and of the reference's Start. -/
namespace Go.Proofs.YtnjjbaodfjmiaaaGreat
open Go.RowKit Go.Lib Go.Joins
/-- a row of slices -/
def RowV (w : World) (base : Nat) (v : Value) (us : List Value) : Prop := w.ownsRow base 24 1 v us.length us
theorem RowV.form {w : World} {base : Nat} {v : Value} {us : List Value} (h : RowV w base v us) : ∃ a cap, v = .slice a us.length cap := by
  rcases ownsRow_forms h with ⟨rfl, h0⟩ | ⟨g, cap, rfl⟩
  · exact ⟨none, 0, by rw [h0]⟩
  · exact ⟨_, _, rfl⟩
theorem RowV.reads {w : World} {base : Nat} {v : Value} {us : List Value} {F : List (List Int)} (h : RowV w base v us) (hl : us.length = F.length) (hr : ∀ i, i < F.length → RdZ w.heap.size w (us.getD i (.slice none 0 0)) (F.getD i [])) : RdZZ w.heap.size w v F := by
  rcases ownsRow_forms h with ⟨rfl, h0⟩ | ⟨g, cap, rfl⟩
  · have h1 : F.length = 0 := by omega
    exact ⟨none, 0, by rw [h1], by omega, by decide, fun _ => rfl, fun hp => by omega⟩
  · have hcell : ∀ i, i < us.length → w.cell? ⟨g, i, none⟩ = us[i]? := fun i hi => World.ownsRow.cellAt h i (by omega)
    have hlt := (World.ownsRow.lt h g rfl).2
    have hcap : us.length ≤ cap ∧ cap ≤ maxLen := by
      rcases h.2 with ⟨e, _⟩ | ⟨g', cap', cur, e, _, _, hn, hm, _⟩
      · cases e
      · simp only [Value.slice.injEq, Option.some.injEq, Addr.mk.injEq, and_true, true_and] at e
        obtain ⟨rfl, rfl⟩ := e
        exact ⟨hn, hm⟩
    rw [hl] at hcap ⊢
    refine ⟨some ⟨g, 0, none⟩, cap, rfl, hcap.1, hcap.2, (fun e => by cases e), fun _ => ⟨g, 0, rfl, hlt, fun i hi => ⟨us.getD i (.slice none 0 0), ?_, hr i hi⟩⟩⟩
    rw [Nat.zero_add, hcell i (by omega), List.getD_eq_getElem?_getD, List.getElem?_eq_getElem (by omega)]
    rfl
theorem RowV.kept {w w' : World} {base : Nat} {v : Value} {us : List Value} (h : RowV w base v us) (hb : Below w.heap.size w w') : RowV w' base v us :=
  World.ownsRow.kept (row := none) h ⟨hb.os, hb.tape, hb.output, hb.size, fun k hk _ => hb.block k hk⟩ (by cases v.ownBlock <;> simp)
theorem hits_congr {G H : Nat → Bool} {n : Nat} (h : ∀ p, p < n → G p = H p) : hits G n = hits H n := by
  unfold hits
  refine List.filter_congr fun p hp => h p (List.mem_range.1 hp)
end Go.Proofs.YtnjjbaodfjmiaaaGreat

/- Contracts of Start and the reference's Start. -/
namespace Go.Proofs.YtnjjbaodfjmiaaaGreat
open Go.RowKit Go.Lib Go.Joins
def startM (N : NetM) (b : Nat) : List Nat := if rightB N = true then hits (withG N.sets b N.first) N.sets.length else []
set_option maxHeartbeats 4000000 in
set_option maxRecDepth 100000 in
theorem rstart_calls {w : World} {vs vo vl vf v1 : Value} {N : NetM} {b : Nat} (h : RdNet w.heap.size w vs vo vl vf v1 N) (hw : ∀ s ∈ N.sets, s.wide) (hn : N.sets.length ≤ 100000) (hb : b < 256) :
    Calls Tryz.prog 65 #[.agg #[vs, vo, vl, vf, v1], .int .u8 b] w (RetZ w (spI (startM N b))) := by
  have hba := (Below.refl w.heap.size w).alloc (Nat.le_refl _) (.cells #[vs, vo, vl, vf, v1] 72)
  have hbx := net_box w vs vo vl vf v1 72
  obtain ⟨w0, hw0⟩ : ∃ w0, w0 = w.alloc (.cells #[vs, vo, vl, vf, v1] 72) := ⟨_, rfl⟩
  have hs0 : w0.heap.size = w.heap.size + 1 := by rw [hw0]; simp
  rw [← hw0] at hba hbx
  have HBA := hidden hba
  have HBX := hidden hbx
  have HW0 := hidden hw0
  have HS0 := hidden hs0
  have HR := hidden (rright12_calls (h.later hba))
  have HB0 := hidden (Below.refl (w.heap.size + 1) w0)
  have HHV := hidden (fun (hR : rightB N = true) W (hb2 : Below w.heap.size w W) => (show Calls Tryz.prog 92 #[.agg #[vs, vo, vl, vf, v1], v1, .int .u8 b] W (RetZ W (spI (hits (withG N.sets b N.first) N.sets.length))) from by
    have h2 := h.later hb2
    obtain ⟨sa, cs, rfl⟩ := h2.sets.form
    exact rwith12_calls (vo := vo) (vl := vl) (vf := vf) (v1 := v1) (b := b) h2.sets hw h2.first (by assumption) hn))
  have HST := hidden (show startM N b = if rightB N = true then hits (withG N.sets b N.first) N.sets.length else [] from rfl)
  obtain ⟨sa, cs, rfl⟩ := h.sets.form
  obtain ⟨so, co, rfl⟩ := h.of.form
  obtain ⟨sl, cl, rfl⟩ := h.last.form
  obtain ⟨sf, cf, rfl⟩ := h.fol.form
  obtain ⟨s1, c1, rfl⟩ := h.first.form
  generalize N.sets.length = ns at *
  generalize N.of.length = no at *
  generalize N.last.length = nl at *
  generalize N.fol.length = nf at *
  generalize N.first.length = n1 at *
  clear h hba hbx hw hw0 hs0
  cases hR : rightB N
  case' false =>
    rw [hR, if_neg (by decide)] at HST
    rw [hR] at HR
    rw [HST.out, spI_nil]
  case' true =>
    rw [hR, if_pos rfl] at HST
    have HHV := hidden (HHV.out hR)
    rw [hR] at HR
    rw [HST.out]
  all_goals
    clear hR
  all_goals
    go_enter Tryz.func65, Tryz.ntmps65
    obtain ⟨b0, b1, b2, b3, b4⟩ := HBX.out w0 HB0.out
    rw [HW0.out] at b0 b1 b2 b3 b4 HR
    go_wp2_with fail
    refine HR.out.mono ?_
    rintro e w1 ⟨rfl, hb1⟩
    rw [← HW0.out] at hb1
    have HB1 := hidden (show Below (w.heap.size + 1) w0 w1 by rw [← HS0.out]; exact hb1)
    have HBW := hidden (below_then HBA.out HBA.out.size hb1)
    clear hb1 b0 b1 b2 b3 b4
    obtain ⟨b0, b1, b2, b3, b4⟩ := HBX.out w1 HB1.out
  · go_wp2_with fail
    refine (HHV.out w1 HBW.out).mono ?_
    rintro e w2 ⟨u, rfl, hr, hb2⟩
    go_wp2
    go_ret
    exact ⟨_, rfl, hr.lower HBW.out.size, below_after HBW.out hb2⟩
  · go_wp2
    go_ret
    exact ⟨_, rfl, (by
      have := RowZ.lit w1 w1.heap.size rfl #[] rfl
      exact this.lower HBW.out.size), HBW.out.alloc HBW.out.size _⟩
end Go.Proofs.YtnjjbaodfjmiaaaGreat

/- Contracts of Step and the reference's Step. -/
namespace Go.Proofs.YtnjjbaodfjmiaaaGreat
open Go.RowKit Go.Lib Go.Joins
/-- does q stand behind one of the spots of l? -/
def nextB (N : NetM) (l : List Int) (q : Nat) : Bool := l.any fun x => decide (0 ≤ x) && (decide (x < N.sets.length) && decide ((q : Int) ∈ N.fol.getD x.toNat []))
def stepM (N : NetM) (l : List Int) (b : Nat) : List Nat := if rightB N = true then hits (fun q => nextB N l q && selB N.sets b q) N.sets.length else []
end Go.Proofs.YtnjjbaodfjmiaaaGreat

/- Contracts of Token and the reference's Token. -/
namespace Go.Proofs.YtnjjbaodfjmiaaaGreat
open Go.RowKit Go.Lib Go.Joins
/-- is x a spot that is last? -/
def lasB (N : NetM) (x : Int) : Bool := decide (0 ≤ x) && (decide (x < N.sets.length) && N.last.getD x.toNat false)
def tokS (N : NetM) (t : Int) (x : Int) : Int := if (lasB N x && (decide (t < 0) || decide (N.of.getD x.toNat 0 < t))) = true then N.of.getD x.toNat 0 else t
def tokV (N : NetM) (l : List Int) : Int := l.foldl (tokS N) (-1)
def tokenM (N : NetM) (l : List Int) : Int := if rightB N = true then tokV N l else -1
theorem tokV_more (N : NetM) (l : List Int) (k : Nat) (hk : k < l.length) : tokV N (l.take (k + 1)) = tokS N (tokV N (l.take k)) (l.getD k 0) := by
  unfold tokV
  rw [List.take_succ_eq_append_getElem hk, List.foldl_append, List.getD_eq_getElem?_getD, List.getElem?_eq_getElem hk]
  rfl
set_option maxHeartbeats 8000000 in
set_option maxRecDepth 100000 in
theorem rToken_calls {w : World} {v vs vo vl vf v1 : Value} {N : NetM} {l : List Int} (h : RdNet w.heap.size w vs vo vl vf v1 N) (hr : RdZ w.heap.size w v l) (hlen : l.length ≤ 100000) :
    Calls Tryz.prog 67 #[.agg #[vs, vo, vl, vf, v1], v] w fun e w' => e = .returned (.int .i64 (tokenM N l)) ∧ Below w.heap.size w w' := by
  obtain ⟨sa, cs, rfl⟩ := h.sets.form
  obtain ⟨so, co, rfl⟩ := h.of.form
  obtain ⟨sl, cl, rfl⟩ := h.last.form
  obtain ⟨sf, cf, rfl⟩ := h.fol.form
  obtain ⟨s1, c1, rfl⟩ := h.first.form
  obtain ⟨av, cv, rfl⟩ := hr.form
  have hba := (Below.refl w.heap.size w).alloc (Nat.le_refl _) (.cells #[.slice sa N.sets.length cs, .slice so N.of.length co, .slice sl N.last.length cl, .slice sf N.fol.length cf, .slice s1 N.first.length c1] 72)
  have hbx := net_box w (.slice sa N.sets.length cs) (.slice so N.of.length co) (.slice sl N.last.length cl) (.slice sf N.fol.length cf) (.slice s1 N.first.length c1) 72
  obtain ⟨w0, hw0⟩ : ∃ w0, w0 = w.alloc (.cells #[.slice sa N.sets.length cs, .slice so N.of.length co, .slice sl N.last.length cl, .slice sf N.fol.length cf, .slice s1 N.first.length c1] 72) := ⟨_, rfl⟩
  have hs0 : w0.heap.size = w.heap.size + 1 := by rw [hw0]; simp
  rw [← hw0] at hba hbx
  have HBA := hidden hba
  have HBX := hidden hbx
  have HW0 := hidden hw0
  have HS0 := hidden hs0
  have HB0 := hidden (Below.refl (w.heap.size + 1) w0)
  have HR := hidden (rright12_calls (h.later hba))
  have HA := hidden (fun W (hb : Below w.heap.size w W) i (hi : i < l.length) => hr.atZ hb i hi)
  have HOF := hidden (fun W (hb : Below w.heap.size w W) i (hi : i < N.of.length) => h.of.atZ hb i hi)
  have HLA := hidden (fun W (hb : Below w.heap.size w W) i (hi : i < N.last.length) => h.last.at hb i hi)
  have HFN := hidden (fun (hR : rightB N = true) => ((rightB_iff N).1 hR).1)
  have HTM := hidden (fun k (hk : k < l.length) => tokV_more N l k hk)
  have HTE := hidden (show tokV N (l.take l.length) = tokV N l by rw [List.take_length])
  have HTZ := hidden (show tokV N (l.take 0) = -1 from rfl)
  have HTK := hidden (show tokenM N l = if rightB N = true then tokV N l else -1 from rfl)
  have HEB := hidden (fun x => (show lasB N x = (decide (0 ≤ x) && (decide (x < (N.sets.length : Int)) && N.last.getD x.toNat false)) from rfl))
  have HTS := hidden (fun t x => (show tokS N t x = if (lasB N x && (decide (t < 0) || decide (N.of.getD x.toNat 0 < t))) = true then N.of.getD x.toNat 0 else t from rfl))
  generalize N.fol.length = nf at *
  generalize N.first.length = n1 at *
  obtain ⟨ns, hns⟩ : ∃ ns, ns = N.sets.length := ⟨_, rfl⟩
  obtain ⟨no, hno⟩ : ∃ no, no = N.of.length := ⟨_, rfl⟩
  obtain ⟨nl, hnl⟩ : ∃ nl, nl = N.last.length := ⟨_, rfl⟩
  obtain ⟨lv, hlv⟩ : ∃ lv, lv = l.length := ⟨_, rfl⟩
  rw [← hns] at HR HBX HW0 HFN HEB ⊢
  rw [← hno] at HR HBX HW0 HFN HOF ⊢
  rw [← hnl] at HR HBX HW0 HFN HLA ⊢
  rw [← hlv] at HA HTM HTE hlen ⊢
  clear h hba hbx hw0 hs0 hr hns hno hnl hlv
  by_cases hR : rightB N = true
  case neg =>
    rw [if_neg hR] at HTK
    rw [show rightB N = false by simpa using hR] at HR
    rw [HTK.out]
    clear hR
    go_enter Tryz.func67, Tryz.ntmps67
    obtain ⟨b0, b1, b2, b3, b4⟩ := HBX.out w0 HB0.out
    rw [HW0.out] at b0 b1 b2 b3 b4 HR
    go_wp2_with fail
    refine HR.out.mono ?_
    rintro e w1 ⟨rfl, hb1⟩
    rw [← HW0.out] at hb1
    have HBW := hidden (below_then HBA.out HBA.out.size hb1)
    go_wp2
    go_ret
    exact ⟨rfl, HBW.out⟩
  rw [if_pos hR] at HTK
  have HFN := hidden (HFN.out hR)
  rw [hR] at HR
  rw [HTK.out]
  clear hR
  go_enter Tryz.func67, Tryz.ntmps67
  obtain ⟨b0, b1, b2, b3, b4⟩ := HBX.out w0 HB0.out
  rw [HW0.out] at b0 b1 b2 b3 b4 HR
  go_wp2_with fail
  refine HR.out.mono ?_
  rintro e w1 ⟨rfl, hb1⟩
  rw [← HW0.out] at hb1
  have HB1 := hidden (show Below (w.heap.size + 1) w0 w1 by rw [← HS0.out]; exact hb1)
  clear hb1 b0 b1 b2 b3 b4
  go_wp2
  go_loopw [5, 6] (fun v i wr => ∃ (k : Nat) (t : Int), k ≤ lv ∧ v = .int .i64 t ∧ Hid (t = tokV N (l.take k)) ∧ i = .int .i64 k ∧ Below (w.heap.size + 1) w0 wr) (fun _ i _ => lv - (Go.RowKit.intOf i).toNat)
  case atStart => exact ⟨0, -1, by omega, rfl, hidden HTZ.out.symm, rfl, HB1.out⟩
  case round =>
    clear HB1
    obtain ⟨k, t, hk, rfl, HT, rfl, hb3⟩ := hrel
    obtain ⟨wo, rfl⟩ : ∃ wo, wo = wr := ⟨wr, rfl⟩
    have HB := hidden hb3
    have HBW := hidden (show Below w.heap.size w wo from HBA.out.trans (hb3.mono (by omega)))
    have HSZ := hidden (show w.heap.size + 1 ≤ wo.heap.size by have := hb3.size; have := HS0.out; omega)
    obtain ⟨b0, b1, b2, b3, b4⟩ := HBX.out wo HB.out
    have hbl : w.heap.size < wo.heap.size := by have := HSZ.out; omega
    clear hb3
    by_cases hlt : k < lv
    · obtain ⟨ba, oa, rfl, hba, c0⟩ := HA.out wo HBW.out k hlt
      have HK := hidden (HTM.out k hlt)
      have hlt' := hlt
      have hkb : IntKind.i64.wrap ((k : Int) + 1) = (k : Int) + 1 := by rw [IntKind.wrap_i64]; omega
      have hbaw : ba < wo.heap.size := cell_lt c0
      generalize l.getD k 0 = x at *
      have HEX := hidden (HEB.out x)
      have HSX := hidden (HTS.out t x)
      have h0 := fun (p : Later wo) => Later.cell b0 hbl p
      have h1 := fun (p : Later wo) => Later.cell b1 hbl p
      have h2 := fun (p : Later wo) => Later.cell b2 hbl p
      have h3 := fun (p : Later wo) => Later.cell b3 hbl p
      have h4 := fun (p : Later wo) => Later.cell b4 hbl p
      have hc := fun (p : Later wo) => Later.cell c0 hbaw p
      by_cases hx : 0 ≤ x ∧ x < (ns : Int)
      case neg =>
        have hee : lasB N x = false := by
          rw [HEX.out]
          by_cases h0 : 0 ≤ x
          · rw [decide_eq_false (show ¬ x < (ns : Int) by omega)]; simp
          · rw [decide_eq_false h0, Bool.false_and]
        have HT2 := hidden (show t = tokV N (l.take (k + 1)) by rw [HK.out, ← HT.out, HSX.out, hee]; rfl)
        by_cases hx0 : 0 ≤ x
        case' pos =>
          have hd0 : decide (0 ≤ x) = true := decide_eq_true hx0
          have hd1 : decide (x < (ns : Int)) = false := decide_eq_false (by omega)
        case' neg =>
          have hd0 : decide (0 ≤ x) = false := decide_eq_false hx0
        all_goals
          clear hx hx0 hee
          go_wp2
          refine wp_region_later (by kernel_rfl) (by kernel_rfl) ?_
          repeat (go_big_quiet_step (fail))
          refine wpQuiet_nil ?_
          rintro _ ⟨⟨_, hb5⟩, rfl⟩
          rename_i w5
          have HB5 := hidden (below_then HB.out HSZ.out hb5)
          clear hb5 h0 h1 h2 h3 h4 hc b0 b1 b2 b3 b4 c0
          go_wp2
          go_roundw
          case rel => exact ⟨k + 1, t, by omega, rfl, HT2, by go_num, HB5.out⟩
          case measure => simp [Go.RowKit.intOf]; omega
      case pos =>
        obtain ⟨p, rfl⟩ : ∃ p : Nat, x = p := ⟨x.toNat, by omega⟩
        have hd0 : decide (0 ≤ (p : Int)) = true := decide_eq_true hx.1
        have hd1 : decide ((p : Int) < (ns : Int)) = true := decide_eq_true hx.2
        have hd2 : decide (p < ns) = true := decide_eq_true (by omega)
        have hpo : p < no := by have := HFN.out; omega
        have hpl : p < nl := by have := HFN.out; omega
        have hpoi : (p : Int) < (no : Int) := by omega
        have hpli : (p : Int) < (nl : Int) := by omega
        rw [hd0, hd1, Bool.true_and, Bool.true_and, Int.toNat_natCast] at HEX
        rw [Int.toNat_natCast, HEX.out] at HSX
        obtain ⟨bo, oo, rfl, hbo, e0⟩ := HOF.out wo HBW.out p hpo
        obtain ⟨bl, ol, rfl, hbl2, f0⟩ := HLA.out wo HBW.out p hpl
        have hbow : bo < wo.heap.size := cell_lt e0
        have hblw : bl < wo.heap.size := cell_lt f0
        generalize N.of.getD p 0 = y at *
        generalize N.last.getD p false = lb at *
        have he := fun (p : Later wo) => Later.cell e0 hbow p
        have hf := fun (p : Later wo) => Later.cell f0 hblw p
        clear hx HEX
        have WALK1 : True := trivial
        cases lb
        case false =>
          have HT2 := hidden (show t = tokV N (l.take (k + 1)) by rw [HK.out, ← HT.out, HSX.out]; rfl)
          go_wp2
          refine wp_region_later (by kernel_rfl) (by kernel_rfl) ?_
          repeat (go_big_quiet_step (fail))
          refine wpQuiet_nil ?_
          rintro _ ⟨⟨_, hb5⟩, rfl⟩
          rename_i w5
          have HB5 := hidden (below_then HB.out HSZ.out hb5)
          clear hb5 h0 h1 h2 h3 h4 hc he hf b0 b1 b2 b3 b4 c0 e0 f0
          go_wp2
          go_roundw
          case rel => exact ⟨k + 1, t, by omega, rfl, HT2, by go_num, HB5.out⟩
          case measure => simp [Go.RowKit.intOf]; omega
        case true =>
          rw [Bool.true_and] at HSX
          by_cases htt : t < 0 ∨ y < t
          case neg =>
            have g0 : decide (t < 0) = false := decide_eq_false (by omega)
            have g1 : decide (y < t) = false := decide_eq_false (by omega)
            have HT2 := hidden (show t = tokV N (l.take (k + 1)) by rw [HK.out, ← HT.out, HSX.out, g0, g1]; rfl)
            clear htt
            go_wp2
            refine wp_region_later (by kernel_rfl) (by kernel_rfl) ?_
            repeat (go_big_quiet_step (fail))
            refine wpQuiet_nil ?_
            rintro _ ⟨⟨_, hb5⟩, rfl⟩
            rename_i w5
            have HB5 := hidden (below_then HB.out HSZ.out hb5)
            clear hb5 h0 h1 h2 h3 h4 hc he hf b0 b1 b2 b3 b4 c0 e0 f0
            go_wp2
            go_roundw
            case rel => exact ⟨k + 1, t, by omega, rfl, HT2, by go_num, HB5.out⟩
            case measure => simp [Go.RowKit.intOf]; omega
          case pos =>
            have HT2 := hidden (show y = tokV N (l.take (k + 1)) by
              rw [HK.out, ← HT.out, HSX.out, if_pos (by simpa using htt)])
            by_cases ht0 : t < 0
            case' pos => have g0 : decide (t < 0) = true := decide_eq_true ht0
            case' neg =>
              have g0 : decide (t < 0) = false := decide_eq_false ht0
              have g1 : decide (y < t) = true := decide_eq_true (by omega)
            all_goals
              clear htt ht0
              go_wp2
              refine wp_region_later (by kernel_rfl) (by kernel_rfl) ?_
              repeat (go_big_quiet_step (fail))
              refine wpQuiet_nil ?_
              rintro _ ⟨⟨_, hb5⟩, rfl⟩
              rename_i w5
              have HB5 := hidden (below_then HB.out HSZ.out hb5)
              have c5 := (hb5.cell (p := ⟨ba, oa + k, none⟩) hbaw).trans c0
              have e5 := (hb5.cell (p := ⟨bo, oo + p, none⟩) hbow).trans e0
              have hs5 := hb5.size
              clear hb5 h0 h1 h2 h3 h4 hc he hf b0 b1 b2 b3 b4 c0 e0 f0
              obtain ⟨b0, b1, b2, b3, b4⟩ := HBX.out w5 HB5.out
              have hbl5 : w.heap.size < w5.heap.size := by omega
              have h0 := fun (p : Later w5) => Later.cell b0 hbl5 p
              have h1 := fun (p : Later w5) => Later.cell b1 hbl5 p
              have h2 := fun (p : Later w5) => Later.cell b2 hbl5 p
              have h3 := fun (p : Later w5) => Later.cell b3 hbl5 p
              have h4 := fun (p : Later w5) => Later.cell b4 hbl5 p
              have hc := fun (p : Later w5) => Later.cell c5 (show ba < w5.heap.size by omega) p
              have he := fun (p : Later w5) => Later.cell e5 (show bo < w5.heap.size by omega) p
              have HS5 := hidden (show w.heap.size + 1 ≤ w5.heap.size by omega)
              go_wp2
              refine wp_region_later (by kernel_rfl) (by kernel_rfl) ?_
              repeat (go_big_quiet_step (fail))
              refine wpQuiet_nil ?_
              rintro _ ⟨⟨_, hb6⟩, rfl⟩
              rename_i w6
              have HB6 := hidden (below_then HB5.out HS5.out hb6)
              clear hb6 h0 h1 h2 h3 h4 hc he b0 b1 b2 b3 b4 c5 e5
              go_wp2
              go_roundw
              case rel => exact ⟨k + 1, y, by omega, rfl, HT2, by go_num, HB6.out⟩
              case measure => simp [Go.RowKit.intOf]; omega
    · obtain rfl : k = lv := by omega
      have hdk : decide ((k : Int) < (k : Int)) = false := by simp
      have HF := hidden (HT.out.trans HTE.out)
      go_wp2
      go_ret
      exact ⟨ret_i HF.out, HBW.out⟩
end Go.Proofs.YtnjjbaodfjmiaaaGreat
