/- FuStart, FuStepP, FuTok, put together. -/
import Derived.Test.YtbokhofdgdcpdaaDoorFu29
import Derived.Test.YtbokhofdgdcpdaaDoorFu20
/- Contracts of Start and the reference's Start. -/
namespace Go.Proofs.YtbokhofdgdcpdaaDoor
open Go.RowKit Go.Lib Go.Joins
def startM (N : NetM) (b : Nat) : List Nat := if rightB N = true then hits (withG N.sets b N.first) N.sets.length else []
set_option maxHeartbeats 4000000 in
set_option maxRecDepth 100000 in
theorem start_calls {w : World} {vs vo vl vf v1 : Value} {N : NetM} {b : Nat} (h : RdNet w.heap.size w vs vo vl vf v1 N) (hw : ∀ s ∈ N.sets, s.wide) (hn1 : N.first.length ≤ 100000) (hb : b < 256) :
    Calls Tryd.prog 37 #[.agg #[vs, vo, vl, vf, v1], .int .u8 b] w (RetZ w (spI (startM N b))) := by
  have hba := (Below.refl w.heap.size w).alloc (Nat.le_refl _) (.cells #[vs, vo, vl, vf, v1] 48)
  have hbx := net_box w vs vo vl vf v1 48
  obtain ⟨w0, hw0⟩ : ∃ w0, w0 = w.alloc (.cells #[vs, vo, vl, vf, v1] 48) := ⟨_, rfl⟩
  have hs0 : w0.heap.size = w.heap.size + 1 := by rw [hw0]; simp
  rw [← hw0] at hba hbx
  have HBA := hidden hba
  have HBX := hidden hbx
  have HW0 := hidden hw0
  have HS0 := hidden hs0
  have HR := hidden (right12_calls (h.later hba))
  have HB0 := hidden (Below.refl (w.heap.size + 1) w0)
  have HHV := hidden (fun (hR : rightB N = true) W (hb2 : Below w.heap.size w W) => (show Calls Tryd.prog 68 #[.agg #[vs, vo, vl, vf, v1], v1, .int .u8 b] W (RetZ W (spI (hits (withG N.sets b N.first) N.sets.length))) from by
    have h2 := h.later hb2
    obtain ⟨sa, cs, rfl⟩ := h2.sets.form
    have h1 := having_calls (vo := vo) (vl := vl) (vf := vf) (v1 := v1) (b := b) h2.sets hw h2.first (by assumption) (right_first hR).2 hn1
    rw [filter_with (right_first hR).1 (right_first hR).2] at h1
    exact h1))
  have HST := hidden (show startM N b = if rightB N = true then hits (withG N.sets b N.first) N.sets.length else [] from rfl)
  obtain ⟨sa, cs, rfl⟩ := h.sets.form
  obtain ⟨so, co, rfl⟩ := h.of.form
  obtain ⟨sl, cl, rfl⟩ := h.last.form
  obtain ⟨sf, cf, rfl⟩ := h.fol.form
  obtain ⟨s1, c1, rfl⟩ := h.first.form
  generalize N.sets.length = ns at *
  generalize N.of.length = no at *
  generalize N.last.length = nl at *
  generalize N.fol.length = nf at *
  generalize N.first.length = n1 at *
  clear h hba hbx hw hw0 hs0
  cases hR : rightB N
  case' false =>
    rw [hR, if_neg (by decide)] at HST
    rw [hR] at HR
    rw [HST.out, spI_nil]
  case' true =>
    rw [hR, if_pos rfl] at HST
    have HHV := hidden (HHV.out hR)
    rw [hR] at HR
    rw [HST.out]
  all_goals
    clear hR
  all_goals
    go_enter Tryd.func37, Tryd.ntmps37
    obtain ⟨b0, b1, b2, b3, b4⟩ := HBX.out w0 HB0.out
    rw [HW0.out] at b0 b1 b2 b3 b4 HR
    go_wp2_with fail
    refine HR.out.mono ?_
    rintro e w1 ⟨rfl, hb1⟩
    rw [← HW0.out] at hb1
    have HB1 := hidden (show Below (w.heap.size + 1) w0 w1 by rw [← HS0.out]; exact hb1)
    have HBW := hidden (below_then HBA.out HBA.out.size hb1)
    clear hb1 b0 b1 b2 b3 b4
    obtain ⟨b0, b1, b2, b3, b4⟩ := HBX.out w1 HB1.out
  · go_wp2_with fail
    refine (HHV.out w1 HBW.out).mono ?_
    rintro e w2 ⟨u, rfl, hr, hb2⟩
    go_wp2
    go_ret
    exact ⟨_, rfl, hr.lower HBW.out.size, below_after HBW.out hb2⟩
  · go_wp2
    go_ret
    exact ⟨_, rfl, RowZ.nil _ _, HBW.out⟩
set_option maxHeartbeats 4000000 in
set_option maxRecDepth 100000 in
theorem rstart_calls {w : World} {vs vo vl vf v1 : Value} {N : NetM} {b : Nat} (h : RdNet w.heap.size w vs vo vl vf v1 N) (hw : ∀ s ∈ N.sets, s.wide) (hn : N.sets.length ≤ 100000) (hb : b < 256) :
    Calls Tryd.prog 38 #[.agg #[vs, vo, vl, vf, v1], .int .u8 b] w (RetZ w (spI (startM N b))) := by
  have hba := (Below.refl w.heap.size w).alloc (Nat.le_refl _) (.cells #[vs, vo, vl, vf, v1] 48)
  have hbx := net_box w vs vo vl vf v1 48
  obtain ⟨w0, hw0⟩ : ∃ w0, w0 = w.alloc (.cells #[vs, vo, vl, vf, v1] 48) := ⟨_, rfl⟩
  have hs0 : w0.heap.size = w.heap.size + 1 := by rw [hw0]; simp
  rw [← hw0] at hba hbx
  have HBA := hidden hba
  have HBX := hidden hbx
  have HW0 := hidden hw0
  have HS0 := hidden hs0
  have HR := hidden (rright12_calls (h.later hba))
  have HB0 := hidden (Below.refl (w.heap.size + 1) w0)
  have HHV := hidden (fun (hR : rightB N = true) W (hb2 : Below w.heap.size w W) => (show Calls Tryd.prog 69 #[.agg #[vs, vo, vl, vf, v1], v1, .int .u8 b] W (RetZ W (spI (hits (withG N.sets b N.first) N.sets.length))) from by
    have h2 := h.later hb2
    obtain ⟨sa, cs, rfl⟩ := h2.sets.form
    exact rwith12_calls (vo := vo) (vl := vl) (vf := vf) (v1 := v1) (b := b) h2.sets hw h2.first (by assumption) hn))
  have HST := hidden (show startM N b = if rightB N = true then hits (withG N.sets b N.first) N.sets.length else [] from rfl)
  obtain ⟨sa, cs, rfl⟩ := h.sets.form
  obtain ⟨so, co, rfl⟩ := h.of.form
  obtain ⟨sl, cl, rfl⟩ := h.last.form
  obtain ⟨sf, cf, rfl⟩ := h.fol.form
  obtain ⟨s1, c1, rfl⟩ := h.first.form
  generalize N.sets.length = ns at *
  generalize N.of.length = no at *
  generalize N.last.length = nl at *
  generalize N.fol.length = nf at *
  generalize N.first.length = n1 at *
  clear h hba hbx hw hw0 hs0
  cases hR : rightB N
  case' false =>
    rw [hR, if_neg (by decide)] at HST
    rw [hR] at HR
    rw [HST.out, spI_nil]
  case' true =>
    rw [hR, if_pos rfl] at HST
    have HHV := hidden (HHV.out hR)
    rw [hR] at HR
    rw [HST.out]
  all_goals
    clear hR
  all_goals
    go_enter Tryd.func38, Tryd.ntmps38
    obtain ⟨b0, b1, b2, b3, b4⟩ := HBX.out w0 HB0.out
    rw [HW0.out] at b0 b1 b2 b3 b4 HR
    go_wp2_with fail
    refine HR.out.mono ?_
    rintro e w1 ⟨rfl, hb1⟩
    rw [← HW0.out] at hb1
    have HB1 := hidden (show Below (w.heap.size + 1) w0 w1 by rw [← HS0.out]; exact hb1)
    have HBW := hidden (below_then HBA.out HBA.out.size hb1)
    clear hb1 b0 b1 b2 b3 b4
    obtain ⟨b0, b1, b2, b3, b4⟩ := HBX.out w1 HB1.out
  · go_wp2_with fail
    refine (HHV.out w1 HBW.out).mono ?_
    rintro e w2 ⟨u, rfl, hr, hb2⟩
    go_wp2
    go_ret
    exact ⟨_, rfl, hr.lower HBW.out.size, below_after HBW.out hb2⟩
  · go_wp2
    go_ret
    exact ⟨_, rfl, (by
      have := RowZ.lit w1 w1.heap.size rfl #[] rfl
      exact this.lower HBW.out.size), HBW.out.alloc HBW.out.size _⟩
end Go.Proofs.YtbokhofdgdcpdaaDoor

/- Contracts of Step and the reference's Step. -/
namespace Go.Proofs.YtbokhofdgdcpdaaDoor
open Go.RowKit Go.Lib Go.Joins
/-- does q stand behind one of the spots of l? -/
def nextB (N : NetM) (l : List Int) (q : Nat) : Bool := l.any fun x => decide (0 ≤ x) && (decide (x < N.sets.length) && decide ((q : Int) ∈ N.fol.getD x.toNat []))
def stepM (N : NetM) (l : List Int) (b : Nat) : List Nat := if rightB N = true then hits (fun q => nextB N l q && selB N.sets b q) N.sets.length else []
theorem next_joined (N : NetM) (l : List Int) (q : Nat) : anyB (folsOf N (spI (hits (anyB [l]) N.sets.length))) q = nextB N l q := by
  unfold anyB folsOf nextB
  rw [Bool.eq_iff_iff]
  simp only [List.any_eq_true, List.mem_map, decide_eq_true_eq, Bool.and_eq_true]
  constructor
  · rintro ⟨f, ⟨x, hx, rfl⟩, hq⟩
    obtain ⟨p, rfl, hp⟩ := (mem_spIZ _ _).1 hx
    obtain ⟨h1, h2⟩ := (hits_mem _ _ _).1 hp
    simp only [List.any_cons, List.any_nil, Bool.or_false, decide_eq_true_eq] at h2
    exact ⟨p, h2, by omega, by omega, hq⟩
  · rintro ⟨x, hx, h0, h1, hq⟩
    refine ⟨_, ⟨x, (mem_spIZ _ _).2 ⟨x.toNat, by omega, (hits_mem _ _ _).2 ⟨by omega, ?_⟩⟩, rfl⟩, hq⟩
    simp only [List.any_cons, List.any_nil, Bool.or_false, decide_eq_true_eq]
    rw [show ((x.toNat : Nat) : Int) = x by omega]
    exact hx
/-- one list, in a literal -/
theorem one_zz {w : World} {v : Value} {l : List Int} (h : RdZ w.heap.size w v l) (g : Nat) (hg : g = w.heap.size) : RdZZ (w.alloc (.cells #[v] 30)).heap.size (w.alloc (.cells #[v] 30)) (.slice (some ⟨g, 0, none⟩) 1 1) [l] := by
  subst hg
  refine ⟨some ⟨w.heap.size, 0, none⟩, 1, rfl, Nat.le_refl _, by decide, (fun e => by cases e), fun _ => ⟨w.heap.size, 0, rfl, by simp, fun i hi => ?_⟩⟩
  have hi0 : i = 0 := by simpa using hi
  subst hi0
  refine ⟨v, ?_, h.later ((Below.refl _ _).alloc (Nat.le_refl _) _)⟩
  rw [cell_of_row _ _ _ _ _ _ (heap_alloc_new w (.cells #[v] 30))]
  rfl
set_option maxHeartbeats 8000000 in
set_option maxRecDepth 100000 in
theorem Step_calls {w : World} {v vs vo vl vf v1 : Value} {N : NetM} {b : Nat} {l : List Int} (h : RdNet w.heap.size w vs vo vl vf v1 N) (hw : ∀ s ∈ N.sets, s.wide) (hn : N.sets.length ≤ 100000) (hr : RdZ w.heap.size w v l) (hb : b < 256) :
    Calls Tryd.prog 39 #[.agg #[vs, vo, vl, vf, v1], v, .int .u8 b] w (RetZ w (spI (stepM N l b))) := by
  have hba := (Below.refl w.heap.size w).alloc (Nat.le_refl _) (.cells #[vs, vo, vl, vf, v1] 48)
  have hbx := net_box w vs vo vl vf v1 48
  obtain ⟨w0, hw0⟩ : ∃ w0, w0 = w.alloc (.cells #[vs, vo, vl, vf, v1] 48) := ⟨_, rfl⟩
  have hs0 : w0.heap.size = w.heap.size + 1 := by rw [hw0]; simp
  rw [← hw0] at hba hbx
  have HBA := hidden hba
  have HBX := hidden hbx
  have HW0 := hidden hw0
  have HS0 := hidden hs0
  have HR := hidden (right12_calls (h.later hba))
  have HB0 := hidden (Below.refl (w.heap.size + 1) w0)
  have HJ := hidden (fun W (hb2 : Below w.heap.size w W) g (hg : g = W.heap.size) => joined_calls (w := W.alloc (.cells #[v] 30)) (n := N.sets.length) (one_zz (hr.later hb2) g hg) hn)
  have HSP := hidden (fun (hR : rightB N = true) W (hb2 : Below w.heap.size w W) u (hu : RdZ W.heap.size W u (spI (hits (anyB [l]) N.sets.length))) => (show Calls Tryd.prog 70 #[.agg #[vs, vo, vl, vf, v1], u, .int .u8 b] W (RetZ W (spI (hits (fun q => nextB N l q && selB N.sets b q) N.sets.length))) from by
    have h1 := step_calls (b := b) (h.later hb2) hw hR hn hu (by assumption) (fun x hx => by
      obtain ⟨p, rfl, hp⟩ := (mem_spIZ _ _).1 hx
      have := ((hits_mem _ _ _).1 hp).1
      omega) (by rw [spI_len]; have := hits_len (anyB [l]) N.sets.length; omega)
    rw [hits_congr (H := fun q => nextB N l q && selB N.sets b q) (fun p _ => by rw [next_joined])] at h1
    exact h1))
  have HST := hidden (show stepM N l b = if rightB N = true then hits (fun q => nextB N l q && selB N.sets b q) N.sets.length else [] from rfl)
  obtain ⟨sa, cs, rfl⟩ := h.sets.form
  obtain ⟨so, co, rfl⟩ := h.of.form
  obtain ⟨sl, cl, rfl⟩ := h.last.form
  obtain ⟨sf, cf, rfl⟩ := h.fol.form
  obtain ⟨s1, c1, rfl⟩ := h.first.form
  obtain ⟨av, cv, rfl⟩ := hr.form
  generalize N.sets.length = ns at *
  generalize N.of.length = no at *
  generalize N.last.length = nl at *
  generalize N.fol.length = nf at *
  generalize N.first.length = n1 at *
  generalize hlv : l.length = lv at *
  clear h hba hbx hw hw0 hs0 hr hlv
  by_cases hR : rightB N = true
  · rw [if_pos hR] at HST
    have HSP := hidden (HSP.out hR)
    rw [hR] at HR
    rw [HST.out]
    clear hR
    go_enter Tryd.func39, Tryd.ntmps39
    obtain ⟨b0, b1, b2, b3, b4⟩ := HBX.out w0 HB0.out
    rw [HW0.out] at b0 b1 b2 b3 b4 HR
    go_wp2_with fail
    refine HR.out.mono ?_
    rintro e w1 ⟨rfl, hb1⟩
    rw [← HW0.out] at hb1
    have HB1 := hidden (show Below (w.heap.size + 1) w0 w1 by rw [← HS0.out]; exact hb1)
    have HBW := hidden (below_then HBA.out HBA.out.size hb1)
    have HSZ := hidden (show w.heap.size + 1 ≤ w1.heap.size by have := HB1.out.size; have := HS0.out; omega)
    clear hb1 b0 b1 b2 b3 b4
    obtain ⟨b0, b1, b2, b3, b4⟩ := HBX.out w1 HB1.out
    have hbl : w.heap.size < w1.heap.size := by have := HSZ.out; omega
    go_wp2
    go_region_with (first
      | (go_at_call 71; refine (HJ.out _ (HBW.out.trans (below_drawn (Below.refl _ _) 1)) _ rfl).mono ?_; rintro e w5 ⟨u5, rfl, hr5, hb5⟩; have HR5 := hidden hr5.reads; have HB5 := hidden (show Below w1.heap.size w1 w5 from below_then ((below_refl_drew w1).alloc (Nat.le_refl _) _) (by simp) hb5); obtain ⟨a5, c5, rfl⟩ := hr5.form; obtain ⟨x0, x1, x2, x3, x4⟩ := HBX.out w5 (below_then HB1.out HSZ.out HB5.out); clear hr5 hb5)
      | (go_at_call 70; refine (HSP.out w5 (below_after HBW.out HB5.out) _ HR5.out).mono ?_; rintro e w6 ⟨u6, rfl, hr6, hb6⟩; have HR6 := hidden hr6; have HB6 := hidden (below_after HB5.out hb6); clear hr6 hb6))
    all_goals
      go_wp2
      go_ret
      exact ⟨_, rfl, HR6.out.lower (by have := HB5.out.size; have := HSZ.out; omega), below_after HBW.out HB6.out⟩
  · rw [if_neg hR] at HST
    rw [show rightB N = false by simpa using hR] at HR
    rw [HST.out, spI_nil]
    clear hR
    go_enter Tryd.func39, Tryd.ntmps39
    obtain ⟨b0, b1, b2, b3, b4⟩ := HBX.out w0 HB0.out
    rw [HW0.out] at b0 b1 b2 b3 b4 HR
    go_wp2_with fail
    refine HR.out.mono ?_
    rintro e w1 ⟨rfl, hb1⟩
    rw [← HW0.out] at hb1
    have HBW := hidden (below_then HBA.out HBA.out.size hb1)
    go_wp2
    go_ret
    exact ⟨_, rfl, RowZ.nil _ _, HBW.out⟩
end Go.Proofs.YtbokhofdgdcpdaaDoor

/- Contracts of Token and the reference's Token. -/
namespace Go.Proofs.YtbokhofdgdcpdaaDoor
open Go.RowKit Go.Lib Go.Joins
/-- is x a spot that is last? -/
def lasB (N : NetM) (x : Int) : Bool := decide (0 ≤ x) && (decide (x < N.sets.length) && N.last.getD x.toNat false)
def tokS (N : NetM) (t : Int) (x : Int) : Int := if (lasB N x && (decide (t < 0) || decide (N.of.getD x.toNat 0 < t))) = true then N.of.getD x.toNat 0 else t
def tokV (N : NetM) (l : List Int) : Int := l.foldl (tokS N) (-1)
def tokenM (N : NetM) (l : List Int) : Int := if rightB N = true then tokV N l else -1
theorem spI_getDJ (N : List Nat) (j : Nat) : (spI N).getD j 0 = ((N.getD j 0 : Nat) : Int) := by
  unfold spI
  rw [List.getD_eq_getElem?_getD, List.getD_eq_getElem?_getD, List.getElem?_map]
  cases N[j]? <;> rfl
theorem tokV_more (N : NetM) (l : List Int) (k : Nat) (hk : k < l.length) : tokV N (l.take (k + 1)) = tokS N (tokV N (l.take k)) (l.getD k 0) := by
  unfold tokV
  rw [List.take_succ_eq_append_getElem hk, List.foldl_append, List.getD_eq_getElem?_getD, List.getElem?_eq_getElem hk]
  rfl
/-- what a token that is told is -/
def IsTok (N : NetM) (P : Int → Prop) (t : Int) : Prop := (t = -1 ∧ ∀ x, P x → lasB N x = false) ∨ (0 ≤ t ∧ (∃ x, P x ∧ lasB N x = true ∧ N.of.getD x.toNat 0 = t) ∧ ∀ x, P x → lasB N x = true → t ≤ N.of.getD x.toNat 0)
theorem tok_one {N : NetM} {P : Int → Prop} {s t : Int} (h : IsTok N P s) (k : IsTok N P t) : s = t := by
  rcases h with ⟨rfl, h⟩ | ⟨h0, ⟨x, hx, he, hs⟩, hm⟩
  · rcases k with ⟨rfl, _⟩ | ⟨_, ⟨y, hy, he, _⟩, _⟩
    · rfl
    · rw [h y hy] at he; cases he
  · rcases k with ⟨rfl, k⟩ | ⟨_, ⟨y, hy, hf, ht⟩, kn⟩
    · rw [k x hx] at he; cases he
    · have h1 := hm y hy hf
      have h2 := kn x hx he
      omega
theorem tok_is {N : NetM} (hR : rightB N = true) : ∀ l : List Int, IsTok N (· ∈ l) (tokV N l) := by
  have key : ∀ (l : List Int) (P : Int → Prop) (t : Int), IsTok N P t → IsTok N (fun x => P x ∨ x ∈ l) (l.foldl (tokS N) t) := by
    intro l
    induction l with
    | nil => intro P t h; simpa using h
    | cons y r ih =>
      intro P t h
      have h1 : IsTok N (fun x => P x ∨ x = y) (tokS N t y) := by
        unfold tokS
        by_cases he : lasB N y = true
        · have hof : 0 ≤ N.of.getD y.toNat 0 := by
            unfold lasB at he
            simp only [Bool.and_eq_true, decide_eq_true_eq] at he
            exact (right_fol hR y.toNat (by omega)).1
          rw [he, Bool.true_and]
          rcases h with ⟨rfl, h⟩ | ⟨h0, ⟨x, hx, hxe, hs⟩, hm⟩
          · rw [if_pos (by simp)]
            refine .inr ⟨hof, ⟨y, .inr rfl, he, rfl⟩, fun x hx hxe => ?_⟩
            rcases hx with hx | rfl
            · rw [h x hx] at hxe; cases hxe
            · exact Int.le_refl _
          · by_cases hlt : N.of.getD y.toNat 0 < t
            · rw [if_pos (by rw [decide_eq_true hlt, Bool.or_true])]
              refine .inr ⟨hof, ⟨y, .inr rfl, he, rfl⟩, fun x hx hxe => ?_⟩
              rcases hx with hx | rfl
              · have := hm x hx hxe; omega
              · exact Int.le_refl _
            · rw [if_neg (by simp only [Bool.or_eq_true, decide_eq_true_eq]; omega)]
              refine .inr ⟨h0, ⟨x, .inl hx, hxe, hs⟩, fun z hz hze => ?_⟩
              rcases hz with hz | rfl
              · exact hm z hz hze
              · omega
        · have he' : lasB N y = false := by simpa using he
          rw [he', Bool.false_and, if_neg (by decide)]
          rcases h with ⟨rfl, h⟩ | ⟨h0, ⟨x, hx, hxe, hs⟩, hm⟩
          · refine .inl ⟨rfl, fun x hx => ?_⟩
            rcases hx with hx | rfl
            · exact h x hx
            · exact he'
          · refine .inr ⟨h0, ⟨x, .inl hx, hxe, hs⟩, fun z hz hze => ?_⟩
            rcases hz with hz | rfl
            · exact hm z hz hze
            · rw [he'] at hze; cases hze
      have h2 := ih _ _ h1
      rw [List.foldl_cons]
      have e : (fun x => (P x ∨ x = y) ∨ x ∈ r) = (fun x => P x ∨ x ∈ y :: r) := by
        funext x
        rw [List.mem_cons, or_assoc]
      rw [e] at h2
      exact h2
  intro l
  have := key l (fun _ => False) (-1) (.inl ⟨rfl, fun x h => h.elim⟩)
  unfold tokV
  simpa using this
/-- which list tells the spots makes no difference -/
theorem tok_joined {N : NetM} (hR : rightB N = true) (l : List Int) : tokV N (spI (hits (anyB [l]) N.sets.length)) = tokV N l := by
  have h1 := tok_is hR (spI (hits (anyB [l]) N.sets.length))
  have h2 := tok_is hR l
  have hin : ∀ x, lasB N x = true → (x ∈ spI (hits (anyB [l]) N.sets.length) ↔ x ∈ l) := fun x he => by
    unfold lasB at he
    simp only [Bool.and_eq_true, decide_eq_true_eq] at he
    rw [mem_spIZ]
    constructor
    · rintro ⟨p, rfl, hp⟩
      have := ((hits_mem _ _ _).1 hp).2
      simpa [anyB] using this
    · intro hx
      refine ⟨x.toNat, by omega, (hits_mem _ _ _).2 ⟨by omega, ?_⟩⟩
      simp only [anyB, List.any_cons, List.any_nil, Bool.or_false, decide_eq_true_eq]
      rw [show ((x.toNat : Nat) : Int) = x by omega]
      exact hx
  refine tok_one (P := (· ∈ l)) ?_ h2
  rcases h1 with ⟨e, h⟩ | ⟨h0, ⟨x, hx, he, hs⟩, hm⟩
  · refine .inl ⟨e, fun x hx => ?_⟩
    cases he : lasB N x
    · rfl
    · rw [h x ((hin x he).2 hx)] at he; cases he
  · exact .inr ⟨h0, ⟨x, (hin x he).1 hx, he, hs⟩, fun z hz hze => hm z ((hin z hze).2 hz) hze⟩
set_option maxHeartbeats 8000000 in
set_option maxRecDepth 100000 in
theorem rToken_calls {w : World} {v vs vo vl vf v1 : Value} {N : NetM} {l : List Int} (h : RdNet w.heap.size w vs vo vl vf v1 N) (hr : RdZ w.heap.size w v l) (hlen : l.length ≤ 100000) :
    Calls Tryd.prog 44 #[.agg #[vs, vo, vl, vf, v1], v] w fun e w' => e = .returned (.int .i64 (tokenM N l)) ∧ Below w.heap.size w w' := by
  obtain ⟨sa, cs, rfl⟩ := h.sets.form
  obtain ⟨so, co, rfl⟩ := h.of.form
  obtain ⟨sl, cl, rfl⟩ := h.last.form
  obtain ⟨sf, cf, rfl⟩ := h.fol.form
  obtain ⟨s1, c1, rfl⟩ := h.first.form
  obtain ⟨av, cv, rfl⟩ := hr.form
  have hba := (Below.refl w.heap.size w).alloc (Nat.le_refl _) (.cells #[.slice sa N.sets.length cs, .slice so N.of.length co, .slice sl N.last.length cl, .slice sf N.fol.length cf, .slice s1 N.first.length c1] 48)
  have hbx := net_box w (.slice sa N.sets.length cs) (.slice so N.of.length co) (.slice sl N.last.length cl) (.slice sf N.fol.length cf) (.slice s1 N.first.length c1) 48
  obtain ⟨w0, hw0⟩ : ∃ w0, w0 = w.alloc (.cells #[.slice sa N.sets.length cs, .slice so N.of.length co, .slice sl N.last.length cl, .slice sf N.fol.length cf, .slice s1 N.first.length c1] 48) := ⟨_, rfl⟩
  have hs0 : w0.heap.size = w.heap.size + 1 := by rw [hw0]; simp
  rw [← hw0] at hba hbx
  have HBA := hidden hba
  have HBX := hidden hbx
  have HW0 := hidden hw0
  have HS0 := hidden hs0
  have HB0 := hidden (Below.refl (w.heap.size + 1) w0)
  have HR := hidden (rright12_calls (h.later hba))
  have HA := hidden (fun W (hb : Below w.heap.size w W) i (hi : i < l.length) => hr.atZ hb i hi)
  have HOF := hidden (fun W (hb : Below w.heap.size w W) i (hi : i < N.of.length) => h.of.atZ hb i hi)
  have HLA := hidden (fun W (hb : Below w.heap.size w W) i (hi : i < N.last.length) => h.last.at hb i hi)
  have HFN := hidden (fun (hR : rightB N = true) => ((rightB_iff N).1 hR).1)
  have HTM := hidden (fun k (hk : k < l.length) => tokV_more N l k hk)
  have HTE := hidden (show tokV N (l.take l.length) = tokV N l by rw [List.take_length])
  have HTZ := hidden (show tokV N (l.take 0) = -1 from rfl)
  have HTK := hidden (show tokenM N l = if rightB N = true then tokV N l else -1 from rfl)
  have HEB := hidden (fun x => (show lasB N x = (decide (0 ≤ x) && (decide (x < (N.sets.length : Int)) && N.last.getD x.toNat false)) from rfl))
  have HTS := hidden (fun t x => (show tokS N t x = if (lasB N x && (decide (t < 0) || decide (N.of.getD x.toNat 0 < t))) = true then N.of.getD x.toNat 0 else t from rfl))
  generalize N.fol.length = nf at *
  generalize N.first.length = n1 at *
  obtain ⟨ns, hns⟩ : ∃ ns, ns = N.sets.length := ⟨_, rfl⟩
  obtain ⟨no, hno⟩ : ∃ no, no = N.of.length := ⟨_, rfl⟩
  obtain ⟨nl, hnl⟩ : ∃ nl, nl = N.last.length := ⟨_, rfl⟩
  obtain ⟨lv, hlv⟩ : ∃ lv, lv = l.length := ⟨_, rfl⟩
  rw [← hns] at HR HBX HW0 HFN HEB ⊢
  rw [← hno] at HR HBX HW0 HFN HOF ⊢
  rw [← hnl] at HR HBX HW0 HFN HLA ⊢
  rw [← hlv] at HA HTM HTE hlen ⊢
  clear h hba hbx hw0 hs0 hr hns hno hnl hlv
  by_cases hR : rightB N = true
  case neg =>
    rw [if_neg hR] at HTK
    rw [show rightB N = false by simpa using hR] at HR
    rw [HTK.out]
    clear hR
    go_enter Tryd.func44, Tryd.ntmps44
    obtain ⟨b0, b1, b2, b3, b4⟩ := HBX.out w0 HB0.out
    rw [HW0.out] at b0 b1 b2 b3 b4 HR
    go_wp2_with fail
    refine HR.out.mono ?_
    rintro e w1 ⟨rfl, hb1⟩
    rw [← HW0.out] at hb1
    have HBW := hidden (below_then HBA.out HBA.out.size hb1)
    go_wp2
    go_ret
    exact ⟨rfl, HBW.out⟩
  rw [if_pos hR] at HTK
  have HFN := hidden (HFN.out hR)
  rw [hR] at HR
  rw [HTK.out]
  clear hR
  go_enter Tryd.func44, Tryd.ntmps44
  obtain ⟨b0, b1, b2, b3, b4⟩ := HBX.out w0 HB0.out
  rw [HW0.out] at b0 b1 b2 b3 b4 HR
  go_wp2_with fail
  refine HR.out.mono ?_
  rintro e w1 ⟨rfl, hb1⟩
  rw [← HW0.out] at hb1
  have HB1 := hidden (show Below (w.heap.size + 1) w0 w1 by rw [← HS0.out]; exact hb1)
  clear hb1 b0 b1 b2 b3 b4
  go_wp2
  go_loopw [5, 6] (fun v i wr => ∃ (k : Nat) (t : Int), k ≤ lv ∧ v = .int .i64 t ∧ Hid (t = tokV N (l.take k)) ∧ i = .int .i64 k ∧ Below (w.heap.size + 1) w0 wr) (fun _ i _ => lv - (intOf i).toNat)
  case atStart => exact ⟨0, -1, by omega, rfl, hidden HTZ.out.symm, rfl, HB1.out⟩
  case round =>
    clear HB1
    obtain ⟨k, t, hk, rfl, HT, rfl, hb3⟩ := hrel
    obtain ⟨wo, rfl⟩ : ∃ wo, wo = wr := ⟨wr, rfl⟩
    have HB := hidden hb3
    have HBW := hidden (show Below w.heap.size w wo from HBA.out.trans (hb3.mono (by omega)))
    have HSZ := hidden (show w.heap.size + 1 ≤ wo.heap.size by have := hb3.size; have := HS0.out; omega)
    obtain ⟨b0, b1, b2, b3, b4⟩ := HBX.out wo HB.out
    have hbl : w.heap.size < wo.heap.size := by have := HSZ.out; omega
    clear hb3
    by_cases hlt : k < lv
    · obtain ⟨ba, oa, rfl, hba, c0⟩ := HA.out wo HBW.out k hlt
      have HK := hidden (HTM.out k hlt)
      have hlt' := hlt
      have hkb : IntKind.i64.wrap ((k : Int) + 1) = (k : Int) + 1 := by rw [IntKind.wrap_i64]; omega
      have hbaw : ba < wo.heap.size := cell_lt c0
      generalize l.getD k 0 = x at *
      have HEX := hidden (HEB.out x)
      have HSX := hidden (HTS.out t x)
      have h0 := fun (p : Later wo) => Later.cell b0 hbl p
      have h1 := fun (p : Later wo) => Later.cell b1 hbl p
      have h2 := fun (p : Later wo) => Later.cell b2 hbl p
      have h3 := fun (p : Later wo) => Later.cell b3 hbl p
      have h4 := fun (p : Later wo) => Later.cell b4 hbl p
      have hc := fun (p : Later wo) => Later.cell c0 hbaw p
      by_cases hx : 0 ≤ x ∧ x < (ns : Int)
      case neg =>
        have hee : lasB N x = false := by
          rw [HEX.out]
          by_cases h0 : 0 ≤ x
          · rw [decide_eq_false (show ¬ x < (ns : Int) by omega)]; simp
          · rw [decide_eq_false h0, Bool.false_and]
        have HT2 := hidden (show t = tokV N (l.take (k + 1)) by rw [HK.out, ← HT.out, HSX.out, hee]; rfl)
        by_cases hx0 : 0 ≤ x
        case' pos =>
          have hd0 : decide (0 ≤ x) = true := decide_eq_true hx0
          have hd1 : decide (x < (ns : Int)) = false := decide_eq_false (by omega)
        case' neg =>
          have hd0 : decide (0 ≤ x) = false := decide_eq_false hx0
        all_goals
          clear hx hx0 hee
          go_wp2
          refine wp_region_later (by kernel_rfl) (by kernel_rfl) ?_
          repeat (go_big_quiet_step (fail))
          refine wpQuiet_nil ?_
          rintro _ ⟨⟨_, hb5⟩, rfl⟩
          rename_i w5
          have HB5 := hidden (below_then HB.out HSZ.out hb5)
          clear hb5 h0 h1 h2 h3 h4 hc b0 b1 b2 b3 b4 c0
          go_wp2
          go_roundw
          case rel => exact ⟨k + 1, t, by omega, rfl, HT2, by go_num, HB5.out⟩
          case measure => simp [intOf]; omega
      case pos =>
        obtain ⟨p, rfl⟩ : ∃ p : Nat, x = p := ⟨x.toNat, by omega⟩
        have hd0 : decide (0 ≤ (p : Int)) = true := decide_eq_true hx.1
        have hd1 : decide ((p : Int) < (ns : Int)) = true := decide_eq_true hx.2
        have hd2 : decide (p < ns) = true := decide_eq_true (by omega)
        have hpo : p < no := by have := HFN.out; omega
        have hpl : p < nl := by have := HFN.out; omega
        have hpoi : (p : Int) < (no : Int) := by omega
        have hpli : (p : Int) < (nl : Int) := by omega
        rw [hd0, hd1, Bool.true_and, Bool.true_and, Int.toNat_natCast] at HEX
        rw [Int.toNat_natCast, HEX.out] at HSX
        obtain ⟨bo, oo, rfl, hbo, e0⟩ := HOF.out wo HBW.out p hpo
        obtain ⟨bl, ol, rfl, hbl2, f0⟩ := HLA.out wo HBW.out p hpl
        have hbow : bo < wo.heap.size := cell_lt e0
        have hblw : bl < wo.heap.size := cell_lt f0
        generalize N.of.getD p 0 = y at *
        generalize N.last.getD p false = lb at *
        have he := fun (p : Later wo) => Later.cell e0 hbow p
        have hf := fun (p : Later wo) => Later.cell f0 hblw p
        clear hx HEX
        have WALK1 : True := trivial
        cases lb
        case false =>
          have HT2 := hidden (show t = tokV N (l.take (k + 1)) by rw [HK.out, ← HT.out, HSX.out]; rfl)
          go_wp2
          refine wp_region_later (by kernel_rfl) (by kernel_rfl) ?_
          repeat (go_big_quiet_step (fail))
          refine wpQuiet_nil ?_
          rintro _ ⟨⟨_, hb5⟩, rfl⟩
          rename_i w5
          have HB5 := hidden (below_then HB.out HSZ.out hb5)
          clear hb5 h0 h1 h2 h3 h4 hc he hf b0 b1 b2 b3 b4 c0 e0 f0
          go_wp2
          go_roundw
          case rel => exact ⟨k + 1, t, by omega, rfl, HT2, by go_num, HB5.out⟩
          case measure => simp [intOf]; omega
        case true =>
          rw [Bool.true_and] at HSX
          by_cases htt : t < 0 ∨ y < t
          case neg =>
            have g0 : decide (t < 0) = false := decide_eq_false (by omega)
            have g1 : decide (y < t) = false := decide_eq_false (by omega)
            have HT2 := hidden (show t = tokV N (l.take (k + 1)) by rw [HK.out, ← HT.out, HSX.out, g0, g1]; rfl)
            clear htt
            go_wp2
            refine wp_region_later (by kernel_rfl) (by kernel_rfl) ?_
            repeat (go_big_quiet_step (fail))
            refine wpQuiet_nil ?_
            rintro _ ⟨⟨_, hb5⟩, rfl⟩
            rename_i w5
            have HB5 := hidden (below_then HB.out HSZ.out hb5)
            clear hb5 h0 h1 h2 h3 h4 hc he hf b0 b1 b2 b3 b4 c0 e0 f0
            go_wp2
            go_roundw
            case rel => exact ⟨k + 1, t, by omega, rfl, HT2, by go_num, HB5.out⟩
            case measure => simp [intOf]; omega
          case pos =>
            have HT2 := hidden (show y = tokV N (l.take (k + 1)) by
              rw [HK.out, ← HT.out, HSX.out, if_pos (by simpa using htt)])
            by_cases ht0 : t < 0
            case' pos => have g0 : decide (t < 0) = true := decide_eq_true ht0
            case' neg =>
              have g0 : decide (t < 0) = false := decide_eq_false ht0
              have g1 : decide (y < t) = true := decide_eq_true (by omega)
            all_goals
              clear htt ht0
              go_wp2
              refine wp_region_later (by kernel_rfl) (by kernel_rfl) ?_
              repeat (go_big_quiet_step (fail))
              refine wpQuiet_nil ?_
              rintro _ ⟨⟨_, hb5⟩, rfl⟩
              rename_i w5
              have HB5 := hidden (below_then HB.out HSZ.out hb5)
              have c5 := (hb5.cell (p := ⟨ba, oa + k, none⟩) hbaw).trans c0
              have e5 := (hb5.cell (p := ⟨bo, oo + p, none⟩) hbow).trans e0
              have hs5 := hb5.size
              clear hb5 h0 h1 h2 h3 h4 hc he hf b0 b1 b2 b3 b4 c0 e0 f0
              obtain ⟨b0, b1, b2, b3, b4⟩ := HBX.out w5 HB5.out
              have hbl5 : w.heap.size < w5.heap.size := by omega
              have h0 := fun (p : Later w5) => Later.cell b0 hbl5 p
              have h1 := fun (p : Later w5) => Later.cell b1 hbl5 p
              have h2 := fun (p : Later w5) => Later.cell b2 hbl5 p
              have h3 := fun (p : Later w5) => Later.cell b3 hbl5 p
              have h4 := fun (p : Later w5) => Later.cell b4 hbl5 p
              have hc := fun (p : Later w5) => Later.cell c5 (show ba < w5.heap.size by omega) p
              have he := fun (p : Later w5) => Later.cell e5 (show bo < w5.heap.size by omega) p
              have HS5 := hidden (show w.heap.size + 1 ≤ w5.heap.size by omega)
              go_wp2
              refine wp_region_later (by kernel_rfl) (by kernel_rfl) ?_
              repeat (go_big_quiet_step (fail))
              refine wpQuiet_nil ?_
              rintro _ ⟨⟨_, hb6⟩, rfl⟩
              rename_i w6
              have HB6 := hidden (below_then HB5.out HS5.out hb6)
              clear hb6 h0 h1 h2 h3 h4 hc he b0 b1 b2 b3 b4 c5 e5
              go_wp2
              go_roundw
              case rel => exact ⟨k + 1, y, by omega, rfl, HT2, by go_num, HB6.out⟩
              case measure => simp [intOf]; omega
    · obtain rfl : k = lv := by omega
      have hdk : decide ((k : Int) < (k : Int)) = false := by simp
      have HF := hidden (HT.out.trans HTE.out)
      go_wp2
      go_ret
      exact ⟨ret_i HF.out, HBW.out⟩
set_option maxHeartbeats 8000000 in
set_option maxRecDepth 100000 in
theorem Token_calls {w : World} {v vs vo vl vf v1 : Value} {N : NetM} {l : List Int} (h : RdNet w.heap.size w vs vo vl vf v1 N) (hn : N.sets.length ≤ 100000) (hr : RdZ w.heap.size w v l) :
    Calls Tryd.prog 43 #[.agg #[vs, vo, vl, vf, v1], v] w fun e w' => e = .returned (.int .i64 (tokenM N l)) ∧ Below w.heap.size w w' := by
  obtain ⟨sa, cs, rfl⟩ := h.sets.form
  obtain ⟨so, co, rfl⟩ := h.of.form
  obtain ⟨sl, cl, rfl⟩ := h.last.form
  obtain ⟨sf, cf, rfl⟩ := h.fol.form
  obtain ⟨s1, c1, rfl⟩ := h.first.form
  obtain ⟨av, cv, rfl⟩ := hr.form
  have hba := (Below.refl w.heap.size w).alloc (Nat.le_refl _) (.cells #[.slice sa N.sets.length cs, .slice so N.of.length co, .slice sl N.last.length cl, .slice sf N.fol.length cf, .slice s1 N.first.length c1] 48)
  have hbx := net_box w (.slice sa N.sets.length cs) (.slice so N.of.length co) (.slice sl N.last.length cl) (.slice sf N.fol.length cf) (.slice s1 N.first.length c1) 48
  obtain ⟨w0, hw0⟩ : ∃ w0, w0 = w.alloc (.cells #[.slice sa N.sets.length cs, .slice so N.of.length co, .slice sl N.last.length cl, .slice sf N.fol.length cf, .slice s1 N.first.length c1] 48) := ⟨_, rfl⟩
  have hs0 : w0.heap.size = w.heap.size + 1 := by rw [hw0]; simp
  rw [← hw0] at hba hbx
  have HBA := hidden hba
  have HBX := hidden hbx
  have HW0 := hidden hw0
  have HS0 := hidden hs0
  have HB0 := hidden (Below.refl (w.heap.size + 1) w0)
  have HR := hidden (right12_calls (h.later hba))
  have HJ := hidden (fun W (hb2 : Below w.heap.size w W) g (hg : g = W.heap.size) => joined_calls (w := W.alloc (.cells #[.slice av l.length cv] 30)) (n := N.sets.length) (one_zz (hr.later hb2) g hg) hn)
  have HOF := hidden (fun W (hb : Below w.heap.size w W) i (hi : i < N.of.length) => h.of.atZ hb i hi)
  have HLA := hidden (fun W (hb : Below w.heap.size w W) i (hi : i < N.last.length) => h.last.at hb i hi)
  have HFN := hidden (fun (hR : rightB N = true) => ((rightB_iff N).1 hR).1)
  have HTJ := hidden (fun (hR : rightB N = true) => tok_joined hR l)
  have HTK := hidden (show tokenM N l = if rightB N = true then tokV N l else -1 from rfl)
  have HTR := hidden (fun (hR : rightB N = true) (l : List Int) => (show tokV N l = -1 ∨ 0 ≤ tokV N l from by
    rcases tok_is hR l with h | h
    · exact .inl h.1
    · exact .inr h.1))
  obtain ⟨J, hJ⟩ : ∃ J, J = hits (anyB [l]) N.sets.length := ⟨_, rfl⟩
  rw [← hJ] at HJ HTJ
  have HJB := hidden (fun i (hi : i < J.length) => (show J.getD i 0 < N.sets.length from by
    have h1 : J.getD i 0 ∈ J := by rw [List.getD_eq_getElem?_getD, List.getElem?_eq_getElem hi]; exact List.getElem_mem _
    rw [hJ] at h1
    have := ((hits_mem _ _ _).1 h1).1
    rwa [← hJ] at this))
  have HJL := hidden (show J.length ≤ 100000 by rw [hJ]; exact Nat.le_trans (hits_len _ _) hn)
  have HTM := hidden (fun k (hk : k < J.length) => (show tokV N ((spI J).take (k + 1)) = tokS N (tokV N ((spI J).take k)) ((J.getD k 0 : Nat) : Int) from by
    have := tokV_more N (spI J) k (by rw [spI_len]; exact hk)
    rwa [spI_getDJ] at this))
  have HTE := hidden (show tokV N ((spI J).take J.length) = tokV N (spI J) by rw [List.take_of_length_le (by rw [spI_len]; exact Nat.le_refl _)])
  have HTZ := hidden (show tokV N ((spI J).take 0) = -1 from rfl)
  have HSX := hidden (fun (t : Int) (p : Nat) (hp : p < N.sets.length) => (show tokS N t (p : Int) = if (N.last.getD p false && (decide (t < 0) || decide (N.of.getD p 0 < t))) = true then N.of.getD p 0 else t from by
    unfold tokS lasB
    rw [decide_eq_true (show (0 : Int) ≤ (p : Int) by omega), decide_eq_true (show (p : Int) < (N.sets.length : Int) by omega), Bool.true_and, Bool.true_and, Int.toNat_natCast]))
  generalize N.fol.length = nf at *
  generalize N.first.length = n1 at *
  obtain ⟨ns, hns⟩ : ∃ ns, ns = N.sets.length := ⟨_, rfl⟩
  obtain ⟨no, hno⟩ : ∃ no, no = N.of.length := ⟨_, rfl⟩
  obtain ⟨nl, hnl⟩ : ∃ nl, nl = N.last.length := ⟨_, rfl⟩
  obtain ⟨lv, hlv⟩ : ∃ lv, lv = l.length := ⟨_, rfl⟩
  obtain ⟨nj, hnj⟩ : ∃ nj, nj = J.length := ⟨_, rfl⟩
  rw [← hns] at HR HBX HW0 HFN HJ HJB HSX ⊢
  rw [← hno] at HR HBX HW0 HFN HOF ⊢
  rw [← hnl] at HR HBX HW0 HFN HLA ⊢
  rw [← hlv] at HJ ⊢
  rw [← hnj] at HJB HJL HTM HTE
  have HNJ := hidden hnj.symm
  clear h hba hbx hw0 hs0 hr hns hno hnl hlv hJ hnj hn
  by_cases hR : rightB N = true
  case neg =>
    rw [if_neg hR] at HTK
    rw [show rightB N = false by simpa using hR] at HR
    rw [HTK.out]
    clear hR
    go_enter Tryd.func43, Tryd.ntmps43
    obtain ⟨b0, b1, b2, b3, b4⟩ := HBX.out w0 HB0.out
    rw [HW0.out] at b0 b1 b2 b3 b4 HR
    go_wp2_with fail
    refine HR.out.mono ?_
    rintro e w1 ⟨rfl, hb1⟩
    rw [← HW0.out] at hb1
    have HBW := hidden (below_then HBA.out HBA.out.size hb1)
    go_wp2
    go_ret
    exact ⟨rfl, HBW.out⟩
  rw [if_pos hR] at HTK
  have HFN := hidden (HFN.out hR)
  have HTR := hidden (HTR.out hR)
  have HTJ := hidden (HTJ.out hR)
  rw [hR] at HR
  rw [HTK.out]
  clear hR
  go_enter Tryd.func43, Tryd.ntmps43
  obtain ⟨b0, b1, b2, b3, b4⟩ := HBX.out w0 HB0.out
  rw [HW0.out] at b0 b1 b2 b3 b4 HR
  go_wp2_with fail
  refine HR.out.mono ?_
  rintro e w1 ⟨rfl, hb1⟩
  rw [← HW0.out] at hb1
  have HB1 := hidden (show Below (w.heap.size + 1) w0 w1 by rw [← HS0.out]; exact hb1)
  have HBW1 := hidden (below_then HBA.out HBA.out.size hb1)
  have HSZ1 := hidden (show w.heap.size + 1 ≤ w1.heap.size by have := HB1.out.size; have := HS0.out; omega)
  clear hb1 b0 b1 b2 b3 b4
  obtain ⟨b0, b1, b2, b3, b4⟩ := HBX.out w1 HB1.out
  go_wp2_with fail
  refine (HJ.out w1 HBW1.out _ rfl).mono ?_
  rintro e w2 ⟨u, rfl, hr2, hb2⟩
  have HR2 := hidden hr2.reads
  have HB21 := hidden (below_then ((Below.refl w1.heap.size w1).alloc (Nat.le_refl _) _) (by simp) hb2)
  have HB2 := hidden (below_then HB1.out HSZ1.out HB21.out)
  obtain ⟨a2, c2, rfl⟩ := hr2.form
  have HJC := hidden (fun W (hb : Below w2.heap.size w2 W) k (hk : k < nj) => (show ∃ g o, a2 = some ⟨g, o, none⟩ ∧ W.cell? ⟨g, o + k, none⟩ = some (.int .i64 ((J.getD k 0 : Nat) : Int)) from by
    obtain ⟨g, o, e1, e2, e3⟩ := HR2.out.atZ hb k (by rw [spI_len, HNJ.out]; exact hk)
    rw [spI_getDJ] at e3
    exact ⟨g, o, e1, e3⟩))
  have hsj : (spI J).length = nj := by rw [spI_len, HNJ.out]
  rw [hsj]
  have HS2 := hidden (show w.heap.size + 1 ≤ w2.heap.size by have := HSZ1.out; have := HB21.out.size; omega)
  clear hr2 hb2 hsj b0 b1 b2 b3 b4
  go_wp2
  go_loopw [5, 18] (fun v i wr => ∃ (k : Nat) (t : Int), k ≤ nj ∧ v = .int .i64 t ∧ Hid (t = tokV N ((spI J).take k)) ∧ i = .int .i64 k ∧ Below w2.heap.size w2 wr) (fun _ i _ => nj - (intOf i).toNat)
  case atStart => exact ⟨0, -1, by omega, rfl, hidden HTZ.out.symm, rfl, Below.refl _ _⟩
  case round =>
    obtain ⟨k, t, hk, rfl, HT, rfl, hb3⟩ := hrel
    obtain ⟨wo, rfl⟩ : ∃ wo, wo = wr := ⟨wr, rfl⟩
    have HB := hidden hb3
    have HBB := hidden (below_then HB2.out HS2.out hb3)
    have HBW := hidden (show Below w.heap.size w wo from HBA.out.trans (HBB.out.mono (by omega)))
    obtain ⟨b0, b1, b2, b3, b4⟩ := HBX.out wo HBB.out
    clear hb3
    by_cases hlt : k < nj
    · obtain ⟨g, og, rfl, c0⟩ := HJC.out wo HB.out k hlt
      have hpn := HJB.out k (by rw [← HNJ.out] at hlt; rw [HNJ.out] at hlt; exact hlt)
      have HK := hidden (HTM.out k hlt)
      have hlt' := hlt
      have hkb : IntKind.i64.wrap ((k : Int) + 1) = (k : Int) + 1 := by rw [IntKind.wrap_i64]; have := HJL.out; omega
      have htr := HTR.out ((spI J).take k)
      rw [← HT.out] at htr
      generalize J.getD k 0 = p at *
      have HSP := hidden (HSX.out t p hpn)
      have hpo : p < no := by have := HFN.out; omega
      have hpl : p < nl := by have := HFN.out; omega
      have hpoi : (p : Int) < (no : Int) := by omega
      have hpli : (p : Int) < (nl : Int) := by omega
      obtain ⟨bo, oo, rfl, hbo, e0⟩ := HOF.out wo HBW.out p hpo
      obtain ⟨bl, ol, rfl, hbl2, f0⟩ := HLA.out wo HBW.out p hpl
      generalize N.of.getD p 0 = y at *
      generalize N.last.getD p false = lb at *
      cases lb
      case false =>
        have HT2 := hidden (show t = tokV N ((spI J).take (k + 1)) by rw [HK.out, ← HT.out, HSP.out]; rfl)
        clear htr
        go_wp2
        go_roundw
        case rel => exact ⟨k + 1, t, by omega, rfl, HT2, by go_num, HB.out⟩
        case measure => simp [intOf]; omega
      case true =>
        rw [Bool.true_and] at HSP
        by_cases ht0 : t = -1
        · subst ht0
          have HT2 := hidden (show y = tokV N ((spI J).take (k + 1)) by rw [HK.out, ← HT.out, HSP.out, if_pos (by simp)])
          clear htr
          go_wp2
          go_roundw
          case rel => exact ⟨k + 1, y, by omega, rfl, HT2, by go_num, HB.out⟩
          case measure => simp [intOf]; omega
        · have hq : (t == -1) = false := by rw [beq_eq_false_iff_ne]; exact ht0
          have hd0 : decide (t < 0) = false := decide_eq_false (by omega)
          rw [hd0, Bool.false_or] at HSP
          by_cases hyt : y < t
          · have hd1 : decide (y < t) = true := decide_eq_true hyt
            have HT2 := hidden (show y = tokV N ((spI J).take (k + 1)) by rw [HK.out, ← HT.out, HSP.out, hd1, if_pos rfl])
            clear htr ht0 hyt hd0
            go_wp2
            go_roundw
            case rel => exact ⟨k + 1, y, by omega, rfl, HT2, by go_num, HB.out⟩
            case measure => simp [intOf]; omega
          · have hd1 : decide (y < t) = false := decide_eq_false hyt
            have HT2 := hidden (show t = tokV N ((spI J).take (k + 1)) by rw [HK.out, ← HT.out, HSP.out, hd1, if_neg (by decide)])
            clear htr ht0 hyt hd0
            go_wp2
            go_roundw
            case rel => exact ⟨k + 1, t, by omega, rfl, HT2, by go_num, HB.out⟩
            case measure => simp [intOf]; omega
    · obtain rfl : k = nj := by omega
      have hdk : decide ((k : Int) < (k : Int)) = false := by simp
      have HF := hidden (HT.out.trans (HTE.out.trans HTJ.out))
      go_wp2
      go_ret
      exact ⟨ret_i HF.out, HBW.out⟩
end Go.Proofs.YtbokhofdgdcpdaaDoor
