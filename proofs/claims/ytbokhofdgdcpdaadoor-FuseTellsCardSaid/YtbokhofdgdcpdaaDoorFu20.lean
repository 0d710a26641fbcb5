/- TypedT, SpRdS, SpRead, put together. -/
import Derived.Test.YtbokhofdgdcpdaaDoorFu18
import Derived.Test.YtbokhofdgdcpdaaDoorFu19
import Derived.Shelf.Abstract
import Derived.Test.YtbokhofdgdcpdaaDoorFu16
import Derived.Test.YtbokhofdgdcpdaaDoorFu08
import Derived.Test.YtbokhofdgdcpdaaDoorFu02
import Derived.Test.YtbokhofdgdcpdaaDoorFu09
import Derived.Laws.MakeOwn
/- The law of regions that draw their order, where the last two operations (an append and the store of what came of it) wait for all others; and the frame behind a region as it stands, slot by slot. -/
namespace Go.Proofs.YtbokhofdgdcpdaaDoor.Rl
open Go.RowKit
section
variable {R : World → World → Prop} {P : Program} {ops : Array Oper} {Q : Exit → Act → World → Prop} {T : Nat → Value → World → Prop} {W : World → Prop} {a0 : Act}
theorem wpOp_of_list2 {m : Nat} {o1 o2 : Oper} {a : Act} {w : World} (h1 : ops[m]? = some o1) (h2 : ops[m + 1]? = some o2) (g1 : o1.guard = none) (g2 : o2.guard = none) (h : wpList P ops Q [o1, o2] a w) : wpOp P ops Q m (fun a1 w1 => wpOp P ops Q (m + 1) (fun a' w' => Q .normal a' w') a1 w1) a w := by
  unfold wpOp
  rw [h1]
  have hn : Region.wanted o1 (yielded ops a.tmps) = true := by unfold Region.wanted; rw [g1]
  unfold wpList at h
  simp only [hn, if_true] at h ⊢
  refine h.imp (Oper.wp_mono fun a1 w1 h3 => ?_) id
  exact wpOp_of_list h2 g2 h3
/-- all that an operation waits for, and what that waits for -/
def reach (ops : Array Oper) : Nat → Nat → List Nat
  | 0, _ => []
  | fuel + 1, m => match ops[m]? with
    | none => []
    | some o => (o.after.toList.filter fun e => Region.binds .any e).flatMap fun e => e.on :: reach ops fuel e.on
/-- the last one waits for the one ahead of it, and this one for all others, directly or not -/
def lastTwo (ops : Array Oper) : Bool := ((List.range (ops.size - 2)).all fun j => (reach ops ops.size (ops.size - 2)).contains j) && (match ops[ops.size - 1]? with
  | none => false
  | some o => o.after.any fun e => e.on == ops.size - 2 && Region.binds .any e)
/-- what is listed waits for what is listed -/
def Clo (ops : Array Oper) (listed : Array Bool) : Prop := ∀ j o, ops[j]? = some o → listed.getD j true = true → ∀ e ∈ o.after, Region.binds .any e = true → listed.getD e.on true = true
theorem reach_listed {listed : Array Bool} (hc : Clo ops listed) : ∀ (fuel m : Nat), (∀ o, ops[m]? = some o → ∀ e ∈ o.after, Region.binds .any e = true → listed.getD e.on true = true) → ∀ j ∈ reach ops fuel m, listed.getD j true = true
  | 0, _, _, j, hj => by simp [reach] at hj
  | fuel + 1, m, hm, j, hj => by
    unfold reach at hj
    cases ho : ops[m]? with
    | none => rw [ho] at hj; simp at hj
    | some o =>
      rw [ho] at hj
      simp only [List.mem_flatMap, List.mem_filter, List.mem_cons] at hj
      obtain ⟨e, ⟨he, hb⟩, h⟩ := hj
      have h1 := hm o ho e (by simpa using he) hb
      rcases h with rfl | h
      · exact h1
      · exact reach_listed hc fuel e.on (fun o' ho' e' he' hb' => hc e.on o' ho' h1 e' he' hb') j h
theorem lastTwo_spec {m : Nat} (hm : ops.size = m + 2) (h : lastTwo ops = true) : (∀ j, j < m → j ∈ reach ops ops.size m) ∧ (∀ o, ops[m + 1]? = some o → ∃ e ∈ o.after, e.on = m ∧ Region.binds .any e = true) := by
  unfold lastTwo at h
  simp only [show ops.size - 2 = m by omega, show ops.size - 1 = m + 1 by omega, Bool.and_eq_true] at h
  refine ⟨fun j hj => ?_, fun o ho => ?_⟩
  · have h1 := List.all_eq_true.1 h.1 j (List.mem_range.2 hj)
    simpa using h1
  · have h1 := h.2
    rw [ho] at h1
    obtain ⟨e, he, h2⟩ := Array.any_eq_true'.1 h1
    simp only [Bool.and_eq_true, beq_iff_eq] at h2
    exact ⟨e, he, h2⟩
theorem listed_of {listed : Array Bool} {e : Edge} {o : Oper} (h : (o.after.all fun e => !Region.binds .any e || listed.getD e.on false) = true) (he : e ∈ o.after) (hb : Region.binds .any e = true) : listed.getD e.on true = true := by
  have h1 := Array.all_eq_true_iff_forall_mem.1 h e he
  rw [hb] at h1
  simp only [Bool.not_true, Bool.false_or] at h1
  rcases Nat.lt_or_ge e.on listed.size with h2 | h2
  · simp only [Array.getD_eq_getD_getElem?, Array.getElem?_eq_getElem h2, Option.getD_some] at h1 ⊢
    exact h1
  · simp only [Array.getD_eq_getD_getElem?, Array.getElem?_eq_none h2, Option.getD_none] at h1
    cases h1
theorem typed_last2 {m : Nat} (hm : ops.size = m + 2) (hw : wellOrdered ops a0.tmps.size = true) (hl : lastTwo ops = true)
    (hT : ∀ j v w w', T j v w → R w w' → T j v w')
    (step : ∀ j o, j < m → ops[j]? = some o → ∀ a w, Still ops a0 a → Ahead ops T o a w → W w → wpOp P ops Q j (Leaves R T W j o a w) a w)
    (last : ∀ a w, Still ops a0 a → (∀ j d, j < m → (ops[j]?).bind (·.dst) = some d → T j (a.tmps.getD d undef) w) → W w → wpOp P ops Q m (fun a1 w1 => wpOp P ops Q (m + 1) (fun a' w' => Q .normal a' w') a1 w1) a w) :
    ∀ (fuel : Nat) (listed : Array Bool) (a : Act) (w : World), missing ops listed ≤ fuel → listed.size = ops.size → (listed.getD m true = false ∧ listed.getD (m + 1) true = false) → Clo ops listed → Mid ops T W a0 listed a w → wpAny P .any ops Q fuel listed a w := by
  have none_missing : ∀ (listed : Array Bool) (k : Nat), k < ops.size → listed.getD k true = false → missing ops listed ≠ 0 := fun listed k hk hf h0 => by
    unfold missing at h0
    rw [List.countP_eq_zero] at h0
    have := h0 k (List.mem_range.2 hk)
    rw [hf] at this
    simp at this
  intro fuel
  induction fuel with
  | zero =>
    intro listed a w hmis hsz hnl hclo hmid
    exact absurd (by omega) (none_missing listed m (by omega) hnl.1)
  | succ fuel ih =>
    intro listed a w hmis hsz hnl hclo hmid
    refine ⟨fun hr => ?_, fun i hi => ?_⟩
    · exfalso
      have := ready_of_missing (ops := ops) (a0 := a0) hw ops.size (Nat.le_refl _) hr m (by omega)
      rw [hnl.1] at this
      cases this
    · unfold Region.ready at hi
      obtain ⟨hr1, hr2⟩ := List.mem_filter.1 hi
      have hin : i < ops.size := List.mem_range.1 hr1
      have ho := Array.getElem?_eq_getElem (xs := ops) (i := i) hin
      rw [ho] at hr2
      simp only [Option.map_some, Option.getD_some, Bool.and_eq_true, Bool.not_eq_true'] at hr2
      have hun : listed.getD i true = false := by simpa using hr2.1
      by_cases him2 : i = m + 1
      · exfalso
        subst him2
        obtain ⟨e, he, h3, hb⟩ := (lastTwo_spec hm hl).2 _ ho
        have := listed_of hr2.2 he hb
        rw [h3, hnl.1] at this
        cases this
      · by_cases him : i = m
        · subst him
          have hall : ∀ j, j < i → listed.getD j true = true := fun j hj =>
            reach_listed hclo _ i (fun o ho' e he hb => by
              rw [ho] at ho'
              cases ho'
              exact listed_of hr2.2 he hb) j ((lastTwo_spec hm hl).1 j hj)
          refine wpOp_mono (fun a1 w1 h => ?_) (last a w hmid.still (fun j d hj hd => hmid.done j d (hall j hj) hd) hmid.world)
          have hnx : (listed.setIfInBounds i true).getD (i + 1) true = false := by
            rw [getD_set, if_neg (by omega)]
            exact hnl.2
          have hms := missing_set (ops := ops) hin hun
          have hm1 := none_missing _ (i + 1) (by omega) hnx
          cases fuel with
          | zero => omega
          | succ f =>
            refine ⟨fun hr => ?_, fun k hk => ?_⟩
            · exfalso
              have := ready_of_missing (ops := ops) (a0 := a0) hw ops.size (Nat.le_refl _) hr (i + 1) (by omega)
              rw [hnx] at this
              cases this
            · have hk1 : k = i + 1 := by
                unfold Region.ready at hk
                obtain ⟨hk1, hk2⟩ := List.mem_filter.1 hk
                have hkin : k < ops.size := List.mem_range.1 hk1
                simp only [Bool.and_eq_true, Bool.not_eq_true'] at hk2
                have hku : (listed.setIfInBounds i true).getD k true = false := by simpa using hk2.1
                rw [getD_set] at hku
                by_cases e1 : i = k
                · rw [if_pos e1] at hku; cases hku
                · rw [if_neg e1] at hku
                  rcases Nat.lt_or_ge k i with h4 | h4
                  · rw [hall k h4] at hku; cases hku
                  · omega
              subst hk1
              refine wpOp_mono (fun a2 w2 h2 => ?_) h
              have hre : Region.ready .any ops ((listed.setIfInBounds i true).setIfInBounds (i + 1) true) = [] := ready_all fun j hj => by
                rw [getD_set]
                split
                · rfl
                · rw [getD_set]
                  split
                  · rfl
                  · exact hall j (by omega)
              cases f with
              | zero => exact ⟨hre, h2⟩
              | succ f => exact ⟨fun _ => h2, fun k hk => by rw [hre] at hk; cases hk⟩
        · have hahead : Ahead ops T ops[i] a w := fun e he hb d hd => by
            have h1 := Array.all_eq_true_iff_forall_mem.1 hr2.2 e he
            rw [hb] at h1
            simp only [Bool.not_true, Bool.false_or] at h1
            refine hmid.done e.on d ?_ hd
            rcases Nat.lt_or_ge e.on listed.size with h2 | h2
            · simp only [Array.getD_eq_getD_getElem?, Array.getElem?_eq_getElem h2, Option.getD_some] at h1 ⊢
              exact h1
            · simp only [Array.getD_eq_getD_getElem?, Array.getElem?_eq_none h2, Option.getD_none] at h1
              cases h1
          refine wpOp_mono (fun a' w' h => ?_) (step i ops[i] (by omega) ho a w hmid.still hahead hmid.world)
          obtain ⟨v, rfl, hv, hW', hb⟩ := h
          have hwi := List.all_eq_true.1 hw i (List.mem_range.2 hin)
          rw [ho] at hwi
          simp only [Bool.and_eq_true] at hwi
          refine ih (listed.setIfInBounds i true) _ w' (by have := missing_set (ops := ops) hin hun; omega) (by simpa using hsz) ⟨by rw [getD_set, if_neg him]; exact hnl.1, by rw [getD_set, if_neg him2]; exact hnl.2⟩ (fun j o hoj hlj e he hb => by
            rw [getD_set] at hlj ⊢
            split
            · rfl
            · by_cases e1 : i = j
              · subst e1
                rw [ho] at hoj
                cases hoj
                exact listed_of hr2.2 he hb
              · rw [if_neg e1] at hlj
                exact hclo j o hoj hlj e he hb) ⟨⟨?_, ?_, ?_⟩, ?_, hW'⟩
          · rw [← hmid.still.size]
            cases ops[i].dst <;> simp [Act.put]
          · rw [← hmid.still.defers]
            cases ops[i].dst <;> rfl
          · intro d hd
            rw [← hmid.still.slot d hd]
            have hne := Array.all_eq_true_iff_forall_mem.1 hd ops[i] (Array.getElem_mem hin)
            cases hx : ops[i].dst with
            | none => rfl
            | some x =>
              rw [hx] at hne
              have : x ≠ d := by simpa using hne
              simp [Act.put, Array.getD_eq_getD_getElem?, Array.getElem?_setIfInBounds_ne this]
          · intro j d hl' hd
            rw [getD_set] at hl'
            by_cases e : i = j
            · subst e
              rw [ho] at hd
              have hd : ops[i].dst = some d := hd
              have hlt : d < a.tmps.size := by
                rw [hd] at hwi
                simp only [Bool.and_eq_true] at hwi
                have := of_decide_eq_true hwi.2.1
                rw [hmid.still.size]
                exact this
              have e2 : (a.put ops[i].dst v).tmps.getD d undef = v := by
                rw [hd]
                simp [Act.put, Array.getD_eq_getD_getElem?, hlt]
              rw [e2]
              exact hv (by rw [hd]; simp)
            · rw [if_neg e] at hl'
              have h1 := hT j _ w w' (hmid.done j d hl' hd) hb
              have e2 : (a.put ops[i].dst v).tmps.getD d undef = a.tmps.getD d undef := by
                cases hx : ops[i].dst with
                | none => rfl
                | some x =>
                  rw [hx] at hwi
                  simp only [Bool.and_eq_true] at hwi
                  have hj : j < ops.size := by
                    rcases Nat.lt_or_ge j ops.size with h | h
                    · exact h
                    · rw [Array.getElem?_eq_none h] at hd
                      cases hd
                  have h2 := List.all_eq_true.1 hwi.2.2 j (List.mem_range.2 hj)
                  rw [hd] at h2
                  have : x ≠ d := by
                    rintro rfl
                    simp at h2
                    exact e h2.symm
                  simp [Act.put, Array.getD_eq_getD_getElem?, Array.getElem?_setIfInBounds_ne this]
              rw [e2]
              exact h1

/-- THE LAW: all but the last two by themselves, then these -/
theorem wp_region_stepsT {id : Nat} {w : World} (m : Nat) (T : Nat → Value → World → Prop) (W : World → Prop) (hRr : ∀ w, R w w) (hm : P.follows .mixedOrders = true) (hsz : ops.size = m + 2) (hw : wellOrdered ops a0.tmps.size = true) (hl : lastTwo ops = true) (hcov : covered ops = true) (hs : Region.noSelect ops = true)
    (hT : ∀ j v w w', T j v w → R w w' → T j v w') (h0 : W w.drew)
    (steps : Steps (StepG R P ops a0 T W) 0 (ops.toList.take m))
    (last : ∀ a w, Still ops a0 a → (∀ j d, j < m → (ops[j]?).bind (·.dst) = some d → T j (a.tmps.getD d undef) w) → W w → wpOp P ops Q m (fun a1 w1 => wpOp P ops Q (m + 1) (fun a' w' => Q .normal a' w') a1 w1) a w) :
    (Code.region id ops true).wp P Q a0 w := by
  refine wp_region_any hm (typed_last2 hsz hw hl hT (fun j o hj ho a w1 hst ha hW => ?_) last ops.size _ a0 w.drew ?_ (by simp) ⟨by simp [Array.getD_eq_getD_getElem?, hsz], by simp [Array.getD_eq_getD_getElem?, hsz]⟩ (fun j o hoj hlj => by
      have hj : j < ops.size := (Array.getElem?_eq_some_iff.1 hoj).1
      simp [Array.getD_eq_getD_getElem?, hj] at hlj) ⟨⟨rfl, rfl, fun _ _ => rfl⟩, fun j d hl hd => ?_, h0⟩)
  · have hst1 := steps.at j o (by rw [List.getElem?_take, if_pos hj]; simpa using ho)
    rw [Nat.zero_add] at hst1
    exact stepG_op hRr hcov hs ho hst ha hW hst1
  · unfold missing
    exact Nat.le_trans List.countP_le_length (by simp)
  · exfalso
    rcases Nat.lt_or_ge j ops.size with h | h
    · simp [Array.getD_eq_getD_getElem?, h] at hl
    · rw [Array.getElem?_eq_none h] at hd
      cases hd

/-! ### the frame behind a region: as it was, but for the region's own slots -/
theorem foldl_put_size (v : Nat → Value) : ∀ (ds : List Nat) (t : Array Value), (ds.foldl (fun t d => t.setIfInBounds d (v d)) t).size = t.size
  | [], _ => rfl
  | d :: r, t => by rw [List.foldl_cons, foldl_put_size v r]; simp
theorem foldl_put_at (v : Nat → Value) (i : Nat) : ∀ (ds : List Nat) (t : Array Value), i < t.size → (ds.foldl (fun t d => t.setIfInBounds d (v d)) t)[i]? = if i ∈ ds then some (v i) else t[i]?
  | [], t, _ => by simp
  | d :: r, t, h => by
    rw [List.foldl_cons, foldl_put_at v i r _ (by simpa using h)]
    by_cases h1 : i ∈ r
    · simp [h1]
    · by_cases h2 : d = i
      · subst h2
        simp [h1, h]
      · rw [if_neg h1, Array.getElem?_setIfInBounds_ne h2, if_neg (by simp [h1, Ne.symm h2])]
theorem Still.lit {a : Act} (h : Still ops a0 a) (ds : List Nat) (hds : ops.toList.filterMap (·.dst) = ds) : a.tmps = ds.foldl (fun t d => t.setIfInBounds d (a.tmps.getD d undef)) a0.tmps := by
  apply Array.ext_getElem?
  intro i
  rcases Nat.lt_or_ge i a0.tmps.size with hi | hi
  · rw [foldl_put_at (fun d => a.tmps.getD d undef) i ds _ hi]
    have hi' : i < a.tmps.size := by rw [h.size]; exact hi
    by_cases hm : i ∈ ds
    · rw [if_pos hm]
      simp [Array.getD_eq_getD_getElem?, hi']
    · rw [if_neg hm]
      have h1 := h.slot i (by
        rw [Array.all_eq_true_iff_forall_mem]
        intro o ho
        simp only [bne_iff_ne, ne_eq]
        intro e
        apply hm
        rw [← hds, List.mem_filterMap]
        exact ⟨o, by simpa using ho, e⟩)
      simp only [Array.getD_eq_getD_getElem?, Array.getElem?_eq_getElem hi, Array.getElem?_eq_getElem hi', Option.getD_some] at h1
      rw [Array.getElem?_eq_getElem hi, Array.getElem?_eq_getElem hi', h1]
  · rw [Array.getElem?_eq_none (by rw [h.size]; exact hi), Array.getElem?_eq_none (by rw [foldl_put_size (fun d => a.tmps.getD d undef)]; exact hi)]
end
end Go.Proofs.YtbokhofdgdcpdaaDoor.Rl

/- What read does at one step of the expression: the four ways in which its closures are called, whatever is done for spots that meet. -/
namespace Go.Proofs.YtbokhofdgdcpdaaDoor
open Go.RowKit Go.Lib Go.Joins
/-- what the function that is handed to read leaves: J goes on with each pair that meets, and stays under what read does to blocks of its own; a second call changes nothing -/
structure Mt (B0 : Nat) (f : FuncId) (c : Array Value) (row : Option Nat) (J : List (Prt × Prt) → World → Prop) : Prop where
  ent : ∀ args w, (callFunc f args).run Tryd.prog w = .ok (.enter f args) w
  low : ∀ j, row = some j → j < B0
  below : ∀ D w1 w2, J D w1 → Below w1.heap.size w1 w2 → J D w2
  own : ∀ D w1 w2 B, J D w1 → B0 ≤ B → w1.grownBy w2 (some B) → J D w2
  twice : ∀ D x w1, J (D ++ [x] ++ [x]) w1 → J (D ++ [x]) w1
  meet : ∀ D w1 (a b : Prt), J D w1 → Calls Tryd.prog f (#[sptV a, sptV b] ++ c) w1 fun e w2 => e = .returned (.tuple #[]) ∧ J (D ++ [(a, b)]) w2 ∧ w1.grownBy w2 row
/-- J, and the box in which the function stands -/
def Jm (B0 : Nat) (f : FuncId) (c : Array Value) (J : List (Prt × Prt) → World → Prop) (D : List (Prt × Prt)) (w : World) : Prop := J D w ∧ Boxed w B0 79 (.func (.func f) #[] c)
section
variable {B0 : Nat} {f : FuncId} {c : Array Value} {row : Option Nat} {J : List (Prt × Prt) → World → Prop}
theorem Jm.below (h : Mt B0 f c row J) {D : List (Prt × Prt)} {w1 w2 : World} (hj : Jm B0 f c J D w1) (hb : Below w1.heap.size w1 w2) : Jm B0 f c J D w2 := ⟨h.below _ _ _ hj.1 hb, (hb.block _ hj.2.lt).trans hj.2⟩
theorem Jm.own (h : Mt B0 f c row J) {D : List (Prt × Prt)} {w1 w2 : World} {B : Nat} (hj : Jm B0 f c J D w1) (hB : B0 + 1 ≤ B) (hg : w1.grownBy w2 (some B)) : Jm B0 f c J D w2 :=
  ⟨h.own _ _ _ B hj.1 (by omega) hg, (hg.block _ hj.2.lt (fun e => by simp only [Option.some.injEq] at e; omega)).trans hj.2⟩
theorem Jm.met (h : Mt B0 f c row J) {D D' : List (Prt × Prt)} {w1 w2 : World} (hj : Jm B0 f c J D w1) (hj' : J D' w2) (hg : w1.grownBy w2 row) : Jm B0 f c J D' w2 :=
  ⟨hj', (hg.block _ hj.2.lt (fun e => by have := h.low _ e.symm; omega)).trans hj.2⟩
theorem Jm.twice (h : Mt B0 f c row J) {D : List (Prt × Prt)} {x : Prt × Prt} {w1 : World} (hj : Jm B0 f c J (D ++ [x] ++ [x]) w1) : Jm B0 f c J (D ++ [x]) w1 := ⟨h.twice _ _ _ hj.1, hj.2⟩
theorem gb_mono {w w' : World} {r : Option Nat} (h : Below w.heap.size w w') : w.grownBy w' r := gb_below h
theorem below_refl_drew (w : World) : Below w.heap.size w w.drew := ⟨rfl, rfl, rfl, Nat.le_refl _, fun _ _ => rfl⟩

/-- binary(chain) -/
theorem bin_chain (h : Mt B0 f c row J) {w : World} {B base g cap : Nat} {X : List Prt} {x z : Prt} {D : List (Prt × Prt)} (hs : StkP w B base g cap (X ++ [x, z])) (hX : X.length ≤ 1000) (hB : base ≤ B) (h0 : B0 + 1 ≤ base) (hj : Jm B0 f c J D w) :
    Calls Tryd.prog 80 #[.func (.func 81) #[] #[.pointer (some ⟨B0, 0, none⟩)], .pointer (some ⟨B, 0, none⟩)] w fun e w' => e = .returned (.tuple #[]) ∧ Jm B0 f c J (D ++ [(x, z)]) w' ∧ StkP w' B base g cap (X ++ [thenP x z]) ∧ Mb base row w w' :=
  binary_calls (J1 := Jm B0 f c J D) (J2 := Jm B0 f c J (D ++ [(x, z)])) hs hX hB (enters_of Tryd.func81 (by kernel_rfl) rfl) hj (fun w1 k => k.below h (below_refl_drew _)) (fun j e => by have := h.low j e; omega) (fun w1 w2 k hg => k.own h (by have := hs.lt; omega) hg)
    (fun w1 v k => k.own h (by omega) (gb_set B 0 v)) (fun w1 hJ _ hsz => by
      have key : ∀ D', Jm B0 f c J D' w1 → Calls Tryd.prog 81 (#[prtV x, prtV z] ++ #[.pointer (some ⟨B0, 0, none⟩)]) w1 fun e w2 => e = .returned (prtV (thenP x z)) ∧ Jm B0 f c J (D' ++ [(x, z)]) w2 ∧ w1.grownBy w2 row := fun D' k =>
        (chain_calls (J := J) (D := D') x z h.ent k.2 (fun j e => by have := h.low j e; have := k.2.lt; omega) k.1 h.below (fun D w1 w2 B hj hB hg => h.own D w1 w2 B hj (by have := k.2.lt; omega) hg) h.meet).mono fun e w2 ⟨h1, h2, h3⟩ => ⟨h1, k.met h h2 h3, h3⟩
      rcases hJ with k | k
      · exact key D k
      · exact (key _ k).mono fun e w2 ⟨h1, h2, h3⟩ => ⟨h1, h2.twice h, h3⟩)
/-- binary(part.or) -/
theorem bin_or (h : Mt B0 f c row J) {w : World} {B base g cap : Nat} {X : List Prt} {x z : Prt} {D : List (Prt × Prt)} (hs : StkP w B base g cap (X ++ [x, z])) (hX : X.length ≤ 1000) (hB : base ≤ B) (h0 : B0 + 1 ≤ base) (hj : Jm B0 f c J D w) :
    Calls Tryd.prog 80 #[.func (.func 85) #[] #[], .pointer (some ⟨B, 0, none⟩)] w fun e w' => e = .returned (.tuple #[]) ∧ Jm B0 f c J D w' ∧ StkP w' B base g cap (X ++ [⟨fOr x.first z.first, fOr x.last z.last, x.free || z.free⟩]) ∧ Mb base row w w' :=
  binary_calls (J1 := Jm B0 f c J D) (J2 := Jm B0 f c J D) hs hX hB (enters_of Tryd.func85 (by kernel_rfl) rfl) hj (fun w1 k => k.below h (below_refl_drew _)) (fun j e => by have := h.low j e; omega) (fun w1 w2 k hg => k.own h (by have := hs.lt; omega) hg)
    (fun w1 v k => k.own h (by omega) (gb_set B 0 v)) (fun w1 hJ _ hsz => by
      have k : Jm B0 f c J D w1 := hJ.elim id id
      exact (prtOr_calls x z w1).mono fun e w2 ⟨h1, h2⟩ => ⟨h1, k.below h h2, gb_below h2⟩)
/-- unary(repeat) -/
theorem un_repeat (h : Mt B0 f c row J) {w : World} {B base g cap : Nat} {X : List Prt} {x : Prt} {D : List (Prt × Prt)} (hs : StkP w B base g cap (X ++ [x])) (hX : X.length ≤ 1000) (hB : base ≤ B) (h0 : B0 + 1 ≤ base) (hj : Jm B0 f c J D w) :
    Calls Tryd.prog 79 #[.func (.func 83) #[] #[.pointer (some ⟨B0, 0, none⟩)], .pointer (some ⟨B, 0, none⟩)] w fun e w' => e = .returned (.tuple #[]) ∧ Jm B0 f c J (D ++ [(x, x)]) w' ∧ StkP w' B base g cap (X ++ [x]) ∧ Mb base row w w' :=
  (unary_calls (y := x) (row := row) (J1 := Jm B0 f c J D) (J2 := Jm B0 f c J (D ++ [(x, x)])) hs hX (enters_of Tryd.func83 (by kernel_rfl) rfl) hj (fun w1 k => k.below h (below_refl_drew _)) (fun j e => by have := h.low j e; omega) (fun w1 w2 k hg => k.own h (by have := hs.lt; omega) hg)
    (fun w1 hJ _ hsz => by
      have key : ∀ D', Jm B0 f c J D' w1 → Calls Tryd.prog 83 (#[prtV x] ++ #[.pointer (some ⟨B0, 0, none⟩)]) w1 fun e w2 => e = .returned (prtV x) ∧ Jm B0 f c J (D' ++ [(x, x)]) w2 ∧ w1.grownBy w2 row := fun D' k =>
        (repeat_calls (J := J) (D := D') x h.ent k.2 (fun j e => by have := h.low j e; have := k.2.lt; omega) k.1 h.below (fun D w1 w2 B hj hB hg => h.own D w1 w2 B hj (by have := k.2.lt; omega) hg) h.meet).mono fun e w2 ⟨h1, h2, h3⟩ => ⟨h1, k.met h h2 h3, h3⟩
      rcases hJ with k | k
      · exact key D k
      · exact (key _ k).mono fun e w2 ⟨h1, h2, h3⟩ => ⟨h1, h2.twice h, h3⟩)).mono fun e w' ⟨h1, h2, h3, h4⟩ => ⟨h1, h2, h3, h4.mb (by have := hs.lt; omega) (by have := hs.lt; omega)⟩
/-- unary(part.orNone) -/
theorem un_none (h : Mt B0 f c row J) {w : World} {B base g cap : Nat} {X : List Prt} {x : Prt} {D : List (Prt × Prt)} (hs : StkP w B base g cap (X ++ [x])) (hX : X.length ≤ 1000) (hB : base ≤ B) (h0 : B0 + 1 ≤ base) (hj : Jm B0 f c J D w) :
    Calls Tryd.prog 79 #[.func (.func 86) #[] #[], .pointer (some ⟨B, 0, none⟩)] w fun e w' => e = .returned (.tuple #[]) ∧ Jm B0 f c J D w' ∧ StkP w' B base g cap (X ++ [⟨x.first, x.last, true⟩]) ∧ Mb base row w w' :=
  (unary_calls (y := ⟨x.first, x.last, true⟩) (row := row) (J1 := Jm B0 f c J D) (J2 := Jm B0 f c J D) hs hX (enters_of Tryd.func86 (by kernel_rfl) rfl) hj (fun w1 k => k.below h (below_refl_drew _)) (fun j e => by have := h.low j e; omega) (fun w1 w2 k hg => k.own h (by have := hs.lt; omega) hg)
    (fun w1 hJ _ hsz => by
      have k : Jm B0 f c J D w1 := hJ.elim id id
      exact (prtNone_calls x w1).mono fun e w2 ⟨h1, h2⟩ => ⟨h1, k.below h h2, gb_below h2⟩)).mono fun e w' ⟨h1, h2, h3, h4⟩ => ⟨h1, h2, h3, h4.mb (by have := hs.lt; omega) (by have := hs.lt; omega)⟩
end
end Go.Proofs.YtbokhofdgdcpdaaDoor

/- Contract of read: what is known of an expression, and which parts met. -/
namespace Go.Proofs.YtbokhofdgdcpdaaDoor
open Go.RowKit Go.Lib Go.Joins
theorem high_range {L : List Stp} (h : (measV L).2 = 0) : ∃ m : Nat, (measV L).1 = m ∧ m ≤ 512 := by
  obtain ⟨h1, h2⟩ := meas_expr h
  have h3 := expr_meas h2 h1
  have h4 : ∀ (l : List Stp) (p q : Int), p ≤ 512 - l.length → q ≤ 512 → Goes l p → peak l p q ≤ 512 := by
    intro l
    induction l with
    | nil => intro p q _ hq _; exact hq
    | cons s r ih =>
      intro p q hp hq hg
      simp only [List.length_cons] at hp
      obtain ⟨⟨hs, _⟩, hs2, hr⟩ := hg
      exact ih _ _ (by omega) (by omega) hr
  have h5 := h4 L 0 0 (by omega) (by omega) h2.1
  have h6 := peak_ge L 0 0
  rw [h3]
  exact ⟨(peak L 0 0).toNat, by simp only; omega, by omega⟩
theorem infoP : (Tryd.prog.info? 72).map (fun i => (i.zero, i.size, i.bytes)) = some (some (.agg #[.int .u64 0, .int .u64 0, .int .u64 0, .int .u64 0, .int .u64 0, .int .u64 0, .int .u64 0, .int .u64 0, .bool false]), 9, 72) := by kernel_rfl
theorem next_plcs {s : Stp} {T T' : List Ex} (h : Next s T T') : plcs T ≤ plcs T' := by
  cases h with
  | set r h e => rw [plcs_append]; omega
  | emp r e => rw [plcs_append]; omega
  | cat r a b e => simp only [plcs_append, plcs, plc]; omega
  | alt r a b e => simp only [plcs_append, plcs, plc]; omega
  | un r a e h => simp only [plcs_append, plcs, plc]; omega
/-- what a step does to the parts and to what met, without the trees -/
inductive Moves (s : Stp) (X : List Prt) (D : List (Prt × Prt)) (n : Nat) : List Prt → List (Prt × Prt) → Nat → Prop
  | set (h : s.k = 1) : Moves s X D n (X ++ [⟨fOne n, fOne n, false⟩]) D (n + 1)
  | emp (h : s.k = 2) : Moves s X D n (X ++ [⟨fNone, fNone, true⟩]) D n
  | cat (Y x z) (h : s.k = 3) (e : X = Y ++ [x, z]) : Moves s X D n (Y ++ [thenP x z]) (D ++ [(x, z)]) n
  | alt (Y x z) (h : s.k = 4) (e : X = Y ++ [x, z]) : Moves s X D n (Y ++ [⟨fOr x.first z.first, fOr x.last z.last, x.free || z.free⟩]) D n
  | star (Y x) (h : s.k = 5) (e : X = Y ++ [x]) : Moves s X D n (Y ++ [⟨x.first, x.last, true⟩]) (D ++ [(x, x)]) n
  | plus (Y x) (h : s.k = 6) (e : X = Y ++ [x]) : Moves s X D n X (D ++ [(x, x)]) n
  | opt (Y x) (h : s.k = 7) (e : X = Y ++ [x]) : Moves s X D n (Y ++ [⟨x.first, x.last, true⟩]) D n
theorem fPr_one (r : List Ex) (a : Ex) : fPr (r ++ [a]) 0 = fPr r 0 ++ [prtE a (plcs r)] := by rw [fPr_append, Nat.zero_add]; rfl
theorem fPr_two (r : List Ex) (a b : Ex) : fPr (r ++ [a, b]) 0 = fPr r 0 ++ [prtE a (plcs r), prtE b (plcs r + plc a)] := by rw [fPr_append, Nat.zero_add]; rfl
theorem fMet_one (r : List Ex) (a : Ex) : fMet (r ++ [a]) 0 = fMet r 0 ++ met a (plcs r) := by rw [fMet_append, Nat.zero_add]; simp only [fMet, List.append_nil]
theorem fMet_two (r : List Ex) (a b : Ex) : fMet (r ++ [a, b]) 0 = fMet r 0 ++ (met a (plcs r) ++ met b (plcs r + plc a)) := by rw [fMet_append, Nat.zero_add]; simp only [fMet, List.append_nil]
theorem plcs_one (r : List Ex) (a : Ex) : plcs (r ++ [a]) = plcs r + plc a := by rw [plcs_append]; simp only [plcs, Nat.add_zero]
theorem plcs_two (r : List Ex) (a b : Ex) : plcs (r ++ [a, b]) = plcs r + (plc a + plc b) := by rw [plcs_append]; simp only [plcs, Nat.add_zero]
theorem next_moves {s : Stp} {T T' : List Ex} (h : Next s T T') : Moves s (fPr T 0) (fMet T 0) (plcs T) (fPr T' 0) (fMet T' 0) (plcs T') := by
  cases h with
  | set r h e =>
    rw [fPr_one, fMet_one, plcs_one, prt_set]
    simp only [met, List.append_nil, plc]
    exact .set h
  | emp r e =>
    rw [fPr_one, fMet_one, plcs_one, prt_emp]
    simp only [met, List.append_nil, plc, Nat.add_zero]
    exact .emp (congrArg Stp.k e)
  | cat r a b e =>
    rw [fPr_one, fMet_one, plcs_one, fPr_two, fMet_two, plcs_two, prt_cat]
    simp only [met, plc, ← List.append_assoc]
    exact .cat _ _ _ (congrArg Stp.k e) rfl
  | alt r a b e =>
    rw [fPr_one, fMet_one, plcs_one, fPr_two, fMet_two, plcs_two, prt_alt]
    simp only [met, plc]
    exact .alt _ (prtE a (plcs r)) (prtE b (plcs r + plc a)) (congrArg Stp.k e) rfl
  | un r a e h =>
    rw [fPr_one, fMet_one, plcs_one, fPr_one, fMet_one, plcs_one, prt_un]
    simp only [met, plc]
    rcases h with h | h | h
    · rw [h, if_neg (by decide), if_neg (by decide), ← List.append_assoc]
      exact .star _ (prtE a (plcs r)) h rfl
    · rw [h, if_pos rfl, if_neg (by decide), ← List.append_assoc]
      exact .plus _ (prtE a (plcs r)) h rfl
    · rw [h, if_neg (by decide), if_pos rfl]
      exact .opt _ (prtE a (plcs r)) h rfl
end Go.Proofs.YtbokhofdgdcpdaaDoor
