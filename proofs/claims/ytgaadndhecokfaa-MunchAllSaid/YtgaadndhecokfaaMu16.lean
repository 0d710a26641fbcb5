/- SpUn, SpBin, TypedT, SpRdS, put together. -/
import Derived.Test.YtgaadndhecokfaaMu15
import Derived.Shelf.Abstract
/- Contract of read's closure unary, whatever it combines by. -/
namespace Go.Proofs.Ytgaadndhecokfaa
open Go.RowKit Go.Lib Go.Joins
/-- what a call that turns the block of a row and the row's own block leaves -/
def Mp (g : Nat) (row : Option Nat) (w w' : World) : Prop := w'.os = w.os ∧ w'.tape = w.tape ∧ w'.output = w.output ∧ w.heap.size ≤ w'.heap.size ∧ ∀ k, k < w.heap.size → k ≠ g → some k ≠ row → w'.heap[k]? = w.heap[k]?
theorem Mp.of {g : Nat} {row : Option Nat} {w w1 w2 : World} (h : w.grownBy w1 row) (k : w1.grownBy w2 (some g)) : Mp g row w w2 :=
  ⟨k.os.trans h.os, k.tape.trans h.tape, k.output.trans h.output, Nat.le_trans h.size k.size, fun i hi h1 h2 => (k.block i (Nat.lt_of_lt_of_le hi h.size) (fun e => h1 (by simpa using e))).trans (h.block i hi h2)⟩
attribute [local go_sem] Rl.evalR_tmp Rl.evalR_const Rl.evalR_global Rl.evalR_func
end Go.Proofs.Ytgaadndhecokfaa

/- Contract of read's closure binary, whatever it combines by. -/
namespace Go.Proofs.Ytgaadndhecokfaa
open Go.RowKit Go.Lib Go.Joins
/-- what a call that turns the block of a row, the box of a slice and the slice's own blocks leaves -/
def Mb (base : Nat) (row : Option Nat) (w w' : World) : Prop := w'.os = w.os ∧ w'.tape = w.tape ∧ w'.output = w.output ∧ w.heap.size ≤ w'.heap.size ∧ ∀ k, k < base → some k ≠ row → w'.heap[k]? = w.heap[k]?
theorem Mb.set {base B : Nat} {row : Option Nat} {w w' : World} (h : Mb base row w w') (hB : base ≤ B) (v : Value) : Mb base row w (w'.setCell ⟨B, 0, none⟩ v) :=
  ⟨h.1, h.2.1, h.2.2.1, by simpa [World.setCell] using h.2.2.2.1, fun k hk hr => (heap_setCell_other _ _ _ _ (show k ≠ B by omega)).trans (h.2.2.2.2 k hk hr)⟩
attribute [local go_sem] Rl.evalR_tmp Rl.evalR_const Rl.evalR_global Rl.evalR_func
end Go.Proofs.Ytgaadndhecokfaa

/- The law of regions that draw their order, where the last two operations (an append and the store of what came of it) wait for all others; and the frame behind a region as it stands, slot by slot. -/
namespace Go.Proofs.Ytgaadndhecokfaa.Rl
open Go.RowKit
section
variable {R : World → World → Prop} {P : Program} {ops : Array Oper} {Q : Exit → Act → World → Prop} {T : Nat → Value → World → Prop} {W : World → Prop} {a0 : Act}
/-- all that an operation waits for, and what that waits for -/
def reach (ops : Array Oper) : Nat → Nat → List Nat
  | 0, _ => []
  | fuel + 1, m => match ops[m]? with
    | none => []
    | some o => (o.after.toList.filter fun e => Region.binds .any e).flatMap fun e => e.on :: reach ops fuel e.on
/-- the last one waits for the one ahead of it, and this one for all others, directly or not -/
def lastTwo (ops : Array Oper) : Bool := ((List.range (ops.size - 2)).all fun j => (reach ops ops.size (ops.size - 2)).contains j) && (match ops[ops.size - 1]? with
  | none => false
  | some o => o.after.any fun e => e.on == ops.size - 2 && Region.binds .any e)
/-- what is listed waits for what is listed -/
def Clo (ops : Array Oper) (listed : Array Bool) : Prop := ∀ j o, ops[j]? = some o → listed.getD j true = true → ∀ e ∈ o.after, Region.binds .any e = true → listed.getD e.on true = true
theorem reach_listed {listed : Array Bool} (hc : Clo ops listed) : ∀ (fuel m : Nat), (∀ o, ops[m]? = some o → ∀ e ∈ o.after, Region.binds .any e = true → listed.getD e.on true = true) → ∀ j ∈ reach ops fuel m, listed.getD j true = true
  | 0, _, _, j, hj => by simp [reach] at hj
  | fuel + 1, m, hm, j, hj => by
    unfold reach at hj
    cases ho : ops[m]? with
    | none => rw [ho] at hj; simp at hj
    | some o =>
      rw [ho] at hj
      simp only [List.mem_flatMap, List.mem_filter, List.mem_cons] at hj
      obtain ⟨e, ⟨he, hb⟩, h⟩ := hj
      have h1 := hm o ho e (by simpa using he) hb
      rcases h with rfl | h
      · exact h1
      · exact reach_listed hc fuel e.on (fun o' ho' e' he' hb' => hc e.on o' ho' h1 e' he' hb') j h
theorem lastTwo_spec {m : Nat} (hm : ops.size = m + 2) (h : lastTwo ops = true) : (∀ j, j < m → j ∈ reach ops ops.size m) ∧ (∀ o, ops[m + 1]? = some o → ∃ e ∈ o.after, e.on = m ∧ Region.binds .any e = true) := by
  unfold lastTwo at h
  simp only [show ops.size - 2 = m by omega, show ops.size - 1 = m + 1 by omega, Bool.and_eq_true] at h
  refine ⟨fun j hj => ?_, fun o ho => ?_⟩
  · have h1 := List.all_eq_true.1 h.1 j (List.mem_range.2 hj)
    simpa using h1
  · have h1 := h.2
    rw [ho] at h1
    obtain ⟨e, he, h2⟩ := Array.any_eq_true'.1 h1
    simp only [Bool.and_eq_true, beq_iff_eq] at h2
    exact ⟨e, he, h2⟩
theorem listed_of {listed : Array Bool} {e : Edge} {o : Oper} (h : (o.after.all fun e => !Region.binds .any e || listed.getD e.on false) = true) (he : e ∈ o.after) (hb : Region.binds .any e = true) : listed.getD e.on true = true := by
  have h1 := Array.all_eq_true_iff_forall_mem.1 h e he
  rw [hb] at h1
  simp only [Bool.not_true, Bool.false_or] at h1
  rcases Nat.lt_or_ge e.on listed.size with h2 | h2
  · simp only [Array.getD_eq_getD_getElem?, Array.getElem?_eq_getElem h2, Option.getD_some] at h1 ⊢
    exact h1
  · simp only [Array.getD_eq_getD_getElem?, Array.getElem?_eq_none h2, Option.getD_none] at h1
    cases h1
theorem typed_last2 {m : Nat} (hm : ops.size = m + 2) (hw : wellOrdered ops a0.tmps.size = true) (hl : lastTwo ops = true)
    (hT : ∀ j v w w', T j v w → R w w' → T j v w')
    (step : ∀ j o, j < m → ops[j]? = some o → ∀ a w, Still ops a0 a → Ahead ops T o a w → W w → wpOp P ops Q j (Leaves R T W j o a w) a w)
    (last : ∀ a w, Still ops a0 a → (∀ j d, j < m → (ops[j]?).bind (·.dst) = some d → T j (a.tmps.getD d undef) w) → W w → wpOp P ops Q m (fun a1 w1 => wpOp P ops Q (m + 1) (fun a' w' => Q .normal a' w') a1 w1) a w) :
    ∀ (fuel : Nat) (listed : Array Bool) (a : Act) (w : World), missing ops listed ≤ fuel → listed.size = ops.size → (listed.getD m true = false ∧ listed.getD (m + 1) true = false) → Clo ops listed → Mid ops T W a0 listed a w → wpAny P .any ops Q fuel listed a w := by
  have none_missing : ∀ (listed : Array Bool) (k : Nat), k < ops.size → listed.getD k true = false → missing ops listed ≠ 0 := fun listed k hk hf h0 => by
    unfold missing at h0
    rw [List.countP_eq_zero] at h0
    have := h0 k (List.mem_range.2 hk)
    rw [hf] at this
    simp at this
  intro fuel
  induction fuel with
  | zero =>
    intro listed a w hmis hsz hnl hclo hmid
    exact absurd (by omega) (none_missing listed m (by omega) hnl.1)
  | succ fuel ih =>
    intro listed a w hmis hsz hnl hclo hmid
    refine ⟨fun hr => ?_, fun i hi => ?_⟩
    · exfalso
      have := ready_of_missing (ops := ops) (a0 := a0) hw ops.size (Nat.le_refl _) hr m (by omega)
      rw [hnl.1] at this
      cases this
    · unfold Region.ready at hi
      obtain ⟨hr1, hr2⟩ := List.mem_filter.1 hi
      have hin : i < ops.size := List.mem_range.1 hr1
      have ho := Array.getElem?_eq_getElem (xs := ops) (i := i) hin
      rw [ho] at hr2
      simp only [Option.map_some, Option.getD_some, Bool.and_eq_true, Bool.not_eq_true'] at hr2
      have hun : listed.getD i true = false := by simpa using hr2.1
      by_cases him2 : i = m + 1
      · exfalso
        subst him2
        obtain ⟨e, he, h3, hb⟩ := (lastTwo_spec hm hl).2 _ ho
        have := listed_of hr2.2 he hb
        rw [h3, hnl.1] at this
        cases this
      · by_cases him : i = m
        · subst him
          have hall : ∀ j, j < i → listed.getD j true = true := fun j hj =>
            reach_listed hclo _ i (fun o ho' e he hb => by
              rw [ho] at ho'
              cases ho'
              exact listed_of hr2.2 he hb) j ((lastTwo_spec hm hl).1 j hj)
          refine wpOp_mono (fun a1 w1 h => ?_) (last a w hmid.still (fun j d hj hd => hmid.done j d (hall j hj) hd) hmid.world)
          have hnx : (listed.setIfInBounds i true).getD (i + 1) true = false := by
            rw [getD_set, if_neg (by omega)]
            exact hnl.2
          have hms := missing_set (ops := ops) hin hun
          have hm1 := none_missing _ (i + 1) (by omega) hnx
          cases fuel with
          | zero => omega
          | succ f =>
            refine ⟨fun hr => ?_, fun k hk => ?_⟩
            · exfalso
              have := ready_of_missing (ops := ops) (a0 := a0) hw ops.size (Nat.le_refl _) hr (i + 1) (by omega)
              rw [hnx] at this
              cases this
            · have hk1 : k = i + 1 := by
                unfold Region.ready at hk
                obtain ⟨hk1, hk2⟩ := List.mem_filter.1 hk
                have hkin : k < ops.size := List.mem_range.1 hk1
                simp only [Bool.and_eq_true, Bool.not_eq_true'] at hk2
                have hku : (listed.setIfInBounds i true).getD k true = false := by simpa using hk2.1
                rw [getD_set] at hku
                by_cases e1 : i = k
                · rw [if_pos e1] at hku; cases hku
                · rw [if_neg e1] at hku
                  rcases Nat.lt_or_ge k i with h4 | h4
                  · rw [hall k h4] at hku; cases hku
                  · omega
              subst hk1
              refine wpOp_mono (fun a2 w2 h2 => ?_) h
              have hre : Region.ready .any ops ((listed.setIfInBounds i true).setIfInBounds (i + 1) true) = [] := ready_all fun j hj => by
                rw [getD_set]
                split
                · rfl
                · rw [getD_set]
                  split
                  · rfl
                  · exact hall j (by omega)
              cases f with
              | zero => exact ⟨hre, h2⟩
              | succ f => exact ⟨fun _ => h2, fun k hk => by rw [hre] at hk; cases hk⟩
        · have hahead : Ahead ops T ops[i] a w := fun e he hb d hd => by
            have h1 := Array.all_eq_true_iff_forall_mem.1 hr2.2 e he
            rw [hb] at h1
            simp only [Bool.not_true, Bool.false_or] at h1
            refine hmid.done e.on d ?_ hd
            rcases Nat.lt_or_ge e.on listed.size with h2 | h2
            · simp only [Array.getD_eq_getD_getElem?, Array.getElem?_eq_getElem h2, Option.getD_some] at h1 ⊢
              exact h1
            · simp only [Array.getD_eq_getD_getElem?, Array.getElem?_eq_none h2, Option.getD_none] at h1
              cases h1
          refine wpOp_mono (fun a' w' h => ?_) (step i ops[i] (by omega) ho a w hmid.still hahead hmid.world)
          obtain ⟨v, rfl, hv, hW', hb⟩ := h
          have hwi := List.all_eq_true.1 hw i (List.mem_range.2 hin)
          rw [ho] at hwi
          simp only [Bool.and_eq_true] at hwi
          refine ih (listed.setIfInBounds i true) _ w' (by have := missing_set (ops := ops) hin hun; omega) (by simpa using hsz) ⟨by rw [getD_set, if_neg him]; exact hnl.1, by rw [getD_set, if_neg him2]; exact hnl.2⟩ (fun j o hoj hlj e he hb => by
            rw [getD_set] at hlj ⊢
            split
            · rfl
            · by_cases e1 : i = j
              · subst e1
                rw [ho] at hoj
                cases hoj
                exact listed_of hr2.2 he hb
              · rw [if_neg e1] at hlj
                exact hclo j o hoj hlj e he hb) ⟨⟨?_, ?_, ?_⟩, ?_, hW'⟩
          · rw [← hmid.still.size]
            cases ops[i].dst <;> simp [Act.put]
          · rw [← hmid.still.defers]
            cases ops[i].dst <;> rfl
          · intro d hd
            rw [← hmid.still.slot d hd]
            have hne := Array.all_eq_true_iff_forall_mem.1 hd ops[i] (Array.getElem_mem hin)
            cases hx : ops[i].dst with
            | none => rfl
            | some x =>
              rw [hx] at hne
              have : x ≠ d := by simpa using hne
              simp [Act.put, Array.getD_eq_getD_getElem?, Array.getElem?_setIfInBounds_ne this]
          · intro j d hl' hd
            rw [getD_set] at hl'
            by_cases e : i = j
            · subst e
              rw [ho] at hd
              have hd : ops[i].dst = some d := hd
              have hlt : d < a.tmps.size := by
                rw [hd] at hwi
                simp only [Bool.and_eq_true] at hwi
                have := of_decide_eq_true hwi.2.1
                rw [hmid.still.size]
                exact this
              have e2 : (a.put ops[i].dst v).tmps.getD d undef = v := by
                rw [hd]
                simp [Act.put, Array.getD_eq_getD_getElem?, hlt]
              rw [e2]
              exact hv (by rw [hd]; simp)
            · rw [if_neg e] at hl'
              have h1 := hT j _ w w' (hmid.done j d hl' hd) hb
              have e2 : (a.put ops[i].dst v).tmps.getD d undef = a.tmps.getD d undef := by
                cases hx : ops[i].dst with
                | none => rfl
                | some x =>
                  rw [hx] at hwi
                  simp only [Bool.and_eq_true] at hwi
                  have hj : j < ops.size := by
                    rcases Nat.lt_or_ge j ops.size with h | h
                    · exact h
                    · rw [Array.getElem?_eq_none h] at hd
                      cases hd
                  have h2 := List.all_eq_true.1 hwi.2.2 j (List.mem_range.2 hj)
                  rw [hd] at h2
                  have : x ≠ d := by
                    rintro rfl
                    simp at h2
                    exact e h2.symm
                  simp [Act.put, Array.getD_eq_getD_getElem?, Array.getElem?_setIfInBounds_ne this]
              rw [e2]
              exact h1

/-- THE LAW: all but the last two by themselves, then these -/
theorem wp_region_stepsT {id : Nat} {w : World} (m : Nat) (T : Nat → Value → World → Prop) (W : World → Prop) (hRr : ∀ w, R w w) (hm : P.follows .mixedOrders = true) (hsz : ops.size = m + 2) (hw : wellOrdered ops a0.tmps.size = true) (hl : lastTwo ops = true) (hcov : covered ops = true) (hs : Region.noSelect ops = true)
    (hT : ∀ j v w w', T j v w → R w w' → T j v w') (h0 : W w.drew)
    (steps : Steps (StepG R P ops a0 T W) 0 (ops.toList.take m))
    (last : ∀ a w, Still ops a0 a → (∀ j d, j < m → (ops[j]?).bind (·.dst) = some d → T j (a.tmps.getD d undef) w) → W w → wpOp P ops Q m (fun a1 w1 => wpOp P ops Q (m + 1) (fun a' w' => Q .normal a' w') a1 w1) a w) :
    (Code.region id ops true).wp P Q a0 w := by
  refine wp_region_any hm (typed_last2 hsz hw hl hT (fun j o hj ho a w1 hst ha hW => ?_) last ops.size _ a0 w.drew ?_ (by simp) ⟨by simp [Array.getD_eq_getD_getElem?, hsz], by simp [Array.getD_eq_getD_getElem?, hsz]⟩ (fun j o hoj hlj => by
      have hj : j < ops.size := (Array.getElem?_eq_some_iff.1 hoj).1
      simp [Array.getD_eq_getD_getElem?, hj] at hlj) ⟨⟨rfl, rfl, fun _ _ => rfl⟩, fun j d hl hd => ?_, h0⟩)
  · have hst1 := steps.at j o (by rw [List.getElem?_take, if_pos hj]; simpa using ho)
    rw [Nat.zero_add] at hst1
    exact stepG_op hRr hcov hs ho hst ha hW hst1
  · unfold missing
    exact Nat.le_trans List.countP_le_length (by simp)
  · exfalso
    rcases Nat.lt_or_ge j ops.size with h | h
    · simp [Array.getD_eq_getD_getElem?, h] at hl
    · rw [Array.getElem?_eq_none h] at hd
      cases hd

/-! ### the frame behind a region: as it was, but for the region's own slots -/
theorem foldl_put_size (v : Nat → Value) : ∀ (ds : List Nat) (t : Array Value), (ds.foldl (fun t d => t.setIfInBounds d (v d)) t).size = t.size
  | [], _ => rfl
  | d :: r, t => by rw [List.foldl_cons, foldl_put_size v r]; simp
theorem foldl_put_at (v : Nat → Value) (i : Nat) : ∀ (ds : List Nat) (t : Array Value), i < t.size → (ds.foldl (fun t d => t.setIfInBounds d (v d)) t)[i]? = if i ∈ ds then some (v i) else t[i]?
  | [], t, _ => by simp
  | d :: r, t, h => by
    rw [List.foldl_cons, foldl_put_at v i r _ (by simpa using h)]
    by_cases h1 : i ∈ r
    · simp [h1]
    · by_cases h2 : d = i
      · subst h2
        simp [h1, h]
      · rw [if_neg h1, Array.getElem?_setIfInBounds_ne h2, if_neg (by simp [h1, Ne.symm h2])]
theorem Still.lit {a : Act} (h : Still ops a0 a) (ds : List Nat) (hds : ops.toList.filterMap (·.dst) = ds) : a.tmps = ds.foldl (fun t d => t.setIfInBounds d (a.tmps.getD d undef)) a0.tmps := by
  apply Array.ext_getElem?
  intro i
  rcases Nat.lt_or_ge i a0.tmps.size with hi | hi
  · rw [foldl_put_at (fun d => a.tmps.getD d undef) i ds _ hi]
    have hi' : i < a.tmps.size := by rw [h.size]; exact hi
    by_cases hm : i ∈ ds
    · rw [if_pos hm]
      simp [Array.getD_eq_getD_getElem?, hi']
    · rw [if_neg hm]
      have h1 := h.slot i (by
        rw [Array.all_eq_true_iff_forall_mem]
        intro o ho
        simp only [bne_iff_ne, ne_eq]
        intro e
        apply hm
        rw [← hds, List.mem_filterMap]
        exact ⟨o, by simpa using ho, e⟩)
      simp only [Array.getD_eq_getD_getElem?, Array.getElem?_eq_getElem hi, Array.getElem?_eq_getElem hi', Option.getD_some] at h1
      rw [Array.getElem?_eq_getElem hi, Array.getElem?_eq_getElem hi', h1]
  · rw [Array.getElem?_eq_none (by rw [h.size]; exact hi), Array.getElem?_eq_none (by rw [foldl_put_size (fun d => a.tmps.getD d undef)]; exact hi)]
end
end Go.Proofs.Ytgaadndhecokfaa.Rl

/- What read does at one step of the expression: the four ways in which its closures are called, whatever is done for spots that meet. -/
namespace Go.Proofs.Ytgaadndhecokfaa
open Go.RowKit Go.Lib Go.Joins
section
variable {B0 : Nat} {f : FuncId} {c : Array Value} {row : Option Nat} {J : List (Prt × Prt) → World → Prop}
end
end Go.Proofs.Ytgaadndhecokfaa
