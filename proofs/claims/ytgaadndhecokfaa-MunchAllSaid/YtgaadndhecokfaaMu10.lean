/- TypedG, TypedL, SpPart, SpThen, put together. -/
import Derived.Test.YtgaadndhecokfaaMu02
import Derived.Test.YtgaadndhecokfaaMu08
import Derived.RangeFuncBox
import Derived.Laws.MakeOwn
import Derived.Lib.SmallJoins
import Derived.Laws.CopyRow
/- A region that draws its order, met operation by operation, with guards of any value. -/
namespace Go.Proofs.Ytgaadndhecokfaa
open Go.RowKit

section
variable {P : Program} {ops : Array Oper} {Q : Exit → Act → World → Prop} {T : Nat → Value → World → Prop} {W : World → Prop} {a0 : Act}
/-- one operation, guarded or not: what its guard holds is known; where it is passed over, its slot may hold nothing -/
def StepG (P : Program) (ops : Array Oper) (a0 : Act) (T : Nat → Value → World → Prop) (W : World → Prop) (j : Nat) (o : Oper) : Prop :=
  match o.guard with
  | none => StepOk P ops a0 T W j o
  | some (g, b) => ∃ x : Bool, (∀ v w, T g v w → v = .bool x) ∧ (x = b → StepOk P ops a0 T W j o) ∧ (x ≠ b → ∀ w, T j undef w)
theorem stepG_op {j : Nat} {o : Oper} {a : Act} {w1 : World} (hcov : covered ops = true) (hs : Region.noSelect ops = true) (ho : ops[j]? = some o) (hst : Still ops a0 a) (ha : Ahead ops T o a w1) (hW : W w1) (hst1 : StepG P ops a0 T W j o) : wpOp P ops Q j (Leaves T W j o a w1) a w1 := by
  have hc := Array.all_eq_true_iff_forall_mem.1 hcov o (Array.mem_of_getElem? ho)
  simp only [Bool.and_eq_true] at hc
  have wait : ∀ i d, waits o i = true → (ops[i]?).bind (·.dst) = some d → T i (a.tmps.getD d undef) w1 := fun i d hwt hd => by
    unfold waits at hwt
    obtain ⟨e, he, h1⟩ := Array.any_eq_true'.1 hwt
    simp only [Bool.and_eq_true, beq_iff_eq] at h1
    obtain ⟨rfl, h2⟩ := h1
    exact ha e he h2 d hd
  have facts : ∀ t ∈ reads o, Fact ops a0 T t (a.tmps.getD t undef) w1 := fun t ht => by
    have h1 := List.all_eq_true.1 hc.1 t ht
    unfold Fact
    cases hsrc : srcOf ops t with
    | none =>
      refine hst.slot t ?_
      rw [Array.all_eq_true_iff_forall_mem]
      intro o' ho'
      obtain ⟨i, hi, rfl⟩ := Array.mem_iff_getElem.1 ho'
      unfold srcOf at hsrc
      have := List.find?_eq_none.1 hsrc i (List.mem_range.2 hi)
      rw [Array.getElem?_eq_getElem hi] at this
      simpa using this
    | some i =>
      rw [hsrc] at h1
      refine wait i t h1 ?_
      unfold srcOf at hsrc
      simpa using List.find?_some hsrc
  have run : Region.wanted o (yielded ops a.tmps) = true → StepOk P ops a0 T W j o → wpOp P ops Q j (Leaves T W j o a w1) a w1 := fun hg hst2 =>
    does_wpOp ho (fun cs b => Region.noSelect_spec hs j o cs b ho) (ρ := fun t => a.tmps.getD t undef) (fun t _ => rfl) hg (hst2 _ w1 facts hW)
  cases hgd : o.guard with
  | none =>
    unfold StepG at hst1
    rw [hgd] at hst1
    exact run (by unfold Region.wanted; rw [hgd]) hst1
  | some gb =>
    obtain ⟨g, b⟩ := gb
    unfold StepG at hst1
    rw [hgd] at hst1
    obtain ⟨x, hx, h1, h2⟩ := hst1
    have hc2 := hc.2
    rw [hgd] at hc2
    simp only [Bool.and_eq_true] at hc2
    obtain ⟨d, hd⟩ := Option.isSome_iff_exists.1 hc2.2
    have hv := hx _ _ (wait g d hc2.1 hd)
    have hy : yielded ops a.tmps g = some x := by
      unfold yielded
      rw [hd]
      simp only [Option.bind_some]
      rcases Nat.lt_or_ge d a.tmps.size with h | h
      · simp only [Array.getD_eq_getD_getElem?, Array.getElem?_eq_getElem h, Option.getD_some] at hv
        rw [Array.getElem?_eq_getElem h, hv]
      · simp only [Array.getD_eq_getD_getElem?, Array.getElem?_eq_none h, Option.getD_none] at hv
        cases hv
    by_cases hxb : x = b
    · refine run ?_ (h1 hxb)
      unfold Region.wanted
      rw [hgd]
      show (yielded ops a.tmps g == some b) = true
      rw [hy, hxb]
      simp
    · unfold wpOp
      have hnw : Region.wanted o (yielded ops a.tmps) = false := by
        unfold Region.wanted
        rw [hgd]
        show (yielded ops a.tmps g == some b) = false
        rw [hy]
        simpa using hxb
      simp only [ho, hnw, Bool.false_eq_true, if_false]
      exact ⟨undef, rfl, fun _ => h2 hxb w1, hW, Below.refl _ _⟩
theorem wp_region_stepsG {id : Nat} {w : World} (T : Nat → Value → World → Prop) (W : World → Prop) (hm : P.follows .mixedOrders = true) (hw : wellOrdered ops a0.tmps.size = true) (hcov : covered ops = true) (hs : Region.noSelect ops = true)
    (hT : ∀ j v w w', T j v w → Below w.heap.size w w' → T j v w') (h0 : W w.drew)
    (steps : Steps (StepG P ops a0 T W) 0 ops.toList)
    (fin : ∀ a w, Still ops a0 a → (∀ j d, (ops[j]?).bind (·.dst) = some d → T j (a.tmps.getD d undef) w) → W w → Q .normal a w) :
    (Code.region id ops true).wp P Q a0 w := by
  refine wp_region_typed T W hm hw hT h0 (fun j o ho a w1 hst ha hW => ?_) fin
  have hst1 := steps.at j o (by simpa using ho)
  rw [Nat.zero_add] at hst1
  exact stepG_op hcov hs ho hst ha hW hst1
end
end Go.Proofs.Ytgaadndhecokfaa

/- A region that draws its order and ends with an operation that waits for all others (a store): the others met by themselves, the last one where all are done. -/
namespace Go.Proofs.Ytgaadndhecokfaa
open Go.RowKit

section
variable {P : Program} {ops : Array Oper} {Q : Exit → Act → World → Prop} {T : Nat → Value → World → Prop} {W : World → Prop} {a0 : Act}
/-- the last operation waits for each other one -/
def lastWaits (ops : Array Oper) : Bool := match ops.back? with
  | none => false
  | some o => (List.range (ops.size - 1)).all fun j => o.after.any fun e => e.on == j && Region.binds .any e
theorem lastWaits_spec {m : Nat} (hm : ops.size = m + 1) (h : lastWaits ops = true) {o : Oper} (ho : ops[m]? = some o) : ∀ j, j < m → ∃ e ∈ o.after, e.on = j ∧ Region.binds .any e = true := by
  intro j hj
  unfold lastWaits at h
  have hb : ops.back? = some o := by
    rw [Array.back?_eq_getElem?, hm]
    exact ho
  rw [hb] at h
  have h1 := List.all_eq_true.1 h j (List.mem_range.2 (by omega))
  obtain ⟨e, he, h2⟩ := Array.any_eq_true'.1 h1
  simp only [Bool.and_eq_true, beq_iff_eq] at h2
  exact ⟨e, he, h2⟩
theorem ready_all {listed : Array Bool} (h : ∀ j, j < ops.size → listed.getD j true = true) : Region.ready .any ops listed = [] := by
  rw [Region.ready, List.filter_eq_nil_iff]
  intro i hi
  rw [h i (List.mem_range.1 hi)]
  simp
theorem typed_last {m : Nat} (hm : ops.size = m + 1) (hw : wellOrdered ops a0.tmps.size = true) (hl : lastWaits ops = true)
    (hT : ∀ j v w w', T j v w → Below w.heap.size w w' → T j v w')
    (step : ∀ j o, j < m → ops[j]? = some o → ∀ a w, Still ops a0 a → Ahead ops T o a w → W w → wpOp P ops Q j (Leaves T W j o a w) a w)
    (last : ∀ a w, Still ops a0 a → (∀ j d, j < m → (ops[j]?).bind (·.dst) = some d → T j (a.tmps.getD d undef) w) → W w → wpOp P ops Q m (fun a' w' => Q .normal a' w') a w) :
    ∀ (fuel : Nat) (listed : Array Bool) (a : Act) (w : World), missing ops listed ≤ fuel → listed.size = ops.size → listed.getD m true = false → Mid ops T W a0 listed a w → wpAny P .any ops Q fuel listed a w := by
  intro fuel
  induction fuel with
  | zero =>
    intro listed a w hmis hsz hnl hmid
    exfalso
    have h0 : missing ops listed = 0 := by omega
    unfold missing at h0
    rw [List.countP_eq_zero] at h0
    have := h0 m (List.mem_range.2 (by omega))
    rw [hnl] at this
    simp at this
  | succ fuel ih =>
    intro listed a w hmis hsz hnl hmid
    refine ⟨fun hr => ?_, fun i hi => ?_⟩
    · exfalso
      have := ready_of_missing (ops := ops) (a0 := a0) hw ops.size (Nat.le_refl _) hr m (by omega)
      rw [hnl] at this
      cases this
    · unfold Region.ready at hi
      obtain ⟨hr1, hr2⟩ := List.mem_filter.1 hi
      have hin : i < ops.size := List.mem_range.1 hr1
      have ho := Array.getElem?_eq_getElem (xs := ops) (i := i) hin
      rw [ho] at hr2
      simp only [Option.map_some, Option.getD_some, Bool.and_eq_true, Bool.not_eq_true'] at hr2
      have hun : listed.getD i true = false := by simpa using hr2.1
      by_cases him : i = m
      · subst him
        have hall : ∀ j, j < i → listed.getD j true = true := fun j hj => by
          obtain ⟨e, he, rfl, hb⟩ := lastWaits_spec hm hl ho j hj
          have h1 := Array.all_eq_true_iff_forall_mem.1 hr2.2 e he
          rw [hb] at h1
          simp only [Bool.not_true, Bool.false_or] at h1
          have h2 : e.on < listed.size := by omega
          simp only [Array.getD_eq_getD_getElem?, Array.getElem?_eq_getElem h2, Option.getD_some] at h1 ⊢
          exact h1
        refine wpOp_mono (fun a' w' h => ?_) (last a w hmid.still (fun j d hj hd => hmid.done j d (hall j hj) hd) hmid.world)
        have hre : Region.ready .any ops (listed.setIfInBounds i true) = [] := ready_all fun j hj => by
          rw [getD_set]
          split
          · rfl
          · exact hall j (by omega)
        cases fuel with
        | zero => exact ⟨hre, h⟩
        | succ f => exact ⟨fun _ => h, fun k hk => by rw [hre] at hk; cases hk⟩
      · have hahead : Ahead ops T ops[i] a w := fun e he hb d hd => by
          have h1 := Array.all_eq_true_iff_forall_mem.1 hr2.2 e he
          rw [hb] at h1
          simp only [Bool.not_true, Bool.false_or] at h1
          refine hmid.done e.on d ?_ hd
          rcases Nat.lt_or_ge e.on listed.size with h2 | h2
          · simp only [Array.getD_eq_getD_getElem?, Array.getElem?_eq_getElem h2, Option.getD_some] at h1 ⊢
            exact h1
          · simp only [Array.getD_eq_getD_getElem?, Array.getElem?_eq_none h2, Option.getD_none] at h1
            cases h1
        refine wpOp_mono (fun a' w' h => ?_) (step i ops[i] (by omega) ho a w hmid.still hahead hmid.world)
        obtain ⟨v, rfl, hv, hW', hb⟩ := h
        have hwi := List.all_eq_true.1 hw i (List.mem_range.2 hin)
        rw [ho] at hwi
        simp only [Bool.and_eq_true] at hwi
        refine ih (listed.setIfInBounds i true) _ w' (by have := missing_set (ops := ops) hin hun; omega) (by simpa using hsz) (by rw [getD_set, if_neg him]; exact hnl) ⟨⟨?_, ?_, ?_⟩, ?_, hW'⟩
        · rw [← hmid.still.size]
          cases ops[i].dst <;> simp [Act.put]
        · rw [← hmid.still.defers]
          cases ops[i].dst <;> rfl
        · intro d hd
          rw [← hmid.still.slot d hd]
          have hne := Array.all_eq_true_iff_forall_mem.1 hd ops[i] (Array.getElem_mem hin)
          cases hx : ops[i].dst with
          | none => rfl
          | some x =>
            rw [hx] at hne
            have : x ≠ d := by simpa using hne
            simp [Act.put, Array.getD_eq_getD_getElem?, Array.getElem?_setIfInBounds_ne this]
        · intro j d hl' hd
          rw [getD_set] at hl'
          by_cases e : i = j
          · subst e
            rw [ho] at hd
            have hd : ops[i].dst = some d := hd
            have hlt : d < a.tmps.size := by
              rw [hd] at hwi
              simp only [Bool.and_eq_true] at hwi
              have := of_decide_eq_true hwi.2.1
              rw [hmid.still.size]
              exact this
            have e2 : (a.put ops[i].dst v).tmps.getD d undef = v := by
              rw [hd]
              simp [Act.put, Array.getD_eq_getD_getElem?, hlt]
            rw [e2]
            exact hv (by rw [hd]; simp)
          · rw [if_neg e] at hl'
            have h1 := hT j _ w w' (hmid.done j d hl' hd) hb
            have e2 : (a.put ops[i].dst v).tmps.getD d undef = a.tmps.getD d undef := by
              cases hx : ops[i].dst with
              | none => rfl
              | some x =>
                rw [hx] at hwi
                simp only [Bool.and_eq_true] at hwi
                have hj : j < ops.size := by
                  rcases Nat.lt_or_ge j ops.size with h | h
                  · exact h
                  · rw [Array.getElem?_eq_none h] at hd
                    cases hd
                have h2 := List.all_eq_true.1 hwi.2.2 j (List.mem_range.2 hj)
                rw [hd] at h2
                have : x ≠ d := by
                  rintro rfl
                  simp at h2
                  exact e h2.symm
                simp [Act.put, Array.getD_eq_getD_getElem?, Array.getElem?_setIfInBounds_ne this]
            rw [e2]
            exact h1

/-- THE LAW: all but the last one by themselves, then the last one -/
theorem wp_region_stepsL {id : Nat} {w : World} (m : Nat) (T : Nat → Value → World → Prop) (W : World → Prop) (hm : P.follows .mixedOrders = true) (hsz : ops.size = m + 1) (hw : wellOrdered ops a0.tmps.size = true) (hl : lastWaits ops = true) (hcov : covered ops = true) (hs : Region.noSelect ops = true)
    (hT : ∀ j v w w', T j v w → Below w.heap.size w w' → T j v w') (h0 : W w.drew)
    (steps : Steps (StepG P ops a0 T W) 0 (ops.toList.take m))
    (last : ∀ a w, Still ops a0 a → (∀ j d, j < m → (ops[j]?).bind (·.dst) = some d → T j (a.tmps.getD d undef) w) → W w → wpOp P ops Q m (fun a' w' => Q .normal a' w') a w) :
    (Code.region id ops true).wp P Q a0 w := by
  refine wp_region_any hm (typed_last hsz hw hl hT (fun j o hj ho a w1 hst ha hW => ?_) last ops.size _ a0 w.drew ?_ (by simp) (by simp [Array.getD_eq_getD_getElem?, hsz]) ⟨⟨rfl, rfl, fun _ _ => rfl⟩, fun j d hl hd => ?_, h0⟩)
  · have hst1 := steps.at j o (by rw [List.getElem?_take, if_pos hj]; simpa using ho)
    rw [Nat.zero_add] at hst1
    exact stepG_op hcov hs ho hst ha hW hst1
  · unfold missing
    exact Nat.le_trans List.countP_le_length (by simp)
  · exfalso
    rcases Nat.lt_or_ge j ops.size with h | h
    · simp [Array.getD_eq_getD_getElem?, h] at hl
    · rw [Array.getElem?_eq_none h] at hd
      cases hd
end
end Go.Proofs.Ytgaadndhecokfaa

/- Parts and their spots in memory; contracts of orNone, single, beside, or. -/
namespace Go.Proofs.Ytgaadndhecokfaa
open Go.RowKit Go.Lib Go.Joins

/-- what is known of a part of an expression -/
structure Prt where
  first : Nat → Bool
  last : Nat → Bool
  free : Bool
/-- a struct that is stored whole in a block of its own type -/
theorem store_row {ops : Array Oper} {rest : List Oper} {o : Oper} {a : Act} {w : World} {Q : Exit → Act → World → Prop} (hgd : o.guard = none) {ty : TypeId} {x y : Operand} (ho : o.op = .store ty x y)
    {B : Nat} {cs old : Array Value} {t : TypeId} (hx : a.eval x = .pointer (some ⟨B, 0, none⟩)) (hy : a.eval y = .agg cs) (hg : w.heap[B]? = some (.cells old t (0, 0))) (n : Nat) (hi : (Try.prog.info? ty).map (·.size) = some n)
    (hold : old.size = n) (hcs : cs.size = n) (h1 : cs.all (·.oneCell') = true) (h : ∀ w', w'.heap[B]? = some (.cells cs t (0, 0)) → w.grownBy w' (some B) → wpList Try.prog ops Q rest (a.put o.dst undef) w') : wpList Try.prog ops Q (o :: rest) a w :=
  wpList_store_row hgd ty x y ho B cs hx hy t old hg (by rw [hcs]; exact hi) (by rw [hcs]; exact hold) h1 (h _ (setRow_heap w B _ _ t _ hg) ⟨rfl, rfl, rfl, by simp, fun k _ hk => setRow_other w B k cs (by simpa using hk)⟩)
attribute [local go_sem] evalR_tmp evalR_const evalR_global evalR_func
end Go.Proofs.Ytgaadndhecokfaa

/- Contract of part.then. -/
namespace Go.Proofs.Ytgaadndhecokfaa
open Go.RowKit Go.Lib Go.Joins

attribute [local go_sem] evalR_tmp evalR_const evalR_global evalR_func
end Go.Proofs.Ytgaadndhecokfaa
