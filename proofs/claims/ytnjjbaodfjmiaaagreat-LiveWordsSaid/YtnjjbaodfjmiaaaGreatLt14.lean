/- TypedR, SpStk, SpUn, SpBin, put together. -/
import Derived.Test.YtnjjbaodfjmiaaaGreatLt11
/- The law of regions that draw their order, operation by operation (XTypedL), for any relation between worlds: callees may turn memory. -/
namespace Go.Proofs.YtnjjbaodfjmiaaaGreat.Rl
open Go.RowKit

section
variable {R : World → World → Prop} {P : Program} {ops : Array Oper} {Q : Exit → Act → World → Prop} {T : Nat → Value → World → Prop} {W : World → Prop} {a0 : Act}

/-- what is known of a frame that may stand in the midst of the region: the slots that the region does not write are as they were -/
structure Still (ops : Array Oper) (a0 a : Act) : Prop where
  size : a.tmps.size = a0.tmps.size
  defers : a.defers = a0.defers
  slot : ∀ d, (ops.all fun o => o.dst != some d) = true → a.tmps.getD d undef = a0.tmps.getD d undef
/-- the operations that o waits for have left what they leave -/
def Ahead (ops : Array Oper) (T : Nat → Value → World → Prop) (o : Oper) (a : Act) (w : World) : Prop :=
  ∀ e ∈ o.after, Region.binds .any e = true → ∀ d, (ops[e.on]?).bind (·.dst) = some d → T e.on (a.tmps.getD d undef) w
/-- what an operation leaves -/
def Leaves (R : World → World → Prop) (T : Nat → Value → World → Prop) (W : World → Prop) (j : Nat) (o : Oper) (a : Act) (w : World) (a' : Act) (w' : World) : Prop :=
  ∃ v, a' = a.put o.dst v ∧ (o.dst ≠ none → T j v w') ∧ W w' ∧ R w w'

structure Mid (ops : Array Oper) (T : Nat → Value → World → Prop) (W : World → Prop) (a0 : Act) (listed : Array Bool) (a : Act) (w : World) : Prop where
  still : Still ops a0 a
  done : ∀ j d, listed.getD j true = true → (ops[j]?).bind (·.dst) = some d → T j (a.tmps.getD d undef) w
  world : W w

/-- the edges lead to what stands ahead, no two operations write one slot, and all slots are there -/
def wellOrdered (ops : Array Oper) (n : Nat) : Bool :=
  (List.range ops.size).all fun j => match ops[j]? with
    | none => true
    | some o => (o.after.all fun e => decide (e.on < j)) && (match o.dst with
      | none => true
      | some d => decide (d < n) && (List.range ops.size).all fun i => i == j || (ops[i]?).bind (·.dst) != some d)

theorem getD_set (L : Array Bool) (i j : Nat) : (L.setIfInBounds i true).getD j true = if i = j then true else L.getD j true := by
  simp only [Array.getD_eq_getD_getElem?, Array.getElem?_setIfInBounds]
  split
  · subst_vars
    split <;> simp
  · rfl
def missing (ops : Array Oper) (listed : Array Bool) : Nat := (List.range ops.size).countP fun i => !listed.getD i true
theorem missing_set {listed : Array Bool} {i : Nat} (hi : i < ops.size) (h : listed.getD i true = false) : missing ops (listed.setIfInBounds i true) + 1 ≤ missing ops listed := by
  unfold missing
  have key : ∀ n, i < n → (List.range n).countP (fun k => !(listed.setIfInBounds i true).getD k true) + 1 ≤ (List.range n).countP (fun k => !listed.getD k true) := by
    have le : ∀ n, (List.range n).countP (fun k => !(listed.setIfInBounds i true).getD k true) ≤ (List.range n).countP (fun k => !listed.getD k true) := fun n =>
      List.countP_mono_left fun k _ hk => by
        rw [getD_set] at hk
        split at hk
        · simp at hk
        · exact hk
    intro n
    induction n with
    | zero => intro h; omega
    | succ n ih =>
      intro hn
      rw [List.range_succ, List.countP_append, List.countP_append]
      by_cases e : i = n
      · subst e
        have := le i
        have e1 : List.countP (fun k => !(listed.setIfInBounds i true).getD k true) [i] = 0 := by simp
        have e2 : List.countP (fun k => !listed.getD k true) [i] = 1 := by rw [List.countP_singleton, h]; rfl
        omega
      · have := ih (by omega)
        have e1 : List.countP (fun k => !(listed.setIfInBounds i true).getD k true) [n] = List.countP (fun k => !listed.getD k true) [n] := by
          rw [List.countP_singleton, List.countP_singleton, getD_set, if_neg e]
        omega
  exact key ops.size hi
theorem ready_of_missing {listed : Array Bool} (hw : wellOrdered ops a0.tmps.size = true) : ∀ n, n ≤ ops.size → Region.ready .any ops listed = [] → ∀ j, j < n → listed.getD j true = true := by
  intro n
  induction n with
  | zero => intro _ _ j hj; omega
  | succ n ih =>
    intro hn hr j hj
    have ih := ih (by omega) hr
    by_cases e : j = n
    · subst e
      by_cases hl : listed.getD j true = true
      · exact hl
      · exfalso
        have : j ∈ Region.ready .any ops listed := by
          unfold Region.ready
          refine List.mem_filter.2 ⟨List.mem_range.2 (by omega), ?_⟩
          have ho := Array.getElem?_eq_getElem (xs := ops) (i := j) (by omega)
          have hl' : listed.getD j true = false := by simpa using hl
          rw [hl', ho]
          simp only [Bool.not_false, Bool.true_and, Option.map_some, Option.getD_some]
          rw [Array.all_eq_true_iff_forall_mem]
          intro ed hed
          have hwj := List.all_eq_true.1 hw j (List.mem_range.2 (by omega))
          rw [ho] at hwj
          simp only [Bool.and_eq_true] at hwj
          have hlt := of_decide_eq_true (Array.all_eq_true_iff_forall_mem.1 hwj.1 ed hed)
          have h1 := ih ed.on hlt
          have : listed.getD ed.on false = true := by
            rcases Nat.lt_or_ge ed.on listed.size with h2 | h2
            · simp only [Array.getD_eq_getD_getElem?, Array.getElem?_eq_getElem h2, Option.getD_some] at h1 ⊢
              exact h1
            · have h3 : listed.getD j true = true := by simp [Array.getD_eq_getD_getElem?, Array.getElem?_eq_none (show listed.size ≤ j by omega)]
              rw [h3] at hl'
              cases hl'
          rw [this]
          simp
        rw [hr] at this
        cases this
    · exact ih j (by omega)

theorem typed_sound (hw : wellOrdered ops a0.tmps.size = true)
    (hT : ∀ j v w w', T j v w → R w w' → T j v w')
    (step : ∀ j o, ops[j]? = some o → ∀ a w, Still ops a0 a → Ahead ops T o a w → W w → wpOp P ops Q j (Leaves R T W j o a w) a w)
    (fin : ∀ a w, Still ops a0 a → (∀ j d, (ops[j]?).bind (·.dst) = some d → T j (a.tmps.getD d undef) w) → W w → Q .normal a w) :
    ∀ (fuel : Nat) (listed : Array Bool) (a : Act) (w : World), missing ops listed ≤ fuel → listed.size = ops.size → Mid ops T W a0 listed a w → wpAny P .any ops Q fuel listed a w := by
  have finish : ∀ (listed : Array Bool) (a : Act) (w : World), listed.size = ops.size → Mid ops T W a0 listed a w → Region.ready .any ops listed = [] → Q .normal a w := fun listed a w hsz hm hr => by
    have hall := ready_of_missing hw ops.size (Nat.le_refl _) hr
    refine fin a w hm.still (fun j d hd => hm.done j d ?_ hd) hm.world
    rcases Nat.lt_or_ge j ops.size with h | h
    · exact hall j h
    · rw [Array.getElem?_eq_none h] at hd
      cases hd
  intro fuel
  induction fuel with
  | zero =>
    intro listed a w hmis hsz hm
    have hr : Region.ready .any ops listed = [] := by
      rw [Region.ready, List.filter_eq_nil_iff]
      intro i hi
      have h0 : missing ops listed = 0 := by omega
      unfold missing at h0
      rw [List.countP_eq_zero] at h0
      have := h0 i hi
      simp only [Bool.not_eq_true, Bool.not_eq_false'] at this
      rw [this]
      simp
    exact ⟨hr, finish listed a w hsz hm hr⟩
  | succ fuel ih =>
    intro listed a w hmis hsz hm
    refine ⟨finish listed a w hsz hm, fun i hi => ?_⟩
    unfold Region.ready at hi
    obtain ⟨hr1, hr2⟩ := List.mem_filter.1 hi
    have hin : i < ops.size := List.mem_range.1 hr1
    have ho := Array.getElem?_eq_getElem (xs := ops) (i := i) hin
    rw [ho] at hr2
    simp only [Option.map_some, Option.getD_some, Bool.and_eq_true, Bool.not_eq_true'] at hr2
    have hun : listed.getD i true = false := by simpa using hr2.1
    have hahead : Ahead ops T ops[i] a w := fun e he hb d hd => by
      have h1 := Array.all_eq_true_iff_forall_mem.1 hr2.2 e he
      rw [hb] at h1
      simp only [Bool.not_true, Bool.false_or] at h1
      refine hm.done e.on d ?_ hd
      rcases Nat.lt_or_ge e.on listed.size with h2 | h2
      · simp only [Array.getD_eq_getD_getElem?, Array.getElem?_eq_getElem h2, Option.getD_some] at h1 ⊢
        exact h1
      · simp [Array.getD_eq_getD_getElem?, Array.getElem?_eq_none h2]
    refine wpOp_mono (fun a' w' h => ?_) (step i ops[i] ho a w hm.still hahead hm.world)
    obtain ⟨v, rfl, hv, hW', hb⟩ := h
    have hwi := List.all_eq_true.1 hw i (List.mem_range.2 hin)
    rw [ho] at hwi
    simp only [Bool.and_eq_true] at hwi
    refine ih (listed.setIfInBounds i true) _ w' (by have := missing_set (ops := ops) hin hun; omega) (by simpa using hsz) ⟨⟨?_, ?_, ?_⟩, ?_, hW'⟩
    · rw [← hm.still.size]
      cases ops[i].dst <;> simp [Act.put]
    · rw [← hm.still.defers]
      cases ops[i].dst <;> rfl
    · intro d hd
      rw [← hm.still.slot d hd]
      have hne := Array.all_eq_true_iff_forall_mem.1 hd ops[i] (Array.getElem_mem hin)
      cases hx : ops[i].dst with
      | none => rfl
      | some x =>
        rw [hx] at hne
        have : x ≠ d := by simpa using hne
        simp [Act.put, Array.getD_eq_getD_getElem?, Array.getElem?_setIfInBounds_ne this]
    · intro j d hl hd
      rw [getD_set] at hl
      by_cases e : i = j
      · subst e
        rw [ho] at hd
        have hd : ops[i].dst = some d := hd
        have hlt : d < a.tmps.size := by
          rw [hd] at hwi
          simp only [Bool.and_eq_true] at hwi
          have := of_decide_eq_true hwi.2.1
          rw [hm.still.size]
          exact this
        have e2 : (a.put ops[i].dst v).tmps.getD d undef = v := by
          rw [hd]
          simp [Act.put, Array.getD_eq_getD_getElem?, hlt]
        rw [e2]
        exact hv (by rw [hd]; simp)
      · rw [if_neg e] at hl
        have h1 := hT j _ w w' (hm.done j d hl hd) hb
        have e2 : (a.put ops[i].dst v).tmps.getD d undef = a.tmps.getD d undef := by
          cases hx : ops[i].dst with
          | none => rfl
          | some x =>
            rw [hx] at hwi
            simp only [Bool.and_eq_true] at hwi
            have hj : j < ops.size := by
              rcases Nat.lt_or_ge j ops.size with h | h
              · exact h
              · rw [Array.getElem?_eq_none h] at hd
                cases hd
            have h2 := List.all_eq_true.1 hwi.2.2 j (List.mem_range.2 hj)
            rw [hd] at h2
            have : x ≠ d := by
              rintro rfl
              simp at h2
              exact e h2.symm
            simp [Act.put, Array.getD_eq_getD_getElem?, Array.getElem?_setIfInBounds_ne this]
        rw [e2]
        exact h1

/-- THE LAW -/
theorem wp_region_typed {id : Nat} {w : World} (T : Nat → Value → World → Prop) (W : World → Prop) (hm : P.follows .mixedOrders = true) (hw : wellOrdered ops a0.tmps.size = true)
    (hT : ∀ j v w w', T j v w → R w w' → T j v w') (h0 : W w.drew)
    (step : ∀ j o, ops[j]? = some o → ∀ a w, Still ops a0 a → Ahead ops T o a w → W w → wpOp P ops Q j (Leaves R T W j o a w) a w)
    (fin : ∀ a w, Still ops a0 a → (∀ j d, (ops[j]?).bind (·.dst) = some d → T j (a.tmps.getD d undef) w) → W w → Q .normal a w) :
    (Code.region id ops true).wp P Q a0 w := by
  refine wp_region_any hm (typed_sound hw hT step fin ops.size _ a0 w.drew ?_ (by simp) ⟨⟨rfl, rfl, fun _ _ => rfl⟩, fun j d hl hd => ?_, h0⟩)
  · unfold missing
    exact Nat.le_trans List.countP_le_length (by simp)
  · exfalso
    rcases Nat.lt_or_ge j ops.size with h | h
    · simp [Array.getD_eq_getD_getElem?, h] at hl
    · rw [Array.getElem?_eq_none h] at hd
      cases hd

/-! ### the same, with each operation met by itself: its operands by what is known of them -/
def evalR (ρ : Tmp → Value) : Operand → Value
  | .tmp t => ρ t
  | .const v => v
  | .global g => .pointer (some ⟨g, 0, none⟩)
  | .func f => .func (.func f) #[] #[]
theorem evalR_tmp (ρ : Tmp → Value) (t : Tmp) : evalR ρ (.tmp t) = ρ t := rfl
theorem evalR_const (ρ : Tmp → Value) (v : Value) : evalR ρ (.const v) = v := rfl
theorem evalR_global (ρ : Tmp → Value) (g : Nat) : evalR ρ (.global g) = .pointer (some ⟨g, 0, none⟩) := rfl
theorem evalR_func (ρ : Tmp → Value) (f : FuncId) : evalR ρ (.func f) = .func (.func f) #[] #[] := rfl
/-- the operation runs, and what comes of it meets Kv -/
def Does (P : Program) (o : Oper) (ρ : Tmp → Value) (w : World) (Kv : Value → World → Prop) : Prop :=
  match (execOp (evalR ρ) o).run P w with
  | .ok (.value v) w' => Kv v w'
  | .ok .skip w' => Kv undef w'
  | .ok (.enter f args) w' => Calls P f args w' fun e w'' => ∃ v, e = .returned v ∧ Kv v w''
  | _ => False
/-- which operation of the region writes a slot -/
def srcOf (ops : Array Oper) (t : Tmp) : Option Nat := (List.range ops.size).find? fun i => (ops[i]?).bind (·.dst) == some t
/-- what is known of a slot that an operation reads -/
def Fact (ops : Array Oper) (a0 : Act) (T : Nat → Value → World → Prop) (t : Tmp) (v : Value) (w : World) : Prop :=
  match srcOf ops t with
  | none => v = a0.tmps.getD t undef
  | some i => T i v w
def reads (o : Oper) : List Tmp := o.op.operands.toList.filterMap fun | .tmp t => some t | _ => none
def waits (o : Oper) (i : Nat) : Bool := o.after.any fun e => e.on == i && Region.binds .any e
/-- every slot that is read, and every guard, is of an operation that is waited for -/
def covered (ops : Array Oper) : Bool := ops.all fun o =>
  ((reads o).all fun t => match srcOf ops t with
    | none => true
    | some i => waits o i) && (match o.guard with
    | none => true
    | some (g, _) => waits o g && ((ops[g]?).bind (·.dst)).isSome)
/-- one operation, of whatever world and operands -/
def StepOk (R : World → World → Prop) (P : Program) (ops : Array Oper) (a0 : Act) (T : Nat → Value → World → Prop) (W : World → Prop) (j : Nat) (o : Oper) : Prop :=
  ∀ ρ w, (∀ t ∈ reads o, Fact ops a0 T t (ρ t) w) → W w → Does P o ρ w fun v w' => T j v w' ∧ W w' ∧ R w w'
def Steps (p : Nat → Oper → Prop) : Nat → List Oper → Prop
  | _, [] => True
  | j, o :: r => p j o ∧ Steps p (j + 1) r
theorem Steps.at {p : Nat → Oper → Prop} : ∀ {l : List Oper} {k : Nat}, Steps p k l → ∀ j o, l[j]? = some o → p (k + j) o
  | [], _, _, j, o, h => by simp at h
  | x :: r, k, hs, 0, o, h => by
    simp at h
    subst h
    exact hs.1
  | x :: r, k, hs, j + 1, o, h => by
    have := hs.2.at j o (by simpa using h)
    rwa [Nat.add_assoc, Nat.add_comm 1 j] at this

theorem does_wpOp {j : Nat} {o : Oper} {ρ : Tmp → Value} {a : Act} {w : World} (hi : ops[j]? = some o) (hsel : ∀ cs b, o.op ≠ .select cs b) (hr : ∀ t ∈ reads o, a.tmps.getD t undef = ρ t)
    (hg : Region.wanted o (yielded ops a.tmps) = true) (h : Does P o ρ w fun v w' => T j v w' ∧ W w' ∧ R w w') : wpOp P ops Q j (Leaves R T W j o a w) a w := by
  have he : execOp a.eval o = execOp (evalR ρ) o := execOp_congr o hsel fun x hx => by
    cases x with
    | tmp t => exact hr t (List.mem_filterMap.2 ⟨.tmp t, by simpa using hx, rfl⟩)
    | _ => rfl
  unfold wpOp
  simp only [hi, hg, if_true]
  refine .inl ?_
  unfold Oper.wp Does at *
  rw [he]
  generalize (execOp (evalR ρ) o).run P w = r at *
  cases r with
  | ok n w' =>
    cases n <;> simp only [Oper.upon] at h ⊢
    case value v => exact ⟨v, rfl, fun _ => h.1, h.2.1, h.2.2⟩
    case skip => exact ⟨undef, rfl, fun _ => h.1, h.2.1, h.2.2⟩
    case enter f args =>
      refine Calls.mono h fun e w'' he => ?_
      obtain ⟨v, rfl, h1, h2, h3⟩ := he
      exact ⟨v, rfl, fun _ => h1, h2, h3⟩
  | halt x w' => exact h.elim

/-- THE LAW, operation by operation -/
theorem wp_region_steps {id : Nat} {w : World} (T : Nat → Value → World → Prop) (W : World → Prop) (hm : P.follows .mixedOrders = true) (hw : wellOrdered ops a0.tmps.size = true) (hcov : covered ops = true) (hs : Region.noSelect ops = true)
    (hT : ∀ j v w w', T j v w → R w w' → T j v w') (h0 : W w.drew)
    (gs : List Nat) (hguard : ops.all (fun o => match o.guard with
      | none => true
      | some (g, b) => b && gs.contains g) = true)
    (htrue : ∀ g ∈ gs, ∀ v w, T g v w → v = .bool true)
    (steps : Steps (StepOk R P ops a0 T W) 0 ops.toList)
    (fin : ∀ a w, Still ops a0 a → (∀ j d, (ops[j]?).bind (·.dst) = some d → T j (a.tmps.getD d undef) w) → W w → Q .normal a w) :
    (Code.region id ops true).wp P Q a0 w := by
  refine wp_region_typed T W hm hw hT h0 (fun j o ho a w1 hst ha hW => ?_) fin
  have hc := Array.all_eq_true_iff_forall_mem.1 hcov o (Array.mem_of_getElem? ho)
  simp only [Bool.and_eq_true] at hc
  have wait : ∀ i d, waits o i = true → (ops[i]?).bind (·.dst) = some d → T i (a.tmps.getD d undef) w1 := fun i d hwt hd => by
    unfold waits at hwt
    obtain ⟨e, he, h1⟩ := Array.any_eq_true'.1 hwt
    simp only [Bool.and_eq_true, beq_iff_eq] at h1
    obtain ⟨rfl, h2⟩ := h1
    exact ha e he h2 d hd
  have hst1 := steps.at j o (by simpa using ho)
  rw [Nat.zero_add] at hst1
  refine does_wpOp ho (fun cs b => Region.noSelect_spec hs j o cs b ho) (ρ := fun t => a.tmps.getD t undef) (fun t _ => rfl) ?_ (hst1 _ w1 (fun t ht => ?_) hW)
  · unfold Region.wanted
    cases hgd : o.guard with
    | none => rfl
    | some gb =>
      obtain ⟨g, b⟩ := gb
      have hb := Array.all_eq_true_iff_forall_mem.1 hguard o (Array.mem_of_getElem? ho)
      rw [hgd] at hb
      have hb : (b && gs.contains g) = true := hb
      simp only [Bool.and_eq_true] at hb
      obtain ⟨rfl, hgs⟩ := hb
      have hc2 := hc.2
      rw [hgd] at hc2
      simp only [Bool.and_eq_true] at hc2
      obtain ⟨d, hd⟩ := Option.isSome_iff_exists.1 hc2.2
      have hv := htrue g (by simpa using hgs) _ _ (wait g d hc2.1 hd)
      have : yielded ops a.tmps g = some true := by
        unfold yielded
        rw [hd]
        simp only [Option.bind_some]
        rcases Nat.lt_or_ge d a.tmps.size with h | h
        · simp only [Array.getD_eq_getD_getElem?, Array.getElem?_eq_getElem h, Option.getD_some] at hv
          rw [Array.getElem?_eq_getElem h, hv]
        · simp only [Array.getD_eq_getD_getElem?, Array.getElem?_eq_none h, Option.getD_none] at hv
          cases hv
      show (yielded ops a.tmps g == some true) = true
      rw [this]
      rfl
  · have h1 := List.all_eq_true.1 hc.1 t ht
    unfold Fact
    cases hsrc : srcOf ops t with
    | none =>
      refine hst.slot t ?_
      rw [Array.all_eq_true_iff_forall_mem]
      intro o' ho'
      obtain ⟨i, hi, rfl⟩ := Array.mem_iff_getElem.1 ho'
      unfold srcOf at hsrc
      have := List.find?_eq_none.1 hsrc i (List.mem_range.2 hi)
      rw [Array.getElem?_eq_getElem hi] at this
      simpa using this
    | some i =>
      rw [hsrc] at h1
      refine wait i t h1 ?_
      unfold srcOf at hsrc
      simpa using List.find?_some hsrc

/-! ### what a slot holds, as a list over the region's operations -/
def Is (v0 : Value) : Value → World → Prop := fun v _ => v = v0
def isTrue : Value → World → Prop := Is (.bool true)
def typ (L : List (Value → World → Prop)) (j : Nat) (v : Value) (w : World) : Prop := L.getD j (fun _ _ => True) v w
theorem typ_mono {L : List (Value → World → Prop)} (h : ∀ p ∈ L, ∀ v w w', p v w → R w w' → p v w') : ∀ j v w w', typ L j v w → R w w' → typ L j v w' := fun j v w w' h1 h2 => by
  unfold typ at *
  rw [List.getD_eq_getElem?_getD] at *
  cases hl : L[j]? with
  | none => trivial
  | some p =>
    rw [hl] at h1
    exact h p (List.mem_of_getElem? hl) v w w' h1 h2
theorem is_mono (v0 : Value) : ∀ v w w', Is v0 v w → R w w' → Is v0 v w' := fun _ _ _ h _ => h
end
section
variable {R : World → World → Prop} {P : Program} {ops : Array Oper} {Q : Exit → Act → World → Prop} {T : Nat → Value → World → Prop} {W : World → Prop} {a0 : Act}
/-- one operation, guarded or not: what its guard holds is known; where it is passed over, its slot may hold nothing -/
def StepG (R : World → World → Prop) (P : Program) (ops : Array Oper) (a0 : Act) (T : Nat → Value → World → Prop) (W : World → Prop) (j : Nat) (o : Oper) : Prop :=
  match o.guard with
  | none => StepOk R P ops a0 T W j o
  | some (g, b) => ∃ x : Bool, (∀ v w, T g v w → v = .bool x) ∧ (x = b → StepOk R P ops a0 T W j o) ∧ (x ≠ b → ∀ w, T j undef w)
theorem stepG_op (hRr : ∀ w, R w w) {j : Nat} {o : Oper} {a : Act} {w1 : World} (hcov : covered ops = true) (hs : Region.noSelect ops = true) (ho : ops[j]? = some o) (hst : Still ops a0 a) (ha : Ahead ops T o a w1) (hW : W w1) (hst1 : StepG R P ops a0 T W j o) : wpOp P ops Q j (Leaves R T W j o a w1) a w1 := by
  have hc := Array.all_eq_true_iff_forall_mem.1 hcov o (Array.mem_of_getElem? ho)
  simp only [Bool.and_eq_true] at hc
  have wait : ∀ i d, waits o i = true → (ops[i]?).bind (·.dst) = some d → T i (a.tmps.getD d undef) w1 := fun i d hwt hd => by
    unfold waits at hwt
    obtain ⟨e, he, h1⟩ := Array.any_eq_true'.1 hwt
    simp only [Bool.and_eq_true, beq_iff_eq] at h1
    obtain ⟨rfl, h2⟩ := h1
    exact ha e he h2 d hd
  have facts : ∀ t ∈ reads o, Fact ops a0 T t (a.tmps.getD t undef) w1 := fun t ht => by
    have h1 := List.all_eq_true.1 hc.1 t ht
    unfold Fact
    cases hsrc : srcOf ops t with
    | none =>
      refine hst.slot t ?_
      rw [Array.all_eq_true_iff_forall_mem]
      intro o' ho'
      obtain ⟨i, hi, rfl⟩ := Array.mem_iff_getElem.1 ho'
      unfold srcOf at hsrc
      have := List.find?_eq_none.1 hsrc i (List.mem_range.2 hi)
      rw [Array.getElem?_eq_getElem hi] at this
      simpa using this
    | some i =>
      rw [hsrc] at h1
      refine wait i t h1 ?_
      unfold srcOf at hsrc
      simpa using List.find?_some hsrc
  have run : Region.wanted o (yielded ops a.tmps) = true → StepOk R P ops a0 T W j o → wpOp P ops Q j (Leaves R T W j o a w1) a w1 := fun hg hst2 =>
    does_wpOp ho (fun cs b => Region.noSelect_spec hs j o cs b ho) (ρ := fun t => a.tmps.getD t undef) (fun t _ => rfl) hg (hst2 _ w1 facts hW)
  cases hgd : o.guard with
  | none =>
    unfold StepG at hst1
    rw [hgd] at hst1
    exact run (by unfold Region.wanted; rw [hgd]) hst1
  | some gb =>
    obtain ⟨g, b⟩ := gb
    unfold StepG at hst1
    rw [hgd] at hst1
    obtain ⟨x, hx, h1, h2⟩ := hst1
    have hc2 := hc.2
    rw [hgd] at hc2
    simp only [Bool.and_eq_true] at hc2
    obtain ⟨d, hd⟩ := Option.isSome_iff_exists.1 hc2.2
    have hv := hx _ _ (wait g d hc2.1 hd)
    have hy : yielded ops a.tmps g = some x := by
      unfold yielded
      rw [hd]
      simp only [Option.bind_some]
      rcases Nat.lt_or_ge d a.tmps.size with h | h
      · simp only [Array.getD_eq_getD_getElem?, Array.getElem?_eq_getElem h, Option.getD_some] at hv
        rw [Array.getElem?_eq_getElem h, hv]
      · simp only [Array.getD_eq_getD_getElem?, Array.getElem?_eq_none h, Option.getD_none] at hv
        cases hv
    by_cases hxb : x = b
    · refine run ?_ (h1 hxb)
      unfold Region.wanted
      rw [hgd]
      show (yielded ops a.tmps g == some b) = true
      rw [hy, hxb]
      simp
    · unfold wpOp
      have hnw : Region.wanted o (yielded ops a.tmps) = false := by
        unfold Region.wanted
        rw [hgd]
        show (yielded ops a.tmps g == some b) = false
        rw [hy]
        simpa using hxb
      simp only [ho, hnw, Bool.false_eq_true, if_false]
      exact ⟨undef, rfl, fun _ => h2 hxb w1, hW, hRr _⟩
theorem wp_region_stepsG {id : Nat} {w : World} (T : Nat → Value → World → Prop) (W : World → Prop) (hRr : ∀ w, R w w) (hm : P.follows .mixedOrders = true) (hw : wellOrdered ops a0.tmps.size = true) (hcov : covered ops = true) (hs : Region.noSelect ops = true)
    (hT : ∀ j v w w', T j v w → R w w' → T j v w') (h0 : W w.drew)
    (steps : Steps (StepG R P ops a0 T W) 0 ops.toList)
    (fin : ∀ a w, Still ops a0 a → (∀ j d, (ops[j]?).bind (·.dst) = some d → T j (a.tmps.getD d undef) w) → W w → Q .normal a w) :
    (Code.region id ops true).wp P Q a0 w := by
  refine wp_region_typed T W hm hw hT h0 (fun j o ho a w1 hst ha hW => ?_) fin
  have hst1 := steps.at j o (by simpa using ho)
  rw [Nat.zero_add] at hst1
  exact stepG_op hRr hcov hs ho hst ha hW hst1
end
section
variable {R : World → World → Prop} {P : Program} {ops : Array Oper} {Q : Exit → Act → World → Prop} {T : Nat → Value → World → Prop} {W : World → Prop} {a0 : Act}
theorem wpOp_of_list {m : Nat} {o : Oper} {a : Act} {w : World} (ho : ops[m]? = some o) (hg : o.guard = none) (h : wpList P ops Q [o] a w) : wpOp P ops Q m (fun a' w' => Q .normal a' w') a w := by
  unfold wpOp
  rw [ho]
  have hn : Region.wanted o (yielded ops a.tmps) = true := by unfold Region.wanted; rw [hg]
  unfold wpList at h
  simp only [hn, if_true] at h ⊢
  exact h
/-- the last operation waits for each other one -/
def lastWaits (ops : Array Oper) : Bool := match ops.back? with
  | none => false
  | some o => (List.range (ops.size - 1)).all fun j => o.after.any fun e => e.on == j && Region.binds .any e
theorem lastWaits_spec {m : Nat} (hm : ops.size = m + 1) (h : lastWaits ops = true) {o : Oper} (ho : ops[m]? = some o) : ∀ j, j < m → ∃ e ∈ o.after, e.on = j ∧ Region.binds .any e = true := by
  intro j hj
  unfold lastWaits at h
  have hb : ops.back? = some o := by
    rw [Array.back?_eq_getElem?, hm]
    exact ho
  rw [hb] at h
  have h1 := List.all_eq_true.1 h j (List.mem_range.2 (by omega))
  obtain ⟨e, he, h2⟩ := Array.any_eq_true'.1 h1
  simp only [Bool.and_eq_true, beq_iff_eq] at h2
  exact ⟨e, he, h2⟩
theorem ready_all {listed : Array Bool} (h : ∀ j, j < ops.size → listed.getD j true = true) : Region.ready .any ops listed = [] := by
  rw [Region.ready, List.filter_eq_nil_iff]
  intro i hi
  rw [h i (List.mem_range.1 hi)]
  simp
theorem typed_last {m : Nat} (hm : ops.size = m + 1) (hw : wellOrdered ops a0.tmps.size = true) (hl : lastWaits ops = true)
    (hT : ∀ j v w w', T j v w → R w w' → T j v w')
    (step : ∀ j o, j < m → ops[j]? = some o → ∀ a w, Still ops a0 a → Ahead ops T o a w → W w → wpOp P ops Q j (Leaves R T W j o a w) a w)
    (last : ∀ a w, Still ops a0 a → (∀ j d, j < m → (ops[j]?).bind (·.dst) = some d → T j (a.tmps.getD d undef) w) → W w → wpOp P ops Q m (fun a' w' => Q .normal a' w') a w) :
    ∀ (fuel : Nat) (listed : Array Bool) (a : Act) (w : World), missing ops listed ≤ fuel → listed.size = ops.size → listed.getD m true = false → Mid ops T W a0 listed a w → wpAny P .any ops Q fuel listed a w := by
  intro fuel
  induction fuel with
  | zero =>
    intro listed a w hmis hsz hnl hmid
    exfalso
    have h0 : missing ops listed = 0 := by omega
    unfold missing at h0
    rw [List.countP_eq_zero] at h0
    have := h0 m (List.mem_range.2 (by omega))
    rw [hnl] at this
    simp at this
  | succ fuel ih =>
    intro listed a w hmis hsz hnl hmid
    refine ⟨fun hr => ?_, fun i hi => ?_⟩
    · exfalso
      have := ready_of_missing (ops := ops) (a0 := a0) hw ops.size (Nat.le_refl _) hr m (by omega)
      rw [hnl] at this
      cases this
    · unfold Region.ready at hi
      obtain ⟨hr1, hr2⟩ := List.mem_filter.1 hi
      have hin : i < ops.size := List.mem_range.1 hr1
      have ho := Array.getElem?_eq_getElem (xs := ops) (i := i) hin
      rw [ho] at hr2
      simp only [Option.map_some, Option.getD_some, Bool.and_eq_true, Bool.not_eq_true'] at hr2
      have hun : listed.getD i true = false := by simpa using hr2.1
      by_cases him : i = m
      · subst him
        have hall : ∀ j, j < i → listed.getD j true = true := fun j hj => by
          obtain ⟨e, he, rfl, hb⟩ := lastWaits_spec hm hl ho j hj
          have h1 := Array.all_eq_true_iff_forall_mem.1 hr2.2 e he
          rw [hb] at h1
          simp only [Bool.not_true, Bool.false_or] at h1
          have h2 : e.on < listed.size := by omega
          simp only [Array.getD_eq_getD_getElem?, Array.getElem?_eq_getElem h2, Option.getD_some] at h1 ⊢
          exact h1
        refine wpOp_mono (fun a' w' h => ?_) (last a w hmid.still (fun j d hj hd => hmid.done j d (hall j hj) hd) hmid.world)
        have hre : Region.ready .any ops (listed.setIfInBounds i true) = [] := ready_all fun j hj => by
          rw [getD_set]
          split
          · rfl
          · exact hall j (by omega)
        cases fuel with
        | zero => exact ⟨hre, h⟩
        | succ f => exact ⟨fun _ => h, fun k hk => by rw [hre] at hk; cases hk⟩
      · have hahead : Ahead ops T ops[i] a w := fun e he hb d hd => by
          have h1 := Array.all_eq_true_iff_forall_mem.1 hr2.2 e he
          rw [hb] at h1
          simp only [Bool.not_true, Bool.false_or] at h1
          refine hmid.done e.on d ?_ hd
          rcases Nat.lt_or_ge e.on listed.size with h2 | h2
          · simp only [Array.getD_eq_getD_getElem?, Array.getElem?_eq_getElem h2, Option.getD_some] at h1 ⊢
            exact h1
          · simp only [Array.getD_eq_getD_getElem?, Array.getElem?_eq_none h2, Option.getD_none] at h1
            cases h1
        refine wpOp_mono (fun a' w' h => ?_) (step i ops[i] (by omega) ho a w hmid.still hahead hmid.world)
        obtain ⟨v, rfl, hv, hW', hb⟩ := h
        have hwi := List.all_eq_true.1 hw i (List.mem_range.2 hin)
        rw [ho] at hwi
        simp only [Bool.and_eq_true] at hwi
        refine ih (listed.setIfInBounds i true) _ w' (by have := missing_set (ops := ops) hin hun; omega) (by simpa using hsz) (by rw [getD_set, if_neg him]; exact hnl) ⟨⟨?_, ?_, ?_⟩, ?_, hW'⟩
        · rw [← hmid.still.size]
          cases ops[i].dst <;> simp [Act.put]
        · rw [← hmid.still.defers]
          cases ops[i].dst <;> rfl
        · intro d hd
          rw [← hmid.still.slot d hd]
          have hne := Array.all_eq_true_iff_forall_mem.1 hd ops[i] (Array.getElem_mem hin)
          cases hx : ops[i].dst with
          | none => rfl
          | some x =>
            rw [hx] at hne
            have : x ≠ d := by simpa using hne
            simp [Act.put, Array.getD_eq_getD_getElem?, Array.getElem?_setIfInBounds_ne this]
        · intro j d hl' hd
          rw [getD_set] at hl'
          by_cases e : i = j
          · subst e
            rw [ho] at hd
            have hd : ops[i].dst = some d := hd
            have hlt : d < a.tmps.size := by
              rw [hd] at hwi
              simp only [Bool.and_eq_true] at hwi
              have := of_decide_eq_true hwi.2.1
              rw [hmid.still.size]
              exact this
            have e2 : (a.put ops[i].dst v).tmps.getD d undef = v := by
              rw [hd]
              simp [Act.put, Array.getD_eq_getD_getElem?, hlt]
            rw [e2]
            exact hv (by rw [hd]; simp)
          · rw [if_neg e] at hl'
            have h1 := hT j _ w w' (hmid.done j d hl' hd) hb
            have e2 : (a.put ops[i].dst v).tmps.getD d undef = a.tmps.getD d undef := by
              cases hx : ops[i].dst with
              | none => rfl
              | some x =>
                rw [hx] at hwi
                simp only [Bool.and_eq_true] at hwi
                have hj : j < ops.size := by
                  rcases Nat.lt_or_ge j ops.size with h | h
                  · exact h
                  · rw [Array.getElem?_eq_none h] at hd
                    cases hd
                have h2 := List.all_eq_true.1 hwi.2.2 j (List.mem_range.2 hj)
                rw [hd] at h2
                have : x ≠ d := by
                  rintro rfl
                  simp at h2
                  exact e h2.symm
                simp [Act.put, Array.getD_eq_getD_getElem?, Array.getElem?_setIfInBounds_ne this]
            rw [e2]
            exact h1

/-- THE LAW: all but the last one by themselves, then the last one -/
theorem wp_region_stepsL {id : Nat} {w : World} (m : Nat) (T : Nat → Value → World → Prop) (W : World → Prop) (hRr : ∀ w, R w w) (hm : P.follows .mixedOrders = true) (hsz : ops.size = m + 1) (hw : wellOrdered ops a0.tmps.size = true) (hl : lastWaits ops = true) (hcov : covered ops = true) (hs : Region.noSelect ops = true)
    (hT : ∀ j v w w', T j v w → R w w' → T j v w') (h0 : W w.drew)
    (steps : Steps (StepG R P ops a0 T W) 0 (ops.toList.take m))
    (last : ∀ a w, Still ops a0 a → (∀ j d, j < m → (ops[j]?).bind (·.dst) = some d → T j (a.tmps.getD d undef) w) → W w → wpOp P ops Q m (fun a' w' => Q .normal a' w') a w) :
    (Code.region id ops true).wp P Q a0 w := by
  refine wp_region_any hm (typed_last hsz hw hl hT (fun j o hj ho a w1 hst ha hW => ?_) last ops.size _ a0 w.drew ?_ (by simp) (by simp [Array.getD_eq_getD_getElem?, hsz]) ⟨⟨rfl, rfl, fun _ _ => rfl⟩, fun j d hl hd => ?_, h0⟩)
  · have hst1 := steps.at j o (by rw [List.getElem?_take, if_pos hj]; simpa using ho)
    rw [Nat.zero_add] at hst1
    exact stepG_op hRr hcov hs ho hst ha hW hst1
  · unfold missing
    exact Nat.le_trans List.countP_le_length (by simp)
  · exfalso
    rcases Nat.lt_or_ge j ops.size with h | h
    · simp [Array.getD_eq_getD_getElem?, h] at hl
    · rw [Array.getElem?_eq_none h] at hd
      cases hd
end
end Go.Proofs.YtnjjbaodfjmiaaaGreat.Rl

/- The stack of parts, as read keeps it: a boxed slice, nine cells each. -/
namespace Go.Proofs.YtnjjbaodfjmiaaaGreat
open Go.RowKit Go.Lib Go.Joins
/-- block B holds the row g, of n elements -/
def StkA (w : World) (SE E : TypeId) (k B base g cap n : Nat) (xs : List Value) : Prop := Boxed w B SE (.slice (some ⟨g, 0, none⟩) n cap) ∧ w.ownsRow base E k (.slice (some ⟨g, 0, none⟩) n cap) n xs
section
variable {w w' : World} {SE E : TypeId} {k B base g cap n : Nat} {xs : List Value}
theorem StkA.lt (h : StkA w SE E k B base g cap n xs) : B < w.heap.size := h.1.lt
theorem StkA.row (h : StkA w SE E k B base g cap n xs) : base ≤ g ∧ g < w.heap.size ∧ n ≤ cap ∧ cap ≤ maxLen := by
  rcases h.2.2 with ⟨h, _⟩ | ⟨g', cap', cur, h, hb, hg, hn, hm, _⟩
  · cases h
  · simp only [Value.slice.injEq, Option.some.injEq, Addr.mk.injEq, and_true, true_and] at h
    obtain ⟨rfl, rfl⟩ := h
    exact ⟨hb, (Array.getElem?_eq_some_iff.1 hg).1, hn, hm⟩
theorem StkA.ne (h : StkA w SE E k B base g cap n xs) (hSE : SE ≠ E) : g ≠ B := fun e => h.1.not_row hSE h.2 (by simp [Value.ownBlock, e])
theorem StkA.kept (h : StkA w SE E k B base g cap n xs) (h1 : w'.heap[B]? = w.heap[B]?) (h2 : w'.heap[g]? = w.heap[g]?) : StkA w' SE E k B base g cap n xs := by
  refine ⟨h1.trans h.1, h.2.1, ?_⟩
  rcases h.2.2 with h | ⟨g', cap', cur, h, hb, hg, r⟩
  · exact .inl h
  · simp only [Value.slice.injEq, Option.some.injEq, Addr.mk.injEq, and_true, true_and] at h
    obtain ⟨rfl, rfl⟩ := h
    exact .inr ⟨g, cap, cur, rfl, hb, h2.trans hg, r⟩
theorem StkA.below (h : StkA w SE E k B base g cap n xs) (hb : Below w.heap.size w w') : StkA w' SE E k B base g cap n xs := h.kept (hb.block B h.lt) (hb.block g h.row.2.1)
theorem StkA.alloc (h : StkA w SE E k B base g cap n xs) (o : Obj) : StkA (w.alloc o) SE E k B base g cap n xs := h.below ((Below.refl _ _).alloc (Nat.le_refl _) o)
theorem StkA.drew (h : StkA w SE E k B base g cap n xs) : StkA w.drew SE E k B base g cap n xs := h
theorem StkA.grown {b : Nat} (h : StkA w SE E k B base g cap n xs) (hg : w.grownBy w' (some b)) (h1 : B ≠ b) (h2 : g ≠ b) : StkA w' SE E k B base g cap n xs :=
  h.kept (hg.block B h.lt (by simpa using h1)) (hg.block g h.row.2.1 (by simpa using h2))
end
section
variable {w w' : World} {B base g cap : Nat} {X : List Prt}
end
end Go.Proofs.YtnjjbaodfjmiaaaGreat

/- Contract of read's closure unary, whatever it combines by. -/
namespace Go.Proofs.YtnjjbaodfjmiaaaGreat
open Go.RowKit Go.Lib Go.Joins
/-- what a call that turns the block of a row and the row's own block leaves -/
def Mp (g : Nat) (row : Option Nat) (w w' : World) : Prop := w'.os = w.os ∧ w'.tape = w.tape ∧ w'.output = w.output ∧ w.heap.size ≤ w'.heap.size ∧ ∀ k, k < w.heap.size → k ≠ g → some k ≠ row → w'.heap[k]? = w.heap[k]?
theorem Mp.of {g : Nat} {row : Option Nat} {w w1 w2 : World} (h : w.grownBy w1 row) (k : w1.grownBy w2 (some g)) : Mp g row w w2 :=
  ⟨k.os.trans h.os, k.tape.trans h.tape, k.output.trans h.output, Nat.le_trans h.size k.size, fun i hi h1 h2 => (k.block i (Nat.lt_of_lt_of_le hi h.size) (fun e => h1 (by simpa using e))).trans (h.block i hi h2)⟩
attribute [local go_sem] Rl.evalR_tmp Rl.evalR_const Rl.evalR_global Rl.evalR_func
end Go.Proofs.YtnjjbaodfjmiaaaGreat

/- Contract of read's closure binary, whatever it combines by. -/
namespace Go.Proofs.YtnjjbaodfjmiaaaGreat
open Go.RowKit Go.Lib Go.Joins
/-- what a call that turns the block of a row, the box of a slice and the slice's own blocks leaves -/
def Mb (base : Nat) (row : Option Nat) (w w' : World) : Prop := w'.os = w.os ∧ w'.tape = w.tape ∧ w'.output = w.output ∧ w.heap.size ≤ w'.heap.size ∧ ∀ k, k < base → some k ≠ row → w'.heap[k]? = w.heap[k]?
theorem Mb.set {base B : Nat} {row : Option Nat} {w w' : World} (h : Mb base row w w') (hB : base ≤ B) (v : Value) : Mb base row w (w'.setCell ⟨B, 0, none⟩ v) :=
  ⟨h.1, h.2.1, h.2.2.1, by simpa [World.setCell] using h.2.2.2.1, fun k hk hr => (heap_setCell_other _ _ _ _ (show k ≠ B by omega)).trans (h.2.2.2.2 k hk hr)⟩
attribute [local go_sem] Rl.evalR_tmp Rl.evalR_const Rl.evalR_global Rl.evalR_func
end Go.Proofs.YtnjjbaodfjmiaaaGreat
