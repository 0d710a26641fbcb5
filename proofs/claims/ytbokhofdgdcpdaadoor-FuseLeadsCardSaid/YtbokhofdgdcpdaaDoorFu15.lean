/- TypedG, TypedL, SpPart, put together. -/
import Derived.Test.YtbokhofdgdcpdaaDoorFu07
import Derived.Test.YtbokhofdgdcpdaaDoorFu13
import Derived.RangeFuncBox
import Derived.Laws.MakeOwn
import Derived.Lib.SmallJoins
import Derived.Laws.CopyRow
/- A region that draws its order, met operation by operation, with guards of any value. -/
namespace Go.Proofs.YtbokhofdgdcpdaaDoor
open Go.RowKit

section
variable {P : Program} {ops : Array Oper} {Q : Exit → Act → World → Prop} {T : Nat → Value → World → Prop} {W : World → Prop} {a0 : Act}
/-- one operation, guarded or not: what its guard holds is known; where it is passed over, its slot may hold nothing -/
def StepG (P : Program) (ops : Array Oper) (a0 : Act) (T : Nat → Value → World → Prop) (W : World → Prop) (j : Nat) (o : Oper) : Prop :=
  match o.guard with
  | none => StepOk P ops a0 T W j o
  | some (g, b) => ∃ x : Bool, (∀ v w, T g v w → v = .bool x) ∧ (x = b → StepOk P ops a0 T W j o) ∧ (x ≠ b → ∀ w, T j undef w)
theorem stepG_op {j : Nat} {o : Oper} {a : Act} {w1 : World} (hcov : covered ops = true) (hs : Region.noSelect ops = true) (ho : ops[j]? = some o) (hst : Still ops a0 a) (ha : Ahead ops T o a w1) (hW : W w1) (hst1 : StepG P ops a0 T W j o) : wpOp P ops Q j (Leaves T W j o a w1) a w1 := by
  have hc := Array.all_eq_true_iff_forall_mem.1 hcov o (Array.mem_of_getElem? ho)
  simp only [Bool.and_eq_true] at hc
  have wait : ∀ i d, waits o i = true → (ops[i]?).bind (·.dst) = some d → T i (a.tmps.getD d undef) w1 := fun i d hwt hd => by
    unfold waits at hwt
    obtain ⟨e, he, h1⟩ := Array.any_eq_true'.1 hwt
    simp only [Bool.and_eq_true, beq_iff_eq] at h1
    obtain ⟨rfl, h2⟩ := h1
    exact ha e he h2 d hd
  have facts : ∀ t ∈ reads o, Fact ops a0 T t (a.tmps.getD t undef) w1 := fun t ht => by
    have h1 := List.all_eq_true.1 hc.1 t ht
    unfold Fact
    cases hsrc : srcOf ops t with
    | none =>
      refine hst.slot t ?_
      rw [Array.all_eq_true_iff_forall_mem]
      intro o' ho'
      obtain ⟨i, hi, rfl⟩ := Array.mem_iff_getElem.1 ho'
      unfold srcOf at hsrc
      have := List.find?_eq_none.1 hsrc i (List.mem_range.2 hi)
      rw [Array.getElem?_eq_getElem hi] at this
      simpa using this
    | some i =>
      rw [hsrc] at h1
      refine wait i t h1 ?_
      unfold srcOf at hsrc
      simpa using List.find?_some hsrc
  have run : Region.wanted o (yielded ops a.tmps) = true → StepOk P ops a0 T W j o → wpOp P ops Q j (Leaves T W j o a w1) a w1 := fun hg hst2 =>
    does_wpOp ho (fun cs b => Region.noSelect_spec hs j o cs b ho) (ρ := fun t => a.tmps.getD t undef) (fun t _ => rfl) hg (hst2 _ w1 facts hW)
  cases hgd : o.guard with
  | none =>
    unfold StepG at hst1
    rw [hgd] at hst1
    exact run (by unfold Region.wanted; rw [hgd]) hst1
  | some gb =>
    obtain ⟨g, b⟩ := gb
    unfold StepG at hst1
    rw [hgd] at hst1
    obtain ⟨x, hx, h1, h2⟩ := hst1
    have hc2 := hc.2
    rw [hgd] at hc2
    simp only [Bool.and_eq_true] at hc2
    obtain ⟨d, hd⟩ := Option.isSome_iff_exists.1 hc2.2
    have hv := hx _ _ (wait g d hc2.1 hd)
    have hy : yielded ops a.tmps g = some x := by
      unfold yielded
      rw [hd]
      simp only [Option.bind_some]
      rcases Nat.lt_or_ge d a.tmps.size with h | h
      · simp only [Array.getD_eq_getD_getElem?, Array.getElem?_eq_getElem h, Option.getD_some] at hv
        rw [Array.getElem?_eq_getElem h, hv]
      · simp only [Array.getD_eq_getD_getElem?, Array.getElem?_eq_none h, Option.getD_none] at hv
        cases hv
    by_cases hxb : x = b
    · refine run ?_ (h1 hxb)
      unfold Region.wanted
      rw [hgd]
      show (yielded ops a.tmps g == some b) = true
      rw [hy, hxb]
      simp
    · unfold wpOp
      have hnw : Region.wanted o (yielded ops a.tmps) = false := by
        unfold Region.wanted
        rw [hgd]
        show (yielded ops a.tmps g == some b) = false
        rw [hy]
        simpa using hxb
      simp only [ho, hnw, Bool.false_eq_true, if_false]
      exact ⟨undef, rfl, fun _ => h2 hxb w1, hW, Below.refl _ _⟩
theorem wp_region_stepsG {id : Nat} {w : World} (T : Nat → Value → World → Prop) (W : World → Prop) (hm : P.follows .mixedOrders = true) (hw : wellOrdered ops a0.tmps.size = true) (hcov : covered ops = true) (hs : Region.noSelect ops = true)
    (hT : ∀ j v w w', T j v w → Below w.heap.size w w' → T j v w') (h0 : W w.drew)
    (steps : Steps (StepG P ops a0 T W) 0 ops.toList)
    (fin : ∀ a w, Still ops a0 a → (∀ j d, (ops[j]?).bind (·.dst) = some d → T j (a.tmps.getD d undef) w) → W w → Q .normal a w) :
    (Code.region id ops true).wp P Q a0 w := by
  refine wp_region_typed T W hm hw hT h0 (fun j o ho a w1 hst ha hW => ?_) fin
  have hst1 := steps.at j o (by simpa using ho)
  rw [Nat.zero_add] at hst1
  exact stepG_op hcov hs ho hst ha hW hst1
end
end Go.Proofs.YtbokhofdgdcpdaaDoor

/- A region that draws its order and ends with an operation that waits for all others (a store): the others met by themselves, the last one where all are done. -/
namespace Go.Proofs.YtbokhofdgdcpdaaDoor
open Go.RowKit

section
variable {P : Program} {ops : Array Oper} {Q : Exit → Act → World → Prop} {T : Nat → Value → World → Prop} {W : World → Prop} {a0 : Act}
theorem wpOp_of_list {m : Nat} {o : Oper} {a : Act} {w : World} (ho : ops[m]? = some o) (hg : o.guard = none) (h : wpList P ops Q [o] a w) : wpOp P ops Q m (fun a' w' => Q .normal a' w') a w := by
  unfold wpOp
  rw [ho]
  have hn : Region.wanted o (yielded ops a.tmps) = true := by unfold Region.wanted; rw [hg]
  unfold wpList at h
  simp only [hn, if_true] at h ⊢
  exact h
/-- the last operation waits for each other one -/
def lastWaits (ops : Array Oper) : Bool := match ops.back? with
  | none => false
  | some o => (List.range (ops.size - 1)).all fun j => o.after.any fun e => e.on == j && Region.binds .any e
theorem lastWaits_spec {m : Nat} (hm : ops.size = m + 1) (h : lastWaits ops = true) {o : Oper} (ho : ops[m]? = some o) : ∀ j, j < m → ∃ e ∈ o.after, e.on = j ∧ Region.binds .any e = true := by
  intro j hj
  unfold lastWaits at h
  have hb : ops.back? = some o := by
    rw [Array.back?_eq_getElem?, hm]
    exact ho
  rw [hb] at h
  have h1 := List.all_eq_true.1 h j (List.mem_range.2 (by omega))
  obtain ⟨e, he, h2⟩ := Array.any_eq_true'.1 h1
  simp only [Bool.and_eq_true, beq_iff_eq] at h2
  exact ⟨e, he, h2⟩
theorem ready_all {listed : Array Bool} (h : ∀ j, j < ops.size → listed.getD j true = true) : Region.ready .any ops listed = [] := by
  rw [Region.ready, List.filter_eq_nil_iff]
  intro i hi
  rw [h i (List.mem_range.1 hi)]
  simp
theorem typed_last {m : Nat} (hm : ops.size = m + 1) (hw : wellOrdered ops a0.tmps.size = true) (hl : lastWaits ops = true)
    (hT : ∀ j v w w', T j v w → Below w.heap.size w w' → T j v w')
    (step : ∀ j o, j < m → ops[j]? = some o → ∀ a w, Still ops a0 a → Ahead ops T o a w → W w → wpOp P ops Q j (Leaves T W j o a w) a w)
    (last : ∀ a w, Still ops a0 a → (∀ j d, j < m → (ops[j]?).bind (·.dst) = some d → T j (a.tmps.getD d undef) w) → W w → wpOp P ops Q m (fun a' w' => Q .normal a' w') a w) :
    ∀ (fuel : Nat) (listed : Array Bool) (a : Act) (w : World), missing ops listed ≤ fuel → listed.size = ops.size → listed.getD m true = false → Mid ops T W a0 listed a w → wpAny P .any ops Q fuel listed a w := by
  intro fuel
  induction fuel with
  | zero =>
    intro listed a w hmis hsz hnl hmid
    exfalso
    have h0 : missing ops listed = 0 := by omega
    unfold missing at h0
    rw [List.countP_eq_zero] at h0
    have := h0 m (List.mem_range.2 (by omega))
    rw [hnl] at this
    simp at this
  | succ fuel ih =>
    intro listed a w hmis hsz hnl hmid
    refine ⟨fun hr => ?_, fun i hi => ?_⟩
    · exfalso
      have := ready_of_missing (ops := ops) (a0 := a0) hw ops.size (Nat.le_refl _) hr m (by omega)
      rw [hnl] at this
      cases this
    · unfold Region.ready at hi
      obtain ⟨hr1, hr2⟩ := List.mem_filter.1 hi
      have hin : i < ops.size := List.mem_range.1 hr1
      have ho := Array.getElem?_eq_getElem (xs := ops) (i := i) hin
      rw [ho] at hr2
      simp only [Option.map_some, Option.getD_some, Bool.and_eq_true, Bool.not_eq_true'] at hr2
      have hun : listed.getD i true = false := by simpa using hr2.1
      by_cases him : i = m
      · subst him
        have hall : ∀ j, j < i → listed.getD j true = true := fun j hj => by
          obtain ⟨e, he, rfl, hb⟩ := lastWaits_spec hm hl ho j hj
          have h1 := Array.all_eq_true_iff_forall_mem.1 hr2.2 e he
          rw [hb] at h1
          simp only [Bool.not_true, Bool.false_or] at h1
          have h2 : e.on < listed.size := by omega
          simp only [Array.getD_eq_getD_getElem?, Array.getElem?_eq_getElem h2, Option.getD_some] at h1 ⊢
          exact h1
        refine wpOp_mono (fun a' w' h => ?_) (last a w hmid.still (fun j d hj hd => hmid.done j d (hall j hj) hd) hmid.world)
        have hre : Region.ready .any ops (listed.setIfInBounds i true) = [] := ready_all fun j hj => by
          rw [getD_set]
          split
          · rfl
          · exact hall j (by omega)
        cases fuel with
        | zero => exact ⟨hre, h⟩
        | succ f => exact ⟨fun _ => h, fun k hk => by rw [hre] at hk; cases hk⟩
      · have hahead : Ahead ops T ops[i] a w := fun e he hb d hd => by
          have h1 := Array.all_eq_true_iff_forall_mem.1 hr2.2 e he
          rw [hb] at h1
          simp only [Bool.not_true, Bool.false_or] at h1
          refine hmid.done e.on d ?_ hd
          rcases Nat.lt_or_ge e.on listed.size with h2 | h2
          · simp only [Array.getD_eq_getD_getElem?, Array.getElem?_eq_getElem h2, Option.getD_some] at h1 ⊢
            exact h1
          · simp only [Array.getD_eq_getD_getElem?, Array.getElem?_eq_none h2, Option.getD_none] at h1
            cases h1
        refine wpOp_mono (fun a' w' h => ?_) (step i ops[i] (by omega) ho a w hmid.still hahead hmid.world)
        obtain ⟨v, rfl, hv, hW', hb⟩ := h
        have hwi := List.all_eq_true.1 hw i (List.mem_range.2 hin)
        rw [ho] at hwi
        simp only [Bool.and_eq_true] at hwi
        refine ih (listed.setIfInBounds i true) _ w' (by have := missing_set (ops := ops) hin hun; omega) (by simpa using hsz) (by rw [getD_set, if_neg him]; exact hnl) ⟨⟨?_, ?_, ?_⟩, ?_, hW'⟩
        · rw [← hmid.still.size]
          cases ops[i].dst <;> simp [Act.put]
        · rw [← hmid.still.defers]
          cases ops[i].dst <;> rfl
        · intro d hd
          rw [← hmid.still.slot d hd]
          have hne := Array.all_eq_true_iff_forall_mem.1 hd ops[i] (Array.getElem_mem hin)
          cases hx : ops[i].dst with
          | none => rfl
          | some x =>
            rw [hx] at hne
            have : x ≠ d := by simpa using hne
            simp [Act.put, Array.getD_eq_getD_getElem?, Array.getElem?_setIfInBounds_ne this]
        · intro j d hl' hd
          rw [getD_set] at hl'
          by_cases e : i = j
          · subst e
            rw [ho] at hd
            have hd : ops[i].dst = some d := hd
            have hlt : d < a.tmps.size := by
              rw [hd] at hwi
              simp only [Bool.and_eq_true] at hwi
              have := of_decide_eq_true hwi.2.1
              rw [hmid.still.size]
              exact this
            have e2 : (a.put ops[i].dst v).tmps.getD d undef = v := by
              rw [hd]
              simp [Act.put, Array.getD_eq_getD_getElem?, hlt]
            rw [e2]
            exact hv (by rw [hd]; simp)
          · rw [if_neg e] at hl'
            have h1 := hT j _ w w' (hmid.done j d hl' hd) hb
            have e2 : (a.put ops[i].dst v).tmps.getD d undef = a.tmps.getD d undef := by
              cases hx : ops[i].dst with
              | none => rfl
              | some x =>
                rw [hx] at hwi
                simp only [Bool.and_eq_true] at hwi
                have hj : j < ops.size := by
                  rcases Nat.lt_or_ge j ops.size with h | h
                  · exact h
                  · rw [Array.getElem?_eq_none h] at hd
                    cases hd
                have h2 := List.all_eq_true.1 hwi.2.2 j (List.mem_range.2 hj)
                rw [hd] at h2
                have : x ≠ d := by
                  rintro rfl
                  simp at h2
                  exact e h2.symm
                simp [Act.put, Array.getD_eq_getD_getElem?, Array.getElem?_setIfInBounds_ne this]
            rw [e2]
            exact h1

/-- THE LAW: all but the last one by themselves, then the last one -/
theorem wp_region_stepsL {id : Nat} {w : World} (m : Nat) (T : Nat → Value → World → Prop) (W : World → Prop) (hm : P.follows .mixedOrders = true) (hsz : ops.size = m + 1) (hw : wellOrdered ops a0.tmps.size = true) (hl : lastWaits ops = true) (hcov : covered ops = true) (hs : Region.noSelect ops = true)
    (hT : ∀ j v w w', T j v w → Below w.heap.size w w' → T j v w') (h0 : W w.drew)
    (steps : Steps (StepG P ops a0 T W) 0 (ops.toList.take m))
    (last : ∀ a w, Still ops a0 a → (∀ j d, j < m → (ops[j]?).bind (·.dst) = some d → T j (a.tmps.getD d undef) w) → W w → wpOp P ops Q m (fun a' w' => Q .normal a' w') a w) :
    (Code.region id ops true).wp P Q a0 w := by
  refine wp_region_any hm (typed_last hsz hw hl hT (fun j o hj ho a w1 hst ha hW => ?_) last ops.size _ a0 w.drew ?_ (by simp) (by simp [Array.getD_eq_getD_getElem?, hsz]) ⟨⟨rfl, rfl, fun _ _ => rfl⟩, fun j d hl hd => ?_, h0⟩)
  · have hst1 := steps.at j o (by rw [List.getElem?_take, if_pos hj]; simpa using ho)
    rw [Nat.zero_add] at hst1
    exact stepG_op hcov hs ho hst ha hW hst1
  · unfold missing
    exact Nat.le_trans List.countP_le_length (by simp)
  · exfalso
    rcases Nat.lt_or_ge j ops.size with h | h
    · simp [Array.getD_eq_getD_getElem?, h] at hl
    · rw [Array.getElem?_eq_none h] at hd
      cases hd
end
end Go.Proofs.YtbokhofdgdcpdaaDoor

/- Parts and their spots in memory; contracts of orNone, single, beside, or. -/
namespace Go.Proofs.YtbokhofdgdcpdaaDoor
open Go.RowKit Go.Lib Go.Joins

/-- what is known of a part of an expression -/
structure Prt where
  first : Nat → Bool
  last : Nat → Bool
  free : Bool
def prtV (l : Prt) : Value := .agg #[.int .u64 (word (l.first) 0), .int .u64 (word (l.first) 1), .int .u64 (word (l.first) 2), .int .u64 (word (l.first) 3), .int .u64 (word (l.last) 0), .int .u64 (word (l.last) 1), .int .u64 (word (l.last) 2), .int .u64 (word (l.last) 3), .bool l.free]
def sptV (l : Prt) : Value := .agg #[.int .u64 (word (l.first) 0), .int .u64 (word (l.first) 1), .int .u64 (word (l.first) 2), .int .u64 (word (l.first) 3), .int .u64 (word (l.last) 0), .int .u64 (word (l.last) 1), .int .u64 (word (l.last) 2), .int .u64 (word (l.last) 3)]
theorem word_zero (i : Nat) : (word fNone i : Int) = 0 := by rw [word_none]; rfl
/-- a struct that is stored whole in a block of its own type -/
theorem store_row {ops : Array Oper} {rest : List Oper} {o : Oper} {a : Act} {w : World} {Q : Exit → Act → World → Prop} (hgd : o.guard = none) {ty : TypeId} {x y : Operand} (ho : o.op = .store ty x y)
    {B : Nat} {cs old : Array Value} {t : TypeId} (hx : a.eval x = .pointer (some ⟨B, 0, none⟩)) (hy : a.eval y = .agg cs) (hg : w.heap[B]? = some (.cells old t (0, 0))) (n : Nat) (hi : (Tryd.prog.info? ty).map (·.size) = some n)
    (hold : old.size = n) (hcs : cs.size = n) (h1 : cs.all (·.oneCell') = true) (h : ∀ w', w'.heap[B]? = some (.cells cs t (0, 0)) → w.grownBy w' (some B) → wpList Tryd.prog ops Q rest (a.put o.dst undef) w') : wpList Tryd.prog ops Q (o :: rest) a w :=
  wpList_store_row hgd ty x y ho B cs hx hy t old hg (by rw [hcs]; exact hi) (by rw [hcs]; exact hold) h1 (h _ (setRow_heap w B _ _ t _ hg) ⟨rfl, rfl, rfl, by simp, fun k _ hk => setRow_other w B k cs (by simpa using hk)⟩)
/-- block B has this part -/
def PrtAt (w : World) (B : Nat) (l : Prt) : Prop := w.heap[B]? = some (.cells #[.int .u64 (word (l.first) 0), .int .u64 (word (l.first) 1), .int .u64 (word (l.first) 2), .int .u64 (word (l.first) 3), .int .u64 (word (l.last) 0), .int .u64 (word (l.last) 1), .int .u64 (word (l.last) 2), .int .u64 (word (l.last) 3), .bool l.free] 72 (0, 0))
theorem PrtAt.lt {w : World} {B : Nat} {l : Prt} (h : PrtAt w B l) : B < w.heap.size := (Array.getElem?_eq_some_iff.1 h).1
theorem PrtAt.below {w w' : World} {B : Nat} {l : Prt} (h : PrtAt w B l) (hb : Below w.heap.size w w') : PrtAt w' B l := (hb.block B h.lt).trans h
def PrtCells (w : World) (B : Nat) (l : Prt) : Prop :=
  w.cell? ⟨B, 0, none⟩ = some (.int .u64 (word l.first 0)) ∧ w.cell? ⟨B, 1, none⟩ = some (.int .u64 (word l.first 1)) ∧ w.cell? ⟨B, 2, none⟩ = some (.int .u64 (word l.first 2)) ∧ w.cell? ⟨B, 3, none⟩ = some (.int .u64 (word l.first 3)) ∧ w.cell? ⟨B, 4, none⟩ = some (.int .u64 (word l.last 0)) ∧ w.cell? ⟨B, 5, none⟩ = some (.int .u64 (word l.last 1)) ∧ w.cell? ⟨B, 6, none⟩ = some (.int .u64 (word l.last 2)) ∧ w.cell? ⟨B, 7, none⟩ = some (.int .u64 (word l.last 3)) ∧ w.cell? ⟨B, 8, none⟩ = some (.bool l.free)
theorem PrtAt.cells {w : World} {B : Nat} {l : Prt} (h : PrtAt w B l) : PrtCells w B l := by
  have h' : w.heap[B]? = some (.cells #[.int .u64 (word (l.first) 0), .int .u64 (word (l.first) 1), .int .u64 (word (l.first) 2), .int .u64 (word (l.first) 3), .int .u64 (word (l.last) 0), .int .u64 (word (l.last) 1), .int .u64 (word (l.last) 2), .int .u64 (word (l.last) 3), .bool l.free] 72 (0, 0)) := h
  exact ⟨cell_of_row w B 0 _ _ _ h', cell_of_row w B 1 _ _ _ h', cell_of_row w B 2 _ _ _ h', cell_of_row w B 3 _ _ _ h', cell_of_row w B 4 _ _ _ h', cell_of_row w B 5 _ _ _ h', cell_of_row w B 6 _ _ _ h', cell_of_row w B 7 _ _ _ h', cell_of_row w B 8 _ _ _ h'⟩
theorem PrtAt.frozen {w : World} {B : Nat} {l : Prt} (h : PrtAt w B l) (j : Nat) : w.frozen? ⟨B, j, none⟩ = false := frozen_of_row w B j _ _ h
theorem ret_prt {fn : Func} {R : Ending → World → Prop} {a : Act} {w : World} {B p : Nat} {l : Prt} (h : fn.results = #[.cell p 72]) (hp : a.tmps.getD p undef = .pointer (some ⟨B, 0, none⟩))
    (hd : a.defers = []) (hS : PrtAt w B l) (hR : R (.returned (prtV l)) w) : bodyPost Tryd.prog fn R .ret a w :=
  bodyPost_ret (results_cell_row h _ w B 72 _ (0, 0) _ hp hS Tryd.underlying72 rfl (by kernel_rfl)) hd hR
/-- block B has these spots -/
def SptAt (w : World) (B : Nat) (l : Prt) : Prop := w.heap[B]? = some (.cells #[.int .u64 (word (l.first) 0), .int .u64 (word (l.first) 1), .int .u64 (word (l.first) 2), .int .u64 (word (l.first) 3), .int .u64 (word (l.last) 0), .int .u64 (word (l.last) 1), .int .u64 (word (l.last) 2), .int .u64 (word (l.last) 3)] 70 (0, 0))
theorem SptAt.lt {w : World} {B : Nat} {l : Prt} (h : SptAt w B l) : B < w.heap.size := (Array.getElem?_eq_some_iff.1 h).1
theorem SptAt.below {w w' : World} {B : Nat} {l : Prt} (h : SptAt w B l) (hb : Below w.heap.size w w') : SptAt w' B l := (hb.block B h.lt).trans h
def SptCells (w : World) (B : Nat) (l : Prt) : Prop :=
  w.cell? ⟨B, 0, none⟩ = some (.int .u64 (word l.first 0)) ∧ w.cell? ⟨B, 1, none⟩ = some (.int .u64 (word l.first 1)) ∧ w.cell? ⟨B, 2, none⟩ = some (.int .u64 (word l.first 2)) ∧ w.cell? ⟨B, 3, none⟩ = some (.int .u64 (word l.first 3)) ∧ w.cell? ⟨B, 4, none⟩ = some (.int .u64 (word l.last 0)) ∧ w.cell? ⟨B, 5, none⟩ = some (.int .u64 (word l.last 1)) ∧ w.cell? ⟨B, 6, none⟩ = some (.int .u64 (word l.last 2)) ∧ w.cell? ⟨B, 7, none⟩ = some (.int .u64 (word l.last 3))
theorem SptAt.cells {w : World} {B : Nat} {l : Prt} (h : SptAt w B l) : SptCells w B l := by
  have h' : w.heap[B]? = some (.cells #[.int .u64 (word (l.first) 0), .int .u64 (word (l.first) 1), .int .u64 (word (l.first) 2), .int .u64 (word (l.first) 3), .int .u64 (word (l.last) 0), .int .u64 (word (l.last) 1), .int .u64 (word (l.last) 2), .int .u64 (word (l.last) 3)] 70 (0, 0)) := h
  exact ⟨cell_of_row w B 0 _ _ _ h', cell_of_row w B 1 _ _ _ h', cell_of_row w B 2 _ _ _ h', cell_of_row w B 3 _ _ _ h', cell_of_row w B 4 _ _ _ h', cell_of_row w B 5 _ _ _ h', cell_of_row w B 6 _ _ _ h', cell_of_row w B 7 _ _ _ h'⟩
theorem ret_spt {fn : Func} {R : Ending → World → Prop} {a : Act} {w : World} {B p : Nat} {l : Prt} (h : fn.results = #[.cell p 70]) (hp : a.tmps.getD p undef = .pointer (some ⟨B, 0, none⟩))
    (hd : a.defers = []) (hS : SptAt w B l) (hR : R (.returned (sptV l)) w) : bodyPost Tryd.prog fn R .ret a w :=
  bodyPost_ret (results_cell_row h _ w B 70 _ (0, 0) _ hp hS Tryd.underlying70 rfl (by kernel_rfl)) hd hR
attribute [local go_sem] evalR_tmp evalR_const evalR_global evalR_func
set_option maxHeartbeats 2000000 in
set_option maxRecDepth 100000 in
theorem prtNone_calls (a : Prt) (w : World) : Calls Tryd.prog 86 #[prtV a] w fun e w' => e = .returned (prtV ⟨a.first, a.last, true⟩) ∧ Below w.heap.size w w' := by
  unfold prtV
  go_enter Tryd.func86, Tryd.ntmps86
  go_wp2
  exact ret_prt (l := ⟨a.first, a.last, true⟩) Tryd.results86 rfl rfl (heap_alloc2_new w _ _) ⟨rfl, ((Below.refl w.heap.size w).alloc (Nat.le_refl _) _).alloc (by simp) _⟩
set_option maxHeartbeats 2000000 in
set_option maxRecDepth 100000 in
theorem prtOne_calls (n : Nat) (w : World) (hn : n < 256) : Calls Tryd.prog 84 #[.int .i64 n] w fun e w' => e = .returned (prtV ⟨fOne n, fOne n, false⟩) ∧ Below w.heap.size w w' := by
  have HP := hidden (show (w.alloc (.cells #[.int .u64 0, .int .u64 0, .int .u64 0, .int .u64 0, .int .u64 0, .int .u64 0, .int .u64 0, .int .u64 0, .bool false] 72)).heap[w.heap.size]? = some (.cells #[.int .u64 0, .int .u64 0, .int .u64 0, .int .u64 0, .int .u64 0, .int .u64 0, .int .u64 0, .int .u64 0, .bool false] 72 (0, 0)) from heap_alloc_new w _)
  have HB := hidden ((Below.refl w.heap.size w).alloc (Nat.le_refl _) (.cells #[.int .u64 0, .int .u64 0, .int .u64 0, .int .u64 0, .int .u64 0, .int .u64 0, .int .u64 0, .int .u64 0, .bool false] 72))
  have HC := hidden (fun w => spOne_calls (n : Int) w (by omega) (by omega))
  simp only [Int.toNat_natCast] at HC
  generalize hv : prtV ⟨fOne n, fOne n, false⟩ = v
  have HV := hidden hv
  clear hv
  go_enter Tryd.func84, Tryd.ntmps84
  go_wp2_with fail
  refine (HC.out _).mono ?_
  rintro e w1 ⟨rfl, hb1⟩
  have HB1 := hidden (below_then HB.out HB.out.size hb1)
  have HP1 := hidden ((hb1.block _ (Array.getElem?_eq_some_iff.1 HP.out).1).trans HP.out)
  clear hb1
  go_wp2_with fail
  refine (HC.out _).mono ?_
  rintro e w2 ⟨rfl, hb2⟩
  have HB2 := hidden (below_then HB1.out HB1.out.size hb2)
  have HP2 := hidden ((hb2.block _ (Array.getElem?_eq_some_iff.1 HP1.out).1).trans HP1.out)
  clear hb2
  dsimp only
  go_wp2_with (refine store_row (B := w.heap.size) (cs := #[.int .u64 (word (fOne n) 0), .int .u64 (word (fOne n) 1), .int .u64 (word (fOne n) 2), .int .u64 (word (fOne n) 3), .int .u64 (word (fOne n) 0), .int .u64 (word (fOne n) 1), .int .u64 (word (fOne n) 2), .int .u64 (word (fOne n) 3), .bool false]) (old := #[.int .u64 0, .int .u64 0, .int .u64 0, .int .u64 0, .int .u64 0, .int .u64 0, .int .u64 0, .int .u64 0, .bool false]) (t := 72) rfl (ty := 72) (x := .tmp 2) (y := .tmp 8) rfl rfl rfl HP2.out 9 (by kernel_rfl) rfl rfl (by kernel_rfl) ?_; intro w6 hw6 hg6; have HL6 := hidden hw6; have HF := hidden (HB2.out.grown hg6 HB2.out.size (fun j e => by simp only [Option.some.injEq] at e; omega)); clear hw6 hg6)
  exact ret_prt (l := ⟨fOne n, fOne n, false⟩) Tryd.results84 rfl rfl HL6.out ⟨by rw [HV.out], HF.out⟩
/-- what stays while beside goes on -/
structure Wsb (w : World) (a b : Prt) (wr : World) : Prop where
  one : SptAt wr w.heap.size a
  two : SptAt wr (w.heap.size + 1) b
  out : wr.heap[w.heap.size + 2]? = some (.cells #[.int .u64 0, .int .u64 0, .int .u64 0, .int .u64 0, .int .u64 0, .int .u64 0, .int .u64 0, .int .u64 0] 70 (0, 0))
  frame : Below w.heap.size w wr
theorem Wsb.below {w wr w' : World} {a b : Prt} (h : Wsb w a b wr) (hb : Below wr.heap.size wr w') : Wsb w a b w' := ⟨h.one.below hb, h.two.below hb, (hb.block _ (Array.getElem?_eq_some_iff.1 h.out).1).trans h.out, below_then h.frame h.frame.size hb⟩
theorem Wsb.cells {w wr : World} {a b : Prt} (h : Wsb w a b wr) : SptCells wr w.heap.size a ∧ SptCells wr (w.heap.size + 1) b := ⟨h.one.cells, h.two.cells⟩
theorem Wsb.start (w : World) (a b : Prt) : Wsb w a b (((w.alloc (.cells #[.int .u64 (word (a.first) 0), .int .u64 (word (a.first) 1), .int .u64 (word (a.first) 2), .int .u64 (word (a.first) 3), .int .u64 (word (a.last) 0), .int .u64 (word (a.last) 1), .int .u64 (word (a.last) 2), .int .u64 (word (a.last) 3)] 70)).alloc (.cells #[.int .u64 (word (b.first) 0), .int .u64 (word (b.first) 1), .int .u64 (word (b.first) 2), .int .u64 (word (b.first) 3), .int .u64 (word (b.last) 0), .int .u64 (word (b.last) 1), .int .u64 (word (b.last) 2), .int .u64 (word (b.last) 3)] 70)).alloc (.cells #[.int .u64 0, .int .u64 0, .int .u64 0, .int .u64 0, .int .u64 0, .int .u64 0, .int .u64 0, .int .u64 0] 70)) := by
  have h1 : SptAt (w.alloc (.cells #[.int .u64 (word (a.first) 0), .int .u64 (word (a.first) 1), .int .u64 (word (a.first) 2), .int .u64 (word (a.first) 3), .int .u64 (word (a.last) 0), .int .u64 (word (a.last) 1), .int .u64 (word (a.last) 2), .int .u64 (word (a.last) 3)] 70)) w.heap.size a := heap_alloc_new w _
  have b1 := (Below.refl w.heap.size w).alloc (Nat.le_refl _) (.cells #[.int .u64 (word (a.first) 0), .int .u64 (word (a.first) 1), .int .u64 (word (a.first) 2), .int .u64 (word (a.first) 3), .int .u64 (word (a.last) 0), .int .u64 (word (a.last) 1), .int .u64 (word (a.last) 2), .int .u64 (word (a.last) 3)] 70)
  have h2 : SptAt ((w.alloc (.cells #[.int .u64 (word (a.first) 0), .int .u64 (word (a.first) 1), .int .u64 (word (a.first) 2), .int .u64 (word (a.first) 3), .int .u64 (word (a.last) 0), .int .u64 (word (a.last) 1), .int .u64 (word (a.last) 2), .int .u64 (word (a.last) 3)] 70)).alloc (.cells #[.int .u64 (word (b.first) 0), .int .u64 (word (b.first) 1), .int .u64 (word (b.first) 2), .int .u64 (word (b.first) 3), .int .u64 (word (b.last) 0), .int .u64 (word (b.last) 1), .int .u64 (word (b.last) 2), .int .u64 (word (b.last) 3)] 70)) (w.heap.size + 1) b := heap_alloc2_new w _ _
  have h3 := heap_alloc_new ((w.alloc (.cells #[.int .u64 (word (a.first) 0), .int .u64 (word (a.first) 1), .int .u64 (word (a.first) 2), .int .u64 (word (a.first) 3), .int .u64 (word (a.last) 0), .int .u64 (word (a.last) 1), .int .u64 (word (a.last) 2), .int .u64 (word (a.last) 3)] 70)).alloc (.cells #[.int .u64 (word (b.first) 0), .int .u64 (word (b.first) 1), .int .u64 (word (b.first) 2), .int .u64 (word (b.first) 3), .int .u64 (word (b.last) 0), .int .u64 (word (b.last) 1), .int .u64 (word (b.last) 2), .int .u64 (word (b.last) 3)] 70)) (.cells #[.int .u64 0, .int .u64 0, .int .u64 0, .int .u64 0, .int .u64 0, .int .u64 0, .int .u64 0, .int .u64 0] 70)
  have hs : ((w.alloc (.cells #[.int .u64 (word (a.first) 0), .int .u64 (word (a.first) 1), .int .u64 (word (a.first) 2), .int .u64 (word (a.first) 3), .int .u64 (word (a.last) 0), .int .u64 (word (a.last) 1), .int .u64 (word (a.last) 2), .int .u64 (word (a.last) 3)] 70)).alloc (.cells #[.int .u64 (word (b.first) 0), .int .u64 (word (b.first) 1), .int .u64 (word (b.first) 2), .int .u64 (word (b.first) 3), .int .u64 (word (b.last) 0), .int .u64 (word (b.last) 1), .int .u64 (word (b.last) 2), .int .u64 (word (b.last) 3)] 70)).heap.size = w.heap.size + 2 := by simp
  rw [hs] at h3
  exact ⟨(h1.below ((Below.refl _ _).alloc (Nat.le_refl _) _)).below ((Below.refl _ _).alloc (Nat.le_refl _) _), h2.below ((Below.refl _ _).alloc (Nat.le_refl _) _), h3, (b1.alloc (by simp) _).alloc (by simp; omega) _⟩
def Lsb (w : World) (a b : Prt) : List (Value → World → Prop) := [Is (.pointer (some ⟨w.heap.size, 0, none⟩)), Is (.agg #[.int .u64 (word (a.first) 0), .int .u64 (word (a.first) 1), .int .u64 (word (a.first) 2), .int .u64 (word (a.first) 3)]), Is (.pointer (some ⟨w.heap.size + 1, 0, none⟩)), Is (.agg #[.int .u64 (word (b.first) 0), .int .u64 (word (b.first) 1), .int .u64 (word (b.first) 2), .int .u64 (word (b.first) 3)]), Is (.agg #[.int .u64 (word (fOr a.first b.first) 0), .int .u64 (word (fOr a.first b.first) 1), .int .u64 (word (fOr a.first b.first) 2), .int .u64 (word (fOr a.first b.first) 3)]), Is (.pointer (some ⟨w.heap.size, 4, none⟩)), Is (.agg #[.int .u64 (word (a.last) 0), .int .u64 (word (a.last) 1), .int .u64 (word (a.last) 2), .int .u64 (word (a.last) 3)]), Is (.pointer (some ⟨w.heap.size + 1, 4, none⟩)), Is (.agg #[.int .u64 (word (b.last) 0), .int .u64 (word (b.last) 1), .int .u64 (word (b.last) 2), .int .u64 (word (b.last) 3)]), Is (.agg #[.int .u64 (word (fOr a.last b.last) 0), .int .u64 (word (fOr a.last b.last) 1), .int .u64 (word (fOr a.last b.last) 2), .int .u64 (word (fOr a.last b.last) 3)]), Is (.agg #[.int .u64 (word (fOr a.first b.first) 0), .int .u64 (word (fOr a.first b.first) 1), .int .u64 (word (fOr a.first b.first) 2), .int .u64 (word (fOr a.first b.first) 3), .int .u64 (word (fOr a.last b.last) 0), .int .u64 (word (fOr a.last b.last) 1), .int .u64 (word (fOr a.last b.last) 2), .int .u64 (word (fOr a.last b.last) 3)])]
set_option maxHeartbeats 8000000 in
set_option maxRecDepth 100000 in
theorem beside_calls (a b : Prt) (w : World) : Calls Tryd.prog 94 #[sptV a, sptV b] w fun e w' => e = .returned (sptV ⟨fOr a.first b.first, fOr a.last b.last, a.free || b.free⟩) ∧ Below w.heap.size w w' := by
  unfold sptV
  go_enter Tryd.func94, Tryd.ntmps94
  go_wp2
  refine wp_region_stepsL 11 (typ (Lsb w a b)) (Wsb w a b) (by kernel_rfl) (by kernel_rfl) (by kernel_rfl) (by kernel_rfl) (by kernel_rfl) (by kernel_rfl) ?mono ?start ?step ?last
  case mono =>
    refine typ_mono ?_
    simp only [Lsb, List.forall_mem_cons]
    repeat' (first | exact is_mono _ | (intro p hp; cases hp; done) | exact (fun v w w' h _ => h) | refine And.intro ?_ ?_)
  case start => exact (Wsb.start w a b).below (Below.refl _ _).drew
  case last =>
    intro a1 w1 hs hv hW
    have h4 : a1.tmps.getD 4 undef = .pointer (some ⟨w.heap.size + 2, 0, none⟩) := hs.slot 4 (by kernel_rfl)
    have h23 : a1.tmps.getD 15 undef = (.agg #[.int .u64 (word (fOr a.first b.first) 0), .int .u64 (word (fOr a.first b.first) 1), .int .u64 (word (fOr a.first b.first) 2), .int .u64 (word (fOr a.first b.first) 3), .int .u64 (word (fOr a.last b.last) 0), .int .u64 (word (fOr a.last b.last) 1), .int .u64 (word (fOr a.last b.last) 2), .int .u64 (word (fOr a.last b.last) 3)]) := hv 10 15 (by decide) (by kernel_rfl)
    have hd := hs.defers
    have HW := hidden hW
    clear hs hv hW
    refine wpOp_of_list rfl rfl ?_
    refine store_row (B := w.heap.size + 2) (cs := #[.int .u64 (word (fOr a.first b.first) 0), .int .u64 (word (fOr a.first b.first) 1), .int .u64 (word (fOr a.first b.first) 2), .int .u64 (word (fOr a.first b.first) 3), .int .u64 (word (fOr a.last b.last) 0), .int .u64 (word (fOr a.last b.last) 1), .int .u64 (word (fOr a.last b.last) 2), .int .u64 (word (fOr a.last b.last) 3)]) (old := #[.int .u64 0, .int .u64 0, .int .u64 0, .int .u64 0, .int .u64 0, .int .u64 0, .int .u64 0, .int .u64 0]) (t := 70) rfl (ty := 70) (x := .tmp 4) (y := .tmp 15) rfl h4 h23 HW.out.out 8 (by kernel_rfl) rfl rfl (by kernel_rfl) ?_
    intro w6 hw6 hg6
    have HL6 := hidden hw6
    have HF := hidden (HW.out.frame.grown hg6 (by have := HW.out.frame.size; omega) (fun j e => by simp only [Option.some.injEq] at e; omega))
    clear hw6 hg6
    go_wp2
    exact ret_spt (l := ⟨fOr a.first b.first, fOr a.last b.last, a.free || b.free⟩) Tryd.results94 h4 hd HL6.out ⟨rfl, HF.out⟩
  case step =>
    refine ⟨?_, ?_, ?_, ?_, ?_, ?_, ?_, ?_, ?_, ?_, ?_, trivial⟩
    · change StepOk _ _ _ _ _ _ _
      intro ρ w1 hF hW
      have HW := hidden hW
      clear hW
      have e2 : ρ 2 = .pointer (some ⟨w.heap.size, 0, none⟩) := hF 2 (by decide)
      clear hF
      unfold Does
      go_simp
      exact ⟨rfl, HW.out, Below.refl _ _⟩
    · change StepOk _ _ _ _ _ _ _
      intro ρ w1 hF hW
      have HW := hidden hW
      clear hW
      have e5 : ρ 5 = .pointer (some ⟨w.heap.size, 0, none⟩) := hF 5 (by decide)
      clear hF
      obtain ⟨⟨c0, c1, c2, c3, c4, c5, c6, c7⟩, d0, d1, d2, d3, d4, d5, d6, d7⟩ := HW.out.cells
      unfold Does
      go_simp
      exact ⟨rfl, HW.out, Below.refl _ _⟩
    · change StepOk _ _ _ _ _ _ _
      intro ρ w1 hF hW
      have HW := hidden hW
      clear hW
      have e3 : ρ 3 = .pointer (some ⟨w.heap.size + 1, 0, none⟩) := hF 3 (by decide)
      clear hF
      unfold Does
      go_simp
      exact ⟨rfl, HW.out, Below.refl _ _⟩
    · change StepOk _ _ _ _ _ _ _
      intro ρ w1 hF hW
      have HW := hidden hW
      clear hW
      have e7 : ρ 7 = .pointer (some ⟨w.heap.size + 1, 0, none⟩) := hF 7 (by decide)
      clear hF
      obtain ⟨⟨c0, c1, c2, c3, c4, c5, c6, c7⟩, d0, d1, d2, d3, d4, d5, d6, d7⟩ := HW.out.cells
      unfold Does
      go_simp
      exact ⟨rfl, HW.out, Below.refl _ _⟩
    · change StepOk _ _ _ _ _ _ _
      intro ρ w1 hF hW
      have HW := hidden hW
      clear hW
      have e6 : ρ 6 = (.agg #[.int .u64 (word (a.first) 0), .int .u64 (word (a.first) 1), .int .u64 (word (a.first) 2), .int .u64 (word (a.first) 3)]) := hF 6 (by decide)
      have e8 : ρ 8 = (.agg #[.int .u64 (word (b.first) 0), .int .u64 (word (b.first) 1), .int .u64 (word (b.first) 2), .int .u64 (word (b.first) 3)]) := hF 8 (by decide)
      clear hF
      unfold Does
      go_simp
      refine (spWith_calls _ _ _).mono ?_
      rintro e w2 ⟨rfl, hb⟩
      exact ⟨_, rfl, rfl, Wsb.below HW.out hb, hb⟩
    · change StepOk _ _ _ _ _ _ _
      intro ρ w1 hF hW
      have HW := hidden hW
      clear hW
      have e2 : ρ 2 = .pointer (some ⟨w.heap.size, 0, none⟩) := hF 2 (by decide)
      clear hF
      unfold Does
      go_simp
      exact ⟨rfl, HW.out, Below.refl _ _⟩
    · change StepOk _ _ _ _ _ _ _
      intro ρ w1 hF hW
      have HW := hidden hW
      clear hW
      have e10 : ρ 10 = .pointer (some ⟨w.heap.size, 4, none⟩) := hF 10 (by decide)
      clear hF
      obtain ⟨⟨c0, c1, c2, c3, c4, c5, c6, c7⟩, d0, d1, d2, d3, d4, d5, d6, d7⟩ := HW.out.cells
      unfold Does
      go_simp
      exact ⟨rfl, HW.out, Below.refl _ _⟩
    · change StepOk _ _ _ _ _ _ _
      intro ρ w1 hF hW
      have HW := hidden hW
      clear hW
      have e3 : ρ 3 = .pointer (some ⟨w.heap.size + 1, 0, none⟩) := hF 3 (by decide)
      clear hF
      unfold Does
      go_simp
      exact ⟨rfl, HW.out, Below.refl _ _⟩
    · change StepOk _ _ _ _ _ _ _
      intro ρ w1 hF hW
      have HW := hidden hW
      clear hW
      have e12 : ρ 12 = .pointer (some ⟨w.heap.size + 1, 4, none⟩) := hF 12 (by decide)
      clear hF
      obtain ⟨⟨c0, c1, c2, c3, c4, c5, c6, c7⟩, d0, d1, d2, d3, d4, d5, d6, d7⟩ := HW.out.cells
      unfold Does
      go_simp
      exact ⟨rfl, HW.out, Below.refl _ _⟩
    · change StepOk _ _ _ _ _ _ _
      intro ρ w1 hF hW
      have HW := hidden hW
      clear hW
      have e11 : ρ 11 = (.agg #[.int .u64 (word (a.last) 0), .int .u64 (word (a.last) 1), .int .u64 (word (a.last) 2), .int .u64 (word (a.last) 3)]) := hF 11 (by decide)
      have e13 : ρ 13 = (.agg #[.int .u64 (word (b.last) 0), .int .u64 (word (b.last) 1), .int .u64 (word (b.last) 2), .int .u64 (word (b.last) 3)]) := hF 13 (by decide)
      clear hF
      unfold Does
      go_simp
      refine (spWith_calls _ _ _).mono ?_
      rintro e w2 ⟨rfl, hb⟩
      exact ⟨_, rfl, rfl, Wsb.below HW.out hb, hb⟩
    · change StepOk _ _ _ _ _ _ _
      intro ρ w1 hF hW
      have HW := hidden hW
      clear hW
      have e9 : ρ 9 = (.agg #[.int .u64 (word (fOr a.first b.first) 0), .int .u64 (word (fOr a.first b.first) 1), .int .u64 (word (fOr a.first b.first) 2), .int .u64 (word (fOr a.first b.first) 3)]) := hF 9 (by decide)
      have e14 : ρ 14 = (.agg #[.int .u64 (word (fOr a.last b.last) 0), .int .u64 (word (fOr a.last b.last) 1), .int .u64 (word (fOr a.last b.last) 2), .int .u64 (word (fOr a.last b.last) 3)]) := hF 14 (by decide)
      clear hF
      unfold Does
      go_simp
      exact ⟨rfl, HW.out, Below.refl _ _⟩
/-- what stays while or goes on -/
structure Wpo (w : World) (a b : Prt) (wr : World) : Prop where
  one : PrtAt wr w.heap.size a
  two : PrtAt wr (w.heap.size + 1) b
  out : wr.heap[w.heap.size + 2]? = some (.cells #[.int .u64 0, .int .u64 0, .int .u64 0, .int .u64 0, .int .u64 0, .int .u64 0, .int .u64 0, .int .u64 0, .bool false] 72 (0, 0))
  frame : Below w.heap.size w wr
theorem Wpo.below {w wr w' : World} {a b : Prt} (h : Wpo w a b wr) (hb : Below wr.heap.size wr w') : Wpo w a b w' := ⟨h.one.below hb, h.two.below hb, (hb.block _ (Array.getElem?_eq_some_iff.1 h.out).1).trans h.out, below_then h.frame h.frame.size hb⟩
theorem Wpo.cells {w wr : World} {a b : Prt} (h : Wpo w a b wr) : PrtCells wr w.heap.size a ∧ PrtCells wr (w.heap.size + 1) b := ⟨h.one.cells, h.two.cells⟩
theorem Wpo.start (w : World) (a b : Prt) : Wpo w a b (((w.alloc (.cells #[.int .u64 (word (a.first) 0), .int .u64 (word (a.first) 1), .int .u64 (word (a.first) 2), .int .u64 (word (a.first) 3), .int .u64 (word (a.last) 0), .int .u64 (word (a.last) 1), .int .u64 (word (a.last) 2), .int .u64 (word (a.last) 3), .bool a.free] 72)).alloc (.cells #[.int .u64 (word (b.first) 0), .int .u64 (word (b.first) 1), .int .u64 (word (b.first) 2), .int .u64 (word (b.first) 3), .int .u64 (word (b.last) 0), .int .u64 (word (b.last) 1), .int .u64 (word (b.last) 2), .int .u64 (word (b.last) 3), .bool b.free] 72)).alloc (.cells #[.int .u64 0, .int .u64 0, .int .u64 0, .int .u64 0, .int .u64 0, .int .u64 0, .int .u64 0, .int .u64 0, .bool false] 72)) := by
  have h1 : PrtAt (w.alloc (.cells #[.int .u64 (word (a.first) 0), .int .u64 (word (a.first) 1), .int .u64 (word (a.first) 2), .int .u64 (word (a.first) 3), .int .u64 (word (a.last) 0), .int .u64 (word (a.last) 1), .int .u64 (word (a.last) 2), .int .u64 (word (a.last) 3), .bool a.free] 72)) w.heap.size a := heap_alloc_new w _
  have b1 := (Below.refl w.heap.size w).alloc (Nat.le_refl _) (.cells #[.int .u64 (word (a.first) 0), .int .u64 (word (a.first) 1), .int .u64 (word (a.first) 2), .int .u64 (word (a.first) 3), .int .u64 (word (a.last) 0), .int .u64 (word (a.last) 1), .int .u64 (word (a.last) 2), .int .u64 (word (a.last) 3), .bool a.free] 72)
  have h2 : PrtAt ((w.alloc (.cells #[.int .u64 (word (a.first) 0), .int .u64 (word (a.first) 1), .int .u64 (word (a.first) 2), .int .u64 (word (a.first) 3), .int .u64 (word (a.last) 0), .int .u64 (word (a.last) 1), .int .u64 (word (a.last) 2), .int .u64 (word (a.last) 3), .bool a.free] 72)).alloc (.cells #[.int .u64 (word (b.first) 0), .int .u64 (word (b.first) 1), .int .u64 (word (b.first) 2), .int .u64 (word (b.first) 3), .int .u64 (word (b.last) 0), .int .u64 (word (b.last) 1), .int .u64 (word (b.last) 2), .int .u64 (word (b.last) 3), .bool b.free] 72)) (w.heap.size + 1) b := heap_alloc2_new w _ _
  have h3 := heap_alloc_new ((w.alloc (.cells #[.int .u64 (word (a.first) 0), .int .u64 (word (a.first) 1), .int .u64 (word (a.first) 2), .int .u64 (word (a.first) 3), .int .u64 (word (a.last) 0), .int .u64 (word (a.last) 1), .int .u64 (word (a.last) 2), .int .u64 (word (a.last) 3), .bool a.free] 72)).alloc (.cells #[.int .u64 (word (b.first) 0), .int .u64 (word (b.first) 1), .int .u64 (word (b.first) 2), .int .u64 (word (b.first) 3), .int .u64 (word (b.last) 0), .int .u64 (word (b.last) 1), .int .u64 (word (b.last) 2), .int .u64 (word (b.last) 3), .bool b.free] 72)) (.cells #[.int .u64 0, .int .u64 0, .int .u64 0, .int .u64 0, .int .u64 0, .int .u64 0, .int .u64 0, .int .u64 0, .bool false] 72)
  have hs : ((w.alloc (.cells #[.int .u64 (word (a.first) 0), .int .u64 (word (a.first) 1), .int .u64 (word (a.first) 2), .int .u64 (word (a.first) 3), .int .u64 (word (a.last) 0), .int .u64 (word (a.last) 1), .int .u64 (word (a.last) 2), .int .u64 (word (a.last) 3), .bool a.free] 72)).alloc (.cells #[.int .u64 (word (b.first) 0), .int .u64 (word (b.first) 1), .int .u64 (word (b.first) 2), .int .u64 (word (b.first) 3), .int .u64 (word (b.last) 0), .int .u64 (word (b.last) 1), .int .u64 (word (b.last) 2), .int .u64 (word (b.last) 3), .bool b.free] 72)).heap.size = w.heap.size + 2 := by simp
  rw [hs] at h3
  exact ⟨(h1.below ((Below.refl _ _).alloc (Nat.le_refl _) _)).below ((Below.refl _ _).alloc (Nat.le_refl _) _), h2.below ((Below.refl _ _).alloc (Nat.le_refl _) _), h3, (b1.alloc (by simp) _).alloc (by simp; omega) _⟩
def Lpo (w : World) (a b : Prt) : List (Value → World → Prop) := [Is (.pointer (some ⟨w.heap.size, 0, none⟩)), Is (.agg #[.int .u64 (word (a.first) 0), .int .u64 (word (a.first) 1), .int .u64 (word (a.first) 2), .int .u64 (word (a.first) 3), .int .u64 (word (a.last) 0), .int .u64 (word (a.last) 1), .int .u64 (word (a.last) 2), .int .u64 (word (a.last) 3)]), Is (.pointer (some ⟨w.heap.size + 1, 0, none⟩)), Is (.agg #[.int .u64 (word (b.first) 0), .int .u64 (word (b.first) 1), .int .u64 (word (b.first) 2), .int .u64 (word (b.first) 3), .int .u64 (word (b.last) 0), .int .u64 (word (b.last) 1), .int .u64 (word (b.last) 2), .int .u64 (word (b.last) 3)]), Is (.agg #[.int .u64 (word (fOr a.first b.first) 0), .int .u64 (word (fOr a.first b.first) 1), .int .u64 (word (fOr a.first b.first) 2), .int .u64 (word (fOr a.first b.first) 3), .int .u64 (word (fOr a.last b.last) 0), .int .u64 (word (fOr a.last b.last) 1), .int .u64 (word (fOr a.last b.last) 2), .int .u64 (word (fOr a.last b.last) 3)]), Is (.pointer (some ⟨w.heap.size, 8, none⟩)), Is (.bool a.free), Is (.bool a.free), fun v _ => a.free = false → v = .pointer (some ⟨w.heap.size + 1, 8, none⟩), fun v _ => a.free = false → v = .bool b.free, Is (.bool (a.free || b.free)), Is (.agg #[.int .u64 (word (fOr a.first b.first) 0), .int .u64 (word (fOr a.first b.first) 1), .int .u64 (word (fOr a.first b.first) 2), .int .u64 (word (fOr a.first b.first) 3), .int .u64 (word (fOr a.last b.last) 0), .int .u64 (word (fOr a.last b.last) 1), .int .u64 (word (fOr a.last b.last) 2), .int .u64 (word (fOr a.last b.last) 3), .bool (a.free || b.free)])]
set_option maxHeartbeats 8000000 in
set_option maxRecDepth 100000 in
theorem prtOr_calls (a b : Prt) (w : World) : Calls Tryd.prog 85 #[prtV a, prtV b] w fun e w' => e = .returned (prtV ⟨fOr a.first b.first, fOr a.last b.last, a.free || b.free⟩) ∧ Below w.heap.size w w' := by
  unfold prtV
  go_enter Tryd.func85, Tryd.ntmps85
  go_wp2
  refine wp_region_stepsL 12 (typ (Lpo w a b)) (Wpo w a b) (by kernel_rfl) (by kernel_rfl) (by kernel_rfl) (by kernel_rfl) (by kernel_rfl) (by kernel_rfl) ?mono ?start ?step ?last
  case mono =>
    refine typ_mono ?_
    simp only [Lpo, List.forall_mem_cons]
    repeat' (first | exact is_mono _ | (intro p hp; cases hp; done) | exact (fun v w w' h _ => h) | refine And.intro ?_ ?_)
  case start => exact (Wpo.start w a b).below (Below.refl _ _).drew
  case last =>
    intro a1 w1 hs hv hW
    have h4 : a1.tmps.getD 4 undef = .pointer (some ⟨w.heap.size + 2, 0, none⟩) := hs.slot 4 (by kernel_rfl)
    have h23 : a1.tmps.getD 16 undef = (.agg #[.int .u64 (word (fOr a.first b.first) 0), .int .u64 (word (fOr a.first b.first) 1), .int .u64 (word (fOr a.first b.first) 2), .int .u64 (word (fOr a.first b.first) 3), .int .u64 (word (fOr a.last b.last) 0), .int .u64 (word (fOr a.last b.last) 1), .int .u64 (word (fOr a.last b.last) 2), .int .u64 (word (fOr a.last b.last) 3), .bool (a.free || b.free)]) := hv 11 16 (by decide) (by kernel_rfl)
    have hd := hs.defers
    have HW := hidden hW
    clear hs hv hW
    refine wpOp_of_list rfl rfl ?_
    refine store_row (B := w.heap.size + 2) (cs := #[.int .u64 (word (fOr a.first b.first) 0), .int .u64 (word (fOr a.first b.first) 1), .int .u64 (word (fOr a.first b.first) 2), .int .u64 (word (fOr a.first b.first) 3), .int .u64 (word (fOr a.last b.last) 0), .int .u64 (word (fOr a.last b.last) 1), .int .u64 (word (fOr a.last b.last) 2), .int .u64 (word (fOr a.last b.last) 3), .bool (a.free || b.free)]) (old := #[.int .u64 0, .int .u64 0, .int .u64 0, .int .u64 0, .int .u64 0, .int .u64 0, .int .u64 0, .int .u64 0, .bool false]) (t := 72) rfl (ty := 72) (x := .tmp 4) (y := .tmp 16) rfl h4 h23 HW.out.out 9 (by kernel_rfl) rfl rfl (by kernel_rfl) ?_
    intro w6 hw6 hg6
    have HL6 := hidden hw6
    have HF := hidden (HW.out.frame.grown hg6 (by have := HW.out.frame.size; omega) (fun j e => by simp only [Option.some.injEq] at e; omega))
    clear hw6 hg6
    go_wp2
    exact ret_prt (l := ⟨fOr a.first b.first, fOr a.last b.last, a.free || b.free⟩) Tryd.results85 h4 hd HL6.out ⟨rfl, HF.out⟩
  case step =>
    refine ⟨?_, ?_, ?_, ?_, ?_, ?_, ?_, ?_, ?_, ?_, ?_, ?_, trivial⟩
    · change StepOk _ _ _ _ _ _ _
      intro ρ w1 hF hW
      have HW := hidden hW
      clear hW
      have e2 : ρ 2 = .pointer (some ⟨w.heap.size, 0, none⟩) := hF 2 (by decide)
      clear hF
      unfold Does
      go_simp
      exact ⟨rfl, HW.out, Below.refl _ _⟩
    · change StepOk _ _ _ _ _ _ _
      intro ρ w1 hF hW
      have HW := hidden hW
      clear hW
      have e5 : ρ 5 = .pointer (some ⟨w.heap.size, 0, none⟩) := hF 5 (by decide)
      clear hF
      obtain ⟨⟨c0, c1, c2, c3, c4, c5, c6, c7, c8⟩, d0, d1, d2, d3, d4, d5, d6, d7, d8⟩ := HW.out.cells
      unfold Does
      go_simp
      exact ⟨rfl, HW.out, Below.refl _ _⟩
    · change StepOk _ _ _ _ _ _ _
      intro ρ w1 hF hW
      have HW := hidden hW
      clear hW
      have e3 : ρ 3 = .pointer (some ⟨w.heap.size + 1, 0, none⟩) := hF 3 (by decide)
      clear hF
      unfold Does
      go_simp
      exact ⟨rfl, HW.out, Below.refl _ _⟩
    · change StepOk _ _ _ _ _ _ _
      intro ρ w1 hF hW
      have HW := hidden hW
      clear hW
      have e7 : ρ 7 = .pointer (some ⟨w.heap.size + 1, 0, none⟩) := hF 7 (by decide)
      clear hF
      obtain ⟨⟨c0, c1, c2, c3, c4, c5, c6, c7, c8⟩, d0, d1, d2, d3, d4, d5, d6, d7, d8⟩ := HW.out.cells
      unfold Does
      go_simp
      exact ⟨rfl, HW.out, Below.refl _ _⟩
    · change StepOk _ _ _ _ _ _ _
      intro ρ w1 hF hW
      have HW := hidden hW
      clear hW
      have e6 : ρ 6 = .agg #[.int .u64 (word (a.first) 0), .int .u64 (word (a.first) 1), .int .u64 (word (a.first) 2), .int .u64 (word (a.first) 3), .int .u64 (word (a.last) 0), .int .u64 (word (a.last) 1), .int .u64 (word (a.last) 2), .int .u64 (word (a.last) 3)] := hF 6 (by decide)
      have e8 : ρ 8 = .agg #[.int .u64 (word (b.first) 0), .int .u64 (word (b.first) 1), .int .u64 (word (b.first) 2), .int .u64 (word (b.first) 3), .int .u64 (word (b.last) 0), .int .u64 (word (b.last) 1), .int .u64 (word (b.last) 2), .int .u64 (word (b.last) 3)] := hF 8 (by decide)
      clear hF
      unfold Does
      go_simp
      refine (beside_calls a b _).mono ?_
      rintro e w2 ⟨rfl, hb⟩
      exact ⟨_, rfl, rfl, Wpo.below HW.out hb, hb⟩
    · change StepOk _ _ _ _ _ _ _
      intro ρ w1 hF hW
      have HW := hidden hW
      clear hW
      have e2 : ρ 2 = .pointer (some ⟨w.heap.size, 0, none⟩) := hF 2 (by decide)
      clear hF
      unfold Does
      go_simp
      exact ⟨rfl, HW.out, Below.refl _ _⟩
    · change StepOk _ _ _ _ _ _ _
      intro ρ w1 hF hW
      have HW := hidden hW
      clear hW
      have e10 : ρ 10 = .pointer (some ⟨w.heap.size, 8, none⟩) := hF 10 (by decide)
      clear hF
      obtain ⟨⟨c0, c1, c2, c3, c4, c5, c6, c7, c8⟩, d0, d1, d2, d3, d4, d5, d6, d7, d8⟩ := HW.out.cells
      unfold Does
      go_simp
      exact ⟨rfl, HW.out, Below.refl _ _⟩
    · change StepOk _ _ _ _ _ _ _
      intro ρ w1 hF hW
      have HW := hidden hW
      clear hW
      have e11 : ρ 11 = .bool a.free := hF 11 (by decide)
      clear hF
      unfold Does
      go_simp
      exact ⟨rfl, HW.out, Below.refl _ _⟩
    · refine ⟨a.free, fun v w h => h, fun hgx => ?_, fun hgx w => ?_⟩
      rotate_left
      · intro hg2
        exact absurd hg2 hgx
      change StepOk _ _ _ _ _ _ _
      intro ρ w1 hF hW
      have HW := hidden hW
      clear hW
      have e3 : ρ 3 = .pointer (some ⟨w.heap.size + 1, 0, none⟩) := hF 3 (by decide)
      clear hF
      unfold Does
      go_simp
      exact ⟨fun _ => rfl, HW.out, Below.refl _ _⟩
    · refine ⟨a.free, fun v w h => h, fun hgx => ?_, fun hgx w => ?_⟩
      rotate_left
      · intro hg2
        exact absurd hg2 hgx
      change StepOk _ _ _ _ _ _ _
      intro ρ w1 hF hW
      have HW := hidden hW
      clear hW
      have hG13 := hF 13 (by decide)
      clear hF
      obtain ⟨⟨c0, c1, c2, c3, c4, c5, c6, c7, c8⟩, d0, d1, d2, d3, d4, d5, d6, d7, d8⟩ := HW.out.cells
      have e13 : ρ 13 = _ := hG13 hgx
      clear hG13
      unfold Does
      go_simp
      exact ⟨fun _ => rfl, HW.out, Below.refl _ _⟩
    · change StepOk _ _ _ _ _ _ _
      intro ρ w1 hF hW
      have HW := hidden hW
      clear hW
      have e12 : ρ 12 = .bool a.free := hF 12 (by decide)
      have hG14 := hF 14 (by decide)
      clear hF
      rcases Bool.eq_false_or_eq_true (a.free) with hx | hx
      · have ex : ρ 12 = .bool true := by rw [e12, hx]
        clear e12
        skip
        clear hG14
        unfold Does
        go_simp
        exact ⟨show Value.bool _ = Value.bool (a.free || b.free) from by rw [hx]; rfl, HW.out, Below.refl _ _⟩
      · have ex : ρ 12 = .bool false := by rw [e12, hx]
        clear e12
        have ey := hG14 hx
        clear hG14
        have ey : ρ 14 = .bool (b.free) := ey
        unfold Does
        go_simp
        exact ⟨show Value.bool _ = Value.bool (a.free || b.free) from by rw [hx]; rfl, HW.out, Below.refl _ _⟩
    · change StepOk _ _ _ _ _ _ _
      intro ρ w1 hF hW
      have HW := hidden hW
      clear hW
      have e9 : ρ 9 = .agg #[.int .u64 (word (fOr a.first b.first) 0), .int .u64 (word (fOr a.first b.first) 1), .int .u64 (word (fOr a.first b.first) 2), .int .u64 (word (fOr a.first b.first) 3), .int .u64 (word (fOr a.last b.last) 0), .int .u64 (word (fOr a.last b.last) 1), .int .u64 (word (fOr a.last b.last) 2), .int .u64 (word (fOr a.last b.last) 3)] := hF 9 (by decide)
      have e15 : ρ 15 = .bool (a.free || b.free) := hF 15 (by decide)
      clear hF
      unfold Does
      go_simp
      exact ⟨rfl, HW.out, Below.refl _ _⟩
end Go.Proofs.YtbokhofdgdcpdaaDoor
