/- TypedG, TypedL, SpPart, SpThen, put together. -/
import Derived.Test.YtmpjjnjggihojaaGreatDoorDf02
import Derived.Test.YtmpjjnjggihojaaGreatDoorDf08
import Derived.RangeFuncBox
import Derived.Laws.MakeOwn
import Derived.Lib.SmallJoins
import Derived.Laws.CopyRow
/- A region that draws its order, met operation by operation, with guards of any value. -/
namespace Go.Proofs.YtmpjjnjggihojaaGreatDoor
open Go.RowKit

section
variable {P : Program} {ops : Array Oper} {Q : Exit → Act → World → Prop} {T : Nat → Value → World → Prop} {W : World → Prop} {a0 : Act}
/-- one operation, guarded or not: what its guard holds is known; where it is passed over, its slot may hold nothing -/
def StepG (P : Program) (ops : Array Oper) (a0 : Act) (T : Nat → Value → World → Prop) (W : World → Prop) (j : Nat) (o : Oper) : Prop :=
  match o.guard with
  | none => StepOk P ops a0 T W j o
  | some (g, b) => ∃ x : Bool, (∀ v w, T g v w → v = .bool x) ∧ (x = b → StepOk P ops a0 T W j o) ∧ (x ≠ b → ∀ w, T j undef w)
theorem stepG_op {j : Nat} {o : Oper} {a : Act} {w1 : World} (hcov : covered ops = true) (hs : Region.noSelect ops = true) (ho : ops[j]? = some o) (hst : Still ops a0 a) (ha : Ahead ops T o a w1) (hW : W w1) (hst1 : StepG P ops a0 T W j o) : wpOp P ops Q j (Leaves T W j o a w1) a w1 := by
  have hc := Array.all_eq_true_iff_forall_mem.1 hcov o (Array.mem_of_getElem? ho)
  simp only [Bool.and_eq_true] at hc
  have wait : ∀ i d, waits o i = true → (ops[i]?).bind (·.dst) = some d → T i (a.tmps.getD d undef) w1 := fun i d hwt hd => by
    unfold waits at hwt
    obtain ⟨e, he, h1⟩ := Array.any_eq_true'.1 hwt
    simp only [Bool.and_eq_true, beq_iff_eq] at h1
    obtain ⟨rfl, h2⟩ := h1
    exact ha e he h2 d hd
  have facts : ∀ t ∈ reads o, Fact ops a0 T t (a.tmps.getD t undef) w1 := fun t ht => by
    have h1 := List.all_eq_true.1 hc.1 t ht
    unfold Fact
    cases hsrc : srcOf ops t with
    | none =>
      refine hst.slot t ?_
      rw [Array.all_eq_true_iff_forall_mem]
      intro o' ho'
      obtain ⟨i, hi, rfl⟩ := Array.mem_iff_getElem.1 ho'
      unfold srcOf at hsrc
      have := List.find?_eq_none.1 hsrc i (List.mem_range.2 hi)
      rw [Array.getElem?_eq_getElem hi] at this
      simpa using this
    | some i =>
      rw [hsrc] at h1
      refine wait i t h1 ?_
      unfold srcOf at hsrc
      simpa using List.find?_some hsrc
  have run : Region.wanted o (yielded ops a.tmps) = true → StepOk P ops a0 T W j o → wpOp P ops Q j (Leaves T W j o a w1) a w1 := fun hg hst2 =>
    does_wpOp ho (fun cs b => Region.noSelect_spec hs j o cs b ho) (ρ := fun t => a.tmps.getD t undef) (fun t _ => rfl) hg (hst2 _ w1 facts hW)
  cases hgd : o.guard with
  | none =>
    unfold StepG at hst1
    rw [hgd] at hst1
    exact run (by unfold Region.wanted; rw [hgd]) hst1
  | some gb =>
    obtain ⟨g, b⟩ := gb
    unfold StepG at hst1
    rw [hgd] at hst1
    obtain ⟨x, hx, h1, h2⟩ := hst1
    have hc2 := hc.2
    rw [hgd] at hc2
    simp only [Bool.and_eq_true] at hc2
    obtain ⟨d, hd⟩ := Option.isSome_iff_exists.1 hc2.2
    have hv := hx _ _ (wait g d hc2.1 hd)
    have hy : yielded ops a.tmps g = some x := by
      unfold yielded
      rw [hd]
      simp only [Option.bind_some]
      rcases Nat.lt_or_ge d a.tmps.size with h | h
      · simp only [Array.getD_eq_getD_getElem?, Array.getElem?_eq_getElem h, Option.getD_some] at hv
        rw [Array.getElem?_eq_getElem h, hv]
      · simp only [Array.getD_eq_getD_getElem?, Array.getElem?_eq_none h, Option.getD_none] at hv
        cases hv
    by_cases hxb : x = b
    · refine run ?_ (h1 hxb)
      unfold Region.wanted
      rw [hgd]
      show (yielded ops a.tmps g == some b) = true
      rw [hy, hxb]
      simp
    · unfold wpOp
      have hnw : Region.wanted o (yielded ops a.tmps) = false := by
        unfold Region.wanted
        rw [hgd]
        show (yielded ops a.tmps g == some b) = false
        rw [hy]
        simpa using hxb
      simp only [ho, hnw, Bool.false_eq_true, if_false]
      exact ⟨undef, rfl, fun _ => h2 hxb w1, hW, Below.refl _ _⟩
end
end Go.Proofs.YtmpjjnjggihojaaGreatDoor

/- A region that draws its order and ends with an operation that waits for all others (a store): the others met by themselves, the last one where all are done. -/
namespace Go.Proofs.YtmpjjnjggihojaaGreatDoor
open Go.RowKit

section
variable {P : Program} {ops : Array Oper} {Q : Exit → Act → World → Prop} {T : Nat → Value → World → Prop} {W : World → Prop} {a0 : Act}
theorem wpOp_of_list {m : Nat} {o : Oper} {a : Act} {w : World} (ho : ops[m]? = some o) (hg : o.guard = none) (h : wpList P ops Q [o] a w) : wpOp P ops Q m (fun a' w' => Q .normal a' w') a w := by
  unfold wpOp
  rw [ho]
  have hn : Region.wanted o (yielded ops a.tmps) = true := by unfold Region.wanted; rw [hg]
  unfold wpList at h
  simp only [hn, if_true] at h ⊢
  exact h
theorem ready_all {listed : Array Bool} (h : ∀ j, j < ops.size → listed.getD j true = true) : Region.ready .any ops listed = [] := by
  rw [Region.ready, List.filter_eq_nil_iff]
  intro i hi
  rw [h i (List.mem_range.1 hi)]
  simp
end
end Go.Proofs.YtmpjjnjggihojaaGreatDoor

/- Parts and their spots in memory; contracts of orNone, single, beside, or. -/
namespace Go.Proofs.YtmpjjnjggihojaaGreatDoor
open Go.RowKit Go.Lib Go.Joins

/-- what is known of a part of an expression -/
structure Prt where
  first : Nat → Bool
  last : Nat → Bool
  free : Bool
/-- a struct that is stored whole in a block of its own type -/
theorem store_row {ops : Array Oper} {rest : List Oper} {o : Oper} {a : Act} {w : World} {Q : Exit → Act → World → Prop} (hgd : o.guard = none) {ty : TypeId} {x y : Operand} (ho : o.op = .store ty x y)
    {B : Nat} {cs old : Array Value} {t : TypeId} (hx : a.eval x = .pointer (some ⟨B, 0, none⟩)) (hy : a.eval y = .agg cs) (hg : w.heap[B]? = some (.cells old t (0, 0))) (n : Nat) (hi : (Tryz.prog.info? ty).map (·.size) = some n)
    (hold : old.size = n) (hcs : cs.size = n) (h1 : cs.all (·.oneCell') = true) (h : ∀ w', w'.heap[B]? = some (.cells cs t (0, 0)) → w.grownBy w' (some B) → wpList Tryz.prog ops Q rest (a.put o.dst undef) w') : wpList Tryz.prog ops Q (o :: rest) a w :=
  wpList_store_row hgd ty x y ho B cs hx hy t old hg (by rw [hcs]; exact hi) (by rw [hcs]; exact hold) h1 (h _ (setRow_heap w B _ _ t _ hg) ⟨rfl, rfl, rfl, by simp, fun k _ hk => setRow_other w B k cs (by simpa using hk)⟩)
attribute [local go_sem] evalR_tmp evalR_const evalR_global evalR_func
end Go.Proofs.YtmpjjnjggihojaaGreatDoor

/- Contract of part.then. -/
namespace Go.Proofs.YtmpjjnjggihojaaGreatDoor
open Go.RowKit Go.Lib Go.Joins

attribute [local go_sem] evalR_tmp evalR_const evalR_global evalR_func
end Go.Proofs.YtmpjjnjggihojaaGreatDoor
