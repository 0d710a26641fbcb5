/- Bits, ElemMath, SpList, TypedG, put together. -/
import Derived.Test.YtnjjbaodfjmiaaaGreatLt09
import Derived.Laws.Bits64b
import Derived.Handy
import Derived.Laws.Bits128
import Derived.Laws.BitsLemmas
import Derived.Test.YtnjjbaodfjmiaaaGreatLt07
import Derived.Test.YtnjjbaodfjmiaaaGreatLt01
/- Contracts of math/bits.OnesCount64 and math/bits.TrailingZeros64 (the table of the second as it is laid). -/
namespace Go.Proofs.YtnjjbaodfjmiaaaGreat
open Go.RowKit

end Go.Proofs.YtnjjbaodfjmiaaaGreat

/- The elements of a set in their order, its least one, and its stretches: the mathematics, without the program. -/
namespace Go.Proofs.YtnjjbaodfjmiaaaGreat

/-! ### numbers and their bits -/
/-! ### sets -/
def elems (f : Nat → Bool) : List Nat := (List.range 256).filter f
theorem elems_le (f : Nat → Bool) : (elems f).length ≤ 256 := by
  have := List.length_filter_le f (List.range 256)
  simpa [elems] using this
/-! ### stretches -/
end Go.Proofs.YtnjjbaodfjmiaaaGreat

/- Contract of the list of a set of spots. -/
namespace Go.Proofs.YtnjjbaodfjmiaaaGreat
open Go.RowKit

def spI (L : List Nat) : List Int := L.map (fun n : Nat => (n : Int))
theorem spI_more (L : List Nat) (m : Nat) : spI (L ++ [m]) = spI L ++ [(m : Int)] := by simp [spI]
theorem spI_len (L : List Nat) : (spI L).length = L.length := by simp [spI]
attribute [irreducible] spI
end Go.Proofs.YtnjjbaodfjmiaaaGreat

/- A region that draws its order, met operation by operation, with guards of any value. -/
namespace Go.Proofs.YtnjjbaodfjmiaaaGreat
open Go.RowKit

section
variable {P : Program} {ops : Array Oper} {Q : Exit → Act → World → Prop} {T : Nat → Value → World → Prop} {W : World → Prop} {a0 : Act}
/-- one operation, guarded or not: what its guard holds is known; where it is passed over, its slot may hold nothing -/
def StepG (P : Program) (ops : Array Oper) (a0 : Act) (T : Nat → Value → World → Prop) (W : World → Prop) (j : Nat) (o : Oper) : Prop :=
  match o.guard with
  | none => StepOk P ops a0 T W j o
  | some (g, b) => ∃ x : Bool, (∀ v w, T g v w → v = .bool x) ∧ (x = b → StepOk P ops a0 T W j o) ∧ (x ≠ b → ∀ w, T j undef w)
theorem stepG_op {j : Nat} {o : Oper} {a : Act} {w1 : World} (hcov : covered ops = true) (hs : Region.noSelect ops = true) (ho : ops[j]? = some o) (hst : Still ops a0 a) (ha : Ahead ops T o a w1) (hW : W w1) (hst1 : StepG P ops a0 T W j o) : wpOp P ops Q j (Leaves T W j o a w1) a w1 := by
  have hc := Array.all_eq_true_iff_forall_mem.1 hcov o (Array.mem_of_getElem? ho)
  simp only [Bool.and_eq_true] at hc
  have wait : ∀ i d, waits o i = true → (ops[i]?).bind (·.dst) = some d → T i (a.tmps.getD d undef) w1 := fun i d hwt hd => by
    unfold waits at hwt
    obtain ⟨e, he, h1⟩ := Array.any_eq_true'.1 hwt
    simp only [Bool.and_eq_true, beq_iff_eq] at h1
    obtain ⟨rfl, h2⟩ := h1
    exact ha e he h2 d hd
  have facts : ∀ t ∈ reads o, Fact ops a0 T t (a.tmps.getD t undef) w1 := fun t ht => by
    have h1 := List.all_eq_true.1 hc.1 t ht
    unfold Fact
    cases hsrc : srcOf ops t with
    | none =>
      refine hst.slot t ?_
      rw [Array.all_eq_true_iff_forall_mem]
      intro o' ho'
      obtain ⟨i, hi, rfl⟩ := Array.mem_iff_getElem.1 ho'
      unfold srcOf at hsrc
      have := List.find?_eq_none.1 hsrc i (List.mem_range.2 hi)
      rw [Array.getElem?_eq_getElem hi] at this
      simpa using this
    | some i =>
      rw [hsrc] at h1
      refine wait i t h1 ?_
      unfold srcOf at hsrc
      simpa using List.find?_some hsrc
  have run : Region.wanted o (yielded ops a.tmps) = true → StepOk P ops a0 T W j o → wpOp P ops Q j (Leaves T W j o a w1) a w1 := fun hg hst2 =>
    does_wpOp ho (fun cs b => Region.noSelect_spec hs j o cs b ho) (ρ := fun t => a.tmps.getD t undef) (fun t _ => rfl) hg (hst2 _ w1 facts hW)
  cases hgd : o.guard with
  | none =>
    unfold StepG at hst1
    rw [hgd] at hst1
    exact run (by unfold Region.wanted; rw [hgd]) hst1
  | some gb =>
    obtain ⟨g, b⟩ := gb
    unfold StepG at hst1
    rw [hgd] at hst1
    obtain ⟨x, hx, h1, h2⟩ := hst1
    have hc2 := hc.2
    rw [hgd] at hc2
    simp only [Bool.and_eq_true] at hc2
    obtain ⟨d, hd⟩ := Option.isSome_iff_exists.1 hc2.2
    have hv := hx _ _ (wait g d hc2.1 hd)
    have hy : yielded ops a.tmps g = some x := by
      unfold yielded
      rw [hd]
      simp only [Option.bind_some]
      rcases Nat.lt_or_ge d a.tmps.size with h | h
      · simp only [Array.getD_eq_getD_getElem?, Array.getElem?_eq_getElem h, Option.getD_some] at hv
        rw [Array.getElem?_eq_getElem h, hv]
      · simp only [Array.getD_eq_getD_getElem?, Array.getElem?_eq_none h, Option.getD_none] at hv
        cases hv
    by_cases hxb : x = b
    · refine run ?_ (h1 hxb)
      unfold Region.wanted
      rw [hgd]
      show (yielded ops a.tmps g == some b) = true
      rw [hy, hxb]
      simp
    · unfold wpOp
      have hnw : Region.wanted o (yielded ops a.tmps) = false := by
        unfold Region.wanted
        rw [hgd]
        show (yielded ops a.tmps g == some b) = false
        rw [hy]
        simpa using hxb
      simp only [ho, hnw, Bool.false_eq_true, if_false]
      exact ⟨undef, rfl, fun _ => h2 hxb w1, hW, Below.refl _ _⟩
theorem wp_region_stepsG {id : Nat} {w : World} (T : Nat → Value → World → Prop) (W : World → Prop) (hm : P.follows .mixedOrders = true) (hw : wellOrdered ops a0.tmps.size = true) (hcov : covered ops = true) (hs : Region.noSelect ops = true)
    (hT : ∀ j v w w', T j v w → Below w.heap.size w w' → T j v w') (h0 : W w.drew)
    (steps : Steps (StepG P ops a0 T W) 0 ops.toList)
    (fin : ∀ a w, Still ops a0 a → (∀ j d, (ops[j]?).bind (·.dst) = some d → T j (a.tmps.getD d undef) w) → W w → Q .normal a w) :
    (Code.region id ops true).wp P Q a0 w := by
  refine wp_region_typed T W hm hw hT h0 (fun j o ho a w1 hst ha hW => ?_) fin
  have hst1 := steps.at j o (by simpa using ho)
  rw [Nat.zero_add] at hst1
  exact stepG_op hcov hs ho hst ha hW hst1
end
end Go.Proofs.YtnjjbaodfjmiaaaGreat
