/- FaLetE, FaLetD, put together. -/
import Derived.Test.YthkboclooplpeaaGreatDoorRf16
import Derived.Test.YthkboclooplpeaaGreatDoorRf17
import Derived.Test.YthkboclooplpeaaGreatDoorRf13
import Derived.Test.YthkboclooplpeaaGreatDoorRf04
/- Sets of first bytes and of bytes used, in memory: letters.orEmpty. -/
namespace Go.Proofs.YthkboclooplpeaaGreatDoor
open Go.RowKit Go.Lib Go.Joins
attribute [local go_sem] evalR_tmp evalR_const evalR_global evalR_func
set_option maxHeartbeats 2000000 in
set_option maxRecDepth 100000 in
theorem letEmpty_calls (a : Let) (w : World) : Calls Tryz.prog 90 #[letV a] w fun e w' => e = .returned (letV ⟨true, true, a.first, a.used⟩) ∧ Below w.heap.size w w' := by
  unfold letV
  go_enter Tryz.func90, Tryz.ntmps90
  go_wp2
  exact ret_let (l := ⟨true, true, a.first, a.used⟩) Tryz.results90 rfl rfl (heap_alloc2_new w _ _) ⟨rfl, ((Below.refl w.heap.size w).alloc (Nat.le_refl _) _).alloc (by simp) _⟩
end Go.Proofs.YthkboclooplpeaaGreatDoor

/- Sets of first bytes and of bytes used, in memory: the closures of lettersOf, and what all of them give as letE. -/
namespace Go.Proofs.YthkboclooplpeaaGreatDoor
open Go.RowKit Go.Lib Go.Joins
attribute [local go_sem] evalR_tmp evalR_const evalR_global evalR_func
theorem none_sameL (f : Nat → Bool) : sameSet f fNone = noneF f := by
  rw [Bool.eq_iff_iff, same_iff, noneF_iff]
  rfl
set_option maxHeartbeats 2000000 in
set_option maxRecDepth 100000 in
theorem letEmp_calls (w : World) : Calls Tryz.prog 87 #[] w fun e w' => e = .returned (letV ⟨true, true, fNone, fNone⟩) ∧ Below w.heap.size w w' := by
  have hl : LetAt (w.alloc (.cells #[.bool true, .bool true, .int .u64 0, .int .u64 0, .int .u64 0, .int .u64 0, .int .u64 0, .int .u64 0, .int .u64 0, .int .u64 0] 66)) w.heap.size ⟨true, true, fNone, fNone⟩ := by
    unfold LetAt
    simp only [word_zero]
    exact heap_alloc_new w _
  have HL := hidden hl
  clear hl
  generalize hv : letV ⟨true, true, fNone, fNone⟩ = v
  have HV := hidden hv
  clear hv
  go_enter Tryz.func87, Tryz.ntmps87
  go_wp2
  exact ret_let (l := ⟨true, true, fNone, fNone⟩) Tryz.results87 rfl rfl HL.out ⟨by rw [HV.out], (Below.refl w.heap.size w).alloc (Nat.le_refl _) _⟩
set_option maxHeartbeats 2000000 in
set_option maxRecDepth 100000 in
theorem letSame_calls (a : Let) (w : World) : Calls Tryz.prog 91 #[letV a] w fun e w' => e = .returned (letV a) ∧ Below w.heap.size w w' := by
  unfold letV
  go_enter Tryz.func91, Tryz.ntmps91
  go_wp2
  exact ret_let (l := a) Tryz.results91 rfl rfl (heap_alloc2_new w _ _) ⟨rfl, ((Below.refl w.heap.size w).alloc (Nat.le_refl _) _).alloc (by simp) _⟩
set_option maxHeartbeats 2000000 in
set_option maxRecDepth 100000 in
theorem letSet_calls (f : Nat → Bool) (w : World) : Calls Tryz.prog 86 #[(.agg #[.int .u64 (word (f) 0), .int .u64 (word (f) 1), .int .u64 (word (f) 2), .int .u64 (word (f) 3)])] w fun e w' => e = .returned (letV ⟨!noneF f, false, f, f⟩) ∧ Below w.heap.size w w' := by
  have hq := fun w => eq_none w f
  simp only [none_sameL] at hq
  obtain ⟨x, hx⟩ : ∃ x, x = noneF f := ⟨_, rfl⟩
  rw [← hx]
  simp only [← hx] at hq
  clear hx
  unfold letV
  go_enter Tryz.func86, Tryz.ntmps86
  go_wp2
  go_region
  go_wp2
  exact ret_let (l := ⟨!x, false, f, f⟩) Tryz.results86 rfl rfl (show LetAt (World.drew _) _ _ from heap_alloc2_new w _ _) ⟨rfl, (((Below.refl w.heap.size w).alloc (Nat.le_refl _) _).alloc (by simp) _).drew⟩
theorem any_two (f g : Nat → Bool) : fAny [f, g] = f2 f g := by
  funext n
  simp [fAny, f2]
/-- what letters.then gives -/
def thenL (a b : Let) : Let := if a.some = true ∧ b.some = true then ⟨true, a.null && b.null, if a.null = true then f2 a.first b.first else a.first, f2 a.used b.used⟩ else ⟨false, false, fNone, fNone⟩
theorem letThen_calls (a b : Let) (w : World) : Calls Tryz.prog 88 #[letV a, letV b] w fun e w' => e = .returned (letV (thenL a b)) ∧ Below w.heap.size w w' := by
  by_cases h : a.some = true ∧ b.some = true
  · have hc := letThen_both a b w h.1 h.2 (if a.null = true then f2 a.first b.first else a.first) (by rw [any_two])
    rw [any_two] at hc
    unfold thenL
    rw [if_pos h]
    exact hc
  · unfold thenL
    rw [if_neg h]
    refine letThen_none a b w ?_
    cases ha : a.some with
    | false => exact .inl rfl
    | true =>
      cases hb : b.some with
      | false => exact .inr ⟨rfl, rfl⟩
      | true => exact absurd ⟨ha, hb⟩ h
theorem let_cat (a b : Ex) : letE (.cat a b) = thenL (letE a) (letE b) := rfl
theorem letAlt_calls (a b : Ex) (w : World) : Calls Tryz.prog 89 #[letV (letE a), letV (letE b)] w fun e w' => e = .returned (letV (letE (.alt a b))) ∧ Below w.heap.size w w' := by
  have hc := letOr_calls (letE a) (letE b) w
  rw [any_two, any_two] at hc
  exact hc
end Go.Proofs.YthkboclooplpeaaGreatDoor
