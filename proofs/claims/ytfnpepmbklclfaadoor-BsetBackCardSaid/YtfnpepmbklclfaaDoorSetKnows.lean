/- The chapter's examples, as the statements ask them ('knows'). -/
import Derived.Test.YtfnpepmbklclfaaDoorSetSame
namespace Go.Proofs.YtfnpepmbklclfaaDoor
open Go.RowKit

def exampleSet : Nat → Bool := fAny [fSpan 97 99, fOne 120]
theorem example_runs : runs exampleSet = [(97, 99), (120, 120)] := by decide +kernel
theorem example_count : (elems exampleSet).length = 4 := by decide +kernel
theorem first_none (w : World) (ht : Tab w) : Calls Tryd.prog 28 #[.agg #[.int .u64 0, .int .u64 0, .int .u64 0, .int .u64 0]] w fun e w' => e = .returned (.int .i64 (-1)) ∧ Below w.heap.size w w' := by
  have h := first_calls fNone w ht
  simp only [word_none] at h
  rw [firstOf_none (f := fNone) fun _ _ => rfl] at h
  exact h
theorem Tab.alloc {w : World} (h : Tab w) (o : Obj) : Tab (w.alloc o) := h.below ((Below.refl w.heap.size w).alloc (Nat.le_refl _) o)
/-- a literal of sets, as it is laid into memory -/
theorem sets_two (w : World) (f g : Nat → Bool) (t : TypeId) : Sets (w.alloc (.cells #[.int .u64 (word (f) 0), .int .u64 (word (f) 1), .int .u64 (word (f) 2), .int .u64 (word (f) 3), .int .u64 (word (g) 0), .int .u64 (word (g) 1), .int .u64 (word (g) 2), .int .u64 (word (g) 3)] t)) (some ⟨w.heap.size, 0, none⟩) 2 [f, g] := by
  refine ⟨rfl, fun _ => ⟨_, 0, rfl, by simp, fun i hi j hj => ?_⟩⟩
  rw [World.cell?_alloc_at _ _ _ _ rfl]
  match i, hi, j, hj with
  | 0, _, 0, _ | 0, _, 1, _ | 0, _, 2, _ | 0, _, 3, _ | 1, _, 0, _ | 1, _, 1, _ | 1, _, 2, _ | 1, _, 3, _ => rfl
theorem pairs_two (w : World) (a b c d : Nat) (t : TypeId) : Pairs (w.alloc (.cells #[.int .i64 a, .int .i64 b, .int .i64 c, .int .i64 d] t)) (some ⟨w.heap.size, 0, none⟩) [(a, b), (c, d)] := by
  refine fun _ => ⟨_, rfl, by simp, fun i hi => ?_⟩
  rw [World.cell?_alloc_at _ _ _ _ rfl, World.cell?_alloc_at _ _ _ _ rfl]
  match i, hi with
  | 0, _ | 1, _ => exact ⟨rfl, rfl⟩

set_option maxHeartbeats 1000000 in
set_option maxRecDepth 100000 in
theorem knows_calls (w : World) (ht : Tab w) :
    Calls Tryd.prog 12 #[] w fun e w' => e = .returned (.bool true) ∧ Below w.heap.size w w' := by
  have HT := hidden ht
  clear ht
  go_enter Tryd.func12, Tryd.ntmps12
  go_wp2_with fail
  refine (span_calls 97 99 _).mono ?_
  rintro e w1 ⟨rfl, hb1⟩
  go_wp2_with fail
  refine (one_calls 120 _ (by omega) (by omega)).mono ?_
  rintro e w2 ⟨rfl, hb2⟩
  rw [show (120 : Int).toNat = 120 from rfl]
  go_wp2_with fail
  refine (all_calls _ 2 2 [fSpan 97 99, fOne 120] _ (by omega) (sets_two w2 _ _ _)).mono ?_
  rintro e w3 ⟨rfl, hb3⟩
  rw [show fAny [fSpan 97 99, fOne 120] = exampleSet from rfl]
  have HB3 := hidden (below_after (below_after hb1 hb2) (below_then ((Below.refl w2.heap.size w2).alloc (Nat.le_refl _) _) (by simp) hb3))
  have HT3 := hidden (HT.out.below HB3.out)
  clear hb1 hb2 hb3
  go_wp2_with fail
  refine (runs_calls exampleSet _ (HT3.out.alloc _)).mono ?_
  rintro e w4 ⟨v, rfl, hown, hb4⟩
  rw [example_runs] at hown
  obtain ⟨a1, c1, rfl, _, hp⟩ := pairs_of_row hown
  have HP := hidden hp
  have HS4 := hidden ((SetAt.new w3 exampleSet).below hb4)
  have HB4 := hidden (below_then (HB3.out.alloc HB3.out.size (.cells #[.int .u64 (word (exampleSet) 0), .int .u64 (word (exampleSet) 1), .int .u64 (word (exampleSet) 2), .int .u64 (word (exampleSet) 3)] 24)) (by have := HB3.out.size; simp; omega) hb4)
  have HT4 := hidden (HT.out.below HB4.out)
  clear hown hb4 hp
  go_wp2_with fail
  refine (sameRuns_calls a1 _ c1 2 [(97, 99), (120, 120)] _ (by decide) (HP.out.below ((Below.refl w4.heap.size w4).alloc (Nat.le_refl _) _)) (pairs_two w4 97 99 120 120 _)).mono ?_
  rintro e w5 ⟨rfl, hb5⟩
  have HS5 := hidden ((HS4.out.alloc _).below hb5)
  have HB5 := hidden (below_then (HB4.out.alloc HB4.out.size (.cells #[.int .i64 97, .int .i64 99, .int .i64 120, .int .i64 120] 44)) (by have := HB4.out.size; simp; omega) hb5)
  have HT5 := hidden (HT.out.below HB5.out)
  clear hb5
  go_wp2_with fail
  refine (first_none _ HT5.out).mono ?_
  rintro e w6 ⟨rfl, hb6⟩
  have hS6 := HS5.out.below hb6
  have HB6 := hidden (below_after HB5.out hb6)
  clear hb6
  obtain ⟨c0, c1, c2, c3, _, _, _, _⟩ := hS6.facts
  clear hS6
  go_wp2_with fail
  refine (count_calls exampleSet _).mono ?_
  rintro e w7 ⟨rfl, hb7⟩
  rw [count_words, example_count]
  have HB7 := hidden (below_after HB6.out hb7)
  clear hb7
  go_wp2
  go_ret
  exact ⟨rfl, HB7.out⟩
end Go.Proofs.YtfnpepmbklclfaaDoor
