/- Slices of numbers as they come in; a literal of numbers; what every statement knows besides; what the stage's theorem holds. -/
import Derived.Test.YtbnohmbdfcapkaaDoorMaRef2
import Derived.Test.YtbnohmbdfcapkaaDoorMaAsk
namespace Go.Proofs.YtbnohmbdfcapkaaDoor
open Go.RowKit Go.Lib Go.Joins

theorem lit_z {w1 : World} {cur : Array Value} {l : List Int} (b : Nat) (hb : b = w1.heap.size) (hc : cur.toList = l.map (Value.int .i64)) (hl : l.length ≤ 1000) (n : Nat) (hn : n = l.length) : RdZ (w1.alloc (.cells cur 3)).heap.size (w1.alloc (.cells cur 3)) (.slice (some ⟨b, 0, none⟩) n n) l := by
  subst hb hn
  refine ⟨_, _, rfl, Nat.le_refl _, by unfold maxLen; omega, (fun e => by cases e), fun _ => ⟨w1.heap.size, 0, rfl, by simp, fun i hi => ?_⟩⟩
  rw [Nat.zero_add, cell_of_row _ _ i _ _ _ (heap_alloc_new w1 _), ← Array.getElem?_toList, hc, List.getElem?_map, List.getD_eq_getElem?_getD, List.getElem?_eq_getElem hi]
  rfl
theorem k_of : ofV [3, 1, 3] = [1, 3] := by decide +kernel
theorem k_up1 : Up [1, 2, 3] := by decide
theorem k_up2 : Up [2, 5] := by decide
theorem k_less : pickV (fun k => k == 0) (evs [1, 2, 3] [2, 5]) = [1, 3] := by rw [less_eq k_up1 k_up2]; decide
set_option maxHeartbeats 2000000 in
set_option maxRecDepth 100000 in
theorem knows_calls (w : World) : Calls Tryd.prog 4 #[] w fun e w' => e = .returned (.bool true) ∧ Below w.heap.size w w' := by
  go_enter Tryd.func4, Tryd.ntmps4
  go_wp2_with fail
  refine (of_calls _ _ [3, 1, 3] (lit_z _ rfl rfl (by decide) 3 rfl) (by decide)).mono ?_
  rintro e w1 ⟨v1, rfl, hr1, hb1⟩
  rw [k_of] at hr1
  have HB1 := hidden (below_then ((Below.refl w.heap.size w).alloc (Nat.le_refl _) _) (by simp) hb1)
  have HR1 := hidden hr1.reads
  obtain ⟨a1, c1, rfl⟩ := hr1.form
  clear hr1 hb1
  go_wp2_with fail
  refine (rsame_calls (HR1.out.later ((Below.refl _ _).alloc (Nat.le_refl _) _)) (lit_z (l := [1, 3]) _ rfl rfl (by decide) 2 rfl)).mono ?_
  rintro e w2 ⟨rfl, hb2⟩
  rw [show decide (([1, 3] : List Int) = [1, 3]) = true from rfl]
  have HB2 := hidden (below_then (HB1.out.alloc HB1.out.size (.cells #[.int .i64 1, .int .i64 3] 3)) (by have := HB1.out.size; simp; omega) hb2)
  clear hb2
  go_wp2_with fail
  refine (les_calls _ _ _ [1, 2, 3] [2, 5] ((lit_z (w1 := w2) (l := [1, 2, 3]) w2.heap.size rfl rfl (by decide) 3 rfl).later ((Below.refl _ _).alloc (Nat.le_refl _) _)) (lit_z (l := [2, 5]) _ (by simp) rfl (by decide) 2 rfl) (by decide)).mono ?_
  rintro e w3 ⟨v3, rfl, hr3, hb3⟩
  rw [k_less] at hr3
  have HB3 := hidden (below_then ((HB2.out.alloc HB2.out.size (.cells #[.int .i64 1, .int .i64 2, .int .i64 3] 3)).alloc (by have := HB2.out.size; simp; omega) (.cells #[.int .i64 2, .int .i64 5] 3)) (by have := HB2.out.size; simp; omega) hb3)
  have HR3 := hidden hr3.reads
  obtain ⟨a3, c3, rfl⟩ := hr3.form
  clear hr3 hb3
  go_wp2_with fail
  refine (rsame_calls (HR3.out.later ((Below.refl _ _).alloc (Nat.le_refl _) _)) (lit_z (l := [1, 3]) _ rfl rfl (by decide) 2 rfl)).mono ?_
  rintro e w4 ⟨rfl, hb4⟩
  rw [show decide (([1, 3] : List Int) = [1, 3]) = true from rfl]
  have HB4 := hidden (below_then (HB3.out.alloc HB3.out.size (.cells #[.int .i64 1, .int .i64 3] 3)) (by have := HB3.out.size; simp; omega) hb4)
  clear hb4
  go_wp2
  go_ret
  exact ⟨rfl, HB4.out⟩
theorem within_iff {a b : List Int} (ha : Up a) (hb : Up b) : (pickV (fun k => k == 0) (evs a b)).isEmpty = true ↔ ∀ x ∈ a, x ∈ b := by
  rw [List.isEmpty_iff, List.eq_nil_iff_forall_not_mem]
  constructor
  · intro h x hx
    apply Decidable.by_contra
    intro hn
    exact h x ((pick_mem ha hb x).2 (.inl ⟨rfl, hx, hn⟩))
  · intro h x hx
    rcases (pick_mem ha hb x).1 hx with ⟨_, h1, h2⟩ | ⟨h1, _⟩ | ⟨h1, _⟩
    · exact h2 (h x h1)
    · cases h1
    · cases h1
theorem pick_yes (p : Nat → Bool) (k : Nat) (hk : p k = true) : ∀ b : List Int, pickV p (b.map fun y => (k, y)) = b
  | [] => rfl
  | y :: b => by
    have := pick_yes p k hk b
    unfold pickV at *
    rw [List.map_cons, List.filter_cons, if_pos hk, List.map_cons, this]
theorem pick_no (p : Nat → Bool) (k : Nat) (hk : p k = false) : ∀ b : List Int, pickV p (b.map fun y => (k, y)) = []
  | [] => rfl
  | y :: b => by
    have := pick_no p k hk b
    unfold pickV at *
    rw [List.map_cons, List.filter_cons, if_neg (by simp [hk]), this]
theorem evs_count : ∀ (n : Nat) (a b : List Int), a.length + b.length ≤ n → (pickV (fun _ => true) (evs a b)).length + (pickV (fun k => k == 1) (evs a b)).length = a.length + b.length
  | _, [], b, _ => by rw [evs_nil, pick_yes _ 2 rfl, pick_no _ 2 rfl]; simp
  | _, x :: a, [], _ => by rw [evs_none, pick_yes _ 0 rfl, pick_no _ 0 rfl]
  | 0, x :: a, y :: b, h => by simp at h
  | n + 1, x :: a, y :: b, h => by
    simp only [List.length_cons] at h
    rcases Int.lt_trichotomy x y with hxy | rfl | hxy
    · have := evs_count n a (y :: b) (by simp only [List.length_cons]; omega)
      rw [evs_lt hxy]
      simp [pickV] at this ⊢
      omega
    · have := evs_count n a b (by omega)
      rw [evs_eq]
      simp [pickV] at this ⊢
      omega
    · have := evs_count n (x :: a) b (by simp only [List.length_cons]; omega)
      rw [evs_gt hxy]
      simp [pickV] at this ⊢
      omega
def unV (a b : List Int) : List Int := pickV (fun _ => true) (evs a b)
def coV (a b : List Int) : List Int := pickV (fun k => k == 1) (evs a b)
def leV (a b : List Int) : List Int := pickV (fun k => k == 0) (evs a b)
section
variable {a b : List Int} (ha : Up a) (hb : Up b)
include ha hb
theorem un_up : Up (unV a b) := pick_up ha hb
theorem co_up : Up (coV a b) := pick_up ha hb
theorem le_up : Up (leV a b) := pick_up ha hb
theorem un_mem (x : Int) : x ∈ unV a b ↔ x ∈ a ∨ x ∈ b := by
  unfold unV
  rw [pick_mem ha hb]
  by_cases h1 : x ∈ a <;> by_cases h2 : x ∈ b <;> simp [h1, h2]
theorem co_mem (x : Int) : x ∈ coV a b ↔ x ∈ a ∧ x ∈ b := by
  unfold coV
  rw [pick_mem ha hb]
  simp
theorem le_mem (x : Int) : x ∈ leV a b ↔ x ∈ a ∧ x ∉ b := by
  unfold leV
  rw [pick_mem ha hb]
  simp
theorem co_le : unV (coV a b) (leV a b) = a := up_ext (un_up (co_up ha hb) (le_up ha hb)) ha fun x => by
  rw [un_mem (co_up ha hb) (le_up ha hb), co_mem ha hb, le_mem ha hb]
  by_cases h1 : x ∈ a <;> by_cases h2 : x ∈ b <;> simp [h1, h2]
theorem un_turn : unV a b = unV b a := up_ext (un_up ha hb) (un_up hb ha) fun x => by rw [un_mem ha hb, un_mem hb ha, or_comm]
theorem co_turn : coV a b = coV b a := up_ext (co_up ha hb) (co_up hb ha) fun x => by rw [co_mem ha hb, co_mem hb ha, and_comm]
theorem un_in : (leV a (unV a b)).isEmpty = true := (within_iff ha (un_up ha hb)).2 fun x hx => (un_mem ha hb x).2 (.inl hx)
theorem co_in : (leV (coV a b) b).isEmpty = true := (within_iff (co_up ha hb) hb).2 fun x hx => ((co_mem ha hb x).1 hx).2
end
theorem un_len (a b : List Int) : (unV a b).length + (coV a b).length = a.length + b.length := evs_count _ a b (Nat.le_refl _)
open Go.ChangeShapes Go.WideShapes Go.ChangeAt in
theorem open_zs {H : Type} {enc : TypeId × Value → H} {W : World} {a : Option Addr} {len cap : Nat} {d : DataW H} {p : List MemPlace}
    (h : DataW.Trod enc Tryd.prog W 0 (fun _ => true) true 22 (.slice a len cap) d p) : ∃ l, RdZ W.heap.size W (.slice a len cap) l ∧ ∀ x ∈ l, -9223372036854775808 ≤ x ∧ x ≤ 9223372036854775807 := by
  obtain ⟨zs, ⟨h1, h2, hf, hI⟩, hz⟩ := open_slice_ints (k := .i64) Tryd.underlying22 Tryd.underlying3 (by kernel_rfl) h
  obtain ⟨rfl, hc⟩ := hI
  refine ⟨zs, ⟨a, cap, rfl, h1, h2, fun ha => ?_, hc⟩, fun x hx => ?_⟩
  · subst ha
    by_cases h0 : cap = 0
    · exact h0
    · exfalso
      obtain ⟨fuel, hf⟩ := h
      rcases open_ints Tryd.underlying22 Tryd.underlying3 (by kernel_rfl) hf with ⟨hcs, _⟩ | ⟨x, l, c, zs', hcs, _⟩
      · simp [Value.cells] at hcs
        omega
      · simp [Value.cells] at hcs
  · obtain ⟨i, hi, rfl⟩ := List.getElem_of_mem hx
    have := wf_i64 (hf i hi)
    rwa [List.getD_eq_getElem?_getD, List.getElem?_eq_getElem hi] at this
end Go.Proofs.YtbnohmbdfcapkaaDoor
