/- The stretches of a set come to it again, do not touch, and have as many bytes as it has: the mathematics, without the program. -/
import Derived.Test.YtfnpepmbklclfaaDoorSetKnows
namespace Go.Proofs.YtfnpepmbklclfaaDoor

def spanOf (p : Nat × Nat) : Nat → Bool := fSpan p.1 p.2
def sumOf (L : List (Nat × Nat)) : Nat := (L.map fun p => p.2 - p.1 + 1).sum
structure Back (f : Nat → Bool) : Prop where
  chain : ∀ i, i + 1 < (runs f).length → ((runs f).getD i (0, 0)).2 + 2 ≤ ((runs f).getD (i + 1) (0, 0)).1
  union : ∀ n, n < 256 → fAny ((runs f).map spanOf) n = f n
  sum : sumOf (runs f) = (elems f).length
theorem runs_mem {f : Nat → Bool} {p : Nat × Nat} (h : p ∈ runs f) : p.1 < 256 ∧ f p.1 = true ∧ p.2 = lastR f p.1 := by
  unfold runs at h
  obtain ⟨b, hb, rfl⟩ := List.mem_map.1 h
  obtain ⟨h1, h2⟩ := List.mem_filter.1 hb
  refine ⟨List.mem_range.1 h1, ?_, rfl⟩
  unfold start at h2
  simp at h2
  exact h2.1
theorem runs_le2 {f : Nat → Bool} {p : Nat × Nat} (h : p ∈ runs f) : p.1 ≤ p.2 ∧ p.2 < 256 := by
  obtain ⟨h1, h2, h3⟩ := runs_mem h
  have := lastR_spec f 255 p.1 (by omega) h1 h2
  rw [h3]
  exact ⟨this.1, this.2.1⟩
theorem count_span (a b : Nat) (hab : a ≤ b) : ∀ m, (List.range m).countP (fun n => decide (a ≤ n) && decide (n ≤ b)) = min (b + 1) m - a
  | 0 => by simp
  | m + 1 => by
    rw [List.range_succ, List.countP_append, count_span a b hab m, List.countP_singleton]
    by_cases h : a ≤ m ∧ m ≤ b
    · simp [h.1, h.2]
      omega
    · have : (decide (a ≤ m) && decide (m ≤ b)) = false := by
        rw [Bool.eq_false_iff]
        simp
        omega
      rw [this]
      simp
      omega
theorem elems_split (f : Nat → Bool) (a b : Nat) (hab : a ≤ b) (hb : b < 256) (h : ∀ n, a ≤ n → n ≤ b → f n = true) : (elems f).length = (b - a + 1) + (elems (without f a b)).length := by
  unfold elems
  rw [← List.countP_eq_length_filter, ← List.countP_eq_length_filter, List.countP_eq_countP_filter_add _ f (fun n => decide (a ≤ n) && decide (n ≤ b)), List.countP_filter, List.countP_filter]
  have e1 : (List.range 256).countP (fun n => f n && (decide (a ≤ n) && decide (n ≤ b))) = b - a + 1 := by
    have : (List.range 256).countP (fun n => f n && (decide (a ≤ n) && decide (n ≤ b))) = (List.range 256).countP (fun n => decide (a ≤ n) && decide (n ≤ b)) := by
      refine List.countP_congr fun n _ => ?_
      simp
      intro h1 h2
      exact h n h1 h2
    rw [this, count_span a b hab 256]
    omega
  rw [e1]
  rfl
theorem back : ∀ (m : Nat) (f : Nat → Bool), (elems f).length ≤ m → Back f
  | m, f, hm => by
    by_cases hn : ∀ n, n < 256 → f n = false
    · have hr := runs_none hn
      refine ⟨fun i hi => by rw [hr] at hi; simp at hi, fun n h => by rw [hr, hn n h]; rfl, ?_⟩
      have : elems f = [] := by
        rw [elems, List.filter_eq_nil_iff]
        intro a ha
        rw [hn a (List.mem_range.1 ha)]
        simp
      rw [hr, this]
      rfl
    · obtain ⟨a, ha, hfa, hmin, _⟩ := least f hn
      obtain ⟨h1, h2, h3, h4⟩ := lastR_spec f 255 a (by omega) ha hfa
      have hstep := runs_step f a ha hfa hmin
      generalize hL : lastR f a = L at *
      have hfew : (elems (without f a L)).length < (elems f).length := fewer ha hfa hmin (by simp [without, h1]) fun n _ h => by
        simp [without] at h
        exact h.1
      match m, hm with
      | 0, hm => omega
      | m + 1, hm =>
        have ih := back m (without f a L) (by omega)
        have hfirst : ∀ p ∈ runs (without f a L), L + 2 ≤ p.1 := fun p hp => by
          obtain ⟨p1, p2, _⟩ := runs_mem hp
          simp only [without, Bool.and_eq_true, Bool.not_eq_true', Bool.and_eq_false_iff, decide_eq_false_iff_not] at p2
          obtain ⟨p2, p3⟩ := p2
          have c1 : ¬ p.1 < a := fun h => by
            rw [hmin _ h] at p2
            cases p2
          have c2 : p.1 ≠ L + 1 := fun h => by
            rw [h, h4 (by omega)] at p2
            cases p2
          omega
        refine ⟨fun i hi => ?_, fun n hn' => ?_, ?_⟩
        · rw [hstep] at hi ⊢
          cases i with
          | zero =>
            simp only [List.getD_cons_zero, List.getD_cons_succ]
            cases hr : runs (without f a L) with
            | nil => rw [hr] at hi; simp at hi
            | cons p r =>
              simp only [List.getD_cons_zero]
              exact hfirst p (by rw [hr]; exact List.mem_cons_self ..)
          | succ i =>
            simp only [List.getD_cons_succ]
            exact ih.chain i (by simpa using hi)
        · rw [hstep]
          have hu := ih.union n hn'
          simp only [fAny, List.map_cons, List.any_cons] at hu ⊢
          rw [hu]
          simp only [spanOf, fSpan, without]
          by_cases c : a ≤ n ∧ n ≤ L
          · rw [h3 n c.1 c.2]
            simp [c.1, c.2]
          · have e : (decide ((a : Int) ≤ (n : Int)) && decide ((n : Int) ≤ (L : Int))) = false := by
              rw [Bool.eq_false_iff]
              simp
              omega
            have e2 : (decide (a ≤ n) && decide (n ≤ L)) = false := by
              rw [Bool.eq_false_iff]
              simp
              omega
            rw [e, e2]
            simp
        · rw [hstep, elems_split f a L h1 h2 h3, ← ih.sum]
          simp [sumOf]
theorem back_all (f : Nat → Bool) : Back f := back _ f (Nat.le_refl _)
theorem sumOf_more (L : List (Nat × Nat)) (k : Nat) (h : k < L.length) : sumOf (L.take (k + 1)) = sumOf (L.take k) + ((L.getD k (0, 0)).2 - (L.getD k (0, 0)).1 + 1) := by
  unfold sumOf
  rw [List.take_succ_eq_append_getElem h, List.map_append, List.sum_append]
  simp only [List.map_cons, List.map_nil, List.sum_cons, List.sum_nil, List.getD_eq_getElem?_getD, List.getElem?_eq_getElem h, Option.getD_some, Nat.add_zero]
theorem sumOf_bound : ∀ (L : List (Nat × Nat)), (∀ p ∈ L, p.1 ≤ p.2 ∧ p.2 < 256) → sumOf L ≤ 256 * L.length
  | [], _ => by simp [sumOf]
  | p :: r, h => by
    have h1 := h p (List.mem_cons_self ..)
    have h2 := sumOf_bound r fun q hq => h q (List.mem_cons_of_mem _ hq)
    have e : sumOf (p :: r) = (p.2 - p.1 + 1) + sumOf r := by simp [sumOf]
    rw [e, List.length_cons]
    omega
end Go.Proofs.YtfnpepmbklclfaaDoor
