/- Contracts of the two functions that tell a set's least byte. -/
import Derived.Test.YtfnpepmbklclfaaDoorSetBytes
import Derived.Test.YtfnpepmbklclfaaDoorSetEq
namespace Go.Proofs.YtfnpepmbklclfaaDoor
open Go.RowKit

set_option maxRecDepth 100000 in
theorem first_calls (f : Nat → Bool) (w : World) (ht : Tab w) :
    Calls Tryd.prog 28 #[(.agg #[.int .u64 (word (f) 0), .int .u64 (word (f) 1), .int .u64 (word (f) 2), .int .u64 (word (f) 3)])] w fun e w' => e = .returned (.int .i64 (firstOf f)) ∧ Below w.heap.size w w' := by
  by_cases hn : ∀ n, n < 256 → f n = false
  · have hq := fun w => eq_none w f
    have hs : sameSet f fNone = true := same_of fun n h => by rw [hn n h]; rfl
    rw [hs] at hq
    have HF := hidden (firstOf_none hn)
    clear hn hs
    go_enter Tryd.func28, Tryd.ntmps28
    go_wp2
    go_ret
    exact ⟨ret_i HF.out.symm, by go_grown⟩
  · have hq := fun w => eq_none w f
    have hs : sameSet f fNone = false := by
      rw [Bool.eq_false_iff]
      exact fun h => hn fun n hn' => (same_iff f fNone).1 h n hn'
    rw [hs] at hq
    have hc : word f 0 ≠ 0 ∨ (word f 0 = 0 ∧ word f 1 ≠ 0) ∨ (word f 0 = 0 ∧ word f 1 = 0 ∧ word f 2 ≠ 0) ∨ (word f 0 = 0 ∧ word f 1 = 0 ∧ word f 2 = 0 ∧ word f 3 ≠ 0) := by
      simp [sameSet, word_none] at hs
      omega
    have HL := hidden (fun i => word_lt f i)
    have HF := hidden (firstOf_word f)
    have HT := hidden (ht.below ((Below.refl w.heap.size w).alloc (Nat.le_refl _) (.cells #[.int .u64 (word (f) 0), .int .u64 (word (f) 1), .int .u64 (word (f) 2), .int .u64 (word (f) 3)] 24)))
    have hk := fun i h => (Lib.lowest_bit 64 (word f i) h (word_lt f i)).2
    have HK := hidden hk
    clear ht hk hn hs
    rcases hc with h0 | ⟨h0, h1⟩ | ⟨h0, h1, h2⟩ | ⟨h0, h1, h2, h3⟩
    · have g0 : ((word f 0 : Int) == 0) = false := by simp; omega
      have hz := HK.out 0 h0
      have hv := HF.out 0 (by decide) (fun j hj => by
        match j, hj with
        | j, hj => omega) h0
      have H0 := hidden h0
      have HV := hidden hv
      clear hv h0
      go_enter Tryd.func28, Tryd.ntmps28
      go_wp2
      refine wp_loop_rounds 1 ?_
      rw [rounds_succ]
      go_wp2_with fail
      refine (tz_calls _ _ (HL.out 0) H0.out HT.out).mono ?_
      rintro e w' ⟨rfl, rfl⟩
      go_wp2
      go_ret
      refine ⟨ret_i ?_, by go_grown⟩
      rw [HV.out]
      simp
    · have g0 : ((word f 0 : Int) == 0) = true := by simp; omega
      have g1 : ((word f 1 : Int) == 0) = false := by simp; omega
      have hz := HK.out 1 h1
      have hv := HF.out 1 (by decide) (fun j hj => by
        match j, hj with
        | 0, _ => exact h0) h1
      have H0 := hidden h0
      have H1 := hidden h1
      have HV := hidden hv
      clear hv h0 h1
      go_enter Tryd.func28, Tryd.ntmps28
      go_wp2
      refine wp_loop_rounds 2 ?_
      rw [rounds_succ]
      go_wp2
      rw [rounds_succ]
      go_wp2_with fail
      refine (tz_calls _ _ (HL.out 1) H1.out HT.out).mono ?_
      rintro e w' ⟨rfl, rfl⟩
      go_wp2
      go_ret
      refine ⟨ret_i ?_, by go_grown⟩
      rw [HV.out]
      simp
    · have g0 : ((word f 0 : Int) == 0) = true := by simp; omega
      have g1 : ((word f 1 : Int) == 0) = true := by simp; omega
      have g2 : ((word f 2 : Int) == 0) = false := by simp; omega
      have hz := HK.out 2 h2
      have hv := HF.out 2 (by decide) (fun j hj => by
        match j, hj with
        | 0, _ => exact h0
        | 1, _ => exact h1) h2
      have H0 := hidden h0
      have H1 := hidden h1
      have H2 := hidden h2
      have HV := hidden hv
      clear hv h0 h1 h2
      go_enter Tryd.func28, Tryd.ntmps28
      go_wp2
      refine wp_loop_rounds 3 ?_
      rw [rounds_succ]
      go_wp2
      rw [rounds_succ]
      go_wp2
      rw [rounds_succ]
      go_wp2_with fail
      refine (tz_calls _ _ (HL.out 2) H2.out HT.out).mono ?_
      rintro e w' ⟨rfl, rfl⟩
      go_wp2
      go_ret
      refine ⟨ret_i ?_, by go_grown⟩
      rw [HV.out]
      simp
    · have g0 : ((word f 0 : Int) == 0) = true := by simp; omega
      have g1 : ((word f 1 : Int) == 0) = true := by simp; omega
      have g2 : ((word f 2 : Int) == 0) = true := by simp; omega
      have g3 : ((word f 3 : Int) == 0) = false := by simp; omega
      have hz := HK.out 3 h3
      have hv := HF.out 3 (by decide) (fun j hj => by
        match j, hj with
        | 0, _ => exact h0
        | 1, _ => exact h1
        | 2, _ => exact h2) h3
      have H0 := hidden h0
      have H1 := hidden h1
      have H2 := hidden h2
      have H3 := hidden h3
      have HV := hidden hv
      clear hv h0 h1 h2 h3
      go_enter Tryd.func28, Tryd.ntmps28
      go_wp2
      refine wp_loop_rounds 4 ?_
      rw [rounds_succ]
      go_wp2
      rw [rounds_succ]
      go_wp2
      rw [rounds_succ]
      go_wp2
      rw [rounds_succ]
      go_wp2_with fail
      refine (tz_calls _ _ (HL.out 3) H3.out HT.out).mono ?_
      rintro e w' ⟨rfl, rfl⟩
      go_wp2
      go_ret
      refine ⟨ret_i ?_, by go_grown⟩
      rw [HV.out]
      simp

theorem row_form {w : World} {base : Nat} {e : TypeId} {size : Nat} {v : Value} {n : Nat} {xs : List Value} (h : w.ownsRow base e size v n xs) :
    (v = .slice none 0 0 ∧ n = 0) ∨ ∃ g cap, v = .slice (some ⟨g, 0, none⟩) n cap ∧ base ≤ g ∧ g < w.heap.size ∧ n ≤ cap ∧ cap ≤ maxLen ∧ ∀ j, j < n * size → w.cell? ⟨g, j, none⟩ = xs[j]? := by
  rcases h.2 with h1 | ⟨g, cap, cur, h1, h2, h3, h4, h5, h6, h7⟩
  · exact .inl h1
  · refine .inr ⟨g, cap, h1, h2, ?_, h4, h5, fun j hj => ?_⟩
    · rcases Nat.lt_or_ge g w.heap.size with hlt | hge
      · exact hlt
      · rw [Array.getElem?_eq_none hge] at h3
        cases h3
    · subst h1
      exact World.ownsRow.cellAt h j hj
theorem first_elem {f : Nat → Bool} {a : Nat} {r : List Nat} (h : elems f = a :: r) : firstOf f = a := by simp [firstOf, h]
set_option maxRecDepth 100000 in
theorem rfirst_calls (f : Nat → Bool) (w : World) :
    Calls Tryd.prog 29 #[(.agg #[.int .u64 (word (f) 0), .int .u64 (word (f) 1), .int .u64 (word (f) 2), .int .u64 (word (f) 3)])] w fun e w' => e = .returned (.int .i64 (firstOf f)) ∧ Below w.heap.size w w' := by
  have HR := hidden (rbytes_calls f (w.alloc (.cells #[.int .u64 (word (f) 0), .int .u64 (word (f) 1), .int .u64 (word (f) 2), .int .u64 (word (f) 3)] 24)))
  have HA := hidden ((Below.refl w.heap.size w).alloc (Nat.le_refl _) (.cells #[.int .u64 (word (f) 0), .int .u64 (word (f) 1), .int .u64 (word (f) 2), .int .u64 (word (f) 3)] 24))
  have hle := elems_le f
  cases hE : elems f with
  | nil =>
    have hF : firstOf f = -1 := by simp [firstOf, hE]
    have HE := hidden hE
    have HF := hidden hF
    clear hE hF
    go_enter Tryd.func29, Tryd.ntmps29
    go_wp2_with fail
    refine HR.out.mono ?_
    rintro e w' ⟨v, rfl, hown, hb⟩
    have HB := hidden (below_then HA.out (by simp) hb)
    rw [HE.out] at hown
    rcases row_form hown with ⟨rfl, _⟩ | ⟨g, cap, rfl, hrest⟩
    all_goals
      clear hown hb
      go_wp2
      go_ret
      exact ⟨ret_i HF.out.symm, HB.out⟩
  | cons a r =>
    have HF := hidden (first_elem hE)
    have HE := hidden hE
    have ha : a < 256 := ((mem_elems f a).1 (by rw [hE]; exact List.mem_cons_self ..)).1
    have hl : (elems f).length = r.length + 1 := by rw [hE]; rfl
    clear hE
    have HL := hidden hl
    have hr : r.length ≤ 255 := by omega
    clear hl hle
    go_enter Tryd.func29, Tryd.ntmps29
    go_wp2_with fail
    refine HR.out.mono ?_
    rintro e w' ⟨v, rfl, hown, hb⟩
    have HB := hidden (below_then HA.out (by simp) hb)
    rw [HE.out] at hown
    rcases row_form hown with ⟨_, hne⟩ | ⟨g, cap, rfl, _, _, hcap, hmax, hcell⟩
    · simp at hne
    · have h0 : w'.cell? ⟨g, 0, none⟩ = some (.int .u8 a) := hcell 0 (by simp)
      unfold maxLen at hmax
      clear hown hb hcell
      simp only [List.length_cons] at hcap ⊢
      go_wp2
      go_ret
      exact ⟨ret_i HF.out.symm, HB.out⟩
end Go.Proofs.YtfnpepmbklclfaaDoor
