/- Contracts of Has, Same and Within. -/
import Derived.Test.YtbnohmbdfcapkaaDoorMaOf
namespace Go.Proofs.YtbnohmbdfcapkaaDoor
open Go.RowKit Go.Lib Go.Joins

theorem RdZ.nums {B : Nat} {w : World} {a : Option Addr} {n c : Nat} {l : List Int} (h : RdZ B w (.slice a n c) l) : n = l.length ∧ l.length ≤ c ∧ c ≤ maxLen ∧ (0 < l.length → ∃ b off, a = some ⟨b, off, none⟩ ∧ b < B ∧ ∀ i, i < l.length → w.cell? ⟨b, off + i, none⟩ = some (.int .i64 (l.getD i 0))) := by
  obtain ⟨a', c', e, h1, h2, _, h4⟩ := h
  simp only [Value.slice.injEq] at e
  obtain ⟨rfl, rfl, rfl⟩ := e
  exact ⟨rfl, h1, h2, h4⟩
theorem below_drawnN (w : World) (q : Nat) : Below w.heap.size w (w.drewN q) := below_drawn (Below.refl _ _) q
set_option maxRecDepth 100000 in
theorem same_calls {B : Nat} (w : World) (va vb : Value) (l m : List Int) (ha : RdZ B w va l) (hb : RdZ B w vb m) : Calls Tryd.prog 10 #[va, vb] w fun e w' => e = .returned (.bool (decide (l = m))) ∧ Below w.heap.size w w' := by
  obtain ⟨a, ca, rfl⟩ := ha.form
  obtain ⟨b, cb, rfl⟩ := hb.form
  obtain ⟨_, h1, h2, h4⟩ := ha.nums
  obtain ⟨_, g1, g2, g4⟩ := hb.nums
  unfold maxLen at h2 g2
  have key : Calls Tryd.prog 17 #[.slice a l.length ca, .slice b m.length cb] w fun e w' => e = .returned (.bool (decide (l = m))) ∧ Below w.heap.size w w' := by
    by_cases hne : l.length = m.length
    · by_cases h0 : l.length = 0
      · have e1 := List.eq_nil_of_length_eq_zero h0
        have e2 := List.eq_nil_of_length_eq_zero (hne ▸ h0)
        subst e1 e2
        refine (Go.Proofs.Tryd.slices_Equal_int_empty a b ca 0 cb w (by omega)).mono ?_
        rintro e w1 ⟨rfl, rfl⟩
        exact ⟨by simp, Below.refl _ _⟩
      · obtain ⟨b1, o1, rfl, _, c1⟩ := h4 (by omega)
        obtain ⟨b2, o2, rfl, _, c2⟩ := g4 (by omega)
        refine (Go.Proofs.Tryd.slices_Equal_int b1 o1 l.length ca b2 o2 m.length cb l m w (Nat.le_refl _) (Nat.le_refl _) (by omega) (by omega) c1 c2).mono ?_
        rintro e w1 ⟨rfl, q, rfl⟩
        rw [List.take_of_length_le (Nat.le_refl _), List.take_of_length_le (Nat.le_refl _)]
        refine ⟨ret_b ?_, below_drawnN _ _⟩
        rw [Bool.eq_iff_iff]
        simp
    · refine (Go.Proofs.Tryd.slices_Equal_int_lens a b l.length ca m.length cb w hne).mono ?_
      rintro e w1 ⟨rfl, rfl⟩
      refine ⟨ret_b ?_, Below.refl _ _⟩
      symm
      exact decide_eq_false fun e => hne (by rw [e])
  have HK := hidden key
  generalize decide (l = m) = r at *
  obtain ⟨p, hp⟩ : ∃ p, p = l.length := ⟨_, rfl⟩
  obtain ⟨q, hq⟩ : ∃ p, p = m.length := ⟨_, rfl⟩
  rw [← hp, ← hq] at HK ⊢
  clear ha hb h1 h2 h4 g1 g2 g4 key hp hq
  go_enter Tryd.func10, Tryd.ntmps10
  go_wp2_with fail
  refine HK.out.mono ?_
  rintro e w1 ⟨rfl, hb1⟩
  go_wp2
  go_ret
  exact ⟨rfl, hb1⟩
end Go.Proofs.YtbnohmbdfcapkaaDoor
