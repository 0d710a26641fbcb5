/- Contract of the reference's SameRuns, of two lists that are the same; the chapter's examples ('knows'). -/
import Derived.Test.YtfnpepmbklclfaaDoorSetRunsP
namespace Go.Proofs.YtfnpepmbklclfaaDoor
open Go.RowKit

/-- a slice of pairs that reads as a list -/
def Pairs (w : World) (a : Option Addr) (L : List (Nat × Nat)) : Prop :=
  0 < L.length → ∃ g, a = some ⟨g, 0, none⟩ ∧ g < w.heap.size ∧ ∀ i, i < L.length → w.cell? ⟨g, i * 2, none⟩ = some (.int .i64 (L.getD i (0, 0)).1) ∧ w.cell? ⟨g, i * 2 + 1, none⟩ = some (.int .i64 (L.getD i (0, 0)).2)
theorem Pairs.below {w w' : World} {a : Option Addr} {L : List (Nat × Nat)} (h : Pairs w a L) (hb : Below w.heap.size w w') : Pairs w' a L := fun hp => by
  obtain ⟨g, e, hg, hc⟩ := h hp
  exact ⟨g, e, Nat.lt_of_lt_of_le hg hb.size, fun i hi => ⟨(hb.cell (p := ⟨g, _, none⟩) hg).trans (hc i hi).1, (hb.cell (p := ⟨g, _, none⟩) hg).trans (hc i hi).2⟩⟩
theorem pairsV_get : ∀ (L : List (Nat × Nat)) (i : Nat), i < L.length → (pairsV L)[i * 2]? = some (.int .i64 (L.getD i (0, 0)).1) ∧ (pairsV L)[i * 2 + 1]? = some (.int .i64 (L.getD i (0, 0)).2)
  | [], i, h => by simp at h
  | p :: r, 0, h => by simp [pairsV, pairV]
  | p :: r, i + 1, h => by
    have ih := pairsV_get r i (by simpa using h)
    have e : pairsV (p :: r) = .int .i64 p.1 :: .int .i64 p.2 :: pairsV r := by simp [pairsV, pairV]
    rw [e, show (i + 1) * 2 = i * 2 + 1 + 1 by omega]
    simpa using ih
theorem pairs_of_row {w : World} {base : Nat} {v : Value} {L : List (Nat × Nat)} (h : w.ownsRow base 44 2 v L.length (pairsV L)) : ∃ a cap, v = .slice a L.length cap ∧ cap ≤ maxLen ∧ Pairs w a L := by
  rcases row_form h with ⟨rfl, h0⟩ | ⟨g, cap, rfl, _, hg, _, hm, hc⟩
  · exact ⟨none, 0, by rw [h0], Nat.zero_le _, fun hp => by omega⟩
  · refine ⟨_, cap, rfl, hm, fun _ => ⟨g, rfl, hg, fun i hi => ?_⟩⟩
    have := pairsV_get L i hi
    exact ⟨(hc _ (by omega)).trans this.1, (hc _ (by omega)).trans this.2⟩

set_option maxRecDepth 100000 in
theorem sameRuns_calls (a1 a2 : Option Addr) (c1 c2 : Nat) (L : List (Nat × Nat)) (w : World) (hl : L.length ≤ 256) (h1 : Pairs w a1 L) (h2 : Pairs w a2 L) :
    Calls Tryd.prog 25 #[.slice a1 L.length c1, .slice a2 L.length c2] w fun e w' => e = .returned (.bool true) ∧ Below w.heap.size w w' := by
  have H1 := hidden h1
  have H2 := hidden h2
  have hq : ∀ (w : World) (x y : Int), (Op.equalIn 10000 44 (.agg #[.int .i64 x, .int .i64 y]) (.agg #[.int .i64 x, .int .i64 y])).run Tryd.prog w = .ok true w := fun w x y => by
    rw [eq_two]
    simp
  clear h1 h2
  go_enter Tryd.func25, Tryd.ntmps25
  go_wp2
  go_loopw [5] (fun i wr => ∃ k : Nat, k ≤ L.length ∧ i = .int .i64 k ∧ Below w.heap.size w wr) (fun i _ => L.length - (intOf i).toNat)
  case atStart => exact ⟨0, by omega, rfl, Below.refl _ _⟩
  case round =>
    obtain ⟨k, hk, rfl, hb⟩ := hrel
    by_cases hlt : k < L.length
    · obtain ⟨g1, e1, hg1, hc1⟩ := H1.out (by omega)
      obtain ⟨g2, e2, hg2, hc2⟩ := H2.out (by omega)
      subst e1
      subst e2
      have x1 := (hb.cell (p := ⟨g1, k * 2, none⟩) hg1).trans (hc1 k hlt).1
      have y1 := (hb.cell (p := ⟨g1, k * 2 + 1, none⟩) hg1).trans (hc1 k hlt).2
      have x2 := (hb.cell (p := ⟨g2, k * 2, none⟩) hg2).trans (hc2 k hlt).1
      have y2 := (hb.cell (p := ⟨g2, k * 2 + 1, none⟩) hg2).trans (hc2 k hlt).2
      clear hc1 hc2
      go_wp2
      go_region
      all_goals
        go_wp2
        exact ⟨⟨k + 1, by omega, by go_num, hb.drew⟩, by simp [intOf]; omega⟩
    · go_wp2
      go_ret
      exact ⟨rfl, hb⟩
end Go.Proofs.YtfnpepmbklclfaaDoor
