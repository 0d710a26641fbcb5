/- Contract of the program's Span. -/
import Derived.Test.YtfnpepmbklclfaaDoorSetTwo
namespace Go.Proofs.YtfnpepmbklclfaaDoor
open Go.RowKit

theorem SetAt.one {w : World} {B : Nat} {f g : Nat → Bool} (h : SetAt w B f) (i : Nat) (hi : i < 4) {v : Int} (hv : v = word g i) (hj : ∀ j, j ≠ i → word f j = word g j) :
    SetAt (w.setCell ⟨B, i, none⟩ (.int .u64 v)) B g := by
  subst hv
  have h2 := heap_setCell_same w B i _ 24 (.int .u64 (word g i)) h
  unfold SetAt
  rw [h2]
  match i, hi with
  | 0, _ => simp [hj 1 (by decide), hj 2 (by decide), hj 3 (by decide)]
  | 1, _ => simp [hj 0 (by decide), hj 2 (by decide), hj 3 (by decide)]
  | 2, _ => simp [hj 0 (by decide), hj 1 (by decide), hj 3 (by decide)]
  | 3, _ => simp [hj 0 (by decide), hj 1 (by decide), hj 2 (by decide)]
theorem SetAt.other {w : World} {B b i : Nat} {f : Nat → Bool} (h : SetAt w B f) (hne : B ≠ b) (v : Value) : SetAt (w.setCell ⟨b, i, none⟩ v) B f := by
  unfold SetAt at h ⊢
  rw [heap_setCell_other _ _ _ _ hne, h]
theorem SetAt.drew {w : World} {B : Nat} {f : Nat → Bool} (h : SetAt w B f) : SetAt w.drew B f := h
theorem or_one (f : Nat → Bool) (n : Int) (h0 : 0 ≤ n) (i : Nat) (hi : n.toNat / 64 = i) : bits .or .u64 (word f i) (IntKind.u64.wrap (2 ^ (n % 64).toNat)) = word (fOr f (fOne n.toNat)) i := by
  rw [pow_bit n h0 i hi, word_or]
theorem spn_step {L b : Int} (h0 : 0 ≤ L) (hb : L ≤ b) (n : Nat) : fOr (fSpan L (b - 1)) (fOne b.toNat) n = fSpan L (b + 1 - 1) n := by
  simp only [fOr, fSpan, fOne]
  rw [Bool.eq_iff_iff]
  simp
  omega

def lowE (lo : Int) : Int := max lo 0
def highE (hi : Int) : Int := min hi 255
theorem fin_span (lo hi b : Int) (_h1 : lowE lo ≤ b) (h2 : ¬ b ≤ highE hi) (h3 : b ≤ highE hi + 1 ∨ b = lowE lo) (n : Nat) (hn : n < 256) : fSpan (lowE lo) (b - 1) n = fSpan lo hi n := by
  unfold lowE highE at *
  simp only [fSpan]
  rw [Bool.eq_iff_iff]
  simp
  omega
theorem none_span (L : Int) (n : Nat) : fNone n = fSpan L (L - 1) n := by
  simp only [fSpan, fNone]
  rw [Bool.eq_iff_iff]
  simp
  omega

set_option maxRecDepth 100000 in
theorem span_calls (lo hi : Int) (w : World) :
    Calls Tryd.prog 10 #[.int .i64 lo, .int .i64 hi] w fun e w' => e = .returned (.agg #[.int .u64 (word (fSpan lo hi) 0), .int .u64 (word (fSpan lo hi) 1), .int .u64 (word (fSpan lo hi) 2), .int .u64 (word (fSpan lo hi) 3)]) ∧ Below w.heap.size w w' := by
  have l0 : 0 ≤ lowE lo := by unfold lowE; omega
  have h0 : highE hi ≤ 255 := by unfold highE; omega
  have cl : (lo < 0 ∧ lowE lo ≤ 0) ∨ (0 ≤ lo ∧ lo ≤ lowE lo ∧ lowE lo ≤ lo) := by unfold lowE; omega
  have ch : (255 < hi ∧ 255 ≤ highE hi) ∨ (hi ≤ 255 ∧ hi ≤ highE hi ∧ highE hi ≤ hi) := by unfold highE; omega
  have HF := hidden (fin_span lo hi)
  rcases cl with ⟨p1, p2⟩ | ⟨p1, p2, p3⟩ <;> rcases ch with ⟨q1, q2⟩ | ⟨q1, q2, q3⟩
  all_goals
    go_enter Tryd.func10, Tryd.ntmps10
    go_wp2
    go_loopw [6] (fun i wr => ∃ b : Int, lowE lo ≤ b ∧ (b ≤ highE hi + 1 ∨ b = lowE lo) ∧ i = .int .i64 b ∧ SetAt wr w.heap.size fNone ∧ SetAt wr (w.heap.size + 1) (fSpan (lowE lo) (b - 1)) ∧ Below w.heap.size w wr) (fun i _ => (256 - intOf i).toNat)
    case atStart =>
      exact ⟨_, by omega, by omega, rfl, (new2 w).1, (new2 w).2.congr fun n _ => by rw [none_span (lowE lo)]; congr 1; omega, by go_grown⟩
    case round =>
      obtain ⟨b, g1, g2, rfl, hA, hS, hb⟩ := hrel
      have HS := hidden hS
      have HA := hidden hA
      by_cases hlt : b ≤ highE hi
      · obtain ⟨c0, c1, c2, c3, f0, f1, f2, f3⟩ := hS.facts
        clear hS hA
        have HO := hidden (or_one (fSpan (lowE lo) (b - 1)) b (by omega))
        have HX := hidden (or_other (fSpan (lowE lo) (b - 1)) b.toNat)
        have hc : (b / 64).toNat = 0 ∨ (b / 64).toNat = 1 ∨ (b / 64).toNat = 2 ∨ (b / 64).toNat = 3 := by omega
        rcases hc with hq | hq | hq | hq
        all_goals
          go_wp2
          go_region
          go_wp2
          refine ⟨⟨b + 1, by omega, by omega, rfl, (HA.out.other (by omega) _).drew, ((HS.out.one _ (by decide) (HO.out _ (by omega)) fun j hj => HX.out j (by omega)).congr fun n _ => spn_step l0 g1 n).drew, (hb.setCell (by simp) _).drew⟩, by simp [intOf]; omega⟩
      · obtain ⟨c0, c1, c2, c3, f0, f1, f2, f3⟩ := hS.facts
        obtain ⟨d0, d1, d2, d3, g0, g3, g4, g5⟩ := hA.facts
        clear hS hA
        go_wp2
        exact ret_setAt Tryd.results10 rfl rfl HA.out.stored (HF.out b g1 (by omega) g2) ⟨rfl, below_cells hb _ (by omega) _ _ _ _⟩
end Go.Proofs.YtfnpepmbklclfaaDoor
