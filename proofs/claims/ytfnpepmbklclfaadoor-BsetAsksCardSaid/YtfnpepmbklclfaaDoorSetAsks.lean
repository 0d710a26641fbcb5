/- 'BsetAsks' answers true for every set and every byte: Has, Count, Bytes, Runs and First are the reference's. Conditions: the listed table of math/bits as it is laid (the card ties it). -/
import Derived.Test.YtfnpepmbklclfaaDoorSetSteps
namespace Go.Proofs.YtfnpepmbklclfaaDoor.lawBsetAsks
open Go.ChangeShapes Go.WideShapes Go.ChangeAt Go.RowKit
open Go.ChangeMaps (open_string shut_string)
attribute [local go_sem] evalR_tmp evalR_const evalR_global evalR_func

def numsOf (f : Nat → Bool) : List Int := (elems f).map fun n : Nat => (n : Int)
/-- a slice of bytes that reads as a set's bytes -/
def Numbers (w : World) (a : Option Addr) (f : Nat → Bool) : Prop :=
  (a = none ∧ elems f = []) ∨ ∃ g, a = some ⟨g, 0, none⟩ ∧ g < w.heap.size ∧ ∀ i, i < (elems f).length → w.cell? ⟨g, i, none⟩ = some (.int .u8 ((numsOf f).getD i 0))
def rowOf (f : Nat → Bool) (v : Value) (w : World) : Prop := ∃ a c, v = .slice a (elems f).length c ∧ c ≤ maxLen ∧ Numbers w a f
def pairsOf (f : Nat → Bool) (v : Value) (w : World) : Prop := ∃ a c, v = .slice a (runs f).length c ∧ Pairs w a (runs f)
theorem rowOf_mono (f : Nat → Bool) : ∀ v w w', rowOf f v w → Below w.heap.size w w' → rowOf f v w' := by
  rintro v w w' ⟨a, c, e, hc, h⟩ hb
  refine ⟨a, c, e, hc, ?_⟩
  rcases h with h | ⟨g, e2, hg, hcell⟩
  · exact .inl h
  · exact .inr ⟨g, e2, Nat.lt_of_lt_of_le hg hb.size, fun i hi => (hb.cell (p := ⟨g, i, none⟩) hg).trans (hcell i hi)⟩
theorem pairsOf_mono (f : Nat → Bool) : ∀ v w w', pairsOf f v w → Below w.heap.size w w' → pairsOf f v w' := by
  rintro v w w' ⟨a, c, e, h⟩ hb
  exact ⟨a, c, e, h.below hb⟩
theorem rowOf_row {f : Nat → Bool} {w : World} {base : Nat} {v : Value} (h : w.ownsRow base 5 1 v (elems f).length ((elems f).map byteV)) : rowOf f v w := by
  rcases row_form h with ⟨rfl, h0⟩ | ⟨g, cap, rfl, _, hg, _, hm, hc⟩
  · exact ⟨none, 0, by rw [h0], Nat.zero_le _, .inl ⟨rfl, List.eq_nil_of_length_eq_zero h0⟩⟩
  · refine ⟨_, cap, rfl, hm, .inr ⟨g, rfl, hg, fun i hi => ?_⟩⟩
    rw [hc i (by omega), List.getElem?_map, List.getElem?_eq_getElem hi]
    simp [numsOf, byteV, List.getD_eq_getElem?_getD, hi]
theorem pairsOf_row {f : Nat → Bool} {w : World} {base : Nat} {v : Value} (h : w.ownsRow base 44 2 v (runs f).length (pairsV (runs f))) : pairsOf f v w := by
  obtain ⟨a, c, e, _, hp⟩ := pairs_of_row h
  exact ⟨a, c, e, hp⟩
theorem text_of {f : Nat → Bool} {w : World} {a : Option Addr} {c : Nat} (h : Numbers w a f) : (convert 38 9 (.slice a (elems f).length c)).run Tryd.prog w = .ok (.string (strOfNums (numsOf f))) w := by
  rcases h with ⟨rfl, h0⟩ | ⟨g, rfl, hg, hcell⟩
  · rw [run_convert_bytes_nil w 38 5 Tryd.underlying38 Tryd.underlying5 _ _ 9 Tryd.underlying9]
    simp only [numsOf, h0]
    rfl
  · exact run_convert_bytes_arg w 38 5 Tryd.underlying38 Tryd.underlying5 g 0 _ c (numsOf f) (by simp [numsOf]) (fun i hi => by rw [Nat.zero_add]; exact hcell i hi) 9 Tryd.underlying9
theorem runs_le (f : Nat → Bool) : (runs f).length ≤ 256 := by
  have := upRuns_len f 256
  rwa [upRuns_all] at this

def L (f : Nat → Bool) (n : Nat) : List (Value → World → Prop) := [
  set (f), Is (.int .u8 n), Is (.bool (f n)), set (f), Is (.int .u8 n), Is (.bool (f n)), isTrue, isTrue, set (f), Is (.int .i64 (elems f).length), set (f), rowOf f, Is (.int .i64 (elems f).length), isTrue, isTrue, isTrue, set (f), rowOf f, Is (.string (strOfNums (numsOf f))), set (f), rowOf f, Is (.string (strOfNums (numsOf f))), isTrue, isTrue, isTrue, set (f), pairsOf f, set (f), pairsOf f, isTrue, isTrue, isTrue, set (f), Is (.int .i64 (firstOf f)), set (f), Is (.int .i64 (firstOf f)), isTrue, isTrue, isTrue, isTrue, isTrue, isTrue]
def W (w0 : World) (f : Nat → Bool) (w : World) : Prop := SetAt w w0.heap.size f ∧ Below w0.heap.size w0 w
theorem Wm {w0 w w' : World} {f : Nat → Bool} (h : W w0 f w) (hb : Below w.heap.size w w') : W w0 f w' := ⟨h.1.below hb, below_after h.2 hb⟩

set_option maxHeartbeats 2000000 in
set_option maxRecDepth 100000 in
theorem walk (f : Nat → Bool) (b : Int) (w : World) (hb : 0 ≤ b ∧ b ≤ 255) (ht : Tab w) :
    Calls Tryd.prog 5 #[(.agg #[.int .u64 (word (f) 0), .int .u64 (word (f) 1), .int .u64 (word (f) 2), .int .u64 (word (f) 3)]), .int .u8 b] w fun e w' => e = .returned (.bool true) ∧ Below w.heap.size w w' := by
  have HT := hidden ht
  obtain ⟨n, rfl⟩ := Int.eq_ofNat_of_zero_le hb.1
  have hn : n < 256 := by omega
  clear ht hb
  go_enter Tryd.func5, Tryd.ntmps5
  go_wp2
  refine wp_region_steps (typ (L f n)) (W w f) (by kernel_rfl) (by kernel_rfl) (by kernel_rfl) (by kernel_rfl) ?mono ?start [7, 15, 24, 31, 38] (by kernel_rfl) ?guards ?step ?fin
  case mono =>
    refine typ_mono ?_
    simp only [L, List.forall_mem_cons]
    repeat' (first | exact is_mono _ | exact rowOf_mono f | exact pairsOf_mono f | (intro p hp; cases hp; done) | refine And.intro ?_ ?_)
  case start => exact ⟨(SetAt.new w f).drew, by go_grown⟩
  case guards =>
    intro g hg v w h
    simp at hg
    rcases hg with rfl | rfl | rfl | rfl | rfl <;> exact h
  case fin =>
    intro a w1 hs hv hW
    rename_i Q' K hK
    refine hK a w1 ?_
    have h4 : a.tmps.getD 4 undef = .bool true := hv 41 4 (by kernel_rfl)
    have hd := hs.defers
    go_wp2
    refine bodyPost_ret (results_tmp rfl _ _ _) hd ?_
    rw [h4]
    exact ⟨rfl, hW.2⟩
  case step =>
    refine ⟨?_, ?_, ?_, ?_, ?_, ?_, ?_, ?_, ?_, ?_, ?_, ?_, ?_, ?_, ?_, ?_, ?_, ?_, ?_, ?_, ?_, ?_, ?_, ?_, ?_, ?_, ?_, ?_, ?_, ?_, ?_, ?_, ?_, ?_, ?_, ?_, ?_, ?_, ?_, ?_, ?_, ?_, trivial⟩
    · intro ρ w1 hF hW
      have HW := hidden hW
      clear hW
      have e2 : ρ 2 = .pointer (some ⟨w.heap.size, 0, none⟩) := hF 2 (by decide)
      clear hF
      obtain ⟨c0, c1, c2, c3, _, _, _, _⟩ := HW.out.1.facts
      unfold Does
      go_simp
      exact ⟨rfl, HW.out, Below.refl _ _⟩
    · intro ρ w1 hF hW
      have HW := hidden hW
      clear hW
      have e1 : ρ 1 = .int .u8 n := hF 1 (by decide)
      clear hF
      unfold Does
      go_simp
      exact ⟨rfl, HW.out, Below.refl _ _⟩
    · intro ρ w1 hF hW
      have HW := hidden hW
      clear hW
      have e5 : ρ 5 = (.agg #[.int .u64 (word (f) 0), .int .u64 (word (f) 1), .int .u64 (word (f) 2), .int .u64 (word (f) 3)]) := hF 5 (by decide)
      have e6 : ρ 6 = .int .u8 n := hF 6 (by decide)
      clear hF
      unfold Does
      go_simp
      refine (has_nat f n _ hn).mono ?_
      rintro e w2 ⟨rfl, hb⟩
      exact ⟨_, rfl, rfl, Wm HW.out hb, hb⟩
    · intro ρ w1 hF hW
      have HW := hidden hW
      clear hW
      have e2 : ρ 2 = .pointer (some ⟨w.heap.size, 0, none⟩) := hF 2 (by decide)
      clear hF
      obtain ⟨c0, c1, c2, c3, _, _, _, _⟩ := HW.out.1.facts
      unfold Does
      go_simp
      exact ⟨rfl, HW.out, Below.refl _ _⟩
    · intro ρ w1 hF hW
      have HW := hidden hW
      clear hW
      have e1 : ρ 1 = .int .u8 n := hF 1 (by decide)
      clear hF
      unfold Does
      go_simp
      exact ⟨rfl, HW.out, Below.refl _ _⟩
    · intro ρ w1 hF hW
      have HW := hidden hW
      clear hW
      have e8 : ρ 8 = (.agg #[.int .u64 (word (f) 0), .int .u64 (word (f) 1), .int .u64 (word (f) 2), .int .u64 (word (f) 3)]) := hF 8 (by decide)
      have e9 : ρ 9 = .int .u8 n := hF 9 (by decide)
      clear hF
      unfold Does
      go_simp
      refine (rhas_nat f n _ hn).mono ?_
      rintro e w2 ⟨rfl, hb⟩
      exact ⟨_, rfl, rfl, Wm HW.out hb, hb⟩
    · intro ρ w1 hF hW
      have HW := hidden hW
      clear hW
      have e7 : ρ 7 = .bool (f n) := hF 7 (by decide)
      have e10 : ρ 10 = .bool (f n) := hF 10 (by decide)
      clear hF
      unfold Does
      go_simp
      exact ⟨rfl, HW.out, Below.refl _ _⟩
    · intro ρ w1 hF hW
      have HW := hidden hW
      clear hW
      have e11 : ρ 11 = .bool true := hF 11 (by decide)
      clear hF
      unfold Does
      go_simp
      exact ⟨rfl, HW.out, Below.refl _ _⟩
    · intro ρ w1 hF hW
      have HW := hidden hW
      clear hW
      have e2 : ρ 2 = .pointer (some ⟨w.heap.size, 0, none⟩) := hF 2 (by decide)
      clear hF
      obtain ⟨c0, c1, c2, c3, _, _, _, _⟩ := HW.out.1.facts
      unfold Does
      go_simp
      exact ⟨rfl, HW.out, Below.refl _ _⟩
    · intro ρ w1 hF hW
      have HW := hidden hW
      clear hW
      have e13 : ρ 13 = (.agg #[.int .u64 (word (f) 0), .int .u64 (word (f) 1), .int .u64 (word (f) 2), .int .u64 (word (f) 3)]) := hF 13 (by decide)
      clear hF
      unfold Does
      go_simp
      refine (count_calls f _).mono ?_
      rintro e w2 ⟨rfl, hb⟩
      exact ⟨_, rfl, by rw [count_words]; rfl, Wm HW.out hb, hb⟩
    · intro ρ w1 hF hW
      have HW := hidden hW
      clear hW
      have e2 : ρ 2 = .pointer (some ⟨w.heap.size, 0, none⟩) := hF 2 (by decide)
      clear hF
      obtain ⟨c0, c1, c2, c3, _, _, _, _⟩ := HW.out.1.facts
      unfold Does
      go_simp
      exact ⟨rfl, HW.out, Below.refl _ _⟩
    · intro ρ w1 hF hW
      have HW := hidden hW
      clear hW
      have e15 : ρ 15 = (.agg #[.int .u64 (word (f) 0), .int .u64 (word (f) 1), .int .u64 (word (f) 2), .int .u64 (word (f) 3)]) := hF 15 (by decide)
      clear hF
      unfold Does
      go_simp
      refine (rbytes_calls f _).mono ?_
      rintro e w2 ⟨v, rfl, hown, hb⟩
      exact ⟨_, rfl, rowOf_row hown, Wm HW.out hb, hb⟩
    · intro ρ w1 hF hW
      have HW := hidden hW
      clear hW
      obtain ⟨a16, c16, e16, hc16, hr16⟩ : ∃ a c, ρ 16 = .slice a (elems f).length c ∧ c ≤ maxLen ∧ Numbers w1 a f := hF 16 (by decide)
      clear hF
      unfold Does
      go_simp
      exact ⟨rfl, HW.out, Below.refl _ _⟩
    · intro ρ w1 hF hW
      have HW := hidden hW
      clear hW
      have e14 : ρ 14 = .int .i64 (elems f).length := hF 14 (by decide)
      have e17 : ρ 17 = .int .i64 (elems f).length := hF 17 (by decide)
      clear hF
      unfold Does
      go_simp
      exact ⟨rfl, HW.out, Below.refl _ _⟩
    · intro ρ w1 hF hW
      have HW := hidden hW
      clear hW
      have e12 : ρ 12 = .bool true := hF 12 (by decide)
      have e18 : ρ 18 = .bool true := hF 18 (by decide)
      clear hF
      unfold Does
      go_simp
      exact ⟨rfl, HW.out, Below.refl _ _⟩
    · intro ρ w1 hF hW
      have HW := hidden hW
      clear hW
      have e19 : ρ 19 = .bool true := hF 19 (by decide)
      clear hF
      unfold Does
      go_simp
      exact ⟨rfl, HW.out, Below.refl _ _⟩
    · intro ρ w1 hF hW
      have HW := hidden hW
      clear hW
      have e2 : ρ 2 = .pointer (some ⟨w.heap.size, 0, none⟩) := hF 2 (by decide)
      clear hF
      obtain ⟨c0, c1, c2, c3, _, _, _, _⟩ := HW.out.1.facts
      unfold Does
      go_simp
      exact ⟨rfl, HW.out, Below.refl _ _⟩
    · intro ρ w1 hF hW
      have HW := hidden hW
      clear hW
      have e21 : ρ 21 = (.agg #[.int .u64 (word (f) 0), .int .u64 (word (f) 1), .int .u64 (word (f) 2), .int .u64 (word (f) 3)]) := hF 21 (by decide)
      clear hF
      unfold Does
      go_simp
      refine (bytes_calls f _ (HT.out.below HW.out.2)).mono ?_
      rintro e w2 ⟨v, rfl, hown, hb⟩
      exact ⟨_, rfl, rowOf_row hown, Wm HW.out hb, hb⟩
    · intro ρ w1 hF hW
      have HW := hidden hW
      clear hW
      obtain ⟨a22, c22, e22, hc22, hr22⟩ : ∃ a c, ρ 22 = .slice a (elems f).length c ∧ c ≤ maxLen ∧ Numbers w1 a f := hF 22 (by decide)
      clear hF
      have hq := text_of (c := c22) hr22
      unfold Does
      go_simp
      exact ⟨rfl, HW.out, Below.refl _ _⟩
    · intro ρ w1 hF hW
      have HW := hidden hW
      clear hW
      have e2 : ρ 2 = .pointer (some ⟨w.heap.size, 0, none⟩) := hF 2 (by decide)
      clear hF
      obtain ⟨c0, c1, c2, c3, _, _, _, _⟩ := HW.out.1.facts
      unfold Does
      go_simp
      exact ⟨rfl, HW.out, Below.refl _ _⟩
    · intro ρ w1 hF hW
      have HW := hidden hW
      clear hW
      have e24 : ρ 24 = (.agg #[.int .u64 (word (f) 0), .int .u64 (word (f) 1), .int .u64 (word (f) 2), .int .u64 (word (f) 3)]) := hF 24 (by decide)
      clear hF
      unfold Does
      go_simp
      refine (rbytes_calls f _).mono ?_
      rintro e w2 ⟨v, rfl, hown, hb⟩
      exact ⟨_, rfl, rowOf_row hown, Wm HW.out hb, hb⟩
    · intro ρ w1 hF hW
      have HW := hidden hW
      clear hW
      obtain ⟨a25, c25, e25, hc25, hr25⟩ : ∃ a c, ρ 25 = .slice a (elems f).length c ∧ c ≤ maxLen ∧ Numbers w1 a f := hF 25 (by decide)
      clear hF
      have hq := text_of (c := c25) hr25
      unfold Does
      go_simp
      exact ⟨rfl, HW.out, Below.refl _ _⟩
    · intro ρ w1 hF hW
      have HW := hidden hW
      clear hW
      have e23 : ρ 23 = .string (strOfNums (numsOf f)) := hF 23 (by decide)
      have e26 : ρ 26 = .string (strOfNums (numsOf f)) := hF 26 (by decide)
      clear hF
      have hq := text_same (strOfNums (numsOf f))
      unfold Does
      go_simp
      exact ⟨rfl, HW.out, Below.refl _ _⟩
    · intro ρ w1 hF hW
      have HW := hidden hW
      clear hW
      have e20 : ρ 20 = .bool true := hF 20 (by decide)
      have e27 : ρ 27 = .bool true := hF 27 (by decide)
      clear hF
      unfold Does
      go_simp
      exact ⟨rfl, HW.out, Below.refl _ _⟩
    · intro ρ w1 hF hW
      have HW := hidden hW
      clear hW
      have e28 : ρ 28 = .bool true := hF 28 (by decide)
      clear hF
      unfold Does
      go_simp
      exact ⟨rfl, HW.out, Below.refl _ _⟩
    · intro ρ w1 hF hW
      have HW := hidden hW
      clear hW
      have e2 : ρ 2 = .pointer (some ⟨w.heap.size, 0, none⟩) := hF 2 (by decide)
      clear hF
      obtain ⟨c0, c1, c2, c3, _, _, _, _⟩ := HW.out.1.facts
      unfold Does
      go_simp
      exact ⟨rfl, HW.out, Below.refl _ _⟩
    · intro ρ w1 hF hW
      have HW := hidden hW
      clear hW
      have e30 : ρ 30 = (.agg #[.int .u64 (word (f) 0), .int .u64 (word (f) 1), .int .u64 (word (f) 2), .int .u64 (word (f) 3)]) := hF 30 (by decide)
      clear hF
      unfold Does
      go_simp
      refine (runs_calls f _ (HT.out.below HW.out.2)).mono ?_
      rintro e w2 ⟨v, rfl, hown, hb⟩
      exact ⟨_, rfl, pairsOf_row hown, Wm HW.out hb, hb⟩
    · intro ρ w1 hF hW
      have HW := hidden hW
      clear hW
      have e2 : ρ 2 = .pointer (some ⟨w.heap.size, 0, none⟩) := hF 2 (by decide)
      clear hF
      obtain ⟨c0, c1, c2, c3, _, _, _, _⟩ := HW.out.1.facts
      unfold Does
      go_simp
      exact ⟨rfl, HW.out, Below.refl _ _⟩
    · intro ρ w1 hF hW
      have HW := hidden hW
      clear hW
      have e32 : ρ 32 = (.agg #[.int .u64 (word (f) 0), .int .u64 (word (f) 1), .int .u64 (word (f) 2), .int .u64 (word (f) 3)]) := hF 32 (by decide)
      clear hF
      unfold Does
      go_simp
      refine (rruns_calls f _).mono ?_
      rintro e w2 ⟨v, rfl, hown, hb⟩
      exact ⟨_, rfl, pairsOf_row hown, Wm HW.out hb, hb⟩
    · intro ρ w1 hF hW
      have HW := hidden hW
      clear hW
      obtain ⟨a31, c31, e31, hr31⟩ : ∃ a c, ρ 31 = .slice a (runs f).length c ∧ Pairs w1 a (runs f) := hF 31 (by decide)
      obtain ⟨a33, c33, e33, hr33⟩ : ∃ a c, ρ 33 = .slice a (runs f).length c ∧ Pairs w1 a (runs f) := hF 33 (by decide)
      clear hF
      unfold Does
      go_simp
      refine (sameRuns_calls _ _ _ _ (runs f) _ (runs_le f) hr31 hr33).mono ?_
      rintro e w2 ⟨rfl, hb⟩
      exact ⟨_, rfl, rfl, Wm HW.out hb, hb⟩
    · intro ρ w1 hF hW
      have HW := hidden hW
      clear hW
      have e29 : ρ 29 = .bool true := hF 29 (by decide)
      have e34 : ρ 34 = .bool true := hF 34 (by decide)
      clear hF
      unfold Does
      go_simp
      exact ⟨rfl, HW.out, Below.refl _ _⟩
    · intro ρ w1 hF hW
      have HW := hidden hW
      clear hW
      have e35 : ρ 35 = .bool true := hF 35 (by decide)
      clear hF
      unfold Does
      go_simp
      exact ⟨rfl, HW.out, Below.refl _ _⟩
    · intro ρ w1 hF hW
      have HW := hidden hW
      clear hW
      have e2 : ρ 2 = .pointer (some ⟨w.heap.size, 0, none⟩) := hF 2 (by decide)
      clear hF
      obtain ⟨c0, c1, c2, c3, _, _, _, _⟩ := HW.out.1.facts
      unfold Does
      go_simp
      exact ⟨rfl, HW.out, Below.refl _ _⟩
    · intro ρ w1 hF hW
      have HW := hidden hW
      clear hW
      have e37 : ρ 37 = (.agg #[.int .u64 (word (f) 0), .int .u64 (word (f) 1), .int .u64 (word (f) 2), .int .u64 (word (f) 3)]) := hF 37 (by decide)
      clear hF
      unfold Does
      go_simp
      refine (first_calls f _ (HT.out.below HW.out.2)).mono ?_
      rintro e w2 ⟨rfl, hb⟩
      exact ⟨_, rfl, rfl, Wm HW.out hb, hb⟩
    · intro ρ w1 hF hW
      have HW := hidden hW
      clear hW
      have e2 : ρ 2 = .pointer (some ⟨w.heap.size, 0, none⟩) := hF 2 (by decide)
      clear hF
      obtain ⟨c0, c1, c2, c3, _, _, _, _⟩ := HW.out.1.facts
      unfold Does
      go_simp
      exact ⟨rfl, HW.out, Below.refl _ _⟩
    · intro ρ w1 hF hW
      have HW := hidden hW
      clear hW
      have e39 : ρ 39 = (.agg #[.int .u64 (word (f) 0), .int .u64 (word (f) 1), .int .u64 (word (f) 2), .int .u64 (word (f) 3)]) := hF 39 (by decide)
      clear hF
      unfold Does
      go_simp
      refine (rfirst_calls f _).mono ?_
      rintro e w2 ⟨rfl, hb⟩
      exact ⟨_, rfl, rfl, Wm HW.out hb, hb⟩
    · intro ρ w1 hF hW
      have HW := hidden hW
      clear hW
      have e38 : ρ 38 = .int .i64 (firstOf f) := hF 38 (by decide)
      have e40 : ρ 40 = .int .i64 (firstOf f) := hF 40 (by decide)
      clear hF
      unfold Does
      go_simp
      exact ⟨rfl, HW.out, Below.refl _ _⟩
    · intro ρ w1 hF hW
      have HW := hidden hW
      clear hW
      have e36 : ρ 36 = .bool true := hF 36 (by decide)
      have e41 : ρ 41 = .bool true := hF 41 (by decide)
      clear hF
      unfold Does
      go_simp
      exact ⟨rfl, HW.out, Below.refl _ _⟩
    · intro ρ w1 hF hW
      have HW := hidden hW
      clear hW
      have e42 : ρ 42 = .bool true := hF 42 (by decide)
      clear hF
      unfold Does
      go_simp
      exact ⟨rfl, HW.out, Below.refl _ _⟩
    · intro ρ w1 hF hW
      have HW := hidden hW
      clear hW
      clear hF
      unfold Does
      go_simp
      refine (knows_calls _ (HT.out.below HW.out.2)).mono ?_
      rintro e w2 ⟨rfl, hb⟩
      exact ⟨_, rfl, rfl, Wm HW.out hb, hb⟩
    · intro ρ w1 hF hW
      have HW := hidden hW
      clear hW
      have e43 : ρ 43 = .bool true := hF 43 (by decide)
      have e44 : ρ 44 = .bool true := hF 44 (by decide)
      clear hF
      unfold Does
      go_simp
      exact ⟨rfl, HW.out, Below.refl _ _⟩
    · intro ρ w1 hF hW
      have HW := hidden hW
      clear hW
      have e45 : ρ 45 = .bool true := hF 45 (by decide)
      clear hF
      unfold Does
      go_simp
      exact ⟨rfl, HW.out, Below.refl _ _⟩

set_option maxRecDepth 100000 in
theorem lifted (os : Os) (started : os.Started) (H : Type) (enc : TypeId × Value → H) :
    ReturnsInHanded {} Tryd.checked os 5 .any (fun w args => (Rows.bsetAsksSpec.pre enc Tryd.prog Tryd.f5 Rows.bsetAsksRow.domain false w args ∧ laidMetH Tryd.prog [("math/bits.deBruijn64tab", Rows.laid_math_bits_deBruijn64tab)] w) ∧ sizedMet enc Tryd.prog Tryd.f5 (OpenSpec.ofChange Rows.bsetAsksSpec) false w args)
      (Rows.bsetAsksSpec.post enc Tryd.prog Tryd.f5 false true false false) := by
  refine returnsInHanded_of_change_and (C := Tryd.checked) (X := fun w _ => laidMetH Tryd.prog [("math/bits.deBruijn64tab", Rows.laid_math_bits_deBruijn64tab)] w) (fun _ _ _ hh h => h.of_heap hh) own started (by kernel_rfl) Tryd.func5
    (ChangeSpec.witness_shaped (enc := enc) (C := Tryd.checked) (os := os) (X := fun w _ => laidMetH Tryd.prog [("math/bits.deBruijn64tab", Rows.laid_math_bits_deBruijn64tab)] w) false (World.laidAll Tryd.prog os [("math/bits.deBruijn64tab", Rows.laid_math_bits_deBruijn64tab)]) #[.agg #[.int .u64 0, .int .u64 0, .int .u64 0, .int .u64 0], .int .u8 0] 8 (World.laidAll_os _ _ _)
      (World.shaped_of_ZipB (by kernel_rfl) (by kernel_rfl)) (by kernel_rfl) (by kernel_rfl) (by kernel_rfl)
      (by rw [MakeChecks.laidMetH_plain _ _ _ (by kernel_rfl)]; exact laidMet_laidAll _ (by kernel_rfl) (by kernel_rfl))) ?_
  intro W base args ds gs before hval0 hW hcnd _ hL _
  have hval : ∀ (j : Nat) t v, Tryd.f5.params[j]? = some t → args[j]? = some v → Value.okWide Tryd.prog W .any base t v := hval0
  have hW' : DataW.Whole enc Tryd.prog Tryd.f5.params.toList Rows.bsetAsksSpec.vars false W args.toList ds gs before := hW
  obtain ⟨p, q, hA0, hV, rfl, hfz, hnd⟩ := hW
  have hA : DataW.TrodAll enc Tryd.prog W 0 (fun _ => true) true Tryd.f5.params.toList args.toList ds p := hA0
  have ht : Tab W := of_laid (by kernel_rfl) hL
  rw [Tryd.params5] at hA hval
  obtain ⟨v0, vs0, d0, ds0, p0, q0, hargs, hd0, hp0, h0, r0⟩ := trodAll_cons hA
  obtain ⟨v1, vs1, d1, ds1, p1, q1, rfl, hd1, hp1, h1, r1⟩ := trodAll_cons r0
  obtain ⟨rfl, _, _⟩ := trodAll_nil r1
  obtain rfl : args = #[v0, v1] := by cases args; simp_all
  obtain ⟨a0, rfl⟩ := open_set (hval 0 24 v0 rfl rfl) h0
  obtain ⟨a1, rfl, _, _, w1⟩ := open_int Tryd.underlying5 (hval 1 5 v1 rfl rfl) h1
  refine (walk a0 a1 W (wf_u8 w1) ht).mono fun e W' ⟨he, hb⟩ => ⟨_, he, ends_true hW' rfl (by kernel_rfl) ?_ (by kernel_rfl) hb⟩
  intro xs hxs
  match xs, hxs with
  | [_, _], _ => rfl

theorem proved : Rows.BsetAsksSaid :=
  OpenClaim.holds_of_wide 5 Tryd.f5 rfl rfl rfl rfl rfl rfl rfl ⟨rfl, rfl, rfl, rfl, rfl⟩ rfl rfl rfl rfl rfl (by kernel_rfl) Tryd.func5 (by kernel_rfl)
    (of_decide_eq_true (by kernel_rfl)) (by unfold Func.isWrapper; first | (rw [if_pos (by decide +kernel)]; kernel_rfl) | (rw [if_neg (by decide +kernel)]; exact ⟨rfl, rfl⟩))
    (fun os started H enc _ => lifted os started H enc)

/-- the card: the row, and what it lists tied to the program's text -/
theorem card : Rows.BsetAsksCardSaid :=
  Claim7.holds_tied_plain_at .later [] [.data] true (true, "f8465798789d2ebf5eadbdb88a9c49c3ba1d5e7ffe9215b4693a7ae1d8653d21") false
    proved (fun _ h => by cases h) (by kernel_rfl) (fun _ h => by cases h) bsetAsks_row_tie rfl ⟨rfl, rfl⟩ (by kernel_rfl) rfl
    (fun f fn hf hfn => by
      obtain rfl : f = 5 := Option.some.inj ((show Tryd.prog.funcNamed "facsimile/facsimilelaw02.BsetAsks" = some 5 by kernel_rfl).symm.trans hf) |>.symm
      obtain rfl : fn = Tryd.f5 := (Option.some.inj (Tryd.func5.symm.trans hfn)).symm
      exact ⟨by kernel_rfl, fun j t ht => by
        rw [Tryd.params5] at ht
        have hm : t ∈ [24, 5] := by simpa using Array.mem_of_getElem? ht
        have hall : ([24, 5].all fun u => !Tryd.prog.wantsStandIn u) = true := by kernel_rfl
        exact (show Tryd.prog.wantsStandIn t = false by simpa using List.all_eq_true.1 hall t hm)⟩)
    (by kernel_rfl)
end Go.Proofs.YtfnpepmbklclfaaDoor.lawBsetAsks
