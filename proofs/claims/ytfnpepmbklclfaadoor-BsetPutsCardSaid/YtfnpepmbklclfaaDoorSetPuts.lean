/- 'BsetPuts' answers true for every list of sets (of more than 60 the examples alone are asked) and every two sets: All, And, Minus, Not are the reference's. Conditions: the listed table of math/bits as it is laid (the card ties it). -/
import Derived.Test.YtfnpepmbklclfaaDoorSetSteps
namespace Go.Proofs.YtfnpepmbklclfaaDoor.lawBsetPuts
open Go.ChangeShapes Go.WideShapes Go.ChangeAt Go.RowKit
open Go.ChangeMaps (open_string shut_string)
attribute [local go_sem] evalR_tmp evalR_const evalR_global evalR_func

def L (a : Option Addr) (len cap : Nat) (fs : List (Nat → Bool)) (f g : Nat → Bool) : List (Value → World → Prop) := [
  Is (.slice a len cap), set (fAny fs), Is (.slice a len cap), set (fAny fs), isTrue, isTrue, set (f), set (g), set (fAnd f g), set (f), set (g), set (fTwo 1 f g), isTrue, isTrue, isTrue, set (f), set (g), set (fMinus f g), set (f), set (g), set (fTwo 2 f g), isTrue, isTrue, isTrue, set (f), set (fNot f), set (f), set (fNot f), isTrue, isTrue, isTrue, isTrue, isTrue, isTrue]

set_option maxHeartbeats 2000000 in
set_option maxRecDepth 100000 in
theorem walk (a : Option Addr) (len cap : Nat) (fs : List (Nat → Bool)) (f g : Nat → Bool) (w : World) (hs : cap ≤ maxLen ∧ len ≤ cap ∧ Sets w a len fs) (ht : Tab w) :
    Calls Tryd.prog 4 #[.slice a len cap, (.agg #[.int .u64 (word (f) 0), .int .u64 (word (f) 1), .int .u64 (word (f) 2), .int .u64 (word (f) 3)]), (.agg #[.int .u64 (word (g) 0), .int .u64 (word (g) 1), .int .u64 (word (g) 2), .int .u64 (word (g) 3)])] w fun e w' => e = .returned (.bool true) ∧ Below w.heap.size w w' := by
  have HT := hidden ht
  have HF := hidden hs.2.2
  have hl : len ≤ 9223372036854775807 := by
    have := hs.1
    unfold maxLen at this
    omega
  clear ht hs
  by_cases h60 : 60 < len
  · go_enter Tryd.func4, Tryd.ntmps4
    go_wp2_with fail
    refine (knows_calls _ ((HT.out.alloc _).alloc _)).mono ?_
    rintro e w1 ⟨rfl, hb1⟩
    go_wp2
    go_ret
    exact ⟨rfl, below_then (by go_grown) (by simp; omega) hb1⟩
  · go_enter Tryd.func4, Tryd.ntmps4
    go_wp2
    refine wp_region_steps (typ (L a len cap fs f g)) (W w f g) (by kernel_rfl) (by kernel_rfl) (by kernel_rfl) (by kernel_rfl) ?mono ?start [5, 14, 23, 30] (by kernel_rfl) ?guards ?step ?fin
    case mono =>
      refine typ_mono ?_
      simp only [L, List.forall_mem_cons]
      repeat' (first | exact is_mono _ | (intro p hp; cases hp; done) | refine And.intro ?_ ?_)
    case start => exact ⟨((SetAt.new w f).alloc _).drew, (SetAt.newAt _ g _ (by simp)).drew, by go_grown⟩
    case guards =>
      intro g hg v w h
      simp at hg
      rcases hg with rfl | rfl | rfl | rfl <;> exact h
    case fin =>
      intro a w1 hs hv hW
      rename_i Q' K hK
      refine hK a w1 ?_
      have h6 : a.tmps.getD 6 undef = .bool true := hv 33 6 (by kernel_rfl)
      have hd := hs.defers
      go_wp2
      refine bodyPost_ret (results_tmp rfl _ _ _) hd ?_
      rw [h6]
      exact ⟨rfl, hW.2.2⟩
    case step =>
      refine ⟨?_, ?_, ?_, ?_, ?_, ?_, ?_, ?_, ?_, ?_, ?_, ?_, ?_, ?_, ?_, ?_, ?_, ?_, ?_, ?_, ?_, ?_, ?_, ?_, ?_, ?_, ?_, ?_, ?_, ?_, ?_, ?_, ?_, ?_, trivial⟩
      · intro ρ w1 hF hW
        have HW := hidden hW
        clear hW
        have e0 : ρ 0 = .slice a len cap := hF 0 (by decide)
        clear hF
        unfold Does
        go_simp
        exact ⟨rfl, HW.out, Below.refl _ _⟩
      · intro ρ w1 hF hW
        have HW := hidden hW
        clear hW
        have e11 : ρ 11 = .slice a len cap := hF 11 (by decide)
        clear hF
        unfold Does
        go_simp
        refine (all_calls _ len cap fs _ hl (sets_mono HF.out HW.out.2.2)).mono ?_
        rintro e w2 ⟨rfl, hb⟩
        exact ⟨_, rfl, rfl, Wm HW.out hb, hb⟩
      · intro ρ w1 hF hW
        have HW := hidden hW
        clear hW
        have e0 : ρ 0 = .slice a len cap := hF 0 (by decide)
        clear hF
        unfold Does
        go_simp
        exact ⟨rfl, HW.out, Below.refl _ _⟩
      · intro ρ w1 hF hW
        have HW := hidden hW
        clear hW
        have e13 : ρ 13 = .slice a len cap := hF 13 (by decide)
        clear hF
        unfold Does
        go_simp
        refine (rall_calls _ len cap fs _ hl (sets_mono HF.out HW.out.2.2)).mono ?_
        rintro e w2 ⟨rfl, hb⟩
        exact ⟨_, rfl, rfl, Wm HW.out hb, hb⟩
      · intro ρ w1 hF hW
        have HW := hidden hW
        clear hW
        have e12 : ρ 12 = (.agg #[.int .u64 (word (fAny fs) 0), .int .u64 (word (fAny fs) 1), .int .u64 (word (fAny fs) 2), .int .u64 (word (fAny fs) 3)]) := hF 12 (by decide)
        have e14 : ρ 14 = (.agg #[.int .u64 (word (fAny fs) 0), .int .u64 (word (fAny fs) 1), .int .u64 (word (fAny fs) 2), .int .u64 (word (fAny fs) 3)]) := hF 14 (by decide)
        clear hF
        have hq := eqT w1 (fun _ _ => rfl : ∀ n, n < 256 → fAny fs n = fAny fs n)
        unfold Does
        go_simp
        exact ⟨rfl, HW.out, Below.refl _ _⟩
      · intro ρ w1 hF hW
        have HW := hidden hW
        clear hW
        have e15 : ρ 15 = .bool true := hF 15 (by decide)
        clear hF
        unfold Does
        go_simp
        exact ⟨rfl, HW.out, Below.refl _ _⟩
      · intro ρ w1 hF hW
        have HW := hidden hW
        clear hW
        have e4 : ρ 4 = .pointer (some ⟨w.heap.size, 0, none⟩) := hF 4 (by decide)
        clear hF
        obtain ⟨c0, c1, c2, c3, _, _, _, _⟩ := HW.out.1.facts
        unfold Does
        go_simp
        exact ⟨rfl, HW.out, Below.refl _ _⟩
      · intro ρ w1 hF hW
        have HW := hidden hW
        clear hW
        have e5 : ρ 5 = .pointer (some ⟨w.heap.size + 1, 0, none⟩) := hF 5 (by decide)
        clear hF
        obtain ⟨c0, c1, c2, c3, _, _, _, _⟩ := HW.out.2.1.facts
        unfold Does
        go_simp
        exact ⟨rfl, HW.out, Below.refl _ _⟩
      · intro ρ w1 hF hW
        have HW := hidden hW
        clear hW
        have e17 : ρ 17 = (.agg #[.int .u64 (word (f) 0), .int .u64 (word (f) 1), .int .u64 (word (f) 2), .int .u64 (word (f) 3)]) := hF 17 (by decide)
        have e18 : ρ 18 = (.agg #[.int .u64 (word (g) 0), .int .u64 (word (g) 1), .int .u64 (word (g) 2), .int .u64 (word (g) 3)]) := hF 18 (by decide)
        clear hF
        unfold Does
        go_simp
        refine (and_calls _ _ _).mono ?_
        rintro e w2 ⟨rfl, hb⟩
        exact ⟨_, rfl, rfl, Wm HW.out hb, hb⟩
      · intro ρ w1 hF hW
        have HW := hidden hW
        clear hW
        have e4 : ρ 4 = .pointer (some ⟨w.heap.size, 0, none⟩) := hF 4 (by decide)
        clear hF
        obtain ⟨c0, c1, c2, c3, _, _, _, _⟩ := HW.out.1.facts
        unfold Does
        go_simp
        exact ⟨rfl, HW.out, Below.refl _ _⟩
      · intro ρ w1 hF hW
        have HW := hidden hW
        clear hW
        have e5 : ρ 5 = .pointer (some ⟨w.heap.size + 1, 0, none⟩) := hF 5 (by decide)
        clear hF
        obtain ⟨c0, c1, c2, c3, _, _, _, _⟩ := HW.out.2.1.facts
        unfold Does
        go_simp
        exact ⟨rfl, HW.out, Below.refl _ _⟩
      · intro ρ w1 hF hW
        have HW := hidden hW
        clear hW
        have e20 : ρ 20 = (.agg #[.int .u64 (word (f) 0), .int .u64 (word (f) 1), .int .u64 (word (f) 2), .int .u64 (word (f) 3)]) := hF 20 (by decide)
        have e21 : ρ 21 = (.agg #[.int .u64 (word (g) 0), .int .u64 (word (g) 1), .int .u64 (word (g) 2), .int .u64 (word (g) 3)]) := hF 21 (by decide)
        clear hF
        unfold Does
        go_simp
        refine (two_calls 1 _ _ _ (by simp)).mono ?_
        rintro e w2 ⟨rfl, hb⟩
        exact ⟨_, rfl, rfl, Wm HW.out hb, hb⟩
      · intro ρ w1 hF hW
        have HW := hidden hW
        clear hW
        have e19 : ρ 19 = (.agg #[.int .u64 (word (fAnd f g) 0), .int .u64 (word (fAnd f g) 1), .int .u64 (word (fAnd f g) 2), .int .u64 (word (fAnd f g) 3)]) := hF 19 (by decide)
        have e22 : ρ 22 = (.agg #[.int .u64 (word (fTwo 1 f g) 0), .int .u64 (word (fTwo 1 f g) 1), .int .u64 (word (fTwo 1 f g) 2), .int .u64 (word (fTwo 1 f g) 3)]) := hF 22 (by decide)
        clear hF
        have hq := eqT w1 (fun n _ => by simp [fTwo, fAnd] : ∀ n, n < 256 → fAnd f g n = fTwo 1 f g n)
        unfold Does
        go_simp
        exact ⟨rfl, HW.out, Below.refl _ _⟩
      · intro ρ w1 hF hW
        have HW := hidden hW
        clear hW
        have e16 : ρ 16 = .bool true := hF 16 (by decide)
        have e23 : ρ 23 = .bool true := hF 23 (by decide)
        clear hF
        unfold Does
        go_simp
        exact ⟨rfl, HW.out, Below.refl _ _⟩
      · intro ρ w1 hF hW
        have HW := hidden hW
        clear hW
        have e24 : ρ 24 = .bool true := hF 24 (by decide)
        clear hF
        unfold Does
        go_simp
        exact ⟨rfl, HW.out, Below.refl _ _⟩
      · intro ρ w1 hF hW
        have HW := hidden hW
        clear hW
        have e4 : ρ 4 = .pointer (some ⟨w.heap.size, 0, none⟩) := hF 4 (by decide)
        clear hF
        obtain ⟨c0, c1, c2, c3, _, _, _, _⟩ := HW.out.1.facts
        unfold Does
        go_simp
        exact ⟨rfl, HW.out, Below.refl _ _⟩
      · intro ρ w1 hF hW
        have HW := hidden hW
        clear hW
        have e5 : ρ 5 = .pointer (some ⟨w.heap.size + 1, 0, none⟩) := hF 5 (by decide)
        clear hF
        obtain ⟨c0, c1, c2, c3, _, _, _, _⟩ := HW.out.2.1.facts
        unfold Does
        go_simp
        exact ⟨rfl, HW.out, Below.refl _ _⟩
      · intro ρ w1 hF hW
        have HW := hidden hW
        clear hW
        have e26 : ρ 26 = (.agg #[.int .u64 (word (f) 0), .int .u64 (word (f) 1), .int .u64 (word (f) 2), .int .u64 (word (f) 3)]) := hF 26 (by decide)
        have e27 : ρ 27 = (.agg #[.int .u64 (word (g) 0), .int .u64 (word (g) 1), .int .u64 (word (g) 2), .int .u64 (word (g) 3)]) := hF 27 (by decide)
        clear hF
        unfold Does
        go_simp
        refine (minus_calls _ _ _).mono ?_
        rintro e w2 ⟨rfl, hb⟩
        exact ⟨_, rfl, rfl, Wm HW.out hb, hb⟩
      · intro ρ w1 hF hW
        have HW := hidden hW
        clear hW
        have e4 : ρ 4 = .pointer (some ⟨w.heap.size, 0, none⟩) := hF 4 (by decide)
        clear hF
        obtain ⟨c0, c1, c2, c3, _, _, _, _⟩ := HW.out.1.facts
        unfold Does
        go_simp
        exact ⟨rfl, HW.out, Below.refl _ _⟩
      · intro ρ w1 hF hW
        have HW := hidden hW
        clear hW
        have e5 : ρ 5 = .pointer (some ⟨w.heap.size + 1, 0, none⟩) := hF 5 (by decide)
        clear hF
        obtain ⟨c0, c1, c2, c3, _, _, _, _⟩ := HW.out.2.1.facts
        unfold Does
        go_simp
        exact ⟨rfl, HW.out, Below.refl _ _⟩
      · intro ρ w1 hF hW
        have HW := hidden hW
        clear hW
        have e29 : ρ 29 = (.agg #[.int .u64 (word (f) 0), .int .u64 (word (f) 1), .int .u64 (word (f) 2), .int .u64 (word (f) 3)]) := hF 29 (by decide)
        have e30 : ρ 30 = (.agg #[.int .u64 (word (g) 0), .int .u64 (word (g) 1), .int .u64 (word (g) 2), .int .u64 (word (g) 3)]) := hF 30 (by decide)
        clear hF
        unfold Does
        go_simp
        refine (two_calls 2 _ _ _ (by simp)).mono ?_
        rintro e w2 ⟨rfl, hb⟩
        exact ⟨_, rfl, rfl, Wm HW.out hb, hb⟩
      · intro ρ w1 hF hW
        have HW := hidden hW
        clear hW
        have e28 : ρ 28 = (.agg #[.int .u64 (word (fMinus f g) 0), .int .u64 (word (fMinus f g) 1), .int .u64 (word (fMinus f g) 2), .int .u64 (word (fMinus f g) 3)]) := hF 28 (by decide)
        have e31 : ρ 31 = (.agg #[.int .u64 (word (fTwo 2 f g) 0), .int .u64 (word (fTwo 2 f g) 1), .int .u64 (word (fTwo 2 f g) 2), .int .u64 (word (fTwo 2 f g) 3)]) := hF 31 (by decide)
        clear hF
        have hq := eqT w1 (fun n _ => by simp [fTwo, fMinus] : ∀ n, n < 256 → fMinus f g n = fTwo 2 f g n)
        unfold Does
        go_simp
        exact ⟨rfl, HW.out, Below.refl _ _⟩
      · intro ρ w1 hF hW
        have HW := hidden hW
        clear hW
        have e25 : ρ 25 = .bool true := hF 25 (by decide)
        have e32 : ρ 32 = .bool true := hF 32 (by decide)
        clear hF
        unfold Does
        go_simp
        exact ⟨rfl, HW.out, Below.refl _ _⟩
      · intro ρ w1 hF hW
        have HW := hidden hW
        clear hW
        have e33 : ρ 33 = .bool true := hF 33 (by decide)
        clear hF
        unfold Does
        go_simp
        exact ⟨rfl, HW.out, Below.refl _ _⟩
      · intro ρ w1 hF hW
        have HW := hidden hW
        clear hW
        have e4 : ρ 4 = .pointer (some ⟨w.heap.size, 0, none⟩) := hF 4 (by decide)
        clear hF
        obtain ⟨c0, c1, c2, c3, _, _, _, _⟩ := HW.out.1.facts
        unfold Does
        go_simp
        exact ⟨rfl, HW.out, Below.refl _ _⟩
      · intro ρ w1 hF hW
        have HW := hidden hW
        clear hW
        have e35 : ρ 35 = (.agg #[.int .u64 (word (f) 0), .int .u64 (word (f) 1), .int .u64 (word (f) 2), .int .u64 (word (f) 3)]) := hF 35 (by decide)
        clear hF
        unfold Does
        go_simp
        refine (not_calls _ _).mono ?_
        rintro e w2 ⟨rfl, hb⟩
        exact ⟨_, rfl, rfl, Wm HW.out hb, hb⟩
      · intro ρ w1 hF hW
        have HW := hidden hW
        clear hW
        have e4 : ρ 4 = .pointer (some ⟨w.heap.size, 0, none⟩) := hF 4 (by decide)
        clear hF
        obtain ⟨c0, c1, c2, c3, _, _, _, _⟩ := HW.out.1.facts
        unfold Does
        go_simp
        exact ⟨rfl, HW.out, Below.refl _ _⟩
      · intro ρ w1 hF hW
        have HW := hidden hW
        clear hW
        have e37 : ρ 37 = (.agg #[.int .u64 (word (f) 0), .int .u64 (word (f) 1), .int .u64 (word (f) 2), .int .u64 (word (f) 3)]) := hF 37 (by decide)
        clear hF
        unfold Does
        go_simp
        refine (rnot_calls _ _).mono ?_
        rintro e w2 ⟨rfl, hb⟩
        exact ⟨_, rfl, rfl, Wm HW.out hb, hb⟩
      · intro ρ w1 hF hW
        have HW := hidden hW
        clear hW
        have e36 : ρ 36 = (.agg #[.int .u64 (word (fNot f) 0), .int .u64 (word (fNot f) 1), .int .u64 (word (fNot f) 2), .int .u64 (word (fNot f) 3)]) := hF 36 (by decide)
        have e38 : ρ 38 = (.agg #[.int .u64 (word (fNot f) 0), .int .u64 (word (fNot f) 1), .int .u64 (word (fNot f) 2), .int .u64 (word (fNot f) 3)]) := hF 38 (by decide)
        clear hF
        have hq := eqT w1 (fun _ _ => rfl : ∀ n, n < 256 → fNot f n = fNot f n)
        unfold Does
        go_simp
        exact ⟨rfl, HW.out, Below.refl _ _⟩
      · intro ρ w1 hF hW
        have HW := hidden hW
        clear hW
        have e34 : ρ 34 = .bool true := hF 34 (by decide)
        have e39 : ρ 39 = .bool true := hF 39 (by decide)
        clear hF
        unfold Does
        go_simp
        exact ⟨rfl, HW.out, Below.refl _ _⟩
      · intro ρ w1 hF hW
        have HW := hidden hW
        clear hW
        have e40 : ρ 40 = .bool true := hF 40 (by decide)
        clear hF
        unfold Does
        go_simp
        exact ⟨rfl, HW.out, Below.refl _ _⟩
      · intro ρ w1 hF hW
        have HW := hidden hW
        clear hW
        clear hF
        unfold Does
        go_simp
        refine (knows_calls _ (HT.out.below HW.out.2.2)).mono ?_
        rintro e w2 ⟨rfl, hb⟩
        exact ⟨_, rfl, rfl, Wm HW.out hb, hb⟩
      · intro ρ w1 hF hW
        have HW := hidden hW
        clear hW
        have e41 : ρ 41 = .bool true := hF 41 (by decide)
        have e42 : ρ 42 = .bool true := hF 42 (by decide)
        clear hF
        unfold Does
        go_simp
        exact ⟨rfl, HW.out, Below.refl _ _⟩
      · intro ρ w1 hF hW
        have HW := hidden hW
        clear hW
        have e43 : ρ 43 = .bool true := hF 43 (by decide)
        clear hF
        unfold Does
        go_simp
        exact ⟨rfl, HW.out, Below.refl _ _⟩

set_option maxRecDepth 100000 in
theorem lifted (os : Os) (started : os.Started) (H : Type) (enc : TypeId × Value → H) :
    ReturnsInHanded {} Tryd.checked os 4 .any (fun w args => (Rows.bsetPutsSpec.pre enc Tryd.prog Tryd.f4 Rows.bsetPutsRow.domain false w args ∧ laidMetH Tryd.prog [("math/bits.deBruijn64tab", Rows.laid_math_bits_deBruijn64tab)] w) ∧ sizedMet enc Tryd.prog Tryd.f4 (OpenSpec.ofChange Rows.bsetPutsSpec) false w args)
      (Rows.bsetPutsSpec.post enc Tryd.prog Tryd.f4 false true false false) := by
  refine returnsInHanded_of_change_and (C := Tryd.checked) (X := fun w _ => laidMetH Tryd.prog [("math/bits.deBruijn64tab", Rows.laid_math_bits_deBruijn64tab)] w) (fun _ _ _ hh h => h.of_heap hh) own started (by kernel_rfl) Tryd.func4
    (ChangeSpec.witness_shaped (enc := enc) (C := Tryd.checked) (os := os) (X := fun w _ => laidMetH Tryd.prog [("math/bits.deBruijn64tab", Rows.laid_math_bits_deBruijn64tab)] w) false (World.laidAll Tryd.prog os [("math/bits.deBruijn64tab", Rows.laid_math_bits_deBruijn64tab)]) #[.slice none 0 0, .agg #[.int .u64 0, .int .u64 0, .int .u64 0, .int .u64 0], .agg #[.int .u64 0, .int .u64 0, .int .u64 0, .int .u64 0]] 8 (World.laidAll_os _ _ _)
      (World.shaped_of_ZipB (by kernel_rfl) (by kernel_rfl)) (by kernel_rfl) (by kernel_rfl) (by kernel_rfl)
      (by rw [MakeChecks.laidMetH_plain _ _ _ (by kernel_rfl)]; exact laidMet_laidAll _ (by kernel_rfl) (by kernel_rfl))) ?_
  intro W base args ds gs before hval0 hW hcnd _ hL _
  have hval : ∀ (j : Nat) t v, Tryd.f4.params[j]? = some t → args[j]? = some v → Value.okWide Tryd.prog W .any base t v := hval0
  have hW' : DataW.Whole enc Tryd.prog Tryd.f4.params.toList Rows.bsetPutsSpec.vars false W args.toList ds gs before := hW
  obtain ⟨p, q, hA0, hV, rfl, hfz, hnd⟩ := hW
  have hA : DataW.TrodAll enc Tryd.prog W 0 (fun _ => true) true Tryd.f4.params.toList args.toList ds p := hA0
  have ht : Tab W := of_laid (by kernel_rfl) hL
  rw [Tryd.params4] at hA hval
  obtain ⟨v0, vs0, d0, ds0, p0, q0, hargs, hd0, hp0, h0, r0⟩ := trodAll_cons hA
  obtain ⟨v1, vs1, d1, ds1, p1, q1, rfl, hd1, hp1, h1, r1⟩ := trodAll_cons r0
  obtain ⟨v2, vs2, d2, ds2, p2, q2, rfl, hd2, hp2, h2, r2⟩ := trodAll_cons r1
  obtain ⟨rfl, _, _⟩ := trodAll_nil r2
  obtain rfl : args = #[v0, v1, v2] := by cases args; simp_all
  obtain ⟨a0, len0, cap0, rfl⟩ := okWide_slice Tryd.underlying29 (hval 0 29 v0 rfl rfl)
  obtain ⟨z0, w0⟩ := open_sets h0
  obtain ⟨a1, rfl⟩ := open_set (hval 1 24 v1 rfl rfl) h1
  obtain ⟨a2, rfl⟩ := open_set (hval 2 24 v2 rfl rfl) h2
  refine (walk a0 len0 cap0 z0 a1 a2 W w0 ht).mono fun e W' ⟨he, hb⟩ => ⟨_, he, ends_true hW' rfl (by kernel_rfl) ?_ (by kernel_rfl) hb⟩
  intro xs hxs
  match xs, hxs with
  | [_, _, _], _ => rfl

theorem proved : Rows.BsetPutsSaid :=
  OpenClaim.holds_of_wide 4 Tryd.f4 rfl rfl rfl rfl rfl rfl rfl ⟨rfl, rfl, rfl, rfl, rfl⟩ rfl rfl rfl rfl rfl (by kernel_rfl) Tryd.func4 (by kernel_rfl)
    (of_decide_eq_true (by kernel_rfl)) (by unfold Func.isWrapper; first | (rw [if_pos (by decide +kernel)]; kernel_rfl) | (rw [if_neg (by decide +kernel)]; exact ⟨rfl, rfl⟩))
    (fun os started H enc _ => lifted os started H enc)

/-- the card: the row, and what it lists tied to the program's text -/
theorem card : Rows.BsetPutsCardSaid :=
  Claim7.holds_tied_plain_at .later [] [.data] true (true, "f8465798789d2ebf5eadbdb88a9c49c3ba1d5e7ffe9215b4693a7ae1d8653d21") false
    proved (fun _ h => by cases h) (by kernel_rfl) (fun _ h => by cases h) bsetPuts_row_tie rfl ⟨rfl, rfl⟩ (by kernel_rfl) rfl
    (fun f fn hf hfn => by
      obtain rfl : f = 4 := Option.some.inj ((show Tryd.prog.funcNamed "facsimile/facsimilelaw02.BsetPuts" = some 4 by kernel_rfl).symm.trans hf) |>.symm
      obtain rfl : fn = Tryd.f4 := (Option.some.inj (Tryd.func4.symm.trans hfn)).symm
      exact ⟨by kernel_rfl, fun j t ht => by
        rw [Tryd.params4] at ht
        have hm : t ∈ [29, 24, 24] := by simpa using Array.mem_of_getElem? ht
        have hall : ([29, 24, 24].all fun u => !Tryd.prog.wantsStandIn u) = true := by kernel_rfl
        exact (show Tryd.prog.wantsStandIn t = false by simpa using List.all_eq_true.1 hall t hm)⟩)
    (by kernel_rfl)
end Go.Proofs.YtfnpepmbklclfaaDoor.lawBsetPuts
