/- 'BsetTurned' answers true for every two sets and every byte: Not of All is And of the Nots, Not of Not is the set, Minus is And with Not, Has of Not is not Has. Conditions: the listed table of math/bits as it is laid (the card ties it). -/
import Derived.Test.YtfnpepmbklclfaaDoorSetSteps
namespace Go.Proofs.YtfnpepmbklclfaaDoor.lawBsetTurned
open Go.ChangeShapes Go.WideShapes Go.ChangeAt Go.RowKit
open Go.ChangeMaps (open_string shut_string)
attribute [local go_sem] evalR_tmp evalR_const evalR_global evalR_func

def L (f g : Nat → Bool) (n : Nat) : List (Value → World → Prop) := [
  set (f), set (g), fun v w => ∃ a, v = .slice a 2 2 ∧ Sets w a 2 [f, g], set (fAny [f, g]), set (fNot (fAny [f, g])), set (f), set (fNot f), set (g), set (fNot g), set (fAnd (fNot f) (fNot g)), isTrue, isTrue, set (f), set (fNot f), set (fNot (fNot f)), set (f), isTrue, isTrue, isTrue, set (f), set (g), set (fMinus f g), set (f), set (g), set (fNot g), set (fAnd f (fNot g)), isTrue, isTrue, isTrue, set (f), set (fNot f), Is (.int .u8 n), Is (.bool (fNot f n)), set (f), Is (.int .u8 n), Is (.bool (f n)), isTrue, isTrue, isTrue, isTrue, isTrue, isTrue]
set_option maxHeartbeats 2000000 in
set_option maxRecDepth 100000 in
theorem walk (f g : Nat → Bool) (b : Int) (w : World) (hb : 0 ≤ b ∧ b ≤ 255) (ht : Tab w) :
    Calls Tryd.prog 6 #[(.agg #[.int .u64 (word (f) 0), .int .u64 (word (f) 1), .int .u64 (word (f) 2), .int .u64 (word (f) 3)]), (.agg #[.int .u64 (word (g) 0), .int .u64 (word (g) 1), .int .u64 (word (g) 2), .int .u64 (word (g) 3)]), .int .u8 b] w fun e w' => e = .returned (.bool true) ∧ Below w.heap.size w w' := by
  have HT := hidden ht
  obtain ⟨n, rfl⟩ := Int.eq_ofNat_of_zero_le hb.1
  have hn : n < 256 := by omega
  clear ht hb
  go_enter Tryd.func6, Tryd.ntmps6
  go_wp2
  refine wp_region_steps (typ (L f g n)) (W w f g) (by kernel_rfl) (by kernel_rfl) (by kernel_rfl) (by kernel_rfl) ?mono ?start [11, 18, 28, 38] (by kernel_rfl) ?guards ?step ?fin
  case mono =>
    refine typ_mono ?_
    simp only [L, List.forall_mem_cons]
    repeat' (first | exact is_mono _ | (intro p hp; cases hp; done) | refine And.intro ?_ ?_)
    rintro v w w' ⟨a, rfl, h⟩ hb
    exact ⟨a, rfl, sets_mono h hb⟩
  case start => exact ⟨((SetAt.new w f).alloc _).drew, (SetAt.newAt _ g _ (by simp)).drew, by go_grown⟩
  case guards =>
    intro g hg v w h
    simp at hg
    rcases hg with rfl | rfl | rfl | rfl <;> exact h
  case fin =>
    intro a w1 hs hv hW
    rename_i Q' K hK
    refine hK a w1 ?_
    have h6 : a.tmps.getD 6 undef = .bool true := hv 41 6 (by kernel_rfl)
    have hd := hs.defers
    go_wp2
    refine bodyPost_ret (results_tmp rfl _ _ _) hd ?_
    rw [h6]
    exact ⟨rfl, hW.2.2⟩
  case step =>
    refine ⟨?_, ?_, ?_, ?_, ?_, ?_, ?_, ?_, ?_, ?_, ?_, ?_, ?_, ?_, ?_, ?_, ?_, ?_, ?_, ?_, ?_, ?_, ?_, ?_, ?_, ?_, ?_, ?_, ?_, ?_, ?_, ?_, ?_, ?_, ?_, ?_, ?_, ?_, ?_, ?_, ?_, ?_, trivial⟩
    · intro ρ w1 hF hW
      have HW := hidden hW
      clear hW
      have e3 : ρ 3 = .pointer (some ⟨w.heap.size, 0, none⟩) := hF 3 (by decide)
      clear hF
      obtain ⟨c0, c1, c2, c3, _, _, _, _⟩ := HW.out.1.facts
      unfold Does
      go_simp
      exact ⟨rfl, HW.out, Below.refl _ _⟩
    · intro ρ w1 hF hW
      have HW := hidden hW
      clear hW
      have e4 : ρ 4 = .pointer (some ⟨w.heap.size + 1, 0, none⟩) := hF 4 (by decide)
      clear hF
      obtain ⟨c0, c1, c2, c3, _, _, _, _⟩ := HW.out.2.1.facts
      unfold Does
      go_simp
      exact ⟨rfl, HW.out, Below.refl _ _⟩
    · intro ρ w1 hF hW
      have HW := hidden hW
      clear hW
      have e7 : ρ 7 = (.agg #[.int .u64 (word (f) 0), .int .u64 (word (f) 1), .int .u64 (word (f) 2), .int .u64 (word (f) 3)]) := hF 7 (by decide)
      have e8 : ρ 8 = (.agg #[.int .u64 (word (g) 0), .int .u64 (word (g) 1), .int .u64 (word (g) 2), .int .u64 (word (g) 3)]) := hF 8 (by decide)
      clear hF
      unfold Does
      go_simp
      exact ⟨⟨_, rfl, sets_two w1 f g _⟩, Wm HW.out ((Below.refl _ _).alloc (Nat.le_refl _) _), (Below.refl _ _).alloc (Nat.le_refl _) _⟩
    · intro ρ w1 hF hW
      have HW := hidden hW
      clear hW
      obtain ⟨a, e9, hs⟩ : ∃ a, ρ 9 = .slice a 2 2 ∧ Sets w1 a 2 [f, g] := hF 9 (by decide)
      clear hF
      unfold Does
      go_simp
      refine (all_calls _ 2 2 [f, g] _ (by omega) hs).mono ?_
      rintro e w2 ⟨rfl, hb⟩
      exact ⟨_, rfl, rfl, Wm HW.out hb, hb⟩
    · intro ρ w1 hF hW
      have HW := hidden hW
      clear hW
      have e10 : ρ 10 = (.agg #[.int .u64 (word (fAny [f, g]) 0), .int .u64 (word (fAny [f, g]) 1), .int .u64 (word (fAny [f, g]) 2), .int .u64 (word (fAny [f, g]) 3)]) := hF 10 (by decide)
      clear hF
      unfold Does
      go_simp
      refine (not_calls _ _).mono ?_
      rintro e w2 ⟨rfl, hb⟩
      exact ⟨_, rfl, rfl, Wm HW.out hb, hb⟩
    · intro ρ w1 hF hW
      have HW := hidden hW
      clear hW
      have e3 : ρ 3 = .pointer (some ⟨w.heap.size, 0, none⟩) := hF 3 (by decide)
      clear hF
      obtain ⟨c0, c1, c2, c3, _, _, _, _⟩ := HW.out.1.facts
      unfold Does
      go_simp
      exact ⟨rfl, HW.out, Below.refl _ _⟩
    · intro ρ w1 hF hW
      have HW := hidden hW
      clear hW
      have e12 : ρ 12 = (.agg #[.int .u64 (word (f) 0), .int .u64 (word (f) 1), .int .u64 (word (f) 2), .int .u64 (word (f) 3)]) := hF 12 (by decide)
      clear hF
      unfold Does
      go_simp
      refine (not_calls _ _).mono ?_
      rintro e w2 ⟨rfl, hb⟩
      exact ⟨_, rfl, rfl, Wm HW.out hb, hb⟩
    · intro ρ w1 hF hW
      have HW := hidden hW
      clear hW
      have e4 : ρ 4 = .pointer (some ⟨w.heap.size + 1, 0, none⟩) := hF 4 (by decide)
      clear hF
      obtain ⟨c0, c1, c2, c3, _, _, _, _⟩ := HW.out.2.1.facts
      unfold Does
      go_simp
      exact ⟨rfl, HW.out, Below.refl _ _⟩
    · intro ρ w1 hF hW
      have HW := hidden hW
      clear hW
      have e14 : ρ 14 = (.agg #[.int .u64 (word (g) 0), .int .u64 (word (g) 1), .int .u64 (word (g) 2), .int .u64 (word (g) 3)]) := hF 14 (by decide)
      clear hF
      unfold Does
      go_simp
      refine (not_calls _ _).mono ?_
      rintro e w2 ⟨rfl, hb⟩
      exact ⟨_, rfl, rfl, Wm HW.out hb, hb⟩
    · intro ρ w1 hF hW
      have HW := hidden hW
      clear hW
      have e13 : ρ 13 = (.agg #[.int .u64 (word (fNot f) 0), .int .u64 (word (fNot f) 1), .int .u64 (word (fNot f) 2), .int .u64 (word (fNot f) 3)]) := hF 13 (by decide)
      have e15 : ρ 15 = (.agg #[.int .u64 (word (fNot g) 0), .int .u64 (word (fNot g) 1), .int .u64 (word (fNot g) 2), .int .u64 (word (fNot g) 3)]) := hF 15 (by decide)
      clear hF
      unfold Does
      go_simp
      refine (and_calls _ _ _).mono ?_
      rintro e w2 ⟨rfl, hb⟩
      exact ⟨_, rfl, rfl, Wm HW.out hb, hb⟩
    · intro ρ w1 hF hW
      have HW := hidden hW
      clear hW
      have e11 : ρ 11 = (.agg #[.int .u64 (word (fNot (fAny [f, g])) 0), .int .u64 (word (fNot (fAny [f, g])) 1), .int .u64 (word (fNot (fAny [f, g])) 2), .int .u64 (word (fNot (fAny [f, g])) 3)]) := hF 11 (by decide)
      have e16 : ρ 16 = (.agg #[.int .u64 (word (fAnd (fNot f) (fNot g)) 0), .int .u64 (word (fAnd (fNot f) (fNot g)) 1), .int .u64 (word (fAnd (fNot f) (fNot g)) 2), .int .u64 (word (fAnd (fNot f) (fNot g)) 3)]) := hF 16 (by decide)
      clear hF
      have hq := eqT w1 (fun n _ => by simp [fNot, fAny, fAnd] : ∀ n, n < 256 → fNot (fAny [f, g]) n = fAnd (fNot f) (fNot g) n)
      unfold Does
      go_simp
      exact ⟨rfl, HW.out, Below.refl _ _⟩
    · intro ρ w1 hF hW
      have HW := hidden hW
      clear hW
      have e17 : ρ 17 = .bool true := hF 17 (by decide)
      clear hF
      unfold Does
      go_simp
      exact ⟨rfl, HW.out, Below.refl _ _⟩
    · intro ρ w1 hF hW
      have HW := hidden hW
      clear hW
      have e3 : ρ 3 = .pointer (some ⟨w.heap.size, 0, none⟩) := hF 3 (by decide)
      clear hF
      obtain ⟨c0, c1, c2, c3, _, _, _, _⟩ := HW.out.1.facts
      unfold Does
      go_simp
      exact ⟨rfl, HW.out, Below.refl _ _⟩
    · intro ρ w1 hF hW
      have HW := hidden hW
      clear hW
      have e19 : ρ 19 = (.agg #[.int .u64 (word (f) 0), .int .u64 (word (f) 1), .int .u64 (word (f) 2), .int .u64 (word (f) 3)]) := hF 19 (by decide)
      clear hF
      unfold Does
      go_simp
      refine (not_calls _ _).mono ?_
      rintro e w2 ⟨rfl, hb⟩
      exact ⟨_, rfl, rfl, Wm HW.out hb, hb⟩
    · intro ρ w1 hF hW
      have HW := hidden hW
      clear hW
      have e20 : ρ 20 = (.agg #[.int .u64 (word (fNot f) 0), .int .u64 (word (fNot f) 1), .int .u64 (word (fNot f) 2), .int .u64 (word (fNot f) 3)]) := hF 20 (by decide)
      clear hF
      unfold Does
      go_simp
      refine (not_calls _ _).mono ?_
      rintro e w2 ⟨rfl, hb⟩
      exact ⟨_, rfl, rfl, Wm HW.out hb, hb⟩
    · intro ρ w1 hF hW
      have HW := hidden hW
      clear hW
      have e3 : ρ 3 = .pointer (some ⟨w.heap.size, 0, none⟩) := hF 3 (by decide)
      clear hF
      obtain ⟨c0, c1, c2, c3, _, _, _, _⟩ := HW.out.1.facts
      unfold Does
      go_simp
      exact ⟨rfl, HW.out, Below.refl _ _⟩
    · intro ρ w1 hF hW
      have HW := hidden hW
      clear hW
      have e21 : ρ 21 = (.agg #[.int .u64 (word (fNot (fNot f)) 0), .int .u64 (word (fNot (fNot f)) 1), .int .u64 (word (fNot (fNot f)) 2), .int .u64 (word (fNot (fNot f)) 3)]) := hF 21 (by decide)
      have e22 : ρ 22 = (.agg #[.int .u64 (word (f) 0), .int .u64 (word (f) 1), .int .u64 (word (f) 2), .int .u64 (word (f) 3)]) := hF 22 (by decide)
      clear hF
      have hq := eqT w1 (fun n _ => by simp [fNot] : ∀ n, n < 256 → fNot (fNot f) n = f n)
      unfold Does
      go_simp
      exact ⟨rfl, HW.out, Below.refl _ _⟩
    · intro ρ w1 hF hW
      have HW := hidden hW
      clear hW
      have e18 : ρ 18 = .bool true := hF 18 (by decide)
      have e23 : ρ 23 = .bool true := hF 23 (by decide)
      clear hF
      unfold Does
      go_simp
      exact ⟨rfl, HW.out, Below.refl _ _⟩
    · intro ρ w1 hF hW
      have HW := hidden hW
      clear hW
      have e24 : ρ 24 = .bool true := hF 24 (by decide)
      clear hF
      unfold Does
      go_simp
      exact ⟨rfl, HW.out, Below.refl _ _⟩
    · intro ρ w1 hF hW
      have HW := hidden hW
      clear hW
      have e3 : ρ 3 = .pointer (some ⟨w.heap.size, 0, none⟩) := hF 3 (by decide)
      clear hF
      obtain ⟨c0, c1, c2, c3, _, _, _, _⟩ := HW.out.1.facts
      unfold Does
      go_simp
      exact ⟨rfl, HW.out, Below.refl _ _⟩
    · intro ρ w1 hF hW
      have HW := hidden hW
      clear hW
      have e4 : ρ 4 = .pointer (some ⟨w.heap.size + 1, 0, none⟩) := hF 4 (by decide)
      clear hF
      obtain ⟨c0, c1, c2, c3, _, _, _, _⟩ := HW.out.2.1.facts
      unfold Does
      go_simp
      exact ⟨rfl, HW.out, Below.refl _ _⟩
    · intro ρ w1 hF hW
      have HW := hidden hW
      clear hW
      have e26 : ρ 26 = (.agg #[.int .u64 (word (f) 0), .int .u64 (word (f) 1), .int .u64 (word (f) 2), .int .u64 (word (f) 3)]) := hF 26 (by decide)
      have e27 : ρ 27 = (.agg #[.int .u64 (word (g) 0), .int .u64 (word (g) 1), .int .u64 (word (g) 2), .int .u64 (word (g) 3)]) := hF 27 (by decide)
      clear hF
      unfold Does
      go_simp
      refine (minus_calls _ _ _).mono ?_
      rintro e w2 ⟨rfl, hb⟩
      exact ⟨_, rfl, rfl, Wm HW.out hb, hb⟩
    · intro ρ w1 hF hW
      have HW := hidden hW
      clear hW
      have e3 : ρ 3 = .pointer (some ⟨w.heap.size, 0, none⟩) := hF 3 (by decide)
      clear hF
      obtain ⟨c0, c1, c2, c3, _, _, _, _⟩ := HW.out.1.facts
      unfold Does
      go_simp
      exact ⟨rfl, HW.out, Below.refl _ _⟩
    · intro ρ w1 hF hW
      have HW := hidden hW
      clear hW
      have e4 : ρ 4 = .pointer (some ⟨w.heap.size + 1, 0, none⟩) := hF 4 (by decide)
      clear hF
      obtain ⟨c0, c1, c2, c3, _, _, _, _⟩ := HW.out.2.1.facts
      unfold Does
      go_simp
      exact ⟨rfl, HW.out, Below.refl _ _⟩
    · intro ρ w1 hF hW
      have HW := hidden hW
      clear hW
      have e30 : ρ 30 = (.agg #[.int .u64 (word (g) 0), .int .u64 (word (g) 1), .int .u64 (word (g) 2), .int .u64 (word (g) 3)]) := hF 30 (by decide)
      clear hF
      unfold Does
      go_simp
      refine (not_calls _ _).mono ?_
      rintro e w2 ⟨rfl, hb⟩
      exact ⟨_, rfl, rfl, Wm HW.out hb, hb⟩
    · intro ρ w1 hF hW
      have HW := hidden hW
      clear hW
      have e29 : ρ 29 = (.agg #[.int .u64 (word (f) 0), .int .u64 (word (f) 1), .int .u64 (word (f) 2), .int .u64 (word (f) 3)]) := hF 29 (by decide)
      have e31 : ρ 31 = (.agg #[.int .u64 (word (fNot g) 0), .int .u64 (word (fNot g) 1), .int .u64 (word (fNot g) 2), .int .u64 (word (fNot g) 3)]) := hF 31 (by decide)
      clear hF
      unfold Does
      go_simp
      refine (and_calls _ _ _).mono ?_
      rintro e w2 ⟨rfl, hb⟩
      exact ⟨_, rfl, rfl, Wm HW.out hb, hb⟩
    · intro ρ w1 hF hW
      have HW := hidden hW
      clear hW
      have e28 : ρ 28 = (.agg #[.int .u64 (word (fMinus f g) 0), .int .u64 (word (fMinus f g) 1), .int .u64 (word (fMinus f g) 2), .int .u64 (word (fMinus f g) 3)]) := hF 28 (by decide)
      have e32 : ρ 32 = (.agg #[.int .u64 (word (fAnd f (fNot g)) 0), .int .u64 (word (fAnd f (fNot g)) 1), .int .u64 (word (fAnd f (fNot g)) 2), .int .u64 (word (fAnd f (fNot g)) 3)]) := hF 32 (by decide)
      clear hF
      have hq := eqT w1 (fun n _ => by simp [fMinus, fAnd, fNot] : ∀ n, n < 256 → fMinus f g n = fAnd f (fNot g) n)
      unfold Does
      go_simp
      exact ⟨rfl, HW.out, Below.refl _ _⟩
    · intro ρ w1 hF hW
      have HW := hidden hW
      clear hW
      have e25 : ρ 25 = .bool true := hF 25 (by decide)
      have e33 : ρ 33 = .bool true := hF 33 (by decide)
      clear hF
      unfold Does
      go_simp
      exact ⟨rfl, HW.out, Below.refl _ _⟩
    · intro ρ w1 hF hW
      have HW := hidden hW
      clear hW
      have e34 : ρ 34 = .bool true := hF 34 (by decide)
      clear hF
      unfold Does
      go_simp
      exact ⟨rfl, HW.out, Below.refl _ _⟩
    · intro ρ w1 hF hW
      have HW := hidden hW
      clear hW
      have e3 : ρ 3 = .pointer (some ⟨w.heap.size, 0, none⟩) := hF 3 (by decide)
      clear hF
      obtain ⟨c0, c1, c2, c3, _, _, _, _⟩ := HW.out.1.facts
      unfold Does
      go_simp
      exact ⟨rfl, HW.out, Below.refl _ _⟩
    · intro ρ w1 hF hW
      have HW := hidden hW
      clear hW
      have e36 : ρ 36 = (.agg #[.int .u64 (word (f) 0), .int .u64 (word (f) 1), .int .u64 (word (f) 2), .int .u64 (word (f) 3)]) := hF 36 (by decide)
      clear hF
      unfold Does
      go_simp
      refine (not_calls _ _).mono ?_
      rintro e w2 ⟨rfl, hb⟩
      exact ⟨_, rfl, rfl, Wm HW.out hb, hb⟩
    · intro ρ w1 hF hW
      have HW := hidden hW
      clear hW
      have e2 : ρ 2 = .int .u8 n := hF 2 (by decide)
      clear hF
      unfold Does
      go_simp
      exact ⟨rfl, HW.out, Below.refl _ _⟩
    · intro ρ w1 hF hW
      have HW := hidden hW
      clear hW
      have e37 : ρ 37 = (.agg #[.int .u64 (word (fNot f) 0), .int .u64 (word (fNot f) 1), .int .u64 (word (fNot f) 2), .int .u64 (word (fNot f) 3)]) := hF 37 (by decide)
      have e38 : ρ 38 = .int .u8 n := hF 38 (by decide)
      clear hF
      unfold Does
      go_simp
      refine (has_nat _ n _ hn).mono ?_
      rintro e w2 ⟨rfl, hb⟩
      exact ⟨_, rfl, rfl, Wm HW.out hb, hb⟩
    · intro ρ w1 hF hW
      have HW := hidden hW
      clear hW
      have e3 : ρ 3 = .pointer (some ⟨w.heap.size, 0, none⟩) := hF 3 (by decide)
      clear hF
      obtain ⟨c0, c1, c2, c3, _, _, _, _⟩ := HW.out.1.facts
      unfold Does
      go_simp
      exact ⟨rfl, HW.out, Below.refl _ _⟩
    · intro ρ w1 hF hW
      have HW := hidden hW
      clear hW
      have e2 : ρ 2 = .int .u8 n := hF 2 (by decide)
      clear hF
      unfold Does
      go_simp
      exact ⟨rfl, HW.out, Below.refl _ _⟩
    · intro ρ w1 hF hW
      have HW := hidden hW
      clear hW
      have e40 : ρ 40 = (.agg #[.int .u64 (word (f) 0), .int .u64 (word (f) 1), .int .u64 (word (f) 2), .int .u64 (word (f) 3)]) := hF 40 (by decide)
      have e41 : ρ 41 = .int .u8 n := hF 41 (by decide)
      clear hF
      unfold Does
      go_simp
      refine (has_nat _ n _ hn).mono ?_
      rintro e w2 ⟨rfl, hb⟩
      exact ⟨_, rfl, rfl, Wm HW.out hb, hb⟩
    · intro ρ w1 hF hW
      have HW := hidden hW
      clear hW
      have e39 : ρ 39 = .bool (fNot f n) := hF 39 (by decide)
      have e42 : ρ 42 = .bool (f n) := hF 42 (by decide)
      clear hF
      unfold Does
      go_simp
      refine ⟨?_, HW.out, Below.refl _ _⟩
      show _ = Value.bool true
      simp [fNot]
    · intro ρ w1 hF hW
      have HW := hidden hW
      clear hW
      have e35 : ρ 35 = .bool true := hF 35 (by decide)
      have e43 : ρ 43 = .bool true := hF 43 (by decide)
      clear hF
      unfold Does
      go_simp
      exact ⟨rfl, HW.out, Below.refl _ _⟩
    · intro ρ w1 hF hW
      have HW := hidden hW
      clear hW
      have e44 : ρ 44 = .bool true := hF 44 (by decide)
      clear hF
      unfold Does
      go_simp
      exact ⟨rfl, HW.out, Below.refl _ _⟩
    · intro ρ w1 hF hW
      have HW := hidden hW
      clear hW
      clear hF
      unfold Does
      go_simp
      refine (knows_calls _ (HT.out.below HW.out.2.2)).mono ?_
      rintro e w2 ⟨rfl, hb⟩
      exact ⟨_, rfl, rfl, Wm HW.out hb, hb⟩
    · intro ρ w1 hF hW
      have HW := hidden hW
      clear hW
      have e45 : ρ 45 = .bool true := hF 45 (by decide)
      have e46 : ρ 46 = .bool true := hF 46 (by decide)
      clear hF
      unfold Does
      go_simp
      exact ⟨rfl, HW.out, Below.refl _ _⟩
    · intro ρ w1 hF hW
      have HW := hidden hW
      clear hW
      have e47 : ρ 47 = .bool true := hF 47 (by decide)
      clear hF
      unfold Does
      go_simp
      exact ⟨rfl, HW.out, Below.refl _ _⟩

set_option maxRecDepth 100000 in
theorem lifted (os : Os) (started : os.Started) (H : Type) (enc : TypeId × Value → H) :
    ReturnsInHanded {} Tryd.checked os 6 .any (fun w args => (Rows.bsetTurnedSpec.pre enc Tryd.prog Tryd.f6 Rows.bsetTurnedRow.domain false w args ∧ laidMetH Tryd.prog [("math/bits.deBruijn64tab", Rows.laid_math_bits_deBruijn64tab)] w) ∧ sizedMet enc Tryd.prog Tryd.f6 (OpenSpec.ofChange Rows.bsetTurnedSpec) false w args)
      (Rows.bsetTurnedSpec.post enc Tryd.prog Tryd.f6 false true false false) := by
  refine returnsInHanded_of_change_and (C := Tryd.checked) (X := fun w _ => laidMetH Tryd.prog [("math/bits.deBruijn64tab", Rows.laid_math_bits_deBruijn64tab)] w) (fun _ _ _ hh h => h.of_heap hh) own started (by kernel_rfl) Tryd.func6
    (ChangeSpec.witness_shaped (enc := enc) (C := Tryd.checked) (os := os) (X := fun w _ => laidMetH Tryd.prog [("math/bits.deBruijn64tab", Rows.laid_math_bits_deBruijn64tab)] w) false (World.laidAll Tryd.prog os [("math/bits.deBruijn64tab", Rows.laid_math_bits_deBruijn64tab)]) #[.agg #[.int .u64 0, .int .u64 0, .int .u64 0, .int .u64 0], .agg #[.int .u64 0, .int .u64 0, .int .u64 0, .int .u64 0], .int .u8 0] 8 (World.laidAll_os _ _ _)
      (World.shaped_of_ZipB (by kernel_rfl) (by kernel_rfl)) (by kernel_rfl) (by kernel_rfl) (by kernel_rfl)
      (by rw [MakeChecks.laidMetH_plain _ _ _ (by kernel_rfl)]; exact laidMet_laidAll _ (by kernel_rfl) (by kernel_rfl))) ?_
  intro W base args ds gs before hval0 hW hcnd _ hL _
  have hval : ∀ (j : Nat) t v, Tryd.f6.params[j]? = some t → args[j]? = some v → Value.okWide Tryd.prog W .any base t v := hval0
  have hW' : DataW.Whole enc Tryd.prog Tryd.f6.params.toList Rows.bsetTurnedSpec.vars false W args.toList ds gs before := hW
  obtain ⟨p, q, hA0, hV, rfl, hfz, hnd⟩ := hW
  have hA : DataW.TrodAll enc Tryd.prog W 0 (fun _ => true) true Tryd.f6.params.toList args.toList ds p := hA0
  have ht : Tab W := of_laid (by kernel_rfl) hL
  rw [Tryd.params6] at hA hval
  obtain ⟨v0, vs0, d0, ds0, p0, q0, hargs, hd0, hp0, h0, r0⟩ := trodAll_cons hA
  obtain ⟨v1, vs1, d1, ds1, p1, q1, rfl, hd1, hp1, h1, r1⟩ := trodAll_cons r0
  obtain ⟨v2, vs2, d2, ds2, p2, q2, rfl, hd2, hp2, h2, r2⟩ := trodAll_cons r1
  obtain ⟨rfl, _, _⟩ := trodAll_nil r2
  obtain rfl : args = #[v0, v1, v2] := by cases args; simp_all
  obtain ⟨a0, rfl⟩ := open_set (hval 0 24 v0 rfl rfl) h0
  obtain ⟨a1, rfl⟩ := open_set (hval 1 24 v1 rfl rfl) h1
  obtain ⟨a2, rfl, _, _, w2⟩ := open_int Tryd.underlying5 (hval 2 5 v2 rfl rfl) h2
  refine (walk a0 a1 a2 W (wf_u8 w2) ht).mono fun e W' ⟨he, hb⟩ => ⟨_, he, ends_true hW' rfl (by kernel_rfl) ?_ (by kernel_rfl) hb⟩
  intro xs hxs
  match xs, hxs with
  | [_, _, _], _ => rfl

theorem proved : Rows.BsetTurnedSaid :=
  OpenClaim.holds_of_wide 6 Tryd.f6 rfl rfl rfl rfl rfl rfl rfl ⟨rfl, rfl, rfl, rfl, rfl⟩ rfl rfl rfl rfl rfl (by kernel_rfl) Tryd.func6 (by kernel_rfl)
    (of_decide_eq_true (by kernel_rfl)) (by unfold Func.isWrapper; first | (rw [if_pos (by decide +kernel)]; kernel_rfl) | (rw [if_neg (by decide +kernel)]; exact ⟨rfl, rfl⟩))
    (fun os started H enc _ => lifted os started H enc)

/-- the card: the row, and what it lists tied to the program's text -/
theorem card : Rows.BsetTurnedCardSaid :=
  Claim7.holds_tied_plain_at .later [] [.data] true (true, "f8465798789d2ebf5eadbdb88a9c49c3ba1d5e7ffe9215b4693a7ae1d8653d21") false
    proved (fun _ h => by cases h) (by kernel_rfl) (fun _ h => by cases h) bsetTurned_row_tie rfl ⟨rfl, rfl⟩ (by kernel_rfl) rfl
    (fun f fn hf hfn => by
      obtain rfl : f = 6 := Option.some.inj ((show Tryd.prog.funcNamed "facsimile/facsimilelaw02.BsetTurned" = some 6 by kernel_rfl).symm.trans hf) |>.symm
      obtain rfl : fn = Tryd.f6 := (Option.some.inj (Tryd.func6.symm.trans hfn)).symm
      exact ⟨by kernel_rfl, fun j t ht => by
        rw [Tryd.params6] at ht
        have hm : t ∈ [24, 24, 5] := by simpa using Array.mem_of_getElem? ht
        have hall : ([24, 24, 5].all fun u => !Tryd.prog.wantsStandIn u) = true := by kernel_rfl
        exact (show Tryd.prog.wantsStandIn t = false by simpa using List.all_eq_true.1 hall t hm)⟩)
    (by kernel_rfl)
end Go.Proofs.YtfnpepmbklclfaaDoor.lawBsetTurned
