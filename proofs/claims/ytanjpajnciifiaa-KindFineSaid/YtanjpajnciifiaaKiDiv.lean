/- Contract of the program's divides. -/
import Derived.Test.YtanjpajnciifiaaKiSpl
namespace Go.Proofs.Ytanjpajnciifiaa
open Go.RowKit

/-- what divides says: at 'no' no class has bytes of both kinds -/
def DivR (g : Nat → Nat) (f : Nat → Bool) (w : World) (e : Ending) (w' : World) : Prop :=
  ∃ r : Bool, e = .returned (.bool r) ∧ (r = false → ∀ a b, a < 256 → b < 256 → g a = g b → f a = f b) ∧ Below w.heap.size w w'
/-- the two tables behind k rounds -/
structure Tabs (g : Nat → Nat) (f p q : Nat → Bool) (k : Nat) : Prop where
  yes : ∀ j, j < k → f j = true → p (g j) = true
  no : ∀ j, j < k → f j = false → q (g j) = true
  apart : ∀ c, p c = true → q c = false
theorem Tabs.start (g : Nat → Nat) (f : Nat → Bool) : Tabs g f (fun _ => false) (fun _ => false) 0 := ⟨fun j h => by omega, fun j h => by omega, fun c h => by cases h⟩
theorem Tabs.more1 {g : Nat → Nat} {f p q : Nat → Bool} {k : Nat} (h : Tabs g f p q k) (hf : f k = true) (hq : q (g k) = false) : Tabs g f (putB p (g k) true) q (k + 1) :=
  ⟨fun j hj hj2 => by
    unfold putB
    by_cases e : g j = g k
    · rw [if_pos e]
    · rw [if_neg e]
      exact h.yes j (by by_cases e2 : j = k; (· subst e2; exact absurd rfl e); omega) hj2,
  fun j hj hj2 => h.no j (by by_cases e2 : j = k; (· subst e2; rw [hf] at hj2; cases hj2); omega) hj2,
  fun c hc => by
    unfold putB at hc
    by_cases e : c = g k
    · rw [e]; exact hq
    · rw [if_neg e] at hc
      exact h.apart c hc⟩
theorem Tabs.more0 {g : Nat → Nat} {f p q : Nat → Bool} {k : Nat} (h : Tabs g f p q k) (hf : f k = false) (hp : p (g k) = false) : Tabs g f p (putB q (g k) true) (k + 1) :=
  ⟨fun j hj hj2 => h.yes j (by by_cases e2 : j = k; (· subst e2; rw [hf] at hj2; cases hj2); omega) hj2,
  fun j hj hj2 => by
    unfold putB
    by_cases e : g j = g k
    · rw [if_pos e]
    · rw [if_neg e]
      exact h.no j (by by_cases e2 : j = k; (· subst e2; exact absurd rfl e); omega) hj2,
  fun c hc => by
    unfold putB
    by_cases e : c = g k
    · rw [e, hp] at hc; cases hc
    · rw [if_neg e]
      exact h.apart c hc⟩
theorem Tabs.all {g : Nat → Nat} {f p q : Nat → Bool} (h : Tabs g f p q 256) : ∀ a b, a < 256 → b < 256 → g a = g b → f a = f b := by
  intro a b ha hb e
  cases h1 : f a <;> cases h2 : f b
  · rfl
  · have := h.apart _ (h.yes b hb h2)
    rw [← e, h.no a ha h1] at this
    cases this
  · have := h.apart _ (h.yes a ha h1)
    rw [e, h.no b hb h2] at this
    cases this
  · rfl

set_option maxHeartbeats 1000000 in
set_option maxRecDepth 100000 in
theorem divides_calls (g : Nat → Nat) (f : Nat → Bool) (w : World) (hg : ∀ j, j < 256 → g j < 256) :
    Calls Try.prog 21 #[(.agg #[.int .u64 (word (f) 0), .int .u64 (word (f) 1), .int .u64 (word (f) 2), .int .u64 (word (f) 3)]), ar g] w (DivR g f w) := by
  have HH := hidden hg
  clear hg
  have hbx := run_box_arr g
  have hal := run_zero_arrb
  go_enter Try.func21, Try.ntmps21
  go_wp2
  go_loopw [9] (fun i wr => ∃ k : Nat, ∃ p q : Nat → Bool, k ≤ 256 ∧ i = .int .i64 k ∧ Tabs g f p q k ∧ SetAt wr w.heap.size f ∧ ArrAt wr (w.heap.size + 1) 24 (nV g) ∧ ArrAt wr (w.heap.size + 2) 49 (bV p) ∧ ArrAt wr (w.heap.size + 3) 49 (bV q) ∧ Below w.heap.size w wr ∧ w.heap.size + 4 ≤ wr.heap.size) (fun i _ => 256 - (intOf i).toNat)
  case atStart =>
    have hA := ArrAt.newAt (t := 24) (v := nV g) (show (w.alloc (.cells #[.int .u64 (word (f) 0), .int .u64 (word (f) 1), .int .u64 (word (f) 2), .int .u64 (word (f) 3)] 32)).heap.size = w.heap.size + 1 by simp)
    have hP := ArrAt.newAt (t := 49) (v := bV fun _ => false) (show ((w.alloc (.cells #[.int .u64 (word (f) 0), .int .u64 (word (f) 1), .int .u64 (word (f) 2), .int .u64 (word (f) 3)] 32)).alloc (.cells (cellsN (nV g)) 24)).heap.size = w.heap.size + 2 by simp)
    have hQ := ArrAt.newAt (t := 49) (v := bV fun _ => false) (show (((w.alloc (.cells #[.int .u64 (word (f) 0), .int .u64 (word (f) 1), .int .u64 (word (f) 2), .int .u64 (word (f) 3)] 32)).alloc (.cells (cellsN (nV g)) 24)).alloc (.cells (cellsN (bV fun _ => false)) 49)).heap.size = w.heap.size + 3 by simp)
    exact ⟨0, _, _, by omega, rfl, Tabs.start g f, (((SetAt.new w f).alloc _).alloc _).alloc _, (hA.alloc _).alloc _, hP.alloc _, hQ, by go_grown, by simp⟩
  case round =>
    obtain ⟨k, p, q, hk, rfl, hT, h0, h1, h2, h3, h5, h6⟩ := hrel
    have HT := hidden hT
    have H0 := hidden h0
    have H1 := hidden h1
    have H2 := hidden h2
    have H3 := hidden h3
    have H5 := hidden h5
    by_cases hlt : k < 256
    · have ca := h1.cell hlt
      obtain ⟨s0, s1, s2, s3, _, _, _, _⟩ := h0.facts
      clear hT h0 h1 h2 h3 h5
      unfold nV at ca
      have hgk := HH.out k hlt
      have wb : IntKind.u8.wrap (k : Int) = k := by rw [IntKind.wrap_u8]; omega
      go_wp2_with fail
      refine (has_nat f k _ hlt).mono ?_
      rintro e w5 ⟨rfl, hb5⟩
      have G0 := hidden (H0.out.below hb5)
      have G1 := hidden (H1.out.below hb5)
      have G2 := hidden (H2.out.below hb5)
      have G3 := hidden (H3.out.below hb5)
      have G5 := hidden (below_then H5.out (by omega) hb5)
      have g6 := hb5.size
      have p0 := (H2.out.below hb5).cell hgk
      have p1 := (H2.out.below hb5).frozen (g k)
      have q0 := (H3.out.below hb5).cell hgk
      have q1 := (H3.out.below hb5).frozen (g k)
      clear hb5 H0 H1 H2 H3 H5 s0 s1 s2 s3 ca
      unfold bV at p0 q0
      cases hf : f k
      · cases hp : p (g k)
        · have HM := hidden (HT.out.more0 hf hp)
          rw [hp] at p0
          clear hp hf
          go_wp2
          refine ⟨⟨k + 1, p, putB q (g k) true, by omega, by go_num, HM.out, G0.out.other (by omega) _, G1.out.other (by omega) _, G2.out.other (by omega) _, (G3.out.stored (g k) _).congr fun j _ => putN_bV q (g k) true j, G5.out.setCell (by dsimp only; omega) _, Nat.le_trans (by omega) ((Below.refl 0 w5).setCell (Nat.zero_le _) _).size⟩, by simp [intOf]; omega⟩
        · rw [hp] at p0
          clear hp hf
          go_wp2
          go_ret
          exact ⟨true, rfl, (fun h => by cases h), G5.out.setCell (by dsimp only; omega) _⟩
      · cases hq : q (g k)
        · have HM := hidden (HT.out.more1 hf hq)
          rw [hq] at q0
          clear hq hf
          go_wp2
          refine ⟨⟨k + 1, putB p (g k) true, q, by omega, by go_num, HM.out, G0.out.other (by omega) _, G1.out.other (by omega) _, (G2.out.stored (g k) _).congr fun j _ => putN_bV p (g k) true j, G3.out.other (by omega) _, G5.out.setCell (by dsimp only; omega) _, Nat.le_trans (by omega) ((Below.refl 0 w5).setCell (Nat.zero_le _) _).size⟩, by simp [intOf]; omega⟩
        · rw [hq] at q0
          clear hq hf
          go_wp2
          go_ret
          exact ⟨true, rfl, (fun h => by cases h), G5.out.setCell (by dsimp only; omega) _⟩
    · obtain rfl : k = 256 := by omega
      clear hT h0 h1 h2 h3 h5
      go_wp2
      go_ret
      exact ⟨false, rfl, fun _ => HT.out.all, H5.out⟩
end Go.Proofs.Ytanjpajnciifiaa
