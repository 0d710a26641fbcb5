/- Contracts of Width, the program's (by slices.Max) and the reference's. -/
import Derived.Test.YtanjpajnciifiaaKiArr
namespace Go.Proofs.Ytanjpajnciifiaa
open Go.RowKit

/-- the greatest of the first n, and one; zero of none -/
def wid (g : Nat → Nat) : Nat → Nat
  | 0 => 0
  | n + 1 => max (wid g n) (g n + 1)
theorem wid_le (g : Nat → Nat) (m : Nat) : ∀ n, (∀ j, j < n → g j < m) → wid g n ≤ m
  | 0, _ => Nat.zero_le _
  | n + 1, h => by
    have h1 := wid_le g m n fun j hj => h j (by omega)
    have h2 := h n (by omega)
    show max (wid g n) (g n + 1) ≤ m
    omega
theorem wid_ge (g : Nat → Nat) {j n : Nat} (h : j < n) : g j + 1 ≤ wid g n := by
  induction n with
  | zero => omega
  | succ n ih =>
    show _ ≤ max (wid g n) (g n + 1)
    by_cases e : j = n
    · subst e; omega
    · have := ih (by omega); omega

set_option maxRecDepth 100000 in
theorem rwidth_calls (g : Nat → Nat) (w : World) (hg : ∀ j, j < 256 → g j < 256) :
    Calls Try.prog 13 #[ar g] w fun e w' => e = .returned (.int .i64 (wid g 256)) ∧ Below w.heap.size w w' := by
  have HG := hidden hg
  clear hg
  have hbx := run_box_arr g
  go_enter Try.func13, Try.ntmps13
  go_wp2
  go_loopw [3, 4] (fun x i wr => ∃ k m : Nat, k ≤ 256 ∧ m = wid g k ∧ x = .int .i64 m ∧ i = .int .i64 k ∧ ArrAt wr w.heap.size 24 (nV g) ∧ Below w.heap.size w wr) (fun _ i _ => 256 - (intOf i).toNat)
  case atStart => exact ⟨0, 0, by omega, rfl, rfl, rfl, ArrAt.new _ _ _, (Below.refl _ _).alloc (Nat.le_refl _) _⟩
  case round =>
    obtain ⟨k, m, hk, hm, rfl, rfl, hA, hb⟩ := hrel
    have HM := hidden hm
    clear hm
    by_cases hlt : k < 256
    · have hc := hA.cell hlt
      unfold nV at hc
      have hgk := HG.out k hlt
      have HA := hidden hA
      clear hA
      go_wp2
      refine ⟨⟨k + 1, _, by omega, rfl, ?_, by go_num, HA.out, hb⟩, by simp [intOf]; omega⟩
      have := HM.out
      show Value.int .i64 _ = .int .i64 ((max (wid g k) (g k + 1) : Nat) : Int)
      congr 1
      split <;> omega
    · obtain rfl : k = 256 := by omega
      go_wp2
      go_ret
      exact ⟨ret_i (by rw [HM.out]), hb⟩

set_option maxRecDepth 100000 in
theorem max_calls (g : Nat → Nat) (B : Nat) (w : World) (hg : ∀ j, j < 256 → g j < 256) (hA : ArrAt w B 24 (nV g)) :
    Calls Try.prog 23 #[.slice (some ⟨B, 0, none⟩) 256 256] w fun e w' => ∃ m : Nat, m + 1 = wid g 256 ∧ e = .returned (.int .u8 m) ∧ w' = w := by
  have HG := hidden hg
  have HA := hidden hA
  have c0 := hA.cell (j := 0) (by omega)
  unfold nV at c0
  have h0 := hg 0 (by omega)
  clear hg hA
  go_enter Try.func23, Try.ntmps23
  go_wp2
  go_loopw [3, 4] (fun x i wr => ∃ k m : Nat, 1 ≤ k ∧ k ≤ 256 ∧ m + 1 = wid g k ∧ m < 256 ∧ x = .int .u8 m ∧ i = .int .i64 k ∧ wr = w) (fun _ i _ => 256 - (intOf i).toNat)
  case atStart => exact ⟨1, g 0, by omega, by omega, by show _ = max 0 (g 0 + 1); omega, h0, rfl, rfl, rfl⟩
  case round =>
    obtain ⟨k, m, hk0, hk, hm, hm2, rfl, rfl, rfl⟩ := hrel
    have HM := hidden hm
    clear hm
    by_cases hlt : k < 256
    · have hc := HA.out.cell hlt
      unfold nV at hc
      have hgk := HG.out k hlt
      go_wp2
      refine ⟨⟨k + 1, max m (g k), by omega, by omega, ?_, by omega, ?_, by go_num, trivial⟩, by simp [intOf]; omega⟩
      · have := HM.out
        show _ = max (wid g k) (g k + 1)
        omega
      · congr 1
        split <;> omega
    · obtain rfl : k = 256 := by omega
      go_wp2
      go_ret
      exact ⟨m, HM.out, rfl, rfl⟩

set_option maxRecDepth 100000 in
theorem width_calls (g : Nat → Nat) (w : World) (hg : ∀ j, j < 256 → g j < 256) :
    Calls Try.prog 11 #[ar g] w fun e w' => e = .returned (.int .i64 (wid g 256)) ∧ Below w.heap.size w w' := by
  have HG := hidden hg
  clear hg
  have hbx := run_box_arr g
  go_enter Try.func11, Try.ntmps11
  go_wp2_with fail
  refine (max_calls g _ _ HG.out (ArrAt.new _ _ _)).mono ?_
  rintro e w1 ⟨m, hm, rfl, rfl⟩
  have h1 := wid_le g 256 256 HG.out
  have HM := hidden hm
  have hm2 : m < 256 := by omega
  clear hm h1
  go_wp2
  go_ret
  exact ⟨ret_i (by rw [← HM.out]; rfl), (Below.refl _ _).alloc (Nat.le_refl _) _⟩
end Go.Proofs.Ytanjpajnciifiaa
