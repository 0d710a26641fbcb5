/- Contracts of Right and Width, the program's and the reference's. -/
import Derived.Test.YtanjpajnciifiaaKiArr
namespace Go.Proofs.Ytanjpajnciifiaa
open Go.RowKit

/-- from place b on, n places: is each class one of those below nx, or nx itself? -/
def rgt (g : Nat → Nat) : Nat → Nat → Nat → Bool
  | 0, _, _ => true
  | n + 1, b, nx => if g b > nx then false else rgt g n (b + 1) (if g b = nx then nx + 1 else nx)
def rightV (g : Nat → Nat) : Bool := rgt g 256 0 0

set_option maxRecDepth 100000 in
theorem rright_calls (g : Nat → Nat) (w : World) (hg : ∀ j, j < 256 → g j < 256) :
    Calls Try.prog 12 #[ar g] w fun e w' => e = .returned (.bool (rightV g)) ∧ Below w.heap.size w w' := by
  have HG := hidden hg
  clear hg
  have hbx := run_box_arr g
  go_enter Try.func12, Try.ntmps12
  go_wp2
  go_loopw [3, 4] (fun x i wr => ∃ k nx : Nat, k ≤ 256 ∧ nx ≤ k ∧ x = .int .i64 nx ∧ i = .int .i64 k ∧ rightV g = rgt g (256 - k) k nx ∧ ArrAt wr w.heap.size 24 (nV g) ∧ Below w.heap.size w wr) (fun _ i _ => 256 - (intOf i).toNat)
  case atStart => exact ⟨0, 0, by omega, by omega, rfl, rfl, rfl, ArrAt.new _ _ _, (Below.refl _ _).alloc (Nat.le_refl _) _⟩
  case round =>
    obtain ⟨k, nx, hk, hnx, rfl, rfl, hf, hA, hb⟩ := hrel
    by_cases hlt : k < 256
    · rw [show 256 - k = (256 - (k + 1)) + 1 by omega, rgt] at hf
      have hc := hA.cell hlt
      unfold nV at hc
      have hgk := HG.out k hlt
      have HA := hidden hA
      clear hA
      by_cases h1 : g k > nx
      · rw [if_pos h1] at hf
        have HF := hidden hf
        clear hf
        go_wp2
        go_ret
        exact ⟨ret_b HF.out.symm, hb⟩
      · rw [if_neg h1] at hf
        by_cases h2 : g k = nx
        · rw [if_pos h2] at hf
          have HF := hidden hf
          clear hf
          go_wp2
          go_roundw
          case rel => exact ⟨k + 1, nx + 1, by omega, by omega, by go_num, by go_num, HF.out, HA.out, hb⟩
          case measure => simp [intOf]; omega
        · rw [if_neg h2] at hf
          have HF := hidden hf
          clear hf
          go_wp2
          go_roundw
          case rel => exact ⟨k + 1, nx, by omega, by omega, by go_num, by go_num, HF.out, HA.out, hb⟩
          case measure => simp [intOf]; omega
    · obtain rfl : k = 256 := by omega
      have HF := hidden hf
      clear hf
      go_wp2
      go_ret
      exact ⟨ret_b HF.out.symm, hb⟩

set_option maxRecDepth 100000 in
theorem right_calls (g : Nat → Nat) (w : World) (hg : ∀ j, j < 256 → g j < 256) :
    Calls Try.prog 10 #[ar g] w fun e w' => e = .returned (.bool (rightV g)) ∧ Below w.heap.size w w' := by
  have HG := hidden hg
  clear hg
  have hbx := run_box_arr g
  go_enter Try.func10, Try.ntmps10
  go_wp2
  go_loopw [3, 6] (fun x i wr => ∃ k nx : Nat, k ≤ 256 ∧ nx ≤ k ∧ x = .int .i64 nx ∧ i = .int .i64 k ∧ rightV g = rgt g (256 - k) k nx ∧ ArrAt wr w.heap.size 24 (nV g) ∧ Below w.heap.size w wr) (fun _ i _ => 256 - (intOf i).toNat)
  case atStart => exact ⟨0, 0, by omega, by omega, rfl, rfl, rfl, ArrAt.new _ _ _, (Below.refl _ _).alloc (Nat.le_refl _) _⟩
  case round =>
    obtain ⟨k, nx, hk, hnx, rfl, rfl, hf, hA, hb⟩ := hrel
    by_cases hlt : k < 256
    · rw [show 256 - k = (256 - (k + 1)) + 1 by omega, rgt] at hf
      have hc := hA.cell hlt
      unfold nV at hc
      have hgk := HG.out k hlt
      have HA := hidden hA
      clear hA
      by_cases h1 : g k > nx
      · rw [if_pos h1] at hf
        have HF := hidden hf
        clear hf
        go_wp2
        go_ret
        exact ⟨ret_b HF.out.symm, hb⟩
      · rw [if_neg h1] at hf
        by_cases h2 : g k = nx
        · rw [if_pos h2] at hf
          have HF := hidden hf
          clear hf
          go_wp2
          go_roundw
          case rel => exact ⟨k + 1, nx + 1, by omega, by omega, by go_num, by go_num, HF.out, HA.out, hb⟩
          case measure => simp [intOf]; omega
        · rw [if_neg h2] at hf
          have HF := hidden hf
          clear hf
          go_wp2
          go_roundw
          case rel => exact ⟨k + 1, nx, by omega, by omega, by go_num, by go_num, HF.out, HA.out, hb⟩
          case measure => simp [intOf]; omega
    · obtain rfl : k = 256 := by omega
      have HF := hidden hf
      clear hf
      go_wp2
      go_ret
      exact ⟨ret_b HF.out.symm, hb⟩
end Go.Proofs.Ytanjpajnciifiaa
