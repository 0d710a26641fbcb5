/- facsimilelaw06.knows answers true. -/
import Derived.Test.YtjkjbibfaekklaaWordRefW
import Derived.Test.YtjkjbibfaekklaaWordTwice
namespace Go.Proofs.Ytjkjbibfaekklaa
open Go.RowKit

theorem k1 : cutV ⟨#[32, 32, 114, 117, 108, 101, 32, 32, 120]⟩ = (⟨#[114, 117, 108, 101]⟩, ⟨#[32, 120]⟩) := by kernel_rfl
theorem k2 : linesV ⟨#[97, 10, 10, 98]⟩ = [⟨#[97]⟩, ⟨#[]⟩, ⟨#[98]⟩] := by kernel_rfl
theorem k3 : nameV ⟨#[97, 49]⟩ = true := by kernel_rfl
theorem k4 : nameV ⟨#[49, 97]⟩ = false := by kernel_rfl
theorem made_reads {w : World} {b B : Nat} {vs : List Value} {ss : List ByteArray} (hb : w.heap[b]? = some (.cells vs.toArray 9 (0, 0))) (hv : vs = ss.map Value.string) (hB : B ≤ b) (hl : ss.length ≤ maxLen) (n : Nat) (hn : n = ss.length) : Reads w B (.slice (some ⟨b, 0, none⟩) n n) ss := by
  subst hn
  exact ⟨_, _, rfl, Nat.le_refl _, hl, strs_made hb hv rfl ⟨hB, (Array.getElem?_eq_some_iff.1 hb).1⟩⟩

set_option maxHeartbeats 2000000 in
set_option maxRecDepth 100000 in
theorem knows_calls (w : World) : Calls Try.prog 7 #[] w fun e w' => e = .returned (.bool true) ∧ Below w.heap.size w w' := by
  have H1 := hidden (fun W => wcut_calls ⟨#[32, 32, 114, 117, 108, 101, 32, 32, 120]⟩ W (by decide))
  have H2 := hidden (fun W => lines_calls ⟨#[97, 10, 10, 98]⟩ W (by decide))
  have H3 := hidden (fun W => name_calls ⟨#[97, 49]⟩ W (by decide))
  have H4 := hidden (fun W => name_calls ⟨#[49, 97]⟩ W (by decide))
  unfold RetC at H1
  rw [k1] at H1
  rw [k2] at H2
  rw [k3] at H3
  rw [k4] at H4
  go_enter Try.func7, Try.ntmps7
  go_wp2_with fail
  refine (H1.out _).mono ?_
  rintro e w1 ⟨rfl, hb1⟩
  have B1 := hidden hb1
  clear hb1
  go_wp2_with fail
  refine (H2.out _).mono ?_
  rintro e w2 ⟨v, rfl, hR, hb2⟩
  have B2 := hidden (below_after B1.out hb2)
  have R2 := hidden ((hR.kept (Below.alloc (Below.refl _ _) (Nat.le_refl _) (.cells #[.string ⟨#[97]⟩, .string ⟨#[]⟩, .string ⟨#[98]⟩] 9))))
  have R3 := hidden (made_reads (B := 0) (ss := [⟨#[97]⟩, ⟨#[]⟩, ⟨#[98]⟩]) (heap_alloc_new w2 (.cells #[.string ⟨#[97]⟩, .string ⟨#[]⟩, .string ⟨#[98]⟩] 9)) rfl (Nat.zero_le _) (by decide) 3 rfl)
  clear hb2 hR
  go_wp2_with fail
  refine (same_reads R2.out R3.out).mono ?_
  rintro e w3 ⟨rfl, hb3⟩
  have B3 := hidden (below_then (B2.out.alloc (by have := B2.out.size; omega) (.cells #[.string ⟨#[97]⟩, .string ⟨#[]⟩, .string ⟨#[98]⟩] 9)) (by have := B2.out.size; simp; omega) hb3)
  clear hb3
  have hy := same_yes' [(⟨#[97]⟩ : ByteArray), ⟨#[]⟩, ⟨#[98]⟩]
  rw [hy]
  clear hy
  go_wp2_with fail
  refine (H3.out _).mono ?_
  rintro e w4 ⟨rfl, hb4⟩
  have B4 := hidden (below_after B3.out hb4)
  clear hb4
  go_wp2_with fail
  refine (H4.out _).mono ?_
  rintro e w5 ⟨rfl, hb5⟩
  have B5 := hidden (below_after B4.out hb5)
  clear hb5
  go_wp2
  go_ret
  exact ⟨rfl, B5.out⟩
end Go.Proofs.Ytjkjbibfaekklaa
