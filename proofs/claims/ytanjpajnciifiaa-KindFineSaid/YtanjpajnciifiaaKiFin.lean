/- The least bytes of the classes: each class begins with one, they rise, and two of them are told apart. -/
import Derived.Test.YtanjpajnciifiaaKiMath
import Derived.Test.YtanjpajnciifiaaKiByt
import Derived.Test.YtanjpajnciifiaaKiSets
namespace Go.Proofs.Ytanjpajnciifiaa
open Go.RowKit

theorem lst_mem {g : Nat → Nat} {c : Int} {x : Nat} : x ∈ lstC g c ↔ x < 256 ∧ (g x : Int) = c := by
  simp [lstC, clsF]
theorem lst_sorted (g : Nat → Nat) (c : Int) : (lstC g c).Pairwise (· < ·) := List.Pairwise.filter _ List.pairwise_lt_range
variable {κ : Type} [DecidableEq κ]
/-- the least byte of a class -/
def lf (K : Nat → κ) (c : Nat) : Nat := (lstC (clsK K) c).headD 0
theorem lst_cons (K : Nat → κ) {c : Nat} (hc : c < cntK K 256) : ∃ r, lstC (clsK K) c = lf K c :: r := by
  obtain ⟨b, hb, hf, hn⟩ := cls_all K hc
  have hm : b ∈ lstC (clsK K) c := lst_mem.2 ⟨hb, by rw [cls_new K hf, hn]⟩
  unfold lf
  cases h : lstC (clsK K) c with
  | nil => rw [h] at hm; cases hm
  | cons x r => exact ⟨r, rfl⟩
theorem lf_is (K : Nat → κ) {c : Nat} (hc : c < cntK K 256) : lf K c < 256 ∧ clsK K (lf K c) = c ∧ fstK K (lf K c) = lf K c ∧ cntK K (lf K c) = c := by
  obtain ⟨r, hr⟩ := lst_cons K hc
  have hm : lf K c ∈ lstC (clsK K) c := by rw [hr]; exact List.mem_cons_self ..
  obtain ⟨h1, h2⟩ := lst_mem.1 hm
  have h2 : clsK K (lf K c) = c := by omega
  have hle := fst_le K (lf K c)
  have hf : fstK K (lf K c) = lf K c := by
    have hm2 : fstK K (lf K c) ∈ lstC (clsK K) c := lst_mem.2 ⟨by omega, by rw [cls_first, h2]⟩
    have hs := lst_sorted (clsK K) c
    rw [hr] at hs hm2
    rcases List.mem_cons.1 hm2 with e | e
    · exact e
    · have := (List.pairwise_cons.1 hs).1 _ e; omega
  exact ⟨h1, h2, hf, by rw [← cls_new K hf, h2]⟩
theorem lst_key (K : Nat → κ) {c y : Nat} (hc : c < cntK K 256) (hy : y ∈ lstC (clsK K) c) : K y = K (lf K c) := by
  have h := (lst_mem.1 hy).2
  rw [← cls_key K, (lf_is K hc).2.1]
  omega
theorem lf_lt (K : Nat → κ) {c : Nat} (hc : c + 1 < cntK K 256) : lf K c < lf K (c + 1) := by
  obtain ⟨_, _, _, h1⟩ := lf_is K (show c < cntK K 256 by omega)
  obtain ⟨_, _, _, h2⟩ := lf_is K hc
  by_cases h : lf K c < lf K (c + 1)
  · exact h
  · have := cnt_mono K (show lf K (c + 1) ≤ lf K c by omega)
    omega
theorem lf_key (K : Nat → κ) {c : Nat} (hc : c + 1 < cntK K 256) : K (lf K (c + 1)) ≠ K (lf K c) := by
  intro e
  have h1 := (lf_is K (show c < cntK K 256 by omega)).2.1
  have h2 := (lf_is K hc).2.1
  have := (cls_key K).2 e
  omega

/-- does one of the first i sets tell x from y? -/
def apB (fs : List (Nat → Bool)) (x y i : Nat) : Bool := (List.range i).any fun j => fs.getD j fNone x != fs.getD j fNone y
theorem apB_more (fs : List (Nat → Bool)) (x y i : Nat) : apB fs x y (i + 1) = (apB fs x y i || (fs.getD i fNone x != fs.getD i fNone y)) := by
  unfold apB
  rw [List.range_succ, List.any_append]
  simp
theorem apB_all {fs : List (Nat → Bool)} {x y : Nat} (h : keyL fs x ≠ keyL fs y) : apB fs x y fs.length = true := by
  by_cases e : apB fs x y fs.length = true
  · exact e
  · exfalso
    apply h
    rw [keyL_eq]
    intro i hi
    have e2 : apB fs x y fs.length = false := by simpa using e
    unfold apB at e2
    rw [List.any_eq_false] at e2
    have := e2 i (by simpa using hi)
    simpa using this
end Go.Proofs.Ytanjpajnciifiaa
