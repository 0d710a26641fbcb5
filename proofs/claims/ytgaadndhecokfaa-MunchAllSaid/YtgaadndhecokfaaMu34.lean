/- KiDiv, KiOf, KiFin, DfNet, put together. -/
import Derived.Test.YtgaadndhecokfaaMu33
import Derived.Test.YtgaadndhecokfaaMu03
import Derived.Test.YtgaadndhecokfaaMu13
import Derived.Test.YtgaadndhecokfaaMu16
import Derived.Test.YtgaadndhecokfaaMu01
import Derived.Test.YtgaadndhecokfaaMu24
import Derived.Test.YtgaadndhecokfaaMu32
import Derived.Test.YtgaadndhecokfaaMu29
import Derived.Test.YtgaadndhecokfaaMu30
import Derived.Test.YtgaadndhecokfaaMu31
/- Contract of the program's divides. -/
namespace Go.Proofs.Ytgaadndhecokfaa
open Go.RowKit

/-- the two tables behind k rounds -/
structure Tabs (g : Nat → Nat) (f p q : Nat → Bool) (k : Nat) : Prop where
  yes : ∀ j, j < k → f j = true → p (g j) = true
  no : ∀ j, j < k → f j = false → q (g j) = true
  apart : ∀ c, p c = true → q c = false
theorem Tabs.start (g : Nat → Nat) (f : Nat → Bool) : Tabs g f (fun _ => false) (fun _ => false) 0 := ⟨fun j h => by omega, fun j h => by omega, fun c h => by cases h⟩
theorem Tabs.all {g : Nat → Nat} {f p q : Nat → Bool} (h : Tabs g f p q 256) : ∀ a b, a < 256 → b < 256 → g a = g b → f a = f b := by
  intro a b ha hb e
  cases h1 : f a <;> cases h2 : f b
  · rfl
  · have := h.apart _ (h.yes b hb h2)
    rw [← e, h.no a ha h1] at this
    cases this
  · have := h.apart _ (h.yes a ha h1)
    rw [e, h.no b hb h2] at this
    cases this
  · rfl

end Go.Proofs.Ytgaadndhecokfaa

/- Contract of the program's Of. -/
namespace Go.Proofs.Ytgaadndhecokfaa
open Go.RowKit
attribute [local go_sem] Rl.evalR_tmp Rl.evalR_const Rl.evalR_global Rl.evalR_func
end Go.Proofs.Ytgaadndhecokfaa

/- The least bytes of the classes: each class begins with one, they rise, and two of them are told apart. -/
namespace Go.Proofs.Ytgaadndhecokfaa
open Go.RowKit

theorem lst_mem {g : Nat → Nat} {c : Int} {x : Nat} : x ∈ lstC g c ↔ x < 256 ∧ (g x : Int) = c := by
  simp [lstC, clsF]
theorem lst_sorted (g : Nat → Nat) (c : Int) : (lstC g c).Pairwise (· < ·) := List.Pairwise.filter _ List.pairwise_lt_range
variable {κ : Type} [DecidableEq κ]
/-- the least byte of a class -/
def lf (K : Nat → κ) (c : Nat) : Nat := (lstC (clsK K) c).headD 0
theorem lst_cons (K : Nat → κ) {c : Nat} (hc : c < cntK K 256) : ∃ r, lstC (clsK K) c = lf K c :: r := by
  obtain ⟨b, hb, hf, hn⟩ := cls_all K hc
  have hm : b ∈ lstC (clsK K) c := lst_mem.2 ⟨hb, by rw [cls_new K hf, hn]⟩
  unfold lf
  cases h : lstC (clsK K) c with
  | nil => rw [h] at hm; cases hm
  | cons x r => exact ⟨r, rfl⟩
theorem lf_is (K : Nat → κ) {c : Nat} (hc : c < cntK K 256) : lf K c < 256 ∧ clsK K (lf K c) = c ∧ fstK K (lf K c) = lf K c ∧ cntK K (lf K c) = c := by
  obtain ⟨r, hr⟩ := lst_cons K hc
  have hm : lf K c ∈ lstC (clsK K) c := by rw [hr]; exact List.mem_cons_self ..
  obtain ⟨h1, h2⟩ := lst_mem.1 hm
  have h2 : clsK K (lf K c) = c := by omega
  have hle := fst_le K (lf K c)
  have hf : fstK K (lf K c) = lf K c := by
    have hm2 : fstK K (lf K c) ∈ lstC (clsK K) c := lst_mem.2 ⟨by omega, by rw [cls_first, h2]⟩
    have hs := lst_sorted (clsK K) c
    rw [hr] at hs hm2
    rcases List.mem_cons.1 hm2 with e | e
    · exact e
    · have := (List.pairwise_cons.1 hs).1 _ e; omega
  exact ⟨h1, h2, hf, by rw [← cls_new K hf, h2]⟩
end Go.Proofs.Ytgaadndhecokfaa

/- The machine of a net: classes by the net's sets, each class goes where its bytes go; the machine is right; a word's state stands for the word's spots, and its label is their token. -/
namespace Go.Proofs.Ytgaadndhecokfaa
open Go.RowKit

/-- what tells the bytes apart -/
def netK (N : NetM) : Nat → List Bool := keyL (N.sets.map bitsE)
def clsN (N : NetM) : Nat → Nat := clsK (netK N)
def widN (N : NetM) : Nat := cntK (netK N) 256
/-- where a state goes by a class -/
def goN (N : NetM) (i : Nat) (l : List Int) (c : Nat) : List Int := if i = 0 then spI (startM N (lf (netK N) c)) else spI (stepM N l (lf (netK N) c))
/-- the machine behind n rows -/
def machS (N : NetM) (n : Nat) : List (List Int) × List (List Int) × List Int := outS (goN N) (tokenM N) (widN N) n
def machM (N : NetM) (n : Nat) : DfaM := ⟨clsN N, widN N, (machS N n).2.1, (machS N n).2.2⟩
section
variable {N : NetM} {n : Nat}
end
end Go.Proofs.Ytgaadndhecokfaa
