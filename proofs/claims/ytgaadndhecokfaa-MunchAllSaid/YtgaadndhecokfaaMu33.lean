/- KiHas, KiRSpl, KiMap, KiSpl, put together. -/
import Derived.Test.YtgaadndhecokfaaMu02
import Derived.Test.YtgaadndhecokfaaMu01
import Derived.Test.YtgaadndhecokfaaMu03
import Derived.Maps.OwnSet
import Derived.DeepKeys4
import Derived.Deep.RegionWith
import Derived.Deep.RegionLaw
import Derived.Deep.CutRange
/- bset's Has at a byte; a set's block beside another one that is written. (Names of kind's own: elder folders have has_calls and SetAt.other in other places.) -/
namespace Go.Proofs.Ytgaadndhecokfaa
open Go.RowKit

end Go.Proofs.Ytgaadndhecokfaa

/- Contract of the reference's Split. -/
namespace Go.Proofs.Ytgaadndhecokfaa
open Go.RowKit

end Go.Proofs.Ytgaadndhecokfaa

/- The map of the program's Split: keyed by an old class and whether a set has it; what it holds behind b rounds. -/
namespace Go.Proofs.Ytgaadndhecokfaa
open Go.RowKit Go.Maps

/-- a key, as it is read -/
def kl (p : Nat × Bool) : Lit := .string (keyBytes [.int .u8 (p.1 : Int), .bool p.2])
/-- the map behind b rounds -/
structure MapK (D : DataW Unit) (k : Nat → Nat × Bool) (b : Nat) : Prop where
  has : ∀ p : Nat × Bool, p.1 < 256 → (Maps.has D (kl p) = true ↔ ∃ j, j < b ∧ k j = p)
  look : ∀ j, j < b → D.atKey (kl (k j)) (.lit (.int .i64 0)) = .lit (.int .i64 (clsK k j))
  size : Maps.size D = cntK k b
theorem MapK.start (k : Nat → Nat × Bool) : MapK (.map []) k 0 :=
  ⟨fun p _ => ⟨fun h => by simp [Maps.has_eq] at h, fun ⟨j, h, _⟩ => by omega⟩, fun j h => by omega, rfl⟩
theorem MapK.old {D : DataW Unit} {k : Nat → Nat × Bool} {b : Nat} (h : MapK D k b) (hf : fstK k b < b) : MapK D k (b + 1) :=
  ⟨fun p hp => (h.has p hp).trans ⟨fun ⟨j, h1, h2⟩ => ⟨j, by omega, h2⟩, fun ⟨j, h1, h2⟩ => by
      by_cases e : j = b
      · subst e; exact ⟨_, hf, (fst_key k j).trans h2⟩
      · exact ⟨j, by omega, h2⟩⟩,
    fun j hj => by
      by_cases e : j = b
      · subst e
        have := h.look _ hf
        rwa [fst_key k, cls_first] at this
      · exact h.look j (by omega),
    h.size.trans (cnt_old k (by omega)).symm⟩
end Go.Proofs.Ytgaadndhecokfaa

/- Contract of the program's Split, by a map of old classes and bits. -/
namespace Go.Proofs.Ytgaadndhecokfaa
open Go.RowKit Go.Maps

end Go.Proofs.Ytgaadndhecokfaa
