/- SetBytes, SetFirsts, put together. -/
import Derived.Test.YthkboclooplpeaaGreatDoorRf23
import Derived.Laws.AppendOwn
import Derived.OwnWalk
import Derived.Test.YthkboclooplpeaaGreatDoorRf04
/- Contracts of First, and of the two functions that list a set's bytes. -/
namespace Go.Proofs.YthkboclooplpeaaGreatDoor
open Go.RowKit

theorem row_below {w w' : World} {base : Nat} {e : TypeId} {size : Nat} {v : Value} {n : Nat} {xs : List Value} (h : w.ownsRow base e size v n xs) (hb : Below w.heap.size w w') : w'.ownsRow base e size v n xs :=
  h.kept (row := none) ⟨hb.os, hb.tape, hb.output, hb.size, fun k hk _ => hb.block k hk⟩ (by cases v.ownBlock <;> simp)
theorem below_grown {B : Nat} {a w w' : World} {base : Nat} {e : TypeId} {size : Nat} {v : Value} {n : Nat} {xs : List Value} (h : Below B a w) (hown : w.ownsRow base e size v n xs) (hg : w.grownBy w' v.ownBlock) (hB : B ≤ base) (hw : B ≤ w.heap.size) : Below B a w' :=
  h.grown hg hw fun k hk => Nat.le_trans hB (hown.lt k hk).1
theorem SetAt.grown {w w' : World} {B base : Nat} {e : TypeId} {size : Nat} {v : Value} {n : Nat} {xs : List Value} {f : Nat → Bool} (h : SetAt w B f) (hown : w.ownsRow base e size v n xs) (hg : w.grownBy w' v.ownBlock) (hB : B < base) : SetAt w' B f := by
  refine (hg.block B h.lt fun e => ?_).trans h
  have := (hown.lt B e.symm).1
  omega
def byteV (n : Nat) : Value := .int .u8 n
theorem infoByte : (Tryz.prog.info? 5).map (fun i => (i.zero, i.size, i.bytes)) = some (some (.int .u8 0), 1, 1) := by kernel_rfl

/-- a slice of the call's own comes back, with these cells -/
def RetRow (base : Nat) (E : TypeId) (size n : Nat) (xs : List Value) (w : World) (e : Ending) (w' : World) : Prop := ∃ v, e = .returned v ∧ w'.ownsRow base E size v n xs ∧ Below w.heap.size w w'
theorem row_mono {w : World} {base base' : Nat} {e : TypeId} {size : Nat} {v : Value} {n : Nat} {xs : List Value} (h : w.ownsRow base e size v n xs) (hB : base' ≤ base) : w.ownsRow base' e size v n xs := by
  refine ⟨h.1, ?_⟩
  rcases h.2 with h1 | ⟨g, cap, cur, h1, h2, h3⟩
  · exact .inl h1
  · exact .inr ⟨g, cap, cur, h1, by omega, h3⟩
theorem take_more (f : Nat → Bool) (k : Nat) (h : f k = true) : ((List.range k).filter f) ++ [k] = (List.range (k + 1)).filter f := by
  rw [List.range_succ, List.filter_append]
  simp [h]
theorem take_same (f : Nat → Bool) (k : Nat) (h : f k = false) : (List.range k).filter f = (List.range (k + 1)).filter f := by
  rw [List.range_succ, List.filter_append]
  simp [h]
theorem filter_le (f : Nat → Bool) (k : Nat) : ((List.range k).filter f).length ≤ k := by
  have := List.length_filter_le f (List.range k)
  simpa using this
def GotB (f : Nat → Bool) (k base : Nat) (v : Value) (w : World) : Prop := w.ownsRow base 5 1 v ((List.range k).filter f).length (((List.range k).filter f).map byteV)
theorem gotB_step {f : Nat → Bool} {k base : Nat} {v : Value} {w : World} (h : f k = true) (hw : w.ownsRow base 5 1 v (((List.range k).filter f).length + 1) (((List.range k).filter f).map byteV ++ [.int .u8 k])) : GotB f (k + 1) base v w := by
  unfold GotB
  rw [← take_more f k h]
  simpa [byteV] using hw

theorem news_one {w : World} {x u : Value} {t : TypeId} {j : Nat} (hj : [x][j]? = some u) : (w.alloc (.cells #[x] t)).cell? ((⟨w.heap.size, 0, none⟩ : Addr).add j) = some u := by
  match j, hj with
  | 0, hj =>
    simp at hj
    subst hj
    rw [Addr.add_lit, World.cell?_alloc_at _ _ _ _ rfl]
    rfl

end Go.Proofs.YthkboclooplpeaaGreatDoor

/- Contracts of the two functions that tell a set's least byte. -/
namespace Go.Proofs.YthkboclooplpeaaGreatDoor
open Go.RowKit

theorem row_form {w : World} {base : Nat} {e : TypeId} {size : Nat} {v : Value} {n : Nat} {xs : List Value} (h : w.ownsRow base e size v n xs) :
    (v = .slice none 0 0 ∧ n = 0) ∨ ∃ g cap, v = .slice (some ⟨g, 0, none⟩) n cap ∧ base ≤ g ∧ g < w.heap.size ∧ n ≤ cap ∧ cap ≤ maxLen ∧ ∀ j, j < n * size → w.cell? ⟨g, j, none⟩ = xs[j]? := by
  rcases h.2 with h1 | ⟨g, cap, cur, h1, h2, h3, h4, h5, h6, h7⟩
  · exact .inl h1
  · refine .inr ⟨g, cap, h1, h2, ?_, h4, h5, fun j hj => ?_⟩
    · rcases Nat.lt_or_ge g w.heap.size with hlt | hge
      · exact hlt
      · rw [Array.getElem?_eq_none hge] at h3
        cases h3
    · subst h1
      exact World.ownsRow.cellAt h j hj
theorem first_elem {f : Nat → Bool} {a : Nat} {r : List Nat} (h : elems f = a :: r) : firstOf f = a := by simp [firstOf, h]
end Go.Proofs.YthkboclooplpeaaGreatDoor
