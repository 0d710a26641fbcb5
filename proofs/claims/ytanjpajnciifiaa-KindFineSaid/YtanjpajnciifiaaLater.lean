/- A region that draws its order, whose own operations only read, and whose callees may lay blocks but hand back plain values: walked once, in the text's order. -/
import Derived.Test.YtanjpajnciifiaaBase
import Derived.Deep.QuietTactic
import Derived.BigQuiet
namespace Go.Proofs.Ytanjpajnciifiaa
open Go.RowKit

/-- a world behind w: of what was there nothing has turned -/
structure Later (w : World) where
  at' : World
  ok : Below w.heap.size w at'
instance later_one (w : World) : Nonempty (Later w) := ⟨⟨w, Below.refl _ _⟩⟩
theorem wp_region_later {P : Program} {id : Nat} {Q : Exit → Act → World → Prop} {a : Act} {w : World} {l : List Oper} (hm : P.follows .mixedOrders = true) (hB : Region.lexB .any l.toArray = true)
    (h : wpQuiet P l.toArray (fun w' => ∃ p : Later w, w' = p.at') (fun a' => ∀ w', (∃ p : Later w, w' = p.at') → Q .normal a' w') l a) : (Code.region id l.toArray true).wp P Q a w :=
  wp_region_quiet (C := fun w' => ∃ p : Later w, w' = p.at') hm hB ⟨⟨w.drew, (Below.refl _ _).drew⟩, rfl⟩ (by simpa using h)
theorem Later.cell {w : World} {a : Addr} {v : Value} (h : w.cell? a = some v) (ha : a.block < w.heap.size) (p : Later w) : p.at'.cell? a = some v := (p.ok.cell ha).trans h
theorem Later.calls {P : Program} {f : FuncId} {args : Array Value} {w : World} {p : Later w} {v : Value}
    (h : Calls P f args p.at' fun e w' => e = .returned v ∧ Below p.at'.heap.size p.at' w') : Calls P f args p.at' fun e w'' => e = .returned v ∧ ∃ q : Later w, w'' = q.at' :=
  h.mono fun _ w'' ⟨he, hb⟩ => ⟨he, ⟨w'', below_after p.ok hb⟩, rfl⟩
theorem Later.same {P : Program} {f : FuncId} {args : Array Value} {w : World} {p : Later w} {v : Value}
    (h : Calls P f args p.at' fun e w' => e = .returned v ∧ p.at' = w') : Calls P f args p.at' fun e w'' => e = .returned v ∧ ∃ q : Later w, w'' = q.at' :=
  h.mono fun _ _ ⟨he, hb⟩ => ⟨he, p, hb.symm⟩
end Go.Proofs.Ytanjpajnciifiaa
