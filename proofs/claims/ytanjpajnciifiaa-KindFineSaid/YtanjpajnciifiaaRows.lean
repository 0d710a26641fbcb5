/-
  No cell of these rows narrows 'for every input' (looked for: loops, veiled, ifaces, maps, wideKeys, modest, calm, conditions, laid).
  DERIVED. THE GIVEN ROWS OF THIS SEAT. 4 by the template 'for every input the law returns true; each argument reads behind the call as it read before'; 0 by the template 'total and deterministic' (their statements: YtanjpajnciifiaaTotals.lean).
  GIVEN WITH THE SEED: the statements are not yours to turn. If you find one false, say at which input.
  Laid BY PROGRAM, IN A SANDBOX (cutbox-rows.mjs): the forced cells as the released guide's own fill.sh prints them over the translation ab1db958f724c192… (all of the seat's roots in one cut). By AI agents, Wed Nov 11 2026. No macro, syntax, notation, axiom, sorry.
-/
import Derived.Test.YtanjpajnciifiaaChecked
import GoSem.Claim
import GoSem.ClaimJoined
import GoSem.ClaimMapViews
import Derived.JoinedTies
import Derived.KernelRfl
namespace Go.Proofs.Ytanjpajnciifiaa
/- THE CELL 'sum', in the pinned program and in every row, IS THE sha256 OF THE DUMP (.gsa) THAT YtanjpajnciifiaaProg.lean LOADS. Nothing in Lean hashes anything: it is a label: what it is worth is what the hold of that sum in a sandbox is worth. -/
noncomputable def Try.pinned : Pinned := { name := "ytanjpajnciifiaa", sum := "ab1db958f724c192f1e89898d95ad99e791ad90cdd3ee20fc3f28a80807c2c71", checked := Try.checked }
namespace Rows
def none {H : Type} : Left H := { results := [], args := [] }

/-- 'facsimilelaw13.KindOf': WHATEVER THE INPUT: true; the input reads as it did. -/
def kindOfSpec : ChangeSpec := { name := "kindOf", fn := fun _ => fun
  | [d] => { results := [.lit (.bool true)], args := [d] }
  | _ => none }
def kindOfRow : OpenClaim := { program := "ytanjpajnciifiaa", sum := "ab1db958f724c192f1e89898d95ad99e791ad90cdd3ee20fc3f28a80807c2c71", func := "facsimile/facsimilelaw13.KindOf", spec := "kindOf", plainKeys := false, apart := false }
def KindOfSaid : Prop := kindOfRow.holds Try.pinned (OpenSpec.ofChange kindOfSpec)

/-- ITS FALSE NEIGHBOUR: 'it returns false'. Refute it at one input. -/
def kindOfWrong : ChangeSpec := { name := "kindOf", fn := fun _ => fun
  | [d] => { results := [.lit (.bool false)], args := [d] }
  | _ => none }
def KindOfWrongFalsely : Prop := kindOfRow.holds Try.pinned (OpenSpec.ofChange kindOfWrong)

/-- 'facsimilelaw13.KindAsks': WHATEVER THE INPUT: true; the input reads as it did. -/
def kindAsksSpec : ChangeSpec := { name := "kindAsks", fn := fun _ => fun
  | [d1, d2, d3] => { results := [.lit (.bool true)], args := [d1, d2, d3] }
  | _ => none }
def kindAsksRow : OpenClaim := { program := "ytanjpajnciifiaa", sum := "ab1db958f724c192f1e89898d95ad99e791ad90cdd3ee20fc3f28a80807c2c71", func := "facsimile/facsimilelaw13.KindAsks", spec := "kindAsks", plainKeys := false, apart := false }
def KindAsksSaid : Prop := kindAsksRow.holds Try.pinned (OpenSpec.ofChange kindAsksSpec)

/-- ITS FALSE NEIGHBOUR: 'it returns false'. Refute it at one input. -/
def kindAsksWrong : ChangeSpec := { name := "kindAsks", fn := fun _ => fun
  | [d1, d2, d3] => { results := [.lit (.bool false)], args := [d1, d2, d3] }
  | _ => none }
def KindAsksWrongFalsely : Prop := kindAsksRow.holds Try.pinned (OpenSpec.ofChange kindAsksWrong)

/-- 'facsimilelaw13.KindFine': WHATEVER THE INPUT: true; the input reads as it did. -/
def kindFineSpec : ChangeSpec := { name := "kindFine", fn := fun _ => fun
  | [d] => { results := [.lit (.bool true)], args := [d] }
  | _ => none }
def kindFineRow : OpenClaim := { program := "ytanjpajnciifiaa", sum := "ab1db958f724c192f1e89898d95ad99e791ad90cdd3ee20fc3f28a80807c2c71", func := "facsimile/facsimilelaw13.KindFine", spec := "kindFine", plainKeys := false, apart := false }
def KindFineSaid : Prop := kindFineRow.holds Try.pinned (OpenSpec.ofChange kindFineSpec)

/-- ITS FALSE NEIGHBOUR: 'it returns false'. Refute it at one input. -/
def kindFineWrong : ChangeSpec := { name := "kindFine", fn := fun _ => fun
  | [d] => { results := [.lit (.bool false)], args := [d] }
  | _ => none }
def KindFineWrongFalsely : Prop := kindFineRow.holds Try.pinned (OpenSpec.ofChange kindFineWrong)

/-- 'facsimilelaw13.KindParts': WHATEVER THE INPUT: true; the input reads as it did. -/
def kindPartsSpec : ChangeSpec := { name := "kindParts", fn := fun _ => fun
  | [d] => { results := [.lit (.bool true)], args := [d] }
  | _ => none }
def kindPartsRow : OpenClaim := { program := "ytanjpajnciifiaa", sum := "ab1db958f724c192f1e89898d95ad99e791ad90cdd3ee20fc3f28a80807c2c71", func := "facsimile/facsimilelaw13.KindParts", spec := "kindParts", plainKeys := false, apart := false }
def KindPartsSaid : Prop := kindPartsRow.holds Try.pinned (OpenSpec.ofChange kindPartsSpec)

/-- ITS FALSE NEIGHBOUR: 'it returns false'. Refute it at one input. -/
def kindPartsWrong : ChangeSpec := { name := "kindParts", fn := fun _ => fun
  | [d] => { results := [.lit (.bool false)], args := [d] }
  | _ => none }
def KindPartsWrongFalsely : Prop := kindPartsRow.holds Try.pinned (OpenSpec.ofChange kindPartsWrong)

/- THE SECOND FORM. 'bulk': how many values and letters a reading holds, each counted each time it is reached (what is shared counts as often as it is met; a slice's spare places count too). A statement '..UptoSaid' is the law's where the arguments, and the package variables that the reading takes, are together of bulk at most 1048576: NARROWER than '..Said'. Prove '..Said' where nothing that the law and all that it calls make is longer than what came in: it says more and counts as full. Else prove '..UptoSaid'. A law counts once. -/
mutual
def uptoBulk {H : Type} : DataW H → Nat
  | .lit (.string bytes) => bytes.length + 1
  | .lit _ => 1
  | .nil => 1
  | .ptr d => uptoBulk d + 1
  | .slice elems spare => uptoBulkAll elems + uptoBulkAll spare + 1
  | .agg parts => uptoBulkAll parts + 1
  | .iface _ d => uptoBulk d + 1
  | .map entries => uptoBulkEntries entries + 1
  | .held _ => 1
def uptoBulkAll {H : Type} : List (DataW H) → Nat
  | [] => 0
  | d :: r => uptoBulk d + uptoBulkAll r
def uptoBulkEntries {H : Type} : List (Lit × DataW H) → Nat
  | [] => 0
  | x :: r => uptoBulkEntry x + uptoBulkEntries r
def uptoBulkEntry {H : Type} : Lit × DataW H → Nat
  | (.string bytes, d) => bytes.length + uptoBulk d + 1
  | (_, d) => uptoBulk d + 1
 end
def uptoSmall : (H : Type) → List (DataW H) → Bool := fun _ ds => decide (uptoBulkAll ds ≤ 1048576)
def OpenSpec.upto (s : _root_.Go.ChangeSpec) : _root_.Go.OpenSpec := { _root_.Go.OpenSpec.ofChange s with cond := some uptoSmall }

/-- 'facsimilelaw13.KindOf', WHERE WHAT IT READS IS OF BULK AT MOST 1048576: true; the input reads as it did. -/
def kindOfUptoRow : OpenClaim := { program := "ytanjpajnciifiaa", sum := "ab1db958f724c192f1e89898d95ad99e791ad90cdd3ee20fc3f28a80807c2c71", func := "facsimile/facsimilelaw13.KindOf", spec := "kindOf", plainKeys := false, apart := false, narrowed := true }
def KindOfUptoSaid : Prop := kindOfUptoRow.holds Try.pinned (OpenSpec.upto kindOfSpec)

/-- 'facsimilelaw13.KindAsks', WHERE WHAT IT READS IS OF BULK AT MOST 1048576: true; the input reads as it did. -/
def kindAsksUptoRow : OpenClaim := { program := "ytanjpajnciifiaa", sum := "ab1db958f724c192f1e89898d95ad99e791ad90cdd3ee20fc3f28a80807c2c71", func := "facsimile/facsimilelaw13.KindAsks", spec := "kindAsks", plainKeys := false, apart := false, narrowed := true }
def KindAsksUptoSaid : Prop := kindAsksUptoRow.holds Try.pinned (OpenSpec.upto kindAsksSpec)

/-- 'facsimilelaw13.KindFine', WHERE WHAT IT READS IS OF BULK AT MOST 1048576: true; the input reads as it did. -/
def kindFineUptoRow : OpenClaim := { program := "ytanjpajnciifiaa", sum := "ab1db958f724c192f1e89898d95ad99e791ad90cdd3ee20fc3f28a80807c2c71", func := "facsimile/facsimilelaw13.KindFine", spec := "kindFine", plainKeys := false, apart := false, narrowed := true }
def KindFineUptoSaid : Prop := kindFineUptoRow.holds Try.pinned (OpenSpec.upto kindFineSpec)

/-- 'facsimilelaw13.KindParts', WHERE WHAT IT READS IS OF BULK AT MOST 1048576: true; the input reads as it did. -/
def kindPartsUptoRow : OpenClaim := { program := "ytanjpajnciifiaa", sum := "ab1db958f724c192f1e89898d95ad99e791ad90cdd3ee20fc3f28a80807c2c71", func := "facsimile/facsimilelaw13.KindParts", spec := "kindParts", plainKeys := false, apart := false, narrowed := true }
def KindPartsUptoSaid : Prop := kindPartsUptoRow.holds Try.pinned (OpenSpec.upto kindPartsSpec)

end Rows
end Go.Proofs.Ytanjpajnciifiaa
