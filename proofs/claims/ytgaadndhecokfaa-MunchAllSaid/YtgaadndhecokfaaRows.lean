/-
  No cell of these rows narrows 'for every input' (looked for: loops, veiled, ifaces, maps, wideKeys, modest, calm, conditions, laid).
  DERIVED. THE GIVEN ROWS OF THIS SEAT. 4 by the template 'for every input the law returns true; each argument reads behind the call as it read before'; 0 by the template 'total and deterministic' (their statements: YtgaadndhecokfaaTotals.lean).
  GIVEN WITH THE SEED: the statements are not yours to turn. If you find one false, say at which input.
  Laid BY PROGRAM, IN A SANDBOX (cutbox-rows.mjs): the forced cells as the released guide's own fill.sh prints them over the translation 1e1979c68e298af5… (all of the seat's roots in one cut). By AI agents, Wed Nov 11 2026. No macro, syntax, notation, axiom, sorry.
-/
import Derived.Test.YtgaadndhecokfaaChecked
import GoSem.Claim
import GoSem.ClaimJoined
import GoSem.ClaimMapViews
import Derived.JoinedTies
import Derived.KernelRfl
namespace Go.Proofs.Ytgaadndhecokfaa
/- THE CELL 'sum', in the pinned program and in every row, IS THE sha256 OF THE DUMP (.gsa) THAT YtgaadndhecokfaaProg.lean LOADS. Nothing in Lean hashes anything: it is a label: what it is worth is what the hold of that sum in a sandbox is worth. -/
noncomputable def Try.pinned : Pinned := { name := "ytgaadndhecokfaa", sum := "1e1979c68e298af5e28e46ffbaad4538d1a1d46c269f2d20b721d0bcfdeaf2ca", checked := Try.checked }
namespace Rows
def none {H : Type} : Left H := { results := [], args := [] }

/-- 'facsimilelaw16.MunchNext': WHATEVER THE INPUT: true; the input reads as it did. -/
def munchNextSpec : ChangeSpec := { name := "munchNext", fn := fun _ => fun
  | [d1, d2, d3] => { results := [.lit (.bool true)], args := [d1, d2, d3] }
  | _ => none }
def munchNextRow : OpenClaim := { program := "ytgaadndhecokfaa", sum := "1e1979c68e298af5e28e46ffbaad4538d1a1d46c269f2d20b721d0bcfdeaf2ca", func := "facsimile/facsimilelaw16.MunchNext", spec := "munchNext", unfollowed := true, recurses := true, plainKeys := false, apart := false }
def MunchNextSaid : Prop := munchNextRow.holds Try.pinned (OpenSpec.ofChange munchNextSpec)

/-- ITS FALSE NEIGHBOUR: 'it returns false'. Refute it at one input. -/
def munchNextWrong : ChangeSpec := { name := "munchNext", fn := fun _ => fun
  | [d1, d2, d3] => { results := [.lit (.bool false)], args := [d1, d2, d3] }
  | _ => none }
def MunchNextWrongFalsely : Prop := munchNextRow.holds Try.pinned (OpenSpec.ofChange munchNextWrong)

/-- 'facsimilelaw16.MunchCuts': WHATEVER THE INPUT: true; the input reads as it did. -/
def munchCutsSpec : ChangeSpec := { name := "munchCuts", fn := fun _ => fun
  | [d1, d2, d3] => { results := [.lit (.bool true)], args := [d1, d2, d3] }
  | _ => none }
def munchCutsRow : OpenClaim := { program := "ytgaadndhecokfaa", sum := "1e1979c68e298af5e28e46ffbaad4538d1a1d46c269f2d20b721d0bcfdeaf2ca", func := "facsimile/facsimilelaw16.MunchCuts", spec := "munchCuts", inPlace := ["internal/abi.NoEscape"], unfollowed := true, recurses := true, plainKeys := false, apart := false }
def MunchCutsSaid : Prop := munchCutsRow.holds Try.pinned (OpenSpec.ofChange munchCutsSpec)

/-- ITS FALSE NEIGHBOUR: 'it returns false'. Refute it at one input. -/
def munchCutsWrong : ChangeSpec := { name := "munchCuts", fn := fun _ => fun
  | [d1, d2, d3] => { results := [.lit (.bool false)], args := [d1, d2, d3] }
  | _ => none }
def MunchCutsWrongFalsely : Prop := munchCutsRow.holds Try.pinned (OpenSpec.ofChange munchCutsWrong)

/-- 'facsimilelaw16.MunchAll': WHATEVER THE INPUT: true; the input reads as it did. -/
def munchAllSpec : ChangeSpec := { name := "munchAll", fn := fun _ => fun
  | [d1, d2] => { results := [.lit (.bool true)], args := [d1, d2] }
  | _ => none }
def munchAllRow : OpenClaim := { program := "ytgaadndhecokfaa", sum := "1e1979c68e298af5e28e46ffbaad4538d1a1d46c269f2d20b721d0bcfdeaf2ca", func := "facsimile/facsimilelaw16.MunchAll", spec := "munchAll", inPlace := ["internal/abi.NoEscape"], unfollowed := true, recurses := true, plainKeys := false, apart := false }
def MunchAllSaid : Prop := munchAllRow.holds Try.pinned (OpenSpec.ofChange munchAllSpec)

/-- ITS FALSE NEIGHBOUR: 'it returns false'. Refute it at one input. -/
def munchAllWrong : ChangeSpec := { name := "munchAll", fn := fun _ => fun
  | [d1, d2] => { results := [.lit (.bool false)], args := [d1, d2] }
  | _ => none }
def MunchAllWrongFalsely : Prop := munchAllRow.holds Try.pinned (OpenSpec.ofChange munchAllWrong)

/-- 'facsimilelaw16.MunchParts': WHATEVER THE INPUT: true; the input reads as it did. -/
def munchPartsSpec : ChangeSpec := { name := "munchParts", fn := fun _ => fun
  | [d1, d2, d3] => { results := [.lit (.bool true)], args := [d1, d2, d3] }
  | _ => none }
def munchPartsRow : OpenClaim := { program := "ytgaadndhecokfaa", sum := "1e1979c68e298af5e28e46ffbaad4538d1a1d46c269f2d20b721d0bcfdeaf2ca", func := "facsimile/facsimilelaw16.MunchParts", spec := "munchParts", inPlace := ["internal/abi.NoEscape"], unfollowed := true, recurses := true, plainKeys := false, apart := false }
def MunchPartsSaid : Prop := munchPartsRow.holds Try.pinned (OpenSpec.ofChange munchPartsSpec)

/-- ITS FALSE NEIGHBOUR: 'it returns false'. Refute it at one input. -/
def munchPartsWrong : ChangeSpec := { name := "munchParts", fn := fun _ => fun
  | [d1, d2, d3] => { results := [.lit (.bool false)], args := [d1, d2, d3] }
  | _ => none }
def MunchPartsWrongFalsely : Prop := munchPartsRow.holds Try.pinned (OpenSpec.ofChange munchPartsWrong)

/- THE SECOND FORM. 'bulk': how many values and letters a reading holds, each counted each time it is reached (what is shared counts as often as it is met; a slice's spare places count too). A statement '..UptoSaid' is the law's where the arguments, and the package variables that the reading takes, are together of bulk at most 1048576: NARROWER than '..Said'. Prove '..Said' where nothing that the law and all that it calls make is longer than what came in: it says more and counts as full. Else prove '..UptoSaid'. A law counts once. -/
mutual
def uptoBulk {H : Type} : DataW H → Nat
  | .lit (.string bytes) => bytes.length + 1
  | .lit _ => 1
  | .nil => 1
  | .ptr d => uptoBulk d + 1
  | .slice elems spare => uptoBulkAll elems + uptoBulkAll spare + 1
  | .agg parts => uptoBulkAll parts + 1
  | .iface _ d => uptoBulk d + 1
  | .map entries => uptoBulkEntries entries + 1
  | .held _ => 1
def uptoBulkAll {H : Type} : List (DataW H) → Nat
  | [] => 0
  | d :: r => uptoBulk d + uptoBulkAll r
def uptoBulkEntries {H : Type} : List (Lit × DataW H) → Nat
  | [] => 0
  | x :: r => uptoBulkEntry x + uptoBulkEntries r
def uptoBulkEntry {H : Type} : Lit × DataW H → Nat
  | (.string bytes, d) => bytes.length + uptoBulk d + 1
  | (_, d) => uptoBulk d + 1
 end
def uptoSmall : (H : Type) → List (DataW H) → Bool := fun _ ds => decide (uptoBulkAll ds ≤ 1048576)
def OpenSpec.upto (s : _root_.Go.ChangeSpec) : _root_.Go.OpenSpec := { _root_.Go.OpenSpec.ofChange s with cond := some uptoSmall }

/-- 'facsimilelaw16.MunchNext', WHERE WHAT IT READS IS OF BULK AT MOST 1048576: true; the input reads as it did. -/
def munchNextUptoRow : OpenClaim := { program := "ytgaadndhecokfaa", sum := "1e1979c68e298af5e28e46ffbaad4538d1a1d46c269f2d20b721d0bcfdeaf2ca", func := "facsimile/facsimilelaw16.MunchNext", spec := "munchNext", unfollowed := true, recurses := true, plainKeys := false, apart := false, narrowed := true }
def MunchNextUptoSaid : Prop := munchNextUptoRow.holds Try.pinned (OpenSpec.upto munchNextSpec)

/-- 'facsimilelaw16.MunchCuts', WHERE WHAT IT READS IS OF BULK AT MOST 1048576: true; the input reads as it did. -/
def munchCutsUptoRow : OpenClaim := { program := "ytgaadndhecokfaa", sum := "1e1979c68e298af5e28e46ffbaad4538d1a1d46c269f2d20b721d0bcfdeaf2ca", func := "facsimile/facsimilelaw16.MunchCuts", spec := "munchCuts", inPlace := ["internal/abi.NoEscape"], unfollowed := true, recurses := true, plainKeys := false, apart := false, narrowed := true }
def MunchCutsUptoSaid : Prop := munchCutsUptoRow.holds Try.pinned (OpenSpec.upto munchCutsSpec)

/-- 'facsimilelaw16.MunchAll', WHERE WHAT IT READS IS OF BULK AT MOST 1048576: true; the input reads as it did. -/
def munchAllUptoRow : OpenClaim := { program := "ytgaadndhecokfaa", sum := "1e1979c68e298af5e28e46ffbaad4538d1a1d46c269f2d20b721d0bcfdeaf2ca", func := "facsimile/facsimilelaw16.MunchAll", spec := "munchAll", inPlace := ["internal/abi.NoEscape"], unfollowed := true, recurses := true, plainKeys := false, apart := false, narrowed := true }
def MunchAllUptoSaid : Prop := munchAllUptoRow.holds Try.pinned (OpenSpec.upto munchAllSpec)

/-- 'facsimilelaw16.MunchParts', WHERE WHAT IT READS IS OF BULK AT MOST 1048576: true; the input reads as it did. -/
def munchPartsUptoRow : OpenClaim := { program := "ytgaadndhecokfaa", sum := "1e1979c68e298af5e28e46ffbaad4538d1a1d46c269f2d20b721d0bcfdeaf2ca", func := "facsimile/facsimilelaw16.MunchParts", spec := "munchParts", inPlace := ["internal/abi.NoEscape"], unfollowed := true, recurses := true, plainKeys := false, apart := false, narrowed := true }
def MunchPartsUptoSaid : Prop := munchPartsUptoRow.holds Try.pinned (OpenSpec.upto munchPartsSpec)

end Rows
end Go.Proofs.Ytgaadndhecokfaa
