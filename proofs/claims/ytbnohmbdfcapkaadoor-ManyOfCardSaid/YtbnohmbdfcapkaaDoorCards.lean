/-
  DERIVED. GIVEN WITH THE SEED: THE CARDS: each row of YtbnohmbdfcapkaaDoorRows.lean that lists a variable, with what it lists TIED to the program's text (the seventh form; the later family's looks); each row that meets fmt, with fmt's text TOLD by the authors' own Lean function (tested against real Go, not proved from fmt's source: count such statements apart). THE CARD IS WHAT COUNTS. Prove the row's statement (the work); the ties are given (YtbnohmbdfcapkaaDoorTie.lean); close each card by the builder's one call (the guide's Derived/Test/ToyasCard.lean, 'card_holds'). Laid BY PROGRAM, IN A SANDBOX (cutbox-door.mjs). By AI agents, Wed Nov 11 2026. No macro, syntax, notation, axiom, sorry.
-/
import Derived.Test.YtbnohmbdfcapkaaDoorRows
import GoSem.ClaimSeven
namespace Go.Proofs.YtbnohmbdfcapkaaDoor
namespace Rows

/-- THE TIED CARD OF 'facsimilelaw11.ManyOf'. -/
def manyOfCard : Claim7 := { stood := { row := manyOfRow, standIns := [], harness := (true, "826950c0d9a4d62eb2557490a1f09bc302648c7a559d91a8e5e19cfe559568d6"), looks := false }, kinds := [], alts := [], laidByText := true, laidKinds := [.data, .data, .data], laidTests := true, laidLooks := .later }
def ManyOfCardSaid : Prop := Claim7.holds Tryd.pinned (.plain (OpenSpec.ofChange manyOfSpec)) manyOfCard

/-- THE SECOND FORM's CARD OF 'facsimilelaw11.ManyOf'. -/
def manyOfUptoCard : Claim7 := { stood := { row := manyOfUptoRow, standIns := [], harness := (true, "826950c0d9a4d62eb2557490a1f09bc302648c7a559d91a8e5e19cfe559568d6"), looks := false }, kinds := [], alts := [], laidByText := true, laidKinds := [.data, .data, .data], laidTests := true, laidLooks := .later }
def ManyOfUptoCardSaid : Prop := Claim7.holds Tryd.pinned (.plain (OpenSpec.upto manyOfSpec)) manyOfUptoCard
end Rows
end Go.Proofs.YtbnohmbdfcapkaaDoor
