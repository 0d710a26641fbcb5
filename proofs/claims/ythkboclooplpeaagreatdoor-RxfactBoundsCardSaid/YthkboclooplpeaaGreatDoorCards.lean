/-
  DERIVED. GIVEN WITH THE SEED: THE CARDS: each row of YthkboclooplpeaaGreatDoorRows.lean that lists a variable, with what it lists TIED to the program's text (the seventh form; the later family's looks); each row that meets fmt, with fmt's text TOLD by the authors' own Lean function (tested against real Go, not proved from fmt's source: count such statements apart). THE CARD IS WHAT COUNTS. Prove the row's statement (the work); the ties are given (YthkboclooplpeaaGreatDoorTie.lean); close each card by the builder's one call (the guide's Derived/Test/ToyasCard.lean, 'card_holds'). Laid BY PROGRAM, IN A SANDBOX (cutbox-door.mjs). By AI agents, Wed Nov 11 2026. No macro, syntax, notation, axiom, sorry.
-/
import Derived.Test.YthkboclooplpeaaGreatDoorRows
import GoSem.ClaimSeven
namespace Go.Proofs.YthkboclooplpeaaGreatDoor
namespace Rows

/-- THE TIED CARD OF 'facsimilelaw09.RxfactWords'. -/
def rxfactWordsCard : Claim7 := { stood := { row := rxfactWordsRow, standIns := [], harness := (true, "caf4bdf57563e5690fd5054733d0bba01abbd8688f1d404e6c089180ab3b60b0"), looks := false }, kinds := [], alts := [], laidByText := true, laidKinds := [.data], laidTests := true, laidLooks := .later }
def RxfactWordsCardSaid : Prop := Claim7.holds Tryz.pinned (.plain (OpenSpec.ofChange rxfactWordsSpec)) rxfactWordsCard

/-- THE TIED CARD OF 'facsimilelaw09.RxfactAll'. -/
def rxfactAllCard : Claim7 := { stood := { row := rxfactAllRow, standIns := [], harness := (true, "caf4bdf57563e5690fd5054733d0bba01abbd8688f1d404e6c089180ab3b60b0"), looks := false }, kinds := [], alts := [], laidByText := true, laidKinds := [.data], laidTests := true, laidLooks := .later }
def RxfactAllCardSaid : Prop := Claim7.holds Tryz.pinned (.plain (OpenSpec.ofChange rxfactAllSpec)) rxfactAllCard

/-- THE TIED CARD OF 'facsimilelaw09.RxfactJoins'. -/
def rxfactJoinsCard : Claim7 := { stood := { row := rxfactJoinsRow, standIns := [], harness := (true, "caf4bdf57563e5690fd5054733d0bba01abbd8688f1d404e6c089180ab3b60b0"), looks := false }, kinds := [], alts := [], laidByText := true, laidKinds := [.data], laidTests := true, laidLooks := .later }
def RxfactJoinsCardSaid : Prop := Claim7.holds Tryz.pinned (.plain (OpenSpec.ofChange rxfactJoinsSpec)) rxfactJoinsCard

/-- THE TIED CARD OF 'facsimilelaw09.RxfactBounds'. -/
def rxfactBoundsCard : Claim7 := { stood := { row := rxfactBoundsRow, standIns := [], harness := (true, "caf4bdf57563e5690fd5054733d0bba01abbd8688f1d404e6c089180ab3b60b0"), looks := false }, kinds := [], alts := [], laidByText := true, laidKinds := [.data], laidTests := true, laidLooks := .later }
def RxfactBoundsCardSaid : Prop := Claim7.holds Tryz.pinned (.plain (OpenSpec.ofChange rxfactBoundsSpec)) rxfactBoundsCard

/-- THE SECOND FORM's CARD OF 'facsimilelaw09.RxfactWords'. -/
def rxfactWordsUptoCard : Claim7 := { stood := { row := rxfactWordsUptoRow, standIns := [], harness := (true, "caf4bdf57563e5690fd5054733d0bba01abbd8688f1d404e6c089180ab3b60b0"), looks := false }, kinds := [], alts := [], laidByText := true, laidKinds := [.data], laidTests := true, laidLooks := .later }
def RxfactWordsUptoCardSaid : Prop := Claim7.holds Tryz.pinned (.plain (OpenSpec.upto rxfactWordsSpec)) rxfactWordsUptoCard

/-- THE SECOND FORM's CARD OF 'facsimilelaw09.RxfactAll'. -/
def rxfactAllUptoCard : Claim7 := { stood := { row := rxfactAllUptoRow, standIns := [], harness := (true, "caf4bdf57563e5690fd5054733d0bba01abbd8688f1d404e6c089180ab3b60b0"), looks := false }, kinds := [], alts := [], laidByText := true, laidKinds := [.data], laidTests := true, laidLooks := .later }
def RxfactAllUptoCardSaid : Prop := Claim7.holds Tryz.pinned (.plain (OpenSpec.upto rxfactAllSpec)) rxfactAllUptoCard

/-- THE SECOND FORM's CARD OF 'facsimilelaw09.RxfactJoins'. -/
def rxfactJoinsUptoCard : Claim7 := { stood := { row := rxfactJoinsUptoRow, standIns := [], harness := (true, "caf4bdf57563e5690fd5054733d0bba01abbd8688f1d404e6c089180ab3b60b0"), looks := false }, kinds := [], alts := [], laidByText := true, laidKinds := [.data], laidTests := true, laidLooks := .later }
def RxfactJoinsUptoCardSaid : Prop := Claim7.holds Tryz.pinned (.plain (OpenSpec.upto rxfactJoinsSpec)) rxfactJoinsUptoCard

/-- THE SECOND FORM's CARD OF 'facsimilelaw09.RxfactBounds'. -/
def rxfactBoundsUptoCard : Claim7 := { stood := { row := rxfactBoundsUptoRow, standIns := [], harness := (true, "caf4bdf57563e5690fd5054733d0bba01abbd8688f1d404e6c089180ab3b60b0"), looks := false }, kinds := [], alts := [], laidByText := true, laidKinds := [.data], laidTests := true, laidLooks := .later }
def RxfactBoundsUptoCardSaid : Prop := Claim7.holds Tryz.pinned (.plain (OpenSpec.upto rxfactBoundsSpec)) rxfactBoundsUptoCard
end Rows
end Go.Proofs.YthkboclooplpeaaGreatDoor
