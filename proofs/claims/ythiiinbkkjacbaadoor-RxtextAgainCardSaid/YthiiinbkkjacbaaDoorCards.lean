/-
  DERIVED. GIVEN WITH THE SEED: THE CARDS: each row of YthiiinbkkjacbaaDoorRows.lean that lists a variable, with what it lists TIED to the program's text (the seventh form; the later family's looks); each row that meets fmt, with fmt's text TOLD by the authors' own Lean function (tested against real Go, not proved from fmt's source: count such statements apart). THE CARD IS WHAT COUNTS. Prove the row's statement (the work); the ties are given (YthiiinbkkjacbaaDoorTie.lean); close each card by the builder's one call (the guide's Derived/Test/ToyasCard.lean, 'card_holds'). Laid BY PROGRAM, IN A SANDBOX (cutbox-door.mjs). By AI agents, Wed Nov 11 2026. No macro, syntax, notation, axiom, sorry.
-/
import Derived.Test.YthiiinbkkjacbaaDoorRows
import GoSem.ClaimSeven
namespace Go.Proofs.YthiiinbkkjacbaaDoor
namespace Rows

/-- THE TIED CARD OF 'facsimilelaw08.RxtextShows'. -/
def rxtextShowsCard : Claim7 := { stood := { row := rxtextShowsRow, standIns := [], harness := (true, "0572c3db671028f1144a025a0cd918c53072e3a7730b9647b79f4a7bda6cee84"), looks := false }, kinds := [], alts := [], laidByText := true, laidKinds := [.data, .data], laidTests := true, laidLooks := .later }
def RxtextShowsCardSaid : Prop := Claim7.holds Tryd.pinned (.plain (OpenSpec.ofChange rxtextShowsSpec)) rxtextShowsCard

/-- THE TIED CARD OF 'facsimilelaw08.RxtextBack'. -/
def rxtextBackCard : Claim7 := { stood := { row := rxtextBackRow, standIns := [], harness := (true, "0572c3db671028f1144a025a0cd918c53072e3a7730b9647b79f4a7bda6cee84"), looks := false }, kinds := [], alts := [], laidByText := true, laidKinds := [.data, .data], laidTests := true, laidLooks := .later }
def RxtextBackCardSaid : Prop := Claim7.holds Tryd.pinned (.plain (OpenSpec.ofChange rxtextBackSpec)) rxtextBackCard

/-- THE TIED CARD OF 'facsimilelaw08.RxtextAgain'. -/
def rxtextAgainCard : Claim7 := { stood := { row := rxtextAgainRow, standIns := [], harness := (true, "0572c3db671028f1144a025a0cd918c53072e3a7730b9647b79f4a7bda6cee84"), looks := false }, kinds := [], alts := [], laidByText := true, laidKinds := [.data, .data], laidTests := true, laidLooks := .later }
def RxtextAgainCardSaid : Prop := Claim7.holds Tryd.pinned (.plain (OpenSpec.ofChange rxtextAgainSpec)) rxtextAgainCard

/-- THE SECOND FORM's CARD OF 'facsimilelaw08.RxtextShows'. -/
def rxtextShowsUptoCard : Claim7 := { stood := { row := rxtextShowsUptoRow, standIns := [], harness := (true, "0572c3db671028f1144a025a0cd918c53072e3a7730b9647b79f4a7bda6cee84"), looks := false }, kinds := [], alts := [], laidByText := true, laidKinds := [.data, .data], laidTests := true, laidLooks := .later }
def RxtextShowsUptoCardSaid : Prop := Claim7.holds Tryd.pinned (.plain (OpenSpec.upto rxtextShowsSpec)) rxtextShowsUptoCard

/-- THE SECOND FORM's CARD OF 'facsimilelaw08.RxtextBack'. -/
def rxtextBackUptoCard : Claim7 := { stood := { row := rxtextBackUptoRow, standIns := [], harness := (true, "0572c3db671028f1144a025a0cd918c53072e3a7730b9647b79f4a7bda6cee84"), looks := false }, kinds := [], alts := [], laidByText := true, laidKinds := [.data, .data], laidTests := true, laidLooks := .later }
def RxtextBackUptoCardSaid : Prop := Claim7.holds Tryd.pinned (.plain (OpenSpec.upto rxtextBackSpec)) rxtextBackUptoCard

/-- THE SECOND FORM's CARD OF 'facsimilelaw08.RxtextAgain'. -/
def rxtextAgainUptoCard : Claim7 := { stood := { row := rxtextAgainUptoRow, standIns := [], harness := (true, "0572c3db671028f1144a025a0cd918c53072e3a7730b9647b79f4a7bda6cee84"), looks := false }, kinds := [], alts := [], laidByText := true, laidKinds := [.data, .data], laidTests := true, laidLooks := .later }
def RxtextAgainUptoCardSaid : Prop := Claim7.holds Tryd.pinned (.plain (OpenSpec.upto rxtextAgainSpec)) rxtextAgainUptoCard
end Rows
end Go.Proofs.YthiiinbkkjacbaaDoor
