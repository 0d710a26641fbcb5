/-
  DERIVED. GIVEN WITH THE SEED: THE CARDS: each row of YtmpjjnjggihojaaGreatDoorRows.lean that lists a variable, with what it lists TIED to the program's text (the seventh form; the later family's looks); each row that meets fmt, with fmt's text TOLD by the authors' own Lean function (tested against real Go, not proved from fmt's source: count such statements apart). THE CARD IS WHAT COUNTS. Prove the row's statement (the work); the ties are given (YtmpjjnjggihojaaGreatDoorTie.lean); close each card by the builder's one call (the guide's Derived/Test/ToyasCard.lean, 'card_holds'). Laid BY PROGRAM, IN A SANDBOX (cutbox-door.mjs). By AI agents, Wed Nov 11 2026. No macro, syntax, notation, axiom, sorry.
-/
import Derived.Test.YtmpjjnjggihojaaGreatDoorRows
import GoSem.ClaimSeven
namespace Go.Proofs.YtmpjjnjggihojaaGreatDoor
namespace Rows

/-- THE TIED CARD OF 'facsimilelaw14.DfaBuilds'. -/
def dfaBuildsCard : Claim7 := { stood := { row := dfaBuildsRow, standIns := [], harness := (true, "fb61e93243e8b48a019c411e8d844153cdeb08179d792e0bf509e74ff8910c03"), looks := false }, kinds := [], alts := [], laidByText := true, laidKinds := [.data, .data, .data], laidTests := true, laidLooks := .later }
def DfaBuildsCardSaid : Prop := Claim7.holds Tryz.pinned (.plain (OpenSpec.ofChange dfaBuildsSpec)) dfaBuildsCard

/-- THE TIED CARD OF 'facsimilelaw14.DfaRuns'. -/
def dfaRunsCard : Claim7 := { stood := { row := dfaRunsRow, standIns := [], harness := (true, "fb61e93243e8b48a019c411e8d844153cdeb08179d792e0bf509e74ff8910c03"), looks := false }, kinds := [], alts := [], laidByText := true, laidKinds := [.data, .data, .data], laidTests := true, laidLooks := .later }
def DfaRunsCardSaid : Prop := Claim7.holds Tryz.pinned (.plain (OpenSpec.ofChange dfaRunsSpec)) dfaRunsCard

/-- THE TIED CARD OF 'facsimilelaw14.DfaReads'. -/
def dfaReadsCard : Claim7 := { stood := { row := dfaReadsRow, standIns := [], harness := (true, "fb61e93243e8b48a019c411e8d844153cdeb08179d792e0bf509e74ff8910c03"), looks := false }, kinds := [], alts := [], laidByText := true, laidKinds := [.data, .data, .data], laidTests := true, laidLooks := .later }
def DfaReadsCardSaid : Prop := Claim7.holds Tryz.pinned (.plain (OpenSpec.ofChange dfaReadsSpec)) dfaReadsCard

/-- THE TIED CARD OF 'facsimilelaw14.DfaBound'. -/
def dfaBoundCard : Claim7 := { stood := { row := dfaBoundRow, standIns := [], harness := (true, "fb61e93243e8b48a019c411e8d844153cdeb08179d792e0bf509e74ff8910c03"), looks := false }, kinds := [], alts := [], laidByText := true, laidKinds := [.data, .data, .data], laidTests := true, laidLooks := .later }
def DfaBoundCardSaid : Prop := Claim7.holds Tryz.pinned (.plain (OpenSpec.ofChange dfaBoundSpec)) dfaBoundCard

/-- THE SECOND FORM's CARD OF 'facsimilelaw14.DfaBuilds'. -/
def dfaBuildsUptoCard : Claim7 := { stood := { row := dfaBuildsUptoRow, standIns := [], harness := (true, "fb61e93243e8b48a019c411e8d844153cdeb08179d792e0bf509e74ff8910c03"), looks := false }, kinds := [], alts := [], laidByText := true, laidKinds := [.data, .data, .data], laidTests := true, laidLooks := .later }
def DfaBuildsUptoCardSaid : Prop := Claim7.holds Tryz.pinned (.plain (OpenSpec.upto dfaBuildsSpec)) dfaBuildsUptoCard

/-- THE SECOND FORM's CARD OF 'facsimilelaw14.DfaRuns'. -/
def dfaRunsUptoCard : Claim7 := { stood := { row := dfaRunsUptoRow, standIns := [], harness := (true, "fb61e93243e8b48a019c411e8d844153cdeb08179d792e0bf509e74ff8910c03"), looks := false }, kinds := [], alts := [], laidByText := true, laidKinds := [.data, .data, .data], laidTests := true, laidLooks := .later }
def DfaRunsUptoCardSaid : Prop := Claim7.holds Tryz.pinned (.plain (OpenSpec.upto dfaRunsSpec)) dfaRunsUptoCard

/-- THE SECOND FORM's CARD OF 'facsimilelaw14.DfaReads'. -/
def dfaReadsUptoCard : Claim7 := { stood := { row := dfaReadsUptoRow, standIns := [], harness := (true, "fb61e93243e8b48a019c411e8d844153cdeb08179d792e0bf509e74ff8910c03"), looks := false }, kinds := [], alts := [], laidByText := true, laidKinds := [.data, .data, .data], laidTests := true, laidLooks := .later }
def DfaReadsUptoCardSaid : Prop := Claim7.holds Tryz.pinned (.plain (OpenSpec.upto dfaReadsSpec)) dfaReadsUptoCard

/-- THE SECOND FORM's CARD OF 'facsimilelaw14.DfaBound'. -/
def dfaBoundUptoCard : Claim7 := { stood := { row := dfaBoundUptoRow, standIns := [], harness := (true, "fb61e93243e8b48a019c411e8d844153cdeb08179d792e0bf509e74ff8910c03"), looks := false }, kinds := [], alts := [], laidByText := true, laidKinds := [.data, .data, .data], laidTests := true, laidLooks := .later }
def DfaBoundUptoCardSaid : Prop := Claim7.holds Tryz.pinned (.plain (OpenSpec.upto dfaBoundSpec)) dfaBoundUptoCard
end Rows
end Go.Proofs.YtmpjjnjggihojaaGreatDoor
