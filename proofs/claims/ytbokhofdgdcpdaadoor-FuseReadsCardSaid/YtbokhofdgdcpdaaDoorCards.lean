/-
  DERIVED. GIVEN WITH THE SEED: THE CARDS: each row of YtbokhofdgdcpdaaDoorRows.lean that lists a variable, with what it lists TIED to the program's text (the seventh form; the later family's looks); each row that meets fmt, with fmt's text TOLD by the authors' own Lean function (tested against real Go, not proved from fmt's source: count such statements apart). THE CARD IS WHAT COUNTS. Prove the row's statement (the work); the ties are given (YtbokhofdgdcpdaaDoorTie.lean); close each card by the builder's one call (the guide's Derived/Test/ToyasCard.lean, 'card_holds'). Laid BY PROGRAM, IN A SANDBOX (cutbox-door.mjs). By AI agents, Wed Nov 11 2026. No macro, syntax, notation, axiom, sorry.
-/
import Derived.Test.YtbokhofdgdcpdaaDoorRows
import GoSem.ClaimSeven
namespace Go.Proofs.YtbokhofdgdcpdaaDoor
namespace Rows

/-- THE TIED CARD OF 'facsimilelaw10.SpotTells'. -/
def spotTellsCard : Claim7 := { stood := { row := spotTellsRow, standIns := [], harness := (true, "2d7a7cdab9648aa92af065527db2f9159c0a253275d1700557e608e94f046fb4"), looks := false }, kinds := [], alts := [], laidByText := true, laidKinds := [.data], laidTests := true, laidLooks := .later }
def SpotTellsCardSaid : Prop := Claim7.holds Tryd.pinned (.plain (OpenSpec.ofChange spotTellsSpec)) spotTellsCard

/-- THE TIED CARD OF 'facsimilelaw10.SpotWords'. -/
def spotWordsCard : Claim7 := { stood := { row := spotWordsRow, standIns := [], harness := (true, "2d7a7cdab9648aa92af065527db2f9159c0a253275d1700557e608e94f046fb4"), looks := false }, kinds := [], alts := [], laidByText := true, laidKinds := [.data], laidTests := true, laidLooks := .later }
def SpotWordsCardSaid : Prop := Claim7.holds Tryd.pinned (.plain (OpenSpec.ofChange spotWordsSpec)) spotWordsCard

/-- THE TIED CARD OF 'facsimilelaw10.SpotBehind'. -/
def spotBehindCard : Claim7 := { stood := { row := spotBehindRow, standIns := [], harness := (true, "2d7a7cdab9648aa92af065527db2f9159c0a253275d1700557e608e94f046fb4"), looks := false }, kinds := [], alts := [], laidByText := true, laidKinds := [.data], laidTests := true, laidLooks := .later }
def SpotBehindCardSaid : Prop := Claim7.holds Tryd.pinned (.plain (OpenSpec.ofChange spotBehindSpec)) spotBehindCard

/-- THE TIED CARD OF 'facsimilelaw12.FuseTells'. -/
def fuseTellsCard : Claim7 := { stood := { row := fuseTellsRow, standIns := [], harness := (true, "2d7a7cdab9648aa92af065527db2f9159c0a253275d1700557e608e94f046fb4"), looks := false }, kinds := [], alts := [], laidByText := true, laidKinds := [.data], laidTests := true, laidLooks := .later }
def FuseTellsCardSaid : Prop := Claim7.holds Tryd.pinned (.plain (OpenSpec.ofChange fuseTellsSpec)) fuseTellsCard

/-- THE TIED CARD OF 'facsimilelaw12.FuseLeads'. -/
def fuseLeadsCard : Claim7 := { stood := { row := fuseLeadsRow, standIns := [], harness := (true, "2d7a7cdab9648aa92af065527db2f9159c0a253275d1700557e608e94f046fb4"), looks := false }, kinds := [], alts := [], laidByText := true, laidKinds := [.data], laidTests := true, laidLooks := .later }
def FuseLeadsCardSaid : Prop := Claim7.holds Tryd.pinned (.plain (OpenSpec.ofChange fuseLeadsSpec)) fuseLeadsCard

/-- THE TIED CARD OF 'facsimilelaw12.FuseReads'. -/
def fuseReadsCard : Claim7 := { stood := { row := fuseReadsRow, standIns := [], harness := (true, "2d7a7cdab9648aa92af065527db2f9159c0a253275d1700557e608e94f046fb4"), looks := false }, kinds := [], alts := [], laidByText := true, laidKinds := [.data], laidTests := true, laidLooks := .later }
def FuseReadsCardSaid : Prop := Claim7.holds Tryd.pinned (.plain (OpenSpec.ofChange fuseReadsSpec)) fuseReadsCard

/-- THE TIED CARD OF 'facsimilelaw12.FuseParts'. -/
def fusePartsCard : Claim7 := { stood := { row := fusePartsRow, standIns := [], harness := (true, "2d7a7cdab9648aa92af065527db2f9159c0a253275d1700557e608e94f046fb4"), looks := false }, kinds := [], alts := [], laidByText := true, laidKinds := [.data], laidTests := true, laidLooks := .later }
def FusePartsCardSaid : Prop := Claim7.holds Tryd.pinned (.plain (OpenSpec.ofChange fusePartsSpec)) fusePartsCard

/-- THE SECOND FORM's CARD OF 'facsimilelaw10.SpotTells'. -/
def spotTellsUptoCard : Claim7 := { stood := { row := spotTellsUptoRow, standIns := [], harness := (true, "2d7a7cdab9648aa92af065527db2f9159c0a253275d1700557e608e94f046fb4"), looks := false }, kinds := [], alts := [], laidByText := true, laidKinds := [.data], laidTests := true, laidLooks := .later }
def SpotTellsUptoCardSaid : Prop := Claim7.holds Tryd.pinned (.plain (OpenSpec.upto spotTellsSpec)) spotTellsUptoCard

/-- THE SECOND FORM's CARD OF 'facsimilelaw10.SpotWords'. -/
def spotWordsUptoCard : Claim7 := { stood := { row := spotWordsUptoRow, standIns := [], harness := (true, "2d7a7cdab9648aa92af065527db2f9159c0a253275d1700557e608e94f046fb4"), looks := false }, kinds := [], alts := [], laidByText := true, laidKinds := [.data], laidTests := true, laidLooks := .later }
def SpotWordsUptoCardSaid : Prop := Claim7.holds Tryd.pinned (.plain (OpenSpec.upto spotWordsSpec)) spotWordsUptoCard

/-- THE SECOND FORM's CARD OF 'facsimilelaw10.SpotBehind'. -/
def spotBehindUptoCard : Claim7 := { stood := { row := spotBehindUptoRow, standIns := [], harness := (true, "2d7a7cdab9648aa92af065527db2f9159c0a253275d1700557e608e94f046fb4"), looks := false }, kinds := [], alts := [], laidByText := true, laidKinds := [.data], laidTests := true, laidLooks := .later }
def SpotBehindUptoCardSaid : Prop := Claim7.holds Tryd.pinned (.plain (OpenSpec.upto spotBehindSpec)) spotBehindUptoCard

/-- THE SECOND FORM's CARD OF 'facsimilelaw12.FuseTells'. -/
def fuseTellsUptoCard : Claim7 := { stood := { row := fuseTellsUptoRow, standIns := [], harness := (true, "2d7a7cdab9648aa92af065527db2f9159c0a253275d1700557e608e94f046fb4"), looks := false }, kinds := [], alts := [], laidByText := true, laidKinds := [.data], laidTests := true, laidLooks := .later }
def FuseTellsUptoCardSaid : Prop := Claim7.holds Tryd.pinned (.plain (OpenSpec.upto fuseTellsSpec)) fuseTellsUptoCard

/-- THE SECOND FORM's CARD OF 'facsimilelaw12.FuseLeads'. -/
def fuseLeadsUptoCard : Claim7 := { stood := { row := fuseLeadsUptoRow, standIns := [], harness := (true, "2d7a7cdab9648aa92af065527db2f9159c0a253275d1700557e608e94f046fb4"), looks := false }, kinds := [], alts := [], laidByText := true, laidKinds := [.data], laidTests := true, laidLooks := .later }
def FuseLeadsUptoCardSaid : Prop := Claim7.holds Tryd.pinned (.plain (OpenSpec.upto fuseLeadsSpec)) fuseLeadsUptoCard

/-- THE SECOND FORM's CARD OF 'facsimilelaw12.FuseReads'. -/
def fuseReadsUptoCard : Claim7 := { stood := { row := fuseReadsUptoRow, standIns := [], harness := (true, "2d7a7cdab9648aa92af065527db2f9159c0a253275d1700557e608e94f046fb4"), looks := false }, kinds := [], alts := [], laidByText := true, laidKinds := [.data], laidTests := true, laidLooks := .later }
def FuseReadsUptoCardSaid : Prop := Claim7.holds Tryd.pinned (.plain (OpenSpec.upto fuseReadsSpec)) fuseReadsUptoCard

/-- THE SECOND FORM's CARD OF 'facsimilelaw12.FuseParts'. -/
def fusePartsUptoCard : Claim7 := { stood := { row := fusePartsUptoRow, standIns := [], harness := (true, "2d7a7cdab9648aa92af065527db2f9159c0a253275d1700557e608e94f046fb4"), looks := false }, kinds := [], alts := [], laidByText := true, laidKinds := [.data], laidTests := true, laidLooks := .later }
def FusePartsUptoCardSaid : Prop := Claim7.holds Tryd.pinned (.plain (OpenSpec.upto fusePartsSpec)) fusePartsUptoCard
end Rows
end Go.Proofs.YtbokhofdgdcpdaaDoor
