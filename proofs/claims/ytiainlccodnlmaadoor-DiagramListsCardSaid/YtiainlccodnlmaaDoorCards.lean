/-
  DERIVED. GIVEN WITH THE SEED: THE CARDS: each row of YtiainlccodnlmaaDoorRows.lean that lists a variable, with what it lists TIED to the program's text (the seventh form; the later family's looks); each row that meets fmt, with fmt's text TOLD by the authors' own Lean function (tested against real Go, not proved from fmt's source: count such statements apart). THE CARD IS WHAT COUNTS. Prove the row's statement (the work); the ties are given (YtiainlccodnlmaaDoorTie.lean); close each card by the builder's one call (the guide's Derived/Test/ToyasCard.lean, 'card_holds'). Laid BY PROGRAM, IN A SANDBOX (cutbox-door.mjs). By AI agents, Wed Nov 11 2026. No macro, syntax, notation, axiom, sorry.
-/
import Derived.Test.YtiainlccodnlmaaDoorRows
import GoSem.ClaimSeven
namespace Go.Proofs.YtiainlccodnlmaaDoor
namespace Rows

/-- THE TIED CARD OF 'motleylaw01.DiagramAsks'. -/
def diagramAsksCard : Claim7 := { stood := { row := diagramAsksRow, standIns := [], harness := (true, "52ec5c2c85c9264dcaea59a9d12b341d137b55dc5a3460d4a22b23db18011288"), looks := false }, kinds := [], alts := [], laidByText := true, laidKinds := [.data], laidTests := true, laidLooks := .later }
def DiagramAsksCardSaid : Prop := Claim7.holds Tryd.pinned (.plain (OpenSpec.ofChange diagramAsksSpec)) diagramAsksCard

/-- THE TIED CARD OF 'motleylaw01.DiagramNodes'. -/
def diagramNodesCard : Claim7 := { stood := { row := diagramNodesRow, standIns := [], harness := (true, "52ec5c2c85c9264dcaea59a9d12b341d137b55dc5a3460d4a22b23db18011288"), looks := false }, kinds := [], alts := [], laidByText := true, laidKinds := [.data], laidTests := true, laidLooks := .later }
def DiagramNodesCardSaid : Prop := Claim7.holds Tryd.pinned (.plain (OpenSpec.ofChange diagramNodesSpec)) diagramNodesCard

/-- THE TIED CARD OF 'motleylaw01.DiagramFolds'. -/
def diagramFoldsCard : Claim7 := { stood := { row := diagramFoldsRow, standIns := [], harness := (true, "52ec5c2c85c9264dcaea59a9d12b341d137b55dc5a3460d4a22b23db18011288"), looks := false }, kinds := [], alts := [], laidByText := true, laidKinds := [.data], laidTests := true, laidLooks := .later }
def DiagramFoldsCardSaid : Prop := Claim7.holds Tryd.pinned (.plain (OpenSpec.ofChange diagramFoldsSpec)) diagramFoldsCard

/-- THE TIED CARD OF 'motleylaw01.DiagramLists'. -/
def diagramListsCard : Claim7 := { stood := { row := diagramListsRow, standIns := [], harness := (true, "52ec5c2c85c9264dcaea59a9d12b341d137b55dc5a3460d4a22b23db18011288"), looks := false }, kinds := [], alts := [], laidByText := true, laidKinds := [.data], laidTests := true, laidLooks := .later }
def DiagramListsCardSaid : Prop := Claim7.holds Tryd.pinned (.plain (OpenSpec.ofChange diagramListsSpec)) diagramListsCard

/-- THE TIED CARD OF 'motleylaw01.DiagramPicks'. -/
def diagramPicksCard : Claim7 := { stood := { row := diagramPicksRow, standIns := [], harness := (true, "52ec5c2c85c9264dcaea59a9d12b341d137b55dc5a3460d4a22b23db18011288"), looks := false }, kinds := [], alts := [], laidByText := true, laidKinds := [.data], laidTests := true, laidLooks := .later }
def DiagramPicksCardSaid : Prop := Claim7.holds Tryd.pinned (.plain (OpenSpec.ofChange diagramPicksSpec)) diagramPicksCard

/-- THE SECOND FORM's CARD OF 'motleylaw01.DiagramAsks'. -/
def diagramAsksUptoCard : Claim7 := { stood := { row := diagramAsksUptoRow, standIns := [], harness := (true, "52ec5c2c85c9264dcaea59a9d12b341d137b55dc5a3460d4a22b23db18011288"), looks := false }, kinds := [], alts := [], laidByText := true, laidKinds := [.data], laidTests := true, laidLooks := .later }
def DiagramAsksUptoCardSaid : Prop := Claim7.holds Tryd.pinned (.plain (OpenSpec.upto diagramAsksSpec)) diagramAsksUptoCard

/-- THE SECOND FORM's CARD OF 'motleylaw01.DiagramNodes'. -/
def diagramNodesUptoCard : Claim7 := { stood := { row := diagramNodesUptoRow, standIns := [], harness := (true, "52ec5c2c85c9264dcaea59a9d12b341d137b55dc5a3460d4a22b23db18011288"), looks := false }, kinds := [], alts := [], laidByText := true, laidKinds := [.data], laidTests := true, laidLooks := .later }
def DiagramNodesUptoCardSaid : Prop := Claim7.holds Tryd.pinned (.plain (OpenSpec.upto diagramNodesSpec)) diagramNodesUptoCard

/-- THE SECOND FORM's CARD OF 'motleylaw01.DiagramFolds'. -/
def diagramFoldsUptoCard : Claim7 := { stood := { row := diagramFoldsUptoRow, standIns := [], harness := (true, "52ec5c2c85c9264dcaea59a9d12b341d137b55dc5a3460d4a22b23db18011288"), looks := false }, kinds := [], alts := [], laidByText := true, laidKinds := [.data], laidTests := true, laidLooks := .later }
def DiagramFoldsUptoCardSaid : Prop := Claim7.holds Tryd.pinned (.plain (OpenSpec.upto diagramFoldsSpec)) diagramFoldsUptoCard

/-- THE SECOND FORM's CARD OF 'motleylaw01.DiagramLists'. -/
def diagramListsUptoCard : Claim7 := { stood := { row := diagramListsUptoRow, standIns := [], harness := (true, "52ec5c2c85c9264dcaea59a9d12b341d137b55dc5a3460d4a22b23db18011288"), looks := false }, kinds := [], alts := [], laidByText := true, laidKinds := [.data], laidTests := true, laidLooks := .later }
def DiagramListsUptoCardSaid : Prop := Claim7.holds Tryd.pinned (.plain (OpenSpec.upto diagramListsSpec)) diagramListsUptoCard

/-- THE SECOND FORM's CARD OF 'motleylaw01.DiagramPicks'. -/
def diagramPicksUptoCard : Claim7 := { stood := { row := diagramPicksUptoRow, standIns := [], harness := (true, "52ec5c2c85c9264dcaea59a9d12b341d137b55dc5a3460d4a22b23db18011288"), looks := false }, kinds := [], alts := [], laidByText := true, laidKinds := [.data], laidTests := true, laidLooks := .later }
def DiagramPicksUptoCardSaid : Prop := Claim7.holds Tryd.pinned (.plain (OpenSpec.upto diagramPicksSpec)) diagramPicksUptoCard
end Rows
end Go.Proofs.YtiainlccodnlmaaDoor
