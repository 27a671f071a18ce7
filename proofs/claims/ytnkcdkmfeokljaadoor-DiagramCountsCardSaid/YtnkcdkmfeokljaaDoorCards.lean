/-
  DERIVED. GIVEN WITH THE SEED: THE CARDS: each row of YtnkcdkmfeokljaaDoorRows.lean that lists a variable, with what it lists TIED to the program's text (the seventh form; the later family's looks); each row that meets fmt, with fmt's text TOLD by the authors' own Lean function (tested against real Go, not proved from fmt's source: count such statements apart). THE CARD IS WHAT COUNTS. Prove the row's statement (the work); the ties are given (YtnkcdkmfeokljaaDoorTie.lean); close each card by the builder's one call (the guide's Derived/Test/ToyasCard.lean, 'card_holds'). Laid BY PROGRAM, IN A SANDBOX (cutbox-door.mjs). By AI agents, Wed Nov 11 2026. No macro, syntax, notation, axiom, sorry.
-/
import Derived.Test.YtnkcdkmfeokljaaDoorRows
import GoSem.ClaimSeven
namespace Go.Proofs.YtnkcdkmfeokljaaDoor
namespace Rows

/-- THE TIED CARD OF 'motleylaw01.DiagramWide'. -/
def diagramWideCard : Claim7 := { stood := { row := diagramWideRow, standIns := [], harness := (true, "609bbcfa28acbd3c5f8aa02c6d8340535128069c69eec20290b8f089e77f9723"), looks := false }, kinds := [], alts := [], laidByText := true, laidKinds := [.data], laidTests := true, laidLooks := .later }
def DiagramWideCardSaid : Prop := Claim7.holds Tryd.pinned (.plain (OpenSpec.ofChange diagramWideSpec)) diagramWideCard

/-- THE TIED CARD OF 'motleylaw01.DiagramAlgebra'. -/
def diagramAlgebraCard : Claim7 := { stood := { row := diagramAlgebraRow, standIns := [], harness := (true, "609bbcfa28acbd3c5f8aa02c6d8340535128069c69eec20290b8f089e77f9723"), looks := false }, kinds := [], alts := [], laidByText := true, laidKinds := [.data], laidTests := true, laidLooks := .later }
def DiagramAlgebraCardSaid : Prop := Claim7.holds Tryd.pinned (.plain (OpenSpec.ofChange diagramAlgebraSpec)) diagramAlgebraCard

/-- THE TIED CARD OF 'motleylaw01.DiagramFixes'. -/
def diagramFixesCard : Claim7 := { stood := { row := diagramFixesRow, standIns := [], harness := (true, "609bbcfa28acbd3c5f8aa02c6d8340535128069c69eec20290b8f089e77f9723"), looks := false }, kinds := [], alts := [], laidByText := true, laidKinds := [.data], laidTests := true, laidLooks := .later }
def DiagramFixesCardSaid : Prop := Claim7.holds Tryd.pinned (.plain (OpenSpec.ofChange diagramFixesSpec)) diagramFixesCard

/-- THE TIED CARD OF 'motleylaw01.DiagramAdds'. -/
def diagramAddsCard : Claim7 := { stood := { row := diagramAddsRow, standIns := [], harness := (true, "609bbcfa28acbd3c5f8aa02c6d8340535128069c69eec20290b8f089e77f9723"), looks := false }, kinds := [], alts := [], laidByText := true, laidKinds := [.data], laidTests := true, laidLooks := .later }
def DiagramAddsCardSaid : Prop := Claim7.holds Tryd.pinned (.plain (OpenSpec.ofChange diagramAddsSpec)) diagramAddsCard

/-- THE TIED CARD OF 'motleylaw01.DiagramPicks'. -/
def diagramPicksCard : Claim7 := { stood := { row := diagramPicksRow, standIns := [], harness := (true, "609bbcfa28acbd3c5f8aa02c6d8340535128069c69eec20290b8f089e77f9723"), looks := false }, kinds := [], alts := [], laidByText := true, laidKinds := [.data], laidTests := true, laidLooks := .later }
def DiagramPicksCardSaid : Prop := Claim7.holds Tryd.pinned (.plain (OpenSpec.ofChange diagramPicksSpec)) diagramPicksCard

/-- THE TIED CARD OF 'motleylaw01.DiagramBuilds'. -/
def diagramBuildsCard : Claim7 := { stood := { row := diagramBuildsRow, standIns := [], harness := (true, "609bbcfa28acbd3c5f8aa02c6d8340535128069c69eec20290b8f089e77f9723"), looks := false }, kinds := [], alts := [], laidByText := true, laidKinds := [.data], laidTests := true, laidLooks := .later }
def DiagramBuildsCardSaid : Prop := Claim7.holds Tryd.pinned (.plain (OpenSpec.ofChange diagramBuildsSpec)) diagramBuildsCard

/-- THE TIED CARD OF 'motleylaw01.DiagramAsks'. -/
def diagramAsksCard : Claim7 := { stood := { row := diagramAsksRow, standIns := [], harness := (true, "609bbcfa28acbd3c5f8aa02c6d8340535128069c69eec20290b8f089e77f9723"), looks := false }, kinds := [], alts := [], laidByText := true, laidKinds := [.data], laidTests := true, laidLooks := .later }
def DiagramAsksCardSaid : Prop := Claim7.holds Tryd.pinned (.plain (OpenSpec.ofChange diagramAsksSpec)) diagramAsksCard

/-- THE TIED CARD OF 'motleylaw01.DiagramNodes'. -/
def diagramNodesCard : Claim7 := { stood := { row := diagramNodesRow, standIns := [], harness := (true, "609bbcfa28acbd3c5f8aa02c6d8340535128069c69eec20290b8f089e77f9723"), looks := false }, kinds := [], alts := [], laidByText := true, laidKinds := [.data], laidTests := true, laidLooks := .later }
def DiagramNodesCardSaid : Prop := Claim7.holds Tryd.pinned (.plain (OpenSpec.ofChange diagramNodesSpec)) diagramNodesCard

/-- THE TIED CARD OF 'motleylaw01.DiagramFolds'. -/
def diagramFoldsCard : Claim7 := { stood := { row := diagramFoldsRow, standIns := [], harness := (true, "609bbcfa28acbd3c5f8aa02c6d8340535128069c69eec20290b8f089e77f9723"), looks := false }, kinds := [], alts := [], laidByText := true, laidKinds := [.data], laidTests := true, laidLooks := .later }
def DiagramFoldsCardSaid : Prop := Claim7.holds Tryd.pinned (.plain (OpenSpec.ofChange diagramFoldsSpec)) diagramFoldsCard

/-- THE TIED CARD OF 'motleylaw01.DiagramCounts'. -/
def diagramCountsCard : Claim7 := { stood := { row := diagramCountsRow, standIns := [], harness := (true, "609bbcfa28acbd3c5f8aa02c6d8340535128069c69eec20290b8f089e77f9723"), looks := false }, kinds := [], alts := [], laidByText := true, laidKinds := [.data], laidTests := true, laidLooks := .later }
def DiagramCountsCardSaid : Prop := Claim7.holds Tryd.pinned (.plain (OpenSpec.ofChange diagramCountsSpec)) diagramCountsCard

/-- THE TIED CARD OF 'motleylaw01.DiagramLists'. -/
def diagramListsCard : Claim7 := { stood := { row := diagramListsRow, standIns := [], harness := (true, "609bbcfa28acbd3c5f8aa02c6d8340535128069c69eec20290b8f089e77f9723"), looks := false }, kinds := [], alts := [], laidByText := true, laidKinds := [.data], laidTests := true, laidLooks := .later }
def DiagramListsCardSaid : Prop := Claim7.holds Tryd.pinned (.plain (OpenSpec.ofChange diagramListsSpec)) diagramListsCard

/-- THE SECOND FORM's CARD OF 'motleylaw01.DiagramWide'. -/
def diagramWideUptoCard : Claim7 := { stood := { row := diagramWideUptoRow, standIns := [], harness := (true, "609bbcfa28acbd3c5f8aa02c6d8340535128069c69eec20290b8f089e77f9723"), looks := false }, kinds := [], alts := [], laidByText := true, laidKinds := [.data], laidTests := true, laidLooks := .later }
def DiagramWideUptoCardSaid : Prop := Claim7.holds Tryd.pinned (.plain (OpenSpec.upto diagramWideSpec)) diagramWideUptoCard

/-- THE SECOND FORM's CARD OF 'motleylaw01.DiagramAlgebra'. -/
def diagramAlgebraUptoCard : Claim7 := { stood := { row := diagramAlgebraUptoRow, standIns := [], harness := (true, "609bbcfa28acbd3c5f8aa02c6d8340535128069c69eec20290b8f089e77f9723"), looks := false }, kinds := [], alts := [], laidByText := true, laidKinds := [.data], laidTests := true, laidLooks := .later }
def DiagramAlgebraUptoCardSaid : Prop := Claim7.holds Tryd.pinned (.plain (OpenSpec.upto diagramAlgebraSpec)) diagramAlgebraUptoCard

/-- THE SECOND FORM's CARD OF 'motleylaw01.DiagramFixes'. -/
def diagramFixesUptoCard : Claim7 := { stood := { row := diagramFixesUptoRow, standIns := [], harness := (true, "609bbcfa28acbd3c5f8aa02c6d8340535128069c69eec20290b8f089e77f9723"), looks := false }, kinds := [], alts := [], laidByText := true, laidKinds := [.data], laidTests := true, laidLooks := .later }
def DiagramFixesUptoCardSaid : Prop := Claim7.holds Tryd.pinned (.plain (OpenSpec.upto diagramFixesSpec)) diagramFixesUptoCard

/-- THE SECOND FORM's CARD OF 'motleylaw01.DiagramAdds'. -/
def diagramAddsUptoCard : Claim7 := { stood := { row := diagramAddsUptoRow, standIns := [], harness := (true, "609bbcfa28acbd3c5f8aa02c6d8340535128069c69eec20290b8f089e77f9723"), looks := false }, kinds := [], alts := [], laidByText := true, laidKinds := [.data], laidTests := true, laidLooks := .later }
def DiagramAddsUptoCardSaid : Prop := Claim7.holds Tryd.pinned (.plain (OpenSpec.upto diagramAddsSpec)) diagramAddsUptoCard

/-- THE SECOND FORM's CARD OF 'motleylaw01.DiagramPicks'. -/
def diagramPicksUptoCard : Claim7 := { stood := { row := diagramPicksUptoRow, standIns := [], harness := (true, "609bbcfa28acbd3c5f8aa02c6d8340535128069c69eec20290b8f089e77f9723"), looks := false }, kinds := [], alts := [], laidByText := true, laidKinds := [.data], laidTests := true, laidLooks := .later }
def DiagramPicksUptoCardSaid : Prop := Claim7.holds Tryd.pinned (.plain (OpenSpec.upto diagramPicksSpec)) diagramPicksUptoCard

/-- THE SECOND FORM's CARD OF 'motleylaw01.DiagramBuilds'. -/
def diagramBuildsUptoCard : Claim7 := { stood := { row := diagramBuildsUptoRow, standIns := [], harness := (true, "609bbcfa28acbd3c5f8aa02c6d8340535128069c69eec20290b8f089e77f9723"), looks := false }, kinds := [], alts := [], laidByText := true, laidKinds := [.data], laidTests := true, laidLooks := .later }
def DiagramBuildsUptoCardSaid : Prop := Claim7.holds Tryd.pinned (.plain (OpenSpec.upto diagramBuildsSpec)) diagramBuildsUptoCard

/-- THE SECOND FORM's CARD OF 'motleylaw01.DiagramAsks'. -/
def diagramAsksUptoCard : Claim7 := { stood := { row := diagramAsksUptoRow, standIns := [], harness := (true, "609bbcfa28acbd3c5f8aa02c6d8340535128069c69eec20290b8f089e77f9723"), looks := false }, kinds := [], alts := [], laidByText := true, laidKinds := [.data], laidTests := true, laidLooks := .later }
def DiagramAsksUptoCardSaid : Prop := Claim7.holds Tryd.pinned (.plain (OpenSpec.upto diagramAsksSpec)) diagramAsksUptoCard

/-- THE SECOND FORM's CARD OF 'motleylaw01.DiagramNodes'. -/
def diagramNodesUptoCard : Claim7 := { stood := { row := diagramNodesUptoRow, standIns := [], harness := (true, "609bbcfa28acbd3c5f8aa02c6d8340535128069c69eec20290b8f089e77f9723"), looks := false }, kinds := [], alts := [], laidByText := true, laidKinds := [.data], laidTests := true, laidLooks := .later }
def DiagramNodesUptoCardSaid : Prop := Claim7.holds Tryd.pinned (.plain (OpenSpec.upto diagramNodesSpec)) diagramNodesUptoCard

/-- THE SECOND FORM's CARD OF 'motleylaw01.DiagramFolds'. -/
def diagramFoldsUptoCard : Claim7 := { stood := { row := diagramFoldsUptoRow, standIns := [], harness := (true, "609bbcfa28acbd3c5f8aa02c6d8340535128069c69eec20290b8f089e77f9723"), looks := false }, kinds := [], alts := [], laidByText := true, laidKinds := [.data], laidTests := true, laidLooks := .later }
def DiagramFoldsUptoCardSaid : Prop := Claim7.holds Tryd.pinned (.plain (OpenSpec.upto diagramFoldsSpec)) diagramFoldsUptoCard

/-- THE SECOND FORM's CARD OF 'motleylaw01.DiagramCounts'. -/
def diagramCountsUptoCard : Claim7 := { stood := { row := diagramCountsUptoRow, standIns := [], harness := (true, "609bbcfa28acbd3c5f8aa02c6d8340535128069c69eec20290b8f089e77f9723"), looks := false }, kinds := [], alts := [], laidByText := true, laidKinds := [.data], laidTests := true, laidLooks := .later }
def DiagramCountsUptoCardSaid : Prop := Claim7.holds Tryd.pinned (.plain (OpenSpec.upto diagramCountsSpec)) diagramCountsUptoCard

/-- THE SECOND FORM's CARD OF 'motleylaw01.DiagramLists'. -/
def diagramListsUptoCard : Claim7 := { stood := { row := diagramListsUptoRow, standIns := [], harness := (true, "609bbcfa28acbd3c5f8aa02c6d8340535128069c69eec20290b8f089e77f9723"), looks := false }, kinds := [], alts := [], laidByText := true, laidKinds := [.data], laidTests := true, laidLooks := .later }
def DiagramListsUptoCardSaid : Prop := Claim7.holds Tryd.pinned (.plain (OpenSpec.upto diagramListsSpec)) diagramListsUptoCard
end Rows
end Go.Proofs.YtnkcdkmfeokljaaDoor
