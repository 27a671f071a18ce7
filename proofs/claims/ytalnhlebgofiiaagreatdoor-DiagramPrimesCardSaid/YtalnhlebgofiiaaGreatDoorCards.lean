/-
  DERIVED. GIVEN WITH THE SEED: THE CARDS: each row of YtalnhlebgofiiaaGreatDoorRows.lean that lists a variable, with what it lists TIED to the program's text (the seventh form; the later family's looks); each row that meets fmt, with fmt's text TOLD by the authors' own Lean function (tested against real Go, not proved from fmt's source: count such statements apart). THE CARD IS WHAT COUNTS. Prove the row's statement (the work); the ties are given (YtalnhlebgofiiaaGreatDoorTie.lean); close each card by the builder's one call (the guide's Derived/Test/ToyasCard.lean, 'card_holds'). Laid BY PROGRAM, IN A SANDBOX (cutbox-door.mjs). By AI agents, Wed Nov 11 2026. No macro, syntax, notation, axiom, sorry.
-/
import Derived.Test.YtalnhlebgofiiaaGreatDoorRows
import GoSem.ClaimSeven
namespace Go.Proofs.YtalnhlebgofiiaaGreatDoor
namespace Rows

/-- THE TIED CARD OF 'motleylaw01.DiagramBest'. -/
def diagramBestCard : Claim7 := { stood := { row := diagramBestRow, standIns := [], harness := (true, "8d3c229625857601aefc490363a7284d9e5366d97409415dd94be0d4b964765d"), looks := false }, kinds := [], alts := [], laidByText := true, laidKinds := [.data], laidTests := true, laidLooks := .later }
def DiagramBestCardSaid : Prop := Claim7.holds Tryz.pinned (.plain (OpenSpec.ofChange diagramBestSpec)) diagramBestCard

/-- THE TIED CARD OF 'motleylaw01.DiagramPrimes'. -/
def diagramPrimesCard : Claim7 := { stood := { row := diagramPrimesRow, standIns := [], harness := (true, "8d3c229625857601aefc490363a7284d9e5366d97409415dd94be0d4b964765d"), looks := false }, kinds := [], alts := [], laidByText := true, laidKinds := [.data], laidTests := true, laidLooks := .later }
def DiagramPrimesCardSaid : Prop := Claim7.holds Tryz.pinned (.plain (OpenSpec.ofChange diagramPrimesSpec)) diagramPrimesCard

/-- THE TIED CARD OF 'motleylaw01.DiagramCovers'. -/
def diagramCoversCard : Claim7 := { stood := { row := diagramCoversRow, standIns := [], harness := (true, "8d3c229625857601aefc490363a7284d9e5366d97409415dd94be0d4b964765d"), looks := false }, kinds := [], alts := [], laidByText := true, laidKinds := [.data], laidTests := true, laidLooks := .later }
def DiagramCoversCardSaid : Prop := Claim7.holds Tryz.pinned (.plain (OpenSpec.ofChange diagramCoversSpec)) diagramCoversCard

/-- THE SECOND FORM's CARD OF 'motleylaw01.DiagramBest'. -/
def diagramBestUptoCard : Claim7 := { stood := { row := diagramBestUptoRow, standIns := [], harness := (true, "8d3c229625857601aefc490363a7284d9e5366d97409415dd94be0d4b964765d"), looks := false }, kinds := [], alts := [], laidByText := true, laidKinds := [.data], laidTests := true, laidLooks := .later }
def DiagramBestUptoCardSaid : Prop := Claim7.holds Tryz.pinned (.plain (OpenSpec.upto diagramBestSpec)) diagramBestUptoCard

/-- THE SECOND FORM's CARD OF 'motleylaw01.DiagramPrimes'. -/
def diagramPrimesUptoCard : Claim7 := { stood := { row := diagramPrimesUptoRow, standIns := [], harness := (true, "8d3c229625857601aefc490363a7284d9e5366d97409415dd94be0d4b964765d"), looks := false }, kinds := [], alts := [], laidByText := true, laidKinds := [.data], laidTests := true, laidLooks := .later }
def DiagramPrimesUptoCardSaid : Prop := Claim7.holds Tryz.pinned (.plain (OpenSpec.upto diagramPrimesSpec)) diagramPrimesUptoCard

/-- THE SECOND FORM's CARD OF 'motleylaw01.DiagramCovers'. -/
def diagramCoversUptoCard : Claim7 := { stood := { row := diagramCoversUptoRow, standIns := [], harness := (true, "8d3c229625857601aefc490363a7284d9e5366d97409415dd94be0d4b964765d"), looks := false }, kinds := [], alts := [], laidByText := true, laidKinds := [.data], laidTests := true, laidLooks := .later }
def DiagramCoversUptoCardSaid : Prop := Claim7.holds Tryz.pinned (.plain (OpenSpec.upto diagramCoversSpec)) diagramCoversUptoCard
end Rows
end Go.Proofs.YtalnhlebgofiiaaGreatDoor
