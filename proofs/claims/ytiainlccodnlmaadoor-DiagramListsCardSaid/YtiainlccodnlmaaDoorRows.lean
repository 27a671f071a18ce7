/-
  NARROWER THAN 'FOR EVERY INPUT', by the rows' own cells (each row's printed sentence says how): DiagramAsks: laid · DiagramNodes: laid · DiagramFolds: laid · DiagramLists: laid · DiagramPicks: laid.
  DERIVED. THE GIVEN ROWS OF THIS SEAT. 5 by the template 'for every input the law returns true; each argument reads behind the call as it read before'; 0 by the template 'total and deterministic' (their statements: YtiainlccodnlmaaDoorTotals.lean).
  GIVEN WITH THE SEED: the statements are not yours to turn. If you find one false, say at which input.
  Laid BY PROGRAM, IN A SANDBOX (cutbox-rows.mjs): the forced cells as the released guide's own fill.sh prints them over the translation 29d690735a8c92c7… (all of the seat's roots in one cut). By AI agents, Wed Nov 11 2026. No macro, syntax, notation, axiom, sorry.
-/
import Derived.Test.YtiainlccodnlmaaDoorChecked
import GoSem.Claim
import GoSem.ClaimJoined
import GoSem.ClaimMapViews
import Derived.JoinedTies
import Derived.KernelRfl
namespace Go.Proofs.YtiainlccodnlmaaDoor
/- THE CELL 'sum', in the pinned program and in every row, IS THE sha256 OF THE DUMP (.gsa) THAT YtiainlccodnlmaaDoorProg.lean LOADS. Nothing in Lean hashes anything: it is a label: what it is worth is what the hold of that sum in a sandbox is worth. -/
noncomputable def Tryd.pinned : Pinned := { name := "ytiainlccodnlmaadoor", sum := "29d690735a8c92c7c07ba88933e7c63d45f046e9751d88a8b5274a676cf22e31", checked := Tryd.checked }
namespace Rows
def none {H : Type} : Left H := { results := [], args := [] }

/- WHAT THE LISTED PACKAGE-LEVEL VARIABLES READ AS WHEN THE CALL BEGINS. Each datum BY PROGRAM (the guide's laid-datum.mjs) off the statement by which the dump's own 'gosem.cut.vars' lays the variable. In a bare row this is a premise. The card (YtiainlccodnlmaaDoorCards.lean) ties it to the program's text. -/
def laid_math_bits_deBruijn32tab {H : Type} : DataW H := .agg [.lit (.int .u8 0), .lit (.int .u8 1), .lit (.int .u8 28), .lit (.int .u8 2), .lit (.int .u8 29), .lit (.int .u8 14), .lit (.int .u8 24), .lit (.int .u8 3), .lit (.int .u8 30), .lit (.int .u8 22), .lit (.int .u8 20), .lit (.int .u8 15), .lit (.int .u8 25), .lit (.int .u8 17), .lit (.int .u8 4), .lit (.int .u8 8), .lit (.int .u8 31), .lit (.int .u8 27), .lit (.int .u8 13), .lit (.int .u8 23), .lit (.int .u8 21), .lit (.int .u8 19), .lit (.int .u8 16), .lit (.int .u8 7), .lit (.int .u8 26), .lit (.int .u8 12), .lit (.int .u8 18), .lit (.int .u8 6), .lit (.int .u8 11), .lit (.int .u8 5), .lit (.int .u8 10), .lit (.int .u8 9)]

/-- 'motleylaw01.DiagramAsks': WHATEVER THE INPUT: true; the input reads as it did. -/
def diagramAsksSpec : ChangeSpec := { name := "diagramAsks", fn := fun _ => fun
  | [d1, d2, d3] => { results := [.lit (.bool true)], args := [d1, d2, d3] }
  | _ => none }
def diagramAsksRow : OpenClaim := { program := "ytiainlccodnlmaadoor", sum := "29d690735a8c92c7c07ba88933e7c63d45f046e9751d88a8b5274a676cf22e31", func := "motley/motleylaw01.DiagramAsks", spec := "diagramAsks", inPlace := ["slices.overlaps[motley/diagram.span]"], unfollowed := true, recurses := true, named := ["math/bits.deBruijn32tab"], plainKeys := false, apart := false, laid := [("math/bits.deBruijn32tab", laid_math_bits_deBruijn32tab)] }
def DiagramAsksSaid : Prop := diagramAsksRow.holds Tryd.pinned (OpenSpec.ofChange diagramAsksSpec)

/-- ITS FALSE NEIGHBOUR: 'it returns false'. Refute it at one input. -/
def diagramAsksWrong : ChangeSpec := { name := "diagramAsks", fn := fun _ => fun
  | [d1, d2, d3] => { results := [.lit (.bool false)], args := [d1, d2, d3] }
  | _ => none }
def DiagramAsksWrongFalsely : Prop := diagramAsksRow.holds Tryd.pinned (OpenSpec.ofChange diagramAsksWrong)

/-- 'motleylaw01.DiagramNodes': WHATEVER THE INPUT: true; the input reads as it did. -/
def diagramNodesSpec : ChangeSpec := { name := "diagramNodes", fn := fun _ => fun
  | [d] => { results := [.lit (.bool true)], args := [d] }
  | _ => none }
def diagramNodesRow : OpenClaim := { program := "ytiainlccodnlmaadoor", sum := "29d690735a8c92c7c07ba88933e7c63d45f046e9751d88a8b5274a676cf22e31", func := "motley/motleylaw01.DiagramNodes", spec := "diagramNodes", inPlace := ["slices.overlaps[motley/diagram.span]"], unfollowed := true, recurses := true, named := ["math/bits.deBruijn32tab"], plainKeys := false, apart := false, laid := [("math/bits.deBruijn32tab", laid_math_bits_deBruijn32tab)] }
def DiagramNodesSaid : Prop := diagramNodesRow.holds Tryd.pinned (OpenSpec.ofChange diagramNodesSpec)

/-- ITS FALSE NEIGHBOUR: 'it returns false'. Refute it at one input. -/
def diagramNodesWrong : ChangeSpec := { name := "diagramNodes", fn := fun _ => fun
  | [d] => { results := [.lit (.bool false)], args := [d] }
  | _ => none }
def DiagramNodesWrongFalsely : Prop := diagramNodesRow.holds Tryd.pinned (OpenSpec.ofChange diagramNodesWrong)

/-- 'motleylaw01.DiagramFolds': WHATEVER THE INPUT: true; the input reads as it did. -/
def diagramFoldsSpec : ChangeSpec := { name := "diagramFolds", fn := fun _ => fun
  | [d] => { results := [.lit (.bool true)], args := [d] }
  | _ => none }
def diagramFoldsRow : OpenClaim := { program := "ytiainlccodnlmaadoor", sum := "29d690735a8c92c7c07ba88933e7c63d45f046e9751d88a8b5274a676cf22e31", func := "motley/motleylaw01.DiagramFolds", spec := "diagramFolds", inPlace := ["slices.overlaps[motley/diagram.span]"], unfollowed := true, recurses := true, named := ["math/bits.deBruijn32tab"], plainKeys := false, apart := false, laid := [("math/bits.deBruijn32tab", laid_math_bits_deBruijn32tab)] }
def DiagramFoldsSaid : Prop := diagramFoldsRow.holds Tryd.pinned (OpenSpec.ofChange diagramFoldsSpec)

/-- ITS FALSE NEIGHBOUR: 'it returns false'. Refute it at one input. -/
def diagramFoldsWrong : ChangeSpec := { name := "diagramFolds", fn := fun _ => fun
  | [d] => { results := [.lit (.bool false)], args := [d] }
  | _ => none }
def DiagramFoldsWrongFalsely : Prop := diagramFoldsRow.holds Tryd.pinned (OpenSpec.ofChange diagramFoldsWrong)

/-- 'motleylaw01.DiagramLists': WHATEVER THE INPUT: true; the input reads as it did. -/
def diagramListsSpec : ChangeSpec := { name := "diagramLists", fn := fun _ => fun
  | [d1, d2, d3] => { results := [.lit (.bool true)], args := [d1, d2, d3] }
  | _ => none }
def diagramListsRow : OpenClaim := { program := "ytiainlccodnlmaadoor", sum := "29d690735a8c92c7c07ba88933e7c63d45f046e9751d88a8b5274a676cf22e31", func := "motley/motleylaw01.DiagramLists", spec := "diagramLists", inPlace := ["slices.overlaps[motley/diagram.span]"], unfollowed := true, recurses := true, named := ["math/bits.deBruijn32tab"], plainKeys := false, apart := false, laid := [("math/bits.deBruijn32tab", laid_math_bits_deBruijn32tab)] }
def DiagramListsSaid : Prop := diagramListsRow.holds Tryd.pinned (OpenSpec.ofChange diagramListsSpec)

/-- ITS FALSE NEIGHBOUR: 'it returns false'. Refute it at one input. -/
def diagramListsWrong : ChangeSpec := { name := "diagramLists", fn := fun _ => fun
  | [d1, d2, d3] => { results := [.lit (.bool false)], args := [d1, d2, d3] }
  | _ => none }
def DiagramListsWrongFalsely : Prop := diagramListsRow.holds Tryd.pinned (OpenSpec.ofChange diagramListsWrong)

/-- 'motleylaw01.DiagramPicks': WHATEVER THE INPUT: true; the input reads as it did. -/
def diagramPicksSpec : ChangeSpec := { name := "diagramPicks", fn := fun _ => fun
  | [d1, d2, d3] => { results := [.lit (.bool true)], args := [d1, d2, d3] }
  | _ => none }
def diagramPicksRow : OpenClaim := { program := "ytiainlccodnlmaadoor", sum := "29d690735a8c92c7c07ba88933e7c63d45f046e9751d88a8b5274a676cf22e31", func := "motley/motleylaw01.DiagramPicks", spec := "diagramPicks", inPlace := ["slices.overlaps[motley/diagram.span]"], unfollowed := true, recurses := true, named := ["math/bits.deBruijn32tab"], plainKeys := false, apart := false, laid := [("math/bits.deBruijn32tab", laid_math_bits_deBruijn32tab)] }
def DiagramPicksSaid : Prop := diagramPicksRow.holds Tryd.pinned (OpenSpec.ofChange diagramPicksSpec)

/-- ITS FALSE NEIGHBOUR: 'it returns false'. Refute it at one input. -/
def diagramPicksWrong : ChangeSpec := { name := "diagramPicks", fn := fun _ => fun
  | [d1, d2, d3] => { results := [.lit (.bool false)], args := [d1, d2, d3] }
  | _ => none }
def DiagramPicksWrongFalsely : Prop := diagramPicksRow.holds Tryd.pinned (OpenSpec.ofChange diagramPicksWrong)

/- THE SECOND FORM. 'bulk': how many values and letters a reading holds, each counted each time it is reached (what is shared counts as often as it is met; a slice's spare places count too). A statement '..UptoSaid' is the law's where the arguments, and the package variables that the reading takes, are together of bulk at most 1048576: NARROWER than '..Said'. Prove '..Said' where nothing that the law and all that it calls make is longer than what came in: it says more and counts as full. Else prove '..UptoSaid'. A law counts once. -/
mutual
def uptoBulk {H : Type} : DataW H → Nat
  | .lit (.string bytes) => bytes.length + 1
  | .lit _ => 1
  | .nil => 1
  | .ptr d => uptoBulk d + 1
  | .slice elems spare => uptoBulkAll elems + uptoBulkAll spare + 1
  | .agg parts => uptoBulkAll parts + 1
  | .iface _ d => uptoBulk d + 1
  | .map entries => uptoBulkEntries entries + 1
  | .held _ => 1
def uptoBulkAll {H : Type} : List (DataW H) → Nat
  | [] => 0
  | d :: r => uptoBulk d + uptoBulkAll r
def uptoBulkEntries {H : Type} : List (Lit × DataW H) → Nat
  | [] => 0
  | x :: r => uptoBulkEntry x + uptoBulkEntries r
def uptoBulkEntry {H : Type} : Lit × DataW H → Nat
  | (.string bytes, d) => bytes.length + uptoBulk d + 1
  | (_, d) => uptoBulk d + 1
 end
def uptoSmall : (H : Type) → List (DataW H) → Bool := fun _ ds => decide (uptoBulkAll ds ≤ 1048576)
def OpenSpec.upto (s : _root_.Go.ChangeSpec) : _root_.Go.OpenSpec := { _root_.Go.OpenSpec.ofChange s with cond := some uptoSmall }

/-- 'motleylaw01.DiagramAsks', WHERE WHAT IT READS IS OF BULK AT MOST 1048576: true; the input reads as it did. -/
def diagramAsksUptoRow : OpenClaim := { program := "ytiainlccodnlmaadoor", sum := "29d690735a8c92c7c07ba88933e7c63d45f046e9751d88a8b5274a676cf22e31", func := "motley/motleylaw01.DiagramAsks", spec := "diagramAsks", inPlace := ["slices.overlaps[motley/diagram.span]"], unfollowed := true, recurses := true, named := ["math/bits.deBruijn32tab"], plainKeys := false, apart := false, laid := [("math/bits.deBruijn32tab", laid_math_bits_deBruijn32tab)], narrowed := true }
def DiagramAsksUptoSaid : Prop := diagramAsksUptoRow.holds Tryd.pinned (OpenSpec.upto diagramAsksSpec)

/-- 'motleylaw01.DiagramNodes', WHERE WHAT IT READS IS OF BULK AT MOST 1048576: true; the input reads as it did. -/
def diagramNodesUptoRow : OpenClaim := { program := "ytiainlccodnlmaadoor", sum := "29d690735a8c92c7c07ba88933e7c63d45f046e9751d88a8b5274a676cf22e31", func := "motley/motleylaw01.DiagramNodes", spec := "diagramNodes", inPlace := ["slices.overlaps[motley/diagram.span]"], unfollowed := true, recurses := true, named := ["math/bits.deBruijn32tab"], plainKeys := false, apart := false, laid := [("math/bits.deBruijn32tab", laid_math_bits_deBruijn32tab)], narrowed := true }
def DiagramNodesUptoSaid : Prop := diagramNodesUptoRow.holds Tryd.pinned (OpenSpec.upto diagramNodesSpec)

/-- 'motleylaw01.DiagramFolds', WHERE WHAT IT READS IS OF BULK AT MOST 1048576: true; the input reads as it did. -/
def diagramFoldsUptoRow : OpenClaim := { program := "ytiainlccodnlmaadoor", sum := "29d690735a8c92c7c07ba88933e7c63d45f046e9751d88a8b5274a676cf22e31", func := "motley/motleylaw01.DiagramFolds", spec := "diagramFolds", inPlace := ["slices.overlaps[motley/diagram.span]"], unfollowed := true, recurses := true, named := ["math/bits.deBruijn32tab"], plainKeys := false, apart := false, laid := [("math/bits.deBruijn32tab", laid_math_bits_deBruijn32tab)], narrowed := true }
def DiagramFoldsUptoSaid : Prop := diagramFoldsUptoRow.holds Tryd.pinned (OpenSpec.upto diagramFoldsSpec)

/-- 'motleylaw01.DiagramLists', WHERE WHAT IT READS IS OF BULK AT MOST 1048576: true; the input reads as it did. -/
def diagramListsUptoRow : OpenClaim := { program := "ytiainlccodnlmaadoor", sum := "29d690735a8c92c7c07ba88933e7c63d45f046e9751d88a8b5274a676cf22e31", func := "motley/motleylaw01.DiagramLists", spec := "diagramLists", inPlace := ["slices.overlaps[motley/diagram.span]"], unfollowed := true, recurses := true, named := ["math/bits.deBruijn32tab"], plainKeys := false, apart := false, laid := [("math/bits.deBruijn32tab", laid_math_bits_deBruijn32tab)], narrowed := true }
def DiagramListsUptoSaid : Prop := diagramListsUptoRow.holds Tryd.pinned (OpenSpec.upto diagramListsSpec)

/-- 'motleylaw01.DiagramPicks', WHERE WHAT IT READS IS OF BULK AT MOST 1048576: true; the input reads as it did. -/
def diagramPicksUptoRow : OpenClaim := { program := "ytiainlccodnlmaadoor", sum := "29d690735a8c92c7c07ba88933e7c63d45f046e9751d88a8b5274a676cf22e31", func := "motley/motleylaw01.DiagramPicks", spec := "diagramPicks", inPlace := ["slices.overlaps[motley/diagram.span]"], unfollowed := true, recurses := true, named := ["math/bits.deBruijn32tab"], plainKeys := false, apart := false, laid := [("math/bits.deBruijn32tab", laid_math_bits_deBruijn32tab)], narrowed := true }
def DiagramPicksUptoSaid : Prop := diagramPicksUptoRow.holds Tryd.pinned (OpenSpec.upto diagramPicksSpec)

end Rows
end Go.Proofs.YtiainlccodnlmaaDoor
