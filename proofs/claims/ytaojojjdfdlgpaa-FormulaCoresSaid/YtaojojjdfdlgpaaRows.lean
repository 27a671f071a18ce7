/-
  NARROWER THAN 'FOR EVERY INPUT', by the rows' own cells (each row's printed sentence says how): FormulaTells: loops.
  DERIVED. THE GIVEN ROWS OF THIS SEAT. 8 by the template 'for every input the law returns true; each argument reads behind the call as it read before'; 0 by the template 'total and deterministic' (their statements: YtaojojjdfdlgpaaTotals.lean).
  GIVEN WITH THE SEED: the statements are not yours to turn. If you find one false, say at which input.
  Laid BY PROGRAM, IN A SANDBOX (cutbox-rows.mjs): the forced cells as the released guide's own fill.sh prints them over the translation d3ccd87a366fea64… (all of the seat's roots in one cut). By AI agents, Wed Nov 11 2026. No macro, syntax, notation, axiom, sorry.
-/
import Derived.Test.YtaojojjdfdlgpaaChecked
import GoSem.Claim
import GoSem.ClaimJoined
import GoSem.ClaimMapViews
import Derived.JoinedTies
import Derived.KernelRfl
namespace Go.Proofs.Ytaojojjdfdlgpaa
/- THE CELL 'sum', in the pinned program and in every row, IS THE sha256 OF THE DUMP (.gsa) THAT YtaojojjdfdlgpaaProg.lean LOADS. Nothing in Lean hashes anything: it is a label: what it is worth is what the hold of that sum in a sandbox is worth. -/
noncomputable def Try.pinned : Pinned := { name := "ytaojojjdfdlgpaa", sum := "d3ccd87a366fea646a9aca9d0fd2710a6c3164bdeb350a84281c9101b4be5d4e", checked := Try.checked }
namespace Rows
def none {H : Type} : Left H := { results := [], args := [] }

/-- 'motleylaw02.FormulaTells': WHATEVER THE INPUT: true; the input reads as it did. -/
def formulaTellsSpec : ChangeSpec := { name := "formulaTells", fn := fun _ => fun
  | [d1, d2] => { results := [.lit (.bool true)], args := [d1, d2] }
  | _ => none }
def formulaTellsRow : OpenClaim := { program := "ytaojojjdfdlgpaa", sum := "d3ccd87a366fea646a9aca9d0fd2710a6c3164bdeb350a84281c9101b4be5d4e", func := "motley/motleylaw02.FormulaTells", spec := "formulaTells", inPlace := ["internal/abi.NoEscape"], unfollowed := true, recurses := true, loops := true, plainKeys := false, apart := false }
def FormulaTellsSaid : Prop := formulaTellsRow.holds Try.pinned (OpenSpec.ofChange formulaTellsSpec)

/-- ITS FALSE NEIGHBOUR: 'it returns false'. Refute it at one input. -/
def formulaTellsWrong : ChangeSpec := { name := "formulaTells", fn := fun _ => fun
  | [d1, d2] => { results := [.lit (.bool false)], args := [d1, d2] }
  | _ => none }
def FormulaTellsWrongFalsely : Prop := formulaTellsRow.holds Try.pinned (OpenSpec.ofChange formulaTellsWrong)

/-- 'motleylaw02.FormulaPropagates': WHATEVER THE INPUT: true; the input reads as it did. -/
def formulaPropagatesSpec : ChangeSpec := { name := "formulaPropagates", fn := fun _ => fun
  | [d1, d2, d3] => { results := [.lit (.bool true)], args := [d1, d2, d3] }
  | _ => none }
def formulaPropagatesRow : OpenClaim := { program := "ytaojojjdfdlgpaa", sum := "d3ccd87a366fea646a9aca9d0fd2710a6c3164bdeb350a84281c9101b4be5d4e", func := "motley/motleylaw02.FormulaPropagates", spec := "formulaPropagates", inPlace := ["internal/abi.NoEscape"], unfollowed := true, recurses := true, plainKeys := false, apart := false }
def FormulaPropagatesSaid : Prop := formulaPropagatesRow.holds Try.pinned (OpenSpec.ofChange formulaPropagatesSpec)

/-- ITS FALSE NEIGHBOUR: 'it returns false'. Refute it at one input. -/
def formulaPropagatesWrong : ChangeSpec := { name := "formulaPropagates", fn := fun _ => fun
  | [d1, d2, d3] => { results := [.lit (.bool false)], args := [d1, d2, d3] }
  | _ => none }
def FormulaPropagatesWrongFalsely : Prop := formulaPropagatesRow.holds Try.pinned (OpenSpec.ofChange formulaPropagatesWrong)

/-- 'motleylaw02.FormulaVerifies': WHATEVER THE INPUT: true; the input reads as it did. -/
def formulaVerifiesSpec : ChangeSpec := { name := "formulaVerifies", fn := fun _ => fun
  | [d1, d2, d3] => { results := [.lit (.bool true)], args := [d1, d2, d3] }
  | _ => none }
def formulaVerifiesRow : OpenClaim := { program := "ytaojojjdfdlgpaa", sum := "d3ccd87a366fea646a9aca9d0fd2710a6c3164bdeb350a84281c9101b4be5d4e", func := "motley/motleylaw02.FormulaVerifies", spec := "formulaVerifies", inPlace := ["internal/abi.NoEscape"], unfollowed := true, recurses := true, plainKeys := false, apart := false }
def FormulaVerifiesSaid : Prop := formulaVerifiesRow.holds Try.pinned (OpenSpec.ofChange formulaVerifiesSpec)

/-- ITS FALSE NEIGHBOUR: 'it returns false'. Refute it at one input. -/
def formulaVerifiesWrong : ChangeSpec := { name := "formulaVerifies", fn := fun _ => fun
  | [d1, d2, d3] => { results := [.lit (.bool false)], args := [d1, d2, d3] }
  | _ => none }
def FormulaVerifiesWrongFalsely : Prop := formulaVerifiesRow.holds Try.pinned (OpenSpec.ofChange formulaVerifiesWrong)

/-- 'motleylaw02.FormulaWide': WHATEVER THE INPUT: true; the input reads as it did. -/
def formulaWideSpec : ChangeSpec := { name := "formulaWide", fn := fun _ => fun
  | [d] => { results := [.lit (.bool true)], args := [d] }
  | _ => none }
def formulaWideRow : OpenClaim := { program := "ytaojojjdfdlgpaa", sum := "d3ccd87a366fea646a9aca9d0fd2710a6c3164bdeb350a84281c9101b4be5d4e", func := "motley/motleylaw02.FormulaWide", spec := "formulaWide", inPlace := ["internal/abi.NoEscape"], unfollowed := true, recurses := true, plainKeys := false, apart := false }
def FormulaWideSaid : Prop := formulaWideRow.holds Try.pinned (OpenSpec.ofChange formulaWideSpec)

/-- ITS FALSE NEIGHBOUR: 'it returns false'. Refute it at one input. -/
def formulaWideWrong : ChangeSpec := { name := "formulaWide", fn := fun _ => fun
  | [d] => { results := [.lit (.bool false)], args := [d] }
  | _ => none }
def FormulaWideWrongFalsely : Prop := formulaWideRow.holds Try.pinned (OpenSpec.ofChange formulaWideWrong)

/-- 'motleylaw02.FormulaCores': WHATEVER THE INPUT: true; the input reads as it did. -/
def formulaCoresSpec : ChangeSpec := { name := "formulaCores", fn := fun _ => fun
  | [d1, d2] => { results := [.lit (.bool true)], args := [d1, d2] }
  | _ => none }
def formulaCoresRow : OpenClaim := { program := "ytaojojjdfdlgpaa", sum := "d3ccd87a366fea646a9aca9d0fd2710a6c3164bdeb350a84281c9101b4be5d4e", func := "motley/motleylaw02.FormulaCores", spec := "formulaCores", inPlace := ["internal/abi.NoEscape"], unfollowed := true, recurses := true, plainKeys := false, apart := false }
def FormulaCoresSaid : Prop := formulaCoresRow.holds Try.pinned (OpenSpec.ofChange formulaCoresSpec)

/-- ITS FALSE NEIGHBOUR: 'it returns false'. Refute it at one input. -/
def formulaCoresWrong : ChangeSpec := { name := "formulaCores", fn := fun _ => fun
  | [d1, d2] => { results := [.lit (.bool false)], args := [d1, d2] }
  | _ => none }
def FormulaCoresWrongFalsely : Prop := formulaCoresRow.holds Try.pinned (OpenSpec.ofChange formulaCoresWrong)

/-- 'motleylaw02.FormulaMinimal': WHATEVER THE INPUT: true; the input reads as it did. -/
def formulaMinimalSpec : ChangeSpec := { name := "formulaMinimal", fn := fun _ => fun
  | [d1, d2] => { results := [.lit (.bool true)], args := [d1, d2] }
  | _ => none }
def formulaMinimalRow : OpenClaim := { program := "ytaojojjdfdlgpaa", sum := "d3ccd87a366fea646a9aca9d0fd2710a6c3164bdeb350a84281c9101b4be5d4e", func := "motley/motleylaw02.FormulaMinimal", spec := "formulaMinimal", inPlace := ["internal/abi.NoEscape"], unfollowed := true, recurses := true, plainKeys := false, apart := false }
def FormulaMinimalSaid : Prop := formulaMinimalRow.holds Try.pinned (OpenSpec.ofChange formulaMinimalSpec)

/-- ITS FALSE NEIGHBOUR: 'it returns false'. Refute it at one input. -/
def formulaMinimalWrong : ChangeSpec := { name := "formulaMinimal", fn := fun _ => fun
  | [d1, d2] => { results := [.lit (.bool false)], args := [d1, d2] }
  | _ => none }
def FormulaMinimalWrongFalsely : Prop := formulaMinimalRow.holds Try.pinned (OpenSpec.ofChange formulaMinimalWrong)

/-- 'motleylaw02.FormulaRefutes': WHATEVER THE INPUT: true; the input reads as it did. -/
def formulaRefutesSpec : ChangeSpec := { name := "formulaRefutes", fn := fun _ => fun
  | [d1, d2, d3] => { results := [.lit (.bool true)], args := [d1, d2, d3] }
  | _ => none }
def formulaRefutesRow : OpenClaim := { program := "ytaojojjdfdlgpaa", sum := "d3ccd87a366fea646a9aca9d0fd2710a6c3164bdeb350a84281c9101b4be5d4e", func := "motley/motleylaw02.FormulaRefutes", spec := "formulaRefutes", inPlace := ["internal/abi.NoEscape"], unfollowed := true, recurses := true, plainKeys := false, apart := false }
def FormulaRefutesSaid : Prop := formulaRefutesRow.holds Try.pinned (OpenSpec.ofChange formulaRefutesSpec)

/-- ITS FALSE NEIGHBOUR: 'it returns false'. Refute it at one input. -/
def formulaRefutesWrong : ChangeSpec := { name := "formulaRefutes", fn := fun _ => fun
  | [d1, d2, d3] => { results := [.lit (.bool false)], args := [d1, d2, d3] }
  | _ => none }
def FormulaRefutesWrongFalsely : Prop := formulaRefutesRow.holds Try.pinned (OpenSpec.ofChange formulaRefutesWrong)

/-- 'motleylaw02.FormulaSolves': WHATEVER THE INPUT: true; the input reads as it did. -/
def formulaSolvesSpec : ChangeSpec := { name := "formulaSolves", fn := fun _ => fun
  | [d1, d2] => { results := [.lit (.bool true)], args := [d1, d2] }
  | _ => none }
def formulaSolvesRow : OpenClaim := { program := "ytaojojjdfdlgpaa", sum := "d3ccd87a366fea646a9aca9d0fd2710a6c3164bdeb350a84281c9101b4be5d4e", func := "motley/motleylaw02.FormulaSolves", spec := "formulaSolves", inPlace := ["internal/abi.NoEscape"], unfollowed := true, recurses := true, plainKeys := false, apart := false }
def FormulaSolvesSaid : Prop := formulaSolvesRow.holds Try.pinned (OpenSpec.ofChange formulaSolvesSpec)

/-- ITS FALSE NEIGHBOUR: 'it returns false'. Refute it at one input. -/
def formulaSolvesWrong : ChangeSpec := { name := "formulaSolves", fn := fun _ => fun
  | [d1, d2] => { results := [.lit (.bool false)], args := [d1, d2] }
  | _ => none }
def FormulaSolvesWrongFalsely : Prop := formulaSolvesRow.holds Try.pinned (OpenSpec.ofChange formulaSolvesWrong)

/- THE SECOND FORM. 'bulk': how many values and letters a reading holds, each counted each time it is reached (what is shared counts as often as it is met; a slice's spare places count too). A statement '..UptoSaid' is the law's where the arguments, and the package variables that the reading takes, are together of bulk at most 1048576: NARROWER than '..Said'. Prove '..Said' where nothing that the law and all that it calls make is longer than what came in: it says more and counts as full. Else prove '..UptoSaid'. A law counts once. -/
mutual
def uptoBulk {H : Type} : DataW H → Nat
  | .lit (.string bytes) => bytes.length + 1
  | .lit _ => 1
  | .nil => 1
  | .ptr d => uptoBulk d + 1
  | .slice elems spare => uptoBulkAll elems + uptoBulkAll spare + 1
  | .agg parts => uptoBulkAll parts + 1
  | .iface _ d => uptoBulk d + 1
  | .map entries => uptoBulkEntries entries + 1
  | .held _ => 1
def uptoBulkAll {H : Type} : List (DataW H) → Nat
  | [] => 0
  | d :: r => uptoBulk d + uptoBulkAll r
def uptoBulkEntries {H : Type} : List (Lit × DataW H) → Nat
  | [] => 0
  | x :: r => uptoBulkEntry x + uptoBulkEntries r
def uptoBulkEntry {H : Type} : Lit × DataW H → Nat
  | (.string bytes, d) => bytes.length + uptoBulk d + 1
  | (_, d) => uptoBulk d + 1
 end
def uptoSmall : (H : Type) → List (DataW H) → Bool := fun _ ds => decide (uptoBulkAll ds ≤ 1048576)
def OpenSpec.upto (s : _root_.Go.ChangeSpec) : _root_.Go.OpenSpec := { _root_.Go.OpenSpec.ofChange s with cond := some uptoSmall }

/-- 'motleylaw02.FormulaTells', WHERE WHAT IT READS IS OF BULK AT MOST 1048576: true; the input reads as it did. -/
def formulaTellsUptoRow : OpenClaim := { program := "ytaojojjdfdlgpaa", sum := "d3ccd87a366fea646a9aca9d0fd2710a6c3164bdeb350a84281c9101b4be5d4e", func := "motley/motleylaw02.FormulaTells", spec := "formulaTells", inPlace := ["internal/abi.NoEscape"], unfollowed := true, recurses := true, loops := true, plainKeys := false, apart := false, narrowed := true }
def FormulaTellsUptoSaid : Prop := formulaTellsUptoRow.holds Try.pinned (OpenSpec.upto formulaTellsSpec)

/-- 'motleylaw02.FormulaPropagates', WHERE WHAT IT READS IS OF BULK AT MOST 1048576: true; the input reads as it did. -/
def formulaPropagatesUptoRow : OpenClaim := { program := "ytaojojjdfdlgpaa", sum := "d3ccd87a366fea646a9aca9d0fd2710a6c3164bdeb350a84281c9101b4be5d4e", func := "motley/motleylaw02.FormulaPropagates", spec := "formulaPropagates", inPlace := ["internal/abi.NoEscape"], unfollowed := true, recurses := true, plainKeys := false, apart := false, narrowed := true }
def FormulaPropagatesUptoSaid : Prop := formulaPropagatesUptoRow.holds Try.pinned (OpenSpec.upto formulaPropagatesSpec)

/-- 'motleylaw02.FormulaVerifies', WHERE WHAT IT READS IS OF BULK AT MOST 1048576: true; the input reads as it did. -/
def formulaVerifiesUptoRow : OpenClaim := { program := "ytaojojjdfdlgpaa", sum := "d3ccd87a366fea646a9aca9d0fd2710a6c3164bdeb350a84281c9101b4be5d4e", func := "motley/motleylaw02.FormulaVerifies", spec := "formulaVerifies", inPlace := ["internal/abi.NoEscape"], unfollowed := true, recurses := true, plainKeys := false, apart := false, narrowed := true }
def FormulaVerifiesUptoSaid : Prop := formulaVerifiesUptoRow.holds Try.pinned (OpenSpec.upto formulaVerifiesSpec)

/-- 'motleylaw02.FormulaWide', WHERE WHAT IT READS IS OF BULK AT MOST 1048576: true; the input reads as it did. -/
def formulaWideUptoRow : OpenClaim := { program := "ytaojojjdfdlgpaa", sum := "d3ccd87a366fea646a9aca9d0fd2710a6c3164bdeb350a84281c9101b4be5d4e", func := "motley/motleylaw02.FormulaWide", spec := "formulaWide", inPlace := ["internal/abi.NoEscape"], unfollowed := true, recurses := true, plainKeys := false, apart := false, narrowed := true }
def FormulaWideUptoSaid : Prop := formulaWideUptoRow.holds Try.pinned (OpenSpec.upto formulaWideSpec)

/-- 'motleylaw02.FormulaCores', WHERE WHAT IT READS IS OF BULK AT MOST 1048576: true; the input reads as it did. -/
def formulaCoresUptoRow : OpenClaim := { program := "ytaojojjdfdlgpaa", sum := "d3ccd87a366fea646a9aca9d0fd2710a6c3164bdeb350a84281c9101b4be5d4e", func := "motley/motleylaw02.FormulaCores", spec := "formulaCores", inPlace := ["internal/abi.NoEscape"], unfollowed := true, recurses := true, plainKeys := false, apart := false, narrowed := true }
def FormulaCoresUptoSaid : Prop := formulaCoresUptoRow.holds Try.pinned (OpenSpec.upto formulaCoresSpec)

/-- 'motleylaw02.FormulaMinimal', WHERE WHAT IT READS IS OF BULK AT MOST 1048576: true; the input reads as it did. -/
def formulaMinimalUptoRow : OpenClaim := { program := "ytaojojjdfdlgpaa", sum := "d3ccd87a366fea646a9aca9d0fd2710a6c3164bdeb350a84281c9101b4be5d4e", func := "motley/motleylaw02.FormulaMinimal", spec := "formulaMinimal", inPlace := ["internal/abi.NoEscape"], unfollowed := true, recurses := true, plainKeys := false, apart := false, narrowed := true }
def FormulaMinimalUptoSaid : Prop := formulaMinimalUptoRow.holds Try.pinned (OpenSpec.upto formulaMinimalSpec)

/-- 'motleylaw02.FormulaRefutes', WHERE WHAT IT READS IS OF BULK AT MOST 1048576: true; the input reads as it did. -/
def formulaRefutesUptoRow : OpenClaim := { program := "ytaojojjdfdlgpaa", sum := "d3ccd87a366fea646a9aca9d0fd2710a6c3164bdeb350a84281c9101b4be5d4e", func := "motley/motleylaw02.FormulaRefutes", spec := "formulaRefutes", inPlace := ["internal/abi.NoEscape"], unfollowed := true, recurses := true, plainKeys := false, apart := false, narrowed := true }
def FormulaRefutesUptoSaid : Prop := formulaRefutesUptoRow.holds Try.pinned (OpenSpec.upto formulaRefutesSpec)

/-- 'motleylaw02.FormulaSolves', WHERE WHAT IT READS IS OF BULK AT MOST 1048576: true; the input reads as it did. -/
def formulaSolvesUptoRow : OpenClaim := { program := "ytaojojjdfdlgpaa", sum := "d3ccd87a366fea646a9aca9d0fd2710a6c3164bdeb350a84281c9101b4be5d4e", func := "motley/motleylaw02.FormulaSolves", spec := "formulaSolves", inPlace := ["internal/abi.NoEscape"], unfollowed := true, recurses := true, plainKeys := false, apart := false, narrowed := true }
def FormulaSolvesUptoSaid : Prop := formulaSolvesUptoRow.holds Try.pinned (OpenSpec.upto formulaSolvesSpec)

end Rows
end Go.Proofs.Ytaojojjdfdlgpaa
