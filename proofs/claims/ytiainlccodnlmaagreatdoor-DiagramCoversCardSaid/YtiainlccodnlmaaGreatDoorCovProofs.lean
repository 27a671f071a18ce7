/- The law DiagramCovers returns true for every script, and leaves it as it was: the tied card. The argument is any list of operations, opened to the script that it is; no condition but the row's own: the one listed variable (the library's table behind TrailingZeros32) reads as the program's text lays it, and the given tie ties it. -/
import Derived.Test.YtiainlccodnlmaaGreatDoorRows
import Derived.Test.YtiainlccodnlmaaGreatDoorCards
import Derived.Test.YtiainlccodnlmaaGreatDoorTie
import Derived.Test.YtiainlccodnlmaaGreatDoorOpenO
import Derived.Test.YtiainlccodnlmaaGreatDoorCovr
import Derived.ProofKit
import Derived.LaidMore
import Derived.OpenShut
import Derived.Stop.Joined
import Derived.SevenTiedAt
import Derived.Lib.LaidTab
namespace Go.Proofs.YtiainlccodnlmaaGreatDoor
open Go.ChangeShapes Go.WideShapes Go.ChangeAt Go.RowKit Go.WideElems Go.Deep
open Bd

theorem coversOwn : ownKnob Tryz.prog.godebug = none := by kernel_rfl
theorem coversLaid : laidOutB Tryz.prog = true := by kernel_rfl
def tabName : String := Rows.diagramCoversRow.named.headD ""
theorem tabG : Tryz.prog.globalNamed tabName = some 0 := by kernel_rfl
theorem tabT : (Tryz.prog.globals[0]?).map (·.type) = some 168 := by kernel_rfl
theorem tabE : Tryz.prog.cellsOf 5 = 1 := by kernel_rfl
theorem tabC : Tryz.prog.cellsOf 168 = 32 := by kernel_rfl

/-- what the condition gives the walk -/
theorem tab_of_laid {W : World} (h : laidMetH Tryz.prog Rows.diagramCoversRow.laid W) : Tab32 W := by
  rw [MakeChecks.laidMetH_plain _ _ _ (by kernel_rfl)] at h
  have h' : laidMet Tryz.prog ((tabName, Go.Lib.tabData .u8 (Go.Lib.deBruijn32tab.map (fun (n : Nat) => ((n : Nat) : Int)))) :: []) W := h
  have ht := Go.Lib.tabIs_of_head tabG tabT Tryz.underlying168 Tryz.underlying5 tabE tabC h'
  intro j hj
  rw [ht.cell tabG j (by simpa using hj)]
  simp [List.getD, hj]

/-- The door's own heap meets the condition. -/
theorem covers_met (os : Os) (args : Array Value) : laidMetH Tryz.prog Rows.diagramCoversRow.laid ((World.doorLaid Tryz.prog 400 os).forCall (fun _ _ => 0) ⟨#[], args, []⟩).memory :=
  laidMetH_of_parts3 (fuel := 8) (laidMet_of_run' 8 (by kernel_rfl) (by kernel_rfl)) (by kernel_rfl) (by kernel_rfl)

set_option maxRecDepth 100000 in
theorem coversLifted (os : Os) (started : os.Started) (H : Type) (enc : TypeId × Value → H) :
    ReturnsInHanded {} Tryz.checked os 5 .any (fun w args => (Rows.diagramCoversSpec.pre enc Tryz.prog Tryz.f5 [] false w args ∧ laidMetH Tryz.prog Rows.diagramCoversRow.laid w) ∧ sizedMet enc Tryz.prog Tryz.f5 (OpenSpec.ofChange Rows.diagramCoversSpec) false w args)
      (Rows.diagramCoversSpec.post enc Tryz.prog Tryz.f5 false true false false) := by
  refine returnsInHanded_of_change_and (C := Tryz.checked) (X := fun w _ => laidMetH Tryz.prog Rows.diagramCoversRow.laid w) (fun _ _ _ hh h => h.of_heap hh) coversOwn started (by kernel_rfl) Tryz.func5
    (ChangeSpec.witness_shaped (enc := enc) (C := Tryz.checked) (os := os) (X := fun w _ => laidMetH Tryz.prog Rows.diagramCoversRow.laid w) false (World.doorLaid Tryz.prog 400 os) #[.slice none 0 0] 8 rfl (World.shaped_of_RefB (by kernel_rfl) (by kernel_rfl)) (by kernel_rfl) (by kernel_rfl) (by kernel_rfl) (covers_met os _)) ?_
  intro W base args ds gs before hval0 hW _ _ hL _
  have hval : ∀ (j : Nat) t v, Tryz.f5.params[j]? = some t → args[j]? = some v → Value.okWide Tryz.prog W .any base t v := hval0
  have hW' := hW
  obtain ⟨p, q, hA0, hV, rfl, _, _⟩ := hW
  have hA : DataW.TrodAll enc Tryz.prog W 0 (fun _ => true) true Tryz.f5.params.toList args.toList ds p := hA0
  rw [Tryz.params5] at hA hval
  obtain ⟨v0, d0, rfl, rfl, h0⟩ := trodAll_one hA
  obtain ⟨rfl, rfl⟩ := trodVars_none hV
  obtain ⟨a0, len, cap, rfl⟩ := okWide_slice Tryz.underlying22 (hval 0 22 v0 rfl rfl)
  have h0k := h0
  obtain ⟨fuel, hf⟩ := h0
  clear hA0 hval0
  simp only [List.append_nil] at hW'
  have hlt : ∀ x ∈ p, x.block < W.heap.size := fun x hx => by simpa using hW'.lt x hx
  obtain ⟨v, L, hc, hrow, hfit⟩ := open_ops hf
  obtain rfl : Value.slice a0 len cap = v := by simpa [Value.cells] using hc
  have hT := tab_of_laid hL
  have hg : 0 < W.heap.size := lt_of_cell (hT 0 (by decide))
  refine (covers_any L hfit _ W hrow hg hT).mono fun e W' ⟨he, hB⟩ => ?_
  subst he
  refine ⟨_, rfl, _, _, _, [], p, [], hW', ?_, ?_, rfl, hB.frame _, fun h => by cases h⟩
  · exact trodAll_mk1 (shut_bool Tryz.underlying4 _)
  · exact trodAll_mk1 (Below.trod coversLaid (by kernel_rfl) (of_decide_eq_true (by kernel_rfl)) h0k hB hlt)

theorem covers_row : Rows.DiagramCoversSaid :=
  OpenClaim.holds_of_wide 5 Tryz.f5 rfl rfl rfl rfl rfl rfl rfl ⟨rfl, rfl, rfl, rfl, rfl⟩ rfl rfl rfl rfl rfl (by kernel_rfl) Tryz.func5 (by kernel_rfl)
    (of_decide_eq_true (by kernel_rfl)) (by unfold Func.isWrapper; first | (rw [if_pos (by decide +kernel)]; kernel_rfl) | (rw [if_neg (by decide +kernel)]; exact ⟨rfl, rfl⟩))
    (fun os started H enc _ => coversLifted os started H enc)

/-- the law holds of every input, the listed variable tied to the program's text -/
theorem diagramCovers_holds : Rows.DiagramCoversCardSaid :=
  Claim7.holds_tied_plain_at .later [] [.data] true Rows.diagramCoversCard.stood.harness false
    covers_row (fun _ h => by cases h) (by kernel_rfl) (fun _ h => by cases h) diagramCovers_row_tie rfl ⟨rfl, rfl⟩ (by kernel_rfl) rfl
    (fun f fn hf hfn => by
      obtain rfl : f = 5 := Option.some.inj ((show Tryz.prog.funcNamed Rows.diagramCoversRow.func = some 5 by kernel_rfl).symm.trans hf) |>.symm
      obtain rfl : fn = Tryz.f5 := (Option.some.inj (Tryz.func5.symm.trans hfn)).symm
      exact ⟨by kernel_rfl, fun j t ht => by
        rw [Tryz.params5] at ht
        have hm : t ∈ [22] := by simpa using Array.mem_of_getElem? ht
        have hall : ([22].all fun u => !Tryz.prog.wantsStandIn u) = true := by kernel_rfl
        exact (show Tryz.prog.wantsStandIn t = false by simpa using List.all_eq_true.1 hall t hm)⟩)
    (by kernel_rfl)
#print axioms diagramCovers_holds
end Go.Proofs.YtiainlccodnlmaaGreatDoor
