/- The law DiagramCounts returns true for every script and every int, and leaves its input as it was: the tied card. The arguments are any list of operations, opened to the script that it is, and any int; no condition but the row's own: the one listed variable (the library's table behind TrailingZeros32) reads as the program's text lays it, and the given tie ties it. -/
import Derived.Test.YtnkcdkmfeokljaaDoorRows
import Derived.Test.YtnkcdkmfeokljaaDoorCards
import Derived.Test.YtnkcdkmfeokljaaDoorTie
import Derived.Test.YtnkcdkmfeokljaaDoorOpenO
import Derived.Test.YtnkcdkmfeokljaaDoorCounts
import Derived.ProofKit
import Derived.LaidMore
import Derived.OpenShut
import Derived.Stop.Joined
import Derived.SevenTiedAt
import Derived.Lib.LaidTab
namespace Go.Proofs.YtnkcdkmfeokljaaDoor
open Go.ChangeShapes Go.WideShapes Go.ChangeAt Go.RowKit Go.WideElems Go.Deep
open Bd

theorem countsOwn : ownKnob Tryd.prog.godebug = none := by kernel_rfl
theorem countsLaid : laidOutB Tryd.prog = true := by kernel_rfl
def tabName : String := Rows.diagramCountsRow.named.headD ""
theorem tabG : Tryd.prog.globalNamed tabName = some 0 := by kernel_rfl
theorem tabT : (Tryd.prog.globals[0]?).map (·.type) = some 201 := by kernel_rfl
theorem tabE : Tryd.prog.cellsOf 5 = 1 := by kernel_rfl
theorem tabC : Tryd.prog.cellsOf 201 = 32 := by kernel_rfl

/-- what the condition gives the walk -/
theorem tab_of_laid {W : World} (h : laidMetH Tryd.prog Rows.diagramCountsRow.laid W) : Tab32 W := by
  rw [MakeChecks.laidMetH_plain _ _ _ (by kernel_rfl)] at h
  have h' : laidMet Tryd.prog ((tabName, Go.Lib.tabData .u8 (Go.Lib.deBruijn32tab.map (fun (n : Nat) => ((n : Nat) : Int)))) :: []) W := h
  have ht := Go.Lib.tabIs_of_head tabG tabT Tryd.underlying201 Tryd.underlying5 tabE tabC h'
  intro j hj
  rw [ht.cell tabG j (by simpa using hj)]
  simp [List.getD, hj]

/-- The door's own heap meets the condition. -/
theorem counts_met (os : Os) (args : Array Value) : laidMetH Tryd.prog Rows.diagramCountsRow.laid ((World.doorLaid Tryd.prog 400 os).forCall (fun _ _ => 0) ⟨#[], args, []⟩).memory :=
  laidMetH_of_parts3 (fuel := 8) (laidMet_of_run' 8 (by kernel_rfl) (by kernel_rfl)) (by kernel_rfl) (by kernel_rfl)

set_option maxRecDepth 100000 in
theorem countsLifted (os : Os) (started : os.Started) (H : Type) (enc : TypeId × Value → H) :
    ReturnsInHanded {} Tryd.checked os 12 .any (fun w args => (Rows.diagramCountsSpec.pre enc Tryd.prog Tryd.f12 [] false w args ∧ laidMetH Tryd.prog Rows.diagramCountsRow.laid w) ∧ sizedMet enc Tryd.prog Tryd.f12 (OpenSpec.ofChange Rows.diagramCountsSpec) false w args)
      (Rows.diagramCountsSpec.post enc Tryd.prog Tryd.f12 false true false false) := by
  refine returnsInHanded_of_change_and (C := Tryd.checked) (X := fun w _ => laidMetH Tryd.prog Rows.diagramCountsRow.laid w) (fun _ _ _ hh h => h.of_heap hh) countsOwn started (by kernel_rfl) Tryd.func12
    (ChangeSpec.witness_shaped (enc := enc) (C := Tryd.checked) (os := os) (X := fun w _ => laidMetH Tryd.prog Rows.diagramCountsRow.laid w) false (World.doorLaid Tryd.prog 400 os) #[.slice none 0 0, .int .i64 0] 8 rfl (World.shaped_of_RefB (by kernel_rfl) (by kernel_rfl)) (by kernel_rfl) (by kernel_rfl) (by kernel_rfl) (counts_met os _)) ?_
  intro W base args ds gs before hval0 hW _ _ hL _
  have hval : ∀ (j : Nat) t v, Tryd.f12.params[j]? = some t → args[j]? = some v → Value.okWide Tryd.prog W .any base t v := hval0
  have hW' := hW
  obtain ⟨p, q, hA0, hV, rfl, _, _⟩ := hW
  have hA : DataW.TrodAll enc Tryd.prog W 0 (fun _ => true) true Tryd.f12.params.toList args.toList ds p := hA0
  rw [Tryd.params12] at hA hval
  obtain ⟨v0, v1, d0, d1, p0, p1, rfl, rfl, rfl, h0, h1⟩ := trodAll_two hA
  obtain ⟨rfl, rfl⟩ := trodVars_none hV
  obtain ⟨r1, rfl, rfl, rfl, w1⟩ := open_int Tryd.underlying3 (hval 1 3 v1 rfl rfl) h1
  obtain ⟨a0, len, cap, rfl⟩ := okWide_slice Tryd.underlying38 (hval 0 38 v0 rfl rfl)
  have h0k := h0
  obtain ⟨fuel, hf⟩ := h0
  clear hA0 hval0
  simp only [List.append_nil] at hW'
  have hlt : ∀ x ∈ p0, x.block < W.heap.size := fun x hx => by simpa using hW'.lt x hx
  obtain ⟨v, L, hc, hrow, hfit⟩ := open_ops hf
  obtain rfl : Value.slice a0 len cap = v := by simpa [Value.cells] using hc
  have hT := tab_of_laid hL
  have hg : 0 < W.heap.size := lt_of_cell (hT 0 (by decide))
  refine (counts_any L hfit r1 _ W hrow hg hT).mono fun e W' ⟨he, hB⟩ => ?_
  subst he
  refine ⟨_, rfl, _, _, _, [], p0, [], hW', ?_, ?_, rfl, hB.frame _, fun h => by cases h⟩
  · exact trodAll_mk1 (shut_bool Tryd.underlying4 _)
  · have all := trodAll_mk2 (Below.trod countsLaid (by kernel_rfl) (of_decide_eq_true (by kernel_rfl)) h0k hB hlt) (shut_int Tryd.underlying3 w1)
    simp only [List.append_nil] at all
    exact all

theorem counts_row : Rows.DiagramCountsSaid :=
  OpenClaim.holds_of_wide 12 Tryd.f12 rfl rfl rfl rfl rfl rfl rfl ⟨rfl, rfl, rfl, rfl, rfl⟩ rfl rfl rfl rfl rfl (by kernel_rfl) Tryd.func12 (by kernel_rfl)
    (of_decide_eq_true (by kernel_rfl)) (by unfold Func.isWrapper; first | (rw [if_pos (by decide +kernel)]; kernel_rfl) | (rw [if_neg (by decide +kernel)]; exact ⟨rfl, rfl⟩))
    (fun os started H enc _ => countsLifted os started H enc)

/-- the law holds of every input, the listed variable tied to the program's text -/
theorem diagramCounts_holds : Rows.DiagramCountsCardSaid :=
  Claim7.holds_tied_plain_at .later [] [.data] true Rows.diagramCountsCard.stood.harness false
    counts_row (fun _ h => by cases h) (by kernel_rfl) (fun _ h => by cases h) diagramCounts_row_tie rfl ⟨rfl, rfl⟩ (by kernel_rfl) rfl
    (fun f fn hf hfn => by
      obtain rfl : f = 12 := Option.some.inj ((show Tryd.prog.funcNamed Rows.diagramCountsRow.func = some 12 by kernel_rfl).symm.trans hf) |>.symm
      obtain rfl : fn = Tryd.f12 := (Option.some.inj (Tryd.func12.symm.trans hfn)).symm
      exact ⟨by kernel_rfl, fun j t ht => by
        rw [Tryd.params12] at ht
        have hm : t ∈ [38, 3] := by simpa using Array.mem_of_getElem? ht
        have hall : ([38, 3].all fun u => !Tryd.prog.wantsStandIn u) = true := by kernel_rfl
        exact (show Tryd.prog.wantsStandIn t = false by simpa using List.all_eq_true.1 hall t hm)⟩)
    (by kernel_rfl)
#print axioms diagramCounts_holds
end Go.Proofs.YtnkcdkmfeokljaaDoor
