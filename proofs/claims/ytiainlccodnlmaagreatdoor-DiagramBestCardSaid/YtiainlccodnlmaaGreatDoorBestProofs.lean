/- The law DiagramBest returns true for every script, every configuration and every list of costs, and leaves its input as it was: the tied card. The arguments are any list of operations, opened to the script that it is, any uint32 and any []int64; no condition but the row's own: the one listed variable (the library's table behind TrailingZeros32) reads as the program's text lays it, and the given tie ties it. -/
import Derived.Test.YtiainlccodnlmaaGreatDoorRows
import Derived.Test.YtiainlccodnlmaaGreatDoorCards
import Derived.Test.YtiainlccodnlmaaGreatDoorTie
import Derived.Test.YtiainlccodnlmaaGreatDoorOpenO
import Derived.Test.YtiainlccodnlmaaGreatDoorBest
import Derived.ProofKit
import Derived.LaidMore
import Derived.OpenShut
import Derived.Stop.Joined
import Derived.SevenTiedAt
import Derived.Lib.LaidTab
namespace Go.Proofs.YtiainlccodnlmaaGreatDoor
open Go.ChangeShapes Go.WideShapes Go.ChangeAt Go.RowKit Go.WideElems Go.Deep
open Bd

theorem bestOwn : ownKnob Tryz.prog.godebug = none := by kernel_rfl
theorem bestLaid : laidOutB Tryz.prog = true := by kernel_rfl
def tabName : String := Rows.diagramBestRow.named.headD ""
theorem tabG : Tryz.prog.globalNamed tabName = some 0 := by kernel_rfl
theorem tabT : (Tryz.prog.globals[0]?).map (·.type) = some 168 := by kernel_rfl
theorem tabE : Tryz.prog.cellsOf 5 = 1 := by kernel_rfl
theorem tabC : Tryz.prog.cellsOf 168 = 32 := by kernel_rfl

/-- what the condition gives the walk -/
theorem tab_of_laid {W : World} (h : laidMetH Tryz.prog Rows.diagramBestRow.laid W) : Tab32 W := by
  rw [MakeChecks.laidMetH_plain _ _ _ (by kernel_rfl)] at h
  have h' : laidMet Tryz.prog ((tabName, Go.Lib.tabData .u8 (Go.Lib.deBruijn32tab.map (fun (n : Nat) => ((n : Nat) : Int)))) :: []) W := h
  have ht := Go.Lib.tabIs_of_head tabG tabT Tryz.underlying168 Tryz.underlying5 tabE tabC h'
  intro j hj
  rw [ht.cell tabG j (by simpa using hj)]
  simp [List.getD, hj]

/-- The door's own heap meets the condition. -/
theorem best_met (os : Os) (args : Array Value) : laidMetH Tryz.prog Rows.diagramBestRow.laid ((World.doorLaid Tryz.prog 400 os).forCall (fun _ _ => 0) ⟨#[], args, []⟩).memory :=
  laidMetH_of_parts3 (fuel := 8) (laidMet_of_run' 8 (by kernel_rfl) (by kernel_rfl)) (by kernel_rfl) (by kernel_rfl)

set_option maxRecDepth 100000 in
theorem bestLifted (os : Os) (started : os.Started) (H : Type) (enc : TypeId × Value → H) :
    ReturnsInHanded {} Tryz.checked os 3 .any (fun w args => (Rows.diagramBestSpec.pre enc Tryz.prog Tryz.f3 [] false w args ∧ laidMetH Tryz.prog Rows.diagramBestRow.laid w) ∧ sizedMet enc Tryz.prog Tryz.f3 (OpenSpec.ofChange Rows.diagramBestSpec) false w args)
      (Rows.diagramBestSpec.post enc Tryz.prog Tryz.f3 false true false false) := by
  refine returnsInHanded_of_change_and (C := Tryz.checked) (X := fun w _ => laidMetH Tryz.prog Rows.diagramBestRow.laid w) (fun _ _ _ hh h => h.of_heap hh) bestOwn started (by kernel_rfl) Tryz.func3
    (ChangeSpec.witness_shaped (enc := enc) (C := Tryz.checked) (os := os) (X := fun w _ => laidMetH Tryz.prog Rows.diagramBestRow.laid w) false (World.doorLaid Tryz.prog 400 os) #[.slice none 0 0, .int .u32 0, .slice none 0 0] 8 rfl (World.shaped_of_RefB (by kernel_rfl) (by kernel_rfl)) (by kernel_rfl) (by kernel_rfl) (by kernel_rfl) (best_met os _)) ?_
  intro W base args ds gs before hval0 hW _ _ hL _
  have hval : ∀ (j : Nat) t v, Tryz.f3.params[j]? = some t → args[j]? = some v → Value.okWide Tryz.prog W .any base t v := hval0
  have hW' := hW
  obtain ⟨p, q, hA0, hV, rfl, _, _⟩ := hW
  have hA : DataW.TrodAll enc Tryz.prog W 0 (fun _ => true) true Tryz.f3.params.toList args.toList ds p := hA0
  rw [Tryz.params3] at hA hval
  obtain ⟨v0, v1, v2, d0, d1, d2, p0, p1, p2, rfl, rfl, rfl, h0, h1, h2⟩ := trodAll_three hA
  obtain ⟨rfl, rfl⟩ := trodVars_none hV
  obtain ⟨r1, rfl, rfl, rfl, w1⟩ := open_int Tryz.underlying23 (hval 1 23 v1 rfl rfl) h1
  obtain ⟨a2, len2, cap2, rfl⟩ := okWide_slice Tryz.underlying24 (hval 2 24 v2 rfl rfl)
  obtain ⟨a0, len, cap, rfl⟩ := okWide_slice Tryz.underlying22 (hval 0 22 v0 rfl rfl)
  have h0k := h0
  have h2k := h2
  obtain ⟨fuel, hf⟩ := h0
  obtain ⟨fuel2, hf2⟩ := h2
  clear hA0 hval0
  simp only [List.append_nil] at hW'
  have hlt : ∀ x ∈ p0 ++ p2, x.block < W.heap.size := fun x hx => by simpa using hW'.lt x (by simpa using hx)
  obtain ⟨v, L, hc, hrow, hfit⟩ := open_ops hf
  obtain rfl : Value.slice a0 len cap = v := by simpa [Value.cells] using hc
  have hT := tab_of_laid hL
  have hg : 0 < W.heap.size := lt_of_cell (hT 0 (by decide))
  obtain ⟨v', l, hc2, hI⟩ := open_i64s hf2
  obtain rfl : Value.slice a2 len2 cap2 = v' := by simpa [Value.cells] using hc2
  obtain ⟨a2', cap2', e2, h20, h21⟩ := hI
  obtain ⟨rfl, rfl, rfl⟩ : a2 = a2' ∧ len2 = l.length ∧ cap2 = cap2' := by simpa using e2
  have hI : IRow W (.slice a2 l.length cap2) l := ⟨a2, cap2, rfl, h20, h21⟩
  have hr1 : IntKind.u32.min ≤ r1 ∧ r1 ≤ IntKind.u32.max := by simpa [Lit.wf] using w1
  rw [show IntKind.u32.min = 0 by decide, show IntKind.u32.max = 4294967295 by decide] at hr1
  obtain ⟨c, rfl⟩ : ∃ c : Nat, r1 = c := ⟨r1.toNat, by omega⟩
  refine (best_law L hfit c (by omega) l _ a2 cap2 W hrow hI hg hT).mono fun e W' ⟨he, hB⟩ => ?_
  subst he
  refine ⟨_, rfl, _, _, _, [], p0 ++ p2, [], hW', ?_, ?_, rfl, hB.frame _, fun h => by cases h⟩
  · exact trodAll_mk1 (shut_bool Tryz.underlying4 _)
  · have all := trodAll_mk3 (Below.trod bestLaid (by kernel_rfl) (of_decide_eq_true (by kernel_rfl)) h0k hB (fun x hx => hlt x (by simp [hx]))) (shut_int Tryz.underlying23 w1) (Below.trod bestLaid (by kernel_rfl) (of_decide_eq_true (by kernel_rfl)) h2k hB (fun x hx => hlt x (by simp [hx])))
    first | exact all | simpa only [List.nil_append, List.append_nil, List.append_assoc] using all

theorem best_row : Rows.DiagramBestSaid :=
  OpenClaim.holds_of_wide 3 Tryz.f3 rfl rfl rfl rfl rfl rfl rfl ⟨rfl, rfl, rfl, rfl, rfl⟩ rfl rfl rfl rfl rfl (by kernel_rfl) Tryz.func3 (by kernel_rfl)
    (of_decide_eq_true (by kernel_rfl)) (by unfold Func.isWrapper; first | (rw [if_pos (by decide +kernel)]; kernel_rfl) | (rw [if_neg (by decide +kernel)]; exact ⟨rfl, rfl⟩))
    (fun os started H enc _ => bestLifted os started H enc)

/-- the law holds of every input, the listed variable tied to the program's text -/
theorem diagramBest_holds : Rows.DiagramBestCardSaid :=
  Claim7.holds_tied_plain_at .later [] [.data] true Rows.diagramBestCard.stood.harness false
    best_row (fun _ h => by cases h) (by kernel_rfl) (fun _ h => by cases h) diagramBest_row_tie rfl ⟨rfl, rfl⟩ (by kernel_rfl) rfl
    (fun f fn hf hfn => by
      obtain rfl : f = 3 := Option.some.inj ((show Tryz.prog.funcNamed Rows.diagramBestRow.func = some 3 by kernel_rfl).symm.trans hf) |>.symm
      obtain rfl : fn = Tryz.f3 := (Option.some.inj (Tryz.func3.symm.trans hfn)).symm
      exact ⟨by kernel_rfl, fun j t ht => by
        rw [Tryz.params3] at ht
        have hm : t ∈ [22, 23, 24] := by simpa using Array.mem_of_getElem? ht
        have hall : ([22, 23, 24].all fun u => !Tryz.prog.wantsStandIn u) = true := by kernel_rfl
        exact (show Tryz.prog.wantsStandIn t = false by simpa using List.all_eq_true.1 hall t hm)⟩)
    (by kernel_rfl)
#print axioms diagramBest_holds
end Go.Proofs.YtiainlccodnlmaaGreatDoor
