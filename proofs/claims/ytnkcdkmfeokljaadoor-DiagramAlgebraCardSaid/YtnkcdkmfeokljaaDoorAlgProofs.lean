/- The law DiagramAlgebra returns true for every script, and leaves it as it was: the tied card. The argument is any list of operations, opened to the script that it is; no condition but the row's own: the one listed variable (the library's table behind TrailingZeros32) reads as the program's text lays it, and the given tie ties it. -/
import Derived.Test.YtnkcdkmfeokljaaDoorRows
import Derived.Test.YtnkcdkmfeokljaaDoorCards
import Derived.Test.YtnkcdkmfeokljaaDoorTie
import Derived.Test.YtnkcdkmfeokljaaDoorOpenO
import Derived.Test.YtnkcdkmfeokljaaDoorAlg
import Derived.ProofKit
import Derived.LaidMore
import Derived.OpenShut
import Derived.Stop.Joined
import Derived.SevenTiedAt
import Derived.Lib.LaidTab
namespace Go.Proofs.YtnkcdkmfeokljaaDoor
open Go.RowKit Go.Shelf
open Bd

set_option maxRecDepth 100000 in
set_option maxHeartbeats 2000000 in
theorem alg_any (L : List OpD) (hx : ∀ x ∈ L, x.Fits) (v : Value) (w : World) (hv : ORow w v L) (hg : 0 < w.heap.size) (hT : Tab32 w) :
    Calls Tryd.prog 4 #[v] w fun e w' => e = .returned (.bool true) ∧ Below w.heap.size w w' := by
  have h3 := three_any L hx _ w hv hg hT
  have oA := ok_thr L 1
  have oB := ok_thr L 2
  have oC := ok_thr L 3
  obtain ⟨a, cap, rfl⟩ := hv.form
  clear hx hv hT hg
  generalize thr L 1 = A at *
  generalize thr L 2 = B1 at *
  generalize thr L 3 = C at *
  generalize okL L = ok at *
  generalize L.length = len at *
  clear L
  cases ok with
  | false =>
    go_enter Tryd.func4, Tryd.ntmps4
    go_wp2_with fail
    refine h3.mono ?_
    rintro e w1 ⟨rfl, hb1⟩
    have fr1 := (Fr.refl nob w).below hb1
    clear hb1 h3
    have fW := ((fr1.alloc (.cells #[.int .u32 (place (li A) A : Int), .string ⟨(code (rows (li A))).toArray⟩] 26)).alloc (.cells #[.int .u32 (place (li B1) B1 : Int), .string ⟨(code (rows (li B1))).toArray⟩] 26)).alloc (.cells #[.int .u32 (place (li C) C : Int), .string ⟨(code (rows (li C))).toArray⟩] 26)
    go_wp2_with fail
    refine (wakes_any _).mono ?_
    rintro e w2 ⟨rfl, hb2⟩
    have f2 := fW.below hb2
    go_wp2_with fail
    exact bodyPost_ret (v := .bool true) (by simp [results, Tryd.results4, go_sem]) rfl ⟨rfl, f2.to_below (Nat.le_refl _) (fun _ h => h.elim)⟩
  | true =>
    have oNA := ok_neg oA
    have oNB := ok_neg oB
    have oBC : (ite B1 .T C).ok 0 := ok_ite0 _ _ _
    have oAB : (ite A B1 .F).ok 0 := ok_ite0 _ _ _
    refine alg_in A B1 C (ite B1 .T C) (ite A (ite B1 .T C) .F) (ite A B1 .F) (ite A C .F) (ite B1 C .F) (ite A .T (ite B1 C .F)) (ite A .T B1) (ite A .T C) (ite A B1 .F).neg A.neg B1.neg (ite A B1.neg B1) (ite A B1.neg .F) (ite B1 A.neg .F) .F .T (ite A B1 C) (ite C A.neg .F) (ite C B1 .F) (andL [A, B1, C]) (ite C .T B1) (orL [A, B1, C]) (decide (ite A B1 .T = .T)) (!decide (ite A B1 .F = .F))
      (ok_ite0 _ _ _) (ok_ite0 _ _ _) (ok_neg oAB) oA (ok_ite0 _ _ _) oAB (ok_ite0 _ _ _) (ok_andL _) (ok_orL _) _ w h3
      (fun w => Or_any B1 C oB oC w) (fun w => And_any A _ oA oBC w) (fun w => And_any A B1 oA oB w) (fun w => And_any A C oA oC w)
      (fun w => by have h := Or_any (ite A B1 .F) (ite A C .F) oAB (ok_ite0 _ _ _) w; rw [← alg_and oA oB oC] at h; exact h)
      (fun w => And_any B1 C oB oC w) (fun w => Or_any A _ oA (ok_ite0 _ _ _) w) (fun w => Or_any A B1 oA oB w) (fun w => Or_any A C oA oC w)
      (fun w => by have h := And_any (ite A .T B1) (ite A .T C) (ok_ite0 _ _ _) (ok_ite0 _ _ _) w; rw [← alg_or oA oB oC] at h; exact h)
      (fun w => Not_any _ oAB w) (fun w => Not_any A oA w) (fun w => Not_any B1 oB w)
      (fun w => by have h := Or_any A.neg B1.neg oNA oNB w; rw [← alg_demorgan oA oB] at h; exact h)
      (fun w => by have h := Not_any A.neg oNA w; rw [neg_neg A] at h; exact h)
      (fun w => Xor_any A B1 oA oB w) (fun w => And_any A _ oA oNB w) (fun w => And_any B1 _ oB oNA w)
      (fun w => by have h := Or_any (ite A B1.neg .F) (ite B1 A.neg .F) (ok_ite0 _ _ _) (ok_ite0 _ _ _) w; rw [← alg_xor oA oB] at h; exact h)
      (fun w => by have h := Xor_any A A oA oA w; rw [alg_self oA] at h; exact h) (fun w => Empty_any .F w)
      (fun w => by have h := Or_any A A.neg oA oNA w; rw [alg_full oA] at h; exact h) (fun w => Full_any .T w)
      (fun w => by have h := And_any B1 A oB oA w; rw [alg_comm oB oA] at h; exact h)
      (fun w => Ite_any A B1 C oA oB oC w) (fun w => And_any C _ oC oNA w)
      (fun w => by have h := Or_any (ite A B1 .F) (ite C A.neg .F) oAB (ok_ite0 _ _ _) w; rw [← alg_ite oA oB oC] at h; exact h)
      (fun w => And_any C B1 oC oB w)
      (fun w => by have h := And_any (ite C B1 .F) A (ok_ite0 _ _ _) oA w; rw [← alg_all oA oB oC] at h; exact h)
      (fun w => Or_any C B1 oC oB w)
      (fun w => by have h := Or_any (ite C .T B1) A (ok_ite0 _ _ _) oA w; rw [← Bd.alg_any oA oB oC] at h; exact h)
      (fun w => Within_any A B1 oA oB w)
      (fun w => by have h := Same_any (ite A .T B1) B1 (ok_ite0 _ _ _) oB w; rw [show decide (ite A .T B1 = B1) = decide (ite A B1 .T = .T) from decide_eq_decide.2 (alg_within oA oB).symm] at h; exact h)
      (fun w => Meets_any A B1 oA oB w)
      (fun w => by have h := Within_any A B1.neg oA oNB w; rw [show decide (ite A B1.neg .T = .T) = !(!decide (ite A B1 .F = .F)) from by rw [Bool.not_not]; exact decide_eq_decide.2 (alg_meets oA oB).symm] at h; exact h)
      (fun w v h => AndAll_any _ (by intro x hx; simp at hx; rcases hx with rfl | rfl | rfl <;> assumption) (by simp) v w h)
      (fun w v h => OrAll_any _ (by intro x hx; simp at hx; rcases hx with rfl | rfl | rfl <;> assumption) (by simp) v w h)
end Go.Proofs.YtnkcdkmfeokljaaDoor
namespace Go.Proofs.YtnkcdkmfeokljaaDoor
open Go.ChangeShapes Go.WideShapes Go.ChangeAt Go.RowKit Go.WideElems Go.Deep
open Bd

theorem algebraOwn : ownKnob Tryd.prog.godebug = none := by kernel_rfl
theorem algebraLaid : laidOutB Tryd.prog = true := by kernel_rfl
def tabName : String := Rows.diagramAlgebraRow.named.headD ""
theorem tabG : Tryd.prog.globalNamed tabName = some 0 := by kernel_rfl
theorem tabT : (Tryd.prog.globals[0]?).map (·.type) = some 201 := by kernel_rfl
theorem tabE : Tryd.prog.cellsOf 5 = 1 := by kernel_rfl
theorem tabC : Tryd.prog.cellsOf 201 = 32 := by kernel_rfl

/-- what the condition gives the walk -/
theorem tab_of_laid {W : World} (h : laidMetH Tryd.prog Rows.diagramAlgebraRow.laid W) : Tab32 W := by
  rw [MakeChecks.laidMetH_plain _ _ _ (by kernel_rfl)] at h
  have h' : laidMet Tryd.prog ((tabName, Go.Lib.tabData .u8 (Go.Lib.deBruijn32tab.map (fun (n : Nat) => ((n : Nat) : Int)))) :: []) W := h
  have ht := Go.Lib.tabIs_of_head tabG tabT Tryd.underlying201 Tryd.underlying5 tabE tabC h'
  intro j hj
  rw [ht.cell tabG j (by simpa using hj)]
  simp [List.getD, hj]

/-- The door's own heap meets the condition. -/
theorem algebra_met (os : Os) (args : Array Value) : laidMetH Tryd.prog Rows.diagramAlgebraRow.laid ((World.doorLaid Tryd.prog 400 os).forCall (fun _ _ => 0) ⟨#[], args, []⟩).memory :=
  laidMetH_of_parts3 (fuel := 8) (laidMet_of_run' 8 (by kernel_rfl) (by kernel_rfl)) (by kernel_rfl) (by kernel_rfl)

set_option maxRecDepth 100000 in
theorem algebraLifted (os : Os) (started : os.Started) (H : Type) (enc : TypeId × Value → H) :
    ReturnsInHanded {} Tryd.checked os 4 .any (fun w args => (Rows.diagramAlgebraSpec.pre enc Tryd.prog Tryd.f4 [] false w args ∧ laidMetH Tryd.prog Rows.diagramAlgebraRow.laid w) ∧ sizedMet enc Tryd.prog Tryd.f4 (OpenSpec.ofChange Rows.diagramAlgebraSpec) false w args)
      (Rows.diagramAlgebraSpec.post enc Tryd.prog Tryd.f4 false true false false) := by
  refine returnsInHanded_of_change_and (C := Tryd.checked) (X := fun w _ => laidMetH Tryd.prog Rows.diagramAlgebraRow.laid w) (fun _ _ _ hh h => h.of_heap hh) algebraOwn started (by kernel_rfl) Tryd.func4
    (ChangeSpec.witness_shaped (enc := enc) (C := Tryd.checked) (os := os) (X := fun w _ => laidMetH Tryd.prog Rows.diagramAlgebraRow.laid w) false (World.doorLaid Tryd.prog 400 os) #[.slice none 0 0] 8 rfl (World.shaped_of_RefB (by kernel_rfl) (by kernel_rfl)) (by kernel_rfl) (by kernel_rfl) (by kernel_rfl) (algebra_met os _)) ?_
  intro W base args ds gs before hval0 hW _ _ hL _
  have hval : ∀ (j : Nat) t v, Tryd.f4.params[j]? = some t → args[j]? = some v → Value.okWide Tryd.prog W .any base t v := hval0
  have hW' := hW
  obtain ⟨p, q, hA0, hV, rfl, _, _⟩ := hW
  have hA : DataW.TrodAll enc Tryd.prog W 0 (fun _ => true) true Tryd.f4.params.toList args.toList ds p := hA0
  rw [Tryd.params4] at hA hval
  obtain ⟨v0, d0, rfl, rfl, h0⟩ := trodAll_one hA
  obtain ⟨rfl, rfl⟩ := trodVars_none hV
  obtain ⟨a0, len, cap, rfl⟩ := okWide_slice Tryd.underlying38 (hval 0 38 v0 rfl rfl)
  have h0k := h0
  obtain ⟨fuel, hf⟩ := h0
  clear hA0 hval0
  simp only [List.append_nil] at hW'
  have hlt : ∀ x ∈ p, x.block < W.heap.size := fun x hx => by simpa using hW'.lt x hx
  obtain ⟨v, L, hc, hrow, hfit⟩ := open_ops hf
  obtain rfl : Value.slice a0 len cap = v := by simpa [Value.cells] using hc
  have hT := tab_of_laid hL
  have hg : 0 < W.heap.size := lt_of_cell (hT 0 (by decide))
  refine (alg_any L hfit _ W hrow hg hT).mono fun e W' ⟨he, hB⟩ => ?_
  subst he
  refine ⟨_, rfl, _, _, _, [], p, [], hW', ?_, ?_, rfl, hB.frame _, fun h => by cases h⟩
  · exact trodAll_mk1 (shut_bool Tryd.underlying4 _)
  · exact trodAll_mk1 (Below.trod algebraLaid (by kernel_rfl) (of_decide_eq_true (by kernel_rfl)) h0k hB hlt)

theorem algebra_row : Rows.DiagramAlgebraSaid :=
  OpenClaim.holds_of_wide 4 Tryd.f4 rfl rfl rfl rfl rfl rfl rfl ⟨rfl, rfl, rfl, rfl, rfl⟩ rfl rfl rfl rfl rfl (by kernel_rfl) Tryd.func4 (by kernel_rfl)
    (of_decide_eq_true (by kernel_rfl)) (by unfold Func.isWrapper; first | (rw [if_pos (by decide +kernel)]; kernel_rfl) | (rw [if_neg (by decide +kernel)]; exact ⟨rfl, rfl⟩))
    (fun os started H enc _ => algebraLifted os started H enc)

/-- the law holds of every input, the listed variable tied to the program's text -/
theorem diagramAlgebra_holds : Rows.DiagramAlgebraCardSaid :=
  Claim7.holds_tied_plain_at .later [] [.data] true Rows.diagramAlgebraCard.stood.harness false
    algebra_row (fun _ h => by cases h) (by kernel_rfl) (fun _ h => by cases h) diagramAlgebra_row_tie rfl ⟨rfl, rfl⟩ (by kernel_rfl) rfl
    (fun f fn hf hfn => by
      obtain rfl : f = 4 := Option.some.inj ((show Tryd.prog.funcNamed Rows.diagramAlgebraRow.func = some 4 by kernel_rfl).symm.trans hf) |>.symm
      obtain rfl : fn = Tryd.f4 := (Option.some.inj (Tryd.func4.symm.trans hfn)).symm
      exact ⟨by kernel_rfl, fun j t ht => by
        rw [Tryd.params4] at ht
        have hm : t ∈ [38] := by simpa using Array.mem_of_getElem? ht
        have hall : ([38].all fun u => !Tryd.prog.wantsStandIn u) = true := by kernel_rfl
        exact (show Tryd.prog.wantsStandIn t = false by simpa using List.all_eq_true.1 hall t hm)⟩)
    (by kernel_rfl)
#print axioms diagramAlgebra_holds
end Go.Proofs.YtnkcdkmfeokljaaDoor
