/- The law DiagramAdds returns true for every script and leaves the script as it was: the tied card. The argument is any list of operations, opened to the script that it is; no condition but the row's own: the one listed variable (the library's table behind TrailingZeros32) reads as the program's text lays it, and the given tie ties it. -/
import Derived.Test.YtfhjpldlhhgcnaaDoorMake
import Derived.Test.YtfhjpldlhhgcnaaDoorWake
import Derived.Test.YtfhjpldlhhgcnaaDoorRows
import Derived.Test.YtfhjpldlhhgcnaaDoorCards
import Derived.Test.YtfhjpldlhhgcnaaDoorTie
import Derived.Test.YtfhjpldlhhgcnaaDoorOpenO
import Derived.ProofKit
import Derived.LaidMore
import Derived.OpenShut
import Derived.Stop.Joined
import Derived.SevenTiedAt
import Derived.Lib.LaidTab
namespace Go.Proofs.YtfhjpldlhhgcnaaDoor
open Go.RowKit Go.Shelf
open Bd

namespace Bd
theorem cnt_pos : ∀ (x : B) (i : Nat), i ≤ 24 → x.ok i → x ≠ .F → 2 ^ i ≤ cnt x
  | .F, _, _, _, h => absurd rfl h
  | .T, i, hi, _, _ => (Nat.pow_le_pow_right (by omega) hi : (2 : Nat) ^ i ≤ 2 ^ 24)
  | .N j l u, i, hi, ho, _ => by
    obtain ⟨h1, h2, h3, h4, h5⟩ := ho
    have e : (2 : Nat) ^ (j + 1) = 2 * 2 ^ j := by rw [Nat.pow_succ, Nat.mul_comm]
    have hp : (2 : Nat) ^ i ≤ 2 ^ j := Nat.pow_le_pow_right (by omega) h1
    have key : (2 : Nat) ^ (j + 1) ≤ cnt l ∨ (2 : Nat) ^ (j + 1) ≤ cnt u := by
      by_cases hl : l = .F
      · exact .inr (cnt_pos u (j + 1) (by omega) h5 (fun hu => h3 (hl.trans hu.symm)))
      · exact .inl (cnt_pos l (j + 1) (by omega) h4 hl)
    rw [cnt]
    rw [e] at key
    generalize (2 : Nat) ^ j = p at *
    generalize (2 : Nat) ^ i = q at *
    omega
theorem cnt_zero {x : B} (h : x.ok 0) : cnt x = 0 ↔ x = .F := by
  constructor
  · intro e
    by_cases hx : x = .F
    · exact hx
    · have := cnt_pos x 0 (by omega) h hx
      rw [e] at this; simp at this
  · rintro rfl; rfl
end Bd
theorem count24 (A : B) (hA : A.ok 0) (w : World) : Calls Tryd.prog 37 #[dval A, .int .i64 24] w fun e w' => e = .returned (.tuple #[.int .u64 (cnt A : Int), .int .i64 0]) ∧ Below w.heap.size w w' := by
  have h := Count_ok A hA 24 (Nat.le_refl _) (Nat.div_eq_of_lt (supR_lt24 hA)) w
  rw [Nat.sub_self, Nat.pow_zero, Nat.div_one] at h
  exact h

set_option maxRecDepth 100000 in
set_option maxHeartbeats 2000000 in
theorem adds_any (L : List OpD) (hx : ∀ x ∈ L, x.Fits) (v : Value) (w : World) (hv : ORow w v L) (hg : 0 < w.heap.size) (hT : Tab32 w) :
    Calls Tryd.prog 6 #[v] w fun e w' => e = .returned (.bool true) ∧ Below w.heap.size w w' := by
  obtain ⟨a, cap, rfl⟩ := hv.form
  have h3 := three_any L hx _ w hv hg hT
  have oA := ok_thr L 1
  have oB := ok_thr L 2
  clear hx hv hT
  generalize thr L 1 = A at *
  generalize thr L 2 = B1 at *
  generalize thr L 3 = C at *
  generalize okL L = ok at *
  generalize L.length = len at *
  clear L
  have e1 := cnt_neg oA
  have e2 := cnt_add oA oB
  have e3 := cnt_zero oA
  have hEmpty := Empty_any A
  have hd : ((cnt A : Int) == 0) = decide (A = .F) := by
    rw [show (0 : Int) = ((0 : Nat) : Int) from rfl, beq_dec]
    exact decide_eq_decide.2 e3
  generalize decide (A = .F) = d at *
  have hCount := count24
  have v1 : IntKind.u64.wrap ((cnt A : Int) + (cnt A.neg : Int)) = 16777216 := by rw [IntKind.wrap_u64]; omega
  obtain ⟨z, hz⟩ : ∃ z : Int, z = (cnt A : Int) + (cnt B1 : Int) := ⟨_, rfl⟩
  have v2 : IntKind.u64.wrap ((cnt A : Int) + (cnt B1 : Int)) = z := by have := cnt_le oA; have := cnt_le oB; rw [hz, IntKind.wrap_u64]; omega
  have v3 : IntKind.u64.wrap ((cnt (ite A .T B1) : Int) + (cnt (ite A B1 .F) : Int)) = z := by have := cnt_le oA; have := cnt_le oB; rw [hz, IntKind.wrap_u64]; omega
  clear hz e1 e2 e3
  go_enter Tryd.func6, Tryd.ntmps6
  go_wp2_with fail
  refine h3.mono ?_
  rintro e w1 ⟨rfl, hb1⟩
  have fr1 := (Fr.refl nob w).below hb1
  clear hb1 h3
  cases ok with
  | false =>
    have fW := ((fr1.alloc (.cells #[.int .u32 (place (li A) A : Int), .string ⟨(code (rows (li A))).toArray⟩] 26)).alloc (.cells #[.int .u32 (place (li B1) B1 : Int), .string ⟨(code (rows (li B1))).toArray⟩] 26)).alloc (.cells #[.int .u32 (place (li C) C : Int), .string ⟨(code (rows (li C))).toArray⟩] 26)
    go_wp2_with fail
    refine (wakes_any _).mono ?_
    rintro e w2 ⟨rfl, hb2⟩
    have f2 := fW.below hb2
    go_wp2_with fail
    exact bodyPost_ret (v := .bool true) (by simp [results, Tryd.results6, go_sem]) rfl ⟨rfl, f2.to_below (Nat.le_refl _) (fun _ h => h.elim)⟩
  | true =>
    have fW := ((fr1.alloc (.cells #[.int .u32 (place (li A) A : Int), .string ⟨(code (rows (li A))).toArray⟩] 26)).alloc (.cells #[.int .u32 (place (li B1) B1 : Int), .string ⟨(code (rows (li B1))).toArray⟩] 26)).alloc (.cells #[.int .u32 (place (li C) C : Int), .string ⟨(code (rows (li C))).toArray⟩] 26)
    obtain ⟨⟨a0, a1, _⟩, ⟨b0, b1, _⟩, _⟩ := three_boxes w1 (.int .u32 (place (li A) A : Int)) (.string ⟨(code (rows (li A))).toArray⟩) (.int .u32 (place (li B1) B1 : Int)) (.string ⟨(code (rows (li B1))).toArray⟩) (.int .u32 (place (li C) C : Int)) (.string ⟨(code (rows (li C))).toArray⟩) 26
    go_upto_region 4 with fail
    generalize ((w1.alloc (.cells #[.int .u32 (place (li A) A : Int), .string ⟨(code (rows (li A))).toArray⟩] 26)).alloc (.cells #[.int .u32 (place (li B1) B1 : Int), .string ⟨(code (rows (li B1))).toArray⟩] 26)).alloc (.cells #[.int .u32 (place (li C) C : Int), .string ⟨(code (rows (li C))).toArray⟩] 26) = W at *
    go_wp2_with fail
    refine (hCount A oA _).mono ?_
    rintro e x0 ⟨rfl, hb0⟩
    have g0 := (Fr.refl nob W).below hb0
    have a0_0 := g0.cell a0 (fun h => h)
    have a1_0 := g0.cell a1 (fun h => h)
    have b0_0 := g0.cell b0 (fun h => h)
    have b1_0 := g0.cell b1 (fun h => h)
    clear hb0
    go_wp2_with fail
    refine (Not_any A oA _).mono ?_
    rintro e x1 ⟨rfl, hb1⟩
    have g1 := g0.below hb1
    have a0_1 := g1.cell a0 (fun h => h)
    have a1_1 := g1.cell a1 (fun h => h)
    have b0_1 := g1.cell b0 (fun h => h)
    have b1_1 := g1.cell b1 (fun h => h)
    clear a0_0 a1_0 b0_0 b1_0 g0
    clear hb1
    go_wp2_with fail
    refine (hCount A.neg (ok_neg oA) _).mono ?_
    rintro e x2 ⟨rfl, hb2⟩
    have g2 := g1.below hb2
    have a0_2 := g2.cell a0 (fun h => h)
    have a1_2 := g2.cell a1 (fun h => h)
    have b0_2 := g2.cell b0 (fun h => h)
    have b1_2 := g2.cell b1 (fun h => h)
    clear a0_1 a1_1 b0_1 b1_1 g1
    clear hb2
    go_wp2_with fail
    refine (hCount B1 oB _).mono ?_
    rintro e x3 ⟨rfl, hb3⟩
    have g3 := g2.below hb3
    have a0_3 := g3.cell a0 (fun h => h)
    have a1_3 := g3.cell a1 (fun h => h)
    have b0_3 := g3.cell b0 (fun h => h)
    have b1_3 := g3.cell b1 (fun h => h)
    clear a0_2 a1_2 b0_2 b1_2 g2
    clear hb3
    go_wp2_with fail
    refine (Or_any A B1 oA oB _).mono ?_
    rintro e x4 ⟨rfl, hb4⟩
    have g4 := g3.below hb4
    have a0_4 := g4.cell a0 (fun h => h)
    have a1_4 := g4.cell a1 (fun h => h)
    have b0_4 := g4.cell b0 (fun h => h)
    have b1_4 := g4.cell b1 (fun h => h)
    clear a0_3 a1_3 b0_3 b1_3 g3
    clear hb4
    go_wp2_with fail
    refine (hCount (ite A .T B1) (ok_ite0 _ _ _) _).mono ?_
    rintro e x5 ⟨rfl, hb5⟩
    have g5 := g4.below hb5
    have a0_5 := g5.cell a0 (fun h => h)
    have a1_5 := g5.cell a1 (fun h => h)
    have b0_5 := g5.cell b0 (fun h => h)
    have b1_5 := g5.cell b1 (fun h => h)
    clear a0_4 a1_4 b0_4 b1_4 g4
    clear hb5
    go_wp2_with fail
    refine (And_any A B1 oA oB _).mono ?_
    rintro e x6 ⟨rfl, hb6⟩
    have g6 := g5.below hb6
    have a0_6 := g6.cell a0 (fun h => h)
    have a1_6 := g6.cell a1 (fun h => h)
    have b0_6 := g6.cell b0 (fun h => h)
    have b1_6 := g6.cell b1 (fun h => h)
    clear a0_5 a1_5 b0_5 b1_5 g5
    clear hb6
    go_wp2_with fail
    refine (hCount (ite A B1 .F) (ok_ite0 _ _ _) _).mono ?_
    rintro e x7 ⟨rfl, hb7⟩
    have g7 := g6.below hb7
    have a0_7 := g7.cell a0 (fun h => h)
    have a1_7 := g7.cell a1 (fun h => h)
    have b0_7 := g7.cell b0 (fun h => h)
    have b1_7 := g7.cell b1 (fun h => h)
    clear a0_6 a1_6 b0_6 b1_6 g6
    clear hb7
    go_wp2_with fail
    refine (hEmpty _).mono ?_
    rintro e x8 ⟨rfl, hb8⟩
    have g8 := g7.below hb8
    have a0_8 := g8.cell a0 (fun h => h)
    have a1_8 := g8.cell a1 (fun h => h)
    have b0_8 := g8.cell b0 (fun h => h)
    have b1_8 := g8.cell b1 (fun h => h)
    clear a0_7 a1_7 b0_7 b1_7 g7
    clear hb8
    go_wp2_with fail
    refine (wakes_any _).mono ?_
    rintro e x9 ⟨rfl, hb9⟩
    have g9 := g8.below hb9
    have a0_9 := g9.cell a0 (fun h => h)
    have a1_9 := g9.cell a1 (fun h => h)
    have b0_9 := g9.cell b0 (fun h => h)
    have b1_9 := g9.cell b1 (fun h => h)
    clear a0_8 a1_8 b0_8 b1_8 g8
    clear hb9
    go_wp2_with fail
    exact bodyPost_ret (v := .bool true) (by simp [results, Tryd.results6, go_sem]) rfl ⟨rfl, (fW.trans g9 (fun _ _ h => h)).to_below (Nat.le_refl _) (fun _ h => h.elim)⟩
end Go.Proofs.YtfhjpldlhhgcnaaDoor
namespace Go.Proofs.YtfhjpldlhhgcnaaDoor
open Go.ChangeShapes Go.WideShapes Go.ChangeAt Go.RowKit Go.WideElems Go.Deep
open Bd

theorem addsOwn : ownKnob Tryd.prog.godebug = none := by kernel_rfl
theorem addsLaid : laidOutB Tryd.prog = true := by kernel_rfl
def tabName : String := Rows.diagramAddsRow.named.headD ""
theorem tabG : Tryd.prog.globalNamed tabName = some 0 := by kernel_rfl
theorem tabT : (Tryd.prog.globals[0]?).map (·.type) = some 201 := by kernel_rfl
theorem tabE : Tryd.prog.cellsOf 5 = 1 := by kernel_rfl
theorem tabC : Tryd.prog.cellsOf 201 = 32 := by kernel_rfl

/-- what the condition gives the walk -/
theorem tab_of_laid {W : World} (h : laidMetH Tryd.prog Rows.diagramAddsRow.laid W) : Tab32 W := by
  rw [MakeChecks.laidMetH_plain _ _ _ (by kernel_rfl)] at h
  have h' : laidMet Tryd.prog ((tabName, Go.Lib.tabData .u8 (Go.Lib.deBruijn32tab.map (fun (n : Nat) => ((n : Nat) : Int)))) :: []) W := h
  have ht := Go.Lib.tabIs_of_head tabG tabT Tryd.underlying201 Tryd.underlying5 tabE tabC h'
  intro j hj
  rw [ht.cell tabG j (by simpa using hj)]
  simp [List.getD, hj]

/-- The door's own heap meets the condition. -/
theorem adds_met (os : Os) (args : Array Value) : laidMetH Tryd.prog Rows.diagramAddsRow.laid ((World.doorLaid Tryd.prog 400 os).forCall (fun _ _ => 0) ⟨#[], args, []⟩).memory :=
  laidMetH_of_parts3 (fuel := 8) (laidMet_of_run' 8 (by kernel_rfl) (by kernel_rfl)) (by kernel_rfl) (by kernel_rfl)

set_option maxRecDepth 100000 in
theorem addsLifted (os : Os) (started : os.Started) (H : Type) (enc : TypeId × Value → H) :
    ReturnsInHanded {} Tryd.checked os 6 .any (fun w args => (Rows.diagramAddsSpec.pre enc Tryd.prog Tryd.f6 [] false w args ∧ laidMetH Tryd.prog Rows.diagramAddsRow.laid w) ∧ sizedMet enc Tryd.prog Tryd.f6 (OpenSpec.ofChange Rows.diagramAddsSpec) false w args)
      (Rows.diagramAddsSpec.post enc Tryd.prog Tryd.f6 false true false false) := by
  refine returnsInHanded_of_change_and (C := Tryd.checked) (X := fun w _ => laidMetH Tryd.prog Rows.diagramAddsRow.laid w) (fun _ _ _ hh h => h.of_heap hh) addsOwn started (by kernel_rfl) Tryd.func6
    (ChangeSpec.witness_shaped (enc := enc) (C := Tryd.checked) (os := os) (X := fun w _ => laidMetH Tryd.prog Rows.diagramAddsRow.laid w) false (World.doorLaid Tryd.prog 400 os) #[.slice none 0 0] 8 rfl (World.shaped_of_RefB (by kernel_rfl) (by kernel_rfl)) (by kernel_rfl) (by kernel_rfl) (by kernel_rfl) (adds_met os _)) ?_
  intro W base args ds gs before hval0 hW _ _ hL _
  have hval : ∀ (j : Nat) t v, Tryd.f6.params[j]? = some t → args[j]? = some v → Value.okWide Tryd.prog W .any base t v := hval0
  have hW' := hW
  obtain ⟨p, q, hA0, hV, rfl, _, _⟩ := hW
  have hA : DataW.TrodAll enc Tryd.prog W 0 (fun _ => true) true Tryd.f6.params.toList args.toList ds p := hA0
  rw [Tryd.params6] at hA hval
  obtain ⟨v0, d0, rfl, rfl, h0⟩ := trodAll_one hA
  obtain ⟨rfl, rfl⟩ := trodVars_none hV
  obtain ⟨a0, len, cap, rfl⟩ := okWide_slice Tryd.underlying38 (hval 0 38 v0 rfl rfl)
  have h0k := h0
  obtain ⟨fuel, hf⟩ := h0
  clear hA0 hval0
  simp only [List.append_nil] at hW'
  have hlt : ∀ x ∈ p, x.block < W.heap.size := fun x hx => by simpa using hW'.lt x hx
  obtain ⟨v, L, hc, hrow, hfit⟩ := open_ops hf
  obtain rfl : Value.slice a0 len cap = v := by simpa [Value.cells] using hc
  have hT := tab_of_laid hL
  have hg : 0 < W.heap.size := lt_of_cell (hT 0 (by decide))
  refine (adds_any L hfit _ W hrow hg hT).mono fun e W' ⟨he, hB⟩ => ?_
  subst he
  refine ⟨_, rfl, _, _, _, [], p, [], hW', ?_, ?_, rfl, hB.frame _, fun h => by cases h⟩
  · exact trodAll_mk1 (shut_bool Tryd.underlying4 _)
  · exact trodAll_mk1 (Below.trod addsLaid (by kernel_rfl) (of_decide_eq_true (by kernel_rfl)) h0k hB hlt)

theorem adds_row : Rows.DiagramAddsSaid :=
  OpenClaim.holds_of_wide 6 Tryd.f6 rfl rfl rfl rfl rfl rfl rfl ⟨rfl, rfl, rfl, rfl, rfl⟩ rfl rfl rfl rfl rfl (by kernel_rfl) Tryd.func6 (by kernel_rfl)
    (of_decide_eq_true (by kernel_rfl)) (by unfold Func.isWrapper; first | (rw [if_pos (by decide +kernel)]; kernel_rfl) | (rw [if_neg (by decide +kernel)]; exact ⟨rfl, rfl⟩))
    (fun os started H enc _ => addsLifted os started H enc)

/-- the law holds of every input, the listed variable tied to the program's text -/
theorem diagramAdds_holds : Rows.DiagramAddsCardSaid :=
  Claim7.holds_tied_plain_at .later [] [.data] true Rows.diagramAddsCard.stood.harness false
    adds_row (fun _ h => by cases h) (by kernel_rfl) (fun _ h => by cases h) diagramAdds_row_tie rfl ⟨rfl, rfl⟩ (by kernel_rfl) rfl
    (fun f fn hf hfn => by
      obtain rfl : f = 6 := Option.some.inj ((show Tryd.prog.funcNamed Rows.diagramAddsRow.func = some 6 by kernel_rfl).symm.trans hf) |>.symm
      obtain rfl : fn = Tryd.f6 := (Option.some.inj (Tryd.func6.symm.trans hfn)).symm
      exact ⟨by kernel_rfl, fun j t ht => by
        rw [Tryd.params6] at ht
        have hm : t ∈ [38] := by simpa using Array.mem_of_getElem? ht
        have hall : ([38].all fun u => !Tryd.prog.wantsStandIn u) = true := by kernel_rfl
        exact (show Tryd.prog.wantsStandIn t = false by simpa using List.all_eq_true.1 hall t hm)⟩)
    (by kernel_rfl)
#print axioms diagramAdds_holds
end Go.Proofs.YtfhjpldlhhgcnaaDoor
