import Derived.Test.YtiainlccodnlmaaDoorCst
import Derived.Test.YtiainlccodnlmaaDoorCostC
namespace Go.Proofs.YtiainlccodnlmaaDoor
open Go.RowKit
open Bd

/-- what Cheapest answers -/
def chpV (cw : Nat → Int) (ok : Bool) (A : B) : Value := if ok then (if A = .F then .tuple #[.int .u32 0, .int .i64 0, .int .i64 8] else .tuple #[.int .u32 (bstN cw A : Int), .int .i64 (csL cw (ints (featL (bstN cw A)))), .int .i64 0]) else .tuple #[.int .u32 0, .int .i64 0, .int .i64 2]
theorem chpV_bad (cw : Nat → Int) (A : B) : chpV cw false A = .tuple #[.int .u32 0, .int .i64 0, .int .i64 2] := rfl
theorem chpV_none (cw : Nat → Int) : chpV cw true .F = .tuple #[.int .u32 0, .int .i64 0, .int .i64 8] := by unfold chpV; simp
theorem chpV_ok (cw : Nat → Int) {A : B} (h : A ≠ .F) : chpV cw true A = .tuple #[.int .u32 (bstN cw A : Int), .int .i64 (csL cw (ints (featL (bstN cw A)))), .int .i64 0] := by unfold chpV; simp [h]

set_option maxRecDepth 100000 in
set_option maxHeartbeats 2000000 in
theorem chp_in (A : B) (hA : A.ok 0) (cw : Nat → Int) (hcw : ∀ j, -2147483648 ≤ cw j ∧ cw j ≤ 2147483648) (ok : Bool) (v : Value) (w : World) (hbm : bstN cw A < 4294967296)
    (hwg : ∀ W, Fr nob w W → Calls Tryd.prog 74 #[v] W fun e w' => e = .returned (.tuple #[wv cw, .bool ok]) ∧ Below W.heap.size W w')
    (hg : 0 < w.heap.size) (hT : Tab32 w) :
    Calls Tryd.prog 38 #[dval A, v] w fun e W' => e = .returned (chpV cw ok A) ∧ Below w.heap.size w W' := by
  have D0 := Box2.new w (.int .u32 (place (li A) A : Int)) (.string ⟨(code (rows (li A))).toArray⟩) 31
  have fr : Fr nob w (w.alloc (.cells #[.int .u32 (place (li A) A : Int), .string ⟨(code (rows (li A))).toArray⟩] 31)) := (Fr.refl nob w).alloc _
  have hwg0 := hwg _ fr
  have HT := Lib.hid hT
  have HCW := Lib.hid hcw
  have HBM := Lib.hid hbm
  clear hT hcw hbm hwg
  go_enter Tryd.func38, Tryd.ntmps38
  go_upto_region 1 with fail
  generalize w.alloc (.cells #[.int .u32 (place (li A) A : Int), .string ⟨(code (rows (li A))).toArray⟩] 31) = W0 at *
  have HI' := Lib.hid (show (Tryd.prog.info? 109).map (·.size) = some (#[.int .i64 (cw 0), .int .i64 (cw 1), .int .i64 (cw 2), .int .i64 (cw 3), .int .i64 (cw 4), .int .i64 (cw 5), .int .i64 (cw 6), .int .i64 (cw 7), .int .i64 (cw 8), .int .i64 (cw 9), .int .i64 (cw 10), .int .i64 (cw 11), .int .i64 (cw 12), .int .i64 (cw 13), .int .i64 (cw 14), .int .i64 (cw 15), .int .i64 (cw 16), .int .i64 (cw 17), .int .i64 (cw 18), .int .i64 (cw 19), .int .i64 (cw 20), .int .i64 (cw 21), .int .i64 (cw 22), .int .i64 (cw 23)] : Array Value).size from info_w)
  have HI := Lib.hid (show (Tryd.prog.info? 109).map (·.size) = some ([.int .i64 (cw 0), .int .i64 (cw 1), .int .i64 (cw 2), .int .i64 (cw 3), .int .i64 (cw 4), .int .i64 (cw 5), .int .i64 (cw 6), .int .i64 (cw 7), .int .i64 (cw 8), .int .i64 (cw 9), .int .i64 (cw 10), .int .i64 (cw 11), .int .i64 (cw 12), .int .i64 (cw 13), .int .i64 (cw 14), .int .i64 (cw 15), .int .i64 (cw 16), .int .i64 (cw 17), .int .i64 (cw 18), .int .i64 (cw 19), .int .i64 (cw 20), .int .i64 (cw 21), .int .i64 (cw 22), .int .i64 (cw 23)] : List Value).length from info_w)
  go_wp2_with fail
  refine hwg0.mono ?_
  rintro e w1 ⟨rfl, hb1⟩
  dsimp only
  rename_i hk1
  refine hk1 _ _ ?_
  refine wpList_val (v := .tuple #[wv cw, .bool ok]) (w' := w1) rfl ?v0 ?_
  case v0 =>
    go_simp
    try rfl
  simp only [Act.put, List.setIfInBounds_toArray, List.set_cons_zero, List.set_cons_succ]
  refine wpList_val (v := wv cw) (w' := w1) rfl ?v1 ?_
  case v1 =>
    go_simp
    try rfl
  simp only [Act.put, List.setIfInBounds_toArray, List.set_cons_zero, List.set_cons_succ]
  refine wpList_val (v := .bool ok) (w' := w1) rfl ?v2 ?_
  case v2 =>
    go_simp
    try rfl
  simp only [Act.put, List.setIfInBounds_toArray, List.set_cons_zero, List.set_cons_succ]
  refine wpList_val (v := .pointer (some ⟨w1.heap.size, 0, none⟩)) (w' := w1.alloc (.cells #[.int .i64 0, .int .i64 0, .int .i64 0, .int .i64 0, .int .i64 0, .int .i64 0, .int .i64 0, .int .i64 0, .int .i64 0, .int .i64 0, .int .i64 0, .int .i64 0, .int .i64 0, .int .i64 0, .int .i64 0, .int .i64 0, .int .i64 0, .int .i64 0, .int .i64 0, .int .i64 0, .int .i64 0, .int .i64 0, .int .i64 0, .int .i64 0] 109)) rfl ?v3 ?_
  case v3 =>
    go_simp
    try rfl
  simp only [Act.put, List.setIfInBounds_toArray, List.set_cons_zero, List.set_cons_succ]
  refine wpList_store_mid rfl 109 (.tmp 7) (.tmp 14) rfl w1.heap.size 0 #[.int .i64 (cw 0), .int .i64 (cw 1), .int .i64 (cw 2), .int .i64 (cw 3), .int .i64 (cw 4), .int .i64 (cw 5), .int .i64 (cw 6), .int .i64 (cw 7), .int .i64 (cw 8), .int .i64 (cw 9), .int .i64 (cw 10), .int .i64 (cw 11), .int .i64 (cw 12), .int .i64 (cw 13), .int .i64 (cw 14), .int .i64 (cw 15), .int .i64 (cw 16), .int .i64 (cw 17), .int .i64 (cw 18), .int .i64 (cw 19), .int .i64 (cw 20), .int .i64 (cw 21), .int .i64 (cw 22), .int .i64 (cw 23)] rfl rfl (there_new w1 #[.int .i64 0, .int .i64 0, .int .i64 0, .int .i64 0, .int .i64 0, .int .i64 0, .int .i64 0, .int .i64 0, .int .i64 0, .int .i64 0, .int .i64 0, .int .i64 0, .int .i64 0, .int .i64 0, .int .i64 0, .int .i64 0, .int .i64 0, .int .i64 0, .int .i64 0, .int .i64 0, .int .i64 0, .int .i64 0, .int .i64 0, .int .i64 0] 109) HI'.out (by simp [Value.oneCell']) ?_
  simp only [Act.put]
  have g1 := (Fr.refl nob W0).below hb1
  have hr := World.rangeAt_setCells_same (w1.alloc (.cells #[.int .i64 0, .int .i64 0, .int .i64 0, .int .i64 0, .int .i64 0, .int .i64 0, .int .i64 0, .int .i64 0, .int .i64 0, .int .i64 0, .int .i64 0, .int .i64 0, .int .i64 0, .int .i64 0, .int .i64 0, .int .i64 0, .int .i64 0, .int .i64 0, .int .i64 0, .int .i64 0, .int .i64 0, .int .i64 0, .int .i64 0, .int .i64 0] 109)) w1.heap.size 0 [.int .i64 (cw 0), .int .i64 (cw 1), .int .i64 (cw 2), .int .i64 (cw 3), .int .i64 (cw 4), .int .i64 (cw 5), .int .i64 (cw 6), .int .i64 (cw 7), .int .i64 (cw 8), .int .i64 (cw 9), .int .i64 (cw 10), .int .i64 (cw 11), .int .i64 (cw 12), .int .i64 (cw 13), .int .i64 (cw 14), .int .i64 (cw 15), .int .i64 (cw 16), .int .i64 (cw 17), .int .i64 (cw 18), .int .i64 (cw 19), .int .i64 (cw 20), .int .i64 (cw 21), .int .i64 (cw 22), .int .i64 (cw 23)] (there_new w1 #[.int .i64 0, .int .i64 0, .int .i64 0, .int .i64 0, .int .i64 0, .int .i64 0, .int .i64 0, .int .i64 0, .int .i64 0, .int .i64 0, .int .i64 0, .int .i64 0, .int .i64 0, .int .i64 0, .int .i64 0, .int .i64 0, .int .i64 0, .int .i64 0, .int .i64 0, .int .i64 0, .int .i64 0, .int .i64 0, .int .i64 0, .int .i64 0] 109)
  have F2 : Fr nob w1 ((w1.alloc (.cells #[.int .i64 0, .int .i64 0, .int .i64 0, .int .i64 0, .int .i64 0, .int .i64 0, .int .i64 0, .int .i64 0, .int .i64 0, .int .i64 0, .int .i64 0, .int .i64 0, .int .i64 0, .int .i64 0, .int .i64 0, .int .i64 0, .int .i64 0, .int .i64 0, .int .i64 0, .int .i64 0, .int .i64 0, .int .i64 0, .int .i64 0, .int .i64 0] 109)).setCells w1.heap.size 0 [.int .i64 (cw 0), .int .i64 (cw 1), .int .i64 (cw 2), .int .i64 (cw 3), .int .i64 (cw 4), .int .i64 (cw 5), .int .i64 (cw 6), .int .i64 (cw 7), .int .i64 (cw 8), .int .i64 (cw 9), .int .i64 (cw 10), .int .i64 (cw 11), .int .i64 (cw 12), .int .i64 (cw 13), .int .i64 (cw 14), .int .i64 (cw 15), .int .i64 (cw 16), .int .i64 (cw 17), .int .i64 (cw 18), .int .i64 (cw 19), .int .i64 (cw 20), .int .i64 (cw 21), .int .i64 (cw 22), .int .i64 (cw 23)]) := ((Fr.refl nob w1).alloc _).trans (fr_setCells w1.heap.size [.int .i64 (cw 0), .int .i64 (cw 1), .int .i64 (cw 2), .int .i64 (cw 3), .int .i64 (cw 4), .int .i64 (cw 5), .int .i64 (cw 6), .int .i64 (cw 7), .int .i64 (cw 8), .int .i64 (cw 9), .int .i64 (cw 10), .int .i64 (cw 11), .int .i64 (cw 12), .int .i64 (cw 13), .int .i64 (cw 14), .int .i64 (cw 15), .int .i64 (cw 16), .int .i64 (cw 17), .int .i64 (cw 18), .int .i64 (cw 19), .int .i64 (cw 20), .int .i64 (cw 21), .int .i64 (cw 22), .int .i64 (cw 23)] 0 _) (fun j hj e => by exfalso; omega)
  have D2 := (D0.kept g1 (fun h => h)).kept F2 (fun h => h)
  have fr2 := (fr.trans g1 (fun _ _ h => h)).trans F2 (fun _ _ h => h)
  have l0 : w.heap.size < w1.heap.size := (D0.kept g1 (fun h => h)).lt
  generalize (w1.alloc (.cells #[.int .i64 0, .int .i64 0, .int .i64 0, .int .i64 0, .int .i64 0, .int .i64 0, .int .i64 0, .int .i64 0, .int .i64 0, .int .i64 0, .int .i64 0, .int .i64 0, .int .i64 0, .int .i64 0, .int .i64 0, .int .i64 0, .int .i64 0, .int .i64 0, .int .i64 0, .int .i64 0, .int .i64 0, .int .i64 0, .int .i64 0, .int .i64 0] 109)).setCells w1.heap.size 0 [.int .i64 (cw 0), .int .i64 (cw 1), .int .i64 (cw 2), .int .i64 (cw 3), .int .i64 (cw 4), .int .i64 (cw 5), .int .i64 (cw 6), .int .i64 (cw 7), .int .i64 (cw 8), .int .i64 (cw 9), .int .i64 (cw 10), .int .i64 (cw 11), .int .i64 (cw 12), .int .i64 (cw 13), .int .i64 (cw 14), .int .i64 (cw 15), .int .i64 (cw 16), .int .i64 (cw 17), .int .i64 (cw 18), .int .i64 (cw 19), .int .i64 (cw 20), .int .i64 (cw 21), .int .i64 (cw 22), .int .i64 (cw 23)] = W2 at *
  clear hwg0 D0 fr hb1 g1 F2
  generalize w1.heap.size = g at *
  have a0 := D2.c0
  have a1 := D2.c1
  have HFR := Lib.hid fr2
  have HR := Lib.hid hr
  clear D2 fr2 hr l0 hk1
  cases ok with
  | false =>
    go_wp2_with fail
    exact bodyPost_ret (v := .tuple #[.int .u32 0, .int .i64 0, .int .i64 2]) (by simp [results, Tryd.results38, go_sem]) rfl ⟨by rw [chpV_bad], HFR.out.to_below (Nat.le_refl _) (fun _ h => h.elim)⟩
  | true =>
    by_cases hAF : A = .F
    · have hd : (!decide (A = .F)) = false := by simp [hAF]
      have hb := bst_any A hA cw HCW.out W2
      rw [hd] at hb
      have hpost : chpV cw true A = .tuple #[.int .u32 0, .int .i64 0, .int .i64 8] := by rw [hAF]; exact chpV_none cw
      have HP := Lib.hid hpost
      clear hd hAF hpost
      go_wp2_with (first
        | (refine wpList_load_mid rfl 109 (.tmp 7) rfl g 0 rfl [.int .i64 (cw 0), .int .i64 (cw 1), .int .i64 (cw 2), .int .i64 (cw 3), .int .i64 (cw 4), .int .i64 (cw 5), .int .i64 (cw 6), .int .i64 (cw 7), .int .i64 (cw 8), .int .i64 (cw 9), .int .i64 (cw 10), .int .i64 (cw 11), .int .i64 (cw 12), .int .i64 (cw 13), .int .i64 (cw 14), .int .i64 (cw 15), .int .i64 (cw 16), .int .i64 (cw 17), .int .i64 (cw 18), .int .i64 (cw 19), .int .i64 (cw 20), .int .i64 (cw 21), .int .i64 (cw 22), .int .i64 (cw 23)] _ HR.out under_w rfl HI.out ?_)
        | (go_at_call 71
           refine hb.mono ?_
           rintro e w3 ⟨rfl, hb3⟩
           have HB3 := Lib.hid (HFR.out.below hb3)
           clear hb3 hb))
      exact bodyPost_ret (v := .tuple #[.int .u32 0, .int .i64 0, .int .i64 8]) (by simp [results, Tryd.results38, go_sem]) rfl ⟨by rw [HP.out], HB3.out.to_below (Nat.le_refl _) (fun _ h => h.elim)⟩
    · have hd : (!decide (A = .F)) = true := by simp [hAF]
      have hb := bst_any A hA cw HCW.out W2
      rw [hd] at hb
      have HP := Lib.hid (chpV_ok cw hAF)
      clear hd hAF
      generalize bstN cw A = bm at *
      go_wp2_with (first
        | (refine wpList_load_mid rfl 109 (.tmp 7) rfl g 0 rfl [.int .i64 (cw 0), .int .i64 (cw 1), .int .i64 (cw 2), .int .i64 (cw 3), .int .i64 (cw 4), .int .i64 (cw 5), .int .i64 (cw 6), .int .i64 (cw 7), .int .i64 (cw 8), .int .i64 (cw 9), .int .i64 (cw 10), .int .i64 (cw 11), .int .i64 (cw 12), .int .i64 (cw 13), .int .i64 (cw 14), .int .i64 (cw 15), .int .i64 (cw 16), .int .i64 (cw 17), .int .i64 (cw 18), .int .i64 (cw 19), .int .i64 (cw 20), .int .i64 (cw 21), .int .i64 (cw 22), .int .i64 (cw 23)] _ HR.out under_w rfl HI.out ?_)
        | (refine wpList_load_mid rfl 109 (.tmp 7) rfl g 0 rfl [.int .i64 (cw 0), .int .i64 (cw 1), .int .i64 (cw 2), .int .i64 (cw 3), .int .i64 (cw 4), .int .i64 (cw 5), .int .i64 (cw 6), .int .i64 (cw 7), .int .i64 (cw 8), .int .i64 (cw 9), .int .i64 (cw 10), .int .i64 (cw 11), .int .i64 (cw 12), .int .i64 (cw 13), .int .i64 (cw 14), .int .i64 (cw 15), .int .i64 (cw 16), .int .i64 (cw 17), .int .i64 (cw 18), .int .i64 (cw 19), .int .i64 (cw 20), .int .i64 (cw 21), .int .i64 (cw 22), .int .i64 (cw 23)] _ HR3.out under_w rfl HI.out ?_)
        | (go_at_call 71
           refine hb.mono ?_
           rintro e w3 ⟨rfl, hb3⟩
           have HB3 := Lib.hid (HFR.out.below hb3)
           have HR3 := Lib.hid (range_kept HR.out ((Fr.refl nob W2).below hb3) (fun h => h))
           clear hb3 hb)
        | (go_at_call 75
           refine (cost_any cw HCW.out bm HBM.out w3 (Nat.lt_of_lt_of_le hg HB3.out.size) (HT.out.below (HB3.out.to_below (Nat.le_refl _) (fun _ h => h.elim)) hg)).mono ?_
           rintro e w4 ⟨rfl, hb4⟩
           have HB4 := Lib.hid (HB3.out.to_below (Nat.le_refl _) (fun _ h => h.elim) |>.trans (hb4.mono HB3.out.size))
           clear hb4))
      exact bodyPost_ret (v := .tuple #[.int .u32 (bm : Int), .int .i64 (csL cw (ints (featL bm))), .int .i64 0]) (by simp [results, Tryd.results38, go_sem]) rfl ⟨by rw [HP.out], HB4.out⟩

theorem bstN_lt {cw : Nat → Int} (hw : ∀ j, -2147483648 ≤ cw j ∧ cw j ≤ 2147483648) {A : B} (hA : A.ok 0) : bstN cw A < 16777216 := by
  unfold bstN
  split
  · decide
  · exact (ofr_bound hw (usN_lt cw (k := 24) (Nat.le_refl _)) hA).2
theorem Cheapest_any (A : B) (hA : A.ok 0) (l : List Int) (hlen : l.length ≤ 1073741824) (v : Value) (w : World) (hv : SRow w v (l.map (Value.int .i64))) (hg : 0 < w.heap.size) (hT : Tab32 w) :
    Calls Tryd.prog 38 #[dval A, v] w fun e W' => e = .returned (chpV (wC l) (wOk l) A) ∧ Below w.heap.size w W' :=
  chp_in A hA (wC l) (wC_bound l) (wOk l) v w (by have := bstN_lt (wC_bound l) hA; omega) (fun W fr => weigh_any l hlen v W (hv.kept fr)) hg hT
end Go.Proofs.YtiainlccodnlmaaDoor
