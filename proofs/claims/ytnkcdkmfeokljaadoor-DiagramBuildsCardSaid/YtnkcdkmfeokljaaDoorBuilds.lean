import Derived.Test.YtnkcdkmfeokljaaDoorBoths
import Derived.Test.YtnkcdkmfeokljaaDoorAlike
import Derived.Test.YtnkcdkmfeokljaaDoorWake
namespace Go.Proofs.YtnkcdkmfeokljaaDoor
open Go.RowKit Go.Shelf
open Bd

set_option maxRecDepth 100000 in
set_option maxHeartbeats 4000000 in
theorem builds_any (L : List OpD) (hx : ∀ x ∈ L, x.Fits) (v : Value) (w : World) (hv : ORow w v L) (hg : 0 < w.heap.size) (hT : Tab32 w) :
    Calls Tryd.prog 8 #[v] w fun e w' => e = .returned (.bool true) ∧ Below w.heap.size w w' := by
  have hme := Mentioned_any L hx v w hv
  have HX := Lib.hid hx
  have HV := Lib.hid hv
  have HT := Lib.hid hT
  obtain ⟨a, cap, rfl⟩ := hv.form
  clear hv hx hT
  go_enter Tryd.func8, Tryd.ntmps8
  go_wp2_with fail
  refine hme.mono ?_
  clear hme
  rintro e w1 ⟨b, rfl, hb, hb1⟩
  have f1 := (Fr.refl nob w).below hb1
  clear hb1
  cases b with
  | false =>
    clear hb
    go_wp2_with fail
    refine (wakes_any _).mono ?_
    rintro e w2 ⟨rfl, hb2⟩
    have f2 := f1.below hb2
    go_wp2_with fail
    go_ret
    exact ⟨rfl, f2.to_below (Nat.le_refl _) (fun _ h => h.elim)⟩
  | true =>
    obtain ⟨h12, h40⟩ := hb rfl
    have hbo := Both_any L (by omega) (fun x hm => ⟨HX.out x hm, Nat.le_trans (h40 x hm) (by decide)⟩) _ w1 (HV.out.kept f1) (Nat.lt_of_lt_of_le hg f1.size) (HT.out.below (f1.to_below (B := w.heap.size) (Nat.le_refl _) (fun _ h => h.elim)) hg)
    have hlen : (scr L).length = L.length + 1 := scr_len L
    have HOK := Lib.hid (ok_scr L)
    clear hb h40
    generalize scr L = s at *
    go_wp2_with fail
    refine hbo.mono ?_
    clear hbo
    rintro e w2 ⟨sv, tv, rfl, hS, hTr, hb2⟩
    have f2 := f1.below hb2
    clear hb2 f1
    obtain ⟨aS, capS, rfl⟩ := hS.form
    obtain ⟨gT, capT, rfl⟩ := hTr.form
    go_wp2_with fail
    go_loopw [6] (fun iv wr => ∃ n : Nat, n ≤ s.length ∧ iv = .int .i64 (n : Int) ∧ Fr nob w2 wr) (fun iv _ => s.length - (intOf iv).toNat)
    case atStart => exact ⟨0, Nat.zero_le _, rfl, Fr.refl _ _⟩
    case round =>
      obtain ⟨n, hn, rfl, Sfr⟩ := hrel
      by_cases hlt : n < s.length
      · have hlt' : (n : Int) < (s.length : Int) := by omega
        have hn0 : (0 : Int) ≤ (n : Int) := Int.natCast_nonneg _
        have hget : s[n]? = some (s.getD n .F) := getD_some hlt
        have hok := ok_getD HOK.out n
        obtain ⟨gS, rfl, c0, c1⟩ := (hS.kept Sfr).at hget
        obtain ⟨qY, nY, cY, tY, mY, dY, VY, e0, e1, hsY⟩ := (hTr.kept Sfr).at hlt
        generalize s.getD n .F = YX at *
        have hA := fun W h => Alike_any YX hok VY YX.ev (.agg #[.slice qY nY cY, .slice tY mY dY]) W h (fun _ => rfl)
        clear hget hok
        go_upto_region 7 with fail
        refine wp_region_grow' 9 37 (fun _ => #[]) [] (by kernel_rfl) (by kernel_rfl) rfl rfl (by intro T h; cases h) ?_
        simp only [List.take_succ_cons, List.take_zero]
        refine grow_step (v := ?v0) rfl rfl ?a0 ?b0
        case a0 =>
          intro w' hw'
          clear hw'
          refine growAt_value ?_
          go_simp
          rfl
        simp only [Act.put, List.setIfInBounds_toArray, List.set_cons_zero, List.set_cons_succ]
        refine grow_step (v := ?v1) rfl rfl ?a1 ?b1
        case a1 =>
          intro w' hw'
          clear hw'
          refine growAt_value ?_
          go_simp
          rfl
        simp only [Act.put, List.setIfInBounds_toArray, List.set_cons_zero, List.set_cons_succ]
        refine grow_step (v := ?v2) rfl rfl ?a2 ?b2
        case a2 =>
          intro w' hw'
          clear hw'
          refine growAt_value ?_
          go_simp
          rfl
        simp only [Act.put, List.setIfInBounds_toArray, List.set_cons_zero, List.set_cons_succ]
        refine grow_step (v := ?v3) rfl rfl ?a3 ?b3
        case a3 =>
          intro w' hw'
          have y0 := hw'.cell' c0 (fun h => h)
          have y1 := hw'.cell' c1 (fun h => h)
          clear hw'
          refine growAt_value ?_
          go_simp
          rfl
        simp only [Act.put, List.setIfInBounds_toArray, List.set_cons_zero, List.set_cons_succ]
        refine grow_step (v := ?v4) rfl rfl ?a4 ?b4
        case a4 =>
          intro w' hw'
          clear hw'
          refine growAt_value ?_
          go_simp
          rfl
        simp only [Act.put, List.setIfInBounds_toArray, List.set_cons_zero, List.set_cons_succ]
        refine grow_step (v := ?v5) rfl rfl ?a5 ?b5
        case a5 =>
          intro w' hw'
          clear hw'
          refine growAt_value ?_
          go_simp
          rfl
        simp only [Act.put, List.setIfInBounds_toArray, List.set_cons_zero, List.set_cons_succ]
        refine grow_step (v := ?v6) rfl rfl ?a6 ?b6
        case a6 =>
          intro w' hw'
          clear hw'
          refine growAt_value ?_
          go_simp
          rfl
        simp only [Act.put, List.setIfInBounds_toArray, List.set_cons_zero, List.set_cons_succ]
        refine grow_step (v := ?v7) rfl rfl ?a7 ?b7
        case a7 =>
          intro w' hw'
          have y0 := hw'.cell' e0 (fun h => h)
          have y1 := hw'.cell' e1 (fun h => h)
          clear hw'
          refine growAt_value ?_
          go_simp
          rfl
        simp only [Act.put, List.setIfInBounds_toArray, List.set_cons_zero, List.set_cons_succ]
        refine grow_step (v := .bool true) rfl rfl ?a8 ?b8
        case a8 =>
          intro w' hw'
          refine growAt_call ?_ ((hA w' (hsY.kept hw')).mono fun e w'' ⟨he, hb⟩ => ⟨he, (Fr.refl nob _).below hb⟩)
          go_simp
        simp only [Act.put, List.setIfInBounds_toArray, List.set_cons_zero, List.set_cons_succ]
        refine grow_nil ?_
        intro w5 listed p5 _ _
        have f5 := Sfr.trans p5 (fun _ _ h => h)
        clear hA hsY c0 c1 e0 e1 p5 Sfr
        go_wp2_with fail
        refine ⟨⟨n + 1, hlt, by go_num, f5⟩, by simp [intOf]; omega⟩
      · obtain rfl : n = s.length := by omega
        have f3 := f2.trans Sfr (fun _ _ h => h)
        clear f2 Sfr hS hTr
        go_wp2_with fail
        refine (wakes_any _).mono ?_
        rintro e w4 ⟨rfl, hb4⟩
        have f4 := f3.below hb4
        clear hb4 f3
        go_wp2_with fail
        go_ret
        exact ⟨rfl, f4.to_below (Nat.le_refl _) (fun _ h => h.elim)⟩
end Go.Proofs.YtnkcdkmfeokljaaDoor
