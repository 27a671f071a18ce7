import Derived.Test.YtpmnfpjpdpejgaaDoorBoths
import Derived.Test.YtpmnfpjpdpejgaaDoorRefP
import Derived.Test.YtpmnfpjpdpejgaaDoorWake
namespace Go.Proofs.YtpmnfpjpdpejgaaDoor
open Go.RowKit Go.Shelf
open Bd

set_option maxRecDepth 100000 in
set_option maxHeartbeats 4000000 in
theorem nodes_any (L : List OpD) (hx : ∀ x ∈ L, x.Fits) (v : Value) (w : World) (hv : ORow w v L) (hg : 0 < w.heap.size) (hT : Tab32 w) :
    Calls Tryd.prog 5 #[v] w fun e w' => e = .returned (.bool true) ∧ Below w.heap.size w w' := by
  have hme := Mentioned_any L hx v w hv
  have HX := Lib.hid hx
  have HV := Lib.hid hv
  have HT := Lib.hid hT
  obtain ⟨a, cap, rfl⟩ := hv.form
  clear hv hx hT
  go_enter Tryd.func5, Tryd.ntmps5
  go_wp2_with fail
  refine hme.mono ?_
  clear hme
  rintro e w1 ⟨b, rfl, hb, hb1⟩
  have f1 := (Fr.refl nob w).below hb1
  clear hb1
  cases b with
  | false =>
    clear hb
    go_wp2_with fail
    refine (wakes_any _).mono ?_
    rintro e w2 ⟨rfl, hb2⟩
    have f2 := f1.below hb2
    go_wp2_with fail
    go_ret
    exact ⟨rfl, f2.to_below (Nat.le_refl _) (fun _ h => h.elim)⟩
  | true =>
    obtain ⟨h12, h40⟩ := hb rfl
    have hbo := Both_any L (by omega) (fun x hm => ⟨HX.out x hm, Nat.le_trans (h40 x hm) (by decide)⟩) _ w1 (HV.out.kept f1) (Nat.lt_of_lt_of_le hg f1.size) (HT.out.below (f1.to_below (B := w.heap.size) (Nat.le_refl _) (fun _ h => h.elim)) hg)
    have hlen : (scr L).length = L.length + 1 := scr_len L
    have HOK := Lib.hid (ok_scr L)
    clear hb h40
    generalize scr L = s at *
    obtain ⟨m, hm⟩ : ∃ m, s.length = m + 1 := ⟨L.length, hlen⟩
    have hml : m < s.length := by omega
    have hm13 : m ≤ 12 := by omega
    go_wp2_with fail
    refine hbo.mono ?_
    clear hbo
    rintro e w2 ⟨sv, tv, rfl, hS, hTr, hb2⟩
    have f2 := f1.below hb2
    clear hb2 f1
    obtain ⟨aS, capS, rfl⟩ := hS.form
    obtain ⟨gT, capT, rfl⟩ := hTr.form
    obtain ⟨gS, rfl, c0, c1⟩ := hS.at (getD_some hml)
    obtain ⟨qY, nY, cY, tY, mY, dY, VY, e0, e1, hsY⟩ := hTr.at hml
    have hok := ok_getD HOK.out m
    rw [hm]
    clear hlen hS hTr hml
    generalize s.getD m .F = YX at *
    have hln := nodD_len YX
    have hsm := (small_li hok).1
    have hP := Nodes_any YX hok
    have hQ := fun W h => RNodes_any YX hok VY (.agg #[.slice qY nY cY, .slice tY mY dY]) W h
    have hE := fun va vb W => lsame_any (nodD YX) (by omega) va vb W
    have hZ := Size_any YX hok
    have hpl := place_lt (inn_li YX)
    rw [← hln] at hZ hsm hpl
    clear hln
    generalize nodD YX = ND at *
    have e1' : ((m + 1 : Nat) : Int) - 1 = (m : Int) := by omega
    go_wp2_with fail
    refine (hP _).mono ?_
    rintro e w3 ⟨v3, rfl, hL3, hb3⟩
    obtain ⟨aL, capL, rfl⟩ := hL3.form
    have f3 := (Fr.refl nob w2).below hb3
    replace e0 := f3.cell' e0 (fun h => h)
    replace e1 := f3.cell' e1 (fun h => h)
    replace c0 := f3.cell c0 (fun h => h)
    replace c1 := f3.cell c1 (fun h => h)
    have hs3 := hsY.kept f3
    have ff3 := f2.trans f3 (fun _ _ h => h)
    clear hP hb3 f3 hsY f2
    go_wp2_with fail
    refine (hQ _ hs3).mono ?_
    rintro e w4 ⟨v4, rfl, hR4, hb4⟩
    obtain ⟨aR, capR, rfl⟩ := hR4.form
    have f4 := (Fr.refl nob w3).below hb4
    replace c0 := f4.cell c0 (fun h => h)
    replace c1 := f4.cell c1 (fun h => h)
    have ff4 := ff3.trans f4 (fun _ _ h => h)
    have hL4 := hL3.kept f4
    have hE4 := hE _ _ _ hL4 hR4
    clear hQ hb4 hs3 ff3 e0 e1 f4 hL3 hL4 hR4 hE
    go_wp2_with fail
    refine hE4.mono ?_
    rintro e w5 ⟨rfl, hb5⟩
    have f5 := (Fr.refl nob w4).below hb5
    replace c0 := f5.cell c0 (fun h => h)
    replace c1 := f5.cell c1 (fun h => h)
    have ff5 := ff4.trans f5 (fun _ _ h => h)
    clear hE4 hb5 ff4 f5
    go_wp2_with fail
    refine (hZ _).mono ?_
    rintro e w6 ⟨rfl, hb6⟩
    have f6 := ff5.below hb6
    clear hZ hb6 ff5
    go_wp2_with fail
    refine (wakes_any _).mono ?_
    rintro e w7 ⟨rfl, hb7⟩
    have f7 := f6.below hb7
    clear hb7 f6
    go_wp2_with fail
    go_ret
    exact ⟨rfl, f7.to_below (Nat.le_refl _) (fun _ h => h.elim)⟩
end Go.Proofs.YtpmnfpjpdpejgaaDoor
