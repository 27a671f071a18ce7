import Derived.Test.YtnkcdkmfeokljaaDoorBoths
import Derived.Test.YtnkcdkmfeokljaaDoorRefN
import Derived.Test.YtnkcdkmfeokljaaDoorWake
namespace Go.Proofs.YtnkcdkmfeokljaaDoor
open Go.RowKit Go.Shelf
open Bd

set_option maxRecDepth 100000 in
set_option maxHeartbeats 4000000 in
theorem counts_any (L : List OpD) (hx : ∀ x ∈ L, x.Fits) (n : Int) (v : Value) (w : World) (hv : ORow w v L) (hg : 0 < w.heap.size) (hT : Tab32 w) :
    Calls Tryd.prog 12 #[v, .int .i64 n] w fun e w' => e = .returned (.bool true) ∧ Below w.heap.size w w' := by
  have hme := Mentioned_any L hx v w hv
  have HX := Lib.hid hx
  have HV := Lib.hid hv
  have HT := Lib.hid hT
  obtain ⟨a, cap, rfl⟩ := hv.form
  clear hv hx hT
  go_enter Tryd.func12, Tryd.ntmps12
  go_wp2_with fail
  refine hme.mono ?_
  clear hme
  rintro e w1 ⟨b, rfl, hb, hb1⟩
  have f1 := (Fr.refl nob w).below hb1
  clear hb1
  cases b with
  | false =>
    clear hb
    go_wp2_with fail
    refine (wakes_any _).mono ?_
    rintro e w2 ⟨rfl, hb2⟩
    have f2 := f1.below hb2
    go_wp2_with fail
    go_ret
    exact ⟨rfl, f2.to_below (Nat.le_refl _) (fun _ h => h.elim)⟩
  | true =>
    obtain ⟨h12, h40⟩ := hb rfl
    have hbo := Both_any L (by omega) (fun x hm => ⟨HX.out x hm, Nat.le_trans (h40 x hm) (by decide)⟩) _ w1 (HV.out.kept f1) (Nat.lt_of_lt_of_le hg f1.size) (HT.out.below (f1.to_below (B := w.heap.size) (Nat.le_refl _) (fun _ h => h.elim)) hg)
    have hlen : (scr L).length = L.length + 1 := scr_len L
    have HOK := Lib.hid (ok_scr L)
    clear hb h40
    generalize scr L = s at *
    obtain ⟨m, hm⟩ : ∃ m, s.length = m + 1 := ⟨L.length, hlen⟩
    have hml : m < s.length := by omega
    have hm13 : m ≤ 12 := by omega
    go_wp2_with fail
    refine hbo.mono ?_
    clear hbo
    rintro e w2 ⟨sv, tv, rfl, hS, hTr, hb2⟩
    have f2 := f1.below hb2
    clear hb2 f1
    obtain ⟨aS, capS, rfl⟩ := hS.form
    obtain ⟨gT, capT, rfl⟩ := hTr.form
    obtain ⟨gS, rfl, c0, c1⟩ := hS.at (getD_some hml)
    obtain ⟨qY, nY, cY, tY, mY, dY, VY, e0, e1, hsY⟩ := hTr.at hml
    have hok := ok_getD HOK.out m
    rw [hm]
    clear hlen hS hTr hml
    generalize s.getD m .F = YX at *
    have hP := Count_all YX hok n
    have hQ := fun W h => RCount_any YX hok VY (.agg #[.slice qY nY cY, .slice tY mY dY]) W h n
    have e1' : ((m + 1 : Nat) : Int) - 1 = (m : Int) := by omega
    go_wp2_with fail
    refine (hP _).mono ?_
    rintro e w3 ⟨rfl, hb3⟩
    have f3 := (Fr.refl nob w2).below hb3
    replace e0 := f3.cell' e0 (fun h => h)
    replace e1 := f3.cell' e1 (fun h => h)
    have hs3 := hsY.kept f3
    have ff3 := f2.trans f3 (fun _ _ h => h)
    clear hP hb3 f3 hsY c0 c1 f2
    go_wp2_with fail
    refine (hQ _ hs3).mono ?_
    rintro e w4 ⟨rfl, hb4⟩
    have f4 := ff3.below hb4
    clear hQ hb4 hs3 ff3 e0 e1
    generalize cntV YX n = cv at *
    generalize cntE YX n = ce at *
    go_wp2_with fail
    refine (wakes_any _).mono ?_
    rintro e w5 ⟨rfl, hb5⟩
    have f5 := f4.below hb5
    clear hb5 f4
    go_wp2_with fail
    go_ret
    exact ⟨rfl, f5.to_below (Nat.le_refl _) (fun _ h => h.elim)⟩
end Go.Proofs.YtnkcdkmfeokljaaDoor
