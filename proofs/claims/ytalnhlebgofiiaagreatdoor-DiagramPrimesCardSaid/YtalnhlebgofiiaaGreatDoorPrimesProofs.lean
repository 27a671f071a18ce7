/- The law DiagramPrimes returns true for every script, and leaves it as it was: the tied card. The argument is any list of operations, opened to the script that it is; no condition but the row's own: the one listed variable (the library's table behind TrailingZeros32) reads as the program's text lays it, and the given tie ties it. -/
import Derived.Test.YtalnhlebgofiiaaGreatDoorBoths
import Derived.Test.YtalnhlebgofiiaaGreatDoorRefM
import Derived.Test.YtalnhlebgofiiaaGreatDoorWake
import Derived.Test.YtalnhlebgofiiaaGreatDoorRPa
import Derived.BigQuiet
import Derived.Test.YtalnhlebgofiiaaGreatDoorRows
import Derived.Test.YtalnhlebgofiiaaGreatDoorCards
import Derived.Test.YtalnhlebgofiiaaGreatDoorTie
import Derived.Test.YtalnhlebgofiiaaGreatDoorOpenO
import Derived.Test.YtalnhlebgofiiaaGreatDoorRPf
import Derived.ProofKit
import Derived.LaidMore
import Derived.OpenShut
import Derived.Stop.Joined
import Derived.SevenTiedAt
import Derived.Lib.LaidTab
namespace Go.Proofs.YtalnhlebgofiiaaGreatDoor
open Go.RowKit Go.Shelf
open Bd

set_option maxRecDepth 100000 in
set_option maxHeartbeats 4000000 in
/-- FEW: it returns; and if it says so, the script is short and its last set depends on few features. -/
theorem few_any (L : List OpD) (A : B) (hAe : (scr L).getD L.length .F = A) (hx : ∀ x ∈ L, x.Fits) (v : Value) (w : World) (hv : ORow w v L) (hg : 0 < w.heap.size) (hT : Tab32 w) :
    Calls Tryz.prog 17 #[v, .int .i64 5] w fun e w' => ∃ b : Bool, e = .returned (.bool b) ∧ (b = true → (L.length ≤ 12 ∧ ∀ x ∈ L, x.l.length ≤ 40) ∧ (featL (supR (li A))).length ≤ 5) ∧ Below w.heap.size w w' := by
  have hme := Mentioned_any L hx v w hv
  have HX := Lib.hid hx
  have HV := Lib.hid hv
  have HT := Lib.hid hT
  obtain ⟨a, cap, rfl⟩ := hv.form
  clear hv hx hT
  go_enter Tryz.func17, Tryz.ntmps17
  go_wp2_with fail
  refine hme.mono ?_
  clear hme
  rintro e w1 ⟨b, rfl, hb, hb1⟩
  have f1 := (Fr.refl nob w).below hb1
  clear hb1
  cases b with
  | false =>
    clear hb
    go_wp2_with fail
    go_ret
    exact ⟨false, rfl, (fun h => by cases h), f1.to_below (Nat.le_refl _) (fun _ h => h.elim)⟩
  | true =>
    have HB := Lib.hid (hb rfl)
    have hbo := Both_any L (by have := HB.out.1; omega) (fun x hm => ⟨HX.out x hm, Nat.le_trans (HB.out.2 x hm) (by decide)⟩) _ w1 (HV.out.kept f1) (Nat.lt_of_lt_of_le hg f1.size) (HT.out.below (f1.to_below (B := w.heap.size) (Nat.le_refl _) (fun _ h => h.elim)) hg)
    have hlen : (scr L).length = L.length + 1 := scr_len L
    have hok := ok_getD (ok_scr L) L.length
    rw [hAe] at hok
    obtain ⟨m, hm⟩ : ∃ m, L.length = m := ⟨_, rfl⟩
    rw [hm] at hAe hlen
    have hm13 : m ≤ 12 := by have := HB.out.1; omega
    clear hb hm
    generalize scr L = s at *
    have hml : m < s.length := by omega
    go_wp2_with fail
    refine hbo.mono ?_
    clear hbo
    rintro e w2 ⟨sv, tv, rfl, hS, hTr, hb2⟩
    have f2 := f1.below hb2
    clear hb2 f1
    obtain ⟨aS, capS, rfl⟩ := hS.form
    obtain ⟨gT, capT, rfl⟩ := hTr.form
    obtain ⟨qY, nY, cY, tY, mY, dY, VY, e0, e1, hsY⟩ := hTr.at hml
    rw [hAe] at hsY
    rw [hlen]
    have HSN := Lib.hid (supR_num hok hsY.2.1 (fun _ => rfl))
    have hQ := fun W h => RSupport_any VY A.ev (.agg #[.slice qY nY cY, .slice tY mY dY]) W h
    rw [HSN.out] at hQ
    have hF := Features_any (supR (li A)) (Nat.lt_trans (supR_lt24 hok) (by decide))
    obtain ⟨n, hn⟩ : ∃ n, (featL (supR (li A))).length = n := ⟨_, rfl⟩
    obtain ⟨sA, hsA⟩ : ∃ sA, supR (li A) = sA := ⟨_, rfl⟩
    have HN := Lib.hid hn
    rw [hsA] at hF hQ hn
    generalize featL sA = U at *
    have HU := Lib.hid hn
    have e1' : ((m + 1 : Nat) : Int) - 1 = (m : Int) := by omega
    clear hlen hS hTr hml hok hAe hsA hn
    go_wp2_with fail
    refine (hQ _ (hsY)).mono ?_
    rintro e w3 ⟨rfl, hb3⟩
    have f3 := f2.below hb3
    clear hQ hb3 hsY e0 e1 f2
    go_wp2_with fail
    refine (hF _).mono ?_
    rintro e w4 ⟨u, rfl, hu, hb4⟩
    have f4 := f3.below hb4
    obtain ⟨q4, c4, rfl⟩ := hu.form
    rw [List.length_map] at hu ⊢
    rw [HU.out]
    clear hb4 hu f3 hF
    go_wp2_with fail
    go_ret
    exact ⟨decide (n ≤ 5), by simp; omega, fun h => ⟨HB.out, by rw [HN.out]; exact of_decide_eq_true h⟩, f4.to_below (Nat.le_refl _) (fun _ h => h.elim)⟩

set_option maxRecDepth 100000 in
set_option maxHeartbeats 4000000 in
/-- the law, from contracts of the two lists -/
theorem primes_in (L : List OpD) (A : B) (hAe : (scr L).getD L.length .F = A) (hx : ∀ x ∈ L, x.Fits) (v : Value) (w : World) (hv : ORow w v L) (hg : 0 < w.heap.size) (hT : Tab32 w)
    (P : List (Nat × Nat)) (hP : (featL (supR (li A))).length ≤ 5 → P.length ≤ 531441)
    (cP : (featL (supR (li A))).length ≤ 5 → ∀ W, Fr nob w W → Calls Tryz.prog 18 #[dval A] W fun e w' => ∃ lv, e = .returned (.tuple #[lv, .int .i64 0]) ∧ PRow w' lv P ∧ Below W.heap.size W w')
    (cR : (featL (supR (li A))).length ≤ 5 → ∀ V va W, RSet W va V A.ev → Calls Tryz.prog 19 #[va] W fun e w' => (∃ lv, e = .returned (.tuple #[lv, .int .i64 0]) ∧ PRow w' lv P) ∧ Below W.heap.size W w') :
    Calls Tryz.prog 4 #[v] w fun e w' => e = .returned (.bool true) ∧ Below w.heap.size w w' := by
  have hme := few_any L A hAe hx v w hv hg hT
  have HX := Lib.hid hx
  have HV := Lib.hid hv
  have HT := Lib.hid hT
  have HCP := Lib.hid cP
  have HCR := Lib.hid cR
  obtain ⟨a, cap, rfl⟩ := hv.form
  clear hv hx hT cP cR
  go_enter Tryz.func4, Tryz.ntmps4
  go_wp2_with fail
  refine hme.mono ?_
  clear hme
  rintro e w1 ⟨b, rfl, hb, hb1⟩
  have f1 := (Fr.refl nob w).below hb1
  clear hb1
  cases b with
  | false =>
    clear hb
    go_wp2_with fail
    refine (wakes_any _).mono ?_
    rintro e w2 ⟨rfl, hb2⟩
    have f2 := f1.below hb2
    go_wp2_with fail
    go_ret
    exact ⟨rfl, f2.to_below (Nat.le_refl _) (fun _ h => h.elim)⟩
  | true =>
    obtain ⟨hB, h5⟩ := hb rfl
    have hbo := Both_any L (by have := hB.1; omega) (fun x hm => ⟨HX.out x hm, Nat.le_trans (hB.2 x hm) (by decide)⟩) _ w1 (HV.out.kept f1) (Nat.lt_of_lt_of_le hg f1.size) (HT.out.below (f1.to_below (B := w.heap.size) (Nat.le_refl _) (fun _ h => h.elim)) hg)
    have hlen : (scr L).length = L.length + 1 := scr_len L
    have hok := ok_getD (ok_scr L) L.length
    rw [hAe] at hok
    have hm13 : L.length ≤ 12 := hB.1
    have HCP2 := Lib.hid (HCP.out h5)
    have HCR2 := Lib.hid (HCR.out h5)
    replace hP := hP h5
    obtain ⟨m, hm⟩ : ∃ m, L.length = m := ⟨_, rfl⟩
    rw [hm] at hAe hlen hm13
    clear hb hm hB h5 HCP HCR
    generalize scr L = s at *
    have hml : m < s.length := by omega
    go_wp2_with fail
    refine hbo.mono ?_
    clear hbo
    rintro e w2 ⟨sv, tv, rfl, hS, hTr, hb2⟩
    have f2 := f1.below hb2
    clear hb2 f1
    obtain ⟨aS, capS, rfl⟩ := hS.form
    obtain ⟨gT, capT, rfl⟩ := hTr.form
    obtain ⟨gS, rfl, c0, c1⟩ := hS.at (getD_some hml)
    obtain ⟨qY, nY, cY, tY, mY, dY, VY, e0, e1, hsY⟩ := hTr.at hml
    rw [hAe] at c0 c1 hsY
    rw [hlen]
    have e1' : ((m + 1 : Nat) : Int) - 1 = (m : Int) := by omega
    have hQ := fun W h => HCR2.out VY (.agg #[.slice qY nY cY, .slice tY mY dY]) W h
    have HPL := Lib.hid hP
    clear hlen hS hTr hml hok hAe HCR2 hP
    go_wp2_with fail
    refine (HCP2.out _ f2).mono ?_
    rintro e w3 ⟨lv, rfl, hr3, hb3⟩
    have f3 := (Fr.refl nob w2).below hb3
    replace e0 := f3.cell' e0 (fun h => h)
    replace e1 := f3.cell' e1 (fun h => h)
    have hs3 := hsY.kept f3
    have ff3 := f2.trans f3 (fun _ _ h => h)
    clear hb3 f3 hsY c0 c1 f2 HCP2
    obtain ⟨a3, c3, rfl⟩ := hr3.form
    have HR3 := Lib.hid hr3
    clear hr3
    go_wp2_with fail
    refine (hQ _ hs3).mono ?_
    rintro e w4 ⟨⟨lw, rfl, hr4⟩, hb4⟩
    have f4 := (Fr.refl nob w3).below hb4
    have HA4 := Lib.hid (HR3.out.kept f4)
    have HB4 := Lib.hid hr4
    have HF4 := Lib.hid (ff3.trans f4 (fun _ _ h => h))
    obtain ⟨a4, c4, rfl⟩ := hr4.form
    clear hQ hb4 hs3 ff3 e0 e1 hr4 f4 HR3
    have hpl := HPL.out
    obtain ⟨np, hnp⟩ : ∃ np, P.length = np := ⟨_, rfl⟩
    have HNP := Lib.hid hnp
    rw [hnp] at hpl ⊢
    clear hnp
    go_wp2_with fail
    go_loopw [10] (fun kv wr => ∃ k : Nat, k ≤ np ∧ kv = .int .i64 (k : Int) ∧ Fr nob w4 wr) (fun kv _ => np - (intOf kv).toNat)
    case atStart => exact ⟨0, Nat.zero_le _, rfl, Fr.refl _ _⟩
    case round =>
      obtain ⟨k, hk, rfl, fwr⟩ := hrel
      by_cases hlt : k < np
      · have hlt' : k < P.length := by rw [HNP.out]; exact hlt
        have hd : P[k]? = some P[k] := List.getElem?_eq_getElem hlt'
        obtain ⟨b1, hb1, x0, x1⟩ := (by have h := (HA4.out.kept fwr); rw [HNP.out] at h; exact h.at hd)
        obtain ⟨b2, hb2, y0, y1⟩ := (by have h := (HB4.out.kept fwr); rw [HNP.out] at h; exact h.at hd)
        subst hb1
        subst hb2
        generalize P[k] = d at *
        have hk0 : (0 : Int) ≤ (k : Int) := Int.natCast_nonneg _
        have hk1 : (k : Int) < (np : Int) := by omega
        clear hd hlt'
        go_wp2_with fail
        go_quiet (fail)
        go_wp2_with fail
        exact ⟨⟨k + 1, by omega, by go_num, fwr.drewN _⟩, by simp [intOf]; omega⟩
      · obtain rfl : k = np := by omega
        go_wp2_with fail
        refine (wakes_any _).mono ?_
        rintro e w5 ⟨rfl, hb5⟩
        have f5 := (HF4.out.trans fwr (fun _ _ h => h)).below hb5
        clear hb5
        go_wp2_with fail
        go_ret
        exact ⟨rfl, f5.to_below (Nat.le_refl _) (fun _ h => h.elim)⟩
end Go.Proofs.YtalnhlebgofiiaaGreatDoor
namespace Go.Proofs.YtalnhlebgofiiaaGreatDoor
open Go.ChangeShapes Go.WideShapes Go.ChangeAt Go.RowKit Go.WideElems Go.Deep
open Bd

set_option maxHeartbeats 1000000 in
theorem primes_any (L : List OpD) (hfit : ∀ x ∈ L, x.Fits) (v : Value) (w : World) (hv : ORow w v L) (hg : 0 < w.heap.size) (hT : Tab32 w) :
    Calls Tryz.prog 4 #[v] w fun e w' => e = .returned (.bool true) ∧ Below w.heap.size w w' := by
  obtain ⟨A, hAe⟩ : ∃ A, (scr L).getD L.length .F = A := ⟨_, rfl⟩
  have hA := ok_getD (ok_scr L) L.length
  rw [hAe] at hA
  have hs24 := supR_lt24 hA
  obtain ⟨V, hVe⟩ : ∃ V, featL (supR (li A)) = V := ⟨_, rfl⟩
  have hris := rising_featL (supR (li A))
  rw [hVe] at hris
  refine primes_in L A hAe hfit v w hv hg hT (sortR (ptab V A.ev (2 ^ V.length))) ?cL ?cP ?cR
  case cL =>
    intro h5
    rw [hVe] at h5
    rw [sortR_len, (ptab_perm hris A.ev).length_eq]
    exact Nat.le_trans (primesOf_len V A.ev) (Nat.le_trans (Nat.pow_le_pow_right (by decide) (show V.length ≤ 12 by omega)) (by decide))
  case cP =>
    intro h5 W fr
    rw [hVe] at h5
    refine (Primes_any A hA W (hT.below (fr.to_below (B := w.heap.size) (Nat.le_refl _) (fun _ h => h.elim)) hg)).mono ?_
    rintro e w' ⟨h | h, hB⟩
    · obtain ⟨_, lv, rfl, hrow⟩ := h
      rw [hVe] at hrow
      refine ⟨lv, rfl, ?_, hB⟩
      rw [primes_one hris]
      exact prow_of hrow
    · rw [hVe] at h; omega
  case cR =>
    intro h5 VY va W hsa
    rw [hVe] at h5
    have e := supR_num hA hsa.2.1 (fun _ => rfl)
    exact RPrimes_any VY A.ev V (by rw [e]; exact hVe) (by omega) (by rw [e]; exact hs24) va W hsa

theorem primesOwn : ownKnob Tryz.prog.godebug = none := by kernel_rfl
theorem primesLaid : laidOutB Tryz.prog = true := by kernel_rfl
def tabName : String := Rows.diagramPrimesRow.named.headD ""
theorem tabG : Tryz.prog.globalNamed tabName = some 0 := by kernel_rfl
theorem tabT : (Tryz.prog.globals[0]?).map (·.type) = some 168 := by kernel_rfl
theorem tabE : Tryz.prog.cellsOf 5 = 1 := by kernel_rfl
theorem tabC : Tryz.prog.cellsOf 168 = 32 := by kernel_rfl

/-- what the condition gives the walk -/
theorem tab_of_laid {W : World} (h : laidMetH Tryz.prog Rows.diagramPrimesRow.laid W) : Tab32 W := by
  rw [MakeChecks.laidMetH_plain _ _ _ (by kernel_rfl)] at h
  have h' : laidMet Tryz.prog ((tabName, Go.Lib.tabData .u8 (Go.Lib.deBruijn32tab.map (fun (n : Nat) => ((n : Nat) : Int)))) :: []) W := h
  have ht := Go.Lib.tabIs_of_head tabG tabT Tryz.underlying168 Tryz.underlying5 tabE tabC h'
  intro j hj
  rw [ht.cell tabG j (by simpa using hj)]
  simp [List.getD, hj]

/-- The door's own heap meets the condition. -/
theorem primes_met (os : Os) (args : Array Value) : laidMetH Tryz.prog Rows.diagramPrimesRow.laid ((World.doorLaid Tryz.prog 400 os).forCall (fun _ _ => 0) ⟨#[], args, []⟩).memory :=
  laidMetH_of_parts3 (fuel := 8) (laidMet_of_run' 8 (by kernel_rfl) (by kernel_rfl)) (by kernel_rfl) (by kernel_rfl)

set_option maxRecDepth 100000 in
theorem primesLifted (os : Os) (started : os.Started) (H : Type) (enc : TypeId × Value → H) :
    ReturnsInHanded {} Tryz.checked os 4 .any (fun w args => (Rows.diagramPrimesSpec.pre enc Tryz.prog Tryz.f4 [] false w args ∧ laidMetH Tryz.prog Rows.diagramPrimesRow.laid w) ∧ sizedMet enc Tryz.prog Tryz.f4 (OpenSpec.ofChange Rows.diagramPrimesSpec) false w args)
      (Rows.diagramPrimesSpec.post enc Tryz.prog Tryz.f4 false true false false) := by
  refine returnsInHanded_of_change_and (C := Tryz.checked) (X := fun w _ => laidMetH Tryz.prog Rows.diagramPrimesRow.laid w) (fun _ _ _ hh h => h.of_heap hh) primesOwn started (by kernel_rfl) Tryz.func4
    (ChangeSpec.witness_shaped (enc := enc) (C := Tryz.checked) (os := os) (X := fun w _ => laidMetH Tryz.prog Rows.diagramPrimesRow.laid w) false (World.doorLaid Tryz.prog 400 os) #[.slice none 0 0] 8 rfl (World.shaped_of_RefB (by kernel_rfl) (by kernel_rfl)) (by kernel_rfl) (by kernel_rfl) (by kernel_rfl) (primes_met os _)) ?_
  intro W base args ds gs before hval0 hW _ _ hL _
  have hval : ∀ (j : Nat) t v, Tryz.f4.params[j]? = some t → args[j]? = some v → Value.okWide Tryz.prog W .any base t v := hval0
  have hW' := hW
  obtain ⟨p, q, hA0, hV, rfl, _, _⟩ := hW
  have hA : DataW.TrodAll enc Tryz.prog W 0 (fun _ => true) true Tryz.f4.params.toList args.toList ds p := hA0
  rw [Tryz.params4] at hA hval
  obtain ⟨v0, d0, rfl, rfl, h0⟩ := trodAll_one hA
  obtain ⟨rfl, rfl⟩ := trodVars_none hV
  obtain ⟨a0, len, cap, rfl⟩ := okWide_slice Tryz.underlying22 (hval 0 22 v0 rfl rfl)
  have h0k := h0
  obtain ⟨fuel, hf⟩ := h0
  clear hA0 hval0
  simp only [List.append_nil] at hW'
  have hlt : ∀ x ∈ p, x.block < W.heap.size := fun x hx => by simpa using hW'.lt x hx
  obtain ⟨v, L, hc, hrow, hfit⟩ := open_ops hf
  obtain rfl : Value.slice a0 len cap = v := by simpa [Value.cells] using hc
  have hT := tab_of_laid hL
  have hg : 0 < W.heap.size := lt_of_cell (hT 0 (by decide))
  refine (primes_any L hfit _ W hrow hg hT).mono fun e W' ⟨he, hB⟩ => ?_
  subst he
  refine ⟨_, rfl, _, _, _, [], p, [], hW', ?_, ?_, rfl, hB.frame _, fun h => by cases h⟩
  · exact trodAll_mk1 (shut_bool Tryz.underlying4 _)
  · exact trodAll_mk1 (Below.trod primesLaid (by kernel_rfl) (of_decide_eq_true (by kernel_rfl)) h0k hB hlt)

theorem primes_row : Rows.DiagramPrimesSaid :=
  OpenClaim.holds_of_wide 4 Tryz.f4 rfl rfl rfl rfl rfl rfl rfl ⟨rfl, rfl, rfl, rfl, rfl⟩ rfl rfl rfl rfl rfl (by kernel_rfl) Tryz.func4 (by kernel_rfl)
    (of_decide_eq_true (by kernel_rfl)) (by unfold Func.isWrapper; first | (rw [if_pos (by decide +kernel)]; kernel_rfl) | (rw [if_neg (by decide +kernel)]; exact ⟨rfl, rfl⟩))
    (fun os started H enc _ => primesLifted os started H enc)

/-- the law holds of every input, the listed variable tied to the program's text -/
theorem diagramPrimes_holds : Rows.DiagramPrimesCardSaid :=
  Claim7.holds_tied_plain_at .later [] [.data] true Rows.diagramPrimesCard.stood.harness false
    primes_row (fun _ h => by cases h) (by kernel_rfl) (fun _ h => by cases h) diagramPrimes_row_tie rfl ⟨rfl, rfl⟩ (by kernel_rfl) rfl
    (fun f fn hf hfn => by
      obtain rfl : f = 4 := Option.some.inj ((show Tryz.prog.funcNamed Rows.diagramPrimesRow.func = some 4 by kernel_rfl).symm.trans hf) |>.symm
      obtain rfl : fn = Tryz.f4 := (Option.some.inj (Tryz.func4.symm.trans hfn)).symm
      exact ⟨by kernel_rfl, fun j t ht => by
        rw [Tryz.params4] at ht
        have hm : t ∈ [22] := by simpa using Array.mem_of_getElem? ht
        have hall : ([22].all fun u => !Tryz.prog.wantsStandIn u) = true := by kernel_rfl
        exact (show Tryz.prog.wantsStandIn t = false by simpa using List.all_eq_true.1 hall t hm)⟩)
    (by kernel_rfl)
#print axioms diagramPrimes_holds
end Go.Proofs.YtalnhlebgofiiaaGreatDoor
