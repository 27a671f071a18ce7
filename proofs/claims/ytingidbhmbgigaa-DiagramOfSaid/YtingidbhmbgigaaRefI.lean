import Derived.Test.YtingidbhmbgigaaRefH
namespace Go.Proofs.Ytingidbhmbgigaa
open Go.RowKit
open Bd

theorem stored_far {W : World} {b o k : Nat} {x y v : Value} (h : W.cell? ⟨b, o, none⟩ = some v) (hne : b ≠ k) : ((W.setCell ⟨k, 0, none⟩ x).setCell ⟨k, 1, none⟩ y).cell? ⟨b, o, none⟩ = some v :=
  (fr_store1 _ k 1 y).cell ((fr_store1 W k 0 x).cell h (by simpa using hne)) (by simpa using hne)

set_option maxRecDepth 100000 in
set_option maxHeartbeats 4000000 in
theorem RIte_any (V W U : List Nat) (f h u : Cfg → Bool) (va vb vc : Value) (w : World) (hsa : RSet w va V f) (hsb : RSet w vb W h) (hsc : RSet w vc U u) : Calls Try.prog 22 #[va, vb, vc] w fun e w' => ∃ v' X, e = .returned v' ∧ RSet w' v' X (fun c => if f c then h c else u c) ∧ Below w.heap.size w w' := by
  obtain ⟨qa, na, ca, ua, ma, da, rfl⟩ := hsa.form
  obtain ⟨qb, nb, cb, ub, mb, db, rfl⟩ := hsb.form
  obtain ⟨qc, nc, cc, uc, mc, dc, rfl⟩ := hsc.form
  obtain ⟨a0, a1⟩ := two_cells' w (.slice qa na ca) (.slice ua ma da) 37
  obtain ⟨b0, b1⟩ := two_cells' (w.alloc (.cells #[.slice qa na ca, .slice ua ma da] 37)) (.slice qb nb cb) (.slice ub mb db) 37
  obtain ⟨c0, c1⟩ := two_cells' ((w.alloc (.cells #[.slice qa na ca, .slice ua ma da] 37)).alloc (.cells #[.slice qb nb cb, .slice ub mb db] 37)) (.slice qc nc cc) (.slice uc mc dc) 37
  obtain ⟨r0, r1⟩ := two_cells' (((w.alloc (.cells #[.slice qa na ca, .slice ua ma da] 37)).alloc (.cells #[.slice qb nb cb, .slice ub mb db] 37)).alloc (.cells #[.slice qc nc cc, .slice uc mc dc] 37)) (.slice none 0 0) (.slice none 0 0) 37
  replace a0 := cell_alloc_l (cell_alloc_l (cell_alloc_l a0 (.cells #[.slice qb nb cb, .slice ub mb db] 37)) (.cells #[.slice qc nc cc, .slice uc mc dc] 37)) (.cells #[.slice none 0 0, .slice none 0 0] 37)
  replace a1 := cell_alloc_l (cell_alloc_l (cell_alloc_l a1 (.cells #[.slice qb nb cb, .slice ub mb db] 37)) (.cells #[.slice qc nc cc, .slice uc mc dc] 37)) (.cells #[.slice none 0 0, .slice none 0 0] 37)
  replace b0 := cell_alloc_l (cell_alloc_l b0 (.cells #[.slice qc nc cc, .slice uc mc dc] 37)) (.cells #[.slice none 0 0, .slice none 0 0] 37)
  replace b1 := cell_alloc_l (cell_alloc_l b1 (.cells #[.slice qc nc cc, .slice uc mc dc] 37)) (.cells #[.slice none 0 0, .slice none 0 0] 37)
  replace c0 := cell_alloc_l c0 (.cells #[.slice none 0 0, .slice none 0 0] 37)
  replace c1 := cell_alloc_l c1 (.cells #[.slice none 0 0, .slice none 0 0] 37)
  have fr : Fr nob w ((((w.alloc (.cells #[.slice qa na ca, .slice ua ma da] 37)).alloc (.cells #[.slice qb nb cb, .slice ub mb db] 37)).alloc (.cells #[.slice qc nc cc, .slice uc mc dc] 37)).alloc (.cells #[.slice none 0 0, .slice none 0 0] 37)) := ((((Fr.refl nob w).alloc _).alloc _).alloc _).alloc _
  have f0 : ((((w.alloc (.cells #[.slice qa na ca, .slice ua ma da] 37)).alloc (.cells #[.slice qb nb cb, .slice ub mb db] 37)).alloc (.cells #[.slice qc nc cc, .slice uc mc dc] 37)).alloc (.cells #[.slice none 0 0, .slice none 0 0] 37)).frozen? ⟨w.heap.size + 1 + 1 + 1, 0, none⟩ = false := World.frozen?_alloc_at _ _ _ _ (by simp)
  have f1 : ((((w.alloc (.cells #[.slice qa na ca, .slice ua ma da] 37)).alloc (.cells #[.slice qb nb cb, .slice ub mb db] 37)).alloc (.cells #[.slice qc nc cc, .slice uc mc dc] 37)).alloc (.cells #[.slice none 0 0, .slice none 0 0] 37)).frozen? ⟨w.heap.size + 1 + 1 + 1, 1, none⟩ = false := World.frozen?_alloc_at _ _ _ _ (by simp)
  simp only [World.size_alloc] at a0 a1 b0 b1 c0 c1 r0 r1
  go_enter Try.func22, Try.ntmps22
  go_wp2_with fail
  generalize ((((w.alloc (.cells #[.slice qa na ca, .slice ua ma da] 37)).alloc (.cells #[.slice qb nb cb, .slice ub mb db] 37)).alloc (.cells #[.slice qc nc cc, .slice uc mc dc] 37)).alloc (.cells #[.slice none 0 0, .slice none 0 0] 37)) = W0 at *
  have hA : ∀ W, Fr nob W0 W → RSet W (.agg #[.slice qa na ca, .slice ua ma da]) V f := fun W h => (hsa.kept fr).kept h
  have hB : ∀ W', Fr nob W0 W' → RSet W' (.agg #[.slice qb nb cb, .slice ub mb db]) W h := fun W h => (hsb.kept fr).kept h
  have hC : ∀ W, Fr nob W0 W → RSet W (.agg #[.slice qc nc cc, .slice uc mc dc]) U u := fun W h => (hsc.kept fr).kept h
  have F : Fr nob W0 W0.drew := (Fr.refl nob W0).drew
  clear hsa hsb hsc
  go_region_held3 (fun w' => (w'.cell? ⟨w.heap.size, 0, none⟩ = some (.slice qa na ca) ∧ w'.cell? ⟨w.heap.size, 1, none⟩ = some (.slice ua ma da)) ∧ (w'.cell? ⟨w.heap.size + 1, 0, none⟩ = some (.slice qb nb cb) ∧ w'.cell? ⟨w.heap.size + 1, 1, none⟩ = some (.slice ub mb db)) ∧
      w'.cell? ⟨w.heap.size + 1 + 1, 0, none⟩ = some (.slice qc nc cc) ∧ w'.cell? ⟨w.heap.size + 1 + 1, 1, none⟩ = some (.slice uc mc dc))
    (first
      | (go_keep; done)
      | exact ⟨⟨F.cell' a0 (fun h => h), F.cell' a1 (fun h => h)⟩, ⟨F.cell' b0 (fun h => h), F.cell' b1 (fun h => h)⟩, F.cell' c0 (fun h => h), F.cell' c1 (fun h => h)⟩
      | (go_split_ands; exact ⟨⟨F.cell' a0 (fun h => h), F.cell' a1 (fun h => h)⟩, ⟨F.cell' b0 (fun h => h), F.cell' b1 (fun h => h)⟩, F.cell' c0 (fun h => h), F.cell' c1 (fun h => h)⟩)
      | (refine ⟨⟨stored_far (F.cell' a0 (fun h => h)) ?_, stored_far (F.cell' a1 (fun h => h)) ?_⟩, ⟨stored_far (F.cell' b0 (fun h => h)) ?_, stored_far (F.cell' b1 (fun h => h)) ?_⟩, stored_far (F.cell' c0 (fun h => h)) ?_, stored_far (F.cell' c1 (fun h => h)) ?_⟩
         all_goals omega))
    (first
            | (go_at_call 42
               (with_reducible refine (RAnd_any V W f h (.agg #[.slice qa na ca, .slice ua ma da]) (.agg #[.slice qb nb cb, .slice ub mb db]) _ (hA _ F) (hB _ F)).mono ?_)
               rintro e wP ⟨vP, rfl, hsP, hbP⟩
               have fP := (Fr.refl nob _).below hbP
               replace F := F.trans fP (fun _ _ h => h)
               try replace GN := GN.trans fP (fun _ _ h => h)
               try replace GQ := GQ.trans fP (fun _ _ h => h)
               have GP := Fr.refl nob wP
               have hP := fun W (h : Fr nob wP W) => hsP.kept h
               clear hbP fP hsP)
            | (go_at_call 43
               (with_reducible refine (RNot_any V f (.agg #[.slice qa na ca, .slice ua ma da]) _ (hA _ F)).mono ?_)
               rintro e wN ⟨vN, rfl, hsN, hbN⟩
               have fN := (Fr.refl nob _).below hbN
               replace F := F.trans fN (fun _ _ h => h)
               try replace GP := GP.trans fN (fun _ _ h => h)
               try replace GQ := GQ.trans fN (fun _ _ h => h)
               have GN := Fr.refl nob wN
               have hN := fun W (h : Fr nob wN W) => hsN.kept h
               clear hbN fN hsN)
            | (go_at_call 42
               (with_reducible refine (RAnd_any V U (fun c => !f c) u vN (.agg #[.slice qc nc cc, .slice uc mc dc]) _ (hN _ GN) (hC _ F)).mono ?_)
               rintro e wQ ⟨vQ, rfl, hsQ, hbQ⟩
               have fQ := (Fr.refl nob _).below hbQ
               replace F := F.trans fQ (fun _ _ h => h)
               try replace GP := GP.trans fQ (fun _ _ h => h)
               try replace GN := GN.trans fQ (fun _ _ h => h)
               have GQ := Fr.refl nob wQ
               have hQ := fun W (h : Fr nob wQ W) => hsQ.kept h
               clear hbQ fQ hsQ)
            | (go_at_call 41
               (with_reducible refine (ROr_any (joinL V W) (joinL V U) (fun c => opB 0 (f c) (h c)) (fun c => opB 0 (!f c) (u c)) vP vQ _ (hP _ GP) (hQ _ GQ)).mono ?_)
               rintro e wO ⟨vO, rfl, hsO, hbO⟩
               have fO := (Fr.refl nob _).below hbO
               replace F := F.trans fO (fun _ _ h => h)
               have GO := Fr.refl nob wO
               have hO := fun W (h : Fr nob wO W) => hsO.kept h
               obtain ⟨q1, m1, c1', q2, m2, c2', rfl⟩ := hsO.form
               have y0 := F.cell' r0 (fun h => h)
               have y1 := F.cell' r1 (fun h => h)
               have yf0 := (F.frozen (p := ⟨w.heap.size + 1 + 1 + 1, 0, none⟩) (lt_of_cell r0) (fun h => h)).trans f0
               have yf1 := (F.frozen (p := ⟨w.heap.size + 1 + 1 + 1, 1, none⟩) (lt_of_cell r1) (fun h => h)).trans f1))
  all_goals
    have hst := hsO.stored y0 (.slice q1 m1 c1') (.slice q2 m2 c2')
    have frA := fr.trans F (fun _ _ h => h)
    clear hsO hA hB hC
    go_wp2_with fail
    refine bodyPost_ret (v := .agg #[.slice q1 m1 c1', .slice q2 m2 c2']) (by simp [results, Try.results22, go_sem, y0, y1]) rfl ⟨_, _, rfl, hst.congr ?_, ?_⟩
    · intro c
      cases f c <;> simp [opB]
    · exact ((frA.set1 (by omega) _).set1 (by omega) _).to_below (Nat.le_refl _) (fun _ h => h.elim)

theorem dep_iff {f : Cfg → Bool} (i : Nat) : ¬ (∀ c, f (up c i true) = f (up c i false)) ↔ dep f i := by
  constructor
  · intro h
    exact Classical.byContradiction fun hn => h fun c => Classical.byContradiction fun hc => hn ⟨c, fun e => hc e.symm⟩
  · rintro ⟨c, hc⟩ h
    exact hc (h c).symm

/-- the features on which a set depends, of the first j -/
noncomputable def depL (f : Cfg → Bool) (V : List Nat) : List Nat := by classical exact V.filter fun i => decide (dep f i)
theorem depL_snoc (f : Cfg → Bool) (V : List Nat) (i : Nat) : (dep f i → depL f (V ++ [i]) = depL f V ++ [i]) ∧ (¬ dep f i → depL f (V ++ [i]) = depL f V) := by
  constructor <;> intro h <;> simp [depL, List.filter_append, h]
theorem mem_depL {f : Cfg → Bool} {V : List Nat} {i : Nat} : i ∈ depL f V ↔ i ∈ V ∧ dep f i := by simp [depL]
theorem depL_len (f : Cfg → Bool) (V : List Nat) : (depL f V).length ≤ V.length := List.length_filter_le _ _

set_option maxRecDepth 100000 in
set_option maxHeartbeats 4000000 in
theorem RSupport_any (V : List Nat) (f : Cfg → Bool) (va : Value) (w : World) (hsa : RSet w va V f) : Calls Try.prog 25 #[va] w fun e w' => e = .returned (.int .u32 (numN (depL f V) : Int)) ∧ Below w.heap.size w w' := by
  obtain ⟨i0, hi0, hz0, hz1, hz2⟩ := info_parts info_int
  obtain ⟨hV, hf, sa, ta, rfl, ha1, ha2⟩ := id hsa
  have hl := rising_len hV
  obtain ⟨qa, ca, rfl⟩ := ha1.form
  obtain ⟨ua, da, rfl⟩ := ha2.form
  rw [List.length_map] at *
  generalize (List.map Value.bool (tab V f)).length = ma at *
  obtain ⟨a0, a1⟩ := two_cells' w (.slice qa V.length ca) (.slice ua ma da) 37
  have fr : Fr nob w (w.alloc (.cells #[.slice qa V.length ca, .slice ua ma da] 37)) := (Fr.refl nob w).alloc _
  go_enter Try.func25, Try.ntmps25
  go_wp2_with fail
  generalize w.alloc (.cells #[.slice qa V.length ca, .slice ua ma da] 37) = W0 at *
  go_loopw [3, 4] (fun ov jv wr => ∃ j : Nat, j ≤ V.length ∧ jv = ik j ∧ wr.ownsRow W0.heap.size 3 1 ov (depL f (V.take j)).length ((depL f (V.take j)).map ik) ∧ Below W0.heap.size W0 wr) (fun _ jv _ => V.length - (intOf jv).toNat)
  case atStart => exact ⟨0, Nat.zero_le _, rfl, by simp [depL]; exact World.ownsRow_nil _ _ _ _, Below.refl _ _⟩
  case round =>
    obtain ⟨j, hj, rfl, hown, hB⟩ := hrel
    have frr := (Fr.refl nob W0).below hB
    replace a0 := frr.cell' a0 (fun h => h)
    replace a1 := frr.cell' a1 (fun h => h)
    by_cases hlt : j < V.length
    · have hc : (V.map ik)[j]? = some (ik V[j]) := by simp [hlt]
      obtain ⟨g, rfl, hcell⟩ := (ha1.kept (fr.trans frr (fun _ _ h => h))).at hc
      have hv24 : V[j] < 24 := hV.2 _ (List.getElem_mem hlt)
      have hsr := (hsa.kept fr).kept frr
      have hT := RWithOn_any V f V[j] hv24 (.agg #[.slice (some ⟨g, 0, none⟩) V.length ca, .slice ua ma da])
      have hF := RWithOff_any V f V[j] hv24 (.agg #[.slice (some ⟨g, 0, none⟩) V.length ca, .slice ua ma da])
      have hA : ∀ W, Fr nob wr W → RSet W (.agg #[.slice (some ⟨g, 0, none⟩) V.length ca, .slice ua ma da]) V f := fun W h => hsr.kept h
      have hdl := depL_len f (V.take j)
      rw [List.length_take] at hdl
      have htk : V.take (j + 1) = V.take j ++ [V[j]] := List.take_succ_eq_append_getElem hlt
      obtain ⟨hd1, hd2⟩ := depL_snoc f (V.take j) V[j]
      rw [← htk] at hd1 hd2
      have hdi := dep_iff (f := f) V[j]
      have hk1 : (j : Int) < (V.length : Int) := by omega
      have hk0 : (0 : Int) ≤ (j : Int) := by omega
      have F : Fr nob wr wr.drew := (Fr.refl nob wr).drew
      clear hsr htk hc
      generalize V[j] = x at *
      go_wp2_with fail
      go_region_held3 (fun w' => w'.cell? ⟨w.heap.size, 0, none⟩ = some (.slice (some ⟨g, 0, none⟩) V.length ca) ∧ w'.cell? ⟨w.heap.size, 1, none⟩ = some (.slice ua ma da) ∧ w'.cell? ⟨g, j, none⟩ = some (ik x))
        (first
          | (go_keep; done)
          | exact ⟨F.cell' a0 (fun h => h), F.cell' a1 (fun h => h), F.cell' hcell (fun h => h)⟩
          | (go_split_ands; exact ⟨F.cell' a0 (fun h => h), F.cell' a1 (fun h => h), F.cell' hcell (fun h => h)⟩))
        (first
          | (go_at_call 46
             (with_reducible refine (hT _ (hA _ F)).mono ?_)
             rintro e w5 ⟨v5, rfl, hs5, hb5⟩
             have f5 := (Fr.refl nob _).below hb5
             replace F := F.trans f5 (fun _ _ h => h)
             try replace G6 := G6.trans f5 (fun _ _ h => h)
             have G5 := Fr.refl nob w5
             have h5 := fun W (h : Fr nob w5 W) => hs5.kept h
             clear hb5 f5 hs5)
          | (go_at_call 46
             (with_reducible refine (hF _ (hA _ F)).mono ?_)
             rintro e w6 ⟨v6, rfl, hs6, hb6⟩
             have f6 := (Fr.refl nob _).below hb6
             replace F := F.trans f6 (fun _ _ h => h)
             try replace G5 := G5.trans f6 (fun _ _ h => h)
             have G6 := Fr.refl nob w6
             have h6 := fun W (h : Fr nob w6 W) => hs6.kept h
             clear hb6 f6 hs6)
          | (go_at_call 45
             (with_reducible refine (RSame_any V V (fun c => f (up c x true)) (fun c => f (up c x false)) v5 v6 _ (h5 _ G5) (h6 _ G6)).mono ?_)
             rintro e w7 ⟨bb, rfl, hbb, hb7⟩
             have f7 := (Fr.refl nob _).below hb7
             replace F := F.trans f7 (fun _ _ h => h)
             clear hb7 f7))
      all_goals
        have x0 := F.cell' a0 (fun h => h)
        have x1 := F.cell' a1 (fun h => h)
        have x2 := F.cell' hcell (fun h => h)
        have row7 := F.row hown (fun _ _ h => h)
        have hB7 : Below W0.heap.size W0 w7 := ((frr.trans F (fun _ _ h => h))).to_below (Nat.le_refl _) (fun _ h => h.elim)
        have z7 := hB7.size
        clear h5 h6 hT hF hA G5 G6 hown a0 a1 hcell hB
        rw [← hbb] at hdi
        cases bb with
        | true =>
          have hnd : ¬ dep f x := fun h => (hdi.2 h) rfl
          have e1 := hd2 hnd
          clear hd1 hd2 hdi hbb hnd F
          go_wp2_with fail
          refine ⟨⟨j + 1, by omega, by go_num, by rw [e1]; exact row7, hB7⟩, by simp [intOf]; omega⟩
        | false =>
          have hd : dep f x := hdi.1 (by simp)
          have e1 := hd1 hd
          have E1 := Lib.hid e1
          clear hd1 hd2 hdi hbb hd F e1
          go_wp2_with (at_builtin; refine wpList_append_own _ rfl _ _ 28 rfl W0.heap.size 3 i0 (.int .i64 0) 1 8 Try.underlying28 hi0 hz0 hz1 hz2 rfl (by decide) _ _ _ rfl (row7.alloc _) ⟨w7.heap.size, 0, none⟩ 1 1 [ik x] rfl rfl ?c1 ?c2 ?c3 ?c4 ?c5 ?_)
          case c1 => exact one_news _ _ _
          case c2 => simp [Value.oneCell']
          case c3 => unfold maxLen; omega
          case c4 => omega
          case c5 => simp; omega
          intro v' w8 hown' hgrow _
          have row' : w8.ownsRow W0.heap.size 3 1 v' (depL f (V.take (j + 1))).length ((depL f (V.take (j + 1))).map ik) := by
            rw [E1.out, List.map_append, List.length_append]; exact hown'
          have hB' : Below W0.heap.size W0 w8 := (hB7.alloc hB7.size _).grown hgrow (by simp; omega) (fun i hi => (row7.lt i hi).1)
          clear row7 hown' hgrow hB7
          go_wp2_with fail
          refine ⟨⟨j + 1, by omega, by go_num, row', hB'⟩, by simp [intOf]; omega⟩
    · obtain rfl : j = V.length := by omega
      rw [List.take_length] at hown
      have hnum := Number_any (depL f V) (fun v hv => hV.2 v (mem_depL.1 hv).1) (by have := depL_len f V; omega) _ wr (SRow.of_own hown)
      have hBw := (fr.trans frr (fun _ _ h => h)).to_below (Nat.le_refl _) (fun _ h => h.elim)
      clear hown
      go_wp2_with fail
      refine hnum.mono ?_
      rintro e w9 ⟨rfl, rfl⟩
      go_wp2_with fail
      go_ret
      exact ⟨rfl, hBw⟩
end Go.Proofs.Ytingidbhmbgigaa
