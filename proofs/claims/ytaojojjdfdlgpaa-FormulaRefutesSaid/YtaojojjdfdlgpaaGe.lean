import Derived.Test.YtaojojjdfdlgpaaGa
import Derived.Test.YtaojojjdfdlgpaaDw
import Derived.Test.YtaojojjdfdlgpaaDu
import Derived.Test.YtaojojjdfdlgpaaFc
import Derived.Test.YtaojojjdfdlgpaaQf
import Derived.Laws.BitsLemmas
namespace Go.Proofs.Ytaojojjdfdlgpaa
open Go.RowKit Uq

/-! blame -/
def Bl (w : World) (b : Nat) (bl : Int → Bool) : Prop := ∀ i : Nat, i < 49 → w.cell? ⟨b, i, none⟩ = some (.bool (bl ((i : Int) - 24))) ∧ w.frozen? ⟨b, i, none⟩ = false
theorem Bl.kept {S : Nat → Prop} {w w' : World} {b : Nat} {bl : Int → Bool} (h : Bl w b bl) (f : Fr S w w') (hS : ¬ S b) : Bl w' b bl := fun i hi =>
  ⟨f.cell (h i hi).1 hS, (f.frozen (p := ⟨b, i, none⟩) (lt_of_cell (h i hi).1) hS).trans (h i hi).2⟩
theorem Bl.set {w : World} {b : Nat} {bl : Int → Bool} (h : Bl w b bl) {l : Int} {p : Nat} (hp : l + 24 = (p : Int)) : Bl (w.setCell ⟨b, p, none⟩ (.bool true)) b (fun z => bl z || z == l) := fun i hi => by
  refine ⟨?_, (frozen_setCell _ _ _ _).trans (h i hi).2⟩
  by_cases e : i = p
  · subst e
    rw [World.cell?_setCell_same' _ _ _ (by rw [(h i hi).1]; rfl)]
    rw [show (i : Int) - 24 = l by omega]; simp
  · have hne : (⟨b, p, none⟩ : Addr) ≠ ⟨b, i, none⟩ := fun e' => e (by injection e' with _ e2 _; exact e2.symm)
    rw [World.cell?_setCell_other (h := hne), (h i hi).1]
    have : ((i : Int) - 24 == l) = false := by simp; omega
    show some (Value.bool (bl ((i : Int) - 24))) = some (Value.bool (bl ((i : Int) - 24) || ((i : Int) - 24 == l)))
    rw [this, Bool.or_false]
theorem Bl.of_alloc (w : World) (A : Array Value) (T : TypeId) (h : A = Array.replicate 49 (.bool false)) : Bl (w.alloc (.cells A T)) w.heap.size (fun _ => false) := fun i hi => by
  subst h
  have hb := heap_alloc_new w (.cells (Array.replicate 49 (.bool false)) T)
  refine ⟨?_, ?_⟩
  · rw [Lib.cell_of_heap hb]
    simp [hi]
  · unfold World.frozen?
    rw [hb]; rfl
theorem markL_nil (bl : Int → Bool) : markL bl [] = bl := by
  funext z; simp [markL]
theorem markL_take {bl : Int → Bool} {c : List Int} {k : Nat} {y : Int} (h : c[k]? = some y) : markL bl (c.take (k + 1)) = fun z => markL bl (c.take k) z || z == -y := by
  funext z
  show (bl z || (c.take (k + 1)).contains (-z)) = ((bl z || (c.take k).contains (-z)) || z == -y)
  have e3 : (c.take (k + 1)).contains (-z) = ((c.take k).contains (-z) || z == -y) := by
    have e : (-z = y) ↔ (z = -y) := by omega
    rw [List.take_add_one, h, Bool.eq_iff_iff]
    simp [e]
  rw [e3, Bool.or_assoc]
theorem CB.ints {w : World} {g : Nat} {sh : Nat → Nat × Nat} {l : List Int} (h : CB w g sh l) {S : Nat → Prop} (hS : S g) : IntsO w S l (clV sh g) :=
  ⟨_, _, by unfold clV; rw [← h.len], (fun e => by cases e), fun _ => ⟨g, 0, rfl, hS, fun j x hj => by rw [Nat.zero_add]; exact h.cell j x hj⟩⟩
theorem Dm.conf {w : World} {Z : Nat → Prop} {x d : Nat} {sh : Nat → Nat × Nat} {G : Nat → Prop} {s : DS} {c : Nat → Value} (h : Dm w Z x d sh G s c) : IntsO w G (conQ s) (c 150) := by
  rw [h.sm.cf]
  unfold conQ
  cases hq : s.conflict with
  | none => exact ⟨none, 0, rfl, fun _ => rfl, fun e => absurd rfl e⟩
  | some g => exact (h.hp.cls g (h.sm.cG g hq)).1.ints (h.sm.cG g hq)
theorem blP_get {s : DS} {D : List Int} {m : Nat} {x : Int} (h : D[m]? = some x) (bl : Int → Bool) (c : List Int) (q : Nat) : blP s (D.take (m + 1)).reverse bl c q = blP s (x :: (D.take m).reverse) bl c q := by
  rw [List.take_add_one, h, List.reverse_append]; rfl
set_option maxRecDepth 100000 in
set_option maxHeartbeats 4000000 in
theorem blame_dm (Z : Nat → Prop) (d sb : Nat) (sh : Nat → Nat × Nat) (G : Nat → Prop) (s : DS) (c : Nat → Value) (w : World) (h : Dm w Z 100 d sh G s c) (hs : w.cell? ⟨sb, 0, none⟩ = some (.pointer (some ⟨d, 0, none⟩))) (hT : Tra s) (hk : s.known ≤ s.trail.length)
    (hsh : ∀ g, G g → (sh g).1 ≤ 1000) (hCL : ∀ y ∈ conQ s, Ltr y) (hRL : ∀ x ∈ s.trail.drop s.known, ∀ g, s.reason x = some g → ∀ y ∈ s.cl g, Ltr y) {R : List Int × Nat} (hR : blP s (s.trail.drop s.known).reverse (markL (fun _ => false) (conQ s)) [] 0 = R) :
    Calls Try.prog 107 #[.pointer (some ⟨sb, 0, none⟩)] w fun e w' => ∃ a cp, e = .returned (.tuple #[.slice a R.1.length cp, .int .i64 (R.2 : Int)]) ∧ Outs (w.heap.size + 1) R.1.length R.1 (.slice a R.1.length cp) w' ∧ Fr nob w w' := by
  obtain ⟨ca, ccp, hcv⟩ := h.conf.form
  have q0 : (conQ s).length ≤ 1000 := by
    unfold conQ
    cases hq : s.conflict with
    | none => exact Nat.zero_le _
    | some g =>
      have h1 := hsh g (h.sm.cG g hq)
      rw [(h.hp.cls g (h.sm.cG g hq)).1.len] at h1
      exact h1
  have hCI := h.conf
  obtain ⟨CN, hCN⟩ : ∃ CN, (conQ s).length = CN := ⟨_, rfl⟩
  obtain ⟨CC, hCC⟩ : ∃ CC, conQ s = CC := ⟨_, rfl⟩
  rw [hcv] at hCI
  rw [hCN] at hcv hCI q0
  rw [hCC] at hCN hCI hCL hR
  obtain ⟨KN, hKN⟩ : ∃ KN, s.known = KN := ⟨_, rfl⟩
  obtain ⟨TL, hTL⟩ : ∃ TL, s.trail.length = TL := ⟨_, rfl⟩
  have hl48 := lits_le hT.nodup hT.lits
  obtain ⟨D, hD⟩ : ∃ D, s.trail.drop s.known = D := ⟨_, rfl⟩
  have hDl : D.length = TL - KN := by rw [← hD, List.length_drop, hTL, hKN]
  have hDg : ∀ m x, D[m]? = some x → s.trail[KN + m]? = some x := fun m x hm => by rw [← hD, List.getElem?_drop, hKN] at hm; exact hm
  obtain ⟨ta, tcp, h147, htc⟩ := h.trail (.inr rfl)
  rw [hTL] at h147 hl48 hk
  rw [hKN] at hk
  rw [hD] at hRL hR
  have h149 := h.sm.kn
  rw [hKN] at h149
  have HD := Lib.hid h
  have HS := Lib.hid hs
  have HLT := Lib.hid hT.lits
  have HSH := Lib.hid hsh
  have HCL := Lib.hid hCL
  have HCI := Lib.hid hCI
  have HCN := Lib.hid hCN
  have HRL := Lib.hid hRL
  have HR := Lib.hid hR
  have HDL := Lib.hid hDl
  have HDG := Lib.hid hDg
  have HTC := Lib.hid htc
  have H147 := Lib.hid h147
  have H149 := Lib.hid h149
  have HCV := Lib.hid hcv
  have HKN := Lib.hid hKN
  clear h hs hT hsh hCL hCI hCN hCC hRL hR hDl hDg htc h147 h149 hcv hD hKN hTL
  go_enter Try.func107, Try.ntmps107
  go_upto_region 2 with fail
  generalize hg : w.alloc _ = W
  change w.alloc (.cells (Array.replicate 49 (.bool false)) 96) = W at hg
  have hB0 := Bl.of_alloc w (Array.replicate 49 (.bool false)) 96 rfl
  have hA0 := (Fr.refl nob w).alloc (.cells (Array.replicate 49 (.bool false)) 96)
  obtain ⟨BB, hBB⟩ : ∃ BB, w.heap.size = BB := ⟨_, rfl⟩
  have hls := lt_of_cell HS.out
  have hsz : (w.alloc (.cells (Array.replicate 49 (.bool false)) 96)).heap.size = BB + 1 := by rw [← hBB]; simp
  rw [hBB] at hB0 ⊢
  have hld : d < BB := by rw [← hBB]; exact lt_of_cell (HD.out.hp.mem 0 (by decide)).1
  have HBB := Lib.hid hBB
  have HSZ := Lib.hid hsz
  have HLD := Lib.hid hld
  rw [hg] at hB0 hA0 HSZ
  have HB0 := Lib.hid hB0
  have HA0 := Lib.hid hA0
  have s1 := hA0.cell HS.out (fun h => h)
  have hDW := HD.out.nob hA0
  have c0 := (hDW.hp.mem 150 (by decide)).1
  have c9 := (hDW.hp.mem 149 (by decide)).1
  have c7 := (hDW.hp.mem 147 (by decide)).1
  rw [HCV.out] at c0
  rw [H149.out] at c9
  rw [H147.out] at c7
  clear hg hA0 hB0 hDW hBB hsz hld
  go_wp2_with fail
  go_loopg [20] CN (fun m iv wr => ∃ k : Nat, k + m = CN ∧ iv = .int .i64 (k : Int) ∧ Bl wr BB (markL (fun _ => false) (CC.take k)) ∧ Fr nob w wr)
  case atStart => exact ⟨0, by omega, rfl, by rw [List.take_zero, markL_nil]; exact HB0.out, HA0.out⟩
  case round =>
    clear HB0 HA0 HSZ c0 c9 c7 s1
    obtain ⟨k, hkm, rfl, hbl, hF⟩ := hrel
    have HBL := Lib.hid hbl
    have HF := Lib.hid hF
    have hDr := HD.out.nob hF
    have q5 : (0 : Int) ≤ (k : Int) := Int.natCast_nonneg _
    have s1 := hF.cell HS.out (fun h => h)
    have c9 := (hDr.hp.mem 149 (by decide)).1
    have c7 := (hDr.hp.mem 147 (by decide)).1
    rw [H149.out] at c9
    rw [H147.out] at c7
    clear hbl hF hDr
    cases gk with
    | zero =>
      obtain rfl : k = CN := by omega
      have hbl0 := HBL.out
      rw [List.take_of_length_le (by rw [HCN.out]; exact Nat.le_refl _)] at hbl0
      have HBL0 := Lib.hid hbl0
      clear hbl0 HBL
      go_wp2_with fail
      go_loopg [2, 3, 7] (TL - KN) (fun m cv lv kv wr => ∃ (K nc q : Nat) (bl : Int → Bool) (cs : List Int), K = KN + m ∧ K ≤ TL ∧ nc + m ≤ 48 ∧ kv = .int .i64 ((K : Int) - 1) ∧ lv = .int .i64 (q : Int) ∧ (∃ a cp, cv = .slice a nc cp) ∧ Outs (BB + 1) nc cs cv wr ∧ Bl wr BB bl ∧ blP s (D.take m).reverse bl cs q = R ∧ Fr nob w wr)
      case atStart => exact ⟨TL, 0, 0, _, [], by omega, Nat.le_refl _, by omega, rfl, rfl, ⟨none, 0, rfl⟩, ⟨rfl, World.ownsRow_nil _ _ _ _⟩, HBL0.out, by rw [List.take_of_length_le (by rw [HDL.out]; exact Nat.le_refl _)]; exact HR.out, HF.out⟩
      case round =>
        clear HBL0 HF HR c9 c7 s1
        obtain ⟨K, nc, q, bl, cs, hK, hKT, hnc, rfl, rfl, ⟨oa, ocp, rfl⟩, hO, hbl, hR, hF⟩ := hrel
        have HBL := Lib.hid hbl
        have HF := Lib.hid hF
        have HO := Lib.hid hO
        have HR := Lib.hid hR
        have hDr := HD.out.nob hF
        have s1 := hF.cell HS.out (fun h => h)
        have c9 := (hDr.hp.mem 149 (by decide)).1
        have c7 := (hDr.hp.mem 147 (by decide)).1
        rw [H149.out] at c9
        rw [H147.out] at c7
        have HDR := Lib.hid hDr
        clear hbl hF hDr hO hR
        cases gk with
        | zero =>
          have q6 : ¬ (KN : Int) ≤ (K : Int) - 1 := by omega
          have hres : R = (cs, q) := by rw [← HR.out]; rfl
          subst hres
          have hnl := HO.out.1
          have HNL := Lib.hid hnl
          clear hnl
          go_wp2_with fail
          go_ret2
          rw [HNL.out]
          exact ⟨oa, ocp, rfl, by rw [HBB.out]; exact HO.out, HF.out⟩
        | succ m =>
          obtain ⟨K', rfl⟩ : ∃ K', K = K' + 1 := ⟨KN + m, by omega⟩
          have hKc : ((K' + 1 : Nat) : Int) - 1 = (K' : Int) := by omega
          rw [hKc]
          have q6 : (KN : Int) ≤ (K' : Int) := by omega
          have q7 : (0 : Int) ≤ (K' : Int) := Int.natCast_nonneg _
          have q8 : (K' : Int) < (TL : Int) := by omega
          have hml : m < D.length := by rw [HDL.out]; omega
          have hmt : D[m]? = some D[m] := List.getElem?_eq_getElem hml
          have hmem : D[m] ∈ D := List.getElem_mem hml
          generalize D[m] = x at hmt hmem
          have hxt := HDG.out m x hmt
          rw [show KN + m = K' by omega] at hxt
          have hx := HLT.out x (List.mem_of_getElem? hxt)
          obtain ⟨gt, rfl, _, htg⟩ := HTC.out (fun e => by rw [e] at hxt; simp at hxt)
          have ct := HF.out.cell (htg K' x hxt) (fun h => h)
          obtain ⟨p, hp1, hp2⟩ := ltr_at hx
          have hpl : ∀ w, Calls Try.prog 57 #[.int .i64 x] w fun e w' => e = .returned (.int .i64 (p : Int)) ∧ w' = w := fun w => (place_any x (by unfold Ltr at hx; omega) w).mono (fun _ _ h => ⟨by rw [h.1, hp1], h.2.symm⟩)
          have p1 : (0 : Int) ≤ (p : Int) := Int.natCast_nonneg _
          have p2 : (p : Int) < 49 := by omega
          have y1 : -24 ≤ x := by unfold Ltr at hx; omega
          have y2 : x ≤ 24 := by unfold Ltr at hx; omega
          have cr := (HDR.out.hp.mem (49 + p) (by omega)).1
          rw [HDR.out.sm.rs p hp2, show (p : Int) - 24 = x by omega] at cr
          have hRx := HR.out
          rw [blP_get hmt, blP] at hRx
          have HX := Lib.hid hx
          have HP := Lib.hid hp1
          have HP2 := Lib.hid hp2
          have HK := Lib.hid hK
          clear hml hmt hxt hx htg hp1 hp2 HR HTC hK hKc
          cases hre : s.reason x with
          | none =>
            rw [hre] at cr hRx
            change wr.cell? _ = some (.slice none 0 0) at cr
            simp only at hRx
            have HRX := Lib.hid hRx
            clear hRx hmem hre
            go_wp2_with fail
            go_quiet (first | (go_at_call 57; exact Calls.quiet_of_same (hpl _)))
            all_goals (
              have HF2 := Lib.hid (HF.out.drewN nq)
              have hW2 : Fr nob wr (wr.drewN nq) := (Fr.refl nob wr).drewN nq
              have HBL2 := Lib.hid (HBL.out.kept hW2 (fun h => h))
              have HO2 : Hid (Outs (BB + 1) nc cs (.slice oa nc ocp) (wr.drewN nq)) := Lib.hid ⟨HO.out.1, hW2.row HO.out.2 (fun _ _ h => h)⟩
              clear hW2 s1 c9 c7 ct cr HDR HF HBL HO
              generalize wr.drewN nq = w2 at *
              obtain ⟨cb, _⟩ := HBL2.out p HP2.out
              rw [show (p : Int) - 24 = x by have := HP.out; omega] at cb
              have hnl := HO2.out.1
              have HNL := Lib.hid hnl
              have htl : (D.take m).reverse.length = m := by have := HK.out; rw [List.length_reverse, List.length_take, HDL.out]; omega
              have hRx := HRX.out
              rw [htl, HKN.out, show KN + m = K' by have := HK.out; omega] at hRx
              cases hb : bl x with
              | false =>
                rw [hb] at cb hRx
                simp only [Bool.false_eq_true, if_false] at hRx
                rw [hnl] at hRx
                clear hnl htl hb HRX
                by_cases e2 : nc < 2
                · have q9 : (nc : Int) < 2 := by omega
                  rw [if_pos e2] at hRx
                  have HRX := Lib.hid hRx
                  clear hRx e2
                  go_wp2_with fail
                  refine (hpl _).mono ?_
                  rintro e w3 ⟨rfl, rfl⟩
                  go_wp2_with fail
                  refine (hpl _).mono ?_
                  rintro e w3 ⟨rfl, rfl⟩
                  go_wp2_with fail
                  go_roundg m
                  case measure => omega
                  case rel => exact ⟨K', nc, K', bl, cs, by have := HK.out; omega, by omega, by omega, rfl, rfl, ⟨_, _, rfl⟩, HO2.out, HBL2.out, HRX.out, HF2.out⟩
                · have q9 : ¬ (nc : Int) < 2 := by omega
                  rw [if_neg e2] at hRx
                  have HRX := Lib.hid hRx
                  clear hRx e2
                  go_wp2_with fail
                  refine (hpl _).mono ?_
                  rintro e w3 ⟨rfl, rfl⟩
                  go_wp2_with fail
                  refine (hpl _).mono ?_
                  rintro e w3 ⟨rfl, rfl⟩
                  go_wp2_with fail
                  go_roundg m
                  case measure => omega
                  case rel => exact ⟨K', nc, q, bl, cs, by have := HK.out; omega, by omega, by omega, rfl, rfl, ⟨_, _, rfl⟩, HO2.out, HBL2.out, HRX.out, HF2.out⟩
              | true =>
                rw [hb] at cb hRx
                simp only [if_true] at hRx
                rw [List.length_append, hnl, List.length_singleton] at hRx
                have HRX := Lib.hid hRx
                clear hnl htl hb hRx
                go_wp2_with fail
                refine (hpl _).mono ?_
                rintro e w3 ⟨rfl, rfl⟩
                go_wp2_with fail
                go_loopg [75] 0 (fun m iv wr => m = 0 ∧ iv = .int .i64 0 ∧ w3 = wr)
                case atStart => exact ⟨rfl, rfl, rfl⟩
                case round =>
                  obtain ⟨rfl, rfl, rfl⟩ := hrel
                  have hw : IntKind.i64.wrap (-x) = -x := wrap_neg _ (by omega)
                  obtain ⟨i0, hi0, hz0, hz1, hz2⟩ := info_parts info_int
                  have hs2 := HF2.out.size
                  rw [HBB.out] at hs2
                  have hbs : BB < w3.heap.size := lt_of_cell cb
                  have HBS := Lib.hid hbs
                  have HKX := Lib.hid hs2
                  clear hs2 hbs
                  go_wp2_with fail
                  refine (hpl _).mono ?_
                  rintro e w3 ⟨rfl, rfl⟩
                  go_wp2_with (at_builtin; refine wpList_append_own_at _ rfl _ _ 37 rfl (BB + 1) 3 i0 (.int .i64 0) 1 8 Try.underlying37 hi0 hz0 hz1 hz2 rfl (by decide) (.slice oa nc ocp) nc (cs.map (Value.int .i64)) rfl (HO2.out.2.alloc _) ⟨w3.heap.size, 0, none⟩ 1 1 [.int .i64 (-x)] rfl ?c1 ?c2 ?c3 ?c4 ?c5 ?c6 ?_)
                  case c1 => rfl
                  case c2 => exact cell_one_new _ _ _
                  case c3 => intro u hu; simp at hu; subst hu; rfl
                  case c4 => unfold maxLen; omega
                  case c5 => omega
                  case c6 => have := HBS.out; first | omega | (simp; omega)
                  intro v6 w6 own6 gr6 _ _
                  have hO6 : Outs (BB + 1) (nc + 1) (cs ++ [-x]) v6 w6 :=
                    ⟨by rw [List.length_append, HO2.out.1]; rfl, by rw [List.map_append]; exact own6⟩
                  have hF6 : Fr (fun j => (Value.slice oa nc ocp).ownBlock = some j) w3 w6 := ((Fr.refl _ w3).alloc (.cells #[.int .i64 (-x)] 3)).grown gr6 (fun j hj _ => hj)
                  have HF6 : Hid (Fr nob w w6) := Lib.hid (HF2.out.trans' hF6 (fun _ _ h => h) (fun j hj h => by have := (HO2.out.2.lt j h).1; have := HBB.out; omega))
                  have HBL6 := Lib.hid (HBL2.out.kept hF6 (fun e => by have := (HO2.out.2.lt BB e).1; omega))
                  have HO6 := Lib.hid hO6
                  obtain ⟨oa6, ocp6, rfl⟩ := hO6.form
                  clear hO6 own6 gr6 hF6 HBL2 HO2 HF2 cb
                  by_cases e2 : nc + 1 < 2
                  · have q9 : ((nc + 1 : Nat) : Int) < 2 := by omega
                    have hRx := HRX.out
                    rw [if_pos e2] at hRx
                    have HRX := Lib.hid hRx
                    clear hRx e2
                    go_wp2_with fail
                    go_roundg m
                    case measure => omega
                    case rel => exact ⟨K', nc + 1, K', bl, cs ++ [-x], by have := HK.out; omega, by omega, by omega, rfl, rfl, ⟨_, _, rfl⟩, HO6.out, HBL6.out, HRX.out, HF6.out⟩
                  · have q9 : ¬ ((nc + 1 : Nat) : Int) < 2 := by omega
                    have hRx := HRX.out
                    rw [if_neg e2] at hRx
                    have HRX := Lib.hid hRx
                    clear hRx e2
                    go_wp2_with fail
                    go_roundg m
                    case measure => omega
                    case rel => exact ⟨K', nc + 1, q, bl, cs ++ [-x], by have := HK.out; omega, by omega, by omega, rfl, rfl, ⟨_, _, rfl⟩, HO6.out, HBL6.out, HRX.out, HF6.out⟩)
          | some g =>
            rw [hre] at cr hRx
            obtain ⟨n, cp, hsg⟩ : ∃ n cp, sh g = (n, cp) := ⟨_, _, rfl⟩
            have hcv : clV sh g = .slice (some ⟨g, 0, none⟩) n cp := by unfold clV; rw [hsg]
            change wr.cell? _ = some (clV sh g) at cr
            rw [hcv] at cr
            simp only at hRx
            have hGg := HDR.out.sm.rG x g hre
            have hcb := (HDR.out.hp.cls g hGg).1
            have hgl := (HDR.out.hp.cls g hGg).2.2
            have hn := HSH.out g hGg
            have hln := hcb.len
            rw [hsg] at hn hln
            have hlg := HRL.out x hmem g hre
            obtain ⟨CG, hCG⟩ : ∃ CG, s.cl g = CG := ⟨_, rfl⟩
            rw [hCG] at hRx hln hlg hcb
            have HRX := Lib.hid hRx
            have HLN := Lib.hid hln
            have HLG := Lib.hid hlg
            have HN := Lib.hid hn
            have HCB := Lib.hid hcb
            have HGL := Lib.hid hgl
            have hgB : g ≠ BB := fun e => by
              have h1 := (HD.out.hp.cls g hGg).2.2
              have h2 := HBB.out
              omega
            have HGB := Lib.hid hgB
            clear hRx hmem hre hsg hcv hGg hcb hn hln hlg hCG hgl hgB
            go_wp2_with fail
            go_quiet (first | (go_at_call 57; exact Calls.quiet_of_same (hpl _)))
            all_goals (
              have HF2 := Lib.hid (HF.out.drewN nq)
              have hW2 : Fr nob wr (wr.drewN nq) := (Fr.refl nob wr).drewN nq
              have HBL2 := Lib.hid (HBL.out.kept hW2 (fun h => h))
              have HO2 : Hid (Outs (BB + 1) nc cs (.slice oa nc ocp) (wr.drewN nq)) := Lib.hid ⟨HO.out.1, hW2.row HO.out.2 (fun _ _ h => h)⟩
              have HCB2 := Lib.hid (HCB.out.kept hW2 (fun h => h) HGL.out)
              clear hW2 s1 c9 c7 ct cr HDR HF HBL HO HCB HGL
              generalize wr.drewN nq = w2 at *
              obtain ⟨cb, _⟩ := HBL2.out p HP2.out
              rw [show (p : Int) - 24 = x by have := HP.out; omega] at cb
              cases hb : bl x with
              | false =>
                have hRx := HRX.out
                rw [hb] at cb hRx
                simp only [Bool.false_eq_true, if_false] at hRx
                clear hb HRX
                have HRX := Lib.hid hRx
                clear hRx
                go_wp2_with fail
                refine (hpl _).mono ?_
                rintro e w3 ⟨rfl, rfl⟩
                go_wp2_with fail
                go_roundg m
                case measure => omega
                case rel => exact ⟨K', nc, q, bl, cs, by have := HK.out; omega, by omega, by omega, rfl, rfl, ⟨_, _, rfl⟩, HO2.out, HBL2.out, HRX.out, HF2.out⟩
              | true =>
                have hRx := HRX.out
                rw [hb] at cb hRx
                simp only [if_true] at hRx
                clear hb HRX
                have HRX := Lib.hid hRx
                clear hRx
                go_wp2_with fail
                refine (hpl _).mono ?_
                rintro e w3 ⟨rfl, rfl⟩
                go_wp2_with fail
                clear cb
                go_loopg [75] n (fun m iv wr => ∃ j : Nat, j + m = n ∧ iv = .int .i64 (j : Int) ∧ Bl wr BB (markL bl (CG.take j)) ∧ Outs (BB + 1) nc cs (.slice oa nc ocp) wr ∧ CB wr g sh CG ∧ Fr nob w wr)
                case atStart => exact ⟨0, by omega, rfl, by rw [List.take_zero, markL_nil]; exact HBL2.out, HO2.out, HCB2.out, HF2.out⟩
                case round =>
                  clear HBL2 HO2 HCB2 HF2
                  obtain ⟨j, hjm, rfl, hbl, hO, hCB, hF⟩ := hrel
                  have HBL := Lib.hid hbl
                  have HO := Lib.hid hO
                  have HCB := Lib.hid hCB
                  have HF := Lib.hid hF
                  have q9 : (0 : Int) ≤ (j : Int) := Int.natCast_nonneg _
                  clear hbl hO hCB hF
                  cases gk with
                  | zero =>
                    obtain rfl : j = n := by omega
                    have hbl0 := HBL.out
                    rw [List.take_of_length_le (by rw [← HLN.out]; exact Nat.le_refl _)] at hbl0
                    have HBL0 := Lib.hid hbl0
                    clear hbl0 HBL
                    go_wp2_with fail
                    go_roundg m
                    case measure => omega
                    case rel => exact ⟨K', nc, q, markL bl CG, cs, by have := HK.out; omega, by omega, by omega, rfl, rfl, ⟨_, _, rfl⟩, HO.out, HBL0.out, HRX.out, HF.out⟩
                  | succ m2 =>
                    have HJM := Lib.hid (show j + 1 + m2 = n by omega)
                    have q10 : (j : Int) < (n : Int) := by omega
                    have q11 : (n : Int) ≤ 1000 := by have := HN.out; omega
                    have hj2 : j < CG.length := by rw [← HLN.out]; omega
                    have hjt : CG[j]? = some CG[j] := List.getElem?_eq_getElem hj2
                    have hmem : CG[j] ∈ CG := List.getElem_mem hj2
                    generalize CG[j] = y at hjt hmem
                    have hy := HLG.out y hmem
                    have hcx := HCB.out.cell j y hjt
                    obtain ⟨r, hr1, hr2⟩ := ltr_at hy.neg
                    have hw : IntKind.i64.wrap (-y) = -y := wrap_neg _ (by unfold Ltr at hy; omega)
                    have hpr : ∀ w, Calls Try.prog 57 #[.int .i64 (-y)] w fun e w' => e = .returned (.int .i64 (r : Int)) ∧ w = w' := fun w => (place_any (-y) (by unfold Ltr at hy; omega) w).mono (fun _ _ h => ⟨by rw [h.1, hr1], h.2⟩)
                    have r1 : (0 : Int) ≤ (r : Int) := Int.natCast_nonneg _
                    have r2 : (r : Int) < 49 := by omega
                    obtain ⟨cb, fb⟩ := HBL.out r hr2
                    have z1 : -24 ≤ y := by unfold Ltr at hy; omega
                    have z2 : y ≤ 24 := by unfold Ltr at hy; omega
                    have hst := HBL.out.set hr1
                    rw [← markL_take hjt] at hst
                    have HST := Lib.hid hst
                    have hfs := fr_store wr BB r (.bool true)
                    have HF2 : Hid (Fr nob w (wr.setCell ⟨BB, r, none⟩ (.bool true))) := Lib.hid (HF.out.set1 (by rw [HBB.out]; exact Nat.le_refl _) _)
                    have HO2 : Hid (Outs (BB + 1) nc cs (.slice oa nc ocp) (wr.setCell ⟨BB, r, none⟩ (.bool true))) := Lib.hid ⟨HO.out.1, hfs.row HO.out.2 (fun b hb (e : b = BB) => by have := (HO.out.2.lt b hb).1; omega)⟩
                    have HCB2 : Hid (CB (wr.setCell ⟨BB, r, none⟩ (.bool true)) g sh CG) := Lib.hid (HCB.out.kept hfs HGB.out (lt_of_cell hcx))
                    clear hj2 hjt hmem hy hst hr1 hfs HBL HF HO HCB
                    go_wp2_with fail
                    refine (hpr _).mono ?_
                    rintro e w5 ⟨rfl, rfl⟩
                    go_wp2_with fail
                    go_roundg m2
                    case measure => omega
                    case rel => exact ⟨j + 1, HJM.out, by go_num, HST.out, HO2.out, HCB2.out, HF2.out⟩)
    | succ m =>
      have q4 : (k : Int) < (CN : Int) := by omega
      have hk2 : k < CC.length := by rw [HCN.out]; omega
      have hkt : CC[k]? = some CC[k] := List.getElem?_eq_getElem hk2
      have hmem : CC[k] ∈ CC := List.getElem_mem hk2
      generalize CC[k] = y at hkt hmem
      have hy := HCL.out y hmem
      have hI := HCI.out.kept (T := G) HF.out (fun b hb _ => ⟨fun h => h, hb⟩)
      obtain ⟨b, ob, rfl, _, hcx⟩ := hI.at hkt
      obtain ⟨p, hp1, hp2⟩ := ltr_at hy.neg
      have hw : IntKind.i64.wrap (-y) = -y := wrap_neg _ (by unfold Ltr at hy; omega)
      have hpl : ∀ w, Calls Try.prog 57 #[.int .i64 (-y)] w fun e w' => e = .returned (.int .i64 (p : Int)) ∧ w = w' := fun w => (place_any (-y) (by unfold Ltr at hy; omega) w).mono (fun _ _ h => ⟨by rw [h.1, hp1], h.2⟩)
      have p1 : (0 : Int) ≤ (p : Int) := Int.natCast_nonneg _
      have p2 : (p : Int) < 49 := by omega
      obtain ⟨cb, fb⟩ := HBL.out p hp2
      have y1 : -24 ≤ y := by unfold Ltr at hy; omega
      have y2 : y ≤ 24 := by unfold Ltr at hy; omega
      have HKT := Lib.hid hkt
      have hst := HBL.out.set hp1
      rw [← markL_take hkt] at hst
      have HST := Lib.hid hst
      have HF2 : Hid (Fr nob w (wr.setCell ⟨BB, p, none⟩ (.bool true))) := Lib.hid (HF.out.set1 (by rw [HBB.out]; exact Nat.le_refl _) _)
      clear hk2 hkt hmem hy hI hst hp1 c9 c7 s1 HBL HF
      go_wp2_with fail
      refine (hpl _).mono ?_
      rintro e w2 ⟨rfl, rfl⟩
      go_wp2_with fail
      go_roundg m
      case measure => omega
      case rel => exact ⟨k + 1, by omega, by go_num, HST.out, HF2.out⟩
end Go.Proofs.Ytaojojjdfdlgpaa
namespace Go.Proofs.Ytaojojjdfdlgpaa
open Go.RowKit Uq

/-! deduceFrom, with what is known of a conflict -/
def DedC (Z : Nat → Prop) (d : Nat) (C : List (List Int)) (w : World) : Prop :=
  ∃ ids s sh G c, Lev C ids s ∧ Kon ids s ∧ (∀ g ∈ ids, G g) ∧ ids.length ≤ C.length ∧ (∀ g, G g → (sh g).1 ≤ 1000) ∧ Dm w Z 100 d sh G s c
theorem DedC.add {Z : Nat → Prop} {d : Nat} {C : List (List Int)} {cs : List Int} {w w' : World} {ids : List Nat} {s : DS} {sh : Nat → Nat × Nat} {G : Nat → Prop} (hL : Lev C ids s) (hK : Kon ids s) (hG : ∀ g ∈ ids, G g) (hl : ids.length ≤ C.length) (hsh : ∀ g, G g → (sh g).1 ≤ 1000) (hc : ∀ x ∈ cs, Ltr x) (h : AddPost Z d sh G s cs w w') : DedC Z d (C ++ [cs]) w' := by
  obtain ⟨g, sh', G', c', a1, a2, a3, a4, a5, a6, _⟩ := h
  obtain ⟨ids', b1, b2⟩ := add_all hL (c := cs) (g := g) (fun e => a1 (hG g e)) hc
  refine ⟨ids', _, sh', G', c', b1, (add_con hL hK (fun e => a1 (hG g e)) hc).grow (fun z hz => by rcases b2 with e | ⟨e, _⟩ <;> rw [e]; exact hz; exact List.mem_append_left _ hz), fun z hz => ?_, ?_, fun z hz => ?_, a6⟩
  · rcases b2 with e | ⟨e, e2, a, b, t, e3⟩
    · rw [e] at hz; exact (a2 z (hG z hz)).1
    · rw [e] at hz
      rcases List.mem_append.1 hz with hz | hz
      · exact (a2 z (hG z hz)).1
      · simp at hz; rw [hz]; exact a5 e2 (by rw [e3]; simp)
  · rw [List.length_append]
    rcases b2 with e | ⟨e, _⟩
    · rw [e]; omega
    · rw [e, List.length_append]; simp; omega
  · by_cases e : G z
    · rw [(a2 z e).2]; exact hsh z e
    · rcases a3 z hz with h1 | h1
      · exact absurd h1 e
      · rw [h1] at hz ⊢; exact a4 hz
set_option maxRecDepth 100000 in
set_option maxHeartbeats 2000000 in
theorem deduceC_dm (l : List (List Int)) (v : Value) (w : World) (hv : RowsO w (fun b => b < w.heap.size) l v) (hl : ∀ c ∈ l, c.length ≤ 1000 ∧ ∀ x ∈ c, Ltr x) (hn : l.length ≤ 5000) :
    Calls Try.prog 55 #[v] w fun e w' => e = .returned (.pointer (some ⟨w.heap.size, 0, none⟩)) ∧ DedC (fun b => b < w.heap.size) w.heap.size l w' ∧ Fr nob w w' := by
  obtain ⟨a, cap, rfl⟩ := hv.form
  obtain ⟨N, hN⟩ : ∃ N, l.length = N := ⟨_, rfl⟩
  rw [hN] at hn hv ⊢
  have HN := Lib.hid hN
  have HV := Lib.hid hv
  have HL := Lib.hid hl
  clear hN hv hl
  go_enter Try.func55, Try.ntmps55
  go_wp2_with fail
  go_loopg [8] N (fun m iv wr => ∃ k : Nat, k + m = N ∧ iv = .int .i64 (k : Int) ∧ DedC (fun b => b < w.heap.size) w.heap.size (l.take k) wr ∧ Fr (fun k => ¬ k < w.heap.size) w wr)
  case atStart => exact ⟨0, by omega, rfl, by
    rw [List.take_zero]
    exact ⟨[], s0, fun _ => (0, 0), fun _ => False, zc, lev0, (fun g h => by cases h), by simp, Nat.le_refl _, fun _ h => h.elim, dm0 (Mem.of_alloc w _ _ rfl) (fun k hk => by simp; omega) (Nat.lt_irrefl _)⟩, nob_notZ ((Fr.refl nob w).alloc _)⟩
  case round =>
    obtain ⟨k, hkm, rfl, hD, hF⟩ := hrel
    have HD := Lib.hid hD
    have HF := Lib.hid hF
    have q4 : (0 : Int) ≤ (k : Int) := Int.natCast_nonneg _
    clear hD hF
    cases gk with
    | zero =>
      obtain rfl : k = N := by omega
      go_wp2_with fail
      go_ret
      have h := HD.out
      rw [List.take_of_length_le (by rw [HN.out]; exact Nat.le_refl _)] at h
      exact ⟨rfl, h, HF.out.mono fun i hi hn => absurd hi hn⟩
    | succ m =>
      have q3 : (k : Int) < (N : Int) := by omega
      have hk : k < l.length := by rw [HN.out]; omega
      have hkt : l[k]? = some l[k] := List.getElem?_eq_getElem hk
      have hmem : l[k] ∈ l := List.getElem_mem hk
      have htake : l.take (k + 1) = l.take k ++ [l[k]] := List.take_succ_eq_append_getElem hk
      generalize l[k] = cs at hkt hmem htake
      obtain ⟨b, ob, rfl, hSb, a', cap', hcl0, hI0⟩ := HV.out.at hkt
      have hcl := HF.out.cell hcl0 (fun e => e hSb)
      have hI := hI0.kept (T := fun b => b < w.heap.size) HF.out (fun b hb _ => ⟨fun e => e hb, hb⟩)
      obtain ⟨hc1, hc2⟩ := HL.out cs hmem
      obtain ⟨ids, s, sh, G, c, d1, dk, d2, d3, d4, d5⟩ := HD.out
      have HKO := Lib.hid dk
      have hids : ids.length ≤ 5000 := Nat.le_trans d3 (by rw [List.length_take, HN.out]; omega)
      have hC := add_dm _ _ sh G s c cs _ _ wr ids d5 d1.mid hI (fun _ h => h) hc2 hc1 d2 (by omega) d4
      have HT := Lib.hid htake
      have H1 := Lib.hid d1
      have H2 := Lib.hid d2
      have H3 := Lib.hid d3
      have H4 := Lib.hid d4
      have HC2 := Lib.hid hc2
      obtain ⟨Z, hz⟩ : ∃ Z, cs.length = Z := ⟨_, rfl⟩
      rw [hz] at hcl hC
      clear hk hkt hmem htake hcl0 hI0 hI hc1 hc2 d1 dk d2 d3 d4 d5 hids hz HD
      go_wp2_with fail
      refine hC.mono ?_
      rintro e w2 ⟨rfl, hP⟩
      have hF2 : Fr (fun k => ¬ k < w.heap.size) wr w2 := by
        obtain ⟨_, _, _, _, _, _, _, _, _, _, f⟩ := hP
        exact f
      have HF2 := Lib.hid (HF.out.trans hF2 (fun _ _ h => h))
      have HD2 : Hid (DedC (fun b => b < w.heap.size) w.heap.size (l.take (k + 1)) w2) := Lib.hid (by rw [HT.out]; exact DedC.add H1.out HKO.out H2.out H3.out H4.out HC2.out hP)
      clear hC hP hF2 hcl HF
      go_wp2_with fail
      go_roundg m
      case measure => omega
      case rel => exact ⟨k + 1, by omega, by go_num, HD2.out, HF2.out⟩
end Go.Proofs.Ytaojojjdfdlgpaa
namespace Go.Proofs.Ytaojojjdfdlgpaa
open Go.RowKit Uq

/-! search -/
theorem Dm.grow {w w' : World} {Z S T : Nat → Prop} {x d : Nat} {sh : Nat → Nat × Nat} {G : Nat → Prop} {s : DS} {c : Nat → Value} (h : Dm w Z x d sh G s c) (f : Fr S w w') (hS : ∀ k, k < w.heap.size → S k → Z k) (hT : ∀ k, T k → w.heap.size ≤ k ∧ k < w'.heap.size) : Dm w' (fun k => Z k ∨ T k) x d sh G s c := by
  have h1 := h.kept f hS
  have hdl : d < w.heap.size := lt_of_cell (h.hp.mem 0 (by decide)).1
  refine ⟨⟨h1.hp.mem, fun k hk => hk.elim (h1.hp.zlt k) (fun e => (hT k e).2), fun hk => hk.elim h1.hp.zd (fun e => by have := (hT d e).1; omega), h1.hp.gd, h1.hp.rows, fun g hg => ?_, fun i a b e q hq => ?_, h1.hp.sep⟩, h1.sm⟩
  · obtain ⟨a1, a2, a3⟩ := h1.hp.cls g hg
    exact ⟨a1, fun hk => hk.elim a2 (fun e => by have := (hT g e).1; have := (h.hp.cls g hg).2.2; omega), a3⟩
  · obtain ⟨a1, a2, a3⟩ := h1.hp.own i a b e q hq
    exact ⟨a1, fun hk => hk.elim a2 (fun e2 => by have := (hT q e2).1; have := ((h.hp.rows i a b e).lt q hq).2; omega), a3⟩
def Zs (B0 sb : Nat) (pv : Value) (k : Nat) : Prop := k < B0 ∨ k = sb ∨ pv.ownBlock = some k
structure Sv (w : World) (B0 d sb n : Nat) (C : List (List Int)) (ids : List Nat) (P : List (Nat × List Int)) (s : DS) (sh : Nat → Nat × Nat) (G : Nat → Prop) (c : Nat → Value) (pv : Value) (free : Bool) : Prop where
  sta : Sta n C ids P s free
  dm : Dm w (Zs B0 sb pv) 100 d sh G s c
  gi : ∀ g ∈ ids, G g
  gp : ∀ p ∈ P, G p.1
  idl : ids.length ≤ 5000 + P.length
  shl : ∀ g, G g → (sh g).1 ≤ 1000
  s0 : w.cell? ⟨sb, 0, none⟩ = some (.pointer (some ⟨d, 0, none⟩))
  s1 : w.cell? ⟨sb, 1, none⟩ = some pv
  sf : w.frozen? ⟨sb, 1, none⟩ = false
  row : w.ownsRow (sb + 1) 37 1 pv P.length (P.map fun p => clV sh p.1)
theorem Sv.kept {w w' : World} {B0 d sb n : Nat} {C : List (List Int)} {ids : List Nat} {P : List (Nat × List Int)} {s : DS} {sh : Nat → Nat × Nat} {G : Nat → Prop} {c : Nat → Value} {pv : Value} {free : Bool} (h : Sv w B0 d sb n C ids P s sh G c pv free) (f : Fr nob w w') : Sv w' B0 d sb n C ids P s sh G c pv free :=
  ⟨h.sta, h.dm.nob f, h.gi, h.gp, h.idl, h.shl, f.cell h.s0 (fun h => h), f.cell h.s1 (fun h => h), (f.frozen (p := ⟨sb, 1, none⟩) (lt_of_cell h.s1) (fun h => h)).trans h.sf, f.row h.row (fun _ _ h => h)⟩
theorem Sv.form {w : World} {B0 d sb n : Nat} {C : List (List Int)} {ids : List Nat} {P : List (Nat × List Int)} {s : DS} {sh : Nat → Nat × Nat} {G : Nat → Prop} {c : Nat → Value} {pv : Value} {free : Bool} (h : Sv w B0 d sb n C ids P s sh G c pv free) : ∃ a cp, pv = .slice a P.length cp := by
  rcases h.row.2 with ⟨h1, h2⟩ | ⟨g, cap', cur, h1, _⟩
  · exact ⟨none, 0, by rw [h1, h2]⟩
  · exact ⟨_, _, h1⟩
/-- the clause's two watches, if it has two -/
theorem watch_lrn (Z : Nat → Prop) (d : Nat) (sh : Nat → Nat × Nat) (G : Nat → Prop) (s : DS) (c : Nat → Value) (g q : Nat) (c0 : Int) (cs : List Int) (w : World) (ids : List Nat) (h : Dm w Z 100 d sh G { retP s q with cl := upF s.cl g (c0 :: cs) } c) (hg : G g) (hL : ∀ x ∈ c0 :: cs, Ltr x) (hsh : (sh g).1 ≤ 1000) (hw : Wat ids s.watched s.cl) (hids : ids.length ≤ 100000) :
    Calls Try.prog 92 #[.pointer (some ⟨d, 0, none⟩), clV sh g] w fun e w' => e = .returned (.tuple #[]) ∧ ∃ c', Dm w' Z 100 d sh G (lrnP s q (c0 :: cs) g) c' ∧ Fr (fun k => ¬ Z k) w w' := by
  cases cs with
  | nil =>
    have hl := (h.hp.cls g hg).1.len
    change (sh g).1 = (upF s.cl g [c0] g).length at hl
    rw [upF_same] at hl
    refine (watch_short _ _ _ _ w (by rw [hl]; simp)).mono ?_
    rintro e w' ⟨rfl, rfl⟩
    exact ⟨rfl, c, h, Fr.refl _ _⟩
  | cons c1 t =>
    exact watch_dm Z d sh G { retP s q with cl := upF s.cl g (c0 :: c1 :: t) } c g c0 c1 t w h hg (upF_same _ _ _) (hL c0 (by simp)) (hL c1 (by simp)) (by omega) (fun i => by
      have h1 := nodup_leN (hw.nodup i) (m := ids) fun z hz => ((hw.mem i z).1 hz).1
      show (s.watched i).length ≤ _
      omega)
/-- a new clause, and the list of the proof grown by it -/
theorem Sv.push {w w1 w2 : World} {B0 d sb n : Nat} {C : List (List Int)} {ids : List Nat} {P : List (Nat × List Int)} {s : DS} {sh : Nat → Nat × Nat} {G : Nat → Prop} {c : Nat → Value} {pv : Value} {free : Bool} (h : Sv w B0 d sb n C ids P s sh G c pv free) (f1 : Fr nob w w1)
    {g nR cp : Nat} {cl : List Int} (hO : Outs (w.heap.size + 1) nR cl (.slice (some ⟨g, 0, none⟩) nR cp) w1) {pv' : Value} (f2 : Fr (fun k => pv.ownBlock = some k) w1 w2) (hat : pv'.ownBlock = pv.ownBlock ∨ pv'.ownBlock = some (w1.heap.size + 1))
    {N1 : Nat} (hrow : w2.ownsRow (sb + 1) 37 1 pv' N1 ((P.map fun p => clV sh p.1) ++ [.slice (some ⟨g, 0, none⟩) nR cp])) (hB : B0 ≤ sb) :
    ¬ G g ∧ Dm (w2.setCell ⟨sb, 1, none⟩ pv') (Zs B0 sb pv') 100 d (upF sh g (nR, cp)) (fun k => G k ∨ k = g) { s with cl := upF s.cl g cl } c ∧
    (w2.setCell ⟨sb, 1, none⟩ pv').cell? ⟨sb, 0, none⟩ = some (.pointer (some ⟨d, 0, none⟩)) ∧ (w2.setCell ⟨sb, 1, none⟩ pv').cell? ⟨sb, 1, none⟩ = some pv' ∧ (w2.setCell ⟨sb, 1, none⟩ pv').frozen? ⟨sb, 1, none⟩ = false ∧
    (w2.setCell ⟨sb, 1, none⟩ pv').ownsRow (sb + 1) 37 1 pv' N1 ((P ++ [(g, cl)]).map fun p => clV (upF sh g (nR, cp)) p.1) ∧ Fr (fun k => ¬ k < B0) w (w2.setCell ⟨sb, 1, none⟩ pv') ∧ clV (upF sh g (nR, cp)) g = .slice (some ⟨g, 0, none⟩) nR cp := by
  have hsz1 := f1.size
  have hsz2 := f2.size
  have hgl := hO.2.lt g rfl
  have hgG : ¬ G g := fun e => by have := (h.dm.hp.cls g e).2.2; omega
  have hsl : sb < w.heap.size := lt_of_cell h.s0
  have hdl : d < w.heap.size := lt_of_cell (h.dm.hp.mem 0 (by decide)).1
  have hpl := h.row.lt
  have hs1 : w2.cell? ⟨sb, 1, none⟩ = some pv := f2.cell (f1.cell h.s1 (fun h => h)) (fun e => by have := (hpl sb e).1; omega)
  have hs0 : w2.cell? ⟨sb, 0, none⟩ = some (.pointer (some ⟨d, 0, none⟩)) := f2.cell (f1.cell h.s0 (fun h => h)) (fun e => by have := (hpl sb e).1; omega)
  have hfz : w2.frozen? ⟨sb, 1, none⟩ = false := ((f2.frozen (p := ⟨sb, 1, none⟩) (Nat.lt_of_lt_of_le hsl hsz1) (fun e => by have := (hpl sb e).1; omega)).trans (f1.frozen (p := ⟨sb, 1, none⟩) hsl (fun h => h))).trans h.sf
  have f3 := fr_store w2 sb 1 pv'
  have hlp := hrow.lt
  have d1 : Dm w1 (Zs B0 sb pv) 100 d sh G s c := h.dm.nob f1
  have d2 := d1.grow f2 (fun k _ hk => .inr (.inr hk)) (T := fun k => pv'.ownBlock = some k ∧ w1.heap.size ≤ k) (fun k hk => ⟨hk.2, (hlp k hk.1).2⟩)
  have d3 : Dm w2 (Zs B0 sb pv') 100 d sh G s c := d2.less (fun k hk => by
    rcases hk with hk | hk | hk
    · exact .inl (.inl hk)
    · exact .inl (.inr (.inl hk))
    · rcases hat with e | e
      · exact .inl (.inr (.inr (e ▸ hk)))
      · exact .inr ⟨hk, by rw [e] at hk; have := Option.some.inj hk; omega⟩)
  have d4 : Dm (w2.setCell ⟨sb, 1, none⟩ pv') (Zs B0 sb pv') 100 d sh G s c := d3.kept f3 (fun k _ hk => .inr (.inl hk))
  have hcl : cl.length = nR := hO.1
  subst hcl
  have hcb := (cb_of_row (cp := cp) sh hO.2).1
  have hgpv : pv.ownBlock ≠ some g := fun e => by have := (hpl g e).2; omega
  have hcb2 := (hcb.kept f2 hgpv hgl.2).kept f3 (fun (e : g = sb) => by omega) (by omega)
  have hgz : ¬ Zs B0 sb pv' g := by
    rintro (e | e | e)
    · omega
    · omega
    · rcases hat with e2 | e2
      · exact hgpv (e2 ▸ e)
      · rw [e2] at e; have := Option.some.inj e; omega
  have hcv : clV (upF sh g (cl.length, cp)) g = .slice (some ⟨g, 0, none⟩) cl.length cp := by unfold clV; rw [upF_same]
  have d5 := d4.addG (g := g) (cp := cp) (l := cl) (fun i a b e => by have := ((h.dm.hp.rows i a b (by omega)).lt g e).2; omega) (by omega) hgz hgG (Nat.lt_of_lt_of_le hgl.2 (Nat.le_trans hsz2 f3.size)) hcb2
  refine ⟨hgG, d5, ?_, World.cell?_setCell_same' _ _ _ (by rw [hs1]; rfl), (frozen_setCell _ _ _ _).trans hfz, ?_, ?_, hcv⟩
  · rw [World.cell?_setCell_other (h := fun e => by cases e)]; exact hs0
  · have e : ((P ++ [(g, cl)]).map fun p => clV (upF sh g (cl.length, cp)) p.1) = (P.map fun p => clV sh p.1) ++ [.slice (some ⟨g, 0, none⟩) cl.length cp] := by
      rw [List.map_append]
      congr 1
      · refine List.map_congr_left fun p hp => ?_
        unfold clV
        rw [upF_other _ _ (show p.1 ≠ g from fun e => hgG (e ▸ h.gp p hp))]
      · exact congrArg (fun v => [v]) hcv
    rw [e]
    exact f3.row hrow fun b hb (e : b = sb) => by have := (hlp b hb).1; omega
  · refine ((f1.mono (fun _ _ h => h.elim)).trans' f2 (fun _ _ h => h) (fun k _ hk => by have := (hpl k hk).1; show ¬ k < B0; omega)).trans f3 (fun k _ hk => by show ¬ k < B0; have hk2 : k = sb := hk; omega)
/-- what search leaves -/
def SYes (w' : World) (B0 d sb n : Nat) (C : List (List Int)) : Prop :=
  ∃ (ids : List Nat) (P : List (Nat × List Int)) (s : DS) (sh : Nat → Nat × Nat) (G : Nat → Prop) (c : Nat → Value) (pv : Value), Sea n C ids P s ∧ Settled ids s ∧ (∀ i : Int, 1 ≤ i → i ≤ n → i ∈ s.trail ∨ -i ∈ s.trail) ∧ Dm w' (Zs B0 sb pv) 100 d sh G s c ∧ w'.cell? ⟨sb, 0, none⟩ = some (.pointer (some ⟨d, 0, none⟩))
def SNo (w' : World) (B0 sb n : Nat) (C : List (List Int)) : Prop :=
  ∃ (Q : List (List Int)) (pv : Value), Refut n C Q ∧ w'.cell? ⟨sb, 1, none⟩ = some pv ∧ RowsO w' (fun b => B0 ≤ b ∧ b < w'.heap.size) (Q ++ [[]]) pv
theorem rowsO_in {w : World} {B n : Nat} {C : List (List Int)} {us : List Value} {v : Value} {S : Nat → Prop} (h : w.ownsRow B 37 1 v n us) (hn : C.length = n) (hD : Done w S C n us) (hS : ∀ b, v.ownBlock = some b → S b) : RowsO w S C v := by
  rcases h.2 with ⟨h1, h2⟩ | ⟨g, cap', cur, h1, h2, h3, h4, h5, h6, h7⟩
  · exact ⟨none, 0, by rw [h1, hn, h2], fun _ => rfl, fun hne => absurd (List.eq_nil_of_length_eq_zero (by rw [hn]; exact h2)) hne⟩
  · refine ⟨_, _, by rw [h1, hn], (fun e => by cases e), fun _ => ⟨g, 0, rfl, hS g (by rw [h1]; rfl), fun j r hj => ?_⟩⟩
    have hjl : j < n := by rw [← hn]; exact (List.getElem?_eq_some_iff.1 hj).1
    obtain ⟨u, hu, hI⟩ := hD j r hjl hj
    refine ⟨u, ?_, hI⟩
    rw [Nat.zero_add, Lib.cell_of_heap h3]
    have h8 := congrArg (fun l => l[j]?) h7
    simp only [List.getElem?_take, Nat.mul_one, if_pos hjl, hu] at h8
    simpa using h8
theorem ints_nil {w w' : World} {S T : Nat → Prop} {v : Value} (h : IntsO w S [] v) : IntsO w' T [] v := by
  obtain ⟨a, cap, h1, h2, _⟩ := h
  exact ⟨a, cap, h1, h2, fun e => absurd rfl e⟩
theorem Sv.last {w w1 w2 : World} {B0 d sb n : Nat} {C : List (List Int)} {ids : List Nat} {P : List (Nat × List Int)} {s : DS} {sh : Nat → Nat × Nat} {G : Nat → Prop} {c : Nat → Value} {pv : Value} {free : Bool} (h : Sv w B0 d sb n C ids P s sh G c pv free) (f1 : Fr nob w w1)
    {cv : Value} {S : Nat → Prop} (hI : IntsO w1 S [] cv) {pv' : Value} (f2 : Fr (fun k => pv.ownBlock = some k) w1 w2)
    (hrow : w2.ownsRow (sb + 1) 37 1 pv' (P.length + 1) ((P.map fun p => clV sh p.1) ++ [cv])) (hB : B0 ≤ sb) (hbad : Bad (C ++ lrn P) (Least (C ++ lrn P) [])) :
    SNo (w2.setCell ⟨sb, 1, none⟩ pv') B0 sb n C ∧ Fr (fun k => ¬ k < B0) w (w2.setCell ⟨sb, 1, none⟩ pv') := by
  have hsz1 := f1.size
  have hsz2 := f2.size
  have hsl : sb < w.heap.size := lt_of_cell h.s0
  have hpl := h.row.lt
  have hs1 : w2.cell? ⟨sb, 1, none⟩ = some pv := f2.cell (f1.cell h.s1 (fun h => h)) (fun e => by have := (hpl sb e).1; omega)
  have f3 := fr_store w2 sb 1 pv'
  have hlp := hrow.lt
  have hrow3 := f3.row hrow fun b hb (e : b = sb) => by have := (hlp b hb).1; omega
  refine ⟨⟨P.map fun p => s.cl p.1, pv', h.sta.refut hbad, World.cell?_setCell_same' _ _ _ (by rw [hs1]; rfl), rowsO_in (S := fun b => B0 ≤ b ∧ b < (w2.setCell ⟨sb, 1, none⟩ pv').heap.size) hrow3 (by simp) (fun j r hj hr => ?_) (fun b hb => ⟨by have := (hrow3.lt b hb).1; omega, (hrow3.lt b hb).2⟩)⟩, ?_⟩
  · rcases Nat.lt_or_ge j P.length with hjl | hjl
    · have hp : P[j]? = some P[j] := List.getElem?_eq_getElem hjl
      have hpm : P[j] ∈ P := List.getElem_mem hjl
      generalize P[j] = p at hp hpm
      rw [List.getElem?_append_left (by rw [List.length_map]; exact hjl), List.getElem?_map, hp] at hr
      cases hr
      refine ⟨clV sh p.1, by rw [List.getElem?_append_left (by rw [List.length_map]; exact hjl), List.getElem?_map, hp]; rfl, ?_⟩
      obtain ⟨a1, a2, a3⟩ := h.dm.hp.cls p.1 (h.gp p hpm)
      have hgpv : pv.ownBlock ≠ some p.1 := fun e => a2 (.inr (.inr e))
      have hgsb : p.1 ≠ sb := fun e => a2 (.inr (.inl e))
      have b1 := ((a1.kept f1 (fun h => h) a3).kept f2 hgpv (by omega)).kept f3 hgsb (by omega)
      exact b1.ints ⟨Nat.le_of_not_lt (fun e => a2 (.inl e)), by have := f3.size; omega⟩
    · have hj2 : j = P.length := by omega
      rw [hj2, List.getElem?_append_right (by rw [List.length_map]; exact Nat.le_refl _), List.length_map, Nat.sub_self] at hr
      cases hr
      exact ⟨cv, by rw [hj2, List.getElem?_append_right (by rw [List.length_map]; exact Nat.le_refl _), List.length_map, Nat.sub_self]; rfl, ints_nil hI⟩
  · exact ((f1.mono (fun _ _ h => h.elim)).trans' f2 (fun _ _ h => h) (fun k _ hk => by have := (hpl k hk).1; show ¬ k < B0; omega)).trans f3 (fun k _ hk => by show ¬ k < B0; have hk2 : k = sb := hk; omega)
def muS (n : Nat) (P : List (Nat × List Int)) (s : DS) : Nat := (2 ^ n - P.length) * 64 + (50 - s.trail.length)
theorem info_intsG : (Try.prog.info? 37).map (fun i => (i.zero, i.size, i.bytes)) = some (some (.slice none 0 0), 1, 24) := by kernel_rfl
set_option maxRecDepth 100000 in
set_option maxHeartbeats 4000000 in
theorem search_any (B0 d sb n : Nat) (C : List (List Int)) (w : World) (hn : n ≤ 12) (hDed : DedC (fun b => b < B0 ∨ b = sb) d C w) (hC : ∀ c ∈ C, ∀ x ∈ c, Ltr x) (hCl : C.length ≤ 5000)
    (hs0 : w.cell? ⟨sb, 0, none⟩ = some (.pointer (some ⟨d, 0, none⟩))) (hs1 : w.cell? ⟨sb, 1, none⟩ = some (.slice none 0 0)) (hsf : w.frozen? ⟨sb, 1, none⟩ = false) (hB : B0 ≤ sb) :
    Calls Try.prog 74 #[.pointer (some ⟨sb, 0, none⟩), .int .i64 (n : Int)] w fun e w' => ((e = .returned (.bool true) ∧ SYes w' B0 d sb n C) ∨ (e = .returned (.bool false) ∧ SNo w' B0 sb n C)) ∧ Fr (fun k => ¬ k < B0) w w' := by
  obtain ⟨ids, s, sh, G, c, d1, dk, d2, d3, d4, d5⟩ := hDed
  have cb := (d5.hp.mem 151 (by decide)).1
  rw [d5.sm.bk] at cb
  have hSv : Sv w B0 d sb n C ids [] s sh G c (.slice none 0 0) (!s.broken) :=
    ⟨Sta.init d1 dk, d5.less (fun k hk => by rcases hk with h | h | h; exact .inl h; exact .inr h; cases h), d2, by simp, by simp; omega, d4, hs0, hs1, hsf, World.ownsRow_nil _ _ _ _⟩
  obtain ⟨T2, hT2⟩ : ∃ T2, 2 ^ n = T2 := ⟨_, rfl⟩
  have hT3 : T2 ≤ 4096 := by rw [← hT2]; exact Nat.pow_le_pow_right (by omega) hn
  have HT2 := Lib.hid hT2
  have HSV := Lib.hid hSv
  have HC := Lib.hid hC
  have HB := Lib.hid hB
  generalize hbr : s.broken = br at cb hSv
  have HBR := Lib.hid hbr
  clear d1 dk d2 d3 d4 d5 hSv hC hB hT2 hs1 hsf hCl hbr
  go_enter Try.func74, Try.ntmps74
  go_wp2_with fail
  go_step3
  go_wp2_with fail
  go_step3
  go_wp2_with fail
  clear cb hs0
  go_loopg [5] (muS n [] s) (fun m fv wr => ∃ (free : Bool) (ids : List Nat) (P : List (Nat × List Int)) (s : DS) (sh : Nat → Nat × Nat) (G : Nat → Prop) (c : Nat → Value) (pv : Value), muS n P s = m ∧ fv = .bool free ∧ Sv wr B0 d sb n C ids P s sh G c pv free ∧ Fr (fun k => ¬ k < B0) w wr)
  case atStart => exact ⟨_, ids, [], s, sh, G, c, _, rfl, by rw [← HBR.out], HSV.out, Fr.refl _ _⟩
  case round =>
    clear HSV HBR
    obtain ⟨free, ids, P, s, sh, G, c, pv, hmu, rfl, hSv, hF⟩ := hrel
    cases free with
    | false =>
      have hfm := hSv.form
      obtain ⟨pa, pcp, rfl⟩ := hfm
      have hPl := hSv.sta.le
      rw [HT2.out] at hPl
      obtain ⟨R, hR⟩ : ∃ R, blP s (s.trail.drop s.known).reverse (markL (fun _ => false) (conQ s)) [] 0 = R := ⟨_, rfl⟩
      obtain ⟨hcq, hrq⟩ := hSv.sta.lits (by omega)
      obtain ⟨hmd, hkn⟩ := hSv.sta.mid
      have hbl := blame_dm _ d sb sh G s c _ hSv.dm hSv.s0 hmd.tra hkn hSv.shl hcq hrq hR
      have hcf := hSv.sta.conf hR
      have HCF := Lib.hid hcf
      have HSV := Lib.hid hSv
      have HF := Lib.hid hF
      have HMU := Lib.hid hmu
      obtain ⟨nR, hnR⟩ : ∃ nR, R.1.length = nR := ⟨_, rfl⟩
      obtain ⟨qR, hqR⟩ : ∃ qR, R.2 = qR := ⟨_, rfl⟩
      rw [hnR, hqR] at hbl
      have HNR := Lib.hid hnR
      have HQR := Lib.hid hqR
      obtain ⟨PN, hPN⟩ : ∃ PN, P.length = PN := ⟨_, rfl⟩
      rw [hPN] at hPl
      have hs1 := hSv.s1
      rw [hPN] at hs1
      have HPN := Lib.hid hPN
      have HS1 := Lib.hid hs1
      have HRW := Lib.hid (hPN ▸ hSv.row)
      have HSL := Lib.hid (lt_of_cell hSv.s0)
      obtain ⟨i0, hi0, hz0, hz1, hz2⟩ := info_parts info_intsG
      clear hR hcq hrq hmd hkn hcf hSv hF hmu hnR hqR hPN hs1
      go_wp2_with fail
      refine hbl.mono ?_
      rintro e w1 ⟨ca, ccp, rfl, hO, f1⟩
      have c1 := f1.cell HS1.out (fun h => h)
      have HO := Lib.hid hO
      have HF1 := Lib.hid f1
      have HRW1 := Lib.hid (f1.row HRW.out (fun _ _ h => h))
      have hsz1 : sb < w1.heap.size := Nat.lt_of_lt_of_le HSL.out f1.size
      have HSZ1 := Lib.hid hsz1
      clear hbl hO f1 hsz1 HRW
      go_wp2_with (at_builtin; refine wpList_append_own_at _ rfl _ _ 36 rfl (sb + 1) 37 i0 (.slice none 0 0) 1 24 Try.underlying36 hi0 hz0 hz1 hz2 rfl (by decide) (.slice pa PN pcp) PN (P.map fun p => clV sh p.1) rfl (HRW1.out.alloc _) ⟨w1.heap.size, 0, none⟩ 1 1 [.slice ca nR ccp] rfl ?c1 ?c2 ?c3 ?c4 ?c5 ?c6 ?_)
      case c1 => rfl
      case c2 => exact cell_one_new _ _ _
      case c3 => intro u hu; simp at hu; subst hu; rfl
      case c4 => unfold maxLen; omega
      case c5 => omega
      case c6 => have := HSZ1.out; first | omega | (simp; omega)
      intro v6 w6 own6 gr6 _ hat
      have hf2 : Fr (fun k => (Value.slice pa PN pcp).ownBlock = some k) w1 w6 := ((Fr.refl _ w1).alloc (.cells #[.slice ca nR ccp] 37)).grown gr6 (fun j hj _ => hj)
      obtain ⟨g6, cap6, rfl⟩ : ∃ g6 cap6, v6 = .slice (some ⟨g6, 0, none⟩) (PN + 1) cap6 := by
        rcases own6.2 with ⟨rfl, h0⟩ | ⟨g', cap', cur, rfl, h1, h2, _⟩
        · simp at h0
        · exact ⟨g', cap', rfl⟩
      have hnp : (Value.slice pa PN pcp).ownBlock ≠ some sb := fun e => by have := (HRW1.out.lt sb e).1; omega
      have c6 := hf2.cell c1 hnp
      have z6 : w6.frozen? ⟨sb, 1, none⟩ = false := (hf2.frozen (p := ⟨sb, 1, none⟩) HSZ1.out hnp).trans ((HF1.out.frozen (p := ⟨sb, 1, none⟩) HSL.out (fun h => h)).trans HSV.out.sf)
      have HOW6 := Lib.hid own6
      have HF26 := Lib.hid hf2
      have HAT := Lib.hid hat
      clear own6 gr6 hf2 hat hnp c1 HRW1 HS1
      cases hRl : R.1 with
      | nil =>
        obtain rfl : nR = 0 := by rw [← HNR.out, hRl]; rfl
        have hL := HSV.out.last HF1.out (S := fun b => b < w1.heap.size) (cv := .slice ca 0 ccp) (pv' := .slice (some ⟨g6, 0, none⟩) (PN + 1) cap6) (by have := HO.out.ints; rw [hRl] at this; exact this) (HPN.out ▸ HF26.out) (HPN.out ▸ HOW6.out) HB.out (by have := HCF.out.1; rw [hRl] at this; exact this)
        have HL := Lib.hid hL
        clear hL hRl
        go_wp2_with fail
        (try simp only [Exit.noGoto])
        go_ret
        exact ⟨.inr ⟨rfl, HL.out.1⟩, HF.out.trans HL.out.2 (fun _ _ h => h)⟩
      | cons c0 cs =>
        obtain ⟨g, rfl⟩ : ∃ g, ca = some ⟨g, 0, none⟩ := by
          rcases HO.out.2.2 with ⟨e1, h0⟩ | ⟨g', cap', cur, e1, _⟩
          · exfalso
            have := HNR.out
            rw [hRl] at this
            simp only [List.length_cons] at this
            omega
          · cases e1; exact ⟨g', rfl⟩
        obtain ⟨hSea, hBla, hInc, hnew, hqle⟩ := HCF.out.2 (by rw [hRl]; simp)
        have hbad := HCF.out.1
        rw [hRl] at hBla hInc hnew hbad
        rw [HQR.out] at hBla hqle
        have hO := HO.out
        rw [hRl] at hO
        obtain ⟨u1, u2, u3, u4, u5, u6, u7, u8⟩ := HSV.out.push HF1.out hO (pv' := .slice (some ⟨g6, 0, none⟩) (PN + 1) cap6) (HPN.out ▸ HF26.out) (HPN.out ▸ HAT.out) HOW6.out HB.out
        have hgi : g ∉ ids := fun e => u1 (HSV.out.gi g e)
        have hgP : ∀ p ∈ P, p.1 ≠ g := fun p hp e => u1 (e ▸ HSV.out.gp p hp)
        have hmidL := hSea.lrn_mid (g := g) (by omega) hInc hqle hgi
        obtain ⟨ids', hSea', hfr1, hfr2, hids'⟩ := hSea.learn (by omega) hBla hInc hbad hnew hgi hgP
        rw [← hids'] at hmidL
        have hltr : ∀ x ∈ c0 :: cs, Ltr x := fun x hx => by have := hInc.2 x hx; unfold Ltr; omega
        obtain ⟨sh', hsh'⟩ : ∃ sh', upF sh g (nR, ccp) = sh' := ⟨_, rfl⟩
        obtain ⟨G', hG'⟩ : ∃ G' : Nat → Prop, (fun k => G k ∨ k = g) = G' := ⟨_, rfl⟩
        obtain ⟨Z', hZ'⟩ : ∃ Z' : Nat → Prop, Zs B0 sb (.slice (some ⟨g6, 0, none⟩) (PN + 1) cap6) = Z' := ⟨_, rfl⟩
        rw [hsh'] at u2 u6 u8
        rw [hG', hZ'] at u2
        have hG'g : G' g := by rw [← hG']; exact .inr rfl
        have hG'i : ∀ k ∈ ids', G' k := fun k hk => by
          rw [hids'] at hk
          rw [← hG']
          split at hk
          · exact .inl (HSV.out.gi k hk)
          · rcases List.mem_append.1 hk with hk | hk
            · exact .inl (HSV.out.gi k hk)
            · simp at hk; exact .inr hk
        have hshl : ∀ k, G' k → (sh' k).1 ≤ 1000 := fun k hk => by
          rw [← hsh']
          by_cases e : k = g
          · rw [e, upF_same]
            have h1 := lits_le (l := c0 :: cs) (hInc.1.imp fun h => by omega) hltr
            have h2 := hO.1
            show nR ≤ 1000
            omega
          · rw [upF_other _ _ e]
            rw [← hG'] at hk
            exact HSV.out.shl k (hk.resolve_right e)
        have hidl : ids'.length ≤ 5000 + (P ++ [(g, c0 :: cs)]).length := by
          have h1 := HSV.out.idl
          rw [hids', List.length_append]
          split
          · omega
          · rw [List.length_append]; simp only [List.length_cons, List.length_nil]; omega
        have hidl2 : ids.length ≤ 100000 := by have := HSV.out.idl; have := HPN.out; omega
        have hidl3 : ids'.length ≤ 1000000 := by have h1 := hidl; rw [List.length_append, HPN.out] at h1; simp only [List.length_cons, List.length_nil] at h1; omega
        have hlen48 := lits_le hSea'.mid.tra.nodup hSea'.mid.tra.lits
        have hPle := hSea'.le
        rw [List.length_append, HPN.out, HT2.out] at hPle
        simp only [List.length_cons, List.length_nil] at hPle
        have hRT := retreat_dm Z' d sh' G' { s with cl := upF s.cl g (c0 :: cs) } c qR _ u2 hqle ⟨hSea.mid.tra.nodup, hSea.mid.tra.lits, hSea.mid.tra.cons, hSea.mid.tra.holds⟩
        have HW := Lib.hid (fun c w (h : Dm w Z' 100 d sh' G' { retP s qR with cl := upF s.cl g (c0 :: cs) } c) => watch_lrn Z' d sh' G' s c g qR c0 cs w ids h hG'g hltr (hshl g hG'g) hSea.mid.wat hidl2)
        have HFO := Lib.hid (fun c w (h : Dm w Z' 100 d sh' G' (lrnP s qR (c0 :: cs) g) c) => follows_dm Z' d sh' G' (lrnP s qR (c0 :: cs) g) c g c0 w ids' h hmidL hG'g ⟨cs, by rw [(lrnP_eqs s qR c0 cs g).2.1, upF_same]⟩ (hltr c0 (by simp)) hG'i hidl3 (fun k hk => Nat.le_trans (hshl k hk) (by decide)))
        rw [u8] at HW HFO
        obtain ⟨r, hr⟩ : ∃ r, folP (lrnP s qR (c0 :: cs) g) c0 (some g) = r := ⟨_, rfl⟩
        rw [hr] at HFO hSea' hfr1 hfr2 hlen48
        have HSE := Lib.hid (And.intro hSea' (And.intro hfr1 hfr2))
        have HGI := Lib.hid hG'i
        have HGP : Hid (∀ p ∈ P ++ [(g, c0 :: cs)], G' p.1) := Lib.hid (fun p hp => by
          rw [← hG']
          rcases List.mem_append.1 hp with hp | hp
          · exact .inl (HSV.out.gp p hp)
          · simp at hp; rw [hp]; exact .inr rfl)
        have HIL := Lib.hid hidl
        have HSHL := Lib.hid hshl
        have HU3 := Lib.hid u3
        have HU4 := Lib.hid u4
        have HU5 := Lib.hid u5
        have HU6 := Lib.hid u6
        have HU7 := Lib.hid (HF.out.trans u7 (fun _ _ h => h))
        have HZ' := Lib.hid hZ'
        have HPL := Lib.hid hPle
        have HL48 := Lib.hid hlen48
        have q9 : ((nR : Int) == 0) = false := by
          have := hO.1
          simp only [List.length_cons] at this
          simp; omega
        clear hSea hBla hInc hnew hqle hbad hO u1 u2 u4 u5 u6 u7 u8 hgi hgP hmidL hSea' hfr1 hfr2 hids' hltr hsh' hG' hZ' hG'g hG'i hshl hidl hidl2 hidl3 hlen48 hPle hr hRl
        have HZs : Hid (Z' sb) := Lib.hid (by rw [← HZ'.out]; exact .inr (.inl rfl))
        have HZB : Hid (∀ k, ¬ Z' k → ¬ k < B0) := Lib.hid (fun k hk e => hk (by rw [← HZ'.out]; exact .inl e))
        go_wp2_with fail
        refine hRT.mono ?_
        rintro e w8 ⟨rfl, c8, hD8, F8⟩
        have v8 := F8.cell HU3.out (fun e => e HZs.out)
        have hWC := HW.out c8 w8 hD8
        have HF8 := Lib.hid F8
        clear hRT u3 hD8 F8
        go_wp2_with fail
        refine hWC.mono ?_
        rintro e w9 ⟨rfl, c9, hD9, F9⟩
        have v9 := F9.cell v8 (fun e => e HZs.out)
        have hFC := HFO.out c9 w9 hD9
        have HF9 := Lib.hid (HF8.out.trans F9 (fun _ _ h => h))
        clear hWC hD9 F9 HF8 v8
        go_wp2_with fail
        refine hFC.mono ?_
        rintro e w10 ⟨rfl, c10, hD10, F10⟩
        have hF10 := HF9.out.trans F10 (fun _ _ h => h)
        have HSV2 : Hid (Sv w10 B0 d sb n C ids' (P ++ [(g, c0 :: cs)]) r.2 sh' G' c10 (.slice (some ⟨g6, 0, none⟩) (PN + 1) cap6) r.1) := Lib.hid
          ⟨.inl HSE.out, by rw [HZ'.out]; exact hD10, HGI.out, HGP.out, HIL.out, HSHL.out, hF10.cell HU3.out (fun e => e HZs.out), hF10.cell HU4.out (fun e => e HZs.out),
            (hF10.frozen (p := ⟨sb, 1, none⟩) (lt_of_cell HU4.out) (fun e => e HZs.out)).trans HU5.out,
            by
              have h1 := hF10.row HU6.out (fun b hb e => e (by rw [← HZ'.out]; exact .inr (.inr hb)))
              rw [List.length_append, HPN.out]
              exact h1⟩
        have HFE : Hid (Fr (fun k => ¬ k < B0) w w10) := Lib.hid (HU7.out.trans hF10 (fun k _ h => HZB.out k h))
        clear hFC hD10 F10 hF10 v9 HF9
        go_wp2_with fail
        go_roundg (muS n (P ++ [(g, c0 :: cs)]) r.2)
        case measure =>
          rw [← HMU.out]
          unfold muS
          have h1 := HPL.out
          have h2 := HL48.out
          rw [List.length_append, HPN.out, HT2.out]
          simp only [List.length_cons, List.length_nil]
          omega
        case rel => exact ⟨r.1, ids', _, r.2, sh', G', c10, _, rfl, rfl, HSV2.out, HFE.out⟩
    | true =>
      have hSea : Sea n C ids P s := by
        rcases hSv.sta with ⟨h, _⟩ | ⟨h, _⟩
        · exact h
        · cases h
      have hSet : Settled ids s := by
        rcases hSv.sta with ⟨_, h, _⟩ | ⟨h, _⟩
        · exact h rfl
        · cases h
      have HSEA := Lib.hid hSea
      have HSET := Lib.hid hSet
      have HSV := Lib.hid hSv
      have HF := Lib.hid hF
      have HMU := Lib.hid hmu
      clear hSea hSet hSv hF hmu
      go_wp2_with fail
      go_loopg [8] n (fun m iv wv => m ≤ n ∧ iv = .int .i64 (m : Int) ∧ (∀ i : Int, (m : Int) < i → i ≤ n → i ∈ s.trail ∨ -i ∈ s.trail) ∧ Fr nob wr wv)
      case atStart => exact ⟨Nat.le_refl _, rfl, fun i h1 h2 => by omega, Fr.refl _ _⟩
      case round =>
        obtain ⟨hmn, rfl, hall, hF2⟩ := hrel
        have HALL := Lib.hid hall
        have HF2 := Lib.hid hF2
        clear hall hF2
        cases gk with
        | zero =>
          go_wp2_with fail
          (try simp only [Exit.noGoto])
          go_ret
          refine ⟨.inl ⟨rfl, ids, P, s, sh, G, c, pv, HSEA.out, HSET.out, fun i h1 h2 => HALL.out i (by omega) h2, (HSV.out.kept HF2.out).dm, (HSV.out.kept HF2.out).s0⟩, HF.out.trans HF2.out (fun _ _ h => h.elim)⟩
        | succ i =>
          obtain ⟨I, hI⟩ : ∃ I, i + 1 = I := ⟨_, rfl⟩
          rw [hI] at hmn HALL
          obtain ⟨p, hp⟩ : ∃ p, 24 + I = p := ⟨_, rfl⟩
          obtain ⟨q, hq⟩ : ∃ q, 24 - I = q := ⟨_, rfl⟩
          have hpl : ∀ w, Calls Try.prog 57 #[.int .i64 (I : Int)] w fun e w' => e = .returned (.int .i64 (p : Int)) ∧ w' = w := fun w => (place_any (I : Int) (by omega) w).mono (fun _ _ h => ⟨by rw [h.1, show (I : Int) + 24 = (p : Int) by omega], h.2.symm⟩)
          have hpq : ∀ w, Calls Try.prog 57 #[.int .i64 (-(I : Int))] w fun e w' => e = .returned (.int .i64 (q : Int)) ∧ w' = w := fun w => (place_any (-(I : Int)) (by omega) w).mono (fun _ _ h => ⟨by rw [h.1, show -(I : Int) + 24 = (q : Int) by omega], h.2.symm⟩)
          have hS := HSV.out.kept HF2.out
          have s0 := hS.s0
          have q1 : (0 : Int) ≤ (p : Int) := by omega
          have q2 : (p : Int) < 49 := by omega
          have q3 : (0 : Int) ≤ (q : Int) := by omega
          have q4 : (q : Int) < 49 := by omega
          have q5 : (0 : Int) < (I : Int) := by omega
          have cp := (hS.dm.hp.mem p (by omega)).1
          have cq := (hS.dm.hp.mem q (by omega)).1
          rw [hS.dm.sm.hd p (by omega), show (p : Int) - 24 = (I : Int) by omega] at cp
          rw [hS.dm.sm.hd q (by omega), show (q : Int) - 24 = -(I : Int) by omega] at cq
          have HFD := Lib.hid (fun nq => HF2.out.drewN nq)
          have hw : IntKind.i64.wrap (-(I : Int)) = -(I : Int) := wrap_neg _ (by omega)
          have HI := Lib.hid hI
          rw [hI]
          clear hp hq hI hS
          cases h1 : s.holds (I : Int) with
          | true =>
            rw [h1] at cp
            have hall2 : ∀ j : Int, (i : Int) < j → j ≤ n → j ∈ s.trail ∨ -j ∈ s.trail := fun j j1 j2 => by
              have := HI.out
              by_cases e : j = (I : Int)
              · rw [e]; exact .inl ((HSEA.out.mid.tra.holds _).1 h1)
              · exact HALL.out j (by omega) j2
            have HALL2 := Lib.hid hall2
            clear cq h1 hall2
            go_wp2_with fail
            go_quiet (first | (go_at_call 57; exact Calls.quiet_of_same (hpl _)))
            all_goals (
              clear cp s0
              have HF3 := Lib.hid (HFD.out nq)
              clear HF2 HFD
              generalize wr.drewN nq = w2 at *
              go_wp2_with fail
              go_roundg i
              case measure => omega
              case rel => exact ⟨by have := HI.out; omega, by rw [← HI.out]; go_num, HALL2.out, HF3.out⟩)
          | false =>
            rw [h1] at cp
            cases h2 : s.holds (-(I : Int)) with
            | true =>
              rw [h2] at cq
              have hall2 : ∀ j : Int, (i : Int) < j → j ≤ n → j ∈ s.trail ∨ -j ∈ s.trail := fun j j1 j2 => by
                have := HI.out
                by_cases e : j = (I : Int)
                · rw [e]; exact .inr ((HSEA.out.mid.tra.holds _).1 h2)
                · exact HALL.out j (by omega) j2
              have HALL2 := Lib.hid hall2
              clear h1 h2 hall2
              go_wp2_with fail
              go_quiet (first | (go_at_call 57; exact Calls.quiet_of_same (hpl _)) | (go_at_call 57; exact Calls.quiet_of_same (hpq _)))
              all_goals (
                clear cp cq s0
                have HF3 := Lib.hid (HFD.out nq)
                clear HF2 HFD
                generalize wr.drewN nq = w2 at *
                go_wp2_with fail
                go_roundg i
                case measure => omega
                case rel => exact ⟨by have := HI.out; omega, by rw [← HI.out]; go_num, HALL2.out, HF3.out⟩)
            | false =>
              rw [h2] at cq
              have hno1 : (I : Int) ∉ s.trail := fun e => by rw [(HSEA.out.mid.tra.holds _).2 e] at h1; cases h1
              have hno2 : -(I : Int) ∉ s.trail := fun e => by rw [(HSEA.out.mid.tra.holds _).2 e] at h2; cases h2
              have hM := HSEA.out.more (by omega) HSET.out (i := (I : Int)) (by omega) (by omega) hno1 hno2 HALL.out
              have hA := assP_one (s := s) (-(I : Int)) hM.1.fine
              obtain ⟨r, hr⟩ : ∃ r, folP s (-(I : Int)) none = r := ⟨_, rfl⟩
              rw [hr] at hM hA
              have HM := Lib.hid hM
              have HA := Lib.hid hA
              clear h1 h2 hno1 hno2 hM hA hr
              go_wp2_with fail
              go_quiet (first | (go_at_call 57; exact Calls.quiet_of_same (hpl _)) | (go_at_call 57; exact Calls.quiet_of_same (hpq _)))
              all_goals (
                clear cp cq s0
                have HF3 := Lib.hid (HFD.out nq)
                clear HF2 HFD
                generalize wr.drewN nq = w2 at *
                have hS := HSV.out.kept HF3.out
                have s0 := hS.s0
                have fa : Fr nob w2 (w2.alloc (.cells #[.int .i64 (-(I : Int))] 3)) := (Fr.refl nob w2).alloc _
                have hSA := hS.kept fa
                have hDA := hS.dm.more fa (T := fun k => k = w2.heap.size) (fun k hk => ⟨by rw [hk]; exact Nat.le_refl _, by rw [hk]; simp⟩)
                have hIA : IntsO (w2.alloc (.cells #[.int .i64 (-(I : Int))] 3)) (fun b => b = w2.heap.size) [-(I : Int)] (.slice (some ⟨w2.heap.size, 0, none⟩) 1 1) :=
                  ⟨_, _, rfl, (fun e => by cases e), fun _ => ⟨w2.heap.size, 0, rfl, rfl, fun j x hj => by
                    have hj0 : j = 0 ∧ x = -(I : Int) := by
                      cases j with
                      | zero => simp at hj; exact ⟨rfl, hj.symm⟩
                      | succ j => simp at hj
                    obtain ⟨rfl, rfl⟩ := hj0
                    exact cell_one_new _ _ _ 0 _ rfl⟩⟩
                have hZ2 : ∀ k, Zs B0 sb pv k → Zs B0 sb pv k ∨ k = w2.heap.size := fun k hk => .inl hk
                have hC := assume_dm _ d sh G s c [-(I : Int)] _ _ _ ids hDA HSEA.out.mid hIA (fun b hb => .inr hb) (fun x hx => by simp at hx; rw [hx]; unfold Ltr; omega) (by simp) hS.gi (by have h1 := hS.idl; have h2 := hS.sta.le; rw [HT2.out] at h2; omega) (fun g hg => Nat.le_trans (hS.shl g hg) (by decide))
                rw [HA.out] at hC
                have hs0A := hSA.s0
                have HSA := Lib.hid hSA
                have HFA := Lib.hid ((HF.out.trans HF3.out (fun _ _ h => h.elim)).trans fa (fun _ _ h => h.elim))
                clear hS fa hSA hDA hIA hZ2
                go_wp2_with fail
                refine hC.mono ?_
                rintro e w5 ⟨rfl, c5, hD5, F5⟩
                have hSA := HSA.out
                have HSV5 : Hid (Sv w5 B0 d sb n C ids P r.2 sh G c5 pv r.1) := Lib.hid
                  ⟨.inl ⟨HM.out.1, HM.out.2.2.1, HM.out.2.2.2⟩, hD5.less (fun k hk => .inl hk), hSA.gi, hSA.gp, hSA.idl, hSA.shl, F5.cell hSA.s0 (fun e => e (.inl (.inr (.inl rfl)))), F5.cell hSA.s1 (fun e => e (.inl (.inr (.inl rfl)))),
                    (F5.frozen (p := ⟨sb, 1, none⟩) (lt_of_cell hSA.s1) (fun e => e (.inl (.inr (.inl rfl))))).trans hSA.sf, F5.row hSA.row (fun b hb e => e (.inl (.inr (.inr hb))))⟩
                have HF5 : Hid (Fr (fun k => ¬ k < B0) w w5) := Lib.hid (HFA.out.trans F5 (fun k _ h e => h (.inl (.inl e))))
                clear hC hD5 F5 hSA s0 hs0A
                go_wp2_with fail
                (try simp only [Exit.noGoto])
                go_roundg (muS n P r.2)
                case measure =>
                  rw [← HMU.out]
                  unfold muS
                  have h1 := HM.out.2.1
                  have h2 := lits_le HM.out.1.mid.tra.nodup HM.out.1.mid.tra.lits
                  omega
                case rel => exact ⟨r.1, ids, P, r.2, sh, G, c5, pv, rfl, rfl, HSV5.out, HF5.out⟩)
end Go.Proofs.Ytaojojjdfdlgpaa
namespace Go.Proofs.Ytaojojjdfdlgpaa
open Go.RowKit Uq

/-! Solve -/
theorem belowR {w w' : World} {l : List (List Int)} {v : Value} (f : Fr nob w w') (h : RowsO w (fun b => b < w.heap.size) l v) : RowsO w' (fun b => b < w'.heap.size) l v :=
  h.kept f (fun _ hb _ => ⟨fun h => h, Nat.lt_of_lt_of_le hb f.size⟩)
theorem shl_m {i : Nat} (hi : i ≤ 24) : ((2 : Int) ^ i % 4294967296) = ((2 ^ i : Nat) : Int) := by
  have h2 : 2 ^ i ≤ 2 ^ 24 := Nat.pow_le_pow_right (by omega) hi
  rw [show (2 : Int) ^ i = ((2 ^ i : Nat) : Int) by simp]
  generalize 2 ^ i = m at *
  omega
theorem DedC.more {Z : Nat → Prop} {d : Nat} {C : List (List Int)} {w w1 : World} (h : DedC Z d C w) (f : Fr nob w w1) {T : Nat → Prop} (hT : ∀ k, T k → w.heap.size ≤ k ∧ k < w1.heap.size) : DedC (fun k => Z k ∨ T k) d C w1 := by
  obtain ⟨ids, s, sh, G, c, d1, dk, d2, d3, d4, d5⟩ := h
  exact ⟨ids, s, sh, G, c, d1, dk, d2, d3, d4, d5.more f hT⟩
/-- what Solve answers -/
def Ans (n : Int) (l : List (List Int)) (b : Bool) (m : Nat) (pv : Value) (w' : World) : Prop :=
  (chkP n l ≠ 0 → b = false ∧ m = 0 ∧ pv = .slice none 0 0) ∧
  (chkP n l = 0 → b = true → pv = .slice none 0 0 ∧ holdsP l m = true ∧ m < 2 ^ n.toNat ∧ ∀ m', holdsP l m' = true → m' < 2 ^ n.toNat → m ≤ m') ∧
  (chkP n l = 0 → b = false → m = 0 ∧ ∃ Q, Refut n.toNat l Q ∧ RowsO w' (fun b => b < w'.heap.size) (Q ++ [[]]) pv)
theorem cls_in {n : Nat} {l : List (List Int)} (h : chkP (n : Int) l = 0) : n ≤ 24 ∧ l.length ≤ 4096 ∧ ∀ c ∈ l, c.length ≤ 64 ∧ ∀ x ∈ c, Ltr x ∧ x.natAbs ≤ n := by
  unfold chkP at h
  split at h
  · cases h
  · rename_i h1
    split at h
    · cases h
    · rename_i h2
      have hb : clsB (n : Int) l = true := by
        cases hq : clsB (n : Int) l with
        | true => rfl
        | false => exact absurd (.inr hq) h2
      refine ⟨by omega, by omega, fun c hc => ?_⟩
      unfold clsB litsB litB at hb
      rw [List.all_eq_true] at hb
      have := hb c hc
      rw [Bool.and_eq_true, List.all_eq_true] at this
      refine ⟨by simpa using this.1, fun x hx => ?_⟩
      have h2 := this.2 x hx
      simp at h2
      unfold Ltr
      omega
set_option maxRecDepth 100000 in
set_option maxHeartbeats 4000000 in
theorem solve_err (l : List (List Int)) (n : Int) (v : Value) (w : World) (hwd : Wide l) (hv : RowsO w (fun b => b < w.heap.size) l v) (hk : chkP n l ≠ 0) :
    Calls Try.prog 41 #[.int .i64 n, v] w fun e w' => e = .returned (.tuple #[.agg #[.bool false, .int .u32 0, .slice none 0 0], .int .i64 (chkP n l)]) ∧ Fr nob w w' := by
  obtain ⟨a, cap, rfl⟩ := hv.form
  obtain ⟨K, hK⟩ : ∃ K, chkP n l = K := ⟨_, rfl⟩
  have A : Fr nob w (w.alloc (.cells #[.bool false, .int .u32 0, .slice none 0 0] 65)) := (Fr.refl nob w).alloc _
  have hC := chk_any l n _ _ _ hwd (belowR A hv)
  rw [hK] at hC hk ⊢
  have HBX := Lib.hid (Box3.new w (.bool false) (.int .u32 0) (.slice none 0 0) 65)
  have HA := Lib.hid A
  have q0 : (K != 0) = true := by simpa using hk
  clear hv hK A hk hwd
  go_enter Try.func41, Try.ntmps41
  go_wp2_with fail
  refine hC.mono ?_
  rintro e w' ⟨rfl, rfl⟩
  clear hC
  generalize w.alloc (.cells #[.bool false, .int .u32 0, .slice none 0 0] 65) = w1 at *
  have d0 := HBX.out.c0
  have d1 := HBX.out.c1
  have d2 := HBX.out.c2
  have df0 := HBX.out.fr 0
  have df1 := HBX.out.fr 1
  have df2 := HBX.out.fr 2
  go_wp2_with fail
  obtain ⟨X, FX⟩ := HBX.out.set (.bool false) (.int .u32 0) (.slice none 0 0)
  clear d0 d1 d2 df0 df1 df2
  generalize ((w1.setCell ⟨w.heap.size, 0, none⟩ (.bool false)).setCell ⟨w.heap.size, 1, none⟩ (.int .u32 0)).setCell ⟨w.heap.size, 2, none⟩ (.slice none 0 0) = w5 at *
  have x0 := X.c0
  have x1 := X.c1
  have x2 := X.c2
  refine bodyPost_ret (v := .tuple #[.agg #[.bool false, .int .u32 0, .slice none 0 0], .int .i64 K]) (by simp [results, Try.results41, go_sem, x0, x1, x2]) rfl ⟨rfl, ?_⟩
  exact HA.out.trans' FX (T := nob) (fun _ _ h => h) (fun k hk h => by have h1 : k = w.heap.size := h; omega)
theorem Box3.set1 {w : World} {g : Nat} {a b c : Value} (h : Box3 w g a b c) (y : Value) : Box3 (w.setCell ⟨g, 1, none⟩ y) g a y c := by
  refine ⟨?_, World.cell?_setCell_same' _ _ _ (by rw [h.c1]; rfl), ?_, fun o => (frozen_setCell _ _ _ _).trans (h.fr o)⟩
  · rw [World.cell?_setCell_other (h := by intro e; injection e with _ e2 _; exact absurd e2 (by decide))]; exact h.c0
  · rw [World.cell?_setCell_other (h := by intro e; injection e with _ e2 _; exact absurd e2 (by decide))]; exact h.c2
theorem wraps32 (n : Int) (h₀ : 0 ≤ n) (h₁ : n < 2 ^ 32) : IntKind.u32.wrap n = n := by rw [IntKind.wrap_u32]; omega
theorem or_u32 {a k : Nat} (hk : k < 24) (ha : a < 2 ^ 24) : bits BinOp.or IntKind.u32 (a : Int) ((2 ^ k : Nat) : Int) = ((a ||| 2 ^ k : Nat) : Int) := by
  have h2 : 2 ^ k < 2 ^ 24 := Nat.pow_lt_pow_right (by omega) hk
  exact (bits_nat .u32 32 (by decide) wraps32 a (2 ^ k) (by omega) (by omega)).2
set_option maxRecDepth 100000 in
set_option maxHeartbeats 4000000 in
theorem solve_ok (l : List (List Int)) (n : Nat) (v : Value) (w : World) (hwd : Wide l) (hv : RowsO w (fun b => b < w.heap.size) l v) (hk : chkP (n : Int) l = 0) (hn : n ≤ 12) :
    Calls Try.prog 41 #[.int .i64 (n : Int), v] w fun e w' => Fr nob w w' ∧ ∃ (b : Bool) (m : Nat) (pv : Value), e = .returned (.tuple #[.agg #[.bool b, .int .u32 (m : Int), pv], .int .i64 0]) ∧ Ans (n : Int) l b m pv w' := by
  obtain ⟨a, cap, rfl⟩ := hv.form
  obtain ⟨_, hl1, hl2⟩ := cls_in hk
  have A : Fr nob w (w.alloc (.cells #[.bool false, .int .u32 0, .slice none 0 0] 65)) := (Fr.refl nob w).alloc _
  have hC := chk_any l n _ _ _ hwd (belowR A hv)
  have hD := deduceC_dm l _ _ (belowR A hv) (fun c hc => ⟨by have := (hl2 c hc).1; omega, fun x hx => ((hl2 c hc).2 x hx).1⟩) (by omega)
  rw [hk] at hC
  have HBX := Lib.hid (Box3.new w (.bool false) (.int .u32 0) (.slice none 0 0) 65)
  have HA := Lib.hid A
  have HK := Lib.hid hk
  have HL1 := Lib.hid hl1
  have HL2 := Lib.hid hl2
  clear hv A hk hwd hl1 hl2
  go_enter Try.func41, Try.ntmps41
  go_wp2_with fail
  refine hC.mono ?_
  rintro e w' ⟨rfl, rfl⟩
  clear hC
  generalize w.alloc (.cells #[.bool false, .int .u32 0, .slice none 0 0] 65) = w1 at *
  go_wp2_with fail
  refine hD.mono ?_
  rintro e w2 ⟨rfl, hR, F2⟩
  have HF2 := Lib.hid (HA.out.trans F2 (fun _ _ h => h))
  have HB2 := Lib.hid (HBX.out.kept F2 (fun h => h))
  have hlt0 : w.heap.size < w1.heap.size := HBX.out.lt
  have hlt : w1.heap.size ≤ w2.heap.size := F2.size
  have hb := heap_alloc_new w2 (.cells #[.pointer (some ⟨w1.heap.size, 0, none⟩), .slice none 0 0] 122)
  have A3 : Fr nob w2 (w2.alloc (.cells #[.pointer (some ⟨w1.heap.size, 0, none⟩), .slice none 0 0] 122)) := (Fr.refl nob w2).alloc _
  have hDM := hR.more A3 (T := fun k => k = w2.heap.size) (fun k hk => ⟨by rw [hk]; exact Nat.le_refl _, by rw [hk]; simp⟩)
  have hS := search_any w1.heap.size w1.heap.size w2.heap.size n l _ hn hDM (fun c hc x hx => ((HL2.out c hc).2 x hx).1) (by have := HL1.out; omega) (by rw [Lib.cell_of_heap hb]; rfl) (by rw [Lib.cell_of_heap hb]; rfl) (by unfold World.frozen?; rw [hb]; rfl) hlt
  have HB3 := Lib.hid (HB2.out.kept A3 (fun h => h))
  have HF3 := Lib.hid (HF2.out.trans A3 (fun _ _ h => h))
  have HLT := Lib.hid (And.intro hlt0 hlt)
  have hsz3 : (w2.alloc (.cells #[.pointer (some ⟨w1.heap.size, 0, none⟩), .slice none 0 0] 122)).heap.size = w2.heap.size + 1 := by simp
  have HSZ3 := Lib.hid hsz3
  clear hD hR F2 HBX hlt0 hlt hb A3 HB2 HF2 hDM hsz3
  go_wp2_with fail
  refine hS.mono ?_
  rintro e w3 ⟨hres, F3⟩
  have HX3 := Lib.hid (HB3.out.kept F3 (fun e => e HLT.out.1))
  have HF4 : Hid (Fr nob w w3) := Lib.hid (HF3.out.trans' F3 (T := nob) (fun _ _ h => h) (fun k hk h => by
    have h2 := HLT.out.1
    have h3 : ¬ k < w1.heap.size := h
    omega))
  have hsz4 := F3.size
  rw [HSZ3.out] at hsz4
  have HSZ4 := Lib.hid hsz4
  clear hS F3 HB3 HF3 hsz4
  rcases hres with ⟨rfl, hY⟩ | ⟨rfl, hN⟩
  · obtain ⟨ids, P, s, sh, G, c, pv, hSea, hSet, hall, hdm, hs0⟩ := hY
    have hleast := hSea.least (by omega) (fun c hc x hx => (HL2.out c hc).2 x hx) hSet hall
    obtain ⟨M, hM⟩ : ∃ M : Nat → Nat, (fun k => modP s.holds k) = M := ⟨_, rfl⟩
    have hM0 : M 0 = 0 := by rw [← hM]; rfl
    have hMlt : ∀ k, k ≤ 12 → M k < 2 ^ 24 := fun k hk => by rw [← hM]; exact Nat.lt_of_lt_of_le modP_lt (Nat.pow_le_pow_right (by omega) (by omega))
    have hMs : ∀ k, M (k + 1) = if s.holds ((k + 1 : Nat) : Int) = true then M k ||| 2 ^ k else M k := fun k => by rw [← hM]; rfl
    have hMn : holdsP l (M n) = true ∧ M n < 2 ^ n ∧ ∀ m', holdsP l m' = true → m' < 2 ^ n → M n ≤ m' := by rw [← hM]; exact ⟨hleast.1, modP_lt, hleast.2⟩
    have A4 : Fr nob w3 (w3.alloc (.cells #[.bool true, .int .u32 0, .slice none 0 0] 65)) := (Fr.refl nob w3).alloc _
    have HT4 := Lib.hid (Box3.new w3 (.bool true) (.int .u32 0) (.slice none 0 0) 65)
    have HX4 := Lib.hid (HX3.out.kept A4 (fun h => h))
    have HS4 := Lib.hid (A4.cell hs0 (fun h => h))
    have HD4 := Lib.hid (hdm.nob A4)
    have HF5 := Lib.hid (HF4.out.trans A4 (fun _ _ h => h))
    have hd3 : w1.heap.size < w3.heap.size := lt_of_cell (hdm.hp.mem 0 (by decide)).1
    have hsb : w2.heap.size < w3.heap.size := lt_of_cell hs0
    have HN := Lib.hid (And.intro HLT.out.1 (And.intro hd3 hsb))
    have HM0 := Lib.hid hM0
    have HML := Lib.hid hMlt
    have HMS := Lib.hid hMs
    have HMN := Lib.hid hMn
    have HHD := Lib.hid hdm.sm.hd
    clear hSea hSet hall hdm hs0 hleast hM hM0 hMlt hMs hMn A4 HX3 HF4 hd3 hsb
    go_wp2_with fail
    generalize w3.alloc (.cells #[.bool true, .int .u32 0, .slice none 0 0] 65) = w4 at *
    go_loopg [28] n (fun m iv wr => ∃ k : Nat, k + m = n ∧ iv = .int .i64 (k : Int) ∧ Box3 wr w3.heap.size (.bool true) (.int .u32 (M k : Int)) (.slice none 0 0) ∧ Box3 wr w.heap.size (.bool false) (.int .u32 0) (.slice none 0 0) ∧ wr.cell? ⟨w2.heap.size, 0, none⟩ = some (.pointer (some ⟨w1.heap.size, 0, none⟩)) ∧ Mem wr w1.heap.size c ∧ Fr nob w wr)
    case atStart => exact ⟨0, by omega, rfl, by rw [HM0.out]; exact HT4.out, HX4.out, HS4.out, HD4.out.hp.mem, HF5.out⟩
    case round =>
      clear HT4 HX4 HS4 HD4 HF5
      obtain ⟨k, hkm, rfl, hT, hX, hs, hMm, hF⟩ := hrel
      have q5 : (0 : Int) ≤ (k : Int) := Int.natCast_nonneg _
      cases gk with
      | zero =>
        obtain rfl : k = n := by omega
        have HX := Lib.hid hX
        have HFr := Lib.hid hF
        have t0 := hT.c0
        have t1 := hT.c1
        have t2 := hT.c2
        have d0 := hX.c0
        have d1 := hX.c1
        have d2 := hX.c2
        have df0 := hX.fr 0
        have df1 := hX.fr 1
        have df2 := hX.fr 2
        obtain ⟨mv, hmv⟩ : ∃ mv, M k = mv := ⟨_, rfl⟩
        rw [hmv] at t1
        have HMV := Lib.hid hmv
        clear hT hX hs hMm hF hmv
        go_wp2_with fail
        obtain ⟨X, FX⟩ := HX.out.set (.bool true) (.int .u32 (mv : Int)) (.slice none 0 0)
        clear d0 d1 d2 df0 df1 df2 t0 t1 t2
        generalize ((wr.setCell ⟨w.heap.size, 0, none⟩ (.bool true)).setCell ⟨w.heap.size, 1, none⟩ (.int .u32 (mv : Int))).setCell ⟨w.heap.size, 2, none⟩ (.slice none 0 0) = w5 at *
        have x0 := X.c0
        have x1 := X.c1
        have x2 := X.c2
        refine bodyPost_ret (v := .tuple #[.agg #[.bool true, .int .u32 (mv : Int), .slice none 0 0], .int .i64 0]) (by simp [results, Try.results41, go_sem, x0, x1, x2]) rfl ⟨?_, true, mv, .slice none 0 0, rfl, ?_⟩
        · exact HFr.out.trans' FX (T := nob) (fun _ _ h => h) (fun k hk h => by have h1 : k = w.heap.size := h; omega)
        · refine ⟨fun e => absurd HK.out e, fun _ _ => ⟨rfl, ?_⟩, (fun _ e => by cases e)⟩
          have := HMN.out
          rw [HMV.out] at this
          exact this
      | succ m =>
        have q6 : (k : Int) < (n : Int) := by omega
        have q7 : (k : Int) ≤ 12 := by omega
        obtain ⟨p, hp⟩ : ∃ p, 25 + k = p := ⟨_, rfl⟩
        have hpl : ∀ w, Calls Try.prog 57 #[.int .i64 ((k : Int) + 1)] w fun e w' => e = .returned (.int .i64 (p : Int)) ∧ w' = w := fun w => (place_any ((k : Int) + 1) (by omega) w).mono (fun _ _ h => ⟨by rw [h.1, show (k : Int) + 1 + 24 = (p : Int) by omega], h.2.symm⟩)
        have p1 : (0 : Int) ≤ (p : Int) := Int.natCast_nonneg _
        have p2 : (p : Int) < 49 := by omega
        have cp := (hMm p (by omega)).1
        rw [HHD.out p (by omega), show (p : Int) - 24 = ((k + 1 : Nat) : Int) by omega] at cp
        have hMsk := HMS.out k
        have D : ∀ nq, Fr nob wr (wr.drewN nq) := fun nq => (Fr.refl nob wr).drewN nq
        have HTd := Lib.hid (fun nq => hT.kept (D nq) (fun h => h))
        have HXd := Lib.hid (fun nq => hX.kept (D nq) (fun h => h))
        have HSd := Lib.hid (fun nq => (D nq).cell hs (fun h => h))
        have HMd := Lib.hid (fun nq => hMm.kept (D nq) (fun h => h))
        have HFd := Lib.hid (fun nq => hF.trans (D nq) (fun _ _ h => h))
        clear hT hX hMm hF D hp
        cases hh : s.holds ((k + 1 : Nat) : Int) with
        | false =>
          rw [hh] at cp hMsk
          simp only [Bool.false_eq_true, if_false] at hMsk
          have HMK := Lib.hid hMsk
          clear hh hMsk
          go_wp2_with fail
          go_quiet (first | (go_at_call 57; exact Calls.quiet_of_same (hpl _)))
          all_goals (
            have HT5 := Lib.hid (HTd.out nq)
            have HX5 := Lib.hid (HXd.out nq)
            have HS5 := Lib.hid (HSd.out nq)
            have HM5 := Lib.hid (HMd.out nq)
            have HF5 := Lib.hid (HFd.out nq)
            clear cp hs HTd HXd HSd HMd HFd
            generalize wr.drewN nq = w5 at *
            go_wp2_with fail
            go_roundg m
            case measure => omega
            case rel => exact ⟨k + 1, by omega, by go_num, by rw [HMK.out]; exact HT5.out, HX5.out, HS5.out, HM5.out, HF5.out⟩)
        | true =>
          rw [hh] at cp hMsk
          simp only [if_true] at hMsk
          have HMK := Lib.hid hMsk
          clear hh hMsk
          go_wp2_with fail
          go_quiet (first | (go_at_call 57; exact Calls.quiet_of_same (hpl _)))
          all_goals (
            have hT5 := HTd.out nq
            have HX5 := Lib.hid (HXd.out nq)
            have HS5 := Lib.hid (HSd.out nq)
            have HM5 := Lib.hid (HMd.out nq)
            have HF5 := Lib.hid (HFd.out nq)
            clear cp hs HTd HXd HSd HMd HFd
            generalize wr.drewN nq = w5 at *
            have D2 : Fr nob w5 w5.drew := (Fr.refl nob w5).drew
            have T2 := hT5.kept D2 (fun h => h)
            have t1 := T2.c1
            have tf := T2.fr 1
            have HT5 := Lib.hid hT5
            obtain ⟨mv, hmv⟩ : ∃ mv, M k = mv := ⟨_, rfl⟩
            rw [hmv] at t1
            have HMV := Lib.hid hmv
            clear D2 T2 hT5 hmv
            go_wp2_with fail
            go_region
            have hbits : bits BinOp.or IntKind.u32 (mv : Int) ((2 : Int) ^ k % 4294967296) = (M (k + 1) : Int) := by
              rw [shl_m (by omega), HMK.out, HMV.out, or_u32 (by omega) (by rw [← HMV.out]; exact HML.out k (by omega))]
            rw [hbits]
            obtain ⟨U, hU⟩ : ∃ U : Value, Value.int .u32 (M (k + 1) : Int) = U := ⟨_, rfl⟩
            rw [hU]
            have S6 : Fr (fun k => k = w3.heap.size) w5 (w5.setCell ⟨w3.heap.size, 1, none⟩ U).drew := (fr_store w5 w3.heap.size 1 U).drew
            have hT6 : Box3 (w5.setCell ⟨w3.heap.size, 1, none⟩ U).drew w3.heap.size (.bool true) (.int .u32 (M (k + 1) : Int)) (.slice none 0 0) := by
              rw [hU]
              exact (HT5.out.set1 U).kept ((Fr.refl nob _).drew) (fun h => h)
            have HT6 := Lib.hid hT6
            obtain ⟨n1, n2, n3⟩ := HN.out
            have HX6 := Lib.hid (HX5.out.kept S6 (show ¬ w.heap.size = w3.heap.size by omega))
            have HS6 := Lib.hid (S6.cell HS5.out (show ¬ w2.heap.size = w3.heap.size by omega))
            have HM6 := Lib.hid (HM5.out.kept S6 (show ¬ w1.heap.size = w3.heap.size by omega))
            have HF6 := Lib.hid (HF5.out.trans' S6 (T := nob) (fun _ _ h => h) (fun k hk h => by have h1 : k = w3.heap.size := h; omega))
            clear t1 tf S6 hT6 n1 n2 n3 HT5 HX5 HS5 HM5 HF5 hbits hU
            generalize (w5.setCell ⟨w3.heap.size, 1, none⟩ U).drew = w6 at *
            go_wp2_with fail
            go_roundg m
            case measure => omega
            case rel => exact ⟨k + 1, by omega, by go_num, HT6.out, HX6.out, HS6.out, HM6.out, HF6.out⟩)
  · obtain ⟨Q, pv, hRef, hp1, hrows⟩ := hN
    obtain ⟨pa, pc, rfl⟩ := hrows.form
    have d0 := HX3.out.c0
    have d1 := HX3.out.c1
    have d2 := HX3.out.c2
    have df0 := HX3.out.fr 0
    have df1 := HX3.out.fr 1
    have df2 := HX3.out.fr 2
    have HREF := Lib.hid hRef
    obtain ⟨qn, hqn⟩ : ∃ qn, (Q ++ [[]]).length = qn := ⟨_, rfl⟩
    rw [hqn] at hp1 hrows
    have HROWS := Lib.hid hrows
    clear hRef hrows hqn
    go_wp2_with fail
    obtain ⟨X, FX⟩ := HX3.out.set (.bool false) (.int .u32 0) (.slice pa qn pc)
    clear d0 d1 d2 df0 df1 df2
    generalize ((w3.setCell ⟨w.heap.size, 0, none⟩ (.bool false)).setCell ⟨w.heap.size, 1, none⟩ (.int .u32 0)).setCell ⟨w.heap.size, 2, none⟩ (.slice pa qn pc) = w5 at *
    have x0 := X.c0
    have x1 := X.c1
    have x2 := X.c2
    refine bodyPost_ret (v := .tuple #[.agg #[.bool false, .int .u32 0, .slice pa qn pc], .int .i64 0]) (by simp [results, Try.results41, go_sem, x0, x1, x2]) rfl ⟨?_, false, 0, .slice pa qn pc, rfl, ?_⟩
    · exact HF4.out.trans' FX (T := nob) (fun _ _ h => h) (fun k hk h => by have h1 : k = w.heap.size := h; omega)
    · refine ⟨fun e => absurd HK.out e, (fun _ e => by cases e), fun _ _ => ⟨rfl, Q, HREF.out, ?_⟩⟩
      exact HROWS.out.kept FX (fun b hb hlt => ⟨fun e => by have h1 : b = w.heap.size := e; have h2 := hb.1; have h3 := HLT.out.1; omega, Nat.lt_of_lt_of_le hlt FX.size⟩)
theorem solve_any (l : List (List Int)) (n : Int) (v : Value) (w : World) (hwd : Wide l) (hv : RowsO w (fun b => b < w.heap.size) l v) (hn : chkP n l = 0 → n ≤ 12) :
    Calls Try.prog 41 #[.int .i64 n, v] w fun e w' => Fr nob w w' ∧ ∃ (b : Bool) (m : Nat) (pv : Value), e = .returned (.tuple #[.agg #[.bool b, .int .u32 (m : Int), pv], .int .i64 (chkP n l)]) ∧ Ans n l b m pv w' := by
  by_cases hk : chkP n l = 0
  · have h0 : 0 ≤ n := by
      unfold chkP at hk
      split at hk
      · cases hk
      · omega
    obtain ⟨N, rfl⟩ : ∃ N : Nat, n = (N : Int) := ⟨n.toNat, by omega⟩
    rw [hk]
    exact solve_ok l N v w hwd hv hk (by have := hn hk; omega)
  · refine (solve_err l n v w hwd hv hk).mono ?_
    rintro e w' ⟨rfl, f⟩
    exact ⟨f, false, 0, .slice none 0 0, rfl, fun _ => ⟨rfl, rfl, rfl⟩, fun h => absurd h hk, fun h => absurd h hk⟩

/-! the reference's verdict on a refutation -/
theorem steps_all {n : Nat} (hn : n ≤ 24) : ∀ (L Q C : List (List Int)) (k : Int), (∀ c ∈ C, ∀ x ∈ c, Ltr x) → (∀ c ∈ L, Inc n c ∧ c ≠ []) → Q.length = L.length → (∀ (i : Nat) c q, L[i]? = some c → Q[i]? = some q → q.Perm c) →
    (∀ (i : Nat) c, L[i]? = some c → Bad (C ++ L.take i) (Least (C ++ L.take i) (ngs c))) → Bad (C ++ L) (Least (C ++ L) []) → stepsP C (Q ++ [[]]) k = -1
  | [], Q, C, k, hC, _, hQ, _, _, hb => by
    obtain rfl : Q = [] := List.eq_nil_of_length_eq_zero (by simpa using hQ)
    rw [List.append_nil] at hb
    show stepsP C [[]] k = -1
    have h1 : confP C (negs []) = true := (conf_iff hC _).2 hb
    rw [stepsP, if_neg (by rw [h1]; decide)]
    rfl
  | c :: L, Q, C, k, hC, hL, hQ, hp, hr, hb => by
    match Q, hQ, hp with
    | [], hQ, _ => simp at hQ
    | q :: Q, hQ, hp =>
      have hqc : q.Perm c := hp 0 c q rfl rfl
      obtain ⟨hi, hne⟩ := hL c (by simp)
      have hql : ∀ x ∈ q, Ltr x := fun x hx => by have := hi.2 x (hqc.mem_iff.1 hx); unfold Ltr; omega
      have h0 := hr 0 c rfl
      rw [List.take_zero, List.append_nil] at h0
      have h1 : confP C (negs q) = true := (conf_iff hC _).2 (h0.cong (fun c hc => ⟨c, hc, fun _ => Iff.rfl⟩) fun x hx => by
        obtain ⟨y, hy, e⟩ := List.mem_map.1 hx
        exact List.mem_map.2 ⟨y, hqc.mem_iff.2 hy, e⟩)
      have hqe : q.isEmpty = false := by
        match q, hqc with
        | [], hqc => exact absurd (List.Perm.nil_eq hqc).symm hne
        | _ :: _, _ => rfl
      have hmem : ∀ D : List (List Int), ∀ c' ∈ C ++ c :: D, ∃ c2 ∈ (C ++ [q]) ++ D, ∀ x, x ∈ c' ↔ x ∈ c2 := fun D c' hc' => by
        rcases List.mem_append.1 hc' with h | h
        · exact ⟨c', by simp [h], fun _ => Iff.rfl⟩
        · rcases List.mem_cons.1 h with h | h
          · exact ⟨q, by simp, fun x => by rw [h]; exact hqc.mem_iff.symm⟩
          · exact ⟨c', by simp [h], fun _ => Iff.rfl⟩
      show stepsP C (q :: (Q ++ [[]])) k = -1
      rw [stepsP, if_neg (by rw [h1]; decide), if_neg (by rw [hqe]; decide)]
      refine steps_all hn L Q (C ++ [q]) (k + 1) (fun c hc => ?_) (fun c hc => hL c (by simp [hc])) (by simpa using hQ) (fun i c q h1 h2 => hp (i + 1) c q (by simpa using h1) (by simpa using h2)) (fun i c' hc' => ?_) ?_
      · rcases List.mem_append.1 hc with h | h
        · exact hC c h
        · simp at h; rw [h]; exact hql
      · have := hr (i + 1) c' (by simpa using hc')
        rw [List.take_succ_cons] at this
        exact this.cong (hmem _) fun _ h => h
      · exact hb.cong (hmem _) fun _ h => h
theorem refut_ver {n : Nat} {l Q : List (List Int)} (hk : chkP (n : Int) l = 0) (h : Refut n l Q) : verP (n : Int) l (Q ++ [[]]) = (-1, 0) ∧ (Q ++ [[]]).length ≤ 2 ^ n + 1 ∧ ∀ r ∈ Q ++ [[]], r.length ≤ 48 := by
  obtain ⟨hn, _, hl⟩ := cls_in hk
  obtain ⟨L, l1, l2, l3, l4, l5, l6⟩ := h
  have hQ : ∀ q ∈ Q, ∃ c ∈ L, q.Perm c := fun q hq => by
    obtain ⟨i, hi⟩ := List.getElem?_of_mem hq
    have hlt := (List.getElem?_eq_some_iff.1 hi).1
    have hc : L[i]? = some L[i] := List.getElem?_eq_getElem (by omega)
    exact ⟨_, List.getElem_mem (by omega), l2 i _ q hc hi⟩
  have hlen : ∀ r ∈ Q ++ [[]], r.length ≤ 48 := fun r hr => by
    rcases List.mem_append.1 hr with hr | hr
    · obtain ⟨c, hc, hp⟩ := hQ r hr
      obtain ⟨hi, _⟩ := l3 c hc
      rw [hp.length_eq]
      exact lits_le (hi.1.imp fun h => by omega) fun x hx => by have := hi.2 x hx; unfold Ltr; omega
    · simp at hr; rw [hr]; decide
  have hcl : clsB (n : Int) (Q ++ [[]]) = true := by
    unfold clsB litsB litB
    rw [List.all_eq_true]
    intro r hr
    rw [Bool.and_eq_true, List.all_eq_true]
    refine ⟨by have := hlen r hr; simp; omega, fun x hx => ?_⟩
    rcases List.mem_append.1 hr with hr | hr
    · obtain ⟨c, hc, hp⟩ := hQ r hr
      have := (l3 c hc).1.2 x (hp.mem_iff.1 hx)
      simp; omega
    · simp at hr; rw [hr] at hx; simp at hx
  refine ⟨?_, by rw [List.length_append, l1]; simp only [List.length_cons, List.length_nil]; omega, hlen⟩
  unfold verP
  rw [if_neg (by rw [hk]; simp), if_neg (by rw [hcl]; simp), steps_all hn L Q l 0 (fun c hc x hx => ((hl c hc).2 x hx).1) l3 l1 l2 l5 l6]
end Go.Proofs.Ytaojojjdfdlgpaa
