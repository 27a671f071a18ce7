import Derived.Test.YtalnhlebgofiiaaGreatDoorRefH
import Derived.Laws.BitsAllLaws
import Derived.Test.YtalnhlebgofiiaaGreatDoorOne
namespace Go.Proofs.YtalnhlebgofiiaaGreatDoor
open Go.RowKit
open Bd

/-! Exists and Forall of the reference: whether a configuration of V has, among those that differ from it in the mask alone, one in the set, or only such -/
def agr (V : List Nat) (mask : Nat) (c : Cfg) (m : Nat) : Bool := V.all fun v => mask.testBit v || (c v == (cfgN V m).testBit v)
def chK (V : List Nat) (f : Cfg → Bool) (mask : Nat) (every : Bool) (c : Cfg) (m : Nat) : Bool :=
  if every then (List.range m).all fun j => !agr V mask c j || f (bitsOf (cfgN V j)) else (List.range m).any fun j => agr V mask c j && f (bitsOf (cfgN V j))
def chF (V : List Nat) (f : Cfg → Bool) (mask : Nat) (every : Bool) (c : Cfg) : Bool := chK V f mask every c (2 ^ V.length)
theorem chK_zero (V : List Nat) (f : Cfg → Bool) (mask : Nat) (every : Bool) (c : Cfg) : chK V f mask every c 0 = every := by cases every <;> rfl
theorem chK_skip {V : List Nat} {f : Cfg → Bool} {mask : Nat} {every : Bool} {c : Cfg} {m : Nat} (h : agr V mask c m = false) : chK V f mask every c (m + 1) = chK V f mask every c m := by
  cases every <;> simp [chK, List.range_succ, h]
theorem chK_all {V : List Nat} {f : Cfg → Bool} {mask : Nat} {c : Cfg} {m : Nat} (h : agr V mask c m = true) : chK V f mask true c (m + 1) = (chK V f mask true c m && f (bitsOf (cfgN V m))) := by
  simp [chK, List.range_succ, h]
theorem chK_any {V : List Nat} {f : Cfg → Bool} {mask : Nat} {c : Cfg} {m : Nat} (h : agr V mask c m = true) : chK V f mask false c (m + 1) = (chK V f mask false c m || f (bitsOf (cfgN V m))) := by
  simp [chK, List.range_succ, h]
theorem agr_congr {V : List Nat} {mask : Nat} {c d : Cfg} (h : ∀ i ∈ V, c i = d i) (m : Nat) : agr V mask c m = agr V mask d m := by
  unfold agr
  rw [Bool.eq_iff_iff]
  simp only [List.all_eq_true]
  exact ⟨fun hh v hv => by rw [← h v hv]; exact hh v hv, fun hh v hv => by rw [h v hv]; exact hh v hv⟩
theorem chF_on (V : List Nat) (f : Cfg → Bool) (mask : Nat) (every : Bool) : onV V (chF V f mask every) := fun c d h => by
  unfold chF chK
  simp only [agr_congr h]
theorem agr_iff {V : List Nat} (hV : rising V) {mask k m : Nat} (hm : mask < 4294967296) : agr V mask (bitsOf (cfgN V k)) m = true ↔ (cfgN V k) &&& (4294967295 - mask) = (cfgN V m) &&& (4294967295 - mask) := by
  have hb : ∀ i, (4294967295 - mask).testBit i = (decide (i < 32) && !mask.testBit i) := fun i => by
    rw [show 4294967295 - mask = 2 ^ 32 - (mask + 1) by omega]
    exact Nat.testBit_two_pow_sub_succ hm i
  have hout : ∀ q i, i ∉ V → (cfgN V q).testBit i = false := fun q i hi => by
    cases e : (cfgN V q).testBit i with
    | false => rfl
    | true =>
      obtain ⟨j, hj, _⟩ := (cfgN_bit q hV.1 i).1 e
      exact absurd (List.mem_of_getElem? hj) hi
  unfold agr
  rw [List.all_eq_true]
  constructor
  · intro h
    apply Nat.eq_of_testBit_eq
    intro i
    rw [Nat.testBit_and, Nat.testBit_and, hb]
    by_cases hi : i ∈ V
    · have := h i hi
      simp only [bitsOf, Bool.or_eq_true, beq_iff_eq] at this
      rcases this with h1 | h1
      · rw [h1]; simp
      · rw [h1]
    · rw [hout k i hi, hout m i hi]
  · intro h v hv
    have h24 := hV.2 v hv
    have := congrArg (fun x => x.testBit v) h
    simp only [Nat.testBit_and, hb] at this
    rw [decide_eq_true (show v < 32 by omega)] at this
    simp only [bitsOf, Bool.or_eq_true, beq_iff_eq]
    cases e : mask.testBit v with
    | true => exact .inl rfl
    | false => rw [e] at this; exact .inr (by simpa using this)
theorem ch_any {V : List Nat} {f : Cfg → Bool} (hV : rising V) (hf : onV V f) (mask : Nat) (c : Cfg) : chF V f mask false c = true ↔ ∃ d : Cfg, (∀ j, j < 24 → mask.testBit j = false → c j = d j) ∧ f d = true := by
  unfold chF chK agr
  simp only [Bool.false_eq_true, if_false, List.any_eq_true, List.mem_range, Bool.and_eq_true, List.all_eq_true, Bool.or_eq_true, beq_iff_eq]
  constructor
  · rintro ⟨m, _, h, hm⟩
    refine ⟨fun j => if j ∈ V then (cfgN V m).testBit j else c j, fun j _ hj => ?_, ?_⟩
    · show c j = if j ∈ V then _ else _
      split
      · rename_i hv
        rcases h j hv with h1 | h1
        · rw [hj] at h1; cases h1
        · exact h1
      · rfl
    · rw [← hm]
      exact hf _ _ fun i hi => by simp [hi, bitsOf]
  · rintro ⟨d, h, hd⟩
    obtain ⟨k, hk, hkd⟩ := num_ex V hV d
    refine ⟨k, hk, fun v hv => ?_, by rw [← hd]; exact hf _ _ hkd⟩
    cases e : mask.testBit v with
    | true => exact .inl rfl
    | false => exact .inr ((h v (hV.2 v hv) e).trans (hkd v hv).symm)
theorem ch_neg (V : List Nat) (f : Cfg → Bool) (mask : Nat) (c : Cfg) : chF V f mask true c = !chF V (fun c => !f c) mask false c := by
  unfold chF chK
  simp only [if_true, Bool.false_eq_true, if_false]
  generalize 2 ^ V.length = n
  induction n with
  | zero => rfl
  | succ n ih =>
    simp only [List.range_succ, List.all_append, List.any_append, ih, Bool.not_or]
    simp
theorem ch_all {V : List Nat} {f : Cfg → Bool} (hV : rising V) (hf : onV V f) (mask : Nat) (c : Cfg) : chF V f mask true c = true ↔ ∀ d : Cfg, (∀ j, j < 24 → mask.testBit j = false → c j = d j) → f d = true := by
  rw [ch_neg, Bool.not_eq_true', ← Bool.not_eq_true, ch_any hV (fun a b h => by rw [hf a b h])]
  constructor
  · intro h d hd
    cases e : f d with
    | true => rfl
    | false => exact absurd ⟨d, hd, by rw [e]; rfl⟩ h
  · rintro h ⟨d, h1, h2⟩
    rw [h d h1] at h2; cases h2

set_option maxRecDepth 100000 in
set_option maxHeartbeats 2000000 in
theorem RChanged_any (V : List Nat) (f : Cfg → Bool) (mask : Nat) (hm32 : mask < 4294967296) (every : Bool) (va : Value) (w : World) (hsa : RSet w va V f) : Calls Tryz.prog 85 #[va, .int .u32 (mask : Int), .bool every] w fun e w' => ∃ v', e = .returned v' ∧ RSet w' v' V (chF V f mask every) ∧ Below w.heap.size w w' := by
  obtain ⟨hV, hf, sa, ta, rfl, ha1, ha2⟩ := id hsa
  have hon := chF_on V f mask every
  have hl := rising_len hV
  have hTl := tab_length V (chF V f mask every)
  have hTk : ∀ k (hk : k < (tab V (chF V f mask every)).length), (tab V (chF V f mask every))[k] = chF V f mask every (bitsOf (cfgN V k)) := fun k hk => by
    have := tab_at (V := V) (f := chF V f mask every) (by rw [← hTl]; exact hk)
    exact (List.getElem?_eq_some_iff.1 this).2
  obtain ⟨T, hT⟩ : ∃ T, T = tab V (chF V f mask every) := ⟨_, rfl⟩
  rw [← hT] at hTl hTk
  have hTk' : ∀ k (hk : k < T.length), T[k] = chK V f mask every (bitsOf (cfgN V k)) T.length := fun k hk => by rw [hTk k hk, chF, hTl]
  have hFk : ∀ k, k < T.length → ((tab V f).map Value.bool)[k]? = some (.bool (f (bitsOf (cfgN V k)))) := fun k hk => by
    rw [List.getElem?_map, tab_at (by rw [← hTl]; exact hk)]; rfl
  have HF := Lib.hid hT
  have Htl := Lib.hid hTl
  have HTk := Lib.hid hTk'
  have HFk := Lib.hid hFk
  have hpow : 2 ^ V.length ≤ 16777216 := Nat.pow_le_pow_right (by omega) hl
  have hT16 : T.length ≤ 16777216 := by omega
  have hk62 : ∀ k, k < T.length → k < 2 ^ 62 := fun k hk => Nat.lt_of_lt_of_le hk (Nat.le_trans hT16 (by decide))
  have Hk62 := Lib.hid hk62
  clear hT hTl hTk hTk' hFk hk62 hpow
  obtain ⟨qa, ca, rfl⟩ := ha1.form
  obtain ⟨qt, ct, rfl⟩ := ha2.form
  simp only [List.length_map] at ha1 ha2 hsa ⊢
  have hn3 : (tab V f).length = T.length := by rw [tab_length, Htl.out]
  rw [hn3] at ha2 hsa ⊢
  clear hn3
  obtain ⟨a0, a1⟩ := two_cells' w (.slice qa V.length ca) (.slice qt T.length ct) 36
  obtain ⟨r0, r1⟩ := two_cells' (w.alloc (.cells #[.slice qa V.length ca, .slice qt T.length ct] 36)) (.slice none 0 0) (.slice none 0 0) 36
  replace a0 := cell_alloc_l a0 (.cells #[.slice none 0 0, .slice none 0 0] 36)
  replace a1 := cell_alloc_l a1 (.cells #[.slice none 0 0, .slice none 0 0] 36)
  have fr : Fr nob w ((w.alloc (.cells #[.slice qa V.length ca, .slice qt T.length ct] 36)).alloc (.cells #[.slice none 0 0, .slice none 0 0] 36)) := ((Fr.refl nob w).alloc _).alloc _
  have hfz : ∀ o, ((w.alloc (.cells #[.slice qa V.length ca, .slice qt T.length ct] 36)).alloc (.cells #[.slice none 0 0, .slice none 0 0] 36)).frozen? ⟨w.heap.size + 1, o, none⟩ = false := fun o => World.frozen?_alloc_at _ _ _ _ (by simp)
  simp only [World.size_alloc] at a0 a1 r0 r1
  go_enter Tryz.func85, Tryz.ntmps85
  go_wp2_with fail
  generalize ((w.alloc (.cells #[.slice qa V.length ca, .slice qt T.length ct] 36)).alloc (.cells #[.slice none 0 0, .slice none 0 0] 36)) = W0 at *
  refine (Blank_len V.length T.length hl Htl.out qa ca _).mono ?_
  rintro e w2 ⟨g, rfl, row2, hb2⟩
  have fr2 : Fr nob W0 w2 := (Fr.refl nob _).below hb2
  replace a0 := fr2.cell' a0 (fun h => h)
  replace a1 := fr2.cell' a1 (fun h => h)
  have f0 := (fr2.frozen (p := ⟨w.heap.size + 1, 0, none⟩) (lt_of_cell r0) (fun h => h)).trans (hfz 0)
  have f1 := (fr2.frozen (p := ⟨w.heap.size + 1, 1, none⟩) (lt_of_cell r1) (fun h => h)).trans (hfz 1)
  have lw1 := lt_of_cell r0
  simp only at lw1
  replace r0 := fr2.cell' r0 (fun h => h)
  replace r1 := fr2.cell' r1 (fun h => h)
  have frw := fr.trans fr2 (fun _ _ h => h)
  obtain ⟨S0, hg1, hg2⟩ := FillSt.start (sv := .slice qa V.length ca) (T0 := 36) rfl row2
  have fr3 : Fr nob w2 (w2.alloc (.cells #[.slice qa V.length ca, .slice (some ⟨g, 0, none⟩) T.length T.length] 36)) := (Fr.refl nob w2).alloc _
  clear row2 fr2 hb2 hfz fr
  go_wp2_with fail
  generalize w2.alloc (.cells #[.slice qa V.length ca, .slice (some ⟨g, 0, none⟩) T.length T.length] 36) = W3 at *
  replace a0 := fr3.cell' a0 (fun h => h)
  replace a1 := fr3.cell' a1 (fun h => h)
  replace f0 := (fr3.frozen (p := ⟨w.heap.size + 1, 0, none⟩) (lt_of_cell r0) (fun h => h)).trans f0
  replace f1 := (fr3.frozen (p := ⟨w.heap.size + 1, 1, none⟩) (lt_of_cell r1) (fun h => h)).trans f1
  have lw2 := lt_of_cell r0
  simp only at lw2
  replace r0 := fr3.cell' r0 (fun h => h)
  replace r1 := fr3.cell' r1 (fun h => h)
  replace frw := frw.trans fr3 (fun _ _ h => h)
  have z3 := fr3.size
  clear fr3
  go_loopw [8] (fun kv wr => ∃ k : Nat, k ≤ T.length ∧ kv = ik k ∧ FillSt W3 w2.heap.size g (.slice qa V.length ca) T k wr) (fun kv _ => T.length - (intOf kv).toNat)
  case atStart => exact ⟨0, Nat.zero_le _, rfl, S0⟩
  case round =>
    clear S0
    obtain ⟨k, hk, rfl, S⟩ := hrel
    have hBr : Below w.heap.size w wr := (frw.trans' S.fr (T := fun k => w.heap.size ≤ k) (fun _ _ h => h.elim) (fun j hj e => by omega)).to_below (Nat.le_refl _) (fun _ h => h)
    replace a0 := S.fr.cell' a0 (by omega)
    replace a1 := S.fr.cell' a1 (by omega)
    have o0 := S.o0
    have o1 := S.o1
    by_cases hlt : k < T.length
    · have hsr : SRow wr (.slice qa V.length ca) (V.map ik) := ha1.below hBr
      have hst : SRow wr (.slice qt T.length ct) ((tab V f).map .bool) := ha2.below hBr
      have hcf := Config_any V hV k (Hk62.out k hlt) (.slice qa V.length ca) wr hsr
      have hc24 := cfgN_lt hV k
      have hxy := HTk.out k hlt
      have HA : ∀ m, (agr V mask (bitsOf (cfgN V k)) m = true ↔ (cfgN V k) &&& (4294967295 - mask) = (cfgN V m) &&& (4294967295 - mask)) := fun m => agr_iff hV hm32
      generalize cfgN V k = cc at *
      have hc32 : cc < 2 ^ 32 := Nat.lt_of_lt_of_le hc24 (by decide)
      go_wp2_with fail
      refine hcf.mono ?_
      rintro e wr' ⟨rfl, rfl⟩
      clear hcf
      have HX := Lib.hid hxy
      have HO := Lib.hid (u32_andNot_nat cc mask (by omega) hm32)
      clear hxy
      have HAA := Lib.hid HA
      clear HA
      generalize bitsOf cc = C at *
      go_wp2_with fail
      go_loop [10, 11] (fun iv mv => ∃ m : Nat, m ≤ T.length ∧ mv = ik m ∧ iv = .bool (chK V f mask every C m)) (fun _ mv => T.length - (intOf mv).toNat)
      case atStart => exact ⟨0, Nat.zero_le _, rfl, by rw [chK_zero]⟩
      case round =>
        obtain ⟨m, hm, rfl, rfl⟩ := hrel
        by_cases hlt2 : m < T.length
        · have hcf2 := Config_any V hV m (Hk62.out m hlt2) (.slice qa V.length ca) wr hsr
          have hcm := cfgN_lt hV m
          have HA := HAA.out m
          obtain ⟨gt, rfl, hcell⟩ := hst.at (HFk.out m hlt2)
          have HO2 := Lib.hid (u32_andNot_nat (cfgN V m) mask (by omega) hm32)
          generalize hcmv : cfgN V m = cm at *
          cases hag : agr V mask C m with
          | false =>
            have e1 := chK_skip (f := f) (every := every) hag
            have hne : ¬ (cc &&& (4294967295 - mask) = cm &&& (4294967295 - mask)) := fun e => by rw [HA.2 e] at hag; cases hag
            have HE := Lib.hid e1
            clear e1 HA
            go_wp2_with fail
            refine hcf2.mono ?_
            rintro e wr' ⟨rfl, rfl⟩
            clear hcf2

            have hO1 := HO.out
            have hO2 := HO2.out
            go_wp2_with fail
            refine ⟨⟨m + 1, by omega, by go_num, by rw [HE.out]⟩, by simp [intOf]; omega⟩
          | true =>
            have heq := HA.1 hag
            clear HA
            cases every with
            | true =>
              have e1 := chK_all (f := f) hag
              rw [hcmv] at e1
              cases hin : chK V f mask true C m with
              | true =>
                rw [hin, Bool.true_and] at e1
                have HE := Lib.hid e1
                clear e1 hin
                go_wp2_with fail
                refine hcf2.mono ?_
                rintro e wr' ⟨rfl, rfl⟩
                clear hcf2
                have hO1 := HO.out
                have hO2 := HO2.out
                go_wp2_with fail
                refine ⟨⟨m + 1, by omega, by go_num, by rw [HE.out]⟩, by simp [intOf]; omega⟩
              | false =>
                rw [hin, Bool.false_and] at e1
                have HE := Lib.hid e1
                clear e1 hin
                go_wp2_with fail
                refine hcf2.mono ?_
                rintro e wr' ⟨rfl, rfl⟩
                clear hcf2
                have hO1 := HO.out
                have hO2 := HO2.out
                go_wp2_with fail
                refine ⟨⟨m + 1, by omega, by go_num, by rw [HE.out]⟩, by simp [intOf]; omega⟩
            | false =>
              have e1 := chK_any (f := f) hag
              rw [hcmv] at e1
              cases hin : chK V f mask false C m with
              | true =>
                rw [hin, Bool.true_or] at e1
                have HE := Lib.hid e1
                clear e1 hin
                go_wp2_with fail
                refine hcf2.mono ?_
                rintro e wr' ⟨rfl, rfl⟩
                clear hcf2
                have hO1 := HO.out
                have hO2 := HO2.out
                go_wp2_with fail
                refine ⟨⟨m + 1, by omega, by go_num, by rw [HE.out]⟩, by simp [intOf]; omega⟩
              | false =>
                rw [hin, Bool.false_or] at e1
                have HE := Lib.hid e1
                clear e1 hin
                go_wp2_with fail
                refine hcf2.mono ?_
                rintro e wr' ⟨rfl, rfl⟩
                clear hcf2
                have hO1 := HO.out
                have hO2 := HO2.out
                go_wp2_with fail
                refine ⟨⟨m + 1, by omega, by go_num, by rw [HE.out]⟩, by simp [intOf]; omega⟩
        · obtain rfl : m = T.length := by omega
          have hSp := S.put hlt HX.out
          have hfz := S.row.frozenAt k
          have hok : (wr.cell? ⟨g, k, none⟩).isSome = true := by
            rw [S.row.cellAt k (by omega)]
            have : k < (part T k).length := by rw [part_length _ _ (by omega)]; exact hlt
            simp [this]
          obtain ⟨yv, hyv⟩ := Option.isSome_iff_exists.1 hok
          clear hok HX
          go_wp2_with fail
          refine ⟨⟨k + 1, by omega, by go_num, hSp⟩, by simp [intOf]; omega⟩
    · obtain rfl : k = T.length := by omega
      have s0 := S.fr.cell' r0 (by omega)
      have s1 := S.fr.cell' r1 (by omega)
      have sf0 := (S.fr.frozen (p := ⟨w.heap.size + 1, 0, none⟩) (lt_of_cell r0) (by simp; omega)).trans f0
      have sf1 := (S.fr.frozen (p := ⟨w.heap.size + 1, 1, none⟩) (lt_of_cell r1) (by simp; omega)).trans f1
      have hd := S.done
      have hfw := frw.trans' S.fr (T := fun k => w.heap.size ≤ k) (fun _ _ h => h.elim) (fun j hj e => by omega)
      clear S hBr r0 r1 f0 f1
      go_wp2_with fail
      have hBf := (((hfw.setCell (p := ⟨w.heap.size + 1, 0, none⟩) (by simp) (.slice qa V.length ca)).setCell (p := ⟨w.heap.size + 1, 1, none⟩) (by simp) (.slice (some ⟨g, 0, none⟩) T.length T.length)).to_below (Nat.le_refl _) (fun _ h => h))
      refine bodyPost_ret (v := .agg #[.slice qa V.length ca, .slice (some ⟨g, 0, none⟩) T.length T.length]) (by simp [results, Tryz.results85, go_sem, s0, s1]) rfl ⟨_, rfl, ⟨hV, hon, _, _, rfl, ha1.below hBf, ?_⟩, hBf⟩
      rw [← HF.out]
      exact (hd.store (by omega) 0 _).store (by omega) 1 _
end Go.Proofs.YtalnhlebgofiiaaGreatDoor
namespace Go.Proofs.YtalnhlebgofiiaaGreatDoor
open Go.RowKit
open Bd

/-! Between of the reference -/
def btF (U : List Nat) (lo hi : Int) (c : Cfg) : Bool := decide (lo ≤ (U.countP c : Int)) && decide ((U.countP c : Int) ≤ hi)
theorem countP_cfg {U : List Nat} {c d : Cfg} (h : ∀ i ∈ U, c i = d i) : U.countP c = U.countP d := List.countP_congr fun i hi => by rw [h i hi]
theorem btF_on (U : List Nat) (lo hi : Int) : onV U (btF U lo hi) := fun c d h => by unfold btF; rw [countP_cfg h]
theorem feat_cnt {U : List Nat} (hU : rising U) (k : Nat) : (featL (cfgN U k)).length = U.countP (bitsOf (cfgN U k)) := by
  rw [List.countP_eq_length_filter]
  apply List.Perm.length_eq
  refine (List.perm_ext_iff_of_nodup ?_ ?_).2 fun i => ?_
  · exact ((rising_featL _).1.imp fun h => Nat.ne_of_lt h)
  · exact (hU.1.imp fun h => Nat.ne_of_lt h).filter _
  · rw [mem_featL, List.mem_filter]
    show _ ↔ i ∈ U ∧ (cfgN U k).testBit i = true
    constructor
    · rintro ⟨_, h⟩
      obtain ⟨j, hj, _⟩ := (cfgN_bit k hU.1 i).1 h
      exact ⟨List.mem_of_getElem? hj, h⟩
    · rintro ⟨h1, h2⟩
      exact ⟨hU.2 i h1, h2⟩

set_option maxRecDepth 100000 in
set_option maxHeartbeats 2000000 in
theorem RBetween_any (m : Nat) (hm : m < 2 ^ 32) (lo hi : Int) (w : World) : Calls Tryz.prog 86 #[.int .u32 (m : Int), .int .i64 lo, .int .i64 hi] w fun e w' => ∃ v', e = .returned v' ∧ RSet w' v' (featL m) (btF (featL m) lo hi) ∧ Below w.heap.size w w' := by
  have hU := rising_featL m
  have hcon := btF_on (featL m) lo hi
  have hl := rising_len hU
  have hTl := tab_length (featL m) (btF (featL m) lo hi)
  have hTk : ∀ k (hk : k < (tab (featL m) (btF (featL m) lo hi)).length), (tab (featL m) (btF (featL m) lo hi))[k] = btF (featL m) lo hi (bitsOf (cfgN (featL m) k)) := fun k hk => by
    have := tab_at (V := featL m) (f := btF (featL m) lo hi) (by rw [← hTl]; exact hk)
    exact (List.getElem?_eq_some_iff.1 this).2
  obtain ⟨T, hT⟩ : ∃ T, T = tab (featL m) (btF (featL m) lo hi) := ⟨_, rfl⟩
  rw [← hT] at hTl hTk
  have HF := Lib.hid hT
  have Htl := Lib.hid hTl
  have HTk := Lib.hid hTk
  have hpow : 2 ^ (featL m).length ≤ 16777216 := Nat.pow_le_pow_right (by omega) hl
  have hT16 : T.length ≤ 16777216 := by omega
  have hk62 : ∀ k, k < T.length → k < 2 ^ 62 := fun k hk => Nat.lt_of_lt_of_le hk (Nat.le_trans hT16 (by decide))
  have Hk62 := Lib.hid hk62
  clear hT hTl hTk hk62 hpow
  obtain ⟨r0, r1⟩ := two_cells' w (.slice none 0 0) (.slice none 0 0) 36
  have fr : Fr nob w (w.alloc (.cells #[.slice none 0 0, .slice none 0 0] 36)) := (Fr.refl nob w).alloc _
  have hfz : ∀ o, (w.alloc (.cells #[.slice none 0 0, .slice none 0 0] 36)).frozen? ⟨w.heap.size, o, none⟩ = false := fun o => World.frozen?_alloc_at _ _ _ _ (by simp)
  have hfe := Features_any m hm
  generalize featL m = U at *
  go_enter Tryz.func86, Tryz.ntmps86
  go_wp2_with fail
  generalize w.alloc (.cells #[.slice none 0 0, .slice none 0 0] 36) = W0 at *
  refine (hfe _).mono ?_
  clear hfe
  rintro e w1 ⟨v1, rfl, hs1, hb⟩
  have fr1 : Fr nob W0 w1 := (Fr.refl nob _).below hb
  have f0 := (fr1.frozen (p := ⟨w.heap.size, 0, none⟩) (lt_of_cell r0) (fun h => h)).trans (hfz 0)
  have f1 := (fr1.frozen (p := ⟨w.heap.size, 1, none⟩) (lt_of_cell r1) (fun h => h)).trans (hfz 1)
  replace r0 := fr1.cell' r0 (fun h => h)
  replace r1 := fr1.cell' r1 (fun h => h)
  have frw := fr.trans fr1 (fun _ _ h => h)
  obtain ⟨qv, cv, rfl⟩ := hs1.form
  rw [List.length_map] at hs1 ⊢
  have hsw1 := hs1
  have r0w := r0
  clear fr fr1 hb hfz
  go_wp2_with fail
  refine (Blank_len U.length T.length hl Htl.out qv cv _).mono ?_
  rintro e w2 ⟨g, rfl, row2, hb2⟩
  have fr2 : Fr nob w1 w2 := (Fr.refl nob _).below hb2
  replace f0 := (fr2.frozen (p := ⟨w.heap.size, 0, none⟩) (lt_of_cell r0) (fun h => h)).trans f0
  replace f1 := (fr2.frozen (p := ⟨w.heap.size, 1, none⟩) (lt_of_cell r1) (fun h => h)).trans f1
  have lw1 := lt_of_cell r0
  simp only at lw1
  replace r0 := fr2.cell' r0 (fun h => h)
  replace r1 := fr2.cell' r1 (fun h => h)
  replace frw := frw.trans fr2 (fun _ _ h => h)
  replace hs1 := hs1.kept fr2
  obtain ⟨S0, hg1, hg2⟩ := FillSt.start (sv := .slice qv U.length cv) (T0 := 36) rfl row2
  have fr3 : Fr nob w2 (w2.alloc (.cells #[.slice qv U.length cv, .slice (some ⟨g, 0, none⟩) T.length T.length] 36)) := (Fr.refl nob w2).alloc _
  clear row2 fr2 hb2
  go_wp2_with fail
  generalize w2.alloc (.cells #[.slice qv U.length cv, .slice (some ⟨g, 0, none⟩) T.length T.length] 36) = W3 at *
  replace f0 := (fr3.frozen (p := ⟨w.heap.size, 0, none⟩) (lt_of_cell r0) (fun h => h)).trans f0
  replace f1 := (fr3.frozen (p := ⟨w.heap.size, 1, none⟩) (lt_of_cell r1) (fun h => h)).trans f1
  have lw2 := lt_of_cell r0
  simp only at lw2
  replace r0 := fr3.cell' r0 (fun h => h)
  replace r1 := fr3.cell' r1 (fun h => h)
  have hs3 := hs1.kept fr3
  replace frw := frw.trans fr3 (fun _ _ h => h)
  have z3 := fr3.size
  clear fr3 hs1
  go_loopw [8] (fun kv wr => ∃ k : Nat, k ≤ T.length ∧ kv = ik k ∧ FillSt W3 w2.heap.size g (.slice qv U.length cv) T k wr) (fun kv _ => T.length - (intOf kv).toNat)
  case atStart => exact ⟨0, Nat.zero_le _, rfl, S0⟩
  case round =>
    clear S0
    obtain ⟨k, hk, rfl, S⟩ := hrel
    have o0 := S.o0
    have o1 := S.o1
    by_cases hlt : k < T.length
    · have hsr : SRow wr (.slice qv U.length cv) (U.map ik) := hsw1.keep2 hs3 S.fr hg1
      have hcf := Config_any U hU k (Hk62.out k hlt) (.slice qv U.length cv) wr hsr
      have hc24 := cfgN_lt hU k
      have hxy := HTk.out k hlt
      have hcn := feat_cnt hU k
      generalize cfgN U k = cc at *
      have hc32 : cc < 2 ^ 32 := Nat.lt_of_lt_of_le hc24 (by decide)
      have hfc := Features_any cc hc32
      have hlen : (featL cc).length ≤ 24 := rising_len (rising_featL cc)
      unfold btF at hxy
      rw [← hcn] at hxy
      clear hcn
      generalize hLc : (featL cc).map ik = LC at *
      have hLn : LC.length = (featL cc).length := by rw [← hLc, List.length_map]
      clear hLc
      generalize (featL cc).length = nn at *
      go_wp2_with fail
      refine hcf.mono ?_
      rintro e wr' ⟨rfl, rfl⟩
      clear hcf
      go_wp2_with fail
      refine (hfc _).mono ?_
      rintro e w5 ⟨v5, rfl, hs5, hb5⟩
      clear hfc
      obtain ⟨q5, c5, rfl⟩ := hs5.form
      obtain rfl := hLn
      have S5 := S.kept ((Fr.refl nob _).below hb5)
      clear S hs5 hb5 o0 o1
      have o0 := S5.o0
      have o1 := S5.o1
      have hSp := S5.put hlt hxy
      have hfz := S5.row.frozenAt k
      have hok : (w5.cell? ⟨g, k, none⟩).isSome = true := by
        rw [S5.row.cellAt k (by omega)]
        have : k < (part T k).length := by rw [part_length _ _ (by omega)]; exact hlt
        simp [this]
      obtain ⟨yv, hyv⟩ := Option.isSome_iff_exists.1 hok
      clear S5 hok hxy hsr
      by_cases p1 : lo ≤ (LC.length : Int)
      · rw [decide_eq_true p1, Bool.true_and] at hSp
        go_wp2_with fail
        refine ⟨⟨k + 1, by omega, by go_num, hSp⟩, by simp [intOf]; omega⟩
      · rw [decide_eq_false p1, Bool.false_and] at hSp
        go_wp2_with fail
        refine ⟨⟨k + 1, by omega, by go_num, hSp⟩, by simp [intOf]; omega⟩
    · obtain rfl : k = T.length := by omega
      have s0 := S.fr.cell' r0 (by omega)
      have s1 := S.fr.cell' r1 (by omega)
      have sf0 := (S.fr.frozen (p := ⟨w.heap.size, 0, none⟩) (lt_of_cell r0) (by simp; omega)).trans f0
      have sf1 := (S.fr.frozen (p := ⟨w.heap.size, 1, none⟩) (lt_of_cell r1) (by simp; omega)).trans f1
      have hd := S.done
      have hfw := frw.trans' S.fr (T := fun k => w.heap.size ≤ k) (fun _ _ h => h.elim) (fun j hj e => by omega)
      have hsr : SRow wr (.slice qv U.length cv) (U.map ik) := hsw1.keep2 hs3 S.fr hg1
      clear S r0 r1 f0 f1
      go_wp2_with fail
      refine bodyPost_ret (v := .agg #[.slice qv U.length cv, .slice (some ⟨g, 0, none⟩) T.length T.length]) (by simp [results, Tryz.results86, go_sem, s0, s1]) rfl ⟨_, rfl, ⟨hU, hcon, _, _, rfl, ?_, ?_⟩, ?_⟩
      · exact SRow.store2 hsw1 (SRow.store2 hsw1 hsr r0w 0 _) r0w 1 _
      · rw [← HF.out]
        exact (hd.store (by omega) 0 _).store (by omega) 1 _
      · exact ((hfw.setCell (p := ⟨w.heap.size, 0, none⟩) (by simp) _).setCell (p := ⟨w.heap.size, 1, none⟩) (by simp) _).to_below (Nat.le_refl _) (fun _ h => h)
end Go.Proofs.YtalnhlebgofiiaaGreatDoor
namespace Go.Proofs.YtalnhlebgofiiaaGreatDoor
open Go.RowKit Go.Shelf
open Bd

/-! Costs, Cost, Linear of the reference -/
def sumC (g : Nat → Int) (c : Cfg) : Nat → Int
  | 0 => 0
  | n + 1 => sumC g c n + if c n then g n else 0
theorem sumC_bound {g : Nat → Int} (hg : ∀ j, -2147483648 ≤ g j ∧ g j ≤ 2147483648) (c : Cfg) : ∀ n : Nat, -((n : Int) * 2147483648) ≤ sumC g c n ∧ sumC g c n ≤ (n : Int) * 2147483648
  | 0 => by simp [sumC]
  | n + 1 => by
    have ih := sumC_bound hg c n
    have h := hg n
    unfold sumC
    rw [show ((n + 1 : Nat) : Int) * 2147483648 = (n : Int) * 2147483648 + 2147483648 by omega]
    split <;> omega
theorem sumC_congr {g h : Nat → Int} {c d : Cfg} : ∀ n, (∀ j, j < n → (if c j then g j else 0) = (if d j then h j else 0)) → sumC g c n = sumC h d n
  | 0, _ => rfl
  | n + 1, e => by
    unfold sumC
    rw [sumC_congr n (fun j hj => e j (by omega)), e n (by omega)]
theorem sumC_more {g : Nat → Int} {c : Cfg} {n : Nat} : ∀ m, n ≤ m → (∀ j, n ≤ j → j < m → g j = 0) → sumC g c m = sumC g c n
  | 0, hn, _ => by rw [Nat.le_zero.1 hn]
  | m + 1, hn, h => by
    by_cases e : n = m + 1
    · rw [e]
    · show sumC g c m + _ = _
      rw [sumC_more m (by omega) (fun j h1 h2 => h j h1 (by omega)), h m (by omega) (by omega)]
      split <;> simp
theorem cost_sum (g : Nat → Int) (c : Cfg) : ∀ n, n ≤ 24 → costN g n c + sumC g c (24 - n) = sumC g c 24
  | 0, _ => by simp [costN]
  | n + 1, hn => by
    rw [← cost_sum g c n (by omega), show 24 - n = (23 - n) + 1 by omega, show 24 - (n + 1) = 23 - n by omega]
    show (if c (23 - n) then g (23 - n) else 0) + costN g n c + sumC g c (23 - n) = costN g n c + (sumC g c (23 - n) + if c (23 - n) then g (23 - n) else 0)
    omega
theorem costN_sum (g : Nat → Int) (c : Cfg) : costN g 24 c = sumC g c 24 := by
  have := cost_sum g c 24 (Nat.le_refl _)
  simpa [sumC] using this
theorem gl_past {l : List Int} {j : Nat} (h : l.length ≤ j) : gl l j = 0 := by simp [gl, h]
theorem gl_bound {l : List Int} (h : wOk l = true) (j : Nat) : -2147483648 ≤ gl l j ∧ gl l j ≤ 2147483648 := by
  have := wC_bound l j
  unfold wC at this
  rw [if_pos h] at this
  exact this

set_option maxRecDepth 100000 in
set_option maxHeartbeats 1000000 in
theorem RCosts_any (l : List Int) (hlen : l.length ≤ 1073741824) (v : Value) (w : World) (hv : IRow w v l) : Calls Tryz.prog 44 #[v] w fun e w' => e = .returned (.bool (wOk l)) ∧ w = w' := by
  obtain ⟨a, cap, rfl, h0, hc⟩ := hv
  clear h0
  go_enter Tryz.func44, Tryz.ntmps44
  go_wp2_with fail
  go_loop [3] (fun kv => ∃ k : Nat, k ≤ l.length ∧ kv = ik k ∧ ∀ x ∈ l.take k, -2147483648 ≤ x ∧ x ≤ 2147483648) (fun kv => l.length - (intOf kv).toNat)
  case atStart => exact ⟨0, Nat.zero_le _, rfl, by simp⟩
  case round =>
    obtain ⟨k, hk, rfl, hall⟩ := hrel
    by_cases hlt : k < l.length
    · have hd : l[k]? = some l[k] := by simp [hlt]
      have ht : l.take (k + 1) = l.take k ++ [l[k]] := List.take_succ_eq_append_getElem hlt
      obtain ⟨ad, rfl, hcell⟩ := hc k _ hd
      have HA := Lib.hid hall
      have HD := Lib.hid (List.getElem_mem hlt)
      have HT := Lib.hid ht
      clear hall hd ht
      generalize l[k] = x at *
      by_cases p1 : x < -2147483648
      · have e : wOk l = false := by
          rw [Bool.eq_false_iff]; intro h
          have := (wOk_iff.1 h).2 x HD.out
          omega
        have E := Lib.hid e
        clear e
        go_wp2_with fail
        go_ret
        exact ⟨by rw [E.out]; rfl, rfl⟩
      · by_cases p2 : 2147483648 < x
        · have e : wOk l = false := by
            rw [Bool.eq_false_iff]; intro h
            have := (wOk_iff.1 h).2 x HD.out
            omega
          have E := Lib.hid e
          clear e
          go_wp2_with fail
          go_ret
          exact ⟨by rw [E.out]; rfl, rfl⟩
        · go_wp2_with fail
          refine ⟨⟨k + 1, by omega, by go_num, ?_⟩, by simp [intOf]; omega⟩
          rw [HT.out]
          intro y hy
          rcases List.mem_append.1 hy with h1 | h1
          · exact HA.out y h1
          · rw [List.mem_singleton.1 h1]; omega
    · obtain rfl : k = l.length := by omega
      rw [List.take_length] at hall
      have e : wOk l = decide ((l.length : Int) ≤ 24) := by
        rw [Bool.eq_iff_iff, wOk_iff, decide_eq_true_iff]
        exact ⟨fun h => by omega, fun h => ⟨by omega, hall⟩⟩
      have HE := Lib.hid e
      clear e hall hc
      go_wp2_with fail
      go_ret
      exact ⟨by rw [HE.out]; rfl, rfl⟩

set_option maxRecDepth 100000 in
set_option maxHeartbeats 1000000 in
theorem RCost_any (l : List Int) (hw : wOk l = true) (c : Nat) (hc32 : c < 2 ^ 32) (v : Value) (w : World) (hv : IRow w v l) : Calls Tryz.prog 45 #[v, .int .u32 (c : Int)] w fun e w' => e = .returned (.int .i64 (sumC (gl l) (bitsOf c) l.length)) ∧ w = w' := by
  obtain ⟨a, cap, rfl, h0, hc⟩ := hv
  have hlen := (wOk_iff.1 hw).1
  have HB := Lib.hid (fun n => sumC_bound (gl_bound hw) (bitsOf c) n)
  have HG := Lib.hid (gl_bound hw)
  clear h0 hw
  go_enter Tryz.func45, Tryz.ntmps45
  go_wp2_with fail
  go_loop [5, 6] (fun sv iv => ∃ i : Nat, i ≤ l.length ∧ iv = ik i ∧ sv = .int .i64 (sumC (gl l) (bitsOf c) i)) (fun _ iv => l.length - (intOf iv).toNat)
  case atStart => exact ⟨0, Nat.zero_le _, rfl, rfl⟩
  case round =>
    obtain ⟨i, hi, rfl, rfl⟩ := hrel
    have hb := HB.out i
    have HS := Lib.hid (show sumC (gl l) (bitsOf c) (i + 1) = sumC (gl l) (bitsOf c) i + if c.testBit i then gl l i else 0 from rfl)
    by_cases hlt : i < l.length
    · have hd : l[i]? = some (gl l i) := by simp [gl, hlt]
      obtain ⟨ad, rfl, hcell⟩ := hc i _ hd
      have hx := HG.out i
      have hi24 : i < 24 := by omega
      clear hd
      generalize gl l i = x at *
      generalize sumC (gl l) (bitsOf c) i = s at *
      have hs1 : -51539607552 ≤ s ∧ s ≤ 51539607552 := by omega
      clear hb
      go_wp2_with fail
      refine (selected_any c i hc32 hi24 _).mono ?_
      rintro e w1 ⟨rfl, rfl⟩
      cases hbit : c.testBit i with
      | true =>
        rw [hbit] at HS
        have H2 := Lib.hid (HS.out.trans (by rw [if_pos rfl]))
        clear HS hbit
        go_wp2_with fail
        refine ⟨⟨i + 1, by omega, by go_num, by rw [H2.out]⟩, by simp [intOf]; omega⟩
      | false =>
        rw [hbit] at HS
        have H2 := Lib.hid (HS.out.trans (by rw [if_neg (by simp)]))
        clear HS hbit
        go_wp2_with fail
        refine ⟨⟨i + 1, by omega, by go_num, by rw [H2.out, Int.add_zero]⟩, by simp [intOf]; omega⟩
    · obtain rfl : i = l.length := by omega
      clear HS
      go_wp2_with fail
      go_ret
      exact ⟨rfl, rfl⟩

/-! Linear -/
def nzK (l : List Int) (k : Nat) : List Nat := (List.range k).filter fun j => decide (gl l j ≠ 0)
theorem nzK_succ (l : List Int) (k : Nat) : nzK l (k + 1) = nzK l k ++ if gl l k = 0 then [] else [k] := by
  unfold nzK
  rw [List.range_succ, List.filter_append]
  by_cases h : gl l k = 0 <;> simp [h]
theorem mem_nzK {l : List Int} {k j : Nat} : j ∈ nzK l k ↔ j < k ∧ gl l j ≠ 0 := by simp [nzK]
theorem nzK_rising {l : List Int} {k : Nat} (h : k ≤ 24) : rising (nzK l k) := ⟨(List.pairwise_lt_range).sublist List.filter_sublist, fun v hv => by have := (mem_nzK.1 hv).1; omega⟩
def linF (l : List Int) (rel : Nat) (bound : Int) (c : Cfg) : Bool :=
  if rel = 1 then decide (sumC (gl l) c l.length ≤ bound) else if rel = 2 then decide (bound ≤ sumC (gl l) c l.length) else decide (sumC (gl l) c l.length = bound)
theorem linF_on (l : List Int) (rel : Nat) (bound : Int) : onV (nzK l l.length) (linF l rel bound) := fun c d h => by
  unfold linF
  rw [sumC_congr (g := gl l) (h := gl l) (c := c) (d := d) l.length fun j hj => by
    by_cases e : gl l j = 0
    · rw [e]; simp
    · rw [h j (mem_nzK.2 ⟨hj, e⟩)]]
theorem linF_ev {l : List Int} (hw : wOk l = true) {rel : Nat} (hr : rel = 1 ∨ rel = 2 ∨ rel = 3) (bound : Int) (c : Cfg) : linF l rel bound c = (linB l rel bound).ev c := by
  have hlen := (wOk_iff.1 hw).1
  have hwc : wC l = gl l := by funext j; unfold wC; rw [if_pos hw]
  have hs : sumC (gl l) c l.length = costN (wC l) 24 c := by
    rw [costN_sum, hwc, sumC_more 24 hlen fun j h1 _ => gl_past h1]
  unfold linF linB
  rw [if_pos hw, hs]
  rcases hr with rfl | rfl | rfl
  · rw [if_pos rfl, if_pos rfl, costB_far_low _ (wC_bound l)]
  · rw [if_neg (by decide), if_pos rfl, if_neg (by decide), if_pos rfl, costB_far_high _ (wC_bound l)]
  · rw [if_neg (by decide), if_neg (by decide), if_neg (by decide), if_neg (by decide), if_pos rfl, ev_costB _ _ _ (Nat.le_refl _), Int.zero_add]
    rw [Bool.eq_iff_iff]; simp; omega

theorem IRow.at {w : World} {a : Option Addr} {n cap : Nat} {l : List Int} (h : IRow w (.slice a n cap) l) {j : Nat} {x : Int} (hx : l[j]? = some x) : ∃ ad, a = some ad ∧ w.cell? (ad.add j) = some (.int .i64 x) := by
  obtain ⟨a', cap', e, _, hc⟩ := h
  simp only [Value.slice.injEq] at e
  obtain ⟨rfl, -, -⟩ := e
  exact hc j x hx
theorem IRow.form {w : World} {v : Value} {l : List Int} (h : IRow w v l) : ∃ a cap, v = .slice a l.length cap := by
  obtain ⟨a, cap, rfl, _⟩ := h; exact ⟨a, cap, rfl⟩

set_option maxRecDepth 100000 in
set_option maxHeartbeats 2000000 in
theorem RLinear_no (l : List Int) (rel : Nat) (bound : Int) (hno : linE l rel = 2) (hlen : l.length ≤ 1073741824) (v : Value) (w : World) (hv : IRow w v l) : Calls Tryz.prog 87 #[v, .int .u8 (rel : Int), .int .i64 bound] w fun e w' => ∃ v', e = .returned (.tuple #[v', .int .i64 2]) ∧ RSet w' v' [] (fun _ => false) ∧ Below w.heap.size w w' := by
  have hcs := RCosts_any l hlen v
  obtain ⟨r0, r1⟩ := two_cells' w (.slice none 0 0) (.slice none 0 0) 36
  have fr : Fr nob w (w.alloc (.cells #[.slice none 0 0, .slice none 0 0] 36)) := (Fr.refl nob w).alloc _
  have hfz : ∀ o, (w.alloc (.cells #[.slice none 0 0, .slice none 0 0] 36)).frozen? ⟨w.heap.size, o, none⟩ = false := fun o => World.frozen?_alloc_at _ _ _ _ (by simp)
  have hv0 := hv.kept fr (fun _ _ h => h)
  obtain ⟨aL, capL, rfl⟩ := hv.form
  clear hv
  go_enter Tryz.func87, Tryz.ntmps87
  go_wp2_with fail
  generalize w.alloc (.cells #[.slice none 0 0, .slice none 0 0] 36) = W0 at *
  refine (hcs _ hv0).mono ?_
  rintro e w1 ⟨rfl, rfl⟩
  clear hcs hv0
  have key : wOk l = false ∨ (wOk l = true ∧ (rel:Int) < 1) ∨ (wOk l = true ∧ ¬ (rel : Int) < 1 ∧ 3 < (rel : Int)) := by
    unfold linE at hno
    cases hw : wOk l with
    | false => exact .inl rfl
    | true =>
      rw [hw, if_pos rfl] at hno
      split at hno
      · cases hno
      · rename_i h
        have h' : (rel : Int) < 1 ∨ (¬ (rel : Int) < 1 ∧ 3 < (rel : Int)) := by omega
        rcases h' with h' | h'
        · exact .inr (.inl ⟨rfl, h'⟩)
        · exact .inr (.inr ⟨rfl, h'⟩)
  clear hno
  rcases key with hw | ⟨hw, h1⟩ | ⟨hw, h1, h2⟩
  all_goals
    rw [hw]
    clear hw
    go_wp2_with fail
    refine (Const_any false _).mono ?_
    rintro e w2 ⟨v2, rfl, hs2, hb2⟩
    have fr2 : Fr nob W0 w2 := (Fr.refl nob _).below hb2
    have f0 := (fr2.frozen (p := ⟨w.heap.size, 0, none⟩) (lt_of_cell r0) (fun h => h)).trans (hfz 0)
    have f1 := (fr2.frozen (p := ⟨w.heap.size, 1, none⟩) (lt_of_cell r1) (fun h => h)).trans (hfz 1)
    have s0 := fr2.cell' r0 (fun h => h)
    have s1 := fr2.cell' r1 (fun h => h)
    have hfw := fr.trans fr2 (fun _ _ h => h)
    obtain ⟨qa, n1, ca, qt, n3, ct, rfl⟩ := hs2.form
    have hst := fun x y => hs2.stored s0 x y
    clear hb2 fr2 hfz r0 r1 fr
    go_wp2_with fail
    refine bodyPost_ret (v := .tuple #[.agg #[.slice qa n1 ca, .slice qt n3 ct], .int .i64 2]) (by simp [results, Tryz.results87, go_sem, s0, s1]) rfl ⟨_, rfl, ?_, ?_⟩
    · exact hst _ _
    · exact ((hfw.set1 (Nat.le_refl _) _).set1 (Nat.le_refl _) _).to_below (Nat.le_refl _) (fun _ h => h.elim)

theorem nzK_len (l : List Int) (k : Nat) : (nzK l k).length ≤ k := by
  have := List.length_filter_le (fun j => decide (gl l j ≠ 0)) (List.range k)
  rw [List.length_range] at this; exact this

set_option maxRecDepth 100000 in
set_option maxHeartbeats 4000000 in
theorem RLinear_yes (l : List Int) (rel : Nat) (hr : rel = 1 ∨ rel = 2 ∨ rel = 3) (bound : Int) (hw : wOk l = true) (v : Value) (w : World) (hv : IRow w v l) : Calls Tryz.prog 87 #[v, .int .u8 (rel : Int), .int .i64 bound] w fun e w' => ∃ v', e = .returned (.tuple #[v', .int .i64 0]) ∧ RSet w' v' (nzK l l.length) (linF l rel bound) ∧ Below w.heap.size w w' := by
  obtain ⟨i0, hi0, hz0, hz1, hz2⟩ := info_parts info_int
  have hlen := (wOk_iff.1 hw).1
  have hU := nzK_rising (l := l) hlen
  have hcon := linF_on l rel bound
  obtain ⟨U, hUe⟩ : ∃ U, U = nzK l l.length := ⟨_, rfl⟩
  rw [← hUe] at hU hcon ⊢
  have HUe := Lib.hid hUe
  clear hUe
  have hl := rising_len hU
  have hTl := tab_length U (linF l rel bound)
  have hTk : ∀ k (hk : k < (tab U (linF l rel bound)).length), (tab U (linF l rel bound))[k] = linF l rel bound (bitsOf (cfgN U k)) := fun k hk => by
    have := tab_at (V := U) (f := linF l rel bound) (by rw [← hTl]; exact hk)
    exact (List.getElem?_eq_some_iff.1 this).2
  obtain ⟨T, hT⟩ : ∃ T, T = tab U (linF l rel bound) := ⟨_, rfl⟩
  rw [← hT] at hTl hTk
  have HF := Lib.hid hT
  have Htl := Lib.hid hTl
  have HTk := Lib.hid hTk
  have hpow : 2 ^ U.length ≤ 16777216 := Nat.pow_le_pow_right (by omega) hl
  have hT16 : T.length ≤ 16777216 := by omega
  have hk62 : ∀ k, k < T.length → k < 2 ^ 62 := fun k hk => Nat.lt_of_lt_of_le hk (Nat.le_trans hT16 (by decide))
  have Hk62 := Lib.hid hk62
  clear hT hTl hTk hk62 hpow
  have hcs := RCosts_any l (by omega) v
  have hct := fun c hc => RCost_any l hw c hc v
  have HSC := Lib.hid (fun c : Cfg => sumC_bound (gl_bound hw) c l.length)
  obtain ⟨r0, r1⟩ := two_cells' w (.slice none 0 0) (.slice none 0 0) 36
  have fr : Fr nob w (w.alloc (.cells #[.slice none 0 0, .slice none 0 0] 36)) := (Fr.refl nob w).alloc _
  have hfz : ∀ o, (w.alloc (.cells #[.slice none 0 0, .slice none 0 0] 36)).frozen? ⟨w.heap.size, o, none⟩ = false := fun o => World.frozen?_alloc_at _ _ _ _ (by simp)
  have hv0 := hv.kept fr (fun _ _ h => h)
  obtain ⟨aL, capL, rfl⟩ := hv.form
  have hr1 : ¬ (rel : Int) < 1 := by omega
  have hr3 : ¬ 3 < (rel : Int) := by omega
  go_enter Tryz.func87, Tryz.ntmps87
  go_wp2_with fail
  generalize w.alloc (.cells #[.slice none 0 0, .slice none 0 0] 36) = W0 at *
  refine (hcs _ hv0).mono ?_
  rintro e w1 ⟨rfl, rfl⟩
  clear hcs
  rw [hw]
  have HW := Lib.hid hw
  clear hw
  go_wp2_with fail
  go_loopw [8, 9] (fun ov iv wr => ∃ k : Nat, k ≤ l.length ∧ iv = ik k ∧ wr.ownsRow W0.heap.size 3 1 ov (nzK l k).length ((nzK l k).map ik) ∧ Below W0.heap.size W0 wr) (fun _ iv _ => l.length - (intOf iv).toNat)
  case atStart => exact ⟨0, Nat.zero_le _, rfl, by simp [nzK]; exact World.ownsRow_nil _ _ _ _, Below.refl _ _⟩
  case round =>
    obtain ⟨k, hk, rfl, hown, hB⟩ := hrel
    have frr := (Fr.refl nob W0).below hB
    by_cases hlt : k < l.length
    · have hd : l[k]? = some (gl l k) := by simp [gl, hlt]
      obtain ⟨ad, rfl, hcell⟩ := (hv0.kept frr (fun _ _ h => h)).at hd
      have HS := Lib.hid (nzK_succ l k)
      have hlk := nzK_len l k
      clear hd
      generalize gl l k = x at *
      by_cases hx : x = 0
      · have e1 : nzK l (k + 1) = nzK l k := by rw [HS.out, if_pos hx, List.append_nil]
        have HE := Lib.hid e1
        subst hx
        clear e1 HS
        go_wp2_with fail
        refine ⟨⟨k + 1, by omega, by go_num, by rw [HE.out]; exact hown, hB⟩, by simp [intOf]; omega⟩
      · have e1 : nzK l (k + 1) = nzK l k ++ [k] := by rw [HS.out, if_neg hx]
        have HE := Lib.hid e1
        clear e1 HS
        go_wp2_with (at_builtin; refine wpList_append_own _ rfl _ _ 33 rfl W0.heap.size 3 i0 (.int .i64 0) 1 8 Tryz.underlying33 hi0 hz0 hz1 hz2 rfl (by decide) _ _ _ rfl (hown.alloc _) ⟨wr.heap.size, 0, none⟩ 1 1 [ik k] rfl rfl ?c1 ?c2 ?c3 ?c4 ?c5 ?_)
        case c1 => exact one_news _ _ _
        case c2 => simp [Value.oneCell']
        case c3 => unfold maxLen; omega
        case c4 => omega
        case c5 => have := hB.size; simp; omega
        intro v' w1 hown' hgrow _
        have row' : w1.ownsRow W0.heap.size 3 1 v' (nzK l (k + 1)).length ((nzK l (k + 1)).map ik) := by
          rw [HE.out, List.map_append, List.length_append]; exact hown'
        have hB' : Below W0.heap.size W0 w1 := (hB.alloc hB.size _).grown hgrow (by have := hB.size; simp; omega) (fun j hj => (hown.lt j hj).1)
        clear hown hown' hgrow hB
        go_wp2_with fail
        refine ⟨⟨k + 1, by omega, by go_num, row', hB'⟩, by simp [intOf]; omega⟩
    · obtain rfl : k = l.length := by omega
      have hs1 := SRow.of_own hown
      have f0 := (frr.frozen (p := ⟨w.heap.size, 0, none⟩) (lt_of_cell r0) (fun h => h)).trans (hfz 0)
      have f1 := (frr.frozen (p := ⟨w.heap.size, 1, none⟩) (lt_of_cell r1) (fun h => h)).trans (hfz 1)
      replace r0 := frr.cell' r0 (fun h => h)
      replace r1 := frr.cell' r1 (fun h => h)
      have frw := fr.trans frr (fun _ _ h => h)
      clear hown hB frr fr hfz hk hlt hv0
      rw [← HUe.out] at hs1
      obtain ⟨qv, cv, rfl⟩ := hs1.form
      rw [List.length_map] at hs1 ⊢
      obtain ⟨w1, rfl⟩ : ∃ x, x = wr := ⟨_, rfl⟩
      have hsw1 := hs1
      have r0w := r0
      go_wp2_with fail
      refine (Blank_len U.length T.length hl Htl.out qv cv _).mono ?_
      rintro e w2 ⟨g, rfl, row2, hb2⟩
      have fr2 : Fr nob w1 w2 := (Fr.refl nob _).below hb2
      replace f0 := (fr2.frozen (p := ⟨w.heap.size, 0, none⟩) (lt_of_cell r0) (fun h => h)).trans f0
      replace f1 := (fr2.frozen (p := ⟨w.heap.size, 1, none⟩) (lt_of_cell r1) (fun h => h)).trans f1
      have lw1 := lt_of_cell r0
      simp only at lw1
      replace r0 := fr2.cell' r0 (fun h => h)
      replace r1 := fr2.cell' r1 (fun h => h)
      replace frw := frw.trans fr2 (fun _ _ h => h)
      replace hs1 := hs1.kept fr2
      obtain ⟨S0, hg1, hg2⟩ := FillSt.start (sv := .slice qv U.length cv) (T0 := 36) rfl row2
      have fr3 : Fr nob w2 (w2.alloc (.cells #[.slice qv U.length cv, .slice (some ⟨g, 0, none⟩) T.length T.length] 36)) := (Fr.refl nob w2).alloc _
      clear row2 fr2 hb2
      go_wp2_with fail
      generalize w2.alloc (.cells #[.slice qv U.length cv, .slice (some ⟨g, 0, none⟩) T.length T.length] 36) = W3 at *
      replace f0 := (fr3.frozen (p := ⟨w.heap.size, 0, none⟩) (lt_of_cell r0) (fun h => h)).trans f0
      replace f1 := (fr3.frozen (p := ⟨w.heap.size, 1, none⟩) (lt_of_cell r1) (fun h => h)).trans f1
      have lw2 := lt_of_cell r0
      simp only at lw2
      replace r0 := fr3.cell' r0 (fun h => h)
      replace r1 := fr3.cell' r1 (fun h => h)
      have hs3 := hs1.kept fr3
      replace frw := frw.trans fr3 (fun _ _ h => h)
      have z3 := fr3.size
      clear fr3 hs1
      go_loopw [11] (fun kv wr => ∃ k : Nat, k ≤ T.length ∧ kv = ik k ∧ FillSt W3 w2.heap.size g (.slice qv U.length cv) T k wr) (fun kv _ => T.length - (intOf kv).toNat)
      case atStart => exact ⟨0, Nat.zero_le _, rfl, S0⟩
      case round =>
        clear S0
        obtain ⟨k, hk, rfl, S⟩ := hrel
        have o0 := S.o0
        have o1 := S.o1
        by_cases hlt : k < T.length
        · have hsr : SRow wr (.slice qv U.length cv) (U.map ik) := hsw1.keep2 hs3 S.fr hg1
          have hcf := Config_any U hU k (Hk62.out k hlt) (.slice qv U.length cv) wr hsr
          have hc24 := cfgN_lt hU k
          have hxy := HTk.out k hlt
          generalize cfgN U k = cc at *
          have hc32 : cc < 2 ^ 32 := Nat.lt_of_lt_of_le hc24 (by decide)
          have hBq : Below w.heap.size w wr := (frw.trans' S.fr (T := fun k => w.heap.size ≤ k) (fun _ _ h => h.elim) (fun j hj e => by omega)).to_below (Nat.le_refl _) (fun _ h => h)
          have hcost := hct cc hc32 wr (hv.kept ((Fr.refl nob w).below hBq) (fun _ _ h => h))
          unfold linF at hxy
          generalize sumC (gl l) (bitsOf cc) l.length = s at *
          have hSp := S.put hlt hxy
          have hfz := S.row.frozenAt k
          have hok : (wr.cell? ⟨g, k, none⟩).isSome = true := by
            rw [S.row.cellAt k (by omega)]
            have : k < (part T k).length := by rw [part_length _ _ (by omega)]; exact hlt
            simp [this]
          obtain ⟨yv, hyv⟩ := Option.isSome_iff_exists.1 hok
          clear S hok hxy hBq
          go_wp2_with fail
          refine hcf.mono ?_
          rintro e wr' ⟨rfl, rfl⟩
          clear hcf hsr
          go_wp2_with fail
          refine hcost.mono ?_
          rintro e wr' ⟨rfl, rfl⟩
          clear hcost
          rcases hr with rfl | rfl | rfl
          · rw [if_pos rfl] at hSp
            have b1 : (((1 : Nat) : Int) == 1) = true := rfl
            by_cases p1 : s ≤ bound
            · rw [decide_eq_true p1] at hSp
              go_wp2_with fail
              refine ⟨?_, by simp [intOf]; omega⟩
              repeat apply @Exists.intro Value
              refine ⟨⟨k + 1, by omega, by go_num, (by first | exact hSp | (rw [decide_eq_false (show ¬ s ≤ bound by omega)]; exact hSp) | (rw [decide_eq_false (show ¬ bound ≤ s by omega)]; exact hSp) | (rw [show (s == bound) = false from by simp; omega]; exact hSp))⟩, ?_⟩
              rfl
            · rw [decide_eq_false p1] at hSp
              go_wp2_with fail
              refine ⟨?_, by simp [intOf]; omega⟩
              repeat apply @Exists.intro Value
              refine ⟨⟨k + 1, by omega, by go_num, (by first | exact hSp | (rw [decide_eq_false (show ¬ s ≤ bound by omega)]; exact hSp) | (rw [decide_eq_false (show ¬ bound ≤ s by omega)]; exact hSp) | (rw [show (s == bound) = false from by simp; omega]; exact hSp))⟩, ?_⟩
              rfl
          · rw [if_neg (by decide), if_pos rfl] at hSp
            by_cases p1 : bound ≤ s
            · rw [decide_eq_true p1] at hSp
              go_wp2_with fail
              refine ⟨?_, by simp [intOf]; omega⟩
              repeat apply @Exists.intro Value
              refine ⟨⟨k + 1, by omega, by go_num, (by first | exact hSp | (rw [decide_eq_false (show ¬ s ≤ bound by omega)]; exact hSp) | (rw [decide_eq_false (show ¬ bound ≤ s by omega)]; exact hSp) | (rw [show (s == bound) = false from by simp; omega]; exact hSp))⟩, ?_⟩
              rfl
            · rw [decide_eq_false p1] at hSp
              go_wp2_with fail
              refine ⟨?_, by simp [intOf]; omega⟩
              repeat apply @Exists.intro Value
              refine ⟨⟨k + 1, by omega, by go_num, (by first | exact hSp | (rw [decide_eq_false (show ¬ s ≤ bound by omega)]; exact hSp) | (rw [decide_eq_false (show ¬ bound ≤ s by omega)]; exact hSp) | (rw [show (s == bound) = false from by simp; omega]; exact hSp))⟩, ?_⟩
              rfl
          · rw [if_neg (by decide), if_neg (by decide)] at hSp
            by_cases p1 : s = bound
            · rw [decide_eq_true p1] at hSp
              go_wp2_with fail
              refine ⟨?_, by simp [intOf]; omega⟩
              repeat apply @Exists.intro Value
              refine ⟨⟨k + 1, by omega, by go_num, (by first | exact hSp | (rw [decide_eq_false (show ¬ s ≤ bound by omega)]; exact hSp) | (rw [decide_eq_false (show ¬ bound ≤ s by omega)]; exact hSp) | (rw [show (s == bound) = false from by simp; omega]; exact hSp))⟩, ?_⟩
              rfl
            · rw [decide_eq_false p1] at hSp
              go_wp2_with fail
              refine ⟨?_, by simp [intOf]; omega⟩
              repeat apply @Exists.intro Value
              refine ⟨⟨k + 1, by omega, by go_num, (by first | exact hSp | (rw [decide_eq_false (show ¬ s ≤ bound by omega)]; exact hSp) | (rw [decide_eq_false (show ¬ bound ≤ s by omega)]; exact hSp) | (rw [show (s == bound) = false from by simp; omega]; exact hSp))⟩, ?_⟩
              rfl
        · obtain rfl : k = T.length := by omega
          have s0 := S.fr.cell' r0 (by omega)
          have s1 := S.fr.cell' r1 (by omega)
          have sf0 := (S.fr.frozen (p := ⟨w.heap.size, 0, none⟩) (lt_of_cell r0) (by simp; omega)).trans f0
          have sf1 := (S.fr.frozen (p := ⟨w.heap.size, 1, none⟩) (lt_of_cell r1) (by simp; omega)).trans f1
          have hd := S.done
          have hfw := frw.trans' S.fr (T := fun k => w.heap.size ≤ k) (fun _ _ h => h.elim) (fun j hj e => by omega)
          have hsr : SRow wr (.slice qv U.length cv) (U.map ik) := hsw1.keep2 hs3 S.fr hg1
          clear S r0 r1 f0 f1
          go_wp2_with fail
          refine bodyPost_ret (v := .tuple #[.agg #[.slice qv U.length cv, .slice (some ⟨g, 0, none⟩) T.length T.length], .int .i64 0]) (by simp [results, Tryz.results87, go_sem, s0, s1]) rfl ⟨_, rfl, ⟨hU, hcon, _, _, rfl, ?_, ?_⟩, ?_⟩
          · exact SRow.store2 hsw1 (SRow.store2 hsw1 hsr r0w 0 _) r0w 1 _
          · rw [← HF.out]
            exact (hd.store (by omega) 0 _).store (by omega) 1 _
          · exact ((hfw.setCell (p := ⟨w.heap.size, 0, none⟩) (by simp) _).setCell (p := ⟨w.heap.size, 1, none⟩) (by simp) _).to_below (Nat.le_refl _) (fun _ h => h)
end Go.Proofs.YtalnhlebgofiiaaGreatDoor
