import Derived.Test.YtpmnfpjpdpejgaaDoorFixd
import Derived.Test.YtpmnfpjpdpejgaaDoorRefM
namespace Go.Proofs.YtpmnfpjpdpejgaaDoor
open Go.RowKit
open Bd

/-! Fixed of the reference -/
def alw (on : Bool) (V : List Nat) (f : Cfg → Bool) (v k : Nat) : Bool := (List.range k).all fun q => !f (bitsOf (cfgN V q)) || ((cfgN V q).testBit v == on)
theorem alw_zero (on : Bool) (V : List Nat) (f : Cfg → Bool) (v : Nat) : alw on V f v 0 = true := rfl
theorem alw_succ (on : Bool) (V : List Nat) (f : Cfg → Bool) (v k : Nat) : alw on V f v (k + 1) = (alw on V f v k && (!f (bitsOf (cfgN V k)) || ((cfgN V k).testBit v == on))) := by
  unfold alw; rw [List.range_succ, List.all_append]; simp
def fxL (on : Bool) (V : List Nat) (f : Cfg → Bool) (j : Nat) : List Nat := (V.take j).filter fun v => alw on V f v (2 ^ V.length)
theorem fxL_zero (on : Bool) (V : List Nat) (f : Cfg → Bool) : numN (fxL on V f 0) = 0 := rfl
theorem lt_of_bits {x n : Nat} (h : ∀ i, n ≤ i → x.testBit i = false) : x < 2 ^ n := Nat.lt_pow_two_of_testBit x h
theorem fxL_lt {on : Bool} {V : List Nat} (hV : rising V) (f : Cfg → Bool) {j : Nat} (hj : j < V.length) : numN (fxL on V f j) < 2 ^ V[j] := by
  refine lt_of_bits fun i hi => ?_
  rw [← Bool.not_eq_true, numN_bit]
  intro hm
  have h1 := (List.mem_filter.1 hm).1
  obtain ⟨t, ht, e⟩ := List.getElem_of_mem h1
  rw [List.getElem_take] at e
  have htj : t < j := by simp at ht; omega
  have := List.pairwise_iff_getElem.1 hV.1 t j (by omega) hj htj
  omega
theorem fxL_succ {on : Bool} {V : List Nat} (hV : rising V) (f : Cfg → Bool) {j : Nat} (hj : j < V.length) : numN (fxL on V f (j + 1)) = numN (fxL on V f j) + if alw on V f V[j] (2 ^ V.length) = true then 2 ^ V[j] else 0 := by
  have hlt := fxL_lt (on := on) hV f hj
  unfold fxL at *
  rw [List.take_succ_eq_append_getElem hj, List.filter_append]
  by_cases h : alw on V f V[j] (2 ^ V.length) = true
  · rw [if_pos h, List.filter_cons_of_pos (p := fun v => alw on V f v (2 ^ V.length)) h, List.filter_nil, numN_snoc]
    have := Nat.two_pow_add_eq_or_of_lt hlt 1
    rw [Nat.mul_one, Nat.add_comm, Nat.or_comm] at this
    exact this.symm
  · rw [if_neg h, List.filter_cons_of_neg (p := fun v => alw on V f v (2 ^ V.length)) h, List.filter_nil, List.append_nil, Nat.add_zero]
theorem alw_iff {on : Bool} {V : List Nat} {f : Cfg → Bool} (hV : rising V) (hf : onV V f) {v : Nat} (hv : v ∈ V) : alw on V f v (2 ^ V.length) = true ↔ ∀ c, f c = true → c v = on := by
  have hg : onV V (fun c => !f c || (c v == on)) := fun c d h => by
    show (!f c || (c v == on)) = (!f d || (d v == on))
    rw [hf c d h, h v hv]
  have e : (∀ x ∈ tab V (fun c => !f c || (c v == on)), x = true) ↔ alw on V f v (2 ^ V.length) = true := by
    unfold tab alw
    rw [List.all_eq_true]
    constructor
    · intro h q hq
      exact h _ (List.mem_map.2 ⟨q, hq, rfl⟩)
    · intro h x hx
      obtain ⟨q, hq, rfl⟩ := List.mem_map.1 hx
      exact h q hq
  rw [← e, all_tab hV hg]
  constructor
  · intro h c hc
    have := h c
    simpa [hc] using this
  · intro h c
    cases hc : f c with
    | false => rfl
    | true => simp [h c hc]
theorem fx_same {b : B} (hb : b.ok 0) (hn : b ≠ .F) {V : List Nat} (hV : rising V) (hf : onV V b.ev) : numN (fxL true V b.ev V.length) = (fxV b).1 ∧ numN (fxL false V b.ev V.length) = (fxV b).2 := by
  obtain ⟨c0, hc0⟩ : ∃ c, b.ev c = true := by
    refine Classical.byContradiction fun h => hn (eq_of_ev hb (show B.F.ok 0 from trivial) fun c => ?_)
    cases e : b.ev c with
    | false => rfl
    | true => exact absurd ⟨c, e⟩ h
  have key : ∀ on : Bool, ∀ i, (numN (fxL on V b.ev V.length)).testBit i = true ↔ i < 24 ∧ ∀ c, b.ev c = true → c i = on := by
    intro on i
    rw [numN_bit]
    unfold fxL
    rw [List.take_length, List.mem_filter]
    constructor
    · rintro ⟨h1, h2⟩
      exact ⟨hV.2 i h1, (alw_iff hV hf h1).1 h2⟩
    · rintro ⟨_, h2⟩
      have hi : i ∈ V := Classical.byContradiction fun hni => by
        have := h2 (up c0 i (!on)) (by rw [← hc0]; exact hf _ _ fun j hj => by simp only [up]; rw [if_neg (fun e : j = i => hni (e ▸ hj))])
        simp [up] at this
      exact ⟨hi, (alw_iff hV hf hi).2 h2⟩
  have h24 := fx_lt hb
  constructor
  · apply Nat.eq_of_testBit_eq
    intro i
    rw [Bool.eq_iff_iff, key]
    by_cases hi : i < 24
    · rw [(fx_bit hb i hi).1]; simp [hi]
    · have : (fxV b).1.testBit i = false := Nat.testBit_lt_two_pow (Nat.lt_of_lt_of_le h24.1 (Nat.pow_le_pow_right (by omega) (by omega)))
      rw [this]; simp [hi]
  · apply Nat.eq_of_testBit_eq
    intro i
    rw [Bool.eq_iff_iff, key]
    by_cases hi : i < 24
    · rw [(fx_bit hb i hi).2]; simp [hi]
    · have : (fxV b).2.testBit i = false := Nat.testBit_lt_two_pow (Nat.lt_of_lt_of_le h24.2 (Nat.pow_le_pow_right (by omega) (by omega)))
      rw [this]; simp [hi]

/-! the walk -/
set_option maxRecDepth 100000 in
set_option maxHeartbeats 4000000 in
theorem RFixed_any (b : B) (hb : b.ok 0) (V : List Nat) (va : Value) (w : World) (hsa : RSet w va V b.ev) : Calls Tryd.prog 24 #[va] w fun e w' => e = .returned (.tuple #[.int .u32 ((fixV b).1 : Int), .int .u32 ((fixV b).2 : Int)]) ∧ Below w.heap.size w w' := by
  have hE := fun W (h : Fr nob w W) => REmpty_any V b.ev va W (hsa.kept h)
  have he0 : (many (tab V b.ev) = 0) = (b = .F) := by
    rw [empty_dec hsa.1 hsa.2.1, eq_iff_iff]
    exact ⟨fun h => eq_of_ev hb (show B.F.ok 0 from trivial) (fun c => by rw [h c]; rfl), fun h c => by rw [h]; rfl⟩
  simp only [he0] at hE
  clear he0
  obtain ⟨hV, hf, sa, ta, rfl, ha1, ha2⟩ := hsa
  have HFX := Lib.hid (fun hn : b ≠ .F => fx_same hb hn hV hf)
  have HV0 := Lib.hid (show fixV b = if b = .F then (0, 0) else fxV b from rfl)
  have hl := rising_len hV
  have hpow : 2 ^ V.length ≤ 16777216 := Nat.pow_le_pow_right (by omega) hl
  have HTk := Lib.hid (fun k (hk : k < 2 ^ V.length) => (show ((tab V b.ev).map Value.bool)[k]? = some (.bool (b.ev (bitsOf (cfgN V k)))) by rw [List.getElem?_map, tab_at hk]; rfl))
  have HVk := Lib.hid (fun j (hj : j < V.length) => (show (V.map ik)[j]? = some (ik V[j]) by simp [hj]))
  have HVL := Lib.hid (fun j (hj : j < V.length) => hV.2 V[j] (List.getElem_mem hj))
  have HS1 := Lib.hid (fun j (hj : j < V.length) => fxL_succ (on := true) hV b.ev hj)
  have HS2 := Lib.hid (fun j (hj : j < V.length) => fxL_succ (on := false) hV b.ev hj)
  have HL1 := Lib.hid (fun j => (numN_lt (V := fxL true V b.ev j) fun v hv => hV.2 v (List.mem_of_mem_take (List.mem_filter.1 hv).1)))
  have HL2 := Lib.hid (fun j => (numN_lt (V := fxL false V b.ev j) fun v hv => hV.2 v (List.mem_of_mem_take (List.mem_filter.1 hv).1)))
  obtain ⟨qa, ca, rfl⟩ := ha1.form
  obtain ⟨qt, ct, rfl⟩ := ha2.form
  simp only [List.length_map, tab_length] at ha1 ha2 hE ⊢
  generalize hNN : 2 ^ V.length = NN at *
  obtain ⟨a0, a1⟩ := two_cells' w (.slice qa V.length ca) (.slice qt NN ct) 52
  have fr : Fr nob w (w.alloc (.cells #[.slice qa V.length ca, .slice qt NN ct] 52)) := (Fr.refl nob w).alloc _
  have hA := fun W (h : Fr nob w W) => ha1.kept h
  have hT := fun W (h : Fr nob w W) => ha2.kept h
  clear hf
  go_enter Tryd.func24, Tryd.ntmps24
  go_wp2_with fail
  generalize w.alloc (.cells #[.slice qa V.length ca, .slice qt NN ct] 52) = W0 at *
  go_loopw [4, 5, 6] (fun onv ofv jv wr => ∃ j : Nat, j ≤ V.length ∧ jv = ik j ∧ onv = .int .u32 (numN (fxL true V b.ev j) : Int) ∧ ofv = .int .u32 (numN (fxL false V b.ev j) : Int) ∧ Fr nob W0 wr ∧ (b = .F → j = 0)) (fun _ _ jv _ => V.length - (intOf jv).toNat)
  case atStart => exact ⟨0, Nat.zero_le _, rfl, rfl, rfl, Fr.refl _ _, fun _ => rfl⟩
  case round =>
    obtain ⟨j, hj, rfl, rfl, rfl, S0, hj0⟩ := hrel
    have frw := fr.trans S0 (fun _ _ h => h)
    replace a0 := S0.cell' a0 (fun h => h)
    replace a1 := S0.cell' a1 (fun h => h)
    by_cases hlt : j < V.length
    · by_cases hbF : b = .F
      · obtain rfl : j = 0 := hj0 hbF
        have hd : decide (b = .F) = true := by simp [hbF]
        have hEj := hE wr frw
        rw [hd] at hEj
        have HV1 := Lib.hid (show fixV b = (0, 0) by rw [HV0.out, if_pos hbF])
        clear hE hd hbF hj0
        go_wp2_with fail
        refine hEj.mono ?_
        rintro e w1 ⟨rfl, hb1⟩
        have f1 := frw.below hb1
        go_wp2_with fail
        go_ret2
        exact ⟨by rw [HV1.out]; rfl, f1.to_below (Nat.le_refl _) (fun _ h => h.elim)⟩
      · have hd : decide (b = .F) = false := by simp [hbF]
        have hEj := hE wr frw
        rw [hd] at hEj
        clear hd
        have HBF := Lib.hid hbF
        clear hbF hj0
        go_wp2_with fail
        refine hEj.mono ?_
        rintro e w1 ⟨rfl, hb1⟩
        have g1 := (Fr.refl nob wr).below hb1
        have frw1 := frw.trans g1 (fun _ _ h => h)
        have S1 := S0.trans g1 (fun _ _ h => h)
        replace a0 := g1.cell' a0 (fun h => h)
        replace a1 := g1.cell' a1 (fun h => h)
        obtain ⟨ga, rfl, v0⟩ := (hA w1 frw1).at (HVk.out j hlt)
        have hvj := HVL.out j hlt
        have HX1 := Lib.hid (HS1.out j hlt)
        have HX2 := Lib.hid (HS2.out j hlt)
        clear hEj hb1 g1
        generalize V[j] = vj at *
        go_wp2_with fail
        go_loopw [7, 8, 9] (fun av nv kv wr2 => ∃ k : Nat, k ≤ NN ∧ kv = ik k ∧ av = .bool (alw true V b.ev vj k) ∧ nv = .bool (alw false V b.ev vj k) ∧ Fr nob w1 wr2) (fun _ _ kv _ => NN - (intOf kv).toNat)
        case atStart => exact ⟨0, Nat.zero_le _, rfl, rfl, rfl, Fr.refl _ _⟩
        case round =>
          obtain ⟨k, hk, rfl, rfl, rfl, Sfr⟩ := hrel
          replace a0 := Sfr.cell' a0 (fun h => h)
          replace a1 := Sfr.cell' a1 (fun h => h)
          replace v0 := Sfr.cell' v0 (fun h => h)
          by_cases hlt2 : k < NN
          · have frk := frw1.trans Sfr (fun _ _ h => h)
            have hst := hA wr frk
            obtain ⟨gt, rfl, t0⟩ := (hT wr frk).at (HTk.out k hlt2)
            have hcf := fun W (h : SRow W (.slice (some ⟨ga, 0, none⟩) V.length ca) (V.map ik)) => Config_any V hV k (by omega) _ W h
            have hcc := cfgN_lt hV k
            have hsel := fun W => selected_any (cfgN V k) vj (by omega) hvj W
            have hs1 := alw_succ true V b.ev vj k
            have hs2 := alw_succ false V b.ev vj k
            generalize cfgN V k = cc at *
            generalize b.ev (bitsOf cc) = x at *
            generalize cc.testBit vj = bb at *
            generalize hal : alw true V b.ev vj k = al at *
            generalize hne : alw false V b.ev vj k = ne at *
            clear hE frw frw1 frk
            cases x with
            | false =>
              have HS1 := Lib.hid (show alw true V b.ev vj (k + 1) = al by rw [hs1]; simp)
              have HS2 := Lib.hid (show alw false V b.ev vj (k + 1) = ne by rw [hs2]; simp)
              clear hs1 hs2 hal hne
              go_wp2_with fail
              refine wp_region_grow' 16 86 (fun _ => #[]) [] (by kernel_rfl) (by kernel_rfl) rfl rfl (by intro T h; cases h) ?_
              simp only [List.take_succ_cons, List.take_zero]
              refine grow_step (v := .pointer (some ⟨w.heap.size, 1, none⟩)) rfl rfl ?a0xftp ?b0xftp
              case a0xftp =>
                intro w' hw'
                clear hw'
                refine growAt_value ?_
                go_simp
                try rfl
              simp only [Act.put, List.setIfInBounds_toArray, List.set_cons_zero, List.set_cons_succ]
              refine grow_step (v := .slice (some ⟨gt, 0, none⟩) NN ct) rfl rfl ?a1xftp ?b1xftp
              case a1xftp =>
                intro w' hw'
                have y0 := hw'.cell' a1 (fun h => h)
                clear hw'
                refine growAt_value ?_
                go_simp
                try rfl
              simp only [Act.put, List.setIfInBounds_toArray, List.set_cons_zero, List.set_cons_succ]
              refine grow_step (v := ik k) rfl rfl ?a2xftp ?b2xftp
              case a2xftp =>
                intro w' hw'
                clear hw'
                refine growAt_value ?_
                go_simp
                try rfl
              simp only [Act.put, List.setIfInBounds_toArray, List.set_cons_zero, List.set_cons_succ]
              refine grow_step (v := .pointer (some ⟨gt, k, none⟩)) rfl rfl ?a3xftp ?b3xftp
              case a3xftp =>
                intro w' hw'
                clear hw'
                refine growAt_value ?_
                go_simp
                try rfl
              simp only [Act.put, List.setIfInBounds_toArray, List.set_cons_zero, List.set_cons_succ]
              refine grow_step (v := .bool false) rfl rfl ?a4xftp ?b4xftp
              case a4xftp =>
                intro w' hw'
                have y0 := hw'.cell' t0 (fun h => h)
                clear hw'
                refine growAt_value ?_
                go_simp
                try rfl
              simp only [Act.put, List.setIfInBounds_toArray, List.set_cons_zero, List.set_cons_succ]
              refine grow_step (v := .bool false) rfl rfl ?a5xftp ?b5xftp
              case a5xftp =>
                intro w' hw'
                clear hw'
                refine growAt_value ?_
                go_simp
                try rfl
              simp only [Act.put, List.setIfInBounds_toArray, List.set_cons_zero, List.set_cons_succ]
              refine grow_skip rfl rfl ?_
              simp only [Act.put, List.setIfInBounds_toArray, List.set_cons_zero, List.set_cons_succ]
              refine grow_skip rfl rfl ?_
              simp only [Act.put, List.setIfInBounds_toArray, List.set_cons_zero, List.set_cons_succ]
              refine grow_skip rfl rfl ?_
              simp only [Act.put, List.setIfInBounds_toArray, List.set_cons_zero, List.set_cons_succ]
              refine grow_skip rfl rfl ?_
              simp only [Act.put, List.setIfInBounds_toArray, List.set_cons_zero, List.set_cons_succ]
              refine grow_skip rfl rfl ?_
              simp only [Act.put, List.setIfInBounds_toArray, List.set_cons_zero, List.set_cons_succ]
              refine grow_skip rfl rfl ?_
              simp only [Act.put, List.setIfInBounds_toArray, List.set_cons_zero, List.set_cons_succ]
              refine grow_skip rfl rfl ?_
              simp only [Act.put, List.setIfInBounds_toArray, List.set_cons_zero, List.set_cons_succ]
              refine grow_skip rfl rfl ?_
              simp only [Act.put, List.setIfInBounds_toArray, List.set_cons_zero, List.set_cons_succ]
              refine grow_skip rfl rfl ?_
              simp only [Act.put, List.setIfInBounds_toArray, List.set_cons_zero, List.set_cons_succ]
              refine grow_skip rfl rfl ?_
              simp only [Act.put, List.setIfInBounds_toArray, List.set_cons_zero, List.set_cons_succ]
              refine grow_nil ?_
              intro w5 listed p5 _ _
              replace Sfr := Sfr.trans p5 (fun _ _ h => h)
              replace hst := hst.kept p5
              replace a0 := p5.cell' a0 (fun h => h)
              replace a1 := p5.cell' a1 (fun h => h)
              replace t0 := p5.cell' t0 (fun h => h)
              replace v0 := p5.cell' v0 (fun h => h)
              clear p5
              go_upto_region 11 with fail
              refine wp_region_grow' 17 86 (fun _ => #[]) [] (by kernel_rfl) (by kernel_rfl) rfl rfl (by intro T h; cases h) ?_
              simp only [List.take_succ_cons, List.take_zero]
              refine grow_step (v := .pointer (some ⟨w.heap.size, 1, none⟩)) rfl rfl ?a0xftq ?b0xftq
              case a0xftq =>
                intro w' hw'
                clear hw'
                refine growAt_value ?_
                go_simp
                try rfl
              simp only [Act.put, List.setIfInBounds_toArray, List.set_cons_zero, List.set_cons_succ]
              refine grow_step (v := .slice (some ⟨gt, 0, none⟩) NN ct) rfl rfl ?a1xftq ?b1xftq
              case a1xftq =>
                intro w' hw'
                have y0 := hw'.cell' a1 (fun h => h)
                clear hw'
                refine growAt_value ?_
                go_simp
                try rfl
              simp only [Act.put, List.setIfInBounds_toArray, List.set_cons_zero, List.set_cons_succ]
              refine grow_step (v := ik k) rfl rfl ?a2xftq ?b2xftq
              case a2xftq =>
                intro w' hw'
                clear hw'
                refine growAt_value ?_
                go_simp
                try rfl
              simp only [Act.put, List.setIfInBounds_toArray, List.set_cons_zero, List.set_cons_succ]
              refine grow_step (v := .pointer (some ⟨gt, k, none⟩)) rfl rfl ?a3xftq ?b3xftq
              case a3xftq =>
                intro w' hw'
                clear hw'
                refine growAt_value ?_
                go_simp
                try rfl
              simp only [Act.put, List.setIfInBounds_toArray, List.set_cons_zero, List.set_cons_succ]
              refine grow_step (v := .bool false) rfl rfl ?a4xftq ?b4xftq
              case a4xftq =>
                intro w' hw'
                have y0 := hw'.cell' t0 (fun h => h)
                clear hw'
                refine growAt_value ?_
                go_simp
                try rfl
              simp only [Act.put, List.setIfInBounds_toArray, List.set_cons_zero, List.set_cons_succ]
              refine grow_step (v := .bool false) rfl rfl ?a5xftq ?b5xftq
              case a5xftq =>
                intro w' hw'
                clear hw'
                refine growAt_value ?_
                go_simp
                try rfl
              simp only [Act.put, List.setIfInBounds_toArray, List.set_cons_zero, List.set_cons_succ]
              refine grow_skip rfl rfl ?_
              simp only [Act.put, List.setIfInBounds_toArray, List.set_cons_zero, List.set_cons_succ]
              refine grow_skip rfl rfl ?_
              simp only [Act.put, List.setIfInBounds_toArray, List.set_cons_zero, List.set_cons_succ]
              refine grow_skip rfl rfl ?_
              simp only [Act.put, List.setIfInBounds_toArray, List.set_cons_zero, List.set_cons_succ]
              refine grow_skip rfl rfl ?_
              simp only [Act.put, List.setIfInBounds_toArray, List.set_cons_zero, List.set_cons_succ]
              refine grow_skip rfl rfl ?_
              simp only [Act.put, List.setIfInBounds_toArray, List.set_cons_zero, List.set_cons_succ]
              refine grow_skip rfl rfl ?_
              simp only [Act.put, List.setIfInBounds_toArray, List.set_cons_zero, List.set_cons_succ]
              refine grow_skip rfl rfl ?_
              simp only [Act.put, List.setIfInBounds_toArray, List.set_cons_zero, List.set_cons_succ]
              refine grow_skip rfl rfl ?_
              simp only [Act.put, List.setIfInBounds_toArray, List.set_cons_zero, List.set_cons_succ]
              refine grow_skip rfl rfl ?_
              simp only [Act.put, List.setIfInBounds_toArray, List.set_cons_zero, List.set_cons_succ]
              refine grow_skip rfl rfl ?_
              simp only [Act.put, List.setIfInBounds_toArray, List.set_cons_zero, List.set_cons_succ]
              refine grow_skip rfl rfl ?_
              simp only [Act.put, List.setIfInBounds_toArray, List.set_cons_zero, List.set_cons_succ]
              refine grow_nil ?_
              intro w6 listed p6 _ _
              replace Sfr := Sfr.trans p6 (fun _ _ h => h)
              replace hst := hst.kept p6
              replace a0 := p6.cell' a0 (fun h => h)
              replace a1 := p6.cell' a1 (fun h => h)
              replace t0 := p6.cell' t0 (fun h => h)
              replace v0 := p6.cell' v0 (fun h => h)
              clear p6
              clear a0 a1 t0 v0 hcf hsel hst
              go_wp2_with fail
              exact ⟨⟨k + 1, by omega, by go_num, by rw [HS1.out], by rw [HS2.out], Sfr⟩, by simp [intOf]; omega⟩
            | true =>
              cases bb with
              | true =>
                have HS1 := Lib.hid (show alw true V b.ev vj (k + 1) = al by rw [hs1]; simp)
                have HS2 := Lib.hid (show alw false V b.ev vj (k + 1) = false by rw [hs2]; simp)
                clear hs1 hs2 hal hne
                go_wp2_with fail
                refine wp_region_grow' 16 86 (fun _ => #[]) [] (by kernel_rfl) (by kernel_rfl) rfl rfl (by intro T h; cases h) ?_
                simp only [List.take_succ_cons, List.take_zero]
                refine grow_step (v := .pointer (some ⟨w.heap.size, 1, none⟩)) rfl rfl ?a0xttp ?b0xttp
                case a0xttp =>
                  intro w' hw'
                  clear hw'
                  refine growAt_value ?_
                  go_simp
                  try rfl
                simp only [Act.put, List.setIfInBounds_toArray, List.set_cons_zero, List.set_cons_succ]
                refine grow_step (v := .slice (some ⟨gt, 0, none⟩) NN ct) rfl rfl ?a1xttp ?b1xttp
                case a1xttp =>
                  intro w' hw'
                  have y0 := hw'.cell' a1 (fun h => h)
                  clear hw'
                  refine growAt_value ?_
                  go_simp
                  try rfl
                simp only [Act.put, List.setIfInBounds_toArray, List.set_cons_zero, List.set_cons_succ]
                refine grow_step (v := ik k) rfl rfl ?a2xttp ?b2xttp
                case a2xttp =>
                  intro w' hw'
                  clear hw'
                  refine growAt_value ?_
                  go_simp
                  try rfl
                simp only [Act.put, List.setIfInBounds_toArray, List.set_cons_zero, List.set_cons_succ]
                refine grow_step (v := .pointer (some ⟨gt, k, none⟩)) rfl rfl ?a3xttp ?b3xttp
                case a3xttp =>
                  intro w' hw'
                  clear hw'
                  refine growAt_value ?_
                  go_simp
                  try rfl
                simp only [Act.put, List.setIfInBounds_toArray, List.set_cons_zero, List.set_cons_succ]
                refine grow_step (v := .bool true) rfl rfl ?a4xttp ?b4xttp
                case a4xttp =>
                  intro w' hw'
                  have y0 := hw'.cell' t0 (fun h => h)
                  clear hw'
                  refine growAt_value ?_
                  go_simp
                  try rfl
                simp only [Act.put, List.setIfInBounds_toArray, List.set_cons_zero, List.set_cons_succ]
                refine grow_step (v := .bool true) rfl rfl ?a5xttp ?b5xttp
                case a5xttp =>
                  intro w' hw'
                  clear hw'
                  refine growAt_value ?_
                  go_simp
                  try rfl
                simp only [Act.put, List.setIfInBounds_toArray, List.set_cons_zero, List.set_cons_succ]
                refine grow_step (v := .pointer (some ⟨w.heap.size, 0, none⟩)) rfl rfl ?a6xttp ?b6xttp
                case a6xttp =>
                  intro w' hw'
                  clear hw'
                  refine growAt_value ?_
                  go_simp
                  try rfl
                simp only [Act.put, List.setIfInBounds_toArray, List.set_cons_zero, List.set_cons_succ]
                refine grow_step (v := .slice (some ⟨ga, 0, none⟩) V.length ca) rfl rfl ?a7xttp ?b7xttp
                case a7xttp =>
                  intro w' hw'
                  have y0 := hw'.cell' a0 (fun h => h)
                  clear hw'
                  refine growAt_value ?_
                  go_simp
                  try rfl
                simp only [Act.put, List.setIfInBounds_toArray, List.set_cons_zero, List.set_cons_succ]
                refine grow_step (v := ik k) rfl rfl ?a8xttp ?b8xttp
                case a8xttp =>
                  intro w' hw'
                  clear hw'
                  refine growAt_value ?_
                  go_simp
                  try rfl
                simp only [Act.put, List.setIfInBounds_toArray, List.set_cons_zero, List.set_cons_succ]
                refine grow_step (v := .int .u32 (cc : Int)) rfl rfl ?a9xttp ?b9xttp
                case a9xttp =>
                  intro w' hw'
                  refine growAt_call ?_ ((hcf w' (hst.kept hw')).mono fun e w'' ⟨he, hb⟩ => ⟨he, hb ▸ Fr.refl nob w'⟩)
                  clear hw'
                  go_simp
                simp only [Act.put, List.setIfInBounds_toArray, List.set_cons_zero, List.set_cons_succ]
                refine grow_step (v := .pointer (some ⟨w.heap.size, 0, none⟩)) rfl rfl ?a10xttp ?b10xttp
                case a10xttp =>
                  intro w' hw'
                  clear hw'
                  refine growAt_value ?_
                  go_simp
                  try rfl
                simp only [Act.put, List.setIfInBounds_toArray, List.set_cons_zero, List.set_cons_succ]
                refine grow_step (v := .slice (some ⟨ga, 0, none⟩) V.length ca) rfl rfl ?a11xttp ?b11xttp
                case a11xttp =>
                  intro w' hw'
                  have y0 := hw'.cell' a0 (fun h => h)
                  clear hw'
                  refine growAt_value ?_
                  go_simp
                  try rfl
                simp only [Act.put, List.setIfInBounds_toArray, List.set_cons_zero, List.set_cons_succ]
                refine grow_step (v := ik j) rfl rfl ?a12xttp ?b12xttp
                case a12xttp =>
                  intro w' hw'
                  clear hw'
                  refine growAt_value ?_
                  go_simp
                  try rfl
                simp only [Act.put, List.setIfInBounds_toArray, List.set_cons_zero, List.set_cons_succ]
                refine grow_step (v := .pointer (some ⟨ga, j, none⟩)) rfl rfl ?a13xttp ?b13xttp
                case a13xttp =>
                  intro w' hw'
                  clear hw'
                  refine growAt_value ?_
                  go_simp
                  try rfl
                simp only [Act.put, List.setIfInBounds_toArray, List.set_cons_zero, List.set_cons_succ]
                refine grow_step (v := ik vj) rfl rfl ?a14xttp ?b14xttp
                case a14xttp =>
                  intro w' hw'
                  have y0 := hw'.cell' v0 (fun h => h)
                  clear hw'
                  refine growAt_value ?_
                  go_simp
                  try rfl
                simp only [Act.put, List.setIfInBounds_toArray, List.set_cons_zero, List.set_cons_succ]
                refine grow_step (v := .bool true) rfl rfl ?a15xttp ?b15xttp
                case a15xttp =>
                  intro w' hw'
                  refine growAt_call ?_ ((hsel w').mono fun e w'' ⟨he, hb⟩ => ⟨he, hb ▸ Fr.refl nob w'⟩)
                  clear hw'
                  go_simp
                simp only [Act.put, List.setIfInBounds_toArray, List.set_cons_zero, List.set_cons_succ]
                refine grow_nil ?_
                intro w5 listed p5 _ _
                replace Sfr := Sfr.trans p5 (fun _ _ h => h)
                replace hst := hst.kept p5
                replace a0 := p5.cell' a0 (fun h => h)
                replace a1 := p5.cell' a1 (fun h => h)
                replace t0 := p5.cell' t0 (fun h => h)
                replace v0 := p5.cell' v0 (fun h => h)
                clear p5
                go_upto_region 11 with fail
                refine wp_region_grow' 17 86 (fun _ => #[]) [] (by kernel_rfl) (by kernel_rfl) rfl rfl (by intro T h; cases h) ?_
                simp only [List.take_succ_cons, List.take_zero]
                refine grow_step (v := .pointer (some ⟨w.heap.size, 1, none⟩)) rfl rfl ?a0xttq ?b0xttq
                case a0xttq =>
                  intro w' hw'
                  clear hw'
                  refine growAt_value ?_
                  go_simp
                  try rfl
                simp only [Act.put, List.setIfInBounds_toArray, List.set_cons_zero, List.set_cons_succ]
                refine grow_step (v := .slice (some ⟨gt, 0, none⟩) NN ct) rfl rfl ?a1xttq ?b1xttq
                case a1xttq =>
                  intro w' hw'
                  have y0 := hw'.cell' a1 (fun h => h)
                  clear hw'
                  refine growAt_value ?_
                  go_simp
                  try rfl
                simp only [Act.put, List.setIfInBounds_toArray, List.set_cons_zero, List.set_cons_succ]
                refine grow_step (v := ik k) rfl rfl ?a2xttq ?b2xttq
                case a2xttq =>
                  intro w' hw'
                  clear hw'
                  refine growAt_value ?_
                  go_simp
                  try rfl
                simp only [Act.put, List.setIfInBounds_toArray, List.set_cons_zero, List.set_cons_succ]
                refine grow_step (v := .pointer (some ⟨gt, k, none⟩)) rfl rfl ?a3xttq ?b3xttq
                case a3xttq =>
                  intro w' hw'
                  clear hw'
                  refine growAt_value ?_
                  go_simp
                  try rfl
                simp only [Act.put, List.setIfInBounds_toArray, List.set_cons_zero, List.set_cons_succ]
                refine grow_step (v := .bool true) rfl rfl ?a4xttq ?b4xttq
                case a4xttq =>
                  intro w' hw'
                  have y0 := hw'.cell' t0 (fun h => h)
                  clear hw'
                  refine growAt_value ?_
                  go_simp
                  try rfl
                simp only [Act.put, List.setIfInBounds_toArray, List.set_cons_zero, List.set_cons_succ]
                refine grow_step (v := .bool true) rfl rfl ?a5xttq ?b5xttq
                case a5xttq =>
                  intro w' hw'
                  clear hw'
                  refine growAt_value ?_
                  go_simp
                  try rfl
                simp only [Act.put, List.setIfInBounds_toArray, List.set_cons_zero, List.set_cons_succ]
                refine grow_step (v := .pointer (some ⟨w.heap.size, 0, none⟩)) rfl rfl ?a6xttq ?b6xttq
                case a6xttq =>
                  intro w' hw'
                  clear hw'
                  refine growAt_value ?_
                  go_simp
                  try rfl
                simp only [Act.put, List.setIfInBounds_toArray, List.set_cons_zero, List.set_cons_succ]
                refine grow_step (v := .slice (some ⟨ga, 0, none⟩) V.length ca) rfl rfl ?a7xttq ?b7xttq
                case a7xttq =>
                  intro w' hw'
                  have y0 := hw'.cell' a0 (fun h => h)
                  clear hw'
                  refine growAt_value ?_
                  go_simp
                  try rfl
                simp only [Act.put, List.setIfInBounds_toArray, List.set_cons_zero, List.set_cons_succ]
                refine grow_step (v := ik k) rfl rfl ?a8xttq ?b8xttq
                case a8xttq =>
                  intro w' hw'
                  clear hw'
                  refine growAt_value ?_
                  go_simp
                  try rfl
                simp only [Act.put, List.setIfInBounds_toArray, List.set_cons_zero, List.set_cons_succ]
                refine grow_step (v := .int .u32 (cc : Int)) rfl rfl ?a9xttq ?b9xttq
                case a9xttq =>
                  intro w' hw'
                  refine growAt_call ?_ ((hcf w' (hst.kept hw')).mono fun e w'' ⟨he, hb⟩ => ⟨he, hb ▸ Fr.refl nob w'⟩)
                  clear hw'
                  go_simp
                simp only [Act.put, List.setIfInBounds_toArray, List.set_cons_zero, List.set_cons_succ]
                refine grow_step (v := .pointer (some ⟨w.heap.size, 0, none⟩)) rfl rfl ?a10xttq ?b10xttq
                case a10xttq =>
                  intro w' hw'
                  clear hw'
                  refine growAt_value ?_
                  go_simp
                  try rfl
                simp only [Act.put, List.setIfInBounds_toArray, List.set_cons_zero, List.set_cons_succ]
                refine grow_step (v := .slice (some ⟨ga, 0, none⟩) V.length ca) rfl rfl ?a11xttq ?b11xttq
                case a11xttq =>
                  intro w' hw'
                  have y0 := hw'.cell' a0 (fun h => h)
                  clear hw'
                  refine growAt_value ?_
                  go_simp
                  try rfl
                simp only [Act.put, List.setIfInBounds_toArray, List.set_cons_zero, List.set_cons_succ]
                refine grow_step (v := ik j) rfl rfl ?a12xttq ?b12xttq
                case a12xttq =>
                  intro w' hw'
                  clear hw'
                  refine growAt_value ?_
                  go_simp
                  try rfl
                simp only [Act.put, List.setIfInBounds_toArray, List.set_cons_zero, List.set_cons_succ]
                refine grow_step (v := .pointer (some ⟨ga, j, none⟩)) rfl rfl ?a13xttq ?b13xttq
                case a13xttq =>
                  intro w' hw'
                  clear hw'
                  refine growAt_value ?_
                  go_simp
                  try rfl
                simp only [Act.put, List.setIfInBounds_toArray, List.set_cons_zero, List.set_cons_succ]
                refine grow_step (v := ik vj) rfl rfl ?a14xttq ?b14xttq
                case a14xttq =>
                  intro w' hw'
                  have y0 := hw'.cell' v0 (fun h => h)
                  clear hw'
                  refine growAt_value ?_
                  go_simp
                  try rfl
                simp only [Act.put, List.setIfInBounds_toArray, List.set_cons_zero, List.set_cons_succ]
                refine grow_step (v := .bool true) rfl rfl ?a15xttq ?b15xttq
                case a15xttq =>
                  intro w' hw'
                  refine growAt_call ?_ ((hsel w').mono fun e w'' ⟨he, hb⟩ => ⟨he, hb ▸ Fr.refl nob w'⟩)
                  clear hw'
                  go_simp
                simp only [Act.put, List.setIfInBounds_toArray, List.set_cons_zero, List.set_cons_succ]
                refine grow_step (v := .bool false) rfl rfl ?a16xttq ?b16xttq
                case a16xttq =>
                  intro w' hw'
                  clear hw'
                  refine growAt_value ?_
                  go_simp
                  try rfl
                simp only [Act.put, List.setIfInBounds_toArray, List.set_cons_zero, List.set_cons_succ]
                refine grow_nil ?_
                intro w6 listed p6 _ _
                replace Sfr := Sfr.trans p6 (fun _ _ h => h)
                replace hst := hst.kept p6
                replace a0 := p6.cell' a0 (fun h => h)
                replace a1 := p6.cell' a1 (fun h => h)
                replace t0 := p6.cell' t0 (fun h => h)
                replace v0 := p6.cell' v0 (fun h => h)
                clear p6
                clear a0 a1 t0 v0 hcf hsel hst
                go_wp2_with fail
                exact ⟨⟨k + 1, by omega, by go_num, by rw [HS1.out], by rw [HS2.out], Sfr⟩, by simp [intOf]; omega⟩
              | false =>
                have HS1 := Lib.hid (show alw true V b.ev vj (k + 1) = false by rw [hs1]; simp)
                have HS2 := Lib.hid (show alw false V b.ev vj (k + 1) = ne by rw [hs2]; simp)
                clear hs1 hs2 hal hne
                go_wp2_with fail
                refine wp_region_grow' 16 86 (fun _ => #[]) [] (by kernel_rfl) (by kernel_rfl) rfl rfl (by intro T h; cases h) ?_
                simp only [List.take_succ_cons, List.take_zero]
                refine grow_step (v := .pointer (some ⟨w.heap.size, 1, none⟩)) rfl rfl ?a0xtfp ?b0xtfp
                case a0xtfp =>
                  intro w' hw'
                  clear hw'
                  refine growAt_value ?_
                  go_simp
                  try rfl
                simp only [Act.put, List.setIfInBounds_toArray, List.set_cons_zero, List.set_cons_succ]
                refine grow_step (v := .slice (some ⟨gt, 0, none⟩) NN ct) rfl rfl ?a1xtfp ?b1xtfp
                case a1xtfp =>
                  intro w' hw'
                  have y0 := hw'.cell' a1 (fun h => h)
                  clear hw'
                  refine growAt_value ?_
                  go_simp
                  try rfl
                simp only [Act.put, List.setIfInBounds_toArray, List.set_cons_zero, List.set_cons_succ]
                refine grow_step (v := ik k) rfl rfl ?a2xtfp ?b2xtfp
                case a2xtfp =>
                  intro w' hw'
                  clear hw'
                  refine growAt_value ?_
                  go_simp
                  try rfl
                simp only [Act.put, List.setIfInBounds_toArray, List.set_cons_zero, List.set_cons_succ]
                refine grow_step (v := .pointer (some ⟨gt, k, none⟩)) rfl rfl ?a3xtfp ?b3xtfp
                case a3xtfp =>
                  intro w' hw'
                  clear hw'
                  refine growAt_value ?_
                  go_simp
                  try rfl
                simp only [Act.put, List.setIfInBounds_toArray, List.set_cons_zero, List.set_cons_succ]
                refine grow_step (v := .bool true) rfl rfl ?a4xtfp ?b4xtfp
                case a4xtfp =>
                  intro w' hw'
                  have y0 := hw'.cell' t0 (fun h => h)
                  clear hw'
                  refine growAt_value ?_
                  go_simp
                  try rfl
                simp only [Act.put, List.setIfInBounds_toArray, List.set_cons_zero, List.set_cons_succ]
                refine grow_step (v := .bool true) rfl rfl ?a5xtfp ?b5xtfp
                case a5xtfp =>
                  intro w' hw'
                  clear hw'
                  refine growAt_value ?_
                  go_simp
                  try rfl
                simp only [Act.put, List.setIfInBounds_toArray, List.set_cons_zero, List.set_cons_succ]
                refine grow_step (v := .pointer (some ⟨w.heap.size, 0, none⟩)) rfl rfl ?a6xtfp ?b6xtfp
                case a6xtfp =>
                  intro w' hw'
                  clear hw'
                  refine growAt_value ?_
                  go_simp
                  try rfl
                simp only [Act.put, List.setIfInBounds_toArray, List.set_cons_zero, List.set_cons_succ]
                refine grow_step (v := .slice (some ⟨ga, 0, none⟩) V.length ca) rfl rfl ?a7xtfp ?b7xtfp
                case a7xtfp =>
                  intro w' hw'
                  have y0 := hw'.cell' a0 (fun h => h)
                  clear hw'
                  refine growAt_value ?_
                  go_simp
                  try rfl
                simp only [Act.put, List.setIfInBounds_toArray, List.set_cons_zero, List.set_cons_succ]
                refine grow_step (v := ik k) rfl rfl ?a8xtfp ?b8xtfp
                case a8xtfp =>
                  intro w' hw'
                  clear hw'
                  refine growAt_value ?_
                  go_simp
                  try rfl
                simp only [Act.put, List.setIfInBounds_toArray, List.set_cons_zero, List.set_cons_succ]
                refine grow_step (v := .int .u32 (cc : Int)) rfl rfl ?a9xtfp ?b9xtfp
                case a9xtfp =>
                  intro w' hw'
                  refine growAt_call ?_ ((hcf w' (hst.kept hw')).mono fun e w'' ⟨he, hb⟩ => ⟨he, hb ▸ Fr.refl nob w'⟩)
                  clear hw'
                  go_simp
                simp only [Act.put, List.setIfInBounds_toArray, List.set_cons_zero, List.set_cons_succ]
                refine grow_step (v := .pointer (some ⟨w.heap.size, 0, none⟩)) rfl rfl ?a10xtfp ?b10xtfp
                case a10xtfp =>
                  intro w' hw'
                  clear hw'
                  refine growAt_value ?_
                  go_simp
                  try rfl
                simp only [Act.put, List.setIfInBounds_toArray, List.set_cons_zero, List.set_cons_succ]
                refine grow_step (v := .slice (some ⟨ga, 0, none⟩) V.length ca) rfl rfl ?a11xtfp ?b11xtfp
                case a11xtfp =>
                  intro w' hw'
                  have y0 := hw'.cell' a0 (fun h => h)
                  clear hw'
                  refine growAt_value ?_
                  go_simp
                  try rfl
                simp only [Act.put, List.setIfInBounds_toArray, List.set_cons_zero, List.set_cons_succ]
                refine grow_step (v := ik j) rfl rfl ?a12xtfp ?b12xtfp
                case a12xtfp =>
                  intro w' hw'
                  clear hw'
                  refine growAt_value ?_
                  go_simp
                  try rfl
                simp only [Act.put, List.setIfInBounds_toArray, List.set_cons_zero, List.set_cons_succ]
                refine grow_step (v := .pointer (some ⟨ga, j, none⟩)) rfl rfl ?a13xtfp ?b13xtfp
                case a13xtfp =>
                  intro w' hw'
                  clear hw'
                  refine growAt_value ?_
                  go_simp
                  try rfl
                simp only [Act.put, List.setIfInBounds_toArray, List.set_cons_zero, List.set_cons_succ]
                refine grow_step (v := ik vj) rfl rfl ?a14xtfp ?b14xtfp
                case a14xtfp =>
                  intro w' hw'
                  have y0 := hw'.cell' v0 (fun h => h)
                  clear hw'
                  refine growAt_value ?_
                  go_simp
                  try rfl
                simp only [Act.put, List.setIfInBounds_toArray, List.set_cons_zero, List.set_cons_succ]
                refine grow_step (v := .bool false) rfl rfl ?a15xtfp ?b15xtfp
                case a15xtfp =>
                  intro w' hw'
                  refine growAt_call ?_ ((hsel w').mono fun e w'' ⟨he, hb⟩ => ⟨he, hb ▸ Fr.refl nob w'⟩)
                  clear hw'
                  go_simp
                simp only [Act.put, List.setIfInBounds_toArray, List.set_cons_zero, List.set_cons_succ]
                refine grow_nil ?_
                intro w5 listed p5 _ _
                replace Sfr := Sfr.trans p5 (fun _ _ h => h)
                replace hst := hst.kept p5
                replace a0 := p5.cell' a0 (fun h => h)
                replace a1 := p5.cell' a1 (fun h => h)
                replace t0 := p5.cell' t0 (fun h => h)
                replace v0 := p5.cell' v0 (fun h => h)
                clear p5
                go_upto_region 11 with fail
                refine wp_region_grow' 17 86 (fun _ => #[]) [] (by kernel_rfl) (by kernel_rfl) rfl rfl (by intro T h; cases h) ?_
                simp only [List.take_succ_cons, List.take_zero]
                refine grow_step (v := .pointer (some ⟨w.heap.size, 1, none⟩)) rfl rfl ?a0xtfq ?b0xtfq
                case a0xtfq =>
                  intro w' hw'
                  clear hw'
                  refine growAt_value ?_
                  go_simp
                  try rfl
                simp only [Act.put, List.setIfInBounds_toArray, List.set_cons_zero, List.set_cons_succ]
                refine grow_step (v := .slice (some ⟨gt, 0, none⟩) NN ct) rfl rfl ?a1xtfq ?b1xtfq
                case a1xtfq =>
                  intro w' hw'
                  have y0 := hw'.cell' a1 (fun h => h)
                  clear hw'
                  refine growAt_value ?_
                  go_simp
                  try rfl
                simp only [Act.put, List.setIfInBounds_toArray, List.set_cons_zero, List.set_cons_succ]
                refine grow_step (v := ik k) rfl rfl ?a2xtfq ?b2xtfq
                case a2xtfq =>
                  intro w' hw'
                  clear hw'
                  refine growAt_value ?_
                  go_simp
                  try rfl
                simp only [Act.put, List.setIfInBounds_toArray, List.set_cons_zero, List.set_cons_succ]
                refine grow_step (v := .pointer (some ⟨gt, k, none⟩)) rfl rfl ?a3xtfq ?b3xtfq
                case a3xtfq =>
                  intro w' hw'
                  clear hw'
                  refine growAt_value ?_
                  go_simp
                  try rfl
                simp only [Act.put, List.setIfInBounds_toArray, List.set_cons_zero, List.set_cons_succ]
                refine grow_step (v := .bool true) rfl rfl ?a4xtfq ?b4xtfq
                case a4xtfq =>
                  intro w' hw'
                  have y0 := hw'.cell' t0 (fun h => h)
                  clear hw'
                  refine growAt_value ?_
                  go_simp
                  try rfl
                simp only [Act.put, List.setIfInBounds_toArray, List.set_cons_zero, List.set_cons_succ]
                refine grow_step (v := .bool true) rfl rfl ?a5xtfq ?b5xtfq
                case a5xtfq =>
                  intro w' hw'
                  clear hw'
                  refine growAt_value ?_
                  go_simp
                  try rfl
                simp only [Act.put, List.setIfInBounds_toArray, List.set_cons_zero, List.set_cons_succ]
                refine grow_step (v := .pointer (some ⟨w.heap.size, 0, none⟩)) rfl rfl ?a6xtfq ?b6xtfq
                case a6xtfq =>
                  intro w' hw'
                  clear hw'
                  refine growAt_value ?_
                  go_simp
                  try rfl
                simp only [Act.put, List.setIfInBounds_toArray, List.set_cons_zero, List.set_cons_succ]
                refine grow_step (v := .slice (some ⟨ga, 0, none⟩) V.length ca) rfl rfl ?a7xtfq ?b7xtfq
                case a7xtfq =>
                  intro w' hw'
                  have y0 := hw'.cell' a0 (fun h => h)
                  clear hw'
                  refine growAt_value ?_
                  go_simp
                  try rfl
                simp only [Act.put, List.setIfInBounds_toArray, List.set_cons_zero, List.set_cons_succ]
                refine grow_step (v := ik k) rfl rfl ?a8xtfq ?b8xtfq
                case a8xtfq =>
                  intro w' hw'
                  clear hw'
                  refine growAt_value ?_
                  go_simp
                  try rfl
                simp only [Act.put, List.setIfInBounds_toArray, List.set_cons_zero, List.set_cons_succ]
                refine grow_step (v := .int .u32 (cc : Int)) rfl rfl ?a9xtfq ?b9xtfq
                case a9xtfq =>
                  intro w' hw'
                  refine growAt_call ?_ ((hcf w' (hst.kept hw')).mono fun e w'' ⟨he, hb⟩ => ⟨he, hb ▸ Fr.refl nob w'⟩)
                  clear hw'
                  go_simp
                simp only [Act.put, List.setIfInBounds_toArray, List.set_cons_zero, List.set_cons_succ]
                refine grow_step (v := .pointer (some ⟨w.heap.size, 0, none⟩)) rfl rfl ?a10xtfq ?b10xtfq
                case a10xtfq =>
                  intro w' hw'
                  clear hw'
                  refine growAt_value ?_
                  go_simp
                  try rfl
                simp only [Act.put, List.setIfInBounds_toArray, List.set_cons_zero, List.set_cons_succ]
                refine grow_step (v := .slice (some ⟨ga, 0, none⟩) V.length ca) rfl rfl ?a11xtfq ?b11xtfq
                case a11xtfq =>
                  intro w' hw'
                  have y0 := hw'.cell' a0 (fun h => h)
                  clear hw'
                  refine growAt_value ?_
                  go_simp
                  try rfl
                simp only [Act.put, List.setIfInBounds_toArray, List.set_cons_zero, List.set_cons_succ]
                refine grow_step (v := ik j) rfl rfl ?a12xtfq ?b12xtfq
                case a12xtfq =>
                  intro w' hw'
                  clear hw'
                  refine growAt_value ?_
                  go_simp
                  try rfl
                simp only [Act.put, List.setIfInBounds_toArray, List.set_cons_zero, List.set_cons_succ]
                refine grow_step (v := .pointer (some ⟨ga, j, none⟩)) rfl rfl ?a13xtfq ?b13xtfq
                case a13xtfq =>
                  intro w' hw'
                  clear hw'
                  refine growAt_value ?_
                  go_simp
                  try rfl
                simp only [Act.put, List.setIfInBounds_toArray, List.set_cons_zero, List.set_cons_succ]
                refine grow_step (v := ik vj) rfl rfl ?a14xtfq ?b14xtfq
                case a14xtfq =>
                  intro w' hw'
                  have y0 := hw'.cell' v0 (fun h => h)
                  clear hw'
                  refine growAt_value ?_
                  go_simp
                  try rfl
                simp only [Act.put, List.setIfInBounds_toArray, List.set_cons_zero, List.set_cons_succ]
                refine grow_step (v := .bool false) rfl rfl ?a15xtfq ?b15xtfq
                case a15xtfq =>
                  intro w' hw'
                  refine growAt_call ?_ ((hsel w').mono fun e w'' ⟨he, hb⟩ => ⟨he, hb ▸ Fr.refl nob w'⟩)
                  clear hw'
                  go_simp
                simp only [Act.put, List.setIfInBounds_toArray, List.set_cons_zero, List.set_cons_succ]
                refine grow_step (v := .bool true) rfl rfl ?a16xtfq ?b16xtfq
                case a16xtfq =>
                  intro w' hw'
                  clear hw'
                  refine growAt_value ?_
                  go_simp
                  try rfl
                simp only [Act.put, List.setIfInBounds_toArray, List.set_cons_zero, List.set_cons_succ]
                refine grow_nil ?_
                intro w6 listed p6 _ _
                replace Sfr := Sfr.trans p6 (fun _ _ h => h)
                replace hst := hst.kept p6
                replace a0 := p6.cell' a0 (fun h => h)
                replace a1 := p6.cell' a1 (fun h => h)
                replace t0 := p6.cell' t0 (fun h => h)
                replace v0 := p6.cell' v0 (fun h => h)
                clear p6
                clear a0 a1 t0 v0 hcf hsel hst
                go_wp2_with fail
                exact ⟨⟨k + 1, by omega, by go_num, by rw [HS1.out], by rw [HS2.out], Sfr⟩, by simp [intOf]; omega⟩
          · obtain rfl : k = NN := by omega
            have S2 := S1.trans Sfr (fun _ _ h => h)
            have hn1 := HL1.out j
            have hn2 := HL2.out j
            generalize hz1 : fxL true V b.ev (j + 1) = z1 at *
            generalize hz2 : fxL false V b.ev (j + 1) = z2 at *
            generalize fxL true V b.ev j = y1 at *
            generalize fxL false V b.ev j = y2 at *
            have HZ1 := Lib.hid hz1
            have HZ2 := Lib.hid hz2
            clear hz1 hz2 hE hA hT S0 S1 Sfr frw frw1
            generalize alw true V b.ev vj k = al at *
            generalize alw false V b.ev vj k = ne at *
            cases al <;> cases ne
            all_goals
              have hx1 := HX1.out
              have hx2 := HX2.out
              simp only [if_true, if_false, Bool.false_eq_true, Nat.add_zero] at hx1 hx2
              have h1 := Lib.hid hx1
              have h2 := Lib.hid hx2
              clear hx1 hx2
              go_wp2_with fail
              refine ⟨⟨j + 1, by omega, by go_num, ?_, ?_, S2, fun h => absurd h HBF.out⟩, by simp [intOf]; omega⟩
              · first
                  | (rw [HZ1.out, h1.out]; done)
                  | rw [HZ1.out, h1.out, add_pow _ _ (by have := hn1; omega) hvj]
              · first
                  | (rw [HZ2.out, h2.out]; done)
                  | rw [HZ2.out, h2.out, add_pow _ _ (by have := hn2; omega) hvj]
    · obtain rfl : j = V.length := by omega
      by_cases hbF : b = .F
      · have hz := hj0 hbF
        have HV1 := Lib.hid (show fixV b = (0, 0) by rw [HV0.out, if_pos hbF])
        have e1 : numN (fxL true V b.ev V.length) = 0 := by rw [hz]; rfl
        have e2 : numN (fxL false V b.ev V.length) = 0 := by rw [hz]; rfl
        rw [e1, e2]
        clear hE hA hT hz e1 e2 hj0 S0
        go_wp2_with fail
        go_ret2
        exact ⟨by rw [HV1.out]; rfl, frw.to_below (Nat.le_refl _) (fun _ h => h.elim)⟩
      · obtain ⟨e1, e2⟩ := HFX.out hbF
        have HV1 := Lib.hid (show fixV b = fxV b by rw [HV0.out, if_neg hbF])
        rw [e1, e2]
        clear hE hA hT e1 e2 hj0 S0
        go_wp2_with fail
        go_ret2
        exact ⟨by rw [HV1.out]; rfl, frw.to_below (Nat.le_refl _) (fun _ h => h.elim)⟩
end Go.Proofs.YtpmnfpjpdpejgaaDoor
