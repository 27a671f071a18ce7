import Derived.Test.YtiainlccodnlmaaGreatDoorPic
import Derived.Test.YtiainlccodnlmaaGreatDoorNear
namespace Go.Proofs.YtiainlccodnlmaaGreatDoor
open Go.RowKit
open Bd

/-! what is picked by going through the candidates is what best picks -/

/-- n candidates were looked at: none is in the set, or one is, and none of them is before it -/
inductive BSt (g : Nat → Bool) (cd : Nat → Nat) (P : Nat → Int) (n : Nat) : Nat → Int → Bool → Prop
  | none (h : ∀ k, k < n → g k = false) : BSt g cd P n 0 0 false
  | some (k : Nat) (hk : k < n) (hg : g k = true) (h : ∀ j, j < n → g j = true → P (cd k) < P (cd j) ∨ (P (cd k) = P (cd j) ∧ cd k ≤ cd j)) : BSt g cd P n (cd k) (P (cd k)) true
section
variable {g : Nat → Bool} {cd : Nat → Nat} {P : Nat → Int} {n b : Nat} {l : Int} {is : Bool}
theorem BSt.skip (h : BSt g cd P n b l is) (hg : g n = false) : BSt g cd P (n + 1) b l is := by
  cases h with
  | none h =>
    exact .none fun k hk => by
      by_cases e : k = n
      · subst e; exact hg
      · exact h k (by omega)
  | some k hk hgk h =>
    exact .some k (by omega) hgk fun j hj hgj => by
      by_cases e : j = n
      · subst e; rw [hg] at hgj; cases hgj
      · exact h j (by omega) hgj
theorem BSt.new (h : BSt g cd P n b l false) (hg : g n = true) : BSt g cd P (n + 1) (cd n) (P (cd n)) true := by
  cases h with
  | none h =>
    exact .some n (by omega) hg fun j hj hgj => by
      by_cases e : j = n
      · subst e; exact .inr ⟨rfl, Nat.le_refl _⟩
      · rw [h j (by omega)] at hgj; cases hgj
theorem BSt.better (h : BSt g cd P n b l true) (hg : g n = true) (hb : P (cd n) < l ∨ (P (cd n) = l ∧ cd n < b)) : BSt g cd P (n + 1) (cd n) (P (cd n)) true := by
  cases h with
  | some k hk hgk h =>
    exact .some n (by omega) hg fun j hj hgj => by
      by_cases e : j = n
      · subst e; exact .inr ⟨rfl, Nat.le_refl _⟩
      · have := h j (by omega) hgj; omega
theorem BSt.worse (h : BSt g cd P n b l true) (hb : ¬ (P (cd n) < l ∨ (P (cd n) = l ∧ cd n < b))) : BSt g cd P (n + 1) b l true := by
  cases h with
  | some k hk hgk h =>
    exact .some k (by omega) hgk fun j hj hgj => by
      by_cases e : j = n
      · subst e; omega
      · exact h j (by omega) hgj
end

/-- the candidate of an index -/
def cand (V : List Nat) (r k : Nat) : Nat := cfgN V k ||| (r &&& (4294967295 - numN V))
theorem cand_out {V : List Nat} (hV : rising V) {r : Nat} (k : Nat) {i : Nat} (hi : i < 24) (h : i ∉ V) : (cand V r k).testBit i = r.testBit i := by
  have h1 : (cfgN V k).testBit i = false := by
    cases hb : (cfgN V k).testBit i with
    | false => rfl
    | true => obtain ⟨j, hj, _⟩ := (cfgN_bit k hV.1 i).1 hb; exact absurd (List.mem_of_getElem? hj) h
  have h2 : (numN V).testBit i = false := by
    cases hb : (numN V).testBit i with
    | false => rfl
    | true => exact absurd (numN_bit.1 hb) h
  have hlt := numN_lt hV.2
  unfold cand
  rw [Nat.testBit_or, h1, Bool.false_or, Nat.testBit_and, show (4294967295 : Nat) - numN V = 2 ^ 32 - (numN V + 1) by omega, Nat.testBit_two_pow_sub_succ (by omega), h2]
  simp; omega
theorem cand_in {V : List Nat} (hV : rising V) {r : Nat} (k : Nat) {i : Nat} (h : i ∈ V) : (cand V r k).testBit i = (cfgN V k).testBit i := by
  have hi := hV.2 i h
  have hlt := numN_lt hV.2
  unfold cand
  rw [Nat.testBit_or, Nat.testBit_and, show (4294967295 : Nat) - numN V = 2 ^ 32 - (numN V + 1) by omega, Nat.testBit_two_pow_sub_succ (by omega), numN_bit.2 h]
  simp
theorem cand_lt {V : List Nat} (hV : rising V) {r : Nat} (hr : r < 2 ^ 24) (k : Nat) : cand V r k < 2 ^ 24 := by
  unfold cand
  exact Nat.or_lt_two_pow (cfgN_lt hV k) (Nat.lt_of_le_of_lt Nat.and_le_left hr)
/-- best's pick is a candidate -/
theorem pick_cand {w : Nat → Int} (hw : ∀ j, -2147483648 ≤ w j ∧ w j ≤ 2147483648) {A : B} (hA : A.ok 0) (hF : A ≠ .F) {V : List Nat} (hV : rising V) (hf : onV V A.ev) :
    ∃ k, k < 2 ^ V.length ∧ A.ev (bitsOf (cfgN V k)) = true ∧ cand V (usN w 24) k = bstN w A := by
  obtain ⟨hl, he, hm⟩ := pick_all hw hA hF
  obtain ⟨k, hk, hb⟩ := num_ex V hV (bitsOf (bstN w A))
  have hev : A.ev (bitsOf (cfgN V k)) = true := by exact (hf _ _ hb).trans he
  refine ⟨k, hk, hev, ?_⟩
  have hin : ∀ i, i ∈ V → (cand V (usN w 24) k).testBit i = (bstN w A).testBit i := fun i hi => by rw [cand_in hV k hi]; exact hb i hi
  have hevc : A.ev (bitsOf (cand V (usN w 24) k)) = true := by exact (hf _ _ hin).trans he
  have h1 := hm _ hevc
  have e1 := pr_cst (usN_24 w) (cand V (usN w 24) k)
  have e2 := pr_cst (usN_24 w) (bstN w A)
  have hle : ∀ j, j < 24 → 0 ≤ prj w (usN w 24) (bstN w A) j - prj w (usN w 24) (cand V (usN w 24) k) j := fun j hj => by
    by_cases hjV : j ∈ V
    · have : prj w (usN w 24) (bstN w A) j = prj w (usN w 24) (cand V (usN w 24) k) j := by unfold prj; rw [hin j hjV]
      omega
    · have : prj w (usN w 24) (cand V (usN w 24) k) j = 0 := by unfold prj; rw [if_pos (cand_out hV k hj hjV)]
      have := prj_nonneg w (usN w 24) (bstN w A) j
      omega
  have hsub : sumF (fun j => prj w (usN w 24) (bstN w A) j - prj w (usN w 24) (cand V (usN w 24) k) j) 24 = pr w (usN w 24) (bstN w A) - pr w (usN w 24) (cand V (usN w 24) k) := sumF_sub fun j _ => rfl
  have hnn := sumF_nonneg hle
  have hz := sumF_zero hle (by omega)
  have hcl := cand_lt hV (usN_lt w (Nat.le_refl 24)) k
  have hbit : ∀ j, (cand V (usN w 24) k).testBit j = true → (bstN w A).testBit j = true := fun j hj => by
    by_cases hj24 : j < 24
    · by_cases hjV : j ∈ V
      · rw [← hin j hjV]; exact hj
      · have h0 := hz j hj24
        have hc0 : prj w (usN w 24) (cand V (usN w 24) k) j = 0 := by unfold prj; rw [if_pos (cand_out hV k hj24 hjV)]
        have hb0 : prj w (usN w 24) (bstN w A) j = 0 := by omega
        rw [cand_out hV k hj24 hjV, usN_24 w j hj24] at hj
        have hneg : w j < 0 := by simpa using hj
        unfold prj at hb0
        rw [if_pos hneg] at hb0
        split at hb0
        · rename_i e; rw [e, usN_24 w j hj24]; simpa using hneg
        · omega
    · rw [Nat.testBit_lt_two_pow (Nat.lt_of_lt_of_le hcl (Nat.pow_le_pow_right (by omega) (by omega)))] at hj; cases hj
  have hsubset : cand V (usN w 24) k ≤ bstN w A := by
    have : cand V (usN w 24) k &&& bstN w A = cand V (usN w 24) k := Nat.eq_of_testBit_eq fun j => by
      rw [Nat.testBit_and]
      cases hj : (cand V (usN w 24) k).testBit j with
      | false => rfl
      | true => rw [hbit j hj]; rfl
    rw [← this]; exact Nat.and_le_right
  omega
theorem best_eq {w : Nat → Int} (hw : ∀ j, -2147483648 ≤ w j ∧ w j ≤ 2147483648) {A : B} (hA : A.ok 0) {V : List Nat} (hV : rising V) (hf : onV V A.ev) {P : Nat → Int} (K : Int) (hP : ∀ c, c < 2 ^ 24 → P c = cst w c + K)
    {b : Nat} {l : Int} {is : Bool} (h : BSt (fun k => A.ev (bitsOf (cfgN V k))) (cand V (usN w 24)) P (2 ^ V.length) b l is) : b = bstN w A ∧ is = !decide (A = .F) := by
  by_cases hF : A = .F
  · subst hF
    cases h with
    | none h => exact ⟨by unfold bstN; rw [if_pos rfl], by simp⟩
    | some k hk hg h => cases hg
  · obtain ⟨k0, hk0, hg0, hc0⟩ := pick_cand hw hA hF hV hf
    obtain ⟨hl, he, hm⟩ := pick_all hw hA hF
    cases h with
    | none h => rw [h k0 hk0] at hg0; cases hg0
    | some k hk hg h =>
      have h1 := h k0 hk0 hg0
      rw [hc0, hP _ (cand_lt hV (usN_lt w (Nat.le_refl 24)) k), hP _ hl] at h1
      have hev : A.ev (bitsOf (cand V (usN w 24) k)) = true := by
        exact (hf _ _ fun i hi => cand_in hV k hi).trans hg
      have h2 := hm _ hev
      exact ⟨by omega, by simp [hF]⟩
end Go.Proofs.YtiainlccodnlmaaGreatDoor
namespace Go.Proofs.YtiainlccodnlmaaGreatDoor
open Go.RowKit
open Bd

set_option maxRecDepth 100000 in
set_option maxHeartbeats 4000000 in
/-- Best of the reference -/
theorem RBest_any (V : List Nat) (f : Cfg → Bool) (rest near : Nat) (hr : rest < 16777216) (hnr : near < 16777216) (far : Bool) (lc : List Int) (hlc : wOk lc = true) (cv : Value) (P : Nat → Int)
    (hP1 : far = true → ∀ c, c < 16777216 → P c = ((featL (c ^^^ near)).length : Int)) (hP2 : far = false → ∀ c, c < 16777216 → P c = sumC (gl lc) (bitsOf c) lc.length)
    (v : Value) (w : World) (hs : RSet w v V f) (hcv : IRow w cv lc) :
    Calls Tryz.prog 39 #[v, .int .u32 (rest : Int), cv, .int .u32 (near : Int), .bool far] w fun e w' => ∃ (b : Nat) (l : Int) (is : Bool), e = .returned (.tuple #[.int .u32 (b : Int), .bool is]) ∧ BSt (fun k => f (bitsOf (cfgN V k))) (cand V rest) P (2 ^ V.length) b l is ∧ Below w.heap.size w w' := by
  obtain ⟨hV, hf, sv, st, rfl, h1, h2⟩ := hs
  obtain ⟨a, cap, rfl⟩ := h1.form
  obtain ⟨a2, cap2, rfl⟩ := h2.form
  obtain ⟨ac, capc, rfl⟩ := hcv.form
  have hl := rising_len hV
  have hpow : 2 ^ V.length ≤ 2 ^ 24 := Nat.pow_le_pow_right (by omega) hl
  have htl := tab_length V f
  have hcl := fun k => cand_lt hV (r := rest) hr k
  have HTA := Lib.hid (fun k (h : k < 2 ^ V.length) => tab_at (V := V) (f := f) h)
  simp only [List.length_map] at *
  rw [htl] at *
  obtain ⟨M, hMe⟩ : ∃ M, 2 ^ V.length = M := ⟨_, rfl⟩
  rw [hMe] at hpow HTA ⊢
  have hM : M ≤ 16777216 := hpow
  have B0 := Box2.new w (.slice a V.length cap) (.slice a2 M cap2) 36
  have fr : Fr nob w (w.alloc (.cells #[.slice a V.length cap, .slice a2 M cap2] 36)) := (Fr.refl nob w).alloc _
  have HVR := Lib.hid hV
  have hrow2 : SRow w (.slice a2 M cap2) ((tab V f).map Value.bool) := by have := h2; rwa [htl, hMe] at this
  have hs1 := h1.kept fr
  have hs2 := hrow2.kept fr
  have hci := hcv.kept fr (fun _ _ h => h)
  clear hpow htl hf h1 h2 hrow2 hcv hV
  have HCL := Lib.hid hcl
  have HMe := Lib.hid hMe
  have HP1 := Lib.hid hP1
  have HP2 := Lib.hid hP2
  clear hcl hMe hP1 hP2
  have HB0 := Lib.hid B0
  have HFW := Lib.hid fr
  go_enter Tryz.func39, Tryz.ntmps39
  go_upto_region 3 with fail
  generalize w.alloc (.cells #[.slice a V.length cap, .slice a2 M cap2] 36) = W0 at *
  generalize hgg : w.heap.size = g at *
  have HGG := Lib.hid hgg
  clear hgg B0 fr
  have HS1 := Lib.hid hs1
  have HS2 := Lib.hid hs2
  have HCI := Lib.hid hci
  have HBX := HB0
  clear hs1 hs2 hci HB0
  go_loopw [12, 13, 14, 15] (fun bv lv iv kv wr => ∃ (k b : Nat) (l : Int) (is : Bool), k ≤ M ∧ bv = .int .u32 (b : Int) ∧ lv = .int .i64 l ∧ iv = .bool is ∧ kv = .int .i64 (k : Int) ∧ BSt (fun k => f (bitsOf (cfgN V k))) (cand V rest) P k b l is ∧ Fr nob W0 wr) (fun _ _ _ kv _ => M - (intOf kv).toNat)
  case atStart => exact ⟨0, 0, 0, false, Nat.zero_le _, rfl, rfl, rfl, rfl, .none (fun k h => absurd h (Nat.not_lt_zero _)), Fr.refl _ _⟩
  case round =>
    obtain ⟨k, b, l, is, hk, rfl, rfl, rfl, rfl, hbs, hfr⟩ := hrel
    have HBS := Lib.hid hbs
    have HFr := Lib.hid hfr
    have e1 := (HBX.out.kept hfr (fun h => h)).c0
    have e2 := (HBX.out.kept hfr (fun h => h)).c1
    clear hbs hfr
    by_cases hkM : k < M
    · have hkk : (k : Int) < (M : Int) := by omega
      have hcell : ((tab V f).map Value.bool)[k]? = some (.bool (f (bitsOf (cfgN V k)))) := by rw [List.getElem?_map, HTA.out k hkM]; rfl
      have hat := (HS2.out.kept HFr.out).at hcell
      have HAT := Lib.hid hat
      clear hcell hat
      obtain ⟨g2, rfl, hc2⟩ := HAT.out
      have HG0 : ∃ x, f (bitsOf (cfgN V k)) = x := ⟨_, rfl⟩
      obtain ⟨x, hx⟩ := HG0
      rw [hx] at hc2
      have HG := Lib.hid hx
      clear hx HAT
      cases x with
      | false =>
        go_wp2_with fail
        have HN := Lib.hid (HBS.out.skip HG.out)
        refine ⟨⟨k + 1, _, _, _, by omega, rfl, rfl, rfl, by go_num, HN.out, HFr.out⟩, by simp [intOf]; omega⟩
      | true =>
        have hcl := HCL.out k
        have hnv := numN_lt HVR.out.2
        have hcf := cfgN_lt HVR.out k
        have ea := u32_andNot_nat rest (numN V) (by omega) (by omega)
        have hla : rest &&& (4294967295 - numN V) < 4294967296 := Nat.lt_of_le_of_lt Nat.and_le_left (by omega)
        have eo : bits BinOp.or IntKind.u32 (cfgN V k : Int) ((rest &&& (4294967295 - numN V) : Nat) : Int) = (cand V rest k : Int) := u32_or_nat _ _ (by omega) hla
        go_upto_region 6 with fail
        clear hc2
        refine wp_region_grow' 10 71 (fun _ => #[]) [] (by kernel_rfl) (by kernel_rfl) rfl rfl (by intro T h; cases h) ?_
        simp only [List.take_succ_cons, List.take_zero]
        refine grow_step (v := .pointer (some ⟨g, 0, none⟩)) rfl rfl ?s1 ?_
        case s1 =>
          intro w' hw'
          clear hw'
          refine growAt_value ?_
          go_simp
          try rfl
        simp only [Act.put, List.setIfInBounds_toArray, List.set_cons_zero, List.set_cons_succ]
        refine grow_step (v := .slice a V.length cap) rfl rfl ?s2 ?_
        case s2 =>
          intro w' hw'
          have y0 := (HBX.out.kept (HFr.out.trans hw' (fun _ _ h => h)) (fun h => h)).c0
          clear hw'
          refine growAt_value ?_
          go_simp
          try rfl
        simp only [Act.put, List.setIfInBounds_toArray, List.set_cons_zero, List.set_cons_succ]
        refine grow_step (v := ik k) rfl rfl ?s3 ?_
        case s3 =>
          intro w' hw'
          clear hw'
          refine growAt_value ?_
          go_simp
          try rfl
        simp only [Act.put, List.setIfInBounds_toArray, List.set_cons_zero, List.set_cons_succ]
        refine grow_step (v := .int .u32 (cfgN V k : Int)) rfl rfl ?s4 ?_
        case s4 =>
          intro w' hw'
          have frx := HFr.out.trans hw' (fun _ _ h => h)
          have hsx := HS1.out.kept frx
          refine growAt_call ?_ ((Config_any V HVR.out k (by omega) _ w' hsx).mono fun e w'' ⟨he, hb⟩ => ⟨he, by rw [← hb]; exact Fr.refl nob _⟩)
          clear hw' frx hsx
          go_simp
        simp only [Act.put, List.setIfInBounds_toArray, List.set_cons_zero, List.set_cons_succ]
        refine grow_step (v := .int .u32 (rest : Int)) rfl rfl ?s5 ?_
        case s5 =>
          intro w' hw'
          clear hw'
          refine growAt_value ?_
          go_simp
          try rfl
        simp only [Act.put, List.setIfInBounds_toArray, List.set_cons_zero, List.set_cons_succ]
        refine grow_step (v := .pointer (some ⟨g, 0, none⟩)) rfl rfl ?s6 ?_
        case s6 =>
          intro w' hw'
          clear hw'
          refine growAt_value ?_
          go_simp
          try rfl
        simp only [Act.put, List.setIfInBounds_toArray, List.set_cons_zero, List.set_cons_succ]
        refine grow_step (v := .slice a V.length cap) rfl rfl ?s7 ?_
        case s7 =>
          intro w' hw'
          have y0 := (HBX.out.kept (HFr.out.trans hw' (fun _ _ h => h)) (fun h => h)).c0
          clear hw'
          refine growAt_value ?_
          go_simp
          try rfl
        simp only [Act.put, List.setIfInBounds_toArray, List.set_cons_zero, List.set_cons_succ]
        refine grow_step (v := .int .u32 (numN V : Int)) rfl rfl ?s8 ?_
        case s8 =>
          intro w' hw'
          have frx := HFr.out.trans hw' (fun _ _ h => h)
          have hsx := HS1.out.kept frx
          refine growAt_call ?_ ((Number_any V HVR.out.2 (by omega) _ w' hsx).mono fun e w'' ⟨he, hb⟩ => ⟨he, by rw [← hb]; exact Fr.refl nob _⟩)
          clear hw' frx hsx
          go_simp
        simp only [Act.put, List.setIfInBounds_toArray, List.set_cons_zero, List.set_cons_succ]
        refine grow_step (v := .int .u32 ((rest &&& (4294967295 - numN V) : Nat) : Int)) rfl rfl ?s9 ?_
        case s9 =>
          intro w' hw'
          clear hw'
          refine growAt_value ?_
          go_simp
          try rfl
        simp only [Act.put, List.setIfInBounds_toArray, List.set_cons_zero, List.set_cons_succ]
        refine grow_step (v := .int .u32 (cand V rest k : Int)) rfl rfl ?s10 ?_
        case s10 =>
          intro w' hw'
          clear hw'
          refine growAt_value ?_
          go_simp
          try rfl
        simp only [Act.put, List.setIfInBounds_toArray, List.set_cons_zero, List.set_cons_succ]
        refine grow_nil ?_
        rintro w2 listed fr2 - -
        have HF2 := Lib.hid (HFr.out.trans fr2 (fun _ _ h => h))
        clear e1 e2 fr2 HFr
        have hcl' := hcl
        cases far with
        | true =>
          have exr : bits BinOp.xor IntKind.u32 (cand V rest k : Int) (near : Int) = ((cand V rest k ^^^ near : Nat) : Int) := u32_xor_nat _ _ (by omega) (by omega)
          have hxl : cand V rest k ^^^ near < 2 ^ 32 := Nat.xor_lt_two_pow (by omega) (by omega)
          have HFE := Lib.hid (Features_any (cand V rest k ^^^ near) hxl w2)
          have HPX := Lib.hid (HP1.out rfl (cand V rest k) hcl)
          clear ea eo hla hnv hcf hxl
          go_wp2_with fail
          refine HFE.out.mono ?_
          rintro e w3 ⟨fv, rfl, hsr, hb3⟩
          obtain ⟨af, cf, hfe⟩ := hsr.form
          rw [List.length_map] at hfe
          subst hfe
          obtain ⟨n, hn⟩ : ∃ n, (featL (cand V rest k ^^^ near)).length = n := ⟨_, rfl⟩
          have HP := Lib.hid (show P (cand V rest k) = (n : Int) by rw [HPX.out, hn])
          rw [hn]
          have HF3 := Lib.hid (HF2.out.below hb3)
          clear exr hsr hb3 hn HPX HFE HF2
          have HFZ := HF3
          cases is with
          | false =>
            have HN := Lib.hid (HBS.out.new HG.out)
            rw [HP.out] at HN
            go_wp2_with fail
            refine ⟨⟨k + 1, _, _, _, by omega, rfl, rfl, rfl, by go_num, HN.out, HFZ.out⟩, by simp [intOf]; omega⟩
          | true =>
            by_cases h1 : (n : Int) < l
            · have t1 : decide ((n : Int) < l) = true := by simpa using h1
              have HN := Lib.hid (HBS.out.better HG.out (.inl (by rw [HP.out]; exact h1)))
              rw [HP.out] at HN
              clear h1
              go_wp2_with fail
              refine ⟨⟨k + 1, _, _, _, by omega, rfl, rfl, rfl, by go_num, HN.out, HFZ.out⟩, by simp [intOf]; omega⟩
            · have t1 : decide ((n : Int) < l) = false := by simpa using h1
              by_cases h2 : (n : Int) = l
              · have t2 : ((n : Int) == l) = true := by simpa using h2
                by_cases h3 : cand V rest k < b
                · have t3 : decide ((cand V rest k : Int) < (b : Int)) = true := by simp; omega
                  have t3' : decide (cand V rest k < b) = true := by simp; omega
                  have HN := Lib.hid (HBS.out.better HG.out (.inr ⟨by rw [HP.out]; exact h2, h3⟩))
                  rw [HP.out] at HN
                  clear h1 h2 h3
                  go_wp2_with fail
                  refine ⟨⟨k + 1, _, _, _, by omega, rfl, rfl, rfl, by go_num, HN.out, HFZ.out⟩, by simp [intOf]; omega⟩
                · have t3 : decide ((cand V rest k : Int) < (b : Int)) = false := by simp; omega
                  have t3' : decide (cand V rest k < b) = false := by simp; omega
                  have HN := Lib.hid (HBS.out.worse (by rw [HP.out]; omega))
                  clear h1 h2 h3
                  go_wp2_with fail
                  refine ⟨⟨k + 1, _, _, _, by omega, rfl, rfl, rfl, by go_num, HN.out, HFZ.out⟩, by simp [intOf]; omega⟩
              · have t2 : ((n : Int) == l) = false := by simpa using h2
                have HN := Lib.hid (HBS.out.worse (by rw [HP.out]; omega))
                clear h1 h2
                go_wp2_with fail
                refine ⟨⟨k + 1, _, _, _, by omega, rfl, rfl, rfl, by go_num, HN.out, HFZ.out⟩, by simp [intOf]; omega⟩
        | false =>
          have HFC := Lib.hid (RCost_any lc hlc (cand V rest k) (by omega) _ w2 (HCI.out.kept HF2.out (fun _ _ h => h)))
          have HPX := Lib.hid (HP2.out rfl (cand V rest k) hcl)
          clear ea eo hla hnv hcf
          go_wp2_with fail
          refine HFC.out.mono ?_
          rintro e w3 ⟨rfl, rfl⟩
          obtain ⟨q, hq⟩ : ∃ q, sumC (gl lc) (bitsOf (cand V rest k)) lc.length = q := ⟨_, rfl⟩
          have HP := Lib.hid (show P (cand V rest k) = q by rw [HPX.out, hq])
          rw [hq]
          clear hq HPX HFC
          have HFZ := HF2
          cases is with
          | false =>
            have HN := Lib.hid (HBS.out.new HG.out)
            rw [HP.out] at HN
            go_wp2_with fail
            refine ⟨⟨k + 1, _, _, _, by omega, rfl, rfl, rfl, by go_num, HN.out, HFZ.out⟩, by simp [intOf]; omega⟩
          | true =>
            by_cases h1 : q < l
            · have t1 : decide (q < l) = true := by simpa using h1
              have HN := Lib.hid (HBS.out.better HG.out (.inl (by rw [HP.out]; exact h1)))
              rw [HP.out] at HN
              clear h1
              go_wp2_with fail
              refine ⟨⟨k + 1, _, _, _, by omega, rfl, rfl, rfl, by go_num, HN.out, HFZ.out⟩, by simp [intOf]; omega⟩
            · have t1 : decide (q < l) = false := by simpa using h1
              by_cases h2 : q = l
              · have t2 : (q == l) = true := by simpa using h2
                by_cases h3 : cand V rest k < b
                · have t3 : decide ((cand V rest k : Int) < (b : Int)) = true := by simp; omega
                  have t3' : decide (cand V rest k < b) = true := by simp; omega
                  have HN := Lib.hid (HBS.out.better HG.out (.inr ⟨by rw [HP.out]; exact h2, h3⟩))
                  rw [HP.out] at HN
                  clear h1 h2 h3
                  go_wp2_with fail
                  refine ⟨⟨k + 1, _, _, _, by omega, rfl, rfl, rfl, by go_num, HN.out, HFZ.out⟩, by simp [intOf]; omega⟩
                · have t3 : decide ((cand V rest k : Int) < (b : Int)) = false := by simp; omega
                  have t3' : decide (cand V rest k < b) = false := by simp; omega
                  have HN := Lib.hid (HBS.out.worse (by rw [HP.out]; omega))
                  clear h1 h2 h3
                  go_wp2_with fail
                  refine ⟨⟨k + 1, _, _, _, by omega, rfl, rfl, rfl, by go_num, HN.out, HFZ.out⟩, by simp [intOf]; omega⟩
              · have t2 : (q == l) = false := by simpa using h2
                have HN := Lib.hid (HBS.out.worse (by rw [HP.out]; omega))
                clear h1 h2
                go_wp2_with fail
                refine ⟨⟨k + 1, _, _, _, by omega, rfl, rfl, rfl, by go_num, HN.out, HFZ.out⟩, by simp [intOf]; omega⟩
    · obtain rfl : k = M := by omega
      go_wp2_with fail
      exact bodyPost_ret (v := .tuple #[.int .u32 (b : Int), .bool is]) (by simp [results, Tryz.results39, go_sem]) rfl ⟨b, l, is, rfl, HBS.out, (HFW.out.trans HFr.out (fun _ _ h => h)).to_below (Nat.le_refl _) (fun _ h => h.elim)⟩
end Go.Proofs.YtiainlccodnlmaaGreatDoor
namespace Go.Proofs.YtiainlccodnlmaaGreatDoor
open Go.RowKit
open Bd

theorem cst_zero (c : Nat) : cst (fun _ => 0) c = 0 := by
  unfold cst
  have : ∀ n, sumF (fun j => if c.testBit j then (0 : Int) else 0) n = 0 := fun n => by
    induction n with
    | zero => rfl
    | succ n ih => rw [sumF_snoc, ih]; split <;> rfl
  exact this 24
theorem us_zero : usN (fun _ => 0) 24 = 0 := by decide
theorem us_one : usN (fun _ => 1) 24 = 0 := by decide
theorem irow_nil (w : World) : IRow w (.slice none 0 0) [] := ⟨none, 0, rfl, fun _ => rfl, fun j x h => by simp at h⟩
theorem wOk_nil : wOk [] = true := by decide

/-- what Least and Smallest find -/
theorem rleast_spec (A : B) (hA : A.ok 0) (V : List Nat) (v : Value) (w : World) (hs : RSet w v V A.ev) :
    Calls Tryz.prog 39 #[v, .int .u32 0, .slice none 0 0, .int .u32 0, .bool false] w fun e w' => e = .returned (.tuple #[.int .u32 (bstN (fun _ => 0) A : Int), .bool (!decide (A = .F))]) ∧ Below w.heap.size w w' := by
  have h := RBest_any V A.ev 0 0 (by decide) (by decide) false [] wOk_nil (.slice none 0 0) (fun _ => 0) (fun h => by cases h) (fun _ c _ => rfl) v w hs (irow_nil w)
  refine h.mono ?_
  rintro e w' ⟨b, l, is, rfl, hb, hB⟩
  rw [← us_zero] at hb
  obtain ⟨rfl, rfl⟩ := best_eq (w := fun _ => 0) (fun _ => by omega) hA hs.1 hs.2.1 0 (fun c _ => by rw [cst_zero]; rfl) hb
  exact ⟨rfl, hB⟩
theorem rnear_spec (A : B) (hA : A.ok 0) (m : Nat) (V : List Nat) (v : Value) (w : World) (hs : RSet w v V A.ev) :
    Calls Tryz.prog 39 #[v, .int .u32 ((m % 2 ^ 24 : Nat) : Int), .slice none 0 0, .int .u32 ((m % 2 ^ 24 : Nat) : Int), .bool true] w fun e w' => e = .returned (.tuple #[.int .u32 (bstN (cwN (ints (featL m))) A : Int), .bool (!decide (A = .F))]) ∧ Below w.heap.size w w' := by
  have hm : m % 2 ^ 24 < 16777216 := Nat.mod_lt _ (by decide)
  have h := RBest_any V A.ev (m % 2 ^ 24) (m % 2 ^ 24) hm hm true [] wOk_nil (.slice none 0 0) (fun c => ((featL (c ^^^ (m % 2 ^ 24))).length : Int)) (fun _ c _ => rfl) (fun h => by cases h) v w hs (irow_nil w)
  refine h.mono ?_
  rintro e w' ⟨b, l, is, rfl, hb, hB⟩
  rw [← us_near] at hb
  obtain ⟨rfl, rfl⟩ := best_eq (w := cwN (ints (featL m))) (cwN_bound _) hA hs.1 hs.2.1 (- cst (cwN (ints (featL m))) (m % 2 ^ 24)) (fun c _ => by
    have e := pr_cst (usN_24 (cwN (ints (featL m)))) c
    rw [us_near, pr_near] at e
    show ((featL (c ^^^ usN (cwN (ints (featL m))) 24)).length : Int) = _
    rw [us_near]; omega) hb
  exact ⟨rfl, hB⟩
theorem rsmall_spec (A : B) (hA : A.ok 0) (V : List Nat) (v : Value) (w : World) (hs : RSet w v V A.ev) :
    Calls Tryz.prog 39 #[v, .int .u32 0, .slice none 0 0, .int .u32 0, .bool true] w fun e w' => e = .returned (.tuple #[.int .u32 (bstN (fun _ => 1) A : Int), .bool (!decide (A = .F))]) ∧ Below w.heap.size w w' := by
  have h := RBest_any V A.ev 0 0 (by decide) (by decide) true [] wOk_nil (.slice none 0 0) (fun c => ((featL (c ^^^ 0)).length : Int)) (fun _ c _ => rfl) (fun h => by cases h) v w hs (irow_nil w)
  refine h.mono ?_
  rintro e w' ⟨b, l, is, rfl, hb, hB⟩
  rw [← us_one] at hb
  obtain ⟨rfl, rfl⟩ := best_eq (w := fun _ => 1) (fun _ => by omega) hA hs.1 hs.2.1 0 (fun c _ => by
    show ((featL (c ^^^ usN (fun _ => 1) 24)).length : Int) = _
    rw [us_one, Nat.xor_zero, len_cst]; omega) hb
  exact ⟨rfl, hB⟩
theorem rcheap_spec (A : B) (hA : A.ok 0) (lc : List Int) (hw : wOk lc = true) (V : List Nat) (v cv : Value) (w : World) (hs : RSet w v V A.ev) (hc : IRow w cv lc) :
    Calls Tryz.prog 39 #[v, .int .u32 (usN (wC lc) 24 : Int), cv, .int .u32 0, .bool false] w fun e w' => e = .returned (.tuple #[.int .u32 (bstN (wC lc) A : Int), .bool (!decide (A = .F))]) ∧ Below w.heap.size w w' := by
  have h := RBest_any V A.ev (usN (wC lc) 24) 0 (usN_lt _ (Nat.le_refl 24)) (by decide) false lc hw cv (fun c => sumC (gl lc) (bitsOf c) lc.length) (fun h => by cases h) (fun _ c _ => rfl) v w hs hc
  refine h.mono ?_
  rintro e w' ⟨b, l, is, rfl, hb, hB⟩
  obtain ⟨rfl, rfl⟩ := best_eq (w := wC lc) (wC_bound lc) hA hs.1 hs.2.1 0 (fun c _ => by show sumC (gl lc) (bitsOf c) lc.length = _; rw [sumC_cst hw]; omega) hb
  exact ⟨rfl, hB⟩
end Go.Proofs.YtiainlccodnlmaaGreatDoor
namespace Go.Proofs.YtiainlccodnlmaaGreatDoor
open Go.RowKit
open Bd

set_option maxRecDepth 100000 in
set_option maxHeartbeats 1000000 in
theorem RLeast_any (A : B) (hA : A.ok 0) (V : List Nat) (v : Value) (w : World) (hs : RSet w v V A.ev) :
    Calls Tryz.prog 10 #[v] w fun e w' => e = .returned (.tuple #[.int .u32 (bstN (fun _ => 0) A : Int), .bool (!decide (A = .F))]) ∧ Below w.heap.size w w' := by
  have hb := fun W (h : Fr nob w W) => rleast_spec A hA V v W (hs.kept h)
  have HB := Lib.hid hb
  obtain ⟨hV, hf, sv, st, rfl, h1, h2⟩ := hs
  obtain ⟨b0, b1⟩ := two_cells' w sv st 36
  have fr : Fr nob w (w.alloc (.cells #[sv, st] 36)) := (Fr.refl nob w).alloc _
  obtain ⟨a, cap, e1⟩ := h1.form
  obtain ⟨a2, cap2, e2⟩ := h2.form
  generalize (List.map ik V).length = n1 at e1
  generalize (List.map Value.bool (tab V A.ev)).length = n2 at e2
  clear h1 h2 hf hb hV
  subst e1 e2
  generalize bstN (fun _ => 0) A = x at *
  generalize (!decide (A = .F)) = y at *
  have HF := Lib.hid fr
  clear fr hA
  go_enter Tryz.func10, Tryz.ntmps10
  go_wp2_with fail
  refine (HB.out _ HF.out).mono ?_
  rintro e w1 ⟨rfl, hb1⟩
  have HF1 := Lib.hid (HF.out.below hb1)
  clear hb1
  go_wp2_with fail
  exact bodyPost_ret (v := .tuple #[.int .u32 (x : Int), .bool y]) (by simp [results, Tryz.results10, go_sem]) rfl ⟨rfl, HF1.out.to_below (Nat.le_refl _) (fun _ h => h.elim)⟩

set_option maxRecDepth 100000 in
set_option maxHeartbeats 1000000 in
theorem RSmall_any (A : B) (hA : A.ok 0) (V : List Nat) (v : Value) (w : World) (hs : RSet w v V A.ev) :
    Calls Tryz.prog 12 #[v] w fun e w' => e = .returned (.tuple #[.int .u32 (bstN (fun _ => 1) A : Int), .bool (!decide (A = .F))]) ∧ Below w.heap.size w w' := by
  have hb := fun W (h : Fr nob w W) => rsmall_spec A hA V v W (hs.kept h)
  have HB := Lib.hid hb
  obtain ⟨hV, hf, sv, st, rfl, h1, h2⟩ := hs
  obtain ⟨b0, b1⟩ := two_cells' w sv st 36
  have fr : Fr nob w (w.alloc (.cells #[sv, st] 36)) := (Fr.refl nob w).alloc _
  obtain ⟨a, cap, e1⟩ := h1.form
  obtain ⟨a2, cap2, e2⟩ := h2.form
  generalize (List.map ik V).length = n1 at e1
  generalize (List.map Value.bool (tab V A.ev)).length = n2 at e2
  clear h1 h2 hf hb hV
  subst e1 e2
  generalize bstN (fun _ => 1) A = x at *
  generalize (!decide (A = .F)) = y at *
  have HF := Lib.hid fr
  clear fr hA
  go_enter Tryz.func12, Tryz.ntmps12
  go_wp2_with fail
  refine (HB.out _ HF.out).mono ?_
  rintro e w1 ⟨rfl, hb1⟩
  have HF1 := Lib.hid (HF.out.below hb1)
  clear hb1
  go_wp2_with fail
  exact bodyPost_ret (v := .tuple #[.int .u32 (x : Int), .bool y]) (by simp [results, Tryz.results12, go_sem]) rfl ⟨rfl, HF1.out.to_below (Nat.le_refl _) (fun _ h => h.elim)⟩

set_option maxRecDepth 100000 in
set_option maxHeartbeats 1000000 in
theorem RNear_any (A : B) (hA : A.ok 0) (m : Nat) (V : List Nat) (v : Value) (w : World) (hs : RSet w v V A.ev) :
    Calls Tryz.prog 14 #[v, .int .u32 (m : Int)] w fun e w' => e = .returned (.tuple #[.int .u32 (bstN (cwN (ints (featL m))) A : Int), .bool (!decide (A = .F))]) ∧ Below w.heap.size w w' := by
  have hb := fun W (h : Fr nob w W) => rnear_spec A hA m V v W (hs.kept h)
  obtain ⟨q, hq⟩ : ∃ q, m % 2 ^ 24 = q := ⟨_, rfl⟩
  simp only [hq] at hb
  have HB := Lib.hid hb
  obtain ⟨hV, hf, sv, st, rfl, h1, h2⟩ := hs
  obtain ⟨b0, b1⟩ := two_cells' w sv st 36
  have fr : Fr nob w (w.alloc (.cells #[sv, st] 36)) := (Fr.refl nob w).alloc _
  obtain ⟨a, cap, e1⟩ := h1.form
  obtain ⟨a2, cap2, e2⟩ := h2.form
  generalize (List.map ik V).length = n1 at e1
  generalize (List.map Value.bool (tab V A.ev)).length = n2 at e2
  clear h1 h2 hf hb hV
  subst e1 e2
  generalize bstN (cwN (ints (featL m))) A = x at *
  generalize (!decide (A = .F)) = y at *
  have hmm : (m : Int) % 16777216 = (q : Int) := by omega
  clear hq
  have HF := Lib.hid fr
  clear fr hA
  go_enter Tryz.func14, Tryz.ntmps14
  go_wp2_with fail
  refine (HB.out _ HF.out).mono ?_
  rintro e w1 ⟨rfl, hb1⟩
  have HF1 := Lib.hid (HF.out.below hb1)
  clear hb1
  go_wp2_with fail
  exact bodyPost_ret (v := .tuple #[.int .u32 (x : Int), .bool y]) (by simp [results, Tryz.results14, go_sem]) rfl ⟨rfl, HF1.out.to_below (Nat.le_refl _) (fun _ h => h.elim)⟩

theorem us_step {w : Nat → Int} {k : Nat} (hk : k < 24) (h : w k < 0) : (usN w k : Int) + (2 : Int) ^ k % 4294967296 = (usN w (k + 1) : Int) := by
  have hl : usN w k < 2 ^ k := Nat.lt_pow_two_of_testBit _ fun i hi => by rw [usN_bit]; simp; omega
  have hp : 2 ^ k < 2 ^ 24 := Nat.pow_lt_pow_right (by omega) hk
  have e : usN w (k + 1) = 2 ^ k + usN w k := by
    have : usN w (k + 1) = usN w k ||| 2 ^ k := by show (if w k < 0 then usN w k ||| 2 ^ k else usN w k) = _; rw [if_pos h]
    have h2 := Nat.two_pow_add_eq_or_of_lt hl 1
    rw [Nat.mul_one] at h2
    rw [this, Nat.or_comm]; exact h2.symm
  rw [e, show (2 : Int) ^ k = ((2 ^ k : Nat) : Int) by simp]
  generalize 2 ^ k = m at *
  omega
theorem us_stay {w : Nat → Int} {k : Nat} (h : ¬ w k < 0) : usN w (k + 1) = usN w k := by show (if w k < 0 then usN w k ||| 2 ^ k else usN w k) = _; rw [if_neg h]
theorem us_more {w : Nat → Int} {n : Nat} (h : ∀ j, n ≤ j → w j = 0) : ∀ k, usN w (n + k) = usN w n
  | 0 => rfl
  | k + 1 => by rw [show n + (k + 1) = (n + k) + 1 from rfl, us_stay (by rw [h (n + k) (by omega)]; omega), us_more h k]
theorem us_len {l : List Int} (hw : wOk l = true) : usN (wC l) l.length = usN (wC l) 24 := by
  have hlen := (wOk_iff.1 hw).1
  obtain ⟨k, hk⟩ : ∃ k, 24 = l.length + k := ⟨24 - l.length, by omega⟩
  rw [hk, us_more]
  intro j hj
  unfold wC gl
  rw [if_pos hw]; simp [hj]

set_option maxRecDepth 100000 in
set_option maxHeartbeats 2000000 in
theorem RCheap_any (A : B) (hA : A.ok 0) (lc : List Int) (hlen : lc.length ≤ 1073741824) (V : List Nat) (v cv : Value) (w : World) (hs : RSet w v V A.ev) (hc : IRow w cv lc) :
    Calls Tryz.prog 16 #[v, cv] w fun e w' => e = .returned (chpV (wC lc) (wOk lc) A) ∧ Below w.heap.size w w' := by
  have hci := fun W (h : Fr nob w W) => hc.kept h (fun _ _ h => h)
  have HCI := Lib.hid hci
  have hcs := fun W (h : Fr nob w W) => RCosts_any lc hlen cv W (hci W h)
  have HCS := Lib.hid hcs
  have HB := Lib.hid (fun (hw : wOk lc = true) W (h : Fr nob w W) => rcheap_spec A hA lc hw V v cv W (hs.kept h) (hci W h))
  obtain ⟨ac, capc, rfl⟩ := hc.form
  obtain ⟨hV, hf, sv, st, rfl, h1, h2⟩ := hs
  obtain ⟨b0, b1⟩ := two_cells' w sv st 36
  have fr : Fr nob w (w.alloc (.cells #[sv, st] 36)) := (Fr.refl nob w).alloc _
  obtain ⟨a, cap, e1⟩ := h1.form
  obtain ⟨a2, cap2, e2⟩ := h2.form
  generalize (List.map ik V).length = n1 at e1
  generalize (List.map Value.bool (tab V A.ev)).length = n2 at e2
  clear h1 h2 hf hV hci hcs hc
  subst e1 e2
  have HF := Lib.hid fr
  have HBX := Lib.hid b0
  have HBY := Lib.hid b1
  clear b0 b1 fr
  cases hw : wOk lc with
  | false =>
    have HW := Lib.hid hw
    clear hw
    go_enter Tryz.func16, Tryz.ntmps16
    go_wp2_with fail
    have hcs := HCS.out _ HF.out
    rw [HW.out] at hcs
    refine hcs.mono ?_
    rintro e w1 ⟨rfl, rfl⟩
    clear hcs
    go_wp2_with fail
    exact bodyPost_ret (v := .tuple #[.int .u32 0, .int .i64 0, .int .i64 2]) (by simp [results, Tryz.results16, go_sem]) rfl ⟨rfl, HF.out.to_below (Nat.le_refl _) (fun _ h => h.elim)⟩
  | true =>
    have HW := Lib.hid hw
    have hl24 := (wOk_iff.1 hw).1
    have hbd := fun j => wC_bound lc j
    have HGL := Lib.hid (show ∀ j x, lc[j]? = some x → wC lc j = x from fun j x h => by unfold wC gl; rw [if_pos hw]; simp [h])
    clear hw hbd
    go_enter Tryz.func16, Tryz.ntmps16
    go_wp2_with fail
    have hcs := HCS.out _ HF.out
    rw [HW.out] at hcs
    refine hcs.mono ?_
    rintro e w1 ⟨rfl, rfl⟩
    clear hcs
    go_wp2_with fail
    generalize w.alloc (.cells #[.slice a n1 cap, .slice a2 n2 cap2] 36) = W0 at *
    go_loop [7, 8] (fun rv iv => ∃ k : Nat, k ≤ lc.length ∧ iv = .int .i64 (k : Int) ∧ rv = .int .u32 (usN (wC lc) k : Int)) (fun _ iv => lc.length - (intOf iv).toNat)
    case atStart => exact ⟨0, Nat.zero_le _, rfl, rfl⟩
    case round =>
      obtain ⟨k, hk, rfl, rfl⟩ := hrel
      have hul := usN_lt (wC lc) (k := k) (by omega)
      by_cases hkl : k < lc.length
      · have hkk : (k : Int) < (lc.length : Int) := by omega
        obtain ⟨x, hx⟩ : ∃ x, lc[k]? = some x := ⟨lc[k], List.getElem?_eq_getElem hkl⟩
        obtain ⟨ad, rfl, hcell⟩ := (HCI.out _ HF.out).at hx
        have hwx := HGL.out k x hx
        by_cases hneg : x < 0
        · have HU := Lib.hid (us_step (w := wC lc) (k := k) (by omega) (by rw [hwx]; exact hneg))
          have hul1 := usN_lt (wC lc) (k := k + 1) (by omega)
          have hn1 : decide (x < 0) = true := by simpa using hneg
          clear hx hwx
          go_wp2_with fail
          go_round
          case rel => exact ⟨k + 1, by omega, by go_num, by rw [HU.out, Int.emod_eq_of_lt (by omega) (by omega)]⟩
          case measure => simp [intOf]; omega
        · have HU := Lib.hid (us_stay (w := wC lc) (k := k) (by rw [hwx]; exact hneg))
          have hn1 : decide (x < 0) = false := by simpa using hneg
          clear hx hwx
          go_wp2_with fail
          go_round
          case rel => exact ⟨k + 1, by omega, by go_num, by rw [HU.out]⟩
          case measure => simp [intOf]; omega
      · obtain rfl : k = lc.length := by omega
        rw [us_len HW.out]
        have hb := HB.out HW.out _ HF.out
        have b0 := HBX.out
        have b1 := HBY.out
        by_cases hAF : A = .F
        · rw [decide_eq_true hAF] at hb
          have HAF := Lib.hid hAF
          clear hAF
          go_wp2_with fail
          refine hb.mono ?_
          rintro e w2 ⟨rfl, hb2⟩
          have HF2 := Lib.hid (HF.out.below hb2)
          clear hb2 hb
          go_wp2_with fail
          exact bodyPost_ret (v := .tuple #[.int .u32 0, .int .i64 0, .int .i64 8]) (by simp [results, Tryz.results16, go_sem]) rfl ⟨by rw [HAF.out, chpV_none], HF2.out.to_below (Nat.le_refl _) (fun _ h => h.elim)⟩
        · rw [decide_eq_false hAF] at hb
          have HAF := Lib.hid hAF
          clear hAF
          have hlb := bstN_lt (wC_bound lc) hA
          go_wp2_with fail
          refine hb.mono ?_
          rintro e w2 ⟨rfl, hb2⟩
          have HF2 := Lib.hid (HF.out.below hb2)
          clear hb2 hb
          have hrc := RCost_any lc HW.out (bstN (wC lc) A) (by omega) _ w2 (HCI.out _ HF2.out)
          rw [sumC_cst HW.out] at hrc
          have HRC := Lib.hid hrc
          clear hrc
          go_wp2_with fail
          refine HRC.out.mono ?_
          rintro e w3 ⟨rfl, rfl⟩
          go_wp2_with fail
          exact bodyPost_ret (v := .tuple #[.int .u32 (bstN (wC lc) A : Int), .int .i64 (cst (wC lc) (bstN (wC lc) A)), .int .i64 0]) (by simp [results, Tryz.results16, go_sem]) rfl ⟨by rw [chpV_ok _ HAF.out, csL_cst], HF2.out.to_below (Nat.le_refl _) (fun _ h => h.elim)⟩
end Go.Proofs.YtiainlccodnlmaaGreatDoor
