import Derived.Test.YtnkcdkmfeokljaaDoorRefM
import Derived.Test.YtnkcdkmfeokljaaDoorAlike
import Derived.Test.YtnkcdkmfeokljaaDoorFoldC
namespace Go.Proofs.YtnkcdkmfeokljaaDoor
open Go.RowKit
open Bd

/-! Count of the reference -/
theorem range2 (P : Nat → Bool) : ∀ N, (List.range (2 * N)).countP P = (List.range N).countP (fun q => P (2 * q)) + (List.range N).countP (fun q => P (2 * q + 1))
  | 0 => rfl
  | N + 1 => by
    rw [show 2 * (N + 1) = 2 * N + 1 + 1 by omega, List.range_succ, List.range_succ, List.countP_append, List.countP_append, range2 P N, List.range_succ, List.countP_append, List.countP_append]
    simp only [List.countP_cons, List.countP_nil]
    omega
theorem cfg_cons {i : Nat} {U : List Nat} (hU : (i :: U).Pairwise (· < ·)) (q : Nat) (r : Bool) : bitsOf (cfgN (i :: U) (2 * q + r.toNat)) = up (bitsOf (cfgN U q)) i r := by
  have h1 := (List.pairwise_cons.1 hU).1
  have h2 := (List.pairwise_cons.1 hU).2
  funext j
  show (cfgN (i :: U) (2 * q + r.toNat)).testBit j = if j = i then r else (cfgN U q).testBit j
  rw [Bool.eq_iff_iff, cfgN_bit _ hU]
  by_cases hj : j = i
  · subst hj
    rw [if_pos rfl]
    constructor
    · rintro ⟨t, ht, hb⟩
      cases t with
      | zero => rw [Nat.testBit_zero] at hb; cases r <;> simp at hb ⊢
      | succ t =>
        rw [List.getElem?_cons_succ] at ht
        exact absurd (h1 _ (List.mem_of_getElem? ht)) (Nat.lt_irrefl _)
    · intro hr
      refine ⟨0, rfl, ?_⟩
      rw [Nat.testBit_zero, hr]; simp
  · rw [if_neg hj, cfgN_bit _ h2]
    have hdiv : (2 * q + r.toNat) / 2 = q := by cases r <;> simp <;> omega
    constructor
    · rintro ⟨t, ht, hb⟩
      cases t with
      | zero => simp at ht; exact absurd ht.symm hj
      | succ t =>
        rw [List.getElem?_cons_succ] at ht
        rw [Nat.testBit_succ, hdiv] at hb
        exact ⟨t, ht, hb⟩
    · rintro ⟨t, ht, hb⟩
      exact ⟨t + 1, by rw [List.getElem?_cons_succ]; exact ht, by rw [Nat.testBit_succ, hdiv]; exact hb⟩
def cntU (U : List Nat) (f : Cfg → Bool) (k : Nat) : Nat := (List.range k).countP fun q => f (bitsOf (cfgN U q))
theorem cntU_succ (U : List Nat) (f : Cfg → Bool) (k : Nat) : cntU U f (k + 1) = cntU U f k + if f (bitsOf (cfgN U k)) then 1 else 0 := by
  unfold cntU; rw [List.range_succ, List.countP_append]; simp only [List.countP_cons, List.countP_nil]; omega
theorem cntU_le (U : List Nat) (f : Cfg → Bool) (k : Nat) : cntU U f k ≤ k := by
  have := List.countP_le_length (p := fun q => f (bitsOf (cfgN U q))) (l := List.range k)
  rwa [List.length_range] at this
theorem cF_tab : ∀ (k i : Nat) (U : List Nat) (f : Cfg → Bool), i + k = 24 → U.Pairwise (· < ·) → (∀ u ∈ U, i ≤ u ∧ u < 24) → onV U f → cF k i f = 2 ^ (k - U.length) * cntU U f (2 ^ U.length)
  | 0, i, U, f, h, _, hb, _ => by
    cases U with
    | nil =>
      show (if f (fun _ => false) then 1 else 0) = 1 * cntU [] f 1
      rw [cntU_succ]
      have : bitsOf (cfgN [] 0) = fun _ => false := funext fun j => Nat.zero_testBit j
      rw [this]
      simp [cntU]
    | cons u U => have := hb u (by simp); omega
  | k + 1, i, U, f, h, hU, hb, hf => by
    have hlen : U.length ≤ k + 1 := by
      have := nodup_le (M := List.range' i (k + 1)) (hU.imp (fun h e => by omega)) (fun x hx => by rw [List.mem_range'_1]; have := hb x hx; omega)
      simpa using this
    unfold cF
    by_cases hi : i ∈ U
    · cases U with
      | nil => cases hi
      | cons u U =>
        have h1 := (List.pairwise_cons.1 hU).1
        have h2 := (List.pairwise_cons.1 hU).2
        have e : u = i := by
          rcases List.mem_cons.1 hi with e | e
          · exact e.symm
          · have := h1 _ e; have := (hb u (by simp)).1; omega
        subst e
        have hb' : ∀ x ∈ U, u + 1 ≤ x ∧ x < 24 := fun x hx => ⟨h1 x hx, (hb x (by simp [hx])).2⟩
        have hon : ∀ r, onV U (fun c => f (up c u r)) := fun r c d hcd => hf _ _ fun j hj => by
          show (if j = u then r else c j) = if j = u then r else d j
          split
          · rfl
          · rename_i hne
            exact hcd j ((List.mem_cons.1 hj).resolve_left hne)
        rw [cF_tab k (u + 1) U _ (by omega) h2 hb' (hon false), cF_tab k (u + 1) U _ (by omega) h2 hb' (hon true), ← Nat.mul_add, List.length_cons, show k + 1 - (U.length + 1) = k - U.length by omega]
        congr 1
        unfold cntU
        rw [Nat.pow_succ, Nat.mul_comm, range2]
        congr 1
        · exact List.countP_congr fun q _ => by
            have := cfg_cons hU q false
            simp only [Bool.toNat_false, Nat.add_zero] at this
            rw [this]
        · exact List.countP_congr fun q _ => by
            have := cfg_cons hU q true
            simp only [Bool.toNat_true] at this
            rw [this]
    · have hlen' : U.length ≤ k := by
        have := nodup_le (M := List.range' (i + 1) k) (hU.imp (fun h e => by omega)) (fun x hx => by
          rw [List.mem_range'_1]
          have := hb x hx
          have : x ≠ i := fun e => hi (e ▸ hx)
          omega)
        simpa using this
      have hb' : ∀ x ∈ U, i + 1 ≤ x ∧ x < 24 := fun x hx => by
        have := hb x hx
        have : x ≠ i := fun e => hi (e ▸ hx)
        omega
      have hfr : ∀ r c, f (up c i r) = f c := fun r c => hf _ _ fun j hj => by
        show (if j = i then r else c j) = c j
        rw [if_neg (fun e : j = i => hi (by rw [← e]; exact hj))]
      rw [cF_congr (hfr false), cF_congr (hfr true), cF_tab k (i + 1) U f (by omega) hU hb' hf, show k + 1 - U.length = (k - U.length) + 1 by omega, Nat.pow_succ]
      rw [Nat.mul_assoc, Nat.mul_left_comm]; omega
theorem cnt_tab {b : B} (hb : b.ok 0) {U : List Nat} (hU : rising U) (hf : onV U b.ev) {n : Nat} (hn : n ≤ 24) (hu : U.length ≤ n) : cnt b / 2 ^ (24 - n) = 2 ^ (n - U.length) * cntU U b.ev (2 ^ U.length) := by
  rw [cnt_eq hb]
  unfold cA
  rw [cF_tab 24 0 U b.ev rfl hU.1 (fun u h => ⟨Nat.zero_le _, hU.2 u h⟩) hf, show 24 - U.length = (24 - n) + (n - U.length) by omega, Nat.pow_add, Nat.mul_assoc, Nat.mul_div_cancel_left _ (Nat.two_pow_pos _)]
theorem feat_len {s n : Nat} (h : s / 2 ^ n = 0) : (featL s).length ≤ n := by
  have hlt : s < 2 ^ n := by
    rcases Nat.div_eq_zero_iff.1 h with h | h
    · exact absurd h (Nat.ne_of_gt (Nat.two_pow_pos n))
    · exact h
  have := nodup_le (M := List.range n) ((rising_featL s).1.imp (fun h e => by omega)) (fun x hx => by
    rw [List.mem_range]
    rcases Nat.lt_or_ge x n with h | h
    · exact h
    · have := (mem_featL.1 hx).2
      rw [Nat.testBit_lt_two_pow (Nat.lt_of_lt_of_le hlt (Nat.pow_le_pow_right (by omega) h))] at this
      cases this)
  simpa using this
theorem sup_on {b : B} (hb : b.ok 0) : onV (featL (supR (li b))) b.ev := by
  intro c d h
  -- one feature after the other
  have key : ∀ n, b.ev (fun j => if j < n then d j else c j) = b.ev c := by
    intro n
    induction n with
    | zero => congr 1
    | succ n ih =>
      rw [← ih]
      by_cases hn : n < 24
      · by_cases hs : (supR (li b)).testBit n = true
        · have e := h n (mem_featL.2 ⟨hn, hs⟩)
          congr 1
          funext j
          by_cases h1 : j < n
          · rw [if_pos (by omega), if_pos h1]
          · by_cases h2 : j = n
            · subst h2; rw [if_pos (by omega), if_neg h1, e]
            · rw [if_neg (by omega), if_neg h1]
        · have hd : ¬ dep b.ev n := fun hd => hs ((supR_dep hb n).2 hd)
          have hfree : ∀ c' r, b.ev (up c' n r) = b.ev c' := by
            intro c' r
            have h1 : ∀ x, b.ev (up x n false) = b.ev (up x n true) := fun x => by
              rcases Bool.eq_false_or_eq_true (b.ev (up x n false) == b.ev (up x n true)) with e | e
              · exact beq_iff_eq.1 e
              · exact absurd ⟨x, fun e2 => by rw [e2] at e; simp at e⟩ hd
            have h2 : c' = up c' n (c' n) := by
              funext j; show c' j = if j = n then c' n else c' j
              split
              · rename_i e; rw [e]
              · rfl
            rw [h2]
            have h3 : ∀ s, up (up c' n (c' n)) n s = up c' n s := fun s => by
              funext j; show (if j = n then s else if j = n then c' n else c' j) = if j = n then s else c' j
              split <;> rfl
            rw [h3]
            cases r <;> cases c' n <;> first | rfl | exact h1 _ | exact (h1 _).symm
          have : (fun j => if j < n + 1 then d j else c j) = up (fun j => if j < n then d j else c j) n (d n) := by
            funext j
            show (if j < n + 1 then d j else c j) = if j = n then d n else if j < n then d j else c j
            by_cases h2 : j = n
            · subst h2; rw [if_pos (by omega), if_pos rfl]
            · rw [if_neg h2]
              by_cases h1 : j < n
              · rw [if_pos h1, if_pos (by omega)]
              · rw [if_neg h1, if_neg (by omega)]
          rw [this, hfree]
      · exact ev_agree hb fun j _ hj => by
          have : j < n := by omega
          rw [if_pos (by omega), if_pos this]
  rw [← key 24]
  exact ev_agree hb fun j _ hj => by rw [if_pos hj]

theorem add_u64 {m cu : Nat} (h : 2 ^ m * cu + 2 ^ m ≤ 16777216) : IntKind.u64.wrap ((2 : Int) ^ m * (cu : Int) + IntKind.u64.wrap ((2 : Int) ^ m)) = ((2 ^ m * (cu + 1) : Nat) : Int) := by
  rw [show (2 : Int) ^ m = ((2 ^ m : Nat) : Int) by simp, Nat.mul_add, Nat.mul_one, ← Int.natCast_mul]
  generalize 2 ^ m * cu = x at *
  generalize 2 ^ m = p at *
  simp only [IntKind.wrap_u64]
  omega
/-- how many configurations below 2^n, and the error -/
def cntE (b : B) (n : Int) : Int := if n < 0 ∨ 24 < n then 3 else if supR (li b) / 2 ^ n.toNat = 0 then 0 else 2
def cntV (b : B) (n : Int) : Int := if cntE b n = 0 then ((cnt b / 2 ^ (24 - n.toNat) : Nat) : Int) else 0
theorem Count_all (A : B) (hA : A.ok 0) (n : Int) (w : World) : Calls Tryd.prog 37 #[dval A, .int .i64 n] w fun e w' => e = .returned (.tuple #[.int .u64 (cntV A n), .int .i64 (cntE A n)]) ∧ Below w.heap.size w w' := by
  unfold cntV cntE
  by_cases h : n < 0 ∨ 24 < n
  · simp only [if_pos h]
    have := Count_range A n h w
    simpa using this
  · simp only [if_neg h]
    have e : (n.toNat : Int) = n := Int.toNat_of_nonneg (by omega)
    by_cases hs : supR (li A) / 2 ^ n.toNat = 0
    · simp only [if_pos hs]
      have := Count_ok A hA n.toNat (by omega) hs w
      rw [e] at this
      simpa using this
    · simp only [if_neg hs]
      have := Count_arg A hA n.toNat (by omega) hs w
      rw [e] at this
      simpa using this

set_option maxRecDepth 100000 in
set_option maxHeartbeats 1000000 in
theorem RCount_range (V : List Nat) (f : Cfg → Bool) (va : Value) (w : World) (hsa : RSet w va V f) (n : Int) (hn : n < 0 ∨ 24 < n) : Calls Tryd.prog 63 #[va, .int .i64 n] w fun e w' => e = .returned (.tuple #[.int .u64 0, .int .i64 3]) ∧ Below w.heap.size w w' := by
  obtain ⟨qa, n1, ca, qt, n3, ct, rfl⟩ := hsa.form
  clear hsa
  by_cases h0 : n < 0
  · clear hn
    go_enter Tryd.func63, Tryd.ntmps63
    go_wp2_with fail
    go_ret2
    exact ⟨by simp, (Below.refl _ _).alloc (Nat.le_refl _) _⟩
  · have h1 : 24 < n := by omega
    clear hn
    go_enter Tryd.func63, Tryd.ntmps63
    go_wp2_with fail
    go_ret2
    exact ⟨by simp, (Below.refl _ _).alloc (Nat.le_refl _) _⟩

set_option maxRecDepth 100000 in
set_option maxHeartbeats 2000000 in
theorem RCount_arg (b : B) (hb : b.ok 0) (V : List Nat) (va : Value) (w : World) (hsa : RSet w va V b.ev) (n : Nat) (hn : n ≤ 24) (hs : supR (li b) / 2 ^ n ≠ 0) : Calls Tryd.prog 63 #[va, .int .i64 (n : Int)] w fun e w' => e = .returned (.tuple #[.int .u64 0, .int .i64 2]) ∧ Below w.heap.size w w' := by
  have hsu := RSupport_any V b.ev va
  rw [supR_num hb hsa.2.1 (fun _ => rfl)] at hsu
  obtain ⟨qa, n1, ca, qt, n3, ct, rfl⟩ := hsa.form
  obtain ⟨a0, a1⟩ := two_cells' w (.slice qa n1 ca) (.slice qt n3 ct) 73
  have fr : Fr nob w (w.alloc (.cells #[.slice qa n1 ca, .slice qt n3 ct] 73)) := (Fr.refl nob w).alloc _
  have hset := hsa.kept fr
  have hn' : ¬ (n : Int) < 0 := by omega
  have hn'' : ¬ 24 < (n : Int) := by omega
  have hpos : 0 < (supR (li b) : Int) / 2 ^ n := by
    have h : (0 : Int) < ((supR (li b) / 2 ^ n : Nat) : Int) := Int.natCast_pos.2 (Nat.pos_of_ne_zero hs)
    rw [Int.natCast_ediv] at h
    simpa using h
  go_enter Tryd.func63, Tryd.ntmps63
  go_wp2_with fail
  generalize w.alloc (.cells #[.slice qa n1 ca, .slice qt n3 ct] 73) = W at *
  refine (hsu _ hset).mono ?_
  rintro e w1 ⟨rfl, hb1⟩
  have f1 := fr.below hb1
  clear hsu hset hb1 hs fr a0 a1
  go_wp2_with fail
  go_ret2
  exact ⟨by simp, f1.to_below (Nat.le_refl _) (fun _ h => h.elim)⟩

set_option maxRecDepth 100000 in
set_option maxHeartbeats 4000000 in
theorem RCount_ok (b : B) (hb : b.ok 0) (V : List Nat) (va : Value) (w : World) (hsa : RSet w va V b.ev) (n : Nat) (hn : n ≤ 24) (hs : supR (li b) / 2 ^ n = 0) : Calls Tryd.prog 63 #[va, .int .i64 (n : Int)] w fun e w' => e = .returned (.tuple #[.int .u64 ((cnt b / 2 ^ (24 - n) : Nat) : Int), .int .i64 0]) ∧ Below w.heap.size w w' := by
  have hsu := RSupport_any V b.ev va
  rw [supR_num hb hsa.2.1 (fun _ => rfl)] at hsu
  have hlt := supR_lt24 hb
  have hfe := Features_any (supR (li b)) (Nat.lt_trans hlt (by decide))
  have hU := rising_featL (supR (li b))
  have hul := feat_len hs
  have hfin := Lib.hid (cnt_tab hb hU (sup_on hb) hn hul)
  have hs' : ((supR (li b) : Int) / 2 ^ n) = 0 := by
    rw [show (2 : Int) ^ n = ((2 ^ n : Nat) : Int) by simp, ← Int.natCast_ediv, hs]; rfl
  obtain ⟨qa, n1, ca, qt, n3, ct, rfl⟩ := hsa.form
  obtain ⟨a0, a1⟩ := two_cells' w (.slice qa n1 ca) (.slice qt n3 ct) 73
  have fr : Fr nob w (w.alloc (.cells #[.slice qa n1 ca, .slice qt n3 ct] 73)) := (Fr.refl nob w).alloc _
  have hset := hsa.kept fr
  have hn' : ¬ (n : Int) < 0 := by omega
  have hn'' : ¬ 24 < (n : Int) := by omega
  clear hsa hs hlt
  generalize featL (supR (li b)) = U at *
  generalize supR (li b) = S at *
  have hHas := fun c hc => RHas_any V b.ev c hc (.agg #[.slice qa n1 ca, .slice qt n3 ct])
  have hpu : 2 ^ U.length ≤ 16777216 := Nat.pow_le_pow_right (by omega) (by omega : U.length ≤ 24)
  have hpn : 2 ^ (n - U.length) * 2 ^ U.length ≤ 16777216 := by
    rw [← Nat.pow_add]
    exact Nat.le_trans (Nat.pow_le_pow_right (by omega) (by omega : n - U.length + U.length ≤ 24)) (by decide)
  have hp1 : 2 ^ (n - U.length) ≤ 16777216 := Nat.pow_le_pow_right (by omega) (by omega : n - U.length ≤ 24)
  have HW := Lib.hid (show wrap64 ((2 : Int) ^ U.length) = ((2 ^ U.length : Nat) : Int) by
    rw [show (2 : Int) ^ U.length = ((2 ^ U.length : Nat) : Int) by simp]
    unfold wrap64
    generalize 2 ^ U.length = p at *
    omega)
  go_enter Tryd.func63, Tryd.ntmps63
  go_wp2_with fail
  generalize w.alloc (.cells #[.slice qa n1 ca, .slice qt n3 ct] 73) = W at *
  refine (hsu _ hset).mono ?_
  rintro e w1 ⟨rfl, hb1⟩
  have f1 := (Fr.refl nob W).below hb1
  replace a0 := f1.cell' a0 (fun h => h)
  replace a1 := f1.cell' a1 (fun h => h)
  replace hset := hset.kept f1
  replace fr := fr.trans f1 (fun _ _ h => h)
  clear hb1 f1
  go_wp2_with fail
  refine (hsu _ hset).mono ?_
  rintro e w2 ⟨rfl, hb2⟩
  have f2 := (Fr.refl nob w1).below hb2
  replace a0 := f2.cell' a0 (fun h => h)
  replace a1 := f2.cell' a1 (fun h => h)
  replace hset := hset.kept f2
  replace fr := fr.trans f2 (fun _ _ h => h)
  clear hb2 f2 hsu
  go_wp2_with fail
  refine (hfe _).mono ?_
  rintro e w3 ⟨v3, rfl, hs3, hb3⟩
  have f3 := (Fr.refl nob w2).below hb3
  replace a0 := f3.cell' a0 (fun h => h)
  replace a1 := f3.cell' a1 (fun h => h)
  replace hset := hset.kept f3
  replace fr := fr.trans f3 (fun _ _ h => h)
  obtain ⟨q3, c3, rfl⟩ := hs3.form
  rw [List.length_map] at hs3 ⊢
  clear hb3 f3 hfe
  go_wp2_with fail
  go_loopw [7, 8] (fun mv kv wr => ∃ k : Nat, k ≤ 2 ^ U.length ∧ kv = ik k ∧ mv = .int .u64 ((2 ^ (n - U.length) * cntU U b.ev k : Nat) : Int) ∧ Fr nob w3 wr) (fun _ kv _ => 2 ^ U.length - (intOf kv).toNat)
  case atStart => exact ⟨0, Nat.zero_le _, rfl, by simp [cntU], Fr.refl _ _⟩
  case round =>
    obtain ⟨k, hk, rfl, rfl, Sfr⟩ := hrel
    replace a0 := Sfr.cell' a0 (fun h => h)
    replace a1 := Sfr.cell' a1 (fun h => h)
    have hset' := hset.kept Sfr
    have hs' := hs3.kept Sfr
    by_cases hlt : k < 2 ^ U.length
    · have hk1 : (k : Int) < wrap64 (2 ^ U.length) := by rw [HW.out]; omega
      have hk62 : k < 2 ^ 62 := Nat.lt_of_lt_of_le hlt (Nat.le_trans hpu (by decide))
      have hc24 := cfgN_lt hU k
      have hCf := fun W h => Config_any U hU k hk62 (.slice q3 U.length c3) W h
      have HS := Lib.hid (cntU_succ U b.ev k)
      have hck := cntU_le U b.ev k
      have hH := hHas (cfgN U k) (Nat.lt_of_lt_of_le hc24 (by decide))
      generalize cfgN U k = cc at *
      have hmul : 2 ^ (n - U.length) * cntU U b.ev k + 2 ^ (n - U.length) ≤ 16777216 := by
        rw [← Nat.mul_succ]
        exact Nat.le_trans (Nat.mul_le_mul_left _ (show (cntU U b.ev k).succ ≤ 2 ^ U.length by omega)) hpn
      have HD := Lib.hid (Nat.mul_succ (2 ^ (n - U.length)) (cntU U b.ev k))
      generalize hcu : cntU U b.ev k = cu at *
      generalize hxb : b.ev (bitsOf cc) = xb at *
      clear hck
      go_upto_region 10 with fail
      refine wp_region_grow' 4 46 (fun _ => #[]) [] (by kernel_rfl) (by kernel_rfl) rfl rfl (by intro T h; cases h) ?_
      simp only [List.take_succ_cons, List.take_zero]
      refine grow_step (v := ?v0) rfl rfl ?a0 ?b0
      case a0 =>
        intro w' hw'
        have y0 := hw'.cell' a0 (fun h => h)
        have y1 := hw'.cell' a1 (fun h => h)
        clear hw'
        refine growAt_value ?_
        go_simp
        rfl
      simp only [Act.put, List.setIfInBounds_toArray, List.set_cons_zero, List.set_cons_succ]
      refine grow_step (v := ?v1) rfl rfl ?a1 ?b1
      case a1 =>
        intro w' hw'
        clear hw'
        refine growAt_value ?_
        go_simp
        rfl
      simp only [Act.put, List.setIfInBounds_toArray, List.set_cons_zero, List.set_cons_succ]
      refine grow_step (v := ?v2) rfl rfl ?a2 ?b2
      case a2 =>
        intro w' hw'
        clear hw'
        refine growAt_value ?_
        go_simp
        rfl
      simp only [Act.put, List.setIfInBounds_toArray, List.set_cons_zero, List.set_cons_succ]
      refine grow_step (v := .int .u32 (cc : Int)) rfl rfl ?a3 ?b3
      case a3 =>
        intro w' hw'
        refine growAt_call ?_ ((hCf w' (hs'.kept hw')).mono fun e w'' ⟨he, hb⟩ => ⟨he, by rw [← hb]; exact Fr.refl _ _⟩)
        go_simp
      simp only [Act.put, List.setIfInBounds_toArray, List.set_cons_zero, List.set_cons_succ]
      refine grow_nil ?_
      intro w5 listed p5 _ _
      have f5 := Sfr.trans p5 (fun _ _ h => h)
      have hH5 := hH w5 (hset'.kept p5)
      clear hCf hH a0 a1 p5 Sfr hset' hs'
      go_wp2_with fail
      refine hH5.mono ?_
      rintro e w6 ⟨rfl, hb6⟩
      have f6 := f5.below hb6
      clear hH5 hb6 f5
      cases xb with
      | true =>
        have e1 : cntU U b.ev (k + 1) = cu + 1 := by rw [HS.out]; simp
        have E1 := Lib.hid e1
        clear e1
        go_wp2_with fail
        refine ⟨⟨k + 1, by omega, by go_num, ?_, f6⟩, by simp [intOf]; omega⟩
        rw [E1.out]
        exact congrArg (Value.int .u64) (add_u64 hmul)
      | false =>
        have e1 : cntU U b.ev (k + 1) = cu := by rw [HS.out]; simp
        have E1 := Lib.hid e1
        clear e1
        go_wp2_with fail
        refine ⟨⟨k + 1, by omega, by go_num, by rw [E1.out]; simp, f6⟩, by simp [intOf]; omega⟩
    · obtain rfl : k = 2 ^ U.length := by omega
      have hk1 : ¬ ((2 ^ U.length : Nat) : Int) < wrap64 (2 ^ U.length) := by rw [HW.out]; omega
      have f6 := fr.trans Sfr (fun _ _ h => h)
      clear hHas hset hset' Sfr
      go_wp2_with fail
      have HFI : (2 : Int) ^ (n - U.length) * (cntU U b.ev (2 ^ U.length) : Int) = ((cnt b / 2 ^ (24 - n) : Nat) : Int) := by rw [hfin.out]; simp
      exact bodyPost_ret (v := .tuple #[.int .u64 ((2 : Int) ^ (n - U.length) * (cntU U b.ev (2 ^ U.length) : Int)), .int .i64 0]) (by simp [results, Tryd.results63, go_sem]) rfl ⟨by rw [HFI]; simp, f6.to_below (Nat.le_refl _) (fun _ h => h.elim)⟩
theorem RCount_any (b : B) (hb : b.ok 0) (V : List Nat) (va : Value) (w : World) (hsa : RSet w va V b.ev) (n : Int) : Calls Tryd.prog 63 #[va, .int .i64 n] w fun e w' => e = .returned (.tuple #[.int .u64 (cntV b n), .int .i64 (cntE b n)]) ∧ Below w.heap.size w w' := by
  unfold cntV cntE
  by_cases h : n < 0 ∨ 24 < n
  · simp only [if_pos h]
    have := RCount_range V b.ev va w hsa n h
    simpa using this
  · simp only [if_neg h]
    have e : (n.toNat : Int) = n := Int.toNat_of_nonneg (by omega)
    by_cases hs : supR (li b) / 2 ^ n.toNat = 0
    · simp only [if_pos hs]
      have := RCount_ok b hb V va w hsa n.toNat (by omega) hs
      rw [e] at this
      simpa using this
    · simp only [if_neg hs]
      have := RCount_arg b hb V va w hsa n.toNat (by omega) hs
      rw [e] at this
      simpa using this
end Go.Proofs.YtnkcdkmfeokljaaDoor
