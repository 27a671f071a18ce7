import Derived.Test.YtaojojjdfdlgpaaDw
import Derived.Test.YtaojojjdfdlgpaaFc
import Derived.Test.YtaojojjdfdlgpaaQbp
namespace Go.Proofs.Ytaojojjdfdlgpaa
open Go.RowKit Uq

/-! the reference's Verify -/
set_option maxRecDepth 100000 in
set_option maxHeartbeats 4000000 in
theorem negated_any (F : List Int) (v : Value) (w : World) (hF : ∀ x ∈ F, Ltr x) (hFl : F.length ≤ 1000) (hv : IntsO w (fun b => b < w.heap.size) F v) :
    Calls Try.prog 65 #[v] w fun e w' => ∃ u, e = .returned u ∧ IntsO w' (fun b => b < w'.heap.size) (negs F) u ∧ Fr nob w w' := by
  obtain ⟨a, cap, rfl⟩ := hv.form
  obtain ⟨N, hN⟩ : ∃ N, F.length = N := ⟨_, rfl⟩
  rw [hN] at hv hFl ⊢
  have HV := Lib.hid hv
  have HF := Lib.hid hF
  have HN := Lib.hid hN
  clear hv hF hN
  go_enter Try.func65, Try.ntmps65
  go_wp2_with fail
  go_loopg [3, 4] N (fun m ov iv wr => ∃ k : Nat, k + m = N ∧ iv = .int .i64 (k : Int) ∧ (∃ oa ocp, ov = .slice oa k ocp) ∧ Outs w.heap.size k (negs (F.take k)) ov wr ∧ Fr nob w wr)
  case atStart => exact ⟨0, by omega, rfl, ⟨_, _, rfl⟩, ⟨rfl, World.ownsRow_nil _ _ _ _⟩, Fr.refl _ _⟩
  case round =>
    obtain ⟨k, hkm, rfl, ⟨oa, ocp, rfl⟩, hO, hFr⟩ := hrel
    have q3 : (0 : Int) ≤ (k : Int) := Int.natCast_nonneg _
    have HO := Lib.hid hO
    have HFr := Lib.hid hFr
    clear hO hFr
    cases gk with
    | zero =>
      obtain rfl : k = N := by omega
      have hO := HO.out.ints
      rw [List.take_of_length_le (by rw [HN.out]; exact Nat.le_refl _)] at hO
      have HO2 := Lib.hid hO
      clear hO
      go_wp2_with fail
      go_ret
      exact ⟨_, rfl, HO2.out, HFr.out⟩
    | succ m =>
      have q4 : (k : Int) < (N : Int) := by omega
      have hk : k < F.length := by rw [HN.out]; omega
      have hkt : F[k]? = some F[k] := List.getElem?_eq_getElem hk
      have hmem : F[k] ∈ F := List.getElem_mem hk
      generalize F[k] = x at hkt hmem
      have hx := HF.out x hmem
      have hx1 : -24 ≤ x := by unfold Ltr at hx; omega
      have hx2 : x ≤ 24 := by unfold Ltr at hx; omega
      have hv2 := HV.out.kept (T := fun b => b < w.heap.size) HFr.out (fun b hb _ => ⟨fun h => h, hb⟩)
      obtain ⟨b, ob, rfl, _, c0⟩ := hv2.at hkt
      have HNT := Lib.hid (negs_take hkt)
      obtain ⟨i0, hi0, hz0, hz1, hz2⟩ := info_parts info_int
      have hs2 := HFr.out.size
      clear hk hkt hmem hx hv2
      go_wp2_with (at_builtin; refine wpList_append_own_at _ rfl _ _ 37 rfl w.heap.size 3 i0 (.int .i64 0) 1 8 Try.underlying37 hi0 hz0 hz1 hz2 rfl (by decide) (.slice oa k ocp) k ((negs (F.take k)).map (Value.int .i64)) rfl (HO.out.2.alloc _) ⟨wr.heap.size, 0, none⟩ 1 1 [.int .i64 (-x)] rfl ?c1 ?c2 ?c3 ?c4 ?c5 ?c6 ?_)
      case c1 => rfl
      case c2 => exact cell_one_new _ _ _
      case c3 => intro u hu; simp at hu; subst hu; rfl
      case c4 => unfold maxLen; omega
      case c5 => omega
      case c6 => first | omega | (simp; omega)
      intro v6 w6 own6 gr6 _ _
      have hO6 : Outs w.heap.size (k + 1) (negs (F.take (k + 1))) v6 w6 := by
        rw [HNT.out]
        exact ⟨by rw [List.length_append, HO.out.1]; rfl, by rw [List.map_append]; exact own6⟩
      have HF6 := Lib.hid ((HFr.out.alloc (.cells #[.int .i64 (-x)] 3)).grown gr6 (fun j hj hlt => absurd (HO.out.2.lt j hj).1 (by omega)))
      have HO6 := Lib.hid hO6
      obtain ⟨oa6, ocp6, rfl⟩ := hO6.form
      clear hO6 own6 gr6 hs2
      go_wp2_with fail
      go_roundg m
      case measure => omega
      case rel => exact ⟨k + 1, by omega, by go_num, ⟨_, _, rfl⟩, HO6.out, HF6.out⟩
/-- the values of a list of lists -/
theorem RowsO.vals {w : World} {S : Nat → Prop} {l : List (List Int)} {a : Option Addr} {n cap : Nat} (h : RowsO w S l (.slice a n cap)) : ∃ us : List Value, us.length = l.length ∧ (∀ (j : Nat) r, l[j]? = some r → ∃ u, us[j]? = some u ∧ IntsO w S r u) ∧ (∀ b ob, a = some ⟨b, ob, none⟩ → ∀ (j : Nat) u, us[j]? = some u → w.cell? ⟨b, ob + j, none⟩ = some u) ∧ ∀ u ∈ us, ∃ x y z, u = .slice x y z := by
  obtain ⟨a', cap', e, _, hk⟩ := h
  cases e
  cases l with
  | nil => exact ⟨[], rfl, fun j r hj => by simp at hj, fun _ _ _ j u hu => by simp at hu, fun u hu => by simp at hu⟩
  | cons r0 l =>
    obtain ⟨b, ob, rfl, _, hc⟩ := hk (by simp)
    generalize r0 :: l = l at *
    have key : ∀ n, n ≤ l.length → ∃ us : List Value, us.length = n ∧ (∀ (j : Nat) r, j < n → l[j]? = some r → ∃ u, us[j]? = some u ∧ IntsO w S r u) ∧ (∀ (j : Nat) u, us[j]? = some u → w.cell? ⟨b, ob + j, none⟩ = some u) ∧ ∀ u ∈ us, ∃ x y z, u = .slice x y z := by
      intro n
      induction n with
      | zero => exact fun _ => ⟨[], rfl, fun j r hj => absurd hj (Nat.not_lt_zero _), fun j u hu => by simp at hu, fun u hu => by simp at hu⟩
      | succ n ih =>
        intro hn
        obtain ⟨us, h1, h2, h3, h4⟩ := ih (by omega)
        have hnl : l[n]? = some l[n] := List.getElem?_eq_getElem (by omega)
        generalize l[n] = r at hnl
        obtain ⟨u, hu, hI⟩ := hc n r hnl
        refine ⟨us ++ [u], by simp [h1], fun j r' hj hr' => ?_, fun j u' hu' => ?_, fun u' hu' => ?_⟩
        · by_cases e : j = n
          · rw [e] at hr' ⊢
            rw [hnl] at hr'
            cases hr'
            exact ⟨u, by rw [List.getElem?_append_right (by omega), h1]; simp, hI⟩
          · obtain ⟨u', a1, a2⟩ := h2 j r' (by omega) hr'
            exact ⟨u', by rw [List.getElem?_append_left (by omega)]; exact a1, a2⟩
        · by_cases e : j < n
          · rw [List.getElem?_append_left (by omega)] at hu'
            exact h3 j u' hu'
          · rw [List.getElem?_append_right (by omega), h1] at hu'
            have e2 : j - n = 0 := by
              have := (List.getElem?_eq_some_iff.1 hu').1
              simp at this; omega
            rw [e2] at hu'
            have e3 : j = n := by omega
            cases hu'
            rw [e3]; exact hu
        · rcases List.mem_append.1 hu' with h | h
          · exact h4 u' h
          · simp at h
            obtain ⟨x, y, e⟩ := hI.form
            exact ⟨x, _, y, h.trans e⟩
    obtain ⟨us, h1, h2, h3, h4⟩ := key l.length (Nat.le_refl _)
    exact ⟨us, h1, fun j r hr => h2 j r (List.getElem?_eq_some_iff.1 hr).1 hr, fun b' ob' e j u hu => by cases e; exact h3 j u hu, h4⟩
set_option maxRecDepth 100000 in
/-- append([][]int(nil), l...): a row of one's own -/
theorem copyRows {w : World} {l : List (List Int)} {v : Value} (hl : l.length ≤ 1048576) (h : RowsO w (fun b => b < w.heap.size) l v) :
    ∃ a c w' us, (Builtin.append_ #[36, 36] 36 #[.slice none 0 0, v]).run Try.prog w = .ok (.slice a l.length c) w' ∧ w'.ownsRow w.heap.size 37 1 (.slice a l.length c) l.length us ∧ Done w' (fun b => b < w.heap.size) l l.length us ∧ Fr nob w w' := by
  obtain ⟨a, cap, rfl⟩ := h.form
  obtain ⟨us, u1, u2, u3, u4⟩ := h.vals
  obtain ⟨a', cap', e, h0, hc⟩ := h
  cases e
  cases a with
  | none =>
    obtain rfl := h0 rfl
    have hn : l = [] := by
      cases l with
      | nil => rfl
      | cons x t => obtain ⟨b, ob, h1, _⟩ := hc (by simp); cases h1
    subst hn
    refine ⟨none, 0, w, [], ?_, World.ownsRow_nil _ _ _ _, fun j r hj => absurd hj (Nat.not_lt_zero _), Fr.refl _ _⟩
    obtain ⟨i, hi, _⟩ := Option.map_eq_some_iff.1 info_intsR
    simp [Builtin.append_, run_underlying (show Try.prog.underlying 36 = some (.slice 37) from Try.underlying36), sizeOf, typeInfo, hi, Builtin.lenOf, Builtin.firstCells]
  | some ad =>
    obtain ⟨i, hi, hz, hsz, hby⟩ := info_parts info_intsR
    have hq1 : 0 + l.length ≤ maxLen := by unfold maxLen; omega
    have hq2 : (0 + l.length) * 24 ≤ 140737488355328 := by omega
    obtain ⟨v', w', hrun, r1, r2, _⟩ := run_append_own (P := Try.prog) w w.heap.size 36 36 37 i (.slice none 0 0) 1 24 Try.underlying36 hi hz hsz hby rfl (by decide) (.slice none 0 0) 0 [] (World.ownsRow_nil w _ _ _) ad l.length cap us (by rw [u1]; simp)
      (fun j u hj => by
        have hne : l ≠ [] := fun e => by
          have := (List.getElem?_eq_some_iff.1 hj).1
          rw [u1, e] at this; simp at this
        obtain ⟨b, ob, h1, _, _⟩ := hc hne
        cases h1
        have := u3 b ob rfl j u hj
        unfold Addr.add
        split
        · rename_i e; rw [e] at this; exact this
        · exact this)
      (fun u hu => by obtain ⟨x, y, z, rfl⟩ := u4 u hu; rfl) hq1 hq2 (Nat.le_refl _)
    rw [List.nil_append, Nat.zero_add] at r1
    have F := (Fr.refl nob w).grown r2 (fun k hk => by cases hk)
    have hD : Done w' (fun b => b < w.heap.size) l l.length us := fun j r _ hr => by
      obtain ⟨u, a1, a2⟩ := u2 j r hr
      exact ⟨u, a1, a2.kept F (fun b hb _ => ⟨fun h => h, hb⟩)⟩
    rcases r1.2 with ⟨h1, h2⟩ | ⟨g, cap, cur, h1, _⟩
    · rw [h1] at hrun r1
      rw [h2] at hrun r1 ⊢
      refine ⟨none, 0, w', us, hrun, r1, ?_, F⟩
      rw [h2] at hD; exact hD
    · rw [h1] at hrun r1
      exact ⟨_, cap, w', us, hrun, r1, hD, F⟩

theorem rowsO_of {w : World} {B n : Nat} {C : List (List Int)} {us : List Value} {v : Value} {S : Nat → Prop} (h : w.ownsRow B 37 1 v n us) (hn : C.length = n) (hD : Done w S C n us) (hS : ∀ b, S b → b < w.heap.size) : RowsO w (fun b => b < w.heap.size) C v := by
  have hlt := h.lt
  rcases h.2 with ⟨h1, h2⟩ | ⟨g, cap', cur, h1, h2, h3, h4, h5, h6, h7⟩
  · exact ⟨none, 0, by rw [h1, hn, h2], fun _ => rfl, fun hne => absurd (List.eq_nil_of_length_eq_zero (by rw [hn]; exact h2)) hne⟩
  · refine ⟨_, _, by rw [h1, hn], (fun e => by cases e), fun _ => ⟨g, 0, rfl, (hlt g (by rw [h1]; rfl)).2, fun j r hj => ?_⟩⟩
    have hjl : j < n := by rw [← hn]; exact (List.getElem?_eq_some_iff.1 hj).1
    obtain ⟨u, hu, hI⟩ := hD j r hjl hj
    refine ⟨u, ?_, hI.kept (Fr.refl nob _) (fun b hb _ => ⟨fun h => h, hS b hb⟩)⟩
    rw [Nat.zero_add, Lib.cell_of_heap h3]
    have h8 := congrArg (fun l => l[j]?) h7
    simp only [List.getElem?_take, Nat.mul_one, if_pos hjl, hu] at h8
    simpa using h8
theorem fits_all_drop {n : Int} {p : List (List Int)} {k : Nat} {x : List Int} (h : p[k]? = some x) : (p.drop k).all (fitsB n) = (fitsB n x && (p.drop (k + 1)).all (fitsB n)) := all_drop h
set_option maxRecDepth 100000 in
set_option maxHeartbeats 4000000 in
theorem refVer_any (l p : List (List Int)) (n : Int) (v vp : Value) (w : World) (hwd : Wide l) (hpl : p.length ≤ 1000) (hpr : ∀ r ∈ p, r.length ≤ 1000) (hv : RowsO w (fun b => b < w.heap.size) l v) (hp : RowsO w (fun b => b < w.heap.size) p vp) :
    Calls Try.prog 30 #[.int .i64 n, v, vp] w fun e w' => e = .returned (.tuple #[.int .i64 (verP n l p).1, .int .i64 (verP n l p).2]) ∧ Fr nob w w' := by
  have hC := refCls_any l n v _ w hwd hv
  by_cases hk : chkP n l = 0
  · rw [hk] at hC
    obtain ⟨hn, hl1, hl2⟩ := chk_zero2 hk
    obtain ⟨n1, n2⟩ := hn
    have hltr := chk_ltr hk
    obtain ⟨ra, rc, w2, us, hrun, own2, hD2, F2⟩ := copyRows (by omega) hv
    obtain ⟨a, cap, rfl⟩ := hv.form
    obtain ⟨fa, fcap, rfl⟩ := hp.form
    obtain ⟨L, hL⟩ : ∃ L, l.length = L := ⟨_, rfl⟩
    obtain ⟨N, hN⟩ : ∃ N, p.length = N := ⟨_, rfl⟩
    rw [hN] at hp hpl
    have HK := Lib.hid hk
    have HLT := Lib.hid hltr
    have HP := Lib.hid hp
    have HN := Lib.hid hN
    have HLL := Lib.hid hL
    have HL2 := Lib.hid hl2
    have HPR := Lib.hid hpr
    rw [hL] at hC hrun own2 hD2 hl1
    rw [hL, hN]
    have HO2 := Lib.hid own2
    have HD2 := Lib.hid hD2
    have HF2 := Lib.hid F2
    obtain ⟨R, hR⟩ : ∃ R, verP n l p = R := ⟨_, rfl⟩
    rw [hR]
    have HR := Lib.hid hR
    clear hwd hv hp hk hl2 hL hN hltr hpr own2 hD2 F2 hR
    go_enter Try.func30, Try.ntmps30
    go_wp2_with fail
    refine hC.mono ?_
    rintro e w3 ⟨rfl, rfl⟩
    clear hC
    go_wp2_with fail
    go_loopg [9] N (fun m iv wr => ∃ k : Nat, k + m = N ∧ iv = .int .i64 (k : Int) ∧ (p.drop k).all (fitsB n) = clsB n p ∧ w = wr)
    case atStart => exact ⟨0, by omega, rfl, by rw [List.drop_zero]; exact fitB_eq n p, rfl⟩
    case round =>
      obtain ⟨k, hkm, rfl, hrest, rfl⟩ := hrel
      have HRE := Lib.hid hrest
      have q4 : (0 : Int) ≤ (k : Int) := Int.natCast_nonneg _
      clear hrest
      cases gk with
      | zero =>
        obtain rfl : k = N := by omega
        have hb : clsB n p = true := by
          rw [← HRE.out, show p.drop k = [] from List.drop_eq_nil_of_le (by rw [HN.out]; exact Nat.le_refl _)]; rfl
        have HPE := Lib.hid (cls_each hb n2)
        have hR2 : ∃ R1, stepsP l p 0 = R1 ∧ R = (R1, 0) := ⟨_, rfl, by rw [← HR.out]; unfold verP; rw [if_neg (by rw [HK.out]; simp), if_neg (by rw [hb]; simp)]⟩
        obtain ⟨R1, hR1, rfl⟩ := hR2
        have HR1 := Lib.hid hR1
        clear hb hR1 HR HK HRE
        go_wp2_with (at_builtin; refine wpList_append_run2 _ rfl _ _ 36 rfl _ _ rfl rfl hrun ?_)
        go_wp2_with fail
        go_loopg [10, 11] k (fun m ov iv wr => ∃ (j nn : Nat) (us : List Value), j + m = k ∧ nn = L + j ∧ iv = .int .i64 (j : Int) ∧ (∃ oa ocp, ov = .slice oa nn ocp) ∧ wr.ownsRow w.heap.size 37 1 ov nn us ∧ Done wr (fun b => b < w.heap.size) (l ++ p.take j) nn us ∧ stepsP (l ++ p.take j) (p.drop j) (j : Int) = R1 ∧ Fr nob w wr)
        case atStart => exact ⟨0, L, us, by omega, rfl, rfl, ⟨_, _, rfl⟩, HO2.out, by rw [List.take_zero, List.append_nil]; exact HD2.out, by rw [List.take_zero, List.append_nil, List.drop_zero]; exact HR1.out, HF2.out⟩
        case round =>
          clear HO2 HD2 HR1 HF2 hrun
          obtain ⟨j, nn, us, hjm, hnn, rfl, ⟨oa, ocp, rfl⟩, hO, hD, hR, hF⟩ := hrel
          have q5 : (0 : Int) ≤ (j : Int) := Int.natCast_nonneg _
          have HO := Lib.hid hO
          have HD := Lib.hid hD
          have HR := Lib.hid hR
          have HF := Lib.hid hF
          clear hO hD hR hF
          cases gk with
          | zero =>
            obtain rfl : j = k := by omega
            have hres : (j : Int) = R1 := by
              have h := HR.out
              rw [show p.drop j = [] from List.drop_eq_nil_of_le (by rw [HN.out]; exact Nat.le_refl _)] at h
              exact h
            have HRES := Lib.hid hres
            clear hres
            go_wp2_with fail
            go_ret2
            exact ⟨by rw [← HRES.out]; rfl, HF.out⟩
          | succ m =>
            have q6 : (j : Int) < (k : Int) := by omega
            have hkl : j < p.length := by rw [HN.out]; omega
            have hkt : p[j]? = some p[j] := List.getElem?_eq_getElem hkl
            have hmem : p[j] ∈ p := List.getElem_mem hkl
            have htake : p.take (j + 1) = p.take j ++ [p[j]] := List.take_succ_eq_append_getElem hkl
            have hdrop : p.drop j = p[j] :: p.drop (j + 1) := List.drop_eq_getElem_cons hkl
            have htl : (p.take j).length = j := by rw [List.length_take]; omega
            generalize p[j] = cs at hkt hmem htake hdrop
            have hp2 := HP.out.kept (T := fun b => b < w.heap.size) HF.out (fun b hb _ => ⟨fun h => h, hb⟩)
            obtain ⟨b, ob, e1, hSb, a', cap', c0, hI⟩ := hp2.at hkt
            subst e1
            obtain ⟨hc1, hc2⟩ := HPE.out cs hmem
            have hsz := HF.out.size
            have hIw := hI.kept (T := fun b => b < wr.heap.size) (Fr.refl nob wr) (fun b hb _ => ⟨fun h => h, by omega⟩)
            have hNg := negated_any cs _ wr hc2 (by omega) hIw
            have hCl : (l ++ p.take j).length = nn := by rw [List.length_append, HLL.out, htl]; exact hnn.symm
            have hRow := rowsO_of HO.out hCl HD.out (fun b hb => by omega)
            have hCt : ∀ c ∈ l ++ p.take j, ∀ x ∈ c, Ltr x := fun c hc => by
              rcases List.mem_append.1 hc with hc | hc
              · exact HLT.out c hc
              · exact (HPE.out c (List.mem_of_mem_take hc)).2
            have hCw : ∀ c ∈ l ++ p.take j, c.length ≤ 1048576 := fun c hc => by
              rcases List.mem_append.1 hc with hc | hc
              · have := (HL2.out c hc).1; omega
              · have := (HPE.out c (List.mem_of_mem_take hc)).1; omega
            have hcf := fun u w3 (f : Fr nob wr w3) hu => conf_any (l ++ p.take j) (negs cs) _ u w3 hCt (negs_ltr hc2) (by omega) hCw (by unfold negs; rw [List.length_map]; omega) (hRow.kept (T := fun b => b < w3.heap.size) f (fun b h h' => ⟨fun h => h, by have := f.size; omega⟩)) hu
            have hst := HR.out
            rw [hdrop, stepsP] at hst
            obtain ⟨cf, hcfe⟩ : ∃ cf, confP (l ++ p.take j) (negs cs) = cf := ⟨_, rfl⟩
            rw [hcfe] at hcf hst
            obtain ⟨rl, hrl⟩ : ∃ rl, cs.length = rl := ⟨_, rfl⟩
            rw [hrl] at c0 hNg
            have HST := Lib.hid hst
            have HT := Lib.hid htake
            have HRL := Lib.hid hrl
            have HCF := Lib.hid hcf
            have HI0 := Lib.hid hI
            have HKT := Lib.hid hkt
            have HCL := Lib.hid hCl
            have HNN := Lib.hid hnn
            have hnb : nn ≤ 6000 := by omega
            clear hnn
            clear hkl hkt hmem htake hdrop htl hp2 hI hIw hc2 hCl hRow hCt hCw hst hcfe hcf hrl
            go_wp2_with fail
            refine hNg.mono ?_
            rintro e w3 ⟨u, rfl, hu, F3⟩
            have hcf := HCF.out u w3 F3 hu
            have c1 := F3.cell c0 (fun h => h)
            have HF3 := Lib.hid (HF.out.trans F3 (fun _ _ h => h))
            have HF30 := Lib.hid F3
            clear hNg hu F3 HCF c0
            go_wp2_with fail
            refine hcf.mono ?_
            rintro e w4 ⟨rfl, F4⟩
            have c0 := F4.cell c1 (fun h => h)
            have HF4 := Lib.hid (HF3.out.trans F4 (fun _ _ h => h))
            have HF40 := Lib.hid (HF30.out.trans F4 (fun _ _ h => h))
            clear hcf F4 c1
            cases cf with
            | false =>
              have hres : (j : Int) = R1 := by have h := HST.out; rw [if_pos rfl] at h; exact h
              have HRES := Lib.hid hres
              clear hres
              go_wp2_with fail
              go_ret2
              exact ⟨by rw [← HRES.out]; rfl, HF4.out⟩
            | true =>
              by_cases e0 : rl = 0
              · have q7 : ((rl : Int) == 0) = true := by rw [e0]; rfl
                have hres : (-1 : Int) = R1 := by
                  have h := HST.out
                  rw [if_neg (by simp), if_pos (by rw [show cs = [] from List.eq_nil_of_length_eq_zero (by rw [HRL.out]; exact e0)]; rfl)] at h
                  exact h
                have HRES := Lib.hid hres
                clear hres e0
                go_wp2_with fail
                go_ret2
                exact ⟨by rw [← HRES.out]; rfl, HF4.out⟩
              · have q7 : ((rl : Int) == 0) = false := by simp; omega
                have hres : stepsP (l ++ p.take (j + 1)) (p.drop (j + 1)) ((j + 1 : Nat) : Int) = R1 := by
                  have h := HST.out
                  rw [if_neg (by simp), if_neg (by
                    intro e
                    have h2 := HRL.out
                    rw [List.isEmpty_iff.1 e] at h2
                    exact e0 h2.symm)] at h
                  rw [HT.out, ← List.append_assoc]
                  exact h
                have HRES := Lib.hid hres
                have HO4 := Lib.hid (HF40.out.row HO.out (fun _ _ h => h))
                have HD4 := Lib.hid (HD.out.kept (T := fun b => b < w.heap.size) HF40.out (fun b hb _ => ⟨fun h => h, hb⟩))
                have HI4 := Lib.hid (HI0.out.kept (T := fun b => b < w.heap.size) HF40.out (fun b hb _ => ⟨fun h => h, hb⟩))
                obtain ⟨i0, hi0, hz0, hz1, hz2⟩ := info_parts info_intsR
                have hs4 := HF4.out.size
                have hus : us.length = nn := by have := HO.out.1; omega
                have HUS := Lib.hid hus
                clear hres e0 hus hsz
                go_wp2_with (at_builtin; refine wpList_append_own_at _ rfl _ _ 36 rfl w.heap.size 37 i0 (.slice none 0 0) 1 24 Try.underlying36 hi0 hz0 hz1 hz2 rfl (by decide) (.slice oa nn ocp) nn us rfl (HO4.out.alloc _) ⟨w4.heap.size, 0, none⟩ 1 1 [.slice a' rl cap'] rfl ?c1 ?c2 ?c3 ?c4 ?c5 ?c6 ?_)
                case c1 => rfl
                case c2 => exact cell_one_new _ _ _
                case c3 => intro u hu; simp at hu; subst hu; rfl
                case c4 => unfold maxLen; omega
                case c5 => omega
                case c6 => first | omega | (simp; omega)
                intro v6 w6 own6 gr6 _ _
                have hlt := fun j hj => (HO4.out.lt j hj)
                have G6 : Fr (fun q => (Value.slice oa nn ocp).ownBlock = some q) w4 w6 := (((Fr.refl nob w4).alloc (.cells #[.slice a' rl cap'] 37)).mono (T := fun q => (Value.slice oa nn ocp).ownBlock = some q) (fun _ _ h => h.elim)).grown gr6 (fun q hq _ => hq)
                have hD6 := HD4.out.kept (T := fun b => b < w.heap.size) G6 (fun b hb _ => ⟨fun e => by have := (hlt b e).1; omega, hb⟩)
                have hI6 := HI4.out.kept (T := fun b => b < w.heap.size) G6 (fun b hb _ => ⟨fun e => by have := (hlt b e).1; omega, hb⟩)
                have hD7 : Done w6 (fun b => b < w.heap.size) (l ++ p.take (j + 1)) (nn + 1) (us ++ [.slice a' rl cap']) := by
                  rw [HT.out, ← List.append_assoc]
                  intro i r hi hr
                  by_cases e : i = nn
                  · rw [e] at hr ⊢
                    rw [List.getElem?_append_right (by rw [HCL.out]; exact Nat.le_refl _), HCL.out] at hr
                    simp at hr
                    subst hr
                    refine ⟨.slice a' rl cap', by rw [List.getElem?_append_right (by rw [HUS.out]; exact Nat.le_refl _), HUS.out]; simp, ?_⟩
                    rw [← HRL.out]
                    exact hI6
                  · rw [List.getElem?_append_left (by rw [HCL.out]; omega)] at hr
                    obtain ⟨u, h1, h2⟩ := hD6 i r (by omega) hr
                    exact ⟨u, by rw [List.getElem?_append_left (by rw [HUS.out]; omega)]; exact h1, h2⟩
                have HD7 := Lib.hid hD7
                have HO7 := Lib.hid own6
                have HF7 := Lib.hid ((HF4.out.alloc (.cells #[.slice a' rl cap'] 37)).grown gr6 (fun q hq hlt2 => absurd (hlt q hq).1 (by omega)))
                obtain ⟨oa6, ocp6, rfl⟩ : ∃ oa6 ocp6, v6 = .slice oa6 (nn + 1) ocp6 := by
                  rcases own6.2 with ⟨rfl, h0⟩ | ⟨g', cap', cur, rfl, h1, h2, _⟩
                  · simp at h0
                  · exact ⟨_, _, rfl⟩
                clear own6 gr6 hlt G6 hD6 hI6 hD7 hs4
                go_wp2_with fail
                go_roundg m
                case measure => omega
                case rel => exact ⟨j + 1, nn + 1, _, by omega, by have := HNN.out; omega, by go_num, ⟨_, _, rfl⟩, HO7.out, HD7.out, HRES.out, HF7.out⟩
      | succ m =>
        have q3 : (k : Int) < (N : Int) := by omega
        have hkl : k < p.length := by rw [HN.out]; omega
        have hkt : p[k]? = some p[k] := List.getElem?_eq_getElem hkl
        have hmem : p[k] ∈ p := List.getElem_mem hkl
        generalize p[k] = cs at hkt hmem
        obtain ⟨b, ob, rfl, hSb, a', cap', c0, hI⟩ := HP.out.at hkt
        have hone := fits_any cs n ⟨n1, n2⟩ _ _ w (by have := HPR.out cs hmem; omega) hI
        have hst := fits_all_drop (n := n) hkt
        rw [HRE.out] at hst
        have HST := Lib.hid hst
        obtain ⟨rl, hrl⟩ : ∃ rl, cs.length = rl := ⟨_, rfl⟩
        rw [hrl] at c0 hone
        clear hkl hkt hmem hI hrl
        cases hx : fitsB n cs with
        | true =>
          rw [hx] at hone
          have hst2 : (p.drop (k + 1)).all (fitsB n) = clsB n p := by rw [HST.out, hx, Bool.true_and]
          have HST2 := Lib.hid hst2
          clear hst hx hst2
          go_wp2_with fail
          refine hone.mono ?_
          rintro e w' ⟨rfl, rfl⟩
          clear hone
          go_wp2_with fail
          go_roundg m
          case measure => omega
          case rel => exact ⟨k + 1, by omega, by go_num, HST2.out, rfl⟩
        | false =>
          rw [hx] at hone
          have hb : clsB n p = false := by rw [HST.out, hx, Bool.false_and]
          have hE : R = (0, 2) := by rw [← HR.out]; unfold verP; rw [if_neg (by rw [HK.out]; simp), if_pos hb]
          subst hE
          clear hst hx hb
          go_wp2_with fail
          refine hone.mono ?_
          rintro e w' ⟨rfl, rfl⟩
          clear hone
          go_wp2_with fail
          go_ret2
          exact ⟨rfl, Fr.refl _ _⟩
  · have hE : verP n l p = (0, chkP n l) := by unfold verP; rw [if_pos hk]
    have q0 : (chkP n l != 0) = true := by simpa using hk
    obtain ⟨a, cap, rfl⟩ := hv.form
    obtain ⟨fa, fcap, rfl⟩ := hp.form
    rw [hE]
    generalize chkP n l = R at *
    clear hE hv hp hwd hk hpl hpr
    go_enter Try.func30, Try.ntmps30
    go_wp2_with fail
    refine hC.mono ?_
    rintro e w2 ⟨rfl, rfl⟩
    go_wp2_with fail
    go_ret2
    exact ⟨rfl, Fr.refl _ _⟩
/-! the law's own comparisons -/
theorem below_kept {w w' : World} {l : List Int} {v : Value} (f : Fr nob w w') (h : IntsO w (fun b => b < w.heap.size) l v) : IntsO w' (fun b => b < w'.heap.size) l v :=
  h.kept (T := fun b => b < w'.heap.size) f (fun b h h' => ⟨fun h => h, by have := f.size; omega⟩)
theorem below_rows {w w' : World} {l : List (List Int)} {v : Value} (f : Fr nob w w') (h : RowsO w (fun b => b < w.heap.size) l v) : RowsO w' (fun b => b < w'.heap.size) l v :=
  h.kept (T := fun b => b < w'.heap.size) f (fun b h h' => ⟨fun h => h, by have := f.size; omega⟩)
set_option maxRecDepth 100000 in
set_option maxHeartbeats 4000000 in
theorem alike_same (l : List Int) (v v' : Value) (w : World) (hl : l.length ≤ 1048576) (h : IntsO w (fun b => b < w.heap.size) l v) (h' : IntsO w (fun b => b < w.heap.size) l v') :
    Calls Try.prog 27 #[v, v'] w fun e w' => e = .returned (.bool true) ∧ Fr nob w w' := by
  obtain ⟨a, cap, rfl⟩ := h.form
  obtain ⟨a', cap', rfl⟩ := h'.form
  obtain ⟨N, hN⟩ : ∃ N, l.length = N := ⟨_, rfl⟩
  rw [hN] at hl h h' ⊢
  have HH := Lib.hid h
  have HH' := Lib.hid h'
  have HN := Lib.hid hN
  clear h h' hN
  have q0 : ((N : Int) != (N : Int)) = false := by simp
  go_enter Try.func27, Try.ntmps27
  go_wp2_with fail
  go_loopg [5] N (fun m iv wr => ∃ k : Nat, k + m = N ∧ iv = .int .i64 (k : Int) ∧ Fr nob w wr)
  case atStart => exact ⟨0, by omega, rfl, Fr.refl _ _⟩
  case round =>
    obtain ⟨k, hkm, rfl, hF⟩ := hrel
    have q4 : (0 : Int) ≤ (k : Int) := Int.natCast_nonneg _
    have HF := Lib.hid hF
    clear hF
    cases gk with
    | zero =>
      obtain rfl : k = N := by omega
      go_wp2_with fail
      go_ret
      exact ⟨rfl, HF.out⟩
    | succ m =>
      have q3 : (k : Int) < (N : Int) := by omega
      have hk : k < l.length := by rw [HN.out]; omega
      have hkt : l[k]? = some l[k] := List.getElem?_eq_getElem hk
      generalize l[k] = x at hkt
      obtain ⟨b, ob, e1, _, c0⟩ := (below_kept ((HF.out).drew) HH.out).at hkt
      obtain ⟨b', ob', e2, _, c1⟩ := (below_kept ((HF.out).drew) HH'.out).at hkt
      subst e1 e2
      have q1 : (x != x) = false := by simp
      have HF2 := Lib.hid HF.out.drew
      clear hk hkt
      go_wp2_with fail
      go_region_with fail
      all_goals
        go_wp2_with fail
        go_roundg m
        case measure => omega
        case rel => exact ⟨k + 1, by omega, by go_num, HF2.out⟩
set_option maxRecDepth 100000 in
set_option maxHeartbeats 4000000 in
theorem same_same (l : List (List Int)) (v v' : Value) (w : World) (hl : l.length ≤ 1048576) (hl2 : ∀ r ∈ l, r.length ≤ 1048576) (h : RowsO w (fun b => b < w.heap.size) l v) (h' : RowsO w (fun b => b < w.heap.size) l v') :
    Calls Try.prog 28 #[v, v'] w fun e w' => e = .returned (.bool true) ∧ Fr nob w w' := by
  obtain ⟨a, cap, rfl⟩ := h.form
  obtain ⟨a', cap', rfl⟩ := h'.form
  obtain ⟨N, hN⟩ : ∃ N, l.length = N := ⟨_, rfl⟩
  rw [hN] at hl h h' ⊢
  have HH := Lib.hid h
  have HH' := Lib.hid h'
  have HN := Lib.hid hN
  have HL := Lib.hid hl2
  clear h h' hN hl2
  have q0 : ((N : Int) != (N : Int)) = false := by simp
  go_enter Try.func28, Try.ntmps28
  go_wp2_with fail
  go_loopg [5] N (fun m iv wr => ∃ k : Nat, k + m = N ∧ iv = .int .i64 (k : Int) ∧ Fr nob w wr)
  case atStart => exact ⟨0, by omega, rfl, Fr.refl _ _⟩
  case round =>
    obtain ⟨k, hkm, rfl, hF⟩ := hrel
    have q4 : (0 : Int) ≤ (k : Int) := Int.natCast_nonneg _
    have HF := Lib.hid hF
    clear hF
    cases gk with
    | zero =>
      obtain rfl : k = N := by omega
      go_wp2_with fail
      go_ret
      exact ⟨rfl, HF.out⟩
    | succ m =>
      have q3 : (k : Int) < (N : Int) := by omega
      have hk : k < l.length := by rw [HN.out]; omega
      have hkt : l[k]? = some l[k] := List.getElem?_eq_getElem hk
      have hmem : l[k] ∈ l := List.getElem_mem hk
      generalize l[k] = r at hkt hmem
      have hI1 := below_rows ((HF.out).drew) HH.out
      have hI2 := below_rows ((HF.out).drew) HH'.out
      obtain ⟨b, ob, e1, _, a1, cp1, c0, hr1⟩ := hI1.at hkt
      obtain ⟨b', ob', e2, _, a2, cp2, c1, hr2⟩ := hI2.at hkt
      subst e1 e2
      have hal := alike_same r _ _ wr.drew (HL.out r hmem) hr1 hr2
      generalize r.length = rl at *
      have HF2 := Lib.hid HF.out.drew
      clear hk hkt hmem hI1 hI2 hr1 hr2
      go_wp2_with fail
      go_region_with (go_at_call 27; (with_reducible refine hal.mono ?_); rintro e w' ⟨rfl, F⟩)
      all_goals
        have HF3 := Lib.hid (HF2.out.trans F (fun _ _ h => h))
        clear hal F c0 c1
        go_wp2_with fail
        go_roundg m
        case measure => omega
        case rel => exact ⟨k + 1, by omega, by go_num, HF3.out⟩
theorem large_noP {l : List (List Int)} (h : largeP l = false) : l.length ≤ 40 ∧ ∀ r ∈ l, r.length ≤ 80 := by
  unfold largeP at h
  rw [Bool.or_eq_false_iff, List.any_eq_false] at h
  refine ⟨by simpa using h.1, fun r hr => ?_⟩
  have := h.2 r hr
  simpa using this

/-! the law FormulaVerifies -/
set_option maxRecDepth 100000 in
set_option maxHeartbeats 4000000 in
theorem vers_any (l p : List (List Int)) (n : Int) (v vp : Value) (w : World) (hwd : Wide l) (hwp : Wide p) (hv : RowsO w (fun b => b < w.heap.size) l v) (hp : RowsO w (fun b => b < w.heap.size) p vp) :
    Calls Try.prog 5 #[.int .i64 n, v, vp] w fun e w' => e = .returned (.bool true) ∧ Fr nob w w' := by
  have hG := large_any l v _ w hwd hv
  have hGp := large_any p vp _ w hwp hp
  have hWk := Lib.hid wakes_any
  obtain ⟨a, cap, hform⟩ := hv.form
  obtain ⟨fa, fcap, hfform⟩ := hp.form
  cases hgr : largeP l with
  | true =>
    rw [hgr] at hG
    subst hform hfform
    clear hwd hwp hv hp hgr hGp
    generalize l.length = LL at *
    generalize p.length = PL at *
    go_enter Try.func5, Try.ntmps5
    go_wp2_with (first | (go_at_call 23; with_reducible refine hG.mono ?_; rintro e w2 ⟨rfl, rfl⟩) | fail)
    refine (hWk.out _).mono ?_
    rintro e w3 ⟨rfl, F3⟩
    go_wp2_with fail
    go_ret
    exact ⟨rfl, F3⟩
  | false =>
    rw [hgr] at hG
    obtain ⟨g1, g2⟩ := large_noP hgr
    cases hgp : largeP p with
    | true =>
      rw [hgp] at hGp
      subst hform hfform
      clear hwd hwp hv hp hgr hgp g1 g2
      generalize l.length = LL at *
      generalize p.length = PL at *
      go_enter Try.func5, Try.ntmps5
      go_wp2_with (first | (go_at_call 23; with_reducible refine hG.mono ?_; rintro e w2 ⟨rfl, rfl⟩) | fail)
      refine hGp.mono ?_
      rintro e w2 ⟨rfl, rfl⟩
      go_wp2_with fail
      refine (hWk.out _).mono ?_
      rintro e w3 ⟨rfl, F3⟩
      go_wp2_with fail
      go_ret
      exact ⟨rfl, F3⟩
    | false =>
      rw [hgp] at hGp
      obtain ⟨g3, g4⟩ := large_noP hgp
      have hl1 : l.length ≤ 1048576 := by omega
      have hl2 : ∀ r ∈ l, r.length ≤ 1048576 := fun r hr => by have := g2 r hr; omega
      have hp1 : p.length ≤ 1048576 := by omega
      have hp2 : ∀ r ∈ p, r.length ≤ 1048576 := fun r hr => by have := g4 r hr; omega
      have hR := rows_any l v _ w hl1 hl2 hv
      have hRp := fun w2 (f : Fr nob w w2) => rows_any p vp _ w2 hp1 hp2 (below_rows f hp)
      have hp3 : p.length ≤ 1000 := by omega
      have hp4 : ∀ r ∈ p, r.length ≤ 1000 := fun r hr => by have := g4 r hr; omega
      obtain ⟨LL, hLL⟩ : ∃ LL, l.length = LL := ⟨_, rfl⟩
      obtain ⟨PL, hPL⟩ : ∃ PL, p.length = PL := ⟨_, rfl⟩
      have HLL := Lib.hid hLL
      have HPL := Lib.hid hPL
      rw [hLL] at hform
      rw [hPL] at hfform
      subst hform hfform
      have HX := Lib.hid (And.intro hl1 (And.intro hl2 (And.intro hp1 (And.intro hp2 (And.intro hp3 hp4)))))
      have HV := Lib.hid hv
      have HP := Lib.hid hp
      have HW := Lib.hid (And.intro hwd hwp)
      have HRP := Lib.hid hRp
      clear hv hp hwd hwp hLL hPL hl1 hl2 hp1 hp2 hp3 hp4 g1 g2 g3 g4 hgr hgp hRp
      go_enter Try.func5, Try.ntmps5
      go_wp2_with (first | (go_at_call 23; with_reducible refine hG.mono ?_; rintro e w2 ⟨rfl, rfl⟩) | fail)
      refine hGp.mono ?_
      rintro e w2 ⟨rfl, rfl⟩
      clear hG hGp
      go_wp2_with fail
      refine hR.mono ?_
      rintro e w1 ⟨v1, rfl, hR1, F1⟩
      have hQ := HRP.out w1 F1
      obtain ⟨a1, cap1, rfl⟩ := hR1.form
      have HR1 := Lib.hid (rows_in hR1)
      have HF1 := Lib.hid F1
      rw [HLL.out] at HR1 ⊢
      clear hR hR1 F1 HRP
      go_wp2_with fail
      refine hQ.mono ?_
      rintro e w2 ⟨v2, rfl, hR2, F2⟩
      obtain ⟨a2, cap2, rfl⟩ := hR2.form
      have HR2 := Lib.hid (rows_in hR2)
      have HF2 := Lib.hid (HF1.out.trans F2 (fun _ _ h => h))
      have HR1b := Lib.hid (below_rows F2 HR1.out)
      rw [HPL.out] at HR2 ⊢
      have hV := verify_any l p n _ _ w2 HW.out.1 HW.out.2 HX.out.2.2.2.2.1 HR1b.out HR2.out
      obtain ⟨k1, hk1⟩ : ∃ k1, (verP n l p).1 = k1 := ⟨_, rfl⟩
      obtain ⟨k2, hk2⟩ : ∃ k2, (verP n l p).2 = k2 := ⟨_, rfl⟩
      have HK1 := Lib.hid hk1
      have HK2 := Lib.hid hk2
      rw [hk1, hk2] at hV
      clear hQ hR2 F2 HR1 HF1 hk1 hk2
      go_wp2_with fail
      refine hV.mono ?_
      rintro e w3 ⟨rfl, F3⟩
      have HF3 := Lib.hid (HF2.out.trans F3 (fun _ _ h => h))
      have HR13 := Lib.hid (below_rows F3 HR1b.out)
      have HR23 := Lib.hid (below_rows F3 HR2.out)
      have hU := refVer_any l p n _ _ w3 HW.out.1 HX.out.2.2.2.2.1 HX.out.2.2.2.2.2 (below_rows HF3.out HV.out) (below_rows HF3.out HP.out)
      rw [HK1.out, HK2.out] at hU
      clear hV F3 HR1b HR2 HF2 HK1 HK2
      go_wp2_with fail
      refine hU.mono ?_
      rintro e w4 ⟨rfl, F4⟩
      have HF4 := Lib.hid (HF3.out.trans F4 (fun _ _ h => h))
      have HR14 := Lib.hid (below_rows F4 HR13.out)
      have HR24 := Lib.hid (below_rows F4 HR23.out)
      have hS := same_same l _ _ w4 HX.out.1 HX.out.2.1 HR14.out (below_rows HF4.out HV.out)
      have q1 : (k1 == k1) = true := by simp
      have q2 : (k2 == k2) = true := by simp
      clear hU F4 HF3 HR13 HR23
      go_wp2_with fail
      refine hS.mono ?_
      rintro e w5 ⟨rfl, F5⟩
      have HF5 := Lib.hid (HF4.out.trans F5 (fun _ _ h => h))
      have hS2 := same_same p _ _ w5 HX.out.2.2.1 HX.out.2.2.2.1 (below_rows F5 HR24.out) (below_rows HF5.out HP.out)
      clear hS F5 HF4 HR14 HR24
      go_wp2_with fail
      refine hS2.mono ?_
      rintro e w6 ⟨rfl, F6⟩
      have HF6 := Lib.hid (HF5.out.trans F6 (fun _ _ h => h))
      clear hS2 F6 HF5
      go_wp2_with fail
      refine (hWk.out _).mono ?_
      rintro e w7 ⟨rfl, F7⟩
      have HF7 := Lib.hid (HF6.out.trans F7 (fun _ _ h => h))
      clear F7
      go_wp2_with fail
      go_ret
      exact ⟨rfl, HF7.out⟩
end Go.Proofs.Ytaojojjdfdlgpaa
