import Derived.Test.YtaojojjdfdlgpaaHa
import Derived.Test.YtaojojjdfdlgpaaGe
import Derived.Test.YtaojojjdfdlgpaaQbp
namespace Go.Proofs.Ytaojojjdfdlgpaa
open Go.RowKit Uq

/-! the law FormulaRefutes -/
theorem ev_models (l : List (List Int)) (m : Nat) : l.all (rowE fun i => m.testBit i) = holdsP l m := rfl
theorem ev_some {l : List (List Int)} (hl : ∀ c ∈ l, ∀ x ∈ c, Ltr x) (f : Nat → Bool) : ∃ m, l.all (rowE f) = holdsP l m := by
  refine ⟨modP (fun y => f (y.natAbs - 1)) 24, ?_⟩
  rw [← ev_models, Bool.eq_iff_iff, List.all_eq_true, List.all_eq_true]
  have key : ∀ c ∈ l, rowE f c = rowE (fun i => (modP (fun y => f (y.natAbs - 1)) 24).testBit i) c := by
    intro c hc
    unfold rowE
    rw [Bool.eq_iff_iff, List.any_eq_true, List.any_eq_true]
    have k2 : ∀ y ∈ c, litE f y = litE (fun i => (modP (fun y => f (y.natAbs - 1)) 24).testBit i) y := by
      intro y hy
      have hy2 := hl c hc y hy
      unfold Ltr at hy2
      unfold litE
      show _ = ((modP (fun y => f (y.natAbs - 1)) 24).testBit (y.natAbs - 1) == _)
      rw [modP_bit]
      have e1 : decide (y.natAbs - 1 < 24) = true := by simp; omega
      have e2 : ((y.natAbs - 1 + 1 : Nat) : Int).natAbs - 1 = y.natAbs - 1 := by omega
      rw [e1, Bool.true_and, e2]
    constructor
    · rintro ⟨y, hy, e⟩; exact ⟨y, hy, by rw [← k2 y hy]; exact e⟩
    · rintro ⟨y, hy, e⟩; exact ⟨y, hy, by rw [k2 y hy]; exact e⟩
  constructor
  · intro h c hc; rw [← key c hc]; exact h c hc
  · intro h c hc; rw [key c hc]; exact h c hc
theorem empty_iff {l : List (List Int)} (hl : ∀ c ∈ l, ∀ x ∈ c, Ltr x) {t : Dg.Bd.B} (ok : t.ok 0) (ev : ∀ f, t.ev f = l.all (rowE f)) : t = .F ↔ ∀ m, holdsP l m = false := by
  constructor
  · intro h m
    rw [← ev_models, ← ev, h]; rfl
  · intro h
    refine Dg.Bd.eq_of_ev (b := .F) ok trivial fun f => ?_
    rw [ev f]
    obtain ⟨m, hm⟩ := ev_some hl f
    rw [hm, h m]; rfl
/-- a proof that is accepted -/
theorem steps_sound : ∀ (p C : List (List Int)) (k : Int), 0 ≤ k → (∀ c ∈ C, ∀ x ∈ c, Ltr x) → (∀ c ∈ p, ∀ x ∈ c, Ltr x) → stepsP C p k = -1 → ∀ m, holdsP C m = false
  | [], C, k, hk, _, _, h, m => by
    rw [stepsP] at h
    omega
  | c :: t, C, k, hk, hC, hp, h, m => by
    rw [stepsP] at h
    split at h
    · omega
    · rename_i h1
      have hcf : confP C (negs c) = true := by simpa using h1
      have hbad := (conf_iff hC _).1 hcf
      cases hm : holdsP C m with
      | false => rfl
      | true =>
        exfalso
        split at h
        · rename_i h2
          have hc0 : c = [] := by simpa using h2
          rw [hc0] at hbad
          exact model_not_bad hC hm (F := []) (by simp) hbad
        · have ih := steps_sound t (C ++ [c]) (k + 1) (by omega) (fun d hd x hx => by
            rcases List.mem_append.1 hd with hd | hd
            · exact hC d hd x hx
            · simp at hd; rw [hd] at hx; exact hp c (by simp) x hx) (fun d hd => hp d (by simp [hd])) h m
          rw [holdsP_app, hm, Bool.true_and] at ih
          refine model_not_bad hC hm (F := negs c) (fun x hx => ?_) hbad
          obtain ⟨y, hy, rfl⟩ := List.mem_map.1 hx
          have hy2 := hp c (by simp) y hy
          refine ⟨hy2.neg, ?_⟩
          rw [satB_neg hy2.1]
          rw [List.any_eq_false] at ih
          simpa using ih y hy
theorem ver_sound {n : Nat} {l p : List (List Int)} (hk : chkP (n : Int) l = 0) (h : (verP (n : Int) l p).1 = -1) (m : Nat) : holdsP l m = false := by
  obtain ⟨hn, _, hl⟩ := cls_in hk
  unfold verP at h
  rw [if_neg (by rw [hk]; simp)] at h
  split at h
  · cases h
  · rename_i hb
    have hb' : clsB (n : Int) p = true := by simpa using hb
    exact steps_sound p l 0 (by decide) (fun c hc x hx => ((hl c hc).2 x hx).1) (fun c hc => (cls_each hb' (by omega) c hc).2) h m
theorem large_no {l : List (List Int)} (h : largeP l = false) : l.length ≤ 40 ∧ ∀ r ∈ l, r.length ≤ 80 := by
  unfold largeP at h
  rw [Bool.or_eq_false_iff, List.any_eq_false] at h
  refine ⟨by simpa using h.1, fun r hr => ?_⟩
  have := h.2 r hr
  simpa using this
set_option maxRecDepth 100000 in
set_option maxHeartbeats 4000000 in
theorem refs_any (l p : List (List Int)) (n : Int) (v vp : Value) (w : World) (hwd : Wide l) (hwp : Wide p) (hv : RowsO w (fun b => b < w.heap.size) l v) (hp : RowsO w (fun b => b < w.heap.size) p vp) (hcap : ∃ a c, v = .slice a l.length c ∧ l.length ≤ c) :
    Calls Try.prog 9 #[.int .i64 n, v, vp] w fun e w' => e = .returned (.bool true) ∧ Fr nob w w' := by
  have hG := large_any l v _ w hwd hv
  have hGp := large_any p vp _ w hwp hp
  have hWk := Lib.hid wakes_any
  have hCl := refCls_any l n _ _ w hwd hv
  obtain ⟨a, cap, hform, hcp⟩ := hcap
  obtain ⟨fa, fcap, hfform⟩ := hp.form
  obtain ⟨K, hK⟩ : ∃ K, chkP n l = K := ⟨_, rfl⟩
  rw [hK] at hCl
  have HCL := Lib.hid hCl
  clear hCl
  cases hgr : largeP l with
  | true =>
    rw [hgr] at hG
    subst hform hfform
    clear hwd hwp hv hp hgr hGp hcp hK
    generalize l.length = LL at *
    generalize p.length = PL at *
    go_enter Try.func9, Try.ntmps9
    go_wp2_with (first | (go_at_call 23; with_reducible refine hG.mono ?_; rintro e w2 ⟨rfl, rfl⟩) | fail)
    refine (hWk.out _).mono ?_
    rintro e w3 ⟨rfl, F3⟩
    go_wp2_with fail
    go_ret
    exact ⟨rfl, F3⟩
  | false =>
    rw [hgr] at hG
    cases hgp : largeP p with
    | true =>
      rw [hgp] at hGp
      subst hform hfform
      clear hwd hwp hv hp hgr hgp hcp hK
      generalize l.length = LL at *
      generalize p.length = PL at *
      go_enter Try.func9, Try.ntmps9
      go_wp2_with (first | (go_at_call 23; with_reducible refine hG.mono ?_; rintro e w2 ⟨rfl, rfl⟩) | fail)
      refine hGp.mono ?_
      rintro e w2 ⟨rfl, rfl⟩
      go_wp2_with fail
      refine (hWk.out _).mono ?_
      rintro e w3 ⟨rfl, F3⟩
      go_wp2_with fail
      go_ret
      exact ⟨rfl, F3⟩
    | false =>
      rw [hgp] at hGp
      by_cases h12 : 12 < n
      · have q0 : (12 : Int) < n := h12
        subst hform hfform
        clear hwd hwp hv hp hgr hgp hcp hK h12
        generalize l.length = LL at *
        generalize p.length = PL at *
        go_enter Try.func9, Try.ntmps9
        go_wp2_with (first | (go_at_call 23; with_reducible refine hG.mono ?_; rintro e w2 ⟨rfl, rfl⟩) | fail)
        refine hGp.mono ?_
        rintro e w2 ⟨rfl, rfl⟩
        go_wp2_with fail
        refine (hWk.out _).mono ?_
        rintro e w3 ⟨rfl, F3⟩
        go_wp2_with fail
        go_ret
        exact ⟨rfl, F3⟩
      · have q0 : ¬ (12 : Int) < n := h12
        by_cases hk : K = 0
        · subst hk
          obtain ⟨N, rfl⟩ : ∃ N : Nat, n = (N : Int) := by
            have h0 : 0 ≤ n := by
              unfold chkP at hK
              split at hK
              · cases hK
              · omega
            exact ⟨n.toNat, by omega⟩
          obtain ⟨_, g1, g2⟩ := cls_in hK
          obtain ⟨g3, g4⟩ := large_no hgp
          obtain ⟨LL, hLL⟩ : ∃ LL, l.length = LL := ⟨_, rfl⟩
          obtain ⟨PL, hPL⟩ : ∃ PL, p.length = PL := ⟨_, rfl⟩
          have HLL := Lib.hid hLL
          have HPL := Lib.hid hPL
          rw [hLL] at hform hcp
          rw [hPL] at hfform
          subst hform hfform
          have HX := Lib.hid (And.intro g2 g3)
          have HV := Lib.hid hv
          have HP := Lib.hid hp
          have HW := Lib.hid (And.intro hwd hwp)
          have HK := Lib.hid hK
          have HCP := Lib.hid hcp
          clear hv hp hwd hwp hLL hPL g1 g2 g3 g4 hgr hgp hcp hK h12
          go_enter Try.func9, Try.ntmps9
          go_wp2_with (first | (go_at_call 23; with_reducible refine hG.mono ?_; rintro e w2 ⟨rfl, rfl⟩) | fail)
          refine hGp.mono ?_
          rintro e w2 ⟨rfl, rfl⟩
          clear hG hGp
          go_wp2_with fail
          refine HCL.out.mono ?_
          rintro e w2 ⟨rfl, rfl⟩
          clear HCL
          have hS := solve_any l (N : Int) _ w HW.out.1 HV.out (fun _ => by omega)
          rw [HK.out] at hS
          go_wp2_with fail
          refine hS.mono ?_
          rintro e w2 ⟨F2, b, m, pv, rfl, hA⟩
          have HF2 := Lib.hid F2
          have HA := Lib.hid hA
          clear hS F2 hA
          cases b with
          | true =>
            obtain ⟨rfl, hm1, hm2, _⟩ := HA.out.2.1 HK.out rfl
            have A3 : Fr nob w2 (w2.alloc (.cells #[.bool true, .int .u32 (m : Int), .slice none 0 0] 65)) := (Fr.refl nob w2).alloc _
            have HB3 := Lib.hid (Box3.new w2 (.bool true) (.int .u32 (m : Int)) (.slice none 0 0) 65)
            have HF3 := Lib.hid (HF2.out.trans A3 (fun _ _ h => h))
            have hC := conj_any l (N : Int) _ _ HW.out.1 (belowR HF3.out HV.out) ⟨a, cap, by rw [HLL.out], by rw [HLL.out]; exact HCP.out⟩
            have HM := Lib.hid (And.intro hm1 hm2)
            clear HF2 HA A3 hm1 hm2
            go_wp2_with fail
            refine hC.mono ?_
            rintro e w4 ⟨t, he, ok, _, hev, F4⟩
            obtain ⟨p5, s5, hps⟩ := dform t
            rw [HK.out, hps] at he
            subst he
            have hev2 := hev HK.out
            have htm : t.ev (fun i => m.testBit i) = true := by rw [hev2, ev_models]; exact HM.out.1
            have htF : t ≠ .F := fun e => by rw [e] at htm; cases htm
            have hEm : ∀ w, Calls Try.prog 40 #[.agg #[.int .u32 p5, .string s5]] w fun e w' => e = .returned (.bool false) ∧ Fr nob w w' := fun w => by
              have h := Dg.Empty_any t w
              rw [hps, decide_eq_false htF] at h
              exact h.mono fun e w' ⟨a, b⟩ => ⟨a, (Fr.refl nob w).below b⟩
            have hHas : ∀ w, Calls Try.prog 42 #[.agg #[.int .u32 p5, .string s5], .int .u32 (m : Int)] w fun e w' => e = .returned (.bool true) ∧ Fr nob w w' := fun w => by
              have h := Dg.Has_any t ok m (Nat.lt_trans HM.out.2 (Nat.lt_of_le_of_lt (Nat.pow_le_pow_right (by decide) (show ((N : Int)).toNat ≤ 24 by omega)) (by decide))) w
              rw [hps, htm] at h
              exact h.mono fun e w' ⟨a, b⟩ => ⟨a, (Fr.refl nob w).below b⟩
            have A5 : Fr nob w4 (w4.alloc (.cells #[.int .u32 p5, .string s5] 52)) := (Fr.refl nob w4).alloc _
            have hD5 := Bx.new w4 (.int .u32 p5) (.string s5) 52
            have hB5 := (HB3.out.kept F4 (fun h => h)).kept A5 (fun h => h)
            have HF5 := Lib.hid ((HF3.out.trans F4 (fun _ _ h => h)).trans A5 (fun _ _ h => h))
            have x0 := hB5.c0
            have x1 := hB5.c1
            have y0 := hD5.c0
            have y1 := hD5.c1
            have HB5 := Lib.hid hB5
            have HD5 := Lib.hid hD5
            have HEM := Lib.hid hEm
            have HHAS := Lib.hid hHas
            clear hC F4 hps hev hev2 htm htF hEm hHas A5 hD5 hB5 HB3 HF3 ok
            go_wp2_with fail
            generalize w4.alloc (.cells #[.int .u32 p5, .string s5] 52) = w5 at *
            go_region_held3 (fun w' => w'.cell? ⟨w2.heap.size, 0, none⟩ = some (.bool true) ∧ w'.cell? ⟨w2.heap.size, 1, none⟩ = some (.int .u32 (m : Int)) ∧ w'.cell? ⟨w4.heap.size, 0, none⟩ = some (.int .u32 p5) ∧ w'.cell? ⟨w4.heap.size, 1, none⟩ = some (.string s5))
              (first | go_keep | exact ⟨x0, x1, y0, y1⟩ | exact ⟨x0', x1', y0', y1'⟩ | exact ⟨x0'', x1'', y0'', y1''⟩)
              (first
              | (go_at_call 40; (with_reducible refine (HEM.out _).mono ?_); rintro e w6 ⟨rfl, F6⟩; have x0' := F6.cell x0 (fun h => h); have x1' := F6.cell x1 (fun h => h); have y0' := F6.cell y0 (fun h => h); have y1' := F6.cell y1 (fun h => h))
              | (go_at_call 42; (with_reducible refine (HHAS.out _).mono ?_); rintro e w7 ⟨rfl, F7⟩; have x0'' := F7.cell x0' (fun h => h); have x1'' := F7.cell x1' (fun h => h); have y0'' := F7.cell y0' (fun h => h); have y1'' := F7.cell y1' (fun h => h)))
            have HF7 := Lib.hid (((HF5.out.drew).trans F6 (fun _ _ h => h)).trans F7 (fun _ _ h => h))
            have hV := verify_any l p (N : Int) _ _ w7 HW.out.1 HW.out.2 (Nat.le_trans HX.out.2 (by decide)) (belowR HF7.out HV.out) (belowR HF7.out HP.out)
            obtain ⟨k1, hk1⟩ : ∃ k1, (verP (N : Int) l p).1 = k1 := ⟨_, rfl⟩
            obtain ⟨k2, hk2⟩ : ∃ k2, (verP (N : Int) l p).2 = k2 := ⟨_, rfl⟩
            rw [hk1, hk2] at hV
            have q7 : (k1 != -1) = true := by
              simp only [bne_iff_ne]
              intro e
              have := ver_sound HK.out (hk1.trans e) m
              rw [HM.out.1] at this
              cases this
            clear F6 F7 x0 x1 y0 y1 x0' x1' y0' y1' x1'' y0'' y1'' HB5 HD5 HEM HHAS HF5 hk1 hk2
            go_wp2_with fail
            refine hV.mono ?_
            rintro e w8 ⟨rfl, F8⟩
            have HF8 := Lib.hid (HF7.out.trans F8 (fun _ _ h => h))
            clear hV F8 HF7 x0''
            go_wp2_with fail
            refine (hWk.out _).mono ?_
            rintro e w9 ⟨rfl, F9⟩
            have HF9 := Lib.hid (HF8.out.trans F9 (fun _ _ h => h))
            clear F9 HF8
            go_wp2_with fail
            go_ret
            exact ⟨rfl, HF9.out⟩
          | false =>
            obtain ⟨rfl, Q, hRef, hrows⟩ := HA.out.2.2 HK.out rfl
            rw [Int.toNat_natCast] at hRef
            obtain ⟨hver, hql, hqr⟩ := refut_ver HK.out hRef
            have hno : ∀ m, holdsP l m = false := fun m => hRef.none (by omega) (fun c hc x hx => ((HX.out.1 c hc).2 x hx).1) m
            have hql2 : (Q ++ [[]]).length ≤ 10000 := Nat.le_trans hql (Nat.le_trans (Nat.add_le_add_right (Nat.pow_le_pow_right (by decide) (show N ≤ 12 by omega)) 1) (by decide))
            obtain ⟨qq, hq⟩ : ∃ qq, Q ++ [[]] = qq := ⟨_, rfl⟩
            rw [hq] at hver hql2 hqr hrows
            obtain ⟨pa, pcp, rfl⟩ := hrows.form
            have HROWS := Lib.hid hrows
            have HQ := Lib.hid (And.intro hver (And.intro hql2 hqr))
            have HNO := Lib.hid hno
            obtain ⟨QL, hQL⟩ : ∃ QL, qq.length = QL := ⟨_, rfl⟩
            rw [hQL] at HROWS ⊢
            have A3 : Fr nob w2 (w2.alloc (.cells #[.bool false, .int .u32 0, .slice pa QL pcp] 65)) := (Fr.refl nob w2).alloc _
            have HB3 := Lib.hid (Box3.new w2 (.bool false) (.int .u32 0) (.slice pa QL pcp) 65)
            have HF3 := Lib.hid (HF2.out.trans A3 (fun _ _ h => h))
            have HR3 := Lib.hid (belowR A3 HROWS.out)
            have hC := conj_any l (N : Int) _ _ HW.out.1 (belowR HF3.out HV.out) ⟨a, cap, by rw [HLL.out], by rw [HLL.out]; exact HCP.out⟩
            have HQL := Lib.hid hQL
            clear HF2 HA A3 hRef hver hql hql2 hqr hno hrows hq hQL HROWS
            go_wp2_with fail
            refine hC.mono ?_
            rintro e w4 ⟨t, he, ok, _, hev, F4⟩
            obtain ⟨p5, s5, hps⟩ := dform t
            rw [HK.out, hps] at he
            subst he
            have htF : t = .F := (empty_iff (fun c hc x hx => ((HX.out.1 c hc).2 x hx).1) ok (hev HK.out)).2 HNO.out
            have hEm : ∀ w, Calls Try.prog 40 #[.agg #[.int .u32 p5, .string s5]] w fun e w' => e = .returned (.bool true) ∧ Fr nob w w' := fun w => by
              have h := Dg.Empty_any t w
              rw [hps, decide_eq_true htF] at h
              exact h.mono fun e w' ⟨a, b⟩ => ⟨a, (Fr.refl nob w).below b⟩
            have A5 : Fr nob w4 (w4.alloc (.cells #[.int .u32 p5, .string s5] 52)) := (Fr.refl nob w4).alloc _
            have hD5 := Bx.new w4 (.int .u32 p5) (.string s5) 52
            have hB5 := (HB3.out.kept F4 (fun h => h)).kept A5 (fun h => h)
            have HR5 := Lib.hid (belowR A5 (belowR F4 HR3.out))
            have HF5 := Lib.hid ((HF3.out.trans F4 (fun _ _ h => h)).trans A5 (fun _ _ h => h))
            have x0 := hB5.c0
            have x1 := hB5.c1
            have y0 := hD5.c0
            have y1 := hD5.c1
            have HB5 := Lib.hid hB5
            have HD5 := Lib.hid hD5
            have HEM := Lib.hid hEm
            clear hC F4 hps hev htF hEm A5 hD5 hB5 HB3 HF3 HR3 ok
            go_wp2_with fail
            generalize w4.alloc (.cells #[.int .u32 p5, .string s5] 52) = w5 at *
            first
            | (go_region_with (go_at_call 40; (with_reducible refine (HEM.out _).mono ?_); rintro e w6 ⟨rfl, F6⟩; have x0' := F6.cell x0 (fun h => h); have x1' := F6.cell x1 (fun h => h); have y0' := F6.cell y0 (fun h => h); have y1' := F6.cell y1 (fun h => h)))
            | fail
            all_goals (
              have HF6 := Lib.hid ((HF5.out.drew).trans F6 (fun _ _ h => h))
              have hB6 := HB5.out.kept (((Fr.refl nob w5).drew).trans F6 (fun _ _ h => h)) (fun h => h)
              have z2 := hB6.c2
              have HD6 := Lib.hid (HD5.out.kept (((Fr.refl nob w5).drew).trans F6 (fun _ _ h => h)) (fun h => h))
              have hV := verify_any l qq (N : Int) _ _ w6 HW.out.1 ⟨Nat.le_trans HQ.out.2.1 (by decide), fun r hr => Nat.le_trans (HQ.out.2.2 r hr) (by decide)⟩ HQ.out.2.1 (belowR HF6.out HV.out) (belowR (((Fr.refl nob w5).drew).trans F6 (fun _ _ h => h)) HR5.out)
              rw [HQ.out.1] at hV
              clear F6 x0 x1 y0 y1 x1' y0' y1' HB5 HD5 HF5 hB6 HR5
              go_wp2_with fail
              refine hV.mono ?_
              rintro e w7 ⟨rfl, F7⟩
              have HF7 := Lib.hid (HF6.out.trans F7 (fun _ _ h => h))
              have HD7 := Lib.hid (HD6.out.kept F7 (fun h => h))
              have hV2 := verify_any l p (N : Int) _ _ w7 HW.out.1 HW.out.2 (Nat.le_trans HX.out.2 (by decide)) (belowR HF7.out HV.out) (belowR HF7.out HP.out)
              obtain ⟨k1, hk1⟩ : ∃ k1, (verP (N : Int) l p).1 = k1 := ⟨_, rfl⟩
              obtain ⟨k2, hk2⟩ : ∃ k2, (verP (N : Int) l p).2 = k2 := ⟨_, rfl⟩
              rw [hk1, hk2] at hV2
              clear hV F7 HF6 HD6 x0' z2 hk1 hk2
              go_wp2_with fail
              refine hV2.mono ?_
              rintro e w8 ⟨rfl, F8⟩
              have HF8 := Lib.hid (HF7.out.trans F8 (fun _ _ h => h))
              have hD8 := HD7.out.kept F8 (fun h => h)
              clear hV2 F8 HF7 HD7
              by_cases e1 : k1 = -1
              · subst e1
                have y0 := hD8.c0
                have y1 := hD8.c1
                clear hD8
                go_wp2_with fail
                refine (HEM.out _).mono ?_
                rintro e w9 ⟨rfl, F9⟩
                have HF9 := Lib.hid (HF8.out.trans F9 (fun _ _ h => h))
                clear F9 HF8 y0 y1
                go_wp2_with fail
                refine (hWk.out _).mono ?_
                rintro e w10 ⟨rfl, F10⟩
                have HF10 := Lib.hid (HF9.out.trans F10 (fun _ _ h => h))
                clear F10 HF9
                go_wp2_with fail
                go_ret
                exact ⟨rfl, HF10.out⟩
              · have q7 : (k1 != -1) = true := by simpa using e1
                clear hD8 e1
                go_wp2_with fail
                refine (hWk.out _).mono ?_
                rintro e w10 ⟨rfl, F10⟩
                have HF10 := Lib.hid (HF8.out.trans F10 (fun _ _ h => h))
                clear F10 HF8
                go_wp2_with fail
                go_ret
                exact ⟨rfl, HF10.out⟩)
        · have q1 : (K != 0) = true := by simpa using hk
          subst hform hfform
          clear hwd hwp hv hp hgr hgp hcp hK h12 hk
          generalize l.length = LL at *
          generalize p.length = PL at *
          go_enter Try.func9, Try.ntmps9
          go_wp2_with (first | (go_at_call 23; with_reducible refine hG.mono ?_; rintro e w2 ⟨rfl, rfl⟩) | fail)
          refine hGp.mono ?_
          rintro e w2 ⟨rfl, rfl⟩
          go_wp2_with fail
          refine HCL.out.mono ?_
          rintro e w2 ⟨rfl, rfl⟩
          go_wp2_with fail
          refine (hWk.out _).mono ?_
          rintro e w3 ⟨rfl, F3⟩
          go_wp2_with fail
          go_ret
          exact ⟨rfl, F3⟩
end Go.Proofs.Ytaojojjdfdlgpaa
