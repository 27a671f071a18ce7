import Derived.Test.YtaojojjdfdlgpaaDo
namespace Go.Proofs.Ytaojojjdfdlgpaa
open Go.RowKit Uq

/-! propagate, follows -/
theorem Dm.next {w : World} {Z : Nat → Prop} {x d : Nat} {sh : Nat → Nat × Nat} {G : Nat → Prop} {s : DS} {c : Nat → Value} (h : Dm w Z x d sh G s c) (k : Nat) : Dm (w.setCell ⟨d, 148, none⟩ (.int .i64 (k : Int))) Z x d sh G { s with next := k } (upd c 148 (.int .i64 (k : Int))) := by
  have u : ∀ j, j ≠ 148 → upd c 148 (.int .i64 (k : Int)) j = c j := fun j e => by unfold upd; rw [if_neg e]
  refine ⟨h.hp.set 148 (.inr (by decide)) _, ⟨fun i hi => ?_, fun i hi => ?_, ?_, ?_, ?_, ?_, h.sm.wG, h.sm.rG, h.sm.cG⟩⟩
  · rw [u i (by omega)]; exact h.sm.hd i hi
  · rw [u _ (by omega)]; exact h.sm.rs i hi
  · unfold upd; rw [if_pos rfl]
  · rw [u _ (by decide)]; exact h.sm.kn
  · rw [u _ (by decide)]; exact h.sm.cf
  · rw [u _ (by decide)]; exact h.sm.bk
theorem Dm.trail {w : World} {Z : Nat → Prop} {x d : Nat} {sh : Nat → Nat × Nat} {G : Nat → Prop} {s : DS} {c : Nat → Value} (h : Dm w Z x d sh G s c) (hx : x < 49 ∨ x = 100) :
    ∃ a cp, c 147 = .slice a s.trail.length cp ∧ (s.trail ≠ [] → ∃ g, a = some ⟨g, 0, none⟩ ∧ ¬ Z g ∧ ∀ (j : Nat) (y : Int), s.trail[j]? = some y → w.cell? ⟨g, j, none⟩ = some (.int .i64 y)) := by
  have hr := h.hp.rows 147 (by decide) (by decide) (by omega)
  have e : rowS sh s 147 = s.trail.map (Value.int .i64) := by unfold rowS; rw [if_pos rfl]
  rw [e, List.length_map] at hr
  obtain ⟨a, cp, h1, h2⟩ := row_ints hr
  refine ⟨a, cp, h1, fun hne => ?_⟩
  obtain ⟨g, rfl, hg⟩ := h2 hne
  exact ⟨g, rfl, (h.hp.own 147 (by decide) (by decide) (by omega) g (by rw [h1]; rfl)).2.1, hg⟩
set_option maxRecDepth 100000 in
set_option maxHeartbeats 2000000 in
theorem propagate_dm (Z : Nat → Prop) (d : Nat) (sh : Nat → Nat × Nat) (G : Nat → Prop) (s : DS) (c : Nat → Value) (n : Nat) (w : World) (ids : List Nat) (h : Dm w Z 100 d sh G s c) (hM : Mid ids s) (hG : ∀ g ∈ ids, G g) (hids : ids.length ≤ 1000000) (hsh : ∀ g, G g → (sh g).1 ≤ 1000000) (hn : 49 ≤ n + s.next) :
    Calls Try.prog 89 #[.pointer (some ⟨d, 0, none⟩)] w fun e w' => e = .returned (.bool (propP n s).1) ∧ ∃ c', Dm w' Z 100 d sh G (propP n s).2 c' ∧ Fr (fun k => ¬ Z k) w w' := by
  obtain ⟨R, hR⟩ : ∃ R, propP n s = R := ⟨_, rfl⟩
  rw [hR]
  have HD := Lib.hid h
  have HM := Lib.hid hM
  have HR := Lib.hid hR
  have HN := Lib.hid hn
  have HG := Lib.hid hG
  have HSH := Lib.hid hsh
  have HZD := Lib.hid h.hp.zd
  clear h hM hR hn hG hsh
  go_enter Try.func89, Try.ntmps89
  go_wp2_with fail
  go_loopg [2] n (fun m iv wr => ∃ (s' : DS) (c' : Nat → Value), iv = .bool false ∧ Mid ids s' ∧ 49 ≤ m + s'.next ∧ propP m s' = R ∧ Dm wr Z 100 d sh G s' c' ∧ Fr (fun k => ¬ Z k) w wr)
  case atStart => exact ⟨s, c, rfl, HM.out, HN.out, HR.out, HD.out, Fr.refl _ _⟩
  case round =>
    clear HD HM HN HR
    obtain ⟨s', c', rfl, hM, hn, hR, hD, hF⟩ := hrel
    have hl48 := lits_le hM.tra.nodup hM.tra.lits
    have hle := hM.le
    have HM := Lib.hid hM
    have HR := Lib.hid hR
    have HD := Lib.hid hD
    have HF := Lib.hid hF
    obtain ⟨a, cp, h147, htc⟩ := hD.trail (.inr rfl)
    have c8 := (hD.drew.hp.mem 148 (by omega)).1
    have c7 := (hD.drew.hp.mem 147 (by omega)).1
    rw [hD.sm.nx] at c8
    rw [h147] at c7
    have HTC := Lib.hid htc
    obtain ⟨NX, hNX⟩ : ∃ NX, s'.next = NX := ⟨_, rfl⟩
    obtain ⟨TL, hTL⟩ : ∃ TL, s'.trail.length = TL := ⟨_, rfl⟩
    rw [hNX] at c8 hn hle
    rw [hTL] at c7 hl48 hle h147
    have H147 := Lib.hid h147
    have HNX := Lib.hid hNX
    have HTL := Lib.hid hTL
    clear hM hR hD hF htc h147 hNX hTL
    cases gk with
    | zero => omega
    | succ m =>
      rcases Nat.lt_or_ge NX TL with hlt | hge
      · have hk : NX < s'.trail.length := by rw [HTL.out]; exact hlt
        have hkt : s'.trail[NX]? = some s'.trail[NX] := List.getElem?_eq_getElem hk
        have hmem : s'.trail[NX] ∈ s'.trail := List.getElem_mem hk
        generalize s'.trail[NX] = l at hkt hmem
        have hl := HM.out.tra.lits l hmem
        obtain ⟨gt, rfl, hzt, hcells⟩ := HTC.out (fun e => by rw [e] at hmem; simp at hmem)
        have q0 : (NX : Int) < (TL : Int) := by omega
        have q1 : (0 : Int) ≤ (NX : Int) := Int.natCast_nonneg _
        have hce := hcells NX l hkt
        have hR2 : (if (lookP (-l) (s'.watched (-l)) [] { s' with next := s'.next + 1 }).1 = true then propP m (lookP (-l) (s'.watched (-l)) [] { s' with next := s'.next + 1 }).2
            else (false, (lookP (-l) (s'.watched (-l)) [] { s' with next := s'.next + 1 }).2)) = R := by
          have h := HR.out
          rw [propP, HNX.out, hkt] at h
          rw [HNX.out]
          exact h
        have HR2 := Lib.hid hR2
        have HKT := Lib.hid hkt
        have HL := Lib.hid hl
        have HMEM := Lib.hid hmem
        clear hk hkt hmem hR2 hl hcells HTC
        go_wp2_with fail
        go_region
        clear c7 c8
        have hD1 := HD.out.drew
        have hce1 : wr.drew.cell? ⟨gt, NX, none⟩ = some (.int .i64 l) := hce
        have HF1 := Lib.hid (HF.out.drew)
        have HD1 := Lib.hid hD1
        clear hD1 HD HF hce
        generalize wr.drew = w1 at *
        have c8 := (HD1.out.drew.hp.mem 148 (by omega)).1
        have c7 := (HD1.out.drew.hp.mem 147 (by omega)).1
        rw [HD1.out.sm.nx, HNX.out] at c8
        rw [H147.out] at c7
        have hce2 : w1.drew.cell? ⟨gt, NX, none⟩ = some (.int .i64 l) := hce1
        have HD2 := Lib.hid (HD1.out.drew)
        have HF2 := Lib.hid (HF1.out.drew)
        clear HD1 HF1 hce1
        go_wp2_with fail
        go_region
        clear c7 c8 hce2
        generalize w1.drew = w2 at *
        obtain ⟨c9, f9⟩ := HD2.out.hp.mem 148 (by omega)
        rw [HD2.out.sm.nx, HNX.out] at c9
        have hD3 := HD2.out.next (NX + 1)
        rw [show ((NX + 1 : Nat) : Int) = (NX : Int) + 1 by omega] at hD3
        have HD3 := Lib.hid hD3
        have HF3 := Lib.hid (HF2.out.setCell (p := ⟨d, 148, none⟩) (fun _ => HZD.out) (.int .i64 ((NX : Int) + 1)))
        have hLI : LookI ids { s' with next := NX + 1 } (-l) (s'.watched (-l)) [] [] := by
          refine ⟨⟨HM.out.tra.nodup, HM.out.tra.lits, HM.out.tra.cons, HM.out.tra.holds⟩, ?_, by rw [Int.neg_neg]; exact HMEM.out, by simp, fun g _ a b t _ => ⟨fun _ e => by simp at e, fun _ e => by simp at e⟩⟩
          show Wat ids (upF s'.watched (-l) ([] ++ s'.watched (-l))) s'.cl
          rw [List.nil_append, upF_self _ _ _ rfl]
          exact HM.out.wat
        have hC := look_dm Z d sh G { s' with next := NX + 1 } _ (-l) _ ids HD3.out HL.out.neg hLI HG.out hids HSH.out
        have hLA := look_all hLI
        have HLA := Lib.hid hLA
        have hwl := wrap_neg l (by have := HL.out; unfold Ltr at this; omega)
        clear hD3 hLI hLA HD2 HF2
        go_wp2_with fail
        refine hC.mono ?_
        rintro e w4 ⟨rfl, c4, hD4, F4⟩
        have HD4 := Lib.hid hD4
        have HF4 := Lib.hid (HF3.out.trans F4 (fun _ _ h => h))
        clear hwl c9 f9 hC hD4 F4 HD3 HF3
        cases hok : (lookP (-l) (s'.watched (-l)) [] { s' with next := NX + 1 }).1 with
        | true =>
          obtain ⟨l1, l2, l3, _⟩ := HLA.out
          have hnx : (lookP (-l) (s'.watched (-l)) [] { s' with next := NX + 1 }).2.next = NX + 1 := l3.next
          obtain ⟨tt, htt⟩ := l3.trail
          have htl : (lookP (-l) (s'.watched (-l)) [] { s' with next := NX + 1 }).2.trail.length = TL + tt.length := by
            rw [htt, List.length_append]
            show s'.trail.length + _ = _
            rw [HTL.out]
          have hM4 : Mid ids (lookP (-l) (s'.watched (-l)) [] { s' with next := NX + 1 }).2 := ⟨l1, l2, by rw [hnx, htl]; omega⟩
          have hR4 : propP m (lookP (-l) (s'.watched (-l)) [] { s' with next := NX + 1 }).2 = R := by
            have h := HR2.out
            rw [HNX.out, if_pos hok] at h
            exact h
          have HM4 := Lib.hid hM4
          have HR4 := Lib.hid hR4
          have hn4 : 49 ≤ m + (lookP (-l) (s'.watched (-l)) [] { s' with next := NX + 1 }).2.next := by rw [hnx]; omega
          have HN4 := Lib.hid hn4
          clear l1 l2 l3 hnx htt htl hM4 hR4 hn4 hok
          go_wp2_with fail
          go_roundg m
          case measure => omega
          case rel => exact ⟨_, c4, rfl, HM4.out, HN4.out, HR4.out, HD4.out, HF4.out⟩
        | false =>
          have hE := HR2.out
          rw [HNX.out, if_neg (by rw [hok]; decide)] at hE
          have HE := Lib.hid hE
          clear hE hok
          go_wp2_with fail
          go_ret
          rw [← HE.out]
          exact ⟨rfl, c4, HD4.out, HF4.out⟩
      · have q0 : ¬ (NX : Int) < (TL : Int) := by omega
        have hq : s'.trail[NX]? = none := List.getElem?_eq_none (by rw [HTL.out]; exact hge)
        have hE := HR.out
        rw [propP, HNX.out, hq] at hE
        have HE := Lib.hid hE
        have HD1 := Lib.hid (HD.out.drew)
        have HF1 := Lib.hid (HF.out.drew)
        clear hq hE HR HD HF
        go_wp2_with fail
        go_region
        clear c7 c8
        go_wp2_with fail
        go_ret
        rw [← HE.out]
        exact ⟨rfl, c', HD1.out, HF1.out⟩
theorem fol_true {s : DS} {l : Int} {r : Option Nat} (h : (noteP s l r).1 = true) : folP s l r = propP 49 (noteP s l r).2 := if_pos h
theorem fol_false {s : DS} {l : Int} {r : Option Nat} (h : (noteP s l r).1 = false) : folP s l r = (false, (noteP s l r).2) := if_neg (by rw [h]; decide)
set_option maxHeartbeats 2000000 in
/-- note, then propagate -/
theorem follows_dm (Z : Nat → Prop) (d : Nat) (sh : Nat → Nat × Nat) (G : Nat → Prop) (s : DS) (c : Nat → Value) (g : Nat) (x : Int) (w : World) (ids : List Nat) (h : Dm w Z 100 d sh G s c) (hM : Mid ids s) (hg : G g) (hcl : ∃ t, s.cl g = x :: t) (hx : Ltr x) (hG : ∀ g ∈ ids, G g) (hids : ids.length ≤ 1000000) (hsh : ∀ g, G g → (sh g).1 ≤ 1000000) :
    Calls Try.prog 93 #[.pointer (some ⟨d, 0, none⟩), clV sh g] w fun e w' => e = .returned (.bool (folP s x (some g)).1) ∧ ∃ c', Dm w' Z 100 d sh G (folP s x (some g)).2 c' ∧ Fr (fun k => ¬ Z k) w w' := by
  obtain ⟨t, hct⟩ := hcl
  have hcb := (h.hp.cls g hg).1
  rw [hct] at hcb
  have h0 : w.cell? ⟨g, 0, none⟩ = some (.int .i64 x) := hcb.cell 0 x rfl
  obtain ⟨n, cp, hsg⟩ : ∃ n cp, sh g = (n, cp) := ⟨_, _, rfl⟩
  have hcv : clV sh g = .slice (some ⟨g, 0, none⟩) n cp := by unfold clV; rw [hsg]
  have q0 : (0 : Int) < (n : Int) := by have := hcb.len; rw [hsg] at this; simp only [List.length_cons] at this; omega
  have hN := note_dm Z 100 d sh G s c x (some g) w hx (fun z hz => by cases hz; exact hg) h (.inr rfl) (Nat.le_trans (lits_le hM.tra.nodup hM.tra.lits) (by decide))
  rw [show refV sh (some g) = .slice (some ⟨g, 0, none⟩) n cp from hcv] at hN
  rw [hcv]
  have HM := Lib.hid hM
  have HTN := Lib.hid (hM.tra.note hx (some g))
  have HG := Lib.hid hG
  have HSH := Lib.hid hsh
  clear h hM hct hcb hsg hcv hG hsh
  go_enter Try.func93, Try.ntmps93
  go_wp2_with fail
  refine hN.mono ?_
  rintro e w2 ⟨rfl, c2, hD2, _, F2⟩
  have HD2 := Lib.hid hD2
  have HF2 := Lib.hid F2
  clear hN hD2 F2 h0
  cases hok : (noteP s x (some g)).1 with
  | true =>
    have hM2 : Mid ids (noteP s x (some g)).2 := by
      obtain ⟨n1, n2, _, n4, n5, n6, _⟩ := HTN.out
      obtain ⟨_, tt, htt, _⟩ := n2 hok
      exact ⟨n1, by rw [n4, n5]; exact HM.out.wat, by rw [n6, htt, List.length_append]; have := HM.out.le; omega⟩
    have hC := propagate_dm Z d sh G _ c2 49 w2 ids HD2.out hM2 HG.out hids HSH.out (by omega)
    have HE := Lib.hid (fol_true hok)
    clear hM2 hok
    go_wp2_with fail
    refine hC.mono ?_
    rintro e w3 ⟨rfl, c3, hD3, F3⟩
    have HD3 := Lib.hid hD3
    have HF3 := Lib.hid (HF2.out.trans F3 (fun _ _ h => h))
    clear hC hD3 F3
    go_wp2_with fail
    go_ret
    rw [HE.out]
    exact ⟨rfl, c3, HD3.out, HF3.out⟩
  | false =>
    have HE := Lib.hid (fol_false hok)
    clear hok
    go_wp2_with fail
    go_ret
    rw [HE.out]
    exact ⟨rfl, c2, HD2.out, HF2.out⟩
end Go.Proofs.Ytaojojjdfdlgpaa
namespace Go.Proofs.Ytaojojjdfdlgpaa
open Go.RowKit Uq

/-! assume, retreat -/
theorem drop_at3 {α : Type} {l : List α} {k : Nat} {x : α} (h : l[k]? = some x) : l.drop k = x :: l.drop (k + 1) := by
  have hk := (List.getElem?_eq_some_iff.1 h).1
  rw [List.drop_eq_getElem_cons hk]
  congr 1
  exact (List.getElem?_eq_some_iff.1 h).2
theorem ass_step {l : Int} {t : List Int} {s : DS} (h : (folP s l none).1 = true) : assP (l :: t) s = assP t (folP s l none).2 := by rw [assP, if_pos h]
theorem ass_stop {l : Int} {t : List Int} {s : DS} (h : (folP s l none).1 = false) : assP (l :: t) s = (false, (folP s l none).2) := by rw [assP, if_neg (by rw [h]; decide)]
theorem note_mid {ids : List Nat} {s : DS} {x : Int} {r : Option Nat} (hM : Mid ids s) (hx : Ltr x) : Mid ids (noteP s x r).2 := by
  obtain ⟨n1, n2, n3, n4, n5, n6, _⟩ := hM.tra.note hx r
  refine ⟨n1, by rw [n4, n5]; exact hM.wat, ?_⟩
  have hle := hM.le
  cases hok : (noteP s x r).1 with
  | true =>
    obtain ⟨_, tt, htt, _⟩ := n2 hok
    rw [n6, htt, List.length_append]; omega
  | false =>
    rw [n6, (n3 hok).2]; exact hle
set_option maxRecDepth 100000 in
set_option maxHeartbeats 2000000 in
theorem assume_dm (Z : Nat → Prop) (d : Nat) (sh : Nat → Nat × Nat) (G : Nat → Prop) (s : DS) (c : Nat → Value) (F : List Int) (v : Value) (S : Nat → Prop) (w : World) (ids : List Nat) (h : Dm w Z 100 d sh G s c) (hM : Mid ids s) (hv : IntsO w S F v) (hS : ∀ b, S b → Z b) (hF : ∀ x ∈ F, Ltr x) (hFl : F.length ≤ 1000000) (hG : ∀ g ∈ ids, G g) (hids : ids.length ≤ 1000000) (hsh : ∀ g, G g → (sh g).1 ≤ 1000000) :
    Calls Try.prog 56 #[.pointer (some ⟨d, 0, none⟩), v] w fun e w' => e = .returned (.bool (assP F s).1) ∧ ∃ c', Dm w' Z 100 d sh G (assP F s).2 c' ∧ Fr (fun k => ¬ Z k) w w' := by
  obtain ⟨a, cap, rfl⟩ := hv.form
  obtain ⟨R, hR⟩ : ∃ R, assP F s = R := ⟨_, rfl⟩
  obtain ⟨N, hN⟩ : ∃ N, F.length = N := ⟨_, rfl⟩
  rw [hR]
  rw [hN] at hFl hv ⊢
  have HD := Lib.hid h
  have HM := Lib.hid hM
  have HR := Lib.hid hR
  have HN := Lib.hid hN
  have HV := Lib.hid hv
  have HS := Lib.hid hS
  have HF0 := Lib.hid hF
  have HG := Lib.hid hG
  have HSH := Lib.hid hsh
  clear h hM hR hN hv hS hF hG hsh
  go_enter Try.func56, Try.ntmps56
  go_wp2_with fail
  go_loopg [9] N (fun m iv wr => ∃ (k : Nat) (s' : DS) (c' : Nat → Value), k + m = N ∧ iv = .int .i64 (k : Int) ∧ Mid ids s' ∧ assP (F.drop k) s' = R ∧ Dm wr Z 100 d sh G s' c' ∧ Fr (fun k => ¬ Z k) w wr)
  case atStart => exact ⟨0, s, c, by omega, rfl, HM.out, by rw [List.drop_zero]; exact HR.out, HD.out, Fr.refl _ _⟩
  case round =>
    clear HD HM HR
    obtain ⟨k, s', c', hkm, rfl, hM, hR, hD, hF⟩ := hrel
    have HM := Lib.hid hM
    have HR := Lib.hid hR
    have HD := Lib.hid hD
    have HF := Lib.hid hF
    have q4 : (0 : Int) ≤ (k : Int) := Int.natCast_nonneg _
    clear hM hR hD hF
    cases gk with
    | zero =>
      obtain rfl : k = N := by omega
      have hE := HR.out
      rw [List.drop_eq_nil_of_le (by rw [HN.out]; exact Nat.le_refl _), assP] at hE
      have HE := Lib.hid hE
      have c1 := (HD.out.hp.mem 151 (by decide)).1
      rw [HD.out.sm.bk] at c1
      clear hE
      go_wp2_with fail
      go_ret
      rw [← HE.out]
      exact ⟨rfl, c', HD.out, HF.out⟩
    | succ m =>
      have q3 : (k : Int) < (N : Int) := by omega
      have hk : k < F.length := by rw [HN.out]; omega
      have hkt : F[k]? = some F[k] := List.getElem?_eq_getElem hk
      have hmem : F[k] ∈ F := List.getElem_mem hk
      generalize F[k] = x at hkt hmem
      obtain ⟨b, ob, rfl, hSb, hcl0⟩ := HV.out.at hkt
      have hcl := HF.out.cell hcl0 (fun e => e (HS.out b hSb))
      have hx := HF0.out x hmem
      have hNt := note_dm Z 100 d sh G s' c' x none wr hx (fun z hz => by cases hz) HD.out (.inr rfl) (Nat.le_trans (lits_le HM.out.tra.nodup HM.out.tra.lits) (by decide))
      have hR2 := HR.out
      rw [drop_at3 hkt] at hR2
      have HR2 := Lib.hid hR2
      have HM2 := Lib.hid (note_mid (r := none) HM.out hx)
      clear hk hkt hmem hcl0 hR2 hx
      go_wp2_with fail
      refine hNt.mono ?_
      rintro e w2 ⟨rfl, c2, hD2, _, F2⟩
      have HD2 := Lib.hid hD2
      have HF2 := Lib.hid (HF.out.trans F2 (fun _ _ h => h))
      clear hNt hD2 F2 hcl HD HF
      cases hok : (noteP s' x none).1 with
      | true =>
        have hP := propagate_dm Z d sh G _ c2 49 w2 ids HD2.out HM2.out HG.out hids HSH.out (by omega)
        have HFO := Lib.hid (fol_true hok)
        have HPA := Lib.hid (prop_all (ids := ids) (n := 49) HM2.out (by omega)).1
        clear hok
        go_wp2_with fail
        refine hP.mono ?_
        rintro e w3 ⟨rfl, c3, hD3, F3⟩
        have HD3 := Lib.hid hD3
        have HF3 := Lib.hid (HF2.out.trans F3 (fun _ _ h => h))
        clear hP hD3 F3 HD2 HF2
        cases hok2 : (propP 49 (noteP s' x none).2).1 with
        | true =>
          have hR3 := HR2.out
          rw [ass_step (by rw [HFO.out]; exact hok2), HFO.out] at hR3
          have HR3 := Lib.hid hR3
          clear hR3 hok2
          go_wp2_with fail
          go_roundg m
          case measure => omega
          case rel => exact ⟨k + 1, _, c3, by omega, by go_num, HPA.out, HR3.out, HD3.out, HF3.out⟩
        | false =>
          have hR3 := HR2.out
          rw [ass_stop (by rw [HFO.out]; exact hok2), HFO.out] at hR3
          have HR3 := Lib.hid hR3
          clear hR3 hok2
          go_wp2_with fail
          go_ret
          rw [← HR3.out]
          exact ⟨rfl, c3, HD3.out, HF3.out⟩
      | false =>
        have hR3 := HR2.out
        rw [ass_stop (by rw [fol_false hok]), fol_false hok] at hR3
        have HR3 := Lib.hid hR3
        clear hR3 hok
        go_wp2_with fail
        go_ret
        rw [← HR3.out]
        exact ⟨rfl, c2, HD2.out, HF2.out⟩
end Go.Proofs.Ytaojojjdfdlgpaa
