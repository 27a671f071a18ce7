import Derived.Test.YtaojojjdfdlgpaaDd
namespace Go.Proofs.Ytaojojjdfdlgpaa
open Go.RowKit Uq

/-! note -/
theorem Fr.notZ {S Z : Nat → Prop} {a b : World} (h : Fr S a b) (h1 : ∀ k, S k → ¬ Z k) : Fr (fun k => ¬ Z k) a b := h.mono fun k _ hk => h1 k hk
theorem nob_notZ {Z : Nat → Prop} {a b : World} (h : Fr nob a b) : Fr (fun k => ¬ Z k) a b := h.mono fun _ _ h => h.elim
def oneR (R : Nat → List Value) (i : Nat) (l : List Value) : Nat → List Value := fun j => if j = i then l else R j
set_option maxRecDepth 100000 in
set_option maxHeartbeats 1000000 in
theorem note_hp (Z : Nat → Prop) (x d : Nat) (sh : Nat → Nat × Nat) (G : Nat → Prop) (cl : Nat → List Int) (R : Nat → List Value) (c : Nat → Value) (l : Int) (p q : Nat) (rv : Value) (w : World) (hrv : ∃ a m k, rv = .slice a m k) (hp : l + 24 = (p : Int)) (hp2 : p < 49) (hq : -l + 24 = (q : Int)) (hq2 : q < 49)
    (hH : Hp w Z x d sh G cl R c) (hx : x < 49 ∨ x = 100) (hc : c p = .bool false) (hcq : c q = .bool false) (hn : (R 147).length ≤ 1000000) :
    Calls Try.prog 88 #[.pointer (some ⟨d, 0, none⟩), .int .i64 l, rv] w fun e w' => e = .returned (.bool true) ∧ ∃ v', Hp w' Z x d sh G cl (oneR R 147 (R 147 ++ [.int .i64 l])) (upd (upd (upd c p (.bool true)) (49 + p) rv) 147 v') ∧ Fr (fun k => ¬ Z k) w w' := by
  have hpl := fun w => place_any l (by omega) w
  have hpq := fun w => place_any (-l) (by omega) w
  rw [hp] at hpl
  rw [hq] at hpq
  rw [← wrap_neg l (by omega)] at hpq
  obtain ⟨ra, rm, rk, rfl⟩ := hrv
  have M1 : Hp w.drew Z x d sh G cl R c := hH.kept ((Fr.refl nob w).drew) (fun _ _ h => h.elim)
  have c0 : w.drew.cell? ⟨d, p, none⟩ = some (.bool false) := by rw [← hc]; exact (M1.mem p (by omega)).1
  have q1 : (0 : Int) ≤ (p : Int) := by omega
  have q2 : (p : Int) < 49 := by omega
  have q3 : (0 : Int) ≤ (q : Int) := by omega
  have q4 : (q : Int) < 49 := by omega
  have HM1 := Lib.hid M1
  have HF1 := Lib.hid (nob_notZ (Z := Z) ((Fr.refl nob w).drew))
  have hzd := hH.zd
  clear hH M1 hp hq
  go_enter Try.func88, Try.ntmps88
  go_wp2_with fail
  go_region_with (go_at_call 57; (with_reducible refine (hpl _).mono ?_); rintro e w' ⟨rfl, rfl⟩)
  clear c0
  generalize w.drew = w1 at *
  have M2 : Hp w1.drew Z x d sh G cl R c := HM1.out.kept ((Fr.refl nob _).drew) (fun _ _ h => h.elim)
  have c0 : w1.drew.cell? ⟨d, q, none⟩ = some (.bool false) := by rw [← hcq]; exact (M2.mem q (by omega)).1
  have HM2 := Lib.hid M2
  have HF2 := Lib.hid (HF1.out.drew)
  clear M2 HM1 HF1
  go_wp2_with fail
  go_region_with (go_at_call 57; (with_reducible refine (hpq _).mono ?_); rintro e w' ⟨rfl, rfl⟩)
  clear c0
  generalize w1.drew = w2 at *
  have M3 : Hp w2.drew Z x d sh G cl R c := HM2.out.kept ((Fr.refl nob _).drew) (fun _ _ h => h.elim)
  have c0 : w2.drew.cell? ⟨d, p, none⟩ = some (.bool false) := by rw [← hc]; exact (M3.mem p (by omega)).1
  have f0 : w2.drew.frozen? ⟨d, p, none⟩ = false := (M3.mem p (by omega)).2
  have HM3 : Hid (Hp (w2.setCell ⟨d, p, none⟩ (.bool true)).drew Z x d sh G cl R (upd c p (.bool true))) := Lib.hid ((HM2.out.set p (.inl (by omega)) (.bool true)).kept ((Fr.refl nob _).drew) (fun _ _ h => h.elim))
  have HF3 := Lib.hid ((HF2.out.setCell (p := ⟨d, p, none⟩) (fun _ => hzd) (.bool true)).drew)
  clear M3 HM2 HF2
  go_wp2_with fail
  go_region_with (go_at_call 57; (with_reducible refine (hpl _).mono ?_); rintro e w' ⟨rfl, rfl⟩)
  clear c0 f0
  generalize (w2.setCell ⟨d, p, none⟩ (.bool true)).drew = w3 at *
  have M4 : Hp w3.drew Z x d sh G cl R (upd c p (.bool true)) := HM3.out.kept ((Fr.refl nob w3).drew) (fun _ _ h => h.elim)
  obtain ⟨c4, f4⟩ := M4.mem (49 + p) (by omega)
  have HM4 := Lib.hid ((HM3.out.set (49 + p) (.inl (by omega)) (.slice ra rm rk)).kept ((Fr.refl nob _).drew) (fun _ _ h => h.elim))
  have HF4 := Lib.hid ((HF3.out.setCell (p := ⟨d, 49 + p, none⟩) (fun _ => hzd) (.slice ra rm rk)).drew)
  clear M4 HM3 HF3
  go_wp2_with fail
  go_region_with (go_at_call 57; (with_reducible refine (hpl _).mono ?_); rintro e w' ⟨rfl, rfl⟩)
  clear c4 f4
  generalize (w3.setCell ⟨d, 49 + p, none⟩ (.slice ra rm rk)).drew = w4 at *
  have e7 : upd (upd c p (.bool true)) (49 + p) (.slice ra rm rk) 147 = c 147 := by unfold upd; rw [if_neg (by omega), if_neg (by omega)]
  have c5 := (HM4.out.mem 147 (by omega)).1
  have hown4 := HM4.out.rows 147 (by decide) (by decide) (by omega)
  rw [e7] at c5 hown4
  obtain ⟨i0, hi0, hz0, hz1, hz2⟩ := info_parts info_int
  obtain ⟨n, hnn⟩ : ∃ n, (R 147).length = n := ⟨_, rfl⟩
  obtain ⟨tv, htv⟩ : ∃ tv, c 147 = tv := ⟨_, rfl⟩
  rw [htv] at c5 hown4 e7
  rw [hnn] at hown4 hn
  have HE7 := Lib.hid e7
  have HNN := Lib.hid hnn
  have HOWN4 : Hid (w4.ownsRow 0 3 1 tv n (R 147)) := Lib.hid hown4
  clear htv hown4 e7 hnn
  go_wp2_with (at_builtin; refine wpList_append_own_at _ rfl _ _ 37 rfl 0 3 i0 (.int .i64 0) 1 8 Try.underlying37 hi0 hz0 hz1 hz2 rfl (by decide) tv n (R 147) rfl (HOWN4.out.alloc _) ⟨w4.heap.size, 0, none⟩ 1 1 [.int .i64 l] rfl ?c1 ?c2 ?c3 ?c4 ?c5 ?c6 ?_)
  case c1 => rfl
  case c2 => exact cell_one_new _ _ _
  case c3 => intro u hu; simp at hu; subst hu; rfl
  case c4 => unfold maxLen; omega
  case c5 => omega
  case c6 => omega
  intro v' w5 own5 gr5 _ hat
  have A4 : Fr nob w4 (w4.alloc (.cells #[.int .i64 l] 3)) := (Fr.refl nob w4).alloc _
  have hbnd : tv.ownBlock = (upd (upd c p (.bool true)) (49 + p) (.slice ra rm rk) 147).ownBlock := by rw [HE7.out]
  have G5 : Fr (fun k => tv.ownBlock = some k) (w4.alloc (.cells #[.int .i64 l] 3)) w5 := (Fr.refl (fun k => tv.ownBlock = some k) _).grown gr5 (fun k hk _ => hk)
  have G45 := (A4.mono (T := fun k => tv.ownBlock = some k) (fun _ _ h => h.elim)).trans G5 (fun _ _ h => h)
  have hM4 := HM4.out
  have hown := hM4.own 147 (by decide) (by decide) (by omega)
  obtain ⟨c6, f6⟩ := (hM4.mem.kept G45 (fun e => (hown d (hbnd ▸ e)).1 rfl)) 147 (by omega)
  obtain ⟨g', cap', hv'⟩ : ∃ g' cap', v' = .slice (some ⟨g', 0, none⟩) (n + 1) cap' := by
    rcases own5.2 with ⟨rfl, h0⟩ | ⟨g', cap', cur, rfl, h1, h2, _⟩
    · simp at h0
    · exact ⟨g', cap', rfl⟩
  subst hv'
  have hR := hM4.row (i := 147) (by decide) (by decide) (by omega) (w5 := w5) (v' := .slice (some ⟨g', 0, none⟩) (n + 1) cap') (new := R 147 ++ [.int .i64 l]) (by rw [← hbnd]; exact G45) (by rw [List.length_append, HNN.out]; exact own5) (by
    rw [← hbnd]
    rcases hat with h | h
    · exact .inl h
    · refine .inr fun b hb => ?_
      rw [h] at hb
      have := Option.some.inj hb
      omega)
  have HR := Lib.hid hR
  have HF6 := Lib.hid ((HF4.out.trans G45 (fun k _ e => (hown k (hbnd ▸ e)).2.1)).setCell (p := ⟨d, 147, none⟩) (fun _ => hzd) (.slice (some ⟨g', 0, none⟩) (n + 1) cap'))
  clear own5 gr5 hat A4 G5 G45 hM4 hown hR hbnd HM4 HF4 c5
  go_wp2_with fail
  go_ret
  exact ⟨rfl, _, HR.out, HF6.out⟩
set_option maxRecDepth 100000 in
theorem note_no (d : Nat) (c : Nat → Value) (l : Int) (p q : Nat) (rv : Value) (w : World) (hrv : ∃ a m k, rv = .slice a m k) (hp : l + 24 = (p : Int)) (hp2 : p < 49) (hq : -l + 24 = (q : Int)) (hq2 : q < 49) (hM : Mem w d c) (hc : c p = .bool false) (hcq : c q = .bool true) :
    Calls Try.prog 88 #[.pointer (some ⟨d, 0, none⟩), .int .i64 l, rv] w fun e w' => e = .returned (.bool false) ∧ ∃ w1, Fr nob w w1 ∧ w' = w1.setCell ⟨d, 150, none⟩ rv := by
  have hpl := fun w => place_any l (by omega) w
  have hpq := fun w => place_any (-l) (by omega) w
  rw [hp] at hpl
  rw [hq] at hpq
  rw [← wrap_neg l (by omega)] at hpq
  obtain ⟨ra, rm, rk, rfl⟩ := hrv
  have M1 : Mem w.drew d c := hM.kept ((Fr.refl nob w).drew) (fun h => h)
  have c0 : w.drew.cell? ⟨d, p, none⟩ = some (.bool false) := by rw [← hc]; exact (M1 p (by omega)).1
  have q1 : (0 : Int) ≤ (p : Int) := by omega
  have q2 : (p : Int) < 49 := by omega
  have q3 : (0 : Int) ≤ (q : Int) := by omega
  have q4 : (q : Int) < 49 := by omega
  have HM1 := Lib.hid M1
  have HF1 := Lib.hid ((Fr.refl nob w).drew)
  clear hM M1 hp hq
  go_enter Try.func88, Try.ntmps88
  go_wp2_with fail
  go_region_with (go_at_call 57; (with_reducible refine (hpl _).mono ?_); rintro e w' ⟨rfl, rfl⟩)
  clear c0
  generalize w.drew = w1 at *
  have M2 : Mem w1.drew d c := HM1.out.kept ((Fr.refl nob _).drew) (fun h => h)
  have c0 : w1.drew.cell? ⟨d, q, none⟩ = some (.bool true) := by rw [← hcq]; exact (M2 q (by omega)).1
  have HM2 := Lib.hid M2
  have HF2 := Lib.hid (HF1.out.drew)
  clear M2 HM1 HF1
  go_wp2_with fail
  go_region_with (go_at_call 57; (with_reducible refine (hpq _).mono ?_); rintro e w' ⟨rfl, rfl⟩)
  clear c0
  generalize w1.drew = w2 at *
  obtain ⟨c5, f5⟩ := HM2.out 150 (by omega)
  go_wp2_with fail
  go_ret
  exact ⟨rfl, w2, HF2.out, rfl⟩
theorem refV_slice (sh : Nat → Nat × Nat) (r : Option Nat) : ∃ a m k, refV sh r = .slice a m k := by
  cases r with
  | none => exact ⟨none, 0, 0, rfl⟩
  | some g => exact ⟨_, _, _, rfl⟩
theorem note_dm (Z : Nat → Prop) (x d : Nat) (sh : Nat → Nat × Nat) (G : Nat → Prop) (s : DS) (c : Nat → Value) (l : Int) (r : Option Nat) (w : World) (hl : Ltr l) (hr : ∀ g, r = some g → G g) (h : Dm w Z x d sh G s c) (hx : x < 49 ∨ x = 100) (hn : s.trail.length ≤ 1000000) :
    Calls Try.prog 88 #[.pointer (some ⟨d, 0, none⟩), .int .i64 l, refV sh r] w fun e w' => e = .returned (.bool (noteP s l r).1) ∧ ∃ c', Dm w' Z x d sh G (noteP s l r).2 c' ∧ c' (98 + x) = c (98 + x) ∧ Fr (fun k => ¬ Z k) w w' := by
  obtain ⟨p, hp, hp2⟩ := ltr_at hl
  obtain ⟨q, hq, hq2⟩ := ltr_at hl.neg
  have hcp := h.sm.at hp hp2
  have hcq := h.sm.at hq hq2
  cases h1 : s.holds l with
  | true =>
    rw [h1] at hcp
    have e : noteP s l r = (true, s) := by unfold noteP; rw [if_pos h1]
    rw [e]
    refine (note_old d c l p (refV sh r) w hp hp2 h.hp.mem hcp).mono fun e w' ⟨he, F⟩ => ⟨he, c, ?_, rfl, nob_notZ F⟩
    exact h.nob F
  | false =>
    rw [h1] at hcp
    cases h2 : s.holds (-l) with
    | true =>
      rw [h2] at hcq
      have e : noteP s l r = (false, { s with conflict := r }) := by unfold noteP; rw [if_neg (by rw [h1]; decide), if_pos h2]
      rw [e]
      refine (note_no d c l p q (refV sh r) w (refV_slice sh r) hp hp2 hq hq2 h.hp.mem hcp hcq).mono fun e w' ⟨he, w1, F, hw⟩ => ?_
      subst hw
      have h3 := (h.nob F).hp.set 150 (.inr (by decide)) (refV sh r)
      have u : ∀ j, j ≠ 150 → upd c 150 (refV sh r) j = c j := fun j e => by unfold upd; rw [if_neg e]
      refine ⟨he, upd c 150 (refV sh r), ⟨h3, ⟨fun i hi => ?_, fun i hi => ?_, ?_, ?_, ?_, ?_, h.sm.wG, h.sm.rG, ?_⟩⟩, u _ (by omega), ?_⟩
      · rw [u i (by omega)]; exact h.sm.hd i hi
      · rw [u _ (by omega)]; exact h.sm.rs i hi
      · rw [u _ (by decide)]; exact h.sm.nx
      · rw [u _ (by decide)]; exact h.sm.kn
      · unfold upd; rw [if_pos rfl]
      · rw [u _ (by decide)]; exact h.sm.bk
      · exact hr
      · exact (nob_notZ F).setCell (p := ⟨d, 150, none⟩) (fun _ => h.hp.zd) _
    | false =>
      rw [h2] at hcq
      have e : noteP s l r = (true, { s with holds := upF s.holds l true, reason := upF s.reason l r, trail := s.trail ++ [l] }) := by unfold noteP; rw [if_neg (by rw [h1]; decide), if_neg (by rw [h2]; decide)]
      rw [e]
      have h147 : rowS sh s 147 = s.trail.map (Value.int .i64) := by unfold rowS; rw [if_pos rfl]
      refine (note_hp Z x d sh G s.cl (rowS sh s) c l p q (refV sh r) w (refV_slice sh r) hp hp2 hq hq2 h.hp hx hcp hcq (by rw [h147, List.length_map]; exact hn)).mono fun e w' ⟨he, v', h3, F⟩ => ?_
      have u : ∀ j, j ≠ p → j ≠ 49 + p → j ≠ 147 → upd (upd (upd c p (.bool true)) (49 + p) (refV sh r)) 147 v' j = c j := fun j e1 e2 e3 => by unfold upd; rw [if_neg e3, if_neg e2, if_neg e1]
      refine ⟨he, _, ⟨h3.congr (fun _ _ => rfl) fun i i1 i2 i3 => ?_, ⟨fun i hi => ?_, fun i hi => ?_, ?_, ?_, ?_, ?_, h.sm.wG, fun i g hg => ?_, h.sm.cG⟩⟩, u _ (by omega) (by omega) (by omega), F⟩
      · unfold oneR
        split
        · rename_i e
          subst e
          rw [h147]
          show rowS sh _ 147 = _
          unfold rowS
          rw [if_pos rfl, List.map_append]
          rfl
        · rename_i e
          unfold rowS
          rw [if_neg e, if_neg e]
      · by_cases e : i = p
        · subst e
          have : upd (upd (upd c i (.bool true)) (49 + i) (refV sh r)) 147 v' i = .bool true := by unfold upd; rw [if_neg (by omega), if_neg (by omega), if_pos rfl]
          rw [this]
          show _ = Value.bool (upF s.holds l true ((i : Int) - 24))
          rw [show ((i : Int) - 24) = l by omega, upF_same]
        · rw [u i e (by omega) (by omega)]
          show _ = Value.bool (upF s.holds l true ((i : Int) - 24))
          rw [upF_other _ _ (by omega)]
          exact h.sm.hd i hi
      · by_cases e : i = p
        · subst e
          have : upd (upd (upd c i (.bool true)) (49 + i) (refV sh r)) 147 v' (49 + i) = refV sh r := by unfold upd; rw [if_neg (by omega), if_pos rfl]
          rw [this]
          show _ = refV sh (upF s.reason l r ((i : Int) - 24))
          rw [show ((i : Int) - 24) = l by omega, upF_same]
        · rw [u _ (by omega) (by omega) (by omega)]
          show _ = refV sh (upF s.reason l r ((i : Int) - 24))
          rw [upF_other _ _ (by omega)]
          exact h.sm.rs i hi
      · rw [u _ (by omega) (by omega) (by decide)]; exact h.sm.nx
      · rw [u _ (by omega) (by omega) (by decide)]; exact h.sm.kn
      · rw [u _ (by omega) (by omega) (by decide)]; exact h.sm.cf
      · rw [u _ (by omega) (by omega) (by decide)]; exact h.sm.bk
      · change upF s.reason l r i = some g at hg
        by_cases e : i = l
        · rw [e, upF_same] at hg; exact hr g hg
        · rw [upF_other _ _ e] at hg; exact h.sm.rG i g hg
end Go.Proofs.Ytaojojjdfdlgpaa
