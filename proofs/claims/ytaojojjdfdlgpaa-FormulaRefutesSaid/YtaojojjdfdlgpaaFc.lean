import Derived.Test.YtaojojjdfdlgpaaDw
namespace Go.Proofs.Ytaojojjdfdlgpaa
open Go.RowKit Uq

/-! retreat -/
def offF (f : Int → Bool) (l : Int) : Int → Bool := fun z => f z && !(z == l)
def offS (s : DS) (D : List Int) : DS := { s with holds := fun z => s.holds z && !D.contains z }
theorem off_step (s : DS) {D : List Int} {k : Nat} {l : Int} (h : D[k]? = some l) : ({ offS s (D.take k) with holds := offF (offS s (D.take k)).holds l } : DS) = offS s (D.take (k + 1)) := by
  have e : D.take (k + 1) = D.take k ++ [l] := by rw [List.take_add_one, h]; rfl
  refine congrArg (fun f => ({ s with holds := f } : DS)) (funext fun z => ?_)
  rw [e]
  show (s.holds z && !(D.take k).contains z && !(z == l)) = (s.holds z && !(D.take k ++ [l]).contains z)
  have e2 : (D.take k ++ [l]).contains z = ((D.take k).contains z || (z == l)) := by
    simp only [List.contains_eq_mem, List.mem_append, List.mem_singleton, Bool.decide_or]
    rfl
  rw [e2, Bool.not_or, Bool.and_assoc]
theorem Dm.off {w : World} {Z : Nat → Prop} {x d : Nat} {sh : Nat → Nat × Nat} {G : Nat → Prop} {s : DS} {c : Nat → Value} (h : Dm w Z x d sh G s c) {l : Int} {p : Nat} (hp : l + 24 = (p : Int)) (hp2 : p < 49) : Dm (w.setCell ⟨d, p, none⟩ (.bool false)) Z x d sh G { s with holds := offF s.holds l } (upd c p (.bool false)) := by
  have u : ∀ j, j ≠ p → upd c p (.bool false) j = c j := fun j e => by unfold upd; rw [if_neg e]
  refine ⟨h.hp.set p (.inl (by omega)) _, ⟨fun i hi => ?_, fun i hi => ?_, ?_, ?_, ?_, ?_, h.sm.wG, h.sm.rG, h.sm.cG⟩⟩
  · by_cases e : i = p
    · subst e
      unfold upd offF
      rw [if_pos rfl, show ((i : Int) - 24) = l by omega]
      simp
    · rw [u i e, h.sm.hd i hi]
      show Value.bool (s.holds ((i : Int) - 24)) = Value.bool (s.holds ((i : Int) - 24) && !(((i : Int) - 24) == l))
      rw [show (((i : Int) - 24) == l) = false by simp; omega]
      simp
  · rw [u _ (by omega)]; exact h.sm.rs i hi
  · rw [u _ (by omega)]; exact h.sm.nx
  · rw [u _ (by omega)]; exact h.sm.kn
  · rw [u _ (by omega)]; exact h.sm.cf
  · rw [u _ (by omega)]; exact h.sm.bk
theorem row_take {w : World} {T : TypeId} {v : Value} {ys : List Value} (h : w.ownsRow 0 T 1 v ys.length ys) {n : Nat} (hn : n ≤ ys.length) :
    (v = .slice none 0 0 ∧ ys = []) ∨ ∃ g cp, v = .slice (some ⟨g, 0, none⟩) ys.length cp ∧ ys.length ≤ cp ∧ w.ownsRow 0 T 1 (.slice (some ⟨g, 0, none⟩) n cp) (ys.take n).length (ys.take n) := by
  rcases h.2 with ⟨h1, h2⟩ | ⟨g, cap, cur, h1, h2, h3, h4, h5, h6, h7⟩
  · exact .inl ⟨h1, List.eq_nil_of_length_eq_zero h2⟩
  · have hl : (ys.take n).length = n := by rw [List.length_take]; omega
    refine .inr ⟨g, cap, h1, h4, ?_, .inr ⟨g, cap, cur, by rw [hl], h2, h3, by rw [hl]; omega, h5, h6, ?_⟩⟩
    · rw [Nat.mul_one]
    · rw [hl, Nat.mul_one]
      rw [Nat.mul_one] at h7
      conv => rhs; rw [← h7]
      rw [List.take_take, Nat.min_eq_left hn]
theorem Dm.short {w : World} {Z : Nat → Prop} {d : Nat} {sh : Nat → Nat × Nat} {G : Nat → Prop} {s : DS} {c : Nat → Value} (h : Dm w Z 100 d sh G s c) {n : Nat} {v' : Value} (hv : v'.ownBlock = (c 147).ownBlock) (ho : w.ownsRow 0 3 1 v' (s.trail.take n).length ((s.trail.take n).map (Value.int .i64))) :
    Dm (w.setCell ⟨d, 147, none⟩ v') Z 100 d sh G { s with trail := s.trail.take n } (upd c 147 v') := by
  have u : ∀ j, j ≠ 147 → upd c 147 v' j = c j := fun j e => by unfold upd; rw [if_neg e]
  have hr := h.hp.row (i := 147) (by decide) (by decide) (by decide) (w5 := w) (v' := v') (new := (s.trail.take n).map (Value.int .i64)) (Fr.refl _ _) (by rw [List.length_map]; exact ho) (.inl hv)
  refine ⟨hr.congr (fun _ _ => rfl) (fun i _ _ _ => ?_), ⟨fun i hi => ?_, fun i hi => ?_, ?_, ?_, ?_, ?_, h.sm.wG, h.sm.rG, h.sm.cG⟩⟩
  · by_cases e : i = 147
    · subst e; unfold rowS; rw [if_pos rfl, if_pos rfl]
    · unfold rowS; rw [if_neg e, if_neg e, if_neg e]
  · rw [u i (by omega)]; exact h.sm.hd i hi
  · rw [u _ (by omega)]; exact h.sm.rs i hi
  · rw [u _ (by omega)]; exact h.sm.nx
  · rw [u _ (by omega)]; exact h.sm.kn
  · rw [u _ (by omega)]; exact h.sm.cf
  · rw [u _ (by omega)]; exact h.sm.bk
set_option maxRecDepth 100000 in
set_option maxHeartbeats 4000000 in
theorem retreat_dm (Z : Nat → Prop) (d : Nat) (sh : Nat → Nat × Nat) (G : Nat → Prop) (s : DS) (c : Nat → Value) (n : Nat) (w : World) (h : Dm w Z 100 d sh G s c) (hn : n ≤ s.trail.length) (hT : Tra s) :
    Calls Try.prog 90 #[.pointer (some ⟨d, 0, none⟩), .int .i64 (n : Int)] w fun e w' => e = .returned (.tuple #[]) ∧ ∃ c', Dm w' Z 100 d sh G (retP s n) c' ∧ Fr (fun k => ¬ Z k) w w' := by
  have hl48 := lits_le hT.nodup hT.lits
  have hr := h.hp.rows 147 (by decide) (by decide) (by omega)
  have e : rowS sh s 147 = s.trail.map (Value.int .i64) := by unfold rowS; rw [if_pos rfl]
  rw [e] at hr
  have hLT := hT.lits
  have HLT := Lib.hid hLT
  have HD := Lib.hid h
  have c7 := (h.hp.mem 147 (by omega)).1
  obtain ⟨TL, hTL⟩ : ∃ TL, s.trail.length = TL := ⟨_, rfl⟩
  have hZD := h.hp.zd
  rcases row_take hr (n := n) (by rw [List.length_map]; exact hn) with ⟨h1, h2⟩ | ⟨g, cp, h1, h2, h3⟩
  · have ht : s.trail = [] := by simpa using h2
    obtain rfl : n = 0 := by rw [ht] at hn; simpa using hn
    have hS := h.short (n := 0) (v' := .slice none 0 0) (by rw [h1]) (World.ownsRow_nil _ _ _ _)
    obtain ⟨_, f7⟩ := h.hp.mem 147 (by omega)
    obtain ⟨c8, f8⟩ := hS.hp.mem 148 (by omega)
    have hN := hS.next 0
    have e2 : ({ ({ s with trail := s.trail.take 0 } : DS) with next := 0 } : DS) = retP s 0 := by
      refine congrArg (fun f => ({ s with holds := f, trail := s.trail.take 0, next := 0 } : DS)) (funext fun z => ?_)
      rw [ht]
      simp
    rw [e2] at hN
    have HN := Lib.hid hN
    have HF2 := Lib.hid ((((Fr.refl (fun k => ¬ Z k) w).setCell (p := ⟨d, 147, none⟩) (fun _ => hZD) (.slice none 0 0))).setCell (p := ⟨d, 148, none⟩) (fun _ => hZD) (.int .i64 ((0 : Nat) : Int)))
    rw [h1] at c7
    clear h hr e hT hLT hTL h1 h2 hS hN e2 ht HD HLT hl48 hn
    go_enter Try.func90, Try.ntmps90
    go_wp2_with fail
    go_loopg [13] 0 (fun m iv wr => m = 0 ∧ iv = .int .i64 0 ∧ w = wr)
    case atStart => exact ⟨rfl, rfl, rfl⟩
    case round =>
      obtain ⟨rfl, rfl, rfl⟩ := hrel
      go_wp2_with fail
      refine bodyPost_end (results_none rfl _ _ _) rfl ⟨rfl, _, HN.out, HF2.out⟩
  · rw [List.length_map, hTL] at h1 h2
    rw [hTL] at hn hl48
    rw [h1] at c7
    have q0 : (0 : Int) ≤ (n : Int) := Int.natCast_nonneg _
    have q1 : (n : Int) ≤ (TL : Int) := by omega
    have q2 : (TL : Int) ≤ (cp : Int) := by omega
    have H1 := Lib.hid h1
    have H3 := Lib.hid h3
    have HTL := Lib.hid hTL
    clear h hr e hT hLT hTL h1 h3
    rcases Classical.em (n = cp) with hcn | hcn
    · subst hcn
      go_enter Try.func90, Try.ntmps90
      go_wp2_with fail
      go_loopg [13] (TL - n) (fun m iv wr => ∃ (k : Nat) (c' : Nat → Value), k + m = TL - n ∧ iv = .int .i64 (k : Int) ∧ Dm wr Z 100 d sh G (offS s ((s.trail.drop n).take k)) c' ∧ c' 147 = .slice (some ⟨g, 0, none⟩) TL n ∧ Fr (fun k => ¬ Z k) w wr)
      case atStart => exact ⟨0, c, by omega, rfl, by
        rw [List.take_zero]
        have e : offS s [] = s := by
          unfold offS
          refine (congrArg (fun f => ({ s with holds := f } : DS)) (funext fun z => ?_)).trans (rfl : ({ s with holds := s.holds } : DS) = s)
          simp
        rw [e]; exact HD.out, H1.out, Fr.refl _ _⟩
      case round =>
        clear HD H1 c7
        obtain ⟨k, c', hkm, rfl, hD, h147, hF⟩ := hrel
        have q3 : (0 : Int) ≤ (k : Int) := Int.natCast_nonneg _
        have HD := Lib.hid hD
        have H147 := Lib.hid h147
        have HF := Lib.hid hF
        clear hD h147 hF
        cases gk with
        | zero =>
          have q4 : ¬ (k : Int) < ((TL - n : Nat) : Int) := by omega
          have hD := HD.out
          rw [show (s.trail.drop n).take k = s.trail.drop n from List.take_of_length_le (by rw [List.length_drop, HTL.out]; omega)] at hD
          obtain ⟨c7, f7⟩ := hD.hp.mem 147 (by omega)
          rw [H147.out] at c7
          have hr := hD.hp.rows 147 (by decide) (by decide) (by omega)
          have e : rowS sh (offS s (s.trail.drop n)) 147 = s.trail.map (Value.int .i64) := by unfold rowS; rw [if_pos rfl]; rfl
          rw [e, H147.out] at hr
          have ho : wr.ownsRow 0 3 1 (.slice (some ⟨g, 0, none⟩) n n) (s.trail.take n).length ((s.trail.take n).map (Value.int .i64)) := by
            rcases row_take hr (n := n) (by rw [List.length_map, HTL.out]; exact hn) with ⟨h1, _⟩ | ⟨g', cp', h1, _, h3⟩
            · cases h1
            · cases h1
              rw [← List.map_take, List.length_map] at h3
              exact h3
          have hS := hD.short (n := n) (v' := .slice (some ⟨g, 0, none⟩) n n) (by rw [H147.out]; rfl) ho
          obtain ⟨c8, f8⟩ := hS.hp.mem 148 (by omega)
          have HE := Lib.hid (hS.next n)
          have HF2 := Lib.hid ((HF.out.setCell (p := ⟨d, 147, none⟩) (fun _ => hZD) (.slice (some ⟨g, 0, none⟩) n n)).setCell (p := ⟨d, 148, none⟩) (fun _ => hZD) (.int .i64 (n : Int)))
          clear hD hr e ho hS HD HF
          go_wp2_with fail
          refine bodyPost_end (results_none rfl _ _ _) rfl ⟨rfl, ⟨_, HE.out⟩, HF2.out⟩
        | succ m =>
          omega
    · have hcn2 : ¬ cp = n := fun e => hcn e.symm
      clear hcn
      go_enter Try.func90, Try.ntmps90
      go_wp2_with fail
      go_loopg [13] (TL - n) (fun m iv wr => ∃ (k : Nat) (c' : Nat → Value), k + m = TL - n ∧ iv = .int .i64 (k : Int) ∧ Dm wr Z 100 d sh G (offS s ((s.trail.drop n).take k)) c' ∧ c' 147 = .slice (some ⟨g, 0, none⟩) TL cp ∧ Fr (fun k => ¬ Z k) w wr)
      case atStart => exact ⟨0, c, by omega, rfl, by
        rw [List.take_zero]
        have e : offS s [] = s := by
          unfold offS
          refine (congrArg (fun f => ({ s with holds := f } : DS)) (funext fun z => ?_)).trans (rfl : ({ s with holds := s.holds } : DS) = s)
          simp
        rw [e]; exact HD.out, H1.out, Fr.refl _ _⟩
      case round =>
        clear HD H1 c7
        obtain ⟨k, c', hkm, rfl, hD, h147, hF⟩ := hrel
        have q3 : (0 : Int) ≤ (k : Int) := Int.natCast_nonneg _
        have HD := Lib.hid hD
        have H147 := Lib.hid h147
        have HF := Lib.hid hF
        clear hD h147 hF
        cases gk with
        | zero =>
          have q4 : ¬ (k : Int) < ((TL - n : Nat) : Int) := by omega
          have hD := HD.out
          rw [show (s.trail.drop n).take k = s.trail.drop n from List.take_of_length_le (by rw [List.length_drop, HTL.out]; omega)] at hD
          obtain ⟨c7, f7⟩ := hD.hp.mem 147 (by omega)
          rw [H147.out] at c7
          have hr := hD.hp.rows 147 (by decide) (by decide) (by omega)
          have e : rowS sh (offS s (s.trail.drop n)) 147 = s.trail.map (Value.int .i64) := by unfold rowS; rw [if_pos rfl]; rfl
          rw [e, H147.out] at hr
          have ho : wr.ownsRow 0 3 1 (.slice (some ⟨g, 0, none⟩) n cp) (s.trail.take n).length ((s.trail.take n).map (Value.int .i64)) := by
            rcases row_take hr (n := n) (by rw [List.length_map, HTL.out]; exact hn) with ⟨h1, _⟩ | ⟨g', cp', h1, _, h3⟩
            · cases h1
            · cases h1
              rw [← List.map_take, List.length_map] at h3
              exact h3
          have hS := hD.short (n := n) (v' := .slice (some ⟨g, 0, none⟩) n cp) (by rw [H147.out]; rfl) ho
          obtain ⟨c8, f8⟩ := hS.hp.mem 148 (by omega)
          have HE := Lib.hid (hS.next n)
          have HF2 := Lib.hid ((HF.out.setCell (p := ⟨d, 147, none⟩) (fun _ => hZD) (.slice (some ⟨g, 0, none⟩) n cp)).setCell (p := ⟨d, 148, none⟩) (fun _ => hZD) (.int .i64 (n : Int)))
          clear hD hr e ho hS HD HF
          go_wp2_with fail
          refine bodyPost_end (results_none rfl _ _ _) rfl ⟨rfl, ⟨_, HE.out⟩, HF2.out⟩
        | succ m =>
          have q4 : (k : Int) < ((TL - n : Nat) : Int) := by omega
          have hk : n + k < s.trail.length := by rw [HTL.out]; omega
          have hkt : s.trail[n + k]? = some s.trail[n + k] := List.getElem?_eq_getElem hk
          have hmem : s.trail[n + k] ∈ s.trail := List.getElem_mem hk
          generalize s.trail[n + k] = y at hkt hmem
          have hy := HLT.out y hmem
          obtain ⟨py, hpy, hpy2⟩ := ltr_at hy
          have hpl := fun w => place_any y (by unfold Ltr at hy; omega) w
          rw [hpy] at hpl
          have c0 : wr.cell? ⟨g, n + k, none⟩ = some (.int .i64 y) := by
            obtain ⟨a2, cp2, t1, t2⟩ := HD.out.trail (.inr rfl)
            rw [H147.out] at t1
            cases t1
            obtain ⟨g2, t3, _, t4⟩ := t2 (show s.trail ≠ [] from fun e => by rw [e] at hmem; simp at hmem)
            cases t3
            exact t4 (n + k) y hkt
          have q5 : (0 : Int) ≤ (py : Int) := by omega
          have q6 : (py : Int) < 49 := by omega
          have hdk : (s.trail.drop n)[k]? = some y := by rw [List.getElem?_drop]; exact hkt
          have hO := HD.out.off hpy hpy2
          rw [off_step s hdk] at hO
          have M3 := HD.out.drew
          obtain ⟨c1, f1⟩ := M3.hp.mem py (by omega)
          have HM3 := Lib.hid hO.drew
          have H147' : Hid (upd c' py (.bool false) 147 = .slice (some ⟨g, 0, none⟩) TL cp) := Lib.hid (by unfold upd; rw [if_neg (by omega)]; exact H147.out)
          have HF3 := Lib.hid ((HF.out.setCell (p := ⟨d, py, none⟩) (fun _ => hZD) (.bool false)).drew)
          clear hk hkt hmem hy hpy hdk hO M3 HD H147 HF
          go_wp2_with fail
          go_region_with (go_at_call 57; (with_reducible refine (hpl _).mono ?_); rintro e w' ⟨rfl, rfl⟩)
          clear c1 f1 c0
          go_wp2_with fail
          go_roundg m
          case measure => omega
          case rel => exact ⟨k + 1, _, by omega, by go_num, HM3.out, H147'.out, HF3.out⟩

/-! implies -/
/-- foreign blocks that came later; fewer foreign blocks -/
theorem Dm.more {w w1 : World} {Z T : Nat → Prop} {x d : Nat} {sh : Nat → Nat × Nat} {G : Nat → Prop} {s : DS} {c : Nat → Value} (h : Dm w Z x d sh G s c) (f : Fr Go.Proofs.Ytaojojjdfdlgpaa.nob w w1) (hT : ∀ k, T k → w.heap.size ≤ k ∧ k < w1.heap.size) : Dm w1 (fun k => Z k ∨ T k) x d sh G s c := by
  have h1 := h.nob f
  have hdl : d < w.heap.size := lt_of_cell (h.hp.mem 0 (by decide)).1
  refine ⟨⟨h1.hp.mem, fun k hk => hk.elim (h1.hp.zlt k) (fun e => (hT k e).2), fun hk => hk.elim h1.hp.zd (fun e => by have := (hT d e).1; omega), h1.hp.gd, h1.hp.rows, fun g hg => ?_, fun i a b e q hq => ?_, h1.hp.sep⟩, h1.sm⟩
  · obtain ⟨a1, a2, a3⟩ := h1.hp.cls g hg
    exact ⟨a1, fun hk => hk.elim a2 (fun e => by have := (hT g e).1; have := (h.hp.cls g hg).2.2; omega), a3⟩
  · obtain ⟨a1, a2, a3⟩ := h1.hp.own i a b e q hq
    exact ⟨a1, fun hk => hk.elim a2 (fun e2 => by have := (hT q e2).1; have := ((h.hp.rows i a b e).lt q hq).2; omega), a3⟩
theorem Dm.less {w : World} {Z Z2 : Nat → Prop} {x d : Nat} {sh : Nat → Nat × Nat} {G : Nat → Prop} {s : DS} {c : Nat → Value} (h : Dm w Z2 x d sh G s c) (hZ : ∀ k, Z k → Z2 k) : Dm w Z x d sh G s c :=
  ⟨⟨h.hp.mem, fun k hk => h.hp.zlt k (hZ k hk), fun hk => h.hp.zd (hZ d hk), h.hp.gd, h.hp.rows, fun g hg => ⟨(h.hp.cls g hg).1, fun hk => (h.hp.cls g hg).2.1 (hZ g hk), (h.hp.cls g hg).2.2⟩, fun i a b e q hq => ⟨(h.hp.own i a b e q hq).1, fun hk => (h.hp.own i a b e q hq).2.1 (hZ q hk), (h.hp.own i a b e q hq).2.2⟩, h.hp.sep⟩, h.sm⟩
def negs (F : List Int) : List Int := F.map fun x => -x
theorem negs_ltr {F : List Int} (h : ∀ x ∈ F, Ltr x) : ∀ x ∈ negs F, Ltr x := by
  intro x hx
  obtain ⟨y, hy, rfl⟩ := List.mem_map.1 hx
  have := h y hy
  unfold Ltr at this ⊢
  omega
theorem negs_take {F : List Int} {k : Nat} {x : Int} (h : F[k]? = some x) : negs (F.take (k + 1)) = negs (F.take k) ++ [-x] := by
  have e : F.take (k + 1) = F.take k ++ [x] := by rw [List.take_add_one, h]; rfl
  rw [e]
  unfold negs
  rw [List.map_append]
  rfl
set_option maxRecDepth 100000 in
set_option maxHeartbeats 4000000 in
theorem implies_dm (Z : Nat → Prop) (d : Nat) (C : List (List Int)) (F : List Int) (v : Value) (w : World) (hd : Ded Z d C w) (hC : ∀ c ∈ C, ∀ x ∈ c, Ltr x) (hCl : C.length ≤ 100000) (hv : IntsO w Z F v) (hF : ∀ x ∈ F, Ltr x) (hFl : F.length ≤ 1000) :
    Calls Try.prog 63 #[.pointer (some ⟨d, 0, none⟩), v] w fun e w' => e = .returned (.bool (confP C (negs F))) ∧ Ded Z d C w' ∧ Fr (fun k => ¬ Z k) w w' := by
  obtain ⟨a, cap, rfl⟩ := hv.form
  obtain ⟨ids, s, sh, G, c, d1, d2, d3, d4, d5⟩ := hd
  obtain ⟨N, hN⟩ : ∃ N, F.length = N := ⟨_, rfl⟩
  rw [hN] at hv hFl ⊢
  have HH := Lib.hid (holds_cons d1 hC (negs_ltr hF))
  have HL := Lib.hid d1
  have HG := Lib.hid d2
  have HI := Lib.hid (Nat.le_trans d3 hCl)
  have HI3 := Lib.hid d3
  have HSH := Lib.hid d4
  have HD := Lib.hid d5
  have HV := Lib.hid hv
  have HF := Lib.hid hF
  have HN := Lib.hid hN
  have hZD := d5.hp.zd
  clear d1 d2 d3 d4 d5 hv hF hN hC hCl
  go_enter Try.func63, Try.ntmps63
  go_wp2_with fail
  go_loopg [5, 11] N (fun m ov iv wr => ∃ k : Nat, k + m = N ∧ iv = .int .i64 (k : Int) ∧ (∃ oa ocp, ov = .slice oa k ocp) ∧ Outs w.heap.size k (negs (F.take k)) ov wr ∧ Fr nob w wr)
  case atStart => exact ⟨0, by omega, rfl, ⟨_, _, rfl⟩, ⟨rfl, World.ownsRow_nil _ _ _ _⟩, Fr.refl _ _⟩
  case round =>
    obtain ⟨k, hkm, rfl, ⟨oa, ocp, rfl⟩, hO, hFr⟩ := hrel
    have q3 : (0 : Int) ≤ (k : Int) := Int.natCast_nonneg _
    have HO := Lib.hid hO
    have HFr := Lib.hid hFr
    clear hO hFr
    cases gk with
    | zero =>
      obtain rfl : k = N := by omega
      have hO := HO.out
      rw [List.take_of_length_le (by rw [HN.out]; exact Nat.le_refl _)] at hO
      have hM := HD.out.more (T := fun b => (Value.slice oa k ocp).ownBlock = some b) HFr.out (fun b hb => ⟨(hO.2.lt b hb).1, (hO.2.lt b hb).2⟩)
      have hln : (negs F).length = k := hO.1
      have hA := assume_dm _ d sh G s c (negs F) (.slice oa k ocp) (fun b => (Value.slice oa k ocp).ownBlock = some b) wr ids hM HL.out.mid (by
        obtain ⟨h1, h2⟩ := hO
        rw [← h1] at h2 ⊢
        exact intsO_of h2 (fun g hg => hg)) (fun b hb => .inr hb) (negs_ltr HF.out) (by omega) HG.out (by have := HI.out; omega) (fun g hg => by have := HSH.out g hg; omega)
      have HA := Lib.hid hA
      have HAM := Lib.hid (ass_mid (F := negs F) HL.out.mid (negs_ltr HF.out))
      have HLR := Lib.hid (lev_retreat HL.out (negs_ltr HF.out))
      obtain ⟨s2, hs2⟩ : ∃ s2, (assP (negs F) s).2 = s2 := ⟨_, rfl⟩
      obtain ⟨fr, hfr⟩ : ∃ fr, (assP (negs F) s).1 = fr := ⟨_, rfl⟩
      have hA := HA.out
      rw [hs2, hfr] at hA
      have hlr := HLR.out
      rw [hs2] at hlr
      have ham := HAM.out
      rw [hs2] at ham
      have hres : confP C (negs F) = !fr := by
        have h := HH.out.1
        rw [hfr] at h
        rw [h, Bool.not_not]
      have HRES := Lib.hid hres
      have hkl : s2.known ≤ s2.trail.length := by
        obtain ⟨t, ht⟩ := ham.2.trail
        rw [ham.2.known, HL.out.known, ht, List.length_append]; omega
      have HKL := Lib.hid hkl
      have HLR := Lib.hid hlr
      have HTR := Lib.hid ham.1.tra
      clear HA hs2 hfr hlr ham hres hkl HAM HH hO hM hln HO
      go_wp2_with fail
      refine hA.mono ?_
      rintro e w3 ⟨rfl, c3, hD3, F3⟩
      have c9 := (hD3.hp.mem 149 (by omega)).1
      rw [hD3.sm.kn] at c9
      have hR := retreat_dm _ d sh G s2 c3 s2.known w3 hD3 HKL.out HTR.out
      have HF3 := Lib.hid ((HFr.out.mono (T := fun k => ¬ Z k) (fun _ _ h => h.elim)).trans F3 (fun _ _ h e => h (.inl e)))
      clear hA hD3 F3
      go_wp2_with fail
      refine hR.mono ?_
      rintro e w4 ⟨rfl, c4, hD4, F4⟩
      have hDed : Ded Z d C w4 := ⟨ids, _, sh, G, c4, HLR.out, HG.out, HI3.out, HSH.out, hD4.less (fun _ h => .inl h)⟩
      have HDed := Lib.hid hDed
      have HF4 := Lib.hid (HF3.out.trans F4 (fun _ _ h e => h (.inl e)))
      clear hR hD4 F4 hDed c9
      go_wp2_with fail
      go_ret
      exact ⟨by rw [HRES.out]; rfl, HDed.out, HF4.out⟩
    | succ m =>
      have q4 : (k : Int) < (N : Int) := by omega
      have hk : k < F.length := by rw [HN.out]; omega
      have hkt : F[k]? = some F[k] := List.getElem?_eq_getElem hk
      have hmem : F[k] ∈ F := List.getElem_mem hk
      generalize F[k] = x at hkt hmem
      have hx := HF.out x hmem
      have hx1 : -24 ≤ x := by unfold Ltr at hx; omega
      have hx2 : x ≤ 24 := by unfold Ltr at hx; omega
      have hv2 := HV.out.kept (T := Z) HFr.out (fun b hb _ => ⟨fun h => h, hb⟩)
      obtain ⟨b, ob, rfl, _, c0⟩ := hv2.at hkt
      have HNT := Lib.hid (negs_take hkt)
      obtain ⟨i0, hi0, hz0, hz1, hz2⟩ := info_parts info_int
      have hs2 := HFr.out.size
      clear hk hkt hmem hx hv2
      go_wp2_with (at_builtin; refine wpList_append_own_at _ rfl _ _ 37 rfl w.heap.size 3 i0 (.int .i64 0) 1 8 Try.underlying37 hi0 hz0 hz1 hz2 rfl (by decide) (.slice oa k ocp) k ((negs (F.take k)).map (Value.int .i64)) rfl (HO.out.2.alloc _) ⟨wr.heap.size, 0, none⟩ 1 1 [.int .i64 (-x)] rfl ?c1 ?c2 ?c3 ?c4 ?c5 ?c6 ?_)
      case c1 => rfl
      case c2 => exact cell_one_new _ _ _
      case c3 => intro u hu; simp at hu; subst hu; rfl
      case c4 => unfold maxLen; omega
      case c5 => omega
      case c6 => first | omega | (simp; omega)
      intro v6 w6 own6 gr6 _ _
      have hO6 : Outs w.heap.size (k + 1) (negs (F.take (k + 1))) v6 w6 := by
        rw [HNT.out]
        exact ⟨by rw [List.length_append, HO.out.1]; rfl, by rw [List.map_append]; exact own6⟩
      have HF6 := Lib.hid ((HFr.out.alloc (.cells #[.int .i64 (-x)] 3)).grown gr6 (fun j hj hlt => absurd (HO.out.2.lt j hj).1 (by omega)))
      have HO6 := Lib.hid hO6
      obtain ⟨oa6, ocp6, rfl⟩ := hO6.form
      clear hO6 own6 gr6 hs2
      go_wp2_with fail
      go_roundg m
      case measure => omega
      case rel => exact ⟨k + 1, by omega, by go_num, ⟨_, _, rfl⟩, HO6.out, HF6.out⟩

/-! Verify -/
def stepsP : List (List Int) → List (List Int) → Int → Int
  | _, [], k => k
  | C, c :: t, k => if confP C (negs c) = false then k else if c.isEmpty = true then -1 else stepsP (C ++ [c]) t (k + 1)
def verP (n : Int) (l p : List (List Int)) : Int × Int :=
  if chkP n l ≠ 0 then (0, chkP n l) else if clsB n p = false then (0, 2) else (stepsP l p 0, 0)
theorem cls_each {n : Int} {p : List (List Int)} (h : clsB n p = true) (hn : n ≤ 24) : ∀ c ∈ p, c.length ≤ 64 ∧ ∀ x ∈ c, Ltr x := by
  unfold clsB litsB litB at h
  rw [List.all_eq_true] at h
  intro c hc
  have := h c hc
  rw [Bool.and_eq_true, List.all_eq_true] at this
  refine ⟨by simpa using this.1, fun x hx => ?_⟩
  have h2 := this.2 x hx
  simp at h2
  unfold Ltr
  omega
set_option maxRecDepth 100000 in
set_option maxHeartbeats 4000000 in
theorem verify_any (l p : List (List Int)) (n : Int) (v vp : Value) (w : World) (hwd : Wide l) (hwp : Wide p) (hpl : p.length ≤ 10000) (hv : RowsO w (fun b => b < w.heap.size) l v) (hp : RowsO w (fun b => b < w.heap.size) p vp) :
    Calls Try.prog 29 #[.int .i64 n, v, vp] w fun e w' => e = .returned (.tuple #[.int .i64 (verP n l p).1, .int .i64 (verP n l p).2]) ∧ Fr nob w w' := by
  have hC := chk_any l n v _ w hwd hv
  have hvd := fun hl hn => deduce_dm l v w hv hl hn
  have hfl := fun hn => areCls_any p n hn vp _ w hwp hp
  obtain ⟨a, cap, rfl⟩ := hv.form
  obtain ⟨fa, fcap, rfl⟩ := hp.form
  by_cases hk : chkP n l = 0
  · rw [hk] at hC
    obtain ⟨hn, hl1, hl2⟩ := chk_zero2 hk
    obtain ⟨n1, n2⟩ := hn
    have hfl := hfl ⟨n1, n2⟩
    obtain ⟨L, hL⟩ : ∃ L, l.length = L := ⟨_, rfl⟩
    obtain ⟨N, hN⟩ : ∃ N, p.length = N := ⟨_, rfl⟩
    rw [hL] at hC
    rw [hN] at hfl
    cases hb : clsB n p with
    | false =>
      have hE : verP n l p = (0, 2) := by unfold verP; rw [if_neg (by rw [hk]; simp), if_pos hb]
      rw [hb] at hfl
      rw [hL, hN, hE]
      clear hvd hv hp hwd hE hk hl1 hl2 hb hL hN hwp hpl
      go_enter Try.func29, Try.ntmps29
      go_wp2_with fail
      refine hC.mono ?_
      rintro e w2 ⟨rfl, rfl⟩
      clear hC
      go_wp2_with fail
      refine hfl.mono ?_
      rintro e w2 ⟨rfl, rfl⟩
      go_wp2_with fail
      go_ret2
      exact ⟨rfl, Fr.refl _ _⟩
    | true =>
      have hltr := chk_ltr hk
      have hpe := cls_each hb n2
      have hded := hvd (fun c hc => ⟨by have := (hl2 c hc).1; omega, hltr c hc⟩) (by omega)
      rw [hL] at hded
      rw [hb] at hfl
      have hE : verP n l p = (stepsP l p 0, 0) := by unfold verP; rw [if_neg (by rw [hk]; simp), if_neg (by rw [hb]; simp)]
      obtain ⟨R, hR⟩ : ∃ R, stepsP l p 0 = R := ⟨_, rfl⟩
      rw [hL, hN, hE, hR]
      have HR := Lib.hid hR
      have HTR := Lib.hid hltr
      have HPE := Lib.hid hpe
      rw [hN] at hp hpl
      have HP := Lib.hid hp
      have HN := Lib.hid hN
      have HLL := Lib.hid hL
      have HL1 := Lib.hid hl1
      clear hvd hv hp hwd hE hk hl1 hl2 hb hL hN hwp hltr hpe hR
      go_enter Try.func29, Try.ntmps29
      go_wp2_with fail
      refine hC.mono ?_
      rintro e w2 ⟨rfl, rfl⟩
      clear hC
      go_wp2_with fail
      refine hfl.mono ?_
      rintro e w2 ⟨rfl, rfl⟩
      clear hfl
      go_wp2_with fail
      refine hded.mono ?_
      rintro e w2 ⟨rfl, hD0, F2⟩
      have HD0 := Lib.hid hD0
      have HF2 := Lib.hid (nob_notZ (Z := fun b => b < w.heap.size) F2)
      clear hded hD0 F2
      go_wp2_with fail
      go_loopg [26] N (fun m iv wr => ∃ k : Nat, k + m = N ∧ iv = .int .i64 (k : Int) ∧ Ded (fun b => b < w.heap.size) w.heap.size (l ++ p.take k) wr ∧ stepsP (l ++ p.take k) (p.drop k) (k : Int) = R ∧ Fr (fun k => ¬ k < w.heap.size) w wr)
      case atStart => exact ⟨0, by omega, rfl, by rw [List.take_zero, List.append_nil]; exact HD0.out, by rw [List.take_zero, List.append_nil, List.drop_zero]; exact HR.out, HF2.out⟩
      case round =>
        clear HD0 HR HF2
        obtain ⟨k, hkm, rfl, hD, hR, hF⟩ := hrel
        have q3 : (0 : Int) ≤ (k : Int) := Int.natCast_nonneg _
        have HD := Lib.hid hD
        have HR := Lib.hid hR
        have HF := Lib.hid hF
        clear hD hR hF
        cases gk with
        | zero =>
          obtain rfl : k = N := by omega
          have hres : (k : Int) = R := by
            have h := HR.out
            rw [show p.drop k = [] from List.drop_eq_nil_of_le (by rw [HN.out]; exact Nat.le_refl _)] at h
            exact h
          have HRES := Lib.hid hres
          clear hres
          go_wp2_with fail
          go_ret2
          exact ⟨by rw [← HRES.out]; rfl, HF.out.mono fun i hi hn => absurd hi hn⟩
        | succ m =>
          have q4 : (k : Int) < (N : Int) := by omega
          have hk : k < p.length := by rw [HN.out]; omega
          have hkt : p[k]? = some p[k] := List.getElem?_eq_getElem hk
          have hmem : p[k] ∈ p := List.getElem_mem hk
          have htake : p.take (k + 1) = p.take k ++ [p[k]] := List.take_succ_eq_append_getElem hk
          have hdrop : p.drop k = p[k] :: p.drop (k + 1) := List.drop_eq_getElem_cons hk
          generalize p[k] = cs at hkt hmem htake hdrop
          obtain ⟨b, ob, rfl, hSb, a', cap', hcl0, hI0⟩ := HP.out.at hkt
          have c0 := HF.out.cell hcl0 (fun e => e hSb)
          have hI := hI0.kept (T := fun b => b < w.heap.size) HF.out (fun b hb _ => ⟨fun e => e hb, hb⟩)
          obtain ⟨hc1, hc2⟩ := HPE.out cs hmem
          have hCt : ∀ c ∈ l ++ p.take k, ∀ x ∈ c, Ltr x := fun c hc => by
            rcases List.mem_append.1 hc with hc | hc
            · exact HTR.out c hc
            · exact (HPE.out c (List.mem_of_mem_take hc)).2
          have hCn : (l ++ p.take k).length ≤ 15000 := by rw [List.length_append, HLL.out, List.length_take]; have := HL1.out; have := HLL.out; omega
          have hM := implies_dm _ _ (l ++ p.take k) cs _ wr HD.out hCt (by omega) hI hc2 (by omega)
          have hst := HR.out
          rw [hdrop, stepsP] at hst
          obtain ⟨cf, hcf⟩ : ∃ cf, confP (l ++ p.take k) (negs cs) = cf := ⟨_, rfl⟩
          rw [hcf] at hM hst
          obtain ⟨rl, hrl⟩ : ∃ rl, cs.length = rl := ⟨_, rfl⟩
          rw [hrl] at c0 hM hI hc1
          have HST := Lib.hid hst
          have HI := Lib.hid hI
          have HT := Lib.hid htake
          have HC2 := Lib.hid hc2
          have HRL := Lib.hid hrl
          have HCN := Lib.hid hCn
          clear hk hkt hmem htake hdrop hcl0 hI0 hI hc2 hCt hCn hst hcf hrl HD
          cases cf with
          | false =>
            have hres : (k : Int) = R := by have h := HST.out; rw [if_pos rfl] at h; exact h
            have HRES := Lib.hid hres
            clear hres
            go_wp2_with fail
            refine hM.mono ?_
            rintro e w3 ⟨rfl, _, F3⟩
            have HF3 := Lib.hid (HF.out.trans F3 (fun _ _ h => h))
            clear hM F3
            go_wp2_with fail
            go_ret2
            exact ⟨by rw [← HRES.out]; rfl, HF3.out.mono fun i hi hn => absurd hi hn⟩
          | true =>
            by_cases e0 : rl = 0
            · have q5 : ((rl : Int) == 0) = true := by rw [e0]; rfl
              have hres : (-1 : Int) = R := by
                have h := HST.out
                rw [if_neg (by simp), if_pos (by rw [show cs = [] from List.eq_nil_of_length_eq_zero (by rw [HRL.out]; exact e0)]; rfl)] at h
                exact h
              have HRES := Lib.hid hres
              clear hres e0
              go_wp2_with fail
              refine hM.mono ?_
              rintro e w3 ⟨rfl, _, F3⟩
              have HF3 := Lib.hid (HF.out.trans F3 (fun _ _ h => h))
              clear hM F3
              go_wp2_with fail
              go_ret2
              exact ⟨by rw [← HRES.out]; rfl, HF3.out.mono fun i hi hn => absurd hi hn⟩
            · have q5 : ((rl : Int) == 0) = false := by simp; omega
              have hres : stepsP (l ++ p.take (k + 1)) (p.drop (k + 1)) ((k + 1 : Nat) : Int) = R := by
                have h := HST.out
                rw [if_neg (by simp), if_neg (by
                  intro e
                  have h2 := HRL.out
                  rw [List.isEmpty_iff.1 e] at h2
                  exact e0 h2.symm)] at h
                rw [HT.out, ← List.append_assoc]
                exact h
              have HRES := Lib.hid hres
              clear hres e0
              go_wp2_with fail
              refine hM.mono ?_
              rintro e w3 ⟨rfl, hD3, F3⟩
              obtain ⟨ids, s, sh, G, c, d1, d2, d3, d4, d5⟩ := hD3
              have hI3 := HI.out.kept (T := fun b => b < w.heap.size) F3 (fun b hb _ => ⟨fun e => e hb, hb⟩)
              have hA := add_dm _ _ sh G s c cs _ _ w3 ids d5 d1.mid hI3 (fun _ h => h) HC2.out (by have := HRL.out; omega) d2 (by have := HCN.out; omega) d4
              have HF3 := Lib.hid (HF.out.trans F3 (fun _ _ h => h))
              have H1 := Lib.hid d1
              have H2 := Lib.hid d2
              have H3 := Lib.hid d3
              have H4 := Lib.hid d4
              clear hM F3 d1 d2 d3 d4 d5 hI3
              go_wp2_with fail
              refine hA.mono ?_
              rintro e w4 ⟨rfl, hP⟩
              have hF4 : Fr (fun k => ¬ k < w.heap.size) w3 w4 := by
                obtain ⟨_, _, _, _, _, _, _, _, _, _, f⟩ := hP
                exact f
              have hD4 := Ded.add H1.out H2.out H3.out H4.out HC2.out hP
              rw [List.append_assoc, ← HT.out] at hD4
              have HD4 := Lib.hid hD4
              have HF4 := Lib.hid (HF3.out.trans hF4 (fun _ _ h => h))
              clear hA hP hF4 hD4
              go_wp2_with fail
              go_roundg m
              case measure => omega
              case rel => exact ⟨k + 1, by omega, by go_num, HD4.out, HRES.out, HF4.out⟩
  · have hE : verP n l p = (0, chkP n l) := by unfold verP; rw [if_pos hk]
    have q0 : (chkP n l != 0) = true := by simpa using hk
    rw [hE]
    generalize chkP n l = R at *
    clear hE hvd hfl hv hp hwd hwp hk hpl
    go_enter Try.func29, Try.ntmps29
    go_wp2_with fail
    refine hC.mono ?_
    rintro e w2 ⟨rfl, rfl⟩
    go_wp2_with fail
    go_ret2
    exact ⟨rfl, Fr.refl _ _⟩
end Go.Proofs.Ytaojojjdfdlgpaa
