import Derived.Test.YtaojojjdfdlgpaaQbn
namespace Go.Proofs.Ytaojojjdfdlgpaa
open Go.RowKit

/-! Solve(2, [[1, 2], [-1]]) -/
def TwoRun (w : World) (i : Nat) (w' : World) : Prop := Fr nob w w' ∧ ((i = 0 ∧ Mem w' w.heap.size zc) ∨ (i = 1 ∧ ∃ wz, Row2 wz w.heap.size w') ∨ (i = 2 ∧ ∃ wz, Got2 wz w.heap.size w'))
theorem nob_of {d : Nat} {S : Nat → Prop} {w w1 w2 : World} (h : Fr nob w w1) (hd : d = w.heap.size) (hS : ∀ k, S k → d ≤ k) (g : Fr S w1 w2) : Fr nob w w2 :=
  h.trans' g (fun _ _ e => e) (fun k hk h2 => by have h3 := hS k h2; omega)
set_option maxRecDepth 100000 in
theorem two_deduce (gr cpr ga cpa gb cpb : Nat) (w : World) (cr0 : w.cell? ⟨gr, 0, none⟩ = some (.slice (some ⟨ga, 0, none⟩) 2 cpa)) (cr1 : w.cell? ⟨gr, 1, none⟩ = some (.slice (some ⟨gb, 0, none⟩) 1 cpb))
    (ca0 : w.cell? ⟨ga, 0, none⟩ = some (.int .i64 1)) (ca1 : w.cell? ⟨ga, 1, none⟩ = some (.int .i64 2)) (cb0 : w.cell? ⟨gb, 0, none⟩ = some (.int .i64 (-1))) :
    Calls Try.prog 55 #[.slice (some ⟨gr, 0, none⟩) 2 cpr] w fun e w' => e = .returned (.pointer (some ⟨w.heap.size, 0, none⟩)) ∧ TwoRun w 2 w' := by
  refine deduceFrom_gen gr cpr [.slice (some ⟨ga, 0, none⟩) 2 cpa, .slice (some ⟨gb, 0, none⟩) 1 cpb] w (TwoRun w) (show 2 ≤ 1000 by decide) (fun wz hM hF => ⟨hF, .inl ⟨rfl, hM⟩⟩) ?_
  intro k v w' hk hs
  match k, hk with
  | 0, hk =>
    obtain rfl := Option.some.inj hk
    obtain ⟨hF, ⟨_, hM⟩ | ⟨h, _⟩ | ⟨h, _⟩⟩ := hs
    · refine ⟨hF.cell cr0 (fun h => h), _, _, _, rfl, (two_add1 w.heap.size ga cpa w' hM (hF.cell' ca0 (fun h => h)) (hF.cell' ca1 (fun h => h))).mono ?_⟩
      rintro e w2 ⟨rfl, hR⟩
      have hF2 := hR
      obtain ⟨_, _, _, _, _, _, _, _, _, _, _, _, F2⟩ := hF2
      exact ⟨rfl, nob_of hF rfl (fun k (e : k = _) => Nat.le_of_eq e.symm) F2, .inr (.inl ⟨rfl, w', hR⟩)⟩
    · cases h
    · cases h
  | 1, hk =>
    obtain rfl := Option.some.inj hk
    obtain ⟨hF, ⟨h, _⟩ | ⟨_, wz, hR⟩ | ⟨h, _⟩⟩ := hs
    · cases h
    · refine ⟨hF.cell cr1 (fun h => h), _, _, _, rfl, (two_add2 w.heap.size gb cpb wz w' hR (hF.cell' cb0 (fun h => h))).mono ?_⟩
      rintro e w2 ⟨rfl, hG⟩
      have hF2 := hG
      obtain ⟨_, _, _, _, _, _, _, F2⟩ := hF2
      exact ⟨rfl, nob_of hF rfl (fun k h => h) F2, .inr (.inr ⟨rfl, w', hG⟩)⟩
    · cases h
  | (k + 2), hk => simp at hk
set_option maxRecDepth 100000 in
theorem solve_two_all (gr cpr ga cpa gb cpb : Nat) (w : World) (cr0 : w.cell? ⟨gr, 0, none⟩ = some (.slice (some ⟨ga, 0, none⟩) 2 cpa)) (cr1 : w.cell? ⟨gr, 1, none⟩ = some (.slice (some ⟨gb, 0, none⟩) 1 cpb))
    (ca0 : w.cell? ⟨ga, 0, none⟩ = some (.int .i64 1)) (ca1 : w.cell? ⟨ga, 1, none⟩ = some (.int .i64 2)) (cb0 : w.cell? ⟨gb, 0, none⟩ = some (.int .i64 (-1))) :
    Calls Try.prog 41 #[.int .i64 2, .slice (some ⟨gr, 0, none⟩) 2 cpr] w fun e w' => e = .returned (.tuple #[.agg #[.bool true, .int .u32 2, .slice none 0 0], .int .i64 0]) ∧ Fr nob w w' := by
  refine solve_two _ 2 cpr w (fun d w' => ∃ w0, d = w0.heap.size ∧ TwoRun w0 2 w') ?_ ?_ ?_
  · intro w0 F
    refine checkClauses_yes _ 2 cpr 2 w0 (by decide) (by decide) (by decide) ?_
    refine areClauses_yes gr cpr [.slice (some ⟨ga, 0, none⟩) 2 cpa, .slice (some ⟨gb, 0, none⟩) 1 cpb] 2 w0 (show 2 ≤ 1000 by decide) ?_
    intro j v hj
    match j, hj with
    | 0, hj =>
      obtain rfl := Option.some.inj hj
      refine ⟨F.cell cr0 (fun h => h), _, _, _, rfl, by decide, areLiterals_yes ga cpa [1, 2] 2 w0 (by decide) (by decide) (by decide) ?_⟩
      intro i y hi
      match i, hi with
      | 0, hi => obtain rfl : 1 = y := Option.some.inj hi; exact ⟨F.cell' ca0 (fun h => h), by decide, by decide, by decide⟩
      | 1, hi => obtain rfl : 2 = y := Option.some.inj hi; exact ⟨F.cell' ca1 (fun h => h), by decide, by decide, by decide⟩
      | (k + 2), hi => simp at hi
    | 1, hj =>
      obtain rfl := Option.some.inj hj
      refine ⟨F.cell cr1 (fun h => h), _, _, _, rfl, by decide, areLiterals_yes gb cpb [-1] 2 w0 (by decide) (by decide) (by decide) ?_⟩
      intro i y hi
      match i, hi with
      | 0, hi => obtain rfl : -1 = y := Option.some.inj hi; exact ⟨F.cell' cb0 (fun h => h), by decide, by decide, by decide⟩
      | (k + 1), hi => simp at hi
    | (k + 2), hj => simp at hj
  · intro w0 F
    refine (two_deduce gr cpr ga cpa gb cpb w0 (F.cell' cr0 (fun h => h)) (F.cell' cr1 (fun h => h)) (F.cell' ca0 (fun h => h)) (F.cell' ca1 (fun h => h)) (F.cell' cb0 (fun h => h))).mono ?_
    rintro e w2 ⟨rfl, hT⟩
    exact ⟨rfl, ⟨w0, rfl, hT⟩, hT.1⟩
  · rintro d w1 sb w0 ⟨wd, rfl, hF, ⟨h, _⟩ | ⟨h, _⟩ | ⟨_, wz, c, hM, h22, h23, h25, h26, h151, _⟩⟩ F hsb hc0 hc1 hf1
    · cases h
    · cases h
    · have hM0 := hM.kept F (fun h => h)
      refine (search_yes sb wd.heap.size 2 c w0 (by decide) hc0 hM0 h151 ?_).mono ?_
      · intro i hi hi2
        obtain rfl | rfl : i = 1 ∨ i = 2 := by omega
        · exact .inr ⟨h25, h23⟩
        · exact .inl h26
      · rintro e w3 ⟨rfl, F3⟩
        exact ⟨rfl, F3, c, hM0.kept F3 (fun h => h), h25, h26⟩

/-! Solve(1, [[1], [-1]]) -/
def NoTrail (w : World) (d i : Nat) (w' : World) : Prop := ∃ c g cp, Mem w' d c ∧ c 148 = .int .i64 (i : Int) ∧ c 147 = .slice (some ⟨g, 0, none⟩) 1 cp ∧ w'.cell? ⟨g, 0, none⟩ = some (.int .i64 1) ∧ g ≠ d ∧ c 121 = .slice none 0 0 ∧ c 150 = .slice none 0 0 ∧ c 25 = .bool true ∧ Fr (fun k => d ≤ k) w w'
theorem NoTrail.drew {wL : World} {d i : Nat} {w : World} (h : NoTrail wL d i w) : NoTrail wL d i w.drew := by
  have D : Fr nob w w.drew := (Fr.refl nob w).drew
  obtain ⟨c, g, cp, h2, h3, h4, h5, h6, h7, h8, h9, h10⟩ := h
  exact ⟨c, g, cp, h2.kept D (fun h => h), h3, h4, D.cell h5 (fun h => h), h6, h7, h8, h9, h10.trans D (fun _ _ h => h.elim)⟩
def NoOne (w : World) (d : Nat) (w' : World) : Prop := ∃ c g cp, Mem w' d c ∧ c 147 = .slice (some ⟨g, 0, none⟩) 1 cp ∧ c 149 = .int .i64 1 ∧ c 150 = .slice none 0 0 ∧ c 151 = .bool false ∧ c 25 = .bool true ∧ Fr (fun k => d ≤ k) w w'
set_option maxRecDepth 100000 in
theorem no_add1 (d ga cp : Nat) (w : World) (hM : Mem w d zc) (ha : w.cell? ⟨ga, 0, none⟩ = some (.int .i64 1)) :
    Calls Try.prog 64 #[.pointer (some ⟨d, 0, none⟩), .slice (some ⟨ga, 0, none⟩) 1 cp] w fun e w' => e = .returned (.tuple #[]) ∧ NoOne w d w' := by
  refine add_gen d ga cp zc [1] (fun _ => true) w (NoOne w d) hM rfl (by decide) (by decide) ?_ ?_
  · intro j y hj
    match j, hj with
    | 0, hj => obtain rfl : 1 = y := Option.some.inj hj; exact ⟨ha, 23, by decide, by decide, rfl⟩
    | (k + 1), hj => simp at hj
  · intro v wL hrow hML hF
    refine .inr (.inr ⟨rfl, ?_⟩)
    obtain ⟨a, cpu, rfl, hc⟩ := row_ints (ys := [1]) hrow
    obtain ⟨gu, rfl, hcc⟩ := hc (by simp)
    have hdB : d < wL.heap.size := lt_of_cell (hML 0 (by decide)).1
    obtain ⟨rv, hrv⟩ : ∃ rv : Value, Value.slice (some ⟨gu, 0, none⟩) 1 cpu = rv := ⟨_, rfl⟩
    refine (follows_gen d gu cpu 1 1 wL (NoTrail wL d 0) (NoTrail wL d 1) (hcc 0 1 rfl) (Nat.le_refl _) ?_ ?_).mono ?_
    · rw [hrv]
      refine (note_new wL.heap.size d zc 1 25 23 0 [] rv wL ⟨_, _, _, hrv.symm⟩ rfl (by decide) rfl (by decide) hML rfl rfl (Nat.le_refl _) (World.ownsRow_nil _ _ _ _) (by decide) (fun e => by cases e) hdB).mono ?_
      rintro e w2 ⟨rfl, v', hM2, own2, hod2, F2⟩
      obtain ⟨gt, ct, rfl, hBt⟩ := row_form own2
      refine ⟨rfl, _, gt, ct, hM2, rfl, rfl, trail_cell (xs := [1]) own2 rfl 0 1 rfl, (fun e => hod2 (by rw [e]; rfl)), rfl, rfl, rfl, F2.mono ?_⟩
      rintro k _ (h | h)
      · exact Nat.le_of_eq h.symm
      · cases h
    · intro w2 hP
      refine propagate_gen d 1 (NoTrail wL d) w2 0 (by decide) (by decide) ?_ (fun i w h => h.drew) hP
      rintro i w3 hi ⟨c, g, cpt, hM3, h148, h147, hg1, hgd, h121, h150, h25, F3⟩
      refine ⟨c, g, 1, cpt, 1, hM3, h148, h147, by decide, (fun _ => rfl), fun hi2 => ?_⟩
      obtain rfl : i = 0 := by omega
      refine ⟨by decide, by decide, by decide, hg1, fun w4 hM4 F4 => ?_⟩
      refine (look_nil d (upd c 148 (.int .i64 1)) (-1) 23 w4 rfl (by decide) hM4 h121).mono ?_
      rintro e w5 ⟨rfl, hM5, F5⟩
      have F6 := F4.trans F5 (fun _ _ h => h)
      exact ⟨rfl, _, g, cpt, hM5, rfl, h147, F6.cell' hg1 hgd, hgd, h121, h150, h25, F3.trans F6 (fun k _ h => Nat.le_of_eq h.symm)⟩
    · rintro e w3 ⟨rfl, c, g, cpt, hM3, h148, h147, hg1, hgd, h121, h150, h25, F3⟩
      refine ⟨rfl, c, g, 1, cpt, hM3, h147, by decide, fun w4 hM4 F4 => ?_⟩
      exact ⟨_, g, cpt, hM4, h147, rfl, h150, rfl, h25, (hF.mono (fun _ _ h => h.elim)).trans (F3.trans F4 (fun k _ h => Nat.le_of_eq h.symm)) (fun _ _ h => h)⟩
def NoTwo (w : World) (d : Nat) (w' : World) : Prop := ∃ c g cp, Mem w' d c ∧ c 147 = .slice (some ⟨g, 0, none⟩) 1 cp ∧ c 149 = .int .i64 1 ∧ c 150 = .slice none 0 0 ∧ c 151 = .bool true ∧ Fr (fun k => d ≤ k) w w'
set_option maxRecDepth 100000 in
theorem no_add2 (d gb cp : Nat) (w0 w : World) (hR : NoOne w0 d w) (hb : w.cell? ⟨gb, 0, none⟩ = some (.int .i64 (-1))) :
    Calls Try.prog 64 #[.pointer (some ⟨d, 0, none⟩), .slice (some ⟨gb, 0, none⟩) 1 cp] w fun e w' => e = .returned (.tuple #[]) ∧ NoTwo w d w' := by
  obtain ⟨c, g, cpt, hM, h147, h149, h150, h151, h25, _⟩ := hR
  refine add_gen d gb cp c [-1] (fun _ => false) w (NoTwo w d) hM h151 (by decide) (by decide) ?_ ?_
  · intro j y hj
    match j, hj with
    | 0, hj => obtain rfl : -1 = y := Option.some.inj hj; exact ⟨hb, 25, by decide, by decide, h25⟩
    | (k + 1), hj => simp at hj
  · intro v wL hrow hML hF
    refine .inl ⟨rfl, fun w2 hM2 F2 => ?_⟩
    exact ⟨_, g, cpt, hM2, h147, h149, h150, rfl, (hF.mono (fun _ _ h => h.elim)).trans F2 (fun k _ h => Nat.le_of_eq h.symm)⟩
def NoRun (w : World) (i : Nat) (w' : World) : Prop := Fr nob w w' ∧ ((i = 0 ∧ Mem w' w.heap.size zc) ∨ (i = 1 ∧ ∃ wz, NoOne wz w.heap.size w') ∨ (i = 2 ∧ ∃ wz, NoTwo wz w.heap.size w'))
set_option maxRecDepth 100000 in
theorem no_deduce (gr cpr ga cpa gb cpb : Nat) (w : World) (cr0 : w.cell? ⟨gr, 0, none⟩ = some (.slice (some ⟨ga, 0, none⟩) 1 cpa)) (cr1 : w.cell? ⟨gr, 1, none⟩ = some (.slice (some ⟨gb, 0, none⟩) 1 cpb))
    (ca0 : w.cell? ⟨ga, 0, none⟩ = some (.int .i64 1)) (cb0 : w.cell? ⟨gb, 0, none⟩ = some (.int .i64 (-1))) :
    Calls Try.prog 55 #[.slice (some ⟨gr, 0, none⟩) 2 cpr] w fun e w' => e = .returned (.pointer (some ⟨w.heap.size, 0, none⟩)) ∧ NoRun w 2 w' := by
  refine deduceFrom_gen gr cpr [.slice (some ⟨ga, 0, none⟩) 1 cpa, .slice (some ⟨gb, 0, none⟩) 1 cpb] w (NoRun w) (show 2 ≤ 1000 by decide) (fun wz hM hF => ⟨hF, .inl ⟨rfl, hM⟩⟩) ?_
  intro k v w' hk hs
  match k, hk with
  | 0, hk =>
    obtain rfl := Option.some.inj hk
    obtain ⟨hF, ⟨_, hM⟩ | ⟨h, _⟩ | ⟨h, _⟩⟩ := hs
    · refine ⟨hF.cell cr0 (fun h => h), _, _, _, rfl, (no_add1 w.heap.size ga cpa w' hM (hF.cell' ca0 (fun h => h))).mono ?_⟩
      rintro e w2 ⟨rfl, hR⟩
      have hF2 := hR
      obtain ⟨_, _, _, _, _, _, _, _, _, F2⟩ := hF2
      exact ⟨rfl, nob_of hF rfl (fun k h => h) F2, .inr (.inl ⟨rfl, w', hR⟩)⟩
    · cases h
    · cases h
  | 1, hk =>
    obtain rfl := Option.some.inj hk
    obtain ⟨hF, ⟨h, _⟩ | ⟨_, wz, hR⟩ | ⟨h, _⟩⟩ := hs
    · cases h
    · refine ⟨hF.cell cr1 (fun h => h), _, _, _, rfl, (no_add2 w.heap.size gb cpb wz w' hR (hF.cell' cb0 (fun h => h))).mono ?_⟩
      rintro e w2 ⟨rfl, hG⟩
      have hF2 := hG
      obtain ⟨_, _, _, _, _, _, _, _, F2⟩ := hF2
      exact ⟨rfl, nob_of hF rfl (fun k h => h) F2, .inr (.inr ⟨rfl, w', hG⟩)⟩
    · cases h
  | (k + 2), hk => simp at hk
set_option maxRecDepth 100000 in
theorem solve_no_all (gr cpr ga cpa gb cpb : Nat) (w : World) (cr0 : w.cell? ⟨gr, 0, none⟩ = some (.slice (some ⟨ga, 0, none⟩) 1 cpa)) (cr1 : w.cell? ⟨gr, 1, none⟩ = some (.slice (some ⟨gb, 0, none⟩) 1 cpb))
    (ca0 : w.cell? ⟨ga, 0, none⟩ = some (.int .i64 1)) (cb0 : w.cell? ⟨gb, 0, none⟩ = some (.int .i64 (-1))) :
    Calls Try.prog 41 #[.int .i64 1, .slice (some ⟨gr, 0, none⟩) 2 cpr] w fun e w' => (∃ a' cp', e = .returned (.tuple #[.agg #[.bool false, .int .u32 0, .slice a' 1 cp'], .int .i64 0])) ∧ Fr nob w w' := by
  refine solve_no _ 2 cpr 1 w (fun d w' => ∃ w0, d = w0.heap.size ∧ NoRun w0 2 w') ?_ ?_ ?_
  · intro w0 F
    refine checkClauses_yes _ 2 cpr 1 w0 (by decide) (by decide) (by decide) ?_
    refine areClauses_yes gr cpr [.slice (some ⟨ga, 0, none⟩) 1 cpa, .slice (some ⟨gb, 0, none⟩) 1 cpb] 1 w0 (show 2 ≤ 1000 by decide) ?_
    intro j v hj
    match j, hj with
    | 0, hj =>
      obtain rfl := Option.some.inj hj
      refine ⟨F.cell cr0 (fun h => h), _, _, _, rfl, by decide, areLiterals_yes ga cpa [1] 1 w0 (by decide) (by decide) (by decide) ?_⟩
      intro i y hi
      match i, hi with
      | 0, hi => obtain rfl : 1 = y := Option.some.inj hi; exact ⟨F.cell' ca0 (fun h => h), by decide, by decide, by decide⟩
      | (k + 1), hi => simp at hi
    | 1, hj =>
      obtain rfl := Option.some.inj hj
      refine ⟨F.cell cr1 (fun h => h), _, _, _, rfl, by decide, areLiterals_yes gb cpb [-1] 1 w0 (by decide) (by decide) (by decide) ?_⟩
      intro i y hi
      match i, hi with
      | 0, hi => obtain rfl : -1 = y := Option.some.inj hi; exact ⟨F.cell' cb0 (fun h => h), by decide, by decide, by decide⟩
      | (k + 1), hi => simp at hi
    | (k + 2), hj => simp at hj
  · intro w0 F
    refine (no_deduce gr cpr ga cpa gb cpb w0 (F.cell' cr0 (fun h => h)) (F.cell' cr1 (fun h => h)) (F.cell' ca0 (fun h => h)) (F.cell' cb0 (fun h => h))).mono ?_
    rintro e w2 ⟨rfl, hT⟩
    exact ⟨rfl, ⟨w0, rfl, hT⟩, hT.1⟩
  · rintro d w1 sb w0 ⟨wd, rfl, hF, ⟨h, _⟩ | ⟨h, _⟩ | ⟨_, wz, c, g, cp, hM, h147, h149, h150, h151, _⟩⟩ F hsb hc0 hc1 hf1
    · cases h
    · cases h
    · exact search_no sb wd.heap.size 1 g cp c 1 w0 (by decide) hc0 hc1 hf1 (hM.kept F (fun h => h)) h151 h150 h147 h149
end Go.Proofs.Ytaojojjdfdlgpaa
