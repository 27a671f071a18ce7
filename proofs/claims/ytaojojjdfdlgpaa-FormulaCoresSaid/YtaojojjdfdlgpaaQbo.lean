import Derived.Test.YtaojojjdfdlgpaaQbm
namespace Go.Proofs.Ytaojojjdfdlgpaa
open Go.RowKit

/-! Solve(2, [[1, 2], [-1]]): the run -/
theorem own_facts {w : World} {B : Nat} {T : TypeId} {g n cp : Nat} {xs : List Value} (h : w.ownsRow B T 1 (.slice (some ⟨g, 0, none⟩) n cp) n xs) : B ≤ g ∧ n ≤ cp ∧ ∀ o, w.frozen? ⟨g, o, none⟩ = false := by
  rcases h.2 with ⟨h1, _⟩ | ⟨g', cap, cur, h1, h2, h3, h4, _⟩
  · cases h1
  · cases h1
    exact ⟨h2, h4, fun o => by unfold World.frozen?; rw [h3]; rfl⟩
def Row2 (w : World) (d : Nat) (w' : World) : Prop := ∃ gv cpv v1 v2, d < gv ∧ w'.cell? ⟨gv, 0, none⟩ = some (.int .i64 1) ∧ w'.cell? ⟨gv, 1, none⟩ = some (.int .i64 2) ∧ w'.frozen? ⟨gv, 0, none⟩ = false ∧ w'.frozen? ⟨gv, 1, none⟩ = false ∧
  Mem w' d (upd (upd zc 123 v1) 124 v2) ∧ row1 w' d (.slice (some ⟨gv, 0, none⟩) 2 cpv) v1 ∧ row1 w' d (.slice (some ⟨gv, 0, none⟩) 2 cpv) v2 ∧ Fr (fun k => k = d) w w'
set_option maxRecDepth 100000 in
theorem two_add1 (d g cp : Nat) (w : World) (hM : Mem w d zc) (h0 : w.cell? ⟨g, 0, none⟩ = some (.int .i64 1)) (h1 : w.cell? ⟨g, 1, none⟩ = some (.int .i64 2)) :
    Calls Try.prog 64 #[.pointer (some ⟨d, 0, none⟩), .slice (some ⟨g, 0, none⟩) 2 cp] w fun e w' => e = .returned (.tuple #[]) ∧ Row2 w d w' := by
  have hdw : d < w.heap.size := lt_of_cell (hM 0 (by decide)).1
  refine add_gen d g cp zc [1, 2] (fun _ => true) w (Row2 w d) hM rfl (by decide) (by decide) ?_ ?_
  · intro j y hj
    match j, hj with
    | 0, hj => obtain rfl : 1 = y := Option.some.inj hj; exact ⟨h0, 23, by decide, by decide, rfl⟩
    | 1, hj => obtain rfl : 2 = y := Option.some.inj hj; exact ⟨h1, 22, by decide, by decide, rfl⟩
    | (k + 2), hj => simp at hj
  · intro v wL hrow hML hF
    refine .inr (.inl ⟨rfl, ?_⟩)
    obtain ⟨a, cpv, rfl, hc⟩ := row_ints (ys := [1, 2]) hrow
    obtain ⟨gv, rfl, hcc⟩ := hc (by simp)
    obtain ⟨b1, b2, b3⟩ := own_facts (n := 2) hrow
    have hgd : d < gv := Nat.lt_of_lt_of_le hdw b1
    refine (watch_two d gv cpv zc 1 2 25 26 wL rfl (by decide) rfl (by decide) (by decide) hML rfl rfl (hcc 0 1 rfl) (hcc 1 2 rfl) b2 (by omega)).mono ?_
    rintro e w2 ⟨rfl, v1, v2, hM2, r1, r2, F2⟩
    have hlt : gv < wL.heap.size := lt_of_cell (hcc 0 1 rfl)
    exact ⟨rfl, gv, cpv, v1, v2, hgd, F2.cell' (hcc 0 1 rfl) (by omega), F2.cell' (hcc 1 2 rfl) (by omega), (F2.frozen hlt (by show ¬ gv = d; omega)).trans (b3 0), (F2.frozen hlt (by show ¬ gv = d; omega)).trans (b3 1), hM2, r1, r2, (hF.mono (fun _ _ h => h.elim)).trans F2 (fun _ _ h => h)⟩
def Got2 (w : World) (d : Nat) (w' : World) : Prop := ∃ c, Mem w' d c ∧ c 22 = .bool false ∧ c 23 = .bool true ∧ c 25 = .bool false ∧ c 26 = .bool true ∧ c 151 = .bool false ∧ Fr (fun k => d ≤ k) w w'
theorem trail_form {w : World} {B n : Nat} {xs : List Value} {v : Value} (h : w.ownsRow B 3 1 v (n + 1) xs) : ∃ g cp, v = .slice (some ⟨g, 0, none⟩) (n + 1) cp ∧ B ≤ g := by
  rcases h.2 with ⟨_, h1⟩ | ⟨g, cap, cur, h1, h2, _⟩
  · cases h1
  · exact ⟨g, cap, h1, h2⟩
theorem trail_cell {w : World} {B n g cp : Nat} {xs : List Int} (h : w.ownsRow B 3 1 (.slice (some ⟨g, 0, none⟩) n cp) n (xs.map fun y => .int .i64 y)) (hn : xs.length = n) (j : Nat) (y : Int) (hj : xs[j]? = some y) : w.cell? ⟨g, j, none⟩ = some (.int .i64 y) := by
  subst hn
  obtain ⟨a, cp', h1, h2⟩ := row_ints h
  cases h1
  obtain ⟨g', h3, h4⟩ := h2 (by rintro rfl; simp at hj)
  cases h3
  exact h4 j y hj
theorem row_form {w : World} {B n K : Nat} {T : TypeId} {xs : List Value} {v : Value} (h : w.ownsRow B T K v (n + 1) xs) : ∃ g cp, v = .slice (some ⟨g, 0, none⟩) (n + 1) cp ∧ B ≤ g := by
  rcases h.2 with ⟨_, h1⟩ | ⟨g, cap, cur, h1, h2, _⟩
  · cases h1
  · exact ⟨g, cap, h1, h2⟩
/-- what holds when i literals were looked at -/
def Trail (wL : World) (d i : Nat) (w' : World) : Prop := ∃ c g cp, Mem w' d c ∧ c 148 = .int .i64 (i : Int) ∧ c 147 = .slice (some ⟨g, 0, none⟩) 2 cp ∧ w'.cell? ⟨g, 1, none⟩ = some (.int .i64 2) ∧ g ≠ d ∧ c 120 = .slice none 0 0 ∧ c 22 = .bool false ∧ c 23 = .bool true ∧ c 25 = .bool false ∧ c 26 = .bool true ∧ Fr (fun k => d ≤ k) wL w'
def Begun (wL : World) (d : Nat) (c1 : Nat → Value) (rv : Value) (w' : World) : Prop := ∃ v', Mem w' d (upd (upd (upd c1 23 (.bool true)) 72 rv) 147 v') ∧ w'.ownsRow wL.heap.size 3 1 v' 1 [.int .i64 (-1)] ∧ v'.ownBlock ≠ some d ∧ Fr (fun k => k = d) wL w'
def TwoSt (wL : World) (d : Nat) (c1 : Nat → Value) (rv : Value) (i : Nat) (w' : World) : Prop := (i = 0 ∧ Begun wL d c1 rv w') ∨ (1 ≤ i ∧ i ≤ 2 ∧ Trail wL d i w')
theorem TwoSt.drew {wL : World} {d : Nat} {c1 : Nat → Value} {rv : Value} {i : Nat} {w : World} (h : TwoSt wL d c1 rv i w) : TwoSt wL d c1 rv i w.drew := by
  have D : Fr nob w w.drew := (Fr.refl nob w).drew
  rcases h with ⟨h0, v', h1, h2, h3, h4⟩ | ⟨h0, h1, c, g, cp, h2, h3, h4, h5, h6, h7, h8, h9, h10, h11, h12⟩
  · exact .inl ⟨h0, v', h1.kept D (fun h => h), D.row h2 (fun _ _ h => h), h3, h4.trans D (fun _ _ h => h.elim)⟩
  · exact .inr ⟨h0, h1, c, g, cp, h2.kept D (fun h => h), h3, h4, D.cell h5 (fun h => h), h6, h7, h8, h9, h10, h11, h12.trans D (fun _ _ h => h.elim)⟩
theorem upd_at (c : Nat → Value) (i : Nat) (v : Value) : upd c i v i = v := by unfold upd; rw [if_pos rfl]
set_option maxRecDepth 100000 in
theorem two_look1 (wL w w1 : World) (d : Nat) (gv cpv : Nat) (v1 v2 rv v' : Value) (hgv : d < gv) (k1 : wL.cell? ⟨gv, 0, none⟩ = some (.int .i64 1)) (k2 : wL.cell? ⟨gv, 1, none⟩ = some (.int .i64 2)) (f1 : wL.frozen? ⟨gv, 0, none⟩ = false) (f2 : wL.frozen? ⟨gv, 1, none⟩ = false)
    (r1 : row1 wL d (.slice (some ⟨gv, 0, none⟩) 2 cpv) v1)
    (hown : w.ownsRow wL.heap.size 3 1 v' 1 [.int .i64 (-1)]) (hod : v'.ownBlock ≠ some d) (hF : Fr (fun k => k = d) wL w)
    (hM : Mem w1 d (upd (upd (upd (upd (upd (upd zc 123 v1) 124 v2) 23 (.bool true)) 72 rv) 147 v') 148 (.int .i64 1))) (hF1 : Fr (fun k => k = d) w w1) :
    Calls Try.prog 116 #[.pointer (some ⟨d, 0, none⟩), .int .i64 1] w1 fun e w' => e = .returned (.bool true) ∧ Trail wL d 1 w' := by
  have hF2 := hF.trans hF1 (fun _ _ h => h)
  have hgn : ¬ gv = d := by omega
  have hL1 : gv < wL.heap.size := lt_of_cell k1
  have hdL : d < wL.heap.size := by omega
  obtain ⟨B1, o1, p1⟩ := r1
  obtain ⟨g1, cp1, rfl, hB1⟩ := row_form o1
  have hg1 : d < g1 := p1 g1 rfl
  obtain ⟨q1, _⟩ := row_cell o1
  have hL2 : g1 < wL.heap.size := lt_of_cell q1
  have o2 := hF2.row o1 (fun g hg (e : g = d) => by have h3 : g1 = g := Option.some.inj hg; omega)
  have own1 := hF1.row hown (fun g hg (e : g = d) => hod (by rw [hg, e]))
  obtain ⟨gt, ct, rfl, hBt⟩ := row_form hown
  have hs := hF2.size
  refine (look_one wL.heap.size B1 d gv g1 cpv cp1 _ 1 2 25 26 22 1 [.int .i64 (-1)] w1 rfl (by decide) rfl (by decide) rfl (by decide) hM rfl o2
    (hF2.cell' k1 hgn) (hF2.cell' k2 hgn) ((hF2.frozen hL1 hgn).trans f1) ((hF2.frozen hL1 hgn).trans f2) rfl rfl hs (by omega) own1 (by decide) hod
    (fun e => by have h : gt = gv := Option.some.inj e; omega) (fun e => by have h : gt = g1 := Option.some.inj e; omega) (by omega) (by omega)
    (fun e => by subst e; rw [k1] at q1; cases q1)).mono ?_
  rintro e w2 ⟨rfl, v3, vk, hM2, own2, hod2, F2⟩
  obtain ⟨g3, c3, rfl, hB3⟩ := row_form own2
  have hc3 : w2.cell? ⟨g3, 1, none⟩ = some (.int .i64 2) := trail_cell (xs := [-1, 2]) own2 rfl 1 2 rfl
  refine ⟨rfl, _, g3, c3, hM2, rfl, rfl, hc3, fun e => hod2 (by rw [e]; rfl), rfl, rfl, rfl, rfl, rfl, ?_⟩
  refine hF2.trans' F2 (fun k _ h => Nat.le_of_eq h.symm) ?_
  rintro k hk (h | h | h | h)
  · exact Nat.le_of_eq h.symm
  · omega
  · omega
  · have h3 : gt = k := Option.some.inj h
    omega
set_option maxRecDepth 100000 in
theorem two_add2 (d gb cp : Nat) (w0 w : World) (hR : Row2 w0 d w) (hb : w.cell? ⟨gb, 0, none⟩ = some (.int .i64 (-1))) :
    Calls Try.prog 64 #[.pointer (some ⟨d, 0, none⟩), .slice (some ⟨gb, 0, none⟩) 1 cp] w fun e w' => e = .returned (.tuple #[]) ∧ Got2 w d w' := by
  obtain ⟨gv, cpv, v1, v2, hgv, k1, k2, f1, f2, hM, r1, r2, _⟩ := hR
  refine add_gen d gb cp (upd (upd zc 123 v1) 124 v2) [-1] (fun _ => true) w (Got2 w d) hM rfl (by decide) (by decide) ?_ ?_
  · intro j y hj
    match j, hj with
    | 0, hj => obtain rfl : -1 = y := Option.some.inj hj; exact ⟨hb, 25, by decide, by decide, rfl⟩
    | (k + 1), hj => simp at hj
  · intro v wL hrow hML hF
    refine .inr (.inr ⟨rfl, ?_⟩)
    obtain ⟨a, cpu, rfl, hc⟩ := row_ints (ys := [-1]) hrow
    obtain ⟨gu, rfl, hcc⟩ := hc (by simp)
    have hdB : d < wL.heap.size := lt_of_cell (hML 0 (by decide)).1
    have hgL : gv < w.heap.size := lt_of_cell k1
    obtain ⟨rv, hrv⟩ : ∃ rv : Value, Value.slice (some ⟨gu, 0, none⟩) 1 cpu = rv := ⟨_, rfl⟩
    refine (follows_gen d gu cpu 1 (-1) wL (Begun wL d (upd (upd zc 123 v1) 124 v2) rv) (TwoSt wL d (upd (upd zc 123 v1) 124 v2) rv 2) (hcc 0 (-1) rfl) (Nat.le_refl _) ?_ ?_).mono ?_
    · rw [hrv]
      refine (note_new wL.heap.size d (upd (upd zc 123 v1) 124 v2) (-1) 23 25 0 [] rv wL ⟨_, _, _, hrv.symm⟩ rfl (by decide) rfl (by decide) hML rfl rfl (Nat.le_refl _) (World.ownsRow_nil _ _ _ _) (by decide) (fun e => by cases e) hdB).mono ?_
      rintro e w2 ⟨rfl, v', hM2, own2, hod2, F2⟩
      refine ⟨rfl, v', hM2, own2, hod2, F2.mono ?_⟩
      rintro k _ (h | h)
      · exact h
      · cases h
    · intro w2 hP
      refine propagate_gen d 2 (TwoSt wL d (upd (upd zc 123 v1) 124 v2) rv) w2 0 (by decide) (by decide) ?_ (fun i w h => h.drew) (.inl ⟨rfl, hP⟩)
      rintro i w3 hi (⟨rfl, v', hM3, own3, hod3, F3⟩ | ⟨h1, h2, c, g, cpt, hM3, h148, h147, hg1, hgd, h120, h22, h23, h25, h26, F3⟩)
      · obtain ⟨gt, ct, rfl, hBt⟩ := row_form own3
        have hcl : w3.cell? ⟨gt, 0, none⟩ = some (.int .i64 (-1)) := trail_cell (xs := [-1]) own3 rfl 0 (-1) rfl
        refine ⟨_, gt, 1, ct, -1, hM3, rfl, rfl, by decide, (fun e => by cases e), fun _ => ⟨by decide, by decide, by decide, hcl, fun w4 hM4 F4 => ?_⟩⟩
        refine (two_look1 wL w3 w4 d gv cpv v1 v2 rv _ hgv (hF.cell' k1 (fun h => h)) (hF.cell' k2 (fun h => h)) ((hF.frozen hgL (fun h => h)).trans f1) ((hF.frozen hgL (fun h => h)).trans f2) (r1.kept (hF.mono (fun _ _ h => h.elim))) own3 hod3 F3 hM4 F4).mono ?_
        rintro e w5 ⟨rfl, h⟩
        exact ⟨rfl, .inr ⟨Nat.le_refl _, by decide, h⟩⟩
      · refine ⟨c, g, 2, cpt, 2, hM3, h148, h147, by decide, (fun _ => rfl), fun hi2 => ?_⟩
        obtain rfl : i = 1 := by omega
        refine ⟨by decide, by decide, by decide, hg1, fun w4 hM4 F4 => ?_⟩
        refine (look_nil d (upd c 148 (.int .i64 2)) (-2) 22 w4 rfl (by decide) hM4 h120).mono ?_
        rintro e w5 ⟨rfl, hM5, F5⟩
        have F6 := F4.trans F5 (fun _ _ h => h)
        exact ⟨rfl, .inr ⟨by decide, by decide, _, g, cpt, hM5, rfl, h147, F6.cell' hg1 hgd, hgd, h120, h22, h23, h25, h26, F3.trans F6 (fun k _ h => Nat.le_of_eq h.symm)⟩⟩
    · rintro e w3 ⟨rfl, ⟨h0, _⟩ | ⟨_, _, c, g, cpt, hM3, h148, h147, hg1, hgd, h120, h22, h23, h25, h26, F3⟩⟩
      · cases h0
      · refine ⟨rfl, c, g, 2, cpt, hM3, h147, by decide, fun w4 hM4 F4 => ?_⟩
        exact ⟨_, hM4, h22, h23, h25, h26, rfl, (hF.mono (fun _ _ h => h.elim)).trans (F3.trans F4 (fun k _ h => Nat.le_of_eq h.symm)) (fun _ _ h => h)⟩
end Go.Proofs.Ytaojojjdfdlgpaa
namespace Go.Proofs.Ytaojojjdfdlgpaa
open Go.RowKit

/-! Solve(2, [[1, 2], [-1]]) -/
def TwoRun (w : World) (i : Nat) (w' : World) : Prop := Fr nob w w' ∧ ((i = 0 ∧ Mem w' w.heap.size zc) ∨ (i = 1 ∧ ∃ wz, Row2 wz w.heap.size w') ∨ (i = 2 ∧ ∃ wz, Got2 wz w.heap.size w'))
theorem nob_of {d : Nat} {S : Nat → Prop} {w w1 w2 : World} (h : Fr nob w w1) (hd : d = w.heap.size) (hS : ∀ k, S k → d ≤ k) (g : Fr S w1 w2) : Fr nob w w2 :=
  h.trans' g (fun _ _ e => e) (fun k hk h2 => by have h3 := hS k h2; omega)
set_option maxRecDepth 100000 in
theorem two_deduce (gr cpr ga cpa gb cpb : Nat) (w : World) (cr0 : w.cell? ⟨gr, 0, none⟩ = some (.slice (some ⟨ga, 0, none⟩) 2 cpa)) (cr1 : w.cell? ⟨gr, 1, none⟩ = some (.slice (some ⟨gb, 0, none⟩) 1 cpb))
    (ca0 : w.cell? ⟨ga, 0, none⟩ = some (.int .i64 1)) (ca1 : w.cell? ⟨ga, 1, none⟩ = some (.int .i64 2)) (cb0 : w.cell? ⟨gb, 0, none⟩ = some (.int .i64 (-1))) :
    Calls Try.prog 55 #[.slice (some ⟨gr, 0, none⟩) 2 cpr] w fun e w' => e = .returned (.pointer (some ⟨w.heap.size, 0, none⟩)) ∧ TwoRun w 2 w' := by
  refine deduceFrom_gen gr cpr [.slice (some ⟨ga, 0, none⟩) 2 cpa, .slice (some ⟨gb, 0, none⟩) 1 cpb] w (TwoRun w) (show 2 ≤ 1000 by decide) (fun wz hM hF => ⟨hF, .inl ⟨rfl, hM⟩⟩) ?_
  intro k v w' hk hs
  match k, hk with
  | 0, hk =>
    obtain rfl := Option.some.inj hk
    obtain ⟨hF, ⟨_, hM⟩ | ⟨h, _⟩ | ⟨h, _⟩⟩ := hs
    · refine ⟨hF.cell cr0 (fun h => h), _, _, _, rfl, (two_add1 w.heap.size ga cpa w' hM (hF.cell' ca0 (fun h => h)) (hF.cell' ca1 (fun h => h))).mono ?_⟩
      rintro e w2 ⟨rfl, hR⟩
      have hF2 := hR
      obtain ⟨_, _, _, _, _, _, _, _, _, _, _, _, F2⟩ := hF2
      exact ⟨rfl, nob_of hF rfl (fun k (e : k = _) => Nat.le_of_eq e.symm) F2, .inr (.inl ⟨rfl, w', hR⟩)⟩
    · cases h
    · cases h
  | 1, hk =>
    obtain rfl := Option.some.inj hk
    obtain ⟨hF, ⟨h, _⟩ | ⟨_, wz, hR⟩ | ⟨h, _⟩⟩ := hs
    · cases h
    · refine ⟨hF.cell cr1 (fun h => h), _, _, _, rfl, (two_add2 w.heap.size gb cpb wz w' hR (hF.cell' cb0 (fun h => h))).mono ?_⟩
      rintro e w2 ⟨rfl, hG⟩
      have hF2 := hG
      obtain ⟨_, _, _, _, _, _, _, F2⟩ := hF2
      exact ⟨rfl, nob_of hF rfl (fun k h => h) F2, .inr (.inr ⟨rfl, w', hG⟩)⟩
    · cases h
  | (k + 2), hk => simp at hk
set_option maxRecDepth 100000 in
theorem solve_two_all (gr cpr ga cpa gb cpb : Nat) (w : World) (cr0 : w.cell? ⟨gr, 0, none⟩ = some (.slice (some ⟨ga, 0, none⟩) 2 cpa)) (cr1 : w.cell? ⟨gr, 1, none⟩ = some (.slice (some ⟨gb, 0, none⟩) 1 cpb))
    (ca0 : w.cell? ⟨ga, 0, none⟩ = some (.int .i64 1)) (ca1 : w.cell? ⟨ga, 1, none⟩ = some (.int .i64 2)) (cb0 : w.cell? ⟨gb, 0, none⟩ = some (.int .i64 (-1))) :
    Calls Try.prog 41 #[.int .i64 2, .slice (some ⟨gr, 0, none⟩) 2 cpr] w fun e w' => e = .returned (.tuple #[.agg #[.bool true, .int .u32 2, .slice none 0 0], .int .i64 0]) ∧ Fr nob w w' := by
  refine solve_two _ 2 cpr w (fun d w' => ∃ w0, d = w0.heap.size ∧ TwoRun w0 2 w') ?_ ?_ ?_
  · intro w0 F
    refine checkClauses_yes _ 2 cpr 2 w0 (by decide) (by decide) (by decide) ?_
    refine areClauses_yes gr cpr [.slice (some ⟨ga, 0, none⟩) 2 cpa, .slice (some ⟨gb, 0, none⟩) 1 cpb] 2 w0 (show 2 ≤ 1000 by decide) ?_
    intro j v hj
    match j, hj with
    | 0, hj =>
      obtain rfl := Option.some.inj hj
      refine ⟨F.cell cr0 (fun h => h), _, _, _, rfl, by decide, areLiterals_yes ga cpa [1, 2] 2 w0 (by decide) (by decide) (by decide) ?_⟩
      intro i y hi
      match i, hi with
      | 0, hi => obtain rfl : 1 = y := Option.some.inj hi; exact ⟨F.cell' ca0 (fun h => h), by decide, by decide, by decide⟩
      | 1, hi => obtain rfl : 2 = y := Option.some.inj hi; exact ⟨F.cell' ca1 (fun h => h), by decide, by decide, by decide⟩
      | (k + 2), hi => simp at hi
    | 1, hj =>
      obtain rfl := Option.some.inj hj
      refine ⟨F.cell cr1 (fun h => h), _, _, _, rfl, by decide, areLiterals_yes gb cpb [-1] 2 w0 (by decide) (by decide) (by decide) ?_⟩
      intro i y hi
      match i, hi with
      | 0, hi => obtain rfl : -1 = y := Option.some.inj hi; exact ⟨F.cell' cb0 (fun h => h), by decide, by decide, by decide⟩
      | (k + 1), hi => simp at hi
    | (k + 2), hj => simp at hj
  · intro w0 F
    refine (two_deduce gr cpr ga cpa gb cpb w0 (F.cell' cr0 (fun h => h)) (F.cell' cr1 (fun h => h)) (F.cell' ca0 (fun h => h)) (F.cell' ca1 (fun h => h)) (F.cell' cb0 (fun h => h))).mono ?_
    rintro e w2 ⟨rfl, hT⟩
    exact ⟨rfl, ⟨w0, rfl, hT⟩, hT.1⟩
  · rintro d w1 sb w0 ⟨wd, rfl, hF, ⟨h, _⟩ | ⟨h, _⟩ | ⟨_, wz, c, hM, h22, h23, h25, h26, h151, _⟩⟩ F hsb hc0 hc1 hf1
    · cases h
    · cases h
    · have hM0 := hM.kept F (fun h => h)
      refine (search_yes sb wd.heap.size 2 c w0 (by decide) hc0 hM0 h151 ?_).mono ?_
      · intro i hi hi2
        obtain rfl | rfl : i = 1 ∨ i = 2 := by omega
        · exact .inr ⟨h25, h23⟩
        · exact .inl h26
      · rintro e w3 ⟨rfl, F3⟩
        exact ⟨rfl, F3, c, hM0.kept F3 (fun h => h), h25, h26⟩

/-! Solve(1, [[1], [-1]]) -/
def NoTrail (w : World) (d i : Nat) (w' : World) : Prop := ∃ c g cp, Mem w' d c ∧ c 148 = .int .i64 (i : Int) ∧ c 147 = .slice (some ⟨g, 0, none⟩) 1 cp ∧ w'.cell? ⟨g, 0, none⟩ = some (.int .i64 1) ∧ g ≠ d ∧ c 121 = .slice none 0 0 ∧ c 150 = .slice none 0 0 ∧ c 25 = .bool true ∧ Fr (fun k => d ≤ k) w w'
theorem NoTrail.drew {wL : World} {d i : Nat} {w : World} (h : NoTrail wL d i w) : NoTrail wL d i w.drew := by
  have D : Fr nob w w.drew := (Fr.refl nob w).drew
  obtain ⟨c, g, cp, h2, h3, h4, h5, h6, h7, h8, h9, h10⟩ := h
  exact ⟨c, g, cp, h2.kept D (fun h => h), h3, h4, D.cell h5 (fun h => h), h6, h7, h8, h9, h10.trans D (fun _ _ h => h.elim)⟩
def NoOne (w : World) (d : Nat) (w' : World) : Prop := ∃ c g cp, Mem w' d c ∧ c 147 = .slice (some ⟨g, 0, none⟩) 1 cp ∧ c 149 = .int .i64 1 ∧ c 150 = .slice none 0 0 ∧ c 151 = .bool false ∧ c 25 = .bool true ∧ Fr (fun k => d ≤ k) w w'
set_option maxRecDepth 100000 in
theorem no_add1 (d ga cp : Nat) (w : World) (hM : Mem w d zc) (ha : w.cell? ⟨ga, 0, none⟩ = some (.int .i64 1)) :
    Calls Try.prog 64 #[.pointer (some ⟨d, 0, none⟩), .slice (some ⟨ga, 0, none⟩) 1 cp] w fun e w' => e = .returned (.tuple #[]) ∧ NoOne w d w' := by
  refine add_gen d ga cp zc [1] (fun _ => true) w (NoOne w d) hM rfl (by decide) (by decide) ?_ ?_
  · intro j y hj
    match j, hj with
    | 0, hj => obtain rfl : 1 = y := Option.some.inj hj; exact ⟨ha, 23, by decide, by decide, rfl⟩
    | (k + 1), hj => simp at hj
  · intro v wL hrow hML hF
    refine .inr (.inr ⟨rfl, ?_⟩)
    obtain ⟨a, cpu, rfl, hc⟩ := row_ints (ys := [1]) hrow
    obtain ⟨gu, rfl, hcc⟩ := hc (by simp)
    have hdB : d < wL.heap.size := lt_of_cell (hML 0 (by decide)).1
    obtain ⟨rv, hrv⟩ : ∃ rv : Value, Value.slice (some ⟨gu, 0, none⟩) 1 cpu = rv := ⟨_, rfl⟩
    refine (follows_gen d gu cpu 1 1 wL (NoTrail wL d 0) (NoTrail wL d 1) (hcc 0 1 rfl) (Nat.le_refl _) ?_ ?_).mono ?_
    · rw [hrv]
      refine (note_new wL.heap.size d zc 1 25 23 0 [] rv wL ⟨_, _, _, hrv.symm⟩ rfl (by decide) rfl (by decide) hML rfl rfl (Nat.le_refl _) (World.ownsRow_nil _ _ _ _) (by decide) (fun e => by cases e) hdB).mono ?_
      rintro e w2 ⟨rfl, v', hM2, own2, hod2, F2⟩
      obtain ⟨gt, ct, rfl, hBt⟩ := row_form own2
      refine ⟨rfl, _, gt, ct, hM2, rfl, rfl, trail_cell (xs := [1]) own2 rfl 0 1 rfl, (fun e => hod2 (by rw [e]; rfl)), rfl, rfl, rfl, F2.mono ?_⟩
      rintro k _ (h | h)
      · exact Nat.le_of_eq h.symm
      · cases h
    · intro w2 hP
      refine propagate_gen d 1 (NoTrail wL d) w2 0 (by decide) (by decide) ?_ (fun i w h => h.drew) hP
      rintro i w3 hi ⟨c, g, cpt, hM3, h148, h147, hg1, hgd, h121, h150, h25, F3⟩
      refine ⟨c, g, 1, cpt, 1, hM3, h148, h147, by decide, (fun _ => rfl), fun hi2 => ?_⟩
      obtain rfl : i = 0 := by omega
      refine ⟨by decide, by decide, by decide, hg1, fun w4 hM4 F4 => ?_⟩
      refine (look_nil d (upd c 148 (.int .i64 1)) (-1) 23 w4 rfl (by decide) hM4 h121).mono ?_
      rintro e w5 ⟨rfl, hM5, F5⟩
      have F6 := F4.trans F5 (fun _ _ h => h)
      exact ⟨rfl, _, g, cpt, hM5, rfl, h147, F6.cell' hg1 hgd, hgd, h121, h150, h25, F3.trans F6 (fun k _ h => Nat.le_of_eq h.symm)⟩
    · rintro e w3 ⟨rfl, c, g, cpt, hM3, h148, h147, hg1, hgd, h121, h150, h25, F3⟩
      refine ⟨rfl, c, g, 1, cpt, hM3, h147, by decide, fun w4 hM4 F4 => ?_⟩
      exact ⟨_, g, cpt, hM4, h147, rfl, h150, rfl, h25, (hF.mono (fun _ _ h => h.elim)).trans (F3.trans F4 (fun k _ h => Nat.le_of_eq h.symm)) (fun _ _ h => h)⟩
def NoTwo (w : World) (d : Nat) (w' : World) : Prop := ∃ c g cp, Mem w' d c ∧ c 147 = .slice (some ⟨g, 0, none⟩) 1 cp ∧ c 149 = .int .i64 1 ∧ c 150 = .slice none 0 0 ∧ c 151 = .bool true ∧ Fr (fun k => d ≤ k) w w'
set_option maxRecDepth 100000 in
theorem no_add2 (d gb cp : Nat) (w0 w : World) (hR : NoOne w0 d w) (hb : w.cell? ⟨gb, 0, none⟩ = some (.int .i64 (-1))) :
    Calls Try.prog 64 #[.pointer (some ⟨d, 0, none⟩), .slice (some ⟨gb, 0, none⟩) 1 cp] w fun e w' => e = .returned (.tuple #[]) ∧ NoTwo w d w' := by
  obtain ⟨c, g, cpt, hM, h147, h149, h150, h151, h25, _⟩ := hR
  refine add_gen d gb cp c [-1] (fun _ => false) w (NoTwo w d) hM h151 (by decide) (by decide) ?_ ?_
  · intro j y hj
    match j, hj with
    | 0, hj => obtain rfl : -1 = y := Option.some.inj hj; exact ⟨hb, 25, by decide, by decide, h25⟩
    | (k + 1), hj => simp at hj
  · intro v wL hrow hML hF
    refine .inl ⟨rfl, fun w2 hM2 F2 => ?_⟩
    exact ⟨_, g, cpt, hM2, h147, h149, h150, rfl, (hF.mono (fun _ _ h => h.elim)).trans F2 (fun k _ h => Nat.le_of_eq h.symm)⟩
def NoRun (w : World) (i : Nat) (w' : World) : Prop := Fr nob w w' ∧ ((i = 0 ∧ Mem w' w.heap.size zc) ∨ (i = 1 ∧ ∃ wz, NoOne wz w.heap.size w') ∨ (i = 2 ∧ ∃ wz, NoTwo wz w.heap.size w'))
set_option maxRecDepth 100000 in
theorem no_deduce (gr cpr ga cpa gb cpb : Nat) (w : World) (cr0 : w.cell? ⟨gr, 0, none⟩ = some (.slice (some ⟨ga, 0, none⟩) 1 cpa)) (cr1 : w.cell? ⟨gr, 1, none⟩ = some (.slice (some ⟨gb, 0, none⟩) 1 cpb))
    (ca0 : w.cell? ⟨ga, 0, none⟩ = some (.int .i64 1)) (cb0 : w.cell? ⟨gb, 0, none⟩ = some (.int .i64 (-1))) :
    Calls Try.prog 55 #[.slice (some ⟨gr, 0, none⟩) 2 cpr] w fun e w' => e = .returned (.pointer (some ⟨w.heap.size, 0, none⟩)) ∧ NoRun w 2 w' := by
  refine deduceFrom_gen gr cpr [.slice (some ⟨ga, 0, none⟩) 1 cpa, .slice (some ⟨gb, 0, none⟩) 1 cpb] w (NoRun w) (show 2 ≤ 1000 by decide) (fun wz hM hF => ⟨hF, .inl ⟨rfl, hM⟩⟩) ?_
  intro k v w' hk hs
  match k, hk with
  | 0, hk =>
    obtain rfl := Option.some.inj hk
    obtain ⟨hF, ⟨_, hM⟩ | ⟨h, _⟩ | ⟨h, _⟩⟩ := hs
    · refine ⟨hF.cell cr0 (fun h => h), _, _, _, rfl, (no_add1 w.heap.size ga cpa w' hM (hF.cell' ca0 (fun h => h))).mono ?_⟩
      rintro e w2 ⟨rfl, hR⟩
      have hF2 := hR
      obtain ⟨_, _, _, _, _, _, _, _, _, F2⟩ := hF2
      exact ⟨rfl, nob_of hF rfl (fun k h => h) F2, .inr (.inl ⟨rfl, w', hR⟩)⟩
    · cases h
    · cases h
  | 1, hk =>
    obtain rfl := Option.some.inj hk
    obtain ⟨hF, ⟨h, _⟩ | ⟨_, wz, hR⟩ | ⟨h, _⟩⟩ := hs
    · cases h
    · refine ⟨hF.cell cr1 (fun h => h), _, _, _, rfl, (no_add2 w.heap.size gb cpb wz w' hR (hF.cell' cb0 (fun h => h))).mono ?_⟩
      rintro e w2 ⟨rfl, hG⟩
      have hF2 := hG
      obtain ⟨_, _, _, _, _, _, _, _, F2⟩ := hF2
      exact ⟨rfl, nob_of hF rfl (fun k h => h) F2, .inr (.inr ⟨rfl, w', hG⟩)⟩
    · cases h
  | (k + 2), hk => simp at hk
set_option maxRecDepth 100000 in
theorem solve_no_all (gr cpr ga cpa gb cpb : Nat) (w : World) (cr0 : w.cell? ⟨gr, 0, none⟩ = some (.slice (some ⟨ga, 0, none⟩) 1 cpa)) (cr1 : w.cell? ⟨gr, 1, none⟩ = some (.slice (some ⟨gb, 0, none⟩) 1 cpb))
    (ca0 : w.cell? ⟨ga, 0, none⟩ = some (.int .i64 1)) (cb0 : w.cell? ⟨gb, 0, none⟩ = some (.int .i64 (-1))) :
    Calls Try.prog 41 #[.int .i64 1, .slice (some ⟨gr, 0, none⟩) 2 cpr] w fun e w' => (∃ a' cp', e = .returned (.tuple #[.agg #[.bool false, .int .u32 0, .slice a' 1 cp'], .int .i64 0])) ∧ Fr nob w w' := by
  refine solve_no _ 2 cpr 1 w (fun d w' => ∃ w0, d = w0.heap.size ∧ NoRun w0 2 w') ?_ ?_ ?_
  · intro w0 F
    refine checkClauses_yes _ 2 cpr 1 w0 (by decide) (by decide) (by decide) ?_
    refine areClauses_yes gr cpr [.slice (some ⟨ga, 0, none⟩) 1 cpa, .slice (some ⟨gb, 0, none⟩) 1 cpb] 1 w0 (show 2 ≤ 1000 by decide) ?_
    intro j v hj
    match j, hj with
    | 0, hj =>
      obtain rfl := Option.some.inj hj
      refine ⟨F.cell cr0 (fun h => h), _, _, _, rfl, by decide, areLiterals_yes ga cpa [1] 1 w0 (by decide) (by decide) (by decide) ?_⟩
      intro i y hi
      match i, hi with
      | 0, hi => obtain rfl : 1 = y := Option.some.inj hi; exact ⟨F.cell' ca0 (fun h => h), by decide, by decide, by decide⟩
      | (k + 1), hi => simp at hi
    | 1, hj =>
      obtain rfl := Option.some.inj hj
      refine ⟨F.cell cr1 (fun h => h), _, _, _, rfl, by decide, areLiterals_yes gb cpb [-1] 1 w0 (by decide) (by decide) (by decide) ?_⟩
      intro i y hi
      match i, hi with
      | 0, hi => obtain rfl : -1 = y := Option.some.inj hi; exact ⟨F.cell' cb0 (fun h => h), by decide, by decide, by decide⟩
      | (k + 1), hi => simp at hi
    | (k + 2), hj => simp at hj
  · intro w0 F
    refine (no_deduce gr cpr ga cpa gb cpb w0 (F.cell' cr0 (fun h => h)) (F.cell' cr1 (fun h => h)) (F.cell' ca0 (fun h => h)) (F.cell' cb0 (fun h => h))).mono ?_
    rintro e w2 ⟨rfl, hT⟩
    exact ⟨rfl, ⟨w0, rfl, hT⟩, hT.1⟩
  · rintro d w1 sb w0 ⟨wd, rfl, hF, ⟨h, _⟩ | ⟨h, _⟩ | ⟨_, wz, c, g, cp, hM, h147, h149, h150, h151, _⟩⟩ F hsb hc0 hc1 hf1
    · cases h
    · cases h
    · exact search_no sb wd.heap.size 1 g cp c 1 w0 (by decide) hc0 hc1 hf1 (hM.kept F (fun h => h)) h151 h150 h147 h149
end Go.Proofs.Ytaojojjdfdlgpaa
