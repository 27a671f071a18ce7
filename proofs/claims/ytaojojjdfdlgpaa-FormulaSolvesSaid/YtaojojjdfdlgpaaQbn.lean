import Derived.Test.YtaojojjdfdlgpaaQbm
namespace Go.Proofs.Ytaojojjdfdlgpaa
open Go.RowKit

/-! Solve(2, [[1, 2], [-1]]): the run -/
theorem own_facts {w : World} {B : Nat} {T : TypeId} {g n cp : Nat} {xs : List Value} (h : w.ownsRow B T 1 (.slice (some ⟨g, 0, none⟩) n cp) n xs) : B ≤ g ∧ n ≤ cp ∧ ∀ o, w.frozen? ⟨g, o, none⟩ = false := by
  rcases h.2 with ⟨h1, _⟩ | ⟨g', cap, cur, h1, h2, h3, h4, _⟩
  · cases h1
  · cases h1
    exact ⟨h2, h4, fun o => by unfold World.frozen?; rw [h3]; rfl⟩
def Row2 (w : World) (d : Nat) (w' : World) : Prop := ∃ gv cpv v1 v2, d < gv ∧ w'.cell? ⟨gv, 0, none⟩ = some (.int .i64 1) ∧ w'.cell? ⟨gv, 1, none⟩ = some (.int .i64 2) ∧ w'.frozen? ⟨gv, 0, none⟩ = false ∧ w'.frozen? ⟨gv, 1, none⟩ = false ∧
  Mem w' d (upd (upd zc 123 v1) 124 v2) ∧ row1 w' d (.slice (some ⟨gv, 0, none⟩) 2 cpv) v1 ∧ row1 w' d (.slice (some ⟨gv, 0, none⟩) 2 cpv) v2 ∧ Fr (fun k => k = d) w w'
set_option maxRecDepth 100000 in
theorem two_add1 (d g cp : Nat) (w : World) (hM : Mem w d zc) (h0 : w.cell? ⟨g, 0, none⟩ = some (.int .i64 1)) (h1 : w.cell? ⟨g, 1, none⟩ = some (.int .i64 2)) :
    Calls Try.prog 64 #[.pointer (some ⟨d, 0, none⟩), .slice (some ⟨g, 0, none⟩) 2 cp] w fun e w' => e = .returned (.tuple #[]) ∧ Row2 w d w' := by
  have hdw : d < w.heap.size := lt_of_cell (hM 0 (by decide)).1
  refine add_gen d g cp zc [1, 2] (fun _ => true) w (Row2 w d) hM rfl (by decide) (by decide) ?_ ?_
  · intro j y hj
    match j, hj with
    | 0, hj => obtain rfl : 1 = y := Option.some.inj hj; exact ⟨h0, 23, by decide, by decide, rfl⟩
    | 1, hj => obtain rfl : 2 = y := Option.some.inj hj; exact ⟨h1, 22, by decide, by decide, rfl⟩
    | (k + 2), hj => simp at hj
  · intro v wL hrow hML hF
    refine .inr (.inl ⟨rfl, ?_⟩)
    obtain ⟨a, cpv, rfl, hc⟩ := row_ints (ys := [1, 2]) hrow
    obtain ⟨gv, rfl, hcc⟩ := hc (by simp)
    obtain ⟨b1, b2, b3⟩ := own_facts (n := 2) hrow
    have hgd : d < gv := Nat.lt_of_lt_of_le hdw b1
    refine (watch_two d gv cpv zc 1 2 25 26 wL rfl (by decide) rfl (by decide) (by decide) hML rfl rfl (hcc 0 1 rfl) (hcc 1 2 rfl) b2 (by omega)).mono ?_
    rintro e w2 ⟨rfl, v1, v2, hM2, r1, r2, F2⟩
    have hlt : gv < wL.heap.size := lt_of_cell (hcc 0 1 rfl)
    exact ⟨rfl, gv, cpv, v1, v2, hgd, F2.cell' (hcc 0 1 rfl) (by omega), F2.cell' (hcc 1 2 rfl) (by omega), (F2.frozen hlt (by show ¬ gv = d; omega)).trans (b3 0), (F2.frozen hlt (by show ¬ gv = d; omega)).trans (b3 1), hM2, r1, r2, (hF.mono (fun _ _ h => h.elim)).trans F2 (fun _ _ h => h)⟩
def Got2 (w : World) (d : Nat) (w' : World) : Prop := ∃ c, Mem w' d c ∧ c 22 = .bool false ∧ c 23 = .bool true ∧ c 25 = .bool false ∧ c 26 = .bool true ∧ c 151 = .bool false ∧ Fr (fun k => d ≤ k) w w'
theorem trail_form {w : World} {B n : Nat} {xs : List Value} {v : Value} (h : w.ownsRow B 3 1 v (n + 1) xs) : ∃ g cp, v = .slice (some ⟨g, 0, none⟩) (n + 1) cp ∧ B ≤ g := by
  rcases h.2 with ⟨_, h1⟩ | ⟨g, cap, cur, h1, h2, _⟩
  · cases h1
  · exact ⟨g, cap, h1, h2⟩
theorem trail_cell {w : World} {B n g cp : Nat} {xs : List Int} (h : w.ownsRow B 3 1 (.slice (some ⟨g, 0, none⟩) n cp) n (xs.map fun y => .int .i64 y)) (hn : xs.length = n) (j : Nat) (y : Int) (hj : xs[j]? = some y) : w.cell? ⟨g, j, none⟩ = some (.int .i64 y) := by
  subst hn
  obtain ⟨a, cp', h1, h2⟩ := row_ints h
  cases h1
  obtain ⟨g', h3, h4⟩ := h2 (by rintro rfl; simp at hj)
  cases h3
  exact h4 j y hj
theorem row_form {w : World} {B n K : Nat} {T : TypeId} {xs : List Value} {v : Value} (h : w.ownsRow B T K v (n + 1) xs) : ∃ g cp, v = .slice (some ⟨g, 0, none⟩) (n + 1) cp ∧ B ≤ g := by
  rcases h.2 with ⟨_, h1⟩ | ⟨g, cap, cur, h1, h2, _⟩
  · cases h1
  · exact ⟨g, cap, h1, h2⟩
/-- what holds when i literals were looked at -/
def Trail (wL : World) (d i : Nat) (w' : World) : Prop := ∃ c g cp, Mem w' d c ∧ c 148 = .int .i64 (i : Int) ∧ c 147 = .slice (some ⟨g, 0, none⟩) 2 cp ∧ w'.cell? ⟨g, 1, none⟩ = some (.int .i64 2) ∧ g ≠ d ∧ c 120 = .slice none 0 0 ∧ c 22 = .bool false ∧ c 23 = .bool true ∧ c 25 = .bool false ∧ c 26 = .bool true ∧ Fr (fun k => d ≤ k) wL w'
def Begun (wL : World) (d : Nat) (c1 : Nat → Value) (rv : Value) (w' : World) : Prop := ∃ v', Mem w' d (upd (upd (upd c1 23 (.bool true)) 72 rv) 147 v') ∧ w'.ownsRow wL.heap.size 3 1 v' 1 [.int .i64 (-1)] ∧ v'.ownBlock ≠ some d ∧ Fr (fun k => k = d) wL w'
def TwoSt (wL : World) (d : Nat) (c1 : Nat → Value) (rv : Value) (i : Nat) (w' : World) : Prop := (i = 0 ∧ Begun wL d c1 rv w') ∨ (1 ≤ i ∧ i ≤ 2 ∧ Trail wL d i w')
theorem TwoSt.drew {wL : World} {d : Nat} {c1 : Nat → Value} {rv : Value} {i : Nat} {w : World} (h : TwoSt wL d c1 rv i w) : TwoSt wL d c1 rv i w.drew := by
  have D : Fr nob w w.drew := (Fr.refl nob w).drew
  rcases h with ⟨h0, v', h1, h2, h3, h4⟩ | ⟨h0, h1, c, g, cp, h2, h3, h4, h5, h6, h7, h8, h9, h10, h11, h12⟩
  · exact .inl ⟨h0, v', h1.kept D (fun h => h), D.row h2 (fun _ _ h => h), h3, h4.trans D (fun _ _ h => h.elim)⟩
  · exact .inr ⟨h0, h1, c, g, cp, h2.kept D (fun h => h), h3, h4, D.cell h5 (fun h => h), h6, h7, h8, h9, h10, h11, h12.trans D (fun _ _ h => h.elim)⟩
theorem upd_at (c : Nat → Value) (i : Nat) (v : Value) : upd c i v i = v := by unfold upd; rw [if_pos rfl]
set_option maxRecDepth 100000 in
theorem two_look1 (wL w w1 : World) (d : Nat) (gv cpv : Nat) (v1 v2 rv v' : Value) (hgv : d < gv) (k1 : wL.cell? ⟨gv, 0, none⟩ = some (.int .i64 1)) (k2 : wL.cell? ⟨gv, 1, none⟩ = some (.int .i64 2)) (f1 : wL.frozen? ⟨gv, 0, none⟩ = false) (f2 : wL.frozen? ⟨gv, 1, none⟩ = false)
    (r1 : row1 wL d (.slice (some ⟨gv, 0, none⟩) 2 cpv) v1)
    (hown : w.ownsRow wL.heap.size 3 1 v' 1 [.int .i64 (-1)]) (hod : v'.ownBlock ≠ some d) (hF : Fr (fun k => k = d) wL w)
    (hM : Mem w1 d (upd (upd (upd (upd (upd (upd zc 123 v1) 124 v2) 23 (.bool true)) 72 rv) 147 v') 148 (.int .i64 1))) (hF1 : Fr (fun k => k = d) w w1) :
    Calls Try.prog 116 #[.pointer (some ⟨d, 0, none⟩), .int .i64 1] w1 fun e w' => e = .returned (.bool true) ∧ Trail wL d 1 w' := by
  have hF2 := hF.trans hF1 (fun _ _ h => h)
  have hgn : ¬ gv = d := by omega
  have hL1 : gv < wL.heap.size := lt_of_cell k1
  have hdL : d < wL.heap.size := by omega
  obtain ⟨B1, o1, p1⟩ := r1
  obtain ⟨g1, cp1, rfl, hB1⟩ := row_form o1
  have hg1 : d < g1 := p1 g1 rfl
  obtain ⟨q1, _⟩ := row_cell o1
  have hL2 : g1 < wL.heap.size := lt_of_cell q1
  have o2 := hF2.row o1 (fun g hg (e : g = d) => by have h3 : g1 = g := Option.some.inj hg; omega)
  have own1 := hF1.row hown (fun g hg (e : g = d) => hod (by rw [hg, e]))
  obtain ⟨gt, ct, rfl, hBt⟩ := row_form hown
  have hs := hF2.size
  refine (look_one wL.heap.size B1 d gv g1 cpv cp1 _ 1 2 25 26 22 1 [.int .i64 (-1)] w1 rfl (by decide) rfl (by decide) rfl (by decide) hM rfl o2
    (hF2.cell' k1 hgn) (hF2.cell' k2 hgn) ((hF2.frozen hL1 hgn).trans f1) ((hF2.frozen hL1 hgn).trans f2) rfl rfl hs (by omega) own1 (by decide) hod
    (fun e => by have h : gt = gv := Option.some.inj e; omega) (fun e => by have h : gt = g1 := Option.some.inj e; omega) (by omega) (by omega)
    (fun e => by subst e; rw [k1] at q1; cases q1)).mono ?_
  rintro e w2 ⟨rfl, v3, vk, hM2, own2, hod2, F2⟩
  obtain ⟨g3, c3, rfl, hB3⟩ := row_form own2
  have hc3 : w2.cell? ⟨g3, 1, none⟩ = some (.int .i64 2) := trail_cell (xs := [-1, 2]) own2 rfl 1 2 rfl
  refine ⟨rfl, _, g3, c3, hM2, rfl, rfl, hc3, fun e => hod2 (by rw [e]; rfl), rfl, rfl, rfl, rfl, rfl, ?_⟩
  refine hF2.trans' F2 (fun k _ h => Nat.le_of_eq h.symm) ?_
  rintro k hk (h | h | h | h)
  · exact Nat.le_of_eq h.symm
  · omega
  · omega
  · have h3 : gt = k := Option.some.inj h
    omega
set_option maxRecDepth 100000 in
theorem two_add2 (d gb cp : Nat) (w0 w : World) (hR : Row2 w0 d w) (hb : w.cell? ⟨gb, 0, none⟩ = some (.int .i64 (-1))) :
    Calls Try.prog 64 #[.pointer (some ⟨d, 0, none⟩), .slice (some ⟨gb, 0, none⟩) 1 cp] w fun e w' => e = .returned (.tuple #[]) ∧ Got2 w d w' := by
  obtain ⟨gv, cpv, v1, v2, hgv, k1, k2, f1, f2, hM, r1, r2, _⟩ := hR
  refine add_gen d gb cp (upd (upd zc 123 v1) 124 v2) [-1] (fun _ => true) w (Got2 w d) hM rfl (by decide) (by decide) ?_ ?_
  · intro j y hj
    match j, hj with
    | 0, hj => obtain rfl : -1 = y := Option.some.inj hj; exact ⟨hb, 25, by decide, by decide, rfl⟩
    | (k + 1), hj => simp at hj
  · intro v wL hrow hML hF
    refine .inr (.inr ⟨rfl, ?_⟩)
    obtain ⟨a, cpu, rfl, hc⟩ := row_ints (ys := [-1]) hrow
    obtain ⟨gu, rfl, hcc⟩ := hc (by simp)
    have hdB : d < wL.heap.size := lt_of_cell (hML 0 (by decide)).1
    have hgL : gv < w.heap.size := lt_of_cell k1
    obtain ⟨rv, hrv⟩ : ∃ rv : Value, Value.slice (some ⟨gu, 0, none⟩) 1 cpu = rv := ⟨_, rfl⟩
    refine (follows_gen d gu cpu 1 (-1) wL (Begun wL d (upd (upd zc 123 v1) 124 v2) rv) (TwoSt wL d (upd (upd zc 123 v1) 124 v2) rv 2) (hcc 0 (-1) rfl) (Nat.le_refl _) ?_ ?_).mono ?_
    · rw [hrv]
      refine (note_new wL.heap.size d (upd (upd zc 123 v1) 124 v2) (-1) 23 25 0 [] rv wL ⟨_, _, _, hrv.symm⟩ rfl (by decide) rfl (by decide) hML rfl rfl (Nat.le_refl _) (World.ownsRow_nil _ _ _ _) (by decide) (fun e => by cases e) hdB).mono ?_
      rintro e w2 ⟨rfl, v', hM2, own2, hod2, F2⟩
      refine ⟨rfl, v', hM2, own2, hod2, F2.mono ?_⟩
      rintro k _ (h | h)
      · exact h
      · cases h
    · intro w2 hP
      refine propagate_gen d 2 (TwoSt wL d (upd (upd zc 123 v1) 124 v2) rv) w2 0 (by decide) (by decide) ?_ (fun i w h => h.drew) (.inl ⟨rfl, hP⟩)
      rintro i w3 hi (⟨rfl, v', hM3, own3, hod3, F3⟩ | ⟨h1, h2, c, g, cpt, hM3, h148, h147, hg1, hgd, h120, h22, h23, h25, h26, F3⟩)
      · obtain ⟨gt, ct, rfl, hBt⟩ := row_form own3
        have hcl : w3.cell? ⟨gt, 0, none⟩ = some (.int .i64 (-1)) := trail_cell (xs := [-1]) own3 rfl 0 (-1) rfl
        refine ⟨_, gt, 1, ct, -1, hM3, rfl, rfl, by decide, (fun e => by cases e), fun _ => ⟨by decide, by decide, by decide, hcl, fun w4 hM4 F4 => ?_⟩⟩
        refine (two_look1 wL w3 w4 d gv cpv v1 v2 rv _ hgv (hF.cell' k1 (fun h => h)) (hF.cell' k2 (fun h => h)) ((hF.frozen hgL (fun h => h)).trans f1) ((hF.frozen hgL (fun h => h)).trans f2) (r1.kept (hF.mono (fun _ _ h => h.elim))) own3 hod3 F3 hM4 F4).mono ?_
        rintro e w5 ⟨rfl, h⟩
        exact ⟨rfl, .inr ⟨Nat.le_refl _, by decide, h⟩⟩
      · refine ⟨c, g, 2, cpt, 2, hM3, h148, h147, by decide, (fun _ => rfl), fun hi2 => ?_⟩
        obtain rfl : i = 1 := by omega
        refine ⟨by decide, by decide, by decide, hg1, fun w4 hM4 F4 => ?_⟩
        refine (look_nil d (upd c 148 (.int .i64 2)) (-2) 22 w4 rfl (by decide) hM4 h120).mono ?_
        rintro e w5 ⟨rfl, hM5, F5⟩
        have F6 := F4.trans F5 (fun _ _ h => h)
        exact ⟨rfl, .inr ⟨by decide, by decide, _, g, cpt, hM5, rfl, h147, F6.cell' hg1 hgd, hgd, h120, h22, h23, h25, h26, F3.trans F6 (fun k _ h => Nat.le_of_eq h.symm)⟩⟩
    · rintro e w3 ⟨rfl, ⟨h0, _⟩ | ⟨_, _, c, g, cpt, hM3, h148, h147, hg1, hgd, h120, h22, h23, h25, h26, F3⟩⟩
      · cases h0
      · refine ⟨rfl, c, g, 2, cpt, hM3, h147, by decide, fun w4 hM4 F4 => ?_⟩
        exact ⟨_, hM4, h22, h23, h25, h26, rfl, (hF.mono (fun _ _ h => h.elim)).trans (F3.trans F4 (fun k _ h => Nat.le_of_eq h.symm)) (fun _ _ h => h)⟩
end Go.Proofs.Ytaojojjdfdlgpaa
