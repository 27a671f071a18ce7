import Derived.Test.YtalnhlebgofiiaaGreatDoorApp
import Derived.BigQuiet
import Derived.Deep.QuietTactic
import Derived.DeepKeys4
import Derived.StillTailTactics
import Derived.Deep.RegionLaw
namespace Go.Proofs.YtalnhlebgofiiaaGreatDoor
open Go.RowKit

/-- the key of a node -/
def nk (r : Nat × Nat × Nat) : Value := .agg #[.int .u8 (r.1 : Int), .int .u32 (r.2.1 : Int), .int .u32 (r.2.2 : Int)]
theorem nk_inj (a b : Nat × Nat × Nat) (h : nk a = nk b) : a = b := by
  obtain ⟨a1, a2, a3⟩ := a
  obtain ⟨b1, b2, b3⟩ := b
  simp only [nk, Value.agg.injEq, Array.mk.injEq, List.cons.injEq, Value.int.injEq, true_and, and_true] at h
  obtain ⟨h1, h2, h3⟩ := h
  have e1 : a1 = b1 := by omega
  have e2 : a2 = b2 := by omega
  have e3 : a3 = b3 := by omega
  rw [e1, e2, e3]

theorem laidOut : laidOutB Tryz.prog = true := by kernel_rfl
theorem nkKeyed : Maps.Keyed Tryz.prog 98 := Maps.Keyed.of_law (deep_law_laid (m := 5) laidOut (by decide) (of_decide_eq_true (by kernel_rfl)) (by kernel_rfl) (by kernel_rfl))

theorem types_pos : ∃ k, Tryz.prog.types.size = k + 1 := by
  have h : 1 ≤ Tryz.prog.types.size := of_decide_eq_true (by kernel_rfl)
  exact ⟨_, (Nat.sub_add_cancel h).symm⟩

theorem wf_u8 {n : Nat} (h : n < 256) : (Lit.int .u8 (n : Int)).wf = true := by
  have h1 : IntKind.u8.min = 0 := rfl
  have h2 : IntKind.u8.max = 255 := rfl
  simp only [Lit.wf, Bool.and_eq_true, decide_eq_true_eq]; omega
theorem wf_u32 {n : Nat} (h : n < 4294967296) : (Lit.int .u32 (n : Int)).wf = true := by
  have h1 : IntKind.u32.min = 0 := rfl
  have h2 : IntKind.u32.max = 4294967295 := rfl
  simp only [Lit.wf, Bool.and_eq_true, decide_eq_true_eq]; omega

theorem cells_node : Tryz.prog.cellsOf 98 = 3 := by kernel_rfl
theorem cells_u8 : Tryz.prog.cellsOf 5 = 1 := by kernel_rfl
theorem cells_u32 : Tryz.prog.cellsOf 23 = 1 := by kernel_rfl
theorem key_node : Tryz.prog.keyType 98 = true := by kernel_rfl

theorem nkKey {r : Nat × Nat × Nat} (h1 : r.1 < 256) (h2 : r.2.1 < 4294967296) (h3 : r.2.2 < 4294967296) : ∃ l, keyOf Tryz.prog 98 (nk r) = some l := by
  have e1 := wf_u8 h1
  have e2 := wf_u32 h2
  have e3 := wf_u32 h3
  rw [← Option.isSome_iff_exists]
  obtain ⟨k, hk⟩ := types_pos
  unfold keyOf
  rw [Tryz.underlying98]
  simp only [key_node, nk, Value.formed, Tryz.underlying98, cells_node, Value.cells, hk]
  simp only [Program.keyLits, Tryz.underlying98, cells_node]
  simp [e1, e2, e3, cells_u8, cells_u32]

/-- The work: its code, what it has found; the nodes that it has listed. -/
structure Wk (w : World) (wb mb : Nat) (v : Value) (rs : List (Nat × Nat × Nat)) (m : (Nat × Nat × Nat) → Option Value) : Prop where
  code : w.cell? ⟨wb, 0, none⟩ = some v
  found : w.cell? ⟨wb, 1, none⟩ = some (.map (some mb))
  open_ : w.frozen? ⟨wb, 0, none⟩ = false
  row : w.ownsRow 0 5 1 v (7 * rs.length) (bs (Bd.code rs))
  map : IsMap Tryz.prog 98 nk w mb rs.length m
  ne : wb ≠ mb
  apart : ∀ g, v.ownBlock = some g → g ≠ wb ∧ g ≠ mb

def foot (wb mb : Nat) (v : Value) (k : Nat) : Prop := k = wb ∨ k = mb ∨ v.ownBlock = some k

set_option maxRecDepth 100000 in
set_option maxHeartbeats 400000 in
theorem node_same (wb i p : Nat) (w : World) :
    Calls Tryz.prog 60 #[.pointer (some ⟨wb, 0, none⟩), .int .i64 (i : Int), .int .u32 (p : Int), .int .u32 (p : Int)] w fun e w' => e = .returned (.int .u32 (p : Int)) ∧ w = w' := by
  go_enter Tryz.func60, Tryz.ntmps60
  go_wp2
  go_ret
  exact ⟨rfl, rfl⟩

set_option maxRecDepth 100000 in
set_option maxHeartbeats 400000 in
theorem node_found (wb mb i pl ph p : Nat) (v : Value) (rs : List (Nat × Nat × Nat)) (m : (Nat × Nat × Nat) → Option Value) (w : World) (hW : Wk w wb mb v rs m) (hi : i < 24) (hl : pl < 16777216) (hh : ph < 16777216) (hne : pl ≠ ph)
    (hm : m (i, pl, ph) = some (.int .u32 (p : Int))) :
    Calls Tryz.prog 60 #[.pointer (some ⟨wb, 0, none⟩), .int .i64 (i : Int), .int .u32 (pl : Int), .int .u32 (ph : Int)] w fun e w' => e = .returned (.int .u32 (p : Int)) ∧ Below w.heap.size w w' := by
  have hne' : ((pl : Int) == (ph : Int)) = false := by simp; omega
  have hlt := lt_of_cell hW.found
  have hf := hW.found
  have hlook : ∀ d, (Instr.lookup 144 (.map (some mb)) (.agg #[.int .u8 (i : Int), .int .u32 (pl : Int), .int .u32 (ph : Int)]) true).run Tryz.prog (((w.alloc (.cells #[.int .u8 (i : Int), .int .u32 (pl : Int), .int .u32 (ph : Int)] 98))).drewN d) = .ok (.tuple #[.int .u32 (p : Int), .bool true]) (((w.alloc (.cells #[.int .u8 (i : Int), .int .u32 (pl : Int), .int .u32 (ph : Int)] 98))).drewN d) := fun d => by
    obtain ⟨l, hkey⟩ := nkKey (r := (i, pl, ph)) (by simp; omega) (by simp; omega) (by simp; omega)
    exact ((((Fr.refl nob w).alloc _).drewN d).map hW.map (fun h => h)).lookup_yes nkKeyed nk_inj Tryz.underlying144 hkey hm
  go_enter Tryz.func60, Tryz.ntmps60
  go_wp2
  go_quiet (fail)
  go_wp2
  go_ret
  exact ⟨rfl, (((Fr.refl nob w).alloc _).drewN _).to_below (Nat.le_refl _) (fun _ h => h.elim)⟩

/-- The work between two steps of 'node', and what lies before it. -/
structure Mid (w0 : World) (wb mb : Nat) (v0 : Value) (W : World) (g k cap : Nat) (l : List UInt8) (N : Nat) (m : (Nat × Nat × Nat) → Option Value) : Prop where
  code : W.cell? ⟨wb, 0, none⟩ = some (.slice (some ⟨g, 0, none⟩) k cap)
  found : W.cell? ⟨wb, 1, none⟩ = some (.map (some mb))
  open_ : W.frozen? ⟨wb, 0, none⟩ = false
  row : W.ownsRow 0 5 1 (.slice (some ⟨g, 0, none⟩) k cap) k (bs l)
  map : IsMap Tryz.prog 98 nk W mb N m
  ng : g ≠ wb
  ngm : g ≠ mb
  fr : Fr (foot wb mb v0) w0 W
  src : v0.ownBlock = some g ∨ w0.heap.size ≤ g

theorem Mid.store {w0 W : World} {wb mb : Nat} {v0 u : Value} {g k cap N : Nat} {l : List UInt8} {m : (Nat × Nat × Nat) → Option Value} (hc : W.cell? ⟨wb, 0, none⟩ = some u) (hf : W.cell? ⟨wb, 1, none⟩ = some (.map (some mb)))
    (ho : W.frozen? ⟨wb, 0, none⟩ = false) (hr : W.ownsRow 0 5 1 (.slice (some ⟨g, 0, none⟩) k cap) k (bs l)) (hm : IsMap Tryz.prog 98 nk W mb N m) (ng : g ≠ wb) (ngm : g ≠ mb) (ne : wb ≠ mb)
    (fr : Fr (foot wb mb v0) w0 W) (src : v0.ownBlock = some g ∨ w0.heap.size ≤ g) :
    Mid w0 wb mb v0 (W.setCell ⟨wb, 0, none⟩ (.slice (some ⟨g, 0, none⟩) k cap)) g k cap l N m := by
  have frS := fr_store W wb 0 (.slice (some ⟨g, 0, none⟩) k cap)
  refine ⟨World.cell?_setCell_same' _ _ _ (by rw [hc]; rfl), ?_, ?_, frS.row hr (fun g' h => by cases h; exact ng), frS.map hm (fun h => ne h.symm), ng, ngm, fr.trans frS (fun k _ h => .inl h), src⟩
  · rw [World.cell?_setCell_other _ _ _ _ (by simp)]; exact hf
  · rw [World.frozen?_setCell]; exact ho

theorem Mid.step {w0 W W5 : World} {wb mb : Nat} {v0 : Value} {g k cap g5 k5 cap5 N : Nat} {l l5 : List UInt8} {m : (Nat × Nat × Nat) → Option Value} (M : Mid w0 wb mb v0 W g k cap l N m) (ne : wb ≠ mb)
    (hr : W5.ownsRow 0 5 1 (.slice (some ⟨g5, 0, none⟩) k5 cap5) k5 (bs l5)) (gr : W.grownBy W5 (some g)) (at5 : some g = some g5 ∨ W.heap.size ≤ g5) :
    W5.cell? ⟨wb, 0, none⟩ = some (.slice (some ⟨g, 0, none⟩) k cap) ∧ W5.frozen? ⟨wb, 0, none⟩ = false ∧ Mid w0 wb mb v0 (W5.setCell ⟨wb, 0, none⟩ (.slice (some ⟨g5, 0, none⟩) k5 cap5)) g5 k5 cap5 l5 N m := by
  have hwb := lt_of_cell M.code
  have c5 := gr.cell M.code (by simp; exact fun h => M.ng h.symm)
  have c6 := gr.cell M.found (by simp; exact fun h => M.ng h.symm)
  have f5 : W5.frozen? ⟨wb, 0, none⟩ = false := (World.frozen?_of_block (gr.block wb hwb (by simp; exact fun h => M.ng h.symm))).trans M.open_
  have hmb := M.map.lt
  refine ⟨c5, f5, Mid.store c5 c6 f5 hr (M.map.kept gr (by simp; exact fun h => M.ngm h.symm)) ?_ ?_ ne ?_ ?_⟩
  · rcases at5 with h | h
    · cases h; exact M.ng
    · intro e
      have e' : g5 = wb := e
      have h3 : wb < W.heap.size := hwb
      omega
  · rcases at5 with h | h
    · cases h; exact M.ngm
    · intro e
      have e' : g5 = mb := e
      omega
  · refine M.fr.grown gr (fun k hk hlt => ?_)
    cases hk
    rcases M.src with h | h
    · exact .inr (.inr h)
    · omega
  · rcases at5 with h | h
    · cases h; exact M.src
    · exact .inr (Nat.le_trans M.fr.size h)

theorem Mid.done {w0 W : World} {wb mb : Nat} {v0 : Value} {g cap i pl ph n : Nat} {rs : List (Nat × Nat × Nat)} {m : (Nat × Nat × Nat) → Option Value}
    (M : Mid w0 wb mb v0 W g (7 * n + 1 + 3 + 3) cap (Bd.code rs ++ [UInt8.ofNat i] ++ Bd.b3 pl ++ Bd.b3 ph) (n + 1) m) (ne : wb ≠ mb) (hn : rs.length = n) :
    Wk W wb mb (.slice (some ⟨g, 0, none⟩) (7 * n + 1 + 3 + 3) cap) (rs ++ [(i, pl, ph)]) m := by
  have e1 : 7 * (rs ++ [(i, pl, ph)]).length = 7 * n + 1 + 3 + 3 := by simp [hn]; omega
  have e2 : Bd.code (rs ++ [(i, pl, ph)]) = Bd.code rs ++ [UInt8.ofNat i] ++ Bd.b3 pl ++ Bd.b3 ph := by rw [Bd.code_snoc]; simp [Bd.rowCode]
  have e3 : (rs ++ [(i, pl, ph)]).length = n + 1 := by simp [hn]
  exact ⟨M.code, M.found, M.open_, by rw [e1, e2]; exact M.row, by rw [e3]; exact M.map, ne, fun g' h => by cases h; exact ⟨M.ng, M.ngm⟩⟩

set_option maxRecDepth 100000 in
set_option maxHeartbeats 1000000 in
theorem node_new (wb mb i pl ph n : Nat) (v : Value) (rs : List (Nat × Nat × Nat)) (m : (Nat × Nat × Nat) → Option Value) (w : World) (hW : Wk w wb mb v rs m) (hi : i < 24) (hl : pl < 16777216) (hh : ph < 16777216) (hne : pl ≠ ph)
    (hm : m (i, pl, ph) = none) (hn : rs.length = n) (hn2 : n < 4194304) :
    Calls Tryz.prog 60 #[.pointer (some ⟨wb, 0, none⟩), .int .i64 (i : Int), .int .u32 (pl : Int), .int .u32 (ph : Int)] w fun e w' => ∃ v', e = .returned (.int .u32 ((n + 2 : Nat) : Int)) ∧
      Wk w' wb mb v' (rs ++ [(i, pl, ph)]) (putAt m (i, pl, ph) (.int .u32 ((n + 2 : Nat) : Int))) ∧ Fr (foot wb mb v) w w' ∧ ∀ g, v'.ownBlock = some g → v.ownBlock = some g ∨ w.heap.size ≤ g := by
  obtain ⟨i0, hi0, hz0, hz1, hz2⟩ := info_parts info_u8
  have hrow : w.ownsRow 0 5 1 v (7 * n) (bs (Bd.code rs)) := hn ▸ hW.row
  have hne' : ((pl : Int) == (ph : Int)) = false := by simp; omega
  have hlt := lt_of_cell hW.found
  have hf := hW.found
  have hc := hW.code
  obtain ⟨l, hkey⟩ := nkKey (r := (i, pl, ph)) (by simp; omega) (by simp; omega) (by simp; omega)
  have zero : ∀ w, (zeroValue 23).run Tryz.prog w = .ok (.int .u32 0) w := fun _ => by kernel_rfl
  have hmap := fun d => (((Fr.refl nob w).alloc (.cells #[.int .u8 (i : Int), .int .u32 (pl : Int), .int .u32 (ph : Int)] 98)).drewN d).map hW.map (fun h => h)
  have hlook := fun d => (hmap d).lookup_no nkKeyed nk_inj Tryz.underlying144 (zero _) hkey hm
  have hlen := fun d ty => (hmap d).len Tryz.underlying144 (by omega) ty
  rw [hn] at hlen
  have hn0 : (0 : Int) ≤ (n : Int) := by omega
  have hn1 : (n : Int) < 4194304 := by omega
  simp only [nk] at hlook
  have Hm := Lib.hid hm
  have Hbi : Hid (bs (Bd.code rs) ++ [.int .u8 (i : Int)] = bs (Bd.code rs ++ [UInt8.ofNat i])) := Lib.hid (by
    have h1 : ((UInt8.ofNat i).toNat : Int) = (i : Int) := by simp only [UInt8.toNat_ofNat']; omega
    rw [bs_append, bs, bs]; simp only [List.map_cons, List.map_nil, h1])
  clear hm hmap zero
  go_enter Tryz.func60, Tryz.ntmps60
  go_wp2
  go_quiet (fail)
  go_wp2
  have fr1 : Fr nob w ((w.alloc (.cells #[.int .u8 (i : Int), .int .u32 (pl : Int), .int .u32 (ph : Int)] 98)).drewN nq) := ((Fr.refl nob w).alloc _).drewN _
  have cn0 : ((w.alloc (.cells #[.int .u8 (i : Int), .int .u32 (pl : Int), .int .u32 (ph : Int)] 98)).drewN nq).cell? ⟨w.heap.size, 0, none⟩ = some (.int .u8 (i : Int)) := World.cell?_alloc_at _ _ _ _ rfl
  have cn1 : ((w.alloc (.cells #[.int .u8 (i : Int), .int .u32 (pl : Int), .int .u32 (ph : Int)] 98)).drewN nq).cell? ⟨w.heap.size, 1, none⟩ = some (.int .u32 (pl : Int)) := World.cell?_alloc_at _ _ _ _ rfl
  have cn2 : ((w.alloc (.cells #[.int .u8 (i : Int), .int .u32 (pl : Int), .int .u32 (ph : Int)] 98)).drewN nq).cell? ⟨w.heap.size, 2, none⟩ = some (.int .u32 (ph : Int)) := World.cell?_alloc_at _ _ _ _ rfl
  have z1 : ((w.alloc (.cells #[.int .u8 (i : Int), .int .u32 (pl : Int), .int .u32 (ph : Int)] 98)).drewN nq).heap.size = w.heap.size + 1 := World.size_alloc _ _
  generalize ((w.alloc (.cells #[.int .u8 (i : Int), .int .u32 (pl : Int), .int .u32 (ph : Int)] 98)).drewN nq) = W1 at *
  have c0 := fr1.cell hc (fun h => h)
  have c1 := fr1.cell hf (fun h => h)
  have f1 := fr1.frozen (p := ⟨wb, 0, none⟩) hlt (fun h => h)
  have row1 := fr1.row hrow (fun _ _ h => h)
  have map1 := fr1.map hW.map (fun h => h)
  clear hlook hlen hf hc
  go_still_tail 6, (by kernel_rfl)
  go_wp2_with (at_mapUpdate; refine wpList_mapUpdate_new rfl _ _ _ rfl nkKeyed nk_inj Tryz.underlying144 rfl map1 (i, pl, ph) (.int .u32 ((n : Int) + 2)) rfl rfl hkey Hm.out ?_)
  intro W2 map2 gr2
  replace gr2 := undrew gr2
  have fr2 : Fr (foot wb mb v) w W2 := (fr1.mono (fun _ _ h => h.elim)).grown gr2 (fun k hk _ => .inr (.inl (by cases hk; rfl)))
  have d0 := gr2.cell c0 (by simp; exact fun h => hW.ne h)
  have d1 := gr2.cell c1 (by simp; exact fun h => hW.ne h)
  have e0 := gr2.cell cn0 (by simp; have := hW.map.lt; omega)
  have row2 := row1.kept gr2 (.inr (fun h => (hW.apart mb h).2 rfl))
  have z2 : w.heap.size < W2.heap.size := by have := gr2.size; omega
  have f2 : W2.frozen? ⟨wb, 0, none⟩ = false := (World.frozen?_of_block (gr2.block wb (by omega) (by simp; exact fun h => hW.ne h))).trans (f1.trans hW.open_)
  have d0' := cell_alloc_l d0
  have e0' := cell_alloc_l e0
  have f2' : ∀ o, (W2.alloc o).frozen? ⟨wb, 0, none⟩ = false := fun o => (World.frozen?_of_block (Below.heap_alloc W2 o wb (by omega))).trans f2
  have ag : v.ownBlock ≠ some wb := fun h => (hW.apart wb h).1 rfl
  have ak : v.ownBlock ≠ some w.heap.size := fun h => by have := (hW.row.lt _ h).2; omega
  clear c0 c1 cn0 cn1 cn2 fr1 row1 map1 gr2 z1 f1
  go_wp2
  go_region_law
    ((refine step_append_lies _ (by rfl) _ _ _ (by rfl) 0 5 i0 _ 1 1 Tryz.underlying145 hi0 hz0 hz1 hz2 rfl (by omega) v (7 * n) (bs (Bd.code rs)) (by rfl) ((row2.alloc _).drew)
        ⟨W2.heap.size, 0, none⟩ 1 1 [.int .u8 (i : Int)] (by rfl) (by rfl) (World.news_of_block (cs := #[.int .u8 (i : Int)]) (t := 5) (fr := (0, 0)) (heap_alloc_new W2 _)) (by simp [Value.oneCell'])
        (by omega) (by unfold maxLen; omega) (by omega) (Nat.zero_le _) (W2.heap.size + 1) (by simp) ?_; intro g3 cap3 W3 row3 gr3 at3 lt3
      have fr3 : Fr (foot wb mb v) w W3 := (((fr2.alloc _).drew).grown gr3 (fun k hk _ => .inr (.inr hk)))
      have d3 : W3.cell? ⟨wb, 0, none⟩ = some v := gr3.cell (cell_alloc_l d0 _) (Ne.symm ag)
      have d4 : W3.cell? ⟨wb, 1, none⟩ = some (.map (some mb)) := gr3.cell (cell_alloc_l d1 _) (Ne.symm ag)
      have f3 : W3.frozen? ⟨wb, 0, none⟩ = false := (World.frozen?_of_block (gr3.block wb (by simp; omega) (Ne.symm ag))).trans (f2' _)
      have map3 := ((map2.kept (World.grownBy_alloc W2 _ none) (by simp)).kept (undrew gr3) (fun h => (hW.apart mb h.symm).2 rfl))
      clear gr3))
  all_goals
    have ng : g3 ≠ wb := by
      rcases at3 with h | h
      · exact (hW.apart g3 h).1
      · omega
    have ngm : g3 ≠ mb := by
      rcases at3 with h | h
      · exact (hW.apart g3 h).2
      · have := map2.lt; omega
    rw [Hbi.out] at row3
    have M4 := Mid.store d3 d4 f3 row3 map3 ng ngm hW.ne fr3 (at3.imp id (by omega))
    generalize W3.setCell ⟨wb, 0, none⟩ (.slice (some ⟨g3, 0, none⟩) (7 * n + 1) cap3) = W4 at *
    have c4 := M4.code
    clear d0 d1 d0' e0 e0' d3 d4 f2 f2' f3 row2 map2 fr2 row3 map3 fr3
    go_wp2_with fail
    refine (appendPlace_any _ _ _ pl W4 hl M4.row (by omega)).mono ?_
    rintro e W5 ⟨g5, cap5, rfl, row5, gr5, at5⟩
    obtain ⟨c5, f5, M5⟩ := M4.step hW.ne row5 gr5 at5
    clear c4 M4 row5 gr5 at5
    go_wp2_with fail
    generalize W5.setCell ⟨wb, 0, none⟩ (.slice (some ⟨g5, 0, none⟩) (7 * n + 1 + 3) cap5) = W6 at *
    refine (appendPlace_any _ _ _ ph W6 hh M5.row (by omega)).mono ?_
    rintro e W7 ⟨g7, cap7, rfl, row7, gr7, at7⟩
    obtain ⟨c7, f7, M7⟩ := M5.step hW.ne row7 gr7 at7
    clear M5 row7 gr7 at7
    go_wp2_with fail
    go_ret
    exact ⟨_, rfl, M7.done hW.ne hn, M7.fr, fun g h => by cases h; exact M7.src⟩
end Go.Proofs.YtalnhlebgofiiaaGreatDoor
