import Derived.Test.YtalnhlebgofiiaaGreatDoorRefA
import Derived.BigQuiet
import Derived.Deep.QuietTactic
namespace Go.Proofs.YtalnhlebgofiiaaGreatDoor
open Go.RowKit
open Bd

theorem SRow.below {w w' : World} {v : Value} {l : List Value} (h : SRow w v l) (hb : Below w.heap.size w w') : SRow w' v l := by
  obtain ⟨a, cap, rfl, hc⟩ := h
  exact ⟨a, cap, rfl, fun j u hj => let ⟨g, h1, h2⟩ := hc j u hj; ⟨g, h1, (hb.cell (p := ⟨g, j, none⟩) (lt_of_cell h2)).trans h2⟩⟩
theorem SRow.store {w : World} {g b n cap : Nat} {l : List Value} (h : SRow w (.slice (some ⟨g, 0, none⟩) n cap) l) (hne : b ≠ g) (o : Nat) (u : Value) : SRow (w.setCell ⟨b, o, none⟩ u) (.slice (some ⟨g, 0, none⟩) n cap) l := by
  obtain ⟨a, cap', e, hc⟩ := h
  cases e
  exact ⟨_, _, rfl, fun j u' hj => let ⟨g', h1, h2⟩ := hc j u' hj; ⟨g', h1, (fr_store w b o u).cell h2 (by cases h1; exact Ne.symm hne)⟩⟩

/-- the first k of a table, the others false -/
def part (T : List Bool) (k : Nat) : List Value := (T.take k ++ List.replicate (T.length - k) false).map .bool
theorem part_zero (T : List Bool) : part T 0 = List.replicate T.length (.bool false) := by simp [part]
theorem part_all (T : List Bool) : part T T.length = T.map .bool := by simp [part]
theorem part_set (T : List Bool) (k : Nat) (h : k < T.length) : (part T k).set k (.bool T[k]) = part T (k + 1) := by
  unfold part
  rw [← List.map_set]
  congr 1
  have e : T.length - k = (T.length - (k + 1)) + 1 := by omega
  have hl : (T.take k).length = k := by rw [List.length_take]; omega
  rw [List.set_append_right _ _ (by omega), hl, Nat.sub_self, e, List.replicate_succ, List.set_cons_zero, List.take_succ_eq_append_getElem h, List.append_assoc]
  rfl
theorem part_length (T : List Bool) (k : Nat) (h : k ≤ T.length) : (part T k).length = T.length := by simp [part]; omega

theorem own0 {w : World} {base : Nat} {e : TypeId} {size n : Nat} {v : Value} {xs : List Value} (h : w.ownsRow base e size v n xs) : w.ownsRow 0 e size v n xs :=
  ⟨h.1, h.2.imp id (fun ⟨g, cap, cur, e, _, rest⟩ => ⟨g, cap, cur, e, Nat.zero_le _, rest⟩)⟩

/-- a loop that fills a table: the set 'out' at block b, its table at block g -/
structure FillSt (w0 : World) (b g : Nat) (sv : Value) (T : List Bool) (k : Nat) (wr : World) : Prop where
  o0 : wr.cell? ⟨b, 0, none⟩ = some sv
  o1 : wr.cell? ⟨b, 1, none⟩ = some (.slice (some ⟨g, 0, none⟩) T.length T.length)
  row : wr.ownsRow 0 4 1 (.slice (some ⟨g, 0, none⟩) T.length T.length) T.length (part T k)
  ne : b ≠ g
  fr : Fr (fun j => j = g) w0 wr

theorem FillSt.start {w w1 : World} {g m : Nat} {sv : Value} {T : List Bool} {T0 : TypeId} (hm : T.length = m) (row : w1.ownsRow w.heap.size 4 1 (.slice (some ⟨g, 0, none⟩) m m) m (List.replicate m (.bool false))) : FillSt (w1.alloc (.cells #[sv, .slice (some ⟨g, 0, none⟩) m m] T0)) w1.heap.size g sv T 0 (w1.alloc (.cells #[sv, .slice (some ⟨g, 0, none⟩) m m] T0)) ∧ w.heap.size ≤ g ∧ g < w1.heap.size := by
  subst hm
  obtain ⟨h0, h1⟩ := two_cells' w1 sv (.slice (some ⟨g, 0, none⟩) T.length T.length) T0
  have hl := row.lt g rfl
  exact ⟨⟨h0, h1, by rw [part_zero]; exact own0 (row.alloc _), by omega, Fr.refl _ _⟩, hl⟩

theorem FillSt.kept {w0 wr w' : World} {b g k : Nat} {sv : Value} {T : List Bool} (h : FillSt w0 b g sv T k wr) (fr : Fr nob wr w') : FillSt w0 b g sv T k w' :=
  ⟨fr.cell h.o0 (fun h => h), fr.cell h.o1 (fun h => h), fr.row h.row (fun _ _ h => h), h.ne, h.fr.trans fr (fun _ _ h => h.elim)⟩

theorem FillSt.put {w0 wr : World} {b g k : Nat} {sv : Value} {T : List Bool} (h : FillSt w0 b g sv T k wr) (hk : k < T.length) {x : Bool} (hx : T[k] = x) : FillSt w0 b g sv T (k + 1) (wr.setCell ⟨g, k, none⟩ (.bool x)) := by
  subst hx
  obtain ⟨h1, h2, h3, h4, h6⟩ := h
  have hs := (h3.stored k (.bool T[k])).1
  rw [part_set T k hk] at hs
  have fs := fr_store wr g k (.bool T[k])
  exact ⟨fs.cell h1 h4, fs.cell h2 h4, hs, h4, h6.trans fs (fun _ _ h => h)⟩

theorem FillSt.done {w0 wr : World} {b g : Nat} {sv : Value} {T : List Bool} (h : FillSt w0 b g sv T T.length wr) : SRow wr (.slice (some ⟨g, 0, none⟩) T.length T.length) (T.map .bool) := by
  have := h.row
  rw [part_all] at this
  exact SRow.of_own this

set_option maxRecDepth 100000 in
set_option maxHeartbeats 1000000 in
theorem RNot_any (V : List Nat) (f : Cfg → Bool) (v : Value) (w : World) (hs : RSet w v V f) : Calls Tryz.prog 79 #[v] w fun e w' => ∃ v', e = .returned v' ∧ RSet w' v' V (fun c => !f c) ∧ Below w.heap.size w w' := by
  obtain ⟨hV, hf, sv, st, rfl, h1, h2⟩ := hs
  obtain ⟨a, cap, rfl⟩ := h1.form
  obtain ⟨a2, cap2, rfl⟩ := h2.form
  have hl := rising_len hV
  have hpow : 2 ^ V.length ≤ 16777216 := Nat.pow_le_pow_right (by omega) hl
  have htl := tab_length V f
  have htn : tab V (fun c => !f c) = (tab V f).map (!·) := by simp [tab]
  generalize hT : tab V f = T at *
  have HT := Lib.hid htn
  have HT0 := Lib.hid hT
  clear htn hT
  simp only [List.length_map] at *
  have Htl := Lib.hid htl
  have hT16 : T.length ≤ 16777216 := by omega
  clear htl
  obtain ⟨b0, b1⟩ := two_cells' w (.slice a V.length cap) (.slice a2 T.length cap2) 36
  have b0' := cell_alloc_l b0 (.cells #[.slice none 0 0, .slice none 0 0] 36)
  have b1' := cell_alloc_l b1 (.cells #[.slice none 0 0, .slice none 0 0] 36)
  obtain ⟨r0, r1⟩ := two_cells' (w.alloc (.cells #[.slice a V.length cap, .slice a2 T.length cap2] 36)) (.slice none 0 0) (.slice none 0 0) 36
  clear b0 b1
  have fr : Fr nob w ((w.alloc (.cells #[.slice a V.length cap, .slice a2 T.length cap2] 36)).alloc (.cells #[.slice none 0 0, .slice none 0 0] 36)) := ((Fr.refl nob w).alloc _).alloc _
  go_enter Tryz.func79, Tryz.ntmps79
  go_wp2_with fail
  refine (Blank_len V.length T.length hl Htl.out a cap _).mono ?_
  rintro e w1 ⟨g, rfl, row1, hb1⟩
  have fr1 : Fr nob _ w1 := (Fr.refl nob _).below hb1
  replace b0' := fr1.cell' b0' (fun h => h)
  replace b1' := fr1.cell' b1' (fun h => h)
  have f0' : w1.frozen? ⟨w.heap.size + 1, 0, none⟩ = false := (fr1.frozen (p := ⟨w.heap.size + 1, 0, none⟩) (by simp) (fun h => h)).trans (World.frozen?_alloc_at _ _ _ _ (by simp))
  have f1' : w1.frozen? ⟨w.heap.size + 1, 1, none⟩ = false := (fr1.frozen (p := ⟨w.heap.size + 1, 1, none⟩) (by simp) (fun h => h)).trans (World.frozen?_alloc_at _ _ _ _ (by simp))
  simp only [World.size_alloc] at r0 r1
  replace r0 := fr1.cell' r0 (fun h => h)
  replace r1 := fr1.cell' r1 (fun h => h)
  have frw := fr.trans fr1 (fun _ _ h => h)
  clear fr fr1 hb1
  have hmap : (T.map (!·)).length = T.length := by simp
  obtain ⟨S0, hg1, hg2⟩ := FillSt.start (sv := .slice a V.length cap) (T0 := 36) hmap row1
  simp only [World.size_alloc] at hg1
  have fr2 : Fr nob w1 (w1.alloc (.cells #[.slice a V.length cap, .slice (some ⟨g, 0, none⟩) T.length T.length] 36)) := (Fr.refl nob w1).alloc _
  have z2 : w1.heap.size < (w1.alloc (.cells #[.slice a V.length cap, .slice (some ⟨g, 0, none⟩) T.length T.length] 36)).heap.size := by simp
  clear row1
  go_wp2_with fail
  generalize w1.alloc (.cells #[.slice a V.length cap, .slice (some ⟨g, 0, none⟩) T.length T.length] 36) = W2 at *
  replace b0' := fr2.cell' b0' (fun h => h)
  replace b1' := fr2.cell' b1' (fun h => h)
  have r0' := r0
  have r1' := r1
  replace r0 := fr2.cell' r0 (fun h => h)
  replace r1 := fr2.cell' r1 (fun h => h)
  have frw2 := frw.trans fr2 (fun _ _ h => h)
  have f0 : W2.frozen? ⟨w.heap.size + 1, 0, none⟩ = false := (fr2.frozen (p := ⟨w.heap.size + 1, 0, none⟩) (lt_of_cell r0') (fun h => h)).trans f0'
  have f1 : W2.frozen? ⟨w.heap.size + 1, 1, none⟩ = false := (fr2.frozen (p := ⟨w.heap.size + 1, 1, none⟩) (lt_of_cell r1') (fun h => h)).trans f1'
  have h2' := h2.kept frw2
  have h1' := h1.kept frw2
  clear fr2 frw
  have Hmap := Lib.hid hmap
  clear hmap
  go_loopw [4] (fun kv wr => ∃ k : Nat, k ≤ T.length ∧ kv = ik k ∧ FillSt W2 w1.heap.size g (.slice a V.length cap) (T.map (!·)) k wr) (fun kv _ => T.length - (intOf kv).toNat)
  case atStart => exact ⟨0, Nat.zero_le _, rfl, S0⟩
  case round =>
    clear S0
    obtain ⟨k, hk, rfl, S⟩ := hrel
    have q0 := S.fr.cell' b0' (by omega)
    have q1 := S.fr.cell' b1' (by omega)
    have o0 := S.o0
    have o1 := S.o1
    rw [Hmap.out] at o1
    by_cases hlt : k < T.length
    · have hcc : (T.map Value.bool)[k]? = some (.bool T[k]) := by simp [hlt]
      obtain ⟨g2, rfl, hcell⟩ := h2.at hcc
      have hg2l := lt_of_cell hcell
      obtain ⟨g2', e2, hcell2⟩ := h2'.at hcc
      cases e2
      simp only at hg2l
      have hcr := S.fr.cell' hcell2 (by omega)
      have hS := fun W (h : Fr nob wr W) => (S.kept h).put (k := k) (x := !T[k]) (by rw [Hmap.out]; exact hlt) (by simp)
      obtain ⟨x, hx⟩ : ∃ x, x = T[k] := ⟨_, rfl⟩
      rw [← hx] at hS hcr
      have hfz := S.row.frozenAt k
      have hok : (wr.cell? ⟨g, k, none⟩).isSome = true := by
        rw [S.row.cellAt k (by rw [Hmap.out]; omega)]
        have : k < (part (T.map (!·)) k).length := by rw [part_length _ _ (by rw [Hmap.out]; omega), Hmap.out]; exact hlt
        simp [this]
      obtain ⟨y, hy⟩ := Option.isSome_iff_exists.1 hok
      clear S hcell hcell2 hcc h2 h2' hx hok
      go_wp2_with fail
      go_still_tail 10, (by kernel_rfl)
      change wpList _ _ _ _ _ wr.drew
      have fd : Fr nob wr wr.drew := (Fr.refl nob wr).drew
      have hS3 := hS _ fd
      have hy3 : wr.drew.cell? ⟨g, k, none⟩ = some y := hy
      have hfz3 : wr.drew.frozen? ⟨g, k, none⟩ = false := hfz
      clear hS hy hfz q0 q1 o0 o1 hcr fd
      generalize wr.drew = W3 at *
      go_wp2_with fail
      refine ⟨⟨k + 1, by omega, by go_num, hS3⟩, by simp [intOf]; omega⟩
    · obtain rfl : k = T.length := by omega
      have s0 := S.fr.cell' r0 (by omega)
      have s1 := S.fr.cell' r1 (by omega)
      have sf0 := (S.fr.frozen (p := ⟨w.heap.size + 1, 0, none⟩) (lt_of_cell r0) (by simp; omega)).trans f0
      have sf1 := (S.fr.frozen (p := ⟨w.heap.size + 1, 1, none⟩) (lt_of_cell r1) (by simp; omega)).trans f1
      have S' := S
      rw [← Hmap.out] at S'
      have hd := S'.done
      rw [Hmap.out] at hd
      clear S'
      have hfw := frw2.trans' S.fr (T := fun k => w.heap.size ≤ k) (fun _ _ h => h.elim) (fun j hj e => by omega)
      go_wp2_with fail
      refine bodyPost_ret (v := .agg #[.slice a V.length cap, .slice (some ⟨g, 0, none⟩) T.length T.length]) (by simp [results, Tryz.results79, go_sem, s0, s1]) rfl ⟨_, rfl, ⟨hV, fun c d h => by show (!f c) = !f d; rw [hf c d h], _, _, rfl, ?_, ?_⟩, ?_⟩
      · exact h1.below (((hfw.setCell (p := ⟨w.heap.size + 1, 0, none⟩) (by simp) _).setCell (p := ⟨w.heap.size + 1, 1, none⟩) (by simp) _).to_below (Nat.le_refl _) (fun _ h => h))
      · rw [HT.out]
        exact (hd.store (by omega) 0 _).store (by omega) 1 _
      · exact ((hfw.setCell (p := ⟨w.heap.size + 1, 0, none⟩) (by simp) _).setCell (p := ⟨w.heap.size + 1, 1, none⟩) (by simp) _).to_below (Nat.le_refl _) (fun _ h => h)
end Go.Proofs.YtalnhlebgofiiaaGreatDoor
