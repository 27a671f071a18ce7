import Derived.Test.YtiainlccodnlmaaGreatDoorSaid
import Derived.Test.YtiainlccodnlmaaGreatDoorMake
namespace Go.Proofs.YtiainlccodnlmaaGreatDoor
open Go.RowKit Go.Shelf
open Bd

/-- a row is kept where a block is written whose first cell is nothing of a row's -/
theorem SRow.apart {w w' : World} {v : Value} {l : List Value} {g : Nat} {u0 : Value} (h : SRow w v l) (hl : ∀ u, l[0]? = some u → u ≠ u0) (hg : w.cell? ⟨g, 0, none⟩ = some u0) (fr : Fr (fun k => k = g) w w') : SRow w' v l := by
  obtain ⟨a, cap, rfl, hc⟩ := h
  refine ⟨a, cap, rfl, fun j u hj => ?_⟩
  obtain ⟨g', h1, h2⟩ := hc j u hj
  refine ⟨g', h1, fr.cell' h2 ?_⟩
  rintro rfl
  have hlt : 0 < l.length := by have := (List.getElem?_eq_some_iff.1 hj).1; omega
  obtain ⟨g2, e1, e2⟩ := hc 0 l[0] (by simp [hlt])
  rw [h1] at e1
  cases e1
  rw [hg] at e2
  exact hl _ (List.getElem?_eq_getElem hlt) (Option.some.inj e2).symm
theorem RSet.apart {w w' : World} {v : Value} {V : List Nat} {f : Cfg → Bool} {g : Nat} {u0 : Value} (h : RSet w v V f) (h1 : ∀ n, u0 ≠ .int .i64 n) (h2 : ∀ b, u0 ≠ .bool b) (hg : w.cell? ⟨g, 0, none⟩ = some u0) (fr : Fr (fun k => k = g) w w') : RSet w' v V f := by
  obtain ⟨k1, k2, sv, st, k3, k4, k5⟩ := h
  refine ⟨k1, k2, sv, st, k3, k4.apart (fun u hu => ?_) hg fr, k5.apart (fun u hu => ?_) hg fr⟩
  · rw [List.getElem?_map] at hu
    cases hv : V[0]? with
    | none => rw [hv] at hu; cases hu
    | some n => rw [hv] at hu; cases hu; exact (h1 _).symm
  · rw [List.getElem?_map] at hu
    cases hv : (tab V f)[0]? with
    | none => rw [hv] at hu; cases hu
    | some n => rw [hv] at hu; cases hu; exact (h2 _).symm

/-- the sets of both scripts, as they grow -/
structure BothSt (s t : List B) (w : World) (sv tv : Value) (wr : World) : Prop where
  fr : Fr nob w wr
  rowS : wr.ownsRow w.heap.size 32 2 sv s.length (s.flatMap dc)
  rowT : ∃ cs : List (Value × Value), cs.length = t.length ∧ (∀ p (h : p < cs.length), ∃ q n c u m d, cs[p] = (.slice q n c, .slice u m d)) ∧ (∀ p (h : p < cs.length), ∃ V, RSet wr (.agg #[cs[p].1, cs[p].2]) V (t.getD p .F).ev) ∧ wr.ownsRow w.heap.size 36 2 tv t.length (flatV cs)
theorem BothSt.kept {s t : List B} {w wr w' : World} {sv tv : Value} (h : BothSt s t w sv tv wr) (f : Fr nob wr w') : BothSt s t w sv tv w' := by
  obtain ⟨h1, h2, cs, h3, h4, h5, h6⟩ := h
  exact ⟨h1.trans f (fun _ _ h => h), f.row h2 (fun _ _ h => h), cs, h3, h4, fun p hp => let ⟨V, hV⟩ := h5 p hp; ⟨V, hV.kept f⟩, f.row h6 (fun _ _ h => h)⟩
theorem BothSt.tRow {s t : List B} {w wr : World} {sv tv : Value} (h : BothSt s t w sv tv wr) (h0 : 0 < t.length) : TRow wr tv t := by
  obtain ⟨h1, h2, cs, h3, h4, h5, h6⟩ := h
  rcases h6.2 with ⟨_, hn⟩ | ⟨g, cap, cur, rfl, _⟩
  · omega
  · refine ⟨g, cap, cs, rfl, h3, h4, h5, fun j u hj => ?_⟩
    have hl : (flatV cs).length = t.length * 2 := h6.1
    have hj2 : j < (flatV cs).length := (List.getElem?_eq_some_iff.1 hj).1
    rw [h6.cellAt j (by omega)]; exact hj
/-- one more set of the program's -/
theorem BothSt.addS {s t : List B} {b : B} {w wr w8 : World} {sv tv sv' : Value} (h : BothSt s t w sv tv wr) (h0 : 0 < s.length) (gr : wr.grownBy w8 sv.ownBlock) (row : w8.ownsRow w.heap.size 32 2 sv' (s ++ [b]).length ((s ++ [b]).flatMap dc)) : BothSt (s ++ [b]) t w sv' tv w8 := by
  obtain ⟨h1, h2, cs, h3, h4, h5, h6⟩ := h
  have hr := h2
  rcases h2.2 with ⟨_, hn⟩ | ⟨g, cap, cur, rfl, hb, hg, _⟩
  · omega
  have c0 : wr.cell? ⟨g, 0, none⟩ = some (.int .u32 (place (li s[0]) s[0] : Int)) := by
    rw [hr.cellAt 0 (by omega)]
    exact (dflat_at (L := s) (k := 0) (by simp [h0])).1
  have f : Fr (fun k => k = g) wr w8 := (Fr.refl _ wr).grown gr (fun k hk _ => by cases hk; rfl)
  refine ⟨h1.grown gr (fun k hk hlt => absurd hlt (by cases hk; exact Nat.not_lt.2 hb)), row, cs, h3, h4, fun p hp => let ⟨V, hV⟩ := h5 p hp; ⟨V, hV.apart (fun n e => by cases e) (fun b e => by cases e) c0 f⟩, f.row h6 (fun k hk e => ?_)⟩
  subst e
  rcases h6.2 with ⟨rfl, _⟩ | ⟨g', cap', cur', rfl, _, hg', _⟩
  · cases hk
  · cases hk
    rw [hg] at hg'
    have := Option.some.inj hg'
    simp only [Obj.cells.injEq] at this
    exact absurd this.2.1 (by decide)
theorem BothSt.keepS {s t : List B} {w wr w8 : World} {sv tv : Value} (h : BothSt s t w sv tv wr) (h0 : 0 < s.length) (gr : wr.grownBy w8 sv.ownBlock) {v : Value} {V : List Nat} {f : Cfg → Bool} (hs : RSet wr v V f) : RSet w8 v V f := by
  obtain ⟨h1, h2, -⟩ := h
  have hr := h2
  rcases h2.2 with ⟨_, hn⟩ | ⟨g, cap, cur, rfl, hb, hg, _⟩
  · omega
  have c0 : wr.cell? ⟨g, 0, none⟩ = some (.int .u32 (place (li s[0]) s[0] : Int)) := by
    rw [hr.cellAt 0 (by omega)]
    exact (dflat_at (L := s) (k := 0) (by simp [h0])).1
  have f : Fr (fun k => k = g) wr w8 := (Fr.refl _ wr).grown gr (fun k hk _ => by cases hk; rfl)
  exact hs.apart (fun n e => by cases e) (fun b e => by cases e) c0 f
theorem grown_cell {w w8 : World} {row : Option Nat} (gr : w.grownBy w8 row) {b o : Nat} {u : Value} (hc : w.cell? ⟨b, o, none⟩ = some u) (hb : ∀ k, row = some k → k < b) : w8.cell? ⟨b, o, none⟩ = some u :=
  (Fr.grown (S := fun k => row = some k) (Fr.refl _ w) gr (fun _ hk _ => hk)).cell' hc (fun h => absurd (hb _ h) (Nat.lt_irrefl _))
/-- one more set of the document's -/
theorem BothSt.addT {s t : List B} {b : B} {w wr w8 : World} {sv tv tv' : Value} {q u : Option Addr} {n c m d : Nat} {V : List Nat} (h : BothSt s t w sv tv wr) (h0 : 0 < t.length) (gr : wr.grownBy w8 tv.ownBlock) (hs : RSet wr (.agg #[.slice q n c, .slice u m d]) V b.ev) {cs : List (Value × Value)}
    (h3 : cs.length = t.length) (h4 : ∀ p (h : p < cs.length), ∃ q n c u m d, cs[p] = (.slice q n c, .slice u m d)) (h5 : ∀ p (h : p < cs.length), ∃ V, RSet wr (.agg #[cs[p].1, cs[p].2]) V (t.getD p .F).ev) (h6 : wr.ownsRow w.heap.size 36 2 tv t.length (flatV cs))
    (row' : w8.ownsRow w.heap.size 36 2 tv' (t.length + 1) (flatV cs ++ [.slice q n c, .slice u m d])) : BothSt s (t ++ [b]) w sv tv' w8 := by
  obtain ⟨h1, h2, -⟩ := h
  have hr := h6
  rcases h6.2 with ⟨_, hn⟩ | ⟨g, cap, cur, rfl, hb, hg, _⟩
  · omega
  obtain ⟨q0, n0, c0, u0, m0, d0, e0⟩ := h4 0 (by omega)
  have c0 : wr.cell? ⟨g, 0, none⟩ = some (.slice q0 n0 c0) := by
    rw [hr.cellAt 0 (by omega)]
    have := (flatV_at (cs := cs) (p := 0) (by omega)).1
    rw [Nat.zero_mul] at this
    rw [this, e0]
  have f : Fr (fun k => k = g) wr w8 := (Fr.refl _ wr).grown gr (fun k hk _ => by cases hk; rfl)
  refine ⟨h1.grown gr (fun k hk hlt => absurd hlt (by cases hk; exact Nat.not_lt.2 hb)), f.row h2 (fun k hk e => ?_), cs ++ [(.slice q n c, .slice u m d)], by simp [h3], fun p hp => ?_, fun p hp => ?_, ?_⟩
  · subst e
    rcases h2.2 with ⟨rfl, _⟩ | ⟨g', cap', cur', rfl, _, hg', _⟩
    · cases hk
    · cases hk
      rw [hg] at hg'
      have := Option.some.inj hg'
      simp only [Obj.cells.injEq] at this
      exact absurd this.2.1 (by decide)
  · by_cases hpc : p < cs.length
    · rw [List.getElem_append_left hpc]; exact h4 p hpc
    · obtain rfl : p = cs.length := by simp at hp; omega
      simp only [List.getElem_concat_length]
      exact ⟨_, _, _, _, _, _, rfl⟩
  · by_cases hpc : p < cs.length
    · rw [List.getElem_append_left hpc]
      obtain ⟨V', hV'⟩ := h5 p hpc
      refine ⟨V', ?_⟩
      have e : (t ++ [b]).getD p .F = t.getD p .F := by
        rw [List.getD_eq_getElem?_getD, List.getD_eq_getElem?_getD, List.getElem?_append_left (by omega)]
      rw [e]
      exact hV'.off c0 f
    · obtain rfl : p = cs.length := by simp at hp; omega
      refine ⟨V, ?_⟩
      have e : (t ++ [b]).getD cs.length .F = b := by rw [h3]; simp
      simp only [List.getElem_concat_length]
      rw [e]
      exact hs.off c0 f
  · rw [flatV_snoc, List.length_append]; exact row'

set_option maxRecDepth 100000 in
set_option maxHeartbeats 4000000 in
/-- BOTH: the sets of a script, in both ways; their errors are the same. -/
theorem Both_any (L : List OpD) (hL : L.length ≤ 65535) (hx : ∀ x ∈ L, x.Fits ∧ x.l.length ≤ 1048576) (v : Value) (w : World) (hv : ORow w v L) (hg : 0 < w.heap.size) (hT : Tab32 w) :
    Calls Tryz.prog 8 #[v] w fun e w' => ∃ sv tv, e = .returned (.tuple #[sv, tv, .bool true]) ∧ DRow w' sv (scr L) ∧ TRow w' tv (scr L) ∧ Below w.heap.size w w' := by
  obtain ⟨a, cap, rfl⟩ := hv.form
  obtain ⟨i0, hi0, hz0, hz1, hz2⟩ := info_parts info_D
  obtain ⟨i1, hi1, hy0, hy1, hy2⟩ := info_parts info_set
  obtain ⟨dO, hdO, hrO⟩ := Option.map_eq_some_iff.1 under_op
  have HT := Lib.hid hT
  clear hT
  have row0 := World.ownsRow_lit (base := w.heap.size) (e := 32) (size := 2) w #[.int .u32 0, .string ⟨#[]⟩] 1 (Nat.le_refl _) (by unfold maxLen; omega) rfl
  have fr0 : Fr nob w (w.alloc (.cells #[.int .u32 0, .string ⟨#[]⟩] 32)) := (Fr.refl nob w).alloc _
  go_enter Tryz.func8, Tryz.ntmps8
  go_wp2_with fail
  refine (Const_any false _).mono ?_
  rintro e w1 ⟨v1, rfl, hs1, hb1⟩
  have f1 := (Fr.refl nob _).below hb1
  obtain ⟨q1, n1, c1, u1, m1, d1, rfl⟩ := hs1.form
  have fa := (Fr.refl nob w1).alloc (.cells #[.slice q1 n1 c1, .slice u1 m1 d1] 36)
  have B0 : BothSt (scr []) (scr []) w (.slice (some ⟨w.heap.size, 0, none⟩) 1 1) (.slice (some ⟨w1.heap.size, 0, none⟩) 1 1) (w1.alloc (.cells #[.slice q1 n1 c1, .slice u1 m1 d1] 36)) := by
    refine ⟨(fr0.trans f1 (fun _ _ h => h)).alloc _, fa.row (f1.row row0 (fun _ _ h => h)) (fun _ _ h => h), [(.slice q1 n1 c1, .slice u1 m1 d1)], rfl, ?_, ?_, ?_⟩
    · intro p hp
      obtain rfl : p = 0 := by simp at hp; omega
      exact ⟨_, _, _, _, _, _, rfl⟩
    · intro p hp
      obtain rfl : p = 0 := by simp at hp; omega
      exact ⟨_, (hs1.kept fa).congr (fun c => rfl)⟩
    · exact World.ownsRow_lit w1 #[.slice q1 n1 c1, .slice u1 m1 d1] 1 (Nat.le_trans fr0.size f1.size) (by unfold maxLen; omega) rfl
  clear hs1 hb1 row0 fr0 f1 fa
  go_wp2_with fail
  go_loopw [5, 6, 7, 8] (fun sv tv ov iv wr => ∃ n : Nat, n ≤ L.length ∧ iv = .int .i64 (n : Int) ∧ ov = .bool true ∧ BothSt (scr (L.take n)) (scr (L.take n)) w sv tv wr) (fun _ _ _ iv _ => L.length - (intOf iv).toNat)
  case atStart => exact ⟨0, Nat.zero_le _, rfl, rfl, B0⟩
  case round =>
    clear B0
    obtain ⟨n, hn, rfl, rfl, S⟩ := hrel
    have frk := S.fr
    by_cases hlt : n < L.length
    · have hd : L[n]? = some L[n] := by simp [hlt]
      have ht : L.take (n + 1) = L.take n ++ [L[n]] := by rw [List.take_add_one, hd]; rfl
      have hm := hx _ (List.getElem_mem hlt)
      have hnext : scr (L.take (n + 1)) = scr (L.take n) ++ [opB L[n] (scr (L.take n))] := by rw [ht, scr_snoc]
      have hlen : (scr (L.take n)).length = n + 1 := by rw [scr_len, List.length_take]; omega
      have hok := ok_scr (L.take n)
      have HN := Lib.hid hnext
      clear hnext ht
      obtain ⟨g, o, lv, rfl, hr, hi⟩ := (hv.kept frk).at hd
      generalize L[n] = x at *
      generalize scr (L.take n) = s at *
      have hs0 : 0 < s.length := by omega
      have hs1 : s.length ≤ 65536 := by omega
      obtain ⟨rb, hrb⟩ : ∃ rb, opB x s = rb := ⟨_, rfl⟩
      obtain ⟨re, hre⟩ : ∃ re, opE x = re := ⟨_, rfl⟩
      have hcall := Lib.hid fun W (f : Fr nob wr W) => one_in x hm.1 lv _ s hs0 hs1 hok hm.2 W ((dRow_of S.rowS).kept f) (hi.kept f (fun _ _ h => h)) (Nat.lt_of_lt_of_le hg (Nat.le_trans frk.size f.size)) (HT.out.below ((frk.trans f (fun _ _ h => h)).to_below (B := w.heap.size) (Nat.le_refl _) (fun _ h => h.elim)) hg) rb re hrb hre
      have hcall2 := Lib.hid fun W (f : Fr nob wr W) => said_in x hm.1 lv _ s hs0 hs1 hok hm.2 W ((S.tRow hs0).kept f) (hi.kept f (fun _ _ h => h)) rb re hrb hre
      have HRB := Lib.hid hrb
      have HLEN := Lib.hid hlen
      have HR := Lib.hid hr
      have HS := Lib.hid S
      clear hrb hre hok hlen hi hd hr S
      have hlt' : (n : Int) < (L.length : Int) := by omega
      go_upto_region 7 with fail
      refine wp_region_lit ?_
      go_wp2_with (refine wpList_load_mid rfl 60 (.tmp 26) rfl g (o + n * 12) rfl (opc x lv) _ HR.out hdO hrO info_op ?_)
      refine (hcall.out wr (Fr.refl _ _)).mono ?_
      clear hcall
      rintro e w2 ⟨rfl, hb2⟩
      have f2 := (Fr.refl nob wr).below hb2
      have f3 := f2.alloc (.cells #[.int .u32 (place (li rb) rb : Int), .string ⟨(code (rows (li rb))).toArray⟩] 32)
      obtain ⟨d0, d1⟩ := two_cells' w2 (.int .u32 (place (li rb) rb : Int)) (.string ⟨(code (rows (li rb))).toArray⟩) 32
      have HR2 := Lib.hid (range_kept HR.out f3 (fun h => h))
      clear hb2 HR f2
      go_upto_region 8 with fail
      refine wp_region_lit ?_
      generalize w2.alloc (.cells #[.int .u32 (place (li rb) rb : Int), .string ⟨(code (rows (li rb))).toArray⟩] 32) = W2 at *
      go_wp2_with (refine wpList_load_mid rfl 60 (.tmp 35) rfl g (o + n * 12) rfl (opc x lv) _ HR2.out hdO hrO info_op ?_)
      refine (hcall2.out _ f3).mono ?_
      clear hcall2 HR2
      rintro e w4 h4
      obtain ⟨v4, V4, rfl, hs4, hb4⟩ := h4
      obtain ⟨q4, n4, c4, u4, m4, d4, rfl⟩ := hs4.form
      have f4 := (Fr.refl nob W2).below hb4
      have fw := f3.trans f4 (fun _ _ h => h)
      have own := fun k hk => Nat.lt_of_lt_of_le ((HS.out.rowS).lt k hk).2 fw.size
      have f6 := (fw.alloc (.cells #[.slice q4 n4 c4, .slice u4 m4 d4] 36)).alloc (.cells #[.int .u32 (place (li rb) rb : Int), .string ⟨(code (rows (li rb))).toArray⟩] 32)
      have SW := HS.out.kept f6
      replace d0 := cell_alloc_l (f4.cell' d0 (fun h => h)) (.cells #[.slice q4 n4 c4, .slice u4 m4 d4] 36)
      replace d1 := cell_alloc_l (f4.cell' d1 (fun h => h)) (.cells #[.slice q4 n4 c4, .slice u4 m4 d4] 36)
      obtain ⟨e0, e1⟩ := two_cells' w4 (.slice q4 n4 c4) (.slice u4 m4 d4) 36
      replace e0 := cell_alloc_l e0 (.cells #[.int .u32 (place (li rb) rb : Int), .string ⟨(code (rows (li rb))).toArray⟩] 32)
      replace e1 := cell_alloc_l e1 (.cells #[.int .u32 (place (li rb) rb : Int), .string ⟨(code (rows (li rb))).toArray⟩] 32)
      obtain ⟨k0, k1⟩ := two_cells' (w4.alloc (.cells #[.slice q4 n4 c4, .slice u4 m4 d4] 36)) (.int .u32 (place (li rb) rb : Int)) (.string ⟨(code (rows (li rb))).toArray⟩) 32
      simp only [World.size_alloc] at k0 k1
      have hs6 := hs4.kept ((Fr.refl nob w4).alloc (.cells #[.slice q4 n4 c4, .slice u4 m4 d4] 36) |>.alloc (.cells #[.int .u32 (place (li rb) rb : Int), .string ⟨(code (rows (li rb))).toArray⟩] 32))
      have hz6 := f6.size
      have hzw := SW.fr.size
      clear hs4 hb4 f3 fw f4
      go_wp2_with (at_builtin; refine wpList_append_own _ rfl _ _ 27 rfl w.heap.size 32 i0 (.agg #[.int .u32 0, .string ⟨#[]⟩]) 2 24 Tryz.underlying27 hi0 hz0 hz1 hz2 rfl (by decide) _ s.length (s.flatMap dc) rfl SW.rowS ⟨w4.heap.size + 1, 0, none⟩ 1 1 (dc rb) rfl ?c1 ?c2 ?c3 ?c4 ?c5 ?c6 ?_)
      case c1 => rfl
      case c2 =>
        intro j u hj
        match j, hj with
        | 0, h => simp at h; subst h; exact k0
        | 1, h => simp at h; subst h; exact k1
      case c3 => intro u hu; simp at hu; rcases hu with rfl | rfl <;> rfl
      case c4 => unfold maxLen; omega
      case c5 => omega
      case c6 => exact hzw
      intro vo w8 row8 gr8 _
      have S8 := SW.addS (b := rb) hs0 gr8 (by rw [List.length_append, List.flatMap_append, List.flatMap_singleton]; exact row8)
      have hs8 := SW.keepS hs0 gr8 hs6
      have ee0 := grown_cell gr8 e0 own
      have ee1 := grown_cell gr8 e1 own
      have f9 := (Fr.refl nob w8).alloc (.cells #[.slice q4 n4 c4, .slice u4 m4 d4] 36)
      have S9 := S8.kept f9
      have hs9 := hs8.kept f9
      obtain ⟨cs, h3, h4, h5, h6⟩ := S9.rowT
      obtain ⟨k0, k1⟩ := two_cells' w8 (.slice q4 n4 c4) (.slice u4 m4 d4) 36
      have hz9 := S9.fr.size
      clear gr8 row8 SW S8 hs8 hs6 e0 e1 d0 d1 f6 f9
      go_wp2_with (at_builtin; refine wpList_append_own _ rfl _ _ 28 rfl w.heap.size 36 i1 (.agg #[.slice none 0 0, .slice none 0 0]) 2 48 Tryz.underlying28 hi1 hy0 hy1 hy2 rfl (by decide) _ s.length (flatV cs) rfl h6 ⟨w8.heap.size, 0, none⟩ 1 1 [.slice q4 n4 c4, .slice u4 m4 d4] rfl ?c7 ?c8 ?c9 ?c10 ?c11 ?c12 ?_)
      case c7 => rfl
      case c8 =>
        intro j u hj
        match j, hj with
        | 0, h => simp at h; subst h; exact k0
        | 1, h => simp at h; subst h; exact k1
      case c9 => intro u hu; simp at hu; rcases hu with rfl | rfl <;> rfl
      case c10 => unfold maxLen; omega
      case c11 => omega
      case c12 => exact hz9
      intro vt w10 row10 gr10 _
      have S10 := Lib.hid (S9.addT (b := rb) hs0 gr10 hs9 h3 h4 h5 h6 row10)
      clear gr10 row10 S9 hs9 h4 h5 h6 ee0 ee1 k0 k1
      go_wp2_with fail
      refine ⟨⟨n + 1, hlt, by simp, rfl, ?_⟩, by simp [intOf]; omega⟩
      rw [HN.out, HRB.out]
      exact S10.out
    · obtain rfl : n = L.length := by omega
      rw [List.take_length] at S
      have HD := Lib.hid (dRow_of S.rowS)
      have HTR := Lib.hid (S.tRow (by rw [scr_len]; omega))
      have HB := Lib.hid (frk.to_below (B := w.heap.size) (Nat.le_refl _) (fun _ h => h.elim))
      clear S frk
      go_wp2_with fail
      exact bodyPost_ret (v := .tuple #[u5, u6, .bool true]) (by simp [results, Tryz.results8, go_sem]) rfl ⟨_, _, rfl, HD.out, HTR.out, HB.out⟩
end Go.Proofs.YtiainlccodnlmaaGreatDoor
namespace Go.Proofs.YtiainlccodnlmaaGreatDoor
open Go.RowKit Go.Shelf
open Bd

theorem or_lt {a b : Nat} (ha : a < 4294967296) (hb : b < 4294967296) : bits BinOp.or IntKind.u32 (a : Int) (b : Int) = ((a ||| b : Nat) : Int) ∧ a ||| b < 4294967296 :=
  ⟨(bits_nat .u32 32 (by decide) wraps_u32 a b ha hb).2, Nat.or_lt_two_pow (n := 32) ha hb⟩
theorem or_pow {a i : Nat} (ha : a < 4294967296) (hi : i < 24) : ∃ f : Nat, bits BinOp.or IntKind.u32 (a : Int) (2 ^ i % 4294967296) = (f : Int) ∧ f < 4294967296 := by
  have h2 : 2 ^ i < 2 ^ 24 := Nat.pow_lt_pow_right (by omega) hi
  have h := or_lt ha (b := 2 ^ i) (by omega)
  exact ⟨_, by rw [pow_u32 hi]; exact h.1, h.2⟩

set_option maxRecDepth 100000 in
set_option maxHeartbeats 8000000 in
/-- MENTIONED: it returns; and if it says so, the script and its lists are short. -/
theorem Mentioned_any (L : List OpD) (hx : ∀ x ∈ L, x.Fits) (v : Value) (w : World) (hv : ORow w v L) :
    Calls Tryz.prog 6 #[v] w fun e w' => ∃ b : Bool, e = .returned (.bool b) ∧ (b = true → L.length ≤ 12 ∧ ∀ x ∈ L, x.l.length ≤ 40) ∧ Below w.heap.size w w' := by
  obtain ⟨a, cap, rfl⟩ := hv.form
  obtain ⟨dO, hdO, hrO⟩ := Option.map_eq_some_iff.1 under_op
  go_enter Tryz.func6, Tryz.ntmps6
  by_cases hlong : 12 < L.length
  · have hlong' : (12 : Int) < (L.length : Int) := by omega
    go_wp2_with fail
    go_ret
    exact ⟨false, rfl, (fun h => by cases h), Below.refl _ _⟩
  have hlong' : ¬ (12 : Int) < (L.length : Int) := by omega
  go_wp2_with fail
  go_loopw [3, 4] (fun fv iv wr => ∃ n f : Nat, n ≤ L.length ∧ iv = .int .i64 (n : Int) ∧ fv = .int .u32 (f : Int) ∧ f < 4294967296 ∧ Fr nob w wr ∧ ∀ x ∈ L.take n, x.l.length ≤ 40) (fun _ iv _ => L.length - (intOf iv).toNat)
  case atStart => exact ⟨0, 0, Nat.zero_le _, rfl, rfl, by decide, Fr.refl _ _, fun x h => by simp at h⟩
  case round =>
    obtain ⟨n, f, hn, rfl, rfl, hf, frk, hall⟩ := hrel
    by_cases hlt : n < L.length
    · have hlt' : (n : Int) < (L.length : Int) := by omega
      have hd : L[n]? = some L[n] := by simp [hlt]
      have ht : L.take (n + 1) = L.take n ++ [L[n]] := by rw [List.take_add_one, hd]; rfl
      have hm := hx _ (List.getElem_mem hlt)
      obtain ⟨g, o, lv, rfl, hr, hi⟩ := (hv.kept frk).at hd
      have HALL := Lib.hid hall
      have HTK := Lib.hid ht
      generalize L[n] = x at *
      obtain ⟨al, capl, rfl⟩ := hi.form
      have HR := Lib.hid hr
      clear hr hall hd ht
      go_upto_region 7 with fail
      refine wp_region_lit ?_
      go_upto_region 8 with (refine wpList_load_mid rfl 60 (.tmp 18) rfl g (o + n * 12) rfl (opc x (.slice al x.l.length capl)) _ HR.out hdO hrO info_op ?_)
      have box := heap_alloc_new wr (.cells (opc x (.slice al x.l.length capl)).toArray 60)
      have fA : Fr nob wr (wr.alloc (.cells (opc x (.slice al x.l.length capl)).toArray 60)) := (Fr.refl nob wr).alloc _
      have hi2 := Lib.hid (hi.kept fA (fun _ _ h => h))
      have frA := frk.trans fA (fun _ _ h => h)
      generalize wr.alloc (.cells (opc x (.slice al x.l.length capl)).toArray 60) = W at *
      have hk : ∀ j u, (opc x (.slice al x.l.length capl))[j]? = some u → W.cell? ⟨wr.heap.size, j, none⟩ = some u := fun j u h => by rw [cell_of_row W wr.heap.size j _ _ (0, 0) box]; simpa using h
      have q0 := hk 0 _ rfl
      have q5 := hk 5 _ rfl
      have q8 := hk 8 _ rfl
      have q9 := hk 9 _ rfl
      have q10 := hk 10 _ rfl
      have HFR := Lib.hid frA
      have hX := hm
      have hB : Below w.heap.size w W := frA.to_below (Nat.le_refl _) (fun _ h => h.elim)
      have HB := Lib.hid hB
      clear hk box fA frA frk hi HR hm hB
      have hcases : (x.d = 2 ∧ 0 ≤ x.i ∧ x.i < 24) ∨ (x.d = 2 ∧ x.i < 0) ∨ (x.d = 2 ∧ ¬ x.i < 0 ∧ ¬ x.i < 24) ∨ x.d = 3 ∨ x.d = 12 ∨ x.d = 13 ∨ ¬ (x.d = 2 ∨ x.d = 3 ∨ x.d = 12 ∨ x.d = 13) := by omega
      rcases hcases with ⟨hd, h0, h1⟩ | ⟨hd, h0⟩ | ⟨hd, h0, h1⟩ | hd | hd | hd | hd
      · clear q8 q9
        rw [hd] at q0
        have hi24 : x.i.toNat < 24 := by omega
        obtain ⟨f1, e1, hf1⟩ := or_pow hf hi24
        have E1 := Lib.hid e1
        clear e1
        by_cases h40 : 40 < x.l.length
        · have h40' : (40 : Int) < (x.l.length : Int) := by omega
          go_wp2_with fail
          go_ret
          first | exact ⟨false, rfl, (fun h => by cases h), HB.out⟩ | exact .inl ⟨rfl, HB.out⟩
        · have h40' : ¬ (40 : Int) < (x.l.length : Int) := by omega
          go_wp2_with fail
          go_loop [3, 6] (fun fv kv => ∃ f2 m : Nat, fv = .int .u32 (f2 : Int) ∧ f2 < 4294967296 ∧ kv = ik m ∧ m ≤ x.l.length) (fun _ kv => x.l.length - (intOf kv).toNat)
          case atStart => exact ⟨f1, 0, by rw [← E1.out], hf1, rfl, Nat.zero_le _⟩
          case round =>
            obtain ⟨f2, m, rfl, hf2, rfl, hm2⟩ := hrel
            by_cases c1 : m < x.l.length
            · have c1' : (m : Int) < (x.l.length : Int) := by omega
              by_cases c2 : m < 24
              · have c2' : (m : Int) < 24 := by omega
                go_wp2_with fail
                refine ⟨⟨n + 1, f2, hlt, by simp, rfl, hf2, HFR.out, ?_⟩, by simp [intOf]; omega⟩
                rw [HTK.out]
                intro y hy
                rcases List.mem_append.1 hy with hy | hy
                · exact HALL.out y hy
                · rw [List.mem_singleton.1 hy]; omega
              · have c2' : ¬ (m : Int) < 24 := by omega
                go_wp2_with fail
                refine ⟨⟨n + 1, f2, hlt, by simp, rfl, hf2, HFR.out, ?_⟩, by simp [intOf]; omega⟩
                rw [HTK.out]
                intro y hy
                rcases List.mem_append.1 hy with hy | hy
                · exact HALL.out y hy
                · rw [List.mem_singleton.1 hy]; omega
            · have c1' : ¬ (m : Int) < (x.l.length : Int) := by omega
              go_wp2_with fail
              refine ⟨⟨n + 1, f2, hlt, by simp, rfl, hf2, HFR.out, ?_⟩, by simp [intOf]; omega⟩
              rw [HTK.out]
              intro y hy
              rcases List.mem_append.1 hy with hy | hy
              · exact HALL.out y hy
              · rw [List.mem_singleton.1 hy]; omega
      · clear q8 q9
        rw [hd] at q0
        have h0' : ¬ 0 ≤ x.i := by omega
        by_cases h40 : 40 < x.l.length
        · have h40' : (40 : Int) < (x.l.length : Int) := by omega
          go_wp2_with fail
          go_ret
          first | exact ⟨false, rfl, (fun h => by cases h), HB.out⟩ | exact .inl ⟨rfl, HB.out⟩
        · have h40' : ¬ (40 : Int) < (x.l.length : Int) := by omega
          go_wp2_with fail
          go_loop [3, 6] (fun fv kv => ∃ f2 m : Nat, fv = .int .u32 (f2 : Int) ∧ f2 < 4294967296 ∧ kv = ik m ∧ m ≤ x.l.length) (fun _ kv => x.l.length - (intOf kv).toNat)
          case atStart => exact ⟨f, 0, rfl, hf, rfl, Nat.zero_le _⟩
          case round =>
            obtain ⟨f2, m, rfl, hf2, rfl, hm2⟩ := hrel
            by_cases c1 : m < x.l.length
            · have c1' : (m : Int) < (x.l.length : Int) := by omega
              by_cases c2 : m < 24
              · have c2' : (m : Int) < 24 := by omega
                go_wp2_with fail
                refine ⟨⟨n + 1, f2, hlt, by simp, rfl, hf2, HFR.out, ?_⟩, by simp [intOf]; omega⟩
                rw [HTK.out]
                intro y hy
                rcases List.mem_append.1 hy with hy | hy
                · exact HALL.out y hy
                · rw [List.mem_singleton.1 hy]; omega
              · have c2' : ¬ (m : Int) < 24 := by omega
                go_wp2_with fail
                refine ⟨⟨n + 1, f2, hlt, by simp, rfl, hf2, HFR.out, ?_⟩, by simp [intOf]; omega⟩
                rw [HTK.out]
                intro y hy
                rcases List.mem_append.1 hy with hy | hy
                · exact HALL.out y hy
                · rw [List.mem_singleton.1 hy]; omega
            · have c1' : ¬ (m : Int) < (x.l.length : Int) := by omega
              go_wp2_with fail
              refine ⟨⟨n + 1, f2, hlt, by simp, rfl, hf2, HFR.out, ?_⟩, by simp [intOf]; omega⟩
              rw [HTK.out]
              intro y hy
              rcases List.mem_append.1 hy with hy | hy
              · exact HALL.out y hy
              · rw [List.mem_singleton.1 hy]; omega
      · clear q8 q9
        rw [hd] at q0
        have h0' : 0 ≤ x.i := by omega
        by_cases h40 : 40 < x.l.length
        · have h40' : (40 : Int) < (x.l.length : Int) := by omega
          go_wp2_with fail
          go_ret
          first | exact ⟨false, rfl, (fun h => by cases h), HB.out⟩ | exact .inl ⟨rfl, HB.out⟩
        · have h40' : ¬ (40 : Int) < (x.l.length : Int) := by omega
          go_wp2_with fail
          go_loop [3, 6] (fun fv kv => ∃ f2 m : Nat, fv = .int .u32 (f2 : Int) ∧ f2 < 4294967296 ∧ kv = ik m ∧ m ≤ x.l.length) (fun _ kv => x.l.length - (intOf kv).toNat)
          case atStart => exact ⟨f, 0, rfl, hf, rfl, Nat.zero_le _⟩
          case round =>
            obtain ⟨f2, m, rfl, hf2, rfl, hm2⟩ := hrel
            by_cases c1 : m < x.l.length
            · have c1' : (m : Int) < (x.l.length : Int) := by omega
              by_cases c2 : m < 24
              · have c2' : (m : Int) < 24 := by omega
                go_wp2_with fail
                refine ⟨⟨n + 1, f2, hlt, by simp, rfl, hf2, HFR.out, ?_⟩, by simp [intOf]; omega⟩
                rw [HTK.out]
                intro y hy
                rcases List.mem_append.1 hy with hy | hy
                · exact HALL.out y hy
                · rw [List.mem_singleton.1 hy]; omega
              · have c2' : ¬ (m : Int) < 24 := by omega
                go_wp2_with fail
                refine ⟨⟨n + 1, f2, hlt, by simp, rfl, hf2, HFR.out, ?_⟩, by simp [intOf]; omega⟩
                rw [HTK.out]
                intro y hy
                rcases List.mem_append.1 hy with hy | hy
                · exact HALL.out y hy
                · rw [List.mem_singleton.1 hy]; omega
            · have c1' : ¬ (m : Int) < (x.l.length : Int) := by omega
              go_wp2_with fail
              refine ⟨⟨n + 1, f2, hlt, by simp, rfl, hf2, HFR.out, ?_⟩, by simp [intOf]; omega⟩
              rw [HTK.out]
              intro y hy
              rcases List.mem_append.1 hy with hy | hy
              · exact HALL.out y hy
              · rw [List.mem_singleton.1 hy]; omega
      · clear q5
        rw [hd] at q0
        have e1 := or_lt hf hX.f
        have e2 := or_lt e1.2 hX.g
        have E1 := Lib.hid e1.1
        have E2 := Lib.hid e2.1
        have hf1 := e2.2
        clear e1 e2
        by_cases h40 : 40 < x.l.length
        · have h40' : (40 : Int) < (x.l.length : Int) := by omega
          go_wp2_with fail
          go_ret
          first | exact ⟨false, rfl, (fun h => by cases h), HB.out⟩ | exact .inl ⟨rfl, HB.out⟩
        · have h40' : ¬ (40 : Int) < (x.l.length : Int) := by omega
          go_wp2_with fail
          go_loop [3, 6] (fun fv kv => ∃ f2 m : Nat, fv = .int .u32 (f2 : Int) ∧ f2 < 4294967296 ∧ kv = ik m ∧ m ≤ x.l.length) (fun _ kv => x.l.length - (intOf kv).toNat)
          case atStart => exact ⟨_, 0, by rw [E1.out, E2.out], hf1, rfl, Nat.zero_le _⟩
          case round =>
            obtain ⟨f2, m, rfl, hf2, rfl, hm2⟩ := hrel
            by_cases c1 : m < x.l.length
            · have c1' : (m : Int) < (x.l.length : Int) := by omega
              by_cases c2 : m < 24
              · have c2' : (m : Int) < 24 := by omega
                go_wp2_with fail
                refine ⟨⟨n + 1, f2, hlt, by simp, rfl, hf2, HFR.out, ?_⟩, by simp [intOf]; omega⟩
                rw [HTK.out]
                intro y hy
                rcases List.mem_append.1 hy with hy | hy
                · exact HALL.out y hy
                · rw [List.mem_singleton.1 hy]; omega
              · have c2' : ¬ (m : Int) < 24 := by omega
                go_wp2_with fail
                refine ⟨⟨n + 1, f2, hlt, by simp, rfl, hf2, HFR.out, ?_⟩, by simp [intOf]; omega⟩
                rw [HTK.out]
                intro y hy
                rcases List.mem_append.1 hy with hy | hy
                · exact HALL.out y hy
                · rw [List.mem_singleton.1 hy]; omega
            · have c1' : ¬ (m : Int) < (x.l.length : Int) := by omega
              go_wp2_with fail
              refine ⟨⟨n + 1, f2, hlt, by simp, rfl, hf2, HFR.out, ?_⟩, by simp [intOf]; omega⟩
              rw [HTK.out]
              intro y hy
              rcases List.mem_append.1 hy with hy | hy
              · exact HALL.out y hy
              · rw [List.mem_singleton.1 hy]; omega
      · clear q5 q9
        rw [hd] at q0
        have e1 := or_lt hf hX.f
        have E1 := Lib.hid e1.1
        have hf1 := e1.2
        clear e1
        by_cases h40 : 40 < x.l.length
        · have h40' : (40 : Int) < (x.l.length : Int) := by omega
          go_wp2_with fail
          go_ret
          first | exact ⟨false, rfl, (fun h => by cases h), HB.out⟩ | exact .inl ⟨rfl, HB.out⟩
        · have h40' : ¬ (40 : Int) < (x.l.length : Int) := by omega
          go_wp2_with fail
          go_loop [3, 6] (fun fv kv => ∃ f2 m : Nat, fv = .int .u32 (f2 : Int) ∧ f2 < 4294967296 ∧ kv = ik m ∧ m ≤ x.l.length) (fun _ kv => x.l.length - (intOf kv).toNat)
          case atStart => exact ⟨_, 0, by rw [E1.out], hf1, rfl, Nat.zero_le _⟩
          case round =>
            obtain ⟨f2, m, rfl, hf2, rfl, hm2⟩ := hrel
            by_cases c1 : m < x.l.length
            · have c1' : (m : Int) < (x.l.length : Int) := by omega
              by_cases c2 : m < 24
              · have c2' : (m : Int) < 24 := by omega
                go_wp2_with fail
                refine ⟨⟨n + 1, f2, hlt, by simp, rfl, hf2, HFR.out, ?_⟩, by simp [intOf]; omega⟩
                rw [HTK.out]
                intro y hy
                rcases List.mem_append.1 hy with hy | hy
                · exact HALL.out y hy
                · rw [List.mem_singleton.1 hy]; omega
              · have c2' : ¬ (m : Int) < 24 := by omega
                go_wp2_with fail
                refine ⟨⟨n + 1, f2, hlt, by simp, rfl, hf2, HFR.out, ?_⟩, by simp [intOf]; omega⟩
                rw [HTK.out]
                intro y hy
                rcases List.mem_append.1 hy with hy | hy
                · exact HALL.out y hy
                · rw [List.mem_singleton.1 hy]; omega
            · have c1' : ¬ (m : Int) < (x.l.length : Int) := by omega
              go_wp2_with fail
              refine ⟨⟨n + 1, f2, hlt, by simp, rfl, hf2, HFR.out, ?_⟩, by simp [intOf]; omega⟩
              rw [HTK.out]
              intro y hy
              rcases List.mem_append.1 hy with hy | hy
              · exact HALL.out y hy
              · rw [List.mem_singleton.1 hy]; omega
      · clear q5 q8 q9
        rw [hd] at q0
        by_cases h40 : 40 < x.l.length
        · have h40' : (40 : Int) < (x.l.length : Int) := by omega
          go_wp2_with fail
          go_ret
          first | exact ⟨false, rfl, (fun h => by cases h), HB.out⟩ | exact .inl ⟨rfl, HB.out⟩
        · have h40' : ¬ (40 : Int) < (x.l.length : Int) := by omega
          go_wp2_with fail
          go_loop [3, 6] (fun fv kv => ∃ f2 m : Nat, fv = .int .u32 (f2 : Int) ∧ f2 < 4294967296 ∧ kv = ik m ∧ m ≤ x.l.length) (fun _ kv => x.l.length - (intOf kv).toNat)
          case atStart => exact ⟨f, 0, rfl, hf, rfl, Nat.zero_le _⟩
          case round =>
            obtain ⟨f2, m, rfl, hf2, rfl, hm2⟩ := hrel
            by_cases c1 : m < x.l.length
            · have c1' : (m : Int) < (x.l.length : Int) := by omega
              by_cases c2 : m < 24
              · have c2' : (m : Int) < 24 := by omega
                obtain ⟨ad, rfl, hcell⟩ := hi2.out.at (show x.l[m]? = some x.l[m] by simp [c1])
                generalize x.l[m] = xm at *
                by_cases hz : xm = 0
                · subst hz
                  go_wp2_with fail
                  refine ⟨⟨f2, m + 1, rfl, hf2, by go_num, c1⟩, by simp [intOf]; omega⟩
                · obtain ⟨f3, e3, hf3⟩ := or_pow hf2 c2
                  have E3 := Lib.hid e3
                  clear e3
                  go_wp2_with fail
                  refine ⟨⟨f3, m + 1, by rw [← E3.out], hf3, by go_num, c1⟩, by simp [intOf]; omega⟩
              · have c2' : ¬ (m : Int) < 24 := by omega
                go_wp2_with fail
                refine ⟨⟨n + 1, f2, hlt, by simp, rfl, hf2, HFR.out, ?_⟩, by simp [intOf]; omega⟩
                rw [HTK.out]
                intro y hy
                rcases List.mem_append.1 hy with hy | hy
                · exact HALL.out y hy
                · rw [List.mem_singleton.1 hy]; omega
            · have c1' : ¬ (m : Int) < (x.l.length : Int) := by omega
              go_wp2_with fail
              refine ⟨⟨n + 1, f2, hlt, by simp, rfl, hf2, HFR.out, ?_⟩, by simp [intOf]; omega⟩
              rw [HTK.out]
              intro y hy
              rcases List.mem_append.1 hy with hy | hy
              · exact HALL.out y hy
              · rw [List.mem_singleton.1 hy]; omega
      · clear q5 q8 q9
        have n2 : ((x.d : Int) == 2) = false := by simp only [beq_eq_false_iff_ne]; omega
        have n3 : ((x.d : Int) == 3) = false := by simp only [beq_eq_false_iff_ne]; omega
        have n12 : ((x.d : Int) == 12) = false := by simp only [beq_eq_false_iff_ne]; omega
        have n13 : ((x.d : Int) == 13) = false := by simp only [beq_eq_false_iff_ne]; omega
        by_cases h40 : 40 < x.l.length
        · have h40' : (40 : Int) < (x.l.length : Int) := by omega
          go_wp2_with fail
          go_ret
          first | exact ⟨false, rfl, (fun h => by cases h), HB.out⟩ | exact .inl ⟨rfl, HB.out⟩
        · have h40' : ¬ (40 : Int) < (x.l.length : Int) := by omega
          go_wp2_with fail
          go_loop [3, 6] (fun fv kv => ∃ f2 m : Nat, fv = .int .u32 (f2 : Int) ∧ f2 < 4294967296 ∧ kv = ik m ∧ m ≤ x.l.length) (fun _ kv => x.l.length - (intOf kv).toNat)
          case atStart => exact ⟨f, 0, rfl, hf, rfl, Nat.zero_le _⟩
          case round =>
            obtain ⟨f2, m, rfl, hf2, rfl, hm2⟩ := hrel
            by_cases c1 : m < x.l.length
            · have c1' : (m : Int) < (x.l.length : Int) := by omega
              by_cases c2 : m < 24
              · have c2' : (m : Int) < 24 := by omega
                go_wp2_with fail
                refine ⟨⟨n + 1, f2, hlt, by simp, rfl, hf2, HFR.out, ?_⟩, by simp [intOf]; omega⟩
                rw [HTK.out]
                intro y hy
                rcases List.mem_append.1 hy with hy | hy
                · exact HALL.out y hy
                · rw [List.mem_singleton.1 hy]; omega
              · have c2' : ¬ (m : Int) < 24 := by omega
                go_wp2_with fail
                refine ⟨⟨n + 1, f2, hlt, by simp, rfl, hf2, HFR.out, ?_⟩, by simp [intOf]; omega⟩
                rw [HTK.out]
                intro y hy
                rcases List.mem_append.1 hy with hy | hy
                · exact HALL.out y hy
                · rw [List.mem_singleton.1 hy]; omega
            · have c1' : ¬ (m : Int) < (x.l.length : Int) := by omega
              go_wp2_with fail
              refine ⟨⟨n + 1, f2, hlt, by simp, rfl, hf2, HFR.out, ?_⟩, by simp [intOf]; omega⟩
              rw [HTK.out]
              intro y hy
              rcases List.mem_append.1 hy with hy | hy
              · exact HALL.out y hy
              · rw [List.mem_singleton.1 hy]; omega
    · obtain rfl : n = L.length := by omega
      rw [List.take_length] at hall
      have HALL := Lib.hid hall
      have hfe := Features_any f hf wr
      have hlen : (featL f).length ≤ 24 := rising_len (rising_featL f)
      have HL := Lib.hid hlong
      have hwr := frk
      clear hall hlong hv hx
      go_wp2_with fail
      refine hfe.mono ?_
      clear hfe
      rintro e w5 ⟨v5, rfl, hs5, hb5⟩
      obtain ⟨q5, c5, rfl⟩ := hs5.form
      rw [List.length_map]
      have HB := Lib.hid ((hwr.below hb5).to_below (B := w.heap.size) (Nat.le_refl _) (fun _ h => h.elim))
      clear hs5 hb5 hwr frk
      go_wp2_with fail
      go_ret
      exact ⟨_, rfl, fun _ => ⟨Nat.not_lt.1 HL.out, HALL.out⟩, HB.out⟩
end Go.Proofs.YtiainlccodnlmaaGreatDoor
