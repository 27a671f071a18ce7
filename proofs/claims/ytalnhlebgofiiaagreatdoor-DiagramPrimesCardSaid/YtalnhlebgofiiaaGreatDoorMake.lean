import Derived.Test.YtalnhlebgofiiaaGreatDoorOne
import Derived.Deep.MidRow
import Derived.BigRegion
namespace Go.Proofs.YtalnhlebgofiiaaGreatDoor
open Go.RowKit Go.Shelf
open Bd

abbrev dc (x : B) : List Value := [.int .u32 (place (li x) x : Int), .string ⟨(code (rows (li x))).toArray⟩]
theorem dflat_len : ∀ L : List B, (L.flatMap dc).length = L.length * 2
  | [] => rfl
  | x :: L => by rw [List.flatMap_cons, List.length_append, dflat_len L]; simp only [List.length_cons, List.length_nil]; omega
theorem dflat_drop : ∀ (L : List B) (k : Nat), (L.flatMap dc).drop (k * 2) = (L.drop k).flatMap dc
  | [], k => by simp
  | x :: L, 0 => by simp
  | x :: L, k + 1 => by
    rw [List.flatMap_cons, List.drop_succ_cons, ← dflat_drop L k, show (k + 1) * 2 = k * 2 + 1 + 1 by omega]
    rfl
theorem dflat_at {L : List B} {k : Nat} {x : B} (h : L[k]? = some x) : (L.flatMap dc)[k * 2]? = some (.int .u32 (place (li x) x : Int)) ∧ (L.flatMap dc)[k * 2 + 1]? = some (.string ⟨(code (rows (li x))).toArray⟩) := by
  have e : L.drop k = x :: L.drop (k + 1) := by
    have hk := (List.getElem?_eq_some_iff.1 h).1
    rw [List.drop_eq_getElem_cons hk]
    congr 1
    exact (List.getElem?_eq_some_iff.1 h).2
  have hd := dflat_drop L k
  rw [e, List.flatMap_cons] at hd
  have g : ∀ j, (L.flatMap dc)[k * 2 + j]? = ((L.flatMap dc).drop (k * 2))[j]? := fun j => by rw [List.getElem?_drop]
  refine ⟨(g 0).trans ?_, (g 1).trans ?_⟩ <;> rw [hd] <;> rfl
theorem dRow_of {w : World} {base : Nat} {v : Value} {L : List B} (h : w.ownsRow base 32 2 v L.length (L.flatMap dc)) : DRow w v L := by
  rcases h.2 with ⟨rfl, hn⟩ | ⟨g, cap, cur, rfl, _⟩
  · have e : L = [] := List.length_eq_zero_iff.1 hn
    subst e
    exact ⟨none, 0, rfl, fun k x hx => by simp at hx⟩
  · refine ⟨_, cap, rfl, fun k x hx => ⟨g, rfl, ?_, ?_⟩⟩
    · have hk := (List.getElem?_eq_some_iff.1 hx).1
      rw [h.cellAt (k * 2) (by omega)]; exact (dflat_at hx).1
    · have hk := (List.getElem?_eq_some_iff.1 hx).1
      rw [h.cellAt (k * 2 + 1) (by omega)]; exact (dflat_at hx).2

/-- the sets of a script -/
noncomputable def scr (L : List OpD) : List B := L.foldl (fun s x => s ++ [opB x s]) [.F]
theorem scr_snoc (L : List OpD) (x : OpD) : scr (L ++ [x]) = scr L ++ [opB x (scr L)] := by simp [scr]
theorem foldl_len : ∀ (L : List OpD) (s : List B), (L.foldl (fun s x => s ++ [opB x s]) s).length = s.length + L.length
  | [], s => rfl
  | x :: L, s => by rw [List.foldl_cons, foldl_len L]; simp; omega
theorem scr_len (L : List OpD) : (scr L).length = L.length + 1 := by unfold scr; rw [foldl_len]; simp; omega
theorem foldl_ok : ∀ (L : List OpD) (s : List B), (∀ y ∈ s, y.ok 0) → ∀ y ∈ L.foldl (fun s x => s ++ [opB x s]) s, y.ok 0
  | [], s, h => h
  | x :: L, s, h => by
    rw [List.foldl_cons]
    refine foldl_ok L _ fun y hy => ?_
    rcases List.mem_append.1 hy with h1 | h1
    · exact h y h1
    · rw [List.mem_singleton.1 h1]; exact ok_opB x h
theorem ok_scr (L : List OpD) : ∀ y ∈ scr L, y.ok 0 := foldl_ok L _ fun y hy => by rw [List.mem_singleton.1 hy]; trivial

/-- a script in memory -/
def ORow (w : World) (v : Value) (L : List OpD) : Prop := ∃ (a : Option Addr) (cap : Nat), v = .slice a L.length cap ∧ ∀ k x, L[k]? = some x → ∃ g o lv, a = some ⟨g, o, none⟩ ∧ w.rangeAt g (o + k * 12) (opc x lv) ∧ IRow w lv x.l
theorem ORow.kept {w w' : World} {v : Value} {L : List OpD} (h : ORow w v L) (fr : Fr nob w w') : ORow w' v L := by
  obtain ⟨a, cap, rfl, hc⟩ := h
  refine ⟨a, cap, rfl, fun k x hx => ?_⟩
  obtain ⟨g, o, lv, h1, h2, h3⟩ := hc k x hx
  exact ⟨g, o, lv, h1, fun j u hj => fr.cell (h2 j u hj) (fun h => h), h3.kept fr (fun _ _ h => h)⟩
theorem ORow.form {w : World} {v : Value} {L : List OpD} (h : ORow w v L) : ∃ a cap, v = .slice a L.length cap := by
  obtain ⟨a, cap, e, _⟩ := h; exact ⟨a, cap, e⟩
theorem ORow.at {w : World} {a : Option Addr} {n cap : Nat} {L : List OpD} (h : ORow w (.slice a n cap) L) {k : Nat} {x : OpD} (hx : L[k]? = some x) : ∃ g o lv, a = some ⟨g, o, none⟩ ∧ w.rangeAt g (o + k * 12) (opc x lv) ∧ IRow w lv x.l := by
  obtain ⟨a', cap', e, hc⟩ := h
  cases e
  exact hc k x hx
theorem under_op : (Tryz.prog.underlying 60).map (·.isRow) = some true := by kernel_rfl
theorem info_op : (Tryz.prog.info? 60).map (·.size) = some 12 := by kernel_rfl
theorem info_D : (Tryz.prog.info? 32).map (fun i => (i.zero, i.size, i.bytes)) = some (some (.agg #[.int .u32 0, .string ⟨#[]⟩]), 2, 24) := by kernel_rfl

set_option maxRecDepth 100000 in
set_option maxHeartbeats 2000000 in
/-- MAKE: the sets of a script. -/
theorem Make_any (L : List OpD) (hL : L.length ≤ 65535) (hx : ∀ x ∈ L, x.Fits ∧ x.l.length ≤ 1048576) (v : Value) (w : World) (hv : ORow w v L) (hg : 0 < w.heap.size) (hT : Tab32 w) :
    Calls Tryz.prog 56 #[v] w fun e w' => ∃ sv, e = .returned sv ∧ DRow w' sv (scr L) ∧ (∀ g, sv.ownBlock = some g → w.heap.size ≤ g) ∧ Below w.heap.size w w' := by
  obtain ⟨a, cap, rfl⟩ := hv.form
  obtain ⟨i0, hi0, hz0, hz1, hz2⟩ := info_parts info_D
  obtain ⟨dO, hdO, hrO⟩ := Option.map_eq_some_iff.1 under_op
  have HT := Lib.hid hT
  clear hT
  go_enter Tryz.func56, Tryz.ntmps56
  go_wp2_with fail
  go_loopw [3, 4] (fun sv iv wr => ∃ n : Nat, n ≤ L.length ∧ iv = .int .i64 (n : Int) ∧ Fr nob w wr ∧ wr.ownsRow w.heap.size 32 2 sv (scr (L.take n)).length ((scr (L.take n)).flatMap dc)) (fun _ iv _ => L.length - (intOf iv).toNat)
  case atStart =>
    refine ⟨0, Nat.zero_le _, rfl, (Fr.refl nob w).alloc _, ?_⟩
    exact World.ownsRow_lit w #[.int .u32 0, .string ⟨#[]⟩] 1 (Nat.le_refl _) (by unfold maxLen; omega) rfl
  case round =>
    obtain ⟨n, hn, rfl, frk, row⟩ := hrel
    by_cases hlt : n < L.length
    · have hd : L[n]? = some L[n] := by simp [hlt]
      have ht : L.take (n + 1) = L.take n ++ [L[n]] := by rw [List.take_add_one, hd]; rfl
      have hm := hx _ (List.getElem_mem hlt)
      have hnext : scr (L.take (n + 1)) = scr (L.take n) ++ [opB L[n] (scr (L.take n))] := by rw [ht, scr_snoc]
      have hlen : (scr (L.take n)).length = n + 1 := by rw [scr_len, List.length_take]; omega
      have hok := ok_scr (L.take n)
      have HN := Lib.hid hnext
      clear hnext ht
      obtain ⟨g, o, lv, rfl, hr, hi⟩ := (hv.kept frk).at hd
      generalize L[n] = x at *
      generalize scr (L.take n) = s at *
      have hs0 : 0 < s.length := by omega
      have hs1 : s.length ≤ 65536 := by omega
      obtain ⟨rb, hrb⟩ : ∃ rb, opB x s = rb := ⟨_, rfl⟩
      obtain ⟨re, hre⟩ : ∃ re, opE x = re := ⟨_, rfl⟩
      have hcall := fun W (f : Fr nob wr W) => one_in x hm.1 lv _ s hs0 hs1 hok hm.2 W ((dRow_of row).kept f) (hi.kept f (fun _ _ h => h)) (Nat.lt_of_lt_of_le hg (Nat.le_trans frk.size f.size)) (HT.out.below ((frk.trans f (fun _ _ h => h)).to_below (B := w.heap.size) (Nat.le_refl _) (fun _ h => h.elim)) hg) rb re hrb hre
      have HRB := Lib.hid hrb
      have HLEN := Lib.hid hlen
      have HR := Lib.hid hr
      clear hrb hre hok hlen hi hd hr
      have hlt' : (n : Int) < (L.length : Int) := by omega
      go_upto_region 5 with fail
      refine wp_region_lit ?_
      go_wp2_with (refine wpList_load_mid rfl 60 (.tmp 18) rfl g (o + n * 12) rfl (opc x lv) _ HR.out hdO hrO info_op ?_)
      refine (hcall wr (Fr.refl _ _)).mono ?_
      clear hcall
      rintro e w2 ⟨rfl, hb2⟩
      have f2 := (Fr.refl nob wr).below hb2
      have f3 := f2.alloc (.cells #[.int .u32 (place (li rb) rb : Int), .string ⟨(code (rows (li rb))).toArray⟩] 32)
      have f4 := f3.alloc (.cells #[.int .u32 (place (li rb) rb : Int), .string ⟨(code (rows (li rb))).toArray⟩] 32)
      obtain ⟨d0, d1⟩ := two_cells' (w2.alloc (.cells #[.int .u32 (place (li rb) rb : Int), .string ⟨(code (rows (li rb))).toArray⟩] 32)) (.int .u32 (place (li rb) rb : Int)) (.string ⟨(code (rows (li rb))).toArray⟩) 32
      simp only [World.size_alloc] at d0 d1
      have row4 := f4.row row (fun g _ h => h)
      have frk4 := frk.trans f4 (fun _ _ h => h)
      clear hb2 row f3 f4
      go_wp2_with (at_builtin; refine wpList_append_own _ rfl _ _ 27 rfl w.heap.size 32 i0 (.agg #[.int .u32 0, .string ⟨#[]⟩]) 2 24 Tryz.underlying27 hi0 hz0 hz1 hz2 rfl (by decide) _ s.length (s.flatMap dc) rfl row4 ⟨w2.heap.size + 1, 0, none⟩ 1 1 (dc rb) rfl ?c1 ?c2 ?c3 ?c4 ?c5 ?c6 ?_)
      case c1 => rfl
      case c2 =>
        intro j u hj
        match j, hj with
        | 0, h => simp at h; subst h; exact d0
        | 1, h => simp at h; subst h; exact d1
      case c3 => intro u hu; simp at hu; rcases hu with rfl | rfl <;> rfl
      case c4 => unfold maxLen; omega
      case c5 => omega
      case c6 => exact frk4.size
      intro vo w8 row8 gr8 _
      have frk8 := frk4.grown gr8 (fun g hg hlt => absurd hlt (by have := (row4.lt g hg).1; omega))
      go_wp2_with fail
      refine ⟨⟨n + 1, hlt, by simp, frk8, ?_⟩, by simp [intOf]; omega⟩
      rw [HN.out, HRB.out, List.length_append, List.flatMap_append, List.flatMap_singleton]
      exact row8
    · obtain rfl : n = L.length := by omega
      rw [List.take_length] at row
      have HD := Lib.hid (dRow_of row)
      have HO := Lib.hid (fun g hg => (row.lt g hg).1)
      have HB := Lib.hid (frk.to_below (B := w.heap.size) (Nat.le_refl _) (fun _ h => h.elim))
      clear row frk
      go_wp2_with fail
      exact bodyPost_ret (v := u3) (by simp [results, Tryz.results56, go_sem]) rfl ⟨_, rfl, HD.out, HO.out, HB.out⟩
end Go.Proofs.YtalnhlebgofiiaaGreatDoor
namespace Go.Proofs.YtalnhlebgofiiaaGreatDoor
open Go.RowKit Go.Shelf
open Bd

/-- is an operation's list short -/
def okOp (x : OpD) : Bool := !(decide (40 < x.l.length) || (decide (x.d = 13) && decide (8 < x.l.length)))
/-- is a script one that is asked about -/
def okL (L : List OpD) : Bool := decide (L.length ≤ 10) && L.all okOp
theorem okL_long {L : List OpD} (h : 10 < L.length) : okL L = false := by unfold okL; rw [decide_eq_false (by omega)]; rfl
theorem okL_bad {L : List OpD} {n : Nat} {x : OpD} (h : L[n]? = some x) (hb : okOp x = false) : okL L = false := by
  unfold okL
  cases e : L.all okOp with
  | false => simp
  | true => rw [List.all_eq_true.1 e x (List.mem_of_getElem? h)] at hb; cases hb
theorem okL_yes {L : List OpD} (h : ¬ 10 < L.length) (hb : ∀ x ∈ L.take L.length, okOp x = true) : okL L = true := by
  rw [List.take_length] at hb
  unfold okL
  rw [decide_eq_true (show L.length ≤ 10 by omega), List.all_eq_true.2 hb]; rfl
/-- the set at a place -/
noncomputable def thr (L : List OpD) (d : Nat) : B := if okL L then (scr L).getD (L.length / d) .F else .F
theorem thr_no {L : List OpD} (h : okL L = false) (d : Nat) : thr L d = .F := by unfold thr; rw [h]; rfl
theorem thr_yes {L : List OpD} (h : okL L = true) (d : Nat) : thr L d = (scr L).getD (L.length / d) .F := by unfold thr; rw [h]; rfl
theorem ok_thr (L : List OpD) (d : Nat) : (thr L d).ok 0 := by
  unfold thr
  split
  · exact ok_getD (ok_scr L) _
  · trivial
theorem thr_at {L : List OpD} (h : okL L = true) (d : Nat) : (scr L)[L.length / d]? = some (thr L d) := by
  rw [thr_yes h]
  exact getD_some (by rw [scr_len]; have := Nat.div_le_self L.length d; omega)
theorem tdiv_nat (a n : Nat) : (a : Int).tdiv (n : Int) = ((a / n : Nat) : Int) := (Int.ofNat_tdiv a n).symm

/-- three new variables -/
theorem three_boxes (W : World) (a b c d e f : Value) (T : TypeId) :
    Box2 (((W.alloc (.cells #[a, b] T)).alloc (.cells #[c, d] T)).alloc (.cells #[e, f] T)) W.heap.size a b ∧
    Box2 (((W.alloc (.cells #[a, b] T)).alloc (.cells #[c, d] T)).alloc (.cells #[e, f] T)) (W.heap.size + 1) c d ∧
    Box2 (((W.alloc (.cells #[a, b] T)).alloc (.cells #[c, d] T)).alloc (.cells #[e, f] T)) (W.heap.size + 1 + 1) e f := by
  have h2 := Box2.new (W.alloc (.cells #[a, b] T)) c d T
  have h3 := Box2.new ((W.alloc (.cells #[a, b] T)).alloc (.cells #[c, d] T)) e f T
  simp only [World.size_alloc] at h2 h3
  exact ⟨((Box2.new W a b T).kept (S := nob) (((Fr.refl nob _).alloc _).alloc _) (fun h => h)), h2.kept (S := nob) ((Fr.refl nob _).alloc _) (fun h => h), h3⟩

/-- the results' variables -/
def thF (w : World) (k : Nat) : Prop := k = w.heap.size ∨ k = w.heap.size + 1 ∨ k = w.heap.size + 1 + 1
theorem thF.setB {w W W' : World} {k : Nat} (h : Fr (thF w) W W') (x y : Value) (hk : thF w k) : Fr (thF w) W ((W'.setCell ⟨k, 0, none⟩ x).setCell ⟨k, 1, none⟩ y) :=
  (h.trans (fr_store _ _ _ _) (fun _ _ e => by rw [e]; exact hk)).trans (fr_store _ _ _ _) (fun _ _ e => by rw [e]; exact hk)
theorem thF.k0 {w : World} : thF w w.heap.size := .inl rfl
theorem thF.k1 {w : World} : thF w (w.heap.size + 1) := .inr (.inl rfl)
theorem thF.k2 {w : World} : thF w (w.heap.size + 1 + 1) := .inr (.inr rfl)
theorem three_end {w W : World} {a b c d e f : Value} (frw : Fr nob w W) (b2 : Box2 W w.heap.size a b) (b3 : Box2 W (w.heap.size + 1) c d) (b4 : Box2 W (w.heap.size + 1 + 1) e f) (x0 x1 y0 y1 z0 z1 : Value) :
    (Box2 ((((((W.setCell ⟨w.heap.size, 0, none⟩ x0).setCell ⟨w.heap.size, 1, none⟩ x1).setCell ⟨w.heap.size + 1, 0, none⟩ y0).setCell ⟨w.heap.size + 1, 1, none⟩ y1).setCell ⟨w.heap.size + 1 + 1, 0, none⟩ z0).setCell ⟨w.heap.size + 1 + 1, 1, none⟩ z1).drew w.heap.size x0 x1 ∧
     Box2 ((((((W.setCell ⟨w.heap.size, 0, none⟩ x0).setCell ⟨w.heap.size, 1, none⟩ x1).setCell ⟨w.heap.size + 1, 0, none⟩ y0).setCell ⟨w.heap.size + 1, 1, none⟩ y1).setCell ⟨w.heap.size + 1 + 1, 0, none⟩ z0).setCell ⟨w.heap.size + 1 + 1, 1, none⟩ z1).drew (w.heap.size + 1) y0 y1 ∧
     Box2 ((((((W.setCell ⟨w.heap.size, 0, none⟩ x0).setCell ⟨w.heap.size, 1, none⟩ x1).setCell ⟨w.heap.size + 1, 0, none⟩ y0).setCell ⟨w.heap.size + 1, 1, none⟩ y1).setCell ⟨w.heap.size + 1 + 1, 0, none⟩ z0).setCell ⟨w.heap.size + 1 + 1, 1, none⟩ z1).drew (w.heap.size + 1 + 1) z0 z1) ∧
    Below w.heap.size w ((((((W.setCell ⟨w.heap.size, 0, none⟩ x0).setCell ⟨w.heap.size, 1, none⟩ x1).setCell ⟨w.heap.size + 1, 0, none⟩ y0).setCell ⟨w.heap.size + 1, 1, none⟩ y1).setCell ⟨w.heap.size + 1 + 1, 0, none⟩ z0).setCell ⟨w.heap.size + 1 + 1, 1, none⟩ z1).drew := by
  obtain ⟨p2, g2⟩ := b2.set x0 x1
  have p3 := b3.kept g2 (show ¬ w.heap.size + 1 = w.heap.size by omega)
  have p4 := b4.kept g2 (show ¬ w.heap.size + 1 + 1 = w.heap.size by omega)
  obtain ⟨q3, g3⟩ := p3.set y0 y1
  have q2 := p2.kept g3 (show ¬ w.heap.size = w.heap.size + 1 by omega)
  have q4 := p4.kept g3 (show ¬ w.heap.size + 1 + 1 = w.heap.size + 1 by omega)
  obtain ⟨r4, g4⟩ := q4.set z0 z1
  have r2 := q2.kept g4 (show ¬ w.heap.size = w.heap.size + 1 + 1 by omega)
  have r3 := q3.kept g4 (show ¬ w.heap.size + 1 = w.heap.size + 1 + 1 by omega)
  refine ⟨⟨r2.kept (Fr.refl nob _).drew (fun h => h), r3.kept (Fr.refl nob _).drew (fun h => h), r4.kept (Fr.refl nob _).drew (fun h => h)⟩, ?_⟩
  have l0 : w.heap.size ≤ w.heap.size := Nat.le_refl _
  have l1 : w.heap.size ≤ w.heap.size + 1 := by omega
  have l2 : w.heap.size ≤ w.heap.size + 1 + 1 := by omega
  have G1 := frw.set1 (o := 0) l0 x0
  have G2 := G1.set1 (o := 1) l0 x1
  have G3 := G2.set1 (o := 0) l1 y0
  have G4 := G3.set1 (o := 1) l1 y1
  have G5 := G4.set1 (o := 0) l2 z0
  have G6 := G5.set1 (o := 1) l2 z1
  exact G6.drew.to_below (Nat.le_refl _) (fun _ h => h.elim)
theorem dval_F : dval .F = .agg #[.int .u32 0, .string ⟨#[]⟩] := rfl

set_option maxRecDepth 100000 in
set_option maxHeartbeats 2000000 in
/-- THREE: the last sets of a script, where it is short. -/
theorem three_any (L : List OpD) (hx : ∀ x ∈ L, x.Fits) (v : Value) (w : World) (hv : ORow w v L) (hg : 0 < w.heap.size) (hT : Tab32 w) :
    Calls Tryz.prog 20 #[v] w fun e w' => e = .returned (.tuple #[dval (thr L 1), dval (thr L 2), dval (thr L 3), .bool (okL L)]) ∧ Below w.heap.size w w' := by
  obtain ⟨a, cap, rfl⟩ := hv.form
  have HT := Lib.hid hT
  clear hT
  go_enter Tryz.func20, Tryz.ntmps20
  go_upto_region 1 with fail
  obtain ⟨b2, b3, b4⟩ := three_boxes w (.int .u32 0) (.string ⟨#[]⟩) (.int .u32 0) (.string ⟨#[]⟩) (.int .u32 0) (.string ⟨#[]⟩) 32
  have frw : Fr nob w (((w.alloc (.cells #[.int .u32 0, .string ⟨#[]⟩] 32)).alloc (.cells #[.int .u32 0, .string ⟨#[]⟩] 32)).alloc (.cells #[.int .u32 0, .string ⟨#[]⟩] 32)) := (((Fr.refl nob w).alloc _).alloc _).alloc _
  generalize ((w.alloc (.cells #[.int .u32 0, .string ⟨#[]⟩] 32)).alloc (.cells #[.int .u32 0, .string ⟨#[]⟩] 32)).alloc (.cells #[.int .u32 0, .string ⟨#[]⟩] 32) = W at *
  have ⟨c20, c21, f2⟩ := b2
  have ⟨c30, c31, f3⟩ := b3
  have ⟨c40, c41, f4⟩ := b4
  have f20 := f2 0
  have f21 := f2 1
  have f30 := f3 0
  have f31 := f3 1
  have f40 := f4 0
  have f41 := f4 1
  have n1 : ¬ w.heap.size + 1 = w.heap.size := by omega
  have n2 : ¬ w.heap.size + 1 + 1 = w.heap.size := by omega
  have n3 : ¬ w.heap.size + 1 + 1 = w.heap.size + 1 := by omega
  clear f2 f3 f4
  have HB2 := Lib.hid b2
  have HB3 := Lib.hid b3
  have HB4 := Lib.hid b4
  clear b2 b3 b4
  by_cases hlong : 10 < L.length
  · have hlong' : (10 : Int) < (L.length : Int) := by omega
    have HL := Lib.hid (okL_long hlong)
    clear hlong
    go_wp2_with fail
    go_region
    go_wp2_with fail
    obtain ⟨⟨⟨p0, p1, _⟩, ⟨q0, q1, _⟩, ⟨r0, r1, _⟩⟩, HB⟩ := three_end frw HB2.out HB3.out HB4.out (.int .u32 0) (.string ⟨#[]⟩) (.int .u32 0) (.string ⟨#[]⟩) (.int .u32 0) (.string ⟨#[]⟩)
    rw [thr_no HL.out, thr_no HL.out, thr_no HL.out, HL.out]
    exact bodyPost_ret (v := .tuple #[dval .F, dval .F, dval .F, .bool false]) (by simp [results, Tryz.results20, go_sem, p0, p1, q0, q1, r0, r1, dval_F]) rfl ⟨rfl, HB⟩
  · have hlong' : ¬ (10 : Int) < (L.length : Int) := by omega
    go_wp2_with fail
    go_loop [6] (fun iv => ∃ n : Nat, n ≤ L.length ∧ iv = .int .i64 (n : Int) ∧ ∀ x ∈ L.take n, okOp x = true) (fun iv => L.length - (intOf iv).toNat)
    case atStart => exact ⟨0, Nat.zero_le _, rfl, fun x h => by simp at h⟩
    case round =>
      obtain ⟨n, hn, rfl, hall⟩ := hrel
      by_cases hlt : n < L.length
      · have hlt' : (n : Int) < (L.length : Int) := by omega
        have hd : L[n]? = some L[n] := by simp [hlt]
        have ht : L.take (n + 1) = L.take n ++ [L[n]] := by rw [List.take_add_one, hd]; rfl
        obtain ⟨g, o, lv, rfl, hr, hi⟩ := (hv.kept frw).at hd
        generalize L[n] = x at *
        obtain ⟨al, capl, rfl, _, _⟩ := hi
        have k0 := hr 0 _ rfl
        rw [Nat.add_zero] at k0
        have k10 := hr 10 _ rfl
        have HALL := Lib.hid hall
        have HD := Lib.hid hd
        have HTK := Lib.hid ht
        clear hr hall hd ht
        cases hb : okOp x with
        | true =>
          have hb1 : ¬ (40 : Int) < (x.l.length : Int) := by unfold okOp at hb; simp at hb; omega
          by_cases h13 : x.d = 13
          · have hb2 : ¬ (8 : Int) < (x.l.length : Int) := by unfold okOp at hb; simp [h13] at hb; omega
            rw [h13] at k0
            go_wp2_with fail
            refine ⟨⟨n + 1, hlt, by simp, ?_⟩, by simp [intOf]; omega⟩
            rw [HTK.out]
            intro y hy
            rcases List.mem_append.1 hy with h1 | h1
            · exact HALL.out y h1
            · rw [List.mem_singleton.1 h1]; exact hb
          · have h13' : ((x.d : Int) == 13) = false := by simp only [beq_eq_false_iff_ne]; omega
            go_wp2_with fail
            refine ⟨⟨n + 1, hlt, by simp, ?_⟩, by simp [intOf]; omega⟩
            rw [HTK.out]
            intro y hy
            rcases List.mem_append.1 hy with h1 | h1
            · exact HALL.out y h1
            · rw [List.mem_singleton.1 h1]; exact hb
        | false =>
          have HL := Lib.hid (okL_bad HD.out hb)
          by_cases hb1 : 40 < x.l.length
          · have hb1' : (40 : Int) < (x.l.length : Int) := by omega
            go_wp2_with fail
            go_region
            go_wp2_with fail
            obtain ⟨⟨⟨p0, p1, _⟩, ⟨q0, q1, _⟩, ⟨r0, r1, _⟩⟩, HB⟩ := three_end frw HB2.out HB3.out HB4.out (.int .u32 0) (.string ⟨#[]⟩) (.int .u32 0) (.string ⟨#[]⟩) (.int .u32 0) (.string ⟨#[]⟩)
            rw [thr_no HL.out, thr_no HL.out, thr_no HL.out, HL.out]
            exact bodyPost_ret (v := .tuple #[dval .F, dval .F, dval .F, .bool false]) (by simp [results, Tryz.results20, go_sem, p0, p1, q0, q1, r0, r1, dval_F]) rfl ⟨rfl, HB⟩
          · have hb1' : ¬ (40 : Int) < (x.l.length : Int) := by omega
            have h13 : x.d = 13 := by unfold okOp at hb; simp [hb1] at hb; exact hb.1
            have hb2 : (8 : Int) < (x.l.length : Int) := by unfold okOp at hb; simp [hb1] at hb; omega
            rw [h13] at k0
            go_wp2_with fail
            go_region
            go_wp2_with fail
            obtain ⟨⟨⟨p0, p1, _⟩, ⟨q0, q1, _⟩, ⟨r0, r1, _⟩⟩, HB⟩ := three_end frw HB2.out HB3.out HB4.out (.int .u32 0) (.string ⟨#[]⟩) (.int .u32 0) (.string ⟨#[]⟩) (.int .u32 0) (.string ⟨#[]⟩)
            rw [thr_no HL.out, thr_no HL.out, thr_no HL.out, HL.out]
            exact bodyPost_ret (v := .tuple #[dval .F, dval .F, dval .F, .bool false]) (by simp [results, Tryz.results20, go_sem, p0, p1, q0, q1, r0, r1, dval_F]) rfl ⟨rfl, HB⟩
      · obtain rfl : n = L.length := by omega
        have hyes := okL_yes hlong hall
        have t1 := thr_at hyes 1
        have t2 := thr_at hyes 2
        have t3 := thr_at hyes 3
        rw [Nat.div_one] at t1
        have o1 := ok_thr L 1
        clear hall
        go_wp2_with fail
        have hx2 : ∀ x ∈ L, x.Fits ∧ x.l.length ≤ 1048576 := fun x h => ⟨hx x h, by have h1 := List.all_eq_true.1 (Bool.and_eq_true_iff.1 hyes).2 x h; unfold okOp at h1; simp at h1; omega⟩
        refine (Make_any L (by omega) hx2 _ W (hv.kept frw) (Nat.lt_of_lt_of_le hg frw.size) (HT.out.below (frw.to_below (B := w.heap.size) (Nat.le_refl _) (fun _ h => h.elim)) hg)).mono ?_
        rintro e w4 ⟨sv, rfl, hrow, hown, hb4⟩
        obtain ⟨a3, cap3, rfl⟩ := hrow.form
        obtain ⟨g, rfl, x0, x1⟩ := hrow.at t1
        obtain ⟨g', hg', y0, y1⟩ := hrow.at t2
        obtain rfl : g = g' := by cases hg'; rfl
        obtain ⟨g', hg', z0, z1⟩ := hrow.at t3
        obtain rfl : g = g' := by cases hg'; rfl
        have hgW : W.heap.size ≤ g := hown g rfl
        have f4 := (Fr.refl nob W).below hb4
        have HB2' := Lib.hid (HB2.out.kept f4 (fun h => h))
        have HB3' := Lib.hid (HB3.out.kept f4 (fun h => h))
        have HB4' := Lib.hid (HB4.out.kept f4 (fun h => h))
        have hl4 := HB4.out.lt
        have frw4 := frw.trans f4 (fun _ _ h => h)
        rw [scr_len]
        obtain ⟨T1, hT1⟩ : ∃ T1, T1 = thr L 1 := ⟨_, rfl⟩
        rw [← hT1] at x0 x1
        have HT1 := Lib.hid hT1
        clear hT1
        obtain ⟨T2, hT2⟩ : ∃ T2, T2 = thr L 2 := ⟨_, rfl⟩
        rw [← hT2] at y0 y1
        have HT2 := Lib.hid hT2
        clear hT2
        obtain ⟨T3, hT3⟩ : ∃ T3, T3 = thr L 3 := ⟨_, rfl⟩
        rw [← hT3] at z0 z1
        have HT3 := Lib.hid hT3
        clear hT3
        have HY := Lib.hid hyes
        have HFR := Lib.hid frw4
        have keepS : ∀ w', Fr (thF w) w4 w' → (w'.cell? ⟨g, L.length * 2, none⟩ = some (.int .u32 (place (li T1) T1 : Int)) ∧ w'.cell? ⟨g, L.length * 2 + 1, none⟩ = some (.string ⟨(code (rows (li T1))).toArray⟩) ∧
            w'.cell? ⟨g, L.length / 2 * 2, none⟩ = some (.int .u32 (place (li T2) T2 : Int)) ∧ w'.cell? ⟨g, L.length / 2 * 2 + 1, none⟩ = some (.string ⟨(code (rows (li T2))).toArray⟩) ∧
            w'.cell? ⟨g, L.length / 3 * 2, none⟩ = some (.int .u32 (place (li T3) T3 : Int)) ∧ w'.cell? ⟨g, L.length / 3 * 2 + 1, none⟩ = some (.string ⟨(code (rows (li T3))).toArray⟩)) := fun w' f => by
          have hn : ¬ thF w g := by unfold thF; omega
          exact ⟨f.cell x0 hn, f.cell x1 hn, f.cell y0 hn, f.cell y1 hn, f.cell z0 hn, f.cell z1 hn⟩
        clear hown hb4 hrow t1 t2 t3 hyes hg' f4 frw frw4 hx hx2 hv hgW hl4 o1 c20 c21 c30 c31 c40 c41 f20 f21 f30 f31 f40 f41
        have j2 : (L.length : Int).tdiv 2 = ((L.length / 2 : Nat) : Int) := tdiv_nat L.length 2
        have j3 : (L.length : Int).tdiv 3 = ((L.length / 3 : Nat) : Int) := tdiv_nat L.length 3
        have hi2 : L.length / 2 ≤ L.length := Nat.div_le_self _ _
        have hi3 : L.length / 3 ≤ L.length := Nat.div_le_self _ _
        generalize L.length / 2 = i2 at *
        generalize L.length / 3 = i3 at *
        have ⟨c20, c21, f2⟩ := HB2'.out
        have ⟨c30, c31, f3⟩ := HB3'.out
        have ⟨c40, c41, f4⟩ := HB4'.out
        have f20 := f2 0
        have f21 := f2 1
        have f30 := f3 0
        have f31 := f3 1
        have f40 := f4 0
        have f41 := f4 1
        clear f2 f3 f4
        go_upto_region 10 with fail
        have u1 : (0 : Int) ≤ (L.length : Int) := Int.natCast_nonneg _
        have u2 : (0 : Int) ≤ (i2 : Int) := Int.natCast_nonneg _
        have u3 : (0 : Int) ≤ (i3 : Int) := Int.natCast_nonneg _
        have v1 : (L.length : Int) < (L.length : Int) + 1 := by omega
        have v2 : (i2 : Int) < (L.length : Int) + 1 := by omega
        have v3 : (i3 : Int) < (L.length : Int) + 1 := by omega
        have v4 : IntKind.i64.wrap ((L.length : Int) + 1 - 1) = (L.length : Int) := by rw [IntKind.wrap_i64]; omega
        have v5 : (L.length : Int) + 1 - 1 = (L.length : Int) := by omega
        have v6 : IntKind.i64.wrap (L.length : Int) = (L.length : Int) := by rw [IntKind.wrap_i64]; omega
        have v7 : IntKind.i64.wrap (i2 : Int) = (i2 : Int) := by rw [IntKind.wrap_i64]; omega
        have v8 : IntKind.i64.wrap (i3 : Int) = (i3 : Int) := by rw [IntKind.wrap_i64]; omega
        go_region_held3 (fun w' => w'.cell? ⟨g, L.length * 2, none⟩ = some (.int .u32 (place (li T1) T1 : Int)) ∧ w'.cell? ⟨g, L.length * 2 + 1, none⟩ = some (.string ⟨(code (rows (li T1))).toArray⟩) ∧ w'.cell? ⟨g, i2 * 2, none⟩ = some (.int .u32 (place (li T2) T2 : Int)) ∧ w'.cell? ⟨g, i2 * 2 + 1, none⟩ = some (.string ⟨(code (rows (li T2))).toArray⟩) ∧ w'.cell? ⟨g, i3 * 2, none⟩ = some (.int .u32 (place (li T3) T3 : Int)) ∧ w'.cell? ⟨g, i3 * 2 + 1, none⟩ = some (.string ⟨(code (rows (li T3))).toArray⟩))
          (first | (refine keepS _ ?_; repeat (first | (with_reducible exact Fr.refl _ _) | (with_reducible exact thF.k0) | (with_reducible exact thF.k1) | (with_reducible exact thF.k2) | (with_reducible refine thF.setB ?_ _ _ ?_) | (with_reducible refine Fr.drew ?_))) | fail)
          (first | fail)
        go_wp2_with fail
        obtain ⟨⟨⟨p0, p1, _⟩, ⟨q0, q1, _⟩, ⟨r0, r1, _⟩⟩, HB⟩ := three_end HFR.out HB2'.out HB3'.out HB4'.out (.int .u32 (place (li T1) T1 : Int)) (.string ⟨(code (rows (li T1))).toArray⟩) (.int .u32 (place (li T2) T2 : Int)) (.string ⟨(code (rows (li T2))).toArray⟩) (.int .u32 (place (li T3) T3 : Int)) (.string ⟨(code (rows (li T3))).toArray⟩)
        rw [HY.out]
        exact bodyPost_ret (v := .tuple #[dval T1, dval T2, dval T3, .bool true]) (by simp [results, Tryz.results20, go_sem, p0, p1, q0, q1, r0, r1, dval]) rfl ⟨by rw [HT1.out, HT2.out, HT3.out], HB⟩
end Go.Proofs.YtalnhlebgofiiaaGreatDoor
