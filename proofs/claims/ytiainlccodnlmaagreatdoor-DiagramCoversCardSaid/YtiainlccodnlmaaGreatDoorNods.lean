import Derived.Test.YtiainlccodnlmaaGreatDoorStep
import Derived.Test.YtiainlccodnlmaaGreatDoorHas
import Derived.Laws.StructEq
import Derived.Test.YtiainlccodnlmaaGreatDoorOps
import Derived.Lib.Hide
namespace Go.Proofs.YtiainlccodnlmaaGreatDoor
open Go.RowKit
open Bd

abbrev Dec := Int × Int × Int
/-- a list of decisions, read off memory -/
def LRow (w : World) (v : Value) (L : List Dec) : Prop := ∃ (a : Option Addr) (cap : Nat), v = .slice a L.length cap ∧ ∀ (k : Nat) (d : Dec), L[k]? = some d → ∃ b o, a = some ⟨b, o, none⟩ ∧ w.cell? ⟨b, o + k * 3, none⟩ = some (.int .i64 d.1) ∧ w.cell? ⟨b, o + k * 3 + 1, none⟩ = some (.int .i64 d.2.1) ∧ w.cell? ⟨b, o + k * 3 + 2, none⟩ = some (.int .i64 d.2.2)
theorem LRow.below {w w' : World} {v : Value} {L : List Dec} (h : LRow w v L) (hb : Below w.heap.size w w') : LRow w' v L := by
  obtain ⟨a, cap, rfl, hc⟩ := h
  refine ⟨a, cap, rfl, fun k d hd => ?_⟩
  obtain ⟨b, o, h1, h2, h3, h4⟩ := hc k d hd
  have f := (Fr.refl nob w).below hb
  exact ⟨b, o, h1, f.cell' h2 (fun h => h), f.cell' h3 (fun h => h), f.cell' h4 (fun h => h)⟩
theorem LRow.kept {w w' : World} {v : Value} {L : List Dec} (h : LRow w v L) (f : Fr nob w w') : LRow w' v L := by
  obtain ⟨a, cap, rfl, hc⟩ := h
  refine ⟨a, cap, rfl, fun k d hd => ?_⟩
  obtain ⟨b, o, h1, h2, h3, h4⟩ := hc k d hd
  exact ⟨b, o, h1, f.cell' h2 (fun h => h), f.cell' h3 (fun h => h), f.cell' h4 (fun h => h)⟩
theorem LRow.form {w : World} {v : Value} {L : List Dec} (h : LRow w v L) : ∃ a cap, v = .slice a L.length cap := by
  obtain ⟨a, cap, e, _⟩ := h; exact ⟨a, cap, e⟩
theorem LRow.at {w : World} {a : Option Addr} {n cap : Nat} {L : List Dec} (h : LRow w (.slice a n cap) L) {k : Nat} {d : Dec} (hd : L[k]? = some d) : ∃ b o, a = some ⟨b, o, none⟩ ∧ w.cell? ⟨b, o + k * 3, none⟩ = some (.int .i64 d.1) ∧ w.cell? ⟨b, o + k * 3 + 1, none⟩ = some (.int .i64 d.2.1) ∧ w.cell? ⟨b, o + k * 3 + 2, none⟩ = some (.int .i64 d.2.2) := by
  obtain ⟨a', cap', e, hc⟩ := h
  cases e
  exact hc k d hd
abbrev dv (d : Dec) : Value := .agg #[.int .i64 d.1, .int .i64 d.2.1, .int .i64 d.2.2]

end Go.Proofs.YtiainlccodnlmaaGreatDoor
namespace Go.Proofs.YtiainlccodnlmaaGreatDoor
open Go.RowKit
open Bd

set_option maxRecDepth 100000 in
set_option maxHeartbeats 1000000 in
theorem lsame_any (L : List Dec) (hL : L.length ≤ 4194304) (va vb : Value) (w : World) (ha : LRow w va L) (hb : LRow w vb L) : Calls Tryz.prog 67 #[va, vb] w fun e w' => e = .returned (.bool true) ∧ Below w.heap.size w w' := by
  obtain ⟨a, c1, rfl⟩ := ha.form
  obtain ⟨b, c2, rfl⟩ := hb.form
  go_enter Tryz.func67, Tryz.ntmps67
  go_wp2_with fail
  go_loopw [5] (fun kv wr => ∃ k : Nat, k ≤ L.length ∧ kv = .int .i64 (k : Int) ∧ Fr nob w wr) (fun kv _ => L.length - (intOf kv).toNat)
  case atStart => exact ⟨0, Nat.zero_le _, rfl, Fr.refl _ _⟩
  case round =>
    obtain ⟨k, hk, rfl, fwr⟩ := hrel
    by_cases hlt : k < L.length
    · have hd : L[k]? = some L[k] := by simp [hlt]
      obtain ⟨b1, o1, rfl, x0, x1, x2⟩ := (ha.kept fwr).at hd
      obtain ⟨b2, o2, rfl, y0, y1, y2⟩ := (hb.kept fwr).at hd
      generalize L[k] = d at *
      have hk0 : (0 : Int) ≤ (k : Int) := Int.natCast_nonneg _
      have hk1 : (k : Int) < (L.length : Int) := by omega
      clear hd ha hb
      go_wp2_with fail
      go_quiet (fail)
      go_wp2_with fail
      exact ⟨⟨k + 1, by omega, by go_num, fwr.drewN _⟩, by simp [intOf]; omega⟩
    · obtain rfl : k = L.length := by omega
      go_wp2_with fail
      go_ret
      exact ⟨rfl, fwr.to_below (Nat.le_refl _) (fun _ h => h.elim)⟩
end Go.Proofs.YtiainlccodnlmaaGreatDoor
namespace Go.Proofs.YtiainlccodnlmaaGreatDoor
open Go.RowKit
open Bd

/-- a node as a decision -/
def decB (b : B) : Dec := ((b.top : Int), (0, 0))
def dec3 (R : List B) (b : B) : Dec := ((b.top : Int), (place R b.lo : Int), (place R b.hi : Int))
abbrev d3 (d : Dec) : List Value := [.int .i64 d.1, .int .i64 d.2.1, .int .i64 d.2.2]
theorem d3_len : ∀ L : List Dec, (L.flatMap d3).length = L.length * 3
  | [] => rfl
  | x :: L => by rw [List.flatMap_cons, List.length_append, d3_len L]; simp only [List.length_cons, List.length_nil]; omega
theorem d3_drop : ∀ (L : List Dec) (k : Nat), (L.flatMap d3).drop (k * 3) = (L.drop k).flatMap d3
  | [], k => by simp
  | x :: L, 0 => by simp
  | x :: L, k + 1 => by
    rw [List.flatMap_cons, List.drop_succ_cons, ← d3_drop L k, show (k + 1) * 3 = k * 3 + 1 + 1 + 1 by omega]
    rfl
theorem d3_at {L : List Dec} {k : Nat} {x : Dec} (h : L[k]? = some x) : (L.flatMap d3)[k * 3]? = some (.int .i64 x.1) ∧ (L.flatMap d3)[k * 3 + 1]? = some (.int .i64 x.2.1) ∧ (L.flatMap d3)[k * 3 + 2]? = some (.int .i64 x.2.2) := by
  have e : L.drop k = x :: L.drop (k + 1) := by
    have hk := (List.getElem?_eq_some_iff.1 h).1
    rw [List.drop_eq_getElem_cons hk]
    congr 1
    exact (List.getElem?_eq_some_iff.1 h).2
  have hd := d3_drop L k
  rw [e, List.flatMap_cons] at hd
  have g : ∀ j, (L.flatMap d3)[k * 3 + j]? = ((L.flatMap d3).drop (k * 3))[j]? := fun j => by rw [List.getElem?_drop]
  refine ⟨(g 0).trans ?_, (g 1).trans ?_, (g 2).trans ?_⟩ <;> rw [hd] <;> rfl
theorem lRow_of {w : World} {base : Nat} {v : Value} {L : List Dec} (h : w.ownsRow base 156 3 v L.length (L.flatMap d3)) : LRow w v L := by
  rcases h.2 with ⟨rfl, hn⟩ | ⟨g, cap, cur, rfl, _⟩
  · have e : L = [] := List.length_eq_zero_iff.1 hn
    subst e
    exact ⟨none, 0, rfl, fun k x hx => by simp at hx⟩
  · refine ⟨_, cap, rfl, fun k x hx => ⟨g, 0, rfl, ?_, ?_, ?_⟩⟩ <;> rw [Nat.zero_add]
    · have hk := (List.getElem?_eq_some_iff.1 hx).1
      rw [h.cellAt (k * 3) (by omega)]; exact (d3_at hx).1
    · have hk := (List.getElem?_eq_some_iff.1 hx).1
      rw [h.cellAt (k * 3 + 1) (by omega)]; exact (d3_at hx).2.1
    · have hk := (List.getElem?_eq_some_iff.1 hx).1
      rw [h.cellAt (k * 3 + 2) (by omega)]; exact (d3_at hx).2.2

/-- the nodes of a set, as Nodes lists them -/
def nodD (A : B) : List Dec := (li A).reverse.map (dec3 (li A))
def nodK (A : B) (k : Nat) : List Dec := ((li A).drop ((li A).length - k)).reverse.map (dec3 (li A))
theorem nodK_zero (A : B) : nodK A 0 = [] := by simp [nodK]
theorem nodK_all (A : B) : nodK A (li A).length = nodD A := by simp [nodK, nodD]
theorem nodK_len {A : B} {k : Nat} (h : k ≤ (li A).length) : (nodK A k).length = k := by simp [nodK]; omega
theorem nodK_succ {A : B} {k : Nat} {x : B} (h : (li A).drop ((li A).length - (k + 1)) = x :: (li A).drop ((li A).length - k)) : nodK A (k + 1) = nodK A k ++ [dec3 (li A) x] := by
  unfold nodK; rw [h]; simp

theorem new_3 (w : World) (a b c : Value) (T : TypeId) : (w.alloc (.cells #[a, b, c] T)).cell? ⟨w.heap.size, 0, none⟩ = some a ∧ (w.alloc (.cells #[a, b, c] T)).cell? ⟨w.heap.size, 1, none⟩ = some b ∧ (w.alloc (.cells #[a, b, c] T)).cell? ⟨w.heap.size, 2, none⟩ = some c :=
  ⟨World.cell?_alloc_at _ _ _ _ (by simp), World.cell?_alloc_at _ _ _ _ (by simp), World.cell?_alloc_at _ _ _ _ (by simp)⟩
theorem info_dec : (Tryz.prog.info? 156).map (fun i => (i.zero, i.size, i.bytes)) = some (some (.agg #[.int .i64 0, .int .i64 0, .int .i64 0]), 3, 24) := by kernel_rfl

set_option maxRecDepth 100000 in
set_option maxHeartbeats 1000000 in
theorem Nodes_any (A : B) (hA : A.ok 0) (w : World) : Calls Tryz.prog 65 #[dval A] w fun e w' => ∃ v, e = .returned (.tuple #[v, .int .i64 (place (li A) A : Int)]) ∧ LRow w' v (nodD A) ∧ Below w.heap.size w w' := by
  have a0 : (w.alloc (.cells #[.int .u32 (place (li A) A : Int), .string ⟨(code (rows (li A))).toArray⟩] 32)).cell? ⟨w.heap.size, 0, none⟩ = some (.int .u32 (place (li A) A : Int)) := World.cell?_alloc_at _ _ _ _ (by simp)
  have a1 : (w.alloc (.cells #[.int .u32 (place (li A) A : Int), .string ⟨(code (rows (li A))).toArray⟩] 32)).cell? ⟨w.heap.size, 1, none⟩ = some (.string ⟨(code (rows (li A))).toArray⟩) := World.cell?_alloc_at _ _ _ _ (by simp)
  have fr : Fr nob w (w.alloc (.cells #[.int .u32 (place (li A) A : Int), .string ⟨(code (rows (li A))).toArray⟩] 32)) := (Fr.refl nob w).alloc _
  have hs := (small_li hA).1
  have hpl : (place (li A) A : Int) < 4294967296 := by have h1 := place_lt (inn_li A); omega
  obtain ⟨i0, hi0, hz0, hz1, hz2⟩ := info_parts info_dec
  go_enter Tryz.func65, Tryz.ntmps65
  go_wp2_with fail
  generalize w.alloc (.cells #[.int .u32 (place (li A) A : Int), .string ⟨(code (rows (li A))).toArray⟩] 32) = W at *
  refine (size_any A hA _).mono ?_
  rintro e w1 ⟨rfl, hb⟩
  replace fr := fr.below hb
  replace a0 := ((Fr.refl nob W).below hb).cell a0 (fun h => h)
  replace a1 := ((Fr.refl nob W).below hb).cell a1 (fun h => h)
  clear hb
  go_wp2_with (at_make; refine wpList_make_own _ rfl _ _ 105 rfl (w.heap.size + 1) 156 i0 (.agg #[.int .i64 0, .int .i64 0, .int .i64 0]) 3 Tryz.underlying105 hi0 hz0 hz1 .i64 .u32 ((li A).length : Int) (li A).length rfl rfl ?c1 ?c2 ?c3 (lt_of_cell a0) ?_)
  case c1 => omega
  case c2 => rw [hz2]; omega
  case c3 => unfold maxLen; omega
  intro w2 row2 gr2
  replace fr := fr.grown gr2 (fun k h => by cases h)
  replace a0 := gr2.cell a0 (by simp)
  replace a1 := gr2.cell a1 (by simp)
  clear gr2
  go_wp2_with fail
  refine (size_any A hA _).mono ?_
  rintro e w3 ⟨rfl, hb⟩
  have f3 := (Fr.refl nob w2).below hb
  replace fr := fr.below hb
  replace a0 := f3.cell a0 (fun h => h)
  replace a1 := f3.cell a1 (fun h => h)
  have row3 := f3.row row2 (fun _ _ h => h)
  clear hb f3 row2
  go_wp2_with fail
  go_loopw [4, 5, 12] (fun sv _ p wr => ∃ k : Nat, k ≤ (li A).length ∧ p = .int .u32 (k : Int) ∧ Fr nob w wr ∧ wr.cell? ⟨w.heap.size, 0, none⟩ = some (.int .u32 (place (li A) A : Int)) ∧ wr.cell? ⟨w.heap.size, 1, none⟩ = some (.string ⟨(code (rows (li A))).toArray⟩) ∧ wr.ownsRow (w.heap.size + 1) 156 3 sv k ((nodK A k).flatMap d3)) (fun _ _ p _ => (li A).length - (intOf p).toNat)
  case atStart => exact ⟨0, Nat.zero_le _, rfl, fr, a0, a1, by rw [nodK_zero]; exact row3⟩
  case round =>
    clear a0 a1 fr row3
    obtain ⟨k, hk, rfl, fr, a0, a1, row⟩ := hrel
    have ROW := Lib.hid row
    have HPL := Lib.hid hpl
    clear row hpl
    by_cases hlt : k < (li A).length
    · have hlt' : (k : Int) < ((li A).length : Int) := by omega
      obtain ⟨x, hx, hp, hd⟩ := nth_place (good_li A) hlt
      have h := fun W => at_any A x hA (.inr hx) W
      rw [hp] at h
      have HX := Lib.hid hx
      have HP := Lib.hid hp
      have HK := Lib.hid (nodK_succ hd)
      clear hd hp hx
      go_wp2_with fail
      refine (h _).mono ?_
      rintro e w4 ⟨rfl, hb⟩
      clear h
      have f4 := (Fr.refl nob wr).below hb
      have fr4 := fr.below hb
      have b0 := f4.cell a0 (fun h => h)
      have b1 := f4.cell a1 (fun h => h)
      have row4 := f4.row ROW.out (fun _ _ h => h)
      have ROW4 := Lib.hid row4
      clear hb a0 a1 fr row4 f4
      simp only [rowB, nk] at *
      go_upto_region 6 with fail
      have hx := HX.out
      have hrs : x.top < 24 ∧ place (li A) x.lo < 2097154 ∧ place (li A) x.hi < 2097154 := by
        have hp := HP.out
        cases x with
        | N i l u => exact rows_small (good_li A) (small_li hA) _ (List.mem_of_getElem? (rows_at (good_li A) hx).1)
        | F => simp [place] at hp
        | T => simp [place] at hp
      have h1 : x.top < 24 := hrs.1
      have h2 : place (li A) x.lo < 2097154 := hrs.2.1
      have h3 : place (li A) x.hi < 2097154 := hrs.2.2
      clear hrs hx
      have f5 := ((Fr.refl nob w4).alloc (.cells #[.int .u8 (x.top : Int), .int .u32 (place (li A) x.lo : Int), .int .u32 (place (li A) x.hi : Int)] 98)).alloc (.cells #[.int .i64 (x.top : Int), .int .i64 (place (li A) x.lo : Int), .int .i64 (place (li A) x.hi : Int)] 156)
      obtain ⟨c0, c1, c2⟩ := new_3 (w4.alloc (.cells #[.int .u8 (x.top : Int), .int .u32 (place (li A) x.lo : Int), .int .u32 (place (li A) x.hi : Int)] 98)) (.int .i64 (x.top : Int)) (.int .i64 (place (li A) x.lo : Int)) (.int .i64 (place (li A) x.hi : Int)) 156
      simp only [World.size_alloc] at c0 c1 c2
      have row5 := f5.row ROW4.out (fun _ _ h => h)
      have fr5 := fr4.trans f5 (fun _ _ h => h)
      have y0 := f5.cell b0 (fun h => h)
      have y1 := f5.cell b1 (fun h => h)
      have hsz := fr4.size
      clear ROW ROW4 fr4 f5
      go_wp2_with (at_builtin; refine wpList_append_own _ rfl _ _ 105 rfl (w.heap.size + 1) 156 i0 (.agg #[.int .i64 0, .int .i64 0, .int .i64 0]) 3 24 Tryz.underlying105 hi0 hz0 hz1 hz2 rfl (by decide) _ k ((nodK A k).flatMap d3) rfl row5 ⟨w4.heap.size + 1, 0, none⟩ 1 1 (d3 (dec3 (li A) x)) rfl ?c4 ?c5 ?c6 ?c7 ?c8 ?c9 ?_)
      case c4 => rfl
      case c5 =>
        intro j u hj
        match j, hj with
        | 0, h => simp at h; subst h; exact c0
        | 1, h => simp at h; subst h; exact c1
        | 2, h => simp at h; subst h; exact c2
      case c6 => intro u hu; simp at hu; rcases hu with rfl | rfl | rfl <;> rfl
      case c7 => unfold maxLen; omega
      case c8 => omega
      case c9 => exact lt_of_cell y0
      intro vo w8 row8 gr8 _
      have hne : ∀ g, Value.ownBlock u4 = some g → w.heap.size + 1 ≤ g := fun g hg => (row5.lt g hg).1
      have fr8 := fr5.grown gr8 (fun g hg hlt => absurd hlt (by have := hne g hg; omega))
      have z0 := gr8.cell y0 (by intro e; have := hne _ e.symm; simp at this; omega)
      have z1 := gr8.cell y1 (by intro e; have := hne _ e.symm; simp at this; omega)
      clear c0 c1 c2 b0 b1 y0 y1 gr8 row5
      go_wp2_with fail
      refine ⟨⟨k + 1, hlt, by simp, fr8, z0, z1, ?_⟩, by simp [intOf]; omega⟩
      rw [HK.out, List.flatMap_append, List.flatMap_singleton]
      exact row8
    · obtain rfl : k = (li A).length := by omega
      have hlt' : ¬ ((li A).length : Int) < ((li A).length : Int) := by omega
      have HD := Lib.hid (lRow_of (L := nodD A) (by rw [← nodK_all, nodK_len (Nat.le_refl _)]; exact ROW.out))
      have HF := Lib.hid fr
      have hpl := HPL.out
      clear ROW
      go_wp2_with fail
      go_quiet (fail)
      go_wp2_with fail
      exact bodyPost_ret (v := .tuple #[u4, .int .i64 (place (li A) A : Int)]) (by simp [results, Tryz.results65, go_sem]) rfl ⟨_, rfl, HD.out.kept ((Fr.refl nob _).drewN _), (HF.out.drewN _).to_below (Nat.le_refl _) (fun _ h => h.elim)⟩
end Go.Proofs.YtiainlccodnlmaaGreatDoor
namespace Go.Proofs.YtiainlccodnlmaaGreatDoor
open Go.RowKit
open Bd

set_option maxRecDepth 100000 in
set_option maxHeartbeats 400000 in
theorem Within_any (A B' : B) (hA : A.ok 0) (hB : B'.ok 0) (w : World) : Calls Tryz.prog 26 #[dval A, dval B'] w fun e w' => e = .returned (.bool (decide (ite A B' .T = .T))) ∧ Below w.heap.size w w' := by
  have a0 : ((w.alloc (.cells #[.int .u32 (place (li A) A : Int), .string ⟨(code (rows (li A))).toArray⟩] 32)).alloc (.cells #[.int .u32 (place (li B') B' : Int), .string ⟨(code (rows (li B'))).toArray⟩] 32)).cell? ⟨w.heap.size, 0, none⟩ = some (.int .u32 (place (li A) A : Int)) := cell_alloc_l (World.cell?_alloc_at _ _ _ _ (by simp)) _
  have a1 : ((w.alloc (.cells #[.int .u32 (place (li A) A : Int), .string ⟨(code (rows (li A))).toArray⟩] 32)).alloc (.cells #[.int .u32 (place (li B') B' : Int), .string ⟨(code (rows (li B'))).toArray⟩] 32)).cell? ⟨w.heap.size, 1, none⟩ = some (.string ⟨(code (rows (li A))).toArray⟩) := cell_alloc_l (World.cell?_alloc_at _ _ _ _ (by simp)) _
  have b0 : ((w.alloc (.cells #[.int .u32 (place (li A) A : Int), .string ⟨(code (rows (li A))).toArray⟩] 32)).alloc (.cells #[.int .u32 (place (li B') B' : Int), .string ⟨(code (rows (li B'))).toArray⟩] 32)).cell? ⟨w.heap.size + 1, 0, none⟩ = some (.int .u32 (place (li B') B' : Int)) := World.cell?_alloc_at _ _ _ _ (by simp)
  have b1 : ((w.alloc (.cells #[.int .u32 (place (li A) A : Int), .string ⟨(code (rows (li A))).toArray⟩] 32)).alloc (.cells #[.int .u32 (place (li B') B' : Int), .string ⟨(code (rows (li B'))).toArray⟩] 32)).cell? ⟨w.heap.size + 1, 1, none⟩ = some (.string ⟨(code (rows (li B'))).toArray⟩) := World.cell?_alloc_at _ _ _ _ (by simp)
  have fr : Fr nob w ((w.alloc (.cells #[.int .u32 (place (li A) A : Int), .string ⟨(code (rows (li A))).toArray⟩] 32)).alloc (.cells #[.int .u32 (place (li B') B' : Int), .string ⟨(code (rows (li B'))).toArray⟩] 32)) := ((Fr.refl nob w).alloc _).alloc _
  go_enter Tryz.func26, Tryz.ntmps26
  go_wp2_with fail
  refine wp_region_grow' 5 10 (fun _ => #[]) [] (by kernel_rfl) (by kernel_rfl) rfl rfl (by intro T h; cases h) ?_
  generalize ((w.alloc (.cells #[.int .u32 (place (li A) A : Int), .string ⟨(code (rows (li A))).toArray⟩] 32)).alloc (.cells #[.int .u32 (place (li B') B' : Int), .string ⟨(code (rows (li B'))).toArray⟩] 32)) = W at *
  simp only [List.take_succ_cons, List.take_zero]
  refine grow_step (v := ?v0) rfl rfl ?a0 ?b0
  case a0 =>
    intro w' hw'
    have y_a0 := hw'.cell a0 (fun h => h)
    have y_a1 := hw'.cell a1 (fun h => h)
    clear hw'
    refine growAt_value ?_
    go_simp
    rfl
  simp only [Act.put, List.setIfInBounds_toArray, List.set_cons_zero, List.set_cons_succ]
  refine grow_step (v := ?v1) rfl rfl ?a1 ?b1
  case a1 =>
    intro w' hw'
    have y_b0 := hw'.cell b0 (fun h => h)
    have y_b1 := hw'.cell b1 (fun h => h)
    clear hw'
    refine growAt_value ?_
    go_simp
    rfl
  simp only [Act.put, List.setIfInBounds_toArray, List.set_cons_zero, List.set_cons_succ]
  refine grow_step (v := dval .T) rfl rfl ?a2 ?b2
  case a2 =>
    intro w' hw'
    refine growAt_call ?_ ((True_any w').mono fun e w'' ⟨he, hb⟩ => ⟨he, (Fr.refl nob _).below hb⟩)
    go_simp
  simp only [Act.put, List.setIfInBounds_toArray, List.set_cons_zero, List.set_cons_succ]
  refine grow_step (v := dval (ite A B' .T)) rfl rfl ?a3 ?b3
  case a3 =>
    intro w' hw'
    refine growAt_call ?_ ((Ite_any A B' .T hA hB trivial w').mono fun e w'' ⟨he, hb⟩ => ⟨he, (Fr.refl nob _).below hb⟩)
    go_simp
  simp only [Act.put, List.setIfInBounds_toArray, List.set_cons_zero, List.set_cons_succ]
  refine grow_step (v := Value.bool (decide (ite A B' .T = .T))) rfl rfl ?a4 ?b4
  case a4 =>
    intro w' hw'
    refine growAt_call ?_ ((Full_any (ite A B' .T) w').mono fun e w'' ⟨he, hb⟩ => ⟨he, (Fr.refl nob _).below hb⟩)
    go_simp
  simp only [Act.put, List.setIfInBounds_toArray, List.set_cons_zero, List.set_cons_succ]
  refine grow_nil ?_
  intro w2 listed fr2 _ _
  have G := fr.trans fr2 (fun _ _ h => h)
  clear a0 a1 b0 b1 fr fr2
  go_wp2_with fail
  refine bodyPost_ret (v := .bool (decide (ite A B' .T = .T))) (by simp [results, Tryz.results26, go_sem]) rfl ⟨rfl, ?_⟩
  exact G.to_below (Nat.le_refl _) (fun _ h => h.elim)
end Go.Proofs.YtiainlccodnlmaaGreatDoor
namespace Go.Proofs.YtiainlccodnlmaaGreatDoor
open Go.RowKit
open Bd
theorem nodD_len (A : B) : (nodD A).length = (li A).length := by simp [nodD]
end Go.Proofs.YtiainlccodnlmaaGreatDoor
