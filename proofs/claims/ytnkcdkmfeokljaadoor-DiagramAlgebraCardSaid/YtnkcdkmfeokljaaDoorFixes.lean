import Derived.Test.YtnkcdkmfeokljaaDoorStep
import Derived.Test.YtnkcdkmfeokljaaDoorHas
import Derived.Laws.StructEq
import Derived.Test.YtnkcdkmfeokljaaDoorOps
import Derived.Lib.Hide
import Derived.Test.YtnkcdkmfeokljaaDoorCost
import Derived.Test.YtnkcdkmfeokljaaDoorMake
import Derived.Test.YtnkcdkmfeokljaaDoorWake
namespace Go.Proofs.YtnkcdkmfeokljaaDoor
open Go.RowKit
open Bd

abbrev Dec := Int × Int × Int
/-- a list of decisions, read off memory -/
def LRow (w : World) (v : Value) (L : List Dec) : Prop := ∃ (a : Option Addr) (cap : Nat), v = .slice a L.length cap ∧ ∀ (k : Nat) (d : Dec), L[k]? = some d → ∃ b o, a = some ⟨b, o, none⟩ ∧ w.cell? ⟨b, o + k * 3, none⟩ = some (.int .i64 d.1) ∧ w.cell? ⟨b, o + k * 3 + 1, none⟩ = some (.int .i64 d.2.1) ∧ w.cell? ⟨b, o + k * 3 + 2, none⟩ = some (.int .i64 d.2.2)
theorem LRow.below {w w' : World} {v : Value} {L : List Dec} (h : LRow w v L) (hb : Below w.heap.size w w') : LRow w' v L := by
  obtain ⟨a, cap, rfl, hc⟩ := h
  refine ⟨a, cap, rfl, fun k d hd => ?_⟩
  obtain ⟨b, o, h1, h2, h3, h4⟩ := hc k d hd
  have f := (Fr.refl nob w).below hb
  exact ⟨b, o, h1, f.cell' h2 (fun h => h), f.cell' h3 (fun h => h), f.cell' h4 (fun h => h)⟩
theorem LRow.kept {w w' : World} {v : Value} {L : List Dec} (h : LRow w v L) (f : Fr nob w w') : LRow w' v L := by
  obtain ⟨a, cap, rfl, hc⟩ := h
  refine ⟨a, cap, rfl, fun k d hd => ?_⟩
  obtain ⟨b, o, h1, h2, h3, h4⟩ := hc k d hd
  exact ⟨b, o, h1, f.cell' h2 (fun h => h), f.cell' h3 (fun h => h), f.cell' h4 (fun h => h)⟩
theorem LRow.form {w : World} {v : Value} {L : List Dec} (h : LRow w v L) : ∃ a cap, v = .slice a L.length cap := by
  obtain ⟨a, cap, e, _⟩ := h; exact ⟨a, cap, e⟩
theorem LRow.at {w : World} {a : Option Addr} {n cap : Nat} {L : List Dec} (h : LRow w (.slice a n cap) L) {k : Nat} {d : Dec} (hd : L[k]? = some d) : ∃ b o, a = some ⟨b, o, none⟩ ∧ w.cell? ⟨b, o + k * 3, none⟩ = some (.int .i64 d.1) ∧ w.cell? ⟨b, o + k * 3 + 1, none⟩ = some (.int .i64 d.2.1) ∧ w.cell? ⟨b, o + k * 3 + 2, none⟩ = some (.int .i64 d.2.2) := by
  obtain ⟨a', cap', e, hc⟩ := h
  cases e
  exact hc k d hd
abbrev dv (d : Dec) : Value := .agg #[.int .i64 d.1, .int .i64 d.2.1, .int .i64 d.2.2]

end Go.Proofs.YtnkcdkmfeokljaaDoor
namespace Go.Proofs.YtnkcdkmfeokljaaDoor
open Go.RowKit
open Bd

set_option maxRecDepth 100000 in
set_option maxHeartbeats 1000000 in
theorem lsame_any (L : List Dec) (hL : L.length ≤ 4194304) (va vb : Value) (w : World) (ha : LRow w va L) (hb : LRow w vb L) : Calls Tryd.prog 58 #[va, vb] w fun e w' => e = .returned (.bool true) ∧ Below w.heap.size w w' := by
  obtain ⟨a, c1, rfl⟩ := ha.form
  obtain ⟨b, c2, rfl⟩ := hb.form
  go_enter Tryd.func58, Tryd.ntmps58
  go_wp2_with fail
  go_loopw [5] (fun kv wr => ∃ k : Nat, k ≤ L.length ∧ kv = .int .i64 (k : Int) ∧ Fr nob w wr) (fun kv _ => L.length - (intOf kv).toNat)
  case atStart => exact ⟨0, Nat.zero_le _, rfl, Fr.refl _ _⟩
  case round =>
    obtain ⟨k, hk, rfl, fwr⟩ := hrel
    by_cases hlt : k < L.length
    · have hd : L[k]? = some L[k] := by simp [hlt]
      obtain ⟨b1, o1, rfl, x0, x1, x2⟩ := (ha.kept fwr).at hd
      obtain ⟨b2, o2, rfl, y0, y1, y2⟩ := (hb.kept fwr).at hd
      generalize L[k] = d at *
      have hk0 : (0 : Int) ≤ (k : Int) := Int.natCast_nonneg _
      have hk1 : (k : Int) < (L.length : Int) := by omega
      clear hd ha hb
      go_wp2_with fail
      go_quiet (fail)
      go_wp2_with fail
      exact ⟨⟨k + 1, by omega, by go_num, fwr.drewN _⟩, by simp [intOf]; omega⟩
    · obtain rfl : k = L.length := by omega
      go_wp2_with fail
      go_ret
      exact ⟨rfl, fwr.to_below (Nat.le_refl _) (fun _ h => h.elim)⟩
end Go.Proofs.YtnkcdkmfeokljaaDoor
namespace Go.Proofs.YtnkcdkmfeokljaaDoor
open Go.RowKit
open Bd

/-- a node as a decision -/
def decB (b : B) : Dec := ((b.top : Int), (0, 0))
def dec3 (R : List B) (b : B) : Dec := ((b.top : Int), (place R b.lo : Int), (place R b.hi : Int))
abbrev d3 (d : Dec) : List Value := [.int .i64 d.1, .int .i64 d.2.1, .int .i64 d.2.2]
theorem d3_len : ∀ L : List Dec, (L.flatMap d3).length = L.length * 3
  | [] => rfl
  | x :: L => by rw [List.flatMap_cons, List.length_append, d3_len L]; simp only [List.length_cons, List.length_nil]; omega
theorem d3_drop : ∀ (L : List Dec) (k : Nat), (L.flatMap d3).drop (k * 3) = (L.drop k).flatMap d3
  | [], k => by simp
  | x :: L, 0 => by simp
  | x :: L, k + 1 => by
    rw [List.flatMap_cons, List.drop_succ_cons, ← d3_drop L k, show (k + 1) * 3 = k * 3 + 1 + 1 + 1 by omega]
    rfl
theorem d3_at {L : List Dec} {k : Nat} {x : Dec} (h : L[k]? = some x) : (L.flatMap d3)[k * 3]? = some (.int .i64 x.1) ∧ (L.flatMap d3)[k * 3 + 1]? = some (.int .i64 x.2.1) ∧ (L.flatMap d3)[k * 3 + 2]? = some (.int .i64 x.2.2) := by
  have e : L.drop k = x :: L.drop (k + 1) := by
    have hk := (List.getElem?_eq_some_iff.1 h).1
    rw [List.drop_eq_getElem_cons hk]
    congr 1
    exact (List.getElem?_eq_some_iff.1 h).2
  have hd := d3_drop L k
  rw [e, List.flatMap_cons] at hd
  have g : ∀ j, (L.flatMap d3)[k * 3 + j]? = ((L.flatMap d3).drop (k * 3))[j]? := fun j => by rw [List.getElem?_drop]
  refine ⟨(g 0).trans ?_, (g 1).trans ?_, (g 2).trans ?_⟩ <;> rw [hd] <;> rfl
theorem lRow_of {w : World} {base : Nat} {v : Value} {L : List Dec} (h : w.ownsRow base 87 3 v L.length (L.flatMap d3)) : LRow w v L := by
  rcases h.2 with ⟨rfl, hn⟩ | ⟨g, cap, cur, rfl, _⟩
  · have e : L = [] := List.length_eq_zero_iff.1 hn
    subst e
    exact ⟨none, 0, rfl, fun k x hx => by simp at hx⟩
  · refine ⟨_, cap, rfl, fun k x hx => ⟨g, 0, rfl, ?_, ?_, ?_⟩⟩ <;> rw [Nat.zero_add]
    · have hk := (List.getElem?_eq_some_iff.1 hx).1
      rw [h.cellAt (k * 3) (by omega)]; exact (d3_at hx).1
    · have hk := (List.getElem?_eq_some_iff.1 hx).1
      rw [h.cellAt (k * 3 + 1) (by omega)]; exact (d3_at hx).2.1
    · have hk := (List.getElem?_eq_some_iff.1 hx).1
      rw [h.cellAt (k * 3 + 2) (by omega)]; exact (d3_at hx).2.2

/-- the nodes of a set, as Nodes lists them -/
def nodD (A : B) : List Dec := (li A).reverse.map (dec3 (li A))
def nodK (A : B) (k : Nat) : List Dec := ((li A).drop ((li A).length - k)).reverse.map (dec3 (li A))
theorem nodK_zero (A : B) : nodK A 0 = [] := by simp [nodK]
theorem nodK_all (A : B) : nodK A (li A).length = nodD A := by simp [nodK, nodD]
theorem nodK_len {A : B} {k : Nat} (h : k ≤ (li A).length) : (nodK A k).length = k := by simp [nodK]; omega
theorem nodK_succ {A : B} {k : Nat} {x : B} (h : (li A).drop ((li A).length - (k + 1)) = x :: (li A).drop ((li A).length - k)) : nodK A (k + 1) = nodK A k ++ [dec3 (li A) x] := by
  unfold nodK; rw [h]; simp

theorem new_3 (w : World) (a b c : Value) (T : TypeId) : (w.alloc (.cells #[a, b, c] T)).cell? ⟨w.heap.size, 0, none⟩ = some a ∧ (w.alloc (.cells #[a, b, c] T)).cell? ⟨w.heap.size, 1, none⟩ = some b ∧ (w.alloc (.cells #[a, b, c] T)).cell? ⟨w.heap.size, 2, none⟩ = some c :=
  ⟨World.cell?_alloc_at _ _ _ _ (by simp), World.cell?_alloc_at _ _ _ _ (by simp), World.cell?_alloc_at _ _ _ _ (by simp)⟩
theorem info_dec : (Tryd.prog.info? 87).map (fun i => (i.zero, i.size, i.bytes)) = some (some (.agg #[.int .i64 0, .int .i64 0, .int .i64 0]), 3, 24) := by kernel_rfl

set_option maxRecDepth 100000 in
set_option maxHeartbeats 1000000 in
theorem Nodes_any (A : B) (hA : A.ok 0) (w : World) : Calls Tryd.prog 56 #[dval A] w fun e w' => ∃ v, e = .returned (.tuple #[v, .int .i64 (place (li A) A : Int)]) ∧ LRow w' v (nodD A) ∧ Below w.heap.size w w' := by
  have a0 : (w.alloc (.cells #[.int .u32 (place (li A) A : Int), .string ⟨(code (rows (li A))).toArray⟩] 26)).cell? ⟨w.heap.size, 0, none⟩ = some (.int .u32 (place (li A) A : Int)) := World.cell?_alloc_at _ _ _ _ (by simp)
  have a1 : (w.alloc (.cells #[.int .u32 (place (li A) A : Int), .string ⟨(code (rows (li A))).toArray⟩] 26)).cell? ⟨w.heap.size, 1, none⟩ = some (.string ⟨(code (rows (li A))).toArray⟩) := World.cell?_alloc_at _ _ _ _ (by simp)
  have fr : Fr nob w (w.alloc (.cells #[.int .u32 (place (li A) A : Int), .string ⟨(code (rows (li A))).toArray⟩] 26)) := (Fr.refl nob w).alloc _
  have hs := (small_li hA).1
  have hpl : (place (li A) A : Int) < 4294967296 := by have h1 := place_lt (inn_li A); omega
  obtain ⟨i0, hi0, hz0, hz1, hz2⟩ := info_parts info_dec
  go_enter Tryd.func56, Tryd.ntmps56
  go_wp2_with fail
  generalize w.alloc (.cells #[.int .u32 (place (li A) A : Int), .string ⟨(code (rows (li A))).toArray⟩] 26) = W at *
  refine (size_any A hA _).mono ?_
  rintro e w1 ⟨rfl, hb⟩
  replace fr := fr.below hb
  replace a0 := ((Fr.refl nob W).below hb).cell a0 (fun h => h)
  replace a1 := ((Fr.refl nob W).below hb).cell a1 (fun h => h)
  clear hb
  go_wp2_with (at_make; refine wpList_make_own _ rfl _ _ 79 rfl (w.heap.size + 1) 87 i0 (.agg #[.int .i64 0, .int .i64 0, .int .i64 0]) 3 Tryd.underlying79 hi0 hz0 hz1 .i64 .u32 ((li A).length : Int) (li A).length rfl rfl ?c1 ?c2 ?c3 (lt_of_cell a0) ?_)
  case c1 => omega
  case c2 => rw [hz2]; omega
  case c3 => unfold maxLen; omega
  intro w2 row2 gr2
  replace fr := fr.grown gr2 (fun k h => by cases h)
  replace a0 := gr2.cell a0 (by simp)
  replace a1 := gr2.cell a1 (by simp)
  clear gr2
  go_wp2_with fail
  refine (size_any A hA _).mono ?_
  rintro e w3 ⟨rfl, hb⟩
  have f3 := (Fr.refl nob w2).below hb
  replace fr := fr.below hb
  replace a0 := f3.cell a0 (fun h => h)
  replace a1 := f3.cell a1 (fun h => h)
  have row3 := f3.row row2 (fun _ _ h => h)
  clear hb f3 row2
  go_wp2_with fail
  go_loopw [4, 5, 12] (fun sv _ p wr => ∃ k : Nat, k ≤ (li A).length ∧ p = .int .u32 (k : Int) ∧ Fr nob w wr ∧ wr.cell? ⟨w.heap.size, 0, none⟩ = some (.int .u32 (place (li A) A : Int)) ∧ wr.cell? ⟨w.heap.size, 1, none⟩ = some (.string ⟨(code (rows (li A))).toArray⟩) ∧ wr.ownsRow (w.heap.size + 1) 87 3 sv k ((nodK A k).flatMap d3)) (fun _ _ p _ => (li A).length - (intOf p).toNat)
  case atStart => exact ⟨0, Nat.zero_le _, rfl, fr, a0, a1, by rw [nodK_zero]; exact row3⟩
  case round =>
    clear a0 a1 fr row3
    obtain ⟨k, hk, rfl, fr, a0, a1, row⟩ := hrel
    have ROW := Lib.hid row
    have HPL := Lib.hid hpl
    clear row hpl
    by_cases hlt : k < (li A).length
    · have hlt' : (k : Int) < ((li A).length : Int) := by omega
      obtain ⟨x, hx, hp, hd⟩ := nth_place (good_li A) hlt
      have h := fun W => at_any A x hA (.inr hx) W
      rw [hp] at h
      have HX := Lib.hid hx
      have HP := Lib.hid hp
      have HK := Lib.hid (nodK_succ hd)
      clear hd hp hx
      go_wp2_with fail
      refine (h _).mono ?_
      rintro e w4 ⟨rfl, hb⟩
      clear h
      have f4 := (Fr.refl nob wr).below hb
      have fr4 := fr.below hb
      have b0 := f4.cell a0 (fun h => h)
      have b1 := f4.cell a1 (fun h => h)
      have row4 := f4.row ROW.out (fun _ _ h => h)
      have ROW4 := Lib.hid row4
      clear hb a0 a1 fr row4 f4
      simp only [rowB, nk] at *
      go_upto_region 6 with fail
      have hx := HX.out
      have hrs : x.top < 24 ∧ place (li A) x.lo < 2097154 ∧ place (li A) x.hi < 2097154 := by
        have hp := HP.out
        cases x with
        | N i l u => exact rows_small (good_li A) (small_li hA) _ (List.mem_of_getElem? (rows_at (good_li A) hx).1)
        | F => simp [place] at hp
        | T => simp [place] at hp
      have h1 : x.top < 24 := hrs.1
      have h2 : place (li A) x.lo < 2097154 := hrs.2.1
      have h3 : place (li A) x.hi < 2097154 := hrs.2.2
      clear hrs hx
      have f5 := ((Fr.refl nob w4).alloc (.cells #[.int .u8 (x.top : Int), .int .u32 (place (li A) x.lo : Int), .int .u32 (place (li A) x.hi : Int)] 123)).alloc (.cells #[.int .i64 (x.top : Int), .int .i64 (place (li A) x.lo : Int), .int .i64 (place (li A) x.hi : Int)] 87)
      obtain ⟨c0, c1, c2⟩ := new_3 (w4.alloc (.cells #[.int .u8 (x.top : Int), .int .u32 (place (li A) x.lo : Int), .int .u32 (place (li A) x.hi : Int)] 123)) (.int .i64 (x.top : Int)) (.int .i64 (place (li A) x.lo : Int)) (.int .i64 (place (li A) x.hi : Int)) 87
      simp only [World.size_alloc] at c0 c1 c2
      have row5 := f5.row ROW4.out (fun _ _ h => h)
      have fr5 := fr4.trans f5 (fun _ _ h => h)
      have y0 := f5.cell b0 (fun h => h)
      have y1 := f5.cell b1 (fun h => h)
      have hsz := fr4.size
      clear ROW ROW4 fr4 f5
      go_wp2_with (at_builtin; refine wpList_append_own _ rfl _ _ 79 rfl (w.heap.size + 1) 87 i0 (.agg #[.int .i64 0, .int .i64 0, .int .i64 0]) 3 24 Tryd.underlying79 hi0 hz0 hz1 hz2 rfl (by decide) _ k ((nodK A k).flatMap d3) rfl row5 ⟨w4.heap.size + 1, 0, none⟩ 1 1 (d3 (dec3 (li A) x)) rfl ?c4 ?c5 ?c6 ?c7 ?c8 ?c9 ?_)
      case c4 => rfl
      case c5 =>
        intro j u hj
        match j, hj with
        | 0, h => simp at h; subst h; exact c0
        | 1, h => simp at h; subst h; exact c1
        | 2, h => simp at h; subst h; exact c2
      case c6 => intro u hu; simp at hu; rcases hu with rfl | rfl | rfl <;> rfl
      case c7 => unfold maxLen; omega
      case c8 => omega
      case c9 => exact lt_of_cell y0
      intro vo w8 row8 gr8 _
      have hne : ∀ g, Value.ownBlock u4 = some g → w.heap.size + 1 ≤ g := fun g hg => (row5.lt g hg).1
      have fr8 := fr5.grown gr8 (fun g hg hlt => absurd hlt (by have := hne g hg; omega))
      have z0 := gr8.cell y0 (by intro e; have := hne _ e.symm; simp at this; omega)
      have z1 := gr8.cell y1 (by intro e; have := hne _ e.symm; simp at this; omega)
      clear c0 c1 c2 b0 b1 y0 y1 gr8 row5
      go_wp2_with fail
      refine ⟨⟨k + 1, hlt, by simp, fr8, z0, z1, ?_⟩, by simp [intOf]; omega⟩
      rw [HK.out, List.flatMap_append, List.flatMap_singleton]
      exact row8
    · obtain rfl : k = (li A).length := by omega
      have hlt' : ¬ ((li A).length : Int) < ((li A).length : Int) := by omega
      have HD := Lib.hid (lRow_of (L := nodD A) (by rw [← nodK_all, nodK_len (Nat.le_refl _)]; exact ROW.out))
      have HF := Lib.hid fr
      have hpl := HPL.out
      clear ROW
      go_wp2_with fail
      go_quiet (fail)
      go_wp2_with fail
      exact bodyPost_ret (v := .tuple #[u4, .int .i64 (place (li A) A : Int)]) (by simp [results, Tryd.results56, go_sem]) rfl ⟨_, rfl, HD.out.kept ((Fr.refl nob _).drewN _), (HF.out.drewN _).to_below (Nat.le_refl _) (fun _ h => h.elim)⟩
end Go.Proofs.YtnkcdkmfeokljaaDoor
namespace Go.Proofs.YtnkcdkmfeokljaaDoor
open Go.RowKit
open Bd

set_option maxRecDepth 100000 in
set_option maxHeartbeats 400000 in
theorem Within_any (A B' : B) (hA : A.ok 0) (hB : B'.ok 0) (w : World) : Calls Tryd.prog 29 #[dval A, dval B'] w fun e w' => e = .returned (.bool (decide (ite A B' .T = .T))) ∧ Below w.heap.size w w' := by
  have a0 : ((w.alloc (.cells #[.int .u32 (place (li A) A : Int), .string ⟨(code (rows (li A))).toArray⟩] 26)).alloc (.cells #[.int .u32 (place (li B') B' : Int), .string ⟨(code (rows (li B'))).toArray⟩] 26)).cell? ⟨w.heap.size, 0, none⟩ = some (.int .u32 (place (li A) A : Int)) := cell_alloc_l (World.cell?_alloc_at _ _ _ _ (by simp)) _
  have a1 : ((w.alloc (.cells #[.int .u32 (place (li A) A : Int), .string ⟨(code (rows (li A))).toArray⟩] 26)).alloc (.cells #[.int .u32 (place (li B') B' : Int), .string ⟨(code (rows (li B'))).toArray⟩] 26)).cell? ⟨w.heap.size, 1, none⟩ = some (.string ⟨(code (rows (li A))).toArray⟩) := cell_alloc_l (World.cell?_alloc_at _ _ _ _ (by simp)) _
  have b0 : ((w.alloc (.cells #[.int .u32 (place (li A) A : Int), .string ⟨(code (rows (li A))).toArray⟩] 26)).alloc (.cells #[.int .u32 (place (li B') B' : Int), .string ⟨(code (rows (li B'))).toArray⟩] 26)).cell? ⟨w.heap.size + 1, 0, none⟩ = some (.int .u32 (place (li B') B' : Int)) := World.cell?_alloc_at _ _ _ _ (by simp)
  have b1 : ((w.alloc (.cells #[.int .u32 (place (li A) A : Int), .string ⟨(code (rows (li A))).toArray⟩] 26)).alloc (.cells #[.int .u32 (place (li B') B' : Int), .string ⟨(code (rows (li B'))).toArray⟩] 26)).cell? ⟨w.heap.size + 1, 1, none⟩ = some (.string ⟨(code (rows (li B'))).toArray⟩) := World.cell?_alloc_at _ _ _ _ (by simp)
  have fr : Fr nob w ((w.alloc (.cells #[.int .u32 (place (li A) A : Int), .string ⟨(code (rows (li A))).toArray⟩] 26)).alloc (.cells #[.int .u32 (place (li B') B' : Int), .string ⟨(code (rows (li B'))).toArray⟩] 26)) := ((Fr.refl nob w).alloc _).alloc _
  go_enter Tryd.func29, Tryd.ntmps29
  go_wp2_with fail
  refine wp_region_grow' 5 10 (fun _ => #[]) [] (by kernel_rfl) (by kernel_rfl) rfl rfl (by intro T h; cases h) ?_
  generalize ((w.alloc (.cells #[.int .u32 (place (li A) A : Int), .string ⟨(code (rows (li A))).toArray⟩] 26)).alloc (.cells #[.int .u32 (place (li B') B' : Int), .string ⟨(code (rows (li B'))).toArray⟩] 26)) = W at *
  simp only [List.take_succ_cons, List.take_zero]
  refine grow_step (v := ?v0) rfl rfl ?a0 ?b0
  case a0 =>
    intro w' hw'
    have y_a0 := hw'.cell a0 (fun h => h)
    have y_a1 := hw'.cell a1 (fun h => h)
    clear hw'
    refine growAt_value ?_
    go_simp
    rfl
  simp only [Act.put, List.setIfInBounds_toArray, List.set_cons_zero, List.set_cons_succ]
  refine grow_step (v := ?v1) rfl rfl ?a1 ?b1
  case a1 =>
    intro w' hw'
    have y_b0 := hw'.cell b0 (fun h => h)
    have y_b1 := hw'.cell b1 (fun h => h)
    clear hw'
    refine growAt_value ?_
    go_simp
    rfl
  simp only [Act.put, List.setIfInBounds_toArray, List.set_cons_zero, List.set_cons_succ]
  refine grow_step (v := dval .T) rfl rfl ?a2 ?b2
  case a2 =>
    intro w' hw'
    refine growAt_call ?_ ((True_any w').mono fun e w'' ⟨he, hb⟩ => ⟨he, (Fr.refl nob _).below hb⟩)
    go_simp
  simp only [Act.put, List.setIfInBounds_toArray, List.set_cons_zero, List.set_cons_succ]
  refine grow_step (v := dval (ite A B' .T)) rfl rfl ?a3 ?b3
  case a3 =>
    intro w' hw'
    refine growAt_call ?_ ((Ite_any A B' .T hA hB trivial w').mono fun e w'' ⟨he, hb⟩ => ⟨he, (Fr.refl nob _).below hb⟩)
    go_simp
  simp only [Act.put, List.setIfInBounds_toArray, List.set_cons_zero, List.set_cons_succ]
  refine grow_step (v := Value.bool (decide (ite A B' .T = .T))) rfl rfl ?a4 ?b4
  case a4 =>
    intro w' hw'
    refine growAt_call ?_ ((Full_any (ite A B' .T) w').mono fun e w'' ⟨he, hb⟩ => ⟨he, (Fr.refl nob _).below hb⟩)
    go_simp
  simp only [Act.put, List.setIfInBounds_toArray, List.set_cons_zero, List.set_cons_succ]
  refine grow_nil ?_
  intro w2 listed fr2 _ _
  have G := fr.trans fr2 (fun _ _ h => h)
  clear a0 a1 b0 b1 fr fr2
  go_wp2_with fail
  refine bodyPost_ret (v := .bool (decide (ite A B' .T = .T))) (by simp [results, Tryd.results29, go_sem]) rfl ⟨rfl, ?_⟩
  exact G.to_below (Nat.le_refl _) (fun _ h => h.elim)

set_option maxRecDepth 100000 in
set_option maxHeartbeats 400000 in
theorem Meets_any (A B' : B) (hA : A.ok 0) (hB : B'.ok 0) (w : World) : Calls Tryd.prog 31 #[dval A, dval B'] w fun e w' => e = .returned (.bool (!decide (ite A B' .F = .F))) ∧ Below w.heap.size w w' := by
  go_enter Tryd.func31, Tryd.ntmps31
  go_wp2_with fail
  refine (And_any A B' hA hB _).mono ?_
  rintro e w1 ⟨rfl, hb1⟩
  go_wp2_with fail
  refine (Empty_any _ _).mono ?_
  rintro e w2 ⟨rfl, hb2⟩
  go_wp2_with fail
  refine bodyPost_ret (v := .bool (!decide (ite A B' .F = .F))) (by simp [results, Tryd.results31, go_sem]) rfl ⟨rfl, ?_⟩
  exact (((((Fr.refl nob w).alloc _).alloc _).below hb1).below hb2).to_below (Nat.le_refl _) (fun _ h => h.elim)
end Go.Proofs.YtnkcdkmfeokljaaDoor
namespace Go.Proofs.YtnkcdkmfeokljaaDoor
open Go.RowKit
open Bd
theorem nodD_len (A : B) : (nodD A).length = (li A).length := by simp [nodD]

set_option maxRecDepth 100000 in
set_option maxHeartbeats 1000000 in
/-- a set is equal to itself, by Same and by its nodes -/
theorem equal_any (A : B) (hA : A.ok 0) (w : World) : Calls Tryd.prog 20 #[dval A, dval A] w fun e w' => e = .returned (.bool true) ∧ Below w.heap.size w w' := by
  have hs := (small_li hA).1
  have hN := Nodes_any A hA
  have hS := Same_any A A hA hA
  rw [decide_eq_true rfl] at hS
  have hM := lsame_any (nodD A) (by rw [nodD_len]; omega)
  have fr : Fr nob w ((w.alloc (.cells #[.int .u32 (place (li A) A : Int), .string ⟨(code (rows (li A))).toArray⟩] 26)).alloc (.cells #[.int .u32 (place (li A) A : Int), .string ⟨(code (rows (li A))).toArray⟩] 26)) := ((Fr.refl nob w).alloc _).alloc _
  have B1 := (Box2.new w (.int .u32 (place (li A) A : Int)) (.string ⟨(code (rows (li A))).toArray⟩) 26).kept (S := nob) ((Fr.refl nob _).alloc (.cells #[.int .u32 (place (li A) A : Int), .string ⟨(code (rows (li A))).toArray⟩] 26)) (fun h => h)
  have B2 := Box2.new (w.alloc (.cells #[.int .u32 (place (li A) A : Int), .string ⟨(code (rows (li A))).toArray⟩] 26)) (.int .u32 (place (li A) A : Int)) (.string ⟨(code (rows (li A))).toArray⟩) 26
  simp only [World.size_alloc] at B2
  have ⟨a0, a1, _⟩ := B1
  have ⟨b0, b1, _⟩ := B2
  clear B1 B2 hs
  go_enter Tryd.func20, Tryd.ntmps20
  go_upto_region 1 with fail
  generalize (w.alloc (.cells #[.int .u32 (place (li A) A : Int), .string ⟨(code (rows (li A))).toArray⟩] 26)).alloc (.cells #[.int .u32 (place (li A) A : Int), .string ⟨(code (rows (li A))).toArray⟩] 26) = W at *
  go_wp2_with fail
  refine (hN _).mono ?_
  rintro e w1 ⟨v1, rfl, hr1, hb1⟩
  have f1 := (Fr.refl nob W).below hb1
  have y0 := f1.cell b0 (fun h => h)
  have y1 := f1.cell b1 (fun h => h)
  clear hb1
  go_wp2_with fail
  refine (hN _).mono ?_
  rintro e w2 ⟨v2, rfl, hr2, hb2⟩
  have g2 := (Fr.refl nob w1).below hb2
  have f2 := f1.below hb2
  have x0 := f2.cell a0 (fun h => h)
  have x1 := f2.cell a1 (fun h => h)
  have z0 := f2.cell b0 (fun h => h)
  have z1 := f2.cell b1 (fun h => h)
  have hr1' := hr1.kept g2
  clear hb2 y0 y1 f1 hr1
  go_wp2_with fail
  refine (hS _).mono ?_
  rintro e w3 ⟨rfl, hb3⟩
  have g3 := (Fr.refl nob w2).below hb3
  have f3 := f2.below hb3
  have R1 := hr1'.kept g3
  have R2 := hr2.kept g3
  clear hb3 hr1' hr2 f2 g3
  go_wp2_with fail
  refine (hM _ _ _ R1 R2).mono ?_
  rintro e w4 ⟨rfl, hb4⟩
  have f4 := f3.below hb4
  go_wp2_with fail
  exact bodyPost_ret (v := .bool true) (by simp [results, Tryd.results20, go_sem]) rfl ⟨rfl, (fr.trans f4 (fun _ _ h => h)).to_below (Nat.le_refl _) (fun _ h => h.elim)⟩
end Go.Proofs.YtnkcdkmfeokljaaDoor
namespace Go.Proofs.YtnkcdkmfeokljaaDoor
open Go.RowKit Go.Shelf
open Bd

set_option maxRecDepth 100000 in
set_option maxHeartbeats 4000000 in
theorem fixes_in (A B1 C V H Lo : B) (n f : Nat) (hn : n < 24) (oA : A.ok 0) (i : Nat) (hin : n = i % 24) (v : Value) (w : World)
    (c3 : Calls Tryd.prog 19 #[v] w fun e w' => e = .returned (.tuple #[dval A, dval B1, dval C, .bool true]) ∧ Below w.heap.size w w')
    (cV : ∀ w, Calls Tryd.prog 32 #[.int .i64 (n : Int)] w fun e w' => e = .returned (.tuple #[dval V, .int .i64 0]) ∧ Below w.heap.size w w')
    (cH : ∀ w, Calls Tryd.prog 33 #[dval A, .int .i64 (n : Int), .bool true] w fun e w' => e = .returned (dval H) ∧ Below w.heap.size w w')
    (cL : ∀ w, Calls Tryd.prog 33 #[dval A, .int .i64 (n : Int), .bool false] w fun e w' => e = .returned (dval Lo) ∧ Below w.heap.size w w')
    (cIte : ∀ w, Calls Tryd.prog 26 #[dval V, dval H, dval Lo] w fun e w' => e = .returned (dval A) ∧ Below w.heap.size w w')
    (sH sn p2 : Nat) (cSH : ∀ w, Calls Tryd.prog 34 #[dval H] w fun e w' => e = .returned (.int .u32 (sH : Int)) ∧ Below w.heap.size w w')
    (E1 F1 : B) (oE1 : E1.ok 0) (oF1 : F1.ok 0)
    (cE1 : ∀ w1, Fr nob w w1 → Calls Tryd.prog 35 #[dval A, .int .u32 (p2 : Int)] w1 fun e w' => e = .returned (dval E1) ∧ Below w1.heap.size w1 w')
    (cF1 : ∀ w1, Fr nob w w1 → Calls Tryd.prog 36 #[dval A, .int .u32 (p2 : Int)] w1 fun e w' => e = .returned (dval F1) ∧ Below w1.heap.size w1 w')
    (cOr : ∀ w, Calls Tryd.prog 22 #[dval H, dval Lo] w fun e w' => e = .returned (dval E1) ∧ Below w.heap.size w w')
    (cAnd : ∀ w, Calls Tryd.prog 21 #[dval H, dval Lo] w fun e w' => e = .returned (dval F1) ∧ Below w.heap.size w w')
    (X Y NA XN OAB XO XB : B) (oX : X.ok 0) (oY : Y.ok 0) (oXO : XO.ok 0) (sX sY so : Nat)
    (cX : ∀ w1, Fr nob w w1 → Calls Tryd.prog 35 #[dval A, .int .u32 (f : Int)] w1 fun e w' => e = .returned (dval X) ∧ Below w1.heap.size w1 w')
    (cY : ∀ w1, Fr nob w w1 → Calls Tryd.prog 36 #[dval A, .int .u32 (f : Int)] w1 fun e w' => e = .returned (dval Y) ∧ Below w1.heap.size w1 w')
    (cNA : ∀ w, Calls Tryd.prog 16 #[dval A] w fun e w' => e = .returned (dval NA) ∧ Below w.heap.size w w')
    (cXN : ∀ w1, Fr nob w w1 → Calls Tryd.prog 35 #[dval NA, .int .u32 (f : Int)] w1 fun e w' => e = .returned (dval XN) ∧ Below w1.heap.size w1 w')
    (cNY : ∀ w, Calls Tryd.prog 16 #[dval XN] w fun e w' => e = .returned (dval Y) ∧ Below w.heap.size w w')
    (cW1 : ∀ w, Calls Tryd.prog 29 #[dval A, dval X] w fun e w' => e = .returned (.bool true) ∧ Below w.heap.size w w')
    (cW2 : ∀ w, Calls Tryd.prog 29 #[dval Y, dval A] w fun e w' => e = .returned (.bool true) ∧ Below w.heap.size w w')
    (cSX : ∀ w, Calls Tryd.prog 34 #[dval X] w fun e w' => e = .returned (.int .u32 (sX : Int)) ∧ Below w.heap.size w w')
    (cSY : ∀ w, Calls Tryd.prog 34 #[dval Y] w fun e w' => e = .returned (.int .u32 (sY : Int)) ∧ Below w.heap.size w w')
    (cOAB : ∀ w, Calls Tryd.prog 22 #[dval A, dval B1] w fun e w' => e = .returned (dval OAB) ∧ Below w.heap.size w w')
    (cXO : ∀ w1, Fr nob w w1 → Calls Tryd.prog 35 #[dval OAB, .int .u32 (f : Int)] w1 fun e w' => e = .returned (dval XO) ∧ Below w1.heap.size w1 w')
    (cXB : ∀ w1, Fr nob w w1 → Calls Tryd.prog 35 #[dval B1, .int .u32 (f : Int)] w1 fun e w' => e = .returned (dval XB) ∧ Below w1.heap.size w1 w')
    (cXO2 : ∀ w, Calls Tryd.prog 22 #[dval X, dval XB] w fun e w' => e = .returned (dval XO) ∧ Below w.heap.size w w')
    (cXX : ∀ w1, Fr nob w w1 → Calls Tryd.prog 35 #[dval X, .int .u32 (f : Int)] w1 fun e w' => e = .returned (dval X) ∧ Below w1.heap.size w1 w')
    (hor : bits BinOp.or IntKind.u32 (sX : Int) (sY : Int) = (so : Int)) (hand : bits BinOp.and IntKind.u32 (so : Int) (f : Int) = 0)
    (hsn : (sH : Int) / (p2 : Int) = (sn : Int)) (hs2 : (sn : Int).tmod 2 = 0) (hp2 : (2 : Int) ^ n = (p2 : Int)) (hpl : p2 < 4294967296) :
    Calls Tryd.prog 5 #[v, .int .u8 (i : Int), .int .u32 (f : Int)] w fun e w' => e = .returned (.bool true) ∧ Below w.heap.size w w' := by
  have hrem : ((i : Int)).tmod 24 = (n : Int) := by rw [hin]; exact tmod_nat i 24
  have hw8 : IntKind.u8.wrap (n : Int) = (n : Int) := by rw [IntKind.wrap_u8]; omega
  have hw64 : IntKind.i64.wrap (n : Int) = (n : Int) := by rw [IntKind.wrap_i64]; omega
  have hu64 : IntKind.u64.wrap (n : Int) = (n : Int) := by rw [IntKind.wrap_u64]; omega
  have hu32 : IntKind.u32.wrap (p2 : Int) = (p2 : Int) := by rw [IntKind.wrap_u32]; omega
  clear hin
  go_enter Tryd.func5, Tryd.ntmps5
  go_wp2_with fail
  refine c3.mono ?_
  rintro e w1 ⟨rfl, hb1⟩
  have fr1 := (Fr.refl nob w).below hb1
  clear hb1 c3
  have fW := ((fr1.alloc (.cells #[.int .u32 (place (li A) A : Int), .string ⟨(code (rows (li A))).toArray⟩] 26)).alloc (.cells #[.int .u32 (place (li B1) B1 : Int), .string ⟨(code (rows (li B1))).toArray⟩] 26)).alloc (.cells #[.int .u32 (place (li C) C : Int), .string ⟨(code (rows (li C))).toArray⟩] 26)
  obtain ⟨⟨a0, a1, _⟩, ⟨b0, b1, _⟩, _⟩ := three_boxes w1 (.int .u32 (place (li A) A : Int)) (.string ⟨(code (rows (li A))).toArray⟩) (.int .u32 (place (li B1) B1 : Int)) (.string ⟨(code (rows (li B1))).toArray⟩) (.int .u32 (place (li C) C : Int)) (.string ⟨(code (rows (li C))).toArray⟩) 26
  go_upto_region 4 with fail
  generalize ((w1.alloc (.cells #[.int .u32 (place (li A) A : Int), .string ⟨(code (rows (li A))).toArray⟩] 26)).alloc (.cells #[.int .u32 (place (li B1) B1 : Int), .string ⟨(code (rows (li B1))).toArray⟩] 26)).alloc (.cells #[.int .u32 (place (li C) C : Int), .string ⟨(code (rows (li C))).toArray⟩] 26) = W at *
  go_wp2_with fail
  refine (cV _).mono ?_
  rintro e w2 ⟨rfl, hb2⟩
  have f2 := ((Fr.refl nob W).below hb2).alloc (.cells #[.int .u32 (place (li V) V : Int), .string ⟨(code (rows (li V))).toArray⟩] 26)
  have bV := Box2.new w2 (.int .u32 (place (li V) V : Int)) (.string ⟨(code (rows (li V))).toArray⟩) 26
  replace a0 := f2.cell a0 (fun h => h)
  replace a1 := f2.cell a1 (fun h => h)
  replace b0 := f2.cell b0 (fun h => h)
  replace b1 := f2.cell b1 (fun h => h)
  have frW := fW.trans f2 (fun _ _ h => h)
  clear hb2 f2 fW
  go_upto_region 6 with fail
  generalize w2.alloc (.cells #[.int .u32 (place (li V) V : Int), .string ⟨(code (rows (li V))).toArray⟩] 26) = W2 at *
  refine wp_region_grow' 8 144 (fun _ => #[.int .u32 0, .string ⟨#[]⟩]) [26, 26] (by kernel_rfl) (by kernel_rfl) rfl rfl (by intro T h w; simp at h; subst h; rfl) ?_
  simp only [List.take_succ_cons, List.take_zero]
  refine grow_step (v := dval A) rfl rfl ?s0 ?n0
  case s0 =>
    intro w' hw'
    have q0 := hw'.cell a0 (fun h => h)
    have q1 := hw'.cell a1 (fun h => h)
    clear hw'
    refine growAt_value ?_
    go_simp
    try rfl
  simp only [Act.put, List.setIfInBounds_toArray, List.set_cons_zero, List.set_cons_succ]
  refine grow_step (v := .int .i64 (n : Int)) rfl rfl ?s1 ?n1
  case s1 =>
    intro w' hw'
    clear hw'
    refine growAt_value ?_
    go_simp
    try rfl
  simp only [Act.put, List.setIfInBounds_toArray, List.set_cons_zero, List.set_cons_succ]
  refine grow_step (v := dval H) rfl rfl ?s2 ?n2
  case s2 =>
    intro w' hw'
    refine growAt_call ?_ ((cH w').mono fun e w'' ⟨he, hb⟩ => ⟨he, (Fr.refl nob _).below hb⟩)
    clear hw'
    go_simp
  simp only [Act.put, List.setIfInBounds_toArray, List.set_cons_zero, List.set_cons_succ]
  refine grow_step (v := dval A) rfl rfl ?s3 ?n3
  case s3 =>
    intro w' hw'
    have q0 := hw'.cell a0 (fun h => h)
    have q1 := hw'.cell a1 (fun h => h)
    clear hw'
    refine growAt_value ?_
    go_simp
    try rfl
  simp only [Act.put, List.setIfInBounds_toArray, List.set_cons_zero, List.set_cons_succ]
  refine grow_step (v := .int .i64 (n : Int)) rfl rfl ?s4 ?n4
  case s4 =>
    intro w' hw'
    clear hw'
    refine growAt_value ?_
    go_simp
    try rfl
  simp only [Act.put, List.setIfInBounds_toArray, List.set_cons_zero, List.set_cons_succ]
  refine grow_step (v := dval Lo) rfl rfl ?s5 ?n5
  case s5 =>
    intro w' hw'
    refine growAt_call ?_ ((cL w').mono fun e w'' ⟨he, hb⟩ => ⟨he, (Fr.refl nob _).below hb⟩)
    clear hw'
    go_simp
  simp only [Act.put, List.setIfInBounds_toArray, List.set_cons_zero, List.set_cons_succ]
  refine grow_alloc rfl fun g14 hg14 => ?_
  simp only [Act.put, List.setIfInBounds_toArray, List.set_cons_zero, List.set_cons_succ]
  refine grow_alloc rfl fun g15 hg15 => ?_
  simp only [Act.put, List.setIfInBounds_toArray, List.set_cons_zero, List.set_cons_succ]
  refine grow_nil ?_
  rintro w3 listed fr3 hl hM
  obtain ⟨p14, m1, m2, m3, m4⟩ := hM 6 _ 26 14 (by omega) rfl rfl rfl (hl 6 (by omega))
  obtain ⟨p15, k1, k2, k3, _⟩ := hM 7 _ 26 15 (by omega) rfl rfl rfl (hl 7 (by omega))
  have n45 := m4 7 _ 26 15 (by omega) (by omega) rfl rfl (hl 7 (by omega)) rfl
  clear hM hl m4
  obtain rfl : g14 = p14 := by simpa using m1
  obtain rfl : g15 = p15 := by simpa using k1
  have n54 : ¬ g15 = g14 := fun e => n45 (by rw [e]; simp)
  clear n45 m1 k1
  have G14 := Box2.of_heap m3
  have G15 := Box2.of_heap k3
  have ⟨u0, u1, uf⟩ := G14
  have ⟨t0, t1, tf⟩ := G15
  have uf0 := uf 0
  have uf1 := uf 1
  have tf0 := tf 0
  have tf1 := tf 1
  obtain ⟨H14, FH⟩ := G14.set (.int .u32 (place (li H) H : Int)) (.string ⟨(code (rows (li H))).toArray⟩)
  have H15 := G15.kept FH n54
  obtain ⟨L15, FL⟩ := H15.set (.int .u32 (place (li Lo) Lo : Int)) (.string ⟨(code (rows (li Lo))).toArray⟩)
  have L14 := H14.kept FL (fun e => n54 e.symm)
  have F3 := (frW.trans fr3 (fun _ _ h => h)).trans' FH (T := nob) (fun _ _ h => h) (fun k hk h => by have e : k = g14 := h; have := frW.size; omega)
  have F4 := F3.trans' FL (T := nob) (fun _ _ h => h) (fun k hk h => by have e : k = g15 := h; have := frW.size; omega)
  have K := (fr3.trans' FH (T := nob) (fun _ _ h => h) (fun k hk h => by have e : k = g14 := h; omega)).trans' FL (T := nob) (fun _ _ h => h) (fun k hk h => by have e : k = g15 := h; omega)
  replace a0 := K.cell a0 (fun h => h)
  replace a1 := K.cell a1 (fun h => h)
  replace b0 := K.cell b0 (fun h => h)
  replace b1 := K.cell b1 (fun h => h)
  have ⟨v0, v1, _⟩ := bV.kept K (fun h => h)
  have ⟨h0, h1, _⟩ := L14
  have ⟨l0, l1, _⟩ := L15
  have FR := F4
  clear H14 H15 L14 L15 G14 G15 uf tf FH FL F3 K bV frW fr3 m2 m3 k2 k3
  go_upto_region 7 with fail
  generalize (((w3.setCell ⟨g14, 0, none⟩ (.int .u32 (place (li H) H : Int))).setCell ⟨g14, 1, none⟩ (.string ⟨(code (rows (li H))).toArray⟩)).setCell ⟨g15, 0, none⟩ (.int .u32 (place (li Lo) Lo : Int))).setCell ⟨g15, 1, none⟩ (.string ⟨(code (rows (li Lo))).toArray⟩) = W4 at *
  refine wp_region_grow' 43 144 (fun _ => #[]) [] (by kernel_rfl) (by kernel_rfl) rfl rfl (by intro T h; cases h) ?_
  simp only [List.take_succ_cons, List.take_zero]
  refine grow_step (v := .int .i64 0) rfl rfl ?s101 ?n101
  case s101 =>
    intro w' hw'
    clear hw'
    refine growAt_value ?_
    go_simp
    try rfl
  simp only [Act.put, List.setIfInBounds_toArray, List.set_cons_zero, List.set_cons_succ]
  refine grow_step (v := Value.bool false) rfl rfl ?s102 ?n102
  case s102 =>
    intro w' hw'
    clear hw'
    refine growAt_value ?_
    go_simp
    try rfl
  simp only [Act.put, List.setIfInBounds_toArray, List.set_cons_zero, List.set_cons_succ]
  refine grow_step (v := Value.bool false) rfl rfl ?s103 ?n103
  case s103 =>
    intro w' hw'
    clear hw'
    refine growAt_value ?_
    go_simp
    try rfl
  simp only [Act.put, List.setIfInBounds_toArray, List.set_cons_zero, List.set_cons_succ]
  refine grow_step (v := dval V) rfl rfl ?s104 ?n104
  case s104 =>
    intro w' hw'
    have q0 := hw'.cell v0 (fun h => h)
    have q1 := hw'.cell v1 (fun h => h)
    clear hw'
    refine growAt_value ?_
    go_simp
    try rfl
  simp only [Act.put, List.setIfInBounds_toArray, List.set_cons_zero, List.set_cons_succ]
  refine grow_step (v := dval H) rfl rfl ?s105 ?n105
  case s105 =>
    intro w' hw'
    have q0 := hw'.cell h0 (fun h => h)
    have q1 := hw'.cell h1 (fun h => h)
    clear hw'
    refine growAt_value ?_
    go_simp
    try rfl
  simp only [Act.put, List.setIfInBounds_toArray, List.set_cons_zero, List.set_cons_succ]
  refine grow_step (v := dval Lo) rfl rfl ?s106 ?n106
  case s106 =>
    intro w' hw'
    have q0 := hw'.cell l0 (fun h => h)
    have q1 := hw'.cell l1 (fun h => h)
    clear hw'
    refine growAt_value ?_
    go_simp
    try rfl
  simp only [Act.put, List.setIfInBounds_toArray, List.set_cons_zero, List.set_cons_succ]
  refine grow_step (v := dval A) rfl rfl ?s107 ?n107
  case s107 =>
    intro w' hw'
    refine growAt_call ?_ ((cIte w').mono fun e w'' ⟨he, hb⟩ => ⟨he, (Fr.refl nob _).below hb⟩)
    clear hw'
    go_simp
  simp only [Act.put, List.setIfInBounds_toArray, List.set_cons_zero, List.set_cons_succ]
  refine grow_step (v := dval A) rfl rfl ?s108 ?n108
  case s108 =>
    intro w' hw'
    have q0 := hw'.cell a0 (fun h => h)
    have q1 := hw'.cell a1 (fun h => h)
    clear hw'
    refine growAt_value ?_
    go_simp
    try rfl
  simp only [Act.put, List.setIfInBounds_toArray, List.set_cons_zero, List.set_cons_succ]
  refine grow_step (v := Value.bool true) rfl rfl ?s109 ?n109
  case s109 =>
    intro w' hw'
    refine growAt_call ?_ ((equal_any A oA w').mono fun e w'' ⟨he, hb⟩ => ⟨he, (Fr.refl nob _).below hb⟩)
    clear hw'
    go_simp
  simp only [Act.put, List.setIfInBounds_toArray, List.set_cons_zero, List.set_cons_succ]
  refine grow_step (v := Value.bool false) rfl rfl ?s110 ?n110
  case s110 =>
    intro w' hw'
    clear hw'
    refine growAt_value ?_
    go_simp
    try rfl
  simp only [Act.put, List.setIfInBounds_toArray, List.set_cons_zero, List.set_cons_succ]
  refine grow_step (v := Value.bool false) rfl rfl ?s111 ?n111
  case s111 =>
    intro w' hw'
    clear hw'
    refine growAt_value ?_
    go_simp
    try rfl
  simp only [Act.put, List.setIfInBounds_toArray, List.set_cons_zero, List.set_cons_succ]
  refine grow_step (v := Value.bool false) rfl rfl ?s112 ?n112
  case s112 =>
    intro w' hw'
    clear hw'
    refine growAt_value ?_
    go_simp
    try rfl
  simp only [Act.put, List.setIfInBounds_toArray, List.set_cons_zero, List.set_cons_succ]
  refine grow_step (v := dval H) rfl rfl ?s113 ?n113
  case s113 =>
    intro w' hw'
    have q0 := hw'.cell h0 (fun h => h)
    have q1 := hw'.cell h1 (fun h => h)
    clear hw'
    refine growAt_value ?_
    go_simp
    try rfl
  simp only [Act.put, List.setIfInBounds_toArray, List.set_cons_zero, List.set_cons_succ]
  refine grow_step (v := .int .u32 (sH : Int)) rfl rfl ?s114 ?n114
  case s114 =>
    intro w' hw'
    refine growAt_call ?_ ((cSH w').mono fun e w'' ⟨he, hb⟩ => ⟨he, (Fr.refl nob _).below hb⟩)
    clear hw'
    go_simp
  simp only [Act.put, List.setIfInBounds_toArray, List.set_cons_zero, List.set_cons_succ]
  refine grow_step (v := .int .i64 (n : Int)) rfl rfl ?s115 ?n115
  case s115 =>
    intro w' hw'
    clear hw'
    refine growAt_value ?_
    go_simp
    try rfl
  simp only [Act.put, List.setIfInBounds_toArray, List.set_cons_zero, List.set_cons_succ]
  refine grow_step (v := .int .u64 (n : Int)) rfl rfl ?s116 ?n116
  case s116 =>
    intro w' hw'
    clear hw'
    refine growAt_value ?_
    go_simp
    try rfl
  simp only [Act.put, List.setIfInBounds_toArray, List.set_cons_zero, List.set_cons_succ]
  refine grow_step (v := .int .u32 (sn : Int)) rfl rfl ?s117 ?n117
  case s117 =>
    intro w' hw'
    clear hw'
    refine growAt_value ?_
    go_simp
    try rfl
  simp only [Act.put, List.setIfInBounds_toArray, List.set_cons_zero, List.set_cons_succ]
  refine grow_step (v := .int .u32 0) rfl rfl ?s118 ?n118
  case s118 =>
    intro w' hw'
    clear hw'
    refine growAt_value ?_
    go_simp
    try rfl
  simp only [Act.put, List.setIfInBounds_toArray, List.set_cons_zero, List.set_cons_succ]
  refine grow_step (v := Value.bool false) rfl rfl ?s119 ?n119
  case s119 =>
    intro w' hw'
    clear hw'
    refine growAt_value ?_
    go_simp
    try rfl
  simp only [Act.put, List.setIfInBounds_toArray, List.set_cons_zero, List.set_cons_succ]
  refine grow_step (v := Value.bool false) rfl rfl ?s120 ?n120
  case s120 =>
    intro w' hw'
    clear hw'
    refine growAt_value ?_
    go_simp
    try rfl
  simp only [Act.put, List.setIfInBounds_toArray, List.set_cons_zero, List.set_cons_succ]
  refine grow_step (v := Value.bool false) rfl rfl ?s121 ?n121
  case s121 =>
    intro w' hw'
    clear hw'
    refine growAt_value ?_
    go_simp
    try rfl
  simp only [Act.put, List.setIfInBounds_toArray, List.set_cons_zero, List.set_cons_succ]
  refine grow_step (v := dval A) rfl rfl ?s122 ?n122
  case s122 =>
    intro w' hw'
    have q0 := hw'.cell a0 (fun h => h)
    have q1 := hw'.cell a1 (fun h => h)
    clear hw'
    refine growAt_value ?_
    go_simp
    try rfl
  simp only [Act.put, List.setIfInBounds_toArray, List.set_cons_zero, List.set_cons_succ]
  refine grow_step (v := .int .i64 (n : Int)) rfl rfl ?s123 ?n123
  case s123 =>
    intro w' hw'
    clear hw'
    refine growAt_value ?_
    go_simp
    try rfl
  simp only [Act.put, List.setIfInBounds_toArray, List.set_cons_zero, List.set_cons_succ]
  refine grow_step (v := .int .u64 (n : Int)) rfl rfl ?s124 ?n124
  case s124 =>
    intro w' hw'
    clear hw'
    refine growAt_value ?_
    go_simp
    try rfl
  simp only [Act.put, List.setIfInBounds_toArray, List.set_cons_zero, List.set_cons_succ]
  refine grow_step (v := .int .u32 (p2 : Int)) rfl rfl ?s125 ?n125
  case s125 =>
    intro w' hw'
    clear hw'
    refine growAt_value ?_
    go_simp
    try rfl
  simp only [Act.put, List.setIfInBounds_toArray, List.set_cons_zero, List.set_cons_succ]
  refine grow_step (v := dval E1) rfl rfl ?s126 ?n126
  case s126 =>
    intro w' hw'
    have FRx := FR.trans hw' (fun _ _ h => h)
    refine growAt_call ?_ ((cE1 w' FRx).mono fun e w'' ⟨he, hb⟩ => ⟨he, (Fr.refl nob _).below hb⟩)
    clear hw' FRx
    go_simp
  simp only [Act.put, List.setIfInBounds_toArray, List.set_cons_zero, List.set_cons_succ]
  refine grow_step (v := dval H) rfl rfl ?s127 ?n127
  case s127 =>
    intro w' hw'
    have q0 := hw'.cell h0 (fun h => h)
    have q1 := hw'.cell h1 (fun h => h)
    clear hw'
    refine growAt_value ?_
    go_simp
    try rfl
  simp only [Act.put, List.setIfInBounds_toArray, List.set_cons_zero, List.set_cons_succ]
  refine grow_step (v := dval Lo) rfl rfl ?s128 ?n128
  case s128 =>
    intro w' hw'
    have q0 := hw'.cell l0 (fun h => h)
    have q1 := hw'.cell l1 (fun h => h)
    clear hw'
    refine growAt_value ?_
    go_simp
    try rfl
  simp only [Act.put, List.setIfInBounds_toArray, List.set_cons_zero, List.set_cons_succ]
  refine grow_step (v := dval E1) rfl rfl ?s129 ?n129
  case s129 =>
    intro w' hw'
    refine growAt_call ?_ ((cOr w').mono fun e w'' ⟨he, hb⟩ => ⟨he, (Fr.refl nob _).below hb⟩)
    clear hw'
    go_simp
  simp only [Act.put, List.setIfInBounds_toArray, List.set_cons_zero, List.set_cons_succ]
  refine grow_step (v := Value.bool true) rfl rfl ?s130 ?n130
  case s130 =>
    intro w' hw'
    refine growAt_call ?_ ((equal_any E1 oE1 w').mono fun e w'' ⟨he, hb⟩ => ⟨he, (Fr.refl nob _).below hb⟩)
    clear hw'
    go_simp
  simp only [Act.put, List.setIfInBounds_toArray, List.set_cons_zero, List.set_cons_succ]
  refine grow_step (v := Value.bool false) rfl rfl ?s131 ?n131
  case s131 =>
    intro w' hw'
    clear hw'
    refine growAt_value ?_
    go_simp
    try rfl
  simp only [Act.put, List.setIfInBounds_toArray, List.set_cons_zero, List.set_cons_succ]
  refine grow_step (v := Value.bool false) rfl rfl ?s132 ?n132
  case s132 =>
    intro w' hw'
    clear hw'
    refine growAt_value ?_
    go_simp
    try rfl
  simp only [Act.put, List.setIfInBounds_toArray, List.set_cons_zero, List.set_cons_succ]
  refine grow_step (v := Value.bool false) rfl rfl ?s133 ?n133
  case s133 =>
    intro w' hw'
    clear hw'
    refine growAt_value ?_
    go_simp
    try rfl
  simp only [Act.put, List.setIfInBounds_toArray, List.set_cons_zero, List.set_cons_succ]
  refine grow_step (v := dval A) rfl rfl ?s134 ?n134
  case s134 =>
    intro w' hw'
    have q0 := hw'.cell a0 (fun h => h)
    have q1 := hw'.cell a1 (fun h => h)
    clear hw'
    refine growAt_value ?_
    go_simp
    try rfl
  simp only [Act.put, List.setIfInBounds_toArray, List.set_cons_zero, List.set_cons_succ]
  refine grow_step (v := .int .i64 (n : Int)) rfl rfl ?s135 ?n135
  case s135 =>
    intro w' hw'
    clear hw'
    refine growAt_value ?_
    go_simp
    try rfl
  simp only [Act.put, List.setIfInBounds_toArray, List.set_cons_zero, List.set_cons_succ]
  refine grow_step (v := .int .u64 (n : Int)) rfl rfl ?s136 ?n136
  case s136 =>
    intro w' hw'
    clear hw'
    refine growAt_value ?_
    go_simp
    try rfl
  simp only [Act.put, List.setIfInBounds_toArray, List.set_cons_zero, List.set_cons_succ]
  refine grow_step (v := .int .u32 (p2 : Int)) rfl rfl ?s137 ?n137
  case s137 =>
    intro w' hw'
    clear hw'
    refine growAt_value ?_
    go_simp
    try rfl
  simp only [Act.put, List.setIfInBounds_toArray, List.set_cons_zero, List.set_cons_succ]
  refine grow_step (v := dval F1) rfl rfl ?s138 ?n138
  case s138 =>
    intro w' hw'
    have FRx := FR.trans hw' (fun _ _ h => h)
    refine growAt_call ?_ ((cF1 w' FRx).mono fun e w'' ⟨he, hb⟩ => ⟨he, (Fr.refl nob _).below hb⟩)
    clear hw' FRx
    go_simp
  simp only [Act.put, List.setIfInBounds_toArray, List.set_cons_zero, List.set_cons_succ]
  refine grow_step (v := dval H) rfl rfl ?s139 ?n139
  case s139 =>
    intro w' hw'
    have q0 := hw'.cell h0 (fun h => h)
    have q1 := hw'.cell h1 (fun h => h)
    clear hw'
    refine growAt_value ?_
    go_simp
    try rfl
  simp only [Act.put, List.setIfInBounds_toArray, List.set_cons_zero, List.set_cons_succ]
  refine grow_step (v := dval Lo) rfl rfl ?s140 ?n140
  case s140 =>
    intro w' hw'
    have q0 := hw'.cell l0 (fun h => h)
    have q1 := hw'.cell l1 (fun h => h)
    clear hw'
    refine growAt_value ?_
    go_simp
    try rfl
  simp only [Act.put, List.setIfInBounds_toArray, List.set_cons_zero, List.set_cons_succ]
  refine grow_step (v := dval F1) rfl rfl ?s141 ?n141
  case s141 =>
    intro w' hw'
    refine growAt_call ?_ ((cAnd w').mono fun e w'' ⟨he, hb⟩ => ⟨he, (Fr.refl nob _).below hb⟩)
    clear hw'
    go_simp
  simp only [Act.put, List.setIfInBounds_toArray, List.set_cons_zero, List.set_cons_succ]
  refine grow_step (v := Value.bool true) rfl rfl ?s142 ?n142
  case s142 =>
    intro w' hw'
    refine growAt_call ?_ ((equal_any F1 oF1 w').mono fun e w'' ⟨he, hb⟩ => ⟨he, (Fr.refl nob _).below hb⟩)
    clear hw'
    go_simp
  simp only [Act.put, List.setIfInBounds_toArray, List.set_cons_zero, List.set_cons_succ]
  refine grow_step (v := Value.bool false) rfl rfl ?s143 ?n143
  case s143 =>
    intro w' hw'
    clear hw'
    refine growAt_value ?_
    go_simp
    try rfl
  simp only [Act.put, List.setIfInBounds_toArray, List.set_cons_zero, List.set_cons_succ]
  refine grow_nil ?_
  rintro w5 listed fr5 - -
  replace a0 := fr5.cell a0 (fun h => h)
  replace a1 := fr5.cell a1 (fun h => h)
  replace b0 := fr5.cell b0 (fun h => h)
  replace b1 := fr5.cell b1 (fun h => h)
  have frW := F4.trans fr5 (fun _ _ h => h)
  clear v0 v1 h0 h1 l0 l1 fr5 F4
  go_upto_region 9 with fail
  clear FR
  have FR := frW
  refine wp_region_grow' 8 144 (fun _ => #[.int .u32 0, .string ⟨#[]⟩]) [26, 26] (by kernel_rfl) (by kernel_rfl) rfl rfl (by intro T h w; simp at h; subst h; rfl) ?_
  simp only [List.take_succ_cons, List.take_zero]
  refine grow_step (v := dval A) rfl rfl ?s144 ?n144
  case s144 =>
    intro w' hw'
    have q0 := hw'.cell a0 (fun h => h)
    have q1 := hw'.cell a1 (fun h => h)
    clear hw'
    refine growAt_value ?_
    go_simp
    try rfl
  simp only [Act.put, List.setIfInBounds_toArray, List.set_cons_zero, List.set_cons_succ]
  refine grow_step (v := .int .u32 (f : Int)) rfl rfl ?s145 ?n145
  case s145 =>
    intro w' hw'
    clear hw'
    refine growAt_value ?_
    go_simp
    try rfl
  simp only [Act.put, List.setIfInBounds_toArray, List.set_cons_zero, List.set_cons_succ]
  refine grow_step (v := dval X) rfl rfl ?s146 ?n146
  case s146 =>
    intro w' hw'
    have FRx := FR.trans hw' (fun _ _ h => h)
    refine growAt_call ?_ ((cX w' FRx).mono fun e w'' ⟨he, hb⟩ => ⟨he, (Fr.refl nob _).below hb⟩)
    clear hw' FRx
    go_simp
  simp only [Act.put, List.setIfInBounds_toArray, List.set_cons_zero, List.set_cons_succ]
  refine grow_step (v := dval A) rfl rfl ?s147 ?n147
  case s147 =>
    intro w' hw'
    have q0 := hw'.cell a0 (fun h => h)
    have q1 := hw'.cell a1 (fun h => h)
    clear hw'
    refine growAt_value ?_
    go_simp
    try rfl
  simp only [Act.put, List.setIfInBounds_toArray, List.set_cons_zero, List.set_cons_succ]
  refine grow_step (v := .int .u32 (f : Int)) rfl rfl ?s148 ?n148
  case s148 =>
    intro w' hw'
    clear hw'
    refine growAt_value ?_
    go_simp
    try rfl
  simp only [Act.put, List.setIfInBounds_toArray, List.set_cons_zero, List.set_cons_succ]
  refine grow_step (v := dval Y) rfl rfl ?s149 ?n149
  case s149 =>
    intro w' hw'
    have FRx := FR.trans hw' (fun _ _ h => h)
    refine growAt_call ?_ ((cY w' FRx).mono fun e w'' ⟨he, hb⟩ => ⟨he, (Fr.refl nob _).below hb⟩)
    clear hw' FRx
    go_simp
  simp only [Act.put, List.setIfInBounds_toArray, List.set_cons_zero, List.set_cons_succ]
  refine grow_alloc rfl fun g16 hg16 => ?_
  simp only [Act.put, List.setIfInBounds_toArray, List.set_cons_zero, List.set_cons_succ]
  refine grow_alloc rfl fun g17 hg17 => ?_
  simp only [Act.put, List.setIfInBounds_toArray, List.set_cons_zero, List.set_cons_succ]
  refine grow_nil ?_
  rintro w6 listed fr6 hl hM
  obtain ⟨p14, m1, m2, m3, m4⟩ := hM 6 _ 26 16 (by omega) rfl rfl rfl (hl 6 (by omega))
  obtain ⟨p15, k1, k2, k3, _⟩ := hM 7 _ 26 17 (by omega) rfl rfl rfl (hl 7 (by omega))
  have n45 := m4 7 _ 26 17 (by omega) (by omega) rfl rfl (hl 7 (by omega)) rfl
  clear hM hl m4
  obtain rfl : g16 = p14 := by simpa using m1
  obtain rfl : g17 = p15 := by simpa using k1
  have n54 : ¬ g17 = g16 := fun e => n45 (by rw [e]; simp)
  clear n45 m1 k1
  have G14 := Box2.of_heap m3
  have G15 := Box2.of_heap k3
  have ⟨u0, u1, uf⟩ := G14
  have ⟨t0, t1, tf⟩ := G15
  have uf0 := uf 0
  have uf1 := uf 1
  have tf0 := tf 0
  have tf1 := tf 1
  obtain ⟨H14, FH⟩ := G14.set (.int .u32 (place (li X) X : Int)) (.string ⟨(code (rows (li X))).toArray⟩)
  have H15 := G15.kept FH n54
  obtain ⟨L15, FL⟩ := H15.set (.int .u32 (place (li Y) Y : Int)) (.string ⟨(code (rows (li Y))).toArray⟩)
  have L14 := H14.kept FL (fun e => n54 e.symm)
  have F3 := (frW.trans fr6 (fun _ _ h => h)).trans' FH (T := nob) (fun _ _ h => h) (fun k hk h => by have e : k = g16 := h; have := frW.size; omega)
  have F4 := F3.trans' FL (T := nob) (fun _ _ h => h) (fun k hk h => by have e : k = g17 := h; have := frW.size; omega)
  have K := (fr6.trans' FH (T := nob) (fun _ _ h => h) (fun k hk h => by have e : k = g16 := h; omega)).trans' FL (T := nob) (fun _ _ h => h) (fun k hk h => by have e : k = g17 := h; omega)
  replace a0 := K.cell a0 (fun h => h)
  replace a1 := K.cell a1 (fun h => h)
  replace b0 := K.cell b0 (fun h => h)
  replace b1 := K.cell b1 (fun h => h)
  have ⟨x0, x1, _⟩ := L14
  have ⟨y0, y1, _⟩ := L15
  clear FR
  have FR := F4
  clear H14 H15 L14 L15 G14 G15 uf tf FH FL F3 K frW fr6 m2 m3 k2 k3
  go_upto_region 10 with fail
  generalize (((w6.setCell ⟨g16, 0, none⟩ (.int .u32 (place (li X) X : Int))).setCell ⟨g16, 1, none⟩ (.string ⟨(code (rows (li X))).toArray⟩)).setCell ⟨g17, 0, none⟩ (.int .u32 (place (li Y) Y : Int))).setCell ⟨g17, 1, none⟩ (.string ⟨(code (rows (li Y))).toArray⟩) = W7 at *
  refine wp_region_grow' 52 144 (fun _ => #[]) [] (by kernel_rfl) (by kernel_rfl) rfl rfl (by intro T h; cases h) ?_
  simp only [List.take_succ_cons, List.take_zero]
  refine grow_step (v := dval Y) rfl rfl ?s150 ?n150
  case s150 =>
    intro w' hw'
    have q0 := hw'.cell y0 (fun h => h)
    have q1 := hw'.cell y1 (fun h => h)
    clear hw'
    refine growAt_value ?_
    go_simp
    try rfl
  simp only [Act.put, List.setIfInBounds_toArray, List.set_cons_zero, List.set_cons_succ]
  refine grow_step (v := dval A) rfl rfl ?s151 ?n151
  case s151 =>
    intro w' hw'
    have q0 := hw'.cell a0 (fun h => h)
    have q1 := hw'.cell a1 (fun h => h)
    clear hw'
    refine growAt_value ?_
    go_simp
    try rfl
  simp only [Act.put, List.setIfInBounds_toArray, List.set_cons_zero, List.set_cons_succ]
  refine grow_step (v := dval NA) rfl rfl ?s152 ?n152
  case s152 =>
    intro w' hw'
    refine growAt_call ?_ ((cNA w').mono fun e w'' ⟨he, hb⟩ => ⟨he, (Fr.refl nob _).below hb⟩)
    clear hw'
    go_simp
  simp only [Act.put, List.setIfInBounds_toArray, List.set_cons_zero, List.set_cons_succ]
  refine grow_step (v := .int .u32 (f : Int)) rfl rfl ?s153 ?n153
  case s153 =>
    intro w' hw'
    clear hw'
    refine growAt_value ?_
    go_simp
    try rfl
  simp only [Act.put, List.setIfInBounds_toArray, List.set_cons_zero, List.set_cons_succ]
  refine grow_step (v := dval XN) rfl rfl ?s154 ?n154
  case s154 =>
    intro w' hw'
    have FRx := FR.trans hw' (fun _ _ h => h)
    refine growAt_call ?_ ((cXN w' FRx).mono fun e w'' ⟨he, hb⟩ => ⟨he, (Fr.refl nob _).below hb⟩)
    clear hw' FRx
    go_simp
  simp only [Act.put, List.setIfInBounds_toArray, List.set_cons_zero, List.set_cons_succ]
  refine grow_step (v := dval Y) rfl rfl ?s155 ?n155
  case s155 =>
    intro w' hw'
    refine growAt_call ?_ ((cNY w').mono fun e w'' ⟨he, hb⟩ => ⟨he, (Fr.refl nob _).below hb⟩)
    clear hw'
    go_simp
  simp only [Act.put, List.setIfInBounds_toArray, List.set_cons_zero, List.set_cons_succ]
  refine grow_step (v := Value.bool true) rfl rfl ?s156 ?n156
  case s156 =>
    intro w' hw'
    refine growAt_call ?_ ((equal_any Y oY w').mono fun e w'' ⟨he, hb⟩ => ⟨he, (Fr.refl nob _).below hb⟩)
    clear hw'
    go_simp
  simp only [Act.put, List.setIfInBounds_toArray, List.set_cons_zero, List.set_cons_succ]
  refine grow_step (v := Value.bool true) rfl rfl ?s157 ?n157
  case s157 =>
    intro w' hw'
    clear hw'
    refine growAt_value ?_
    go_simp
    try rfl
  simp only [Act.put, List.setIfInBounds_toArray, List.set_cons_zero, List.set_cons_succ]
  refine grow_step (v := dval A) rfl rfl ?s158 ?n158
  case s158 =>
    intro w' hw'
    have q0 := hw'.cell a0 (fun h => h)
    have q1 := hw'.cell a1 (fun h => h)
    clear hw'
    refine growAt_value ?_
    go_simp
    try rfl
  simp only [Act.put, List.setIfInBounds_toArray, List.set_cons_zero, List.set_cons_succ]
  refine grow_step (v := dval X) rfl rfl ?s159 ?n159
  case s159 =>
    intro w' hw'
    have q0 := hw'.cell x0 (fun h => h)
    have q1 := hw'.cell x1 (fun h => h)
    clear hw'
    refine growAt_value ?_
    go_simp
    try rfl
  simp only [Act.put, List.setIfInBounds_toArray, List.set_cons_zero, List.set_cons_succ]
  refine grow_step (v := Value.bool true) rfl rfl ?s160 ?n160
  case s160 =>
    intro w' hw'
    refine growAt_call ?_ ((cW1 w').mono fun e w'' ⟨he, hb⟩ => ⟨he, (Fr.refl nob _).below hb⟩)
    clear hw'
    go_simp
  simp only [Act.put, List.setIfInBounds_toArray, List.set_cons_zero, List.set_cons_succ]
  refine grow_step (v := Value.bool true) rfl rfl ?s161 ?n161
  case s161 =>
    intro w' hw'
    clear hw'
    refine growAt_value ?_
    go_simp
    try rfl
  simp only [Act.put, List.setIfInBounds_toArray, List.set_cons_zero, List.set_cons_succ]
  refine grow_step (v := Value.bool true) rfl rfl ?s162 ?n162
  case s162 =>
    intro w' hw'
    clear hw'
    refine growAt_value ?_
    go_simp
    try rfl
  simp only [Act.put, List.setIfInBounds_toArray, List.set_cons_zero, List.set_cons_succ]
  refine grow_step (v := dval Y) rfl rfl ?s163 ?n163
  case s163 =>
    intro w' hw'
    have q0 := hw'.cell y0 (fun h => h)
    have q1 := hw'.cell y1 (fun h => h)
    clear hw'
    refine growAt_value ?_
    go_simp
    try rfl
  simp only [Act.put, List.setIfInBounds_toArray, List.set_cons_zero, List.set_cons_succ]
  refine grow_step (v := dval A) rfl rfl ?s164 ?n164
  case s164 =>
    intro w' hw'
    have q0 := hw'.cell a0 (fun h => h)
    have q1 := hw'.cell a1 (fun h => h)
    clear hw'
    refine growAt_value ?_
    go_simp
    try rfl
  simp only [Act.put, List.setIfInBounds_toArray, List.set_cons_zero, List.set_cons_succ]
  refine grow_step (v := Value.bool true) rfl rfl ?s165 ?n165
  case s165 =>
    intro w' hw'
    refine growAt_call ?_ ((cW2 w').mono fun e w'' ⟨he, hb⟩ => ⟨he, (Fr.refl nob _).below hb⟩)
    clear hw'
    go_simp
  simp only [Act.put, List.setIfInBounds_toArray, List.set_cons_zero, List.set_cons_succ]
  refine grow_step (v := Value.bool true) rfl rfl ?s166 ?n166
  case s166 =>
    intro w' hw'
    clear hw'
    refine growAt_value ?_
    go_simp
    try rfl
  simp only [Act.put, List.setIfInBounds_toArray, List.set_cons_zero, List.set_cons_succ]
  refine grow_step (v := Value.bool true) rfl rfl ?s167 ?n167
  case s167 =>
    intro w' hw'
    clear hw'
    refine growAt_value ?_
    go_simp
    try rfl
  simp only [Act.put, List.setIfInBounds_toArray, List.set_cons_zero, List.set_cons_succ]
  refine grow_step (v := dval X) rfl rfl ?s168 ?n168
  case s168 =>
    intro w' hw'
    have q0 := hw'.cell x0 (fun h => h)
    have q1 := hw'.cell x1 (fun h => h)
    clear hw'
    refine growAt_value ?_
    go_simp
    try rfl
  simp only [Act.put, List.setIfInBounds_toArray, List.set_cons_zero, List.set_cons_succ]
  refine grow_step (v := .int .u32 (sX : Int)) rfl rfl ?s169 ?n169
  case s169 =>
    intro w' hw'
    refine growAt_call ?_ ((cSX w').mono fun e w'' ⟨he, hb⟩ => ⟨he, (Fr.refl nob _).below hb⟩)
    clear hw'
    go_simp
  simp only [Act.put, List.setIfInBounds_toArray, List.set_cons_zero, List.set_cons_succ]
  refine grow_step (v := dval Y) rfl rfl ?s170 ?n170
  case s170 =>
    intro w' hw'
    have q0 := hw'.cell y0 (fun h => h)
    have q1 := hw'.cell y1 (fun h => h)
    clear hw'
    refine growAt_value ?_
    go_simp
    try rfl
  simp only [Act.put, List.setIfInBounds_toArray, List.set_cons_zero, List.set_cons_succ]
  refine grow_step (v := .int .u32 (sY : Int)) rfl rfl ?s171 ?n171
  case s171 =>
    intro w' hw'
    refine growAt_call ?_ ((cSY w').mono fun e w'' ⟨he, hb⟩ => ⟨he, (Fr.refl nob _).below hb⟩)
    clear hw'
    go_simp
  simp only [Act.put, List.setIfInBounds_toArray, List.set_cons_zero, List.set_cons_succ]
  refine grow_step (v := .int .u32 (so : Int)) rfl rfl ?s172 ?n172
  case s172 =>
    intro w' hw'
    clear hw'
    refine growAt_value ?_
    go_simp
    try rfl
  simp only [Act.put, List.setIfInBounds_toArray, List.set_cons_zero, List.set_cons_succ]
  refine grow_step (v := .int .u32 (f : Int)) rfl rfl ?s173 ?n173
  case s173 =>
    intro w' hw'
    clear hw'
    refine growAt_value ?_
    go_simp
    try rfl
  simp only [Act.put, List.setIfInBounds_toArray, List.set_cons_zero, List.set_cons_succ]
  refine grow_step (v := .int .u32 0) rfl rfl ?s174 ?n174
  case s174 =>
    intro w' hw'
    clear hw'
    refine growAt_value ?_
    go_simp
    try rfl
  simp only [Act.put, List.setIfInBounds_toArray, List.set_cons_zero, List.set_cons_succ]
  refine grow_step (v := Value.bool true) rfl rfl ?s175 ?n175
  case s175 =>
    intro w' hw'
    clear hw'
    refine growAt_value ?_
    go_simp
    try rfl
  simp only [Act.put, List.setIfInBounds_toArray, List.set_cons_zero, List.set_cons_succ]
  refine grow_step (v := Value.bool true) rfl rfl ?s176 ?n176
  case s176 =>
    intro w' hw'
    clear hw'
    refine growAt_value ?_
    go_simp
    try rfl
  simp only [Act.put, List.setIfInBounds_toArray, List.set_cons_zero, List.set_cons_succ]
  refine grow_step (v := Value.bool true) rfl rfl ?s177 ?n177
  case s177 =>
    intro w' hw'
    clear hw'
    refine growAt_value ?_
    go_simp
    try rfl
  simp only [Act.put, List.setIfInBounds_toArray, List.set_cons_zero, List.set_cons_succ]
  refine grow_step (v := dval A) rfl rfl ?s178 ?n178
  case s178 =>
    intro w' hw'
    have q0 := hw'.cell a0 (fun h => h)
    have q1 := hw'.cell a1 (fun h => h)
    clear hw'
    refine growAt_value ?_
    go_simp
    try rfl
  simp only [Act.put, List.setIfInBounds_toArray, List.set_cons_zero, List.set_cons_succ]
  refine grow_step (v := dval B1) rfl rfl ?s179 ?n179
  case s179 =>
    intro w' hw'
    have q0 := hw'.cell b0 (fun h => h)
    have q1 := hw'.cell b1 (fun h => h)
    clear hw'
    refine growAt_value ?_
    go_simp
    try rfl
  simp only [Act.put, List.setIfInBounds_toArray, List.set_cons_zero, List.set_cons_succ]
  refine grow_step (v := dval OAB) rfl rfl ?s180 ?n180
  case s180 =>
    intro w' hw'
    refine growAt_call ?_ ((cOAB w').mono fun e w'' ⟨he, hb⟩ => ⟨he, (Fr.refl nob _).below hb⟩)
    clear hw'
    go_simp
  simp only [Act.put, List.setIfInBounds_toArray, List.set_cons_zero, List.set_cons_succ]
  refine grow_step (v := .int .u32 (f : Int)) rfl rfl ?s181 ?n181
  case s181 =>
    intro w' hw'
    clear hw'
    refine growAt_value ?_
    go_simp
    try rfl
  simp only [Act.put, List.setIfInBounds_toArray, List.set_cons_zero, List.set_cons_succ]
  refine grow_step (v := dval XO) rfl rfl ?s182 ?n182
  case s182 =>
    intro w' hw'
    have FRx := FR.trans hw' (fun _ _ h => h)
    refine growAt_call ?_ ((cXO w' FRx).mono fun e w'' ⟨he, hb⟩ => ⟨he, (Fr.refl nob _).below hb⟩)
    clear hw' FRx
    go_simp
  simp only [Act.put, List.setIfInBounds_toArray, List.set_cons_zero, List.set_cons_succ]
  refine grow_step (v := dval X) rfl rfl ?s183 ?n183
  case s183 =>
    intro w' hw'
    have q0 := hw'.cell x0 (fun h => h)
    have q1 := hw'.cell x1 (fun h => h)
    clear hw'
    refine growAt_value ?_
    go_simp
    try rfl
  simp only [Act.put, List.setIfInBounds_toArray, List.set_cons_zero, List.set_cons_succ]
  refine grow_step (v := dval B1) rfl rfl ?s184 ?n184
  case s184 =>
    intro w' hw'
    have q0 := hw'.cell b0 (fun h => h)
    have q1 := hw'.cell b1 (fun h => h)
    clear hw'
    refine growAt_value ?_
    go_simp
    try rfl
  simp only [Act.put, List.setIfInBounds_toArray, List.set_cons_zero, List.set_cons_succ]
  refine grow_step (v := .int .u32 (f : Int)) rfl rfl ?s185 ?n185
  case s185 =>
    intro w' hw'
    clear hw'
    refine growAt_value ?_
    go_simp
    try rfl
  simp only [Act.put, List.setIfInBounds_toArray, List.set_cons_zero, List.set_cons_succ]
  refine grow_step (v := dval XB) rfl rfl ?s186 ?n186
  case s186 =>
    intro w' hw'
    have FRx := FR.trans hw' (fun _ _ h => h)
    refine growAt_call ?_ ((cXB w' FRx).mono fun e w'' ⟨he, hb⟩ => ⟨he, (Fr.refl nob _).below hb⟩)
    clear hw' FRx
    go_simp
  simp only [Act.put, List.setIfInBounds_toArray, List.set_cons_zero, List.set_cons_succ]
  refine grow_step (v := dval XO) rfl rfl ?s187 ?n187
  case s187 =>
    intro w' hw'
    refine growAt_call ?_ ((cXO2 w').mono fun e w'' ⟨he, hb⟩ => ⟨he, (Fr.refl nob _).below hb⟩)
    clear hw'
    go_simp
  simp only [Act.put, List.setIfInBounds_toArray, List.set_cons_zero, List.set_cons_succ]
  refine grow_step (v := Value.bool true) rfl rfl ?s188 ?n188
  case s188 =>
    intro w' hw'
    refine growAt_call ?_ ((equal_any XO oXO w').mono fun e w'' ⟨he, hb⟩ => ⟨he, (Fr.refl nob _).below hb⟩)
    clear hw'
    go_simp
  simp only [Act.put, List.setIfInBounds_toArray, List.set_cons_zero, List.set_cons_succ]
  refine grow_step (v := Value.bool true) rfl rfl ?s189 ?n189
  case s189 =>
    intro w' hw'
    clear hw'
    refine growAt_value ?_
    go_simp
    try rfl
  simp only [Act.put, List.setIfInBounds_toArray, List.set_cons_zero, List.set_cons_succ]
  refine grow_step (v := Value.bool true) rfl rfl ?s190 ?n190
  case s190 =>
    intro w' hw'
    clear hw'
    refine growAt_value ?_
    go_simp
    try rfl
  simp only [Act.put, List.setIfInBounds_toArray, List.set_cons_zero, List.set_cons_succ]
  refine grow_step (v := dval A) rfl rfl ?s191 ?n191
  case s191 =>
    intro w' hw'
    have q0 := hw'.cell a0 (fun h => h)
    have q1 := hw'.cell a1 (fun h => h)
    clear hw'
    refine growAt_value ?_
    go_simp
    try rfl
  simp only [Act.put, List.setIfInBounds_toArray, List.set_cons_zero, List.set_cons_succ]
  refine grow_step (v := .int .u32 (f : Int)) rfl rfl ?s192 ?n192
  case s192 =>
    intro w' hw'
    clear hw'
    refine growAt_value ?_
    go_simp
    try rfl
  simp only [Act.put, List.setIfInBounds_toArray, List.set_cons_zero, List.set_cons_succ]
  refine grow_step (v := dval X) rfl rfl ?s193 ?n193
  case s193 =>
    intro w' hw'
    have FRx := FR.trans hw' (fun _ _ h => h)
    refine growAt_call ?_ ((cX w' FRx).mono fun e w'' ⟨he, hb⟩ => ⟨he, (Fr.refl nob _).below hb⟩)
    clear hw' FRx
    go_simp
  simp only [Act.put, List.setIfInBounds_toArray, List.set_cons_zero, List.set_cons_succ]
  refine grow_step (v := .int .u32 (f : Int)) rfl rfl ?s194 ?n194
  case s194 =>
    intro w' hw'
    clear hw'
    refine growAt_value ?_
    go_simp
    try rfl
  simp only [Act.put, List.setIfInBounds_toArray, List.set_cons_zero, List.set_cons_succ]
  refine grow_step (v := dval X) rfl rfl ?s195 ?n195
  case s195 =>
    intro w' hw'
    have FRx := FR.trans hw' (fun _ _ h => h)
    refine growAt_call ?_ ((cXX w' FRx).mono fun e w'' ⟨he, hb⟩ => ⟨he, (Fr.refl nob _).below hb⟩)
    clear hw' FRx
    go_simp
  simp only [Act.put, List.setIfInBounds_toArray, List.set_cons_zero, List.set_cons_succ]
  refine grow_step (v := dval X) rfl rfl ?s196 ?n196
  case s196 =>
    intro w' hw'
    have q0 := hw'.cell x0 (fun h => h)
    have q1 := hw'.cell x1 (fun h => h)
    clear hw'
    refine growAt_value ?_
    go_simp
    try rfl
  simp only [Act.put, List.setIfInBounds_toArray, List.set_cons_zero, List.set_cons_succ]
  refine grow_step (v := Value.bool true) rfl rfl ?s197 ?n197
  case s197 =>
    intro w' hw'
    refine growAt_call ?_ ((equal_any X oX w').mono fun e w'' ⟨he, hb⟩ => ⟨he, (Fr.refl nob _).below hb⟩)
    clear hw'
    go_simp
  simp only [Act.put, List.setIfInBounds_toArray, List.set_cons_zero, List.set_cons_succ]
  refine grow_step (v := Value.bool true) rfl rfl ?s198 ?n198
  case s198 =>
    intro w' hw'
    clear hw'
    refine growAt_value ?_
    go_simp
    try rfl
  simp only [Act.put, List.setIfInBounds_toArray, List.set_cons_zero, List.set_cons_succ]
  refine grow_step (v := Value.bool true) rfl rfl ?s199 ?n199
  case s199 =>
    intro w' hw'
    clear hw'
    refine growAt_value ?_
    go_simp
    try rfl
  simp only [Act.put, List.setIfInBounds_toArray, List.set_cons_zero, List.set_cons_succ]
  refine grow_step (v := Value.bool true) rfl rfl ?s200 ?n200
  case s200 =>
    intro w' hw'
    refine growAt_call ?_ ((wakes_any w').mono fun e w'' ⟨he, hb⟩ => ⟨he, (Fr.refl nob _).below hb⟩)
    clear hw'
    go_simp
  simp only [Act.put, List.setIfInBounds_toArray, List.set_cons_zero, List.set_cons_succ]
  refine grow_step (v := Value.bool true) rfl rfl ?s201 ?n201
  case s201 =>
    intro w' hw'
    clear hw'
    refine growAt_value ?_
    go_simp
    try rfl
  simp only [Act.put, List.setIfInBounds_toArray, List.set_cons_zero, List.set_cons_succ]
  refine grow_nil ?_
  rintro w8 listed fr8 - -
  have FE := Lib.hid ((F4.trans fr8 (fun _ _ h => h)).to_below (Nat.le_refl _) (fun _ h => h.elim))
  clear a0 a1 b0 b1 x0 x1 y0 y1 fr8 F4 FR
  go_wp2_with fail
  exact bodyPost_ret (v := .bool true) (by simp [results, Tryd.results5, go_sem]) rfl ⟨rfl, FE.out⟩
end Go.Proofs.YtnkcdkmfeokljaaDoor
namespace Go.Proofs.YtnkcdkmfeokljaaDoor
open Go.RowKit Go.Shelf
open Bd

theorem ok_wB {A : B} (h : A.ok 0) (i : Nat) (on : Bool) : (withB i on A).ok 0 := ok_withB (by omega) h i on
theorem wI {A : B} {n : Nat} (hn : n < 24) (on : Bool) : withI A (n : Int) on = withB n on A := by
  unfold withI; rw [if_pos (by omega)]; rfl
set_option maxRecDepth 100000 in
set_option maxHeartbeats 2000000 in
theorem fixes_any (L : List OpD) (hx : ∀ x ∈ L, x.Fits) (i f : Nat) (hf : f < 4294967296) (v : Value) (w : World) (hv : ORow w v L) (hg : 0 < w.heap.size) (hT : Tab32 w) :
    Calls Tryd.prog 5 #[v, .int .u8 (i : Int), .int .u32 (f : Int)] w fun e w' => e = .returned (.bool true) ∧ Below w.heap.size w w' := by
  have h3 := three_any L hx _ w hv hg hT
  have oA := ok_thr L 1
  have oB := ok_thr L 2
  have tab : ∀ w1, Fr nob w w1 → 0 < w1.heap.size ∧ Tab32 w1 := fun w1 fr => ⟨Nat.lt_of_lt_of_le hg fr.size, hT.below (fr.to_below (B := w.heap.size) (Nat.le_refl _) (fun _ h => h.elim)) hg⟩
  obtain ⟨a, cap, rfl⟩ := hv.form
  clear hx hv hT hg
  generalize thr L 1 = A at *
  generalize thr L 2 = B1 at *
  generalize thr L 3 = C at *
  generalize okL L = ok at *
  generalize L.length = len at *
  clear L
  cases ok with
  | false =>
    clear tab
    go_enter Tryd.func5, Tryd.ntmps5
    go_wp2_with fail
    refine h3.mono ?_
    rintro e w1 ⟨rfl, hb1⟩
    have fr1 := (Fr.refl nob w).below hb1
    clear hb1 h3
    have fW := ((fr1.alloc (.cells #[.int .u32 (place (li A) A : Int), .string ⟨(code (rows (li A))).toArray⟩] 26)).alloc (.cells #[.int .u32 (place (li B1) B1 : Int), .string ⟨(code (rows (li B1))).toArray⟩] 26)).alloc (.cells #[.int .u32 (place (li C) C : Int), .string ⟨(code (rows (li C))).toArray⟩] 26)
    go_wp2_with fail
    refine (wakes_any _).mono ?_
    rintro e w2 ⟨rfl, hb2⟩
    have f2 := fW.below hb2
    go_wp2_with fail
    exact bodyPost_ret (v := .bool true) (by simp [results, Tryd.results5, go_sem]) rfl ⟨rfl, f2.to_below (Nat.le_refl _) (fun _ h => h.elim)⟩
  | true =>
    obtain ⟨n, hin⟩ : ∃ n, n = i % 24 := ⟨_, rfl⟩
    have hn : n < 24 := by rw [hin]; exact Nat.mod_lt _ (by omega)
    have hp : (2 : Nat) ^ n < 2 ^ 24 := Nat.pow_lt_pow_right (by omega) hn
    have hp2 : (2 : Nat) ^ n < 4294967296 := Nat.lt_trans hp (by decide)
    have oH := ok_wB oA n true
    have oL := ok_wB oA n false
    have oX := ok_exM oA f
    have oY := ok_faM oA f
    have sX := supR_lt24 oX
    have sY := supR_lt24 oY
    have hfree := fix_free oA (i := n) true
    rw [Nat.testBit_eq_decide_div_mod_eq, decide_eq_false_iff_not] at hfree
    refine fixes_in A B1 C (cubeB (2 ^ n) 0) (withB n true A) (withB n false A) n f hn oA i hin _ w h3 (fun w => Var_yes n hn w)
      (fun w => by have h := With_any A oA (n : Int) true w; rw [wI hn] at h; exact h) (fun w => by have h := With_any A oA (n : Int) false w; rw [wI hn] at h; exact h)
      (fun w => by have h := Ite_any (cubeB (2 ^ n) 0) (withB n true A) (withB n false A) (ok_cubeB _ _) oH oL w; rw [fix_shannon oA hn] at h; exact h)
      (supR (li (withB n true A))) (supR (li (withB n true A)) / 2 ^ n) (2 ^ n) (fun w => Support_any _ oH w) (exM (2 ^ n) A) (faM (2 ^ n) A) (ok_exM oA _) (ok_faM oA _)
      (fun w1 fr => Exists_any A oA (2 ^ n) hp2 w1 (tab w1 fr).1 (tab w1 fr).2) (fun w1 fr => Forall_any A oA (2 ^ n) hp2 w1 (tab w1 fr).1 (tab w1 fr).2)
      (fun w => by have h := Or_any (withB n true A) (withB n false A) oH oL w; rw [← ex_one oA hn] at h; exact h)
      (fun w => by have h := And_any (withB n true A) (withB n false A) oH oL w; rw [← fa_one oA hn] at h; exact h)
      (exM f A) (faM f A) A.neg (exM f A.neg) (ite A .T B1) (exM f (ite A .T B1)) (exM f B1) oX oY (ok_exM (ok_ite0 _ _ _) _) (supR (li (exM f A))) (supR (li (faM f A))) (supR (li (exM f A)) ||| supR (li (faM f A)))
      (fun w1 fr => Exists_any A oA f hf w1 (tab w1 fr).1 (tab w1 fr).2) (fun w1 fr => Forall_any A oA f hf w1 (tab w1 fr).1 (tab w1 fr).2) (fun w => Not_any A oA w)
      (fun w1 fr => Exists_any A.neg (ok_neg oA) f hf w1 (tab w1 fr).1 (tab w1 fr).2) (fun w => Not_any (exM f A.neg) (ok_exM (ok_neg oA) _) w)
      (fun w => by have h := Within_any A (exM f A) oA oX w; rw [decide_eq_true (in_ex oA f)] at h; exact h) (fun w => by have h := Within_any (faM f A) A oY oA w; rw [decide_eq_true (fa_in oA f)] at h; exact h)
      (fun w => Support_any _ oX w) (fun w => Support_any _ oY w) (fun w => Or_any A B1 oA oB w)
      (fun w1 fr => Exists_any _ (ok_ite0 _ _ _) f hf w1 (tab w1 fr).1 (tab w1 fr).2) (fun w1 fr => Exists_any B1 oB f hf w1 (tab w1 fr).1 (tab w1 fr).2)
      (fun w => by have h := Or_any (exM f A) (exM f B1) oX (ok_exM oB f) w; rw [← ex_or oA oB] at h; exact h)
      (fun w1 fr => by have h := Exists_any (exM f A) oX f hf w1 (tab w1 fr).1 (tab w1 fr).2; rw [show exL (ints (featL f)) (exM f A) = exM f A from ex_twice oA f] at h; exact h)
      ((bits_nat .u32 32 (by decide) wraps_u32 _ _ (Nat.lt_trans sX (by decide)) (Nat.lt_trans sY (by decide))).2) ?_ ?_ ?_ ?_ hp2
    · rw [(bits_nat .u32 32 (by decide) wraps_u32 _ _ (Nat.or_lt_two_pow (Nat.lt_trans sX (by decide)) (Nat.lt_trans sY (by decide))) hf).1, sup_free oA f]; rfl
    · exact (Int.natCast_ediv _ _).symm
    · rw [show (2 : Int) = ((2 : Nat) : Int) from rfl, tmod_nat]
      have : supR (li (withB n true A)) / 2 ^ n % 2 = 0 := by omega
      rw [this]; rfl
    · simp
end Go.Proofs.YtnkcdkmfeokljaaDoor
