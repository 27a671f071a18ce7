import Derived.Test.YtingidbhmbgigaaRefB
namespace Go.Proofs.Ytingidbhmbgigaa
open Go.RowKit
open Bd

theorem fr_store1 (w : World) (b o : Nat) (v : Value) : w.grownBy (w.setCell ⟨b, o, none⟩ v) (some b) := ⟨rfl, rfl, rfl, by simp [World.setCell], fun k _ hk => Below.heap_setCell w ⟨b, o, none⟩ v k (fun e => hk (by simp [e]))⟩

set_option maxRecDepth 100000 in
set_option maxHeartbeats 1000000 in
theorem Blank_any (n : Nat) (hn : n ≤ 24) (a : Option Addr) (cap : Nat) (w : World) : Calls Try.prog 44 #[.slice a n cap] w fun e w' => ∃ g, e = .returned (.agg #[.slice a n cap, .slice (some ⟨g, 0, none⟩) (2 ^ n) (2 ^ n)]) ∧
    w'.ownsRow w.heap.size 4 1 (.slice (some ⟨g, 0, none⟩) (2 ^ n) (2 ^ n)) (2 ^ n) (List.replicate (2 ^ n) (.bool false)) ∧ Below w.heap.size w w' := by
  obtain ⟨i0, hi0, hz0, hz1, hz2⟩ := info_parts info_bool
  have hp : 2 ^ n ≤ 16777216 := Nat.pow_le_pow_right (by omega) hn
  go_enter Try.func44, Try.ntmps44
  have hL : wrap64 ((2 : Int) ^ n) = ((2 ^ n : Nat) : Int) := by
    rw [show (2 : Int) ^ n = ((2 ^ n : Nat) : Int) by simp]
    unfold wrap64
    generalize 2 ^ n = p at *
    omega
  have HL := Lib.hid hL
  clear hL
  go_wp2_with (at_make; refine wpList_make_full _ rfl _ _ 35 rfl w.heap.size 4 i0 (.bool false) 1 Try.underlying35 hi0 hz0 hz1 .i64 .i64 _ _ (2 ^ n) rfl rfl ?c1 ?c2 ?c3 ?c4 ?c5 ?_)
  case c1 => exact HL.out
  case c2 => exact HL.out
  case c3 => rw [hz2]; omega
  case c4 => unfold maxLen; omega
  case c5 => simp
  intro w1 row1 gr1
  rw [toList_madeCells_one] at row1
  have r0 : w1.cell? ⟨w.heap.size, 0, none⟩ = some (.slice none 0 0) := gr1.cell (World.cell?_alloc_at _ _ _ _ (by simp)) (by simp)
  have r1 : w1.cell? ⟨w.heap.size, 1, none⟩ = some (.slice none 0 0) := gr1.cell (World.cell?_alloc_at _ _ _ _ (by simp)) (by simp)
  have fr1 : Fr nob w w1 := ((Fr.refl nob w).alloc _).grown gr1 (fun k h => by cases h)
  have f0 : w1.frozen? ⟨w.heap.size, 0, none⟩ = false := (((Fr.refl nob _).grown gr1 (fun k h => by cases h)).frozen (p := ⟨w.heap.size, 0, none⟩) (by simp) (fun h => h)).trans (World.frozen?_alloc_at _ _ _ _ (by simp))
  have f1 : w1.frozen? ⟨w.heap.size, 1, none⟩ = false := (((Fr.refl nob _).grown gr1 (fun k h => by cases h)).frozen (p := ⟨w.heap.size, 1, none⟩) (by simp) (fun h => h)).trans (World.frozen?_alloc_at _ _ _ _ (by simp))
  clear gr1
  go_wp2_with fail
  refine bodyPost_ret (v := .agg #[.slice a n cap, .slice (some ⟨w.heap.size + 1, 0, none⟩) (2 ^ n) (2 ^ n)]) (by simp [results, Try.results44, go_sem, r0, r1]) rfl ⟨w.heap.size + 1, rfl, ?_, ?_⟩
  · exact (row1.kept (fr_store1 w1 w.heap.size 0 _) (.inr (by simp [Value.ownBlock]))).kept (fr_store1 _ w.heap.size 1 _) (.inr (by simp [Value.ownBlock]))
  · exact ((fr1.set1 (Nat.le_refl _) _).set1 (Nat.le_refl _) _).to_below (Nat.le_refl _) (fun _ h => h.elim)

theorem Blank_len (n m : Nat) (hn : n ≤ 24) (hm : m = 2 ^ n) (a : Option Addr) (cap : Nat) (w : World) : Calls Try.prog 44 #[.slice a n cap] w fun e w' => ∃ g, e = .returned (.agg #[.slice a n cap, .slice (some ⟨g, 0, none⟩) m m]) ∧
    w'.ownsRow w.heap.size 4 1 (.slice (some ⟨g, 0, none⟩) m m) m (List.replicate m (.bool false)) ∧ Below w.heap.size w w' := by
  subst hm
  exact Blank_any n hn a cap w

set_option maxRecDepth 100000 in
set_option maxHeartbeats 400000 in
theorem Join_any (V W : List Nat) (hV : rising V) (hW : rising W) (a b : Value) (w : World) (h1 : SRow w a (V.map ik)) (h2 : SRow w b (W.map ik)) : Calls Try.prog 65 #[a, b] w fun e w' => ∃ v, e = .returned v ∧ SRow w' v ((joinL V W).map ik) ∧ Below w.heap.size w w' := by
  have l1 := rising_len hV
  have l2 := rising_len hW
  have n1 := numN_lt hV.2
  have n2 := numN_lt hW.2
  have hor : bits BinOp.or IntKind.u32 (numN V : Int) (numN W : Int) = ((numN V ||| numN W : Nat) : Int) := (bits_nat .u32 32 (by decide) wraps_u32 _ _ (by omega) (by omega)).2
  have HO := Lib.hid hor
  clear hor
  go_enter Try.func65, Try.ntmps65
  go_wp2_with fail
  refine (Number_any V hV.2 (by omega) a _ h1).mono ?_
  rintro e w1 ⟨rfl, rfl⟩
  go_wp2_with fail
  refine (Number_any W hW.2 (by omega) b _ h2).mono ?_
  rintro e w1 ⟨rfl, rfl⟩
  go_wp2_with fail
  rw [HO.out]
  refine (Features_any _ (Nat.lt_of_lt_of_le (Nat.or_lt_two_pow n1 n2) (by decide)) _).mono ?_
  rintro e w1 ⟨v, rfl, hs, hb⟩
  go_wp2_with fail
  go_ret
  exact ⟨v, rfl, hs, hb⟩

set_option maxRecDepth 100000 in
set_option maxHeartbeats 400000 in
theorem Const_any (b : Bool) (w : World) : Calls Try.prog 21 #[.bool b] w fun e w' => ∃ v, e = .returned v ∧ RSet w' v [] (fun _ => b) ∧ Below w.heap.size w w' := by
  go_enter Try.func21, Try.ntmps21
  go_wp2_with fail
  obtain ⟨c0, c1⟩ := two_cells' w (.slice none 0 0) (.slice (some ⟨w.heap.size + 1, 0, none⟩) 1 1) 37
  have c0' := cell_alloc_l c0 (.cells #[.bool b] 4)
  have c1' := cell_alloc_l c1 (.cells #[.bool b] 4)
  refine bodyPost_ret (v := .agg #[.slice none 0 0, .slice (some ⟨w.heap.size + 1, 0, none⟩) 1 1]) (by simp [results, Try.results21, go_sem, c0', c1']) rfl ⟨_, rfl, ⟨⟨List.Pairwise.nil, by simp⟩, fun _ _ _ => rfl, _, _, rfl, SRow.nil _, ?_⟩, ((Below.refl _ _).alloc (Nat.le_refl _) _).alloc (by simp) _⟩
  refine ⟨some ⟨w.heap.size + 1, 0, none⟩, 1, by simp [tab], fun j u hj => ⟨w.heap.size + 1, rfl, ?_⟩⟩
  have e : (tab [] fun _ => b).map Value.bool = [.bool b] := by simp [tab]
  rw [e] at hj
  match j, hj with
  | 0, hj => simp at hj; subst hj; exact World.cell?_alloc_at _ _ _ _ (by simp)
end Go.Proofs.Ytingidbhmbgigaa
