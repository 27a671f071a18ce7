import Derived.Test.YtbiheajnmjbdoaaQbg
import Derived.WalkMore
namespace Go.Proofs.Ytbiheajnmjbdoaa
open Go.RowKit

/-! blame, search -/
set_option maxRecDepth 100000 in
set_option maxHeartbeats 1000000 in
theorem blame_none (sb d n g' cap : Nat) (c : Nat → Value) (w : World) (hn : n ≤ 1000) (hs : w.cell? ⟨sb, 0, none⟩ = some (.pointer (some ⟨d, 0, none⟩))) (hM : Mem w d c) (h150 : c 150 = .slice none 0 0) (h147 : c 147 = .slice (some ⟨g', 0, none⟩) n cap) (h149 : c 149 = .int .i64 (n : Int)) :
    Calls Try.prog 70 #[.pointer (some ⟨sb, 0, none⟩)] w fun e w' => e = .returned (.tuple #[.slice none 0 0, .int .i64 0]) ∧ Fr nob w w' := by
  have HS := Lib.hid hs
  have HM := Lib.hid hM
  clear hs hM
  go_enter Try.func70, Try.ntmps70
  go_upto_region 2 with fail
  generalize hg : w.alloc _ = W
  have A : Fr nob w W := by rw [← hg]; exact (Fr.refl nob w).alloc _
  have s1 := A.cell HS.out (fun h => h)
  have M1 := HM.out.kept A (fun h => h)
  have c0 := (M1 150 (by decide)).1
  have c7 := (M1 147 (by decide)).1
  have c9 := (M1 149 (by decide)).1
  rw [h150] at c0
  rw [h147] at c7
  rw [h149] at c9
  have HA := Lib.hid A
  clear A M1 hg
  go_wp2_with fail
  go_loopg [20] 0 (fun m iv wr => m = 0 ∧ iv = .int .i64 0 ∧ W = wr)
  case atStart => exact ⟨rfl, rfl, rfl⟩
  case round =>
    obtain ⟨rfl, rfl, rfl⟩ := hrel
    go_wp2_with fail
    go_loopg [2, 3, 7] 0 (fun m cv lv kv wr => m = 0 ∧ cv = .slice none 0 0 ∧ lv = .int .i64 0 ∧ kv = .int .i64 ((n : Int) - 1) ∧ W = wr)
    case atStart => exact ⟨rfl, rfl, rfl, rfl, rfl⟩
    case round =>
      obtain ⟨rfl, rfl, rfl, rfl, rfl⟩ := hrel
      have q0 : ¬ (n : Int) ≤ (n : Int) - 1 := by omega
      go_wp2_with fail
      go_ret2
      exact ⟨rfl, HA.out⟩
set_option maxRecDepth 100000 in
set_option maxHeartbeats 2000000 in
theorem search_no (sb d n g' cap : Nat) (c : Nat → Value) (N : Int) (w : World) (hn : n ≤ 1000) (hs : w.cell? ⟨sb, 0, none⟩ = some (.pointer (some ⟨d, 0, none⟩))) (hs1 : w.cell? ⟨sb, 1, none⟩ = some (.slice none 0 0)) (hsf : w.frozen? ⟨sb, 1, none⟩ = false) (hM : Mem w d c) (h151 : c 151 = .bool true) (h150 : c 150 = .slice none 0 0) (h147 : c 147 = .slice (some ⟨g', 0, none⟩) n cap) (h149 : c 149 = .int .i64 (n : Int)) :
    Calls Try.prog 56 #[.pointer (some ⟨sb, 0, none⟩), .int .i64 N] w fun e w' => e = .returned (.bool false) ∧ (∃ a cp, w'.cell? ⟨sb, 1, none⟩ = some (.slice a 1 cp)) ∧ Fr (fun k => k = sb) w w' := by
  have hbl := blame_none sb d n g' cap c w hn hs hM h150 h147 h149
  have c1 := (hM 151 (by decide)).1
  rw [h151] at c1
  have HS1 := Lib.hid hs1
  have HSF := Lib.hid hsf
  have HLT := Lib.hid (lt_of_cell hs1)
  clear hM h150 h147 h149 hs1 hsf
  go_enter Try.func56, Try.ntmps56
  go_wp2_with fail
  go_step3
  go_wp2_with fail
  go_step3
  go_wp2_with fail
  go_loopg [5] 0 (fun m iv wr => m = 0 ∧ iv = .bool false ∧ w = wr)
  case atStart => exact ⟨rfl, rfl, rfl⟩
  case round =>
    obtain ⟨rfl, rfl, rfl⟩ := hrel
    go_wp2_with fail
    refine hbl.mono ?_
    rintro e w2 ⟨rfl, F2⟩
    have hs2 := F2.cell HS1.out (fun h => h)
    have HF2 := Lib.hid F2
    have HZ2 := Lib.hid ((F2.frozen (p := ⟨sb, 1, none⟩) HLT.out (fun h => h)).trans HSF.out)
    obtain ⟨i0, hi0, hz0, hz1, hz2⟩ := info_parts info_ints
    clear F2 hbl
    go_wp2_with (at_builtin; refine wpList_append_own_at _ rfl _ _ 51 rfl w2.heap.size 56 i0 (.slice none 0 0) 1 24 Try.underlying51 hi0 hz0 hz1 hz2 rfl (by decide) (.slice none 0 0) 0 [] rfl (World.ownsRow_nil _ _ _ _) ⟨w2.heap.size, 0, none⟩ 1 1 [.slice none 0 0] rfl ?c1 ?c2 ?c3 ?c4 ?c5 ?c6 ?_)
    case c1 => rfl
    case c2 => exact cell_one_new _ _ _
    case c3 => intro u hu; simp at hu; subst hu; rfl
    case c4 => unfold maxLen; decide
    case c5 => decide
    case c6 => simp
    intro v3 w3 own3 gr3 _ hat
    obtain ⟨gk, ck, rfl⟩ : ∃ gk ck, v3 = .slice (some ⟨gk, 0, none⟩) 1 ck := by
      rcases own3.2 with ⟨rfl, h0⟩ | ⟨g', cap', cur, rfl, h1, h2, _⟩
      · simp at h0
      · exact ⟨g', cap', rfl⟩
    have G3 : Fr nob w2 w3 := ((Fr.refl nob w2).alloc (.cells #[.slice none 0 0] 56)).grown gr3 (fun k hk _ => by cases hk)
    have c3 := G3.cell hs2 (fun h => h)
    have f3 := (G3.frozen (p := ⟨sb, 1, none⟩) (lt_of_cell hs2) (fun h => h)).trans HZ2.out
    have HN3 : Hid ((w3.setCell ⟨sb, 1, none⟩ (.slice (some ⟨gk, 0, none⟩) 1 ck)).cell? ⟨sb, 1, none⟩ = some (.slice (some ⟨gk, 0, none⟩) 1 ck)) := Lib.hid (World.cell?_setCell_same' _ _ _ (by rw [c3]; rfl))
    have HF3 := Lib.hid (((HF2.out.trans G3 (fun _ _ h => h)).mono (T := fun k => k = sb) (fun _ _ h => h.elim)).trans (fr_store w3 sb 1 (.slice (some ⟨gk, 0, none⟩) 1 ck)) (fun _ _ h => h))
    clear own3 gr3 hat G3 HF2
    go_wp2_with fail
    (try simp only [Exit.noGoto])
    go_ret
    exact ⟨rfl, ⟨_, _, HN3.out⟩, HF3.out⟩
end Go.Proofs.Ytbiheajnmjbdoaa
