import Derived.Test.YtaojojjdfdlgpaaQbg
import Derived.WalkMore
namespace Go.Proofs.Ytaojojjdfdlgpaa
open Go.RowKit

/-! blame, search -/
set_option maxRecDepth 100000 in
set_option maxHeartbeats 1000000 in
theorem blame_none (sb d n g' cap : Nat) (c : Nat → Value) (w : World) (hn : n ≤ 1000) (hs : w.cell? ⟨sb, 0, none⟩ = some (.pointer (some ⟨d, 0, none⟩))) (hM : Mem w d c) (h150 : c 150 = .slice none 0 0) (h147 : c 147 = .slice (some ⟨g', 0, none⟩) n cap) (h149 : c 149 = .int .i64 (n : Int)) :
    Calls Try.prog 107 #[.pointer (some ⟨sb, 0, none⟩)] w fun e w' => e = .returned (.tuple #[.slice none 0 0, .int .i64 0]) ∧ Fr nob w w' := by
  have HS := Lib.hid hs
  have HM := Lib.hid hM
  clear hs hM
  go_enter Try.func107, Try.ntmps107
  go_upto_region 2 with fail
  generalize hg : w.alloc _ = W
  have A : Fr nob w W := by rw [← hg]; exact (Fr.refl nob w).alloc _
  have s1 := A.cell HS.out (fun h => h)
  have M1 := HM.out.kept A (fun h => h)
  have c0 := (M1 150 (by decide)).1
  have c7 := (M1 147 (by decide)).1
  have c9 := (M1 149 (by decide)).1
  rw [h150] at c0
  rw [h147] at c7
  rw [h149] at c9
  have HA := Lib.hid A
  clear A M1 hg
  go_wp2_with fail
  go_loopg [20] 0 (fun m iv wr => m = 0 ∧ iv = .int .i64 0 ∧ W = wr)
  case atStart => exact ⟨rfl, rfl, rfl⟩
  case round =>
    obtain ⟨rfl, rfl, rfl⟩ := hrel
    go_wp2_with fail
    go_loopg [2, 3, 7] 0 (fun m cv lv kv wr => m = 0 ∧ cv = .slice none 0 0 ∧ lv = .int .i64 0 ∧ kv = .int .i64 ((n : Int) - 1) ∧ W = wr)
    case atStart => exact ⟨rfl, rfl, rfl, rfl, rfl⟩
    case round =>
      obtain ⟨rfl, rfl, rfl, rfl, rfl⟩ := hrel
      have q0 : ¬ (n : Int) ≤ (n : Int) - 1 := by omega
      go_wp2_with fail
      go_ret2
      exact ⟨rfl, HA.out⟩
set_option maxRecDepth 100000 in
set_option maxHeartbeats 2000000 in
theorem search_no (sb d n g' cap : Nat) (c : Nat → Value) (N : Int) (w : World) (hn : n ≤ 1000) (hs : w.cell? ⟨sb, 0, none⟩ = some (.pointer (some ⟨d, 0, none⟩))) (hs1 : w.cell? ⟨sb, 1, none⟩ = some (.slice none 0 0)) (hsf : w.frozen? ⟨sb, 1, none⟩ = false) (hM : Mem w d c) (h151 : c 151 = .bool true) (h150 : c 150 = .slice none 0 0) (h147 : c 147 = .slice (some ⟨g', 0, none⟩) n cap) (h149 : c 149 = .int .i64 (n : Int)) :
    Calls Try.prog 74 #[.pointer (some ⟨sb, 0, none⟩), .int .i64 N] w fun e w' => e = .returned (.bool false) ∧ (∃ a cp, w'.cell? ⟨sb, 1, none⟩ = some (.slice a 1 cp)) ∧ Fr (fun k => k = sb) w w' := by
  have hbl := blame_none sb d n g' cap c w hn hs hM h150 h147 h149
  have c1 := (hM 151 (by decide)).1
  rw [h151] at c1
  have HS1 := Lib.hid hs1
  have HSF := Lib.hid hsf
  have HLT := Lib.hid (lt_of_cell hs1)
  clear hM h150 h147 h149 hs1 hsf
  go_enter Try.func74, Try.ntmps74
  go_wp2_with fail
  go_step3
  go_wp2_with fail
  go_step3
  go_wp2_with fail
  go_loopg [5] 0 (fun m iv wr => m = 0 ∧ iv = .bool false ∧ w = wr)
  case atStart => exact ⟨rfl, rfl, rfl⟩
  case round =>
    obtain ⟨rfl, rfl, rfl⟩ := hrel
    go_wp2_with fail
    refine hbl.mono ?_
    rintro e w2 ⟨rfl, F2⟩
    have hs2 := F2.cell HS1.out (fun h => h)
    have HF2 := Lib.hid F2
    have HZ2 := Lib.hid ((F2.frozen (p := ⟨sb, 1, none⟩) HLT.out (fun h => h)).trans HSF.out)
    obtain ⟨i0, hi0, hz0, hz1, hz2⟩ := info_parts info_ints
    clear F2 hbl
    go_wp2_with (at_builtin; refine wpList_append_own_at _ rfl _ _ 36 rfl w2.heap.size 37 i0 (.slice none 0 0) 1 24 Try.underlying36 hi0 hz0 hz1 hz2 rfl (by decide) (.slice none 0 0) 0 [] rfl (World.ownsRow_nil _ _ _ _) ⟨w2.heap.size, 0, none⟩ 1 1 [.slice none 0 0] rfl ?c1 ?c2 ?c3 ?c4 ?c5 ?c6 ?_)
    case c1 => rfl
    case c2 => exact cell_one_new _ _ _
    case c3 => intro u hu; simp at hu; subst hu; rfl
    case c4 => unfold maxLen; decide
    case c5 => decide
    case c6 => simp
    intro v3 w3 own3 gr3 _ hat
    obtain ⟨gk, ck, rfl⟩ : ∃ gk ck, v3 = .slice (some ⟨gk, 0, none⟩) 1 ck := by
      rcases own3.2 with ⟨rfl, h0⟩ | ⟨g', cap', cur, rfl, h1, h2, _⟩
      · simp at h0
      · exact ⟨g', cap', rfl⟩
    have G3 : Fr nob w2 w3 := ((Fr.refl nob w2).alloc (.cells #[.slice none 0 0] 37)).grown gr3 (fun k hk _ => by cases hk)
    have c3 := G3.cell hs2 (fun h => h)
    have f3 := (G3.frozen (p := ⟨sb, 1, none⟩) (lt_of_cell hs2) (fun h => h)).trans HZ2.out
    have HN3 : Hid ((w3.setCell ⟨sb, 1, none⟩ (.slice (some ⟨gk, 0, none⟩) 1 ck)).cell? ⟨sb, 1, none⟩ = some (.slice (some ⟨gk, 0, none⟩) 1 ck)) := Lib.hid (World.cell?_setCell_same' _ _ _ (by rw [c3]; rfl))
    have HF3 := Lib.hid (((HF2.out.trans G3 (fun _ _ h => h)).mono (T := fun k => k = sb) (fun _ _ h => h.elim)).trans (fr_store w3 sb 1 (.slice (some ⟨gk, 0, none⟩) 1 ck)) (fun _ _ h => h))
    clear own3 gr3 hat G3 HF2
    go_wp2_with fail
    (try simp only [Exit.noGoto])
    go_ret
    exact ⟨rfl, ⟨_, _, HN3.out⟩, HF3.out⟩
end Go.Proofs.Ytaojojjdfdlgpaa
namespace Go.Proofs.Ytaojojjdfdlgpaa
open Go.RowKit

/-! search: all is decided -/
set_option maxRecDepth 100000 in
set_option maxHeartbeats 4000000 in
theorem search_yes (sb d n : Nat) (c : Nat → Value) (w : World) (hn : n ≤ 24) (hs : w.cell? ⟨sb, 0, none⟩ = some (.pointer (some ⟨d, 0, none⟩))) (hM : Mem w d c) (h151 : c 151 = .bool false)
    (hall : ∀ i, 1 ≤ i → i ≤ n → c (24 + i) = .bool true ∨ (c (24 + i) = .bool false ∧ c (24 - i) = .bool true)) :
    Calls Try.prog 74 #[.pointer (some ⟨sb, 0, none⟩), .int .i64 (n : Int)] w fun e w' => e = .returned (.bool true) ∧ Fr nob w w' := by
  have c1 := (hM 151 (by decide)).1
  rw [h151] at c1
  have HM := Lib.hid hM
  have HS := Lib.hid hs
  have HALL := Lib.hid hall
  clear hM hall
  go_enter Try.func74, Try.ntmps74
  go_wp2_with fail
  go_step3
  go_wp2_with fail
  go_step3
  go_wp2_with fail
  clear c1 hs
  go_loopg [5] 0 (fun m iv wr => m = 0 ∧ iv = .bool true ∧ w = wr)
  case atStart => exact ⟨rfl, rfl, rfl⟩
  case round =>
    obtain ⟨rfl, rfl, rfl⟩ := hrel
    go_wp2_with fail
    go_loopg [8] n (fun m iv wr => m ≤ n ∧ iv = .int .i64 (m : Int) ∧ Fr nob w wr)
    case atStart => exact ⟨Nat.le_refl _, rfl, Fr.refl _ _⟩
    case round =>
      obtain ⟨hmn, rfl, hF⟩ := hrel
      have HF := Lib.hid hF
      clear hF
      rename_i wr _ _ _ _ _ _ _ _ _ _ _ _ _ _ _ _ _ _ _ _ _ _ _ _ _ _ _ _ _ _ _ _ _ _ _ _ _ _ _ _ _ _
      cases gk with
      | zero =>
        go_wp2_with fail
        (try simp only [Exit.noGoto])
        go_ret
        exact ⟨rfl, HF.out⟩
      | succ i =>
        obtain ⟨I, hI⟩ : ∃ I, i + 1 = I := ⟨_, rfl⟩
        rw [hI] at hmn
        obtain ⟨p, hp⟩ : ∃ p, 24 + I = p := ⟨_, rfl⟩
        obtain ⟨q, hq⟩ : ∃ q, 24 - I = q := ⟨_, rfl⟩
        have hpl : ∀ w, Calls Try.prog 57 #[.int .i64 (I : Int)] w fun e w' => e = .returned (.int .i64 (p : Int)) ∧ w' = w := fun w => (place_any (I : Int) (by omega) w).mono (fun _ _ h => ⟨by rw [h.1, show (I : Int) + 24 = (p : Int) by omega], h.2.symm⟩)
        have hpq : ∀ w, Calls Try.prog 57 #[.int .i64 (-(I : Int))] w fun e w' => e = .returned (.int .i64 (q : Int)) ∧ w' = w := fun w => (place_any (-(I : Int)) (by omega) w).mono (fun _ _ h => ⟨by rw [h.1, show -(I : Int) + 24 = (q : Int) by omega], h.2.symm⟩)
        have hM := HM.out.kept HF.out (fun h => h)
        have s0 : wr.cell? ⟨sb, 0, none⟩ = some (.pointer (some ⟨d, 0, none⟩)) := HF.out.cell HS.out (fun h => h)
        have q1 : (0 : Int) ≤ (p : Int) := by omega
        have q2 : (p : Int) < 49 := by omega
        have q3 : (0 : Int) ≤ (q : Int) := by omega
        have q4 : (q : Int) < 49 := by omega
        have q5 : (0 : Int) < (I : Int) := by omega
        have cp := (hM p (by omega)).1
        have cq := (hM q (by omega)).1
        have HF2 : ∀ nq, Fr nob w (wr.drewN nq) := fun nq => HF.out.drewN nq
        have HF2 := Lib.hid HF2
        have hw : IntKind.i64.wrap (-(I : Int)) = -(I : Int) := wrap_neg _ (by omega)
        have hcase := HALL.out I (by omega) hmn
        rw [hp, hq] at hcase
        have HI := Lib.hid hI
        rw [hI]
        clear hM hp hq hI
        rcases hcase with hc | ⟨hc, hc2⟩
        · rw [hc] at cp
          clear cq hc
          go_wp2_with fail
          go_quiet (first | (go_at_call 57; exact Calls.quiet_of_same (hpl _)))
          all_goals (
            clear cp s0
            have HF3 := Lib.hid (HF2.out nq)
            clear HF2 HF
            generalize wr.drewN nq = w2 at *
            go_wp2_with fail
            go_roundg i
            case measure => omega
            case rel => exact ⟨by have := HI.out; omega, by rw [← HI.out]; go_num, HF3.out⟩)
        · rw [hc] at cp
          rw [hc2] at cq
          clear hc hc2
          go_wp2_with fail
          go_quiet (first | (go_at_call 57; exact Calls.quiet_of_same (hpl _)) | (go_at_call 57; exact Calls.quiet_of_same (hpq _)))
          all_goals (
            clear cp cq s0
            have HF3 := Lib.hid (HF2.out nq)
            clear HF2 HF
            generalize wr.drewN nq = w2 at *
            go_wp2_with fail
            go_roundg i
            case measure => omega
            case rel => exact ⟨by have := HI.out; omega, by rw [← HI.out]; go_num, HF3.out⟩)
end Go.Proofs.Ytaojojjdfdlgpaa
