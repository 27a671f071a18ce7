import Derived.Test.YtbiheajnmjbdoaaQbj
namespace Go.Proofs.Ytbiheajnmjbdoaa
open Go.RowKit

/-! search: all is decided -/
set_option maxRecDepth 100000 in
set_option maxHeartbeats 4000000 in
theorem search_yes (sb d n : Nat) (c : Nat → Value) (w : World) (hn : n ≤ 24) (hs : w.cell? ⟨sb, 0, none⟩ = some (.pointer (some ⟨d, 0, none⟩))) (hM : Mem w d c) (h151 : c 151 = .bool false)
    (hall : ∀ i, 1 ≤ i → i ≤ n → c (24 + i) = .bool true ∨ (c (24 + i) = .bool false ∧ c (24 - i) = .bool true)) :
    Calls Try.prog 56 #[.pointer (some ⟨sb, 0, none⟩), .int .i64 (n : Int)] w fun e w' => e = .returned (.bool true) ∧ Fr nob w w' := by
  have c1 := (hM 151 (by decide)).1
  rw [h151] at c1
  have HM := Lib.hid hM
  have HS := Lib.hid hs
  have HALL := Lib.hid hall
  clear hM hall
  go_enter Try.func56, Try.ntmps56
  go_wp2_with fail
  go_step3
  go_wp2_with fail
  go_step3
  go_wp2_with fail
  clear c1 hs
  go_loopg [5] 0 (fun m iv wr => m = 0 ∧ iv = .bool true ∧ w = wr)
  case atStart => exact ⟨rfl, rfl, rfl⟩
  case round =>
    obtain ⟨rfl, rfl, rfl⟩ := hrel
    go_wp2_with fail
    go_loopg [8] n (fun m iv wr => m ≤ n ∧ iv = .int .i64 (m : Int) ∧ Fr nob w wr)
    case atStart => exact ⟨Nat.le_refl _, rfl, Fr.refl _ _⟩
    case round =>
      obtain ⟨hmn, rfl, hF⟩ := hrel
      have HF := Lib.hid hF
      clear hF
      rename_i wr _ _ _ _ _ _ _ _ _ _ _ _ _ _ _ _ _ _ _ _ _ _ _ _ _ _ _ _ _ _ _ _ _ _ _ _ _ _ _ _ _ _
      cases gk with
      | zero =>
        go_wp2_with fail
        (try simp only [Exit.noGoto])
        go_ret
        exact ⟨rfl, HF.out⟩
      | succ i =>
        obtain ⟨I, hI⟩ : ∃ I, i + 1 = I := ⟨_, rfl⟩
        rw [hI] at hmn
        obtain ⟨p, hp⟩ : ∃ p, 24 + I = p := ⟨_, rfl⟩
        obtain ⟨q, hq⟩ : ∃ q, 24 - I = q := ⟨_, rfl⟩
        have hpl : ∀ w, Calls Try.prog 57 #[.int .i64 (I : Int)] w fun e w' => e = .returned (.int .i64 (p : Int)) ∧ w' = w := fun w => (place_any (I : Int) (by omega) w).mono (fun _ _ h => ⟨by rw [h.1, show (I : Int) + 24 = (p : Int) by omega], h.2.symm⟩)
        have hpq : ∀ w, Calls Try.prog 57 #[.int .i64 (-(I : Int))] w fun e w' => e = .returned (.int .i64 (q : Int)) ∧ w' = w := fun w => (place_any (-(I : Int)) (by omega) w).mono (fun _ _ h => ⟨by rw [h.1, show -(I : Int) + 24 = (q : Int) by omega], h.2.symm⟩)
        have hM := HM.out.kept HF.out (fun h => h)
        have s0 : wr.cell? ⟨sb, 0, none⟩ = some (.pointer (some ⟨d, 0, none⟩)) := HF.out.cell HS.out (fun h => h)
        have q1 : (0 : Int) ≤ (p : Int) := by omega
        have q2 : (p : Int) < 49 := by omega
        have q3 : (0 : Int) ≤ (q : Int) := by omega
        have q4 : (q : Int) < 49 := by omega
        have q5 : (0 : Int) < (I : Int) := by omega
        have cp := (hM p (by omega)).1
        have cq := (hM q (by omega)).1
        have HF2 : ∀ nq, Fr nob w (wr.drewN nq) := fun nq => HF.out.drewN nq
        have HF2 := Lib.hid HF2
        have hw : IntKind.i64.wrap (-(I : Int)) = -(I : Int) := wrap_neg _ (by omega)
        have hcase := HALL.out I (by omega) hmn
        rw [hp, hq] at hcase
        have HI := Lib.hid hI
        rw [hI]
        clear hM hp hq hI
        rcases hcase with hc | ⟨hc, hc2⟩
        · rw [hc] at cp
          clear cq hc
          go_wp2_with fail
          go_quiet (first | (go_at_call 57; exact Calls.quiet_of_same (hpl _)))
          all_goals (
            clear cp s0
            have HF3 := Lib.hid (HF2.out nq)
            clear HF2 HF
            generalize wr.drewN nq = w2 at *
            go_wp2_with fail
            go_roundg i
            case measure => omega
            case rel => exact ⟨by have := HI.out; omega, by rw [← HI.out]; go_num, HF3.out⟩)
        · rw [hc] at cp
          rw [hc2] at cq
          clear hc hc2
          go_wp2_with fail
          go_quiet (first | (go_at_call 57; exact Calls.quiet_of_same (hpl _)) | (go_at_call 57; exact Calls.quiet_of_same (hpq _)))
          all_goals (
            clear cp cq s0
            have HF3 := Lib.hid (HF2.out nq)
            clear HF2 HF
            generalize wr.drewN nq = w2 at *
            go_wp2_with fail
            go_roundg i
            case measure => omega
            case rel => exact ⟨by have := HI.out; omega, by rw [← HI.out]; go_num, HF3.out⟩)
end Go.Proofs.Ytbiheajnmjbdoaa
