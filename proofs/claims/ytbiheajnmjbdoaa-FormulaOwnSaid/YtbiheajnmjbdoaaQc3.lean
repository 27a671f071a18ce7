import Derived.Test.YtbiheajnmjbdoaaQc2
import Derived.Test.YtbiheajnmjbdoaaQw
namespace Go.Proofs.Ytbiheajnmjbdoaa
open Go.RowKit

/-! the reference's names and nodes -/
theorem inWord_any (n : Nat) (w : World) : Calls Try.prog 60 #[.int .u8 (n : Int)] w fun e w' => e = .returned (.bool (wrdB n)) ∧ w = w' := by
  have key : ∀ b, wrdB n = b → Calls Try.prog 60 #[.int .u8 (n : Int)] w fun e w' => e = .returned (.bool b) ∧ w = w' := by
    intro b hb
    have HB := Lib.hid hb
    clear hb
    have hs : (n < 48) ∨ (48 ≤ n ∧ n ≤ 57) ∨ (57 < n ∧ n < 65) ∨ (65 ≤ n ∧ n ≤ 90) ∨ (n = 95) ∨ (90 < n ∧ n < 97 ∧ n ≠ 95) ∨ (97 ≤ n ∧ n ≤ 122) ∨ (122 < n) := by omega
    rcases hs with h | h | h | h | h | h | h | h
    · have q0 : ¬ (48 : Int) ≤ (n : Int) := by omega
      have q1 : (n : Int) ≤ 57 := by omega
      have q2 : ¬ (97 : Int) ≤ (n : Int) := by omega
      have q3 : (n : Int) ≤ 122 := by omega
      have q4 : ¬ (65 : Int) ≤ (n : Int) := by omega
      have q5 : (n : Int) ≤ 90 := by omega
      have q9 : ((n : Int) == 95) = false := by simp; omega
      obtain rfl : b = false := by rw [← HB.out]; simp [wrdB, letB, digB]; omega
      clear h
      go_enter Try.func60, Try.ntmps60
      go_wp2_with fail
      go_ret
      exact ⟨rfl, rfl⟩
    · have q0 : (48 : Int) ≤ (n : Int) := by omega
      have q1 : (n : Int) ≤ 57 := by omega
      have q2 : ¬ (97 : Int) ≤ (n : Int) := by omega
      have q3 : (n : Int) ≤ 122 := by omega
      have q4 : ¬ (65 : Int) ≤ (n : Int) := by omega
      have q5 : (n : Int) ≤ 90 := by omega
      have q9 : ((n : Int) == 95) = false := by simp; omega
      obtain rfl : b = true := by rw [← HB.out]; simp [wrdB, letB, digB]; omega
      clear h
      go_enter Try.func60, Try.ntmps60
      go_wp2_with fail
      go_ret
      exact ⟨rfl, rfl⟩
    · have q0 : (48 : Int) ≤ (n : Int) := by omega
      have q1 : ¬ (n : Int) ≤ 57 := by omega
      have q2 : ¬ (97 : Int) ≤ (n : Int) := by omega
      have q3 : (n : Int) ≤ 122 := by omega
      have q4 : ¬ (65 : Int) ≤ (n : Int) := by omega
      have q5 : (n : Int) ≤ 90 := by omega
      have q9 : ((n : Int) == 95) = false := by simp; omega
      obtain rfl : b = false := by rw [← HB.out]; simp [wrdB, letB, digB]; omega
      clear h
      go_enter Try.func60, Try.ntmps60
      go_wp2_with fail
      go_ret
      exact ⟨rfl, rfl⟩
    · have q0 : (48 : Int) ≤ (n : Int) := by omega
      have q1 : ¬ (n : Int) ≤ 57 := by omega
      have q2 : ¬ (97 : Int) ≤ (n : Int) := by omega
      have q3 : (n : Int) ≤ 122 := by omega
      have q4 : (65 : Int) ≤ (n : Int) := by omega
      have q5 : (n : Int) ≤ 90 := by omega
      have q9 : ((n : Int) == 95) = false := by simp; omega
      obtain rfl : b = true := by rw [← HB.out]; simp [wrdB, letB, digB]; omega
      clear h
      go_enter Try.func60, Try.ntmps60
      go_wp2_with fail
      go_ret
      exact ⟨rfl, rfl⟩
    · subst h
      obtain rfl : b = true := by rw [← HB.out]; rfl
      go_enter Try.func60, Try.ntmps60
      go_wp2_with fail
      go_ret
      exact ⟨rfl, rfl⟩
    · have q0 : (48 : Int) ≤ (n : Int) := by omega
      have q1 : ¬ (n : Int) ≤ 57 := by omega
      have q2 : ¬ (97 : Int) ≤ (n : Int) := by omega
      have q3 : (n : Int) ≤ 122 := by omega
      have q4 : (65 : Int) ≤ (n : Int) := by omega
      have q5 : ¬ (n : Int) ≤ 90 := by omega
      have q9 : ((n : Int) == 95) = false := by simp; omega
      obtain rfl : b = false := by rw [← HB.out]; simp [wrdB, letB, digB]; omega
      clear h
      go_enter Try.func60, Try.ntmps60
      go_wp2_with fail
      go_ret
      exact ⟨rfl, rfl⟩
    · have q0 : (48 : Int) ≤ (n : Int) := by omega
      have q1 : ¬ (n : Int) ≤ 57 := by omega
      have q2 : (97 : Int) ≤ (n : Int) := by omega
      have q3 : (n : Int) ≤ 122 := by omega
      have q4 : (65 : Int) ≤ (n : Int) := by omega
      have q5 : ¬ (n : Int) ≤ 90 := by omega
      have q9 : ((n : Int) == 95) = false := by simp; omega
      obtain rfl : b = true := by rw [← HB.out]; simp [wrdB, letB, digB]; omega
      clear h
      go_enter Try.func60, Try.ntmps60
      go_wp2_with fail
      go_ret
      exact ⟨rfl, rfl⟩
    · have q0 : (48 : Int) ≤ (n : Int) := by omega
      have q1 : ¬ (n : Int) ≤ 57 := by omega
      have q2 : (97 : Int) ≤ (n : Int) := by omega
      have q3 : ¬ (n : Int) ≤ 122 := by omega
      have q4 : (65 : Int) ≤ (n : Int) := by omega
      have q5 : ¬ (n : Int) ≤ 90 := by omega
      have q9 : ((n : Int) == 95) = false := by simp; omega
      obtain rfl : b = false := by rw [← HB.out]; simp [wrdB, letB, digB]; omega
      clear h
      go_enter Try.func60, Try.ntmps60
      go_wp2_with fail
      go_ret
      exact ⟨rfl, rfl⟩
  exact key _ rfl
set_option maxHeartbeats 1000000 in
theorem refName_any (s : ByteArray) (hs : s.size ≤ 9223372036854775807) (w : World) : Calls Try.prog 53 #[.string s] w fun e w' => e = .returned (.bool (nameB s.data.toList)) ∧ w = w' := by
  have key : ∀ b, nameB s.data.toList = b → Calls Try.prog 53 #[.string s] w fun e w' => e = .returned (.bool b) ∧ w = w' := by
    intro b hb
    have hle := wlen_le s.data.toList
    have hsz : s.data.toList.length = s.size := by simp
    rw [hsz] at hle
    obtain ⟨n, hn⟩ : ∃ n, wlen s.data.toList = n := ⟨_, rfl⟩
    have hin : ∀ k (hk : k < s.size), k < n → wrdB s[k].toNat = true := fun k hk h => wlen_in (l := s.data.toList) (by omega) (by simpa using hk)
    have hout : ∀ (hk : n < s.size), wrdB s[n].toNat = false := fun hk => by
      subst hn
      exact wlen_out (l := s.data.toList) (by simpa using hk)
    have HIN := Lib.hid hin
    have HOUT := Lib.hid hout
    rw [hn] at hle
    have HB := Lib.hid hb
    have HN := Lib.hid hn
    have HSZ := Lib.hid hsz
    clear hb hsz hn hin hout
    by_cases h0 : s.size = 0
    · obtain rfl : s = ⟨#[]⟩ := by
        cases s with
        | mk d => simp at h0; exact h0
      obtain rfl : b = false := by rw [← HB.out]; rfl
      go_enter Try.func53, Try.ntmps53
      go_wp2_with fail
      go_ret
      exact ⟨rfl, rfl⟩
    have q0 : ¬ (s.size : Int) < 1 := by omega
    by_cases h1 : 32 < s.size
    · have q1 : (32 : Int) < (s.size : Int) := by omega
      obtain rfl : b = false := by rw [← HB.out]; unfold nameB; rw [HSZ.out]; simp; intro _ h; omega
      go_enter Try.func53, Try.ntmps53
      go_wp2_with fail
      go_ret
      exact ⟨rfl, rfl⟩
    have q1 : ¬ (32 : Int) < (s.size : Int) := by omega
    obtain ⟨he1, he2⟩ := sne h0
    have hem : s.data.toList.isEmpty = false := by rw [← ByteArray.toList_eq]; exact he1
    have h0'' : 0 < s.size := by omega
    have hhd : s.data.toList.headD 0 = s[0] := by
      cases hl : s.data.toList with
      | nil => rw [hl] at hem; cases hem
      | cons c l =>
        have : s.data.toList[0]? = some c := by rw [hl]; rfl
        have e2 : s.data.toList[0]? = some s[0] := by
          rw [List.getElem?_eq_getElem (by rw [HSZ.out]; omega)]; rfl
        rw [e2] at this
        simpa using this.symm
    have hval : nameB s.data.toList = (n == s.size && !digB s[0].toNat) := by
      unfold nameB; rw [hhd, hem, HSZ.out, HN.out, decide_eq_true (show s.size ≤ 32 by omega)]; simp
    rw [hval] at HB
    have q9 : (0 : Int) < (s.size : Int) := by omega
    clear hem hhd hval he1 he2 h0 h1 HSZ HN
    cases hd : digB s[0].toNat with
    | true =>
      obtain rfl : b = false := by rw [← HB.out, hd]; simp
      unfold digB at hd
      rw [Bool.and_eq_true, decide_eq_true_iff, decide_eq_true_iff] at hd
      have q2 : (48 : Int) ≤ (s[0].toNat : Int) := by omega
      have q3 : (s[0].toNat : Int) ≤ 57 := by omega
      clear hd
      go_enter Try.func53, Try.ntmps53
      go_wp2_with fail
      go_ret
      exact ⟨rfl, rfl⟩
    | false =>
      rw [hd] at HB
      have HBV : Hid ((n == s.size) = b) := Lib.hid (by rw [← HB.out]; simp)
      have hc : (¬ (48 : Int) ≤ (s[0].toNat : Int)) ∨ ((48 : Int) ≤ (s[0].toNat : Int) ∧ ¬ (s[0].toNat : Int) ≤ 57) := by
        unfold digB at hd
        rw [Bool.and_eq_false_iff, decide_eq_false_iff_not, decide_eq_false_iff_not] at hd
        omega
      clear hd HB
      rcases hc with q2 | ⟨q2, q3⟩
      all_goals (
        go_enter Try.func53, Try.ntmps53
        go_wp2_with fail
        clear q2
        go_loop [3] (fun v => ∃ k : Nat, k ≤ n ∧ v = .int .i64 (k : Int)) (fun v => n - (intOf v).toNat)
        case atStart => exact ⟨0, Nat.zero_le _, rfl⟩
        case round =>
          obtain ⟨k, hk, rfl⟩ := hrel
          by_cases hks : k < s.size
          · have hks' : (k : Int) < (s.size : Int) := by omega
            have hI := inWord_any s[k].toNat
            by_cases hlt : k < n
            · rw [HIN.out k hks hlt] at hI
              go_wp2_with (go_at_call 60; refine (hI _).mono ?_; rintro e w' ⟨rfl, rfl⟩)
              go_round
              case rel => exact ⟨k + 1, by omega, by go_num⟩
              case measure => simp [intOf]; omega
            · obtain rfl : k = n := by omega
              rw [HOUT.out hks] at hI
              obtain rfl : b = false := by rw [← HBV.out]; simp; omega
              go_wp2_with (go_at_call 60; refine (hI _).mono ?_; rintro e w' ⟨rfl, rfl⟩)
              go_ret
              exact ⟨rfl, rfl⟩
          · have hks' : ¬ (k : Int) < (s.size : Int) := by omega
            obtain rfl : b = true := by rw [← HBV.out]; simp; omega
            go_wp2_with fail
            go_ret
            exact ⟨rfl, rfl⟩)
  exact key _ rfl
end Go.Proofs.Ytbiheajnmjbdoaa
