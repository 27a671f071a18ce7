import Derived.Test.YtbjdaibkcchllaaQc2
import Derived.Test.YtbjdaibkcchllaaQw
namespace Go.Proofs.Ytbjdaibkcchllaa
open Go.RowKit

/-! the reference's names and nodes -/
theorem inWord_any (n : Nat) (w : World) : Calls Try.prog 81 #[.int .u8 (n : Int)] w fun e w' => e = .returned (.bool (wrdB n)) ∧ w = w' := by
  have key : ∀ b, wrdB n = b → Calls Try.prog 81 #[.int .u8 (n : Int)] w fun e w' => e = .returned (.bool b) ∧ w = w' := by
    intro b hb
    have HB := Lib.hid hb
    clear hb
    have hs : (n < 48) ∨ (48 ≤ n ∧ n ≤ 57) ∨ (57 < n ∧ n < 65) ∨ (65 ≤ n ∧ n ≤ 90) ∨ (n = 95) ∨ (90 < n ∧ n < 97 ∧ n ≠ 95) ∨ (97 ≤ n ∧ n ≤ 122) ∨ (122 < n) := by omega
    rcases hs with h | h | h | h | h | h | h | h
    · have q0 : ¬ (48 : Int) ≤ (n : Int) := by omega
      have q1 : (n : Int) ≤ 57 := by omega
      have q2 : ¬ (97 : Int) ≤ (n : Int) := by omega
      have q3 : (n : Int) ≤ 122 := by omega
      have q4 : ¬ (65 : Int) ≤ (n : Int) := by omega
      have q5 : (n : Int) ≤ 90 := by omega
      have q9 : ((n : Int) == 95) = false := by simp; omega
      obtain rfl : b = false := by rw [← HB.out]; simp [wrdB, letB, digB]; omega
      clear h
      go_enter Try.func81, Try.ntmps81
      go_wp2_with fail
      go_ret
      exact ⟨rfl, rfl⟩
    · have q0 : (48 : Int) ≤ (n : Int) := by omega
      have q1 : (n : Int) ≤ 57 := by omega
      have q2 : ¬ (97 : Int) ≤ (n : Int) := by omega
      have q3 : (n : Int) ≤ 122 := by omega
      have q4 : ¬ (65 : Int) ≤ (n : Int) := by omega
      have q5 : (n : Int) ≤ 90 := by omega
      have q9 : ((n : Int) == 95) = false := by simp; omega
      obtain rfl : b = true := by rw [← HB.out]; simp [wrdB, letB, digB]; omega
      clear h
      go_enter Try.func81, Try.ntmps81
      go_wp2_with fail
      go_ret
      exact ⟨rfl, rfl⟩
    · have q0 : (48 : Int) ≤ (n : Int) := by omega
      have q1 : ¬ (n : Int) ≤ 57 := by omega
      have q2 : ¬ (97 : Int) ≤ (n : Int) := by omega
      have q3 : (n : Int) ≤ 122 := by omega
      have q4 : ¬ (65 : Int) ≤ (n : Int) := by omega
      have q5 : (n : Int) ≤ 90 := by omega
      have q9 : ((n : Int) == 95) = false := by simp; omega
      obtain rfl : b = false := by rw [← HB.out]; simp [wrdB, letB, digB]; omega
      clear h
      go_enter Try.func81, Try.ntmps81
      go_wp2_with fail
      go_ret
      exact ⟨rfl, rfl⟩
    · have q0 : (48 : Int) ≤ (n : Int) := by omega
      have q1 : ¬ (n : Int) ≤ 57 := by omega
      have q2 : ¬ (97 : Int) ≤ (n : Int) := by omega
      have q3 : (n : Int) ≤ 122 := by omega
      have q4 : (65 : Int) ≤ (n : Int) := by omega
      have q5 : (n : Int) ≤ 90 := by omega
      have q9 : ((n : Int) == 95) = false := by simp; omega
      obtain rfl : b = true := by rw [← HB.out]; simp [wrdB, letB, digB]; omega
      clear h
      go_enter Try.func81, Try.ntmps81
      go_wp2_with fail
      go_ret
      exact ⟨rfl, rfl⟩
    · subst h
      obtain rfl : b = true := by rw [← HB.out]; rfl
      go_enter Try.func81, Try.ntmps81
      go_wp2_with fail
      go_ret
      exact ⟨rfl, rfl⟩
    · have q0 : (48 : Int) ≤ (n : Int) := by omega
      have q1 : ¬ (n : Int) ≤ 57 := by omega
      have q2 : ¬ (97 : Int) ≤ (n : Int) := by omega
      have q3 : (n : Int) ≤ 122 := by omega
      have q4 : (65 : Int) ≤ (n : Int) := by omega
      have q5 : ¬ (n : Int) ≤ 90 := by omega
      have q9 : ((n : Int) == 95) = false := by simp; omega
      obtain rfl : b = false := by rw [← HB.out]; simp [wrdB, letB, digB]; omega
      clear h
      go_enter Try.func81, Try.ntmps81
      go_wp2_with fail
      go_ret
      exact ⟨rfl, rfl⟩
    · have q0 : (48 : Int) ≤ (n : Int) := by omega
      have q1 : ¬ (n : Int) ≤ 57 := by omega
      have q2 : (97 : Int) ≤ (n : Int) := by omega
      have q3 : (n : Int) ≤ 122 := by omega
      have q4 : (65 : Int) ≤ (n : Int) := by omega
      have q5 : ¬ (n : Int) ≤ 90 := by omega
      have q9 : ((n : Int) == 95) = false := by simp; omega
      obtain rfl : b = true := by rw [← HB.out]; simp [wrdB, letB, digB]; omega
      clear h
      go_enter Try.func81, Try.ntmps81
      go_wp2_with fail
      go_ret
      exact ⟨rfl, rfl⟩
    · have q0 : (48 : Int) ≤ (n : Int) := by omega
      have q1 : ¬ (n : Int) ≤ 57 := by omega
      have q2 : (97 : Int) ≤ (n : Int) := by omega
      have q3 : ¬ (n : Int) ≤ 122 := by omega
      have q4 : (65 : Int) ≤ (n : Int) := by omega
      have q5 : ¬ (n : Int) ≤ 90 := by omega
      have q9 : ((n : Int) == 95) = false := by simp; omega
      obtain rfl : b = false := by rw [← HB.out]; simp [wrdB, letB, digB]; omega
      clear h
      go_enter Try.func81, Try.ntmps81
      go_wp2_with fail
      go_ret
      exact ⟨rfl, rfl⟩
  exact key _ rfl
set_option maxHeartbeats 1000000 in
theorem refName_any (s : ByteArray) (hs : s.size ≤ 9223372036854775807) (w : World) : Calls Try.prog 63 #[.string s] w fun e w' => e = .returned (.bool (nameB s.data.toList)) ∧ w = w' := by
  have key : ∀ b, nameB s.data.toList = b → Calls Try.prog 63 #[.string s] w fun e w' => e = .returned (.bool b) ∧ w = w' := by
    intro b hb
    have hle := wlen_le s.data.toList
    have hsz : s.data.toList.length = s.size := by simp
    rw [hsz] at hle
    obtain ⟨n, hn⟩ : ∃ n, wlen s.data.toList = n := ⟨_, rfl⟩
    have hin : ∀ k (hk : k < s.size), k < n → wrdB s[k].toNat = true := fun k hk h => wlen_in (l := s.data.toList) (by omega) (by simpa using hk)
    have hout : ∀ (hk : n < s.size), wrdB s[n].toNat = false := fun hk => by
      subst hn
      exact wlen_out (l := s.data.toList) (by simpa using hk)
    have HIN := Lib.hid hin
    have HOUT := Lib.hid hout
    rw [hn] at hle
    have HB := Lib.hid hb
    have HN := Lib.hid hn
    have HSZ := Lib.hid hsz
    clear hb hsz hn hin hout
    by_cases h0 : s.size = 0
    · obtain rfl : s = ⟨#[]⟩ := by
        cases s with
        | mk d => simp at h0; exact h0
      obtain rfl : b = false := by rw [← HB.out]; rfl
      go_enter Try.func63, Try.ntmps63
      go_wp2_with fail
      go_ret
      exact ⟨rfl, rfl⟩
    have q0 : ¬ (s.size : Int) < 1 := by omega
    by_cases h1 : 32 < s.size
    · have q1 : (32 : Int) < (s.size : Int) := by omega
      obtain rfl : b = false := by rw [← HB.out]; unfold nameB; rw [HSZ.out]; simp; intro _ h; omega
      go_enter Try.func63, Try.ntmps63
      go_wp2_with fail
      go_ret
      exact ⟨rfl, rfl⟩
    have q1 : ¬ (32 : Int) < (s.size : Int) := by omega
    obtain ⟨he1, he2⟩ := sne h0
    have hem : s.data.toList.isEmpty = false := by rw [← ByteArray.toList_eq]; exact he1
    have h0'' : 0 < s.size := by omega
    have hhd : s.data.toList.headD 0 = s[0] := by
      cases hl : s.data.toList with
      | nil => rw [hl] at hem; cases hem
      | cons c l =>
        have : s.data.toList[0]? = some c := by rw [hl]; rfl
        have e2 : s.data.toList[0]? = some s[0] := by
          rw [List.getElem?_eq_getElem (by rw [HSZ.out]; omega)]; rfl
        rw [e2] at this
        simpa using this.symm
    have hval : nameB s.data.toList = (n == s.size && !digB s[0].toNat) := by
      unfold nameB; rw [hhd, hem, HSZ.out, HN.out, decide_eq_true (show s.size ≤ 32 by omega)]; simp
    rw [hval] at HB
    have q9 : (0 : Int) < (s.size : Int) := by omega
    clear hem hhd hval he1 he2 h0 h1 HSZ HN
    cases hd : digB s[0].toNat with
    | true =>
      obtain rfl : b = false := by rw [← HB.out, hd]; simp
      unfold digB at hd
      rw [Bool.and_eq_true, decide_eq_true_iff, decide_eq_true_iff] at hd
      have q2 : (48 : Int) ≤ (s[0].toNat : Int) := by omega
      have q3 : (s[0].toNat : Int) ≤ 57 := by omega
      clear hd
      go_enter Try.func63, Try.ntmps63
      go_wp2_with fail
      go_ret
      exact ⟨rfl, rfl⟩
    | false =>
      rw [hd] at HB
      have HBV : Hid ((n == s.size) = b) := Lib.hid (by rw [← HB.out]; simp)
      have hc : (¬ (48 : Int) ≤ (s[0].toNat : Int)) ∨ ((48 : Int) ≤ (s[0].toNat : Int) ∧ ¬ (s[0].toNat : Int) ≤ 57) := by
        unfold digB at hd
        rw [Bool.and_eq_false_iff, decide_eq_false_iff_not, decide_eq_false_iff_not] at hd
        omega
      clear hd HB
      rcases hc with q2 | ⟨q2, q3⟩
      all_goals (
        go_enter Try.func63, Try.ntmps63
        go_wp2_with fail
        clear q2
        go_loop [3] (fun v => ∃ k : Nat, k ≤ n ∧ v = .int .i64 (k : Int)) (fun v => n - (intOf v).toNat)
        case atStart => exact ⟨0, Nat.zero_le _, rfl⟩
        case round =>
          obtain ⟨k, hk, rfl⟩ := hrel
          by_cases hks : k < s.size
          · have hks' : (k : Int) < (s.size : Int) := by omega
            have hI := inWord_any s[k].toNat
            by_cases hlt : k < n
            · rw [HIN.out k hks hlt] at hI
              go_wp2_with (go_at_call 81; refine (hI _).mono ?_; rintro e w' ⟨rfl, rfl⟩)
              go_round
              case rel => exact ⟨k + 1, by omega, by go_num⟩
              case measure => simp [intOf]; omega
            · obtain rfl : k = n := by omega
              rw [HOUT.out hks] at hI
              obtain rfl : b = false := by rw [← HBV.out]; simp; omega
              go_wp2_with (go_at_call 81; refine (hI _).mono ?_; rintro e w' ⟨rfl, rfl⟩)
              go_ret
              exact ⟨rfl, rfl⟩
          · have hks' : ¬ (k : Int) < (s.size : Int) := by omega
            obtain rfl : b = true := by rw [← HBV.out]; simp; omega
            go_wp2_with fail
            go_ret
            exact ⟨rfl, rfl⟩)
  exact key _ rfl
end Go.Proofs.Ytbjdaibkcchllaa
namespace Go.Proofs.Ytbjdaibkcchllaa
open Go.RowKit

/-! one: is a node as the table says? -/
def oneB (op : Nat) (nm : List UInt8) (n : Nat) : Bool :=
  if op = 3 then nameB nm && n == 0 else nm == [] && (if op = 1 ∨ op = 2 then n == 0 else if op = 4 then n == 1 else if op = 5 ∨ op = 6 ∨ op = 7 then decide (2 ≤ n) else if op = 8 ∨ op = 9 then n == 2 else if op = 10 then n == 3 else false)
set_option maxHeartbeats 2000000 in
theorem one_any (op : Nat) (nm : List UInt8) (a : Option Addr) (n c : Nat) (hn : nm.length ≤ 9223372036854775807) (w : World) : Calls Try.prog 53 #[.agg #[.int .u8 (op : Int), .string (txt nm), .slice a n c]] w fun e w' => e = .returned (.bool (oneB op nm n)) ∧ Fr nob w w' := by
  have N0 := Box3.new w (.int .u8 (op : Int)) (.string (txt nm)) (.slice a n c) 25
  have F0 : Fr nob w (w.alloc (.cells #[.int .u8 (op : Int), .string (txt nm), .slice a n c] 25)) := (Fr.refl nob w).alloc _
  obtain ⟨b, hb⟩ : ∃ b, oneB op nm n = b := ⟨_, rfl⟩
  rw [hb]
  have HB := Lib.hid hb
  have HF0 := Lib.hid F0
  have hN := fun w => refName_any (txt nm) (by simp; omega) w
  simp only [txt_data] at hN
  have ⟨g0, g1, g2, _⟩ := N0
  clear hb F0 N0
  by_cases h3 : op = 3
  · subst h3
    have hv : oneB 3 nm n = (nameB nm && n == 0) := by unfold oneB; rw [if_pos rfl]
    rw [hv] at HB
    clear hv
    by_cases h0 : n = 0
    · subst h0
      obtain rfl : b = nameB nm := by rw [← HB.out]; simp
      generalize nameB nm = b at *
      go_enter Try.func53, Try.ntmps53
      go_wp2_with (go_at_call 63; refine (hN _).mono ?_; rintro e w' ⟨rfl, rfl⟩)
      go_ret
      exact ⟨rfl, HF0.out⟩
    · obtain rfl : b = false := by rw [← HB.out]; simp [h0]
      have q0 : ((n : Int) == 0) = false := by simp; omega
      clear h0
      go_enter Try.func53, Try.ntmps53
      go_wp2_with (go_at_call 63; refine (hN _).mono ?_; rintro e w' ⟨rfl, rfl⟩)
      go_ret
      exact ⟨rfl, HF0.out⟩
  have q3 : ((op : Int) == 3) = false := by simp; omega
  clear hN
  by_cases he : nm = []
  · subst he
    have e1 : (txt []).toList.isEmpty = true := by rw [ByteArray.toList_eq]; rfl
    have e2 : (txt []).toList = [] := by rw [ByteArray.toList_eq]; rfl
    by_cases h1 : op = 1
    · subst h1
      have hv : oneB 1 [] n = (n == 0) := by unfold oneB; simp
      rw [hv] at HB
      have q : ((n : Int) == 0) = b := by rw [← HB.out]; exact (by rw [Bool.eq_iff_iff, beq_iff_eq, beq_iff_eq]; omega)
      clear hv
      go_enter Try.func53, Try.ntmps53
      go_wp2_with fail
      go_ret
      exact ⟨rfl, HF0.out⟩
    have p1 : ((op : Int) == 1) = false := by simp; omega
    by_cases h2 : op = 2
    · subst h2
      have hv : oneB 2 [] n = (n == 0) := by unfold oneB; simp
      rw [hv] at HB
      have q : ((n : Int) == 0) = b := by rw [← HB.out]; exact (by rw [Bool.eq_iff_iff, beq_iff_eq, beq_iff_eq]; omega)
      clear hv
      go_enter Try.func53, Try.ntmps53
      go_wp2_with fail
      go_ret
      exact ⟨rfl, HF0.out⟩
    have p2 : ((op : Int) == 2) = false := by simp; omega
    by_cases h4 : op = 4
    · subst h4
      have hv : oneB 4 [] n = (n == 1) := by unfold oneB; simp
      rw [hv] at HB
      have q : ((n : Int) == 1) = b := by rw [← HB.out]; exact (by rw [Bool.eq_iff_iff, beq_iff_eq, beq_iff_eq]; omega)
      clear hv
      go_enter Try.func53, Try.ntmps53
      go_wp2_with fail
      go_ret
      exact ⟨rfl, HF0.out⟩
    have p4 : ((op : Int) == 4) = false := by simp; omega
    by_cases h5 : op = 5
    · subst h5
      have hv : oneB 5 [] n = (decide (2 ≤ n)) := by unfold oneB; simp
      rw [hv] at HB
      have q : decide ((2 : Int) ≤ (n : Int)) = b := by rw [← HB.out]; exact (by rw [decide_eq_decide]; omega)
      clear hv
      go_enter Try.func53, Try.ntmps53
      go_wp2_with fail
      go_ret
      exact ⟨rfl, HF0.out⟩
    have p5 : ((op : Int) == 5) = false := by simp; omega
    by_cases h6 : op = 6
    · subst h6
      have hv : oneB 6 [] n = (decide (2 ≤ n)) := by unfold oneB; simp
      rw [hv] at HB
      have q : decide ((2 : Int) ≤ (n : Int)) = b := by rw [← HB.out]; exact (by rw [decide_eq_decide]; omega)
      clear hv
      go_enter Try.func53, Try.ntmps53
      go_wp2_with fail
      go_ret
      exact ⟨rfl, HF0.out⟩
    have p6 : ((op : Int) == 6) = false := by simp; omega
    by_cases h7 : op = 7
    · subst h7
      have hv : oneB 7 [] n = (decide (2 ≤ n)) := by unfold oneB; simp
      rw [hv] at HB
      have q : decide ((2 : Int) ≤ (n : Int)) = b := by rw [← HB.out]; exact (by rw [decide_eq_decide]; omega)
      clear hv
      go_enter Try.func53, Try.ntmps53
      go_wp2_with fail
      go_ret
      exact ⟨rfl, HF0.out⟩
    have p7 : ((op : Int) == 7) = false := by simp; omega
    by_cases h8 : op = 8
    · subst h8
      have hv : oneB 8 [] n = (n == 2) := by unfold oneB; simp
      rw [hv] at HB
      have q : ((n : Int) == 2) = b := by rw [← HB.out]; exact (by rw [Bool.eq_iff_iff, beq_iff_eq, beq_iff_eq]; omega)
      clear hv
      go_enter Try.func53, Try.ntmps53
      go_wp2_with fail
      go_ret
      exact ⟨rfl, HF0.out⟩
    have p8 : ((op : Int) == 8) = false := by simp; omega
    by_cases h9 : op = 9
    · subst h9
      have hv : oneB 9 [] n = (n == 2) := by unfold oneB; simp
      rw [hv] at HB
      have q : ((n : Int) == 2) = b := by rw [← HB.out]; exact (by rw [Bool.eq_iff_iff, beq_iff_eq, beq_iff_eq]; omega)
      clear hv
      go_enter Try.func53, Try.ntmps53
      go_wp2_with fail
      go_ret
      exact ⟨rfl, HF0.out⟩
    have p9 : ((op : Int) == 9) = false := by simp; omega
    by_cases h10 : op = 10
    · subst h10
      have hv : oneB 10 [] n = (n == 3) := by unfold oneB; simp
      rw [hv] at HB
      have q : ((n : Int) == 3) = b := by rw [← HB.out]; exact (by rw [Bool.eq_iff_iff, beq_iff_eq, beq_iff_eq]; omega)
      clear hv
      go_enter Try.func53, Try.ntmps53
      go_wp2_with fail
      go_ret
      exact ⟨rfl, HF0.out⟩
    have p10 : ((op : Int) == 10) = false := by simp; omega
    obtain rfl : b = false := by rw [← HB.out]; unfold oneB; simp [h1, h2, h3, h4, h5, h6, h7, h8, h9, h10]
    go_enter Try.func53, Try.ntmps53
    go_wp2_with fail
    go_ret
    exact ⟨rfl, HF0.out⟩
  · obtain rfl : b = false := by rw [← HB.out]; unfold oneB; rw [if_neg h3]; simp [he]
    have e1 : (txt nm).toList.isEmpty = false := by rw [ByteArray.toList_eq, txt_data]; simpa using he
    have e2 : ¬ (txt nm).toList = [] := by rw [ByteArray.toList_eq, txt_data]; exact he
    clear he h3
    go_enter Try.func53, Try.ntmps53
    go_wp2_with fail
    go_ret
    exact ⟨rfl, HF0.out⟩
end Go.Proofs.Ytbjdaibkcchllaa
