import Derived.Test.YtaojojjdfdlgpaaQb
import Derived.BigQuiet
import Derived.BigRegion
namespace Go.Proofs.Ytaojojjdfdlgpaa
open Go.RowKit

/-! letters, digits, words, names -/
def letB (n : Nat) : Bool := (decide (97 ≤ n) && decide (n ≤ 122)) || (decide (65 ≤ n) && decide (n ≤ 90)) || n == 95
def digB (n : Nat) : Bool := decide (48 ≤ n) && decide (n ≤ 57)

theorem letter_any (n : Nat) (w : World) : Calls Try.prog 136 #[.int .u8 (n : Int)] w fun e w' => e = .returned (.bool (letB n)) ∧ w = w' := by
  have key : ∀ b, letB n = b → Calls Try.prog 136 #[.int .u8 (n : Int)] w fun e w' => e = .returned (.bool b) ∧ w = w' := by
    intro b hb
    have HB := Lib.hid hb
    clear hb
    have hs : (n < 65) ∨ (65 ≤ n ∧ n ≤ 90) ∨ (n = 95) ∨ (90 < n ∧ n < 97 ∧ n ≠ 95) ∨ (97 ≤ n ∧ n ≤ 122) ∨ (122 < n) := by omega
    rcases hs with h | h | h | h | h | h
    · have q0 : ¬ (97 : Int) ≤ (n : Int) := by omega
      have q1 : ¬ (65 : Int) ≤ (n : Int) := by omega
      have q9 : ((n : Int) == 95) = false := by simp; omega
      obtain rfl : b = false := by rw [← HB.out]; simp [letB]; omega
      clear h
      go_enter Try.func136, Try.ntmps136
      go_wp2_with fail
      go_ret
      exact ⟨rfl, rfl⟩
    · have q0 : ¬ (97 : Int) ≤ (n : Int) := by omega
      have q1 : (65 : Int) ≤ (n : Int) := by omega
      have q2 : (n : Int) ≤ 90 := by omega
      have q9 : ((n : Int) == 95) = false := by simp; omega
      obtain rfl : b = true := by rw [← HB.out]; simp [letB]; omega
      clear h
      go_enter Try.func136, Try.ntmps136
      go_wp2_with fail
      go_ret
      exact ⟨rfl, rfl⟩
    · subst h
      obtain rfl : b = true := by rw [← HB.out]; rfl
      go_enter Try.func136, Try.ntmps136
      go_wp2_with fail
      go_ret
      exact ⟨rfl, rfl⟩
    · have q0 : ¬ (97 : Int) ≤ (n : Int) := by omega
      have q1 : (65 : Int) ≤ (n : Int) := by omega
      have q2 : ¬ (n : Int) ≤ 90 := by omega
      have q9 : ((n : Int) == 95) = false := by simp; omega
      obtain rfl : b = false := by rw [← HB.out]; simp [letB]; omega
      clear h
      go_enter Try.func136, Try.ntmps136
      go_wp2_with fail
      go_ret
      exact ⟨rfl, rfl⟩
    · have q0 : (97 : Int) ≤ (n : Int) := by omega
      have q1 : (n : Int) ≤ 122 := by omega
      have q9 : ((n : Int) == 95) = false := by simp; omega
      obtain rfl : b = true := by rw [← HB.out]; simp [letB]; omega
      clear h
      go_enter Try.func136, Try.ntmps136
      go_wp2_with fail
      go_ret
      exact ⟨rfl, rfl⟩
    · have q0 : (97 : Int) ≤ (n : Int) := by omega
      have q1 : ¬ (n : Int) ≤ 122 := by omega
      have q2 : (65 : Int) ≤ (n : Int) := by omega
      have q3 : ¬ (n : Int) ≤ 90 := by omega
      have q9 : ((n : Int) == 95) = false := by simp; omega
      obtain rfl : b = false := by rw [← HB.out]; simp [letB]; omega
      clear h
      go_enter Try.func136, Try.ntmps136
      go_wp2_with fail
      go_ret
      exact ⟨rfl, rfl⟩
  exact key _ rfl

theorem digit_any (n : Nat) (w : World) : Calls Try.prog 128 #[.int .u8 (n : Int)] w fun e w' => e = .returned (.bool (digB n)) ∧ w = w' := by
  have key : ∀ b, digB n = b → Calls Try.prog 128 #[.int .u8 (n : Int)] w fun e w' => e = .returned (.bool b) ∧ w = w' := by
    intro b hb
    have HB := Lib.hid hb
    clear hb
    have hs : (n < 48) ∨ (48 ≤ n ∧ n ≤ 57) ∨ (57 < n) := by omega
    rcases hs with h | h | h
    · have q0 : ¬ (48 : Int) ≤ (n : Int) := by omega
      obtain rfl : b = false := by rw [← HB.out]; simp [digB]; omega
      clear h
      go_enter Try.func128, Try.ntmps128
      go_wp2_with fail
      go_ret
      exact ⟨rfl, rfl⟩
    · have q0 : (48 : Int) ≤ (n : Int) := by omega
      have q1 : (n : Int) ≤ 57 := by omega
      obtain rfl : b = true := by rw [← HB.out]; simp [digB]; omega
      clear h
      go_enter Try.func128, Try.ntmps128
      go_wp2_with fail
      go_ret
      exact ⟨rfl, rfl⟩
    · have q0 : (48 : Int) ≤ (n : Int) := by omega
      have q1 : ¬ (n : Int) ≤ 57 := by omega
      obtain rfl : b = false := by rw [← HB.out]; simp [digB]; omega
      clear h
      go_enter Try.func128, Try.ntmps128
      go_wp2_with fail
      go_ret
      exact ⟨rfl, rfl⟩
  exact key _ rfl

/-- letters, digits, underscores -/
def wrdB (n : Nat) : Bool := letB n || digB n
/-- how many a text begins with -/
def wlen : List UInt8 → Nat
  | [] => 0
  | c :: l => if wrdB c.toNat then wlen l + 1 else 0
theorem wlen_le : ∀ l : List UInt8, wlen l ≤ l.length
  | [] => Nat.le_refl _
  | c :: l => by
    have := wlen_le l
    unfold wlen
    split <;> simp <;> omega
theorem wlen_in : ∀ {l : List UInt8} {k : Nat} (_ : k < wlen l) (hk : k < l.length), wrdB l[k].toNat = true
  | c :: l, 0, h, _ => by
    unfold wlen at h
    split at h
    · assumption
    · omega
  | c :: l, k + 1, h, hk => by
    unfold wlen at h
    split at h
    · exact wlen_in (l := l) (k := k) (by omega) (by simpa using hk)
    · omega
theorem wlen_out : ∀ {l : List UInt8} (hk : wlen l < l.length), wrdB l[wlen l].toNat = false
  | c :: l, hk => by
    by_cases h : wrdB c.toNat = true
    · have e : wlen (c :: l) = wlen l + 1 := by simp [wlen, h]
      simp only [e, List.getElem_cons_succ]
      exact wlen_out (by simpa [e] using hk)
    · have e : wlen (c :: l) = 0 := by simp [wlen, h]
      simp only [e, List.getElem_cons_zero]
      simpa using h

set_option maxHeartbeats 1000000 in
theorem wordLength_any (s : ByteArray) (hs : s.size ≤ 9223372036854775807) (w : World) : Calls Try.prog 127 #[.string s] w fun e w' => e = .returned (.int .i64 (wlen s.data.toList : Int)) ∧ w = w' := by
  have hle := wlen_le s.data.toList
  have hsz : s.data.toList.length = s.size := by simp
  rw [hsz] at hle
  obtain ⟨n, hn⟩ : ∃ n, wlen s.data.toList = n := ⟨_, rfl⟩
  have hin : ∀ k (hk : k < s.size), k < n → wrdB s[k].toNat = true := fun k hk h => wlen_in (l := s.data.toList) (by omega) (by simpa using hk)
  have hout : ∀ (hk : n < s.size), wrdB s[n].toNat = false := fun hk => by
    subst hn
    exact wlen_out (l := s.data.toList) (by simpa using hk)
  rw [hn] at hle ⊢
  have HIN := Lib.hid hin
  have HOUT := Lib.hid hout
  clear hn hsz hin hout
  go_enter Try.func127, Try.ntmps127
  go_wp2_with fail
  go_loop [3] (fun v => ∃ k : Nat, k ≤ n ∧ v = .int .i64 (k : Int)) (fun v => n - (intOf v).toNat)
  case atStart => exact ⟨0, Nat.zero_le _, rfl⟩
  case round =>
    obtain ⟨k, hk, rfl⟩ := hrel
    by_cases hlt : k < n
    · have hks : k < s.size := by omega
      have hw := HIN.out k hks hlt
      have hks' : (k : Int) < (s.size : Int) := by omega
      cases hl : letB s[k].toNat with
      | true =>
        clear hw
        go_wp2_with (go_at_call 136; refine (letter_any _ _).mono ?_; rintro e w' ⟨rfl, rfl⟩)
        go_round
        case rel => exact ⟨k + 1, by omega, by go_num⟩
        case measure => simp [intOf]; omega
      | false =>
        have hd : digB s[k].toNat = true := by simpa [wrdB, hl] using hw
        clear hw
        go_wp2_with (first | (go_at_call 136; refine (letter_any _ _).mono ?_; rintro e w' ⟨rfl, rfl⟩) | (go_at_call 128; refine (digit_any _ _).mono ?_; rintro e w' ⟨rfl, rfl⟩))
        go_round
        case rel => exact ⟨k + 1, by omega, by go_num⟩
        case measure => simp [intOf]; omega
    · obtain rfl : k = n := by omega
      by_cases hks : k < s.size
      · have hw := HOUT.out hks
        have hks' : (k : Int) < (s.size : Int) := by omega
        have hl : letB s[k].toNat = false := by simp only [wrdB, Bool.or_eq_false_iff] at hw; exact hw.1
        have hd : digB s[k].toNat = false := by simp only [wrdB, Bool.or_eq_false_iff] at hw; exact hw.2
        clear hw
        go_wp2_with (first | (go_at_call 136; refine (letter_any _ _).mono ?_; rintro e w' ⟨rfl, rfl⟩) | (go_at_call 128; refine (digit_any _ _).mono ?_; rintro e w' ⟨rfl, rfl⟩))
        go_ret
        exact ⟨rfl, rfl⟩
      · have hks' : ¬ (k : Int) < (s.size : Int) := by omega
        go_wp2_with fail
        go_ret
        exact ⟨rfl, rfl⟩

def nameB (s : List UInt8) : Bool := !s.isEmpty && decide (s.length ≤ 32) && wlen s == s.length && !digB (s.headD 0).toNat
theorem sne {s : ByteArray} (h : s.size ≠ 0) : s.toList.isEmpty = false ∧ ¬ s.toList = [] := by
  have h1 : ¬ s.toList = [] := by
    rw [ByteArray.toList_eq]
    intro e
    have := congrArg List.length e
    simp at this
    exact h (by rw [this]; rfl)
  exact ⟨by simp [h1], h1⟩

set_option maxHeartbeats 1000000 in
theorem isName_any (s : ByteArray) (hs : s.size ≤ 9223372036854775807) (w : World) : Calls Try.prog 113 #[.string s] w fun e w' => e = .returned (.bool (nameB s.data.toList)) ∧ w = w' := by
  have key : ∀ b, nameB s.data.toList = b → Calls Try.prog 113 #[.string s] w fun e w' => e = .returned (.bool b) ∧ w = w' := by
    intro b hb
    have hle := wlen_le s.data.toList
    have hsz : s.data.toList.length = s.size := by simp
    rw [hsz] at hle
    have HW := wordLength_any s hs w
    obtain ⟨n, hn⟩ : ∃ n, wlen s.data.toList = n := ⟨_, rfl⟩
    rw [hn] at hle HW
    have HB := Lib.hid hb
    have HN := Lib.hid hn
    have HSZ := Lib.hid hsz
    clear hb hsz hn
    by_cases h0 : s.size = 0
    · obtain rfl : s = ⟨#[]⟩ := by
        cases s with
        | mk d => simp at h0; exact h0
      obtain rfl : b = false := by rw [← HB.out]; rfl
      go_enter Try.func113, Try.ntmps113
      go_wp2_with fail
      go_ret
      exact ⟨rfl, rfl⟩
    · obtain ⟨he1, he2⟩ := sne h0
      have hem : s.data.toList.isEmpty = false := by rw [← ByteArray.toList_eq]; exact he1
      have h0' : (0 : Int) < (s.size : Int) := by omega
      have h0'' : 0 < s.size := by omega
      have hhd : s.data.toList.headD 0 = s[0] := by
        cases hl : s.data.toList with
        | nil => rw [hl] at hem; cases hem
        | cons c l =>
          have : s.data.toList[0]? = some c := by rw [hl]; rfl
          have e2 : s.data.toList[0]? = some s[0] := by
            rw [List.getElem?_eq_getElem (by rw [HSZ.out]; omega)]; rfl
          rw [e2] at this
          simpa using this.symm
      have HE := Lib.hid hem
      have HH := Lib.hid hhd
      clear hem hhd
      by_cases h32 : s.size ≤ 32
      · have h32' : (s.size : Int) ≤ 32 := by omega
        by_cases hn : n = s.size
        · have hn' : ((n : Int) == (s.size : Int)) = true := by simp [hn]
          cases hd : digB s[0].toNat with
          | true =>
            obtain rfl : b = false := by rw [← HB.out]; unfold nameB; rw [HH.out, hd]; simp
            have HNN := Lib.hid hn
            clear hn
            go_enter Try.func113, Try.ntmps113
            go_wp2_with (first | (go_at_call 127; refine HW.mono ?_; rintro e w' ⟨rfl, rfl⟩) | (go_at_call 128; refine (digit_any _ _).mono ?_; rintro e w' ⟨rfl, rfl⟩))
            go_ret
            exact ⟨rfl, rfl⟩
          | false =>
            obtain rfl : b = true := by rw [← HB.out]; unfold nameB; rw [HH.out, hd, HE.out, HSZ.out, HN.out, hn]; simp; exact h32
            have HNN := Lib.hid hn
            clear hn
            go_enter Try.func113, Try.ntmps113
            go_wp2_with (first | (go_at_call 127; refine HW.mono ?_; rintro e w' ⟨rfl, rfl⟩) | (go_at_call 128; refine (digit_any _ _).mono ?_; rintro e w' ⟨rfl, rfl⟩))
            go_ret
            exact ⟨rfl, rfl⟩
        · have hn' : ((n : Int) == (s.size : Int)) = false := by simp; omega
          obtain rfl : b = false := by rw [← HB.out]; simp [nameB, HSZ.out, HN.out]; omega
          go_enter Try.func113, Try.ntmps113
          go_wp2_with (first | (go_at_call 127; refine HW.mono ?_; rintro e w' ⟨rfl, rfl⟩))
          go_ret
          exact ⟨rfl, rfl⟩
      · have h32' : ¬ (s.size : Int) ≤ 32 := by omega
        obtain rfl : b = false := by rw [← HB.out]; simp [nameB, HSZ.out]; omega
        go_enter Try.func113, Try.ntmps113
        go_wp2_with fail
        go_ret
        exact ⟨rfl, rfl⟩
  exact key _ rfl
end Go.Proofs.Ytaojojjdfdlgpaa
