import Derived.Test.YtaojojjdfdlgpaaQr
namespace Go.Proofs.Ytaojojjdfdlgpaa
open Go.RowKit

/-! valid trees -/
def kcP (op : Nat) : Nat × Nat :=
  if op = 1 then (0, 0) else if op = 2 then (0, 0) else if op = 3 then (0, 0) else if op = 4 then (1, 1) else if op = 5 then (2, 1000) else if op = 6 then (2, 1000) else if op = 7 then (2, 1000)
  else if op = 8 then (2, 2) else if op = 9 then (2, 2) else if op = 10 then (3, 3) else (1, 0)
theorem kidCount_any (op : Nat) (w : World) : Calls Try.prog 114 #[.int .u8 (op : Int)] w fun e w' => e = .returned (.tuple #[.int .i64 ((kcP op).1 : Int), .int .i64 ((kcP op).2 : Int)]) ∧ w = w' := by
  by_cases h1 : op = 1
  · subst h1
    go_enter Try.func114, Try.ntmps114
    go_wp2_with fail
    go_ret2
    exact ⟨rfl, rfl⟩
  have q1 : ((op : Int) == 1) = false := by simp; omega
  by_cases h2 : op = 2
  · subst h2
    go_enter Try.func114, Try.ntmps114
    go_wp2_with fail
    go_ret2
    exact ⟨rfl, rfl⟩
  have q2 : ((op : Int) == 2) = false := by simp; omega
  by_cases h3 : op = 3
  · subst h3
    go_enter Try.func114, Try.ntmps114
    go_wp2_with fail
    go_ret2
    exact ⟨rfl, rfl⟩
  have q3 : ((op : Int) == 3) = false := by simp; omega
  by_cases h4 : op = 4
  · subst h4
    go_enter Try.func114, Try.ntmps114
    go_wp2_with fail
    go_ret2
    exact ⟨rfl, rfl⟩
  have q4 : ((op : Int) == 4) = false := by simp; omega
  by_cases h5 : op = 5
  · subst h5
    go_enter Try.func114, Try.ntmps114
    go_wp2_with fail
    go_ret2
    exact ⟨rfl, rfl⟩
  have q5 : ((op : Int) == 5) = false := by simp; omega
  by_cases h6 : op = 6
  · subst h6
    go_enter Try.func114, Try.ntmps114
    go_wp2_with fail
    go_ret2
    exact ⟨rfl, rfl⟩
  have q6 : ((op : Int) == 6) = false := by simp; omega
  by_cases h7 : op = 7
  · subst h7
    go_enter Try.func114, Try.ntmps114
    go_wp2_with fail
    go_ret2
    exact ⟨rfl, rfl⟩
  have q7 : ((op : Int) == 7) = false := by simp; omega
  by_cases h8 : op = 8
  · subst h8
    go_enter Try.func114, Try.ntmps114
    go_wp2_with fail
    go_ret2
    exact ⟨rfl, rfl⟩
  have q8 : ((op : Int) == 8) = false := by simp; omega
  by_cases h9 : op = 9
  · subst h9
    go_enter Try.func114, Try.ntmps114
    go_wp2_with fail
    go_ret2
    exact ⟨rfl, rfl⟩
  have q9 : ((op : Int) == 9) = false := by simp; omega
  by_cases h10 : op = 10
  · subst h10
    go_enter Try.func114, Try.ntmps114
    go_wp2_with fail
    go_ret2
    exact ⟨rfl, rfl⟩
  have q10 : ((op : Int) == 10) = false := by simp; omega
  have hv : kcP op = (1, 0) := by simp [kcP, *]
  rw [hv]
  clear hv h1 h2 h3 h4 h5 h6 h7 h8 h9 h10
  go_enter Try.func114, Try.ntmps114
  go_wp2_with fail
  go_ret2
  exact ⟨rfl, rfl⟩

/-- the shape of a node -/
def shapeB (op : Nat) (nm : List UInt8) (n : Nat) : Bool :=
  if op = 3 then nameB nm && n == 0 else nm == [] && decide ((kcP op).1 ≤ n) && decide (n ≤ (kcP op).2)
set_option maxHeartbeats 2000000 in
theorem shaped_any (op : Nat) (nm : List UInt8) (a : Option Addr) (n c : Nat) (hn : nm.length ≤ 9223372036854775807) (hn2 : n ≤ 4611686018427387904) (w : World) : Calls Try.prog 85 #[.agg #[.int .u8 (op : Int), .string (txt nm), .slice a n c]] w fun e w' => e = .returned (.bool (shapeB op nm n)) ∧ Fr nob w w' := by
  have N0 := Box3.new w (.int .u8 (op : Int)) (.string (txt nm)) (.slice a n c) 24
  have F0 : Fr nob w (w.alloc (.cells #[.int .u8 (op : Int), .string (txt nm), .slice a n c] 24)) := (Fr.refl nob w).alloc _
  obtain ⟨b, hb⟩ : ∃ b, shapeB op nm n = b := ⟨_, rfl⟩
  rw [hb]
  have HB := Lib.hid hb
  have HF0 := Lib.hid F0
  have hN := fun w => isName_any (txt nm) (by simp; omega) w
  simp only [txt_data] at hN
  have hkc := kidCount_any op
  have hx := (isName_any (txt nm) (by simp; omega))
  clear hx
  have ⟨g0, g1, g2, _⟩ := N0
  clear hb F0 N0
  by_cases h3 : op = 3
  · subst h3
    cases hnb : nameB nm with
    | false =>
      rw [hnb] at hN
      obtain rfl : b = false := by rw [← HB.out]; simp [shapeB, hnb]
      clear hnb
      go_enter Try.func85, Try.ntmps85
      go_wp2_with (go_at_call 113; refine (hN _).mono ?_; rintro e w' ⟨rfl, rfl⟩)
      go_ret
      exact ⟨rfl, HF0.out⟩
    | true =>
      rw [hnb] at hN
      by_cases h0 : n = 0
      · subst h0
        obtain rfl : b = true := by rw [← HB.out]; simp [shapeB, hnb]
        clear hnb
        go_enter Try.func85, Try.ntmps85
        go_wp2_with (go_at_call 113; refine (hN _).mono ?_; rintro e w' ⟨rfl, rfl⟩)
        go_ret
        exact ⟨rfl, HF0.out⟩
      · obtain rfl : b = false := by rw [← HB.out]; simp [shapeB, h0]
        have q0 : ((n : Int) == 0) = false := by simp; omega
        clear hnb h0
        go_enter Try.func85, Try.ntmps85
        go_wp2_with (go_at_call 113; refine (hN _).mono ?_; rintro e w' ⟨rfl, rfl⟩)
        go_ret
        exact ⟨rfl, HF0.out⟩
  have q3 : ((op : Int) == 3) = false := by simp; omega
  obtain ⟨k1, k2, hk⟩ : ∃ k1 k2, kcP op = (k1, k2) := ⟨_, _, rfl⟩
  have hsv : shapeB op nm n = (nm == [] && decide (k1 ≤ n) && decide (n ≤ k2)) := by unfold shapeB; rw [if_neg h3, hk]
  rw [hk] at hkc
  simp only at hkc
  have HB2 := Lib.hid (hsv.symm.trans HB.out)
  clear h3 hk hsv hN HB
  by_cases he : nm = []
  · subst he
    have e1 : (txt []).toList.isEmpty = true := by rw [ByteArray.toList_eq]; rfl
    have e2 : (txt []).toList = [] := by rw [ByteArray.toList_eq]; rfl
    by_cases hk1 : k1 ≤ n
    · by_cases hk2 : n ≤ k2
      · obtain rfl : b = true := by rw [← HB2.out]; simp [hk1, hk2]
        go_enter Try.func85, Try.ntmps85
        go_wp2_with (go_at_call 114; refine (hkc _).mono ?_; rintro e w' ⟨rfl, rfl⟩)
        go_ret
        exact ⟨rfl, HF0.out⟩
      · obtain rfl : b = false := by rw [← HB2.out]; simp [hk2]
        go_enter Try.func85, Try.ntmps85
        go_wp2_with (go_at_call 114; refine (hkc _).mono ?_; rintro e w' ⟨rfl, rfl⟩)
        go_ret
        exact ⟨rfl, HF0.out⟩
    · obtain rfl : b = false := by rw [← HB2.out]; simp [hk1]
      go_enter Try.func85, Try.ntmps85
      go_wp2_with (go_at_call 114; refine (hkc _).mono ?_; rintro e w' ⟨rfl, rfl⟩)
      go_ret
      exact ⟨rfl, HF0.out⟩
  · obtain rfl : b = false := by rw [← HB2.out]; simp [he]
    have e1 : (txt nm).toList.isEmpty = false := by rw [ByteArray.toList_eq, txt_data]; simpa using he
    have e2 : ¬ (txt nm).toList = [] := by rw [ByteArray.toList_eq, txt_data]; exact he
    clear he
    go_enter Try.func85, Try.ntmps85
    go_wp2_with (go_at_call 114; refine (hkc _).mono ?_; rintro e w' ⟨rfl, rfl⟩)
    go_ret
    exact ⟨rfl, HF0.out⟩
end Go.Proofs.Ytaojojjdfdlgpaa
