import Derived.Test.YtbiheajnmjbdoaaQc3
namespace Go.Proofs.Ytbiheajnmjbdoaa
open Go.RowKit

/-! one: is a node as the table says? -/
def oneB (op : Nat) (nm : List UInt8) (n : Nat) : Bool :=
  if op = 3 then nameB nm && n == 0 else nm == [] && (if op = 1 ∨ op = 2 then n == 0 else if op = 4 then n == 1 else if op = 5 ∨ op = 6 ∨ op = 7 then decide (2 ≤ n) else if op = 8 ∨ op = 9 then n == 2 else if op = 10 then n == 3 else false)
set_option maxHeartbeats 2000000 in
theorem one_any (op : Nat) (nm : List UInt8) (a : Option Addr) (n c : Nat) (hn : nm.length ≤ 9223372036854775807) (w : World) : Calls Try.prog 43 #[.agg #[.int .u8 (op : Int), .string (txt nm), .slice a n c]] w fun e w' => e = .returned (.bool (oneB op nm n)) ∧ Fr nob w w' := by
  have N0 := Box3.new w (.int .u8 (op : Int)) (.string (txt nm)) (.slice a n c) 25
  have F0 : Fr nob w (w.alloc (.cells #[.int .u8 (op : Int), .string (txt nm), .slice a n c] 25)) := (Fr.refl nob w).alloc _
  obtain ⟨b, hb⟩ : ∃ b, oneB op nm n = b := ⟨_, rfl⟩
  rw [hb]
  have HB := Lib.hid hb
  have HF0 := Lib.hid F0
  have hN := fun w => refName_any (txt nm) (by simp; omega) w
  simp only [txt_data] at hN
  have ⟨g0, g1, g2, _⟩ := N0
  clear hb F0 N0
  by_cases h3 : op = 3
  · subst h3
    have hv : oneB 3 nm n = (nameB nm && n == 0) := by unfold oneB; rw [if_pos rfl]
    rw [hv] at HB
    clear hv
    by_cases h0 : n = 0
    · subst h0
      obtain rfl : b = nameB nm := by rw [← HB.out]; simp
      generalize nameB nm = b at *
      go_enter Try.func43, Try.ntmps43
      go_wp2_with (go_at_call 53; refine (hN _).mono ?_; rintro e w' ⟨rfl, rfl⟩)
      go_ret
      exact ⟨rfl, HF0.out⟩
    · obtain rfl : b = false := by rw [← HB.out]; simp [h0]
      have q0 : ((n : Int) == 0) = false := by simp; omega
      clear h0
      go_enter Try.func43, Try.ntmps43
      go_wp2_with (go_at_call 53; refine (hN _).mono ?_; rintro e w' ⟨rfl, rfl⟩)
      go_ret
      exact ⟨rfl, HF0.out⟩
  have q3 : ((op : Int) == 3) = false := by simp; omega
  clear hN
  by_cases he : nm = []
  · subst he
    have e1 : (txt []).toList.isEmpty = true := by rw [ByteArray.toList_eq]; rfl
    have e2 : (txt []).toList = [] := by rw [ByteArray.toList_eq]; rfl
    by_cases h1 : op = 1
    · subst h1
      have hv : oneB 1 [] n = (n == 0) := by unfold oneB; simp
      rw [hv] at HB
      have q : ((n : Int) == 0) = b := by rw [← HB.out]; exact (by rw [Bool.eq_iff_iff, beq_iff_eq, beq_iff_eq]; omega)
      clear hv
      go_enter Try.func43, Try.ntmps43
      go_wp2_with fail
      go_ret
      exact ⟨rfl, HF0.out⟩
    have p1 : ((op : Int) == 1) = false := by simp; omega
    by_cases h2 : op = 2
    · subst h2
      have hv : oneB 2 [] n = (n == 0) := by unfold oneB; simp
      rw [hv] at HB
      have q : ((n : Int) == 0) = b := by rw [← HB.out]; exact (by rw [Bool.eq_iff_iff, beq_iff_eq, beq_iff_eq]; omega)
      clear hv
      go_enter Try.func43, Try.ntmps43
      go_wp2_with fail
      go_ret
      exact ⟨rfl, HF0.out⟩
    have p2 : ((op : Int) == 2) = false := by simp; omega
    by_cases h4 : op = 4
    · subst h4
      have hv : oneB 4 [] n = (n == 1) := by unfold oneB; simp
      rw [hv] at HB
      have q : ((n : Int) == 1) = b := by rw [← HB.out]; exact (by rw [Bool.eq_iff_iff, beq_iff_eq, beq_iff_eq]; omega)
      clear hv
      go_enter Try.func43, Try.ntmps43
      go_wp2_with fail
      go_ret
      exact ⟨rfl, HF0.out⟩
    have p4 : ((op : Int) == 4) = false := by simp; omega
    by_cases h5 : op = 5
    · subst h5
      have hv : oneB 5 [] n = (decide (2 ≤ n)) := by unfold oneB; simp
      rw [hv] at HB
      have q : decide ((2 : Int) ≤ (n : Int)) = b := by rw [← HB.out]; exact (by rw [decide_eq_decide]; omega)
      clear hv
      go_enter Try.func43, Try.ntmps43
      go_wp2_with fail
      go_ret
      exact ⟨rfl, HF0.out⟩
    have p5 : ((op : Int) == 5) = false := by simp; omega
    by_cases h6 : op = 6
    · subst h6
      have hv : oneB 6 [] n = (decide (2 ≤ n)) := by unfold oneB; simp
      rw [hv] at HB
      have q : decide ((2 : Int) ≤ (n : Int)) = b := by rw [← HB.out]; exact (by rw [decide_eq_decide]; omega)
      clear hv
      go_enter Try.func43, Try.ntmps43
      go_wp2_with fail
      go_ret
      exact ⟨rfl, HF0.out⟩
    have p6 : ((op : Int) == 6) = false := by simp; omega
    by_cases h7 : op = 7
    · subst h7
      have hv : oneB 7 [] n = (decide (2 ≤ n)) := by unfold oneB; simp
      rw [hv] at HB
      have q : decide ((2 : Int) ≤ (n : Int)) = b := by rw [← HB.out]; exact (by rw [decide_eq_decide]; omega)
      clear hv
      go_enter Try.func43, Try.ntmps43
      go_wp2_with fail
      go_ret
      exact ⟨rfl, HF0.out⟩
    have p7 : ((op : Int) == 7) = false := by simp; omega
    by_cases h8 : op = 8
    · subst h8
      have hv : oneB 8 [] n = (n == 2) := by unfold oneB; simp
      rw [hv] at HB
      have q : ((n : Int) == 2) = b := by rw [← HB.out]; exact (by rw [Bool.eq_iff_iff, beq_iff_eq, beq_iff_eq]; omega)
      clear hv
      go_enter Try.func43, Try.ntmps43
      go_wp2_with fail
      go_ret
      exact ⟨rfl, HF0.out⟩
    have p8 : ((op : Int) == 8) = false := by simp; omega
    by_cases h9 : op = 9
    · subst h9
      have hv : oneB 9 [] n = (n == 2) := by unfold oneB; simp
      rw [hv] at HB
      have q : ((n : Int) == 2) = b := by rw [← HB.out]; exact (by rw [Bool.eq_iff_iff, beq_iff_eq, beq_iff_eq]; omega)
      clear hv
      go_enter Try.func43, Try.ntmps43
      go_wp2_with fail
      go_ret
      exact ⟨rfl, HF0.out⟩
    have p9 : ((op : Int) == 9) = false := by simp; omega
    by_cases h10 : op = 10
    · subst h10
      have hv : oneB 10 [] n = (n == 3) := by unfold oneB; simp
      rw [hv] at HB
      have q : ((n : Int) == 3) = b := by rw [← HB.out]; exact (by rw [Bool.eq_iff_iff, beq_iff_eq, beq_iff_eq]; omega)
      clear hv
      go_enter Try.func43, Try.ntmps43
      go_wp2_with fail
      go_ret
      exact ⟨rfl, HF0.out⟩
    have p10 : ((op : Int) == 10) = false := by simp; omega
    obtain rfl : b = false := by rw [← HB.out]; unfold oneB; simp [h1, h2, h3, h4, h5, h6, h7, h8, h9, h10]
    go_enter Try.func43, Try.ntmps43
    go_wp2_with fail
    go_ret
    exact ⟨rfl, HF0.out⟩
  · obtain rfl : b = false := by rw [← HB.out]; unfold oneB; rw [if_neg h3]; simp [he]
    have e1 : (txt nm).toList.isEmpty = false := by rw [ByteArray.toList_eq, txt_data]; simpa using he
    have e2 : ¬ (txt nm).toList = [] := by rw [ByteArray.toList_eq, txt_data]; exact he
    clear he h3
    go_enter Try.func43, Try.ntmps43
    go_wp2_with fail
    go_ret
    exact ⟨rfl, HF0.out⟩
end Go.Proofs.Ytbiheajnmjbdoaa
