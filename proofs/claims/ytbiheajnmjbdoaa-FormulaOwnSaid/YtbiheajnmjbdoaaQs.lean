import Derived.Test.YtbiheajnmjbdoaaQo
namespace Go.Proofs.Ytbiheajnmjbdoaa
open Go.RowKit

/-! the grammar's tables -/
def levP (op : Nat) : Nat := if op = 10 then 0 else if op = 9 then 1 else if op = 8 then 2 else if op = 6 then 3 else if op = 7 then 4 else if op = 5 then 5 else 6
def sgnP (op k : Nat) : List UInt8 :=
  if op = 4 then [33] else if op = 1 then [48] else if op = 2 then [49] else if k = 0 then [] else if op = 5 then [38] else if op = 7 then [94] else if op = 6 then [124]
  else if op = 8 then [61, 62] else if op = 9 then [60, 61, 62] else if k = 1 then [63] else [58]
def kidP (op k : Nat) : Nat := if op = 4 then 6 else if (op = 8 ∨ op = 10) ∧ 0 < k then levP op else levP op + 1

theorem levelOf_any (op : Nat) (w : World) : Calls Try.prog 38 #[.int .u8 (op : Int)] w fun e w' => e = .returned (.int .i64 (levP op : Int)) ∧ w = w' := by
  by_cases h10 : op = 10
  · subst h10
    go_enter Try.func38, Try.ntmps38
    go_wp2_with fail
    go_ret
    exact ⟨rfl, rfl⟩
  have q10 : ((op : Int) == 10) = false := by simp; omega
  by_cases h9 : op = 9
  · subst h9
    go_enter Try.func38, Try.ntmps38
    go_wp2_with fail
    go_ret
    exact ⟨rfl, rfl⟩
  have q9 : ((op : Int) == 9) = false := by simp; omega
  by_cases h8 : op = 8
  · subst h8
    go_enter Try.func38, Try.ntmps38
    go_wp2_with fail
    go_ret
    exact ⟨rfl, rfl⟩
  have q8 : ((op : Int) == 8) = false := by simp; omega
  by_cases h6 : op = 6
  · subst h6
    go_enter Try.func38, Try.ntmps38
    go_wp2_with fail
    go_ret
    exact ⟨rfl, rfl⟩
  have q6 : ((op : Int) == 6) = false := by simp; omega
  by_cases h7 : op = 7
  · subst h7
    go_enter Try.func38, Try.ntmps38
    go_wp2_with fail
    go_ret
    exact ⟨rfl, rfl⟩
  have q7 : ((op : Int) == 7) = false := by simp; omega
  by_cases h5 : op = 5
  · subst h5
    go_enter Try.func38, Try.ntmps38
    go_wp2_with fail
    go_ret
    exact ⟨rfl, rfl⟩
  have q5 : ((op : Int) == 5) = false := by simp; omega
  have hv : levP op = 6 := by simp [levP, *]
  rw [hv]
  clear hv h10 h9 h8 h6 h7 h5
  go_enter Try.func38, Try.ntmps38
  go_wp2_with fail
  go_ret
  exact ⟨rfl, rfl⟩

theorem sign_any (op k : Nat) (w : World) : Calls Try.prog 40 #[.int .u8 (op : Int), .int .i64 (k : Int)] w fun e w' => e = .returned (.string (txt (sgnP op k))) ∧ w = w' := by
  by_cases h4 : op = 4
  · subst h4
    go_enter Try.func40, Try.ntmps40
    go_wp2_with fail
    go_ret
    exact ⟨rfl, rfl⟩
  have q4 : ((op : Int) == 4) = false := by simp; omega
  by_cases h1 : op = 1
  · subst h1
    go_enter Try.func40, Try.ntmps40
    go_wp2_with fail
    go_ret
    exact ⟨rfl, rfl⟩
  have q1 : ((op : Int) == 1) = false := by simp; omega
  by_cases h2 : op = 2
  · subst h2
    go_enter Try.func40, Try.ntmps40
    go_wp2_with fail
    go_ret
    exact ⟨rfl, rfl⟩
  have q2 : ((op : Int) == 2) = false := by simp; omega
  by_cases hk : k = 0
  · subst hk
    have hv : sgnP op 0 = [] := by simp [sgnP, *]
    rw [hv]
    clear hv h4 h1 h2
    go_enter Try.func40, Try.ntmps40
    go_wp2_with fail
    go_ret
    exact ⟨rfl, rfl⟩
  have qk : ((k : Int) == 0) = false := by simp; omega
  by_cases h5 : op = 5
  · subst h5
    have hv : sgnP 5 k = [38] := by simp [sgnP, hk]
    rw [hv]
    clear hv
    go_enter Try.func40, Try.ntmps40
    go_wp2_with fail
    go_ret
    exact ⟨rfl, rfl⟩
  have q5 : ((op : Int) == 5) = false := by simp; omega
  by_cases h7 : op = 7
  · subst h7
    have hv : sgnP 7 k = [94] := by simp [sgnP, hk]
    rw [hv]
    clear hv
    go_enter Try.func40, Try.ntmps40
    go_wp2_with fail
    go_ret
    exact ⟨rfl, rfl⟩
  have q7 : ((op : Int) == 7) = false := by simp; omega
  by_cases h6 : op = 6
  · subst h6
    have hv : sgnP 6 k = [124] := by simp [sgnP, hk]
    rw [hv]
    clear hv
    go_enter Try.func40, Try.ntmps40
    go_wp2_with fail
    go_ret
    exact ⟨rfl, rfl⟩
  have q6 : ((op : Int) == 6) = false := by simp; omega
  by_cases h8 : op = 8
  · subst h8
    have hv : sgnP 8 k = [61, 62] := by simp [sgnP, hk]
    rw [hv]
    clear hv
    go_enter Try.func40, Try.ntmps40
    go_wp2_with fail
    go_ret
    exact ⟨rfl, rfl⟩
  have q8 : ((op : Int) == 8) = false := by simp; omega
  by_cases h9 : op = 9
  · subst h9
    have hv : sgnP 9 k = [60, 61, 62] := by simp [sgnP, hk]
    rw [hv]
    clear hv
    go_enter Try.func40, Try.ntmps40
    go_wp2_with fail
    go_ret
    exact ⟨rfl, rfl⟩
  have q9 : ((op : Int) == 9) = false := by simp; omega
  by_cases hk1 : k = 1
  · subst hk1
    have hv : sgnP op 1 = [63] := by simp [sgnP, *]
    rw [hv]
    clear hv h4 h1 h2 h5 h7 h6 h8 h9
    go_enter Try.func40, Try.ntmps40
    go_wp2_with fail
    go_ret
    exact ⟨rfl, rfl⟩
  have qk1 : ((k : Int) == 1) = false := by simp; omega
  have hv : sgnP op k = [58] := by simp [sgnP, *]
  rw [hv]
  clear hv h4 h1 h2 h5 h7 h6 h8 h9 hk hk1
  go_enter Try.func40, Try.ntmps40
  go_wp2_with fail
  go_ret
  exact ⟨rfl, rfl⟩

theorem kidLevel_any (op k : Nat) (w : World) : Calls Try.prog 41 #[.int .u8 (op : Int), .int .i64 (k : Int)] w fun e w' => e = .returned (.int .i64 (kidP op k : Int)) ∧ w = w' := by
  have hl := levelOf_any op
  by_cases h4 : op = 4
  · subst h4
    go_enter Try.func41, Try.ntmps41
    go_wp2_with (go_at_call 38; refine (hl _).mono ?_; rintro e w' ⟨rfl, rfl⟩)
    go_ret
    exact ⟨rfl, rfl⟩
  have q4 : ((op : Int) == 4) = false := by simp; omega
  by_cases h0 : 0 < k
  · have hk : (0 : Int) < (k : Int) := by omega
    by_cases h8 : op = 8
    · subst h8
      have hv : kidP 8 k = levP 8 := by simp [kidP, h0]
      rw [hv]
      clear hv h0
      go_enter Try.func41, Try.ntmps41
      go_wp2_with (go_at_call 38; refine (hl _).mono ?_; rintro e w' ⟨rfl, rfl⟩)
      go_ret
      exact ⟨rfl, rfl⟩
    have q8 : ((op : Int) == 8) = false := by simp; omega
    by_cases h10 : op = 10
    · subst h10
      have hv : kidP 10 k = levP 10 := by simp [kidP, h0]
      rw [hv]
      clear hv h0
      go_enter Try.func41, Try.ntmps41
      go_wp2_with (go_at_call 38; refine (hl _).mono ?_; rintro e w' ⟨rfl, rfl⟩)
      go_ret
      exact ⟨rfl, rfl⟩
    have q10 : ((op : Int) == 10) = false := by simp; omega
    have hv : kidP op k = levP op + 1 := by simp [kidP, *]
    have hb : levP op ≤ 6 := by unfold levP; repeat' split
                                all_goals omega
    rw [hv]
    generalize levP op = lv at *
    clear hv h4 h8 h10 h0
    go_enter Try.func41, Try.ntmps41
    go_wp2_with (go_at_call 38; refine (hl _).mono ?_; rintro e w' ⟨rfl, rfl⟩)
    go_ret
    exact ⟨by simp, rfl⟩
  · obtain rfl : k = 0 := by omega
    have hv : kidP op 0 = levP op + 1 := by simp [kidP, *]
    have hb : levP op ≤ 6 := by unfold levP; repeat' split
                                all_goals omega
    rw [hv]
    generalize levP op = lv at *
    clear hv h0
    by_cases h8 : op = 8
    · subst h8
      go_enter Try.func41, Try.ntmps41
      go_wp2_with (go_at_call 38; refine (hl _).mono ?_; rintro e w' ⟨rfl, rfl⟩)
      go_ret
      exact ⟨by simp, rfl⟩
    have q8 : ((op : Int) == 8) = false := by simp; omega
    by_cases h10 : op = 10
    · subst h10
      go_enter Try.func41, Try.ntmps41
      go_wp2_with (go_at_call 38; refine (hl _).mono ?_; rintro e w' ⟨rfl, rfl⟩)
      go_ret
      exact ⟨by simp, rfl⟩
    have q10 : ((op : Int) == 10) = false := by simp; omega
    clear h4 h8 h10
    go_enter Try.func41, Try.ntmps41
    go_wp2_with (go_at_call 38; refine (hl _).mono ?_; rintro e w' ⟨rfl, rfl⟩)
    go_ret
    exact ⟨by simp, rfl⟩

abbrev TrOp (op : Nat) (kv : Value) : Value := .agg #[.int .u8 (op : Int), .string (txt []), kv]
theorem node_any (op : Nat) (kv : Value) (hk : ∃ a n c, kv = .slice a n c) (w : World) : Calls Try.prog 89 #[.int .u8 (op : Int), kv] w fun e w' => e = .returned (TrOp op kv) ∧ Fr nob w w' := by
  obtain ⟨a, n, c, rfl⟩ := hk
  go_enter Try.func89, Try.ntmps89
  go_wp2_with fail
  exact bodyPost_ret (v := TrOp op (.slice a n c)) (by simp [results, Try.results89, go_sem]; rfl) rfl ⟨rfl, (Fr.refl nob w).alloc _⟩
end Go.Proofs.Ytbiheajnmjbdoaa
