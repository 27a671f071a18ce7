import Derived.Test.YtbiheajnmjbdoaaQc8
import Derived.Test.YtbiheajnmjbdoaaQaa
namespace Go.Proofs.Ytbiheajnmjbdoaa
open Go.RowKit

/-! the reference's line and sign -/
def linP (op : Nat) : Nat := 7 - levP op
theorem line_any (op : Nat) (w : World) : Calls Try.prog 44 #[.int .u8 (op : Int)] w fun e w' => e = .returned (.int .i64 (linP op : Int)) ∧ w = w' := by
  by_cases h5 : op = 5
  · subst h5
    go_enter Try.func44, Try.ntmps44
    go_wp2_with fail
    go_ret
    exact ⟨rfl, rfl⟩
  have q5 : ((op : Int) == 5) = false := by simp; omega
  by_cases h7 : op = 7
  · subst h7
    go_enter Try.func44, Try.ntmps44
    go_wp2_with fail
    go_ret
    exact ⟨rfl, rfl⟩
  have q7 : ((op : Int) == 7) = false := by simp; omega
  by_cases h6 : op = 6
  · subst h6
    go_enter Try.func44, Try.ntmps44
    go_wp2_with fail
    go_ret
    exact ⟨rfl, rfl⟩
  have q6 : ((op : Int) == 6) = false := by simp; omega
  by_cases h8 : op = 8
  · subst h8
    go_enter Try.func44, Try.ntmps44
    go_wp2_with fail
    go_ret
    exact ⟨rfl, rfl⟩
  have q8 : ((op : Int) == 8) = false := by simp; omega
  by_cases h9 : op = 9
  · subst h9
    go_enter Try.func44, Try.ntmps44
    go_wp2_with fail
    go_ret
    exact ⟨rfl, rfl⟩
  have q9 : ((op : Int) == 9) = false := by simp; omega
  by_cases h10 : op = 10
  · subst h10
    go_enter Try.func44, Try.ntmps44
    go_wp2_with fail
    go_ret
    exact ⟨rfl, rfl⟩
  have q10 : ((op : Int) == 10) = false := by simp; omega
  have hv : linP op = 1 := by unfold linP levP; simp [h5, h6, h7, h8, h9, h10]
  rw [hv]
  clear hv h5 h6 h7 h8 h9 h10
  go_enter Try.func44, Try.ntmps44
  go_wp2_with fail
  go_ret
  exact ⟨rfl, rfl⟩
theorem rsign_any (op k : Nat) (h4 : op = 5 ∨ op = 6 ∨ op = 7 ∨ op = 8 ∨ op = 9 ∨ op = 10) (hk : 0 < k) (w : World) : Calls Try.prog 45 #[.int .u8 (op : Int), .int .i64 (k : Int)] w fun e w' => e = .returned (.string (txt ([32] ++ sgnP op k ++ [32]))) ∧ w = w' := by
  have hk0 : ¬ k = 0 := by omega
  by_cases h5 : op = 5
  · subst h5
    have hv : sgnP 5 k = sgnP 5 1 := by simp [sgnP, hk0]
    rw [hv]
    clear hv hk0 hk h4
    go_enter Try.func45, Try.ntmps45
    go_wp2_with fail
    go_ret
    exact ⟨rfl, rfl⟩
  by_cases h7 : op = 7
  · subst h7
    have hv : sgnP 7 k = sgnP 7 1 := by simp [sgnP, hk0]
    rw [hv]
    clear hv hk0 hk h4
    go_enter Try.func45, Try.ntmps45
    go_wp2_with fail
    go_ret
    exact ⟨rfl, rfl⟩
  by_cases h6 : op = 6
  · subst h6
    have hv : sgnP 6 k = sgnP 6 1 := by simp [sgnP, hk0]
    rw [hv]
    clear hv hk0 hk h4
    go_enter Try.func45, Try.ntmps45
    go_wp2_with fail
    go_ret
    exact ⟨rfl, rfl⟩
  by_cases h8 : op = 8
  · subst h8
    have hv : sgnP 8 k = sgnP 8 1 := by simp [sgnP, hk0]
    rw [hv]
    clear hv hk0 hk h4
    go_enter Try.func45, Try.ntmps45
    go_wp2_with fail
    go_ret
    exact ⟨rfl, rfl⟩
  by_cases h9 : op = 9
  · subst h9
    have hv : sgnP 9 k = sgnP 9 1 := by simp [sgnP, hk0]
    rw [hv]
    clear hv hk0 hk h4
    go_enter Try.func45, Try.ntmps45
    go_wp2_with fail
    go_ret
    exact ⟨rfl, rfl⟩
  obtain rfl : op = 10 := by omega
  by_cases h1 : k = 1
  · subst h1
    go_enter Try.func45, Try.ntmps45
    go_wp2_with fail
    go_ret
    exact ⟨rfl, rfl⟩
  · have q1 : ((k : Int) == 1) = false := by simp; omega
    have hv : sgnP 10 k = [58] := by simp [sgnP, hk0, h1]
    rw [hv]
    clear hv hk0 hk h4 h1
    go_enter Try.func45, Try.ntmps45
    go_wp2_with fail
    go_ret
    exact ⟨rfl, rfl⟩
end Go.Proofs.Ytbiheajnmjbdoaa
