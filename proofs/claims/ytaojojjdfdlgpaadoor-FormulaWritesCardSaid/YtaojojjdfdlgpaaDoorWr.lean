import Derived.Test.YtaojojjdfdlgpaaDoorRw
import Derived.Test.YtaojojjdfdlgpaaDoorQaa
import Derived.Lib.ItoaNum
namespace Go.Proofs.YtaojojjdfdlgpaaDoor
open Go.RowKit

/-! decimal numbers -/
theorem txt_app (a b : List UInt8) : txt a ++ txt b = txt (a ++ b) := txt_ext (by simp [txt_data])
theorem dig_len : ∀ (k n : Nat), n < 10 ^ (k + 1) → (Lib.decDigits n).length ≤ k + 1
  | 0, n, h => by rw [Lib.decDigits, dif_pos (by simpa using h)]; simp
  | k + 1, n, h => by
    rw [Lib.decDigits]
    split
    · simp
    · rw [List.length_append]
      have := dig_len k (n / 10) (by rw [Nat.pow_succ] at h; omega)
      simp; omega
theorem dig_le (n : Nat) (h : n ≤ 1000000000000) : (Lib.decDigits n).length ≤ 13 := dig_len 12 n (by omega)
def DecC (n : Nat) : Prop := ∀ w, Calls Tryd.prog 19 #[.int .i64 (n : Int)] w fun e w' => e = .returned (.string (txt (Lib.decDigits n))) ∧ w = w'
theorem dec_small (n : Nat) (h : n < 10) : DecC n := by
  intro w
  have hd : Lib.decDigits n = [UInt8.ofNat (48 + n)] := by rw [Lib.decDigits, dif_pos h]
  rw [hd]
  rcases (by omega : n = 0 ∨ n = 1 ∨ n = 2 ∨ n = 3 ∨ n = 4 ∨ n = 5 ∨ n = 6 ∨ n = 7 ∨ n = 8 ∨ n = 9) with rfl | rfl | rfl | rfl | rfl | rfl | rfl | rfl | rfl | rfl
  all_goals (
    clear h hd
    go_enter Tryd.func19, Tryd.ntmps19
    go_wp2_with fail
    go_ret
    exact ⟨rfl, rfl⟩)
theorem dec_any : ∀ (d n : Nat), n < d → n ≤ 1000000000000 → DecC n := by
  intro d
  induction d with
  | zero => intro n h; exact absurd h (Nat.not_lt_zero _)
  | succ d ih =>
    intro n hd hn
    by_cases h10 : n < 10
    · exact dec_small n h10
    · intro w
      have h1 := ih (n / 10) (by omega) (by omega)
      have h2 := dec_small (n % 10) (by omega)
      have hdd : Lib.decDigits n = Lib.decDigits (n / 10) ++ Lib.decDigits (n % 10) := by
        rw [Lib.decDigits, dif_neg h10]
        congr 1
        rw [Lib.decDigits, dif_pos (by omega)]
      rw [hdd, ← txt_app]
      have z1 : (txt (Lib.decDigits (n / 10))).size ≤ 13 := by rw [txt_size]; exact dig_le _ (by omega)
      have z2 : (txt (Lib.decDigits (n % 10))).size ≤ 13 := by rw [txt_size]; exact dig_le _ (by omega)
      have c1 : ∀ w, Calls Tryd.prog 19 #[.int .i64 ((n : Int) / 10)] w fun e w' => e = .returned (.string (txt (Lib.decDigits (n / 10)))) ∧ w = w' := h1
      have c2 : ∀ w, Calls Tryd.prog 19 #[.int .i64 ((n : Int) % 10)] w fun e w' => e = .returned (.string (txt (Lib.decDigits (n % 10)))) ∧ w = w' := h2
      generalize txt (Lib.decDigits (n / 10)) = s1 at *
      generalize txt (Lib.decDigits (n % 10)) = s2 at *
      have H1 := Lib.hid c1
      have H2 := Lib.hid c2
      have q0 : ¬ (n : Int) < 0 := by omega
      have q1 : ¬ (n : Int) < 10 := by omega
      clear h1 h2 hdd ih hd h10 c1 c2
      go_enter Tryd.func19, Tryd.ntmps19
      go_wp2_with fail
      refine (H1.out _).mono ?_
      rintro e w2 ⟨rfl, rfl⟩
      go_wp2_with fail
      refine (H2.out _).mono ?_
      rintro e w2 ⟨rfl, rfl⟩
      go_wp2_with fail
      go_ret
      exact ⟨rfl, rfl⟩
theorem itoa_any (n : Int) (h1 : -1000000000000 ≤ n) (h2 : n ≤ 1000000000000) (w : World) :
    Calls Tryd.prog 19 #[.int .i64 n] w fun e w' => e = .returned (.string (txt (Lib.itoa n))) ∧ w = w' := by
  by_cases h0 : n < 0
  · obtain ⟨m, rfl⟩ : ∃ m : Nat, n = -(m : Int) := ⟨n.natAbs, by omega⟩
    have hd : Lib.itoa (-(m : Int)) = [45] ++ Lib.decDigits m := by
      unfold Lib.itoa
      rw [if_pos h0]
      congr 2
      omega
    rw [hd, ← txt_app]
    have z1 : (txt (Lib.decDigits m)).size ≤ 13 := by rw [txt_size]; exact dig_le _ (by omega)
    have c1 : ∀ w, Calls Tryd.prog 19 #[.int .i64 (m : Int)] w fun e w' => e = .returned (.string (txt (Lib.decDigits m))) ∧ w = w' := dec_any (m + 1) m (Nat.lt_succ_self _) (by omega)
    generalize txt (Lib.decDigits m) = s1 at *
    have H1 := Lib.hid c1
    have q0 : -(m : Int) < 0 := h0
    clear c1 hd
    go_enter Tryd.func19, Tryd.ntmps19
    go_wp2_with fail
    refine (H1.out _).mono ?_
    rintro e w2 ⟨rfl, rfl⟩
    go_wp2_with fail
    go_ret
    exact ⟨rfl, rfl⟩
  · obtain ⟨m, rfl⟩ : ∃ m : Nat, n = (m : Int) := ⟨n.natAbs, by omega⟩
    have hd : Lib.itoa (m : Int) = Lib.decDigits m := by
      unfold Lib.itoa
      rw [if_neg h0]
      rfl
    rw [hd]
    exact dec_any (m + 1) m (Nat.lt_succ_self _) (by omega) w
end Go.Proofs.YtaojojjdfdlgpaaDoor
