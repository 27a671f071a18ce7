import Derived.Test.YtaojojjdfdlgpaaQbc
namespace Go.Proofs.Ytaojojjdfdlgpaa
open Go.RowKit

/-! checkClauses -/
theorem isLiteral_yes (l n : Int) (h0 : l ≠ 0) (h1 : -n ≤ l) (h2 : l ≤ n) (hn : n ≤ 24) (hn0 : 0 ≤ n) (w : World) : Calls Try.prog 87 #[.int .i64 l, .int .i64 n] w fun e w' => e = .returned (.bool true) ∧ w = w' := by
  have hw := wrap_neg n (by omega)
  have q0 : (l != 0) = true := by simpa using h0
  go_enter Try.func87, Try.ntmps87
  go_wp2_with fail
  go_ret
  exact ⟨rfl, rfl⟩
theorem areLiterals_yes (g cp : Nat) (xs : List Int) (n : Int) (w : World) (hn : n ≤ 24) (hn0 : 0 ≤ n) (hl : xs.length ≤ 1000) (hx : ∀ (j : Nat) (y : Int), xs[j]? = some y → w.cell? ⟨g, j, none⟩ = some (.int .i64 y) ∧ y ≠ 0 ∧ -n ≤ y ∧ y ≤ n) :
    Calls Try.prog 54 #[.slice (some ⟨g, 0, none⟩) xs.length cp, .int .i64 n] w fun e w' => e = .returned (.bool true) ∧ w = w' := by
  obtain ⟨N, hN⟩ : ∃ N, xs.length = N := ⟨_, rfl⟩
  rw [hN] at hl ⊢
  have HN := Lib.hid hN
  have HX := Lib.hid hx
  clear hx hN
  go_enter Try.func54, Try.ntmps54
  go_wp2_with fail
  go_loopg [9] N (fun m iv wr => ∃ k : Nat, k + m = N ∧ iv = .int .i64 (k : Int) ∧ w = wr)
  case atStart => exact ⟨0, by omega, rfl, rfl⟩
  case round =>
    obtain ⟨k, hkm, rfl, rfl⟩ := hrel
    cases gk with
    | zero =>
      obtain rfl : k = N := by omega
      go_wp2_with fail
      go_ret
      exact ⟨rfl, rfl⟩
    | succ m =>
      have hk : k < xs.length := by rw [HN.out]; omega
      obtain ⟨c0, h0, h1, h2⟩ := HX.out k xs[k] (List.getElem?_eq_getElem hk)
      generalize xs[k] = l at c0 h0 h1 h2
      have hC := isLiteral_yes l n h0 h1 h2 hn hn0 w
      have q3 : (k : Int) < (N : Int) := by omega
      have q4 : (0 : Int) ≤ (k : Int) := Int.natCast_nonneg _
      clear hk h0 h1 h2
      go_wp2_with fail
      refine hC.mono ?_
      rintro e w' ⟨rfl, rfl⟩
      go_wp2_with fail
      go_roundg m
      case measure => omega
      case rel => exact ⟨k + 1, by omega, by go_num, rfl⟩
theorem areClauses_yes (g cp : Nat) (vs : List Value) (n : Int) (w : World) (hl : vs.length ≤ 1000) (hx : ∀ (j : Nat) (v : Value), vs[j]? = some v → w.cell? ⟨g, j, none⟩ = some v ∧ ∃ a m cp, v = .slice a m cp ∧ m ≤ 64 ∧ Calls Try.prog 54 #[v, .int .i64 n] w fun e w' => e = .returned (.bool true) ∧ w = w') :
    Calls Try.prog 62 #[.slice (some ⟨g, 0, none⟩) vs.length cp, .int .i64 n] w fun e w' => e = .returned (.bool true) ∧ w = w' := by
  obtain ⟨N, hN⟩ : ∃ N, vs.length = N := ⟨_, rfl⟩
  rw [hN] at hl ⊢
  have HN := Lib.hid hN
  have HX := Lib.hid hx
  clear hx hN
  go_enter Try.func62, Try.ntmps62
  go_wp2_with fail
  go_loopg [9] N (fun m iv wr => ∃ k : Nat, k + m = N ∧ iv = .int .i64 (k : Int) ∧ w = wr)
  case atStart => exact ⟨0, by omega, rfl, rfl⟩
  case round =>
    obtain ⟨k, hkm, rfl, rfl⟩ := hrel
    cases gk with
    | zero =>
      obtain rfl : k = N := by omega
      go_wp2_with fail
      go_ret
      exact ⟨rfl, rfl⟩
    | succ m =>
      have hk : k < vs.length := by rw [HN.out]; omega
      obtain ⟨c0, a, mm, cpp, hv, hm, hC⟩ := HX.out k vs[k] (List.getElem?_eq_getElem hk)
      rw [hv] at c0 hC
      have q3 : (k : Int) < (N : Int) := by omega
      have q4 : (0 : Int) ≤ (k : Int) := Int.natCast_nonneg _
      have q5 : ¬ 64 < mm := by omega
      clear hk hv hm
      go_wp2_with fail
      refine hC.mono ?_
      rintro e w' ⟨rfl, rfl⟩
      go_wp2_with fail
      go_roundg m
      case measure => omega
      case rel => exact ⟨k + 1, by omega, by go_num, rfl⟩
theorem checkClauses_yes (a : Option Addr) (m cp : Nat) (n : Int) (w : World) (hn : n ≤ 24) (hn0 : 0 ≤ n) (hm : m ≤ 1000) (hC : Calls Try.prog 62 #[.slice a m cp, .int .i64 n] w fun e w' => e = .returned (.bool true) ∧ w = w') :
    Calls Try.prog 53 #[.int .i64 n, .slice a m cp] w fun e w' => e = .returned (.int .i64 0) ∧ w = w' := by
  have q0 : ¬ 4096 < m := by omega
  go_enter Try.func53, Try.ntmps53
  go_wp2_with fail
  refine hC.mono ?_
  rintro e w' ⟨rfl, rfl⟩
  go_wp2_with fail
  go_ret
  exact ⟨rfl, rfl⟩
end Go.Proofs.Ytaojojjdfdlgpaa
