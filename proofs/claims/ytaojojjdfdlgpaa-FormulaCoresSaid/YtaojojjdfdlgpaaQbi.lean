import Derived.Test.YtaojojjdfdlgpaaQbc
import Derived.Test.YtaojojjdfdlgpaaQbg
namespace Go.Proofs.Ytaojojjdfdlgpaa
open Go.RowKit

/-! checkClauses -/
theorem isLiteral_yes (l n : Int) (h0 : l ≠ 0) (h1 : -n ≤ l) (h2 : l ≤ n) (hn : n ≤ 24) (hn0 : 0 ≤ n) (w : World) : Calls Try.prog 87 #[.int .i64 l, .int .i64 n] w fun e w' => e = .returned (.bool true) ∧ w = w' := by
  have hw := wrap_neg n (by omega)
  have q0 : (l != 0) = true := by simpa using h0
  go_enter Try.func87, Try.ntmps87
  go_wp2_with fail
  go_ret
  exact ⟨rfl, rfl⟩
theorem areLiterals_yes (g cp : Nat) (xs : List Int) (n : Int) (w : World) (hn : n ≤ 24) (hn0 : 0 ≤ n) (hl : xs.length ≤ 1000) (hx : ∀ (j : Nat) (y : Int), xs[j]? = some y → w.cell? ⟨g, j, none⟩ = some (.int .i64 y) ∧ y ≠ 0 ∧ -n ≤ y ∧ y ≤ n) :
    Calls Try.prog 54 #[.slice (some ⟨g, 0, none⟩) xs.length cp, .int .i64 n] w fun e w' => e = .returned (.bool true) ∧ w = w' := by
  obtain ⟨N, hN⟩ : ∃ N, xs.length = N := ⟨_, rfl⟩
  rw [hN] at hl ⊢
  have HN := Lib.hid hN
  have HX := Lib.hid hx
  clear hx hN
  go_enter Try.func54, Try.ntmps54
  go_wp2_with fail
  go_loopg [9] N (fun m iv wr => ∃ k : Nat, k + m = N ∧ iv = .int .i64 (k : Int) ∧ w = wr)
  case atStart => exact ⟨0, by omega, rfl, rfl⟩
  case round =>
    obtain ⟨k, hkm, rfl, rfl⟩ := hrel
    cases gk with
    | zero =>
      obtain rfl : k = N := by omega
      go_wp2_with fail
      go_ret
      exact ⟨rfl, rfl⟩
    | succ m =>
      have hk : k < xs.length := by rw [HN.out]; omega
      obtain ⟨c0, h0, h1, h2⟩ := HX.out k xs[k] (List.getElem?_eq_getElem hk)
      generalize xs[k] = l at c0 h0 h1 h2
      have hC := isLiteral_yes l n h0 h1 h2 hn hn0 w
      have q3 : (k : Int) < (N : Int) := by omega
      have q4 : (0 : Int) ≤ (k : Int) := Int.natCast_nonneg _
      clear hk h0 h1 h2
      go_wp2_with fail
      refine hC.mono ?_
      rintro e w' ⟨rfl, rfl⟩
      go_wp2_with fail
      go_roundg m
      case measure => omega
      case rel => exact ⟨k + 1, by omega, by go_num, rfl⟩
theorem areClauses_yes (g cp : Nat) (vs : List Value) (n : Int) (w : World) (hl : vs.length ≤ 1000) (hx : ∀ (j : Nat) (v : Value), vs[j]? = some v → w.cell? ⟨g, j, none⟩ = some v ∧ ∃ a m cp, v = .slice a m cp ∧ m ≤ 64 ∧ Calls Try.prog 54 #[v, .int .i64 n] w fun e w' => e = .returned (.bool true) ∧ w = w') :
    Calls Try.prog 62 #[.slice (some ⟨g, 0, none⟩) vs.length cp, .int .i64 n] w fun e w' => e = .returned (.bool true) ∧ w = w' := by
  obtain ⟨N, hN⟩ : ∃ N, vs.length = N := ⟨_, rfl⟩
  rw [hN] at hl ⊢
  have HN := Lib.hid hN
  have HX := Lib.hid hx
  clear hx hN
  go_enter Try.func62, Try.ntmps62
  go_wp2_with fail
  go_loopg [9] N (fun m iv wr => ∃ k : Nat, k + m = N ∧ iv = .int .i64 (k : Int) ∧ w = wr)
  case atStart => exact ⟨0, by omega, rfl, rfl⟩
  case round =>
    obtain ⟨k, hkm, rfl, rfl⟩ := hrel
    cases gk with
    | zero =>
      obtain rfl : k = N := by omega
      go_wp2_with fail
      go_ret
      exact ⟨rfl, rfl⟩
    | succ m =>
      have hk : k < vs.length := by rw [HN.out]; omega
      obtain ⟨c0, a, mm, cpp, hv, hm, hC⟩ := HX.out k vs[k] (List.getElem?_eq_getElem hk)
      rw [hv] at c0 hC
      have q3 : (k : Int) < (N : Int) := by omega
      have q4 : (0 : Int) ≤ (k : Int) := Int.natCast_nonneg _
      have q5 : ¬ 64 < mm := by omega
      clear hk hv hm
      go_wp2_with fail
      refine hC.mono ?_
      rintro e w' ⟨rfl, rfl⟩
      go_wp2_with fail
      go_roundg m
      case measure => omega
      case rel => exact ⟨k + 1, by omega, by go_num, rfl⟩
theorem checkClauses_yes (a : Option Addr) (m cp : Nat) (n : Int) (w : World) (hn : n ≤ 24) (hn0 : 0 ≤ n) (hm : m ≤ 1000) (hC : Calls Try.prog 62 #[.slice a m cp, .int .i64 n] w fun e w' => e = .returned (.bool true) ∧ w = w') :
    Calls Try.prog 53 #[.int .i64 n, .slice a m cp] w fun e w' => e = .returned (.int .i64 0) ∧ w = w' := by
  have q0 : ¬ 4096 < m := by omega
  go_enter Try.func53, Try.ntmps53
  go_wp2_with fail
  refine hC.mono ?_
  rintro e w' ⟨rfl, rfl⟩
  go_wp2_with fail
  go_ret
  exact ⟨rfl, rfl⟩
end Go.Proofs.Ytaojojjdfdlgpaa
namespace Go.Proofs.Ytaojojjdfdlgpaa
open Go.RowKit

/-! deduceFrom -/
def zeroA : Array Value := ⟨List.replicate 49 (.bool false) ++ List.replicate 98 (.slice none 0 0) ++ [.slice none 0 0, .int .i64 0, .int .i64 0, .slice none 0 0, .bool false]⟩
def zc (i : Nat) : Value := zeroA.getD i undef
theorem Mem.of_alloc (w : World) (Z : Array Value) (T : TypeId) (h : Z = zeroA) : Mem (w.alloc (.cells Z T)) w.heap.size zc := fun i hi => by
  subst h
  have hb := heap_alloc_new w (.cells zeroA T)
  refine ⟨?_, ?_⟩
  · rw [Lib.cell_of_heap hb]
    have hs : i < zeroA.size := by show i < 152; exact hi
    show zeroA[i]? = some (zeroA.getD i undef)
    rw [Array.getElem?_eq_getElem hs, Array.getD_eq_getD_getElem?, Array.getElem?_eq_getElem hs]
    rfl
  · unfold World.frozen?; rw [hb]; rfl
set_option maxRecDepth 100000 in
set_option maxHeartbeats 2000000 in
theorem deduceFrom_gen (g cp : Nat) (vs : List Value) (w : World) (St : Nat → World → Prop) (hl : vs.length ≤ 1000)
    (h0 : ∀ wz, Mem wz w.heap.size zc → Fr nob w wz → St 0 wz)
    (hstep : ∀ k v w', vs[k]? = some v → St k w' → w'.cell? ⟨g, k, none⟩ = some v ∧ ∃ a m c, v = .slice a m c ∧ Calls Try.prog 64 #[.pointer (some ⟨w.heap.size, 0, none⟩), .slice a m c] w' fun e w'' => e = .returned (.tuple #[]) ∧ St (k + 1) w'') :
    Calls Try.prog 55 #[.slice (some ⟨g, 0, none⟩) vs.length cp] w fun e w' => e = .returned (.pointer (some ⟨w.heap.size, 0, none⟩)) ∧ St vs.length w' := by
  obtain ⟨N, hN⟩ : ∃ N, vs.length = N := ⟨_, rfl⟩
  rw [hN] at hl ⊢
  have HN := Lib.hid hN
  have H0 := Lib.hid h0
  have HS := Lib.hid hstep
  clear h0 hstep hN
  go_enter Try.func55, Try.ntmps55
  go_wp2_with fail
  go_loopg [8] N (fun m iv wr => ∃ k : Nat, k + m = N ∧ iv = .int .i64 (k : Int) ∧ St k wr)
  case atStart => exact ⟨0, by omega, rfl, H0.out _ (Mem.of_alloc w _ _ rfl) ((Fr.refl nob w).alloc _)⟩
  case round =>
    obtain ⟨k, hkm, rfl, hs⟩ := hrel
    have HST := Lib.hid hs
    clear hs
    cases gk with
    | zero =>
      obtain rfl : k = N := by omega
      go_wp2_with fail
      go_ret
      exact ⟨rfl, HST.out⟩
    | succ m =>
      have hk : k < vs.length := by rw [HN.out]; omega
      obtain ⟨c0, a, mm, cc, hv, hC⟩ := HS.out k vs[k] wr (List.getElem?_eq_getElem hk) HST.out
      rw [hv] at c0
      have q3 : (k : Int) < (N : Int) := by omega
      have q4 : (0 : Int) ≤ (k : Int) := Int.natCast_nonneg _
      clear hk hv
      go_wp2_with fail
      refine hC.mono ?_
      rintro e w2 ⟨rfl, hs2⟩
      have HS2 := Lib.hid hs2
      clear hs2 hC c0
      go_wp2_with fail
      go_roundg m
      case measure => omega
      case rel => exact ⟨k + 1, by omega, by go_num, HS2.out⟩
end Go.Proofs.Ytaojojjdfdlgpaa
