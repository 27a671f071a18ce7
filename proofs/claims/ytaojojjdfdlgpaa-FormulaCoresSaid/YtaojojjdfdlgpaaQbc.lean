import Derived.Test.YtaojojjdfdlgpaaQba
import Derived.Deep.LoopGhost
import Derived.BigQuiet
import Derived.BigRegion
namespace Go.Proofs.Ytaojojjdfdlgpaa
open Go.RowKit

/-! slices.Contains; handOn -/
theorem index_no (a : Option Addr) (xs : List Int) (cp : Nat) (x : Int) (w : World) (hn : xs.length ≤ 1000000) (ha : xs ≠ [] → ∃ g, a = some ⟨g, 0, none⟩ ∧ ∀ (j : Nat) (y : Int), xs[j]? = some y → w.cell? ⟨g, j, none⟩ = some (.int .i64 y)) (hx : x ∉ xs) :
    Calls Try.prog 117 #[.slice a xs.length cp, .int .i64 x] w fun e w' => e = .returned (.int .i64 (-1)) ∧ w = w' := by
  obtain ⟨n, hnl⟩ : ∃ n, xs.length = n := ⟨_, rfl⟩
  rw [hnl] at hn ⊢
  have HN := Lib.hid hnl
  have HA := Lib.hid ha
  have HX := Lib.hid hx
  clear ha hx hnl
  go_enter Try.func117, Try.ntmps117
  go_wp2_with fail
  go_loopg [8] n (fun m iv wr => ∃ k : Nat, k + m = n ∧ iv = .int .i64 (k : Int) ∧ w = wr)
  case atStart => exact ⟨0, by omega, rfl, rfl⟩
  case round =>
    obtain ⟨k, hkm, rfl, rfl⟩ := hrel
    cases gk with
    | zero =>
      obtain rfl : k = n := by omega
      go_wp2_with fail
      go_ret
      exact ⟨rfl, rfl⟩
    | succ m =>
      have hk : k < xs.length := by rw [HN.out]; omega
      have hkt : xs[k]? = some xs[k] := List.getElem?_eq_getElem hk
      have hmem : xs[k] ∈ xs := List.getElem_mem hk
      generalize xs[k] = y at hkt hmem
      obtain ⟨g, rfl, hg⟩ := HA.out (by intro e; rw [e] at hk; simp at hk)
      have c0 := hg k y hkt
      have q0 : (x == y) = false := by simp; rintro rfl; exact HX.out hmem
      have q3 : (k : Int) < (n : Int) := by omega
      have q4 : (0 : Int) ≤ (k : Int) := Int.natCast_nonneg _
      clear hk hkt hmem hg
      go_wp2_with fail
      go_roundg m
      case measure => omega
      case rel => exact ⟨k + 1, by omega, by go_num, rfl⟩
theorem contains_no (a : Option Addr) (xs : List Int) (cp : Nat) (x : Int) (w : World) (hn : xs.length ≤ 1000000) (ha : xs ≠ [] → ∃ g, a = some ⟨g, 0, none⟩ ∧ ∀ (j : Nat) (y : Int), xs[j]? = some y → w.cell? ⟨g, j, none⟩ = some (.int .i64 y)) (hx : x ∉ xs) :
    Calls Try.prog 91 #[.slice a xs.length cp, .int .i64 x] w fun e w' => e = .returned (.bool false) ∧ w = w' := by
  have h := index_no a xs cp x w hn ha hx
  clear ha hx
  go_enter Try.func91, Try.ntmps91
  go_wp2_with fail
  refine h.mono ?_
  rintro e w' ⟨rfl, rfl⟩
  go_wp2_with fail
  go_ret
  exact ⟨rfl, rfl⟩
theorem handOn_swap (d g : Nat) (cp : Nat) (c : Nat → Value) (x y : Int) (p : Nat) (w : World) (hM : Mem w d c) (hp : y + 24 = (p : Int)) (hp2 : p < 49) (hc : c p = .bool false) (hgd : g ≠ d)
    (h0 : w.cell? ⟨g, 0, none⟩ = some (.int .i64 x)) (h1 : w.cell? ⟨g, 1, none⟩ = some (.int .i64 y)) (f0 : w.frozen? ⟨g, 0, none⟩ = false) (f1 : w.frozen? ⟨g, 1, none⟩ = false) :
    Calls Try.prog 129 #[.pointer (some ⟨d, 0, none⟩), .slice (some ⟨g, 0, none⟩) 2 cp, .int .i64 x] w fun e w' => e = .returned (.bool false) ∧ w'.cell? ⟨g, 0, none⟩ = some (.int .i64 y) ∧ Fr (fun k => k = g) w w' := by
  have hpl := fun w => place_any y (by omega) w
  rw [hp] at hpl
  have HM := Lib.hid hM
  clear hM
  go_enter Try.func129, Try.ntmps129
  go_wp2_with fail
  have D : Fr nob w w.drew := (Fr.refl nob w).drew
  have e0 : w.drew.cell? ⟨g, 0, none⟩ = some (.int .i64 x) := h0
  have e1 : w.drew.cell? ⟨g, 1, none⟩ = some (.int .i64 y) := h1
  have z0 : w.drew.frozen? ⟨g, 0, none⟩ = false := f0
  have z1 : w.drew.frozen? ⟨g, 1, none⟩ = false := f1
  go_region
  have S2 : Fr (fun k => k = g) w ((w.setCell ⟨g, 0, none⟩ (.int .i64 y)).setCell ⟨g, 1, none⟩ (.int .i64 x)).drew := (((Fr.refl (fun k => k = g) w).setCell (p := ⟨g, 0, none⟩) (fun _ => rfl) _).setCell (p := ⟨g, 1, none⟩) (fun _ => rfl) _).drew
  have n0 : ((w.setCell ⟨g, 0, none⟩ (.int .i64 y)).setCell ⟨g, 1, none⟩ (.int .i64 x)).drew.cell? ⟨g, 0, none⟩ = some (.int .i64 y) := by
    show ((w.setCell ⟨g, 0, none⟩ (.int .i64 y)).setCell ⟨g, 1, none⟩ (.int .i64 x)).cell? ⟨g, 0, none⟩ = _
    rw [World.cell?_setCell_other (h := by intro e; injection e with _ e2 _; exact absurd e2 (by decide))]
    exact World.cell?_setCell_same' _ _ _ (by rw [h0]; rfl)
  clear e0 e1 z0 z1 h0 h1 f0 f1 D
  generalize ((w.setCell ⟨g, 0, none⟩ (.int .i64 y)).setCell ⟨g, 1, none⟩ (.int .i64 x)).drew = w1 at *
  have M1 := HM.out.kept S2 (fun e => hgd e.symm)
  have c0 : w1.drew.cell? ⟨d, p, none⟩ = some (.bool false) := by rw [← hc]; exact ((M1.kept ((Fr.refl nob w1).drew) (fun h => h)) p (by omega)).1
  have e0 : w1.drew.cell? ⟨g, 0, none⟩ = some (.int .i64 y) := n0
  have HS2 := Lib.hid (S2.drew)
  have q1 : (0 : Int) ≤ (p : Int) := by omega
  have q2 : (p : Int) < 49 := by omega
  clear M1 S2 HM hp n0
  go_wp2_with fail
  go_region_with (go_at_call 57; (with_reducible refine (hpl _).mono ?_); rintro e w' ⟨rfl, rfl⟩)
  have HE0 := Lib.hid e0
  clear c0 e0
  generalize w1.drew = w2 at *
  go_wp2_with fail
  go_loopg [7] 0 (fun m iv wr => m = 0 ∧ iv = .int .i64 2 ∧ w2 = wr)
  case atStart => exact ⟨rfl, rfl, rfl⟩
  case round =>
    obtain ⟨rfl, rfl, rfl⟩ := hrel
    go_wp2_with fail
    go_ret
    exact ⟨rfl, HE0.out, HS2.out⟩
end Go.Proofs.Ytaojojjdfdlgpaa
