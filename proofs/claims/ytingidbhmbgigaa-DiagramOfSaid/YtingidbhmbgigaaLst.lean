import Derived.Test.YtingidbhmbgigaaGrowII
import Derived.Test.YtingidbhmbgigaaStep
import Derived.Test.YtingidbhmbgigaaDep
namespace Go.Proofs.Ytingidbhmbgigaa
open Go.RowKit
open Bd

abbrev Dec := Int × Int × Int
/-- a list of decisions, read off memory -/
def LRow (w : World) (v : Value) (L : List Dec) : Prop := ∃ (a : Option Addr) (cap : Nat), v = .slice a L.length cap ∧ ∀ (k : Nat) (d : Dec), L[k]? = some d → ∃ b o, a = some ⟨b, o, none⟩ ∧ w.cell? ⟨b, o + k * 3, none⟩ = some (.int .i64 d.1) ∧ w.cell? ⟨b, o + k * 3 + 1, none⟩ = some (.int .i64 d.2.1) ∧ w.cell? ⟨b, o + k * 3 + 2, none⟩ = some (.int .i64 d.2.2)
theorem LRow.below {w w' : World} {v : Value} {L : List Dec} (h : LRow w v L) (hb : Below w.heap.size w w') : LRow w' v L := by
  obtain ⟨a, cap, rfl, hc⟩ := h
  refine ⟨a, cap, rfl, fun k d hd => ?_⟩
  obtain ⟨b, o, h1, h2, h3, h4⟩ := hc k d hd
  have f := (Fr.refl nob w).below hb
  exact ⟨b, o, h1, f.cell' h2 (fun h => h), f.cell' h3 (fun h => h), f.cell' h4 (fun h => h)⟩
theorem LRow.kept {w w' : World} {v : Value} {L : List Dec} (h : LRow w v L) (f : Fr nob w w') : LRow w' v L := by
  obtain ⟨a, cap, rfl, hc⟩ := h
  refine ⟨a, cap, rfl, fun k d hd => ?_⟩
  obtain ⟨b, o, h1, h2, h3, h4⟩ := hc k d hd
  exact ⟨b, o, h1, f.cell' h2 (fun h => h), f.cell' h3 (fun h => h), f.cell' h4 (fun h => h)⟩
theorem LRow.form {w : World} {v : Value} {L : List Dec} (h : LRow w v L) : ∃ a cap, v = .slice a L.length cap := by
  obtain ⟨a, cap, e, _⟩ := h; exact ⟨a, cap, e⟩
theorem LRow.at {w : World} {a : Option Addr} {n cap : Nat} {L : List Dec} (h : LRow w (.slice a n cap) L) {k : Nat} {d : Dec} (hd : L[k]? = some d) : ∃ b o, a = some ⟨b, o, none⟩ ∧ w.cell? ⟨b, o + k * 3, none⟩ = some (.int .i64 d.1) ∧ w.cell? ⟨b, o + k * 3 + 1, none⟩ = some (.int .i64 d.2.1) ∧ w.cell? ⟨b, o + k * 3 + 2, none⟩ = some (.int .i64 d.2.2) := by
  obtain ⟨a', cap', e, hc⟩ := h
  cases e
  exact hc k d hd
abbrev dv (d : Dec) : Value := .agg #[.int .i64 d.1, .int .i64 d.2.1, .int .i64 d.2.2]

theorem one_cell (w : World) (a : Value) (T : TypeId) : (w.alloc (.cells #[a] T)).cell? ⟨w.heap.size, 0, none⟩ = some a := World.cell?_alloc_at _ _ _ _ (by simp)

set_option maxRecDepth 100000 in
set_option maxHeartbeats 400000 in
theorem lat_any (L : List Dec) (k : Nat) (hk : k < L.length) (hL : L.length ≤ 65536) (v : Value) (w : World) (hv : LRow w v L) : Calls Try.prog 36 #[.agg #[v], .int .i64 ((k + 2 : Nat) : Int)] w fun e w' => e = .returned (dv L[k]) ∧ Below w.heap.size w w' := by
  obtain ⟨a, cap, rfl⟩ := hv.form
  have hd : L[k]? = some L[k] := by simp [hk]
  obtain ⟨b, o, rfl, c0, c1, c2⟩ := hv.at hd
  generalize L[k] = d at *
  have l0 := lt_of_cell c0
  simp only at l0
  have x := one_cell w (.slice (some ⟨b, o, none⟩) L.length cap) 51
  have x' := cell_alloc_l x (.cells #[.int .i64 0, .int .i64 0, .int .i64 0] 26)
  have y0 := cell_alloc_l (cell_alloc_l c0 (.cells #[.slice (some ⟨b, o, none⟩) L.length cap] 51)) (.cells #[.int .i64 0, .int .i64 0, .int .i64 0] 26)
  have y1 := cell_alloc_l (cell_alloc_l c1 (.cells #[.slice (some ⟨b, o, none⟩) L.length cap] 51)) (.cells #[.int .i64 0, .int .i64 0, .int .i64 0] 26)
  have y2 := cell_alloc_l (cell_alloc_l c2 (.cells #[.slice (some ⟨b, o, none⟩) L.length cap] 51)) (.cells #[.int .i64 0, .int .i64 0, .int .i64 0] 26)
  have fr : Fr nob w ((w.alloc (.cells #[.slice (some ⟨b, o, none⟩) L.length cap] 51)).alloc (.cells #[.int .i64 0, .int .i64 0, .int .i64 0] 26)) := ((Fr.refl nob w).alloc _).alloc _
  go_enter Try.func36, Try.ntmps36
  go_wp2_with fail
  refine bodyPost_ret (v := dv d) (by simp [results, Try.results36, go_sem]) rfl ⟨rfl, ((Below.refl _ _).alloc (Nat.le_refl _) _).alloc (by simp) _⟩

/-- whether a child of the element k fits -/
def fitsC (L : List Dec) (k : Nat) (x c : Int) : Bool := decide (0 ≤ c) && (decide (c ≤ (k : Int) + 1) && (decide (c < 2) || decide (x < (L.getD (c - 2).toNat (0, 0, 0)).1)))
def fitsD (L : List Dec) (k : Nat) (d : Dec) : Bool := decide (0 ≤ d.1) && (decide (d.1 < 24) && (fitsC L k d.1 d.2.1 && fitsC L k d.1 d.2.2))

set_option maxRecDepth 100000 in
set_option maxHeartbeats 400000 in
theorem lsplit_small (v : Value) (p : Nat) (hp : p < 2) (w : World) : Calls Try.prog 20 #[.agg #[v], kk p] w fun e w' => e = .returned (.tuple #[.int .i64 ((24 + p : Nat) : Int), kk p, kk p]) ∧ Below w.heap.size w w' := by
  have hp' : (p : Int) < 2 := by omega
  have hp0 : (0 : Int) ≤ (p : Int) := by omega
  go_enter Try.func20, Try.ntmps20
  go_wp2_with fail
  go_ret3
  exact ⟨by simp, (Below.refl _ _).alloc (Nat.le_refl _) _⟩

set_option maxRecDepth 100000 in
set_option maxHeartbeats 1000000 in
theorem lsplit_node (L : List Dec) (k : Nat) (hk : k < L.length) (hL : L.length ≤ 65536) (v : Value) (w : World) (hv : LRow w v L) : Calls Try.prog 20 #[.agg #[v], .int .i64 ((k + 2 : Nat) : Int)] w fun e w' => e = .returned (.tuple #[.int .i64 L[k].1, .int .i64 L[k].2.1, .int .i64 L[k].2.2]) ∧ Below w.heap.size w w' := by
  have hat := fun W (h : Fr nob w W) => lat_any L k hk hL v W (hv.kept h)
  obtain ⟨a, cap, rfl⟩ := hv.form
  generalize L[k] = d at *
  have x := one_cell w (.slice a L.length cap) 51
  have fr : Fr nob w (w.alloc (.cells #[.slice a L.length cap] 51)) := (Fr.refl nob w).alloc _
  go_enter Try.func20, Try.ntmps20
  go_wp2_with fail
  refine (hat _ fr).mono ?_
  clear hat
  rintro e w1 ⟨rfl, hb⟩
  have fr1 := fr.below hb
  have c0 : (w1.alloc (.cells #[.int .i64 d.1, .int .i64 d.2.1, .int .i64 d.2.2] 26)).cell? ⟨w1.heap.size, 0, none⟩ = some (.int .i64 d.1) := World.cell?_alloc_at _ _ _ _ (by simp)
  have c1 : (w1.alloc (.cells #[.int .i64 d.1, .int .i64 d.2.1, .int .i64 d.2.2] 26)).cell? ⟨w1.heap.size, 1, none⟩ = some (.int .i64 d.2.1) := World.cell?_alloc_at _ _ _ _ (by simp)
  have c2 : (w1.alloc (.cells #[.int .i64 d.1, .int .i64 d.2.1, .int .i64 d.2.2] 26)).cell? ⟨w1.heap.size, 2, none⟩ = some (.int .i64 d.2.2) := World.cell?_alloc_at _ _ _ _ (by simp)
  have fr2 := fr1.alloc (.cells #[.int .i64 d.1, .int .i64 d.2.1, .int .i64 d.2.2] 26)
  clear hb fr x
  go_wp2_with fail
  generalize w1.alloc (.cells #[.int .i64 d.1, .int .i64 d.2.1, .int .i64 d.2.2] 26) = W1 at *
  go_quiet (fail)
  go_wp2_with fail
  go_ret3
  exact ⟨by simp, (fr2.drewN _).to_below (Nat.le_refl _) (fun _ h => h.elim)⟩
end Go.Proofs.Ytingidbhmbgigaa
