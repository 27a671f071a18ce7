import Derived.Test.YtingidbhmbgigaaLst
import Derived.Laws.StructEq
namespace Go.Proofs.Ytingidbhmbgigaa
open Go.RowKit
open Bd

set_option maxRecDepth 100000 in
set_option maxHeartbeats 1000000 in
theorem lsame_any (L : List Dec) (hL : L.length ≤ 65536) (va vb : Value) (w : World) (ha : LRow w va L) (hb : LRow w vb L) : Calls Try.prog 9 #[va, vb] w fun e w' => e = .returned (.bool true) ∧ Below w.heap.size w w' := by
  obtain ⟨a, c1, rfl⟩ := ha.form
  obtain ⟨b, c2, rfl⟩ := hb.form
  go_enter Try.func9, Try.ntmps9
  go_wp2_with fail
  go_loopw [5] (fun kv wr => ∃ k : Nat, k ≤ L.length ∧ kv = kk k ∧ Fr nob w wr) (fun kv _ => L.length - (intOf kv).toNat)
  case atStart => exact ⟨0, Nat.zero_le _, rfl, Fr.refl _ _⟩
  case round =>
    obtain ⟨k, hk, rfl, fwr⟩ := hrel
    by_cases hlt : k < L.length
    · have hd : L[k]? = some L[k] := by simp [hlt]
      obtain ⟨b1, o1, rfl, x0, x1, x2⟩ := (ha.kept fwr).at hd
      obtain ⟨b2, o2, rfl, y0, y1, y2⟩ := (hb.kept fwr).at hd
      generalize L[k] = d at *
      have hk0 : (0 : Int) ≤ (k : Int) := Int.natCast_nonneg _
      have hk1 : (k : Int) < (L.length : Int) := by omega
      clear hd ha hb
      go_wp2_with fail
      go_quiet (fail)
      go_wp2_with fail
      exact ⟨⟨k + 1, by omega, by go_num, fwr.drewN _⟩, by simp [intOf]; omega⟩
    · obtain rfl : k = L.length := by omega
      go_wp2_with fail
      go_ret
      exact ⟨rfl, fwr.to_below (Nat.le_refl _) (fun _ h => h.elim)⟩
end Go.Proofs.Ytingidbhmbgigaa
