import Derived.Test.YtaojojjdfdlgpaaDoorWt
import Derived.Test.YtaojojjdfdlgpaaDoorRr
import Derived.Test.YtaojojjdfdlgpaaDoorQbp
namespace Go.Proofs.YtaojojjdfdlgpaaDoor
open Go.RowKit

/-! the law FormulaWrites -/
theorem large_no {l : List (List Int)} (h : largeP l = false) : l.length ≤ 40 ∧ ∀ r ∈ l, r.length ≤ 80 := by
  unfold largeP at h
  rw [Bool.or_eq_false_iff, List.any_eq_false] at h
  refine ⟨by simpa using h.1, fun r hr => ?_⟩
  have := h.2 r hr
  simpa using this
theorem chk_zero {n : Int} {l : List (List Int)} (h : chkP n l = 0) : (0 ≤ n ∧ n ≤ 24) ∧ l.length ≤ 4096 ∧ ∀ r ∈ l, r.length ≤ 64 ∧ ∀ x ∈ r, x ≠ 0 ∧ -n ≤ x ∧ x ≤ n := by
  unfold chkP at h
  split at h
  · omega
  · split at h
    · omega
    · rename_i h1 h2
      have h3 : clsB n l = true := by
        cases hq : clsB n l
        · exact absurd (.inr hq) h2
        · rfl
      unfold clsB litsB litB at h3
      rw [List.all_eq_true] at h3
      refine ⟨by omega, by omega, fun r hr => ?_⟩
      have := h3 r hr
      rw [Bool.and_eq_true, List.all_eq_true] at this
      exact ⟨by simpa using this.1, fun x hx => by simpa using this.2 x hx⟩
theorem mods_of {n : Int} {l : List (List Int)} (h : chkP n l = 0) : Mods l := by
  obtain ⟨h1, h2, h3⟩ := chk_zero h
  exact ⟨h2, fun r hr => ⟨by have := (h3 r hr).1; omega, fun x hx => by have := (h3 r hr).2 x hx; omega⟩⟩
set_option maxHeartbeats 2000000 in
theorem writes_any (l : List (List Int)) (n : Int) (v : Value) (w : World) (hp : Pow w) (hwd : Wide l) (h : RowsO w (fun b => b < w.heap.size) l v) :
    Calls Tryd.prog 3 #[.int .i64 n, v] w fun e w' => e = .returned (.bool true) ∧ Fr nob w w' := by
  have hG := large_any l v _ w hwd h
  have hWk := wakes_any
  obtain ⟨a, cap, hform⟩ := h.form
  cases hgr : largeP l with
  | true =>
    rw [hgr] at hG
    subst hform
    have HW := Lib.hid hWk
    clear hwd h hp hWk hgr
    go_enter Tryd.func3, Tryd.ntmps3
    go_wp2_with (first | (go_at_call 4; with_reducible refine hG.mono ?_; rintro e w2 ⟨rfl, rfl⟩) | fail)
    refine (HW.out _).mono ?_
    rintro e w3 ⟨rfl, F3⟩
    go_wp2_with fail
    go_ret
    exact ⟨rfl, F3⟩
  | false =>
    rw [hgr] at hG
    obtain ⟨g1, g2⟩ := large_no hgr
    have hR := rows_any l v _ w (by omega) (fun r hr => by have := g2 r hr; omega) h
    have HH := Lib.hid h
    have HP := Lib.hid hp
    have HWD := Lib.hid hwd
    have HW := Lib.hid hWk
    subst hform
    clear h hp hwd hWk g1 g2 hgr
    go_enter Tryd.func3, Tryd.ntmps3
    go_wp2_with (first | (go_at_call 4; with_reducible refine hG.mono ?_; rintro e w2 ⟨rfl, rfl⟩) | fail)
    refine hR.mono ?_
    rintro e w2 ⟨v2, rfl, hR2, F2⟩
    have hz2 := F2.size
    have hR2' : RowsO w2 (fun b => b < w2.heap.size) l v2 := rows_in hR2
    obtain ⟨a2, cap2, rfl⟩ := hR2.form
    have hWr := write_any l n _ w2 (HP.out.fr F2) HWD.out mods_of hR2'
    have HF2 := Lib.hid F2
    clear hR hR2 hR2' F2 hG
    go_wp2_with fail
    refine hWr.mono ?_
    unfold WrPost
    rintro e w3 ⟨F3, rfl⟩
    have hF3 := HF2.out.trans F3 (fun _ _ h => h)
    have hH3 := HH.out.kept (T := fun b => b < w.heap.size) hF3 (fun b h _ => ⟨fun h => h, h⟩)
    have hCl := refCls_any l n _ _ w3 HWD.out hH3
    have HF3 := Lib.hid hF3
    have HH3 := Lib.hid hH3
    clear hWr F3 hF3 hH3 HF2 HH
    by_cases hk : chkP n l = 0
    · have HK := Lib.hid hk
      obtain ⟨hn, _⟩ := chk_zero hk
      have hWW := refWrite_any l n hn _ _ w3 (mods_of hk) HH3.out
      rw [hk] at hCl
      simp only [if_pos hk]
      have e6 : ((txt (writeP n l)).toList == (txt (writeP n l)).toList) = true := by simp
      generalize txt (writeP n l) = T at *
      clear hk hn
      go_wp2_with fail
      refine hCl.mono ?_
      rintro e w4 ⟨rfl, rfl⟩
      clear hCl
      go_wp2_with fail
      refine hWW.mono ?_
      rintro e w4 ⟨rfl, rfl⟩
      clear hWW
      go_wp2_with fail
      refine (HW.out _).mono ?_
      rintro e w5 ⟨rfl, F5⟩
      have HF5 := Lib.hid (HF3.out.trans F5 (fun _ _ h => h))
      clear F5
      go_wp2_with fail
      go_ret
      exact ⟨rfl, HF5.out⟩
    · have q0 : (chkP n l != 0) = true := by simpa using hk
      simp only [if_neg hk]
      generalize chkP n l = R at *
      clear hk
      go_wp2_with fail
      refine hCl.mono ?_
      rintro e w4 ⟨rfl, rfl⟩
      clear hCl
      go_wp2_with fail
      refine (HW.out _).mono ?_
      rintro e w5 ⟨rfl, F5⟩
      have HF5 := Lib.hid (HF3.out.trans F5 (fun _ _ h => h))
      clear F5
      go_wp2_with fail
      go_ret
      exact ⟨rfl, HF5.out⟩
end Go.Proofs.YtaojojjdfdlgpaaDoor
