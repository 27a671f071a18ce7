import Derived.Test.YtaojojjdfdlgpaaQbc
import Derived.Deep.RegionLawGrows
import Derived.Deep.CutRange
namespace Go.Proofs.Ytaojojjdfdlgpaa
open Go.RowKit

/-! watch -/
theorem info_ints : (Try.prog.info? 37).map (fun i => (i.zero, i.size, i.bytes)) = some (some (.slice none 0 0), 1, 24) := by kernel_rfl
theorem watch_short (dv : Value) (a : Option Addr) (n cp : Nat) (w : World) (hn : n < 2) : Calls Try.prog 92 #[dv, .slice a n cp] w fun e w' => e = .returned (.tuple #[]) ∧ w = w' := by
  have q0 : (n : Int) < 2 := by omega
  go_enter Try.func92, Try.ntmps92
  go_wp2_with fail
  refine bodyPost_ret (results_none rfl _ _ _) rfl ?_
  exact ⟨rfl, rfl⟩
def row1 (w : World) (d : Nat) (cl v : Value) : Prop := ∃ B, w.ownsRow B 37 1 v 1 [cl] ∧ ∀ g, v.ownBlock = some g → d < g
theorem row1.kept {w w' : World} {d : Nat} {cl v : Value} (h : row1 w d cl v) (f : Fr (fun k => k = d) w w') : row1 w' d cl v := by
  obtain ⟨B, h1, h2⟩ := h
  exact ⟨B, f.row h1 (fun g hg (e : g = d) => Nat.lt_irrefl d (by have h := h2 g hg; rw [e] at h; exact h)), h2⟩
theorem first_fr (w : World) (o : Obj) (w5 : World) (h : (w.drew.alloc o).grownBy w5 none) : Fr nob w.drew w5 := ((Fr.refl nob w.drew).alloc o).grown h (fun k hk => by cases hk)
set_option maxRecDepth 100000 in
set_option maxHeartbeats 4000000 in
theorem watch_two (d g cp : Nat) (c : Nat → Value) (x y : Int) (px py : Nat) (w : World) (hx : x + 24 = (px : Int)) (hx2 : px < 49) (hy : y + 24 = (py : Int)) (hy2 : py < 49) (hne : px ≠ py) (hM : Mem w d c) (hcx : c (98 + px) = .slice none 0 0) (hcy : c (98 + py) = .slice none 0 0)
    (h0 : w.cell? ⟨g, 0, none⟩ = some (.int .i64 x)) (h1 : w.cell? ⟨g, 1, none⟩ = some (.int .i64 y)) (hcp : 2 ≤ cp) (hgd : g ≠ d) :
    Calls Try.prog 92 #[.pointer (some ⟨d, 0, none⟩), .slice (some ⟨g, 0, none⟩) 2 cp] w fun e w' => e = .returned (.tuple #[]) ∧ ∃ v1 v2, Mem w' d (upd (upd c (98 + px) v1) (98 + py) v2) ∧ row1 w' d (.slice (some ⟨g, 0, none⟩) 2 cp) v1 ∧ row1 w' d (.slice (some ⟨g, 0, none⟩) 2 cp) v2 ∧ Fr (fun k => k = d) w w' := by
  have HM := Lib.hid hM
  have HX := Lib.hid hx
  have HY := Lib.hid hy
  have q0 : (2 : Int) ≤ (cp : Int) := by omega
  clear hM hx hy
  go_enter Try.func92, Try.ntmps92
  go_wp2_with fail
  go_loopg [12] 2 (fun m iv wr => ∃ (k : Nat) (v1 v2 : Value), k + m = 2 ∧ iv = .int .i64 (k : Int) ∧ Mem wr d (upd (upd c (98 + px) v1) (98 + py) v2) ∧ (if 0 < k then row1 wr d (.slice (some ⟨g, 0, none⟩) 2 cp) v1 else v1 = .slice none 0 0) ∧ (if 1 < k then row1 wr d (.slice (some ⟨g, 0, none⟩) 2 cp) v2 else v2 = .slice none 0 0) ∧ Fr (fun k => k = d) w wr)
  case atStart =>
    refine ⟨0, .slice none 0 0, .slice none 0 0, rfl, rfl, ?_, rfl, rfl, Fr.refl _ _⟩
    have e : upd (upd c (98 + px) (.slice none 0 0)) (98 + py) (.slice none 0 0) = c := by
      funext i; unfold upd; split
      · rename_i h; rw [h, hcy]
      · split
        · rename_i h; rw [h, hcx]
        · rfl
    rw [e]
    exact HM.out
  case round =>
    obtain ⟨k, v1, v2, hkm, rfl, hM, hr1, hr2, hF⟩ := hrel
    have HM1 := Lib.hid hM
    have HR1 := Lib.hid hr1
    have HR2 := Lib.hid hr2
    have HF := Lib.hid hF
    clear hM hr1 hr2 hF
    cases gk with
    | zero =>
      obtain rfl : k = 2 := by omega
      go_wp2_with fail
      refine bodyPost_end (results_none rfl _ _ _) rfl ⟨rfl, _, _, HM1.out, HR1.out, HR2.out, HF.out⟩
    | succ m =>
      obtain ⟨l, p, hl, hp, hp2, hlp⟩ : ∃ (l : Int) (p : Nat), w.cell? ⟨g, k, none⟩ = some (.int .i64 l) ∧ l + 24 = (p : Int) ∧ p < 49 ∧ (k = 0 ∧ p = px ∨ k = 1 ∧ p = py) := by
        rcases (show k = 0 ∨ k = 1 by omega) with rfl | rfl
        · exact ⟨x, px, h0, HX.out, hx2, .inl ⟨rfl, rfl⟩⟩
        · exact ⟨y, py, h1, HY.out, hy2, .inr ⟨rfl, rfl⟩⟩
      have hlr := HF.out.cell hl hgd
      have hpl := fun w => place_any l (by omega) w
      rw [hp] at hpl
      have HLP := Lib.hid hlp
      have q3 : (k : Int) < 2 := by omega
      have q4 : (0 : Int) ≤ (k : Int) := Int.natCast_nonneg _
      clear hl hp hlp
      go_upto_region 4 with fail
      have M2 : Mem wr.drew d _ := HM1.out.kept ((Fr.refl nob wr).drew) (fun h => h)
      have hv : upd (upd c (98 + px) v1) (98 + py) v2 (98 + p) = .slice none 0 0 := by
        rcases HLP.out with ⟨rfl, rfl⟩ | ⟨rfl, rfl⟩
        · have h := HR1.out; rw [if_neg (by omega)] at h; simp [upd, h]; intro e; omega
        · have h := HR2.out; rw [if_neg (by omega)] at h; simp [upd, h]
      have c0 : wr.drew.cell? ⟨d, 98 + p, none⟩ = some (.slice none 0 0) := by rw [← hv]; exact (M2 (98 + p) (by omega)).1
      have hc0 := Lib.hid c0
      have c1 := cell_alloc_l c0 (.cells #[.slice (some ⟨g, 0, none⟩) 2 cp] 37)
      have c2 : (wr.alloc (.cells #[.slice (some ⟨g, 0, none⟩) 2 cp] 37)).drew.cell? ⟨d, 98 + p, none⟩ = some (.slice none 0 0) := cell_alloc_l (W := wr) c0 (.cells #[.slice (some ⟨g, 0, none⟩) 2 cp] 37)
      have q1 : (0 : Int) ≤ (p : Int) := by omega
      have q2 : (p : Int) < 49 := by omega
      have HM2 := Lib.hid M2
      have HZ := Lib.hid (lt_of_cell c0)
      obtain ⟨i0, hi0, hz0, hz1, hz2⟩ := info_parts info_ints
      clear M2 hv
      go_region_law (first
        | (go_simp; go_at_call 57; (with_reducible refine (hpl _).mono ?_); rintro e w' ⟨rfl, rfl⟩; simp only [])
        | (refine step_append_grows (by rfl) _ _ _ (by rfl) 37 i0 _ 1 24 Try.underlying36 hi0 hz0 hz1 hz2 rfl (by decide) none 0 0 [] (by rfl) (fun _ => ⟨rfl, rfl⟩) rfl (fun b h => by cases h) ⟨wr.heap.size, 0, none⟩ 1 1 [.slice (some ⟨g, 0, none⟩) 2 cp] (by rfl) rfl (cell_one_new _ _ _) (by simp [Value.oneCell']) (by decide) (by unfold maxLen; decide) (by decide) ?_
           intro v' w5 own5 gr5
           have G5 : Fr nob wr.drew w5 := first_fr wr (.cells #[.slice (some ⟨g, 0, none⟩) 2 cp] 37) w5 gr5
           have M5 := HM2.out.kept G5 (fun h => h)
           have c5 : w5.cell? ⟨d, 98 + p, none⟩ = some (.slice none 0 0) := G5.cell hc0.out (fun h => h)
           have f5 := (M5 (98 + p) (by omega)).2
           obtain ⟨g', cap', rfl⟩ : ∃ g' cap', v' = .slice (some ⟨g', 0, none⟩) 1 cap' := by
             rcases own5.2 with ⟨rfl, h0⟩ | ⟨g', cap', cur, rfl, h1, h2, _⟩
             · simp at h0
             · exact ⟨g', cap', rfl⟩
           have HO5 := Lib.hid own5
           have HG5 := Lib.hid G5
           have HM5 := Lib.hid M5
           clear own5 G5 M5 gr5))
      all_goals (
        have S5 := fr_store w5 d (98 + p) (.slice (some ⟨g', 0, none⟩) 1 cap')
        have hgd' : d < g' := by
          have h1 := (HO5.out.lt g' rfl).1
          have h2 : d < wr.heap.size := HZ.out
          first
            | exact Nat.lt_of_lt_of_le h2 h1
            | exact Nat.lt_of_lt_of_le h2 (Nat.le_trans (by show wr.heap.size ≤ (wr.alloc _).heap.size; simp) h1)
        have HM6 := Lib.hid (HM5.out.set (98 + p) (.slice (some ⟨g', 0, none⟩) 1 cap'))
        have HN6 : Hid (row1 (w5.setCell ⟨d, 98 + p, none⟩ (.slice (some ⟨g', 0, none⟩) 1 cap')) d (.slice (some ⟨g, 0, none⟩) 2 cp) (.slice (some ⟨g', 0, none⟩) 1 cap')) := Lib.hid ⟨_, S5.row HO5.out (fun q hq e => by have h3 : g' = q := Option.some.inj hq; omega), fun q hq => by have h3 : g' = q := Option.some.inj hq; omega⟩
        have F6 : Fr (fun k => k = d) wr (w5.setCell ⟨d, 98 + p, none⟩ (.slice (some ⟨g', 0, none⟩) 1 cap')) := (((Fr.refl nob wr).drew.trans HG5.out (fun _ _ h => h)).mono (fun _ _ h => h.elim)).trans S5 (fun _ _ h => h)
        have HR6 := Lib.hid F6
        have HF6 := Lib.hid (HF.out.trans F6 (fun _ _ h => h))
        clear S5 hgd' c0 c1 c2 c5 f5 hlr F6
        generalize w5.setCell ⟨d, 98 + p, none⟩ (.slice (some ⟨g', 0, none⟩) 1 cap') = w6 at *
        go_wp2_with fail
        go_roundg m
        case measure => omega
        case rel =>
          rcases HLP.out with ⟨rfl, rfl⟩ | ⟨rfl, rfl⟩
          · refine ⟨1, .slice (some ⟨g', 0, none⟩) 1 cap', v2, by omega, by go_num, ?_, ?_, ?_, HF6.out⟩
            · have e : upd (upd (upd c (98 + p) v1) (98 + py) v2) (98 + p) (.slice (some ⟨g', 0, none⟩) 1 cap') = upd (upd c (98 + p) (.slice (some ⟨g', 0, none⟩) 1 cap')) (98 + py) v2 := by
                funext i; unfold upd; split
                · rw [if_neg (by omega)]
                · rfl
              rw [← e]; exact HM6.out
            · rw [if_pos (by decide)]; exact HN6.out
            · have h := HR2.out; rw [if_neg (by decide)] at h; rw [if_neg (by decide)]; exact h
          · refine ⟨2, v1, .slice (some ⟨g', 0, none⟩) 1 cap', by omega, by go_num, ?_, ?_, ?_, HF6.out⟩
            · have e : upd (upd (upd c (98 + px) v1) (98 + p) v2) (98 + p) (.slice (some ⟨g', 0, none⟩) 1 cap') = upd (upd c (98 + px) v1) (98 + p) (.slice (some ⟨g', 0, none⟩) 1 cap') := by
                funext i; unfold upd; split <;> rfl
              rw [← e]; exact HM6.out
            · have h := HR1.out; rw [if_pos (by decide)] at h; rw [if_pos (by decide)]; exact h.kept HR6.out
            · rw [if_pos (by decide)]; exact HN6.out)
end Go.Proofs.Ytaojojjdfdlgpaa
