import Derived.Test.YtaojojjdfdlgpaaQbd
namespace Go.Proofs.Ytaojojjdfdlgpaa
open Go.RowKit

/-! look: nothing is watched -/
theorem upd_same (c : Nat → Value) (i : Nat) (v : Value) (h : c i = v) : upd c i v = c := by
  funext k; unfold upd; split
  · rename_i e; rw [e, h]
  · rfl
theorem look_nil (d : Nat) (c : Nat → Value) (l : Int) (p : Nat) (w : World) (hp : l + 24 = (p : Int)) (hp2 : p < 49) (hM : Mem w d c) (hc : c (98 + p) = .slice none 0 0) :
    Calls Try.prog 116 #[.pointer (some ⟨d, 0, none⟩), .int .i64 l] w fun e w' => e = .returned (.bool true) ∧ Mem w' d c ∧ Fr (fun k => k = d) w w' := by
  have hpl := fun w => place_any l (by omega) w
  rw [hp] at hpl
  have M1 : Mem w.drew d c := hM.kept ((Fr.refl nob w).drew) (fun h => h)
  have c0 : w.drew.cell? ⟨d, 98 + p, none⟩ = some (.slice none 0 0) := by rw [← hc]; exact (M1 (98 + p) (by omega)).1
  have q1 : (0 : Int) ≤ (p : Int) := by omega
  have q2 : (p : Int) < 49 := by omega
  have HM1 := Lib.hid M1
  have HF1 := Lib.hid ((Fr.refl (fun k => k = d) w).drew)
  clear hM M1 hp
  go_enter Try.func116, Try.ntmps116
  go_wp2_with fail
  go_region_with (go_at_call 57; (with_reducible refine (hpl _).mono ?_); rintro e w' ⟨rfl, rfl⟩)
  clear c0
  generalize w.drew = w1 at *
  go_wp2_with fail
  go_loopg [6, 20] 0 (fun m kv iv wr => m = 0 ∧ kv = .slice none 0 0 ∧ iv = .int .i64 0 ∧ w1 = wr)
  case atStart => exact ⟨rfl, rfl, rfl, rfl⟩
  case round =>
    obtain ⟨rfl, rfl, rfl, rfl⟩ := hrel
    have M2 : Mem w1.drew d c := HM1.out.kept ((Fr.refl nob w1).drew) (fun h => h)
    obtain ⟨c1, f1⟩ := M2 (98 + p) (by omega)
    rw [hc] at c1
    have HM2 : Hid (Mem (w1.setCell ⟨d, 98 + p, none⟩ (.slice none 0 0)).drew d c) := Lib.hid (by
      have h := (HM1.out.set (98 + p) (.slice none 0 0)).kept ((Fr.refl nob _).drew) (fun h => h)
      rw [upd_same c _ _ hc] at h
      exact h)
    have HF2 := Lib.hid ((HF1.out.setCell (p := ⟨d, 98 + p, none⟩) (fun _ => rfl) (.slice none 0 0)).drew)
    clear M2 HM1 HF1
    go_wp2_with fail
    go_region_with (go_at_call 57; (with_reducible refine (hpl _).mono ?_); rintro e w' ⟨rfl, rfl⟩)
    clear c1 f1
    generalize (w1.setCell ⟨d, 98 + p, none⟩ (.slice none 0 0)).drew = w2 at *
    go_wp2_with fail
    go_ret
    exact ⟨rfl, HM2.out, HF2.out⟩
set_option maxRecDepth 100000 in
/-- propagate: one round for each literal that was not looked at yet -/
theorem propagate_gen (d N : Nat) (St : Nat → World → Prop) (w : World) (i0 : Nat) (hi : i0 ≤ N) (hN : N ≤ 1000)
    (hst : ∀ i w, i ≤ N → St i w → ∃ c g n cp l, Mem w d c ∧ c 148 = .int .i64 (i : Int) ∧ c 147 = .slice (some ⟨g, 0, none⟩) n cp ∧ n ≤ 1000 ∧ (i = N → n = N) ∧ (i < N → i < n ∧ -100 ≤ l ∧ l ≤ 100 ∧ w.cell? ⟨g, i, none⟩ = some (.int .i64 l) ∧
      ∀ w1, Mem w1 d (upd c 148 (.int .i64 ((i : Int) + 1))) → Fr (fun k => k = d) w w1 → Calls Try.prog 116 #[.pointer (some ⟨d, 0, none⟩), .int .i64 (-l)] w1 fun e w' => e = .returned (.bool true) ∧ St (i + 1) w'))
    (hdrew : ∀ i w, St i w → St i w.drew) (hs0 : St i0 w) :
    Calls Try.prog 89 #[.pointer (some ⟨d, 0, none⟩)] w fun e w' => e = .returned (.bool true) ∧ St N w' := by
  have HST := Lib.hid hst
  have HS0 := Lib.hid hs0
  clear hst hs0
  go_enter Try.func89, Try.ntmps89
  go_wp2_with fail
  go_loopg [2] (N - i0) (fun m iv wr => ∃ i : Nat, i + m = N ∧ iv = .bool false ∧ St i wr)
  case atStart => exact ⟨i0, by omega, rfl, HS0.out⟩
  case round =>
    obtain ⟨i, him, rfl, hs⟩ := hrel
    obtain ⟨c, g, n, cp, l, hM, h148, h147, hn, hend, hgo⟩ := HST.out i wr (by omega) hs
    have M1 : Mem wr.drew d c := hM.kept ((Fr.refl nob wr).drew) (fun h => h)
    have c8 := (M1 148 (by omega)).1
    have c7 := (M1 147 (by omega)).1
    rw [h148] at c8
    rw [h147] at c7
    have HM := Lib.hid hM
    have HS := Lib.hid hs
    have HG := Lib.hid hgo
    have HE := Lib.hid hend
    have H148 := Lib.hid h148
    have H147 := Lib.hid h147
    clear hM M1 h148 h147 hs hgo hend HS0
    go_wp2_with fail
    go_region
    clear c7 c8
    have D1 : Fr nob wr wr.drew := (Fr.refl nob wr).drew
    rcases Nat.lt_or_ge i N with hlt | hge
    · obtain ⟨hin, hl1, hl2, hcl, hcall⟩ := HG.out hlt
      cases gk with
      | zero => omega
      | succ m =>
        have q0 : i < n := hin
        have M1 := HM.out.kept D1 (fun h => h)
        have HD1 := Lib.hid D1
        clear D1 hin
        have hcl1 : wr.drew.cell? ⟨g, i, none⟩ = some (.int .i64 l) := hcl
        generalize wr.drew = w1 at *
        have M2 : Mem w1.drew d c := M1.kept ((Fr.refl nob w1).drew) (fun h => h)
        have c8 := (M2 148 (by omega)).1
        have c7 := (M2 147 (by omega)).1
        rw [H148.out] at c8
        rw [H147.out] at c7
        have hcl2 : w1.drew.cell? ⟨g, i, none⟩ = some (.int .i64 l) := hcl1
        have q1 : (0 : Int) ≤ (i : Int) := Int.natCast_nonneg _
        have q2 : (i : Int) < (n : Int) := by omega
        have HM2 := Lib.hid M2
        have HD2 := Lib.hid (HD1.out.drew)
        clear M1 M2 hcl hcl1 HM HD1
        go_wp2_with fail
        go_region
        clear c7 c8 hcl2 q2
        generalize w1.drew = w2 at *
        obtain ⟨c9, f9⟩ := HM2.out 148 (by omega)
        rw [H148.out] at c9
        have HM3 := Lib.hid (HM2.out.set 148 (.int .i64 ((i : Int) + 1)))
        have HD3 := Lib.hid ((HD2.out.mono (T := fun k => k = d) (fun _ _ h => h.elim)).setCell (p := ⟨d, 148, none⟩) (fun _ => rfl) (.int .i64 ((i : Int) + 1)))
        have hC := hcall _ HM3.out HD3.out
        clear hcall HM2 HD2
        go_wp2_with fail
        with_reducible refine hC.mono (fun e w3 h => ?_)
        have HS3 := Lib.hid h.2
        have he := h.1
        clear h hC c9 f9
        subst he
        go_wp2_with fail
        go_roundg m
        case measure => omega
        case rel => exact ⟨i + 1, by omega, rfl, HS3.out⟩
    · obtain rfl : i = N := by omega
      have q0 : ¬ i < n := by have := HE.out rfl; omega
      have HS2 : Hid (St i wr.drew) := Lib.hid (hdrew _ _ HS.out)
      clear D1
      go_wp2_with fail
      go_ret
      exact ⟨rfl, HS2.out⟩
end Go.Proofs.Ytaojojjdfdlgpaa
