import Derived.Test.YtaojojjdfdlgpaaQb
import Derived.OwnWalk
import Derived.Maps.AppendAt
import Derived.Laws.OwnMore
import Derived.Deep.RegionWith
import Derived.Lib.Builder
namespace Go.Proofs.Ytaojojjdfdlgpaa
open Go.RowKit

/-! Solve: what is known, a block of 152 cells -/
def Mem (w : World) (d : Nat) (c : Nat → Value) : Prop := ∀ i, i < 152 → w.cell? ⟨d, i, none⟩ = some (c i) ∧ w.frozen? ⟨d, i, none⟩ = false
def upd (c : Nat → Value) (i : Nat) (v : Value) : Nat → Value := fun k => if k = i then v else c k
theorem Mem.kept {S : Nat → Prop} {w w' : World} {d : Nat} {c : Nat → Value} (h : Mem w d c) (f : Fr S w w') (hS : ¬ S d) : Mem w' d c := fun i hi =>
  ⟨f.cell (h i hi).1 hS, (f.frozen (lt_of_cell (h i hi).1) hS).trans (h i hi).2⟩
theorem frozen_setCell (w : World) (a : Addr) (v : Value) (p : Addr) : (w.setCell a v).frozen? p = w.frozen? p := by
  first | exact World.frozen?_setCell _ _ _ _ | simp
theorem Mem.set {w : World} {d : Nat} {c : Nat → Value} (h : Mem w d c) (j : Nat) (v : Value) : Mem (w.setCell ⟨d, j, none⟩ v) d (upd c j v) := fun i hi => by
  refine ⟨?_, (frozen_setCell _ _ _ _).trans (h i hi).2⟩
  by_cases e : i = j
  · subst e
    rw [World.cell?_setCell_same' _ _ _ (by rw [(h i hi).1]; rfl)]
    simp [upd]
  · have hne : (⟨d, j, none⟩ : Addr) ≠ ⟨d, i, none⟩ := fun e' => e (by injection e' with _ e2 _; exact e2.symm)
    have h4 := (h i hi).1
    rw [World.cell?_setCell_other (h := hne), h4]
    simp [upd, e]
theorem wrap_neg (l : Int) (hl : -100 ≤ l ∧ l ≤ 100) : IntKind.i64.wrap (-l) = -l := by
  obtain ⟨h1, h2⟩ := hl
  rw [IntKind.wrap_i64]; omega
theorem info_int : (Try.prog.info? 3).map (fun i => (i.zero, i.size, i.bytes)) = some (some (.int .i64 0), 1, 8) := by kernel_rfl
theorem place_any (l : Int) (hl : -100 ≤ l ∧ l ≤ 100) (w : World) : Calls Try.prog 57 #[.int .i64 l] w fun e w' => e = .returned (.int .i64 (l + 24)) ∧ w = w' := by
  obtain ⟨h1, h2⟩ := hl
  go_enter Try.func57, Try.ntmps57
  go_wp2_with fail
  go_ret
  exact ⟨rfl, rfl⟩
theorem note_old (d : Nat) (c : Nat → Value) (l : Int) (p : Nat) (rv : Value) (w : World) (hp : l + 24 = (p : Int)) (hp2 : p < 49) (hM : Mem w d c) (hc : c p = .bool true) :
    Calls Try.prog 88 #[.pointer (some ⟨d, 0, none⟩), .int .i64 l, rv] w fun e w' => e = .returned (.bool true) ∧ Fr nob w w' := by
  have hpl := fun w => place_any l (by omega) w
  rw [hp] at hpl
  have c0 : w.drew.cell? ⟨d, p, none⟩ = some (.bool true) := by rw [← hc]; exact (hM p (by omega)).1
  have q1 : (0 : Int) ≤ (p : Int) := by omega
  have q2 : (p : Int) < 49 := by omega
  clear hM hp
  go_enter Try.func88, Try.ntmps88
  go_wp2_with fail
  go_region_with (go_at_call 57; (with_reducible refine (hpl _).mono ?_); rintro e w' ⟨rfl, rfl⟩)
  go_wp2_with fail
  go_ret
  exact ⟨rfl, (Fr.refl nob w).drew⟩
set_option maxRecDepth 100000 in
set_option maxHeartbeats 1000000 in
theorem note_new (B d : Nat) (c : Nat → Value) (l : Int) (p q n : Nat) (xs : List Value) (rv : Value) (w : World) (hrv : ∃ a m k, rv = .slice a m k) (hp : l + 24 = (p : Int)) (hp2 : p < 49) (hq : -l + 24 = (q : Int)) (hq2 : q < 49)
    (hM : Mem w d c) (hc : c p = .bool false) (hcq : c q = .bool false) (hB : B ≤ w.heap.size) (hown : w.ownsRow B 3 1 (c 147) n xs) (hn : n ≤ 1000000) (hod : (c 147).ownBlock ≠ some d) (hdB : d < w.heap.size) :
    Calls Try.prog 88 #[.pointer (some ⟨d, 0, none⟩), .int .i64 l, rv] w fun e w' => e = .returned (.bool true) ∧ ∃ v', Mem w' d (upd (upd (upd c p (.bool true)) (49 + p) rv) 147 v') ∧ w'.ownsRow B 3 1 v' (n + 1) (xs ++ [.int .i64 l]) ∧ v'.ownBlock ≠ some d ∧ Fr (fun k => k = d ∨ (c 147).ownBlock = some k) w w' := by
  have hpl := fun w => place_any l (by omega) w
  have hpq := fun w => place_any (-l) (by omega) w
  rw [hp] at hpl
  rw [hq] at hpq
  rw [← wrap_neg l (by omega)] at hpq
  obtain ⟨ra, rm, rk, rfl⟩ := hrv
  have M1 : Mem w.drew d c := hM.kept ((Fr.refl nob w).drew) (fun h => h)
  have c0 : w.drew.cell? ⟨d, p, none⟩ = some (.bool false) := by rw [← hc]; exact (M1 p (by omega)).1
  have q1 : (0 : Int) ≤ (p : Int) := by omega
  have q2 : (p : Int) < 49 := by omega
  have q3 : (0 : Int) ≤ (q : Int) := by omega
  have q4 : (q : Int) < 49 := by omega
  have HM1 := Lib.hid M1
  have HOWN := Lib.hid hown
  have HF1 := Lib.hid ((Fr.refl nob w).drew)
  clear hM M1 hp hq hown
  go_enter Try.func88, Try.ntmps88
  go_wp2_with fail
  go_region_with (go_at_call 57; (with_reducible refine (hpl _).mono ?_); rintro e w' ⟨rfl, rfl⟩)
  clear c0
  generalize w.drew = w1 at *
  have M2 : Mem w1.drew d c := HM1.out.kept ((Fr.refl nob _).drew) (fun h => h)
  have c0 : w1.drew.cell? ⟨d, q, none⟩ = some (.bool false) := by rw [← hcq]; exact (M2 q (by omega)).1
  have HM2 := Lib.hid M2
  have HF2 := Lib.hid (HF1.out.drew)
  clear M2 HM1 HF1
  go_wp2_with fail
  go_region_with (go_at_call 57; (with_reducible refine (hpq _).mono ?_); rintro e w' ⟨rfl, rfl⟩)
  clear c0
  generalize w1.drew = w2 at *
  have M3 : Mem w2.drew d c := HM2.out.kept ((Fr.refl nob _).drew) (fun h => h)
  have c0 : w2.drew.cell? ⟨d, p, none⟩ = some (.bool false) := by rw [← hc]; exact (M3 p (by omega)).1
  have f0 : w2.drew.frozen? ⟨d, p, none⟩ = false := (M3 p (by omega)).2
  have HM3 : Hid (Mem (w2.setCell ⟨d, p, none⟩ (.bool true)).drew d (upd c p (.bool true))) := Lib.hid (HM2.out.set p (.bool true) |>.kept ((Fr.refl nob _).drew) (fun h => h))
  have HF3 := Lib.hid (((HF2.out.mono (T := fun k => k = d) (fun _ _ h => h.elim)).setCell (p := ⟨d, p, none⟩) (fun _ => rfl) (.bool true)).drew)
  clear M3 HM2 HF2
  go_wp2_with fail
  go_region_with (go_at_call 57; (with_reducible refine (hpl _).mono ?_); rintro e w' ⟨rfl, rfl⟩)
  clear c0 f0
  generalize (w2.setCell ⟨d, p, none⟩ (.bool true)).drew = w3 at *
  have M4 : Mem w3.drew d (upd c p (.bool true)) := HM3.out.kept ((Fr.refl nob w3).drew) (fun h => h)
  obtain ⟨c4, f4⟩ := M4 (49 + p) (by omega)
  have HM4 := Lib.hid ((HM3.out.set (49 + p) (.slice ra rm rk)).kept ((Fr.refl nob _).drew) (fun h => h))
  have HF4 := Lib.hid ((HF3.out.setCell (p := ⟨d, 49 + p, none⟩) (fun _ => rfl) (.slice ra rm rk)).drew)
  clear M4 HM3 HF3
  go_wp2_with fail
  go_region_with (go_at_call 57; (with_reducible refine (hpl _).mono ?_); rintro e w' ⟨rfl, rfl⟩)
  clear c4 f4
  generalize (w3.setCell ⟨d, 49 + p, none⟩ (.slice ra rm rk)).drew = w4 at *
  have c5 := (HM4.out 147 (by omega)).1
  rw [show upd (upd c p (.bool true)) (49 + p) (.slice ra rm rk) 147 = c 147 by unfold upd; rw [if_neg (by omega), if_neg (by omega)]] at c5
  have hown4 := HF4.out.row HOWN.out (fun g hg e => hod (by rw [hg, e]))
  obtain ⟨i0, hi0, hz0, hz1, hz2⟩ := info_parts info_int
  obtain ⟨tv, htv⟩ : ∃ tv, c 147 = tv := ⟨_, rfl⟩
  rw [htv] at c5 hown4 hod
  have HTV := Lib.hid htv
  have HOWN4 := Lib.hid hown4
  clear htv hown4 HOWN
  go_wp2_with (at_builtin; refine wpList_append_own_at _ rfl _ _ 37 rfl B 3 i0 (.int .i64 0) 1 8 Try.underlying37 hi0 hz0 hz1 hz2 rfl (by decide) tv n xs rfl (HOWN4.out.alloc _) ⟨w4.heap.size, 0, none⟩ 1 1 [.int .i64 l] rfl ?c1 ?c2 ?c3 ?c4 ?c5 ?c6 ?_)
  case c1 => rfl
  case c2 => exact cell_one_new _ _ _
  case c3 => intro u hu; simp at hu; subst hu; rfl
  case c4 => unfold maxLen; omega
  case c5 => omega
  case c6 => have := HF4.out.size; simp; omega
  intro v' w5 own5 gr5 _ hat
  have hlt4 : d < w4.heap.size := Nat.lt_of_lt_of_le hdB HF4.out.size
  have A4 : Fr nob w4 (w4.alloc (.cells #[.int .i64 l] 3)) := (Fr.refl nob w4).alloc _
  have G5 : Fr (fun k => tv.ownBlock = some k) (w4.alloc (.cells #[.int .i64 l] 3)) w5 := (Fr.refl (fun k => tv.ownBlock = some k) _).grown gr5 (fun k hk _ => hk)
  have G45 := (A4.mono (T := fun k => tv.ownBlock = some k) (fun _ _ h => h.elim)).trans G5 (fun _ _ h => h)
  have M5 := HM4.out.kept G45 hod
  obtain ⟨c6, f6⟩ := M5 147 (by omega)
  have hvd : v'.ownBlock ≠ some d := by
    rcases hat with h | h
    · rw [h]; exact hod
    · rw [h]; intro e; have := Option.some.inj e; omega
  obtain ⟨g', cap', hv'⟩ : ∃ g' cap', v' = .slice (some ⟨g', 0, none⟩) (n + 1) cap' := by
    rcases own5.2 with ⟨rfl, h0⟩ | ⟨g', cap', cur, rfl, h1, h2, _⟩
    · simp at h0
    · exact ⟨g', cap', rfl⟩
  subst hv'
  have HM6 := Lib.hid (M5.set 147 (.slice (some ⟨g', 0, none⟩) (n + 1) cap'))
  have S5 := fr_store w5 d 147 (.slice (some ⟨g', 0, none⟩) (n + 1) cap')
  have HO6 := Lib.hid (S5.row own5 (fun g hg e => hvd (by rw [hg, e])))
  have HF6 := Lib.hid (((HF4.out.mono (T := fun k => k = d ∨ tv.ownBlock = some k) (fun _ _ h => .inl h)).trans G45 (fun _ _ h => .inr h)).trans S5 (fun _ _ h => .inl h))
  have HVD := Lib.hid hvd
  clear own5 gr5 hat A4 G5 G45 M5 S5 hvd HM4 HF4 c5
  go_wp2_with fail
  go_ret
  refine ⟨rfl, _, HM6.out, HO6.out, HVD.out, ?_⟩
  rw [HTV.out]
  exact HF6.out
end Go.Proofs.Ytaojojjdfdlgpaa
