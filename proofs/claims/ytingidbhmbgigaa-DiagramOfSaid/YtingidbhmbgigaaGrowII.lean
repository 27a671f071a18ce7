import Derived.Test.YtingidbhmbgigaaGrowI
namespace Go.Proofs.Ytingidbhmbgigaa
open Go.RowKit
open Bd

set_option maxRecDepth 100000 in
set_option maxHeartbeats 1000000 in
/-- 'grow' MAKES THE SET OF ITS KEY. -/
theorem growI_any {sem : Nat → B} {val : Nat → Prop} {mu : Nat → Nat} {sp : Nat → Nat × Nat × Nat} (S : Spl sem val mu sp) (ch : Value) (hval : ∀ k, val k → k < 4294967296)
    (w : World) (hsp : ∀ k W, val k → Below w.heap.size w W → Calls Try.prog 20 #[ch, kk k] W fun e w' => e = .returned (.tuple #[.int .i64 ((sp k).1 : Int), kk (sp k).2.1, kk (sp k).2.2]) ∧ Below W.heap.size W w')
    (k : Nat) (hv : val k) (hok : (sem k).ok 0) :
    Calls Try.prog 19 #[kk k, .func (.func 20) #[ch] #[]] w fun e w' => e = .returned (dval (sem k)) ∧ Below w.heap.size w w' := by
  have hmm := @run_makeMap Try.prog
  have hmf : ∀ (fn : Fn) (first cap : Array Value) (w : World), (Instr.makeFunc fn first cap).run Try.prog w = .ok (.func fn first cap) w := fun _ _ _ _ => rfl
  go_enter Try.func19, Try.ntmps19
  go_wp2_with fail
  refine (newWork_any _).mono ?_
  rintro e w1 ⟨wb, mb, rfl, hW1, fr1, lwb, lmb⟩
  go_wp2_with fail
  have d0 : w1.cell? ⟨w.heap.size + 1, 0, none⟩ = some (.int .u32 0) := fr1.cell (World.cell?_alloc_at _ _ _ _ (by simp)) (fun h => h)
  have d1 : w1.cell? ⟨w.heap.size + 1, 1, none⟩ = some (.string ⟨#[]⟩) := fr1.cell (World.cell?_alloc_at _ _ _ _ (by simp)) (fun h => h)
  have z1 : w.heap.size + 2 ≤ w1.heap.size := by have := fr1.size; simp at this; omega
  have df : w1.frozen? ⟨w.heap.size + 1, 0, none⟩ = false := (fr1.frozen (p := ⟨w.heap.size + 1, 0, none⟩) (by simp) (fun h => h)).trans (World.frozen?_alloc_at _ _ _ _ (by simp))
  have dg : w1.frozen? ⟨w.heap.size + 1, 1, none⟩ = false := (fr1.frozen (p := ⟨w.heap.size + 1, 1, none⟩) (by simp) (fun h => h)).trans (World.frozen?_alloc_at _ _ _ _ (by simp))
  have G := gr_start (kt := 3) (enc := kk) (sem := sem) (vf := 38) (T1 := 71) (T2 := 73) (T3 := 74) hW1 fr1 lwb lmb (b1 := w.heap.size) (fv := .func (.func 20) #[ch] #[]) (cell_alloc_l (World.cell?_alloc_at _ _ _ _ rfl) _)
  have fr2 := fr_gw2 w1 wb w.heap.size 38 71 73 74
  change Code.wp _ _ _ _ (gw2 w1 wb w.heap.size 38 71 73 74)
  generalize gw2 w1 wb w.heap.size 38 71 73 74 = W2 at *
  have frw : Fr nob w W2 := (((Fr.refl nob w).alloc _).alloc _).trans (fr1.trans fr2 (fun _ _ h => h)) (fun _ _ h => h)
  replace d0 := fr2.cell d0 (fun h => h)
  replace d1 := fr2.cell d1 (fun h => h)
  replace df := (fr2.frozen (p := ⟨w.heap.size + 1, 0, none⟩) (by simp; omega) (fun h => h)).trans df
  replace dg := (fr2.frozen (p := ⟨w.heap.size + 1, 1, none⟩) (by simp; omega) (fun h => h)).trans dg
  have c3 := G.caps.c3
  have c4 := G.caps.c4
  have hs := small_li hok
  simp only [World.size_alloc] at lwb lmb
  have nd : ∀ k, k < w.heap.size + 2 → ¬ foot4 wb mb (w1.heap.size + 1) (.slice none 0 0) k := by
    rintro k hk (h | h)
    · rcases h with h | h | h
      · omega
      · omega
      · cases h
    · omega
  have hnf : ∀ k, foot4 wb mb (w1.heap.size + 1) (.slice none 0 0) k → w.heap.size ≤ k := fun k h => Classical.byContradiction fun hk => nd k (by omega) h
  have hvis := fun W' (h : Fr nob W2 W') => visitI S ch hval w hsp wb mb (w1.heap.size + 1) w.heap.size (w1.heap.size + 1 + 1) (w1.heap.size + 1 + 1 + 1) w1.heap.size _ k W' (.slice none 0 0) (fun _ => none) [] (Nat.lt_succ_self _) hv (G.keptNew h) hs ((frw.trans h (fun _ _ h => h)).to_below (Nat.le_refl _) (fun _ h => h.elim)) hnf
  clear hmm hmf hsp hval S hW1 fr1 fr2
  go_region_held3 (fun w' => w'.cell? ⟨w1.heap.size + 1 + 1 + 1, 0, none⟩ = some (.func (.func 38) #[] #[.pointer (some ⟨w.heap.size, 0, none⟩), .pointer (some ⟨w1.heap.size + 1 + 1, 0, none⟩), .pointer (some ⟨w1.heap.size + 1 + 1 + 1, 0, none⟩), .pointer (some ⟨w1.heap.size, 0, none⟩)]) ∧
      w'.cell? ⟨w1.heap.size, 0, none⟩ = some (.pointer (some ⟨wb, 0, none⟩)))
    (first | go_keep | (go_split_ands; exact ⟨c33, c43⟩) | (go_split_ands; exact ⟨c34, c44⟩) | (go_split_ands; refine ⟨?_, ?_⟩ <;> (rw [World.cell?_setCell_other _ _ _ _ (by simp <;> omega), World.cell?_setCell_other _ _ _ _ (by simp <;> omega)]; assumption)))
    (first
      | (go_at_call 38
         refine (hvis _ ?_).mono ?_
         · exact (Fr.refl _ _).drew
         rintro e w3 ⟨v3, mf3, rfl, hG3, fr3, src3, _⟩
         have c33 := hG3.caps.c3
         have c43 := hG3.caps.c4)
      | (go_at_call 40
         refine (set_any wb mb v3 _ _ _ hG3.work).mono ?_
         rintro e w4 ⟨rfl, hb4⟩
         have fr4 := (Fr.refl nob w3).below hb4
         have c34 := fr4.cell c33 (fun h => h)
         have c44 := fr4.cell c43 (fun h => h)
         have e04 := fr4.cell (fr3.cell d0 (nd _ (by simp))) (fun h => h)
         have e14 := fr4.cell (fr3.cell d1 (nd _ (by simp))) (fun h => h)
         have ef4 := (fr4.frozen (p := ⟨w.heap.size + 1, 0, none⟩) (by have := lt_of_cell (fr3.cell d0 (nd _ (by simp))); exact this) (fun h => h)).trans ((fr3.frozen (p := ⟨w.heap.size + 1, 0, none⟩) (lt_of_cell d0) (nd _ (by simp))).trans df)
         have ef5 := (fr4.frozen (p := ⟨w.heap.size + 1, 1, none⟩) (by have := lt_of_cell (fr3.cell d1 (nd _ (by simp))); exact this) (fun h => h)).trans ((fr3.frozen (p := ⟨w.heap.size + 1, 1, none⟩) (lt_of_cell d1) (nd _ (by simp))).trans dg)))
  go_wp2
  refine bodyPost_ret (v := dval (sem k)) (by simp [results, Try.results19, go_sem, e04, e14, li]) rfl ⟨rfl, ?_⟩
  have nb : ∀ k, k < w.heap.size → ¬ foot4 wb mb (w1.heap.size + 1) (.slice none 0 0) k := fun k hk => nd k (by omega)
  exact ((((frw.drew.trans' fr3 (T := fun k => w.heap.size ≤ k) (fun _ _ h => h.elim) (fun k hk h => absurd h (nb k hk))).below hb4).setCell (p := ⟨w.heap.size + 1, 0, none⟩) (by simp <;> omega) _).setCell (p := ⟨w.heap.size + 1, 1, none⟩) (by simp <;> omega) _).to_below (Nat.le_refl _) (fun _ h => h)
end Go.Proofs.Ytingidbhmbgigaa
