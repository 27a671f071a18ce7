import Derived.Test.YtfhjpldlhhgcnaaDoorGrowT
import Derived.Deep.RegionWith
import Derived.Laws.EntriesVeiled
namespace Go.Proofs.YtfhjpldlhhgcnaaDoor
open Go.RowKit
open Bd

set_option maxRecDepth 100000 in
set_option maxHeartbeats 1000000 in
/-- 'grow' MAKES THE SET OF ITS KEY. -/
theorem growT_any {sem : (Nat × Nat × Nat) → B} {val : (Nat × Nat × Nat) → Prop} {mu : (Nat × Nat × Nat) → Nat} {sp : (Nat × Nat × Nat) → Nat × (Nat × Nat × Nat) × (Nat × Nat × Nat)} (S : Spl sem val mu sp) (ch : Value)
    (hval : ∀ k, val k → k.1 < 4294967296 ∧ k.2.1 < 4294967296 ∧ k.2.2 < 4294967296)
    (hsp : ∀ k w, val k → Calls Tryd.prog 80 #[ch, tk k] w fun e w' => e = .returned (.tuple #[.int .i64 ((sp k).1 : Int), tk (sp k).2.1, tk (sp k).2.2]) ∧ Below w.heap.size w w')
    (k : Nat × Nat × Nat) (w : World) (hv : val k) (hok : (sem k).ok 0) :
    Calls Tryd.prog 79 #[tk k, .func (.func 80) #[ch] #[]] w fun e w' => e = .returned (dval (sem k)) ∧ Below w.heap.size w w' := by
  have hmm := @run_makeMap Tryd.prog
  have hmf : ∀ (fn : Fn) (first cap : Array Value) (w : World), (Instr.makeFunc fn first cap).run Tryd.prog w = .ok (.func fn first cap) w := fun _ _ _ _ => rfl
  obtain ⟨a, b, c⟩ := k
  go_enter Tryd.func79, Tryd.ntmps79
  go_wp2_with fail
  refine (newWork_any _).mono ?_
  rintro e w1 ⟨wb, mb, rfl, hW1, fr1, lwb, lmb⟩
  go_wp2_with fail
  have k0 : w1.cell? ⟨w.heap.size, 0, none⟩ = some (.int .u32 (a : Int)) := fr1.cell (cell_alloc_l (cell_alloc_l (World.cell?_alloc_at _ _ _ _ rfl) _) _) (fun h => h)
  have k1 : w1.cell? ⟨w.heap.size, 1, none⟩ = some (.int .u32 (b : Int)) := fr1.cell (cell_alloc_l (cell_alloc_l (World.cell?_alloc_at _ _ _ _ rfl) _) _) (fun h => h)
  have k2 : w1.cell? ⟨w.heap.size, 2, none⟩ = some (.int .u32 (c : Int)) := fr1.cell (cell_alloc_l (cell_alloc_l (World.cell?_alloc_at _ _ _ _ rfl) _) _) (fun h => h)
  have d0 : w1.cell? ⟨w.heap.size + 1 + 1, 0, none⟩ = some (.int .u32 0) := fr1.cell (World.cell?_alloc_at _ _ _ _ (by simp)) (fun h => h)
  have d1 : w1.cell? ⟨w.heap.size + 1 + 1, 1, none⟩ = some (.string ⟨#[]⟩) := fr1.cell (World.cell?_alloc_at _ _ _ _ (by simp)) (fun h => h)
  have z1 : w.heap.size + 3 ≤ w1.heap.size := by have := fr1.size; simp at this; omega
  have df : w1.frozen? ⟨w.heap.size + 1 + 1, 0, none⟩ = false := (fr1.frozen (p := ⟨w.heap.size + 1 + 1, 0, none⟩) (by simp) (fun h => h)).trans (World.frozen?_alloc_at _ _ _ _ (by simp))
  have dg : w1.frozen? ⟨w.heap.size + 1 + 1, 1, none⟩ = false := (fr1.frozen (p := ⟨w.heap.size + 1 + 1, 1, none⟩) (by simp) (fun h => h)).trans (World.frozen?_alloc_at _ _ _ _ (by simp))
  have G := gr_start (kt := 116) (enc := tk) (sem := sem) (vf := 122) (T1 := 96) (T2 := 168) (T3 := 169) hW1 fr1 lwb lmb (b1 := w.heap.size + 1) (fv := .func (.func 80) #[ch] #[]) (cell_alloc_l (World.cell?_alloc_at _ _ _ _ (by simp)) _)
  have fr2 := fr_gw2 w1 wb (w.heap.size + 1) 122 96 168 169
  change Code.wp _ _ _ _ (gw2 w1 wb (w.heap.size + 1) 122 96 168 169)
  generalize gw2 w1 wb (w.heap.size + 1) 122 96 168 169 = W2 at *
  have frw : Fr nob w W2 := ((((Fr.refl nob w).alloc _).alloc _).alloc _).trans (fr1.trans fr2 (fun _ _ h => h)) (fun _ _ h => h)
  replace k0 := fr2.cell k0 (fun h => h)
  replace k1 := fr2.cell k1 (fun h => h)
  replace k2 := fr2.cell k2 (fun h => h)
  replace d0 := fr2.cell d0 (fun h => h)
  replace d1 := fr2.cell d1 (fun h => h)
  replace df := (fr2.frozen (p := ⟨w.heap.size + 1 + 1, 0, none⟩) (by simp; omega) (fun h => h)).trans df
  replace dg := (fr2.frozen (p := ⟨w.heap.size + 1 + 1, 1, none⟩) (by simp; omega) (fun h => h)).trans dg
  have c3 := G.caps.c3
  have c4 := G.caps.c4
  have hs := small_li hok
  simp only [World.size_alloc] at lwb lmb
  have nd : ∀ k, k < w.heap.size + 3 → ¬ foot4 wb mb (w1.heap.size + 1) (.slice none 0 0) k := by
    rintro k hk (h | h)
    · rcases h with h | h | h
      · omega
      · omega
      · cases h
    · omega
  have hvis := fun W' (h : Fr nob W2 W') => visitT S ch hval hsp wb mb (w1.heap.size + 1) (w.heap.size + 1) (w1.heap.size + 1 + 1) (w1.heap.size + 1 + 1 + 1) w1.heap.size _ (a, b, c) W' (.slice none 0 0) (fun _ => none) [] (Nat.lt_succ_self _) hv (G.keptNew h) hs
  clear hmm hmf hsp hval S hW1 fr1 fr2
  go_region_held3 (fun w' => w'.cell? ⟨w.heap.size, 0, none⟩ = some (.int .u32 (a : Int)) ∧ w'.cell? ⟨w.heap.size, 1, none⟩ = some (.int .u32 (b : Int)) ∧ w'.cell? ⟨w.heap.size, 2, none⟩ = some (.int .u32 (c : Int)) ∧
      w'.cell? ⟨w1.heap.size + 1 + 1 + 1, 0, none⟩ = some (.func (.func 122) #[] #[.pointer (some ⟨w.heap.size + 1, 0, none⟩), .pointer (some ⟨w1.heap.size + 1 + 1, 0, none⟩), .pointer (some ⟨w1.heap.size + 1 + 1 + 1, 0, none⟩), .pointer (some ⟨w1.heap.size, 0, none⟩)]) ∧
      w'.cell? ⟨w1.heap.size, 0, none⟩ = some (.pointer (some ⟨wb, 0, none⟩)))
    (first | go_keep | (go_split_ands; exact ⟨k03, k13, k23, c33, c43⟩) | (go_split_ands; exact ⟨k04, k14, k24, c34, c44⟩) | (go_split_ands; refine ⟨?_, ?_, ?_, ?_, ?_⟩ <;> (rw [World.cell?_setCell_other _ _ _ _ (by simp <;> omega), World.cell?_setCell_other _ _ _ _ (by simp <;> omega)]; assumption)))
    (first
      | (go_at_call 122
         refine (hvis _ ?_).mono ?_
         · exact (Fr.refl _ _).drew
         rintro e w3 ⟨v3, mf3, rfl, hG3, fr3, src3, _⟩
         have k03 := fr3.cell k0 (nd _ (by simp))
         have k13 := fr3.cell k1 (nd _ (by simp))
         have k23 := fr3.cell k2 (nd _ (by simp))
         have c33 := hG3.caps.c3
         have c43 := hG3.caps.c4)
      | (go_at_call 69
         refine (set_any wb mb v3 _ _ _ hG3.work).mono ?_
         rintro e w4 ⟨rfl, hb4⟩
         have fr4 := (Fr.refl nob w3).below hb4
         have k04 := fr4.cell k03 (fun h => h)
         have k14 := fr4.cell k13 (fun h => h)
         have k24 := fr4.cell k23 (fun h => h)
         have c34 := fr4.cell c33 (fun h => h)
         have c44 := fr4.cell c43 (fun h => h)
         have e04 := fr4.cell (fr3.cell d0 (nd _ (by simp))) (fun h => h)
         have e14 := fr4.cell (fr3.cell d1 (nd _ (by simp))) (fun h => h)
         have ef4 := (fr4.frozen (p := ⟨w.heap.size + 1 + 1, 0, none⟩) (by have := lt_of_cell (fr3.cell d0 (nd _ (by simp))); exact this) (fun h => h)).trans ((fr3.frozen (p := ⟨w.heap.size + 1 + 1, 0, none⟩) (lt_of_cell d0) (nd _ (by simp))).trans df)
         have ef5 := (fr4.frozen (p := ⟨w.heap.size + 1 + 1, 1, none⟩) (by have := lt_of_cell (fr3.cell d1 (nd _ (by simp))); exact this) (fun h => h)).trans ((fr3.frozen (p := ⟨w.heap.size + 1 + 1, 1, none⟩) (lt_of_cell d1) (nd _ (by simp))).trans dg)))
  go_wp2
  refine bodyPost_ret (v := dval (sem (a, b, c))) (by simp [results, Tryd.results79, go_sem, e04, e14, li]) rfl ⟨rfl, ?_⟩
  have nb : ∀ k, k < w.heap.size → ¬ foot4 wb mb (w1.heap.size + 1) (.slice none 0 0) k := fun k hk => nd k (by omega)
  exact ((((frw.drew.trans' fr3 (T := fun k => w.heap.size ≤ k) (fun _ _ h => h.elim) (fun k hk h => absurd h (nb k hk))).below hb4).setCell (p := ⟨w.heap.size + 1 + 1, 0, none⟩) (by simp <;> omega) _).setCell (p := ⟨w.heap.size + 1 + 1, 1, none⟩) (by simp <;> omega) _).to_below (Nat.le_refl _) (fun _ h => h)
end Go.Proofs.YtfhjpldlhhgcnaaDoor
