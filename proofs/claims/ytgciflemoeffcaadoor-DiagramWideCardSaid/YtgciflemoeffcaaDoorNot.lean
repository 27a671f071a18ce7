import Derived.Test.YtgciflemoeffcaaDoorFoldU
namespace Go.Proofs.YtgciflemoeffcaaDoor
open Go.RowKit
open Bd

/-- the place of the complement in its own listing -/
def negP (A b : B) : Nat := place ((li A).map B.neg) b.neg
def NegJ (wb mb : Nat) (ft : Nat → Prop) (R : List B) (w : World) : Prop := ∃ v, Work w wb mb v (R.map B.neg) ∧ ft = foot wb mb v

theorem map_suffix {R S : List B} (h : R <:+ S) : R.map B.neg <:+ S.map B.neg := by
  obtain ⟨t, rfl⟩ := h
  exact ⟨t.map B.neg, by simp⟩

theorem vis_node_neg {R : List B} {i : Nat} {lo hi : B} (hg : good (B.N i lo hi :: R)) (hne : lo ≠ hi) : vis (mk i lo.neg hi.neg) (R.map B.neg) = (B.N i lo hi :: R).map B.neg ∧ mk i lo.neg hi.neg = (B.N i lo hi).neg := by
  obtain ⟨hn, hl, hh, hR⟩ := hg
  have e : mk i lo.neg hi.neg = .N i lo.neg hi.neg := by rw [mk, if_neg (fun h => hne (neg_inj h))]
  have hn' : B.N i lo.neg hi.neg ∉ R.map B.neg := fun h => hn (mem_neg (b := .N i lo hi).1 h)
  refine ⟨?_, e⟩
  rw [vis_mk (good_neg hR), vis_inn (inn_neg hl), vis_inn (inn_neg hh), if_neg (fun h => hne (neg_inj h)), if_neg hn']
  rfl

theorem negP_join (A : B) (hA : A.ok 0) (wb mb : Nat) : FoldPU A (negP A) (NegJ wb mb) wb := by
  refine ⟨?_, ?_, ?_⟩
  · rintro ft R w w' S ⟨v, hW, rfl⟩ fr hS
    exact ⟨v, hW.kept fr hS, rfl⟩
  · rintro ft R w ⟨v, hW, rfl⟩ k hk
    exact hW.foot_lt k hk
  · rintro ft R i lo hi w ⟨v, hW, rfl⟩ hs
    have hg := good_suffix (good_li A) hs
    have hsm := small_suffix hs (small_li hA)
    obtain ⟨hn, hl, hh, hR⟩ := hg
    have ho : (B.N i lo hi).ok 0 := hsm.2 _ List.mem_cons_self
    have hne : lo ≠ hi := ho.2.2.1
    obtain ⟨e1, e2⟩ := vis_node_neg ⟨hn, hl, hh, hR⟩ hne
    have hsR : R <:+ li A := (List.suffix_cons _ _).trans hs
    have gA := good_neg (good_li A)
    refine (node_any' wb mb i v (R.map B.neg) lo.neg hi.neg w hW ho.2.1 (inn_neg hl) (inn_neg hh) (by rw [e1]; exact small_neg hsm) (negP A lo) (negP A hi) (place_suffix gA (map_suffix hsR) (inn_neg hl)) (place_suffix gA (map_suffix hsR) (inn_neg hh))).mono ?_
    rintro e w' ⟨v', rfl, hW', fr, src⟩
    rw [e1] at hW' ⊢
    rw [e2]
    refine ⟨foot wb mb v', ?_, ⟨v', hW', rfl⟩, fr, ?_⟩
    · rw [← place_suffix gA (map_suffix hs) (inn_neg (.inr List.mem_cons_self))]; rfl
    · rintro k (rfl | rfl | hk)
      · exact .inl (.inl rfl)
      · exact .inl (.inr (.inl rfl))
      · rcases src k hk with h | h
        · exact .inl (.inr (.inr h))
        · exact .inr h

set_option maxRecDepth 100000 in
set_option maxHeartbeats 1000000 in
theorem Not_any (A : B) (hA : A.ok 0) (w : World) : Calls Tryd.prog 16 #[dval A] w fun e w' => e = .returned (dval A.neg) ∧ Below w.heap.size w w' := by
  have hmf : ∀ (fn : Fn) (first cap : Array Value) (w : World), (Instr.makeFunc fn first cap).run Tryd.prog w = .ok (.func fn first cap) w := fun _ _ _ _ => rfl
  have hs := (small_li hA).1
  go_enter Tryd.func16, Tryd.ntmps16
  go_wp2_with fail
  refine (newWork_any _).mono ?_
  rintro e w1 ⟨wb, mb, rfl, hW1, fr1, lwb, lmb⟩
  have z1 := fr1.size
  simp only [World.size_alloc] at z1 lwb lmb
  have c0 : w1.cell? ⟨w.heap.size, 0, none⟩ = some (.int .u32 (place (li A) A : Int)) := fr1.cell (cell_alloc_l (World.cell?_alloc_at _ _ _ _ (by simp)) _) (fun h => h)
  have c1 : w1.cell? ⟨w.heap.size, 1, none⟩ = some (.string ⟨(code (rows (li A))).toArray⟩) := fr1.cell (cell_alloc_l (World.cell?_alloc_at _ _ _ _ (by simp)) _) (fun h => h)
  have r0 : w1.cell? ⟨w.heap.size + 1, 0, none⟩ = some (.int .u32 0) := fr1.cell (World.cell?_alloc_at _ _ _ _ (by simp)) (fun h => h)
  have r1 : w1.cell? ⟨w.heap.size + 1, 1, none⟩ = some (.string ⟨#[]⟩) := fr1.cell (World.cell?_alloc_at _ _ _ _ (by simp)) (fun h => h)
  have f0 : w1.frozen? ⟨w.heap.size + 1, 0, none⟩ = false := (fr1.frozen (p := ⟨w.heap.size + 1, 0, none⟩) (by simp) (fun h => h)).trans (World.frozen?_alloc_at _ _ _ _ (by simp))
  have f1 : w1.frozen? ⟨w.heap.size + 1, 1, none⟩ = false := (fr1.frozen (p := ⟨w.heap.size + 1, 1, none⟩) (by simp) (fun h => h)).trans (World.frozen?_alloc_at _ _ _ _ (by simp))
  have frw : Fr nob w w1 := (((Fr.refl nob w).alloc _).alloc _).trans fr1 (fun _ _ h => h)
  have hlt1 := hW1.foot_lt
  go_wp2_with fail
  refine (foldU_any A hA (negP A) (NegJ wb mb) wb (negP_join A hA wb mb) 1 0 rfl rfl (foot wb mb (.slice none 0 0)) _ ⟨_, hW1, rfl⟩).mono ?_
  rintro e w2 ⟨ft, rfl, ⟨v2, hW2, rfl⟩, fr2, hn2⟩
  have nf : ∀ k, k < w.heap.size + 2 → ¬ foot wb mb (.slice none 0 0) k := by
    rintro k hk (h | h | h)
    · omega
    · omega
    · cases h
  have fr12 := frw.trans' fr2 (T := fun k => w.heap.size ≤ k) (fun _ _ h => h.elim) (fun k hk h => absurd h (nf k (by omega)))
  have r02 := fr2.cell r0 (nf _ (by simp))
  have r12 := fr2.cell r1 (nf _ (by simp))
  have f02 := (fr2.frozen (p := ⟨w.heap.size + 1, 0, none⟩) (by simp; omega) (nf _ (by simp))).trans f0
  have f12 := (fr2.frozen (p := ⟨w.heap.size + 1, 1, none⟩) (by simp; omega) (nf _ (by simp))).trans f1
  have z2 := fr2.size
  clear c0 c1 r0 r1 f0 f1 hn2
  rw [← li_neg] at hW2
  go_wp2_with fail
  refine (set_any wb mb v2 _ (negP A A) _ hW2).mono ?_
  rintro e w3 ⟨rfl, hb3⟩
  have fr3 : Fr nob w2 w3 := (Fr.refl nob w2).below hb3
  have r03 := fr3.cell r02 (fun h => h)
  have r13 := fr3.cell r12 (fun h => h)
  have f03 := (fr3.frozen (p := ⟨w.heap.size + 1, 0, none⟩) (by simp; omega) (fun h => h)).trans f02
  have f13 := (fr3.frozen (p := ⟨w.heap.size + 1, 1, none⟩) (by simp; omega) (fun h => h)).trans f12
  clear r02 r12 f02 f12
  have eP : negP A A = place (li A.neg) A.neg := by rw [li_neg]; rfl
  go_wp2_with fail
  refine bodyPost_ret (v := dval A.neg) (by simp [results, Tryd.results16, go_sem, r03, r13]) rfl ⟨rfl, ?_⟩
  exact (((fr12.trans fr3 (fun _ _ h => h.elim)).setCell (p := ⟨w.heap.size + 1, 0, none⟩) (by simp) _).setCell (p := ⟨w.heap.size + 1, 1, none⟩) (by simp) _).to_below (Nat.le_refl _) (fun _ h => h)
end Go.Proofs.YtgciflemoeffcaaDoor
