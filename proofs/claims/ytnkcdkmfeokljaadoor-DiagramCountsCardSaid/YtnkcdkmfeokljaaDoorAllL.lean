import Derived.Test.YtnkcdkmfeokljaaDoorExi
namespace Go.Proofs.YtnkcdkmfeokljaaDoor
open Go.RowKit
open Bd
/-- a list of sets, read off memory -/
def DRow (w : World) (v : Value) (L : List B) : Prop := ∃ (a : Option Addr) (cap : Nat), v = .slice a L.length cap ∧ ∀ (k : Nat) (x : B), L[k]? = some x → ∃ b, a = some ⟨b, 0, none⟩ ∧ w.cell? ⟨b, k * 2, none⟩ = some (.int .u32 (place (li x) x : Int)) ∧ w.cell? ⟨b, k * 2 + 1, none⟩ = some (.string ⟨(code (rows (li x))).toArray⟩)
theorem DRow.kept {w w' : World} {v : Value} {L : List B} (h : DRow w v L) (f : Fr nob w w') : DRow w' v L := by
  obtain ⟨a, cap, rfl, hc⟩ := h
  refine ⟨a, cap, rfl, fun k d hd => ?_⟩
  obtain ⟨b, h1, h2, h3⟩ := hc k d hd
  exact ⟨b, h1, f.cell' h2 (fun h => h), f.cell' h3 (fun h => h)⟩
theorem DRow.form {w : World} {v : Value} {L : List B} (h : DRow w v L) : ∃ a cap, v = .slice a L.length cap := by
  obtain ⟨a, cap, e, _⟩ := h; exact ⟨a, cap, e⟩
theorem DRow.at {w : World} {a : Option Addr} {n cap : Nat} {L : List B} (h : DRow w (.slice a n cap) L) {k : Nat} {x : B} (hd : L[k]? = some x) : ∃ b, a = some ⟨b, 0, none⟩ ∧ w.cell? ⟨b, k * 2, none⟩ = some (.int .u32 (place (li x) x : Int)) ∧ w.cell? ⟨b, k * 2 + 1, none⟩ = some (.string ⟨(code (rows (li x))).toArray⟩) := by
  obtain ⟨a', cap', e, hc⟩ := h
  cases e
  exact hc k x hd
namespace Bd
noncomputable def andL (L : List B) : B := L.foldl (fun x y => ite x y .F) .T
noncomputable def orL (L : List B) : B := L.foldl (fun x y => ite x .T y) .F
theorem ok_foldB {f : B → B → B} (hf : ∀ x y, (f x y).ok 0) : ∀ (L : List B) (z : B), z.ok 0 → (L.foldl f z).ok 0
  | [], _, h => h
  | y :: L, z, _ => ok_foldB hf L _ (hf z y)
theorem ok_andL (L : List B) : (andL L).ok 0 := ok_foldB (fun _ _ => ok_ite0 _ _ _) L _ trivial
theorem ok_orL (L : List B) : (orL L).ok 0 := ok_foldB (fun _ _ => ok_ite0 _ _ _) L _ trivial
theorem andL_snoc (L : List B) (y : B) : andL (L ++ [y]) = ite (andL L) y .F := by simp [andL, List.foldl_append]
theorem orL_snoc (L : List B) (y : B) : orL (L ++ [y]) = ite (orL L) .T y := by simp [orL, List.foldl_append]
end Bd
/-- the variables of AndAll, OrAll -/
structure AllSt (x : B) (w0 : World) (g : Nat) (W : World) : Prop where
  fr : Fr nob w0 W
  a0 : W.cell? ⟨g, 0, none⟩ = some (.int .u32 (place (li x) x : Int))
  a1 : W.cell? ⟨g, 1, none⟩ = some (.string ⟨(code (rows (li x))).toArray⟩)
  r0 : W.cell? ⟨w0.heap.size, 0, none⟩ = some (.int .u32 0)
  r1 : W.cell? ⟨w0.heap.size, 1, none⟩ = some (.string ⟨#[]⟩)
  fa0 : W.frozen? ⟨g, 0, none⟩ = false
  fa1 : W.frozen? ⟨g, 1, none⟩ = false
  fr0 : W.frozen? ⟨w0.heap.size, 0, none⟩ = false
  fr1 : W.frozen? ⟨w0.heap.size, 1, none⟩ = false
  hg : w0.heap.size < g
theorem AllSt.kept {x : B} {g : Nat} {w0 W W' : World} (h : AllSt x w0 g W) (fr : Fr nob W W') : AllSt x w0 g W' := by
  have l0 : w0.heap.size < W.heap.size := lt_of_cell h.r0
  have l1 : g < W.heap.size := lt_of_cell h.a0
  have c : ∀ {p : Addr} {v : Value}, W.cell? p = some v → _ := fun h => fr.cell h (fun h => h)
  have f : ∀ (b o : Nat), b < W.heap.size → W'.frozen? ⟨b, o, none⟩ = W.frozen? ⟨b, o, none⟩ := fun b o l => fr.frozen (p := ⟨b, o, none⟩) l (fun h => h)
  exact ⟨h.fr.trans fr (fun _ _ h => h), c h.a0, c h.a1, c h.r0, c h.r1, (f _ _ l1).trans h.fa0, (f _ _ l1).trans h.fa1, (f _ _ l0).trans h.fr0, (f _ _ l0).trans h.fr1, h.hg⟩
theorem AllSt.store {x : B} {g : Nat} (y : B) {w0 W : World} (h : AllSt x w0 g W) : AllSt y w0 g (put2 W g (.int .u32 (place (li y) y : Int)) (.string ⟨(code (rows (li y))).toArray⟩)) := by
  obtain ⟨p0, p1, fr, pf⟩ := put2_facts (.int .u32 (place (li y) y : Int)) (.string ⟨(code (rows (li y))).toArray⟩) h.a0 h.a1
  have hn : ¬ (w0.heap.size = g) := by have := h.hg; omega
  have hg := h.hg
  exact ⟨(h.fr.set1 (by omega) _).set1 (by omega) _, p0, p1, fr.cell h.r0 hn, fr.cell h.r1 hn, (pf _).trans h.fa0, (pf _).trans h.fa1, (pf _).trans h.fr0, (pf _).trans h.fr1, hg⟩

set_option maxRecDepth 100000 in
set_option maxHeartbeats 1000000 in
theorem AndAll_any (L : List B) (hok : ∀ x, x ∈ L → x.ok 0) (hL : L.length ≤ 65536) (v : Value) (w : World) (hv : DRow w v L) : Calls Tryd.prog 27 #[v] w fun e w' => e = .returned (dval (andL L)) ∧ Below w.heap.size w w' := by
  obtain ⟨a, cap, rfl⟩ := hv.form
  obtain ⟨r0, r1⟩ := two_cells' w (.int .u32 0) (.string ⟨#[]⟩) 26
  have f0 : (w.alloc (.cells #[.int .u32 0, .string ⟨#[]⟩] 26)).frozen? ⟨w.heap.size, 0, none⟩ = false := World.frozen?_alloc_at _ _ _ _ (by simp)
  have f1 : (w.alloc (.cells #[.int .u32 0, .string ⟨#[]⟩] 26)).frozen? ⟨w.heap.size, 1, none⟩ = false := World.frozen?_alloc_at _ _ _ _ (by simp)
  have fr : Fr nob w (w.alloc (.cells #[.int .u32 0, .string ⟨#[]⟩] 26)) := (Fr.refl nob w).alloc _
  have hsz : (w.alloc (.cells #[.int .u32 0, .string ⟨#[]⟩] 26)).heap.size = w.heap.size + 1 := by simp
  go_enter Tryd.func27, Tryd.ntmps27
  go_wp2_with fail
  generalize w.alloc (.cells #[.int .u32 0, .string ⟨#[]⟩] 26) = W0 at *
  refine (True_any _).mono ?_
  rintro e w1 ⟨rfl, hb1⟩
  have F1 : Fr nob W0 w1 := (Fr.refl nob _).below hb1
  have l0 := lt_of_cell r0
  replace f0 := (F1.frozen (p := ⟨w.heap.size, 0, none⟩) l0 (fun h => h)).trans f0
  replace f1 := (F1.frozen (p := ⟨w.heap.size, 1, none⟩) l0 (fun h => h)).trans f1
  replace r0 := F1.cell r0 (fun h => h)
  replace r1 := F1.cell r1 (fun h => h)
  have hw1 : w.heap.size < w1.heap.size := by have := F1.size; omega
  have G1 := fr.trans F1 (fun _ _ h => h)
  clear hb1 F1 fr l0
  go_wp2_with fail
  have S0 : AllSt .T w w1.heap.size (w1.alloc (.cells #[.int .u32 (place (li .T) .T : Int), .string ⟨(code (rows (li .T))).toArray⟩] 26)) :=
    ⟨G1.alloc _, World.cell?_alloc_at _ _ _ _ (by simp), World.cell?_alloc_at _ _ _ _ (by simp), cell_alloc_l r0 _, cell_alloc_l r1 _, World.frozen?_alloc_at _ _ _ _ (by simp), World.frozen?_alloc_at _ _ _ _ (by simp),
      (World.frozen?_of_block (a := ⟨w.heap.size, 0, none⟩) (Below.heap_alloc _ _ _ hw1)).trans f0, (World.frozen?_of_block (a := ⟨w.heap.size, 1, none⟩) (Below.heap_alloc _ _ _ hw1)).trans f1, hw1⟩
  clear r0 r1 f0 f1 G1
  generalize w1.alloc (.cells #[.int .u32 (place (li .T) .T : Int), .string ⟨(code (rows (li .T))).toArray⟩] 26) = W1 at *
  generalize w1.heap.size = g at *
  go_loopw [9] (fun iv wr => ∃ n : Nat, n ≤ L.length ∧ iv = .int .i64 (n : Int) ∧ AllSt (andL (L.take n)) w g wr) (fun iv _ => L.length - (intOf iv).toNat)
  case atStart => exact ⟨0, Nat.zero_le _, rfl, S0⟩
  case round =>
    clear S0
    obtain ⟨n, hn, rfl, S⟩ := hrel
    by_cases hlt : n < L.length
    · have hd : L[n]? = some L[n] := by simp [hlt]
      have ht : L.take (n + 1) = L.take n ++ [L[n]] := by rw [List.take_add_one, hd]; rfl
      have hoy : (L[n]).ok 0 := hok _ (List.getElem_mem hlt)
      have hnext : andL (L.take (n + 1)) = ite (andL (L.take n)) L[n] .F := by rw [ht, andL_snoc]
      have hcall := And_any (andL (L.take n)) L[n] (ok_andL _) hoy
      have HN := Lib.hid hnext
      clear hnext ht
      obtain ⟨b, rfl, c0, c1⟩ := (hv.kept S.fr).at hd
      generalize L[n] = y at *
      generalize andL (L.take n) = X at *
      have lb := lt_of_cell c0
      have hlt' : (n : Int) < (L.length : Int) := by omega
      have c0' := cell_alloc_l c0
      have c1' := cell_alloc_l c1
      have S2 := S.kept ((Fr.refl nob wr).alloc (.cells #[.int .u32 (place (li y) y : Int), .string ⟨(code (rows (li y))).toArray⟩] 26))
      have ⟨_, a0, a1, _, _, _, _, _, _, _⟩ := S
      have a0' := cell_alloc_l a0
      have a1' := cell_alloc_l a1
      go_wp2_with fail
      clear a0 a1 a0' a1' c0 c1 c0' c1'
      refine (hcall _).mono ?_
      rintro e w3 ⟨rfl, hb3⟩
      have S3 := S2.kept ((Fr.refl nob _).below hb3)
      clear S S2 hb3 hcall
      have ⟨_, a0, a1, _, _, fa0, fa1, _, _, _⟩ := S3
      go_wp2_with fail
      go_roundw
      case rel => exact ⟨n + 1, hlt, rfl, by rw [HN.out]; exact S3.store _⟩
      case measure => simp only [intOf]; omega
    · have e : n = L.length := by omega
      subst e
      rw [List.take_length] at S
      have ⟨G, a0, a1, r0, r1, _, _, f0, f1, hg⟩ := S
      go_wp2_with fail
      refine bodyPost_ret (v := dval (andL L)) (by simp [results, Tryd.results27, go_sem, r0, r1]) rfl ⟨rfl, ?_⟩
      exact ((G.set1 (Nat.le_refl _) _).set1 (Nat.le_refl _) _).to_below (Nat.le_refl _) (fun _ h => h.elim)

set_option maxRecDepth 100000 in
set_option maxHeartbeats 1000000 in
theorem OrAll_any (L : List B) (hok : ∀ x, x ∈ L → x.ok 0) (hL : L.length ≤ 65536) (v : Value) (w : World) (hv : DRow w v L) : Calls Tryd.prog 28 #[v] w fun e w' => e = .returned (dval (orL L)) ∧ Below w.heap.size w w' := by
  obtain ⟨a, cap, rfl⟩ := hv.form
  obtain ⟨r0, r1⟩ := two_cells' w (.int .u32 0) (.string ⟨#[]⟩) 26
  have f0 : (w.alloc (.cells #[.int .u32 0, .string ⟨#[]⟩] 26)).frozen? ⟨w.heap.size, 0, none⟩ = false := World.frozen?_alloc_at _ _ _ _ (by simp)
  have f1 : (w.alloc (.cells #[.int .u32 0, .string ⟨#[]⟩] 26)).frozen? ⟨w.heap.size, 1, none⟩ = false := World.frozen?_alloc_at _ _ _ _ (by simp)
  have fr : Fr nob w (w.alloc (.cells #[.int .u32 0, .string ⟨#[]⟩] 26)) := (Fr.refl nob w).alloc _
  have hsz : (w.alloc (.cells #[.int .u32 0, .string ⟨#[]⟩] 26)).heap.size = w.heap.size + 1 := by simp
  go_enter Tryd.func28, Tryd.ntmps28
  go_wp2_with fail
  generalize w.alloc (.cells #[.int .u32 0, .string ⟨#[]⟩] 26) = W0 at *
  refine (False_any _).mono ?_
  rintro e w1 ⟨rfl, hb1⟩
  have F1 : Fr nob W0 w1 := (Fr.refl nob _).below hb1
  have l0 := lt_of_cell r0
  replace f0 := (F1.frozen (p := ⟨w.heap.size, 0, none⟩) l0 (fun h => h)).trans f0
  replace f1 := (F1.frozen (p := ⟨w.heap.size, 1, none⟩) l0 (fun h => h)).trans f1
  replace r0 := F1.cell r0 (fun h => h)
  replace r1 := F1.cell r1 (fun h => h)
  have hw1 : w.heap.size < w1.heap.size := by have := F1.size; omega
  have G1 := fr.trans F1 (fun _ _ h => h)
  clear hb1 F1 fr l0
  go_wp2_with fail
  have S0 : AllSt .F w w1.heap.size (w1.alloc (.cells #[.int .u32 (place (li .F) .F : Int), .string ⟨(code (rows (li .F))).toArray⟩] 26)) :=
    ⟨G1.alloc _, World.cell?_alloc_at _ _ _ _ (by simp), World.cell?_alloc_at _ _ _ _ (by simp), cell_alloc_l r0 _, cell_alloc_l r1 _, World.frozen?_alloc_at _ _ _ _ (by simp), World.frozen?_alloc_at _ _ _ _ (by simp),
      (World.frozen?_of_block (a := ⟨w.heap.size, 0, none⟩) (Below.heap_alloc _ _ _ hw1)).trans f0, (World.frozen?_of_block (a := ⟨w.heap.size, 1, none⟩) (Below.heap_alloc _ _ _ hw1)).trans f1, hw1⟩
  clear r0 r1 f0 f1 G1
  generalize w1.alloc (.cells #[.int .u32 (place (li .F) .F : Int), .string ⟨(code (rows (li .F))).toArray⟩] 26) = W1 at *
  generalize w1.heap.size = g at *
  go_loopw [9] (fun iv wr => ∃ n : Nat, n ≤ L.length ∧ iv = .int .i64 (n : Int) ∧ AllSt (orL (L.take n)) w g wr) (fun iv _ => L.length - (intOf iv).toNat)
  case atStart => exact ⟨0, Nat.zero_le _, rfl, S0⟩
  case round =>
    clear S0
    obtain ⟨n, hn, rfl, S⟩ := hrel
    by_cases hlt : n < L.length
    · have hd : L[n]? = some L[n] := by simp [hlt]
      have ht : L.take (n + 1) = L.take n ++ [L[n]] := by rw [List.take_add_one, hd]; rfl
      have hoy : (L[n]).ok 0 := hok _ (List.getElem_mem hlt)
      have hnext : orL (L.take (n + 1)) = ite (orL (L.take n)) .T L[n] := by rw [ht, orL_snoc]
      have hcall := Or_any (orL (L.take n)) L[n] (ok_orL _) hoy
      have HN := Lib.hid hnext
      clear hnext ht
      obtain ⟨b, rfl, c0, c1⟩ := (hv.kept S.fr).at hd
      generalize L[n] = y at *
      generalize orL (L.take n) = X at *
      have lb := lt_of_cell c0
      have hlt' : (n : Int) < (L.length : Int) := by omega
      have c0' := cell_alloc_l c0
      have c1' := cell_alloc_l c1
      have S2 := S.kept ((Fr.refl nob wr).alloc (.cells #[.int .u32 (place (li y) y : Int), .string ⟨(code (rows (li y))).toArray⟩] 26))
      have ⟨_, a0, a1, _, _, _, _, _, _, _⟩ := S
      have a0' := cell_alloc_l a0
      have a1' := cell_alloc_l a1
      go_wp2_with fail
      clear a0 a1 a0' a1' c0 c1 c0' c1'
      refine (hcall _).mono ?_
      rintro e w3 ⟨rfl, hb3⟩
      have S3 := S2.kept ((Fr.refl nob _).below hb3)
      clear S S2 hb3 hcall
      have ⟨_, a0, a1, _, _, fa0, fa1, _, _, _⟩ := S3
      go_wp2_with fail
      go_roundw
      case rel => exact ⟨n + 1, hlt, rfl, by rw [HN.out]; exact S3.store _⟩
      case measure => simp only [intOf]; omega
    · have e : n = L.length := by omega
      subst e
      rw [List.take_length] at S
      have ⟨G, a0, a1, r0, r1, _, _, f0, f1, hg⟩ := S
      go_wp2_with fail
      refine bodyPost_ret (v := dval (orL L)) (by simp [results, Tryd.results28, go_sem, r0, r1]) rfl ⟨rfl, ?_⟩
      exact ((G.set1 (Nat.le_refl _) _).set1 (Nat.le_refl _) _).to_below (Nat.le_refl _) (fun _ h => h.elim)
end Go.Proofs.YtnkcdkmfeokljaaDoor
