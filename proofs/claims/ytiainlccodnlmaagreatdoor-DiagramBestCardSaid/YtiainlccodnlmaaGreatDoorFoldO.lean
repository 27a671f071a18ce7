import Derived.Test.YtiainlccodnlmaaGreatDoorCost
import Derived.Test.YtiainlccodnlmaaGreatDoorStep
import Derived.Recover
import Derived.Deep.RegionHeld3
namespace Go.Proofs.YtiainlccodnlmaaGreatDoor
open Go.RowKit
open Bd

theorem info_O : (Tryz.prog.info? 126).map (fun i => (i.zero, i.size, i.bytes)) = some (some (.agg #[.int .i64 0, .int .u32 0]), 2, 16) := by kernel_rfl
def cO (val : B → Int × Int) (b : B) : List Value := [.int .i64 (val b).1, .int .u32 (val b).2]
theorem flatO_at {val : B → Int × Int} : ∀ {L : List B} {k : Nat} {x : B}, L[k]? = some x → (L.flatMap (cO val))[k * 2]? = some (.int .i64 (val x).1) ∧ (L.flatMap (cO val))[k * 2 + 1]? = some (.int .u32 (val x).2)
  | [], k, x, h => by simp at h
  | y :: L, 0, x, h => by
    simp at h; subst h
    simp [cO]
  | y :: L, k + 1, x, h => by
    have := flatO_at (val := val) (L := L) (k := k) (x := x) (by simpa using h)
    have e : (y :: L).flatMap (cO val) = .int .i64 (val y).1 :: .int .u32 (val y).2 :: L.flatMap (cO val) := rfl
    rw [e, show (k + 1) * 2 = k * 2 + 1 + 1 by omega]
    simpa using this

theorem twoO_news (w : World) (a b : Value) (t : TypeId) : ∀ j u, [a, b][j]? = some u → (w.alloc (.cells #[a, b] t)).cell? ((⟨w.heap.size, 0, none⟩ : Addr).add j) = some u := by
  intro j u h
  match j, h with
  | 0, h => simp at h; subst h; simp [Addr.add]
  | 1, h => simp at h; subst h; simp [Addr.add]
  | j + 2, h => simp at h

/-- the deferred closure, where nothing has panicked -/
theorem foldO_idle (w : World) : CallsD Tryz.prog 117 #[] .returning w fun e u' w' => e = .returned (.tuple #[]) ∧ u' = .returning ∧ w' = w := by
  refine callsD_of_wpS Tryz.func117 rfl fun c₀ cs hu => ?_
  apply wpS_region
  simp [wpOpsS, go_sem, recoverD, hu, Tryz.ntmps117, bodyPostS, results, Tryz.results117]
  cases c₀
  simp_all

/-- what the loop of Fold keeps, behind k nodes -/
structure FoldStO (A : B) (val : B → Int × Int) (J : (Nat → Prop) → List B → World → Prop) (ft0 : Nat → Prop) (w0 : World) (gv : Value) (k : Nat) (wr : World) : Prop where
  ex : ∃ ft, J ft ((li A).drop ((li A).length - k)) wr ∧ (∀ g, gv.ownBlock = some g → ¬ ft g) ∧ ∀ j, ft j → ft0 j ∨ w0.heap.size + 3 < j
  row : wr.ownsRow 0 126 2 gv (k + 2) ((glist id ((li A).drop ((li A).length - k))).flatMap (cO val))
  own : ∀ g, gv.ownBlock = some g → w0.heap.size + 3 < g
  fr : Fr ft0 w0 wr
  a0 : wr.cell? ⟨w0.heap.size, 0, none⟩ = some (.int .u32 (place (li A) A : Int))
  a1 : wr.cell? ⟨w0.heap.size, 1, none⟩ = some (.string ⟨(code (rows (li A))).toArray⟩)
  rb : Box2 wr (w0.heap.size + 3) (.int .i64 0) (.int .u32 0)

structure FoldPO (A : B) (val : B → Int × Int) (J : (Nat → Prop) → List B → World → Prop) (p : Value) : Prop where
  kept : ∀ ft R w w' S, J ft R w → Fr S w w' → (∀ k, ft k → ¬ S k) → J ft R w'
  lt : ∀ ft R w, J ft R w → ∀ k, ft k → k < w.heap.size
  join : ∀ ft R i lo hi w, J ft R w → (B.N i lo hi :: R) <:+ li A → Calls Tryz.prog 89 #[p, .int .i64 (i : Int), .agg #[.int .i64 (val lo).1, .int .u32 (val lo).2], .agg #[.int .i64 (val hi).1, .int .u32 (val hi).2]] w fun e w' => ∃ ft', e = .returned (.agg #[.int .i64 (val (.N i lo hi)).1, .int .u32 (val (.N i lo hi)).2]) ∧ J ft' (.N i lo hi :: R) w' ∧ Fr ft w w' ∧ ∀ k, ft' k → ft k ∨ w.heap.size ≤ k

section
variable {A : B} {val : B → Int × Int} {J : (Nat → Prop) → List B → World → Prop} {ft0 : Nat → Prop} {w0 wr w' : World} {gv : Value} {k : Nat} {p : Value}
theorem FoldStO.kept (P : FoldPO A val J p) (h : FoldStO A val J ft0 w0 gv k wr) (fr : Fr nob wr w') : FoldStO A val J ft0 w0 gv k w' := by
  obtain ⟨⟨ft, h1, h2, h3⟩, h4, h5, h6, h7, h8, h9⟩ := h
  exact ⟨⟨ft, P.kept _ _ _ _ _ h1 fr (fun _ _ h => h), h2, h3⟩, fr.row h4 (fun _ _ h => h), h5, h6.trans fr (fun _ _ h => h.elim), fr.cell h7 (fun h => h), fr.cell h8 (fun h => h), h9.kept fr (fun h => h)⟩

/-- a round: the call, then the append -/
theorem FoldStO.step (P : FoldPO A val J p) {w1 w2 w3 : World} {ft ft' : Nat → Prop} {R : List B} {i g cap : Nat} {lo hi : B} (_hR : R = (li A).drop ((li A).length - k)) (hR' : B.N i lo hi :: R = (li A).drop ((li A).length - (k + 1)))
    (h1 : FoldStO A val J ft0 w0 gv k w1) (hft : ∀ g, gv.ownBlock = some g → ¬ ft g) (hft0 : ∀ j, ft j → ft0 j ∨ w0.heap.size + 3 < j) (_hft1 : ∀ j, ft j → j < w1.heap.size) (hJ : J ft' (B.N i lo hi :: R) w2) (fr : Fr ft w1 w2) (hn : ∀ k, ft' k → ft k ∨ w1.heap.size ≤ k) (hl : w0.heap.size + 3 < w1.heap.size)
    (lt0 : ∀ k, ft0 k → k < w0.heap.size) (hrow : w3.ownsRow 0 126 2 (.slice (some ⟨g, 0, none⟩) (k + 2 + 1) cap) (k + 2 + 1) (((glist id (R)).flatMap (cO val)) ++ [.int .i64 (val (.N i lo hi)).1, .int .u32 (val (.N i lo hi)).2])) (hg : w2.grownBy w3 gv.ownBlock) (hat : gv.ownBlock = some g ∨ w2.heap.size ≤ g) :
    FoldStO A val J ft0 w0 (.slice (some ⟨g, 0, none⟩) (k + 2 + 1) cap) (k + 1) w3 := by
  obtain ⟨_, h4, h5, h6, h7, h8, h9⟩ := h1
  have hsz := fr.size
  have own1 : ∀ g, gv.ownBlock = some g → g < w1.heap.size := fun g hg => (h4.lt g hg).2
  have n0 : ∀ j, w0.heap.size ≤ j → j ≤ w0.heap.size + 3 → ¬ ft j := fun j hj hj2 h => by
    rcases hft0 _ h with h | h
    · have := lt0 _ h; omega
    · omega
  have n1 : ∀ g, gv.ownBlock = some g → w0.heap.size + 3 < g := h5
  have fr3 : Fr (fun j => gv.ownBlock = some j) w2 w3 := (Fr.refl _ w2).grown hg (fun k hk _ => hk)
  refine ⟨⟨ft', ?_, ?_, ?_⟩, ?_, ?_, ?_, ?_, ?_, ?_⟩
  · rw [← hR']
    exact P.kept _ _ _ _ _ hJ fr3 (fun j hj hs => by
      rcases hn j hj with h | h
      · exact hft j hs h
      · have := own1 j hs; omega)
  · intro g' hg' hf
    obtain rfl : g = g' := by simpa [Value.ownBlock] using hg'
    rcases hat with h | h
    · rcases hn _ hf with h' | h'
      · exact hft _ h h'
      · have := own1 _ h; omega
    · have := P.lt _ _ _ hJ _ hf; omega
  · intro j hj
    rcases hn j hj with h | h
    · exact hft0 j h
    · exact .inr (by omega)
  · rw [← hR', glist_cons, List.flatMap_append]; simpa [cO] using hrow
  · intro g' hg'
    obtain rfl : g = g' := by simpa [Value.ownBlock] using hg'
    rcases hat with h | h
    · exact h5 _ h
    · omega
  · refine (h6.trans fr (fun j hj h => ?_)).trans fr3 (fun j hj h => ?_)
    · rcases hft0 j h with h | h
      · exact h
      · omega
    · have := h5 j h; omega
  · exact fr3.cell (fr.cell h7 (n0 w0.heap.size (Nat.le_refl _) (by omega))) (fun h => by have := (show w0.heap.size + 3 < w0.heap.size from n1 _ h); omega)
  · exact fr3.cell (fr.cell h8 (n0 w0.heap.size (Nat.le_refl _) (by omega))) (fun h => by have := (show w0.heap.size + 3 < w0.heap.size from n1 _ h); omega)
  · exact (h9.kept fr (n0 _ (by omega) (Nat.le_refl _))).kept fr3 (fun h => by have := n1 _ h; omega)
end

set_option maxRecDepth 100000 in
set_option maxHeartbeats 2000000 in
theorem foldO_any (A : B) (hA : A.ok 0) (val : B → Int × Int) (J : (Nat → Prop) → List B → World → Prop) (p : Value) (P : FoldPO A val J p) (eF eT : Int × Int) (hvF : val .F = eF) (hvT : val .T = eT)
    (ft0 : Nat → Prop) (w : World) (h0 : J ft0 [] w) :
    Calls Tryz.prog 88 #[dval A, .agg #[.int .i64 (eF).1, .int .u32 (eF).2], .agg #[.int .i64 (eT).1, .int .u32 (eT).2], .func (.func 89) #[p] #[]] w fun e w' => ∃ ft', e = .returned (.agg #[.int .i64 (val A).1, .int .u32 (val A).2]) ∧ J ft' (li A) w' ∧ Fr ft0 w w' ∧ ∀ k, ft' k → ft0 k ∨ w.heap.size ≤ k := by
  obtain ⟨i0, hi0, hz0, hz1, hz2⟩ := info_parts info_O
  have hs := (small_li hA).1
  have hs' : (((li A).length : Nat) : Int) < 2097152 := by omega
  have l0 := P.lt _ _ _ h0
  have h1 := P.kept _ _ _ _ nob (P.kept _ _ _ _ nob (P.kept _ _ _ _ nob (P.kept _ _ _ _ nob h0 ((Fr.refl nob w).alloc (.cells #[.int .u32 (place (li A) A : Int), .string ⟨(code (rows (li A))).toArray⟩] 32)) (fun _ _ h => h)) ((Fr.refl nob (w.alloc (.cells #[.int .u32 (place (li A) A : Int), .string ⟨(code (rows (li A))).toArray⟩] 32))).alloc (.cells #[.int .i64 (eF).1, .int .u32 (eF).2] 126)) (fun _ _ h => h)) ((Fr.refl nob ((w.alloc (.cells #[.int .u32 (place (li A) A : Int), .string ⟨(code (rows (li A))).toArray⟩] 32)).alloc (.cells #[.int .i64 (eF).1, .int .u32 (eF).2] 126))).alloc (.cells #[.int .i64 (eT).1, .int .u32 (eT).2] 126)) (fun _ _ h => h)) ((Fr.refl nob (((w.alloc (.cells #[.int .u32 (place (li A) A : Int), .string ⟨(code (rows (li A))).toArray⟩] 32)).alloc (.cells #[.int .i64 (eF).1, .int .u32 (eF).2] 126)).alloc (.cells #[.int .i64 (eT).1, .int .u32 (eT).2] 126))).alloc (.cells #[.int .i64 0, .int .u32 0] 126)) (fun _ _ h => h)
  have D0 := ((((Box2.new w (.int .u32 (place (li A) A : Int)) (.string ⟨(code (rows (li A))).toArray⟩) 32).kept ((Fr.refl nob _).alloc (.cells #[.int .i64 (eF).1, .int .u32 (eF).2] 126)) (fun h => h)).kept ((Fr.refl nob _).alloc (.cells #[.int .i64 (eT).1, .int .u32 (eT).2] 126)) (fun h => h)).kept ((Fr.refl nob _).alloc (.cells #[.int .i64 0, .int .u32 0] 126)) (fun h => h))
  have D1 := ((Box2.new (w.alloc (.cells #[.int .u32 (place (li A) A : Int), .string ⟨(code (rows (li A))).toArray⟩] 32)) (.int .i64 (eF).1) (.int .u32 (eF).2) 126).kept ((Fr.refl nob _).alloc (.cells #[.int .i64 (eT).1, .int .u32 (eT).2] 126)) (fun h => h)).kept ((Fr.refl nob _).alloc (.cells #[.int .i64 0, .int .u32 0] 126)) (fun h => h)
  have D2 := (Box2.new ((w.alloc (.cells #[.int .u32 (place (li A) A : Int), .string ⟨(code (rows (li A))).toArray⟩] 32)).alloc (.cells #[.int .i64 (eF).1, .int .u32 (eF).2] 126)) (.int .i64 (eT).1) (.int .u32 (eT).2) 126).kept ((Fr.refl nob _).alloc (.cells #[.int .i64 0, .int .u32 0] 126)) (fun h => h)
  have D3 := Box2.new (((w.alloc (.cells #[.int .u32 (place (li A) A : Int), .string ⟨(code (rows (li A))).toArray⟩] 32)).alloc (.cells #[.int .i64 (eF).1, .int .u32 (eF).2] 126)).alloc (.cells #[.int .i64 (eT).1, .int .u32 (eT).2] 126)) (.int .i64 0) (.int .u32 0) 126
  have fr : Fr nob w ((((w.alloc (.cells #[.int .u32 (place (li A) A : Int), .string ⟨(code (rows (li A))).toArray⟩] 32)).alloc (.cells #[.int .i64 (eF).1, .int .u32 (eF).2] 126)).alloc (.cells #[.int .i64 (eT).1, .int .u32 (eT).2] 126)).alloc (.cells #[.int .i64 0, .int .u32 0] 126)) := ((((Fr.refl nob w).alloc _).alloc _).alloc _).alloc _
  have zw : w.heap.size + 3 < ((((w.alloc (.cells #[.int .u32 (place (li A) A : Int), .string ⟨(code (rows (li A))).toArray⟩] 32)).alloc (.cells #[.int .i64 (eF).1, .int .u32 (eF).2] 126)).alloc (.cells #[.int .i64 (eT).1, .int .u32 (eT).2] 126)).alloc (.cells #[.int .i64 0, .int .u32 0] 126)).heap.size := by simp
  simp only [World.size_alloc] at D0 D1 D2 D3
  have a0 := D0.c0
  have a1 := D0.c1
  have b0 := D1.c0
  have b1 := D1.c1
  have d0 := D2.c0
  have d1 := D2.c1
  go_enter_defers Tryz.func88, Tryz.ntmps88
  go_wp2_with fail
  generalize ((((w.alloc (.cells #[.int .u32 (place (li A) A : Int), .string ⟨(code (rows (li A))).toArray⟩] 32)).alloc (.cells #[.int .i64 (eF).1, .int .u32 (eF).2] 126)).alloc (.cells #[.int .i64 (eT).1, .int .u32 (eT).2] 126)).alloc (.cells #[.int .i64 0, .int .u32 0] 126)) = W at *
  refine (size_any A hA _).mono ?_
  rintro e w1 ⟨rfl, hb⟩
  have g1 := (Fr.refl nob W).below hb
  replace fr := fr.trans g1 (fun _ _ h => h)
  replace D0 := D0.kept g1 (fun h => h)
  replace D1 := D1.kept g1 (fun h => h)
  replace D2 := D2.kept g1 (fun h => h)
  replace D3 := D3.kept g1 (fun h => h)
  replace h1 := P.kept _ _ _ _ nob h1 g1 (fun _ _ h => h)
  replace zw : w.heap.size + 3 < w1.heap.size := by have := hb.size; omega
  clear hb h0 g1 a0 a1 b0 b1 d0 d1
  go_wp2_with (at_make; refine wpList_make_own _ rfl _ _ 166 rfl 0 126 i0 (.agg #[.int .i64 0, .int .u32 0]) 2 Tryz.underlying166 hi0 hz0 hz1 .i64 .u32 (((li A).length : Int) + 2) ((li A).length + 2) rfl rfl ?c1 ?c2 ?c3 (Nat.zero_le _) ?_)
  case c1 => omega
  case c2 => rw [hz2]; omega
  case c3 => unfold maxLen; omega
  intro w2 row2 gr2
  have g2 : Fr nob w1 w2 := (Fr.refl nob w1).grown gr2 (fun k h => by cases h)
  replace fr := fr.trans g2 (fun _ _ h => h)
  replace h1 := P.kept _ _ _ _ nob h1 g2 (fun _ _ h => h)
  replace D0 := D0.kept g2 (fun h => h)
  replace D1 := D1.kept g2 (fun h => h)
  replace D2 := D2.kept g2 (fun h => h)
  replace D3 := D3.kept g2 (fun h => h)
  have b0 := D1.c0
  have b1 := D1.c1
  have d0 := D2.c0
  have d1 := D2.c1
  have ow2 : w.heap.size + 3 < w1.heap.size := zw
  have zw2 : w1.heap.size ≤ w2.heap.size := gr2.size
  clear gr2 g2
  go_wp2_with (at_builtin; refine wpList_append_fits _ rfl _ _ 166 rfl 0 126 i0 2 Tryz.underlying166 hi0 hz1 w1.heap.size 0 ((li A).length + 2) [] rfl (row2.alloc _) ⟨w2.heap.size, 0, none⟩ 2 2 [.int .i64 (eF).1, .int .u32 (eF).2, .int .i64 (eT).1, .int .u32 (eT).2] rfl rfl ?c5 ?c6 ?c7 ?_)
  case c7 => omega
  case c5 =>
    intro j u h
    match j, h with
    | 0, h => simp at h; subst h; simp [Addr.add]
    | 1, h => simp at h; subst h; simp [Addr.add]
    | 2, h => simp at h; subst h; simp [Addr.add]
    | 3, h => simp at h; subst h; simp [Addr.add]
    | j + 4, h => simp at h
  case c6 => simp [Value.oneCell']
  intro w3 row3 gr3
  have fa : Fr nob w2 (w2.alloc (.cells #[.int .i64 (eF).1, .int .u32 (eF).2, .int .i64 (eT).1, .int .u32 (eT).2] 126)) := (Fr.refl nob w2).alloc _
  have fr3 : Fr (fun j => j = w1.heap.size) (w2.alloc (.cells #[.int .i64 (eF).1, .int .u32 (eF).2, .int .i64 (eT).1, .int .u32 (eT).2] 126)) w3 := (Fr.refl _ _).grown gr3 (fun k h _ => by cases h; rfl)
  have lj := P.lt _ _ _ h1
  have S3 : FoldStO A val J ft0 w (.slice (some ⟨w1.heap.size, 0, none⟩) 2 ((li A).length + 2)) 0 w3 := by
    have e0 : (li A).drop ((li A).length - 0) = [] := by simp
    have zz : ∀ j, j ≤ w.heap.size + 3 → ¬ j = w1.heap.size := fun j hj => by omega
    refine ⟨⟨ft0, ?_, ?_, fun j h => .inl h⟩, ?_, ?_, ?_, ?_, ?_, ?_⟩
    · rw [e0]
      exact P.kept _ _ _ _ _ (P.kept _ _ _ _ nob h1 fa (fun _ _ h => h)) fr3 (fun j hj h => by have := l0 j hj; omega)
    · intro g hg hf
      obtain rfl : w1.heap.size = g := by simpa [Value.ownBlock] using hg
      have := l0 _ hf; omega
    · rw [e0]
      have e1 : ((glist id ([])).flatMap (cO val)) = [.int .i64 (eF).1, .int .u32 (eF).2, .int .i64 (eT).1, .int .u32 (eT).2] := by simp [glist, cO, hvF, hvT]
      rw [e1]; exact row3
    · intro g hg
      obtain rfl : w1.heap.size = g := by simpa [Value.ownBlock] using hg
      omega
    · exact ((fr.trans fa (fun _ _ h => h)).trans' fr3 (fun _ _ h => h.elim) (fun j hj h => by omega))
    · exact fr3.cell (fa.cell D0.c0 (fun h => h)) (zz _ (by simp))
    · exact fr3.cell (fa.cell D0.c1 (fun h => h)) (zz _ (by simp))
    · exact (D3.kept fa (fun h => h)).kept fr3 (zz _ (Nat.le_refl _))
  clear row3 gr3 fa fr3 lj h1 row2 fr D0 D1 D2 D3 b0 b1 d0 d1
  have a0 := S3.a0
  have a1 := S3.a1
  go_wp2_with fail
  refine (size_any A hA _).mono ?_
  rintro e w4 ⟨rfl, hb⟩
  have S4 := S3.kept P ((Fr.refl nob w3).below hb)
  replace zw : w.heap.size + 3 < w4.heap.size := S4.rb.lt
  clear hb S3 a0 a1
  go_wp2_with fail
  go_loopw [9, 23] (fun gv kv wr => ∃ k : Nat, k ≤ (li A).length ∧ kv = .int .u32 (k : Int) ∧ gv = .slice (some ⟨w1.heap.size, 0, none⟩) (k + 2) ((li A).length + 2) ∧ FoldStO A val J ft0 w (.slice (some ⟨w1.heap.size, 0, none⟩) (k + 2) ((li A).length + 2)) k wr) (fun _ kv _ => (li A).length - (intOf kv).toNat)
  case atStart => exact ⟨0, Nat.zero_le _, rfl, rfl, S4⟩
  case round =>
    clear S4
    obtain ⟨k, hk, rfl, rfl, S⟩ := hrel
    have a0 := S.a0
    have a1 := S.a1
    by_cases hlt : k < (li A).length
    · go_wp2_with fail
      obtain ⟨x, hx, hp, hd⟩ := nth_place (good_li A) hlt
      have h := at_any A x hA (.inr hx) wr
      rw [hp] at h
      refine h.mono ?_
      rintro e w5 ⟨rfl, hb⟩
      clear h a0 a1
      have S5 := S.kept P ((Fr.refl nob wr).below hb)
      clear S hb
      cases x with
      | F => simp [place] at hp
      | T => simp [place] at hp
      | N i lo hi =>
        simp only [rowB, nk, B.top, B.lo, B.hi] at *
        have hgR : good (B.N i lo hi :: (li A).drop ((li A).length - k)) := by rw [← hd]; exact good_suffix (good_li A) (List.drop_suffix _ _)
        obtain ⟨_, hil, hih, _⟩ := hgR
        have hsuf : (li A).drop ((li A).length - k) <:+ li A := List.drop_suffix _ _
        have hlR : ((li A).drop ((li A).length - k)).length = k := by simp; omega
        have pl := place_lt hil
        have ph := place_lt hih
        rw [hlR] at pl ph
        rw [← place_suffix (good_li A) hsuf hil] at pl
        rw [← place_suffix (good_li A) hsuf hih] at ph
        have cl : w5.cell? ⟨w1.heap.size, place (li A) lo * 2, none⟩ = some (.int .i64 (val lo).1) ∧ w5.cell? ⟨w1.heap.size, place (li A) lo * 2 + 1, none⟩ = some (.int .u32 (val lo).2) := by
          rw [S5.row.cellAt _ (by omega), S5.row.cellAt _ (by omega), place_suffix (good_li A) hsuf hil]; exact flatO_at (glist_at id hil)
        have ch : w5.cell? ⟨w1.heap.size, place (li A) hi * 2, none⟩ = some (.int .i64 (val hi).1) ∧ w5.cell? ⟨w1.heap.size, place (li A) hi * 2 + 1, none⟩ = some (.int .u32 (val hi).2) := by
          rw [S5.row.cellAt _ (by omega), S5.row.cellAt _ (by omega), place_suffix (good_li A) hsuf hih]; exact flatO_at (glist_at id hih)
        obtain ⟨cl, cl'⟩ := cl
        obtain ⟨ch, ch'⟩ := ch
        go_wp2_with fail
        have z15a : w1.heap.size < w5.heap.size := (S5.row.lt _ rfl).2
        have hlt5 : ∀ ft, J ft ((li A).drop ((li A).length - k)) w5 → ∀ j, ft j → j < w5.heap.size := fun ft h => P.lt _ _ _ h
        obtain ⟨ft, hJ5, hf2, hf3⟩ := S5.ex
        replace hlt5 := hlt5 _ hJ5
        have fn : Fr nob w5 (w5.alloc (.cells #[.int .u8 (i : Int), .int .u32 (place (li A) lo : Int), .int .u32 (place (li A) hi : Int)] 98)) := (Fr.refl nob w5).alloc _
        have n0 : (w5.alloc (.cells #[.int .u8 (i : Int), .int .u32 (place (li A) lo : Int), .int .u32 (place (li A) hi : Int)] 98)).cell? ⟨w5.heap.size, 0, none⟩ = some (.int .u8 (i : Int)) := World.cell?_alloc_at _ _ _ _ (by simp)
        have n1 : (w5.alloc (.cells #[.int .u8 (i : Int), .int .u32 (place (li A) lo : Int), .int .u32 (place (li A) hi : Int)] 98)).cell? ⟨w5.heap.size, 1, none⟩ = some (.int .u32 (place (li A) lo : Int)) := World.cell?_alloc_at _ _ _ _ (by simp)
        have n2 : (w5.alloc (.cells #[.int .u8 (i : Int), .int .u32 (place (li A) lo : Int), .int .u32 (place (li A) hi : Int)] 98)).cell? ⟨w5.heap.size, 2, none⟩ = some (.int .u32 (place (li A) hi : Int)) := World.cell?_alloc_at _ _ _ _ (by simp)
        have z6 : w.heap.size + 3 < w5.heap.size := S5.rb.lt
        generalize w5.alloc (.cells #[.int .u8 (i : Int), .int .u32 (place (li A) lo : Int), .int .u32 (place (li A) hi : Int)] 98) = W6 at *
        have S6 := S5.kept P fn
        replace cl := fn.cell cl (fun h => h)
        replace ch := fn.cell ch (fun h => h)
        replace cl' := fn.cell cl' (fun h => h)
        replace ch' := fn.cell ch' (fun h => h)
        replace z6 : w.heap.size + 3 < W6.heap.size := by have := fn.size; omega
        clear S5
        have hJ := P.kept _ _ _ _ nob hJ5 fn (fun _ _ h => h)
        have row6 := S6.row
        have lt6 := P.lt _ _ _ hJ
        have ng : ¬ ft w1.heap.size := hf2 _ rfl
        have nb : ¬ ft w5.heap.size := fun h => by have := hlt5 _ h; omega
        have hcall := fun W' (h : Fr nob W6 W') => P.join ft _ i lo hi W' (P.kept _ _ _ _ nob hJ h (fun _ _ h => h)) (by rw [← hd]; exact List.drop_suffix _ _)
        have hpl0 : (0 : Int) ≤ (place (li A) lo : Int) := Int.natCast_nonneg _
        have hph0 : (0 : Int) ≤ (place (li A) hi : Int) := Int.natCast_nonneg _
        have hpl1 : (place (li A) lo : Int) < (k : Int) + 2 := by omega
        have hph1 : (place (li A) hi : Int) < (k : Int) + 2 := by omega
        have hpl2 : (place (li A) lo : Int) < ((k + 2 : Nat) : Int) := by omega
        have hph2 : (place (li A) hi : Int) < ((k + 2 : Nat) : Int) := by omega
        have hi24 : i < 24 := ((small_li hA).2 _ hx).2.1
        have z15 : w1.heap.size < w5.heap.size := z15a
        have hiw : IntKind.i64.wrap (i : Int) = (i : Int) := by rw [IntKind.wrap_i64]; omega
        go_region_held3 (fun w' => w'.cell? ⟨w5.heap.size, 0, none⟩ = some (.int .u8 (i : Int)) ∧ w'.cell? ⟨w5.heap.size, 1, none⟩ = some (.int .u32 (place (li A) lo : Int)) ∧ w'.cell? ⟨w5.heap.size, 2, none⟩ = some (.int .u32 (place (li A) hi : Int)) ∧
            w'.cell? ⟨w1.heap.size, place (li A) lo * 2, none⟩ = some (.int .i64 (val lo).1) ∧ w'.cell? ⟨w1.heap.size, place (li A) lo * 2 + 1, none⟩ = some (.int .u32 (val lo).2) ∧ w'.cell? ⟨w1.heap.size, place (li A) hi * 2, none⟩ = some (.int .i64 (val hi).1) ∧ w'.cell? ⟨w1.heap.size, place (li A) hi * 2 + 1, none⟩ = some (.int .u32 (val hi).2))
          (first | go_keep | (go_split_ands; exact ⟨x0, x1, x2, x3, x5, x4, x6⟩) | (go_split_ands; exact ⟨y0, y1, y2, y3, y5, y4, y6⟩))
          (first
            | (go_at_call 89
               refine (hcall _ ?_).mono ?_
               · exact (Fr.refl _ _).drew
               rintro e w7 ⟨ft', rfl, hJ7, fr7, hn7⟩
               have x0 := fr7.cell' n0 nb
               have x1 := fr7.cell' n1 nb
               have x2 := fr7.cell' n2 nb
               have x3 := fr7.cell' cl ng
               have x4 := fr7.cell' ch ng
               have x5 := fr7.cell' cl' ng
               have x6 := fr7.cell' ch' ng)
            | (refine step_append_fit (by rfl) _ _ _ (by rfl) 0 126 i0 2 Tryz.underlying166 hi0 hz1 w1.heap.size (k + 2) ((li A).length + 2) _ (by rfl) ((fr7.row row6.drew (fun g hg => by cases hg; exact ng)).alloc _) ⟨w7.heap.size, 0, none⟩ 1 1 [.int .i64 (val (.N i lo hi)).1, .int .u32 (val (.N i lo hi)).2] (by rfl) (by rfl) (twoO_news _ _ _ _) (by simp [Value.oneCell']) (by omega) ?_
               intro w8 row8 gr8 keep8
               have y0 := gr8.cell (cell_alloc_l x0 _) (by simp; omega)
               have y1 := gr8.cell (cell_alloc_l x1 _) (by simp; omega)
               have y2 := gr8.cell (cell_alloc_l x2 _) (by simp; omega)
               have y3 := (keep8 _ (by omega)).trans (cell_alloc_l x3 _)
               have y4 := (keep8 _ (by omega)).trans (cell_alloc_l x4 _)
               have y5 := (keep8 _ (by omega)).trans (cell_alloc_l x5 _)
               have y6 := (keep8 _ (by omega)).trans (cell_alloc_l x6 _)))
        clear x0 x1 x2 x3 x4 x5 x6 y0 y1 y2 y3 y4 y5 y6 n0 n1 n2 cl ch cl' ch' hcall
        have fr7' : Fr ft W6 w7 := ((Fr.refl ft W6).drew).trans fr7 (fun _ _ h => h)
        have S8 := S6.step P rfl hd.symm hf2 hf3 (fun j hj => by have := lt6 j hj; omega) (P.kept _ _ _ _ nob hJ7 ((Fr.refl nob w7).alloc _) (fun _ _ h => h)) (fr7'.alloc (.cells #[.int .i64 (val (.N i lo hi)).1, .int .u32 (val (.N i lo hi)).2] 126)) hn7 z6 l0 row8 gr8 (.inl rfl)
        clear S6 row8 gr8 keep8 fr7 fr7' hn7 hJ7 hJ5 hJ fn hf2 hf3 row6
        go_wp2_with fail
        go_roundw
        case rel => exact ⟨k + 1, by omega, by go_num, rfl, S8⟩
        case measure => simp [intOf]; omega
    · obtain rfl : k = (li A).length := by omega
      have e0 : (li A).drop ((li A).length - (li A).length) = li A := by simp
      have hpA := place_lt (inn_li A)
      have hc : wr.cell? ⟨w1.heap.size, place (li A) A * 2, none⟩ = some (.int .i64 (val A).1) ∧ wr.cell? ⟨w1.heap.size, place (li A) A * 2 + 1, none⟩ = some (.int .u32 (val A).2) := by
        have h := S.row
        rw [e0] at h
        rw [h.cellAt _ (by omega), h.cellAt _ (by omega)]
        exact flatO_at (glist_at id (inn_li A))
      obtain ⟨hc, hc'⟩ := hc
      obtain ⟨ft, hJ, h2, h3⟩ := S.ex
      have hfr := S.fr
      have hrb := S.rb
      have r0 := hrb.c0
      have r1 := hrb.c1
      have rf0 := hrb.fz 0
      have rf1 := hrb.fz 1
      rw [e0] at hJ
      obtain ⟨hbs, hfs⟩ := hrb.set (.int .i64 (val A).1) (.int .u32 (val A).2)
      have HJ := Lib.hid (P.kept _ _ _ _ _ hJ hfs (fun j hj e => by
        rcases h3 j hj with h | h
        · have := l0 j h; omega
        · omega))
      have HF := Lib.hid (hfr.trans hfs (fun j hj e => by exfalso; omega))
      have HB := Lib.hid hbs
      clear S e0 hJ hfr hrb hbs hfs
      go_wp2_with fail
      refine leaves_cons (f := 117) (args := #[]) (by simp) (by simp [go_sem]) ?_
      refine (foldO_idle _).mono ?_
      rintro e u' w'' ⟨rfl, rfl, rfl⟩
      have z0 := HB.out.c0
      have z1 := HB.out.c1
      exact ⟨.agg #[.int .i64 (val A).1, .int .u32 (val A).2], by simp [results, Tryz.results88, go_sem, z0, z1], ft, rfl, HJ.out, HF.out, fun j hj => (h3 j hj).imp id (by omega)⟩
end Go.Proofs.YtiainlccodnlmaaGreatDoor
