import Derived.Test.YtalnhlebgofiiaaGreatDoorHas
import Derived.Test.YtalnhlebgofiiaaGreatDoorStep
import Derived.Recover
import Derived.Deep.RegionHeld3
namespace Go.Proofs.YtalnhlebgofiiaaGreatDoor
open Go.RowKit
open Bd

theorem info_U : (Tryz.prog.info? 23).map (fun i => (i.zero, i.size, i.bytes)) = some (some (.int .u32 0), 1, 4) := by kernel_rfl

/-- the deferred closure, where nothing has panicked -/
theorem foldU_idle (w : World) : CallsD Tryz.prog 136 #[] .returning w fun e u' w' => e = .returned (.tuple #[]) ∧ u' = .returning ∧ w' = w := by
  refine callsD_of_wpS Tryz.func136 rfl fun c₀ cs hu => ?_
  apply wpS_region
  simp [wpOpsS, go_sem, recoverD, hu, Tryz.ntmps136, bodyPostS, results, Tryz.results136]
  cases c₀
  simp_all

/-- what the loop of Fold keeps, behind k nodes -/
structure FoldStU (A : B) (val : B → Nat) (J : (Nat → Prop) → List B → World → Prop) (ft0 : Nat → Prop) (w0 : World) (gv : Value) (k : Nat) (wr : World) : Prop where
  ex : ∃ ft, J ft ((li A).drop ((li A).length - k)) wr ∧ (∀ g, gv.ownBlock = some g → ¬ ft g) ∧ ∀ j, ft j → ft0 j ∨ w0.heap.size < j
  row : wr.ownsRow 0 23 1 gv (k + 2) (glist (fun b => .int .u32 (val b : Int)) ((li A).drop ((li A).length - k)))
  own : ∀ g, gv.ownBlock = some g → w0.heap.size < g
  fr : Fr ft0 w0 wr
  a0 : wr.cell? ⟨w0.heap.size, 0, none⟩ = some (.int .u32 (place (li A) A : Int))
  a1 : wr.cell? ⟨w0.heap.size, 1, none⟩ = some (.string ⟨(code (rows (li A))).toArray⟩)

structure FoldPU (A : B) (val : B → Nat) (J : (Nat → Prop) → List B → World → Prop) (wb : Nat) : Prop where
  kept : ∀ ft R w w' S, J ft R w → Fr S w w' → (∀ k, ft k → ¬ S k) → J ft R w'
  lt : ∀ ft R w, J ft R w → ∀ k, ft k → k < w.heap.size
  join : ∀ ft R i lo hi w, J ft R w → (B.N i lo hi :: R) <:+ li A → Calls Tryz.prog 60 #[.pointer (some ⟨wb, 0, none⟩), .int .i64 (i : Int), .int .u32 (val lo : Int), .int .u32 (val hi : Int)] w fun e w' => ∃ ft', e = .returned (.int .u32 (val (.N i lo hi) : Int)) ∧ J ft' (.N i lo hi :: R) w' ∧ Fr ft w w' ∧ ∀ k, ft' k → ft k ∨ w.heap.size ≤ k

section
variable {A : B} {val : B → Nat} {J : (Nat → Prop) → List B → World → Prop} {ft0 : Nat → Prop} {w0 wr w' : World} {gv : Value} {k : Nat} {wb : Nat}
theorem FoldStU.kept (P : FoldPU A val J wb) (h : FoldStU A val J ft0 w0 gv k wr) (fr : Fr nob wr w') : FoldStU A val J ft0 w0 gv k w' := by
  obtain ⟨⟨ft, h1, h2, h3⟩, h4, h5, h6, h7, h8⟩ := h
  exact ⟨⟨ft, P.kept _ _ _ _ _ h1 fr (fun _ _ h => h), h2, h3⟩, fr.row h4 (fun _ _ h => h), h5, h6.trans fr (fun _ _ h => h.elim), fr.cell h7 (fun h => h), fr.cell h8 (fun h => h)⟩

/-- a round: the call, then the append -/
theorem FoldStU.step (P : FoldPU A val J wb) {w1 w2 w3 : World} {ft ft' : Nat → Prop} {R : List B} {i g cap : Nat} {lo hi : B} (_hR : R = (li A).drop ((li A).length - k)) (hR' : B.N i lo hi :: R = (li A).drop ((li A).length - (k + 1)))
    (h1 : FoldStU A val J ft0 w0 gv k w1) (hft : ∀ g, gv.ownBlock = some g → ¬ ft g) (hft0 : ∀ j, ft j → ft0 j ∨ w0.heap.size < j) (_hft1 : ∀ j, ft j → j < w1.heap.size) (hJ : J ft' (B.N i lo hi :: R) w2) (fr : Fr ft w1 w2) (hn : ∀ k, ft' k → ft k ∨ w1.heap.size ≤ k) (hl : w0.heap.size < w1.heap.size)
    (lt0 : ∀ k, ft0 k → k < w0.heap.size) (hrow : w3.ownsRow 0 23 1 (.slice (some ⟨g, 0, none⟩) (k + 2 + 1) cap) (k + 2 + 1) (glist (fun b => .int .u32 (val b : Int)) R ++ [.int .u32 (val (.N i lo hi) : Int)])) (hg : w2.grownBy w3 gv.ownBlock) (hat : gv.ownBlock = some g ∨ w2.heap.size ≤ g) :
    FoldStU A val J ft0 w0 (.slice (some ⟨g, 0, none⟩) (k + 2 + 1) cap) (k + 1) w3 := by
  obtain ⟨_, h4, h5, h6, h7, h8⟩ := h1
  have hsz := fr.size
  have own1 : ∀ g, gv.ownBlock = some g → g < w1.heap.size := fun g hg => (h4.lt g hg).2
  have n0 : ¬ ft w0.heap.size := fun h => by
    rcases hft0 _ h with h | h
    · have := lt0 _ h; omega
    · omega
  have n1 : ∀ g, gv.ownBlock = some g → g ≠ w0.heap.size := fun g hg e => by have := h5 g hg; omega
  have fr3 : Fr (fun j => gv.ownBlock = some j) w2 w3 := (Fr.refl _ w2).grown hg (fun k hk _ => hk)
  refine ⟨⟨ft', ?_, ?_, ?_⟩, ?_, ?_, ?_, ?_, ?_⟩
  · rw [← hR']
    exact P.kept _ _ _ _ _ hJ fr3 (fun j hj hs => by
      rcases hn j hj with h | h
      · exact hft j hs h
      · have := own1 j hs; omega)
  · intro g' hg' hf
    obtain rfl : g = g' := by simpa [Value.ownBlock] using hg'
    rcases hat with h | h
    · rcases hn _ hf with h' | h'
      · exact hft _ h h'
      · have := own1 _ h; omega
    · have := P.lt _ _ _ hJ _ hf; omega
  · intro j hj
    rcases hn j hj with h | h
    · exact hft0 j h
    · exact .inr (by omega)
  · rw [← hR', glist_cons]; exact hrow
  · intro g' hg'
    obtain rfl : g = g' := by simpa [Value.ownBlock] using hg'
    rcases hat with h | h
    · exact h5 _ h
    · omega
  · refine (h6.trans fr (fun j hj h => ?_)).trans fr3 (fun j hj h => ?_)
    · rcases hft0 j h with h | h
      · exact h
      · omega
    · have := h5 j h; omega
  · exact fr3.cell (fr.cell h7 n0) (fun h => n1 _ h rfl)
  · exact fr3.cell (fr.cell h8 n0) (fun h => n1 _ h rfl)
end

set_option maxRecDepth 100000 in
set_option maxHeartbeats 1000000 in
theorem foldU_any (A : B) (hA : A.ok 0) (val : B → Nat) (J : (Nat → Prop) → List B → World → Prop) (wb : Nat) (P : FoldPU A val J wb) (vF vT : Nat) (hvF : val .F = vF) (hvT : val .T = vT)
    (ft0 : Nat → Prop) (w : World) (h0 : J ft0 [] w) :
    Calls Tryz.prog 110 #[dval A, .int .u32 (vF : Int), .int .u32 (vT : Int), .func (.func 60) #[.pointer (some ⟨wb, 0, none⟩)] #[]] w fun e w' => ∃ ft', e = .returned (.int .u32 (val A : Int)) ∧ J ft' (li A) w' ∧ Fr ft0 w w' ∧ ∀ k, ft' k → ft0 k ∨ w.heap.size ≤ k := by
  obtain ⟨i0, hi0, hz0, hz1, hz2⟩ := info_parts info_U
  have hs := (small_li hA).1
  have hs' : (((li A).length : Nat) : Int) < 2097152 := by omega
  have l0 := P.lt _ _ _ h0
  have h1 := P.kept _ _ _ _ nob h0 ((Fr.refl nob w).alloc (.cells #[.int .u32 (place (li A) A : Int), .string ⟨(code (rows (li A))).toArray⟩] 32)) (fun _ _ h => h)
  have a0 : (w.alloc (.cells #[.int .u32 (place (li A) A : Int), .string ⟨(code (rows (li A))).toArray⟩] 32)).cell? ⟨w.heap.size, 0, none⟩ = some (.int .u32 (place (li A) A : Int)) := World.cell?_alloc_at _ _ _ _ (by simp)
  have a1 : (w.alloc (.cells #[.int .u32 (place (li A) A : Int), .string ⟨(code (rows (li A))).toArray⟩] 32)).cell? ⟨w.heap.size, 1, none⟩ = some (.string ⟨(code (rows (li A))).toArray⟩) := World.cell?_alloc_at _ _ _ _ (by simp)
  have fr : Fr nob w (w.alloc (.cells #[.int .u32 (place (li A) A : Int), .string ⟨(code (rows (li A))).toArray⟩] 32)) := (Fr.refl nob w).alloc _
  have zw : w.heap.size < (w.alloc (.cells #[.int .u32 (place (li A) A : Int), .string ⟨(code (rows (li A))).toArray⟩] 32)).heap.size := by simp
  go_enter_defers Tryz.func110, Tryz.ntmps110
  go_wp2_with fail
  generalize w.alloc (.cells #[.int .u32 (place (li A) A : Int), .string ⟨(code (rows (li A))).toArray⟩] 32) = W at *
  refine (size_any A hA _).mono ?_
  rintro e w1 ⟨rfl, hb⟩
  replace fr := fr.below hb
  replace a0 := ((Fr.refl nob W).below hb).cell a0 (fun h => h)
  replace a1 := ((Fr.refl nob W).below hb).cell a1 (fun h => h)
  replace h1 := P.kept _ _ _ _ nob h1 ((Fr.refl nob W).below hb) (fun _ _ h => h)
  replace zw : w.heap.size < w1.heap.size := by have := hb.size; omega
  clear hb h0
  go_wp2_with (at_make; refine wpList_make_own _ rfl _ _ 182 rfl 0 23 i0 (.int .u32 0) 1 Tryz.underlying182 hi0 hz0 hz1 .i64 .u32 (((li A).length : Int) + 2) ((li A).length + 2) rfl rfl ?c1 ?c2 ?c3 (Nat.zero_le _) ?_)
  case c1 => omega
  case c2 => rw [hz2]; omega
  case c3 => unfold maxLen; omega
  intro w2 row2 gr2
  replace fr := fr.grown gr2 (fun k h => by cases h)
  replace h1 := P.kept _ _ _ _ nob h1 ((Fr.refl nob w1).grown gr2 (fun k h => by cases h)) (fun _ _ h => h)
  replace a0 := gr2.cell a0 (by simp)
  replace a1 := gr2.cell a1 (by simp)
  have ow2 : w.heap.size < w1.heap.size := zw
  have zw2 : w1.heap.size ≤ w2.heap.size := gr2.size

  clear gr2
  go_wp2_with (at_builtin; refine wpList_append_fits _ rfl _ _ 182 rfl 0 23 i0 1 Tryz.underlying182 hi0 hz1 w1.heap.size 0 ((li A).length + 2) [] rfl (row2.alloc _) ⟨w2.heap.size, 0, none⟩ 2 2 [.int .u32 (vF : Int), .int .u32 (vT : Int)] rfl rfl ?c5 ?c6 ?c7 ?_)
  case c7 => omega
  case c5 =>
    intro j u h
    match j, h with
    | 0, h => simp at h; subst h; simp [Addr.add]
    | 1, h => simp at h; subst h; simp [Addr.add]
  case c6 => simp [Value.oneCell']
  intro w3 row3 gr3
  have fa : Fr nob w2 (w2.alloc (.cells #[.int .u32 (vF : Int), .int .u32 (vT : Int)] 23)) := (Fr.refl nob w2).alloc _
  have fr3 : Fr (fun j => j = w1.heap.size) (w2.alloc (.cells #[.int .u32 (vF : Int), .int .u32 (vT : Int)] 23)) w3 := (Fr.refl _ _).grown gr3 (fun k h _ => by cases h; rfl)
  have lj := P.lt _ _ _ h1
  have S3 : FoldStU A val J ft0 w (.slice (some ⟨w1.heap.size, 0, none⟩) 2 ((li A).length + 2)) 0 w3 := by
    have e0 : (li A).drop ((li A).length - 0) = [] := by simp
    have zz : w.heap.size ≠ w1.heap.size := by omega
    refine ⟨⟨ft0, ?_, ?_, fun j h => .inl h⟩, ?_, ?_, ?_, ?_, ?_⟩
    · rw [e0]
      exact P.kept _ _ _ _ _ (P.kept _ _ _ _ nob h1 fa (fun _ _ h => h)) fr3 (fun j hj h => by have := l0 j hj; omega)
    · intro g hg hf
      obtain rfl : w1.heap.size = g := by simpa [Value.ownBlock] using hg
      have := l0 _ hf; omega
    · rw [e0]
      have e1 : glist (fun b => (.int .u32 (val b : Int) : Value)) ([] : List B) = [.int .u32 (vF : Int), .int .u32 (vT : Int)] := by simp [glist, hvF, hvT]
      rw [e1]; exact row3
    · intro g hg
      obtain rfl : w1.heap.size = g := by simpa [Value.ownBlock] using hg
      omega
    · exact ((fr.trans fa (fun _ _ h => h)).trans' fr3 (fun _ _ h => h.elim) (fun j hj h => by omega))
    · exact fr3.cell (fa.cell a0 (fun h => h)) (fun h => zz h)
    · exact fr3.cell (fa.cell a1 (fun h => h)) (fun h => zz h)
  clear row3 gr3 fa fr3 lj h1 a0 a1 row2 fr
  have a0 := S3.a0
  have a1 := S3.a1
  go_wp2_with fail
  refine (size_any A hA _).mono ?_
  rintro e w4 ⟨rfl, hb⟩
  have S4 := S3.kept P ((Fr.refl nob w3).below hb)
  replace zw : w.heap.size < w4.heap.size := lt_of_cell S4.a0
  clear hb S3 a0 a1
  go_wp2_with fail
  go_loopw [9, 23] (fun gv kv wr => ∃ k : Nat, k ≤ (li A).length ∧ kv = .int .u32 (k : Int) ∧ gv = .slice (some ⟨w1.heap.size, 0, none⟩) (k + 2) ((li A).length + 2) ∧ FoldStU A val J ft0 w (.slice (some ⟨w1.heap.size, 0, none⟩) (k + 2) ((li A).length + 2)) k wr) (fun _ kv _ => (li A).length - (intOf kv).toNat)
  case atStart => exact ⟨0, Nat.zero_le _, rfl, rfl, S4⟩
  case round =>
    clear S4
    obtain ⟨k, hk, rfl, rfl, S⟩ := hrel
    have a0 := S.a0
    have a1 := S.a1
    by_cases hlt : k < (li A).length
    · go_wp2_with fail
      obtain ⟨x, hx, hp, hd⟩ := nth_place (good_li A) hlt
      have h := at_any A x hA (.inr hx) wr
      rw [hp] at h
      refine h.mono ?_
      rintro e w5 ⟨rfl, hb⟩
      clear h a0 a1
      have S5 := S.kept P ((Fr.refl nob wr).below hb)
      clear S hb
      cases x with
      | F => simp [place] at hp
      | T => simp [place] at hp
      | N i lo hi =>
        simp only [rowB, nk, B.top, B.lo, B.hi] at *
        have hgR : good (B.N i lo hi :: (li A).drop ((li A).length - k)) := by rw [← hd]; exact good_suffix (good_li A) (List.drop_suffix _ _)
        obtain ⟨_, hil, hih, _⟩ := hgR
        have hsuf : (li A).drop ((li A).length - k) <:+ li A := List.drop_suffix _ _
        have hlR : ((li A).drop ((li A).length - k)).length = k := by simp; omega
        have pl := place_lt hil
        have ph := place_lt hih
        rw [hlR] at pl ph
        rw [← place_suffix (good_li A) hsuf hil] at pl
        rw [← place_suffix (good_li A) hsuf hih] at ph
        have cl : w5.cell? ⟨w1.heap.size, place (li A) lo, none⟩ = some (.int .u32 (val lo : Int)) := by
          rw [S5.row.cellAt _ (by omega), place_suffix (good_li A) hsuf hil]; exact glist_at _ hil
        have ch : w5.cell? ⟨w1.heap.size, place (li A) hi, none⟩ = some (.int .u32 (val hi : Int)) := by
          rw [S5.row.cellAt _ (by omega), place_suffix (good_li A) hsuf hih]; exact glist_at _ hih
        go_wp2_with fail
        have z15a : w1.heap.size < w5.heap.size := (S5.row.lt _ rfl).2
        have hlt5 : ∀ ft, J ft ((li A).drop ((li A).length - k)) w5 → ∀ j, ft j → j < w5.heap.size := fun ft h => P.lt _ _ _ h
        obtain ⟨ft, hJ5, hf2, hf3⟩ := S5.ex
        replace hlt5 := hlt5 _ hJ5
        have fn : Fr nob w5 (w5.alloc (.cells #[.int .u8 (i : Int), .int .u32 (place (li A) lo : Int), .int .u32 (place (li A) hi : Int)] 98)) := (Fr.refl nob w5).alloc _
        have n0 : (w5.alloc (.cells #[.int .u8 (i : Int), .int .u32 (place (li A) lo : Int), .int .u32 (place (li A) hi : Int)] 98)).cell? ⟨w5.heap.size, 0, none⟩ = some (.int .u8 (i : Int)) := World.cell?_alloc_at _ _ _ _ (by simp)
        have n1 : (w5.alloc (.cells #[.int .u8 (i : Int), .int .u32 (place (li A) lo : Int), .int .u32 (place (li A) hi : Int)] 98)).cell? ⟨w5.heap.size, 1, none⟩ = some (.int .u32 (place (li A) lo : Int)) := World.cell?_alloc_at _ _ _ _ (by simp)
        have n2 : (w5.alloc (.cells #[.int .u8 (i : Int), .int .u32 (place (li A) lo : Int), .int .u32 (place (li A) hi : Int)] 98)).cell? ⟨w5.heap.size, 2, none⟩ = some (.int .u32 (place (li A) hi : Int)) := World.cell?_alloc_at _ _ _ _ (by simp)
        have z6 : w.heap.size < w5.heap.size := lt_of_cell S5.a0
        generalize w5.alloc (.cells #[.int .u8 (i : Int), .int .u32 (place (li A) lo : Int), .int .u32 (place (li A) hi : Int)] 98) = W6 at *
        have S6 := S5.kept P fn
        replace cl := fn.cell cl (fun h => h)
        replace ch := fn.cell ch (fun h => h)
        replace z6 : w.heap.size < W6.heap.size := by have := fn.size; omega
        clear S5
        have hJ := P.kept _ _ _ _ nob hJ5 fn (fun _ _ h => h)
        have row6 := S6.row
        have lt6 := P.lt _ _ _ hJ
        have ng : ¬ ft w1.heap.size := hf2 _ rfl
        have nb : ¬ ft w5.heap.size := fun h => by have := hlt5 _ h; omega
        have hcall := fun W' (h : Fr nob W6 W') => P.join ft _ i lo hi W' (P.kept _ _ _ _ nob hJ h (fun _ _ h => h)) (by rw [← hd]; exact List.drop_suffix _ _)
        have hpl0 : (0 : Int) ≤ (place (li A) lo : Int) := Int.natCast_nonneg _
        have hph0 : (0 : Int) ≤ (place (li A) hi : Int) := Int.natCast_nonneg _
        have hpl1 : (place (li A) lo : Int) < (k : Int) + 2 := by omega
        have hph1 : (place (li A) hi : Int) < (k : Int) + 2 := by omega
        have hpl2 : (place (li A) lo : Int) < ((k + 2 : Nat) : Int) := by omega
        have hph2 : (place (li A) hi : Int) < ((k + 2 : Nat) : Int) := by omega
        have hi24 : i < 24 := ((small_li hA).2 _ hx).2.1
        have z15 : w1.heap.size < w5.heap.size := z15a
        have hiw : IntKind.i64.wrap (i : Int) = (i : Int) := by rw [IntKind.wrap_i64]; omega
        go_region_held3 (fun w' => w'.cell? ⟨w5.heap.size, 0, none⟩ = some (.int .u8 (i : Int)) ∧ w'.cell? ⟨w5.heap.size, 1, none⟩ = some (.int .u32 (place (li A) lo : Int)) ∧ w'.cell? ⟨w5.heap.size, 2, none⟩ = some (.int .u32 (place (li A) hi : Int)) ∧
            w'.cell? ⟨w1.heap.size, place (li A) lo, none⟩ = some (.int .u32 (val lo : Int)) ∧ w'.cell? ⟨w1.heap.size, place (li A) hi, none⟩ = some (.int .u32 (val hi : Int)))
          (first | go_keep | (go_split_ands; exact ⟨x0, x1, x2, x3, x4⟩) | (go_split_ands; exact ⟨y0, y1, y2, y3, y4⟩))
          (first
            | (go_at_call 60
               refine (hcall _ ?_).mono ?_
               · exact (Fr.refl _ _).drew
               rintro e w7 ⟨ft', rfl, hJ7, fr7, hn7⟩
               have x0 := fr7.cell' n0 nb
               have x1 := fr7.cell' n1 nb
               have x2 := fr7.cell' n2 nb
               have x3 := fr7.cell' cl ng
               have x4 := fr7.cell' ch ng)
            | (refine step_append_fit (by rfl) _ _ _ (by rfl) 0 23 i0 1 Tryz.underlying182 hi0 hz1 w1.heap.size (k + 2) ((li A).length + 2) _ (by rfl) ((fr7.row row6.drew (fun g hg => by cases hg; exact ng)).alloc _) ⟨w7.heap.size, 0, none⟩ 1 1 [.int .u32 (val (.N i lo hi) : Int)] (by rfl) (by rfl) (one_news _ _ _) (by simp [Value.oneCell']) (by omega) ?_
               intro w8 row8 gr8 keep8
               have y0 := gr8.cell (cell_alloc_l x0 _) (by simp; omega)
               have y1 := gr8.cell (cell_alloc_l x1 _) (by simp; omega)
               have y2 := gr8.cell (cell_alloc_l x2 _) (by simp; omega)
               have y3 := (keep8 _ (by omega)).trans (cell_alloc_l x3 _)
               have y4 := (keep8 _ (by omega)).trans (cell_alloc_l x4 _)))
        clear x0 x1 x2 x3 x4 y0 y1 y2 y3 y4 n0 n1 n2 cl ch hcall
        have fr7' : Fr ft W6 w7 := ((Fr.refl ft W6).drew).trans fr7 (fun _ _ h => h)
        have S8 := S6.step P rfl hd.symm hf2 hf3 (fun j hj => by have := lt6 j hj; omega) (P.kept _ _ _ _ nob hJ7 ((Fr.refl nob w7).alloc _) (fun _ _ h => h)) (fr7'.alloc (.cells #[.int .u32 (val (.N i lo hi) : Int)] 23)) hn7 z6 l0 row8 gr8 (.inl rfl)
        clear S6 row8 gr8 keep8 fr7 fr7' hn7 hJ7 hJ5 hJ fn hf2 hf3 row6
        go_wp2_with fail
        go_roundw
        case rel => exact ⟨k + 1, by omega, by go_num, rfl, S8⟩
        case measure => simp [intOf]; omega
    · obtain rfl : k = (li A).length := by omega
      have e0 : (li A).drop ((li A).length - (li A).length) = li A := by simp
      have hpA := place_lt (inn_li A)
      have hc : wr.cell? ⟨w1.heap.size, place (li A) A, none⟩ = some (.int .u32 (val A : Int)) := by
        have h := S.row
        rw [e0] at h
        exact (h.cellAt (place (li A) A) (by omega)).trans (glist_at _ (inn_li A))
      obtain ⟨ft, hJ, h2, h3⟩ := S.ex
      have hfr := S.fr
      rw [e0] at hJ
      clear S e0
      go_wp2_with fail
      refine leaves_cons (f := 136) (args := #[]) (by simp) (by simp [go_sem]) ?_
      refine (foldU_idle _).mono ?_
      rintro e u' w'' ⟨rfl, rfl, rfl⟩
      exact ⟨_, results_tmp rfl _ _ _, ft, rfl, hJ, hfr, fun j hj => (h3 j hj).imp id (by omega)⟩
end Go.Proofs.YtalnhlebgofiiaaGreatDoor
namespace Go.Proofs.YtalnhlebgofiiaaGreatDoor
open Go.RowKit
open Bd

/-- the place of the complement in its own listing -/
def negP (A b : B) : Nat := place ((li A).map B.neg) b.neg
def NegJ (wb mb : Nat) (ft : Nat → Prop) (R : List B) (w : World) : Prop := ∃ v, Work w wb mb v (R.map B.neg) ∧ ft = foot wb mb v

theorem map_suffix {R S : List B} (h : R <:+ S) : R.map B.neg <:+ S.map B.neg := by
  obtain ⟨t, rfl⟩ := h
  exact ⟨t.map B.neg, by simp⟩

theorem vis_node_neg {R : List B} {i : Nat} {lo hi : B} (hg : good (B.N i lo hi :: R)) (hne : lo ≠ hi) : vis (mk i lo.neg hi.neg) (R.map B.neg) = (B.N i lo hi :: R).map B.neg ∧ mk i lo.neg hi.neg = (B.N i lo hi).neg := by
  obtain ⟨hn, hl, hh, hR⟩ := hg
  have e : mk i lo.neg hi.neg = .N i lo.neg hi.neg := by rw [mk, if_neg (fun h => hne (neg_inj h))]
  have hn' : B.N i lo.neg hi.neg ∉ R.map B.neg := fun h => hn (mem_neg (b := .N i lo hi).1 h)
  refine ⟨?_, e⟩
  rw [vis_mk (good_neg hR), vis_inn (inn_neg hl), vis_inn (inn_neg hh), if_neg (fun h => hne (neg_inj h)), if_neg hn']
  rfl

theorem negP_join (A : B) (hA : A.ok 0) (wb mb : Nat) : FoldPU A (negP A) (NegJ wb mb) wb := by
  refine ⟨?_, ?_, ?_⟩
  · rintro ft R w w' S ⟨v, hW, rfl⟩ fr hS
    exact ⟨v, hW.kept fr hS, rfl⟩
  · rintro ft R w ⟨v, hW, rfl⟩ k hk
    exact hW.foot_lt k hk
  · rintro ft R i lo hi w ⟨v, hW, rfl⟩ hs
    have hg := good_suffix (good_li A) hs
    have hsm := small_suffix hs (small_li hA)
    obtain ⟨hn, hl, hh, hR⟩ := hg
    have ho : (B.N i lo hi).ok 0 := hsm.2 _ List.mem_cons_self
    have hne : lo ≠ hi := ho.2.2.1
    obtain ⟨e1, e2⟩ := vis_node_neg ⟨hn, hl, hh, hR⟩ hne
    have hsR : R <:+ li A := (List.suffix_cons _ _).trans hs
    have gA := good_neg (good_li A)
    refine (node_any' wb mb i v (R.map B.neg) lo.neg hi.neg w hW ho.2.1 (inn_neg hl) (inn_neg hh) (by rw [e1]; exact small_neg hsm) (negP A lo) (negP A hi) (place_suffix gA (map_suffix hsR) (inn_neg hl)) (place_suffix gA (map_suffix hsR) (inn_neg hh))).mono ?_
    rintro e w' ⟨v', rfl, hW', fr, src⟩
    rw [e1] at hW' ⊢
    rw [e2]
    refine ⟨foot wb mb v', ?_, ⟨v', hW', rfl⟩, fr, ?_⟩
    · rw [← place_suffix gA (map_suffix hs) (inn_neg (.inr List.mem_cons_self))]; rfl
    · rintro k (rfl | rfl | hk)
      · exact .inl (.inl rfl)
      · exact .inl (.inr (.inl rfl))
      · rcases src k hk with h | h
        · exact .inl (.inr (.inr h))
        · exact .inr h

set_option maxRecDepth 100000 in
set_option maxHeartbeats 1000000 in
theorem Not_any (A : B) (hA : A.ok 0) (w : World) : Calls Tryz.prog 70 #[dval A] w fun e w' => e = .returned (dval A.neg) ∧ Below w.heap.size w w' := by
  have hmf : ∀ (fn : Fn) (first cap : Array Value) (w : World), (Instr.makeFunc fn first cap).run Tryz.prog w = .ok (.func fn first cap) w := fun _ _ _ _ => rfl
  have hs := (small_li hA).1
  go_enter Tryz.func70, Tryz.ntmps70
  go_wp2_with fail
  refine (newWork_any _).mono ?_
  rintro e w1 ⟨wb, mb, rfl, hW1, fr1, lwb, lmb⟩
  have z1 := fr1.size
  simp only [World.size_alloc] at z1 lwb lmb
  have c0 : w1.cell? ⟨w.heap.size, 0, none⟩ = some (.int .u32 (place (li A) A : Int)) := fr1.cell (cell_alloc_l (World.cell?_alloc_at _ _ _ _ (by simp)) _) (fun h => h)
  have c1 : w1.cell? ⟨w.heap.size, 1, none⟩ = some (.string ⟨(code (rows (li A))).toArray⟩) := fr1.cell (cell_alloc_l (World.cell?_alloc_at _ _ _ _ (by simp)) _) (fun h => h)
  have r0 : w1.cell? ⟨w.heap.size + 1, 0, none⟩ = some (.int .u32 0) := fr1.cell (World.cell?_alloc_at _ _ _ _ (by simp)) (fun h => h)
  have r1 : w1.cell? ⟨w.heap.size + 1, 1, none⟩ = some (.string ⟨#[]⟩) := fr1.cell (World.cell?_alloc_at _ _ _ _ (by simp)) (fun h => h)
  have f0 : w1.frozen? ⟨w.heap.size + 1, 0, none⟩ = false := (fr1.frozen (p := ⟨w.heap.size + 1, 0, none⟩) (by simp) (fun h => h)).trans (World.frozen?_alloc_at _ _ _ _ (by simp))
  have f1 : w1.frozen? ⟨w.heap.size + 1, 1, none⟩ = false := (fr1.frozen (p := ⟨w.heap.size + 1, 1, none⟩) (by simp) (fun h => h)).trans (World.frozen?_alloc_at _ _ _ _ (by simp))
  have frw : Fr nob w w1 := (((Fr.refl nob w).alloc _).alloc _).trans fr1 (fun _ _ h => h)
  have hlt1 := hW1.foot_lt
  go_wp2_with fail
  refine (foldU_any A hA (negP A) (NegJ wb mb) wb (negP_join A hA wb mb) 1 0 rfl rfl (foot wb mb (.slice none 0 0)) _ ⟨_, hW1, rfl⟩).mono ?_
  rintro e w2 ⟨ft, rfl, ⟨v2, hW2, rfl⟩, fr2, hn2⟩
  have nf : ∀ k, k < w.heap.size + 2 → ¬ foot wb mb (.slice none 0 0) k := by
    rintro k hk (h | h | h)
    · omega
    · omega
    · cases h
  have fr12 := frw.trans' fr2 (T := fun k => w.heap.size ≤ k) (fun _ _ h => h.elim) (fun k hk h => absurd h (nf k (by omega)))
  have r02 := fr2.cell r0 (nf _ (by simp))
  have r12 := fr2.cell r1 (nf _ (by simp))
  have f02 := (fr2.frozen (p := ⟨w.heap.size + 1, 0, none⟩) (by simp; omega) (nf _ (by simp))).trans f0
  have f12 := (fr2.frozen (p := ⟨w.heap.size + 1, 1, none⟩) (by simp; omega) (nf _ (by simp))).trans f1
  have z2 := fr2.size
  clear c0 c1 r0 r1 f0 f1 hn2
  rw [← li_neg] at hW2
  go_wp2_with fail
  refine (set_any wb mb v2 _ (negP A A) _ hW2).mono ?_
  rintro e w3 ⟨rfl, hb3⟩
  have fr3 : Fr nob w2 w3 := (Fr.refl nob w2).below hb3
  have r03 := fr3.cell r02 (fun h => h)
  have r13 := fr3.cell r12 (fun h => h)
  have f03 := (fr3.frozen (p := ⟨w.heap.size + 1, 0, none⟩) (by simp; omega) (fun h => h)).trans f02
  have f13 := (fr3.frozen (p := ⟨w.heap.size + 1, 1, none⟩) (by simp; omega) (fun h => h)).trans f12
  clear r02 r12 f02 f12
  have eP : negP A A = place (li A.neg) A.neg := by rw [li_neg]; rfl
  go_wp2_with fail
  refine bodyPost_ret (v := dval A.neg) (by simp [results, Tryz.results70, go_sem, r03, r13]) rfl ⟨rfl, ?_⟩
  exact (((fr12.trans fr3 (fun _ _ h => h.elim)).setCell (p := ⟨w.heap.size + 1, 0, none⟩) (by simp) _).setCell (p := ⟨w.heap.size + 1, 1, none⟩) (by simp) _).to_below (Nat.le_refl _) (fun _ h => h)
end Go.Proofs.YtalnhlebgofiiaaGreatDoor
namespace Go.Proofs.YtalnhlebgofiiaaGreatDoor
open Go.RowKit
open Bd

set_option maxRecDepth 100000 in
set_option maxHeartbeats 400000 in
theorem Xor_any (A B' : B) (hA : A.ok 0) (hB : B'.ok 0) (w : World) : Calls Tryz.prog 34 #[dval A, dval B'] w fun e w' => e = .returned (dval (ite A B'.neg B')) ∧ Below w.heap.size w w' := by
  have a0 := cell_alloc_l (cell_alloc_l (World.cell?_alloc_at _ _ _ _ (by simp) : (w.alloc (.cells #[.int .u32 (place (li A) A : Int), .string ⟨(code (rows (li A))).toArray⟩] 32)).cell? ⟨w.heap.size, 0, none⟩ = some (.int .u32 (place (li A) A : Int))) (.cells #[.int .u32 (place (li B') B' : Int), .string ⟨(code (rows (li B'))).toArray⟩] 32)) (.cells #[.int .u32 0, .string ⟨#[]⟩] 32)
  have a1 := cell_alloc_l (cell_alloc_l (World.cell?_alloc_at _ _ _ _ (by simp) : (w.alloc (.cells #[.int .u32 (place (li A) A : Int), .string ⟨(code (rows (li A))).toArray⟩] 32)).cell? ⟨w.heap.size, 1, none⟩ = some (.string ⟨(code (rows (li A))).toArray⟩)) (.cells #[.int .u32 (place (li B') B' : Int), .string ⟨(code (rows (li B'))).toArray⟩] 32)) (.cells #[.int .u32 0, .string ⟨#[]⟩] 32)
  have b0 := cell_alloc_l (World.cell?_alloc_at _ _ _ _ (by simp) : (((w.alloc (.cells #[.int .u32 (place (li A) A : Int), .string ⟨(code (rows (li A))).toArray⟩] 32)).alloc (.cells #[.int .u32 (place (li B') B' : Int), .string ⟨(code (rows (li B'))).toArray⟩] 32)).cell? ⟨w.heap.size + 1, 0, none⟩ = some (.int .u32 (place (li B') B' : Int)))) (.cells #[.int .u32 0, .string ⟨#[]⟩] 32)
  have b1 := cell_alloc_l (World.cell?_alloc_at _ _ _ _ (by simp) : (((w.alloc (.cells #[.int .u32 (place (li A) A : Int), .string ⟨(code (rows (li A))).toArray⟩] 32)).alloc (.cells #[.int .u32 (place (li B') B' : Int), .string ⟨(code (rows (li B'))).toArray⟩] 32)).cell? ⟨w.heap.size + 1, 1, none⟩ = some (.string ⟨(code (rows (li B'))).toArray⟩))) (.cells #[.int .u32 0, .string ⟨#[]⟩] 32)
  have fr := ((Fr.refl nob w).alloc (.cells #[.int .u32 (place (li A) A : Int), .string ⟨(code (rows (li A))).toArray⟩] 32)).alloc (.cells #[.int .u32 (place (li B') B' : Int), .string ⟨(code (rows (li B'))).toArray⟩] 32) |>.alloc (.cells #[.int .u32 0, .string ⟨#[]⟩] 32)
  have r0 : ((((w.alloc (.cells #[.int .u32 (place (li A) A : Int), .string ⟨(code (rows (li A))).toArray⟩] 32)).alloc (.cells #[.int .u32 (place (li B') B' : Int), .string ⟨(code (rows (li B'))).toArray⟩] 32)).alloc (.cells #[.int .u32 0, .string ⟨#[]⟩] 32))).cell? ⟨w.heap.size + 1 + 1, 0, none⟩ = some (.int .u32 0) := World.cell?_alloc_at _ _ _ _ (by simp)
  have r1 : ((((w.alloc (.cells #[.int .u32 (place (li A) A : Int), .string ⟨(code (rows (li A))).toArray⟩] 32)).alloc (.cells #[.int .u32 (place (li B') B' : Int), .string ⟨(code (rows (li B'))).toArray⟩] 32)).alloc (.cells #[.int .u32 0, .string ⟨#[]⟩] 32))).cell? ⟨w.heap.size + 1 + 1, 1, none⟩ = some (.string ⟨#[]⟩) := World.cell?_alloc_at _ _ _ _ (by simp)
  have f0 : ((((w.alloc (.cells #[.int .u32 (place (li A) A : Int), .string ⟨(code (rows (li A))).toArray⟩] 32)).alloc (.cells #[.int .u32 (place (li B') B' : Int), .string ⟨(code (rows (li B'))).toArray⟩] 32)).alloc (.cells #[.int .u32 0, .string ⟨#[]⟩] 32))).frozen? ⟨w.heap.size + 1 + 1, 0, none⟩ = false := World.frozen?_alloc_at _ _ _ _ (by simp)
  have f1 : ((((w.alloc (.cells #[.int .u32 (place (li A) A : Int), .string ⟨(code (rows (li A))).toArray⟩] 32)).alloc (.cells #[.int .u32 (place (li B') B' : Int), .string ⟨(code (rows (li B'))).toArray⟩] 32)).alloc (.cells #[.int .u32 0, .string ⟨#[]⟩] 32))).frozen? ⟨w.heap.size + 1 + 1, 1, none⟩ = false := World.frozen?_alloc_at _ _ _ _ (by simp)
  go_enter Tryz.func34, Tryz.ntmps34
  go_wp2_with fail
  refine wp_region_grow' 5 10 (fun _ => #[]) [] (by kernel_rfl) (by kernel_rfl) rfl rfl (by intro T h; cases h) ?_
  generalize (((w.alloc (.cells #[.int .u32 (place (li A) A : Int), .string ⟨(code (rows (li A))).toArray⟩] 32)).alloc (.cells #[.int .u32 (place (li B') B' : Int), .string ⟨(code (rows (li B'))).toArray⟩] 32)).alloc (.cells #[.int .u32 0, .string ⟨#[]⟩] 32)) = W at *
  simp only [List.take_succ_cons, List.take_zero]
  refine grow_step (v := ?v0) rfl rfl ?a0 ?b0
  case a0 =>
    intro w' hw'
    have y_a0 := hw'.cell a0 (fun h => h)
    have y_a1 := hw'.cell a1 (fun h => h)
    clear hw'
    refine growAt_value ?_
    go_simp
    rfl
  simp only [Act.put, List.setIfInBounds_toArray, List.set_cons_zero, List.set_cons_succ]
  refine grow_step (v := ?v1) rfl rfl ?a1 ?b1
  case a1 =>
    intro w' hw'
    have y_b0 := hw'.cell b0 (fun h => h)
    have y_b1 := hw'.cell b1 (fun h => h)
    clear hw'
    refine growAt_value ?_
    go_simp
    rfl
  simp only [Act.put, List.setIfInBounds_toArray, List.set_cons_zero, List.set_cons_succ]
  refine grow_step (v := dval B'.neg) rfl rfl ?a2 ?b2
  case a2 =>
    intro w' hw'
    refine growAt_call ?_ ((Not_any B' hB w').mono fun e w'' ⟨he, hb⟩ => ⟨he, (Fr.refl nob _).below hb⟩)
    go_simp
  simp only [Act.put, List.setIfInBounds_toArray, List.set_cons_zero, List.set_cons_succ]
  refine grow_step (v := ?v3) rfl rfl ?a3 ?b3
  case a3 =>
    intro w' hw'
    have y_b0 := hw'.cell b0 (fun h => h)
    have y_b1 := hw'.cell b1 (fun h => h)
    clear hw'
    refine growAt_value ?_
    go_simp
    rfl
  simp only [Act.put, List.setIfInBounds_toArray, List.set_cons_zero, List.set_cons_succ]
  refine grow_step (v := dval (ite A B'.neg B')) rfl rfl ?a4 ?b4
  case a4 =>
    intro w' hw'
    refine growAt_call ?_ ((Ite_any A B'.neg B' hA (ok_neg hB) hB w').mono fun e w'' ⟨he, hb⟩ => ⟨he, (Fr.refl nob _).below hb⟩)
    go_simp
  simp only [Act.put, List.setIfInBounds_toArray, List.set_cons_zero, List.set_cons_succ]
  refine grow_nil ?_
  intro w2 listed fr2 _ _
  have r02 := fr2.cell r0 (fun h => h)
  have r12 := fr2.cell r1 (fun h => h)
  have l0 := lt_of_cell r0
  have f02 := (fr2.frozen (p := ⟨w.heap.size + 1 + 1, 0, none⟩) l0 (fun h => h)).trans f0
  have f12 := (fr2.frozen (p := ⟨w.heap.size + 1 + 1, 1, none⟩) l0 (fun h => h)).trans f1
  have G := fr.trans fr2 (fun _ _ h => h)
  clear a0 a1 b0 b1 fr fr2 r0 r1 f0 f1
  go_wp2_with fail
  refine bodyPost_ret (v := dval (ite A B'.neg B')) (by simp [results, Tryz.results34, go_sem, r02, r12]) rfl ⟨rfl, ?_⟩
  exact ((G.set1 (by omega) _).set1 (by omega) _).to_below (Nat.le_refl _) (fun _ h => h.elim)

end Go.Proofs.YtalnhlebgofiiaaGreatDoor
