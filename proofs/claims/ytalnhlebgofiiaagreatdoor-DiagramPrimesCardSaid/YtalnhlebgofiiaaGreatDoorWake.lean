import Derived.Test.YtalnhlebgofiiaaGreatDoorHas
import Derived.Test.YtalnhlebgofiiaaGreatDoorStep
import Derived.Recover
import Derived.Deep.RegionHeld3
import Derived.Test.YtalnhlebgofiiaaGreatDoorFoldU
import Derived.Test.YtalnhlebgofiiaaGreatDoorCube
namespace Go.Proofs.YtalnhlebgofiiaaGreatDoor
open Go.RowKit
open Bd

theorem info_C : (Tryz.prog.info? 64).map (fun i => (i.zero, i.size, i.bytes)) = some (some (.int .u64 0), 1, 8) := by kernel_rfl

/-- the deferred closure, where nothing has panicked -/
theorem foldC_idle (w : World) : CallsD Tryz.prog 109 #[] .returning w fun e u' w' => e = .returned (.tuple #[]) ∧ u' = .returning ∧ w' = w := by
  refine callsD_of_wpS Tryz.func109 rfl fun c₀ cs hu => ?_
  apply wpS_region
  simp [wpOpsS, go_sem, recoverD, hu, Tryz.ntmps109, bodyPostS, results, Tryz.results109]
  cases c₀
  simp_all

/-- what the loop of Fold keeps, behind k nodes -/
structure FoldStC (A : B) (val : B → Nat) (J : (Nat → Prop) → List B → World → Prop) (ft0 : Nat → Prop) (w0 : World) (gv : Value) (k : Nat) (wr : World) : Prop where
  ex : ∃ ft, J ft ((li A).drop ((li A).length - k)) wr ∧ (∀ g, gv.ownBlock = some g → ¬ ft g) ∧ ∀ j, ft j → ft0 j ∨ w0.heap.size < j
  row : wr.ownsRow 0 64 1 gv (k + 2) (glist (fun b => .int .u64 (val b : Int)) ((li A).drop ((li A).length - k)))
  own : ∀ g, gv.ownBlock = some g → w0.heap.size < g
  fr : Fr ft0 w0 wr
  a0 : wr.cell? ⟨w0.heap.size, 0, none⟩ = some (.int .u32 (place (li A) A : Int))
  a1 : wr.cell? ⟨w0.heap.size, 1, none⟩ = some (.string ⟨(code (rows (li A))).toArray⟩)

structure FoldPC (A : B) (val : B → Nat) (J : (Nat → Prop) → List B → World → Prop) (u : Unit) : Prop where
  kept : ∀ ft R w w' S, J ft R w → Fr S w w' → (∀ k, ft k → ¬ S k) → J ft R w'
  lt : ∀ ft R w, J ft R w → ∀ k, ft k → k < w.heap.size
  join : ∀ ft R i lo hi w, J ft R w → (B.N i lo hi :: R) <:+ li A → Calls Tryz.prog 69 #[.int .i64 (i : Int), .int .u64 (val lo : Int), .int .u64 (val hi : Int)] w fun e w' => ∃ ft', e = .returned (.int .u64 (val (.N i lo hi) : Int)) ∧ J ft' (.N i lo hi :: R) w' ∧ Fr ft w w' ∧ ∀ k, ft' k → ft k ∨ w.heap.size ≤ k

section
variable {A : B} {val : B → Nat} {J : (Nat → Prop) → List B → World → Prop} {ft0 : Nat → Prop} {w0 wr w' : World} {gv : Value} {k : Nat} {u : Unit}
theorem FoldStC.kept (P : FoldPC A val J u) (h : FoldStC A val J ft0 w0 gv k wr) (fr : Fr nob wr w') : FoldStC A val J ft0 w0 gv k w' := by
  obtain ⟨⟨ft, h1, h2, h3⟩, h4, h5, h6, h7, h8⟩ := h
  exact ⟨⟨ft, P.kept _ _ _ _ _ h1 fr (fun _ _ h => h), h2, h3⟩, fr.row h4 (fun _ _ h => h), h5, h6.trans fr (fun _ _ h => h.elim), fr.cell h7 (fun h => h), fr.cell h8 (fun h => h)⟩

/-- a round: the call, then the append -/
theorem FoldStC.step (P : FoldPC A val J u) {w1 w2 w3 : World} {ft ft' : Nat → Prop} {R : List B} {i g cap : Nat} {lo hi : B} (_hR : R = (li A).drop ((li A).length - k)) (hR' : B.N i lo hi :: R = (li A).drop ((li A).length - (k + 1)))
    (h1 : FoldStC A val J ft0 w0 gv k w1) (hft : ∀ g, gv.ownBlock = some g → ¬ ft g) (hft0 : ∀ j, ft j → ft0 j ∨ w0.heap.size < j) (_hft1 : ∀ j, ft j → j < w1.heap.size) (hJ : J ft' (B.N i lo hi :: R) w2) (fr : Fr ft w1 w2) (hn : ∀ k, ft' k → ft k ∨ w1.heap.size ≤ k) (hl : w0.heap.size < w1.heap.size)
    (lt0 : ∀ k, ft0 k → k < w0.heap.size) (hrow : w3.ownsRow 0 64 1 (.slice (some ⟨g, 0, none⟩) (k + 2 + 1) cap) (k + 2 + 1) (glist (fun b => .int .u64 (val b : Int)) R ++ [.int .u64 (val (.N i lo hi) : Int)])) (hg : w2.grownBy w3 gv.ownBlock) (hat : gv.ownBlock = some g ∨ w2.heap.size ≤ g) :
    FoldStC A val J ft0 w0 (.slice (some ⟨g, 0, none⟩) (k + 2 + 1) cap) (k + 1) w3 := by
  obtain ⟨_, h4, h5, h6, h7, h8⟩ := h1
  have hsz := fr.size
  have own1 : ∀ g, gv.ownBlock = some g → g < w1.heap.size := fun g hg => (h4.lt g hg).2
  have n0 : ¬ ft w0.heap.size := fun h => by
    rcases hft0 _ h with h | h
    · have := lt0 _ h; omega
    · omega
  have n1 : ∀ g, gv.ownBlock = some g → g ≠ w0.heap.size := fun g hg e => by have := h5 g hg; omega
  have fr3 : Fr (fun j => gv.ownBlock = some j) w2 w3 := (Fr.refl _ w2).grown hg (fun k hk _ => hk)
  refine ⟨⟨ft', ?_, ?_, ?_⟩, ?_, ?_, ?_, ?_, ?_⟩
  · rw [← hR']
    exact P.kept _ _ _ _ _ hJ fr3 (fun j hj hs => by
      rcases hn j hj with h | h
      · exact hft j hs h
      · have := own1 j hs; omega)
  · intro g' hg' hf
    obtain rfl : g = g' := by simpa [Value.ownBlock] using hg'
    rcases hat with h | h
    · rcases hn _ hf with h' | h'
      · exact hft _ h h'
      · have := own1 _ h; omega
    · have := P.lt _ _ _ hJ _ hf; omega
  · intro j hj
    rcases hn j hj with h | h
    · exact hft0 j h
    · exact .inr (by omega)
  · rw [← hR', glist_cons]; exact hrow
  · intro g' hg'
    obtain rfl : g = g' := by simpa [Value.ownBlock] using hg'
    rcases hat with h | h
    · exact h5 _ h
    · omega
  · refine (h6.trans fr (fun j hj h => ?_)).trans fr3 (fun j hj h => ?_)
    · rcases hft0 j h with h | h
      · exact h
      · omega
    · have := h5 j h; omega
  · exact fr3.cell (fr.cell h7 n0) (fun h => n1 _ h rfl)
  · exact fr3.cell (fr.cell h8 n0) (fun h => n1 _ h rfl)
end

set_option maxRecDepth 100000 in
set_option maxHeartbeats 1000000 in
theorem foldC_any (A : B) (hA : A.ok 0) (val : B → Nat) (J : (Nat → Prop) → List B → World → Prop) (u : Unit) (P : FoldPC A val J u) (vF vT : Nat) (hvF : val .F = vF) (hvT : val .T = vT)
    (ft0 : Nat → Prop) (w : World) (h0 : J ft0 [] w) :
    Calls Tryz.prog 68 #[dval A, .int .u64 (vF : Int), .int .u64 (vT : Int), .func (.func 69) #[] #[]] w fun e w' => ∃ ft', e = .returned (.int .u64 (val A : Int)) ∧ J ft' (li A) w' ∧ Fr ft0 w w' ∧ ∀ k, ft' k → ft0 k ∨ w.heap.size ≤ k := by
  obtain ⟨i0, hi0, hz0, hz1, hz2⟩ := info_parts info_C
  have hs := (small_li hA).1
  have hs' : (((li A).length : Nat) : Int) < 2097152 := by omega
  have l0 := P.lt _ _ _ h0
  have h1 := P.kept _ _ _ _ nob h0 ((Fr.refl nob w).alloc (.cells #[.int .u32 (place (li A) A : Int), .string ⟨(code (rows (li A))).toArray⟩] 32)) (fun _ _ h => h)
  have a0 : (w.alloc (.cells #[.int .u32 (place (li A) A : Int), .string ⟨(code (rows (li A))).toArray⟩] 32)).cell? ⟨w.heap.size, 0, none⟩ = some (.int .u32 (place (li A) A : Int)) := World.cell?_alloc_at _ _ _ _ (by simp)
  have a1 : (w.alloc (.cells #[.int .u32 (place (li A) A : Int), .string ⟨(code (rows (li A))).toArray⟩] 32)).cell? ⟨w.heap.size, 1, none⟩ = some (.string ⟨(code (rows (li A))).toArray⟩) := World.cell?_alloc_at _ _ _ _ (by simp)
  have fr : Fr nob w (w.alloc (.cells #[.int .u32 (place (li A) A : Int), .string ⟨(code (rows (li A))).toArray⟩] 32)) := (Fr.refl nob w).alloc _
  have zw : w.heap.size < (w.alloc (.cells #[.int .u32 (place (li A) A : Int), .string ⟨(code (rows (li A))).toArray⟩] 32)).heap.size := by simp
  go_enter_defers Tryz.func68, Tryz.ntmps68
  go_wp2_with fail
  generalize w.alloc (.cells #[.int .u32 (place (li A) A : Int), .string ⟨(code (rows (li A))).toArray⟩] 32) = W at *
  refine (size_any A hA _).mono ?_
  rintro e w1 ⟨rfl, hb⟩
  replace fr := fr.below hb
  replace a0 := ((Fr.refl nob W).below hb).cell a0 (fun h => h)
  replace a1 := ((Fr.refl nob W).below hb).cell a1 (fun h => h)
  replace h1 := P.kept _ _ _ _ nob h1 ((Fr.refl nob W).below hb) (fun _ _ h => h)
  replace zw : w.heap.size < w1.heap.size := by have := hb.size; omega
  clear hb h0
  go_wp2_with (at_make; refine wpList_make_own _ rfl _ _ 157 rfl 0 64 i0 (.int .u64 0) 1 Tryz.underlying157 hi0 hz0 hz1 .i64 .u32 (((li A).length : Int) + 2) ((li A).length + 2) rfl rfl ?c1 ?c2 ?c3 (Nat.zero_le _) ?_)
  case c1 => omega
  case c2 => rw [hz2]; omega
  case c3 => unfold maxLen; omega
  intro w2 row2 gr2
  replace fr := fr.grown gr2 (fun k h => by cases h)
  replace h1 := P.kept _ _ _ _ nob h1 ((Fr.refl nob w1).grown gr2 (fun k h => by cases h)) (fun _ _ h => h)
  replace a0 := gr2.cell a0 (by simp)
  replace a1 := gr2.cell a1 (by simp)
  have ow2 : w.heap.size < w1.heap.size := zw
  have zw2 : w1.heap.size ≤ w2.heap.size := gr2.size

  clear gr2
  go_wp2_with (at_builtin; refine wpList_append_fits _ rfl _ _ 157 rfl 0 64 i0 1 Tryz.underlying157 hi0 hz1 w1.heap.size 0 ((li A).length + 2) [] rfl (row2.alloc _) ⟨w2.heap.size, 0, none⟩ 2 2 [.int .u64 (vF : Int), .int .u64 (vT : Int)] rfl rfl ?c5 ?c6 ?c7 ?_)
  case c7 => omega
  case c5 =>
    intro j u h
    match j, h with
    | 0, h => simp at h; subst h; simp [Addr.add]
    | 1, h => simp at h; subst h; simp [Addr.add]
  case c6 => simp [Value.oneCell']
  intro w3 row3 gr3
  have fa : Fr nob w2 (w2.alloc (.cells #[.int .u64 (vF : Int), .int .u64 (vT : Int)] 64)) := (Fr.refl nob w2).alloc _
  have fr3 : Fr (fun j => j = w1.heap.size) (w2.alloc (.cells #[.int .u64 (vF : Int), .int .u64 (vT : Int)] 64)) w3 := (Fr.refl _ _).grown gr3 (fun k h _ => by cases h; rfl)
  have lj := P.lt _ _ _ h1
  have S3 : FoldStC A val J ft0 w (.slice (some ⟨w1.heap.size, 0, none⟩) 2 ((li A).length + 2)) 0 w3 := by
    have e0 : (li A).drop ((li A).length - 0) = [] := by simp
    have zz : w.heap.size ≠ w1.heap.size := by omega
    refine ⟨⟨ft0, ?_, ?_, fun j h => .inl h⟩, ?_, ?_, ?_, ?_, ?_⟩
    · rw [e0]
      exact P.kept _ _ _ _ _ (P.kept _ _ _ _ nob h1 fa (fun _ _ h => h)) fr3 (fun j hj h => by have := l0 j hj; omega)
    · intro g hg hf
      obtain rfl : w1.heap.size = g := by simpa [Value.ownBlock] using hg
      have := l0 _ hf; omega
    · rw [e0]
      have e1 : glist (fun b => (.int .u64 (val b : Int) : Value)) ([] : List B) = [.int .u64 (vF : Int), .int .u64 (vT : Int)] := by simp [glist, hvF, hvT]
      rw [e1]; exact row3
    · intro g hg
      obtain rfl : w1.heap.size = g := by simpa [Value.ownBlock] using hg
      omega
    · exact ((fr.trans fa (fun _ _ h => h)).trans' fr3 (fun _ _ h => h.elim) (fun j hj h => by omega))
    · exact fr3.cell (fa.cell a0 (fun h => h)) (fun h => zz h)
    · exact fr3.cell (fa.cell a1 (fun h => h)) (fun h => zz h)
  clear row3 gr3 fa fr3 lj h1 a0 a1 row2 fr
  have a0 := S3.a0
  have a1 := S3.a1
  go_wp2_with fail
  refine (size_any A hA _).mono ?_
  rintro e w4 ⟨rfl, hb⟩
  have S4 := S3.kept P ((Fr.refl nob w3).below hb)
  replace zw : w.heap.size < w4.heap.size := lt_of_cell S4.a0
  clear hb S3 a0 a1
  go_wp2_with fail
  go_loopw [9, 23] (fun gv kv wr => ∃ k : Nat, k ≤ (li A).length ∧ kv = .int .u32 (k : Int) ∧ gv = .slice (some ⟨w1.heap.size, 0, none⟩) (k + 2) ((li A).length + 2) ∧ FoldStC A val J ft0 w (.slice (some ⟨w1.heap.size, 0, none⟩) (k + 2) ((li A).length + 2)) k wr) (fun _ kv _ => (li A).length - (intOf kv).toNat)
  case atStart => exact ⟨0, Nat.zero_le _, rfl, rfl, S4⟩
  case round =>
    clear S4
    obtain ⟨k, hk, rfl, rfl, S⟩ := hrel
    have a0 := S.a0
    have a1 := S.a1
    by_cases hlt : k < (li A).length
    · go_wp2_with fail
      obtain ⟨x, hx, hp, hd⟩ := nth_place (good_li A) hlt
      have h := at_any A x hA (.inr hx) wr
      rw [hp] at h
      refine h.mono ?_
      rintro e w5 ⟨rfl, hb⟩
      clear h a0 a1
      have S5 := S.kept P ((Fr.refl nob wr).below hb)
      clear S hb
      cases x with
      | F => simp [place] at hp
      | T => simp [place] at hp
      | N i lo hi =>
        simp only [rowB, nk, B.top, B.lo, B.hi] at *
        have hgR : good (B.N i lo hi :: (li A).drop ((li A).length - k)) := by rw [← hd]; exact good_suffix (good_li A) (List.drop_suffix _ _)
        obtain ⟨_, hil, hih, _⟩ := hgR
        have hsuf : (li A).drop ((li A).length - k) <:+ li A := List.drop_suffix _ _
        have hlR : ((li A).drop ((li A).length - k)).length = k := by simp; omega
        have pl := place_lt hil
        have ph := place_lt hih
        rw [hlR] at pl ph
        rw [← place_suffix (good_li A) hsuf hil] at pl
        rw [← place_suffix (good_li A) hsuf hih] at ph
        have cl : w5.cell? ⟨w1.heap.size, place (li A) lo, none⟩ = some (.int .u64 (val lo : Int)) := by
          rw [S5.row.cellAt _ (by omega), place_suffix (good_li A) hsuf hil]; exact glist_at _ hil
        have ch : w5.cell? ⟨w1.heap.size, place (li A) hi, none⟩ = some (.int .u64 (val hi : Int)) := by
          rw [S5.row.cellAt _ (by omega), place_suffix (good_li A) hsuf hih]; exact glist_at _ hih
        go_wp2_with fail
        have z15a : w1.heap.size < w5.heap.size := (S5.row.lt _ rfl).2
        have hlt5 : ∀ ft, J ft ((li A).drop ((li A).length - k)) w5 → ∀ j, ft j → j < w5.heap.size := fun ft h => P.lt _ _ _ h
        obtain ⟨ft, hJ5, hf2, hf3⟩ := S5.ex
        replace hlt5 := hlt5 _ hJ5
        have fn : Fr nob w5 (w5.alloc (.cells #[.int .u8 (i : Int), .int .u32 (place (li A) lo : Int), .int .u32 (place (li A) hi : Int)] 98)) := (Fr.refl nob w5).alloc _
        have n0 : (w5.alloc (.cells #[.int .u8 (i : Int), .int .u32 (place (li A) lo : Int), .int .u32 (place (li A) hi : Int)] 98)).cell? ⟨w5.heap.size, 0, none⟩ = some (.int .u8 (i : Int)) := World.cell?_alloc_at _ _ _ _ (by simp)
        have n1 : (w5.alloc (.cells #[.int .u8 (i : Int), .int .u32 (place (li A) lo : Int), .int .u32 (place (li A) hi : Int)] 98)).cell? ⟨w5.heap.size, 1, none⟩ = some (.int .u32 (place (li A) lo : Int)) := World.cell?_alloc_at _ _ _ _ (by simp)
        have n2 : (w5.alloc (.cells #[.int .u8 (i : Int), .int .u32 (place (li A) lo : Int), .int .u32 (place (li A) hi : Int)] 98)).cell? ⟨w5.heap.size, 2, none⟩ = some (.int .u32 (place (li A) hi : Int)) := World.cell?_alloc_at _ _ _ _ (by simp)
        have z6 : w.heap.size < w5.heap.size := lt_of_cell S5.a0
        generalize w5.alloc (.cells #[.int .u8 (i : Int), .int .u32 (place (li A) lo : Int), .int .u32 (place (li A) hi : Int)] 98) = W6 at *
        have S6 := S5.kept P fn
        replace cl := fn.cell cl (fun h => h)
        replace ch := fn.cell ch (fun h => h)
        replace z6 : w.heap.size < W6.heap.size := by have := fn.size; omega
        clear S5
        have hJ := P.kept _ _ _ _ nob hJ5 fn (fun _ _ h => h)
        have row6 := S6.row
        have lt6 := P.lt _ _ _ hJ
        have ng : ¬ ft w1.heap.size := hf2 _ rfl
        have nb : ¬ ft w5.heap.size := fun h => by have := hlt5 _ h; omega
        have hcall := fun W' (h : Fr nob W6 W') => P.join ft _ i lo hi W' (P.kept _ _ _ _ nob hJ h (fun _ _ h => h)) (by rw [← hd]; exact List.drop_suffix _ _)
        have hpl0 : (0 : Int) ≤ (place (li A) lo : Int) := Int.natCast_nonneg _
        have hph0 : (0 : Int) ≤ (place (li A) hi : Int) := Int.natCast_nonneg _
        have hpl1 : (place (li A) lo : Int) < (k : Int) + 2 := by omega
        have hph1 : (place (li A) hi : Int) < (k : Int) + 2 := by omega
        have hpl2 : (place (li A) lo : Int) < ((k + 2 : Nat) : Int) := by omega
        have hph2 : (place (li A) hi : Int) < ((k + 2 : Nat) : Int) := by omega
        have hi24 : i < 24 := ((small_li hA).2 _ hx).2.1
        have z15 : w1.heap.size < w5.heap.size := z15a
        have hiw : IntKind.i64.wrap (i : Int) = (i : Int) := by rw [IntKind.wrap_i64]; omega
        go_region_held3 (fun w' => w'.cell? ⟨w5.heap.size, 0, none⟩ = some (.int .u8 (i : Int)) ∧ w'.cell? ⟨w5.heap.size, 1, none⟩ = some (.int .u32 (place (li A) lo : Int)) ∧ w'.cell? ⟨w5.heap.size, 2, none⟩ = some (.int .u32 (place (li A) hi : Int)) ∧
            w'.cell? ⟨w1.heap.size, place (li A) lo, none⟩ = some (.int .u64 (val lo : Int)) ∧ w'.cell? ⟨w1.heap.size, place (li A) hi, none⟩ = some (.int .u64 (val hi : Int)))
          (first | go_keep | (go_split_ands; exact ⟨x0, x1, x2, x3, x4⟩) | (go_split_ands; exact ⟨y0, y1, y2, y3, y4⟩))
          (first
            | (go_at_call 69
               refine (hcall _ ?_).mono ?_
               · exact (Fr.refl _ _).drew
               rintro e w7 ⟨ft', rfl, hJ7, fr7, hn7⟩
               have x0 := fr7.cell' n0 nb
               have x1 := fr7.cell' n1 nb
               have x2 := fr7.cell' n2 nb
               have x3 := fr7.cell' cl ng
               have x4 := fr7.cell' ch ng)
            | (refine step_append_fit (by rfl) _ _ _ (by rfl) 0 64 i0 1 Tryz.underlying157 hi0 hz1 w1.heap.size (k + 2) ((li A).length + 2) _ (by rfl) ((fr7.row row6.drew (fun g hg => by cases hg; exact ng)).alloc _) ⟨w7.heap.size, 0, none⟩ 1 1 [.int .u64 (val (.N i lo hi) : Int)] (by rfl) (by rfl) (one_news _ _ _) (by simp [Value.oneCell']) (by omega) ?_
               intro w8 row8 gr8 keep8
               have y0 := gr8.cell (cell_alloc_l x0 _) (by simp; omega)
               have y1 := gr8.cell (cell_alloc_l x1 _) (by simp; omega)
               have y2 := gr8.cell (cell_alloc_l x2 _) (by simp; omega)
               have y3 := (keep8 _ (by omega)).trans (cell_alloc_l x3 _)
               have y4 := (keep8 _ (by omega)).trans (cell_alloc_l x4 _)))
        clear x0 x1 x2 x3 x4 y0 y1 y2 y3 y4 n0 n1 n2 cl ch hcall
        have fr7' : Fr ft W6 w7 := ((Fr.refl ft W6).drew).trans fr7 (fun _ _ h => h)
        have S8 := S6.step P rfl hd.symm hf2 hf3 (fun j hj => by have := lt6 j hj; omega) (P.kept _ _ _ _ nob hJ7 ((Fr.refl nob w7).alloc _) (fun _ _ h => h)) (fr7'.alloc (.cells #[.int .u64 (val (.N i lo hi) : Int)] 64)) hn7 z6 l0 row8 gr8 (.inl rfl)
        clear S6 row8 gr8 keep8 fr7 fr7' hn7 hJ7 hJ5 hJ fn hf2 hf3 row6
        go_wp2_with fail
        go_roundw
        case rel => exact ⟨k + 1, by omega, by go_num, rfl, S8⟩
        case measure => simp [intOf]; omega
    · obtain rfl : k = (li A).length := by omega
      have e0 : (li A).drop ((li A).length - (li A).length) = li A := by simp
      have hpA := place_lt (inn_li A)
      have hc : wr.cell? ⟨w1.heap.size, place (li A) A, none⟩ = some (.int .u64 (val A : Int)) := by
        have h := S.row
        rw [e0] at h
        exact (h.cellAt (place (li A) A) (by omega)).trans (glist_at _ (inn_li A))
      obtain ⟨ft, hJ, h2, h3⟩ := S.ex
      have hfr := S.fr
      rw [e0] at hJ
      clear S e0
      go_wp2_with fail
      refine leaves_cons (f := 109) (args := #[]) (by simp) (by simp [go_sem]) ?_
      refine (foldC_idle _).mono ?_
      rintro e u' w'' ⟨rfl, rfl, rfl⟩
      exact ⟨_, results_tmp rfl _ _ _, ft, rfl, hJ, hfr, fun j hj => (h3 j hj).imp id (by omega)⟩
end Go.Proofs.YtalnhlebgofiiaaGreatDoor
namespace Go.Proofs.YtalnhlebgofiiaaGreatDoor
open Go.RowKit
open Bd

set_option maxRecDepth 100000 in
set_option maxHeartbeats 400000 in
theorem mean_any (i a b : Nat) (ha : a ≤ 16777216) (hb : b ≤ 16777216) (w : World) : Calls Tryz.prog 69 #[.int .i64 (i : Int), .int .u64 (a : Int), .int .u64 (b : Int)] w fun e w' => e = .returned (.int .u64 (((a + b) / 2 : Nat) : Int)) ∧ w = w' := by
  go_enter Tryz.func69, Tryz.ntmps69
  go_wp2
  go_ret
  exact ⟨by simp, rfl⟩

theorem cnt_le_of {A b : B} (hA : A.ok 0) (h : inn (li A) b) : cnt b ≤ 16777216 := cnt_le (ok_of_inn hA h)

theorem cnt_join (A : B) (hA : A.ok 0) (u : Unit) : FoldPC A cnt (fun ft _ _ => ft = nob) u := by
  refine ⟨?_, ?_, ?_⟩
  · intro ft R w w' S h _ _; exact h
  · rintro ft R w rfl k hk; exact hk.elim
  · rintro ft R i lo hi w rfl hs
    obtain ⟨hn, hl, hh, hR⟩ := good_suffix (good_li A) hs
    have hsR : R <:+ li A := (List.suffix_cons _ _).trans hs
    refine (mean_any i (cnt lo) (cnt hi) (cnt_le_of hA (hl.mono hsR.subset)) (cnt_le_of hA (hh.mono hsR.subset)) w).mono ?_
    rintro e w' ⟨rfl, rfl⟩
    exact ⟨nob, rfl, rfl, Fr.refl _ _, fun _ h => .inl h⟩

set_option maxRecDepth 100000 in
set_option maxHeartbeats 1000000 in
/-- Count, where the features fit -/
theorem Count_ok (A : B) (hA : A.ok 0) (n : Nat) (hn : n ≤ 24) (hs : supR (li A) / 2 ^ n = 0) (w : World) : Calls Tryz.prog 31 #[dval A, .int .i64 (n : Int)] w fun e w' => e = .returned (.tuple #[.int .u64 ((cnt A / 2 ^ (24 - n) : Nat) : Int), .int .i64 0]) ∧ Below w.heap.size w w' := by
  have a0 : (w.alloc (.cells #[.int .u32 (place (li A) A : Int), .string ⟨(code (rows (li A))).toArray⟩] 32)).cell? ⟨w.heap.size, 0, none⟩ = some (.int .u32 (place (li A) A : Int)) := World.cell?_alloc_at _ _ _ _ (by simp)
  have a1 : (w.alloc (.cells #[.int .u32 (place (li A) A : Int), .string ⟨(code (rows (li A))).toArray⟩] 32)).cell? ⟨w.heap.size, 1, none⟩ = some (.string ⟨(code (rows (li A))).toArray⟩) := World.cell?_alloc_at _ _ _ _ (by simp)
  have fr : Fr nob w (w.alloc (.cells #[.int .u32 (place (li A) A : Int), .string ⟨(code (rows (li A))).toArray⟩] 32)) := (Fr.refl nob w).alloc _
  have hn' : (n : Int) ≤ 24 := by omega
  have hs' : ((supR (li A) : Int) / 2 ^ n) = 0 := by
    rw [show (2 : Int) ^ n = ((2 ^ n : Nat) : Int) by simp, ← Int.natCast_ediv, hs]; rfl
  have e24 : (24 : Int) - (n : Int) = ((24 - n : Nat) : Int) := by omega
  go_enter Tryz.func31, Tryz.ntmps31
  go_wp2_with fail
  generalize w.alloc (.cells #[.int .u32 (place (li A) A : Int), .string ⟨(code (rows (li A))).toArray⟩] 32) = W at *
  refine (Support_any A hA _).mono ?_
  rintro e w1 ⟨rfl, hb⟩
  have fr1 : Fr nob W w1 := (Fr.refl nob W).below hb
  have b0 := fr1.cell a0 (fun h => h)
  have b1 := fr1.cell a1 (fun h => h)
  clear a0 a1 hb
  go_wp2_with fail
  refine (foldC_any A hA cnt (fun ft _ _ => ft = nob) () (cnt_join A hA ()) 0 16777216 rfl rfl nob _ rfl).mono ?_
  rintro e w2 ⟨ft, rfl, _, fr2, _⟩
  clear b0 b1
  go_wp2_with fail
  go_ret2
  exact ⟨by simp, ((fr.trans fr1 (fun _ _ h => h)).trans fr2 (fun _ _ h => h)).to_below (Nat.le_refl _) (fun _ h => h.elim)⟩

set_option maxRecDepth 100000 in
set_option maxHeartbeats 400000 in
/-- Count, where n is out of range -/
theorem Count_range (A : B) (n : Int) (hn : n < 0 ∨ 24 < n) (w : World) : Calls Tryz.prog 31 #[dval A, .int .i64 n] w fun e w' => e = .returned (.tuple #[.int .u64 0, .int .i64 3]) ∧ Below w.heap.size w w' := by
  rcases hn with h | h
  all_goals
    go_enter Tryz.func31, Tryz.ntmps31
    go_wp2_with fail
    go_ret2
    exact ⟨by simp, (Below.refl _ _).alloc (Nat.le_refl _) _⟩

set_option maxRecDepth 100000 in
set_option maxHeartbeats 400000 in
/-- Count, where the set depends on a feature from n on -/
theorem Count_arg (A : B) (hA : A.ok 0) (n : Nat) (hn : n ≤ 24) (hs : supR (li A) / 2 ^ n ≠ 0) (w : World) : Calls Tryz.prog 31 #[dval A, .int .i64 (n : Int)] w fun e w' => e = .returned (.tuple #[.int .u64 0, .int .i64 2]) ∧ Below w.heap.size w w' := by
  have a0 : (w.alloc (.cells #[.int .u32 (place (li A) A : Int), .string ⟨(code (rows (li A))).toArray⟩] 32)).cell? ⟨w.heap.size, 0, none⟩ = some (.int .u32 (place (li A) A : Int)) := World.cell?_alloc_at _ _ _ _ (by simp)
  have a1 : (w.alloc (.cells #[.int .u32 (place (li A) A : Int), .string ⟨(code (rows (li A))).toArray⟩] 32)).cell? ⟨w.heap.size, 1, none⟩ = some (.string ⟨(code (rows (li A))).toArray⟩) := World.cell?_alloc_at _ _ _ _ (by simp)
  have fr : Fr nob w (w.alloc (.cells #[.int .u32 (place (li A) A : Int), .string ⟨(code (rows (li A))).toArray⟩] 32)) := (Fr.refl nob w).alloc _
  have hn' : (n : Int) ≤ 24 := by omega
  have hs' : (((supR (li A) : Int) / 2 ^ n) == 0) = false := by
    rw [show (2 : Int) ^ n = ((2 ^ n : Nat) : Int) by simp, ← Int.natCast_ediv]
    simp only [beq_eq_false_iff_ne]; omega
  have hs2 : (((supR (li A) : Int) / 2 ^ n) != 0) = true := by rw [bne, hs']; rfl
  go_enter Tryz.func31, Tryz.ntmps31
  go_wp2_with fail
  generalize w.alloc (.cells #[.int .u32 (place (li A) A : Int), .string ⟨(code (rows (li A))).toArray⟩] 32) = W at *
  refine (Support_any A hA _).mono ?_
  rintro e w1 ⟨rfl, hb⟩
  clear a0 a1
  go_wp2_with fail
  go_ret2
  exact ⟨by simp, (fr.below hb).to_below (Nat.le_refl _) (fun _ h => h.elim)⟩
end Go.Proofs.YtalnhlebgofiiaaGreatDoor
namespace Go.Proofs.YtalnhlebgofiiaaGreatDoor
open Go.RowKit
open Bd

abbrev exA : B := .N 0 .F .T
abbrev exB : B := .N 1 .F .T
abbrev exC : B := .N 2 .F .T
abbrev exX : B := .N 0 (.N 2 .F .T) (.N 1 (.N 2 .F .T) .T)

theorem okA : exA.ok 0 := by simp [B.ok]
theorem okB : exB.ok 0 := by simp [B.ok]
theorem okC : exC.ok 0 := by simp [B.ok]
theorem okX : exX.ok 0 := by simp [B.ok]
theorem ex_a : cubeB (2 ^ 0) 0 = exA := by decide
theorem ex_b : cubeB (2 ^ 1) 0 = exB := by decide
theorem ex_c : cubeB (2 ^ 2) 0 = exC := by decide
theorem ex_and : ite exA exB .F = .N 0 .F (.N 1 .F .T) := eq_of_ev (ok_ite0 _ _ _) (by simp [B.ok]) (fun c => by rw [ev_ite (z := .F) okA okB trivial]; cases h0 : c 0 <;> cases h1 : c 1 <;> simp [B.ev, h0, h1])
theorem ex_x : ite (.N 0 .F (.N 1 .F .T)) .T exC = exX := eq_of_ev (ok_ite0 _ _ _) okX (fun c => by rw [ev_ite (x := .N 0 .F (.N 1 .F .T)) (y := .T) (by simp [B.ok]) trivial okC]; cases h0 : c 0 <;> cases h1 : c 1 <;> cases h2 : c 2 <;> simp [B.ev, h0, h1, h2])
theorem ex_xor : ite exA exA.neg exA = .F := eq_of_ev (ok_ite0 _ _ _) trivial (fun c => by rw [ev_ite okA (ok_neg okA) okA, ev_neg]; cases exA.ev c <;> simp [B.ev])
theorem ex_cnt : cnt exX / 2 ^ (24 - 3) = 5 := by decide
theorem ex_len : (li exX).length = 3 := by decide
theorem ex_sup : supR (li exX) / 2 ^ 3 = 0 := by decide
theorem ex_has4 : (exX.ev fun i => (4 : Nat).testBit i) = true := by decide
theorem ex_has2 : (exX.ev fun i => (2 : Nat).testBit i) = false := by decide

theorem v0 (w : World) : Calls Tryz.prog 29 #[.int .i64 0] w fun e w' => e = .returned (.tuple #[dval exA, .int .i64 0]) ∧ Below w.heap.size w w' := by have h := Var_yes 0 (by decide) w; rw [ex_a] at h; exact h
theorem v1 (w : World) : Calls Tryz.prog 29 #[.int .i64 1] w fun e w' => e = .returned (.tuple #[dval exB, .int .i64 0]) ∧ Below w.heap.size w w' := by have h := Var_yes 1 (by decide) w; rw [ex_b] at h; exact h
theorem v2 (w : World) : Calls Tryz.prog 29 #[.int .i64 2] w fun e w' => e = .returned (.tuple #[dval exC, .int .i64 0]) ∧ Below w.heap.size w w' := by have h := Var_yes 2 (by decide) w; rw [ex_c] at h; exact h
theorem and_ab (w : World) : Calls Tryz.prog 30 #[dval exA, dval exB] w fun e w' => e = .returned (dval (.N 0 .F (.N 1 .F .T))) ∧ Below w.heap.size w w' := by have h := And_any exA exB okA okB w; rw [ex_and] at h; exact h
theorem or_xc (w : World) : Calls Tryz.prog 27 #[dval (.N 0 .F (.N 1 .F .T)), dval exC] w fun e w' => e = .returned (dval exX) ∧ Below w.heap.size w w' := by have h := Or_any (.N 0 .F (.N 1 .F .T)) exC (by simp [B.ok]) okC w; rw [ex_x] at h; exact h
theorem count_x (w : World) : Calls Tryz.prog 31 #[dval exX, .int .i64 3] w fun e w' => e = .returned (.tuple #[.int .u64 5, .int .i64 0]) ∧ Below w.heap.size w w' := by have h := Count_ok exX okX 3 (by decide) ex_sup w; rw [ex_cnt] at h; exact h
theorem size_x (w : World) : Calls Tryz.prog 32 #[dval exX] w fun e w' => e = .returned (.int .i64 3) ∧ Below w.heap.size w w' := by have h := Size_any exX okX w; rw [ex_len] at h; exact h
theorem has4_x (w : World) : Calls Tryz.prog 33 #[dval exX, .int .u32 4] w fun e w' => e = .returned (.bool true) ∧ Below w.heap.size w w' := by have h := Has_any exX okX 4 (by decide) w; rw [ex_has4] at h; exact h
theorem has2_x (w : World) : Calls Tryz.prog 33 #[dval exX, .int .u32 2] w fun e w' => e = .returned (.bool false) ∧ Below w.heap.size w w' := by have h := Has_any exX okX 2 (by decide) w; rw [ex_has2] at h; exact h
theorem xor_aa (w : World) : Calls Tryz.prog 34 #[dval exA, dval exA] w fun e w' => e = .returned (dval .F) ∧ Below w.heap.size w w' := by have h := Xor_any exA exA okA okA w; rw [ex_xor] at h; exact h
theorem empty_F (w : World) : Calls Tryz.prog 25 #[dval .F] w fun e w' => e = .returned (.bool true) ∧ Below w.heap.size w w' := by have h := Empty_any .F w; simpa using h

theorem block2 {w : World} {g : Nat} {a b : Value} {T : TypeId} (h : w.heap[g]? = some (.cells #[a, b] T)) : w.cell? ⟨g, 0, none⟩ = some a ∧ w.cell? ⟨g, 1, none⟩ = some b ∧ ∀ o, w.frozen? ⟨g, o, none⟩ = false := by
  refine ⟨?_, ?_, fun o => ?_⟩ <;> simp [World.cell?, World.frozen?, h]

theorem two_cells (w : World) (a b : Value) (T : TypeId) : (w.alloc (.cells #[a, b] T)).cell? ⟨w.heap.size, 0, none⟩ = some a ∧ (w.alloc (.cells #[a, b] T)).cell? ⟨w.heap.size, 1, none⟩ = some b := ⟨World.cell?_alloc_at _ _ _ _ (by simp), World.cell?_alloc_at _ _ _ _ (by simp)⟩

set_option maxRecDepth 100000 in
set_option maxHeartbeats 2000000 in
theorem wakes_any (w : World) : Calls Tryz.prog 7 #[] w fun e w' => e = .returned (.bool true) ∧ Below w.heap.size w w' := by
  go_enter Tryz.func7, Tryz.ntmps7
  go_wp2_with fail
  refine (v0 _).mono ?_
  rintro e w1 ⟨rfl, hb1⟩
  have fr1 : Fr nob w w1 := (Fr.refl nob w).below hb1
  clear hb1
  go_wp2_with fail
  obtain ⟨a0, a1⟩ := two_cells w1 (.int .u32 (place (li exA) exA : Int)) (.string ⟨(code (rows (li exA))).toArray⟩) 32
  have q1 : Fr nob w1 (w1.alloc (.cells #[.int .u32 (place (li exA) exA : Int), .string ⟨(code (rows (li exA))).toArray⟩] 32)) := (Fr.refl nob w1).alloc _
  generalize w1.alloc (.cells #[.int .u32 (place (li exA) exA : Int), .string ⟨(code (rows (li exA))).toArray⟩] 32) = W1 at *
  have F1 : Fr nob w W1 := fr1.trans q1 (fun _ _ h => h)
  clear q1 fr1
  refine (v1 _).mono ?_
  rintro e w2 ⟨rfl, hb2⟩
  have p2 : Fr nob W1 w2 := (Fr.refl nob _).below hb2
  replace a0 := p2.cell' a0 (fun h => h)
  replace a1 := p2.cell' a1 (fun h => h)
  have fr2 := F1.trans p2 (fun _ _ h => h)
  clear hb2 p2 F1
  go_wp2_with fail
  obtain ⟨b0, b1⟩ := two_cells w2 (.int .u32 (place (li exB) exB : Int)) (.string ⟨(code (rows (li exB))).toArray⟩) 32
  have q2 : Fr nob w2 (w2.alloc (.cells #[.int .u32 (place (li exB) exB : Int), .string ⟨(code (rows (li exB))).toArray⟩] 32)) := (Fr.refl nob w2).alloc _
  generalize w2.alloc (.cells #[.int .u32 (place (li exB) exB : Int), .string ⟨(code (rows (li exB))).toArray⟩] 32) = W2 at *
  replace a0 := q2.cell' a0 (fun h => h)
  replace a1 := q2.cell' a1 (fun h => h)
  have F2 : Fr nob w W2 := fr2.trans q2 (fun _ _ h => h)
  clear q2 fr2
  refine (v2 _).mono ?_
  rintro e w3 ⟨rfl, hb3⟩
  have p3 : Fr nob W2 w3 := (Fr.refl nob _).below hb3
  replace a0 := p3.cell' a0 (fun h => h)
  replace a1 := p3.cell' a1 (fun h => h)
  replace b0 := p3.cell' b0 (fun h => h)
  replace b1 := p3.cell' b1 (fun h => h)
  have fr3 := F2.trans p3 (fun _ _ h => h)
  clear hb3 p3 F2
  go_wp2_with fail
  obtain ⟨c0, c1⟩ := two_cells w3 (.int .u32 (place (li exC) exC : Int)) (.string ⟨(code (rows (li exC))).toArray⟩) 32
  have q3 : Fr nob w3 (w3.alloc (.cells #[.int .u32 (place (li exC) exC : Int), .string ⟨(code (rows (li exC))).toArray⟩] 32)) := (Fr.refl nob w3).alloc _
  generalize w3.alloc (.cells #[.int .u32 (place (li exC) exC : Int), .string ⟨(code (rows (li exC))).toArray⟩] 32) = W3 at *
  replace a0 := q3.cell' a0 (fun h => h)
  replace a1 := q3.cell' a1 (fun h => h)
  replace b0 := q3.cell' b0 (fun h => h)
  replace b1 := q3.cell' b1 (fun h => h)
  have F3 : Fr nob w W3 := fr3.trans q3 (fun _ _ h => h)
  clear q3 fr3
  refine (Var_no 24 (.inr (by decide)) _).mono ?_
  rintro e w4 ⟨rfl, hb4⟩
  have p4 : Fr nob W3 w4 := (Fr.refl nob _).below hb4
  replace a0 := p4.cell' a0 (fun h => h)
  replace a1 := p4.cell' a1 (fun h => h)
  replace b0 := p4.cell' b0 (fun h => h)
  replace b1 := p4.cell' b1 (fun h => h)
  replace c0 := p4.cell' c0 (fun h => h)
  replace c1 := p4.cell' c1 (fun h => h)
  have fr4 := F3.trans p4 (fun _ _ h => h)
  clear hb4 p4 F3
  go_wp2_with fail
  have q4 : Fr nob w4 (w4.alloc (.cells #[.int .u32 (place (li .F) .F : Int), .string ⟨(code (rows (li .F))).toArray⟩] 32)) := (Fr.refl nob w4).alloc _
  generalize w4.alloc (.cells #[.int .u32 (place (li .F) .F : Int), .string ⟨(code (rows (li .F))).toArray⟩] 32) = W4 at *
  replace a0 := q4.cell' a0 (fun h => h)
  replace a1 := q4.cell' a1 (fun h => h)
  replace b0 := q4.cell' b0 (fun h => h)
  replace b1 := q4.cell' b1 (fun h => h)
  replace c0 := q4.cell' c0 (fun h => h)
  replace c1 := q4.cell' c1 (fun h => h)
  have F4 : Fr nob w W4 := fr4.trans q4 (fun _ _ h => h)
  clear q4 fr4
  refine wp_region_grow' 6 80 (fun _ => #[.int .u32 0, .string ⟨#[]⟩]) [32] (by kernel_rfl) (by kernel_rfl) rfl rfl (by intro T h w; simp at h; subst h; rfl) ?_
  simp only [List.take_succ_cons, List.take_zero]
  refine grow_step (v := ?v0) rfl rfl ?a0 ?b0
  case a0 =>
    intro w' hw'
    have y_a0 := hw'.cell' a0 (fun h => h)
    have y_a1 := hw'.cell' a1 (fun h => h)
    clear hw'
    refine growAt_value ?_
    go_simp
    rfl
  simp only [Act.put, List.setIfInBounds_toArray, List.set_cons_zero, List.set_cons_succ]
  refine grow_step (v := ?v1) rfl rfl ?a1 ?b1
  case a1 =>
    intro w' hw'
    have y_b0 := hw'.cell' b0 (fun h => h)
    have y_b1 := hw'.cell' b1 (fun h => h)
    clear hw'
    refine growAt_value ?_
    go_simp
    rfl
  simp only [Act.put, List.setIfInBounds_toArray, List.set_cons_zero, List.set_cons_succ]
  refine grow_step (v := dval (.N 0 .F (.N 1 .F .T))) rfl rfl ?a2 ?b2
  case a2 =>
    intro w' hw'
    refine growAt_call ?_ ((and_ab w').mono fun e w'' ⟨he, hb⟩ => ⟨he, (Fr.refl nob _).below hb⟩)
    go_simp
  simp only [Act.put, List.setIfInBounds_toArray, List.set_cons_zero, List.set_cons_succ]
  refine grow_step (v := ?v3) rfl rfl ?a3 ?b3
  case a3 =>
    intro w' hw'
    have y_c0 := hw'.cell' c0 (fun h => h)
    have y_c1 := hw'.cell' c1 (fun h => h)
    clear hw'
    refine growAt_value ?_
    go_simp
    rfl
  simp only [Act.put, List.setIfInBounds_toArray, List.set_cons_zero, List.set_cons_succ]
  refine grow_step (v := dval exX) rfl rfl ?a4 ?b4
  case a4 =>
    intro w' hw'
    refine growAt_call ?_ ((or_xc w').mono fun e w'' ⟨he, hb⟩ => ⟨he, (Fr.refl nob _).below hb⟩)
    go_simp
  simp only [Act.put, List.setIfInBounds_toArray, List.set_cons_zero, List.set_cons_succ]
  refine grow_alloc rfl fun g9 hg9 => ?_
  simp only [Act.put, List.setIfInBounds_toArray, List.set_cons_zero, List.set_cons_succ]
  refine grow_nil ?_
  intro w5 listed p5 hl hM
  obtain ⟨b9, m91, _, m93, _⟩ := hM 5 _ 32 9 (by omega) rfl rfl rfl (hl 5 (by omega))
  clear hM hl
  obtain rfl : g9 = b9 := by simpa using m91
  clear m91
  obtain ⟨k0, k1, k2⟩ := block2 m93
  have kf0 := k2 0
  have kf1 := k2 1
  have la : w1.heap.size < W4.heap.size := lt_of_cell a0
  replace a0 := p5.cell' a0 (fun h => h)
  replace a1 := p5.cell' a1 (fun h => h)
  have na : w1.heap.size ≠ g9 := by omega
  have F5' := F4.trans p5 (fun _ _ h => h)
  have zz : w.heap.size ≤ g9 := by have := F4.size; omega
  clear b0 b1 c0 c1 p5 F4 k2 m93
  go_wp2_with fail
  have x0 : ((w5.setCell ⟨g9, 0, none⟩ (.int .u32 (place (li exX) exX : Int))).setCell ⟨g9, 1, none⟩ (.string ⟨(code (rows (li exX))).toArray⟩)).cell? ⟨g9, 0, none⟩ = some (.int .u32 (place (li exX) exX : Int)) := by
    rw [World.cell?_setCell_other _ _ _ _ (by simp)]; exact World.cell?_setCell_same' _ _ _ (by rw [k0]; rfl)
  have x1 : ((w5.setCell ⟨g9, 0, none⟩ (.int .u32 (place (li exX) exX : Int))).setCell ⟨g9, 1, none⟩ (.string ⟨(code (rows (li exX))).toArray⟩)).cell? ⟨g9, 1, none⟩ = some (.string ⟨(code (rows (li exX))).toArray⟩) :=
    World.cell?_setCell_same' _ _ _ (by rw [World.cell?_setCell_other _ _ _ _ (by simp), k1]; rfl)
  have F5 := (F5'.set1 zz (o := 0) (.int .u32 (place (li exX) exX : Int))).set1 zz (o := 1) (.string ⟨(code (rows (li exX))).toArray⟩)
  have q5 : Fr (fun k => k = g9) w5 ((w5.setCell ⟨g9, 0, none⟩ (.int .u32 (place (li exX) exX : Int))).setCell ⟨g9, 1, none⟩ (.string ⟨(code (rows (li exX))).toArray⟩)) := (fr_store w5 g9 0 _).trans (fr_store _ g9 1 _) (fun _ _ h => h)
  replace a0 := q5.cell' a0 na
  replace a1 := q5.cell' a1 na
  generalize (w5.setCell ⟨g9, 0, none⟩ (.int .u32 (place (li exX) exX : Int))).setCell ⟨g9, 1, none⟩ (.string ⟨(code (rows (li exX))).toArray⟩) = W5 at *
  clear q5 k0 k1 kf0 kf1 F5'
  refine (count_x _).mono ?_
  rintro e w6 ⟨rfl, hb6⟩
  have p6 : Fr nob W5 w6 := (Fr.refl nob _).below hb6
  replace a0 := p6.cell' a0 (fun h => h)
  replace a1 := p6.cell' a1 (fun h => h)
  replace x0 := p6.cell' x0 (fun h => h)
  replace x1 := p6.cell' x1 (fun h => h)
  have fr6 := F5.trans p6 (fun _ _ h => h)
  clear hb6 p6 F5
  have F6 := fr6
  clear fr6
  go_wp2_with fail
  refine (size_x _).mono ?_
  rintro e w7 ⟨rfl, hb7⟩
  have p7 : Fr nob w6 w7 := (Fr.refl nob _).below hb7
  replace a0 := p7.cell' a0 (fun h => h)
  replace a1 := p7.cell' a1 (fun h => h)
  replace x0 := p7.cell' x0 (fun h => h)
  replace x1 := p7.cell' x1 (fun h => h)
  have fr7 := F6.trans p7 (fun _ _ h => h)
  clear hb7 p7 F6
  have F7 := fr7
  clear fr7
  go_wp2_with fail
  refine (has4_x _).mono ?_
  rintro e w8 ⟨rfl, hb8⟩
  have p8 : Fr nob w7 w8 := (Fr.refl nob _).below hb8
  replace a0 := p8.cell' a0 (fun h => h)
  replace a1 := p8.cell' a1 (fun h => h)
  replace x0 := p8.cell' x0 (fun h => h)
  replace x1 := p8.cell' x1 (fun h => h)
  have fr8 := F7.trans p8 (fun _ _ h => h)
  clear hb8 p8 F7
  have F8 := fr8
  clear fr8
  go_wp2_with fail
  refine (has2_x _).mono ?_
  rintro e w9 ⟨rfl, hb9⟩
  have p9 : Fr nob w8 w9 := (Fr.refl nob _).below hb9
  replace a0 := p9.cell' a0 (fun h => h)
  replace a1 := p9.cell' a1 (fun h => h)
  replace x0 := p9.cell' x0 (fun h => h)
  replace x1 := p9.cell' x1 (fun h => h)
  have fr9 := F8.trans p9 (fun _ _ h => h)
  clear hb9 p9 F8
  have F9 := fr9
  clear fr9
  go_wp2_with fail
  refine (xor_aa _).mono ?_
  rintro e w10 ⟨rfl, hb10⟩
  have p10 : Fr nob w9 w10 := (Fr.refl nob _).below hb10
  replace a0 := p10.cell' a0 (fun h => h)
  replace a1 := p10.cell' a1 (fun h => h)
  replace x0 := p10.cell' x0 (fun h => h)
  replace x1 := p10.cell' x1 (fun h => h)
  have fr10 := F9.trans p10 (fun _ _ h => h)
  clear hb10 p10 F9
  have F10 := fr10
  clear fr10
  go_wp2_with fail
  refine (empty_F _).mono ?_
  rintro e w11 ⟨rfl, hb11⟩
  have p11 : Fr nob w10 w11 := (Fr.refl nob _).below hb11
  replace a0 := p11.cell' a0 (fun h => h)
  replace a1 := p11.cell' a1 (fun h => h)
  replace x0 := p11.cell' x0 (fun h => h)
  replace x1 := p11.cell' x1 (fun h => h)
  have fr11 := F10.trans p11 (fun _ _ h => h)
  clear hb11 p11 F10
  go_wp2_with fail
  go_ret
  exact ⟨by simp, fr11.to_below (Nat.le_refl _) (fun _ h => h.elim)⟩
end Go.Proofs.YtalnhlebgofiiaaGreatDoor
