import Derived.Test.YtalnhlebgofiiaaGreatDoorHas
import Derived.Test.YtalnhlebgofiiaaGreatDoorSem
import Derived.Test.YtalnhlebgofiiaaGreatDoorGrowU
import Derived.Test.YtalnhlebgofiiaaGreatDoorRefA
import Derived.Test.YtalnhlebgofiiaaGreatDoorIte
import Derived.Lib.Hide
namespace Go.Proofs.YtalnhlebgofiiaaGreatDoor
open Go.RowKit
namespace Bd

/-- a set with a feature fixed -/
noncomputable def withB (i : Nat) (on : Bool) (x : B) : B := can fun c => x.ev (up c i on)
theorem ok_withB0 (i : Nat) (on : Bool) (x : B) : (withB i on x).ok 0 := ok_can _
theorem ev_withB {x : B} (hx : x.ok 0) (i : Nat) (on : Bool) (c : Cfg) : (withB i on x).ev c = x.ev (up c i on) := by
  unfold withB
  rw [ev_can]
  refine ev_agree hx fun j _ h => ?_
  unfold up; split
  · rfl
  · simp [cut, h]
theorem ok_withB {x : B} {n : Nat} (hn : n ≤ 24) (hx : x.ok n) (i : Nat) (on : Bool) : (withB i on x).ok n :=
  ok_can_of hn fun c d h => ev_agree hx fun j h1 h2 => by
    unfold up; split
    · rfl
    · exact h j h1 h2
theorem with_F (i : Nat) (on : Bool) : withB i on .F = .F := eq_of_ev (ok_withB0 _ _ _) trivial fun c => by rw [ev_withB (x := .F) trivial]; rfl
theorem with_T (i : Nat) (on : Bool) : withB i on .T = .T := eq_of_ev (ok_withB0 _ _ _) trivial fun c => by rw [ev_withB (x := .T) trivial]; rfl
theorem with_free {x : B} {i : Nat} (hx : x.ok (i + 1)) (on : Bool) : withB i on x = x :=
  eq_of_ev (ok_withB0 _ _ _) (hx.mono (Nat.zero_le _)) fun c => by rw [ev_withB (hx.mono (Nat.zero_le _)), up_free hx]
theorem with_at {i : Nat} {l u : B} (h : (B.N i l u).ok 0) (on : Bool) : withB i on (.N i l u) = if on then u else l := by
  have h0 := h
  obtain ⟨_, _, _, h4, h5⟩ := h
  refine eq_of_ev (ok_withB0 _ _ _) (by split <;> first | exact h5.mono (Nat.zero_le _) | exact h4.mono (Nat.zero_le _)) fun c => ?_
  rw [ev_withB h0]
  show (if up c i on i then u.ev (up c i on) else l.ev (up c i on)) = _
  have e : up c i on i = on := by unfold up; simp
  rw [e]
  cases on
  · simp [up_free h4]
  · simp [up_free h5]
theorem with_node {i j : Nat} {l u : B} (h : (B.N j l u).ok 0) (hij : j ≠ i) (on : Bool) : withB i on (.N j l u) = mk j (withB i on l) (withB i on u) := by
  have h0 := h
  obtain ⟨h1, h2, _, h4, h5⟩ := h
  have o4 := ok_withB (by omega) h4 i on
  have o5 := ok_withB (by omega) h5 i on
  refine eq_of_ev (ok_withB0 _ _ _) ((ok_mk h2 o4 o5).mono (Nat.zero_le _)) fun c => ?_
  rw [ev_withB h0, ev_mk, ev_withB (h4.mono (Nat.zero_le _)), ev_withB (h5.mono (Nat.zero_le _))]
  show (if up c i on j then u.ev (up c i on) else l.ev (up c i on)) = _
  have e : up c i on j = c j := by unfold up; rw [if_neg hij]
  rw [e]
theorem mk_self {j : Nat} {l u : B} {n : Nat} (h : (B.N j l u).ok n) : mk j l u = .N j l u := by
  obtain ⟨_, _, h3, _, _⟩ := h
  unfold mk; rw [if_neg h3]
/-- what split looks at: the node, or the child that the fixed feature chooses -/
def chosen (i : Nat) (on : Bool) (x : B) : B := if x.top = i then (if on then x.hi else x.lo) else x
theorem with_chosen {x : B} (hx : x.ok 0) {i : Nat} (hi : i < 24) (on : Bool) :
    (chosen i on x).ok 0 ∧ x.top ≤ (chosen i on x).top ∧
      ((chosen i on x = .F ∧ withB i on x = .F) ∨ (chosen i on x = .T ∧ withB i on x = .T) ∨
        ∃ j l u, chosen i on x = .N j l u ∧ withB i on x = mk j (withB i on l) (withB i on u)) := by
  unfold chosen
  cases x with
  | F => rw [if_neg (by show ¬ (24 = i); omega)]; exact ⟨trivial, Nat.le_refl _, .inl ⟨rfl, with_F _ _⟩⟩
  | T => rw [if_neg (by show ¬ (24 = i); omega)]; exact ⟨trivial, Nat.le_refl _, .inr (.inl ⟨rfl, with_T _ _⟩)⟩
  | N j l u =>
    by_cases e : j = i
    · subst e
      rw [if_pos (by rfl)]
      have hw := with_at hx on
      obtain ⟨_, _, _, h4, h5⟩ := hx
      have key : ∀ y : B, y.ok (j + 1) → withB j on (.N j l u) = y → y.ok 0 ∧ (B.N j l u).top ≤ y.top ∧ ((y = .F ∧ withB j on (.N j l u) = .F) ∨ (y = .T ∧ withB j on (.N j l u) = .T) ∨ ∃ k p q, y = .N k p q ∧ withB j on (.N j l u) = mk k (withB j on p) (withB j on q)) := by
        intro y hy he
        refine ⟨hy.mono (Nat.zero_le _), (by have := top_ge hy (show j + 1 ≤ 24 by omega); show j ≤ y.top; omega), ?_⟩
        cases y with
        | F => exact .inl ⟨rfl, he⟩
        | T => exact .inr (.inl ⟨rfl, he⟩)
        | N k p q =>
          have hy' := hy
          obtain ⟨k1, k2, _, k4, k5⟩ := hy
          refine .inr (.inr ⟨k, p, q, rfl, ?_⟩)
          rw [he, with_free (k4.mono (by omega)) on, with_free (k5.mono (by omega)) on, mk_self hy']
      cases on
      · exact key l h4 hw
      · exact key u h5 hw
    · rw [if_neg (by exact e)]
      exact ⟨hx, Nat.le_refl _, .inr (.inr ⟨j, l, u, rfl, with_node hx e on⟩)⟩
end Bd
end Go.Proofs.YtalnhlebgofiiaaGreatDoor
namespace Go.Proofs.YtalnhlebgofiiaaGreatDoor
open Go.RowKit
open Bd

/-- what split of fixing answers -/
noncomputable def spW (A : B) (i : Nat) (on : Bool) (x : B) : Nat × Nat × Nat :=
  if (chosen i on x).top = 24 then (24 + place (li A) (chosen i on x), place (li A) (chosen i on x), place (li A) (chosen i on x)) else rowB (li A) (chosen i on x)
abbrev fixv (A : B) (i : Nat) (on : Bool) : Value := .agg #[.int .u32 (place (li A) A : Int), .string ⟨(code (rows (li A))).toArray⟩, .int .u8 (i : Int), .bool on]
theorem inn_chosen {A x : B} (hx : inn (li A) x) (i : Nat) (on : Bool) : inn (li A) (chosen i on x) := by
  unfold chosen
  split
  · split
    · exact inn_hi (good_li A) hx
    · exact inn_lo (good_li A) hx
  · exact hx
theorem four_box (w : World) (a b c d : Value) (T : TypeId) : (w.alloc (.cells #[a, b, c, d] T)).cell? ⟨w.heap.size, 0, none⟩ = some a ∧ (w.alloc (.cells #[a, b, c, d] T)).cell? ⟨w.heap.size, 1, none⟩ = some b ∧ (w.alloc (.cells #[a, b, c, d] T)).cell? ⟨w.heap.size, 2, none⟩ = some c ∧ (w.alloc (.cells #[a, b, c, d] T)).cell? ⟨w.heap.size, 3, none⟩ = some d :=
  ⟨World.cell?_alloc_at _ _ _ _ (by simp), World.cell?_alloc_at _ _ _ _ (by simp), World.cell?_alloc_at _ _ _ _ (by simp), World.cell?_alloc_at _ _ _ _ (by simp)⟩

set_option maxRecDepth 100000 in
set_option maxHeartbeats 2000000 in
theorem fsplit_any (A : B) (hA : A.ok 0) (i : Nat) (on : Bool) (x : B) (hx : inn (li A) x) (w : World) : Calls Tryz.prog 112 #[fixv A i on, uk (place (li A) x)] w fun e w' => e = .returned (.tuple #[.int .i64 ((spW A i on x).1 : Int), uk (spW A i on x).2.1, uk (spW A i on x).2.2]) ∧ Below w.heap.size w w' := by
  have htop := top_le (ok_of_inn hA hx)
  have hpl : ∀ y, inn (li A) y → (place (li A) y : Int) < 4194304 := fun y hy => by have h1 := place_lt hy; have h2 := (small_li hA).1; omega
  have hpx := hpl x hx
  obtain ⟨c0, c1, c2, c3⟩ := four_box w (.int .u32 (place (li A) A : Int)) (.string ⟨(code (rows (li A))).toArray⟩) (.int .u8 (i : Int)) (.bool on) 160
  have fr : Fr nob w (w.alloc (.cells #[.int .u32 (place (li A) A : Int), .string ⟨(code (rows (li A))).toArray⟩, .int .u8 (i : Int), .bool on] 160)) := (Fr.refl nob w).alloc _
  have hat := at_any A x hA hx
  go_enter Tryz.func112, Tryz.ntmps112
  go_wp2_with fail
  generalize w.alloc (.cells #[.int .u32 (place (li A) A : Int), .string ⟨(code (rows (li A))).toArray⟩, .int .u8 (i : Int), .bool on] 160) = W at *
  refine (hat _).mono ?_
  clear hat
  rintro e w1 ⟨rfl, hb⟩
  have f1 := (Fr.refl nob W).below hb
  have fr1 := fr.below hb
  replace c0 := f1.cell c0 (fun h => h)
  replace c1 := f1.cell c1 (fun h => h)
  replace c2 := f1.cell c2 (fun h => h)
  replace c3 := f1.cell c3 (fun h => h)
  clear hb f1 fr
  simp only [rowB, nk] at *
  have d0 := cell_alloc_l c0 (.cells #[.int .u8 (x.top : Int), .int .u32 (place (li A) x.lo : Int), .int .u32 (place (li A) x.hi : Int)] 98)
  have d1 := cell_alloc_l c1 (.cells #[.int .u8 (x.top : Int), .int .u32 (place (li A) x.lo : Int), .int .u32 (place (li A) x.hi : Int)] 98)
  have d2 := cell_alloc_l c2 (.cells #[.int .u8 (x.top : Int), .int .u32 (place (li A) x.lo : Int), .int .u32 (place (li A) x.hi : Int)] 98)
  have d3 := cell_alloc_l c3 (.cells #[.int .u8 (x.top : Int), .int .u32 (place (li A) x.lo : Int), .int .u32 (place (li A) x.hi : Int)] 98)
  obtain ⟨n0, n1, n2, nf⟩ := block3 (heap_alloc_new w1 (.cells #[.int .u8 (x.top : Int), .int .u32 (place (li A) x.lo : Int), .int .u32 (place (li A) x.hi : Int)] 98))
  have nf0 := nf 0
  have nf1 := nf 1
  have nf2 := nf 2
  have fr2 := fr1.alloc (.cells #[.int .u8 (x.top : Int), .int .u32 (place (li A) x.lo : Int), .int .u32 (place (li A) x.hi : Int)] 98)
  clear c0 c1 c2 c3 nf
  by_cases ht : x.top = i
  · have hb0 : ((x.top : Int) == (i : Int)) = true := by rw [ht]; simp
    cases on with
    | true =>
      have hch : chosen i true x = x.hi := by unfold chosen; rw [if_pos ht]; rfl
      have hy := inn_hi (good_li A) hx
      have hat2 := at_any A x.hi hA hy
      have hpy := hpl _ hy
      have hty := top_le (ok_of_inn hA hy)
      clear ht
      have HC := Lib.hid hch
      clear hch
      generalize x.hi = y at *
      go_wp2_with fail
      refine (hat2 _).mono ?_
      clear hat2
      rintro e w3 ⟨rfl, hb3⟩
      have f3 := (Fr.refl nob (w1.alloc (.cells #[.int .u8 (x.top : Int), .int .u32 (place (li A) x.lo : Int), .int .u32 (place (li A) y : Int)] 98))).below hb3
      have frw := fr2.trans f3 (fun _ _ h => h)
      have lz := lt_of_cell n0
      simp only at lz
      have p0 := f3.cell n0 (fun h => h)
      have p1 := f3.cell n1 (fun h => h)
      have p2 := f3.cell n2 (fun h => h)
      have pf0 := (f3.frozen (p := ⟨w1.heap.size, 0, none⟩) lz (fun h => h)).trans nf0
      have pf1 := (f3.frozen (p := ⟨w1.heap.size, 1, none⟩) lz (fun h => h)).trans nf1
      have pf2 := (f3.frozen (p := ⟨w1.heap.size, 2, none⟩) lz (fun h => h)).trans nf2
      have hw1 : w.heap.size ≤ w1.heap.size := fr1.size
      clear d0 d1 d2 d3 n0 n1 n2 nf0 nf1 nf2 hb3
      simp only [rowB, nk] at *
      obtain ⟨s0, s1, s2, sf, _⟩ := set3_facts (a := .int .u8 (y.top : Int)) (b := .int .u32 (place (li A) y.lo : Int)) (c := .int .u32 (place (li A) y.hi : Int)) p0 p1 p2
      have frs : Fr nob w (set3 w3 w1.heap.size (.int .u8 (y.top : Int)) (.int .u32 (place (li A) y.lo : Int)) (.int .u32 (place (li A) y.hi : Int))) := ((frw.set1 hw1 _).set1 hw1 _).set1 hw1 _
      by_cases h24 : y.top = 24
      · have hs : spW A i true x = (24 + place (li A) y, place (li A) y, place (li A) y) := by unfold spW; rw [HC.out, if_pos h24]
        have HS := Lib.hid hs
        have h24' : ((y.top : Int) == 24) = true := by rw [h24]; rfl
        clear hs h24
        go_wp2_with fail
        go_ret3
        exact ⟨by rw [HS.out]; simp, frs.to_below (Nat.le_refl _) (fun _ h => h.elim)⟩
      · have hs : spW A i true x = rowB (li A) y := by unfold spW; rw [HC.out, if_neg h24]
        have HS := Lib.hid hs
        have h24' : ((y.top : Int) == 24) = false := by simp only [beq_eq_false_iff_ne]; omega
        clear hs h24
        go_wp2_with fail
        unfold set3 at s0 s1 s2 sf frs
        generalize ((w3.setCell ⟨w1.heap.size, 0, none⟩ (.int .u8 (y.top : Int))).setCell ⟨w1.heap.size, 1, none⟩ (.int .u32 (place (li A) y.lo : Int))).setCell ⟨w1.heap.size, 2, none⟩ (.int .u32 (place (li A) y.hi : Int)) = W3 at *
        go_quiet (fail)
        go_wp2_with fail
        go_ret3
        exact ⟨by rw [HS.out]; simp [rowB], (frs.drewN _).to_below (Nat.le_refl _) (fun _ h => h.elim)⟩
    | false =>
      have hch : chosen i false x = x.lo := by unfold chosen; rw [if_pos ht]; rfl
      have hy := inn_lo (good_li A) hx
      have hat2 := at_any A x.lo hA hy
      have hpy := hpl _ hy
      have hty := top_le (ok_of_inn hA hy)
      clear ht
      have HC := Lib.hid hch
      clear hch
      generalize x.lo = y at *
      go_wp2_with fail
      refine (hat2 _).mono ?_
      clear hat2
      rintro e w3 ⟨rfl, hb3⟩
      have f3 := (Fr.refl nob (w1.alloc (.cells #[.int .u8 (x.top : Int), .int .u32 (place (li A) y : Int), .int .u32 (place (li A) x.hi : Int)] 98))).below hb3
      have frw := fr2.trans f3 (fun _ _ h => h)
      have lz := lt_of_cell n0
      simp only at lz
      have p0 := f3.cell n0 (fun h => h)
      have p1 := f3.cell n1 (fun h => h)
      have p2 := f3.cell n2 (fun h => h)
      have pf0 := (f3.frozen (p := ⟨w1.heap.size, 0, none⟩) lz (fun h => h)).trans nf0
      have pf1 := (f3.frozen (p := ⟨w1.heap.size, 1, none⟩) lz (fun h => h)).trans nf1
      have pf2 := (f3.frozen (p := ⟨w1.heap.size, 2, none⟩) lz (fun h => h)).trans nf2
      have hw1 : w.heap.size ≤ w1.heap.size := fr1.size
      clear d0 d1 d2 d3 n0 n1 n2 nf0 nf1 nf2 hb3
      simp only [rowB, nk] at *
      obtain ⟨s0, s1, s2, sf, _⟩ := set3_facts (a := .int .u8 (y.top : Int)) (b := .int .u32 (place (li A) y.lo : Int)) (c := .int .u32 (place (li A) y.hi : Int)) p0 p1 p2
      have frs : Fr nob w (set3 w3 w1.heap.size (.int .u8 (y.top : Int)) (.int .u32 (place (li A) y.lo : Int)) (.int .u32 (place (li A) y.hi : Int))) := ((frw.set1 hw1 _).set1 hw1 _).set1 hw1 _
      by_cases h24 : y.top = 24
      · have hs : spW A i false x = (24 + place (li A) y, place (li A) y, place (li A) y) := by unfold spW; rw [HC.out, if_pos h24]
        have HS := Lib.hid hs
        have h24' : ((y.top : Int) == 24) = true := by rw [h24]; rfl
        clear hs h24
        go_wp2_with fail
        go_ret3
        exact ⟨by rw [HS.out]; simp, frs.to_below (Nat.le_refl _) (fun _ h => h.elim)⟩
      · have hs : spW A i false x = rowB (li A) y := by unfold spW; rw [HC.out, if_neg h24]
        have HS := Lib.hid hs
        have h24' : ((y.top : Int) == 24) = false := by simp only [beq_eq_false_iff_ne]; omega
        clear hs h24
        go_wp2_with fail
        unfold set3 at s0 s1 s2 sf frs
        generalize ((w3.setCell ⟨w1.heap.size, 0, none⟩ (.int .u8 (y.top : Int))).setCell ⟨w1.heap.size, 1, none⟩ (.int .u32 (place (li A) y.lo : Int))).setCell ⟨w1.heap.size, 2, none⟩ (.int .u32 (place (li A) y.hi : Int)) = W3 at *
        go_quiet (fail)
        go_wp2_with fail
        go_ret3
        exact ⟨by rw [HS.out]; simp [rowB], (frs.drewN _).to_below (Nat.le_refl _) (fun _ h => h.elim)⟩
  · have hb0 : ((x.top : Int) == (i : Int)) = false := by simp only [beq_eq_false_iff_ne]; omega
    have hch : chosen i on x = x := by unfold chosen; rw [if_neg ht]
    by_cases h24 : x.top = 24
    · have hs : spW A i on x = (24 + place (li A) x, place (li A) x, place (li A) x) := by unfold spW; rw [hch, if_pos h24]
      have HS := Lib.hid hs
      have h24' : ((x.top : Int) == 24) = true := by rw [h24]; rfl
      clear hs hch h24
      go_wp2_with fail
      go_ret3
      exact ⟨by rw [HS.out]; simp, fr2.to_below (Nat.le_refl _) (fun _ h => h.elim)⟩
    · have hs : spW A i on x = rowB (li A) x := by unfold spW; rw [hch, if_neg h24]
      have HS := Lib.hid hs
      have h24' : ((x.top : Int) == 24) = false := by simp only [beq_eq_false_iff_ne]; omega
      clear hs hch
      go_wp2_with fail
      generalize w1.alloc (.cells #[.int .u8 (x.top : Int), .int .u32 (place (li A) x.lo : Int), .int .u32 (place (li A) x.hi : Int)] 98) = W1 at *
      go_quiet (fail)
      go_wp2_with fail
      go_ret3
      exact ⟨by rw [HS.out]; simp [rowB], (fr2.drewN _).to_below (Nat.le_refl _) (fun _ h => h.elim)⟩
end Go.Proofs.YtalnhlebgofiiaaGreatDoor
namespace Go.Proofs.YtalnhlebgofiiaaGreatDoor
open Go.RowKit
namespace Bd
noncomputable def semW (A : B) (i : Nat) (on : Bool) (k : Nat) : B := withB i on (nodeAt (li A) k)
def valW (A : B) (k : Nat) : Prop := ∃ x, inn (li A) x ∧ k = place (li A) x
noncomputable def muW (A : B) (k : Nat) : Nat := 24 - (nodeAt (li A) k).top
theorem splW {A : B} (hA : A.ok 0) {i : Nat} (hi : i < 24) (on : Bool) : Spl (semW A i on) (valW A) (muW A) (fun k => spW A i on (nodeAt (li A) k)) := by
  constructor
  · rintro k ⟨x, hx, rfl⟩ h
    simp only [semW, nodeAt_place hx] at h ⊢
    obtain ⟨ho, _, hc⟩ := with_chosen (ok_of_inn hA hx) hi on
    unfold spW at h ⊢
    rcases hc with ⟨e, hw⟩ | ⟨e, hw⟩ | ⟨j, l, u, e, hw⟩
    · rw [e, if_pos (show B.F.top = 24 from rfl)]; exact .inl ⟨hw, rfl⟩
    · rw [e, if_pos (show B.T.top = 24 from rfl)]; exact .inr ⟨hw, rfl⟩
    · rw [e] at h ho
      have hj : j < 24 := ho.2.1
      rw [if_neg (show ¬ (B.N j l u).top = 24 by show ¬ j = 24; omega)] at h
      exact absurd h (by show ¬ 24 ≤ j; omega)
  · rintro k ⟨x, hx, rfl⟩ h
    simp only [semW, muW, nodeAt_place hx] at h ⊢
    obtain ⟨ho, ht, hc⟩ := with_chosen (ok_of_inn hA hx) hi on
    have hin := inn_chosen hx i on
    unfold spW at h ⊢
    rcases hc with ⟨e, hw⟩ | ⟨e, hw⟩ | ⟨j, l, u, e, hw⟩
    · rw [e, if_pos (show B.F.top = 24 from rfl)] at h; exact absurd h (by show ¬ 24 + 0 < 24; omega)
    · rw [e, if_pos (show B.T.top = 24 from rfl)] at h; exact absurd h (by show ¬ 24 + 1 < 24; omega)
    · rw [e] at h ho hin ht ⊢
      have hj : j < 24 := ho.2.1
      have hl := inn_lo (good_li A) hin
      have hu := inn_hi (good_li A) hin
      rw [if_neg (show ¬ (B.N j l u).top = 24 by show ¬ j = 24; omega)] at h ⊢
      have e1 : rowB (li A) (.N j l u) = (j, place (li A) l, place (li A) u) := rfl
      rw [e1]
      simp only
      rw [nodeAt_place (x := l) hl, nodeAt_place (x := u) hu]
      have ht' : x.top ≤ j := ht
      have t1 := top_ge ho.2.2.2.1 (show j + 1 ≤ 24 by omega)
      have t2 := top_ge ho.2.2.2.2 (show j + 1 ≤ 24 by omega)
      exact ⟨hw, ⟨l, hl, rfl⟩, ⟨u, hu, rfl⟩, by omega, by omega⟩
theorem with_nosup {A : B} (hA : A.ok 0) {i : Nat} (h : (supR (li A)).testBit i = false) (on : Bool) : withB i on A = A := by
  refine eq_of_ev (ok_withB0 _ _ _) hA fun c => ?_
  rw [ev_withB hA]
  exact free_of_no (fun lo hi hs => by have q : (supR (li A)).testBit i = true := supR_bit.2 ⟨_, mem_li.2 ⟨rfl, hs⟩, rfl⟩; rw [h] at q; cases q) c on
/-- With, for any int -/
noncomputable def withI (A : B) (i : Int) (on : Bool) : B := if 0 ≤ i ∧ i < 24 then withB i.toNat on A else A
theorem ok_withI {A : B} (hA : A.ok 0) (i : Int) (on : Bool) : (withI A i on).ok 0 := by
  unfold withI; split
  · exact ok_withB0 _ _ _
  · exact hA
end Bd
open Bd

/-- the variables of With -/
structure WithSt (A : B) (w0 w : World) : Prop where
  fr : Fr nob w0 w
  a0 : w.cell? ⟨w0.heap.size, 0, none⟩ = some (.int .u32 (place (li A) A : Int))
  a1 : w.cell? ⟨w0.heap.size, 1, none⟩ = some (.string ⟨(code (rows (li A))).toArray⟩)
  r0 : w.cell? ⟨w0.heap.size + 1, 0, none⟩ = some (.int .u32 0)
  r1 : w.cell? ⟨w0.heap.size + 1, 1, none⟩ = some (.string ⟨#[]⟩)
  f0 : w.frozen? ⟨w0.heap.size + 1, 0, none⟩ = false
  f1 : w.frozen? ⟨w0.heap.size + 1, 1, none⟩ = false
theorem WithSt.kept {A : B} {w0 w w' : World} (h : WithSt A w0 w) (hb : Below w.heap.size w w') : WithSt A w0 w' := by
  have fr : Fr nob w w' := (Fr.refl nob w).below hb
  have l1 : w0.heap.size + 1 < w.heap.size := lt_of_cell h.r0
  have c : ∀ {p : Addr} {v : Value}, w.cell? p = some v → _ := fun h => fr.cell h (fun h => h)
  exact ⟨h.fr.trans fr (fun _ _ h => h), c h.a0, c h.a1, c h.r0, c h.r1, (fr.frozen (p := ⟨w0.heap.size + 1, 0, none⟩) l1 (fun h => h)).trans h.f0, (fr.frozen (p := ⟨w0.heap.size + 1, 1, none⟩) l1 (fun h => h)).trans h.f1⟩
theorem WithSt.start (A : B) (w : World) : WithSt A w ((w.alloc (.cells #[.int .u32 (place (li A) A : Int), .string ⟨(code (rows (li A))).toArray⟩] 32)).alloc (.cells #[.int .u32 0, .string ⟨#[]⟩] 32)) := by
  refine ⟨(((Fr.refl nob w).alloc _).alloc _), cell_alloc_l (World.cell?_alloc_at _ _ _ _ (by simp)) _, cell_alloc_l (World.cell?_alloc_at _ _ _ _ (by simp)) _, ?_, ?_, ?_, ?_⟩
  · exact World.cell?_alloc_at _ _ _ _ (by simp)
  · exact World.cell?_alloc_at _ _ _ _ (by simp)
  · exact World.frozen?_alloc_at _ _ _ _ (by simp)
  · exact World.frozen?_alloc_at _ _ _ _ (by simp)

theorem bit0_u32 (c i : Nat) (hc : c < 2 ^ 32) : (bits BinOp.and IntKind.u32 ((c : Int) / 2 ^ i) 1 == 0) = !c.testBit i := by
  have e : (c : Int) / 2 ^ i = ((c / 2 ^ i : Nat) : Int) := by simp
  have hlt : c / 2 ^ i < 2 ^ 32 := Nat.lt_of_le_of_lt (Nat.div_le_self _ _) hc
  have h := (bits_nat .u32 32 (by decide) wraps_u32 (c / 2 ^ i) 1 hlt (by decide)).1
  rw [e, show (1 : Int) = ((1 : Nat) : Int) from rfl, h, Nat.and_one_is_mod, Nat.testBit_eq_decide_div_mod_eq]
  rcases Nat.mod_two_eq_zero_or_one (c / 2 ^ i) with h | h <;> rw [h] <;> rfl

theorem grow_with {A : B} (hA : A.ok 0) {i : Nat} (hi : i < 24) (on : Bool) (w : World) : Calls Tryz.prog 111 #[uk (place (li A) A), .func (.func 112) #[fixv A i on] #[]] w fun e w' => e = .returned (dval (withB i on A)) ∧ Below w.heap.size w w' := by
  have hs : semW A i on (place (li A) A) = withB i on A := by unfold semW; rw [nodeAt_place (inn_li A)]
  have := growU_any (splW hA hi on) (fixv A i on) (fun k hk => ?_) (fun k w hk => ?_) (place (li A) A) w ⟨A, inn_li A, rfl⟩ (by rw [hs]; exact ok_withB0 _ _ _)
  · rw [hs] at this; exact this
  · obtain ⟨x, hx, rfl⟩ := hk
    have h1 := place_lt hx; have h2 := (small_li hA).1; omega
  · obtain ⟨x, hx, rfl⟩ := hk
    simp only [nodeAt_place hx]
    exact fsplit_any A hA i on x hx w

set_option maxRecDepth 100000 in
set_option maxHeartbeats 2000000 in
theorem With_any (A : B) (hA : A.ok 0) (i : Int) (on : Bool) (w : World) : Calls Tryz.prog 71 #[dval A, .int .i64 i, .bool on] w fun e w' => e = .returned (dval (withI A i on)) ∧ Below w.heap.size w w' := by
  have S0 := WithSt.start A w
  have hmf : ∀ (fn : Fn) (first cap : Array Value) (w : World), (Instr.makeFunc fn first cap).run Tryz.prog w = .ok (.func fn first cap) w := fun _ _ _ _ => rfl
  have hsup := Support_any A hA
  have hs24 := supR_lt24 hA
  have hpl : (place (li A) A : Int) < 4294967296 := by have h1 := place_lt (inn_li A); have h2 := (small_li hA).1; omega
  by_cases hneg : i < 0
  · have e : withI A i on = A := by unfold withI; rw [if_neg (by omega)]
    have HE := Lib.hid e
    clear e
    have ⟨_, a01, a11, r01, r11, f01, f11⟩ := S0
    go_enter Tryz.func71, Tryz.ntmps71
    go_wp2_with fail
    refine bodyPost_ret (v := dval A) (by simp [results, Tryz.results71, go_sem]) rfl ⟨by rw [HE.out], ?_⟩
    exact (((Fr.refl nob w).alloc _).alloc _).to_below (Nat.le_refl _) (fun _ h => h.elim)
  · obtain ⟨n, rfl⟩ : ∃ n : Nat, i = n := ⟨i.toNat, by omega⟩
    by_cases hb : (supR (li A)).testBit n = true
    · have hn : n < 24 := Classical.byContradiction fun h => by
        rw [Nat.testBit_lt_two_pow (Nat.lt_of_lt_of_le hs24 (Nat.pow_le_pow_right (by omega) (by omega)))] at hb; cases hb
      have e : withI A n on = withB n on A := by unfold withI; rw [if_pos (by omega)]; rfl
      have hbit := bit0_u32 (supR (li A)) n (by omega)
      rw [hb] at hbit
      replace hbit : (bits BinOp.and IntKind.u32 ((supR (li A) : Nat) / 2 ^ n) 1 == 0) = false := hbit
      have HE := Lib.hid e
      have HG := Lib.hid (grow_with hA hn on)
      clear e hb hmf
      have hm := Lib.hid (rfl : supR (li A) = supR (li A))
      generalize supR (li A) = m at *
      clear hm
      have hmf : ∀ (fn : Fn) (first cap : Array Value) (w : World), (Instr.makeFunc fn first cap).run Tryz.prog w = .ok (.func fn first cap) w := fun _ _ _ _ => rfl
      go_enter Tryz.func71, Tryz.ntmps71
      go_wp2_with fail
      refine (hsup _).mono ?_
      rintro e w1 ⟨rfl, hb1⟩
      have S1 := S0.kept hb1
      have F1 := Lib.hid S1.fr
      have ⟨_, a01, a11, r01, r11, f01, f11⟩ := S1
      clear hb1 S0 S1 hpl hs24
      have a0' := cell_alloc_l a01
      have a1' := cell_alloc_l a11
      go_wp2_with fail
      clear a0' a1'
      refine (HG.out _).mono ?_
      rintro e w2 ⟨rfl, hb⟩
      have F := (Fr.refl nob _).below hb
      have r0 := F.cell (cell_alloc_l r01 _) (fun h => h)
      have r1 := F.cell (cell_alloc_l r11 _) (fun h => h)
      have l0 := lt_of_cell r01
      have f0 := (F.frozen (p := ⟨w.heap.size + 1, 0, none⟩) (by rw [World.size_alloc]; exact Nat.lt_succ_of_lt l0) (fun h => h)).trans ((World.frozen?_of_block (Below.heap_alloc _ _ _ l0)).trans f01)
      have f1 := (F.frozen (p := ⟨w.heap.size + 1, 1, none⟩) (by rw [World.size_alloc]; exact Nat.lt_succ_of_lt l0) (fun h => h)).trans ((World.frozen?_of_block (a := ⟨w.heap.size + 1, 1, none⟩) (Below.heap_alloc _ _ _ l0)).trans f11)
      have G := (F1.out.alloc _).trans F (fun _ _ h => h)
      clear F hb
      go_wp2_with fail
      refine bodyPost_ret (v := dval (withB n on A)) (by simp [results, Tryz.results71, go_sem, r0, r1]) rfl ⟨by rw [HE.out], ?_⟩
      exact ((G.set1 (by omega) _).set1 (by omega) _).to_below (Nat.le_refl _) (fun _ h => h.elim)
    · rw [Bool.not_eq_true] at hb
      have e : withI A n on = A := by
        unfold withI; split
        · exact with_nosup hA hb on
        · rfl
      have HE := Lib.hid e
      by_cases h32 : n < 32
      · have hbit := bit0_u32 (supR (li A)) n (by omega)
        rw [hb] at hbit
        replace hbit : (bits BinOp.and IntKind.u32 ((supR (li A) : Nat) / 2 ^ n) 1 == 0) = true := hbit
        clear e hb
        generalize supR (li A) = m at *
        go_enter Tryz.func71, Tryz.ntmps71
        go_wp2_with fail
        refine (hsup _).mono ?_
        rintro e w1 ⟨rfl, hb1⟩
        have S1 := S0.kept hb1
        have F1 := Lib.hid S1.fr
        have ⟨_, a01, a11, r01, r11, f01, f11⟩ := S1
        clear hb1 S0 S1 hpl hs24
        go_wp2_with fail
        refine bodyPost_ret (v := dval A) (by simp [results, Tryz.results71, go_sem, r01, r11]) rfl ⟨by rw [HE.out], ?_⟩
        exact ((F1.out.set1 (by omega) _).set1 (by omega) _).to_below (Nat.le_refl _) (fun _ h => h.elim)
      · have hbit := bit0_u32 (supR (li A)) (min n 32) (by omega)
        rw [show (supR (li A)).testBit (min n 32) = false from Nat.testBit_lt_two_pow (Nat.lt_of_lt_of_le hs24 (Nat.pow_le_pow_right (by omega) (by omega)))] at hbit
        replace hbit : (bits BinOp.and IntKind.u32 ((supR (li A) : Nat) / 2 ^ min n 32) 1 == 0) = true := hbit
        clear e hb
        generalize supR (li A) = m at *
        go_enter Tryz.func71, Tryz.ntmps71
        go_wp2_with fail
        refine (hsup _).mono ?_
        rintro e w1 ⟨rfl, hb1⟩
        have S1 := S0.kept hb1
        have F1 := Lib.hid S1.fr
        have ⟨_, a01, a11, r01, r11, f01, f11⟩ := S1
        clear hb1 S0 S1 hpl hs24
        go_wp2_with fail
        refine bodyPost_ret (v := dval A) (by simp [results, Tryz.results71, go_sem, r01, r11]) rfl ⟨by rw [HE.out], ?_⟩
        exact ((F1.out.set1 (by omega) _).set1 (by omega) _).to_below (Nat.le_refl _) (fun _ h => h.elim)
end Go.Proofs.YtalnhlebgofiiaaGreatDoor
