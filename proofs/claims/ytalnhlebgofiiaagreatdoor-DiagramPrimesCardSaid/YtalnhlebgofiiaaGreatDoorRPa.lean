import Derived.Test.YtalnhlebgofiiaaGreatDoorStep
import Derived.Test.YtalnhlebgofiiaaGreatDoorRefH
import Derived.Deep.RegionHeld3
import Derived.Laws.BitsAllLaws
namespace Go.Proofs.YtalnhlebgofiiaaGreatDoor
open Go.RowKit

/-- a list of cubes, read off memory -/
def PRow (w : World) (v : Value) (L : List (Nat × Nat)) : Prop := ∃ (a : Option Addr) (cap : Nat), v = .slice a L.length cap ∧ ∀ (k : Nat) (x : Nat × Nat), L[k]? = some x → ∃ b, a = some ⟨b, 0, none⟩ ∧ w.cell? ⟨b, k * 2, none⟩ = some (.int .u32 (x.1 : Int)) ∧ w.cell? ⟨b, k * 2 + 1, none⟩ = some (.int .u32 (x.2 : Int))
theorem PRow.kept {w w' : World} {v : Value} {L : List (Nat × Nat)} (h : PRow w v L) (f : Fr nob w w') : PRow w' v L := by
  obtain ⟨a, cap, rfl, hc⟩ := h
  refine ⟨a, cap, rfl, fun k d hd => ?_⟩
  obtain ⟨b, h1, h2, h3⟩ := hc k d hd
  exact ⟨b, h1, f.cell' h2 (fun h => h), f.cell' h3 (fun h => h)⟩
theorem PRow.keptS {S : Nat → Prop} {w w' : World} {b n cap : Nat} {L : List (Nat × Nat)} (h : PRow w (.slice (some ⟨b, 0, none⟩) n cap) L) (f : Fr S w w') (hS : ¬ S b) : PRow w' (.slice (some ⟨b, 0, none⟩) n cap) L := by
  obtain ⟨a, cap', e, hc⟩ := h
  refine ⟨a, cap', e, fun k d hd => ?_⟩
  obtain ⟨b', h1, h2, h3⟩ := hc k d hd
  cases e
  obtain rfl : b = b' := by simpa using h1
  exact ⟨b, rfl, f.cell h2 hS, f.cell h3 hS⟩
theorem PRow.form {w : World} {v : Value} {L : List (Nat × Nat)} (h : PRow w v L) : ∃ a cap, v = .slice a L.length cap := by
  obtain ⟨a, cap, e, _⟩ := h; exact ⟨a, cap, e⟩
theorem PRow.at {w : World} {a : Option Addr} {n cap : Nat} {L : List (Nat × Nat)} (h : PRow w (.slice a n cap) L) {k : Nat} {x : Nat × Nat} (hd : L[k]? = some x) : ∃ b, a = some ⟨b, 0, none⟩ ∧ w.cell? ⟨b, k * 2, none⟩ = some (.int .u32 (x.1 : Int)) ∧ w.cell? ⟨b, k * 2 + 1, none⟩ = some (.int .u32 (x.2 : Int)) := by
  obtain ⟨a', cap', e, hc⟩ := h
  cases e
  exact hc k x hd
end Go.Proofs.YtalnhlebgofiiaaGreatDoor
namespace Go.Proofs.YtalnhlebgofiiaaGreatDoor
open Go.RowKit
open Bd

/-! inside of the reference: does a cube lie in a set? -/
set_option maxRecDepth 100000 in
set_option maxHeartbeats 4000000 in
theorem RInside_any (V : List Nat) (f : Cfg → Bool) (on off : Nat) (hon : on < 2 ^ 32) (hoff : off < 2 ^ 32) (va : Value) (w : World) (hsa : RSet w va V f) : Calls Tryz.prog 54 #[va, .agg #[.int .u32 (on : Int), .int .u32 (off : Int)]] w fun e w' => ∃ b : Bool, e = .returned (.bool b) ∧ (b = true ↔ ∀ c, cubeF on off c = true → f c = true) ∧ Below w.heap.size w w' := by
  obtain ⟨qa, na, ca, ua, ma, da, rfl⟩ := hsa.form
  obtain ⟨a0, a1⟩ := two_cells' w (.slice qa na ca) (.slice ua ma da) 36
  obtain ⟨b0, b1⟩ := two_cells' (w.alloc (.cells #[.slice qa na ca, .slice ua ma da] 36)) (.int .u32 (on : Int)) (.int .u32 (off : Int)) 49
  replace a0 := cell_alloc_l a0 (.cells #[.int .u32 (on : Int), .int .u32 (off : Int)] 49)
  replace a1 := cell_alloc_l a1 (.cells #[.int .u32 (on : Int), .int .u32 (off : Int)] 49)
  have fr : Fr nob w ((w.alloc (.cells #[.slice qa na ca, .slice ua ma da] 36)).alloc (.cells #[.int .u32 (on : Int), .int .u32 (off : Int)] 49)) := ((Fr.refl nob w).alloc _).alloc _
  simp only [World.size_alloc] at a0 a1 b0 b1
  go_enter Tryz.func54, Tryz.ntmps54
  go_wp2_with fail
  generalize (w.alloc (.cells #[.slice qa na ca, .slice ua ma da] 36)).alloc (.cells #[.int .u32 (on : Int), .int .u32 (off : Int)] 49) = W0 at *
  have hA : ∀ W, Fr nob W0 W → RSet W (.agg #[.slice qa na ca, .slice ua ma da]) V f := fun W h => (hsa.kept fr).kept h
  have F : Fr nob W0 W0.drew := (Fr.refl nob W0).drew
  clear hsa
  go_region_held3 (fun w' => (w'.cell? ⟨w.heap.size, 0, none⟩ = some (.slice qa na ca) ∧ w'.cell? ⟨w.heap.size, 1, none⟩ = some (.slice ua ma da)) ∧ (w'.cell? ⟨w.heap.size + 1, 0, none⟩ = some (.int .u32 (on : Int)) ∧ w'.cell? ⟨w.heap.size + 1, 1, none⟩ = some (.int .u32 (off : Int))))
    (first
      | (go_keep; done)
      | exact ⟨⟨F.cell' a0 (fun h => h), F.cell' a1 (fun h => h)⟩, ⟨F.cell' b0 (fun h => h), F.cell' b1 (fun h => h)⟩⟩
      | (go_split_ands; exact ⟨⟨F.cell' a0 (fun h => h), F.cell' a1 (fun h => h)⟩, ⟨F.cell' b0 (fun h => h), F.cell' b1 (fun h => h)⟩⟩))
    (first
            | (go_at_call 78
               (with_reducible refine (RCube_any on off hon hoff _).mono ?_)
               rintro e wP ⟨vP, rfl, hsP, hbP⟩
               have fP := (Fr.refl nob _).below hbP
               replace F := F.trans fP (fun _ _ h => h)
               try replace GN := GN.trans fP (fun _ _ h => h)
               have GP := Fr.refl nob wP
               have hP := fun W (h : Fr nob wP W) => hsP.kept h
               clear hbP fP hsP)
            | (go_at_call 79
               (with_reducible refine (RNot_any V f (.agg #[.slice qa na ca, .slice ua ma da]) _ (hA _ F)).mono ?_)
               rintro e wN ⟨vN, rfl, hsN, hbN⟩
               have fN := (Fr.refl nob _).below hbN
               replace F := F.trans fN (fun _ _ h => h)
               try replace GP := GP.trans fN (fun _ _ h => h)
               have GN := Fr.refl nob wN
               have hN := fun W (h : Fr nob wN W) => hsN.kept h
               clear hbN fN hsN)
            | (go_at_call 80
               (with_reducible refine (RAnd_any (featL (on ||| off)) V (cubeF on off) (fun c => !f c) vP vN _ (hP _ GP) (hN _ GN)).mono ?_)
               rintro e wQ ⟨vQ, rfl, hsQ, hbQ⟩
               have fQ := (Fr.refl nob _).below hbQ
               replace F := F.trans fQ (fun _ _ h => h)
               have GQ := Fr.refl nob wQ
               have hQ := fun W (h : Fr nob wQ W) => hsQ.kept h
               have hrQ := hsQ.1
               have hfQ := hsQ.2.1
               clear hbQ fQ hsQ)
            | (go_at_call 103
               (with_reducible refine (REmpty_any (joinL (featL (on ||| off)) V) (fun c => jnB 0 (cubeF on off c) (!f c)) vQ _ (hQ _ GQ)).mono ?_)
               rintro e wE ⟨rfl, hbE⟩
               have fE := (Fr.refl nob _).below hbE
               replace F := F.trans fE (fun _ _ h => h)))
  all_goals
    have HF := Lib.hid (fr.trans F (fun _ _ h => h))
    have HD := Lib.hid (empty_dec (V := joinL (featL (on ||| off)) V) (f := fun c => jnB 0 (cubeF on off c) (!f c)) hrQ hfQ)
    clear hA hP hN hQ
    generalize many (tab (joinL (featL (on ||| off)) V) (fun c => jnB 0 (cubeF on off c) (!f c))) = x at *
    go_wp2_with fail
    refine bodyPost_ret (v := .bool (decide (x = 0))) (by simp [results, Tryz.results54, go_sem]) rfl ⟨_, rfl, ?_, HF.out.to_below (Nat.le_refl _) (fun _ h => h.elim)⟩
    rw [decide_eq_true_iff, HD.out]
    refine forall_congr' fun c => ?_
    cases cubeF on off c <;> cases f c <;> simp [jnB]
end Go.Proofs.YtalnhlebgofiiaaGreatDoor
namespace Go.Proofs.YtalnhlebgofiiaaGreatDoor
open Go.RowKit
open Bd

/-- as the reference orders cubes -/
def befR (x y : Nat × Nat) : Bool :=
  if (featL (x.1 ||| x.2)).length = (featL (y.1 ||| y.2)).length then (if x.1 = y.1 then decide (x.2 < y.2) else decide (x.1 < y.1)) else decide ((featL (x.1 ||| x.2)).length < (featL (y.1 ||| y.2)).length)
theorem feat_slice (f : Nat) (hf : f < 2 ^ 32) (n : Nat) (hn : (featL f).length = n) (w : World) : Calls Tryz.prog 21 #[.int .u32 (f : Int)] w fun e w' => ∃ a cap, e = .returned (.slice a n cap) ∧ Below w.heap.size w w' := by
  refine (Features_any f hf w).mono ?_
  rintro e w' ⟨v, rfl, hs, hb⟩
  obtain ⟨a, cap, h⟩ := hs.form
  rw [List.length_map, hn] at h
  exact ⟨a, cap, by rw [h], hb⟩

set_option maxRecDepth 100000 in
set_option maxHeartbeats 4000000 in
theorem before_any (x1 x2 y1 y2 : Nat) (hx1 : x1 < 2 ^ 32) (hx2 : x2 < 2 ^ 32) (hy1 : y1 < 2 ^ 32) (hy2 : y2 < 2 ^ 32) (w : World) : Calls Tryz.prog 104 #[.agg #[.int .u32 (x1 : Int), .int .u32 (x2 : Int)], .agg #[.int .u32 (y1 : Int), .int .u32 (y2 : Int)]] w fun e w' => e = .returned (.bool (befR (x1, x2) (y1, y2))) ∧ Below w.heap.size w w' := by
  have ex : bits BinOp.or IntKind.u32 (x1 : Int) (x2 : Int) = ((x1 ||| x2 : Nat) : Int) := u32_or_nat _ _ hx1 hx2
  have ey : bits BinOp.or IntKind.u32 (y1 : Int) (y2 : Int) = ((y1 ||| y2 : Nat) : Int) := u32_or_nat _ _ hy1 hy2
  have hxo : x1 ||| x2 < 2 ^ 32 := Nat.or_lt_two_pow hx1 hx2
  have hyo : y1 ||| y2 < 2 ^ 32 := Nat.or_lt_two_pow hy1 hy2
  obtain ⟨n, hn⟩ : ∃ n, (featL (x1 ||| x2)).length = n := ⟨_, rfl⟩
  obtain ⟨m, hm⟩ : ∃ m, (featL (y1 ||| y2)).length = m := ⟨_, rfl⟩
  have hP : befR (x1, x2) (y1, y2) = if n = m then (if x1 = y1 then decide (x2 < y2) else decide (x1 < y1)) else decide (n < m) := by unfold befR; simp only [hn, hm]
  have hfx := feat_slice (x1 ||| x2) hxo n hn
  have hfy := feat_slice (y1 ||| y2) hyo m hm
  clear hn hm hxo hyo
  rw [hP]
  clear hP
  obtain ⟨r, hr⟩ : ∃ r, (if n = m then (if x1 = y1 then decide (x2 < y2) else decide (x1 < y1)) else decide (n < m)) = r := ⟨_, rfl⟩
  rw [hr]
  have HR := Lib.hid hr
  clear hr
  obtain ⟨a0, a1⟩ := two_cells' w (.int .u32 (x1 : Int)) (.int .u32 (x2 : Int)) 49
  obtain ⟨b0, b1⟩ := two_cells' (w.alloc (.cells #[.int .u32 (x1 : Int), .int .u32 (x2 : Int)] 49)) (.int .u32 (y1 : Int)) (.int .u32 (y2 : Int)) 49
  replace a0 := cell_alloc_l a0 (.cells #[.int .u32 (y1 : Int), .int .u32 (y2 : Int)] 49)
  replace a1 := cell_alloc_l a1 (.cells #[.int .u32 (y1 : Int), .int .u32 (y2 : Int)] 49)
  have fr : Fr nob w ((w.alloc (.cells #[.int .u32 (x1 : Int), .int .u32 (x2 : Int)] 49)).alloc (.cells #[.int .u32 (y1 : Int), .int .u32 (y2 : Int)] 49)) := ((Fr.refl nob w).alloc _).alloc _
  simp only [World.size_alloc] at a0 a1 b0 b1
  go_enter Tryz.func104, Tryz.ntmps104
  go_wp2_with fail
  generalize (w.alloc (.cells #[.int .u32 (x1 : Int), .int .u32 (x2 : Int)] 49)).alloc (.cells #[.int .u32 (y1 : Int), .int .u32 (y2 : Int)] 49) = W0 at *
  have F : Fr nob W0 W0.drew := (Fr.refl nob W0).drew
  go_region_held3 (fun w' => (w'.cell? ⟨w.heap.size, 0, none⟩ = some (.int .u32 (x1 : Int)) ∧ w'.cell? ⟨w.heap.size, 1, none⟩ = some (.int .u32 (x2 : Int))) ∧ (w'.cell? ⟨w.heap.size + 1, 0, none⟩ = some (.int .u32 (y1 : Int)) ∧ w'.cell? ⟨w.heap.size + 1, 1, none⟩ = some (.int .u32 (y2 : Int))))
    (first
      | (go_keep; done)
      | exact ⟨⟨F.cell' a0 (fun h => h), F.cell' a1 (fun h => h)⟩, ⟨F.cell' b0 (fun h => h), F.cell' b1 (fun h => h)⟩⟩
      | (go_split_ands; exact ⟨⟨F.cell' a0 (fun h => h), F.cell' a1 (fun h => h)⟩, ⟨F.cell' b0 (fun h => h), F.cell' b1 (fun h => h)⟩⟩))
    (first
            | (go_at_call 21
               (with_reducible refine (hfx _).mono ?_)
               rintro e wP ⟨qx, cx, rfl, hbP⟩
               have fP := (Fr.refl nob _).below hbP
               replace F := F.trans fP (fun _ _ h => h)
               clear hbP fP)
            | (go_at_call 21
               (with_reducible refine (hfy _).mono ?_)
               rintro e wQ ⟨qy, cy, rfl, hbQ⟩
               have fQ := (Fr.refl nob _).below hbQ
               replace F := F.trans fQ (fun _ _ h => h)
               clear hbQ fQ))
  all_goals
    have y0 := F.cell' a0 (fun h => h)
    have y1' := F.cell' a1 (fun h => h)
    have z0 := F.cell' b0 (fun h => h)
    have z1 := F.cell' b1 (fun h => h)
    have HF := Lib.hid (fr.trans F (fun _ _ h => h))
    clear F fr a0 a1 b0 b1 hfx hfy
    by_cases hnm : n = m
    · have d1 : ((n : Int) != (m : Int)) = false := by simp; omega
      have d1' : (n != m) = false := by simp; omega
      by_cases hxy : x1 = y1
      · have d2 : ((x1 : Int) != (y1 : Int)) = false := by simp; omega
        have d2' : (x1 != y1) = false := by simp; omega
        have hr := HR.out
        rw [if_pos hnm, if_pos hxy] at hr
        have d3 : decide ((x2 : Int) < (y2 : Int)) = r := by rw [← hr]; simp
        have d3' : decide (x2 < y2) = r := hr
        clear hr hnm hxy
        go_wp2_with fail
        exact bodyPost_ret (v := .bool r) (by simp [results, Tryz.results104, go_sem]) rfl ⟨rfl, HF.out.to_below (Nat.le_refl _) (fun _ h => h.elim)⟩
      · have d2 : ((x1 : Int) != (y1 : Int)) = true := by simp; omega
        have d2' : (x1 != y1) = true := by simp; omega
        have hr := HR.out
        rw [if_pos hnm, if_neg hxy] at hr
        have d3 : decide ((x1 : Int) < (y1 : Int)) = r := by rw [← hr]; simp
        have d3' : decide (x1 < y1) = r := hr
        clear hr hnm hxy
        go_wp2_with fail
        exact bodyPost_ret (v := .bool r) (by simp [results, Tryz.results104, go_sem]) rfl ⟨rfl, HF.out.to_below (Nat.le_refl _) (fun _ h => h.elim)⟩
    · have d1 : ((n : Int) != (m : Int)) = true := by simp; omega
      have d1' : (n != m) = true := by simp; omega
      have hr := HR.out
      rw [if_neg hnm] at hr
      have d3 : decide ((n : Int) < (m : Int)) = r := by rw [← hr]; simp
      have d3' : decide (n < m) = r := hr
      clear hr hnm
      go_wp2_with fail
      exact bodyPost_ret (v := .bool r) (by simp [results, Tryz.results104, go_sem]) rfl ⟨rfl, HF.out.to_below (Nat.le_refl _) (fun _ h => h.elim)⟩
end Go.Proofs.YtalnhlebgofiiaaGreatDoor
