import Derived.Test.YtiainlccodnlmaaGreatDoorCovp
import Derived.Test.YtiainlccodnlmaaGreatDoorMake
import Derived.Test.YtiainlccodnlmaaGreatDoorNods
import Derived.Test.YtiainlccodnlmaaGreatDoorWake
namespace Go.Proofs.YtiainlccodnlmaaGreatDoor
open Go.RowKit
open Bd

set_option maxRecDepth 100000 in
set_option maxHeartbeats 1000000 in
/-- a set is equal to itself, by Same and by its nodes -/
theorem equal_any (A : B) (hA : A.ok 0) (w : World) : Calls Tryz.prog 28 #[dval A, dval A] w fun e w' => e = .returned (.bool true) ∧ Below w.heap.size w w' := by
  have hs := (small_li hA).1
  have hN := Nodes_any A hA
  have hS := Same_any A A hA hA
  rw [decide_eq_true rfl] at hS
  have hM := lsame_any (nodD A) (by rw [nodD_len]; omega)
  have fr : Fr nob w ((w.alloc (.cells #[.int .u32 (place (li A) A : Int), .string ⟨(code (rows (li A))).toArray⟩] 32)).alloc (.cells #[.int .u32 (place (li A) A : Int), .string ⟨(code (rows (li A))).toArray⟩] 32)) := ((Fr.refl nob w).alloc _).alloc _
  have B1 := (Box2.new w (.int .u32 (place (li A) A : Int)) (.string ⟨(code (rows (li A))).toArray⟩) 32).kept (S := nob) ((Fr.refl nob _).alloc (.cells #[.int .u32 (place (li A) A : Int), .string ⟨(code (rows (li A))).toArray⟩] 32)) (fun h => h)
  have B2 := Box2.new (w.alloc (.cells #[.int .u32 (place (li A) A : Int), .string ⟨(code (rows (li A))).toArray⟩] 32)) (.int .u32 (place (li A) A : Int)) (.string ⟨(code (rows (li A))).toArray⟩) 32
  simp only [World.size_alloc] at B2
  have ⟨a0, a1, _⟩ := B1
  have ⟨b0, b1, _⟩ := B2
  clear B1 B2 hs
  go_enter Tryz.func28, Tryz.ntmps28
  go_upto_region 1 with fail
  generalize (w.alloc (.cells #[.int .u32 (place (li A) A : Int), .string ⟨(code (rows (li A))).toArray⟩] 32)).alloc (.cells #[.int .u32 (place (li A) A : Int), .string ⟨(code (rows (li A))).toArray⟩] 32) = W at *
  go_wp2_with fail
  refine (hN _).mono ?_
  rintro e w1 ⟨v1, rfl, hr1, hb1⟩
  have f1 := (Fr.refl nob W).below hb1
  have y0 := f1.cell b0 (fun h => h)
  have y1 := f1.cell b1 (fun h => h)
  clear hb1
  go_wp2_with fail
  refine (hN _).mono ?_
  rintro e w2 ⟨v2, rfl, hr2, hb2⟩
  have g2 := (Fr.refl nob w1).below hb2
  have f2 := f1.below hb2
  have x0 := f2.cell a0 (fun h => h)
  have x1 := f2.cell a1 (fun h => h)
  have z0 := f2.cell b0 (fun h => h)
  have z1 := f2.cell b1 (fun h => h)
  have hr1' := hr1.kept g2
  clear hb2 y0 y1 f1 hr1
  go_wp2_with fail
  refine (hS _).mono ?_
  rintro e w3 ⟨rfl, hb3⟩
  have g3 := (Fr.refl nob w2).below hb3
  have f3 := f2.below hb3
  have R1 := hr1'.kept g3
  have R2 := hr2.kept g3
  clear hb3 hr1' hr2 f2 g3
  go_wp2_with fail
  refine (hM _ _ _ R1 R2).mono ?_
  rintro e w4 ⟨rfl, hb4⟩
  have f4 := f3.below hb4
  go_wp2_with fail
  exact bodyPost_ret (v := .bool true) (by simp [results, Tryz.results28, go_sem]) rfl ⟨rfl, (fr.trans f4 (fun _ _ h => h)).to_below (Nat.le_refl _) (fun _ h => h.elim)⟩

/-- a list of cubes, read off memory -/
def PRow (w : World) (v : Value) (L : List (Nat × Nat)) : Prop := ∃ (a : Option Addr) (cap : Nat), v = .slice a L.length cap ∧ ∀ (k : Nat) (x : Nat × Nat), L[k]? = some x → ∃ b, a = some ⟨b, 0, none⟩ ∧ w.cell? ⟨b, k * 2, none⟩ = some (.int .u32 (x.1 : Int)) ∧ w.cell? ⟨b, k * 2 + 1, none⟩ = some (.int .u32 (x.2 : Int))
theorem PRow.kept {w w' : World} {v : Value} {L : List (Nat × Nat)} (h : PRow w v L) (f : Fr nob w w') : PRow w' v L := by
  obtain ⟨a, cap, rfl, hc⟩ := h
  refine ⟨a, cap, rfl, fun k d hd => ?_⟩
  obtain ⟨b, h1, h2, h3⟩ := hc k d hd
  exact ⟨b, h1, f.cell' h2 (fun h => h), f.cell' h3 (fun h => h)⟩
theorem PRow.keptS {S : Nat → Prop} {w w' : World} {b n cap : Nat} {L : List (Nat × Nat)} (h : PRow w (.slice (some ⟨b, 0, none⟩) n cap) L) (f : Fr S w w') (hS : ¬ S b) : PRow w' (.slice (some ⟨b, 0, none⟩) n cap) L := by
  obtain ⟨a, cap', e, hc⟩ := h
  refine ⟨a, cap', e, fun k d hd => ?_⟩
  obtain ⟨b', h1, h2, h3⟩ := hc k d hd
  cases e
  obtain rfl : b = b' := by simpa using h1
  exact ⟨b, rfl, f.cell h2 hS, f.cell h3 hS⟩
theorem PRow.form {w : World} {v : Value} {L : List (Nat × Nat)} (h : PRow w v L) : ∃ a cap, v = .slice a L.length cap := by
  obtain ⟨a, cap, e, _⟩ := h; exact ⟨a, cap, e⟩
theorem PRow.at {w : World} {a : Option Addr} {n cap : Nat} {L : List (Nat × Nat)} (h : PRow w (.slice a n cap) L) {k : Nat} {x : Nat × Nat} (hd : L[k]? = some x) : ∃ b, a = some ⟨b, 0, none⟩ ∧ w.cell? ⟨b, k * 2, none⟩ = some (.int .u32 (x.1 : Int)) ∧ w.cell? ⟨b, k * 2 + 1, none⟩ = some (.int .u32 (x.2 : Int)) := by
  obtain ⟨a', cap', e, hc⟩ := h
  cases e
  exact hc k x hd
/-- the union of the first cubes -/
noncomputable def unN (Lp : List (Nat × Nat)) (i : Nat) : B := orL ((Lp.take i).map fun x => cubeB x.1 x.2)
theorem unN_succ {Lp : List (Nat × Nat)} {i : Nat} {x : Nat × Nat} (h : Lp[i]? = some x) : unN Lp (i + 1) = ite (unN Lp i) .T (cubeB x.1 x.2) := by
  unfold unN
  rw [List.take_add_one, h, List.map_append]
  exact orL_snoc _ _
theorem ok_unN (Lp : List (Nat × Nat)) (i : Nat) : (unN Lp i).ok 0 := ok_orL _

set_option maxRecDepth 100000 in
set_option maxHeartbeats 4000000 in
theorem covers_in (A B1 C1 : B) (hA : A.ok 0) (ok : Bool) (sA nf : Nat) (Lp : List (Nat × Nat)) (hLp : nf ≤ 8 → Lp.length ≤ 531441) (v : Value) (w : World)
    (c3 : Calls Tryz.prog 20 #[v] w fun e w' => e = .returned (.tuple #[dval A, dval B1, dval C1, .bool ok]) ∧ Below w.heap.size w w')
    (cSu : ∀ W, Calls Tryz.prog 22 #[dval A] W fun e w' => e = .returned (.int .u32 (sA : Int)) ∧ Below W.heap.size W w')
    (cFe : ∀ W, Calls Tryz.prog 21 #[.int .u32 (sA : Int)] W fun e w' => ∃ v, e = .returned v ∧ (∃ a cap, v = .slice a nf cap) ∧ Below W.heap.size W w')
    (cPr : nf ≤ 8 → ∀ W, Fr nob w W → Calls Tryz.prog 18 #[dval A] W fun e w' => ∃ lv, e = .returned (.tuple #[lv, .int .i64 0]) ∧ PRow w' lv Lp ∧ Below W.heap.size W w')
    (hlt : ∀ (i : Nat) (x : Nat × Nat), Lp[i]? = some x → x.1 < 2 ^ 32 ∧ x.2 < 2 ^ 32)
    (hin : ∀ (i : Nat) (x : Nat × Nat), Lp[i]? = some x → cubeB x.1 x.2 ≠ .F ∧ ite (cubeB x.1 x.2) A .T = .T)
    (hap : ∀ (i k : Nat) (x y : Nat × Nat), Lp[i]? = some x → Lp[k]? = some y → k ≠ i → ite (cubeB x.1 x.2) (cubeB y.1 y.2) .T ≠ .T)
    (hun : unN Lp Lp.length = A) :
    Calls Tryz.prog 5 #[v] w fun e w' => e = .returned (.bool true) ∧ Below w.heap.size w w' := by
  go_enter Tryz.func5, Tryz.ntmps5
  go_wp2_with fail
  refine c3.mono ?_
  rintro e w1 ⟨rfl, hb1⟩
  have fr1 := (Fr.refl nob w).below hb1
  clear hb1 c3
  have fW := ((fr1.alloc (.cells #[.int .u32 (place (li A) A : Int), .string ⟨(code (rows (li A))).toArray⟩] 32)).alloc (.cells #[.int .u32 (place (li B1) B1 : Int), .string ⟨(code (rows (li B1))).toArray⟩] 32)).alloc (.cells #[.int .u32 (place (li C1) C1 : Int), .string ⟨(code (rows (li C1))).toArray⟩] 32)
  obtain ⟨D0, -, -⟩ := three_boxes w1 (.int .u32 (place (li A) A : Int)) (.string ⟨(code (rows (li A))).toArray⟩) (.int .u32 (place (li B1) B1 : Int)) (.string ⟨(code (rows (li B1))).toArray⟩) (.int .u32 (place (li C1) C1 : Int)) (.string ⟨(code (rows (li C1))).toArray⟩) 32
  have HF := Lib.hid fW
  have HD := Lib.hid D0
  have HSU := Lib.hid cSu
  have HFE := Lib.hid cFe
  have HPR := Lib.hid cPr
  have HIN := Lib.hid hin
  have HAP := Lib.hid hap
  have HUN := Lib.hid hun
  have HLT := Lib.hid hlt
  have HLP := Lib.hid hLp
  clear cSu cFe cPr hin hap hun hlt fW D0 hLp
  cases ok with
  | false =>
    go_wp2_with fail
    refine (wakes_any _).mono ?_
    rintro e w9 ⟨rfl, hb9⟩
    have HF9 := Lib.hid (HF.out.below hb9)
    clear hb9
    go_wp2_with fail
    exact bodyPost_ret (v := .bool true) (by simp [results, Tryz.results5, go_sem]) rfl ⟨rfl, HF9.out.to_below (Nat.le_refl _) (fun _ h => h.elim)⟩
  | true =>
    go_upto_region 2 with fail
    generalize ((w1.alloc (.cells #[.int .u32 (place (li A) A : Int), .string ⟨(code (rows (li A))).toArray⟩] 32)).alloc (.cells #[.int .u32 (place (li B1) B1 : Int), .string ⟨(code (rows (li B1))).toArray⟩] 32)).alloc (.cells #[.int .u32 (place (li C1) C1 : Int), .string ⟨(code (rows (li C1))).toArray⟩] 32) = W0 at *
    generalize w1.heap.size = g at *
    have a0 := HD.out.c0
    have a1 := HD.out.c1
    clear fr1
    go_wp2_with fail
    refine (HSU.out _).mono ?_
    rintro e w2 ⟨rfl, hb2⟩
    go_wp2_with fail
    refine (HFE.out _).mono ?_
    rintro e w3 ⟨_, rfl, ⟨af, cf, rfl⟩, hb3⟩
    have f := ((Fr.refl nob W0).below hb2).below hb3
    have HD3 := Lib.hid (HD.out.kept f (fun h => h))
    have HF3 := Lib.hid (HF.out.trans f (fun _ _ h => h))
    clear f hb2 hb3 HD HF a0 a1 HSU HFE
    have HF := HF3
    by_cases hn8 : 8 < nf
    · have d1 : decide (8 < (nf : Int)) = true := by simp; omega
      go_wp2_with fail
      refine (wakes_any _).mono ?_
      rintro e w9 ⟨rfl, hb9⟩
      have HF9 := Lib.hid (HF.out.below hb9)
      clear hb9
      go_wp2_with fail
      exact bodyPost_ret (v := .bool true) (by simp [results, Tryz.results5, go_sem]) rfl ⟨rfl, HF9.out.to_below (Nat.le_refl _) (fun _ h => h.elim)⟩
    · have d1 : decide (8 < (nf : Int)) = false := by simp; omega
      have hLp := HLP.out (by omega)
      have a0 := HD3.out.c0
      have a1 := HD3.out.c1
      go_wp2_with fail
      refine (HPR.out (by omega) _ HF.out).mono ?_
      rintro e w4 ⟨lv, rfl, hrow, hb4⟩
      obtain ⟨ap, cp, rfl⟩ := hrow.form
      have f4 := (Fr.refl nob w3).below hb4
      have HD4 := Lib.hid (HD3.out.kept f4 (fun h => h))
      have HF4 := Lib.hid (HF.out.trans f4 (fun _ _ h => h))
      have HR4 := Lib.hid hrow
      clear f4 hb4 hrow HD3 HF3 HF a0 a1 HPR
      go_wp2_with fail
      refine (False_any _).mono ?_
      rintro e w5 ⟨rfl, hb5⟩
      have f5 := (Fr.refl nob w4).below hb5
      have HD5 := Lib.hid (HD4.out.kept f5 (fun h => h))
      have HF5 := Lib.hid (HF4.out.trans f5 (fun _ _ h => h))
      have HR5 := Lib.hid (HR4.out.kept f5)
      clear f5 hb5 HD4 HF4 HR4
      go_upto_region 6 with fail
      have N9 := Box2.new w5 (.int .u32 (place (li .F) .F : Int)) (.string ⟨(code (rows (li .F))).toArray⟩) 32
      have f6 := (Fr.refl nob w5).alloc (.cells #[.int .u32 (place (li B.F) B.F : Int), .string ⟨(code (rows (li B.F))).toArray⟩] 32)
      have HN9 := Lib.hid N9
      have HGG := Lib.hid (show g ≠ w5.heap.size by have := HD5.out.lt; omega)
      have HW9 := Lib.hid HF5.out.size
      have HRB := Lib.hid (fun (k : Nat) (x : Nat × Nat) (b : Nat) (hk : Lp[k]? = some x) (hb : ap = some ⟨b, 0, none⟩) => show b < w5.heap.size by
        obtain ⟨b', hb', h1, _⟩ := HR5.out.at hk
        rw [hb] at hb'
        obtain rfl : b = b' := by simpa using hb'
        exact lt_of_cell h1)
      have HF6 := Lib.hid (HF5.out.trans f6 (fun _ _ h => h))
      have HD6 := Lib.hid (HD5.out.kept f6 (fun h => h))
      have HR6 := Lib.hid (HR5.out.kept f6)
      clear N9 f6 HF5 HD5 HR5
      generalize w5.alloc (.cells #[.int .u32 (place (li .F) .F : Int), .string ⟨(code (rows (li .F))).toArray⟩] 32) = w6 at *
      generalize w5.heap.size = g9 at *
      go_wp2_with fail
      go_loopw [10] (fun v wr => ∃ i : Nat, i ≤ Lp.length ∧ v = .int .i64 (i : Int) ∧ Box2 wr g (.int .u32 (place (li A) A : Int)) (.string ⟨(code (rows (li A))).toArray⟩) ∧ Box2 wr g9 (.int .u32 (place (li (unN Lp i)) (unN Lp i) : Int)) (.string ⟨(code (rows (li (unN Lp i)))).toArray⟩) ∧ PRow wr (.slice ap Lp.length cp) Lp ∧ Fr nob w wr) (fun v _ => Lp.length - (intOf v).toNat)
      case atStart => exact ⟨0, Nat.zero_le _, rfl, HD6.out, HN9.out, HR6.out, HF6.out⟩
      case round =>
        clear HN9 HF6 HD6 HR6
        obtain ⟨i, hi, rfl, hD, h9, hR, hF⟩ := hrel
        have HDr := Lib.hid hD
        have H9r := Lib.hid h9
        have HRr := Lib.hid hR
        have HFr := Lib.hid hF
        clear hD h9 hR hF
        by_cases hil : i < Lp.length
        · have d2 : decide ((i : Int) < (Lp.length : Int)) = true := by simp; omega
          have d2' : decide (i < Lp.length) = true := by simp; omega
          obtain ⟨x, hx⟩ : ∃ x, Lp[i]? = some x := ⟨Lp[i], List.getElem?_eq_getElem hil⟩
          obtain ⟨b, hbe, p0, p1⟩ := HRr.out.at hx
          have hb9 := HRB.out i x b hx hbe
          subst hbe
          obtain ⟨hx1, hx2⟩ := HLT.out i x hx
          obtain ⟨hcF, hcA⟩ := HIN.out i x hx
          have HXI := Lib.hid hx
          have HCF := Lib.hid hcF
          have HCA := Lib.hid hcA
          clear hx hcF hcA
          go_wp2_with fail
          clear d2 d2'
          refine wp_region_grow' 12 98 (fun _ => #[.int .u32 0, .string ⟨#[]⟩]) [32] (by kernel_rfl) (by kernel_rfl) rfl rfl (by intro T h w; simp at h; subst h; rfl) ?_
          simp only [List.take_succ_cons, List.take_zero]
          refine grow_step (v := .slice (some ⟨b, 0, none⟩) Lp.length cp) rfl rfl ?s1 ?_
          case s1 =>
            intro w' hw'
            clear hw'
            refine growAt_value ?_
            go_simp
            try rfl
          simp only [Act.put, List.setIfInBounds_toArray, List.set_cons_zero, List.set_cons_succ]
          refine grow_step (v := .int .i64 (i : Int)) rfl rfl ?s2 ?_
          case s2 =>
            intro w' hw'
            clear hw'
            refine growAt_value ?_
            go_simp
            try rfl
          simp only [Act.put, List.setIfInBounds_toArray, List.set_cons_zero, List.set_cons_succ]
          refine grow_step (v := .pointer (some ⟨b, i * 2, none⟩)) rfl rfl ?s3 ?_
          case s3 =>
            intro w' hw'
            clear hw'
            refine growAt_value ?_
            go_simp
            try rfl
          simp only [Act.put, List.setIfInBounds_toArray, List.set_cons_zero, List.set_cons_succ]
          refine grow_step (v := .pointer (some ⟨b, i * 2, none⟩)) rfl rfl ?s4 ?_
          case s4 =>
            intro w' hw'
            clear hw'
            refine growAt_value ?_
            go_simp
            try rfl
          simp only [Act.put, List.setIfInBounds_toArray, List.set_cons_zero, List.set_cons_succ]
          refine grow_step (v := .int .u32 (x.1 : Int)) rfl rfl ?s5 ?_
          case s5 =>
            intro w' hw'
            have y := hw'.cell p0 (fun h => h)
            clear hw'
            refine growAt_value ?_
            go_simp
            try rfl
          simp only [Act.put, List.setIfInBounds_toArray, List.set_cons_zero, List.set_cons_succ]
          refine grow_step (v := .slice (some ⟨b, 0, none⟩) Lp.length cp) rfl rfl ?s6 ?_
          case s6 =>
            intro w' hw'
            clear hw'
            refine growAt_value ?_
            go_simp
            try rfl
          simp only [Act.put, List.setIfInBounds_toArray, List.set_cons_zero, List.set_cons_succ]
          refine grow_step (v := .int .i64 (i : Int)) rfl rfl ?s7 ?_
          case s7 =>
            intro w' hw'
            clear hw'
            refine growAt_value ?_
            go_simp
            try rfl
          simp only [Act.put, List.setIfInBounds_toArray, List.set_cons_zero, List.set_cons_succ]
          refine grow_step (v := .pointer (some ⟨b, i * 2, none⟩)) rfl rfl ?s8 ?_
          case s8 =>
            intro w' hw'
            clear hw'
            refine growAt_value ?_
            go_simp
            try rfl
          simp only [Act.put, List.setIfInBounds_toArray, List.set_cons_zero, List.set_cons_succ]
          refine grow_step (v := .pointer (some ⟨b, i * 2 + 1, none⟩)) rfl rfl ?s9 ?_
          case s9 =>
            intro w' hw'
            clear hw'
            refine growAt_value ?_
            go_simp
            try rfl
          simp only [Act.put, List.setIfInBounds_toArray, List.set_cons_zero, List.set_cons_succ]
          refine grow_step (v := .int .u32 (x.2 : Int)) rfl rfl ?s10 ?_
          case s10 =>
            intro w' hw'
            have y := hw'.cell p1 (fun h => h)
            clear hw'
            refine growAt_value ?_
            go_simp
            try rfl
          simp only [Act.put, List.setIfInBounds_toArray, List.set_cons_zero, List.set_cons_succ]
          refine grow_step (v := dval (cubeB x.1 x.2)) rfl rfl ?s11 ?_
          case s11 =>
            intro w' hw'
            refine growAt_call ?_ ((Cube_any x.1 x.2 hx1 hx2 w').mono fun e w'' ⟨he, hb⟩ => ⟨he, (Fr.refl nob _).below hb⟩)
            clear hw'
            go_simp
          simp only [Act.put, List.setIfInBounds_toArray, List.set_cons_zero, List.set_cons_succ]
          refine grow_alloc rfl fun g11 hg11 => ?_
          simp only [Act.put, List.setIfInBounds_toArray, List.set_cons_zero, List.set_cons_succ]
          refine grow_nil ?_
          rintro wA listed fr5 hl hM
          obtain ⟨q11, m1, m2, m3, -⟩ := hM 11 _ 32 11 (by omega) rfl rfl rfl (hl 11 (by omega))
          obtain rfl : g11 = q11 := by simpa using m1
          have G11 := Box2.of_heap m3
          have ⟨u0, u1, uf⟩ := G11
          have uf0 := uf 0
          have uf1 := uf 1
          obtain ⟨H11, F11⟩ := G11.set (.int .u32 (place (li (cubeB x.1 x.2)) (cubeB x.1 x.2) : Int)) (.string ⟨(code (rows (li (cubeB x.1 x.2)))).toArray⟩)
          have K5 := fr5.trans' F11 (T := nob) (fun _ _ h => h) (fun k hk h => by have e : k = g11 := h; omega)
          have HX := Lib.hid H11
          have HK5 := Lib.hid K5
          clear hl hM m1 m2 m3 G11 uf H11 F11 K5 fr5 p0 p1 hx1 hx2
          have HD9 := Lib.hid (HDr.out.kept HK5.out (fun h => h))
          have H99 := Lib.hid (H9r.out.kept HK5.out (fun h => h))
          have HR9 := Lib.hid (HRr.out.kept HK5.out)
          have HF9 := Lib.hid (HFr.out.trans HK5.out (fun _ _ h => h))
          have hng : g11 ≠ g9 := by have := H9r.out.lt; omega
          clear HDr H9r HRr HFr HK5 hg11
          go_upto_region 10 with fail
          generalize ((wA.setCell ⟨g11, 0, none⟩ (.int .u32 (place (li (cubeB x.1 x.2)) (cubeB x.1 x.2) : Int))).setCell ⟨g11, 1, none⟩ (.string ⟨(code (rows (li (cubeB x.1 x.2)))).toArray⟩)) = wB at *
          clear u0 u1 uf0 uf1
          have hokC := ok_cubeB x.1 x.2
          have hsucc := unN_succ HXI.out
          obtain ⟨C, hC⟩ : ∃ C, cubeB x.1 x.2 = C := ⟨_, rfl⟩
          have HXc : Hid (Box2 wB g11 (.int .u32 (place (li C) C : Int)) (.string ⟨(code (rows (li C))).toArray⟩)) := by rw [← hC]; exact HX
          have hemp := Empty_any C
          have hwi := Within_any C A (by rw [← hC]; exact hokC) hA
          have HCe := Lib.hid hC
          rw [← hC, decide_eq_false HCF.out] at hemp
          rw [← hC, decide_eq_true HCA.out] at hwi
          rw [hC] at hemp hwi hsucc hokC ⊢
          have HEM := Lib.hid hemp
          have HWI := Lib.hid hwi
          have HSC := Lib.hid hsucc
          have HOC := Lib.hid hokC
          clear hemp hwi hsucc hC HX HCF HCA hokC
          have x0 := HXc.out.c0
          have x1 := HXc.out.c1
          go_wp2_with fail
          refine (HEM.out _).mono ?_
          rintro e wC ⟨rfl, hbC⟩
          have fC := (Fr.refl nob wB).below hbC
          replace x0 := fC.cell x0 (fun h => h)
          replace x1 := fC.cell x1 (fun h => h)
          have a0 := fC.cell HD9.out.c0 (fun h => h)
          have a1 := fC.cell HD9.out.c1 (fun h => h)
          have HFC := Lib.hid fC
          clear hbC fC
          go_wp2_with fail
          refine (HWI.out _).mono ?_
          rintro e wD ⟨rfl, hbD⟩
          have HFD := Lib.hid (HFC.out.below hbD)
          clear hbD HFC x0 x1 a0 a1
          obtain ⟨wO, rfl⟩ : ∃ z, z = wr := ⟨_, rfl⟩
          go_wp2_with fail
          go_loopw [12] (fun v wr => ∃ k : Nat, k ≤ Lp.length ∧ v = .int .i64 (k : Int) ∧ Fr nob wB wr) (fun v _ => Lp.length - (intOf v).toNat)
          case atStart => exact ⟨0, Nat.zero_le _, rfl, HFD.out⟩
          case round =>
            clear HFD
            obtain ⟨k, hk, rfl, hfq⟩ := hrel
            have HFQ := Lib.hid hfq
            have x0 := hfq.cell HXc.out.c0 (fun h => h)
            have x1 := hfq.cell HXc.out.c1 (fun h => h)
            clear hfq
            by_cases hkl : k < Lp.length
            · have d2 : decide ((k : Int) < (Lp.length : Int)) = true := by simp; omega
              have d2' : decide (k < Lp.length) = true := by simp; omega
              obtain ⟨y, hy⟩ : ∃ y, Lp[k]? = some y := ⟨Lp[k], List.getElem?_eq_getElem hkl⟩
              by_cases hki : k = i
              · have dne : ((k : Int) != (i : Int)) = false := by simp; omega
                have dne' : (k != i) = false := by simp; omega
                have HKI := Lib.hid hki
                clear hki hy
                go_wp2_with fail
                refine wp_region_grow' 17 98 (fun _ => #[]) [] (by kernel_rfl) (by kernel_rfl) rfl rfl (by intro T h; cases h) ?_
                simp only [List.take_succ_cons, List.take_zero]
                refine grow_step (v := .int .i64 (k : Int)) rfl rfl ?s12 ?_
                case s12 =>
                  intro w' hw'
                  clear hw'
                  refine growAt_value ?_
                  go_simp
                  try rfl
                simp only [Act.put, List.setIfInBounds_toArray, List.set_cons_zero, List.set_cons_succ]
                refine grow_step (v := .int .i64 (i : Int)) rfl rfl ?s13 ?_
                case s13 =>
                  intro w' hw'
                  clear hw'
                  refine growAt_value ?_
                  go_simp
                  try rfl
                simp only [Act.put, List.setIfInBounds_toArray, List.set_cons_zero, List.set_cons_succ]
                refine grow_step (v := .bool false) rfl rfl ?s14 ?_
                case s14 =>
                  intro w' hw'
                  clear hw'
                  refine growAt_value ?_
                  go_simp
                  try rfl
                simp only [Act.put, List.setIfInBounds_toArray, List.set_cons_zero, List.set_cons_succ]
                refine grow_step (v := .bool false) rfl rfl ?s15 ?_
                case s15 =>
                  intro w' hw'
                  clear hw'
                  refine growAt_value ?_
                  go_simp
                  try rfl
                simp only [Act.put, List.setIfInBounds_toArray, List.set_cons_zero, List.set_cons_succ]
                refine grow_skip rfl rfl ?_
                simp only [Act.put, List.setIfInBounds_toArray, List.set_cons_zero, List.set_cons_succ]
                refine grow_skip rfl rfl ?_
                simp only [Act.put, List.setIfInBounds_toArray, List.set_cons_zero, List.set_cons_succ]
                refine grow_skip rfl rfl ?_
                simp only [Act.put, List.setIfInBounds_toArray, List.set_cons_zero, List.set_cons_succ]
                refine grow_skip rfl rfl ?_
                simp only [Act.put, List.setIfInBounds_toArray, List.set_cons_zero, List.set_cons_succ]
                refine grow_skip rfl rfl ?_
                simp only [Act.put, List.setIfInBounds_toArray, List.set_cons_zero, List.set_cons_succ]
                refine grow_skip rfl rfl ?_
                simp only [Act.put, List.setIfInBounds_toArray, List.set_cons_zero, List.set_cons_succ]
                refine grow_skip rfl rfl ?_
                simp only [Act.put, List.setIfInBounds_toArray, List.set_cons_zero, List.set_cons_succ]
                refine grow_skip rfl rfl ?_
                simp only [Act.put, List.setIfInBounds_toArray, List.set_cons_zero, List.set_cons_succ]
                refine grow_skip rfl rfl ?_
                simp only [Act.put, List.setIfInBounds_toArray, List.set_cons_zero, List.set_cons_succ]
                refine grow_skip rfl rfl ?_
                simp only [Act.put, List.setIfInBounds_toArray, List.set_cons_zero, List.set_cons_succ]
                refine grow_skip rfl rfl ?_
                simp only [Act.put, List.setIfInBounds_toArray, List.set_cons_zero, List.set_cons_succ]
                refine grow_skip rfl rfl ?_
                simp only [Act.put, List.setIfInBounds_toArray, List.set_cons_zero, List.set_cons_succ]
                refine grow_skip rfl rfl ?_
                simp only [Act.put, List.setIfInBounds_toArray, List.set_cons_zero, List.set_cons_succ]
                refine grow_nil ?_
                rintro w8 listed fr8 - -
                have HFN := Lib.hid (HFQ.out.trans fr8 (fun _ _ h => h))
                clear fr8 HFQ x0 x1
                go_wp2_with fail
                go_roundw
                case rel => exact ⟨k + 1, by omega, by go_num, HFN.out⟩
                case measure => simp [intOf]; omega
              · have dne : ((k : Int) != (i : Int)) = true := by simp; omega
                have dne' : (k != i) = true := by simp; omega
                obtain ⟨b', hbe, p0, p1⟩ := (HR9.out.kept HFQ.out).at hy
                obtain rfl : b = b' := by simpa using hbe
                obtain ⟨hy1, hy2⟩ := HLT.out k y hy
                have hwn := Within_any C (cubeB y.1 y.2) HOC.out (ok_cubeB _ _)
                rw [decide_eq_false (by rw [← HCe.out]; exact HAP.out i k x y HXI.out hy hki)] at hwn
                have HWN := Lib.hid hwn
                clear hki hy hbe hwn
                go_wp2_with fail
                refine wp_region_grow' 17 98 (fun _ => #[]) [] (by kernel_rfl) (by kernel_rfl) rfl rfl (by intro T h; cases h) ?_
                simp only [List.take_succ_cons, List.take_zero]
                refine grow_step (v := .int .i64 (k : Int)) rfl rfl ?s16 ?_
                case s16 =>
                  intro w' hw'
                  clear hw'
                  refine growAt_value ?_
                  go_simp
                  try rfl
                simp only [Act.put, List.setIfInBounds_toArray, List.set_cons_zero, List.set_cons_succ]
                refine grow_step (v := .int .i64 (i : Int)) rfl rfl ?s17 ?_
                case s17 =>
                  intro w' hw'
                  clear hw'
                  refine growAt_value ?_
                  go_simp
                  try rfl
                simp only [Act.put, List.setIfInBounds_toArray, List.set_cons_zero, List.set_cons_succ]
                refine grow_step (v := .bool true) rfl rfl ?s18 ?_
                case s18 =>
                  intro w' hw'
                  clear hw'
                  refine growAt_value ?_
                  go_simp
                  try rfl
                simp only [Act.put, List.setIfInBounds_toArray, List.set_cons_zero, List.set_cons_succ]
                refine grow_step (v := .bool true) rfl rfl ?s19 ?_
                case s19 =>
                  intro w' hw'
                  clear hw'
                  refine growAt_value ?_
                  go_simp
                  try rfl
                simp only [Act.put, List.setIfInBounds_toArray, List.set_cons_zero, List.set_cons_succ]
                refine grow_step (v := dval C) rfl rfl ?s20 ?_
                case s20 =>
                  intro w' hw'
                  have y0 := hw'.cell x0 (fun h => h)
                  have y1 := hw'.cell x1 (fun h => h)
                  clear hw'
                  refine growAt_value ?_
                  go_simp
                  try rfl
                simp only [Act.put, List.setIfInBounds_toArray, List.set_cons_zero, List.set_cons_succ]
                refine grow_step (v := .slice (some ⟨b, 0, none⟩) Lp.length cp) rfl rfl ?s21 ?_
                case s21 =>
                  intro w' hw'
                  clear hw'
                  refine growAt_value ?_
                  go_simp
                  try rfl
                simp only [Act.put, List.setIfInBounds_toArray, List.set_cons_zero, List.set_cons_succ]
                refine grow_step (v := .int .i64 (k : Int)) rfl rfl ?s22 ?_
                case s22 =>
                  intro w' hw'
                  clear hw'
                  refine growAt_value ?_
                  go_simp
                  try rfl
                simp only [Act.put, List.setIfInBounds_toArray, List.set_cons_zero, List.set_cons_succ]
                refine grow_step (v := .pointer (some ⟨b, k * 2, none⟩)) rfl rfl ?s23 ?_
                case s23 =>
                  intro w' hw'
                  clear hw'
                  refine growAt_value ?_
                  go_simp
                  try rfl
                simp only [Act.put, List.setIfInBounds_toArray, List.set_cons_zero, List.set_cons_succ]
                refine grow_step (v := .pointer (some ⟨b, k * 2, none⟩)) rfl rfl ?s24 ?_
                case s24 =>
                  intro w' hw'
                  clear hw'
                  refine growAt_value ?_
                  go_simp
                  try rfl
                simp only [Act.put, List.setIfInBounds_toArray, List.set_cons_zero, List.set_cons_succ]
                refine grow_step (v := .int .u32 (y.1 : Int)) rfl rfl ?s25 ?_
                case s25 =>
                  intro w' hw'
                  have yy := hw'.cell p0 (fun h => h)
                  clear hw'
                  refine growAt_value ?_
                  go_simp
                  try rfl
                simp only [Act.put, List.setIfInBounds_toArray, List.set_cons_zero, List.set_cons_succ]
                refine grow_step (v := .slice (some ⟨b, 0, none⟩) Lp.length cp) rfl rfl ?s26 ?_
                case s26 =>
                  intro w' hw'
                  clear hw'
                  refine growAt_value ?_
                  go_simp
                  try rfl
                simp only [Act.put, List.setIfInBounds_toArray, List.set_cons_zero, List.set_cons_succ]
                refine grow_step (v := .int .i64 (k : Int)) rfl rfl ?s27 ?_
                case s27 =>
                  intro w' hw'
                  clear hw'
                  refine growAt_value ?_
                  go_simp
                  try rfl
                simp only [Act.put, List.setIfInBounds_toArray, List.set_cons_zero, List.set_cons_succ]
                refine grow_step (v := .pointer (some ⟨b, k * 2, none⟩)) rfl rfl ?s28 ?_
                case s28 =>
                  intro w' hw'
                  clear hw'
                  refine growAt_value ?_
                  go_simp
                  try rfl
                simp only [Act.put, List.setIfInBounds_toArray, List.set_cons_zero, List.set_cons_succ]
                refine grow_step (v := .pointer (some ⟨b, k * 2 + 1, none⟩)) rfl rfl ?s29 ?_
                case s29 =>
                  intro w' hw'
                  clear hw'
                  refine growAt_value ?_
                  go_simp
                  try rfl
                simp only [Act.put, List.setIfInBounds_toArray, List.set_cons_zero, List.set_cons_succ]
                refine grow_step (v := .int .u32 (y.2 : Int)) rfl rfl ?s30 ?_
                case s30 =>
                  intro w' hw'
                  have yy := hw'.cell p1 (fun h => h)
                  clear hw'
                  refine growAt_value ?_
                  go_simp
                  try rfl
                simp only [Act.put, List.setIfInBounds_toArray, List.set_cons_zero, List.set_cons_succ]
                refine grow_step (v := dval (cubeB y.1 y.2)) rfl rfl ?s31 ?_
                case s31 =>
                  intro w' hw'
                  refine growAt_call ?_ ((Cube_any y.1 y.2 hy1 hy2 w').mono fun e w'' ⟨he, hb⟩ => ⟨he, (Fr.refl nob _).below hb⟩)
                  clear hw'
                  go_simp
                simp only [Act.put, List.setIfInBounds_toArray, List.set_cons_zero, List.set_cons_succ]
                refine grow_step (v := .bool false) rfl rfl ?s32 ?_
                case s32 =>
                  intro w' hw'
                  refine growAt_call ?_ ((HWN.out w').mono fun e w'' ⟨he, hb⟩ => ⟨he, (Fr.refl nob _).below hb⟩)
                  clear hw'
                  go_simp
                simp only [Act.put, List.setIfInBounds_toArray, List.set_cons_zero, List.set_cons_succ]
                refine grow_nil ?_
                rintro w8 listed fr8 - -
                have HFN := Lib.hid (HFQ.out.trans fr8 (fun _ _ h => h))
                clear fr8 HFQ x0 x1 p0 p1
                go_wp2_with fail
                go_roundw
                case rel => exact ⟨k + 1, by omega, by go_num, HFN.out⟩
                case measure => simp [intOf]; omega
            · have d2 : decide ((k : Int) < (Lp.length : Int)) = false := by simp; omega
              have d2' : decide (k < Lp.length) = false := by simp; omega
              have n0 := HFQ.out.cell H99.out.c0 (fun h => h)
              have n1 := HFQ.out.cell H99.out.c1 (fun h => h)
              have hor := Or_any (unN Lp i) C (ok_unN _ _) HOC.out
              rw [← HSC.out] at hor
              have HOR := Lib.hid hor
              clear hor
              go_wp2_with fail
              refine (HOR.out _).mono ?_
              rintro e wE ⟨rfl, hbE⟩
              have fE := HFQ.out.below hbE
              have h9E := H99.out.kept fE (fun h => h)
              have ⟨n0, n1, nf'⟩ := h9E
              have nf0 := nf' 0
              have nf1 := nf' 1
              obtain ⟨H9n, F9n⟩ := h9E.set (.int .u32 (place (li (unN Lp (i + 1))) (unN Lp (i + 1)) : Int)) (.string ⟨(code (rows (li (unN Lp (i + 1))))).toArray⟩)
              have HD' := HD9.out.kept fE (fun h => h)
              have hgg : g ≠ g9 := HGG.out
              have HDn := Lib.hid (HD'.kept F9n hgg)
              have HRn := Lib.hid ((HR9.out.kept fE).keptS F9n (show ¬ b = g9 by omega))
              have HFn := Lib.hid ((HF9.out.trans fE (fun _ _ h => h)).trans' F9n (T := nob) (fun _ _ h => h) (fun k hk h => by have e : k = g9 := h; have := HW9.out; omega))
              have H9N := Lib.hid H9n
              clear nf' h9E H9n F9n HD' hgg fE hbE HFQ x0 x1 HOR HD9 H99 HR9 HF9
              go_wp2_with fail
              go_roundw
              case rel => exact ⟨i + 1, by omega, by go_num, HDn.out, H9N.out, HRn.out, HFn.out⟩
              case measure => simp [intOf]; omega
        · have d2 : decide ((i : Int) < (Lp.length : Int)) = false := by simp; omega
          have d2' : decide (i < Lp.length) = false := by simp; omega
          obtain rfl : i = Lp.length := by omega
          have h9 := H9r.out
          rw [HUN.out] at h9
          have n0 := h9.c0
          have n1 := h9.c1
          have a0 := HDr.out.c0
          have a1 := HDr.out.c1
          have heq := equal_any A hA
          have HEQ := Lib.hid heq
          clear heq h9
          go_wp2_with fail
          refine (HEQ.out _).mono ?_
          rintro e wG ⟨rfl, hbG⟩
          have HFG := Lib.hid (HFr.out.below hbG)
          clear hbG n0 n1 a0 a1 HFr
          go_wp2_with fail
          refine (wakes_any _).mono ?_
          rintro e wH ⟨rfl, hbH⟩
          have HFH := Lib.hid (HFG.out.below hbH)
          clear hbH HFG
          go_wp2_with fail
          exact bodyPost_ret (v := .bool true) (by simp [results, Tryz.results5, go_sem]) rfl ⟨rfl, HFH.out.to_below (Nat.le_refl _) (fun _ h => h.elim)⟩
end Go.Proofs.YtiainlccodnlmaaGreatDoor
