import Derived.Test.YtpmnfpjpdpejgaaDoorBoths
import Derived.Test.YtpmnfpjpdpejgaaDoorRFix
import Derived.Test.YtpmnfpjpdpejgaaDoorRefP
import Derived.Test.YtpmnfpjpdpejgaaDoorWake
import Derived.BigQuiet
namespace Go.Proofs.YtpmnfpjpdpejgaaDoor
open Go.RowKit Go.Shelf
open Bd

def askRows : List G.Row := [(71, [13], []), (72, [71], [0]), (73, [15], []), (74, [73], [2, 1]), (75, [72, 74], [1, 3]), (76, [75], [4, 3]), (77, [13, 76], [5]), (78, [77, 76], [6, 5, 5]), (79, [15, 76], [5]), (80, [79, 76], [8, 7, 5]), (81, [78, 80, 76], [7, 9, 5]), (82, [76, 81], [5, 10]), (83, [82], [11, 9]), (84, [13, 83], [12]), (85, [14, 83], [12]), (86, [84, 85, 83], [13, 14, 12, 12]), (87, [15, 83], [12]), (88, [16, 83], [12]), (89, [87, 88, 83], [16, 17, 15, 12]), (90, [86, 89, 83], [15, 18, 12]), (91, [83, 90], [12, 19]), (92, [91], [20, 18]), (93, [13, 92], [21]), (94, [14, 92], [21]), (95, [93, 94, 92], [22, 23, 21, 21]), (96, [21, 92], [21]), (97, [15, 92], [21]), (98, [96, 97, 92], [25, 26, 24, 21]), (99, [95, 98, 92], [24, 27, 21]), (100, [92, 99], [21, 28]), (101, [100], [29, 27]), (102, [13, 101], [30]), (103, [14, 101], [30]), (104, [102, 103, 101], [31, 32, 30, 30]), (105, [21, 101], [30]), (106, [105, 101], [34, 33, 30]), (107, [106, 101], [35, 30]), (108, [104, 107, 101], [33, 36, 30]), (109, [101, 108], [30, 37]), (110, [109], [38, 35]), (111, [13, 110], [39]), (112, [111, 110], [40, 39, 39]), (113, [15, 110], [39]), (114, [113, 110], [42, 41, 39]), (115, [112, 114, 110], [41, 43, 39]), (116, [110, 115], [39, 44]), (117, [116], [45, 43]), (118, [17, 117], [46]), (119, [19, 117], [46]), (120, [118, 119, 117], [47, 48, 46]), (121, [117, 120], [46, 49]), (122, [121], [50, 46]), (123, [18, 122], [51]), (124, [20, 122], [51]), (125, [123, 124, 122], [52, 53, 51]), (126, [122, 125], [51, 54]), (127, [126], [55, 51]), (128, [127], [56, 56]), (129, [127, 128], [56, 57]), (7, [129], [58, 57, 0, 1, 2, 3, 4, 5, 6, 7, 8, 9, 10, 11, 12, 13, 14, 15, 16, 17, 18, 19, 20, 21, 22, 23, 24, 25, 26, 27, 28, 29, 30, 31, 32, 33, 34, 35, 36, 37, 38, 39, 40, 41, 42, 43, 44, 45, 46, 47, 48, 49, 50, 51, 52, 53, 54, 55, 56, 57, 58])]
noncomputable def askVals (A C : B) (qP : Option Addr) (nP cP : Nat) (tP : Option Addr) (mP dP : Nat) (qQ : Option Addr) (nQ cQ : Nat) (tQ : Option Addr) (mQ dQ : Nat) (qB : Option Addr) (nB cB : Nat) (tB : Option Addr) (mB dB : Nat) (be bf bs bw bm : Bool) (sup fon fof : Nat) : Nat → Value := fun i => List.getD [dval A, (.bool be : Value), (.agg #[.slice qP nP cP, .slice tP mP dP] : Value), (.bool be : Value), (.bool true : Value), (.bool true : Value), dval A, (.bool bf : Value), (.agg #[.slice qP nP cP, .slice tP mP dP] : Value), (.bool bf : Value), (.bool true : Value), (.bool true : Value), (.bool true : Value), dval A, dval C, (.bool bs : Value), (.agg #[.slice qP nP cP, .slice tP mP dP] : Value), (.agg #[.slice qQ nQ cQ, .slice tQ mQ dQ] : Value), (.bool bs : Value), (.bool true : Value), (.bool true : Value), (.bool true : Value), dval A, dval C, (.bool bw : Value), (.agg #[.slice qB nB cB, .slice tB mB dB] : Value), (.agg #[.slice qP nP cP, .slice tP mP dP] : Value), (.bool bw : Value), (.bool true : Value), (.bool true : Value), (.bool true : Value), dval A, dval C, (.bool (!bm) : Value), (.agg #[.slice qB nB cB, .slice tB mB dB] : Value), (.bool bm : Value), (.bool (!bm) : Value), (.bool true : Value), (.bool true : Value), (.bool true : Value), dval A, (.int .u32 (sup : Int) : Value), (.agg #[.slice qP nP cP, .slice tP mP dP] : Value), (.int .u32 (sup : Int) : Value), (.bool true : Value), (.bool true : Value), (.bool true : Value), (.int .u32 (fon : Int) : Value), (.int .u32 (fon : Int) : Value), (.bool true : Value), (.bool true : Value), (.bool true : Value), (.int .u32 (fof : Int) : Value), (.int .u32 (fof : Int) : Value), (.bool true : Value), (.bool true : Value), (.bool true : Value), (.bool true : Value), (.bool true : Value)] i undef
theorem askChk : G.chkR 59 0 askRows = true := by kernel_rfl
theorem askLow : G.lowR 0 askRows = true := by kernel_rfl
theorem askCov : G.coverR 59 askRows = true := by kernel_rfl

theorem RFull_tree {b : B} (hb : b.ok 0) {V : List Nat} {va : Value} {w : World} (hsa : RSet w va V b.ev) : Calls Tryd.prog 28 #[va] w fun e w' => e = .returned (.bool (decide (b = .T))) ∧ Below w.heap.size w w' := by
  have hf0 : (many (tab V b.ev) = 2 ^ V.length) = (b = .T) := by
    rw [full_dec hsa.1 hsa.2.1, eq_iff_iff]
    exact ⟨fun h => eq_of_ev hb (show B.T.ok 0 from trivial) (fun c => by rw [h c]; rfl), fun h c => by rw [h]; rfl⟩
  have := RFull_any V b.ev va w hsa
  simp only [hf0] at this
  exact this
theorem REmpty_tree {b : B} (hb : b.ok 0) {V : List Nat} {va : Value} {w : World} (hsa : RSet w va V b.ev) : Calls Tryd.prog 26 #[va] w fun e w' => e = .returned (.bool (decide (b = .F))) ∧ Below w.heap.size w w' := by
  have hf0 : (many (tab V b.ev) = 0) = (b = .F) := by
    rw [empty_dec hsa.1 hsa.2.1, eq_iff_iff]
    exact ⟨fun h => eq_of_ev hb (show B.F.ok 0 from trivial) (fun c => by rw [h c]; rfl), fun h c => by rw [h]; rfl⟩
  have := REmpty_any V b.ev va w hsa
  simp only [hf0] at this
  exact this
theorem within_dec {A C : B} (hA : A.ok 0) (hC : C.ok 0) : decide (ite A C .T = .T) = decide (ite A C .F = A) := by
  rw [Bool.eq_iff_iff, decide_eq_true_iff, decide_eq_true_iff]
  constructor
  · intro h
    refine eq_of_ev (ok_ite (Nat.zero_le _) hA hC (show B.F.ok 0 from trivial)) hA fun c => ?_
    have := congrArg (fun b => B.ev b c) h
    simp only [ev_ite hA hC (show B.T.ok 0 from trivial), B.ev] at this
    rw [ev_ite hA hC (show B.F.ok 0 from trivial)]
    cases e : A.ev c <;> simp_all [B.ev]
  · intro h
    refine eq_of_ev (ok_ite (Nat.zero_le _) hA hC (show B.T.ok 0 from trivial)) (show B.T.ok 0 from trivial) fun c => ?_
    have := congrArg (fun b => B.ev b c) h
    simp only [ev_ite hA hC (show B.F.ok 0 from trivial)] at this
    rw [ev_ite hA hC (show B.T.ok 0 from trivial)]
    cases e : A.ev c <;> simp_all [B.ev]

theorem box4 (W : World) (a b c d e f g h : Value) (T1 T2 T3 T4 : TypeId) : Box2 (((((W.alloc (.cells #[a, b] T1)).alloc (.cells #[c, d] T2)).alloc (.cells #[e, f] T3)).alloc (.cells #[g, h] T4)).drew) W.heap.size a b ∧ Box2 (((((W.alloc (.cells #[a, b] T1)).alloc (.cells #[c, d] T2)).alloc (.cells #[e, f] T3)).alloc (.cells #[g, h] T4)).drew) (W.heap.size + 1) c d ∧ Box2 (((((W.alloc (.cells #[a, b] T1)).alloc (.cells #[c, d] T2)).alloc (.cells #[e, f] T3)).alloc (.cells #[g, h] T4)).drew) (W.heap.size + 1 + 1) e f ∧ Box2 (((((W.alloc (.cells #[a, b] T1)).alloc (.cells #[c, d] T2)).alloc (.cells #[e, f] T3)).alloc (.cells #[g, h] T4)).drew) (W.heap.size + 1 + 1 + 1) g h := by
  have h2 := Box2.new (W.alloc (.cells #[a, b] T1)) c d T2
  have h3 := Box2.new ((W.alloc (.cells #[a, b] T1)).alloc (.cells #[c, d] T2)) e f T3
  have h4 := Box2.new (((W.alloc (.cells #[a, b] T1)).alloc (.cells #[c, d] T2)).alloc (.cells #[e, f] T3)) g h T4
  simp only [World.size_alloc] at h2 h3 h4
  exact ⟨(Box2.new W a b T1).kept (S := nob) (((((Fr.refl nob _).alloc _).alloc _).alloc _).drew) (fun h => h), h2.kept (S := nob) ((((Fr.refl nob _).alloc _).alloc _).drew) (fun h => h), h3.kept (S := nob) (((Fr.refl nob _).alloc _).drew) (fun h => h), h4.kept (S := nob) ((Fr.refl nob _).drew) (fun h => h)⟩

set_option maxRecDepth 100000 in
set_option maxHeartbeats 8000000 in
theorem asks_any (L : List OpD) (hx : ∀ x ∈ L, x.Fits) (x y : Nat) (hx8 : x < 256) (hy8 : y < 256) (v : Value) (w : World) (hv : ORow w v L) (hg : 0 < w.heap.size) (hT : Tab32 w) :
    Calls Tryd.prog 4 #[v, .int .u8 (x : Int), .int .u8 (y : Int)] w fun e w' => e = .returned (.bool true) ∧ Below w.heap.size w w' := by
  have hme := Mentioned_any L hx v w hv
  have HX := Lib.hid hx
  have HV := Lib.hid hv
  have HT := Lib.hid hT
  obtain ⟨a, cap, rfl⟩ := hv.form
  clear hv hx hT
  go_enter Tryd.func4, Tryd.ntmps4
  go_wp2_with fail
  refine hme.mono ?_
  clear hme
  rintro e w1 ⟨b, rfl, hb, hb1⟩
  have f1 := (Fr.refl nob w).below hb1
  clear hb1
  cases b with
  | false =>
    clear hb
    go_wp2_with fail
    refine (wakes_any _).mono ?_
    rintro e w2 ⟨rfl, hb2⟩
    have f2 := f1.below hb2
    go_wp2_with fail
    go_ret
    exact ⟨rfl, f2.to_below (Nat.le_refl _) (fun _ h => h.elim)⟩
  | true =>
    obtain ⟨h12, h40⟩ := hb rfl
    have hbo := Both_any L (by omega) (fun x hm => ⟨HX.out x hm, Nat.le_trans (h40 x hm) (by decide)⟩) _ w1 (HV.out.kept f1) (Nat.lt_of_lt_of_le hg f1.size) (HT.out.below (f1.to_below (B := w.heap.size) (Nat.le_refl _) (fun _ h => h.elim)) hg)
    have hlen : (scr L).length = L.length + 1 := scr_len L
    have HOK := Lib.hid (ok_scr L)
    clear hb h40
    generalize scr L = s at *
    have hs0 : 0 < s.length := by omega
    have hs13 : s.length ≤ 13 := by omega
    clear hlen
    go_wp2_with fail
    refine hbo.mono ?_
    clear hbo
    rintro e w2 ⟨sv, tv, rfl, hS, hTr, hb2⟩
    have f2 := f1.below hb2
    clear hb2 f1
    obtain ⟨aS, capS, rfl⟩ := hS.form
    obtain ⟨gT, capT, rfl⟩ := hTr.form
    obtain ⟨ia, hia⟩ : ∃ ia, ia = x % s.length := ⟨_, rfl⟩
    obtain ⟨ib, hib⟩ : ∃ ib, ib = y % s.length := ⟨_, rfl⟩
    have la : ia < s.length := by rw [hia]; exact Nat.mod_lt _ hs0
    have lb : ib < s.length := by rw [hib]; exact Nat.mod_lt _ hs0
    have hma := tmod_nat x s.length
    have hmb := tmod_nat y s.length
    rw [← hia] at hma
    rw [← hib] at hmb
    obtain ⟨gS, rfl, c0, c1⟩ := hS.at (getD_some la)
    obtain ⟨gS', e', d0, d1⟩ := hS.at (getD_some lb)
    obtain rfl : gS = gS' := by simpa using e'
    obtain ⟨qP, nP, cP, tP, mP, dP, VP, p0, p1, hsP⟩ := hTr.at la
    obtain ⟨qQ, nQ, cQ, tQ, mQ, dQ, VQ, q0, q1, hsQ⟩ := hTr.at lb
    have hokA := ok_getD HOK.out ia
    have hokC := ok_getD HOK.out ib
    have hsl : (s.length : Int) ≠ 0 := by omega
    clear hS hTr e' hia hib
    generalize s.getD ia .F = A at *
    generalize s.getD ib .F = C at *
    have HPP := Lib.hid hsP
    have HQQ := Lib.hid hsQ
    have HF2 := Lib.hid f2
    clear hsP hsQ f2
    go_wp2_with fail
    go_quiet (fail)
    have fq : Fr nob w2 (w2.drewN nq) := (Fr.refl nob w2).drewN nq
    replace c0 := fq.cell c0 (fun h => h)
    replace c1 := fq.cell c1 (fun h => h)
    replace d0 := fq.cell d0 (fun h => h)
    replace d1 := fq.cell d1 (fun h => h)
    replace p0 := fq.cell p0 (fun h => h)
    replace p1 := fq.cell p1 (fun h => h)
    replace q0 := fq.cell q0 (fun h => h)
    replace q1 := fq.cell q1 (fun h => h)
    have HP := Lib.hid (HPP.out.kept fq)
    have HQ := Lib.hid (HQQ.out.kept fq)
    have HF := Lib.hid (HF2.out.trans fq (fun _ _ h => h))
    clear HPP HQQ HF2
    go_upto_region 5 with fail
    generalize w2.drewN nq = W0 at *
    clear fq
    have HTW := Lib.hid hg
    have HZ := Lib.hid hs0
    have HOA := Lib.hid hokA
    have HOC := Lib.hid hokC
    go_cut [12, 13, 14, 15] (fun s12 s13 s14 s15 wx => ∃ g12 g13 g14 g15, s12 = .pointer (some ⟨g12, 0, none⟩) ∧ s13 = .pointer (some ⟨g13, 0, none⟩) ∧ s14 = .pointer (some ⟨g14, 0, none⟩) ∧ s15 = .pointer (some ⟨g15, 0, none⟩) ∧ Fr nob W0 wx ∧ Box2 wx g12 (.int .u32 (place (li A) A : Int)) (.string ⟨(code (rows (li A))).toArray⟩) ∧ Box2 wx g13 (.int .u32 (place (li C) C : Int)) (.string ⟨(code (rows (li C))).toArray⟩) ∧ Box2 wx g14 (.slice qP nP cP) (.slice tP mP dP) ∧ Box2 wx g15 (.slice qQ nQ cQ) (.slice tQ mQ dQ))
    case first =>
      have u1 : (0 : Int) ≤ (ia : Int) := Int.natCast_nonneg _
      have u2 : (0 : Int) ≤ (ib : Int) := Int.natCast_nonneg _
      have v1 : (ia : Int) < (s.length : Int) := by omega
      have v2 : (ib : Int) < (s.length : Int) := by omega
      have v3 : IntKind.i64.wrap (ia : Int) = (ia : Int) := by rw [IntKind.wrap_i64]; omega
      have v4 : IntKind.i64.wrap (ib : Int) = (ib : Int) := by rw [IntKind.wrap_i64]; omega
      have keepS : ∀ w', Fr nob W0 w' → (w'.cell? ⟨gS, ia * 2, none⟩ = some (.int .u32 (place (li A) A : Int)) ∧ w'.cell? ⟨gS, ia * 2 + 1, none⟩ = some (.string ⟨(code (rows (li A))).toArray⟩) ∧ w'.cell? ⟨gS, ib * 2, none⟩ = some (.int .u32 (place (li C) C : Int)) ∧ w'.cell? ⟨gS, ib * 2 + 1, none⟩ = some (.string ⟨(code (rows (li C))).toArray⟩) ∧ w'.cell? ⟨gT, ia * 2, none⟩ = some (.slice qP nP cP) ∧ w'.cell? ⟨gT, ia * 2 + 1, none⟩ = some (.slice tP mP dP) ∧ w'.cell? ⟨gT, ib * 2, none⟩ = some (.slice qQ nQ cQ) ∧ w'.cell? ⟨gT, ib * 2 + 1, none⟩ = some (.slice tQ mQ dQ)) := fun w' f => ⟨f.cell c0 (fun h => h), f.cell c1 (fun h => h), f.cell d0 (fun h => h), f.cell d1 (fun h => h), f.cell p0 (fun h => h), f.cell p1 (fun h => h), f.cell q0 (fun h => h), f.cell q1 (fun h => h)⟩
      clear hma hmb hsl hs0 hokA hokC hg
      go_region_held3? (fun w' => w'.cell? ⟨gS, ia * 2, none⟩ = some (.int .u32 (place (li A) A : Int)) ∧ w'.cell? ⟨gS, ia * 2 + 1, none⟩ = some (.string ⟨(code (rows (li A))).toArray⟩) ∧ w'.cell? ⟨gS, ib * 2, none⟩ = some (.int .u32 (place (li C) C : Int)) ∧ w'.cell? ⟨gS, ib * 2 + 1, none⟩ = some (.string ⟨(code (rows (li C))).toArray⟩) ∧ w'.cell? ⟨gT, ia * 2, none⟩ = some (.slice qP nP cP) ∧ w'.cell? ⟨gT, ia * 2 + 1, none⟩ = some (.slice tP mP dP) ∧ w'.cell? ⟨gT, ib * 2, none⟩ = some (.slice qQ nQ cQ) ∧ w'.cell? ⟨gT, ib * 2 + 1, none⟩ = some (.slice tQ mQ dQ))
        (first | exact keepS _ ((Fr.refl nob W0)) | exact keepS _ ((Fr.refl nob W0).drew) | exact keepS _ ((((Fr.refl nob W0)).alloc _)) | exact keepS _ ((((Fr.refl nob W0)).alloc _).drew) | exact keepS _ ((((((Fr.refl nob W0)).alloc _)).alloc _)) | exact keepS _ ((((((Fr.refl nob W0)).alloc _)).alloc _).drew) | exact keepS _ ((((((((Fr.refl nob W0)).alloc _)).alloc _)).alloc _)) | exact keepS _ ((((((((Fr.refl nob W0)).alloc _)).alloc _)).alloc _).drew) | exact keepS _ ((((((((((Fr.refl nob W0)).alloc _)).alloc _)).alloc _)).alloc _)) | exact keepS _ ((((((((((Fr.refl nob W0)).alloc _)).alloc _)).alloc _)).alloc _).drew) | go_keep)
        (first | fail)
      all_goals (go_wp2_with fail)
      all_goals go_meet
      all_goals
        refine ⟨_, _, _, _, rfl, rfl, rfl, rfl, ((((Fr.refl nob W0).alloc _).alloc _).alloc _).alloc _ |>.drew, ?_, ?_, ?_, ?_⟩
      all_goals first
        | exact (box4 W0 _ _ _ _ _ _ _ _ _ _ _ _).1
        | exact (box4 W0 _ _ _ _ _ _ _ _ _ _ _ _).2.1
        | exact (box4 W0 _ _ _ _ _ _ _ _ _ _ _ _).2.2.1
        | exact (box4 W0 _ _ _ _ _ _ _ _ _ _ _ _).2.2.2
    case rest =>
      obtain ⟨g12, g13, g14, g15, rfl, rfl, rfl, rfl, frx, b12, b13, b14, b15⟩ := hcut
      have HP5 := Lib.hid (HP.out.kept frx)
      have HQ5 := Lib.hid (HQ.out.kept frx)
      have HF5 := Lib.hid (HF.out.trans frx (fun _ _ h => h))
      have hokA := HOA.out
      have hokC := HOC.out
      clear HP HQ HF frx c0 c1 d0 d1 p0 p1 q0 q1 hma hmb hsl hs0 HOA HOC HZ HTW la lb
      have a0 := b12.c0
      have a1 := b12.c1
      have hfa := Fixed_any A hokA
      have hfr := fun W h => RFixed_any A hokA VP (.agg #[.slice qP nP cP, .slice tP mP dP]) W h
      generalize fixV A = fv at *
      obtain ⟨fon, fof⟩ := fv
      go_wp2_with fail
      refine (hfa _).mono ?_
      rintro e w6 ⟨rfl, hb6⟩
      have g6 := (Fr.refl nob wc).below hb6
      replace b12 := b12.kept g6 (fun h => h)
      replace b13 := b13.kept g6 (fun h => h)
      replace b14 := b14.kept g6 (fun h => h)
      replace b15 := b15.kept g6 (fun h => h)
      have HP6 := Lib.hid (HP5.out.kept g6)
      have HQ6 := Lib.hid (HQ5.out.kept g6)
      have HF6 := Lib.hid (HF5.out.trans g6 (fun _ _ h => h))
      clear hfa hb6 g6 HP5 HQ5 HF5 a0 a1
      have p0 := b14.c0
      have p1 := b14.c1
      go_wp2_with fail
      refine (hfr _ HP6.out).mono ?_
      rintro e w7 ⟨rfl, hb7⟩
      have g7 := (Fr.refl nob w6).below hb7
      replace b12 := b12.kept g7 (fun h => h)
      replace b13 := b13.kept g7 (fun h => h)
      replace b14 := b14.kept g7 (fun h => h)
      replace b15 := b15.kept g7 (fun h => h)
      have HP7 := Lib.hid (HP6.out.kept g7)
      have HQ7 := Lib.hid (HQ6.out.kept g7)
      have HF7 := Lib.hid (HF6.out.trans g7 (fun _ _ h => h))
      clear hfr hb7 g7 HP6 HQ6 HF6 p0 p1
      have p0 := b14.c0
      have p1 := b14.c1
      have q0 := b15.c0
      have q1 := b15.c1
      have hand := RAnd_any VP VQ A.ev C.ev _ _ w7 HP7.out HQ7.out
      go_wp2_with fail
      refine hand.mono ?_
      rintro e w8 ⟨vB, rfl, hsB, hb8⟩
      obtain ⟨qB, nB, cB, tB, mB, dB, rfl⟩ := hsB.form
      have g8 := ((Fr.refl nob w7).below hb8).alloc (.cells #[.slice qB nB cB, .slice tB mB dB] 52)
      have b20 := Box2.new w8 (.slice qB nB cB) (.slice tB mB dB) 52
      replace b12 := b12.kept g8 (fun h => h)
      replace b13 := b13.kept g8 (fun h => h)
      replace b14 := b14.kept g8 (fun h => h)
      replace b15 := b15.kept g8 (fun h => h)
      have HP8 := Lib.hid (HP7.out.kept g8)
      have HQ8 := Lib.hid (HQ7.out.kept g8)
      have HF8 := Lib.hid (HF7.out.trans g8 (fun _ _ h => h))
      have HB8 := Lib.hid (RSet.congr (h := (ite A C .F).ev) (hsB.kept ((Fr.refl nob w8).alloc (.cells #[.slice qB nB cB, .slice tB mB dB] 52))) (fun c => by
        rw [ev_ite hokA hokC (show B.F.ok 0 from trivial)]
        cases A.ev c <;> cases C.ev c <;> rfl))
      clear hand hb8 g8 HP7 HQ7 HF7 hsB p0 p1 q0 q1
      have a0 := b12.c0
      have a1 := b12.c1
      have c0 := b13.c0
      have c1 := b13.c1
      have p0 := b14.c0
      have p1 := b14.c1
      have q0 := b15.c0
      have q1 := b15.c1
      have b0 := b20.c0
      have b1 := b20.c1
      clear b12 b13 b14 b15 b20
      go_upto_region 9 with fail
      generalize w8.alloc (.cells #[.slice qB nB cB, .slice tB mB dB] 52) = W8 at *
      have hokB := ok_ite (Nat.zero_le _) hokA hokC (show B.F.ok 0 from trivial)
      have cE := Empty_any A
      have cF := Full_any A
      have cS := Same_any A C hokA hokC
      have cW := Within_any A C hokA hokC
      have cM := Meets_any A C hokA hokC
      have cU := Support_any A hokA
      have rE := fun W (f : Fr nob W8 W) => REmpty_tree hokA (HP8.out.kept f)
      have rF := fun W (f : Fr nob W8 W) => RFull_tree hokA (HP8.out.kept f)
      have rS := fun W (f : Fr nob W8 W) => RSame_tree hokA hokC (HP8.out.kept f) (HQ8.out.kept f)
      have rW := fun W (f : Fr nob W8 W) => RSame_tree hokB hokA (HB8.out.kept f) (HP8.out.kept f)
      have rM := fun W (f : Fr nob W8 W) => REmpty_tree hokB (HB8.out.kept f)
      have rU := fun W (f : Fr nob W8 W) => (show Calls Tryd.prog 34 #[.agg #[.slice qP nP cP, .slice tP mP dP]] W fun e w' => e = .returned (.int .u32 (supR (li A) : Int)) ∧ Below W.heap.size W w' by
        have := RSupport_any VP A.ev _ W (HP8.out.kept f)
        rwa [supR_num hokA HP8.out.2.1 (fun _ => rfl)] at this)
      rw [within_dec hokA hokC] at cW
      generalize decide (A = .F) = be at *
      generalize decide (A = .T) = bf at *
      generalize decide (A = C) = bs at *
      generalize decide (ite A C .F = A) = bw at *
      generalize decide (ite A C .F = .F) = bm at *
      generalize supR (li A) = sup at *
      refine G.wp_region 59 129 (fun _ => false) (fun _ _ _ => False) (askVals A C qP nP cP tP mP dP qQ nQ cQ tQ mQ dQ qB nB cB tB mB dB be bf bs bw bm sup fon fof) (by kernel_rfl) (G.growB_rows askRows (by kernel_rfl) (by kernel_rfl) (by kernel_rfl) (by kernel_rfl) (by kernel_rfl) (by kernel_rfl) askChk askLow askCov) rfl (fun _ _ _ _ h _ => h.elim) (fun _ h => by cases h) ?_
      refine G.alone ?_
      intro OPS TAIL hOPS hTAIL
      simp only [List.take_succ_cons, List.take_zero]
      have HO := Lib.hid hOPS
      have HTL := Lib.hid hTAIL
      clear hOPS hTAIL
      refine G.step (dval A) rfl rfl (by first | rfl | (rw [HO.out]; rfl)) ?s0z ?n0z
      case s0z =>
        intro w' hw' hh
        have y0 := hw'.cell a0 (fun h => h)
        have y1 := hw'.cell a1 (fun h => h)
        clear hw' hh
        refine G.upon_value ?_
        go_simp
        try rfl
      simp only [Act.put, List.setIfInBounds_toArray, List.set_cons_zero, List.set_cons_succ]
      refine G.step (.bool be) rfl rfl (by first | rfl | (rw [HO.out]; rfl)) ?s1z ?n1z
      case s1z =>
        intro w' hw' hh
        refine G.upon_call ?_ ((cE w').mono fun e w'' ⟨he, hb⟩ => ⟨he, (Fr.refl nob _).below hb⟩)
        clear hw' hh
        go_simp
      simp only [Act.put, List.setIfInBounds_toArray, List.set_cons_zero, List.set_cons_succ]
      refine G.step (.agg #[.slice qP nP cP, .slice tP mP dP]) rfl rfl (by first | rfl | (rw [HO.out]; rfl)) ?s2z ?n2z
      case s2z =>
        intro w' hw' hh
        have y0 := hw'.cell p0 (fun h => h)
        have y1 := hw'.cell p1 (fun h => h)
        clear hw' hh
        refine G.upon_value ?_
        go_simp
        try rfl
      simp only [Act.put, List.setIfInBounds_toArray, List.set_cons_zero, List.set_cons_succ]
      refine G.step (.bool be) rfl rfl (by first | rfl | (rw [HO.out]; rfl)) ?s3z ?n3z
      case s3z =>
        intro w' hw' hh
        refine G.upon_call ?_ ((rE w' hw').mono fun e w'' ⟨he, hb⟩ => ⟨he, (Fr.refl nob _).below hb⟩)
        clear hw' hh
        go_simp
      simp only [Act.put, List.setIfInBounds_toArray, List.set_cons_zero, List.set_cons_succ]
      refine G.step (.bool true) rfl rfl (by first | rfl | (rw [HO.out]; rfl)) ?s4z ?n4z
      case s4z =>
        intro w' hw' hh
        clear hw' hh
        refine G.upon_value ?_
        go_simp
        try rfl
      simp only [Act.put, List.setIfInBounds_toArray, List.set_cons_zero, List.set_cons_succ]
      refine G.step (.bool true) rfl rfl (by first | rfl | (rw [HO.out]; rfl)) ?s5z ?n5z
      case s5z =>
        intro w' hw' hh
        clear hw' hh
        refine G.upon_value ?_
        go_simp
        try rfl
      simp only [Act.put, List.setIfInBounds_toArray, List.set_cons_zero, List.set_cons_succ]
      refine G.step (dval A) rfl rfl (by first | rfl | (rw [HO.out]; rfl)) ?s6z ?n6z
      case s6z =>
        intro w' hw' hh
        have y0 := hw'.cell a0 (fun h => h)
        have y1 := hw'.cell a1 (fun h => h)
        clear hw' hh
        refine G.upon_value ?_
        go_simp
        try rfl
      simp only [Act.put, List.setIfInBounds_toArray, List.set_cons_zero, List.set_cons_succ]
      refine G.step (.bool bf) rfl rfl (by first | rfl | (rw [HO.out]; rfl)) ?s7z ?n7z
      case s7z =>
        intro w' hw' hh
        refine G.upon_call ?_ ((cF w').mono fun e w'' ⟨he, hb⟩ => ⟨he, (Fr.refl nob _).below hb⟩)
        clear hw' hh
        go_simp
      simp only [Act.put, List.setIfInBounds_toArray, List.set_cons_zero, List.set_cons_succ]
      refine G.step (.agg #[.slice qP nP cP, .slice tP mP dP]) rfl rfl (by first | rfl | (rw [HO.out]; rfl)) ?s8z ?n8z
      case s8z =>
        intro w' hw' hh
        have y0 := hw'.cell p0 (fun h => h)
        have y1 := hw'.cell p1 (fun h => h)
        clear hw' hh
        refine G.upon_value ?_
        go_simp
        try rfl
      simp only [Act.put, List.setIfInBounds_toArray, List.set_cons_zero, List.set_cons_succ]
      refine G.step (.bool bf) rfl rfl (by first | rfl | (rw [HO.out]; rfl)) ?s9z ?n9z
      case s9z =>
        intro w' hw' hh
        refine G.upon_call ?_ ((rF w' hw').mono fun e w'' ⟨he, hb⟩ => ⟨he, (Fr.refl nob _).below hb⟩)
        clear hw' hh
        go_simp
      simp only [Act.put, List.setIfInBounds_toArray, List.set_cons_zero, List.set_cons_succ]
      refine G.step (.bool true) rfl rfl (by first | rfl | (rw [HO.out]; rfl)) ?s10z ?n10z
      case s10z =>
        intro w' hw' hh
        clear hw' hh
        refine G.upon_value ?_
        go_simp
        try rfl
      simp only [Act.put, List.setIfInBounds_toArray, List.set_cons_zero, List.set_cons_succ]
      refine G.step (.bool true) rfl rfl (by first | rfl | (rw [HO.out]; rfl)) ?s11z ?n11z
      case s11z =>
        intro w' hw' hh
        clear hw' hh
        refine G.upon_value ?_
        go_simp
        try rfl
      simp only [Act.put, List.setIfInBounds_toArray, List.set_cons_zero, List.set_cons_succ]
      refine G.step (.bool true) rfl rfl (by first | rfl | (rw [HO.out]; rfl)) ?s12z ?n12z
      case s12z =>
        intro w' hw' hh
        clear hw' hh
        refine G.upon_value ?_
        go_simp
        try rfl
      simp only [Act.put, List.setIfInBounds_toArray, List.set_cons_zero, List.set_cons_succ]
      refine G.step (dval A) rfl rfl (by first | rfl | (rw [HO.out]; rfl)) ?s13z ?n13z
      case s13z =>
        intro w' hw' hh
        have y0 := hw'.cell a0 (fun h => h)
        have y1 := hw'.cell a1 (fun h => h)
        clear hw' hh
        refine G.upon_value ?_
        go_simp
        try rfl
      simp only [Act.put, List.setIfInBounds_toArray, List.set_cons_zero, List.set_cons_succ]
      refine G.step (dval C) rfl rfl (by first | rfl | (rw [HO.out]; rfl)) ?s14z ?n14z
      case s14z =>
        intro w' hw' hh
        have y0 := hw'.cell c0 (fun h => h)
        have y1 := hw'.cell c1 (fun h => h)
        clear hw' hh
        refine G.upon_value ?_
        go_simp
        try rfl
      simp only [Act.put, List.setIfInBounds_toArray, List.set_cons_zero, List.set_cons_succ]
      refine G.step (.bool bs) rfl rfl (by first | rfl | (rw [HO.out]; rfl)) ?s15z ?n15z
      case s15z =>
        intro w' hw' hh
        refine G.upon_call ?_ ((cS w').mono fun e w'' ⟨he, hb⟩ => ⟨he, (Fr.refl nob _).below hb⟩)
        clear hw' hh
        go_simp
      simp only [Act.put, List.setIfInBounds_toArray, List.set_cons_zero, List.set_cons_succ]
      refine G.step (.agg #[.slice qP nP cP, .slice tP mP dP]) rfl rfl (by first | rfl | (rw [HO.out]; rfl)) ?s16z ?n16z
      case s16z =>
        intro w' hw' hh
        have y0 := hw'.cell p0 (fun h => h)
        have y1 := hw'.cell p1 (fun h => h)
        clear hw' hh
        refine G.upon_value ?_
        go_simp
        try rfl
      simp only [Act.put, List.setIfInBounds_toArray, List.set_cons_zero, List.set_cons_succ]
      refine G.step (.agg #[.slice qQ nQ cQ, .slice tQ mQ dQ]) rfl rfl (by first | rfl | (rw [HO.out]; rfl)) ?s17z ?n17z
      case s17z =>
        intro w' hw' hh
        have y0 := hw'.cell q0 (fun h => h)
        have y1 := hw'.cell q1 (fun h => h)
        clear hw' hh
        refine G.upon_value ?_
        go_simp
        try rfl
      simp only [Act.put, List.setIfInBounds_toArray, List.set_cons_zero, List.set_cons_succ]
      refine G.step (.bool bs) rfl rfl (by first | rfl | (rw [HO.out]; rfl)) ?s18z ?n18z
      case s18z =>
        intro w' hw' hh
        refine G.upon_call ?_ ((rS w' hw').mono fun e w'' ⟨he, hb⟩ => ⟨he, (Fr.refl nob _).below hb⟩)
        clear hw' hh
        go_simp
      simp only [Act.put, List.setIfInBounds_toArray, List.set_cons_zero, List.set_cons_succ]
      refine G.step (.bool true) rfl rfl (by first | rfl | (rw [HO.out]; rfl)) ?s19z ?n19z
      case s19z =>
        intro w' hw' hh
        clear hw' hh
        refine G.upon_value ?_
        go_simp
        try rfl
      simp only [Act.put, List.setIfInBounds_toArray, List.set_cons_zero, List.set_cons_succ]
      refine G.step (.bool true) rfl rfl (by first | rfl | (rw [HO.out]; rfl)) ?s20z ?n20z
      case s20z =>
        intro w' hw' hh
        clear hw' hh
        refine G.upon_value ?_
        go_simp
        try rfl
      simp only [Act.put, List.setIfInBounds_toArray, List.set_cons_zero, List.set_cons_succ]
      refine G.step (.bool true) rfl rfl (by first | rfl | (rw [HO.out]; rfl)) ?s21z ?n21z
      case s21z =>
        intro w' hw' hh
        clear hw' hh
        refine G.upon_value ?_
        go_simp
        try rfl
      simp only [Act.put, List.setIfInBounds_toArray, List.set_cons_zero, List.set_cons_succ]
      refine G.step (dval A) rfl rfl (by first | rfl | (rw [HO.out]; rfl)) ?s22z ?n22z
      case s22z =>
        intro w' hw' hh
        have y0 := hw'.cell a0 (fun h => h)
        have y1 := hw'.cell a1 (fun h => h)
        clear hw' hh
        refine G.upon_value ?_
        go_simp
        try rfl
      simp only [Act.put, List.setIfInBounds_toArray, List.set_cons_zero, List.set_cons_succ]
      refine G.step (dval C) rfl rfl (by first | rfl | (rw [HO.out]; rfl)) ?s23z ?n23z
      case s23z =>
        intro w' hw' hh
        have y0 := hw'.cell c0 (fun h => h)
        have y1 := hw'.cell c1 (fun h => h)
        clear hw' hh
        refine G.upon_value ?_
        go_simp
        try rfl
      simp only [Act.put, List.setIfInBounds_toArray, List.set_cons_zero, List.set_cons_succ]
      refine G.step (.bool bw) rfl rfl (by first | rfl | (rw [HO.out]; rfl)) ?s24z ?n24z
      case s24z =>
        intro w' hw' hh
        refine G.upon_call ?_ ((cW w').mono fun e w'' ⟨he, hb⟩ => ⟨he, (Fr.refl nob _).below hb⟩)
        clear hw' hh
        go_simp
      simp only [Act.put, List.setIfInBounds_toArray, List.set_cons_zero, List.set_cons_succ]
      refine G.step (.agg #[.slice qB nB cB, .slice tB mB dB]) rfl rfl (by first | rfl | (rw [HO.out]; rfl)) ?s25z ?n25z
      case s25z =>
        intro w' hw' hh
        have y0 := hw'.cell b0 (fun h => h)
        have y1 := hw'.cell b1 (fun h => h)
        clear hw' hh
        refine G.upon_value ?_
        go_simp
        try rfl
      simp only [Act.put, List.setIfInBounds_toArray, List.set_cons_zero, List.set_cons_succ]
      refine G.step (.agg #[.slice qP nP cP, .slice tP mP dP]) rfl rfl (by first | rfl | (rw [HO.out]; rfl)) ?s26z ?n26z
      case s26z =>
        intro w' hw' hh
        have y0 := hw'.cell p0 (fun h => h)
        have y1 := hw'.cell p1 (fun h => h)
        clear hw' hh
        refine G.upon_value ?_
        go_simp
        try rfl
      simp only [Act.put, List.setIfInBounds_toArray, List.set_cons_zero, List.set_cons_succ]
      refine G.step (.bool bw) rfl rfl (by first | rfl | (rw [HO.out]; rfl)) ?s27z ?n27z
      case s27z =>
        intro w' hw' hh
        refine G.upon_call ?_ ((rW w' hw').mono fun e w'' ⟨he, hb⟩ => ⟨he, (Fr.refl nob _).below hb⟩)
        clear hw' hh
        go_simp
      simp only [Act.put, List.setIfInBounds_toArray, List.set_cons_zero, List.set_cons_succ]
      refine G.step (.bool true) rfl rfl (by first | rfl | (rw [HO.out]; rfl)) ?s28z ?n28z
      case s28z =>
        intro w' hw' hh
        clear hw' hh
        refine G.upon_value ?_
        go_simp
        try rfl
      simp only [Act.put, List.setIfInBounds_toArray, List.set_cons_zero, List.set_cons_succ]
      refine G.step (.bool true) rfl rfl (by first | rfl | (rw [HO.out]; rfl)) ?s29z ?n29z
      case s29z =>
        intro w' hw' hh
        clear hw' hh
        refine G.upon_value ?_
        go_simp
        try rfl
      simp only [Act.put, List.setIfInBounds_toArray, List.set_cons_zero, List.set_cons_succ]
      refine G.step (.bool true) rfl rfl (by first | rfl | (rw [HO.out]; rfl)) ?s30z ?n30z
      case s30z =>
        intro w' hw' hh
        clear hw' hh
        refine G.upon_value ?_
        go_simp
        try rfl
      simp only [Act.put, List.setIfInBounds_toArray, List.set_cons_zero, List.set_cons_succ]
      refine G.step (dval A) rfl rfl (by first | rfl | (rw [HO.out]; rfl)) ?s31z ?n31z
      case s31z =>
        intro w' hw' hh
        have y0 := hw'.cell a0 (fun h => h)
        have y1 := hw'.cell a1 (fun h => h)
        clear hw' hh
        refine G.upon_value ?_
        go_simp
        try rfl
      simp only [Act.put, List.setIfInBounds_toArray, List.set_cons_zero, List.set_cons_succ]
      refine G.step (dval C) rfl rfl (by first | rfl | (rw [HO.out]; rfl)) ?s32z ?n32z
      case s32z =>
        intro w' hw' hh
        have y0 := hw'.cell c0 (fun h => h)
        have y1 := hw'.cell c1 (fun h => h)
        clear hw' hh
        refine G.upon_value ?_
        go_simp
        try rfl
      simp only [Act.put, List.setIfInBounds_toArray, List.set_cons_zero, List.set_cons_succ]
      refine G.step (.bool (!bm)) rfl rfl (by first | rfl | (rw [HO.out]; rfl)) ?s33z ?n33z
      case s33z =>
        intro w' hw' hh
        refine G.upon_call ?_ ((cM w').mono fun e w'' ⟨he, hb⟩ => ⟨he, (Fr.refl nob _).below hb⟩)
        clear hw' hh
        go_simp
      simp only [Act.put, List.setIfInBounds_toArray, List.set_cons_zero, List.set_cons_succ]
      refine G.step (.agg #[.slice qB nB cB, .slice tB mB dB]) rfl rfl (by first | rfl | (rw [HO.out]; rfl)) ?s34z ?n34z
      case s34z =>
        intro w' hw' hh
        have y0 := hw'.cell b0 (fun h => h)
        have y1 := hw'.cell b1 (fun h => h)
        clear hw' hh
        refine G.upon_value ?_
        go_simp
        try rfl
      simp only [Act.put, List.setIfInBounds_toArray, List.set_cons_zero, List.set_cons_succ]
      refine G.step (.bool bm) rfl rfl (by first | rfl | (rw [HO.out]; rfl)) ?s35z ?n35z
      case s35z =>
        intro w' hw' hh
        refine G.upon_call ?_ ((rM w' hw').mono fun e w'' ⟨he, hb⟩ => ⟨he, (Fr.refl nob _).below hb⟩)
        clear hw' hh
        go_simp
      simp only [Act.put, List.setIfInBounds_toArray, List.set_cons_zero, List.set_cons_succ]
      refine G.step (.bool (!bm)) rfl rfl (by first | rfl | (rw [HO.out]; rfl)) ?s36z ?n36z
      case s36z =>
        intro w' hw' hh
        clear hw' hh
        refine G.upon_value ?_
        go_simp
        try rfl
      simp only [Act.put, List.setIfInBounds_toArray, List.set_cons_zero, List.set_cons_succ]
      refine G.step (.bool true) rfl rfl (by first | rfl | (rw [HO.out]; rfl)) ?s37z ?n37z
      case s37z =>
        intro w' hw' hh
        clear hw' hh
        refine G.upon_value ?_
        go_simp
        try rfl
      simp only [Act.put, List.setIfInBounds_toArray, List.set_cons_zero, List.set_cons_succ]
      refine G.step (.bool true) rfl rfl (by first | rfl | (rw [HO.out]; rfl)) ?s38z ?n38z
      case s38z =>
        intro w' hw' hh
        clear hw' hh
        refine G.upon_value ?_
        go_simp
        try rfl
      simp only [Act.put, List.setIfInBounds_toArray, List.set_cons_zero, List.set_cons_succ]
      refine G.step (.bool true) rfl rfl (by first | rfl | (rw [HO.out]; rfl)) ?s39z ?n39z
      case s39z =>
        intro w' hw' hh
        clear hw' hh
        refine G.upon_value ?_
        go_simp
        try rfl
      simp only [Act.put, List.setIfInBounds_toArray, List.set_cons_zero, List.set_cons_succ]
      refine G.step (dval A) rfl rfl (by first | rfl | (rw [HO.out]; rfl)) ?s40z ?n40z
      case s40z =>
        intro w' hw' hh
        have y0 := hw'.cell a0 (fun h => h)
        have y1 := hw'.cell a1 (fun h => h)
        clear hw' hh
        refine G.upon_value ?_
        go_simp
        try rfl
      simp only [Act.put, List.setIfInBounds_toArray, List.set_cons_zero, List.set_cons_succ]
      refine G.step (.int .u32 (sup : Int)) rfl rfl (by first | rfl | (rw [HO.out]; rfl)) ?s41z ?n41z
      case s41z =>
        intro w' hw' hh
        refine G.upon_call ?_ ((cU w').mono fun e w'' ⟨he, hb⟩ => ⟨he, (Fr.refl nob _).below hb⟩)
        clear hw' hh
        go_simp
      simp only [Act.put, List.setIfInBounds_toArray, List.set_cons_zero, List.set_cons_succ]
      refine G.step (.agg #[.slice qP nP cP, .slice tP mP dP]) rfl rfl (by first | rfl | (rw [HO.out]; rfl)) ?s42z ?n42z
      case s42z =>
        intro w' hw' hh
        have y0 := hw'.cell p0 (fun h => h)
        have y1 := hw'.cell p1 (fun h => h)
        clear hw' hh
        refine G.upon_value ?_
        go_simp
        try rfl
      simp only [Act.put, List.setIfInBounds_toArray, List.set_cons_zero, List.set_cons_succ]
      refine G.step (.int .u32 (sup : Int)) rfl rfl (by first | rfl | (rw [HO.out]; rfl)) ?s43z ?n43z
      case s43z =>
        intro w' hw' hh
        refine G.upon_call ?_ ((rU w' hw').mono fun e w'' ⟨he, hb⟩ => ⟨he, (Fr.refl nob _).below hb⟩)
        clear hw' hh
        go_simp
      simp only [Act.put, List.setIfInBounds_toArray, List.set_cons_zero, List.set_cons_succ]
      refine G.step (.bool true) rfl rfl (by first | rfl | (rw [HO.out]; rfl)) ?s44z ?n44z
      case s44z =>
        intro w' hw' hh
        clear hw' hh
        refine G.upon_value ?_
        go_simp
        try rfl
      simp only [Act.put, List.setIfInBounds_toArray, List.set_cons_zero, List.set_cons_succ]
      refine G.step (.bool true) rfl rfl (by first | rfl | (rw [HO.out]; rfl)) ?s45z ?n45z
      case s45z =>
        intro w' hw' hh
        clear hw' hh
        refine G.upon_value ?_
        go_simp
        try rfl
      simp only [Act.put, List.setIfInBounds_toArray, List.set_cons_zero, List.set_cons_succ]
      refine G.step (.bool true) rfl rfl (by first | rfl | (rw [HO.out]; rfl)) ?s46z ?n46z
      case s46z =>
        intro w' hw' hh
        clear hw' hh
        refine G.upon_value ?_
        go_simp
        try rfl
      simp only [Act.put, List.setIfInBounds_toArray, List.set_cons_zero, List.set_cons_succ]
      refine G.step (.int .u32 (fon : Int)) rfl rfl (by first | rfl | (rw [HO.out]; rfl)) ?s47z ?n47z
      case s47z =>
        intro w' hw' hh
        clear hw' hh
        refine G.upon_value ?_
        go_simp
        try rfl
      simp only [Act.put, List.setIfInBounds_toArray, List.set_cons_zero, List.set_cons_succ]
      refine G.step (.int .u32 (fon : Int)) rfl rfl (by first | rfl | (rw [HO.out]; rfl)) ?s48z ?n48z
      case s48z =>
        intro w' hw' hh
        clear hw' hh
        refine G.upon_value ?_
        go_simp
        try rfl
      simp only [Act.put, List.setIfInBounds_toArray, List.set_cons_zero, List.set_cons_succ]
      refine G.step (.bool true) rfl rfl (by first | rfl | (rw [HO.out]; rfl)) ?s49z ?n49z
      case s49z =>
        intro w' hw' hh
        clear hw' hh
        refine G.upon_value ?_
        go_simp
        try rfl
      simp only [Act.put, List.setIfInBounds_toArray, List.set_cons_zero, List.set_cons_succ]
      refine G.step (.bool true) rfl rfl (by first | rfl | (rw [HO.out]; rfl)) ?s50z ?n50z
      case s50z =>
        intro w' hw' hh
        clear hw' hh
        refine G.upon_value ?_
        go_simp
        try rfl
      simp only [Act.put, List.setIfInBounds_toArray, List.set_cons_zero, List.set_cons_succ]
      refine G.step (.bool true) rfl rfl (by first | rfl | (rw [HO.out]; rfl)) ?s51z ?n51z
      case s51z =>
        intro w' hw' hh
        clear hw' hh
        refine G.upon_value ?_
        go_simp
        try rfl
      simp only [Act.put, List.setIfInBounds_toArray, List.set_cons_zero, List.set_cons_succ]
      refine G.step (.int .u32 (fof : Int)) rfl rfl (by first | rfl | (rw [HO.out]; rfl)) ?s52z ?n52z
      case s52z =>
        intro w' hw' hh
        clear hw' hh
        refine G.upon_value ?_
        go_simp
        try rfl
      simp only [Act.put, List.setIfInBounds_toArray, List.set_cons_zero, List.set_cons_succ]
      refine G.step (.int .u32 (fof : Int)) rfl rfl (by first | rfl | (rw [HO.out]; rfl)) ?s53z ?n53z
      case s53z =>
        intro w' hw' hh
        clear hw' hh
        refine G.upon_value ?_
        go_simp
        try rfl
      simp only [Act.put, List.setIfInBounds_toArray, List.set_cons_zero, List.set_cons_succ]
      refine G.step (.bool true) rfl rfl (by first | rfl | (rw [HO.out]; rfl)) ?s54z ?n54z
      case s54z =>
        intro w' hw' hh
        clear hw' hh
        refine G.upon_value ?_
        go_simp
        try rfl
      simp only [Act.put, List.setIfInBounds_toArray, List.set_cons_zero, List.set_cons_succ]
      refine G.step (.bool true) rfl rfl (by first | rfl | (rw [HO.out]; rfl)) ?s55z ?n55z
      case s55z =>
        intro w' hw' hh
        clear hw' hh
        refine G.upon_value ?_
        go_simp
        try rfl
      simp only [Act.put, List.setIfInBounds_toArray, List.set_cons_zero, List.set_cons_succ]
      refine G.step (.bool true) rfl rfl (by first | rfl | (rw [HO.out]; rfl)) ?s56z ?n56z
      case s56z =>
        intro w' hw' hh
        clear hw' hh
        refine G.upon_value ?_
        go_simp
        try rfl
      simp only [Act.put, List.setIfInBounds_toArray, List.set_cons_zero, List.set_cons_succ]
      refine G.step (.bool true) rfl rfl (by first | rfl | (rw [HO.out]; rfl)) ?s57z ?n57z
      case s57z =>
        intro w' hw' hh
        refine G.upon_call ?_ ((wakes_any w').mono fun e w'' ⟨he, hb⟩ => ⟨he, (Fr.refl nob _).below hb⟩)
        clear hw' hh
        go_simp
      simp only [Act.put, List.setIfInBounds_toArray, List.set_cons_zero, List.set_cons_succ]
      refine G.step (.bool true) rfl rfl (by first | rfl | (rw [HO.out]; rfl)) ?s58z ?n58z
      case s58z =>
        intro w' hw' hh
        clear hw' hh
        refine G.upon_value ?_
        go_simp
        try rfl
      simp only [Act.put, List.setIfInBounds_toArray, List.set_cons_zero, List.set_cons_succ]
      refine G.nil ?_
      intro w9 listed9 fr9 hall hmade
      have HF9 := Lib.hid (HF8.out.trans fr9 (fun _ _ h => h))
      clear hall hmade fr9 HF8 HP8 HQ8 HB8 cE cF cS cW cM cU rE rF rS rW rM rU a0 a1 c0 c1 p0 p1 q0 q1 b0 b1 hokA hokC hokB
      rw [HTL.out]
      go_wp2_with fail
      go_ret
      exact ⟨rfl, HF9.out.to_below (Nat.le_refl _) (fun _ h => h.elim)⟩
end Go.Proofs.YtpmnfpjpdpejgaaDoor
