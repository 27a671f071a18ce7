import Derived.Test.YtiainlccodnlmaaGreatDoorBoths
import Derived.Test.YtiainlccodnlmaaGreatDoorRB
import Derived.Test.YtiainlccodnlmaaGreatDoorBet
import Derived.Test.YtiainlccodnlmaaGreatDoorWake
import Derived.BigQuiet
namespace Go.Proofs.YtiainlccodnlmaaGreatDoor
open Go.RowKit Go.Shelf
open Bd

theorem lw_val {P : Program} {ops : Array Oper} {rest : List Oper} {o : Oper} {a : Act} {w : World} {Q : Exit → Act → World → Prop} {v : Value} (hw : Region.wanted o (yielded ops a.tmps) = true) (h : (execOp a.eval o).run P w = .ok (.value v) w) (k : wpList P ops Q rest (a.put o.dst v) w) : wpList P ops Q (o :: rest) a w := by
  refine wpList_step fun K hK => ?_
  rw [if_pos hw]
  unfold Oper.wp
  rw [h]
  exact hK _ _ k
theorem lw_call {P : Program} {ops : Array Oper} {rest : List Oper} {o : Oper} {a : Act} {w : World} {Q : Exit → Act → World → Prop} {v : Value} {f : FuncId} {args : Array Value} (hw : Region.wanted o (yielded ops a.tmps) = true) (h : (execOp a.eval o).run P w = .ok (.enter f args) w)
    (hc : Calls P f args w fun e w' => e = .returned v ∧ Fr nob w w') (k : ∀ w', Fr nob w w' → wpList P ops Q rest (a.put o.dst v) w') : wpList P ops Q (o :: rest) a w := by
  refine wpList_step fun K hK => ?_
  rw [if_pos hw]
  unfold Oper.wp
  rw [h, Oper.upon_enter]
  refine hc.mono fun e w' hh => ?_
  obtain ⟨rfl, hf⟩ := hh
  exact hK _ _ (k w' hf)
theorem box2x (W : World) (a b c d : Value) (T1 T2 : TypeId) : Box2 (((W.alloc (.cells #[a, b] T1)).alloc (.cells #[c, d] T2)).drew) W.heap.size a b ∧ Box2 (((W.alloc (.cells #[a, b] T1)).alloc (.cells #[c, d] T2)).drew) (W.heap.size + 1) c d := by
  have h2 := Box2.new (W.alloc (.cells #[a, b] T1)) c d T2
  simp only [World.size_alloc] at h2
  exact ⟨(Box2.new W a b T1).kept (S := nob) (((Fr.refl nob _).alloc _).drew) (fun h => h), h2.kept (S := nob) ((Fr.refl nob _).drew) (fun h => h)⟩
theorem chp_form (w : Nat → Int) (ok : Bool) (A : B) : ∃ (u : Nat) (s er : Int), chpV w ok A = .tuple #[.int .u32 (u : Int), .int .i64 s, .int .i64 er] := by
  unfold chpV
  cases ok with
  | false => exact ⟨0, 0, 2, rfl⟩
  | true =>
    by_cases h : A = .F
    · rw [if_pos rfl, if_pos h]; exact ⟨0, 0, 8, rfl⟩
    · rw [if_pos rfl, if_neg h]; exact ⟨_, _, _, rfl⟩

set_option maxRecDepth 100000 in
set_option maxHeartbeats 4000000 in
theorem best_law (L : List OpD) (hx : ∀ x ∈ L, x.Fits) (m0 : Nat) (hm0 : m0 < 4294967296) (lc : List Int) (v : Value) (ac : Option Addr) (capc : Nat) (w : World) (hv : ORow w v L) (hI : IRow w (.slice ac lc.length capc) lc) (hg : 0 < w.heap.size) (hT : Tab32 w) :
    Calls Tryz.prog 3 #[v, .int .u32 (m0 : Int), .slice ac lc.length capc] w fun e w' => e = .returned (.bool true) ∧ Below w.heap.size w w' := by
  have hme := Mentioned_any L hx v w hv
  have HX := Lib.hid hx
  have HV := Lib.hid hv
  have HT := Lib.hid hT
  have HIC := Lib.hid hI
  obtain ⟨a, cap, rfl⟩ := hv.form
  clear hv hx hT hI
  go_enter Tryz.func3, Tryz.ntmps3
  go_wp2_with fail
  refine hme.mono ?_
  clear hme
  rintro e w1 ⟨b, rfl, hb, hb1⟩
  have f1 := (Fr.refl nob w).below hb1
  clear hb1
  cases b with
  | false =>
    clear hb
    go_wp2_with fail
    refine (wakes_any _).mono ?_
    rintro e w2 ⟨rfl, hb2⟩
    have f2 := f1.below hb2
    go_wp2_with fail
    go_ret
    exact ⟨rfl, f2.to_below (Nat.le_refl _) (fun _ h => h.elim)⟩
  | true =>
    by_cases hlc : 40 < lc.length
    · have d1 : decide (40 < (lc.length : Int)) = true := by simp; omega
      clear hb
      go_wp2_with fail
      refine (wakes_any _).mono ?_
      rintro e w2 ⟨rfl, hb2⟩
      have f2 := f1.below hb2
      go_wp2_with fail
      go_ret
      exact ⟨rfl, f2.to_below (Nat.le_refl _) (fun _ h => h.elim)⟩
    · have d1 : decide (40 < (lc.length : Int)) = false := by simp; omega
      obtain ⟨h12, h40⟩ := hb rfl
      have hbo := Both_any L (by omega) (fun x hm => ⟨HX.out x hm, Nat.le_trans (h40 x hm) (by decide)⟩) _ w1 (HV.out.kept f1) (Nat.lt_of_lt_of_le hg f1.size) (HT.out.below (f1.to_below (B := w.heap.size) (Nat.le_refl _) (fun _ h => h.elim)) hg)
      have hlen : (scr L).length = L.length + 1 := scr_len L
      have HOK := Lib.hid (ok_scr L)
      have HF1 := Lib.hid f1
      clear hb h40 f1
      generalize scr L = s at *
      obtain ⟨m, hm⟩ : ∃ m, s.length = m + 1 := ⟨L.length, hlen⟩
      have hml : m < s.length := by omega
      have hm13 : m ≤ 12 := by omega
      have HBO := Lib.hid hbo
      have HLEN := Lib.hid hm
      have HML := Lib.hid hml
      clear hlen hml hbo hm
      go_wp2_with fail
      refine HBO.out.mono ?_
      clear HBO
      rintro e w2 ⟨sv, tv, rfl, hS, hTr, hb2⟩
      have HF2 := Lib.hid (HF1.out.below hb2)
      clear hb2 HF1
      obtain ⟨aS, capS, rfl⟩ := hS.form
      obtain ⟨gT, capT, rfl⟩ := hTr.form
      have hml := HML.out
      obtain ⟨gS, rfl, c0, c1⟩ := hS.at (getD_some hml)
      obtain ⟨qY, nY, cY, tY, mY, dY, VY, p0, p1, hsY⟩ := hTr.at hml
      have hok := ok_getD HOK.out m
      have hm := HLEN.out
      rw [hm]
      clear hS hTr hml hm HML HLEN HOK
      generalize s.getD m .F = A at *
      have HRY := Lib.hid hsY
      have HOKA := Lib.hid hok
      have HGT := Lib.hid hg
      clear hsY hok hg
      go_upto_region 4 with fail
      go_cut [10, 11] (fun s10 s11 wx => ∃ g10 g11, s10 = .pointer (some ⟨g10, 0, none⟩) ∧ s11 = .pointer (some ⟨g11, 0, none⟩) ∧ Fr nob w2 wx ∧ Box2 wx g10 (.int .u32 (place (li A) A : Int)) (.string ⟨(code (rows (li A))).toArray⟩) ∧ Box2 wx g11 (.slice qY nY cY) (.slice tY mY dY))
      case first =>
        have u1 : (0 : Int) ≤ (m : Int) := Int.natCast_nonneg _
        have em : ((m + 1 : Nat) : Int) - 1 = (m : Int) := by omega
        have v3 : IntKind.i64.wrap (m : Int) = (m : Int) := by rw [IntKind.wrap_i64]; omega
        have v4 : IntKind.i64.wrap ((m : Int) + 1 - 1) = (m : Int) := by rw [IntKind.wrap_i64]; omega
        have v5 : (m : Int) < (m : Int) + 1 := by omega
        have v6 : (m : Int).toNat = m := by omega
        have keepS : ∀ w', Fr nob w2 w' → (w'.cell? ⟨gS, m * 2, none⟩ = some (.int .u32 (place (li A) A : Int)) ∧ w'.cell? ⟨gS, m * 2 + 1, none⟩ = some (.string ⟨(code (rows (li A))).toArray⟩) ∧ w'.cell? ⟨gT, m * 2, none⟩ = some (.slice qY nY cY) ∧ w'.cell? ⟨gT, m * 2 + 1, none⟩ = some (.slice tY mY dY)) := fun w' f => ⟨f.cell c0 (fun h => h), f.cell c1 (fun h => h), f.cell p0 (fun h => h), f.cell p1 (fun h => h)⟩
        go_region_held3? (fun w' => w'.cell? ⟨gS, m * 2, none⟩ = some (.int .u32 (place (li A) A : Int)) ∧ w'.cell? ⟨gS, m * 2 + 1, none⟩ = some (.string ⟨(code (rows (li A))).toArray⟩) ∧ w'.cell? ⟨gT, m * 2, none⟩ = some (.slice qY nY cY) ∧ w'.cell? ⟨gT, m * 2 + 1, none⟩ = some (.slice tY mY dY))
          (first | exact keepS _ ((Fr.refl nob w2)) | exact keepS _ ((Fr.refl nob w2).drew) | exact keepS _ ((((Fr.refl nob w2)).alloc _)) | exact keepS _ ((((Fr.refl nob w2)).alloc _).drew) | exact keepS _ ((((((Fr.refl nob w2)).alloc _)).alloc _)) | exact keepS _ ((((((Fr.refl nob w2)).alloc _)).alloc _).drew) | go_keep)
          (first | fail)
        all_goals (go_wp2_with fail)
        all_goals go_meet
        all_goals
          refine ⟨_, _, rfl, rfl, ((Fr.refl nob w2).alloc _).alloc _ |>.drew, ?_, ?_⟩
        all_goals first
          | exact (box2x w2 _ _ _ _ _ _).1
          | exact (box2x w2 _ _ _ _ _ _).2
      case rest =>
        obtain ⟨g10, g11, rfl, rfl, frx, b10, b11⟩ := hcut
        have HD := Lib.hid b10
        have HS := Lib.hid b11
        have HR := Lib.hid (HRY.out.kept frx)
        have HF := Lib.hid (HF2.out.trans frx (fun _ _ h => h))
        have hok := HOKA.out
        have hbx := bstN_lt (cw := fun _ => 0) (fun _ => by omega) hok
        have HL1 := Lib.hid (Least_any A hok)
        have HL2 := Lib.hid (fun W h => RLeast_any A hok VY (.agg #[.slice qY nY cY, .slice tY mY dY]) W h)
        have HS1 := Lib.hid (Smallest_any A hok)
        have HS2 := Lib.hid (fun W h => RSmall_any A hok VY (.agg #[.slice qY nY cY, .slice tY mY dY]) W h)
        have HN1 := Lib.hid (fun W (h : Fr nob w W) => Nearest_any A hok m0 hm0 W (Nat.lt_of_lt_of_le HGT.out h.size) (HT.out.below (h.to_below (B := w.heap.size) (Nat.le_refl _) (fun _ h => h.elim)) HGT.out))
        have HN2 := Lib.hid (fun W h => RNear_any A hok m0 VY (.agg #[.slice qY nY cY, .slice tY mY dY]) W h)
        have hch := fun W v' (h : Fr nob w W) (hr : SRow W v' (lc.map (Value.int .i64))) => Cheapest_any A hok lc (by omega) v' W hr (Nat.lt_of_lt_of_le HGT.out h.size) (HT.out.below (h.to_below (B := w.heap.size) (Nat.le_refl _) (fun _ h => h.elim)) HGT.out)
        have hrc := fun W h hi => RCheap_any A hok lc (by omega) VY (.agg #[.slice qY nY cY, .slice tY mY dY]) (.slice ac lc.length capc) W h hi
        obtain ⟨u, s1, er, hu⟩ := chp_form (wC lc) (wOk lc) A
        simp only [hu] at hch hrc
        have HCH := Lib.hid hch
        have HRC := Lib.hid hrc
        clear hch hrc hu frx b10 b11 HRY HF2 HOKA c0 c1 p0 p1 hbx hok
        generalize bstN (fun _ => 0) A = x1 at *
        generalize bstN (fun _ => 1) A = x2 at *
        generalize bstN (cwN (ints (featL m0))) A = x3 at *
        generalize (!decide (A = .F)) = b1 at *
        have a0 := HD.out.c0
        have a1 := HD.out.c1
        go_wp2_with fail
        refine (HL1.out _).mono ?_
        rintro e w3 ⟨rfl, hb⟩
        have f := (Fr.refl nob wc).below hb
        have HD9 := Lib.hid (HD.out.kept f (fun h => h))
        have HS9 := Lib.hid (HS.out.kept f (fun h => h))
        have HR9 := Lib.hid (HR.out.kept f)
        have HF9 := Lib.hid (HF.out.trans f (fun _ _ h => h))
        clear hb f HD HS HR HF HL1 a0 a1
        have HD := HD9
        have HS := HS9
        have HR := HR9
        have HF := HF9
        clear HD9 HS9 HR9 HF9
        have e0 := HS.out.c0
        have e1 := HS.out.c1
        go_wp2_with fail
        refine (HL2.out _ HR.out).mono ?_
        rintro e w4 ⟨rfl, hb⟩
        have f := (Fr.refl nob w3).below hb
        have HD9 := Lib.hid (HD.out.kept f (fun h => h))
        have HS9 := Lib.hid (HS.out.kept f (fun h => h))
        have HR9 := Lib.hid (HR.out.kept f)
        have HF9 := Lib.hid (HF.out.trans f (fun _ _ h => h))
        clear hb f HD HS HR HF HL2 e0 e1
        have HD := HD9
        have HS := HS9
        have HR := HR9
        have HF := HF9
        clear HD9 HS9 HR9 HF9
        have a0 := HD.out.c0
        have a1 := HD.out.c1
        go_wp2_with fail
        refine (HS1.out _).mono ?_
        rintro e w5 ⟨rfl, hb⟩
        have f := (Fr.refl nob w4).below hb
        have HD9 := Lib.hid (HD.out.kept f (fun h => h))
        have HS9 := Lib.hid (HS.out.kept f (fun h => h))
        have HR9 := Lib.hid (HR.out.kept f)
        have HF9 := Lib.hid (HF.out.trans f (fun _ _ h => h))
        clear hb f HD HS HR HF HS1 a0 a1
        have HD := HD9
        have HS := HS9
        have HR := HR9
        have HF := HF9
        clear HD9 HS9 HR9 HF9
        have e0 := HS.out.c0
        have e1 := HS.out.c1
        go_wp2_with fail
        refine (HS2.out _ HR.out).mono ?_
        rintro e w6 ⟨rfl, hb⟩
        have f := (Fr.refl nob w5).below hb
        have HD9 := Lib.hid (HD.out.kept f (fun h => h))
        have HS9 := Lib.hid (HS.out.kept f (fun h => h))
        have HR9 := Lib.hid (HR.out.kept f)
        have HF9 := Lib.hid (HF.out.trans f (fun _ _ h => h))
        clear hb f HD HS HR HF HS2 e0 e1
        have HD := HD9
        have HS := HS9
        have HR := HR9
        have HF := HF9
        clear HD9 HS9 HR9 HF9
        have a0 := HD.out.c0
        have a1 := HD.out.c1
        go_wp2_with fail
        refine (HN1.out _ HF.out).mono ?_
        rintro e w7 ⟨rfl, hb⟩
        have f := (Fr.refl nob w6).below hb
        have HD9 := Lib.hid (HD.out.kept f (fun h => h))
        have HS9 := Lib.hid (HS.out.kept f (fun h => h))
        have HR9 := Lib.hid (HR.out.kept f)
        have HF9 := Lib.hid (HF.out.trans f (fun _ _ h => h))
        clear hb f HD HS HR HF HN1 a0 a1
        have HD := HD9
        have HS := HS9
        have HR := HR9
        have HF := HF9
        clear HD9 HS9 HR9 HF9
        have e0 := HS.out.c0
        have e1 := HS.out.c1
        go_wp2_with fail
        refine (HN2.out _ HR.out).mono ?_
        rintro e w9 ⟨rfl, hb⟩
        have f := (Fr.refl nob w7).below hb
        have HD9 := Lib.hid (HD.out.kept f (fun h => h))
        have HS9 := Lib.hid (HS.out.kept f (fun h => h))
        have HR9 := Lib.hid (HR.out.kept f)
        have HF9 := Lib.hid (HF.out.trans f (fun _ _ h => h))
        clear hb f HD HS HR HF HN2 e0 e1
        have HD := HD9
        have HS := HS9
        have HR := HR9
        have HF := HF9
        clear HD9 HS9 HR9 HF9
        go_upto_region 11 with fail
        refine E.wp_region_any_call 10 150 2 (fun i => i == 3 || i == 4 || i == 5 || i == 6 || i == 7 || i == 8 || i == 9) (fun w' => Fr nob w9 w') (fun v w' => Fr nob w9 w' ∧ SRow w' v (lc.map (Value.int .i64))) (fun _ => True)
          (fun _ => #[]) [] (by kernel_rfl) (by kernel_rfl) rfl (by decide) (by kernel_rfl) (by kernel_rfl) (fun _ h => h) (fun _ h => h.size) (fun _ _ h k => h.trans k (fun _ _ h => h)) ⟨undef, trivial⟩ (fun _ _ _ => trivial) (fun _ _ h => h.1.size)
          (fun _ _ _ h k => ⟨h.1.trans k (fun _ _ h => h), h.2.kept k⟩) rfl (by intro T h; cases h) ?_
        rintro v2 -
        simp only [List.take_succ_cons, List.take_zero]
        refine E.anyc_value (v := dval A) rfl rfl rfl rfl ?o0 ?_
        case o0 =>
          intro w' h
          have hf : Fr nob w9 w' := h.elim (fun h => h) (fun h => h.1)
          have ⟨a0, a1, rf⟩ := HD.out.kept hf (fun h => h)
          have f0 := rf 0
          have f1 := rf 1
          clear h hf rf
          go_simp
          try rfl
        simp only [Act.put, List.setIfInBounds_toArray, List.set_cons_zero, List.set_cons_succ]
        refine E.anyc_value (v := .slice ac lc.length capc) rfl rfl rfl rfl ?o1 ?_
        case o1 =>
          intro w' h
          clear h
          go_simp
          try rfl
        simp only [Act.put, List.setIfInBounds_toArray, List.set_cons_zero, List.set_cons_succ]
        refine E.anyc_op rfl rfl rfl ?o2 ?_
        case o2 =>
          intro w' hf
          obtain ⟨v', w'', hrun, hs', fr'⟩ := copyI w' ac lc capc (by omega) (HIC.out.kept (HF.out.trans hf (fun _ _ h => h)) (fun _ _ h => h))
          refine ⟨v', w'', ?_, ⟨hf.trans fr' (fun _ _ h => h), hs'⟩, fr'.size, fun b _ hb => fr'.block b hb (fun h => h)⟩
          simp [execOp, resolve, invoke, builtin]
          erw [hrun]
          rfl
        simp only [Act.put, List.setIfInBounds_toArray, List.set_cons_zero, List.set_cons_succ]
        refine E.anyc_behind (v := .tuple #[.int .u32 (u : Int), .int .i64 s1, .int .i64 er]) rfl rfl rfl rfl ?o3 ?_
        case o3 =>
          intro w' h
          refine E.upon_call (f := 15) (args := #[dval A, v2]) ?_ ((HCH.out w' v2 (HF.out.trans h.1 (fun _ _ h => h)) h.2).mono fun e w'' ⟨he, hb⟩ => ⟨he, (Fr.refl nob _).below hb⟩)
          go_simp
        simp only [Act.put, List.setIfInBounds_toArray, List.set_cons_zero, List.set_cons_succ]
        refine E.anyc_behind (v := .tuple #[.int .u32 (u : Int), .int .i64 s1, .int .i64 er]) rfl rfl rfl rfl ?o4 ?_
        case o4 =>
          intro w' _
          refine E.upon_value ?_
          go_simp
          try rfl
        simp only [Act.put, List.setIfInBounds_toArray, List.set_cons_zero, List.set_cons_succ]
        refine E.anyc_behind (v := .int .u32 (u : Int)) rfl rfl rfl rfl ?o5 ?_
        case o5 =>
          intro w' _
          refine E.upon_value ?_
          go_simp
          try rfl
        simp only [Act.put, List.setIfInBounds_toArray, List.set_cons_zero, List.set_cons_succ]
        refine E.anyc_behind (v := .int .i64 s1) rfl rfl rfl rfl ?o6 ?_
        case o6 =>
          intro w' _
          refine E.upon_value ?_
          go_simp
          try rfl
        simp only [Act.put, List.setIfInBounds_toArray, List.set_cons_zero, List.set_cons_succ]
        refine E.anyc_behind (v := .int .i64 er) rfl rfl rfl rfl ?o7 ?_
        case o7 =>
          intro w' _
          refine E.upon_value ?_
          go_simp
          try rfl
        simp only [Act.put, List.setIfInBounds_toArray, List.set_cons_zero, List.set_cons_succ]
        refine E.anyc_behind (v := .int .u32 (u : Int)) rfl rfl rfl rfl ?o8 ?_
        case o8 =>
          intro w' _
          refine E.upon_value ?_
          go_simp
          try rfl
        simp only [Act.put, List.setIfInBounds_toArray, List.set_cons_zero, List.set_cons_succ]
        refine E.anyc_behind (v := .int .i64 s1) rfl rfl rfl rfl ?o9 ?_
        case o9 =>
          intro w' _
          refine E.upon_value ?_
          go_simp
          try rfl
        simp only [Act.put, List.setIfInBounds_toArray, List.set_cons_zero, List.set_cons_succ]
        refine E.anyc_nil ?_
        rintro w4 listed ⟨fr4, -⟩ - -
        have HF4 := Lib.hid (HF.out.trans fr4 (fun _ _ h => h))
        have D4 := HD.out.kept fr4 (fun h => h)
        have a0 := D4.c0
        have a1 := D4.c1
        have HX4 := Lib.hid fr4
        clear fr4
        have HR4 := Lib.hid (HR.out.kept (HX4.out))
        have HS4 := Lib.hid (HS.out.kept HX4.out (fun h => h))
        have HI4 := Lib.hid (HIC.out.kept HF4.out (fun _ _ h => h))
        clear a0 a1 D4 HR HS HF HD HX4 HCH
        have e0 := HS4.out.c0
        have e1 := HS4.out.c1
        go_wp2_with fail
        refine (HRC.out _ HR4.out HI4.out).mono ?_
        rintro e w10 ⟨rfl, hb10⟩
        have HF10 := Lib.hid (HF4.out.below hb10)
        clear hb10 e0 e1 HRC HR4 HS4 HI4 HF4
        go_upto_region 13 with fail
        refine wp_region_lit ?_
        refine lw_val (v := .int .u32 (x1 : Int)) rfl ?v1 ?_
        case v1 =>
          go_simp
          try rfl
        simp only [Act.put, List.setIfInBounds_toArray, List.set_cons_zero, List.set_cons_succ]
        refine lw_val (v := .int .u32 (x1 : Int)) rfl ?v2 ?_
        case v2 =>
          go_simp
          try rfl
        simp only [Act.put, List.setIfInBounds_toArray, List.set_cons_zero, List.set_cons_succ]
        refine lw_val (v := Value.bool true) rfl ?v3 ?_
        case v3 =>
          go_simp
          try rfl
        simp only [Act.put, List.setIfInBounds_toArray, List.set_cons_zero, List.set_cons_succ]
        refine lw_val (v := Value.bool true) rfl ?v4 ?_
        case v4 =>
          go_simp
          try rfl
        simp only [Act.put, List.setIfInBounds_toArray, List.set_cons_zero, List.set_cons_succ]
        refine lw_val (v := .bool b1) rfl ?v5 ?_
        case v5 =>
          go_simp
          try rfl
        simp only [Act.put, List.setIfInBounds_toArray, List.set_cons_zero, List.set_cons_succ]
        refine lw_val (v := .bool b1) rfl ?v6 ?_
        case v6 =>
          go_simp
          try rfl
        simp only [Act.put, List.setIfInBounds_toArray, List.set_cons_zero, List.set_cons_succ]
        refine lw_val (v := Value.bool true) rfl ?v7 ?_
        case v7 =>
          go_simp
          try rfl
        simp only [Act.put, List.setIfInBounds_toArray, List.set_cons_zero, List.set_cons_succ]
        refine lw_val (v := Value.bool true) rfl ?v8 ?_
        case v8 =>
          go_simp
          try rfl
        simp only [Act.put, List.setIfInBounds_toArray, List.set_cons_zero, List.set_cons_succ]
        refine lw_val (v := Value.bool true) rfl ?v9 ?_
        case v9 =>
          go_simp
          try rfl
        simp only [Act.put, List.setIfInBounds_toArray, List.set_cons_zero, List.set_cons_succ]
        refine lw_val (v := .int .u32 (x2 : Int)) rfl ?v10 ?_
        case v10 =>
          go_simp
          try rfl
        simp only [Act.put, List.setIfInBounds_toArray, List.set_cons_zero, List.set_cons_succ]
        refine lw_val (v := .int .u32 (x2 : Int)) rfl ?v11 ?_
        case v11 =>
          go_simp
          try rfl
        simp only [Act.put, List.setIfInBounds_toArray, List.set_cons_zero, List.set_cons_succ]
        refine lw_val (v := Value.bool true) rfl ?v12 ?_
        case v12 =>
          go_simp
          try rfl
        simp only [Act.put, List.setIfInBounds_toArray, List.set_cons_zero, List.set_cons_succ]
        refine lw_val (v := Value.bool true) rfl ?v13 ?_
        case v13 =>
          go_simp
          try rfl
        simp only [Act.put, List.setIfInBounds_toArray, List.set_cons_zero, List.set_cons_succ]
        refine lw_val (v := Value.bool true) rfl ?v14 ?_
        case v14 =>
          go_simp
          try rfl
        simp only [Act.put, List.setIfInBounds_toArray, List.set_cons_zero, List.set_cons_succ]
        refine lw_val (v := .bool b1) rfl ?v15 ?_
        case v15 =>
          go_simp
          try rfl
        simp only [Act.put, List.setIfInBounds_toArray, List.set_cons_zero, List.set_cons_succ]
        refine lw_val (v := .bool b1) rfl ?v16 ?_
        case v16 =>
          go_simp
          try rfl
        simp only [Act.put, List.setIfInBounds_toArray, List.set_cons_zero, List.set_cons_succ]
        refine lw_val (v := Value.bool true) rfl ?v17 ?_
        case v17 =>
          go_simp
          try rfl
        simp only [Act.put, List.setIfInBounds_toArray, List.set_cons_zero, List.set_cons_succ]
        refine lw_val (v := Value.bool true) rfl ?v18 ?_
        case v18 =>
          go_simp
          try rfl
        simp only [Act.put, List.setIfInBounds_toArray, List.set_cons_zero, List.set_cons_succ]
        refine lw_val (v := Value.bool true) rfl ?v19 ?_
        case v19 =>
          go_simp
          try rfl
        simp only [Act.put, List.setIfInBounds_toArray, List.set_cons_zero, List.set_cons_succ]
        refine lw_val (v := .int .u32 (x3 : Int)) rfl ?v20 ?_
        case v20 =>
          go_simp
          try rfl
        simp only [Act.put, List.setIfInBounds_toArray, List.set_cons_zero, List.set_cons_succ]
        refine lw_val (v := .int .u32 (x3 : Int)) rfl ?v21 ?_
        case v21 =>
          go_simp
          try rfl
        simp only [Act.put, List.setIfInBounds_toArray, List.set_cons_zero, List.set_cons_succ]
        refine lw_val (v := Value.bool true) rfl ?v22 ?_
        case v22 =>
          go_simp
          try rfl
        simp only [Act.put, List.setIfInBounds_toArray, List.set_cons_zero, List.set_cons_succ]
        refine lw_val (v := Value.bool true) rfl ?v23 ?_
        case v23 =>
          go_simp
          try rfl
        simp only [Act.put, List.setIfInBounds_toArray, List.set_cons_zero, List.set_cons_succ]
        refine lw_val (v := Value.bool true) rfl ?v24 ?_
        case v24 =>
          go_simp
          try rfl
        simp only [Act.put, List.setIfInBounds_toArray, List.set_cons_zero, List.set_cons_succ]
        refine lw_val (v := .bool b1) rfl ?v25 ?_
        case v25 =>
          go_simp
          try rfl
        simp only [Act.put, List.setIfInBounds_toArray, List.set_cons_zero, List.set_cons_succ]
        refine lw_val (v := .bool b1) rfl ?v26 ?_
        case v26 =>
          go_simp
          try rfl
        simp only [Act.put, List.setIfInBounds_toArray, List.set_cons_zero, List.set_cons_succ]
        refine lw_val (v := Value.bool true) rfl ?v27 ?_
        case v27 =>
          go_simp
          try rfl
        simp only [Act.put, List.setIfInBounds_toArray, List.set_cons_zero, List.set_cons_succ]
        refine lw_val (v := Value.bool true) rfl ?v28 ?_
        case v28 =>
          go_simp
          try rfl
        simp only [Act.put, List.setIfInBounds_toArray, List.set_cons_zero, List.set_cons_succ]
        refine lw_val (v := Value.bool true) rfl ?v29 ?_
        case v29 =>
          go_simp
          try rfl
        simp only [Act.put, List.setIfInBounds_toArray, List.set_cons_zero, List.set_cons_succ]
        refine lw_val (v := .int .u32 (u : Int)) rfl ?v30 ?_
        case v30 =>
          go_simp
          try rfl
        simp only [Act.put, List.setIfInBounds_toArray, List.set_cons_zero, List.set_cons_succ]
        refine lw_val (v := .int .u32 (u : Int)) rfl ?v31 ?_
        case v31 =>
          go_simp
          try rfl
        simp only [Act.put, List.setIfInBounds_toArray, List.set_cons_zero, List.set_cons_succ]
        refine lw_val (v := Value.bool true) rfl ?v32 ?_
        case v32 =>
          go_simp
          try rfl
        simp only [Act.put, List.setIfInBounds_toArray, List.set_cons_zero, List.set_cons_succ]
        refine lw_val (v := Value.bool true) rfl ?v33 ?_
        case v33 =>
          go_simp
          try rfl
        simp only [Act.put, List.setIfInBounds_toArray, List.set_cons_zero, List.set_cons_succ]
        refine lw_val (v := Value.bool true) rfl ?v34 ?_
        case v34 =>
          go_simp
          try rfl
        simp only [Act.put, List.setIfInBounds_toArray, List.set_cons_zero, List.set_cons_succ]
        refine lw_val (v := .int .i64 s1) rfl ?v35 ?_
        case v35 =>
          go_simp
          try rfl
        simp only [Act.put, List.setIfInBounds_toArray, List.set_cons_zero, List.set_cons_succ]
        refine lw_val (v := .int .i64 s1) rfl ?v36 ?_
        case v36 =>
          go_simp
          try rfl
        simp only [Act.put, List.setIfInBounds_toArray, List.set_cons_zero, List.set_cons_succ]
        refine lw_val (v := Value.bool true) rfl ?v37 ?_
        case v37 =>
          go_simp
          try rfl
        simp only [Act.put, List.setIfInBounds_toArray, List.set_cons_zero, List.set_cons_succ]
        refine lw_val (v := Value.bool true) rfl ?v38 ?_
        case v38 =>
          go_simp
          try rfl
        simp only [Act.put, List.setIfInBounds_toArray, List.set_cons_zero, List.set_cons_succ]
        refine lw_val (v := Value.bool true) rfl ?v39 ?_
        case v39 =>
          go_simp
          try rfl
        simp only [Act.put, List.setIfInBounds_toArray, List.set_cons_zero, List.set_cons_succ]
        refine lw_val (v := .int .i64 er) rfl ?v40 ?_
        case v40 =>
          go_simp
          try rfl
        simp only [Act.put, List.setIfInBounds_toArray, List.set_cons_zero, List.set_cons_succ]
        refine lw_val (v := .int .i64 er) rfl ?v41 ?_
        case v41 =>
          go_simp
          try rfl
        simp only [Act.put, List.setIfInBounds_toArray, List.set_cons_zero, List.set_cons_succ]
        refine lw_val (v := Value.bool true) rfl ?v42 ?_
        case v42 =>
          go_simp
          try rfl
        simp only [Act.put, List.setIfInBounds_toArray, List.set_cons_zero, List.set_cons_succ]
        refine lw_val (v := Value.bool true) rfl ?v43 ?_
        case v43 =>
          go_simp
          try rfl
        simp only [Act.put, List.setIfInBounds_toArray, List.set_cons_zero, List.set_cons_succ]
        refine lw_val (v := Value.bool true) rfl ?v44 ?_
        case v44 =>
          go_simp
          try rfl
        simp only [Act.put, List.setIfInBounds_toArray, List.set_cons_zero, List.set_cons_succ]
        refine lw_call (v := Value.bool true) rfl ?v45 ((wakes_any _).mono fun e w'' ⟨he, hb⟩ => ⟨he, (Fr.refl nob _).below hb⟩) ?_
        case v45 => go_simp
        intro wq hq
        simp only [Act.put, List.setIfInBounds_toArray, List.set_cons_zero, List.set_cons_succ]
        refine lw_val (v := Value.bool true) rfl ?v46 ?_
        case v46 =>
          go_simp
          try rfl
        simp only [Act.put, List.setIfInBounds_toArray, List.set_cons_zero, List.set_cons_succ]
        have HF11 := Lib.hid (HF10.out.trans hq (fun _ _ h => h))
        clear hq HF10
        go_wp2_with fail
        exact bodyPost_ret (v := .bool true) (by simp [results, Tryz.results3, go_sem]) rfl ⟨rfl, HF11.out.to_below (Nat.le_refl _) (fun _ h => h.elim)⟩
end Go.Proofs.YtiainlccodnlmaaGreatDoor
