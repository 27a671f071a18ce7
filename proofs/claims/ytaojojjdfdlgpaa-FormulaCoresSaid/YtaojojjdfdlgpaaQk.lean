import Derived.Test.YtaojojjdfdlgpaaQj
namespace Go.Proofs.Ytaojojjdfdlgpaa
open Go.RowKit

/-! join: the choice -/
theorem nine_new (w : World) (a b c d e g x y z : Value) (T : TypeId) : (w.alloc (.cells #[a, b, c, d, e, g, x, y, z] T)).cell? ⟨w.heap.size, 0, none⟩ = some a ∧ (w.alloc (.cells #[a, b, c, d, e, g, x, y, z] T)).cell? ⟨w.heap.size, 1, none⟩ = some b ∧ (w.alloc (.cells #[a, b, c, d, e, g, x, y, z] T)).cell? ⟨w.heap.size, 2, none⟩ = some c ∧ (w.alloc (.cells #[a, b, c, d, e, g, x, y, z] T)).cell? ⟨w.heap.size, 3, none⟩ = some d ∧ (w.alloc (.cells #[a, b, c, d, e, g, x, y, z] T)).cell? ⟨w.heap.size, 4, none⟩ = some e ∧ (w.alloc (.cells #[a, b, c, d, e, g, x, y, z] T)).cell? ⟨w.heap.size, 5, none⟩ = some g ∧ (w.alloc (.cells #[a, b, c, d, e, g, x, y, z] T)).cell? ⟨w.heap.size, 6, none⟩ = some x ∧ (w.alloc (.cells #[a, b, c, d, e, g, x, y, z] T)).cell? ⟨w.heap.size, 7, none⟩ = some y ∧ (w.alloc (.cells #[a, b, c, d, e, g, x, y, z] T)).cell? ⟨w.heap.size, 8, none⟩ = some z :=
  ⟨World.cell?_alloc_at _ _ _ _ rfl, World.cell?_alloc_at _ _ _ _ rfl, World.cell?_alloc_at _ _ _ _ rfl, World.cell?_alloc_at _ _ _ _ rfl, World.cell?_alloc_at _ _ _ _ rfl, World.cell?_alloc_at _ _ _ _ rfl, World.cell?_alloc_at _ _ _ _ rfl, World.cell?_alloc_at _ _ _ _ rfl, World.cell?_alloc_at _ _ _ _ rfl⟩
theorem node10 (kv : Value) (hk : ∃ a n c, kv = .slice a n c) (w : World) : Calls Try.prog 132 #[.int .u8 10, kv] w fun e w' => e = .returned (.agg #[.int .u8 10, .string (txt []), kv]) ∧ Fr nob w w' := node_any 10 kv hk w
set_option maxHeartbeats 4000000 in
theorem join_no (s : ByteArray) (t : Tr) (v : Value) (S : Nat → Prop) (p i : Nat) (w : World) (hT : TrV w S t v) (h : PSt w p s i (tokP (TX s) i)) (hi : i ≤ s.size) (htk : tokP (TX s) i ≠ [63]) :
    Calls Try.prog 125 #[.pointer (some ⟨p, 0, none⟩), .int .i64 0, v] w (ResPost s p w (fun b => S b ∨ w.heap.size ≤ b) (.ok (t, i))) := by
  obtain ⟨o, nm, a, ln, cp, rfl⟩ := hT.form
  have hlt := h.lt
  have F1 : Fr nob w ((w.alloc (.cells #[.int .u8 (o : Int), .string (txt nm), .slice a ln cp] 24)).alloc (.cells #[.int .u8 0, .string ⟨#[]⟩, .slice none 0 0] 24)) := ((Fr.refl nob w).alloc _).alloc _
  have H1 := Lib.hid (h.kept F1 (fun h => h))
  have H0 := Lib.hid h
  have HT0 := Lib.hid hT
  have HTK := Lib.hid htk
  clear h hT htk F1
  go_enter Try.func125, Try.ntmps125
  go_wp2_with fail
  refine (accept_no s p i _ [63] _ H1.out HTK.out).mono ?_
  rintro e w' ⟨rfl, rfl⟩
  go_wp2_with fail
  have X := Box3.new (w.alloc (.cells #[.int .u8 (o : Int), .string (txt nm), .slice a ln cp] 24)) (.int .u8 (o : Int)) (.string (txt nm)) (.slice a ln cp) 24
  have FX : Fr nob w ((w.alloc (.cells #[.int .u8 (o : Int), .string (txt nm), .slice a ln cp] 24)).alloc (.cells #[.int .u8 (o : Int), .string (txt nm), .slice a ln cp] 24)) := ((Fr.refl nob w).alloc _).alloc _
  simp only [World.size_alloc] at X
  have P6 := H0.out.kept FX (fun h => h)
  have T6 := HT0.out.kept (T := fun b => S b ∨ w.heap.size ≤ b) FX (fun b h _ => ⟨fun h => h, .inl h⟩)
  generalize (w.alloc (.cells #[.int .u8 (o : Int), .string (txt nm), .slice a ln cp] 24)).alloc (.cells #[.int .u8 (o : Int), .string (txt nm), .slice a ln cp] 24) = w6 at *
  have x0 := X.c0
  have x1 := X.c1
  have x2 := X.c2
  exact bodyPost_ret (v := .agg #[.int .u8 (o : Int), .string (txt nm), .slice a ln cp]) (by simp [results, Try.results125, go_sem, x0, x1, x2]) rfl ⟨FX.mono (fun _ _ h => h.elim), .inl ⟨t, i, _, rfl, hi, rfl, T6, P6⟩⟩
set_option maxHeartbeats 4000000 in
theorem join_yes (s : ByteArray) (hs : s.size ≤ 9223372036854775807) (n : Nat) (ihF : FormC s n) (t : Tr) (v : Value) (S : Nat → Prop) (p i : Nat) (w : World) (hT : TrV w S t v) (hS : ∀ b, S b → b ≠ p) (h : PSt w p s i (tokP (TX s) i)) (hi : i ≤ s.size) (htk : tokP (TX s) i = [63]) (r : Res (Tr × Nat))
    (hr : ((accP (TX s) i).bind fun j1 => (formF (TX s) n 0 j1).bind fun y => (expP (TX s) [58] y.2).bind fun j3 => (formF (TX s) n 0 j3).bind fun z => .ok (.mk 10 [] [t, y.1, z.1], z.2)) = r) (hro : r ≠ .out) :
    Calls Try.prog 125 #[.pointer (some ⟨p, 0, none⟩), .int .i64 0, v] w (ResPost s p w (fun b => S b ∨ w.heap.size ≤ b) r) := by
  obtain ⟨o, nm, a, ln, cp, rfl⟩ := hT.form
  have hlt := h.lt
  have F1 : Fr nob w ((w.alloc (.cells #[.int .u8 (o : Int), .string (txt nm), .slice a ln cp] 24)).alloc (.cells #[.int .u8 0, .string ⟨#[]⟩, .slice none 0 0] 24)) := ((Fr.refl nob w).alloc _).alloc _
  have N0 := Box3.new w (.int .u8 (o : Int)) (.string (txt nm)) (.slice a ln cp) 24
  have N1 := N0.kept (S := nob) ((Fr.refl nob (w.alloc (.cells #[.int .u8 (o : Int), .string (txt nm), .slice a ln cp] 24))).alloc (.cells #[.int .u8 0, .string ⟨#[]⟩, .slice none 0 0] 24)) (fun h => h)
  have B1 := Box3.new (w.alloc (.cells #[.int .u8 (o : Int), .string (txt nm), .slice a ln cp] 24)) (.int .u8 0) (.string ⟨#[]⟩) (.slice none 0 0) 24
  simp only [World.size_alloc] at B1
  have hT1 := hT.kept (T := fun b => S b ∧ b < w.heap.size) F1 (fun b h h' => ⟨fun h => h, h, h'⟩)
  have h1 := h.kept F1 (fun h => h)
  rw [htk] at h1
  have HTK := Lib.hid htk
  have HR := Lib.hid hr
  have HRO := Lib.hid hro
  have HT1 := Lib.hid hT1
  have HN1 := Lib.hid N1
  have HB1 := Lib.hid B1
  have HF1 := Lib.hid F1
  have HS := Lib.hid hS
  have H1 := Lib.hid h1
  have np0 : ¬ w.heap.size = p := by omega
  have np1 : ¬ w.heap.size + 1 = p := by omega
  clear hr hro htk hT1 N1 B1 F1 hS h1 h hT N0
  go_enter Try.func125, Try.ntmps125
  go_wp2_with fail
  refine (acc_yes s hs p i [63] _ H1.out HTK.out hi).mono ?_
  rintro e w2 ⟨F2, ⟨j, hj, hjs, rfl, hP⟩ | ⟨k, hk, rfl⟩⟩
  · have hL : formF (TX s) n 0 j ≠ .out := fun e => HRO.out (by rw [← HR.out, hj, Res.bind_ok, e]; rfl)
    have hC := ihF 0 p j w2 (by omega) hP hjs hL
    have HJ := Lib.hid hj
    have HN2 := Lib.hid (HN1.out.kept F2 np0)
    have HB2 := Lib.hid (HB1.out.kept F2 np1)
    have HT2 := Lib.hid (HT1.out.kept (T := fun b => S b ∧ b < w.heap.size) F2 (fun b h _ => ⟨HS.out b h.1, h⟩))
    have HF2 := Lib.hid ((HF1.out.mono (T := fun k => k = p) (fun _ _ h => h.elim)).trans F2 (fun _ _ h => h))
    have hs2 := HB2.out.lt
    clear hj hL F2 hP HN1 HB1 HT1 HF1 H1
    go_wp2_with fail
    refine hC.mono ?_
    rintro e w3 ⟨F3, ⟨t3, j3, v3, hv3, hj3, rfl, hT3, hP3⟩ | ⟨k, hk, rfl⟩⟩
    · obtain ⟨o3, nm3, a3, ln3, cp3, rfl⟩ := hT3.form
      have G3 : Fr nob w3 (w3.alloc (.cells #[.int .u8 (o3 : Int), .string (txt nm3), .slice a3 ln3 cp3] 24)) := (Fr.refl nob w3).alloc _
      have hs3 := F3.size
      have HY3 := Lib.hid (Box3.new w3 (.int .u8 (o3 : Int)) (.string (txt nm3)) (.slice a3 ln3 cp3) 24)
      have HN3 := Lib.hid ((HN2.out.kept F3 np0).kept G3 (fun h => h))
      have HB3 := Lib.hid ((HB2.out.kept F3 np1).kept G3 (fun h => h))
      have HT3 := Lib.hid ((HT2.out.kept (T := fun b => S b ∧ b < w.heap.size) F3 (fun b h _ => ⟨HS.out b h.1, h⟩)).kept (T := fun b => S b ∧ b < w.heap.size) G3 (fun b h _ => ⟨fun h => h, h⟩))
      have HU3 := Lib.hid (hT3.kept (T := fun b => w2.heap.size ≤ b) G3 (fun b h _ => ⟨fun h => h, h⟩))
      have HF3 := Lib.hid ((HF2.out.trans F3 (fun _ _ h => h)).trans G3 (fun _ _ h => h.elim))
      have HP3 := Lib.hid (hP3.kept G3 (fun h => h))
      have HV3 := Lib.hid hv3
      clear hT3 hP3 hv3 F3 G3 hC HN2 HB2 HT2 HF2
      go_wp2_with fail
      by_cases htc : tokP (TX s) j3 = [58]
      · have hpc := HP3.out
        rw [htc] at hpc
        have HTC := Lib.hid htc
        refine (exp_yes s hs p j3 [58] _ hpc htc hj3).mono ?_
        clear hpc htc
        rintro e w4 ⟨F4, ⟨j5, hj5, hj5s, rfl, hP5⟩ | ⟨k, hk, rfl⟩⟩
        · have hexp : expP (TX s) [58] j3 = .ok j5 := by unfold expP; rw [if_pos HTC.out]; exact hj5
          have hL : formF (TX s) n 0 j5 ≠ .out := fun e => HRO.out (by rw [← HR.out, HJ.out, Res.bind_ok, HV3.out, Res.bind_ok, hexp, Res.bind_ok, e]; rfl)
          have D4 : Fr nob w4 w4.drew := (Fr.refl nob w4).drew
          have hC : Calls Try.prog 111 #[.pointer (some ⟨p, 0, none⟩), .int .i64 0] w4.drew (ResPost s p w4.drew (fun b => w4.drew.heap.size ≤ b) (formF (TX s) n 0 j5)) := ihF 0 p j5 w4.drew (by omega) (hP5.kept D4 (fun h => h)) hj5s hL
          have HE := Lib.hid hexp
          have np3 : ¬ w3.heap.size = p := by omega
          have HN4 := Lib.hid (HN3.out.kept F4 np0)
          have HY4 := Lib.hid (HY3.out.kept F4 np3)
          have HB4 := Lib.hid (HB3.out.kept F4 np1)
          have HT4 := Lib.hid (HT3.out.kept (T := fun b => S b ∧ b < w.heap.size) F4 (fun b h _ => ⟨HS.out b h.1, h⟩))
          have HU4 := Lib.hid (HU3.out.kept (T := fun b => w2.heap.size ≤ b) F4 (fun b h _ => ⟨show ¬ b = p by have e : w2.heap.size ≤ b := h; omega, h⟩))
          have HF4 := Lib.hid (HF3.out.trans F4 (fun _ _ h => h))
          have hs4 := F4.size
          simp only [World.size_alloc] at hs4
          have e0 := HN4.out.c0
          have e1 := HN4.out.c1
          have e2 := HN4.out.c2
          have y0 := HY4.out.c0
          have y1 := HY4.out.c1
          have y2 := HY4.out.c2
          clear hj5 hexp hL F4 hP5 HN3 HY3 HB3 HT3 HU3 HF3 HP3
          go_wp2_with fail
          go_region_with (first
            | (go_at_call 111
               (with_reducible refine hC.mono ?_)
               rintro e w7 ⟨F7, ⟨t7, j7, v7, hv7, hj7, rfl, hT7, hP7⟩ | ⟨k, hk, rfl⟩⟩
               rotate_left
               (exact ⟨rfl, HF4.out.trans (D4.trans' F7 (T := fun k => k = p) (fun _ _ h => h.elim) (fun _ _ h => h)) (fun _ _ h => h), .inr ⟨k, by rw [← HR.out, HJ.out, Res.bind_ok, HV3.out, Res.bind_ok, HE.out, Res.bind_ok, hk]; rfl, rfl⟩⟩)
               obtain ⟨o7, nm7, a7, ln7, cp7, rfl⟩ := hT7.form
               replace F7 := D4.trans' F7 (T := fun k => k = p) (fun _ _ h => h.elim) (fun _ _ h => h)
               replace e0 := F7.cell e0 np0
               replace e1 := F7.cell e1 np0
               replace e2 := F7.cell e2 np0
               replace y0 := F7.cell y0 np3
               replace y1 := F7.cell y1 np3
               replace y2 := F7.cell y2 np3)
            | (go_at_call 132
               (with_reducible refine (node10 _ ⟨_, _, _, rfl⟩ _).mono ?_)
               rintro e w8 ⟨rfl, F8⟩
               have G8 := ((Fr.refl nob w7).alloc (.cells #[.int .u8 (o : Int), .string (txt nm), .slice a ln cp, .int .u8 (o3 : Int), .string (txt nm3), .slice a3 ln3 cp3, .int .u8 (o7 : Int), .string (txt nm7), .slice a7 ln7 cp7] 24)).trans F8 (fun _ _ h => h)
               have HB8 := Lib.hid ((HB4.out.kept F7 np1).kept G8 (fun h => h))
               have ⟨d0, d1, d2, df⟩ := HB8.out
               have df0 := df 0
               have df1 := df 1
               have df2 := df 2
               clear df))
          all_goals
            obtain ⟨k0, k1, k2, k3, k4, k5, k6, k7, k8⟩ := nine_new w7 (.int .u8 (o : Int)) (.string (txt nm)) (.slice a ln cp) (.int .u8 (o3 : Int)) (.string (txt nm3)) (.slice a3 ln3 cp3) (.int .u8 (o7 : Int)) (.string (txt nm7)) (.slice a7 ln7 cp7) 24
            have hs7 := F7.size
            have hs8 := G8.size
            have hn8 : w7.heap.size < w8.heap.size := by have := F8.size; simp at this; omega
            have HT8 := Lib.hid ((HT4.out.kept (T := fun b => S b ∧ b < w.heap.size) F7 (fun b h _ => ⟨HS.out b h.1, h⟩)).kept (T := fun b => S b ∧ b < w.heap.size) G8 (fun b h _ => ⟨fun h => h, h⟩))
            have HU8 := Lib.hid ((HU4.out.kept (T := fun b => w2.heap.size ≤ b) F7 (fun b h _ => ⟨show ¬ b = p by have e : w2.heap.size ≤ b := h; omega, h⟩)).kept (T := fun b => w2.heap.size ≤ b) G8 (fun b h _ => ⟨fun h => h, h⟩))
            have HW8 := Lib.hid (hT7.kept (T := fun b => w2.heap.size ≤ b) G8 (fun b h _ => ⟨fun h => h, by have e : w4.heap.size ≤ b := h; omega⟩))
            have HP8 := Lib.hid (hP7.kept G8 (fun h => h))
            have HF8 := Lib.hid ((HF4.out.trans F7 (fun _ _ h => h)).trans G8 (fun _ _ h => h.elim))
            replace k0 := F8.cell k0 (fun h => h)
            replace k1 := F8.cell k1 (fun h => h)
            replace k2 := F8.cell k2 (fun h => h)
            replace k3 := F8.cell k3 (fun h => h)
            replace k4 := F8.cell k4 (fun h => h)
            replace k5 := F8.cell k5 (fun h => h)
            replace k6 := F8.cell k6 (fun h => h)
            replace k7 := F8.cell k7 (fun h => h)
            replace k8 := F8.cell k8 (fun h => h)
            obtain ⟨X, FX⟩ := HB8.out.set (.int .u8 10) (.string (txt [])) (.slice (some ⟨w7.heap.size, 0, none⟩) 3 3)
            have nk : ¬ w7.heap.size = w.heap.size + 1 := by omega
            have kf := ((flg_new w7 _ _).kept F8 (by simp) (fun h => h)).kept FX (lt_of_cell k0) nk
            replace k0 := FX.cell k0 nk
            replace k1 := FX.cell k1 nk
            replace k2 := FX.cell k2 nk
            replace k3 := FX.cell k3 nk
            replace k4 := FX.cell k4 nk
            replace k5 := FX.cell k5 nk
            replace k6 := FX.cell k6 nk
            replace k7 := FX.cell k7 nk
            replace k8 := FX.cell k8 nk
            have T8 := HT8.out.kept (T := fun b => S b ∨ w.heap.size ≤ b) FX (fun b h _ => ⟨fun e => by have e : b = w.heap.size + 1 := e; have := h.2; omega, .inl h.1⟩)
            have U8 := HU8.out.kept (T := fun b => S b ∨ w.heap.size ≤ b) FX (fun b h _ => ⟨fun e => by have e : b = w.heap.size + 1 := e; have h' : w2.heap.size ≤ b := h; omega, .inr (by have h' : w2.heap.size ≤ b := h; omega)⟩)
            have W8 := HW8.out.kept (T := fun b => S b ∨ w.heap.size ≤ b) FX (fun b h _ => ⟨fun e => by have e : b = w.heap.size + 1 := e; have h' : w2.heap.size ≤ b := h; omega, .inr (by have h' : w2.heap.size ≤ b := h; omega)⟩)
            have P8 := HP8.out.kept FX (fun h => np1 h.symm)
            have F9 := HF8.out.trans' (T := fun k => k = p) FX (fun _ _ h => h) (fun k hk h => by have e : k = w.heap.size + 1 := h; omega)
            clear d0 d1 d2 df0 df1 df2 e0 e1 e2 y0 y1 y2 hT7 hP7
            go_wp2_with fail
            generalize ((w8.setCell ⟨w.heap.size + 1, 0, none⟩ (.int .u8 10)).setCell ⟨w.heap.size + 1, 1, none⟩ (.string (txt []))).setCell ⟨w.heap.size + 1, 2, none⟩ (.slice (some ⟨w7.heap.size, 0, none⟩) 3 3) = w9 at *
            have x0 := X.c0
            have x1 := X.c1
            have x2 := X.c2
            refine bodyPost_ret (v := TrOp 10 (.slice (some ⟨w7.heap.size, 0, none⟩) 3 3)) (by simp [results, Try.results125, go_sem, x0, x1, x2]) rfl ⟨F9, .inl ⟨.mk 10 [] [t, t3, t7], j7, _, ?_, hj7, rfl, ?_, P8⟩⟩
            · rw [← HR.out, HJ.out, Res.bind_ok, HV3.out, Res.bind_ok, HE.out, Res.bind_ok, hv7]; rfl
            · rw [TrV]
              exact ⟨_, _, rfl, fun _ => ⟨_, rfl, ⟨.inr (by omega), kf⟩, by rw [KidsV, KidsV, KidsV, KidsV]; exact ⟨⟨_, _, _, k0, k1, k2, T8⟩, ⟨_, _, _, k3, k4, k5, U8⟩, ⟨_, _, _, k6, k7, k8, W8⟩, trivial⟩⟩⟩
        · go_wp2_with fail
          refine ⟨rfl, HF3.out.trans F4 (fun _ _ h => h), .inr ⟨k, ?_, rfl⟩⟩
          rw [← HR.out, HJ.out, Res.bind_ok, HV3.out, Res.bind_ok]
          unfold expP
          rw [if_pos HTC.out, hk]; rfl
      · refine (expect_no s p j3 _ [58] _ HP3.out htc).mono ?_
        rintro e w' ⟨rfl, rfl⟩
        go_wp2_with fail
        refine ⟨rfl, HF3.out, .inr ⟨j3, ?_, rfl⟩⟩
        rw [← HR.out, HJ.out, Res.bind_ok, HV3.out, Res.bind_ok]
        unfold expP
        rw [if_neg htc]; rfl
    · go_wp2_with fail
      refine ⟨rfl, HF2.out.trans F3 (fun _ _ h => h), .inr ⟨k, ?_, rfl⟩⟩
      rw [← HR.out, HJ.out, Res.bind_ok, hk]; rfl
  · go_wp2_with fail
    refine ⟨rfl, (HF1.out.mono (T := fun k => k = p) (fun _ _ h => h.elim)).trans F2 (fun _ _ h => h), .inr ⟨k, ?_, rfl⟩⟩
    rw [← HR.out, hk]; rfl
end Go.Proofs.Ytaojojjdfdlgpaa
