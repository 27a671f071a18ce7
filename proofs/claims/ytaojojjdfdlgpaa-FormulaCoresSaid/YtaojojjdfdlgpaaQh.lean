import Derived.Test.YtaojojjdfdlgpaaQg
import Derived.Deep.RegionWith
namespace Go.Proofs.Ytaojojjdfdlgpaa
open Go.RowKit

/-! two -/
theorem six_new (w : World) (a b c d e g : Value) (T : TypeId) : (w.alloc (.cells #[a, b, c, d, e, g] T)).cell? ⟨w.heap.size, 0, none⟩ = some a ∧ (w.alloc (.cells #[a, b, c, d, e, g] T)).cell? ⟨w.heap.size, 1, none⟩ = some b ∧ (w.alloc (.cells #[a, b, c, d, e, g] T)).cell? ⟨w.heap.size, 2, none⟩ = some c ∧ (w.alloc (.cells #[a, b, c, d, e, g] T)).cell? ⟨w.heap.size, 3, none⟩ = some d ∧ (w.alloc (.cells #[a, b, c, d, e, g] T)).cell? ⟨w.heap.size, 4, none⟩ = some e ∧ (w.alloc (.cells #[a, b, c, d, e, g] T)).cell? ⟨w.heap.size, 5, none⟩ = some g :=
  ⟨World.cell?_alloc_at _ _ _ _ rfl, World.cell?_alloc_at _ _ _ _ rfl, World.cell?_alloc_at _ _ _ _ rfl, World.cell?_alloc_at _ _ _ _ rfl, World.cell?_alloc_at _ _ _ _ rfl, World.cell?_alloc_at _ _ _ _ rfl⟩
set_option maxHeartbeats 4000000 in
theorem two_any (s : ByteArray) (hs : s.size ≤ 9223372036854775807) (n : Nat) (ihF : FormC s n) : TwoC s (n + 1) := by
  intro op t v S p i w hop hT hS h hi hro
  rw [twoF] at hro ⊢
  obtain ⟨o, nm, a, ln, cp, rfl⟩ := hT.form
  have hlt := h.lt
  have F1 : Fr nob w ((w.alloc (.cells #[.int .u8 (o : Int), .string (txt nm), .slice a ln cp] 24)).alloc (.cells #[.int .u8 0, .string ⟨#[]⟩, .slice none 0 0] 24)) := ((Fr.refl nob w).alloc _).alloc _
  have N0 := Box3.new w (.int .u8 (o : Int)) (.string (txt nm)) (.slice a ln cp) 24
  have N1 := N0.kept (S := nob) ((Fr.refl nob (w.alloc (.cells #[.int .u8 (o : Int), .string (txt nm), .slice a ln cp] 24))).alloc (.cells #[.int .u8 0, .string ⟨#[]⟩, .slice none 0 0] 24)) (fun h => h)
  have B1 := Box3.new (w.alloc (.cells #[.int .u8 (o : Int), .string (txt nm), .slice a ln cp] 24)) (.int .u8 0) (.string ⟨#[]⟩) (.slice none 0 0) 24
  simp only [World.size_alloc] at B1
  have hT1 := hT.kept (T := fun b => S b ∧ b < w.heap.size) F1 (fun b h h' => ⟨fun h => h, h, h'⟩)
  have h1 := h.kept F1 (fun h => h)
  have hsg := sign_any op 1
  by_cases htk : tokP (TX s) i = sgnP op 1
  · rw [if_pos htk] at hro ⊢
    obtain ⟨r, hr⟩ : ∃ r, ((accP (TX s) i).bind fun j1 => (formF (TX s) n (kidP op 1) j1).bind fun y => Res.ok (Tr.mk op [] [t, y.1], y.2)) = r := ⟨_, rfl⟩
    rw [hr] at hro ⊢
    rw [htk] at h1
    have HTK := Lib.hid htk
    have HR := Lib.hid hr
    have HRO := Lib.hid hro
    have HT1 := Lib.hid hT1
    have HN1 := Lib.hid N1
    have HB1 := Lib.hid B1
    have HF1 := Lib.hid F1
    have HS := Lib.hid hS
    have H1 := Lib.hid h1
    have ⟨g0, g1, g2, _⟩ := N1
    clear hr hro htk hT1 N1 B1 F1 hS h1 h hT N0
    go_enter Try.func135, Try.ntmps135
    go_wp2_with fail
    refine (hsg _).mono ?_
    rintro e w' ⟨rfl, rfl⟩
    go_wp2_with fail
    refine (acc_yes s hs p i _ _ H1.out HTK.out hi).mono ?_
    rintro e w2 ⟨F2, ⟨j, hj, hjs, rfl, hP⟩ | ⟨k, hk, rfl⟩⟩
    · have hL : formF (TX s) n (kidP op 1) j ≠ .out := fun e => HRO.out (by rw [← HR.out, hj, Res.bind_ok, e]; rfl)
      have hkl : kidP op 1 ≤ 6 := by rcases hop with rfl | rfl <;> decide
      have D2 : Fr nob w2 w2.drew := (Fr.refl nob w2).drew
      have hC := ihF (kidP op 1) p j w2.drew hkl (hP.kept D2 (fun h => h)) hjs hL
      have hkid : ∀ w, Calls Try.prog 83 #[.int .u8 (op : Int), .int .i64 1] w fun e w' => e = .returned (.int .i64 (kidP op 1 : Int)) ∧ w = w' := kidLevel_any op 1
      have HJ := Lib.hid hj
      have HN2 := Lib.hid (HN1.out.kept F2 (by have := hlt; omega))
      have HB2 := Lib.hid (HB1.out.kept F2 (by have := hlt; omega))
      have HT2 := Lib.hid (HT1.out.kept (T := fun b => S b ∧ b < w.heap.size) F2 (fun b h _ => ⟨HS.out b h.1, h⟩))
      have HF2 := Lib.hid ((HF1.out.mono (fun _ _ h => h.elim)).trans F2 (fun _ _ h => h))
      have e0 := HN2.out.c0
      have e1 := HN2.out.c1
      have e2 := HN2.out.c2
      have np0 : ¬ w.heap.size = p := by omega
      have np1 : ¬ w.heap.size + 1 = p := by omega
      clear hj hL F2 g0 g1 g2 hP hkl
      go_wp2_with fail
      go_region_with (first
          | (go_at_call 83; (with_reducible refine (hkid _).mono ?_); rintro e w' ⟨rfl, rfl⟩)
          | (go_at_call 111
             (with_reducible refine hC.mono ?_)
             rintro e w4 ⟨F4, ⟨t4, j4, v4, hv4, hj4, rfl, hT4, hP4⟩ | ⟨k, hk, rfl⟩⟩
             rotate_left
             (exact ⟨rfl, HF2.out.trans (D2.trans' F4 (T := fun k => k = p) (fun _ _ h => h.elim) (fun _ _ h => h)) (fun _ _ h => h), .inr ⟨k, by rw [← HR.out, HJ.out, Res.bind_ok, hk]; rfl, rfl⟩⟩)
             obtain ⟨o4, nm4, a4, ln4, cp4, rfl⟩ := hT4.form
             replace F4 := D2.trans' F4 (T := fun k => k = p) (fun _ _ h => h.elim) (fun _ _ h => h)
             replace e0 := F4.cell e0 np0
             replace e1 := F4.cell e1 np0
             replace e2 := F4.cell e2 np0)
          | (go_at_call 132
             (with_reducible refine (node_any op _ ⟨_, _, _, rfl⟩ _).mono ?_)
             rintro e w5 ⟨rfl, F5⟩
             have G5 := ((Fr.refl nob w4).alloc (.cells #[.int .u8 (o : Int), .string (txt nm), .slice a ln cp, .int .u8 (o4 : Int), .string (txt nm4), .slice a4 ln4 cp4] 24)).trans F5 (fun _ _ h => h)
             have HB5 := Lib.hid ((HB2.out.kept F4 np1).kept G5 (fun h => h))
             have ⟨d0, d1, d2, df⟩ := HB5.out
             have df0 := df 0
             have df1 := df 1
             have df2 := df 2
             clear df))
      all_goals
        have G4 : Fr nob w4 (w4.alloc (.cells #[.int .u8 (o : Int), .string (txt nm), .slice a ln cp, .int .u8 (o4 : Int), .string (txt nm4), .slice a4 ln4 cp4] 24)) := (Fr.refl nob w4).alloc _
        obtain ⟨k0, k1, k2, k3, k4, k5⟩ := six_new w4 (.int .u8 (o : Int)) (.string (txt nm)) (.slice a ln cp) (.int .u8 (o4 : Int)) (.string (txt nm4)) (.slice a4 ln4 cp4) 24
        have hw4 := HB2.out.lt
        have hs4 := F4.size
        have hs5 := G5.size
        have hn5 : w4.heap.size < w5.heap.size := by have := F5.size; simp at this; omega
        have HT5 := Lib.hid ((HT2.out.kept (T := fun b => S b ∧ b < w.heap.size) F4 (fun b h _ => ⟨HS.out b h.1, h⟩)).kept (T := fun b => S b ∧ b < w.heap.size) G5 (fun b h _ => ⟨fun h => h, h⟩))
        have HT6 := Lib.hid (hT4.kept (T := fun b => w2.heap.size ≤ b) G5 (fun b h _ => ⟨fun h => h, h⟩))
        have HP5 := Lib.hid (hP4.kept G5 (fun h => h))
        have HF5 := Lib.hid ((HF2.out.trans F4 (fun _ _ h => h)).trans G5 (fun _ _ h => h.elim))
        replace k0 := F5.cell k0 (fun h => h)
        replace k1 := F5.cell k1 (fun h => h)
        replace k2 := F5.cell k2 (fun h => h)
        replace k3 := F5.cell k3 (fun h => h)
        replace k4 := F5.cell k4 (fun h => h)
        replace k5 := F5.cell k5 (fun h => h)
        obtain ⟨X, FX⟩ := HB5.out.set (.int .u8 (op : Int)) (.string (txt [])) (.slice (some ⟨w4.heap.size, 0, none⟩) 2 2)
        have nk : ¬ w4.heap.size = w.heap.size + 1 := by omega
        have kf := ((flg_new w4 _ _).kept F5 (by simp) (fun h => h)).kept FX (lt_of_cell k0) nk
        replace k0 := FX.cell k0 nk
        replace k1 := FX.cell k1 nk
        replace k2 := FX.cell k2 nk
        replace k3 := FX.cell k3 nk
        replace k4 := FX.cell k4 nk
        replace k5 := FX.cell k5 nk
        have T5 := HT5.out.kept (T := fun b => S b ∨ w.heap.size ≤ b) FX (fun b h _ => ⟨fun e => by have e : b = w.heap.size + 1 := e; have := h.2; omega, .inl h.1⟩)
        have T6 := HT6.out.kept (T := fun b => S b ∨ w.heap.size ≤ b) FX (fun b h _ => ⟨fun e => by have e : b = w.heap.size + 1 := e; have h' : w2.heap.size ≤ b := h; omega, .inr (by have h' : w2.heap.size ≤ b := h; omega)⟩)
        have P6 := HP5.out.kept FX (fun h => np1 h.symm)
        have F6 := HF5.out.trans' (T := fun k => k = p) FX (fun _ _ h => h) (fun k hk h => by have e : k = w.heap.size + 1 := h; omega)
        clear d0 d1 d2 df0 df1 df2 e0 e1 e2 hT4 hP4
        go_wp2_with fail
        generalize ((w5.setCell ⟨w.heap.size + 1, 0, none⟩ (.int .u8 (op : Int))).setCell ⟨w.heap.size + 1, 1, none⟩ (.string (txt []))).setCell ⟨w.heap.size + 1, 2, none⟩ (.slice (some ⟨w4.heap.size, 0, none⟩) 2 2) = w6 at *
        have x0 := X.c0
        have x1 := X.c1
        have x2 := X.c2
        refine bodyPost_ret (v := TrOp op (.slice (some ⟨w4.heap.size, 0, none⟩) 2 2)) (by simp [results, Try.results135, go_sem, x0, x1, x2]) rfl ⟨F6, .inl ⟨.mk op [] [t, t4], j4, _, ?_, hj4, rfl, ?_, P6⟩⟩
        · rw [← HR.out, HJ.out, Res.bind_ok, hv4]; rfl
        · rw [TrV]
          exact ⟨_, _, rfl, fun _ => ⟨_, rfl, ⟨.inr (by omega), kf⟩, by rw [KidsV, KidsV, KidsV]; exact ⟨⟨_, _, _, k0, k1, k2, T5⟩, ⟨_, _, _, k3, k4, k5, T6⟩, trivial⟩⟩⟩
    · go_wp2_with fail
      refine ⟨rfl, (HF1.out.mono (fun _ _ h => h.elim)).trans F2 (fun _ _ h => h), .inr ⟨k, ?_, rfl⟩⟩
      rw [← HR.out, hk]; rfl
  · rw [if_neg htk] at hro ⊢
    have ⟨d0, d1, d2, df⟩ := B1
    have df0 := df 0
    have df1 := df 1
    have df2 := df 2
    have ⟨g0, g1, g2, _⟩ := N1
    have HT0 := Lib.hid hT
    have H0 := Lib.hid h
    have H1 := Lib.hid h1
    have HTK := Lib.hid htk
    clear htk hT1 N1 B1 F1 h1 h hT N0 df hro
    go_enter Try.func135, Try.ntmps135
    go_wp2_with fail
    refine (hsg _).mono ?_
    rintro e w' ⟨rfl, rfl⟩
    go_wp2_with fail
    refine (accept_no s p i _ _ _ H1.out HTK.out).mono ?_
    rintro e w' ⟨rfl, rfl⟩
    go_wp2_with fail
    have X := Box3.new (w.alloc (.cells #[.int .u8 (o : Int), .string (txt nm), .slice a ln cp] 24)) (.int .u8 (o : Int)) (.string (txt nm)) (.slice a ln cp) 24
    have FX : Fr nob w ((w.alloc (.cells #[.int .u8 (o : Int), .string (txt nm), .slice a ln cp] 24)).alloc (.cells #[.int .u8 (o : Int), .string (txt nm), .slice a ln cp] 24)) := ((Fr.refl nob w).alloc _).alloc _
    simp only [World.size_alloc] at X
    have P6 := H0.out.kept FX (fun h => h)
    have T6 := HT0.out.kept (T := fun b => S b ∨ w.heap.size ≤ b) FX (fun b h _ => ⟨fun h => h, .inl h⟩)
    clear d0 d1 d2 df0 df1 df2 g0 g1 g2
    generalize (w.alloc (.cells #[.int .u8 (o : Int), .string (txt nm), .slice a ln cp] 24)).alloc (.cells #[.int .u8 (o : Int), .string (txt nm), .slice a ln cp] 24) = w6 at *
    have x0 := X.c0
    have x1 := X.c1
    have x2 := X.c2
    exact bodyPost_ret (v := .agg #[.int .u8 (o : Int), .string (txt nm), .slice a ln cp]) (by simp [results, Try.results135, go_sem, x0, x1, x2]) rfl ⟨FX.mono (fun _ _ h => h.elim), .inl ⟨t, i, _, rfl, hi, rfl, T6, P6⟩⟩
end Go.Proofs.Ytaojojjdfdlgpaa
