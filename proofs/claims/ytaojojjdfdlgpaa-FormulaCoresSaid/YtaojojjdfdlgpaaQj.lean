import Derived.Test.YtaojojjdfdlgpaaQr
import Derived.Deep.RegionWith
namespace Go.Proofs.Ytaojojjdfdlgpaa
open Go.RowKit

/-! join -/
set_option maxHeartbeats 2000000 in
theorem join_5 (s : ByteArray) (n : Nat) (ih : RowC s n) (t : Tr) (v : Value) (S : Nat → Prop) (p i : Nat) (w : World) (hT : TrV w S t v) (hS : ∀ b, S b → b ≠ p) (h : PSt w p s i (tokP (TX s) i)) (hi : i ≤ s.size) (hro : rowF (TX s) n 5 t i ≠ .out) :
    Calls Try.prog 125 #[.pointer (some ⟨p, 0, none⟩), .int .i64 5, v] w (ResPost s p w (fun b => S b ∨ w.heap.size ≤ b) (rowF (TX s) n 5 t i)) := by
  obtain ⟨o, nm, a, ln, cp, rfl⟩ := hT.form
  have hlt := h.lt
  have F1 : Fr nob w ((w.alloc (.cells #[.int .u8 (o : Int), .string (txt nm), .slice a ln cp] 24)).alloc (.cells #[.int .u8 0, .string ⟨#[]⟩, .slice none 0 0] 24)) := ((Fr.refl nob w).alloc _).alloc _
  have N0 := Box3.new w (.int .u8 (o : Int)) (.string (txt nm)) (.slice a ln cp) 24
  have N1 := N0.kept (S := nob) ((Fr.refl nob (w.alloc (.cells #[.int .u8 (o : Int), .string (txt nm), .slice a ln cp] 24))).alloc (.cells #[.int .u8 0, .string ⟨#[]⟩, .slice none 0 0] 24)) (fun h => h)
  have B1 := Box3.new (w.alloc (.cells #[.int .u8 (o : Int), .string (txt nm), .slice a ln cp] 24)) (.int .u8 0) (.string ⟨#[]⟩) (.slice none 0 0) 24
  have hz2 : ((w.alloc (.cells #[.int .u8 (o : Int), .string (txt nm), .slice a ln cp] 24)).alloc (.cells #[.int .u8 0, .string ⟨#[]⟩, .slice none 0 0] 24)).heap.size = w.heap.size + 2 := by simp
  simp only [World.size_alloc] at B1
  have hT1 := hT.kept (T := fun b => S b ∧ b < w.heap.size) F1 (fun b h h' => ⟨fun h => h, h, h'⟩)
  have h1 := h.kept F1 (fun h => h)
  have hC := ih 5 t _ _ p i _ (by decide) hT1 (fun b h => hS b h.1) h1 hi hro
  obtain ⟨r, hr⟩ : ∃ r, rowF (TX s) n 5 t i = r := ⟨_, rfl⟩
  rw [hr] at hC ⊢
  have ⟨g0, g1, g2, _⟩ := N1
  have HB1 := Lib.hid B1
  have HF1 := Lib.hid F1
  have HZ := Lib.hid hz2
  clear hT1 N1 B1 F1 h1 h hT N0 hz2 hr hro
  go_enter Try.func125, Try.ntmps125
  go_wp2_with fail
  generalize (w.alloc (.cells #[.int .u8 (o : Int), .string (txt nm), .slice a ln cp] 24)).alloc (.cells #[.int .u8 0, .string ⟨#[]⟩, .slice none 0 0] 24) = W0 at *
  refine hC.mono ?_
  rintro e w4 ⟨F4, ⟨t4, j4, v4, rfl, hj4, rfl, hT4, hP4⟩ | ⟨k, rfl, rfl⟩⟩
  · obtain ⟨o4, nm4, a4, ln4, cp4, rfl⟩ := hT4.form
    have hz := HZ.out
    have HB4 := Lib.hid (HB1.out.kept F4 (show ¬ w.heap.size + 1 = p by omega))
    have ⟨d0, d1, d2, df⟩ := HB4.out
    have df0 := df 0
    have df1 := df 1
    have df2 := df 2
    have HF4 := Lib.hid ((HF1.out.mono (T := fun k => k = p) (fun _ _ h => h.elim)).trans F4 (fun _ _ h => h))
    have HT4 := Lib.hid hT4
    have HP4 := Lib.hid hP4
    clear df F4 hT4 hP4 hC g0 g1 g2 HF1 HB1
    go_wp2_with fail
    obtain ⟨X, FX⟩ := HB4.out.set (.int .u8 (o4 : Int)) (.string (txt nm4)) (.slice a4 ln4 cp4)
    clear d0 d1 d2 df0 df1 df2
    generalize ((w4.setCell ⟨w.heap.size + 1, 0, none⟩ (.int .u8 (o4 : Int))).setCell ⟨w.heap.size + 1, 1, none⟩ (.string (txt nm4))).setCell ⟨w.heap.size + 1, 2, none⟩ (.slice a4 ln4 cp4) = w6 at *
    have x0 := X.c0
    have x1 := X.c1
    have x2 := X.c2
    refine bodyPost_ret (v := .agg #[.int .u8 (o4 : Int), .string (txt nm4), .slice a4 ln4 cp4]) (by simp [results, Try.results125, go_sem, x0, x1, x2]) rfl ⟨HF4.out.trans' (T := fun k => k = p) FX (fun _ _ h => h) (fun k hk h => by have e : k = w.heap.size + 1 := h; omega), .inl ⟨t4, j4, _, rfl, hj4, rfl, ?_, HP4.out.kept FX (show ¬ p = w.heap.size + 1 by omega)⟩⟩
    refine HT4.out.kept (T := fun b => S b ∨ w.heap.size ≤ b) FX (fun b h _ => ?_)
    have h' : (S b ∧ b < w.heap.size) ∨ W0.heap.size ≤ b := h
    refine ⟨show ¬ b = w.heap.size + 1 from fun e => ?_, ?_⟩
    · rcases h' with h' | h'
      · have := h'.2; omega
      · omega
    · rcases h' with h' | h'
      · exact .inl h'.1
      · exact .inr (by omega)
  · go_wp2_with fail
    exact ⟨rfl, (HF1.out.mono (T := fun k => k = p) (fun _ _ h => h.elim)).trans F4 (fun _ _ h => h), .inr ⟨k, rfl, rfl⟩⟩
set_option maxHeartbeats 2000000 in
theorem join_4 (s : ByteArray) (n : Nat) (ih : RowC s n) (t : Tr) (v : Value) (S : Nat → Prop) (p i : Nat) (w : World) (hT : TrV w S t v) (hS : ∀ b, S b → b ≠ p) (h : PSt w p s i (tokP (TX s) i)) (hi : i ≤ s.size) (hro : rowF (TX s) n 7 t i ≠ .out) :
    Calls Try.prog 125 #[.pointer (some ⟨p, 0, none⟩), .int .i64 4, v] w (ResPost s p w (fun b => S b ∨ w.heap.size ≤ b) (rowF (TX s) n 7 t i)) := by
  obtain ⟨o, nm, a, ln, cp, rfl⟩ := hT.form
  have hlt := h.lt
  have F1 : Fr nob w ((w.alloc (.cells #[.int .u8 (o : Int), .string (txt nm), .slice a ln cp] 24)).alloc (.cells #[.int .u8 0, .string ⟨#[]⟩, .slice none 0 0] 24)) := ((Fr.refl nob w).alloc _).alloc _
  have N0 := Box3.new w (.int .u8 (o : Int)) (.string (txt nm)) (.slice a ln cp) 24
  have N1 := N0.kept (S := nob) ((Fr.refl nob (w.alloc (.cells #[.int .u8 (o : Int), .string (txt nm), .slice a ln cp] 24))).alloc (.cells #[.int .u8 0, .string ⟨#[]⟩, .slice none 0 0] 24)) (fun h => h)
  have B1 := Box3.new (w.alloc (.cells #[.int .u8 (o : Int), .string (txt nm), .slice a ln cp] 24)) (.int .u8 0) (.string ⟨#[]⟩) (.slice none 0 0) 24
  have hz2 : ((w.alloc (.cells #[.int .u8 (o : Int), .string (txt nm), .slice a ln cp] 24)).alloc (.cells #[.int .u8 0, .string ⟨#[]⟩, .slice none 0 0] 24)).heap.size = w.heap.size + 2 := by simp
  simp only [World.size_alloc] at B1
  have hT1 := hT.kept (T := fun b => S b ∧ b < w.heap.size) F1 (fun b h h' => ⟨fun h => h, h, h'⟩)
  have h1 := h.kept F1 (fun h => h)
  have hC := ih 7 t _ _ p i _ (by decide) hT1 (fun b h => hS b h.1) h1 hi hro
  obtain ⟨r, hr⟩ : ∃ r, rowF (TX s) n 7 t i = r := ⟨_, rfl⟩
  rw [hr] at hC ⊢
  have ⟨g0, g1, g2, _⟩ := N1
  have HB1 := Lib.hid B1
  have HF1 := Lib.hid F1
  have HZ := Lib.hid hz2
  clear hT1 N1 B1 F1 h1 h hT N0 hz2 hr hro
  go_enter Try.func125, Try.ntmps125
  go_wp2_with fail
  generalize (w.alloc (.cells #[.int .u8 (o : Int), .string (txt nm), .slice a ln cp] 24)).alloc (.cells #[.int .u8 0, .string ⟨#[]⟩, .slice none 0 0] 24) = W0 at *
  refine hC.mono ?_
  rintro e w4 ⟨F4, ⟨t4, j4, v4, rfl, hj4, rfl, hT4, hP4⟩ | ⟨k, rfl, rfl⟩⟩
  · obtain ⟨o4, nm4, a4, ln4, cp4, rfl⟩ := hT4.form
    have hz := HZ.out
    have HB4 := Lib.hid (HB1.out.kept F4 (show ¬ w.heap.size + 1 = p by omega))
    have ⟨d0, d1, d2, df⟩ := HB4.out
    have df0 := df 0
    have df1 := df 1
    have df2 := df 2
    have HF4 := Lib.hid ((HF1.out.mono (T := fun k => k = p) (fun _ _ h => h.elim)).trans F4 (fun _ _ h => h))
    have HT4 := Lib.hid hT4
    have HP4 := Lib.hid hP4
    clear df F4 hT4 hP4 hC g0 g1 g2 HF1 HB1
    go_wp2_with fail
    obtain ⟨X, FX⟩ := HB4.out.set (.int .u8 (o4 : Int)) (.string (txt nm4)) (.slice a4 ln4 cp4)
    clear d0 d1 d2 df0 df1 df2
    generalize ((w4.setCell ⟨w.heap.size + 1, 0, none⟩ (.int .u8 (o4 : Int))).setCell ⟨w.heap.size + 1, 1, none⟩ (.string (txt nm4))).setCell ⟨w.heap.size + 1, 2, none⟩ (.slice a4 ln4 cp4) = w6 at *
    have x0 := X.c0
    have x1 := X.c1
    have x2 := X.c2
    refine bodyPost_ret (v := .agg #[.int .u8 (o4 : Int), .string (txt nm4), .slice a4 ln4 cp4]) (by simp [results, Try.results125, go_sem, x0, x1, x2]) rfl ⟨HF4.out.trans' (T := fun k => k = p) FX (fun _ _ h => h) (fun k hk h => by have e : k = w.heap.size + 1 := h; omega), .inl ⟨t4, j4, _, rfl, hj4, rfl, ?_, HP4.out.kept FX (show ¬ p = w.heap.size + 1 by omega)⟩⟩
    refine HT4.out.kept (T := fun b => S b ∨ w.heap.size ≤ b) FX (fun b h _ => ?_)
    have h' : (S b ∧ b < w.heap.size) ∨ W0.heap.size ≤ b := h
    refine ⟨show ¬ b = w.heap.size + 1 from fun e => ?_, ?_⟩
    · rcases h' with h' | h'
      · have := h'.2; omega
      · omega
    · rcases h' with h' | h'
      · exact .inl h'.1
      · exact .inr (by omega)
  · go_wp2_with fail
    exact ⟨rfl, (HF1.out.mono (T := fun k => k = p) (fun _ _ h => h.elim)).trans F4 (fun _ _ h => h), .inr ⟨k, rfl, rfl⟩⟩
set_option maxHeartbeats 2000000 in
theorem join_3 (s : ByteArray) (n : Nat) (ih : RowC s n) (t : Tr) (v : Value) (S : Nat → Prop) (p i : Nat) (w : World) (hT : TrV w S t v) (hS : ∀ b, S b → b ≠ p) (h : PSt w p s i (tokP (TX s) i)) (hi : i ≤ s.size) (hro : rowF (TX s) n 6 t i ≠ .out) :
    Calls Try.prog 125 #[.pointer (some ⟨p, 0, none⟩), .int .i64 3, v] w (ResPost s p w (fun b => S b ∨ w.heap.size ≤ b) (rowF (TX s) n 6 t i)) := by
  obtain ⟨o, nm, a, ln, cp, rfl⟩ := hT.form
  have hlt := h.lt
  have F1 : Fr nob w ((w.alloc (.cells #[.int .u8 (o : Int), .string (txt nm), .slice a ln cp] 24)).alloc (.cells #[.int .u8 0, .string ⟨#[]⟩, .slice none 0 0] 24)) := ((Fr.refl nob w).alloc _).alloc _
  have N0 := Box3.new w (.int .u8 (o : Int)) (.string (txt nm)) (.slice a ln cp) 24
  have N1 := N0.kept (S := nob) ((Fr.refl nob (w.alloc (.cells #[.int .u8 (o : Int), .string (txt nm), .slice a ln cp] 24))).alloc (.cells #[.int .u8 0, .string ⟨#[]⟩, .slice none 0 0] 24)) (fun h => h)
  have B1 := Box3.new (w.alloc (.cells #[.int .u8 (o : Int), .string (txt nm), .slice a ln cp] 24)) (.int .u8 0) (.string ⟨#[]⟩) (.slice none 0 0) 24
  have hz2 : ((w.alloc (.cells #[.int .u8 (o : Int), .string (txt nm), .slice a ln cp] 24)).alloc (.cells #[.int .u8 0, .string ⟨#[]⟩, .slice none 0 0] 24)).heap.size = w.heap.size + 2 := by simp
  simp only [World.size_alloc] at B1
  have hT1 := hT.kept (T := fun b => S b ∧ b < w.heap.size) F1 (fun b h h' => ⟨fun h => h, h, h'⟩)
  have h1 := h.kept F1 (fun h => h)
  have hC := ih 6 t _ _ p i _ (by decide) hT1 (fun b h => hS b h.1) h1 hi hro
  obtain ⟨r, hr⟩ : ∃ r, rowF (TX s) n 6 t i = r := ⟨_, rfl⟩
  rw [hr] at hC ⊢
  have ⟨g0, g1, g2, _⟩ := N1
  have HB1 := Lib.hid B1
  have HF1 := Lib.hid F1
  have HZ := Lib.hid hz2
  clear hT1 N1 B1 F1 h1 h hT N0 hz2 hr hro
  go_enter Try.func125, Try.ntmps125
  go_wp2_with fail
  generalize (w.alloc (.cells #[.int .u8 (o : Int), .string (txt nm), .slice a ln cp] 24)).alloc (.cells #[.int .u8 0, .string ⟨#[]⟩, .slice none 0 0] 24) = W0 at *
  refine hC.mono ?_
  rintro e w4 ⟨F4, ⟨t4, j4, v4, rfl, hj4, rfl, hT4, hP4⟩ | ⟨k, rfl, rfl⟩⟩
  · obtain ⟨o4, nm4, a4, ln4, cp4, rfl⟩ := hT4.form
    have hz := HZ.out
    have HB4 := Lib.hid (HB1.out.kept F4 (show ¬ w.heap.size + 1 = p by omega))
    have ⟨d0, d1, d2, df⟩ := HB4.out
    have df0 := df 0
    have df1 := df 1
    have df2 := df 2
    have HF4 := Lib.hid ((HF1.out.mono (T := fun k => k = p) (fun _ _ h => h.elim)).trans F4 (fun _ _ h => h))
    have HT4 := Lib.hid hT4
    have HP4 := Lib.hid hP4
    clear df F4 hT4 hP4 hC g0 g1 g2 HF1 HB1
    go_wp2_with fail
    obtain ⟨X, FX⟩ := HB4.out.set (.int .u8 (o4 : Int)) (.string (txt nm4)) (.slice a4 ln4 cp4)
    clear d0 d1 d2 df0 df1 df2
    generalize ((w4.setCell ⟨w.heap.size + 1, 0, none⟩ (.int .u8 (o4 : Int))).setCell ⟨w.heap.size + 1, 1, none⟩ (.string (txt nm4))).setCell ⟨w.heap.size + 1, 2, none⟩ (.slice a4 ln4 cp4) = w6 at *
    have x0 := X.c0
    have x1 := X.c1
    have x2 := X.c2
    refine bodyPost_ret (v := .agg #[.int .u8 (o4 : Int), .string (txt nm4), .slice a4 ln4 cp4]) (by simp [results, Try.results125, go_sem, x0, x1, x2]) rfl ⟨HF4.out.trans' (T := fun k => k = p) FX (fun _ _ h => h) (fun k hk h => by have e : k = w.heap.size + 1 := h; omega), .inl ⟨t4, j4, _, rfl, hj4, rfl, ?_, HP4.out.kept FX (show ¬ p = w.heap.size + 1 by omega)⟩⟩
    refine HT4.out.kept (T := fun b => S b ∨ w.heap.size ≤ b) FX (fun b h _ => ?_)
    have h' : (S b ∧ b < w.heap.size) ∨ W0.heap.size ≤ b := h
    refine ⟨show ¬ b = w.heap.size + 1 from fun e => ?_, ?_⟩
    · rcases h' with h' | h'
      · have := h'.2; omega
      · omega
    · rcases h' with h' | h'
      · exact .inl h'.1
      · exact .inr (by omega)
  · go_wp2_with fail
    exact ⟨rfl, (HF1.out.mono (T := fun k => k = p) (fun _ _ h => h.elim)).trans F4 (fun _ _ h => h), .inr ⟨k, rfl, rfl⟩⟩
set_option maxHeartbeats 2000000 in
theorem join_2 (s : ByteArray) (n : Nat) (ih : TwoC s n) (t : Tr) (v : Value) (S : Nat → Prop) (p i : Nat) (w : World) (hT : TrV w S t v) (hS : ∀ b, S b → b ≠ p) (h : PSt w p s i (tokP (TX s) i)) (hi : i ≤ s.size) (hro : twoF (TX s) n 8 t i ≠ .out) :
    Calls Try.prog 125 #[.pointer (some ⟨p, 0, none⟩), .int .i64 2, v] w (ResPost s p w (fun b => S b ∨ w.heap.size ≤ b) (twoF (TX s) n 8 t i)) := by
  obtain ⟨o, nm, a, ln, cp, rfl⟩ := hT.form
  have hlt := h.lt
  have F1 : Fr nob w ((w.alloc (.cells #[.int .u8 (o : Int), .string (txt nm), .slice a ln cp] 24)).alloc (.cells #[.int .u8 0, .string ⟨#[]⟩, .slice none 0 0] 24)) := ((Fr.refl nob w).alloc _).alloc _
  have N0 := Box3.new w (.int .u8 (o : Int)) (.string (txt nm)) (.slice a ln cp) 24
  have N1 := N0.kept (S := nob) ((Fr.refl nob (w.alloc (.cells #[.int .u8 (o : Int), .string (txt nm), .slice a ln cp] 24))).alloc (.cells #[.int .u8 0, .string ⟨#[]⟩, .slice none 0 0] 24)) (fun h => h)
  have B1 := Box3.new (w.alloc (.cells #[.int .u8 (o : Int), .string (txt nm), .slice a ln cp] 24)) (.int .u8 0) (.string ⟨#[]⟩) (.slice none 0 0) 24
  have hz2 : ((w.alloc (.cells #[.int .u8 (o : Int), .string (txt nm), .slice a ln cp] 24)).alloc (.cells #[.int .u8 0, .string ⟨#[]⟩, .slice none 0 0] 24)).heap.size = w.heap.size + 2 := by simp
  simp only [World.size_alloc] at B1
  have hT1 := hT.kept (T := fun b => S b ∧ b < w.heap.size) F1 (fun b h h' => ⟨fun h => h, h, h'⟩)
  have h1 := h.kept F1 (fun h => h)
  have hC := ih 8 t _ _ p i _ (by decide) hT1 (fun b h => hS b h.1) h1 hi hro
  obtain ⟨r, hr⟩ : ∃ r, twoF (TX s) n 8 t i = r := ⟨_, rfl⟩
  rw [hr] at hC ⊢
  have ⟨g0, g1, g2, _⟩ := N1
  have HB1 := Lib.hid B1
  have HF1 := Lib.hid F1
  have HZ := Lib.hid hz2
  clear hT1 N1 B1 F1 h1 h hT N0 hz2 hr hro
  go_enter Try.func125, Try.ntmps125
  go_wp2_with fail
  generalize (w.alloc (.cells #[.int .u8 (o : Int), .string (txt nm), .slice a ln cp] 24)).alloc (.cells #[.int .u8 0, .string ⟨#[]⟩, .slice none 0 0] 24) = W0 at *
  refine hC.mono ?_
  rintro e w4 ⟨F4, ⟨t4, j4, v4, rfl, hj4, rfl, hT4, hP4⟩ | ⟨k, rfl, rfl⟩⟩
  · obtain ⟨o4, nm4, a4, ln4, cp4, rfl⟩ := hT4.form
    have hz := HZ.out
    have HB4 := Lib.hid (HB1.out.kept F4 (show ¬ w.heap.size + 1 = p by omega))
    have ⟨d0, d1, d2, df⟩ := HB4.out
    have df0 := df 0
    have df1 := df 1
    have df2 := df 2
    have HF4 := Lib.hid ((HF1.out.mono (T := fun k => k = p) (fun _ _ h => h.elim)).trans F4 (fun _ _ h => h))
    have HT4 := Lib.hid hT4
    have HP4 := Lib.hid hP4
    clear df F4 hT4 hP4 hC g0 g1 g2 HF1 HB1
    go_wp2_with fail
    obtain ⟨X, FX⟩ := HB4.out.set (.int .u8 (o4 : Int)) (.string (txt nm4)) (.slice a4 ln4 cp4)
    clear d0 d1 d2 df0 df1 df2
    generalize ((w4.setCell ⟨w.heap.size + 1, 0, none⟩ (.int .u8 (o4 : Int))).setCell ⟨w.heap.size + 1, 1, none⟩ (.string (txt nm4))).setCell ⟨w.heap.size + 1, 2, none⟩ (.slice a4 ln4 cp4) = w6 at *
    have x0 := X.c0
    have x1 := X.c1
    have x2 := X.c2
    refine bodyPost_ret (v := .agg #[.int .u8 (o4 : Int), .string (txt nm4), .slice a4 ln4 cp4]) (by simp [results, Try.results125, go_sem, x0, x1, x2]) rfl ⟨HF4.out.trans' (T := fun k => k = p) FX (fun _ _ h => h) (fun k hk h => by have e : k = w.heap.size + 1 := h; omega), .inl ⟨t4, j4, _, rfl, hj4, rfl, ?_, HP4.out.kept FX (show ¬ p = w.heap.size + 1 by omega)⟩⟩
    refine HT4.out.kept (T := fun b => S b ∨ w.heap.size ≤ b) FX (fun b h _ => ?_)
    have h' : (S b ∧ b < w.heap.size) ∨ W0.heap.size ≤ b := h
    refine ⟨show ¬ b = w.heap.size + 1 from fun e => ?_, ?_⟩
    · rcases h' with h' | h'
      · have := h'.2; omega
      · omega
    · rcases h' with h' | h'
      · exact .inl h'.1
      · exact .inr (by omega)
  · go_wp2_with fail
    exact ⟨rfl, (HF1.out.mono (T := fun k => k = p) (fun _ _ h => h.elim)).trans F4 (fun _ _ h => h), .inr ⟨k, rfl, rfl⟩⟩
set_option maxHeartbeats 2000000 in
theorem join_1 (s : ByteArray) (n : Nat) (ih : TwoC s n) (t : Tr) (v : Value) (S : Nat → Prop) (p i : Nat) (w : World) (hT : TrV w S t v) (hS : ∀ b, S b → b ≠ p) (h : PSt w p s i (tokP (TX s) i)) (hi : i ≤ s.size) (hro : twoF (TX s) n 9 t i ≠ .out) :
    Calls Try.prog 125 #[.pointer (some ⟨p, 0, none⟩), .int .i64 1, v] w (ResPost s p w (fun b => S b ∨ w.heap.size ≤ b) (twoF (TX s) n 9 t i)) := by
  obtain ⟨o, nm, a, ln, cp, rfl⟩ := hT.form
  have hlt := h.lt
  have F1 : Fr nob w ((w.alloc (.cells #[.int .u8 (o : Int), .string (txt nm), .slice a ln cp] 24)).alloc (.cells #[.int .u8 0, .string ⟨#[]⟩, .slice none 0 0] 24)) := ((Fr.refl nob w).alloc _).alloc _
  have N0 := Box3.new w (.int .u8 (o : Int)) (.string (txt nm)) (.slice a ln cp) 24
  have N1 := N0.kept (S := nob) ((Fr.refl nob (w.alloc (.cells #[.int .u8 (o : Int), .string (txt nm), .slice a ln cp] 24))).alloc (.cells #[.int .u8 0, .string ⟨#[]⟩, .slice none 0 0] 24)) (fun h => h)
  have B1 := Box3.new (w.alloc (.cells #[.int .u8 (o : Int), .string (txt nm), .slice a ln cp] 24)) (.int .u8 0) (.string ⟨#[]⟩) (.slice none 0 0) 24
  have hz2 : ((w.alloc (.cells #[.int .u8 (o : Int), .string (txt nm), .slice a ln cp] 24)).alloc (.cells #[.int .u8 0, .string ⟨#[]⟩, .slice none 0 0] 24)).heap.size = w.heap.size + 2 := by simp
  simp only [World.size_alloc] at B1
  have hT1 := hT.kept (T := fun b => S b ∧ b < w.heap.size) F1 (fun b h h' => ⟨fun h => h, h, h'⟩)
  have h1 := h.kept F1 (fun h => h)
  have hC := ih 9 t _ _ p i _ (by decide) hT1 (fun b h => hS b h.1) h1 hi hro
  obtain ⟨r, hr⟩ : ∃ r, twoF (TX s) n 9 t i = r := ⟨_, rfl⟩
  rw [hr] at hC ⊢
  have ⟨g0, g1, g2, _⟩ := N1
  have HB1 := Lib.hid B1
  have HF1 := Lib.hid F1
  have HZ := Lib.hid hz2
  clear hT1 N1 B1 F1 h1 h hT N0 hz2 hr hro
  go_enter Try.func125, Try.ntmps125
  go_wp2_with fail
  generalize (w.alloc (.cells #[.int .u8 (o : Int), .string (txt nm), .slice a ln cp] 24)).alloc (.cells #[.int .u8 0, .string ⟨#[]⟩, .slice none 0 0] 24) = W0 at *
  refine hC.mono ?_
  rintro e w4 ⟨F4, ⟨t4, j4, v4, rfl, hj4, rfl, hT4, hP4⟩ | ⟨k, rfl, rfl⟩⟩
  · obtain ⟨o4, nm4, a4, ln4, cp4, rfl⟩ := hT4.form
    have hz := HZ.out
    have HB4 := Lib.hid (HB1.out.kept F4 (show ¬ w.heap.size + 1 = p by omega))
    have ⟨d0, d1, d2, df⟩ := HB4.out
    have df0 := df 0
    have df1 := df 1
    have df2 := df 2
    have HF4 := Lib.hid ((HF1.out.mono (T := fun k => k = p) (fun _ _ h => h.elim)).trans F4 (fun _ _ h => h))
    have HT4 := Lib.hid hT4
    have HP4 := Lib.hid hP4
    clear df F4 hT4 hP4 hC g0 g1 g2 HF1 HB1
    go_wp2_with fail
    obtain ⟨X, FX⟩ := HB4.out.set (.int .u8 (o4 : Int)) (.string (txt nm4)) (.slice a4 ln4 cp4)
    clear d0 d1 d2 df0 df1 df2
    generalize ((w4.setCell ⟨w.heap.size + 1, 0, none⟩ (.int .u8 (o4 : Int))).setCell ⟨w.heap.size + 1, 1, none⟩ (.string (txt nm4))).setCell ⟨w.heap.size + 1, 2, none⟩ (.slice a4 ln4 cp4) = w6 at *
    have x0 := X.c0
    have x1 := X.c1
    have x2 := X.c2
    refine bodyPost_ret (v := .agg #[.int .u8 (o4 : Int), .string (txt nm4), .slice a4 ln4 cp4]) (by simp [results, Try.results125, go_sem, x0, x1, x2]) rfl ⟨HF4.out.trans' (T := fun k => k = p) FX (fun _ _ h => h) (fun k hk h => by have e : k = w.heap.size + 1 := h; omega), .inl ⟨t4, j4, _, rfl, hj4, rfl, ?_, HP4.out.kept FX (show ¬ p = w.heap.size + 1 by omega)⟩⟩
    refine HT4.out.kept (T := fun b => S b ∨ w.heap.size ≤ b) FX (fun b h _ => ?_)
    have h' : (S b ∧ b < w.heap.size) ∨ W0.heap.size ≤ b := h
    refine ⟨show ¬ b = w.heap.size + 1 from fun e => ?_, ?_⟩
    · rcases h' with h' | h'
      · have := h'.2; omega
      · omega
    · rcases h' with h' | h'
      · exact .inl h'.1
      · exact .inr (by omega)
  · go_wp2_with fail
    exact ⟨rfl, (HF1.out.mono (T := fun k => k = p) (fun _ _ h => h.elim)).trans F4 (fun _ _ h => h), .inr ⟨k, rfl, rfl⟩⟩
end Go.Proofs.Ytaojojjdfdlgpaa
