import Derived.Test.YtaojojjdfdlgpaaQp
namespace Go.Proofs.Ytaojojjdfdlgpaa
open Go.RowKit

/-! the parser's contracts -/
abbrev TX (s : ByteArray) : List UInt8 := s.data.toList
abbrev wrongE (k : Nat) : Ending := .panicked [{ v := wrongV k, recovered := false }]
def AccR (s : ByteArray) (p i : Nat) (ev : Value) (w : World) (e : Ending) (w' : World) : Prop :=
  Fr (fun k => k = p) w w' ∧ ((∃ k, accP (TX s) i = .ok k ∧ k ≤ s.size ∧ e = .returned ev ∧ PSt w' p s k (tokP (TX s) k)) ∨ ∃ k, accP (TX s) i = .bad k ∧ e = wrongE k)
theorem accR_of {s : ByteArray} {p i : Nat} {ev : Value} {w : World} {e : Ending} {w' : World} (hi : i ≤ s.size)
    (h : Fr (fun k => k = p) w w' ∧ ((∃ k, nextP s.data.toList (i + (tokP (TX s) i).length) = .ok k ∧ e = .returned ev ∧ PSt w' p s k (firstTok (s.data.toList.drop k))) ∨ ∃ k, nextP s.data.toList (i + (tokP (TX s) i).length) = .error k ∧ e = .panicked [{ v := wrongV k, recovered := false }])) : AccR s p i ev w e w' := by
  obtain ⟨F, ⟨k, hk, he, hP⟩ | ⟨k, hk, he⟩⟩ := h
  · have ha : accP (TX s) i = .ok k := by unfold accP stepP; rw [hk]
    exact ⟨F, .inl ⟨k, ha, by have := accP_le (s := TX s) (i := i) (by simpa using hi) ha; simpa using this, he, hP⟩⟩
  · exact ⟨F, .inr ⟨k, by unfold accP stepP; rw [hk], he⟩⟩
theorem tok_fits {s : ByteArray} {i : Nat} (hi : i ≤ s.size) : i + (tokP (TX s) i).length ≤ s.size := by
  have := tokP_len (s := TX s) (i := i) (by simpa using hi)
  simpa using this
theorem acc_yes (s : ByteArray) (hs : s.size ≤ 9223372036854775807) (p i : Nat) (t : List UInt8) (w : World) (h : PSt w p s i t) (ht : tokP (TX s) i = t) (hi : i ≤ s.size) :
    Calls Try.prog 131 #[.pointer (some ⟨p, 0, none⟩), .string (txt t)] w (AccR s p i (.bool true) w) := by
  subst ht
  exact (accept_yes s p i _ w h (tok_fits hi) hs).mono fun e w' h => accR_of hi h
theorem nxt_yes (s : ByteArray) (hs : s.size ≤ 9223372036854775807) (p i : Nat) (t : List UInt8) (w : World) (h : PSt w p s i t) (ht : tokP (TX s) i = t) (hi : i ≤ s.size) :
    Calls Try.prog 110 #[.pointer (some ⟨p, 0, none⟩)] w (AccR s p i (.tuple #[]) w) := by
  subst ht
  exact (next_any s p i _ w h (tok_fits hi) hs).mono fun e w' h => accR_of hi h
theorem exp_yes (s : ByteArray) (hs : s.size ≤ 9223372036854775807) (p i : Nat) (t : List UInt8) (w : World) (h : PSt w p s i t) (ht : tokP (TX s) i = t) (hi : i ≤ s.size) :
    Calls Try.prog 133 #[.pointer (some ⟨p, 0, none⟩), .string (txt t)] w (AccR s p i (.tuple #[]) w) := by
  subst ht
  exact (expect_yes s p i _ w h (tok_fits hi) hs).mono fun e w' h => accR_of hi h
theorem PSt.kept {S : Nat → Prop} {w w' : World} {p : Nat} {s : ByteArray} {i : Nat} {t : List UInt8} (h : PSt w p s i t) (f : Fr S w w') (hS : ¬ S p) : PSt w' p s i t :=
  ⟨f.cell h.c0 hS, f.cell h.c1 hS, f.cell h.c2 hS, (f.frozen (p := ⟨p, 1, none⟩) (lt_of_cell h.c1) hS).trans h.f1, (f.frozen (p := ⟨p, 2, none⟩) (lt_of_cell h.c2) hS).trans h.f2⟩
theorem PSt.lt {w : World} {p : Nat} {s : ByteArray} {i : Nat} {t : List UInt8} (h : PSt w p s i t) : p < w.heap.size := lt_of_cell h.c0
/-- a variable of three cells -/
structure Box3 (w : World) (g : Nat) (a b c : Value) : Prop where
  c0 : w.cell? ⟨g, 0, none⟩ = some a
  c1 : w.cell? ⟨g, 1, none⟩ = some b
  c2 : w.cell? ⟨g, 2, none⟩ = some c
  fr : ∀ o, w.frozen? ⟨g, o, none⟩ = false
theorem Box3.new (w : World) (a b c : Value) (T : TypeId) : Box3 (w.alloc (.cells #[a, b, c] T)) w.heap.size a b c := by
  have h : (w.alloc (.cells #[a, b, c] T)).heap[w.heap.size]? = some (.cells #[a, b, c] T) := heap_alloc_new w _
  obtain ⟨h0, h1, h2, h3⟩ := block3 h
  exact ⟨h0, h1, h2, h3⟩
theorem Box3.set {w : World} {g : Nat} {a b c : Value} (h : Box3 w g a b c) (x y z : Value) :
    Box3 (((w.setCell ⟨g, 0, none⟩ x).setCell ⟨g, 1, none⟩ y).setCell ⟨g, 2, none⟩ z) g x y z ∧ Fr (fun k => k = g) w (((w.setCell ⟨g, 0, none⟩ x).setCell ⟨g, 1, none⟩ y).setCell ⟨g, 2, none⟩ z) := by
  obtain ⟨h0, h1, h2, hf⟩ := set3_facts (a := x) (b := y) (c := z) h.c0 h.c1 h.c2
  refine ⟨⟨h0, h1, h2, fun o => ?_⟩, ?_⟩
  · rw [World.frozen?_setCell, World.frozen?_setCell, World.frozen?_setCell]; exact h.fr o
  · exact ((fr_store w g 0 x).trans (fr_store _ g 1 y) (fun _ _ h => h)).trans (fr_store _ g 2 z) (fun _ _ h => h)
theorem Box3.lt {w : World} {g : Nat} {a b c : Value} (h : Box3 w g a b c) : g < w.heap.size := lt_of_cell h.c0
theorem Box3.kept {S : Nat → Prop} {w w' : World} {g : Nat} {a b c : Value} (h : Box3 w g a b c) (f : Fr S w w') (hS : ¬ S g) : Box3 w' g a b c :=
  ⟨f.cell h.c0 hS, f.cell h.c1 hS, f.cell h.c2 hS, fun o => (f.frozen (p := ⟨g, o, none⟩) h.lt hS).trans (h.fr o)⟩
theorem TrV.form {w : World} {S : Nat → Prop} {t : Tr} {v : Value} (h : TrV w S t v) : ∃ (o : Nat) (nm : List UInt8) (a : Option Addr) (n c : Nat), v = .agg #[.int .u8 (o : Int), .string (txt nm), .slice a n c] := by
  cases t with
  | mk op name kids =>
    rw [TrV] at h
    obtain ⟨a, cap, rfl, _⟩ := h
    exact ⟨op, name, a, _, cap, rfl⟩
def ResPost (s : ByteArray) (p : Nat) (w : World) (S : Nat → Prop) (r : Res (Tr × Nat)) (e : Ending) (w' : World) : Prop :=
  Fr (fun k => k = p) w w' ∧ ((∃ t j v, r = .ok (t, j) ∧ j ≤ s.size ∧ e = .returned v ∧ TrV w' S t v ∧ PSt w' p s j (tokP (TX s) j)) ∨ ∃ k, r = .bad k ∧ e = wrongE k)
def LeastC (s : ByteArray) (n : Nat) : Prop := ∀ (p i : Nat) (w : World), PSt w p s i (tokP (TX s) i) → i ≤ s.size → leastF (TX s) n i ≠ .out →
  Calls Try.prog 124 #[.pointer (some ⟨p, 0, none⟩)] w (ResPost s p w (fun b => w.heap.size ≤ b) (leastF (TX s) n i))
def FormC (s : ByteArray) (n : Nat) : Prop := ∀ (level p i : Nat) (w : World), level ≤ 6 → PSt w p s i (tokP (TX s) i) → i ≤ s.size → formF (TX s) n level i ≠ .out →
  Calls Try.prog 111 #[.pointer (some ⟨p, 0, none⟩), .int .i64 (level : Int)] w (ResPost s p w (fun b => w.heap.size ≤ b) (formF (TX s) n level i))
def JoinC (s : ByteArray) (n : Nat) : Prop := ∀ (k : Nat) (e : Tr) (v : Value) (S : Nat → Prop) (p i : Nat) (w : World), k ≤ 5 → TrV w S e v → (∀ b, S b → b ≠ p) → PSt w p s i (tokP (TX s) i) → i ≤ s.size → joinF (TX s) n k e i ≠ .out →
  Calls Try.prog 125 #[.pointer (some ⟨p, 0, none⟩), .int .i64 (k : Int), v] w (ResPost s p w (fun b => S b ∨ w.heap.size ≤ b) (joinF (TX s) n k e i))
def RowC (s : ByteArray) (n : Nat) : Prop := ∀ (op : Nat) (e : Tr) (v : Value) (S : Nat → Prop) (p i : Nat) (w : World), op = 5 ∨ op = 6 ∨ op = 7 → TrV w S e v → (∀ b, S b → b ≠ p) → PSt w p s i (tokP (TX s) i) → i ≤ s.size → rowF (TX s) n op e i ≠ .out →
  Calls Try.prog 134 #[.pointer (some ⟨p, 0, none⟩), .int .u8 (op : Int), v] w (ResPost s p w (fun b => S b ∨ w.heap.size ≤ b) (rowF (TX s) n op e i))
def TwoC (s : ByteArray) (n : Nat) : Prop := ∀ (op : Nat) (e : Tr) (v : Value) (S : Nat → Prop) (p i : Nat) (w : World), op = 8 ∨ op = 9 → TrV w S e v → (∀ b, S b → b ≠ p) → PSt w p s i (tokP (TX s) i) → i ≤ s.size → twoF (TX s) n op e i ≠ .out →
  Calls Try.prog 135 #[.pointer (some ⟨p, 0, none⟩), .int .u8 (op : Int), v] w (ResPost s p w (fun b => S b ∨ w.heap.size ≤ b) (twoF (TX s) n op e i))

/-! least -/
set_option maxHeartbeats 2000000 in
theorem least_not (s : ByteArray) (hs : s.size ≤ 9223372036854775807) (n : Nat) (ihL : LeastC s n) (p i : Nat) (w : World) (h : PSt w p s i [33]) (hi : i ≤ s.size) (ht : tokP (TX s) i = [33]) (r : Res (Tr × Nat)) (hr : ((accP (TX s) i).bind fun j => (leastF (TX s) n j).bind fun x => .ok (.mk 4 [] [x.1], x.2)) = r) (hro : r ≠ .out) :
    Calls Try.prog 124 #[.pointer (some ⟨p, 0, none⟩)] w (ResPost s p w (fun b => w.heap.size ≤ b) r) := by
  have hlt := h.lt
  have F0 : Fr nob w (w.alloc (.cells #[.int .u8 0, .string ⟨#[]⟩, .slice none 0 0] 24)) := (Fr.refl nob w).alloc _
  have B0 := Box3.new w (.int .u8 0) (.string ⟨#[]⟩) (.slice none 0 0) 24
  have h0 := h.kept F0 (fun h => h)
  have ⟨c0, c1, c2, f1, f2⟩ := h0
  have hA := acc_yes s hs p i [33] _ h0 ht hi
  have HR := Lib.hid hr
  have HRO := Lib.hid hro
  have HB0 := Lib.hid B0
  clear hr hro ht h B0
  go_enter Try.func124, Try.ntmps124
  go_wp2_with fail
  refine hA.mono ?_
  rintro e w1 ⟨F1, ⟨j, hj, hjs, rfl, hP⟩ | ⟨k, hk, rfl⟩⟩
  · have hL : leastF (TX s) n j ≠ .out := fun e => HRO.out (by rw [← HR.out, hj, Res.bind_ok, e]; rfl)
    have hC := ihL p j w1 hP hjs hL
    have HJ := Lib.hid hj
    have B1 := HB0.out.kept F1 (by have := hlt; omega)
    have hw1 := B1.lt
    have FW1 := Lib.hid ((F0.mono (fun _ _ h => h.elim)).trans F1 (fun _ _ h => h))
    clear hj hL h0 c0 c1 c2 f1 f2 hA F0 F1 HB0 hP
    go_wp2_with fail
    refine hC.mono ?_
    rintro e w2 ⟨F2, ⟨t, j2, v, hv, hj2, rfl, hT, hP2⟩ | ⟨k, hk, rfl⟩⟩
    · obtain ⟨o, nm, a, ln, cp, rfl⟩ := hT.form
      have B2 := B1.kept F2 (by have := hlt; omega)
      have HV := Lib.hid hv
      have HT2 := Lib.hid hT
      have HP2 := Lib.hid hP2
      have FW2 := Lib.hid (FW1.out.trans F2 (fun _ _ h => h))
      have hw2 : w.heap.size < w2.heap.size := B2.lt
      clear hv hT hP2 B1 F2 hC
      have N2 := Box3.new w2 (.int .u8 (o : Int)) (.string (txt nm)) (.slice a ln cp) 24
      have G3 : Fr nob w2 (w2.alloc (.cells #[.int .u8 (o : Int), .string (txt nm), .slice a ln cp] 24)) := (Fr.refl nob w2).alloc _
      have HN2 := Lib.hid N2
      have HG3 := Lib.hid G3
      have HB2 := Lib.hid B2
      clear N2 G3 B2
      go_wp2_with fail
      refine (node_any 4 _ ⟨_, _, _, rfl⟩ _).mono ?_
      rintro e w4 ⟨rfl, F4⟩
      have G4 := HG3.out.trans F4 (fun _ _ h => h)
      have HN4 := Lib.hid (HN2.out.kept F4 (fun h => h))
      have HB4 := Lib.hid (HB2.out.kept G4 (fun h => h))
      have ⟨d0, d1, d2, df⟩ := HB4.out
      have df0 := df 0
      have df1 := df 1
      have df2 := df 2
      have HT4 := Lib.hid (HT2.out.kept (T := fun b => w1.heap.size ≤ b) G4 (fun b h _ => ⟨fun h => h, h⟩))
      have HP4 := Lib.hid (HP2.out.kept G4 (fun h => h))
      have FW4 := Lib.hid (FW2.out.trans G4 (fun _ _ h => h.elim))
      clear df HB2 HN2 HG3 HT2 HP2 FW2 F4 G4
      go_wp2_with fail
      obtain ⟨X, FX⟩ := HB4.out.set (.int .u8 4) (.string (txt [])) (.slice (some ⟨w2.heap.size, 0, none⟩) 1 1)
      clear d0 d1 d2 df0 df1 df2
      generalize ((w4.setCell ⟨w.heap.size, 0, none⟩ (.int .u8 4)).setCell ⟨w.heap.size, 1, none⟩ (.string (txt []))).setCell ⟨w.heap.size, 2, none⟩ (.slice (some ⟨w2.heap.size, 0, none⟩) 1 1) = w5 at *
      have x0 := X.c0
      have x1 := X.c1
      have x2 := X.c2
      have hpq : p ≠ w.heap.size := by omega
      refine bodyPost_ret (v := TrOp 4 (.slice (some ⟨w2.heap.size, 0, none⟩) 1 1)) (by simp [results, Try.results124, go_sem, x0, x1, x2]) rfl ⟨FW4.out.trans' FX (fun _ _ h => h) (fun k hk h => by have e : k = w.heap.size := h; omega), .inl ⟨.mk 4 [] [t], j2, _, ?_, hj2, rfl, ?_, HP4.out.kept FX (fun h => hpq h)⟩⟩
      · rw [← HR.out, HJ.out, Res.bind_ok, HV.out]; rfl
      · have N5 := HN4.out.kept FX (show ¬ w2.heap.size = w.heap.size by omega)
        have T5 := HT4.out.kept (T := fun b => w.heap.size ≤ b) FX (fun b h h' => ⟨fun e => by have e : b = w.heap.size := e; omega, by omega⟩)
        rw [TrV]
        exact ⟨_, _, rfl, fun _ => ⟨_, rfl, ⟨by omega, N5.fr⟩, by rw [KidsV, KidsV]; exact ⟨⟨_, _, _, N5.c0, N5.c1, N5.c2, T5⟩, trivial⟩⟩⟩
    · go_wp2_with fail
      refine ⟨rfl, FW1.out.trans F2 (fun _ _ h => h), .inr ⟨k, ?_, rfl⟩⟩
      rw [← HR.out, HJ.out, Res.bind_ok, hk]; rfl
  · go_wp2_with fail
    refine ⟨rfl, (F0.mono (fun _ _ h => h.elim)).trans F1 (fun _ _ h => h), .inr ⟨k, ?_, rfl⟩⟩
    rw [← HR.out, hk]; rfl
/-! least, more -/
set_option maxHeartbeats 2000000 in
theorem least_zero (s : ByteArray) (hs : s.size ≤ 9223372036854775807) (p i : Nat) (w : World) (h : PSt w p s i [48]) (hi : i ≤ s.size) (ht : tokP (TX s) i = [48]) (r : Res (Tr × Nat)) (hr : ((accP (TX s) i).bind fun j => .ok (Tr.mk 1 [] [], j)) = r) (hro : r ≠ .out) :
    Calls Try.prog 124 #[.pointer (some ⟨p, 0, none⟩)] w (ResPost s p w (fun b => w.heap.size ≤ b) r) := by
  have hlt := h.lt
  have F0 : Fr nob w (w.alloc (.cells #[.int .u8 0, .string ⟨#[]⟩, .slice none 0 0] 24)) := (Fr.refl nob w).alloc _
  have B0 := Box3.new w (.int .u8 0) (.string ⟨#[]⟩) (.slice none 0 0) 24
  have h0 := h.kept F0 (fun h => h)
  have ⟨c0, c1, c2, f1, f2⟩ := h0
  have HR := Lib.hid hr
  have HRO := Lib.hid hro
  have HB0 := Lib.hid B0
  have H0 := Lib.hid h0
  have HT := Lib.hid ht
  clear hr hro ht h B0 h0
  go_enter Try.func124, Try.ntmps124
  go_wp2_with fail
  refine (accept_no s p i _ [33] _ H0.out (by decide)).mono ?_
  rintro e w' ⟨rfl, rfl⟩
  go_wp2_with fail
  refine (accept_no s p i _ [40] _ H0.out (by decide)).mono ?_
  rintro e w' ⟨rfl, rfl⟩
  go_wp2_with fail
  refine (acc_yes s hs p i [48] _ H0.out HT.out hi).mono ?_
  rintro e w1 ⟨F1, ⟨j, hj, hjs, rfl, hP⟩ | ⟨k, hk, rfl⟩⟩
  · have FW1 := Lib.hid ((F0.mono (fun _ _ h => h.elim)).trans F1 (fun _ _ h => h))
    have HB1 := Lib.hid (HB0.out.kept F1 (by have := hlt; omega))
    have HP := Lib.hid hP
    have HJ := Lib.hid hj
    clear F0 F1 HB0 hP hj c0 c1 c2 f1 f2
    go_wp2_with fail
    refine (node_any 1 _ ⟨_, _, _, rfl⟩ _).mono ?_
    rintro e w4 ⟨rfl, F4⟩
    have HB4 := Lib.hid (HB1.out.kept F4 (fun h => h))
    have FW4 := Lib.hid (FW1.out.trans F4 (fun _ _ h => h.elim))
    have HP4 := Lib.hid (HP.out.kept F4 (fun h => h))
    have ⟨d0, d1, d2, df⟩ := HB4.out
    have df0 := df 0
    have df1 := df 1
    have df2 := df 2
    clear df F4
    go_wp2_with fail
    obtain ⟨X, FX⟩ := HB4.out.set (.int .u8 1) (.string (txt [])) (.slice none 0 0)
    clear d0 d1 d2 df0 df1 df2
    generalize ((w4.setCell ⟨w.heap.size, 0, none⟩ (.int .u8 1)).setCell ⟨w.heap.size, 1, none⟩ (.string (txt []))).setCell ⟨w.heap.size, 2, none⟩ (.slice none 0 0) = w5 at *
    have x0 := X.c0
    have x1 := X.c1
    have x2 := X.c2
    have hpq : p ≠ w.heap.size := by omega
    refine bodyPost_ret (v := TrOp 1 (.slice none 0 0)) (by simp [results, Try.results124, go_sem, x0, x1, x2]) rfl ⟨FW4.out.trans' FX (fun _ _ h => h) (fun k hk h => by have e : k = w.heap.size := h; omega), .inl ⟨.mk 1 [] [], j, _, ?_, hjs, rfl, ?_, HP4.out.kept FX (fun h => hpq h)⟩⟩
    · rw [← HR.out, HJ.out]; rfl
    · rw [TrV]
      exact ⟨none, 0, rfl, fun h => absurd rfl h⟩
  · go_wp2_with fail
    refine ⟨rfl, (F0.mono (fun _ _ h => h.elim)).trans F1 (fun _ _ h => h), .inr ⟨k, ?_, rfl⟩⟩
    rw [← HR.out, hk]; rfl
set_option maxHeartbeats 2000000 in
theorem least_one (s : ByteArray) (hs : s.size ≤ 9223372036854775807) (p i : Nat) (w : World) (h : PSt w p s i [49]) (hi : i ≤ s.size) (ht : tokP (TX s) i = [49]) (r : Res (Tr × Nat)) (hr : ((accP (TX s) i).bind fun j => .ok (Tr.mk 2 [] [], j)) = r) (hro : r ≠ .out) :
    Calls Try.prog 124 #[.pointer (some ⟨p, 0, none⟩)] w (ResPost s p w (fun b => w.heap.size ≤ b) r) := by
  have hlt := h.lt
  have F0 : Fr nob w (w.alloc (.cells #[.int .u8 0, .string ⟨#[]⟩, .slice none 0 0] 24)) := (Fr.refl nob w).alloc _
  have B0 := Box3.new w (.int .u8 0) (.string ⟨#[]⟩) (.slice none 0 0) 24
  have h0 := h.kept F0 (fun h => h)
  have ⟨c0, c1, c2, f1, f2⟩ := h0
  have HR := Lib.hid hr
  have HRO := Lib.hid hro
  have HB0 := Lib.hid B0
  have H0 := Lib.hid h0
  have HT := Lib.hid ht
  clear hr hro ht h B0 h0
  go_enter Try.func124, Try.ntmps124
  go_wp2_with fail
  refine (accept_no s p i _ [33] _ H0.out (by decide)).mono ?_
  rintro e w' ⟨rfl, rfl⟩
  go_wp2_with fail
  refine (accept_no s p i _ [40] _ H0.out (by decide)).mono ?_
  rintro e w' ⟨rfl, rfl⟩
  go_wp2_with fail
  refine (accept_no s p i _ [48] _ H0.out (by decide)).mono ?_
  rintro e w' ⟨rfl, rfl⟩
  go_wp2_with fail
  refine (acc_yes s hs p i [49] _ H0.out HT.out hi).mono ?_
  rintro e w1 ⟨F1, ⟨j, hj, hjs, rfl, hP⟩ | ⟨k, hk, rfl⟩⟩
  · have FW1 := Lib.hid ((F0.mono (fun _ _ h => h.elim)).trans F1 (fun _ _ h => h))
    have HB1 := Lib.hid (HB0.out.kept F1 (by have := hlt; omega))
    have HP := Lib.hid hP
    have HJ := Lib.hid hj
    clear F0 F1 HB0 hP hj c0 c1 c2 f1 f2
    go_wp2_with fail
    refine (node_any 2 _ ⟨_, _, _, rfl⟩ _).mono ?_
    rintro e w4 ⟨rfl, F4⟩
    have HB4 := Lib.hid (HB1.out.kept F4 (fun h => h))
    have FW4 := Lib.hid (FW1.out.trans F4 (fun _ _ h => h.elim))
    have HP4 := Lib.hid (HP.out.kept F4 (fun h => h))
    have ⟨d0, d1, d2, df⟩ := HB4.out
    have df0 := df 0
    have df1 := df 1
    have df2 := df 2
    clear df F4
    go_wp2_with fail
    obtain ⟨X, FX⟩ := HB4.out.set (.int .u8 2) (.string (txt [])) (.slice none 0 0)
    clear d0 d1 d2 df0 df1 df2
    generalize ((w4.setCell ⟨w.heap.size, 0, none⟩ (.int .u8 2)).setCell ⟨w.heap.size, 1, none⟩ (.string (txt []))).setCell ⟨w.heap.size, 2, none⟩ (.slice none 0 0) = w5 at *
    have x0 := X.c0
    have x1 := X.c1
    have x2 := X.c2
    have hpq : p ≠ w.heap.size := by omega
    refine bodyPost_ret (v := TrOp 2 (.slice none 0 0)) (by simp [results, Try.results124, go_sem, x0, x1, x2]) rfl ⟨FW4.out.trans' FX (fun _ _ h => h) (fun k hk h => by have e : k = w.heap.size := h; omega), .inl ⟨.mk 2 [] [], j, _, ?_, hjs, rfl, ?_, HP4.out.kept FX (fun h => hpq h)⟩⟩
    · rw [← HR.out, HJ.out]; rfl
    · rw [TrV]
      exact ⟨none, 0, rfl, fun h => absurd rfl h⟩
  · go_wp2_with fail
    refine ⟨rfl, (F0.mono (fun _ _ h => h.elim)).trans F1 (fun _ _ h => h), .inr ⟨k, ?_, rfl⟩⟩
    rw [← HR.out, hk]; rfl
set_option maxHeartbeats 2000000 in
theorem least_name (s : ByteArray) (hs : s.size ≤ 9223372036854775807) (t : List UInt8) (hn : nameB t = true) (n1 : t ≠ [33]) (n2 : t ≠ [40]) (n3 : t ≠ [48]) (n4 : t ≠ [49]) (hl : t.length ≤ s.size) (p i : Nat) (w : World) (h : PSt w p s i t) (hi : i ≤ s.size) (ht : tokP (TX s) i = t) (r : Res (Tr × Nat)) (hr : ((accP (TX s) i).bind fun j => .ok (Tr.mk 3 t [], j)) = r) (hro : r ≠ .out) :
    Calls Try.prog 124 #[.pointer (some ⟨p, 0, none⟩)] w (ResPost s p w (fun b => w.heap.size ≤ b) r) := by
  have hlt := h.lt
  have F0 : Fr nob w (w.alloc (.cells #[.int .u8 0, .string ⟨#[]⟩, .slice none 0 0] 24)) := (Fr.refl nob w).alloc _
  have B0 := Box3.new w (.int .u8 0) (.string ⟨#[]⟩) (.slice none 0 0) 24
  have h0 := h.kept F0 (fun h => h)
  have ⟨c0, c1, c2, f1, f2⟩ := h0
  have HR := Lib.hid hr
  have HRO := Lib.hid hro
  have HB0 := Lib.hid B0
  have H0 := Lib.hid h0
  have HT := Lib.hid ht
  have hN := fun w => isName_any (txt t) (by simp; omega) w
  simp only [txt_data, hn] at hN
  have H1 := Lib.hid n1
  have H2 := Lib.hid n2
  have H3 := Lib.hid n3
  have H4 := Lib.hid n4
  clear n1 n2 n3 n4 hn hl
  clear hr hro ht h B0 h0
  go_enter Try.func124, Try.ntmps124
  go_wp2_with fail
  refine (accept_no s p i _ [33] _ H0.out H1.out).mono ?_
  rintro e w' ⟨rfl, rfl⟩
  go_wp2_with fail
  refine (accept_no s p i _ [40] _ H0.out H2.out).mono ?_
  rintro e w' ⟨rfl, rfl⟩
  go_wp2_with fail
  refine (accept_no s p i _ [48] _ H0.out H3.out).mono ?_
  rintro e w' ⟨rfl, rfl⟩
  go_wp2_with fail
  refine (accept_no s p i _ [49] _ H0.out H4.out).mono ?_
  rintro e w' ⟨rfl, rfl⟩
  go_wp2_with fail
  refine (hN _).mono ?_
  rintro e w' ⟨rfl, rfl⟩
  go_wp2_with fail
  refine (nxt_yes s hs p i t _ H0.out HT.out hi).mono ?_
  rintro e w1 ⟨F1, ⟨j, hj, hjs, rfl, hP⟩ | ⟨k, hk, rfl⟩⟩
  · have FW1 := Lib.hid ((F0.mono (fun _ _ h => h.elim)).trans F1 (fun _ _ h => h))
    have HB1 := Lib.hid (HB0.out.kept F1 (by have := hlt; omega))
    have HP := Lib.hid hP
    have HJ := Lib.hid hj
    have ⟨d0, d1, d2, df⟩ := HB1.out
    have df0 := df 0
    have df1 := df 1
    have df2 := df 2
    clear df F0 F1 HB0 hP hj c0 c1 c2 f1 f2 hN
    go_wp2_with fail
    obtain ⟨X, FX⟩ := HB1.out.set (.int .u8 3) (.string (txt t)) (.slice none 0 0)
    clear d0 d1 d2 df0 df1 df2
    generalize ((w1.setCell ⟨w.heap.size, 0, none⟩ (.int .u8 3)).setCell ⟨w.heap.size, 1, none⟩ (.string (txt t))).setCell ⟨w.heap.size, 2, none⟩ (.slice none 0 0) = w5 at *
    have x0 := X.c0
    have x1 := X.c1
    have x2 := X.c2
    have hpq : p ≠ w.heap.size := by omega
    refine bodyPost_ret (v := .agg #[.int .u8 3, .string (txt t), .slice none 0 0]) (by simp [results, Try.results124, go_sem, x0, x1, x2]) rfl ⟨FW1.out.trans' FX (fun _ _ h => h) (fun k hk h => by have e : k = w.heap.size := h; omega), .inl ⟨.mk 3 t [], j, _, ?_, hjs, rfl, ?_, HP.out.kept FX (fun h => hpq h)⟩⟩
    · rw [← HR.out, HJ.out]; rfl
    · rw [TrV]
      exact ⟨none, 0, rfl, fun h => absurd rfl h⟩
  · go_wp2_with fail
    refine ⟨rfl, (F0.mono (fun _ _ h => h.elim)).trans F1 (fun _ _ h => h), .inr ⟨k, ?_, rfl⟩⟩
    rw [← HR.out, hk]; rfl
set_option maxHeartbeats 2000000 in
theorem least_none (s : ByteArray) (hs : s.size ≤ 9223372036854775807) (t : List UInt8) (hn : nameB t = false) (n1 : t ≠ [33]) (n2 : t ≠ [40]) (n3 : t ≠ [48]) (n4 : t ≠ [49]) (hl : t.length ≤ s.size) (p i : Nat) (w : World) (h : PSt w p s i t) (_ : i ≤ s.size) (ht : tokP (TX s) i = t) (r : Res (Tr × Nat)) (hr : (Res.bad i) = r) (hro : r ≠ .out) :
    Calls Try.prog 124 #[.pointer (some ⟨p, 0, none⟩)] w (ResPost s p w (fun b => w.heap.size ≤ b) r) := by
  have hlt := h.lt
  have F0 : Fr nob w (w.alloc (.cells #[.int .u8 0, .string ⟨#[]⟩, .slice none 0 0] 24)) := (Fr.refl nob w).alloc _
  have B0 := Box3.new w (.int .u8 0) (.string ⟨#[]⟩) (.slice none 0 0) 24
  have h0 := h.kept F0 (fun h => h)
  have ⟨c0, c1, c2, f1, f2⟩ := h0
  have HR := Lib.hid hr
  have HRO := Lib.hid hro
  have HB0 := Lib.hid B0
  have H0 := Lib.hid h0
  have HT := Lib.hid ht
  have hN := fun w => isName_any (txt t) (by simp; omega) w
  simp only [txt_data, hn] at hN
  have H1 := Lib.hid n1
  have H2 := Lib.hid n2
  have H3 := Lib.hid n3
  have H4 := Lib.hid n4
  clear n1 n2 n3 n4 hn hl
  clear hr hro ht h B0 h0
  go_enter Try.func124, Try.ntmps124
  go_wp2_with fail
  refine (accept_no s p i _ [33] _ H0.out H1.out).mono ?_
  rintro e w' ⟨rfl, rfl⟩
  go_wp2_with fail
  refine (accept_no s p i _ [40] _ H0.out H2.out).mono ?_
  rintro e w' ⟨rfl, rfl⟩
  go_wp2_with fail
  refine (accept_no s p i _ [48] _ H0.out H3.out).mono ?_
  rintro e w' ⟨rfl, rfl⟩
  go_wp2_with fail
  refine (accept_no s p i _ [49] _ H0.out H4.out).mono ?_
  rintro e w' ⟨rfl, rfl⟩
  go_wp2_with fail
  refine (hN _).mono ?_
  rintro e w' ⟨rfl, rfl⟩
  go_wp2_with fail
  exact ⟨rfl, F0.mono (fun _ _ h => h.elim), .inr ⟨i, HR.out.symm, rfl⟩⟩
set_option maxHeartbeats 2000000 in
theorem least_par (s : ByteArray) (hs : s.size ≤ 9223372036854775807) (n : Nat) (ihF : FormC s n) (p i : Nat) (w : World) (h : PSt w p s i [40]) (hi : i ≤ s.size) (ht : tokP (TX s) i = [40]) (r : Res (Tr × Nat)) (hr : ((accP (TX s) i).bind fun j => (formF (TX s) n 0 j).bind fun x => (expP (TX s) [41] x.2).bind fun k => .ok (x.1, k)) = r) (hro : r ≠ .out) :
    Calls Try.prog 124 #[.pointer (some ⟨p, 0, none⟩)] w (ResPost s p w (fun b => w.heap.size ≤ b) r) := by
  have hlt := h.lt
  have F0 : Fr nob w (w.alloc (.cells #[.int .u8 0, .string ⟨#[]⟩, .slice none 0 0] 24)) := (Fr.refl nob w).alloc _
  have B0 := Box3.new w (.int .u8 0) (.string ⟨#[]⟩) (.slice none 0 0) 24
  have h0 := h.kept F0 (fun h => h)
  have ⟨c0, c1, c2, f1, f2⟩ := h0
  have HR := Lib.hid hr
  have HRO := Lib.hid hro
  have HB0 := Lib.hid B0
  have H0 := Lib.hid h0
  have HT := Lib.hid ht
  clear hr hro ht h B0 h0
  go_enter Try.func124, Try.ntmps124
  go_wp2_with fail
  refine (accept_no s p i _ [33] _ H0.out (by decide)).mono ?_
  rintro e w' ⟨rfl, rfl⟩
  go_wp2_with fail
  refine (acc_yes s hs p i [40] _ H0.out HT.out hi).mono ?_
  rintro e w1 ⟨F1, ⟨j, hj, hjs, rfl, hP⟩ | ⟨k, hk, rfl⟩⟩
  · have hL : formF (TX s) n 0 j ≠ .out := fun e => HRO.out (by rw [← HR.out, hj, Res.bind_ok, e]; rfl)
    have hC := ihF 0 p j w1 (by omega) hP hjs hL
    have HJ := Lib.hid hj
    have B1 := HB0.out.kept F1 (by have := hlt; omega)
    have hw1 := B1.lt
    have FW1 := Lib.hid ((F0.mono (fun _ _ h => h.elim)).trans F1 (fun _ _ h => h))
    have HB1 := Lib.hid B1
    clear hj hL H0 c0 c1 c2 f1 f2 F0 F1 HB0 hP B1
    go_wp2_with fail
    refine hC.mono ?_
    rintro e w2 ⟨F2, ⟨t, j2, v, hv, hj2, rfl, hT, hP2⟩ | ⟨k, hk, rfl⟩⟩
    · obtain ⟨o, nm, a, ln, cp, rfl⟩ := hT.form
      have HB2 := Lib.hid (HB1.out.kept F2 (by have := hlt; omega))
      have HV := Lib.hid hv
      have FW2 := Lib.hid (FW1.out.trans F2 (fun _ _ h => h))
      have hw2 : w.heap.size < w2.heap.size := HB2.out.lt
      have N3 := Box3.new w2 (.int .u8 (o : Int)) (.string (txt nm)) (.slice a ln cp) 24
      have G3 : Fr nob w2 (w2.alloc (.cells #[.int .u8 (o : Int), .string (txt nm), .slice a ln cp] 24)) := (Fr.refl nob w2).alloc _
      have HN3 := Lib.hid N3
      have HB3 := Lib.hid (HB2.out.kept G3 (fun h => h))
      have HT3 := Lib.hid (hT.kept (T := fun b => w1.heap.size ≤ b) G3 (fun b h _ => ⟨fun h => h, h⟩))
      have hP3 := hP2.kept G3 (fun h => h)
      have HP3 := Lib.hid hP3
      have FW3 := Lib.hid (FW2.out.trans G3 (fun _ _ h => h.elim))
      clear hT hP2 F2 hC hv HB1 HB2 FW1 FW2 G3 N3 hP3
      go_wp2_with fail
      by_cases htk : tokP (TX s) j2 = [41]
      · have hp3 := HP3.out
        rw [htk] at hp3
        have HTK := Lib.hid htk
        refine (exp_yes s hs p j2 [41] _ hp3 htk hj2).mono ?_
        clear hp3 htk
        rintro e w4 ⟨F4, ⟨k, hk, hks, rfl, hP4⟩ | ⟨k, hk, rfl⟩⟩
        · have HK := Lib.hid hk
          have HN4 := Lib.hid (HN3.out.kept F4 (by have := FW3.out.size; have := hlt; omega))
          have HB4 := Lib.hid (HB3.out.kept F4 (by have := hlt; omega))
          have HT4 := Lib.hid (HT3.out.kept (T := fun b => w1.heap.size ≤ b) F4 (fun b h _ => ⟨by have := hlt; omega, h⟩))
          have HP4 := Lib.hid hP4
          have FW4 := Lib.hid (FW3.out.trans F4 (fun _ _ h => h))
          have ⟨d0, d1, d2, df⟩ := HB4.out
          have df0 := df 0
          have df1 := df 1
          have df2 := df 2
          have ⟨g0, g1, g2, _⟩ := HN4.out
          clear df hk F4 hP4 HN3 HB3 HT3 FW3 HP3
          go_wp2_with fail
          obtain ⟨X, FX⟩ := HB4.out.set (.int .u8 (o : Int)) (.string (txt nm)) (.slice a ln cp)
          clear d0 d1 d2 df0 df1 df2 g0 g1 g2
          generalize ((w4.setCell ⟨w.heap.size, 0, none⟩ (.int .u8 (o : Int))).setCell ⟨w.heap.size, 1, none⟩ (.string (txt nm))).setCell ⟨w.heap.size, 2, none⟩ (.slice a ln cp) = w5 at *
          have x0 := X.c0
          have x1 := X.c1
          have x2 := X.c2
          have hpq : p ≠ w.heap.size := by omega
          refine bodyPost_ret (v := .agg #[.int .u8 (o : Int), .string (txt nm), .slice a ln cp]) (by simp [results, Try.results124, go_sem, x0, x1, x2]) rfl ⟨FW4.out.trans' FX (fun _ _ h => h) (fun k hk h => by have e : k = w.heap.size := h; omega), .inl ⟨t, k, _, ?_, hks, rfl, ?_, HP4.out.kept FX (fun h => hpq h)⟩⟩
          · rw [← HR.out, HJ.out, Res.bind_ok, HV.out, Res.bind_ok]
            show ((if tokP (TX s) j2 = [41] then accP (TX s) j2 else .bad j2).bind fun k => Res.ok (t, k)) = _
            rw [if_pos HTK.out, HK.out]; rfl
          · exact HT4.out.kept (T := fun b => w.heap.size ≤ b) FX (fun b h h' => ⟨fun e => by have e : b = w.heap.size := e; omega, by omega⟩)
        · go_wp2_with fail
          refine ⟨rfl, FW3.out.trans F4 (fun _ _ h => h), .inr ⟨k, ?_, rfl⟩⟩
          rw [← HR.out, HJ.out, Res.bind_ok, HV.out, Res.bind_ok]
          show ((if tokP (TX s) j2 = [41] then accP (TX s) j2 else .bad j2).bind fun k => Res.ok (t, k)) = _
          rw [if_pos HTK.out, hk]; rfl
      · refine (expect_no s p j2 _ [41] _ HP3.out htk).mono ?_
        rintro e w' ⟨rfl, rfl⟩
        go_wp2_with fail
        refine ⟨rfl, FW3.out, .inr ⟨j2, ?_, rfl⟩⟩
        rw [← HR.out, HJ.out, Res.bind_ok, HV.out, Res.bind_ok]
        show ((if tokP (TX s) j2 = [41] then accP (TX s) j2 else .bad j2).bind fun k => Res.ok (t, k)) = _
        rw [if_neg htk]; rfl
    · go_wp2_with fail
      refine ⟨rfl, FW1.out.trans F2 (fun _ _ h => h), .inr ⟨k, ?_, rfl⟩⟩
      rw [← HR.out, HJ.out, Res.bind_ok, hk]; rfl
  · go_wp2_with fail
    refine ⟨rfl, (F0.mono (fun _ _ h => h.elim)).trans F1 (fun _ _ h => h), .inr ⟨k, ?_, rfl⟩⟩
    rw [← HR.out, hk]; rfl
theorem least_any (s : ByteArray) (hs : s.size ≤ 9223372036854775807) (n : Nat) (ihL : LeastC s n) (ihF : FormC s n) : LeastC s (n + 1) := by
  intro p i w h hi hro
  have hl : (tokP (TX s) i).length ≤ s.size := by have := tok_fits hi; omega
  rw [leastF] at hro ⊢
  by_cases h1 : tokP (TX s) i = [33]
  · rw [if_pos h1] at hro ⊢
    rw [h1] at h
    exact least_not s hs n ihL p i w h hi h1 _ rfl hro
  rw [if_neg h1] at hro ⊢
  by_cases h2 : tokP (TX s) i = [40]
  · rw [if_pos h2] at hro ⊢
    rw [h2] at h
    exact least_par s hs n ihF p i w h hi h2 _ rfl hro
  rw [if_neg h2] at hro ⊢
  by_cases h3 : tokP (TX s) i = [48]
  · rw [if_pos h3] at hro ⊢
    rw [h3] at h
    exact least_zero s hs p i w h hi h3 _ rfl hro
  rw [if_neg h3] at hro ⊢
  by_cases h4 : tokP (TX s) i = [49]
  · rw [if_pos h4] at hro ⊢
    rw [h4] at h
    exact least_one s hs p i w h hi h4 _ rfl hro
  rw [if_neg h4] at hro ⊢
  by_cases h5 : nameB (tokP (TX s) i) = true
  · rw [if_pos h5] at hro ⊢
    exact least_name s hs _ h5 h1 h2 h3 h4 hl p i w h hi rfl _ rfl hro
  · rw [if_neg h5] at hro ⊢
    exact least_none s hs _ (by simpa using h5) h1 h2 h3 h4 hl p i w h hi rfl _ rfl hro
end Go.Proofs.Ytaojojjdfdlgpaa
