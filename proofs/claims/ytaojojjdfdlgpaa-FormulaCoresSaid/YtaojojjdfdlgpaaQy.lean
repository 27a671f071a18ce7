import Derived.Test.YtaojojjdfdlgpaaQv
import Derived.Test.YtaojojjdfdlgpaaQx
import Derived.Recover
import Derived.Defers
namespace Go.Proofs.Ytaojojjdfdlgpaa
open Go.RowKit

/-! whole, Parse -/
theorem form_out {s : ByteArray} {i : Nat} (hi : i ≤ s.size) : formF (TX s) (12 * (TX s).length + 2) 0 i ≠ .out := fun e => by
  have h := (far_any (TX s) _ (stop_len (TX s)) (12 * (TX s).length + 2)).form 0 i (by simpa using hi)
  rw [e] at h
  exact h (by omega)
set_option maxHeartbeats 4000000 in
theorem whole_any (s : ByteArray) (hs : s.size ≤ 65536) (p : Nat) (w : World) (h : PSt w p s 0 []) :
    Calls Try.prog 78 #[.pointer (some ⟨p, 0, none⟩)] w (ResPost s p w (fun b => w.heap.size ≤ b) (wholeP (TX s))) := by
  have hlt := h.lt
  have hsl : (TX s).length = s.size := by simp
  have F0 : Fr nob w (w.alloc (.cells #[.int .u8 0, .string ⟨#[]⟩, .slice none 0 0] 24)) := (Fr.refl nob w).alloc _
  have HB0 := Lib.hid (Box3.new w (.int .u8 0) (.string ⟨#[]⟩) (.slice none 0 0) 24)
  have HF0 := Lib.hid F0
  have hN := next_any s p 0 [] _ (h.kept F0 (fun h => h)) (by simp) (by omega)
  simp only [List.length_nil, Nat.add_zero] at hN
  obtain ⟨r, hr⟩ : ∃ r, wholeP (TX s) = r := ⟨_, rfl⟩
  rw [hr]
  have HR := Lib.hid hr
  have HSL := Lib.hid hsl
  clear hr F0 h hsl
  go_enter Try.func78, Try.ntmps78
  go_wp2_with fail
  refine hN.mono ?_
  rintro e w1 ⟨F1, ⟨i, hi, rfl, hP⟩ | ⟨k, hk, rfl⟩⟩
  · have his : i ≤ s.size := by
      have := (nextP_le (s := TX s) (J := 0) (by omega) hi).2
      rw [HSL.out] at this; exact this
    have hst : stepP (TX s) 0 = .ok i := by unfold stepP; rw [hi]
    have hC : Calls Try.prog 111 #[.pointer (some ⟨p, 0, none⟩), .int .i64 0] w1 _ := (all_any s (by omega) (12 * (TX s).length + 2) (by rw [HSL.out]; omega) _ (Nat.le_refl _)).form 0 p i w1 (by omega) hP his (form_out his)
    have HST := Lib.hid hst
    have HB1 := Lib.hid (HB0.out.kept F1 (show ¬ w.heap.size = p by omega))
    have HF1 := Lib.hid ((HF0.out.mono (T := fun k => k = p) (fun _ _ h => h.elim)).trans F1 (fun _ _ h => h))
    have hs1 := HB1.out.lt
    clear hi hst hP F1 HB0 HF0 hN
    go_wp2_with fail
    refine hC.mono ?_
    rintro e w2 ⟨F2, ⟨t, j, v, hv, hj, rfl, hT, hP2⟩ | ⟨k, hk, rfl⟩⟩
    · obtain ⟨o, nm, a, ln, cp, rfl⟩ := hT.form
      have hs2 := F2.size
      have G2 : Fr nob w2 (w2.alloc (.cells #[.int .u8 (o : Int), .string (txt nm), .slice a ln cp] 24)) := (Fr.refl nob w2).alloc _
      have HV := Lib.hid hv
      have HN2 := Lib.hid (Box3.new w2 (.int .u8 (o : Int)) (.string (txt nm)) (.slice a ln cp) 24)
      have HB2 := Lib.hid ((HB1.out.kept F2 (show ¬ w.heap.size = p by omega)).kept G2 (fun h => h))
      have HT2 := Lib.hid (hT.kept (T := fun b => w1.heap.size ≤ b) G2 (fun b h _ => ⟨fun h => h, h⟩))
      have hP3 := hP2.kept G2 (fun h => h)
      have HP2 := Lib.hid hP3
      have HF2 := Lib.hid ((HF1.out.trans F2 (fun _ _ h => h)).trans G2 (fun _ _ h => h.elim))
      have c0 := hP3.c0
      have c1 := hP3.c1
      have q0 : (0 : Int) ≤ (j : Int) := Int.natCast_nonneg _
      clear hv F2 G2 hT hP2 hP3 hC HB1 HF1
      go_wp2_with fail
      generalize w2.alloc (.cells #[.int .u8 (o : Int), .string (txt nm), .slice a ln cp] 24) = w3 at *
      have hw : r = if j < (TX s).length then .bad j else .ok (t, j) := by rw [← HR.out]; unfold wholeP; rw [HST.out, Res.bind_ok, HV.out, Res.bind_ok]
      rw [HSL.out] at hw
      have HW := Lib.hid hw
      clear hw
      by_cases hjl : j < s.size
      · have q1 : decide ((j : Int) < (s.size : Int)) = true := by simpa using hjl
        go_quiet (fail)
        go_wp2_with fail
        exact ⟨rfl, HF2.out.trans ((Fr.refl nob w3).drewN _) (fun _ _ h => h.elim), .inr ⟨j, by rw [HW.out, if_pos hjl], rfl⟩⟩
      · have q1 : decide ((j : Int) < (s.size : Int)) = false := by simpa using hjl
        go_quiet (fail)
        have D : Fr nob w3 (w3.drewN nq) := (Fr.refl nob w3).drewN nq
        have ⟨g0, g1, g2, _⟩ := HN2.out.kept D (fun h => h)
        have HB3 := Lib.hid (HB2.out.kept D (fun h => h))
        have ⟨d0, d1, d2, df⟩ := HB3.out
        have df0 := df 0
        have df1 := df 1
        have df2 := df 2
        have HT3 := Lib.hid (HT2.out.kept (T := fun b => w1.heap.size ≤ b) D (fun b h _ => ⟨fun h => h, h⟩))
        have HP3 := Lib.hid (HP2.out.kept D (fun h => h))
        have HF3 := Lib.hid (HF2.out.trans D (fun _ _ h => h.elim))
        clear df D HB2 HN2 HT2 HP2 HF2 c0 c1 q1
        generalize w3.drewN nq = w4 at *
        go_wp2_with fail
        obtain ⟨X, FX⟩ := HB3.out.set (.int .u8 (o : Int)) (.string (txt nm)) (.slice a ln cp)
        clear d0 d1 d2 df0 df1 df2 g0 g1 g2
        generalize ((w4.setCell ⟨w.heap.size, 0, none⟩ (.int .u8 (o : Int))).setCell ⟨w.heap.size, 1, none⟩ (.string (txt nm))).setCell ⟨w.heap.size, 2, none⟩ (.slice a ln cp) = w5 at *
        have x0 := X.c0
        have x1 := X.c1
        have x2 := X.c2
        refine bodyPost_ret (v := .agg #[.int .u8 (o : Int), .string (txt nm), .slice a ln cp]) (by simp [results, Try.results78, go_sem, x0, x1, x2]) rfl ⟨HF3.out.trans' (T := fun k => k = p) FX (fun _ _ h => h) (fun k hk h => by have e : k = w.heap.size := h; omega), .inl ⟨t, j, _, by rw [HW.out, if_neg hjl], hj, rfl, ?_, HP3.out.kept FX (show ¬ p = w.heap.size by omega)⟩⟩
        exact HT3.out.kept (T := fun b => w.heap.size ≤ b) FX (fun b h _ => ⟨show ¬ b = w.heap.size by have e : w1.heap.size ≤ b := h; omega, by have e : w1.heap.size ≤ b := h; omega⟩)
    · go_wp2_with fail
      refine ⟨rfl, HF1.out.trans F2 (fun _ _ h => h), .inr ⟨k, ?_, rfl⟩⟩
      rw [← HR.out]; unfold wholeP; rw [HST.out, Res.bind_ok, hk]; rfl
  · go_wp2_with fail
    refine ⟨rfl, (HF0.out.mono (T := fun k => k = p) (fun _ _ h => h.elim)).trans F1 (fun _ _ h => h), .inr ⟨k, ?_, rfl⟩⟩
    rw [← HR.out]
    unfold wholeP stepP
    rw [hk]; rfl
theorem ta_yes (k : Nat) (w : World) : (Instr.typeAssert (.iface 128 (.int .i64 (k : Int))) 20 128 true).run Try.prog w = .ok (.tuple #[.int .i64 (k : Int), .bool true]) w := by kernel_rfl
theorem ta_no (w : World) : (Instr.typeAssert .nilIface 20 128 true).run Try.prog w = .ok (.tuple #[.int .i64 0, .bool false]) w := by kernel_rfl
set_option maxRecDepth 100000 in
set_option maxHeartbeats 4000000 in
/-- the deferred closure, where a parser has panicked -/
theorem catch_wrong (a0 a1 a2 k : Nat) (x y z u v : Value) (older : List PanicEntry) (w : World) (h0 : Box3 w a0 x y z) (h1 : w.cell? ⟨a1, 0, none⟩ = some u) (h2 : w.cell? ⟨a2, 0, none⟩ = some v) (f1 : w.frozen? ⟨a1, 0, none⟩ = false) (f2 : w.frozen? ⟨a2, 0, none⟩ = false) (n1 : a1 ≠ a0) (n2 : a2 ≠ a0) (n3 : a2 ≠ a1) :
    CallsD Try.prog 77 #[.pointer (some ⟨a0, 0, none⟩), .pointer (some ⟨a1, 0, none⟩), .pointer (some ⟨a2, 0, none⟩)] (.panicking ({ v := wrongV k, recovered := false } :: older)) w fun e u' w' =>
      e = .returned (.tuple #[]) ∧ u' = .panicking ({ v := wrongV k, recovered := true } :: older) ∧ w' = ((((w.setCell ⟨a0, 0, none⟩ (.int .u8 0)).setCell ⟨a0, 1, none⟩ (.string ⟨#[]⟩)).setCell ⟨a0, 2, none⟩ (.slice none 0 0)).setCell ⟨a1, 0, none⟩ (.int .i64 (k : Int))).setCell ⟨a2, 0, none⟩ (.int .i64 4) := by
  have hta := ta_yes k
  have n1' := Ne.symm n1
  have n2' := Ne.symm n2
  have n3' := Ne.symm n3
  obtain ⟨c0, c1, c2, fc⟩ := h0
  have fc0 := fc 0
  have fc1 := fc 1
  have fc2 := fc 2
  refine callsD_of_wpS Try.func77 rfl fun c₀ cs hu => ?_
  apply wpS_seq
  apply wpS_region
  simp [wpOpsS, go_sem, recoverD, hu, Try.ntmps77, Exit.thenS, wrongV, hta]
  apply wpS_seq
  apply wpS_region
  simp [wpOpsS, go_sem, Exit.thenS]
  refine wpS_cond (t := true) (by simp [Act.eval, Array.replicate]) ?_
  simp only [if_true]
  apply wpS_region
  simp [wpOpsS, go_sem, c0, c1, c2, fc0, fc1, fc2, h1, h2, f1, f2, bodyPostS, results, Try.results77]
/-- the deferred closure, where nothing has panicked -/
theorem catch_idle (a0 a1 a2 : Nat) (w : World) : CallsD Try.prog 77 #[.pointer (some ⟨a0, 0, none⟩), .pointer (some ⟨a1, 0, none⟩), .pointer (some ⟨a2, 0, none⟩)] .returning w fun e u' w' => e = .returned (.tuple #[]) ∧ u' = .returning ∧ w' = w := by
  have hta := ta_no
  refine callsD_of_wpS Try.func77 rfl fun c₀ cs hu => ?_
  apply wpS_seq
  apply wpS_region
  simp [wpOpsS, go_sem, recoverD, hu, Try.ntmps77, Exit.thenS, hta]
  apply wpS_seq
  apply wpS_region
  simp [wpOpsS, go_sem, Exit.thenS]
  refine wpS_cond (t := false) (by simp [Act.eval, Array.replicate]) ?_
  simp only [Bool.false_eq_true, if_false]
  refine wpS_of_wp (wp_skip ?_)
  cases c₀
  simp_all [bodyPostS, results, Try.results77]

def zeroT : Tr := .mk 0 [] []
def parseP (s : List UInt8) : Tr × Nat × Nat :=
  if 65536 < s.length then (zeroT, 65536, 5)
  else match wholeP s with
    | .ok x => if validB x.1 = true then (x.1, 0, 0) else (zeroT, s.length, 5)
    | .bad k => (zeroT, k, 4)
    | .out => (zeroT, 0, 0)
def ParsePost (w : World) (r : Tr × Nat × Nat) (e : Ending) (w' : World) : Prop :=
  ∃ v, e = .returned (.tuple #[v, .int .i64 (r.2.1 : Int), .int .i64 (r.2.2 : Int)]) ∧ TrV w' (fun b => w.heap.size ≤ b) r.1 v ∧ Fr nob w w'
theorem zero_trV (w : World) (S : Nat → Prop) : TrV w S zeroT (.agg #[.int .u8 0, .string ⟨#[]⟩, .slice none 0 0]) := by
  unfold zeroT
  rw [TrV]
  exact ⟨none, 0, rfl, fun h => absurd rfl h⟩
theorem one_new (w : World) (a : Value) (T : TypeId) : (w.alloc (.cells #[a] T)).cell? ⟨w.heap.size, 0, none⟩ = some a ∧ (w.alloc (.cells #[a] T)).frozen? ⟨w.heap.size, 0, none⟩ = false := by
  have h := heap_alloc_new w (.cells #[a] T)
  exact ⟨World.cell?_alloc_at _ _ _ _ rfl, by unfold World.frozen?; rw [h]; rfl⟩
/-- the three results -/
structure PRes (w : World) (n : Nat) (x y z u v : Value) : Prop where
  box : Box3 w n x y z
  c1 : w.cell? ⟨n + 1, 0, none⟩ = some u
  c2 : w.cell? ⟨n + 1 + 1, 0, none⟩ = some v
  f1 : w.frozen? ⟨n + 1, 0, none⟩ = false
  f2 : w.frozen? ⟨n + 1 + 1, 0, none⟩ = false
theorem PRes.kept {S : Nat → Prop} {w w' : World} {n : Nat} {x y z u v : Value} (h : PRes w n x y z u v) (f : Fr S w w') (hS : ∀ k, n ≤ k → k ≤ n + 2 → ¬ S k) : PRes w' n x y z u v :=
  have s1 : ¬ S (n + 1) := hS (n + 1) (by omega) (by omega)
  have s2 : ¬ S (n + 1 + 1) := hS (n + 1 + 1) (by omega) (by omega)
  ⟨h.box.kept f (hS n (by omega) (by omega)), f.cell h.c1 s1, f.cell h.c2 s2, (f.frozen (p := ⟨n + 1, 0, none⟩) (lt_of_cell h.c1) s1).trans h.f1, (f.frozen (p := ⟨n + 1 + 1, 0, none⟩) (lt_of_cell h.c2) s2).trans h.f2⟩
def R3 (n k : Nat) : Prop := k = n ∨ k = n + 1 ∨ k = n + 1 + 1
theorem PRes.set {w : World} {n : Nat} {x y z u v : Value} (h : PRes w n x y z u v) (x' y' z' u' v' : Value) : PRes (((((w.setCell ⟨n, 0, none⟩ x').setCell ⟨n, 1, none⟩ y').setCell ⟨n, 2, none⟩ z').setCell ⟨n + 1, 0, none⟩ u').setCell ⟨n + 1 + 1, 0, none⟩ v') n x' y' z' u' v' ∧ Fr (R3 n) w (((((w.setCell ⟨n, 0, none⟩ x').setCell ⟨n, 1, none⟩ y').setCell ⟨n, 2, none⟩ z').setCell ⟨n + 1, 0, none⟩ u').setCell ⟨n + 1 + 1, 0, none⟩ v') := by
  obtain ⟨X, FX⟩ := h.box.set x' y' z'
  have k1 := FX.cell h.c1 (show ¬ n + 1 = n by omega)
  have k2 := FX.cell h.c2 (show ¬ n + 1 + 1 = n by omega)
  have e1 := (FX.frozen (p := ⟨n + 1, 0, none⟩) (lt_of_cell h.c1) (show ¬ n + 1 = n by omega)).trans h.f1
  have e2 := (FX.frozen (p := ⟨n + 1 + 1, 0, none⟩) (lt_of_cell h.c2) (show ¬ n + 1 + 1 = n by omega)).trans h.f2
  generalize ((w.setCell ⟨n, 0, none⟩ x').setCell ⟨n, 1, none⟩ y').setCell ⟨n, 2, none⟩ z' = w1 at *
  have G1 := fr_store w1 (n + 1) 0 u'
  have X1 := X.kept G1 (show ¬ n = n + 1 by omega)
  have m1 : (w1.setCell ⟨n + 1, 0, none⟩ u').cell? ⟨n + 1, 0, none⟩ = some u' := World.cell?_setCell_same' _ _ _ (by rw [k1]; rfl)
  have m2 := G1.cell k2 (show ¬ n + 1 + 1 = n + 1 by omega)
  have d1 : (w1.setCell ⟨n + 1, 0, none⟩ u').frozen? ⟨n + 1, 0, none⟩ = false := by rw [World.frozen?_setCell]; exact e1
  have d2 : (w1.setCell ⟨n + 1, 0, none⟩ u').frozen? ⟨n + 1 + 1, 0, none⟩ = false := by rw [World.frozen?_setCell]; exact e2
  generalize w1.setCell ⟨n + 1, 0, none⟩ u' = w2 at *
  have G2 := fr_store w2 (n + 1 + 1) 0 v'
  refine ⟨⟨X1.kept G2 (show ¬ n = n + 1 + 1 by omega), G2.cell m1 (show ¬ n + 1 = n + 1 + 1 by omega), World.cell?_setCell_same' _ _ _ (by rw [m2]; rfl), by rw [World.frozen?_setCell]; exact d1, by rw [World.frozen?_setCell]; exact d2⟩, ?_⟩
  exact ((FX.mono (T := R3 n) (fun _ _ h => .inl h)).trans G1 (fun _ _ h => .inr (.inl h))).trans G2 (fun _ _ h => .inr (.inr h))
theorem PRes.new (w : World) (x y z u v : Value) (T1 T2 T3 : TypeId) : PRes (((w.alloc (.cells #[x, y, z] T1)).alloc (.cells #[u] T2)).alloc (.cells #[v] T3)) w.heap.size x y z u v ∧ Fr nob w (((w.alloc (.cells #[x, y, z] T1)).alloc (.cells #[u] T2)).alloc (.cells #[v] T3)) := by
  have A1 : Fr nob w (w.alloc (.cells #[x, y, z] T1)) := (Fr.refl nob w).alloc _
  have A2 : Fr nob (w.alloc (.cells #[x, y, z] T1)) ((w.alloc (.cells #[x, y, z] T1)).alloc (.cells #[u] T2)) := (Fr.refl nob _).alloc _
  have A3 : Fr nob ((w.alloc (.cells #[x, y, z] T1)).alloc (.cells #[u] T2)) (((w.alloc (.cells #[x, y, z] T1)).alloc (.cells #[u] T2)).alloc (.cells #[v] T3)) := (Fr.refl nob _).alloc _
  obtain ⟨i1, j1⟩ := one_new (w.alloc (.cells #[x, y, z] T1)) u T2
  obtain ⟨i2, j2⟩ := one_new ((w.alloc (.cells #[x, y, z] T1)).alloc (.cells #[u] T2)) v T3
  have k1 := A3.cell i1 (fun h => h)
  have k2 := (A3.frozen (p := ⟨(w.alloc (.cells #[x, y, z] T1)).heap.size, 0, none⟩) (lt_of_cell i1) (fun h => h)).trans j1
  simp only [World.size_alloc] at i2 j2 k1 k2
  exact ⟨⟨((Box3.new w x y z T1).kept A2 (fun h => h)).kept A3 (fun h => h), k1, i2, k2, j2⟩, (A1.trans A2 (fun _ _ h => h)).trans A3 (fun _ _ h => h)⟩
set_option maxHeartbeats 4000000 in
theorem parse_long (s : ByteArray) (hs : 65536 < s.size) (hs2 : s.size ≤ 9223372036854775807) (w : World) : Calls Try.prog 45 #[.string s] w (ParsePost w (zeroT, 65536, 5)) := by
  have hs' : (65536 : Int) < (s.size : Int) := by omega
  go_enter_defers Try.func45, Try.ntmps45
  go_wp2_with fail
  obtain ⟨P, F⟩ := PRes.new w (.int .u8 0) (.string ⟨#[]⟩) (.slice none 0 0) (.int .i64 65536) (.int .i64 5) 24 3 40
  generalize ((w.alloc (.cells #[.int .u8 0, .string ⟨#[]⟩, .slice none 0 0] 24)).alloc (.cells #[.int .i64 65536] 3)).alloc (.cells #[.int .i64 5] 40) = w3 at *
  have b0 := P.box.c0
  have b1 := P.box.c1
  have b2 := P.box.c2
  have i1 := P.c1
  have i2 := P.c2
  simp [bodyPostD, Leaves, results, Try.results45, go_sem, b0, b1, b2, i1, i2]
  exact ⟨_, rfl, zero_trV _ _, F⟩
set_option maxHeartbeats 4000000 in
theorem parse_any (s : ByteArray) (hs : s.size ≤ 65536) (htm : ∀ t j, wholeP (TX s) = .ok (t, j) → tame t = true) (w : World) : Calls Try.prog 45 #[.string s] w (ParsePost w (parseP (TX s))) := by
  have hs' : decide ((65536 : Int) < (s.size : Int)) = false := by simp; omega
  have hmf : ∀ (fn : Fn) (first cap : Array Value) (w : World), (Instr.makeFunc fn first cap).run Try.prog w = .ok (.func fn first cap) w := fun _ _ _ _ => rfl
  obtain ⟨P, F⟩ := PRes.new w (.int .u8 0) (.string ⟨#[]⟩) (.slice none 0 0) (.int .i64 0) (.int .i64 0) 24 3 40
  have HP := Lib.hid P
  have HF := Lib.hid F
  have HTM := Lib.hid htm
  have hsl : (TX s).length = s.size := by simp
  have hpp : parseP (TX s) = match wholeP (TX s) with | .ok x => if validB x.1 = true then (x.1, 0, 0) else (zeroT, s.size, 5) | .bad k => (zeroT, k, 4) | .out => (zeroT, 0, 0) := by
    unfold parseP
    rw [if_neg (by rw [hsl]; omega), hsl]
  obtain ⟨r, hr⟩ : ∃ r, parseP (TX s) = r := ⟨_, rfl⟩
  rw [hr] at hpp ⊢
  have HR := Lib.hid hpp
  clear P F htm hsl hpp hr
  go_enter_defers Try.func45, Try.ntmps45
  have HP4 := Lib.hid (three_new (((w.alloc (.cells #[.int .u8 0, .string ⟨#[]⟩, .slice none 0 0] 24)).alloc (.cells #[.int .i64 0] 3)).alloc (.cells #[.int .i64 0] 40)) (.string s) (.int .i64 0) (.string ⟨#[]⟩) 131)
  have HB4 := Lib.hid (Box3.new (((w.alloc (.cells #[.int .u8 0, .string ⟨#[]⟩, .slice none 0 0] 24)).alloc (.cells #[.int .i64 0] 3)).alloc (.cells #[.int .i64 0] 40)) (.string s) (.int .i64 0) (.string ⟨#[]⟩) 131)
  have HZ := Lib.hid (show (((w.alloc (.cells #[.int .u8 0, .string ⟨#[]⟩, .slice none 0 0] 24)).alloc (.cells #[.int .i64 0] 3)).alloc (.cells #[.int .i64 0] 40)).heap.size = w.heap.size + 1 + 1 + 1 by simp)
  rw [HZ.out] at HB4
  clear HP4
  go_wp2_with fail
  generalize ((w.alloc (.cells #[.int .u8 0, .string ⟨#[]⟩, .slice none 0 0] 24)).alloc (.cells #[.int .i64 0] 3)).alloc (.cells #[.int .i64 0] 40) = w3 at *
  have A4 : Fr nob w3 (w3.alloc (.cells #[.string s, .int .i64 0, .string ⟨#[]⟩] 131)) := (Fr.refl nob w3).alloc _
  have HQ := Lib.hid (HP.out.kept A4 (fun _ _ _ h => h))
  have HG := Lib.hid (HF.out.trans A4 (fun _ _ h => h))
  have hz3 := HZ.out
  have hw4 : w3.heap.size < (w3.alloc (.cells #[.string s, .int .i64 0, .string ⟨#[]⟩] 131)).heap.size := by simp
  clear HP HF A4 HZ
  generalize w3.alloc (.cells #[.string s, .int .i64 0, .string ⟨#[]⟩] 131) = w4 at *
  have hps : PSt w4 (w.heap.size + 1 + 1 + 1) s 0 [] := ⟨HB4.out.c0, HB4.out.c1, HB4.out.c2, HB4.out.fr 1, HB4.out.fr 2⟩
  refine (whole_any s hs _ w4 hps).mono ?_
  clear hps HB4
  rintro e w5 ⟨F5, ⟨t, j, v, hv, hj, rfl, hT, _⟩ | ⟨k, hk, rfl⟩⟩
  · obtain ⟨o, nm, a, ln, cp, rfl⟩ := hT.form
    have hs5 := F5.size
    have HQ5 := Lib.hid (HQ.out.kept F5 (fun k h1 h2 h => by have e : k = w.heap.size + 1 + 1 + 1 := h; omega))
    have HG5 := Lib.hid (HG.out.trans F5 (fun i hi h => by have e : i = w.heap.size + 1 + 1 + 1 := h; omega))
    have htm := HTM.out t j hv
    have hrv : r = if validB t = true then (t, 0, 0) else (zeroT, s.size, 5) := by rw [HR.out, hv]
    have HRV := Lib.hid hrv
    obtain ⟨X, FX⟩ := HQ5.out.box.set (.int .u8 (o : Int)) (.string (txt nm)) (.slice a ln cp)
    have hT6 := hT.kept (T := fun b => w.heap.size + 1 + 1 + 1 < b) FX (fun b h _ => ⟨show ¬ b = w.heap.size by have e : w4.heap.size ≤ b := h; omega, by have e : w4.heap.size ≤ b := h; omega⟩)
    have k1 := FX.cell HQ5.out.c1 (show ¬ w.heap.size + 1 = w.heap.size by omega)
    have k2 := FX.cell HQ5.out.c2 (show ¬ w.heap.size + 1 + 1 = w.heap.size by omega)
    have e1 := (FX.frozen (p := ⟨w.heap.size + 1, 0, none⟩) (lt_of_cell HQ5.out.c1) (show ¬ w.heap.size + 1 = w.heap.size by omega)).trans HQ5.out.f1
    have e2 := (FX.frozen (p := ⟨w.heap.size + 1 + 1, 0, none⟩) (lt_of_cell HQ5.out.c2) (show ¬ w.heap.size + 1 + 1 = w.heap.size by omega)).trans HQ5.out.f2
    have HQ6 := Lib.hid (PRes.mk (u := .int .i64 0) (v := .int .i64 0) X k1 k2 e1 e2)
    have HG6 := Lib.hid (HG5.out.trans FX (fun i hi h => by have e : i = w.heap.size := h; omega))
    have hV := valid_any t _ _ _ htm hT6.toO
    have ⟨d0, d1, d2, df⟩ := HQ5.out.box
    have df0 := df 0
    have df1 := df 1
    have df2 := df 2
    have g0 := X.c0
    have g1 := X.c1
    have g2 := X.c2
    have HT6 := Lib.hid hT6
    have hs6 := FX.size
    clear df X FX k1 k2 e1 e2 hT hv htm hrv F5 HG HG5 hT6
    go_wp2_with fail
    generalize ((w5.setCell ⟨w.heap.size, 0, none⟩ (.int .u8 (o : Int))).setCell ⟨w.heap.size, 1, none⟩ (.string (txt nm))).setCell ⟨w.heap.size, 2, none⟩ (.slice a ln cp) = w6 at *
    refine hV.mono ?_
    clear d0 d1 d2 df0 df1 df2 g0 g1 g2 hV
    rintro e w7 ⟨rfl, F7⟩
    have HQ7 := Lib.hid (HQ6.out.kept F7 (fun _ _ _ h => h))
    have HG7 := Lib.hid (HG6.out.trans F7 (fun _ _ h => h))
    have HT7 := Lib.hid (HT6.out.kept (T := fun b => w.heap.size + 1 + 1 + 1 < b) F7 (fun b h _ => ⟨fun h => h, h⟩))
    have ⟨d0, d1, d2, df⟩ := HQ7.out.box
    have df0 := df 0
    have df1 := df 1
    have df2 := df 2
    have k1 := HQ7.out.c1
    have k2 := HQ7.out.c2
    have e1 := HQ7.out.f1
    have e2 := HQ7.out.f2
    clear df F7 HQ6 HG6 HT6
    cases hvb : validB t with
    | true =>
      have HVB := Lib.hid hvb
      clear hvb
      go_wp2_with fail
      obtain ⟨P, FP⟩ := HQ7.out.set (.int .u8 (o : Int)) (.string (txt nm)) (.slice a ln cp) (.int .i64 0) (.int .i64 0)
      clear d0 d1 d2 df0 df1 df2 k1 k2 e1 e2
      generalize ((((w7.setCell ⟨w.heap.size, 0, none⟩ (.int .u8 (o : Int))).setCell ⟨w.heap.size, 1, none⟩ (.string (txt nm))).setCell ⟨w.heap.size, 2, none⟩ (.slice a ln cp)).setCell ⟨w.heap.size + 1, 0, none⟩ (.int .i64 0)).setCell ⟨w.heap.size + 1 + 1, 0, none⟩ (.int .i64 0) = w8 at *
      refine leaves_cons (f := 77) (args := #[.pointer (some ⟨w.heap.size, 0, none⟩), .pointer (some ⟨w.heap.size + 1, 0, none⟩), .pointer (some ⟨w.heap.size + 1 + 1, 0, none⟩)]) (by simp) (by simp [go_sem]) ?_
      refine (catch_idle w.heap.size (w.heap.size + 1) (w.heap.size + 1 + 1) _).mono ?_
      rintro e u' w'' ⟨rfl, rfl, rfl⟩
      have b0 := P.box.c0
      have b1 := P.box.c1
      have b2 := P.box.c2
      have i1 := P.c1
      have i2 := P.c2
      have hr2 : r = (t, 0, 0) := by rw [HRV.out, if_pos HVB.out]
      subst hr2
      simp [Leaves, settle, results, Try.results45, go_sem, b0, b1, b2, i1, i2]
      exact ⟨_, rfl, HT7.out.kept (T := fun b => w.heap.size ≤ b) FP (fun b h _ => ⟨fun e => by have h' : w.heap.size + 1 + 1 + 1 < b := h; rcases e with e | e | e <;> omega, by have h' : w.heap.size + 1 + 1 + 1 < b := h; omega⟩), HG7.out.trans FP (fun i hi h => by rcases h with h | h | h <;> omega)⟩
    | false =>
      have HVB := Lib.hid hvb
      clear hvb
      go_wp2_with fail
      obtain ⟨P, FP⟩ := HQ7.out.set (.int .u8 0) (.string ⟨#[]⟩) (.slice none 0 0) (.int .i64 (s.size : Int)) (.int .i64 5)
      clear d0 d1 d2 df0 df1 df2 k1 k2 e1 e2
      generalize ((((w7.setCell ⟨w.heap.size, 0, none⟩ (.int .u8 0)).setCell ⟨w.heap.size, 1, none⟩ (.string ⟨#[]⟩)).setCell ⟨w.heap.size, 2, none⟩ (.slice none 0 0)).setCell ⟨w.heap.size + 1, 0, none⟩ (.int .i64 (s.size : Int))).setCell ⟨w.heap.size + 1 + 1, 0, none⟩ (.int .i64 5) = w8 at *
      refine leaves_cons (f := 77) (args := #[.pointer (some ⟨w.heap.size, 0, none⟩), .pointer (some ⟨w.heap.size + 1, 0, none⟩), .pointer (some ⟨w.heap.size + 1 + 1, 0, none⟩)]) (by simp) (by simp [go_sem]) ?_
      refine (catch_idle w.heap.size (w.heap.size + 1) (w.heap.size + 1 + 1) _).mono ?_
      rintro e u' w'' ⟨rfl, rfl, rfl⟩
      have b0 := P.box.c0
      have b1 := P.box.c1
      have b2 := P.box.c2
      have i1 := P.c1
      have i2 := P.c2
      have hr2 : r = (zeroT, s.size, 5) := by rw [HRV.out, if_neg (by rw [HVB.out]; decide)]
      subst hr2
      simp [Leaves, settle, results, Try.results45, go_sem, b0, b1, b2, i1, i2]
      exact ⟨_, rfl, zero_trV _ _, HG7.out.trans FP (fun i hi h => by rcases h with h | h | h <;> omega)⟩
  · have HQ5 := Lib.hid (HQ.out.kept F5 (fun k h1 h2 h => by have e : k = w.heap.size + 1 + 1 + 1 := h; omega))
    have hrv : r = (zeroT, k, 4) := by rw [HR.out, hk]
    subst hrv
    refine leaves_cons (f := 77) (args := #[.pointer (some ⟨w.heap.size, 0, none⟩), .pointer (some ⟨w.heap.size + 1, 0, none⟩), .pointer (some ⟨w.heap.size + 1 + 1, 0, none⟩)]) (by simp) (by simp [go_sem]) ?_
    refine (catch_wrong w.heap.size (w.heap.size + 1) (w.heap.size + 1 + 1) k _ _ _ _ _ [] _ HQ5.out.box HQ5.out.c1 HQ5.out.c2 HQ5.out.f1 HQ5.out.f2 (by omega) (by omega) (by omega)).mono ?_
    rintro e u' w'' ⟨rfl, rfl, rfl⟩
    obtain ⟨P, FP⟩ := HQ5.out.set (.int .u8 0) (.string ⟨#[]⟩) (.slice none 0 0) (.int .i64 (k : Int)) (.int .i64 4)
    generalize ((((w5.setCell ⟨w.heap.size, 0, none⟩ (.int .u8 0)).setCell ⟨w.heap.size, 1, none⟩ (.string ⟨#[]⟩)).setCell ⟨w.heap.size, 2, none⟩ (.slice none 0 0)).setCell ⟨w.heap.size + 1, 0, none⟩ (.int .i64 (k : Int))).setCell ⟨w.heap.size + 1 + 1, 0, none⟩ (.int .i64 4) = w6 at *
    have b0 := P.box.c0
    have b1 := P.box.c1
    have b2 := P.box.c2
    have i1 := P.c1
    have i2 := P.c2
    simp [Leaves, settle, results, Try.results45, go_sem, b0, b1, b2, i1, i2]
    refine ⟨_, rfl, zero_trV _ _, ((HG.out.trans F5 (fun i hi h => by have e : i = w.heap.size + 1 + 1 + 1 := h; omega)).trans FP (fun i hi h => by rcases h with h | h | h <;> omega))⟩
end Go.Proofs.Ytaojojjdfdlgpaa
