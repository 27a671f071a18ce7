import Derived.Test.YtaojojjdfdlgpaaQw
import Derived.Test.YtaojojjdfdlgpaaQc1
import Derived.Deep.CutRange
namespace Go.Proofs.Ytaojojjdfdlgpaa
open Go.RowKit

/-! fits, Valid -/
mutual
def fitP : Tr → Nat → Nat → Bool × Nat
  | .mk op nm kids, c, l => if 1000 < c + 1 ∨ 64 < l ∨ shapeB op nm kids.length = false then (false, c + 1) else fitL kids (c + 1) (l + 1)
def fitL : List Tr → Nat → Nat → Bool × Nat
  | [], c, _ => (true, c)
  | t :: ts, c, l => if (fitP t c l).1 = true then fitL ts (fitP t c l).2 l else (false, (fitP t c l).2)
end
mutual
theorem fitP_le : ∀ {t : Tr} {c l : Nat}, c ≤ 1000 → (fitP t c l).2 ≤ 1001 ∧ ((fitP t c l).1 = true → (fitP t c l).2 ≤ 1000)
  | .mk op nm kids, c, l, h => by
    rw [fitP]
    split
    · exact ⟨by show c + 1 ≤ 1001; omega, fun h => by cases h⟩
    · rename_i h'
      exact fitL_le (by omega)
theorem fitL_le : ∀ {ts : List Tr} {c l : Nat}, c ≤ 1000 → (fitL ts c l).2 ≤ 1001 ∧ ((fitL ts c l).1 = true → (fitL ts c l).2 ≤ 1000)
  | [], c, l, h => by rw [fitL]; exact ⟨by show c ≤ 1001; omega, fun _ => h⟩
  | t :: ts, c, l, h => by
    have h1 := fitP_le (t := t) (l := l) h
    rw [fitL]
    split
    · rename_i h2
      exact fitL_le (h1.2 h2)
    · exact ⟨h1.1, fun h => by cases h⟩
end
mutual
/-- names and lists that are not too long to be told -/
def tame : Tr → Bool
  | .mk _ nm kids => decide (nm.length ≤ 4611686018427387904) && decide (kids.length ≤ 4611686018427387904) && tameL kids
def tameL : List Tr → Bool
  | [] => true
  | t :: ts => tame t && tameL ts
end
theorem tameL_at : ∀ {ts : List Tr} {k : Nat} {t : Tr}, tameL ts = true → ts[k]? = some t → tame t = true
  | a :: ts, 0, t, h, hk => by
    obtain rfl : a = t := by simpa using hk
    rw [tameL, Bool.and_eq_true] at h; exact h.1
  | a :: ts, k + 1, t, h, hk => by
    rw [tameL, Bool.and_eq_true] at h
    exact tameL_at h.2 (by simpa using hk)
def FitPost (sb : Nat) (w : World) (r : Bool × Nat) (e : Ending) (w' : World) : Prop :=
  e = .returned (.bool r.1) ∧ w'.cell? ⟨sb, 0, none⟩ = some (.int .i64 (r.2 : Int)) ∧ w'.frozen? ⟨sb, 0, none⟩ = false ∧ Fr (fun k => k = sb) w w'
def FitC (d : Nat) : Prop := ∀ (t : Tr) (v : Value) (c level sb : Nat) (S : Nat → Prop) (w : World), level + d = 65 → tame t = true → c ≤ 1000 → TrO w S t v → (∀ b, S b → b ≠ sb) → w.cell? ⟨sb, 0, none⟩ = some (.int .i64 (c : Int)) → w.frozen? ⟨sb, 0, none⟩ = false →
  Calls Try.prog 50 #[.pointer (some ⟨sb, 0, none⟩), v, .int .i64 (level : Int)] w (FitPost sb w (fitP t c level))
structure FitAt (w W : World) (sb c : Nat) (x y z : Value) : Prop where
  cell : W.cell? ⟨sb, 0, none⟩ = some (.int .i64 ((c : Int) + 1))
  fz : W.frozen? ⟨sb, 0, none⟩ = false
  box : Box3 W w.heap.size x y z
  fr : Fr (fun k => k = sb) w W
theorem fitAt (w : World) (sb c : Nat) (x y z : Value) (T : TypeId) (h0 : w.cell? ⟨sb, 0, none⟩ = some (.int .i64 (c : Int))) (hf : w.frozen? ⟨sb, 0, none⟩ = false) : FitAt w ((w.alloc (.cells #[x, y, z] T)).setCell ⟨sb, 0, none⟩ (.int .i64 ((c : Int) + 1))) sb c x y z := by
  have hlt : sb < w.heap.size := lt_of_cell h0
  have A1 : Fr nob w (w.alloc (.cells #[x, y, z] T)) := (Fr.refl nob _).alloc _
  have S1 := fr_store (w.alloc (.cells #[x, y, z] T)) sb 0 (.int .i64 ((c : Int) + 1))
  have i0 := A1.cell h0 (fun h => h)
  have i1 := (A1.frozen (p := ⟨sb, 0, none⟩) hlt (fun h => h)).trans hf
  exact ⟨World.cell?_setCell_same' _ _ _ (by rw [i0]; rfl), by rw [World.frozen?_setCell]; exact i1, (Box3.new w x y z T).kept S1 (show ¬ w.heap.size = sb by omega), (A1.mono (T := fun k => k = sb) (fun _ _ h => h.elim)).trans S1 (fun _ _ h => h)⟩
set_option maxHeartbeats 4000000 in
theorem fit_no (t : Tr) (v : Value) (c level sb : Nat) (S : Nat → Prop) (w : World) (hlv : level ≤ 65) (htm : tame t = true) (hc : c ≤ 1000) (hT : TrO w S t v) (h0 : w.cell? ⟨sb, 0, none⟩ = some (.int .i64 (c : Int))) (hf : w.frozen? ⟨sb, 0, none⟩ = false)
    (hno : 1000 < c + 1 ∨ 64 < level ∨ (match t with | .mk op nm kids => shapeB op nm kids.length) = false) :
    Calls Try.prog 50 #[.pointer (some ⟨sb, 0, none⟩), v, .int .i64 (level : Int)] w (FitPost sb w (false, c + 1)) := by
  cases t with
  | mk op nm kids =>
  simp only at hno
  rw [TrO] at hT
  obtain ⟨a, cp, rfl, _⟩ := hT
  rw [tame, Bool.and_eq_true, Bool.and_eq_true, decide_eq_true_iff, decide_eq_true_iff] at htm
  obtain ⟨⟨ht1, ht2⟩, _⟩ := htm
  have HA := Lib.hid (fitAt w sb c (.int .u8 (op : Int)) (.string (txt nm)) (.slice a kids.length cp) 24 h0 hf)
  have hsh := shaped_any op nm a kids.length cp (by omega) (by omega)
  have F0 : Fr nob w (w.alloc (.cells #[.int .u8 (op : Int), .string (txt nm), .slice a kids.length cp] 24)) := (Fr.refl nob w).alloc _
  have i0 := F0.cell h0 (fun h => h)
  have i1 := (F0.frozen (p := ⟨sb, 0, none⟩) (lt_of_cell h0) (fun h => h)).trans hf
  have HT1 := Lib.hid ht1
  have HNO := Lib.hid hno
  clear F0
  generalize kids.length = nk at *
  have hc0 : (0 : Int) ≤ (c : Int) := Int.natCast_nonneg _
  clear ht1 hno
  go_enter Try.func50, Try.ntmps50
  go_upto_region 2 with fail
  generalize (w.alloc (.cells #[.int .u8 (op : Int), .string (txt nm), .slice a nk cp] 24)).setCell ⟨sb, 0, none⟩ (.int .i64 ((c : Int) + 1)) = W1 at *
  have c0 := HA.out.cell
  have ⟨g0, g1, g2, _⟩ := HA.out.box
  clear h0 hf i0 i1
  by_cases h1 : 1000 < c + 1
  · have q1 : decide ((1000 : Int) < (c : Int) + 1) = true := by simp; omega
    go_wp2_with fail
    go_ret
    exact ⟨rfl, HA.out.cell, HA.out.fz, HA.out.fr⟩
  have q1 : decide ((1000 : Int) < (c : Int) + 1) = false := by simp; omega
  by_cases h2 : 64 < level
  · have q2 : decide ((64 : Int) < (level : Int)) = true := by simp; omega
    go_wp2_with fail
    go_ret
    exact ⟨rfl, HA.out.cell, HA.out.fz, HA.out.fr⟩
  have q2 : decide ((64 : Int) < (level : Int)) = false := by simp; omega
  have h3 : shapeB op nm nk = false := by rcases HNO.out with h | h | h <;> first | exact h | (exfalso; omega)
  rw [h3] at hsh
  clear h1 h2 h3
  go_wp2_with fail
  refine (hsh _).mono ?_
  rintro e w2 ⟨rfl, F2⟩
  have hlt : sb < W1.heap.size := lt_of_cell c0
  go_wp2_with fail
  go_ret
  exact ⟨rfl, F2.cell HA.out.cell (fun h => h), (F2.frozen (p := ⟨sb, 0, none⟩) hlt (fun h => h)).trans HA.out.fz, HA.out.fr.trans F2 (fun _ _ h => h.elim)⟩
/-! fits, the walk -/
theorem fitL_cons {ts : List Tr} {k c l : Nat} {t : Tr} (h : ts[k]? = some t) : fitL (ts.drop k) c l = if (fitP t c l).1 = true then fitL (ts.drop (k + 1)) (fitP t c l).2 l else (false, (fitP t c l).2) := by
  have hk := (List.getElem?_eq_some_iff.1 h).1
  have e : ts.drop k = t :: ts.drop (k + 1) := by
    rw [List.drop_eq_getElem_cons hk]
    congr 1
    exact (List.getElem?_eq_some_iff.1 h).2
  rw [e, fitL]
set_option maxHeartbeats 4000000 in
theorem fit_yes (d : Nat) (ih : FitC d) (op : Nat) (nm : List UInt8) (kids : List Tr) (a : Option Addr) (cp : Nat) (c level sb : Nat) (S : Nat → Prop) (w : World) (hlv : level + (d + 1) = 65) (htm : tame (.mk op nm kids) = true) (hc : c + 1 ≤ 1000) (hsh : shapeB op nm kids.length = true)
    (hK : kids ≠ [] → ∃ b ob, a = some ⟨b, ob, none⟩ ∧ S b ∧ KidsO w S kids b ob 0) (hS : ∀ b, S b → b ≠ sb) (h0 : w.cell? ⟨sb, 0, none⟩ = some (.int .i64 (c : Int))) (hf : w.frozen? ⟨sb, 0, none⟩ = false) :
    Calls Try.prog 50 #[.pointer (some ⟨sb, 0, none⟩), .agg #[.int .u8 (op : Int), .string (txt nm), .slice a kids.length cp], .int .i64 (level : Int)] w (FitPost sb w (fitL kids (c + 1) (level + 1))) := by
  rw [tame, Bool.and_eq_true, Bool.and_eq_true, decide_eq_true_iff, decide_eq_true_iff] at htm
  obtain ⟨⟨ht1, ht2⟩, htk⟩ := htm
  have hlt : sb < w.heap.size := lt_of_cell h0
  have HA := Lib.hid (fitAt w sb c (.int .u8 (op : Int)) (.string (txt nm)) (.slice a kids.length cp) 24 h0 hf)
  have hshp := shaped_any op nm a kids.length cp (by omega) (by omega)
  rw [hsh] at hshp
  have F0 : Fr nob w (w.alloc (.cells #[.int .u8 (op : Int), .string (txt nm), .slice a kids.length cp] 24)) := (Fr.refl nob w).alloc _
  have i0 := F0.cell h0 (fun h => h)
  have i1 := (F0.frozen (p := ⟨sb, 0, none⟩) (lt_of_cell h0) (fun h => h)).trans hf
  have HK := Lib.hid hK
  have HS := Lib.hid hS
  obtain ⟨R, hR⟩ : ∃ R, fitL kids (c + 1) (level + 1) = R := ⟨_, rfl⟩
  rw [hR]
  have HR := Lib.hid hR
  obtain ⟨nk, hnk⟩ : ∃ nk, kids.length = nk := ⟨_, rfl⟩
  rw [hnk] at hshp HA ht2 ⊢
  have HNK := Lib.hid hnk
  have hc0 : (0 : Int) ≤ (c : Int) := Int.natCast_nonneg _
  have q1 : decide ((1000 : Int) < (c : Int) + 1) = false := by simp; omega
  have q2 : decide ((64 : Int) < (level : Int)) = false := by simp; omega
  have q5 : level ≤ 64 := by omega
  rw [hnk] at i0 i1
  have HLV := Lib.hid hlv
  have HTK := Lib.hid htk
  clear F0 hK hS hR hnk hsh ht1 hlv htk hlt
  go_enter Try.func50, Try.ntmps50
  go_upto_region 2 with fail
  generalize (w.alloc (.cells #[.int .u8 (op : Int), .string (txt nm), .slice a nk cp] 24)).setCell ⟨sb, 0, none⟩ (.int .i64 ((c : Int) + 1)) = W1 at *
  have ⟨g0, g1, g2, _⟩ := HA.out.box
  have c0 := HA.out.cell
  clear h0 hf i0 i1
  go_wp2_with fail
  refine (hshp _).mono ?_
  rintro e w2 ⟨rfl, F2⟩
  have hb2 := HA.out.box.kept F2 (fun h => h)
  have r0 := hb2.c2
  have HC2 := Lib.hid (F2.cell HA.out.cell (fun h => h))
  have HZ2 := Lib.hid ((F2.frozen (p := ⟨sb, 0, none⟩) (lt_of_cell HA.out.cell) (fun h => h)).trans HA.out.fz)
  have HF2 := Lib.hid (HA.out.fr.trans F2 (fun _ _ h => h.elim))
  clear g0 g1 g2 F2 q1 q2 hb2 hshp HA c0
  go_wp2_with fail
  go_loopg [33] nk (fun m iv wr => ∃ (k c' : Nat), k + m = nk ∧ iv = .int .i64 (k : Int) ∧ c' ≤ 1000 ∧ fitL (kids.drop k) c' (level + 1) = R ∧ wr.cell? ⟨sb, 0, none⟩ = some (.int .i64 (c' : Int)) ∧ wr.frozen? ⟨sb, 0, none⟩ = false ∧ Fr (fun k => k = sb) w wr)
  case atStart => exact ⟨0, c + 1, by omega, rfl, hc, HR.out, HC2.out, HZ2.out, HF2.out⟩
  case round =>
    clear HC2 HZ2 HF2 r0
    obtain ⟨k, c', hkm, rfl, hc', hfl, hcell, hfz, hF⟩ := hrel
    have HFL := Lib.hid hfl
    have HCL := Lib.hid hcell
    have HFZ := Lib.hid hfz
    have HF := Lib.hid hF
    clear hfl hcell hfz hF
    cases gk with
    | zero =>
      obtain rfl : k = nk := by omega
      have hv : R = (true, c') := by rw [← HFL.out, List.drop_eq_nil_of_le (by rw [HNK.out]; exact Nat.le_refl _), fitL]
      have HV := Lib.hid hv
      clear hv
      go_wp2_with fail
      go_ret
      rw [HV.out]
      exact ⟨rfl, HCL.out, HFZ.out, HF.out⟩
    | succ m =>
      have hk : k < kids.length := by rw [HNK.out]; omega
      have hkt : kids[k]? = some kids[k] := List.getElem?_eq_getElem hk
      generalize kids[k] = t at hkt
      obtain ⟨b, ob, rfl, hSb, hKV⟩ := HK.out (by intro e; rw [e] at hk; simp at hk)
      obtain ⟨x, y, z, e0, e1, e2, hT⟩ := hKV.at hkt
      rw [show 0 + k = k by omega] at e0 e1 e2
      have hbs : ¬ b = sb := HS.out b hSb
      replace e0 := HF.out.cell e0 hbs
      replace e1 := HF.out.cell e1 hbs
      replace e2 := HF.out.cell e2 hbs
      have hT1 := hT.kept (T := S) HF.out (fun b h _ => ⟨HS.out b h, h⟩)
      obtain ⟨o, nm', a', ln', cp', hform⟩ := hT1.form
      obtain ⟨rfl, rfl, rfl⟩ : x = .int .u8 (o : Int) ∧ y = .string (txt nm') ∧ z = .slice a' ln' cp' := by simpa using hform
      have A : Fr nob wr (wr.alloc (.cells #[.int .u8 (o : Int), .string (txt nm'), .slice a' ln' cp'] 24)) := (Fr.refl nob wr).alloc _
      have hC : Calls Try.prog 50 #[.pointer (some ⟨sb, 0, none⟩), .agg #[.int .u8 (o : Int), .string (txt nm'), .slice a' ln' cp'], .int .i64 ((level : Int) + 1)] _ _ := ih t _ c' (level + 1) sb S (wr.alloc (.cells #[.int .u8 (o : Int), .string (txt nm'), .slice a' ln' cp'] 24)) (by have := HLV.out; omega) (tameL_at HTK.out hkt) hc' (hT1.kept (T := S) A (fun b h _ => ⟨fun h => h, h⟩)) HS.out (A.cell HCL.out (fun h => h)) ((A.frozen (p := ⟨sb, 0, none⟩) (lt_of_cell HCL.out) (fun h => h)).trans HFZ.out)
      have HA1 := Lib.hid (HF.out.trans A (fun _ _ h => h.elim))
      have HKT := Lib.hid hkt
      have hle := fitP_le (t := t) (l := level + 1) hc'
      have hstep := fitL_cons (c := c') (l := level + 1) hkt
      obtain ⟨rb, rc, hrr⟩ : ∃ rb rc, fitP t c' (level + 1) = (rb, rc) := ⟨_, _, rfl⟩
      rw [hrr] at hC hle hstep
      have HL := Lib.hid hle
      have HST := Lib.hid hstep
      have q3 : (k : Int) < (nk : Int) := by omega
      have q4 : (0 : Int) ≤ (k : Int) := Int.natCast_nonneg _
      clear hk hkt hKV hT hT1 hform A HKT hrr hle hstep hSb HCL HFZ HF
      go_wp2_with fail
      refine hC.mono ?_
      rintro e w4 ⟨rfl, hc4, hz4, F4⟩
      have HC4 := Lib.hid hc4
      have HZ4 := Lib.hid hz4
      have HF4 := Lib.hid (HA1.out.trans F4 (fun _ _ h => h))
      clear hc4 hz4 F4 hC q3 e0 e1 e2
      cases rb with
      | true =>
        have h1000 : rc ≤ 1000 := HL.out.2 rfl
        go_wp2_with fail
        go_roundg m
        case measure => omega
        case rel => exact ⟨k + 1, rc, by omega, by go_num, h1000, by rw [← HFL.out, HST.out]; rfl, HC4.out, HZ4.out, HF4.out⟩
      | false =>
        have hv : R = (false, rc) := by rw [← HFL.out, HST.out]; rfl
        have HV := Lib.hid hv
        clear hv
        go_wp2_with fail
        go_ret
        rw [HV.out]
        exact ⟨rfl, HC4.out, HZ4.out, HF4.out⟩
theorem fit_any : ∀ d, FitC d
  | 0 => by
    intro t v c level sb S w hl htm hc hT hS h0 hf
    have e : fitP t c level = (false, c + 1) := by
      cases t with
      | mk op nm kids => rw [fitP, if_pos (.inr (.inl (by omega)))]
    rw [e]
    exact fit_no t v c level sb S w (by omega) htm hc hT h0 hf (.inr (.inl (by omega)))
  | d + 1 => by
    intro t v c level sb S w hl htm hc hT hS h0 hf
    cases t with
    | mk op nm kids =>
    rw [fitP]
    by_cases hno : 1000 < c + 1 ∨ 64 < level ∨ shapeB op nm kids.length = false
    · rw [if_pos hno]
      exact fit_no _ v c level sb S w (by omega) htm hc hT h0 hf hno
    · rw [if_neg hno]
      rw [TrO] at hT
      obtain ⟨a, cp, rfl, hK⟩ := hT
      have h3 : shapeB op nm kids.length = true := by
        cases h : shapeB op nm kids.length with
        | true => rfl
        | false => exact absurd (.inr (.inr h)) hno
      exact fit_yes d (fit_any d) op nm kids a cp c level sb S w hl htm (by omega) h3 hK hS h0 hf
def validB (t : Tr) : Bool := (fitP t 0 1).1
theorem valid_any (t : Tr) (v : Value) (S : Nat → Prop) (w : World) (htm : tame t = true) (hT : TrO w S t v) : Calls Try.prog 16 #[v] w fun e w' => e = .returned (.bool (validB t)) ∧ Fr nob w w' := by
  obtain ⟨o, nm, a, ln, cp, rfl⟩ := hT.form
  have F0 : Fr nob w ((w.alloc (.cells #[.int .u8 (o : Int), .string (txt nm), .slice a ln cp] 24)).alloc (.cells #[.int .i64 0] 87)) := ((Fr.refl nob w).alloc _).alloc _
  have A1 : Fr nob (w.alloc (.cells #[.int .u8 (o : Int), .string (txt nm), .slice a ln cp] 24)) ((w.alloc (.cells #[.int .u8 (o : Int), .string (txt nm), .slice a ln cp] 24)).alloc (.cells #[.int .i64 0] 87)) := (Fr.refl nob _).alloc _
  have N0 := (Box3.new w (.int .u8 (o : Int)) (.string (txt nm)) (.slice a ln cp) 24).kept A1 (fun h => h)
  have hcell : ((w.alloc (.cells #[.int .u8 (o : Int), .string (txt nm), .slice a ln cp] 24)).alloc (.cells #[.int .i64 0] 87)).cell? ⟨(w.alloc (.cells #[.int .u8 (o : Int), .string (txt nm), .slice a ln cp] 24)).heap.size, 0, none⟩ = some (.int .i64 0) := World.cell?_alloc_at _ _ _ _ rfl
  have hblk := heap_alloc_new (w.alloc (.cells #[.int .u8 (o : Int), .string (txt nm), .slice a ln cp] 24)) (.cells #[.int .i64 0] 87)
  have hfz : ((w.alloc (.cells #[.int .u8 (o : Int), .string (txt nm), .slice a ln cp] 24)).alloc (.cells #[.int .i64 0] 87)).frozen? ⟨(w.alloc (.cells #[.int .u8 (o : Int), .string (txt nm), .slice a ln cp] 24)).heap.size, 0, none⟩ = false := by unfold World.frozen?; rw [hblk]; rfl
  simp only [World.size_alloc] at hcell hfz
  have hT1 := hT.kept (T := fun b => S b ∧ b < w.heap.size) F0 (fun b h h' => ⟨fun h => h, h, h'⟩)
  have hC : Calls Try.prog 50 #[.pointer (some ⟨w.heap.size + 1, 0, none⟩), .agg #[.int .u8 (o : Int), .string (txt nm), .slice a ln cp], .int .i64 1] _ _ := fit_any 64 t _ 0 1 (w.heap.size + 1) _ _ (by omega) htm (by omega) hT1 (fun b h => by have := h.2; omega) hcell hfz
  have ⟨g0, g1, g2, _⟩ := N0
  have HF0 := Lib.hid F0
  unfold validB
  obtain ⟨rb, rc, hrr⟩ : ∃ rb rc, fitP t 0 1 = (rb, rc) := ⟨_, _, rfl⟩
  rw [hrr] at hC ⊢
  clear F0 A1 N0 hblk hT hT1 hrr hcell hfz htm
  go_enter Try.func16, Try.ntmps16
  go_wp2_with fail
  refine hC.mono ?_
  rintro e w4 ⟨rfl, _, _, F4⟩
  go_wp2_with fail
  go_ret
  exact ⟨rfl, HF0.out.trans F4 (fun i hi h => by have e : i = w.heap.size + 1 := h; omega)⟩
end Go.Proofs.Ytaojojjdfdlgpaa
