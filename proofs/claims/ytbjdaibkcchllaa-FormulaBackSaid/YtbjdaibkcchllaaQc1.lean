import Derived.Test.YtbjdaibkcchllaaQf
import Derived.Deep.CutRange
namespace Go.Proofs.Ytbjdaibkcchllaa
open Go.RowKit

/-! trees whose lists lie anywhere in their blocks -/
mutual
/-- the value v is the tree, all of whose lists lie in blocks of S -/
def TrO (w : World) (S : Nat → Prop) : Tr → Value → Prop
  | .mk op name kids, v => ∃ a cap, v = .agg #[.int .u8 (op : Int), .string (txt name), .slice a kids.length cap] ∧ (kids ≠ [] → ∃ b ob, a = some ⟨b, ob, none⟩ ∧ S b ∧ KidsO w S kids b ob 0)
def KidsO (w : World) (S : Nat → Prop) : List Tr → Nat → Nat → Nat → Prop
  | [], _, _, _ => True
  | t :: ts, b, ob, i => (∃ x y z, w.cell? ⟨b, ob + i * 3, none⟩ = some x ∧ w.cell? ⟨b, ob + i * 3 + 1, none⟩ = some y ∧ w.cell? ⟨b, ob + i * 3 + 2, none⟩ = some z ∧ TrO w S t (.agg #[x, y, z])) ∧ KidsO w S ts b ob (i + 1)
end
mutual
theorem TrO.kept {w w' : World} {S S' T : Nat → Prop} (f : Fr S' w w') (hS : ∀ b, S b → b < w.heap.size → ¬ S' b ∧ T b) : ∀ {t : Tr} {v : Value}, TrO w S t v → TrO w' T t v
  | .mk op name kids, v, h => by
    rw [TrO] at h ⊢
    obtain ⟨a, cap, rfl, hk⟩ := h
    refine ⟨a, cap, rfl, fun hne => ?_⟩
    obtain ⟨b, ob, rfl, hb, hK⟩ := hk hne
    have hlt : b < w.heap.size := by
      cases kids with
      | nil => exact absurd rfl hne
      | cons t ts =>
        rw [KidsO] at hK
        obtain ⟨⟨x, y, z, h0, _⟩, _⟩ := hK
        exact lt_of_cell h0
    exact ⟨b, ob, rfl, (hS b hb hlt).2, KidsO.kept f hS hb hlt hK⟩
theorem KidsO.kept {w w' : World} {S S' T : Nat → Prop} (f : Fr S' w w') (hS : ∀ b, S b → b < w.heap.size → ¬ S' b ∧ T b) : ∀ {ts : List Tr} {b ob i : Nat}, S b → b < w.heap.size → KidsO w S ts b ob i → KidsO w' T ts b ob i
  | [], _, _, _, _, _, _ => by rw [KidsO]; trivial
  | t :: ts, b, ob, i, hb, hlt, h => by
    rw [KidsO] at h ⊢
    obtain ⟨⟨x, y, z, h0, h1, h2, hT⟩, hK⟩ := h
    exact ⟨⟨x, y, z, f.cell h0 (hS b hb hlt).1, f.cell h1 (hS b hb hlt).1, f.cell h2 (hS b hb hlt).1, TrO.kept f hS hT⟩, KidsO.kept f hS hb hlt hK⟩
end
mutual
theorem TrV.toO {w : World} {S : Nat → Prop} : ∀ {t : Tr} {v : Value}, TrV w S t v → TrO w S t v
  | .mk op name kids, v, h => by
    rw [TrV] at h
    rw [TrO]
    obtain ⟨a, cap, rfl, hk⟩ := h
    refine ⟨a, cap, rfl, fun hne => ?_⟩
    obtain ⟨b, rfl, hb, hK⟩ := hk hne
    exact ⟨b, 0, rfl, hb.1, KidsV.toO hK⟩
theorem KidsV.toO {w : World} {S : Nat → Prop} : ∀ {ts : List Tr} {b i : Nat}, KidsV w S ts b i → KidsO w S ts b 0 i
  | [], _, _, _ => by rw [KidsO]; trivial
  | t :: ts, b, i, h => by
    rw [KidsV] at h
    rw [KidsO]
    obtain ⟨⟨x, y, z, h0, h1, h2, hT⟩, hK⟩ := h
    rw [Nat.zero_add]
    exact ⟨⟨x, y, z, h0, h1, h2, TrV.toO hT⟩, KidsV.toO hK⟩
end
mutual
theorem TrV.toZ {w : World} {S : Nat → Prop} : ∀ {t : Tr} {v : Value}, TrV w S t v → TrO w (fun b => S b ∧ Flg w b) t v
  | .mk op name kids, v, h => by
    rw [TrV] at h
    rw [TrO]
    obtain ⟨a, cap, rfl, hk⟩ := h
    refine ⟨a, cap, rfl, fun hne => ?_⟩
    obtain ⟨b, rfl, hb, hK⟩ := hk hne
    exact ⟨b, 0, rfl, hb, KidsV.toZ hK⟩
theorem KidsV.toZ {w : World} {S : Nat → Prop} : ∀ {ts : List Tr} {b i : Nat}, KidsV w S ts b i → KidsO w (fun b => S b ∧ Flg w b) ts b 0 i
  | [], _, _, _ => by rw [KidsO]; trivial
  | t :: ts, b, i, h => by
    rw [KidsV] at h
    rw [KidsO]
    obtain ⟨⟨x, y, z, h0, h1, h2, hT⟩, hK⟩ := h
    rw [Nat.zero_add]
    exact ⟨⟨x, y, z, h0, h1, h2, TrV.toZ hT⟩, KidsV.toZ hK⟩
end
theorem TrO.form {w : World} {S : Nat → Prop} {t : Tr} {v : Value} (h : TrO w S t v) : ∃ (o : Nat) (nm : List UInt8) (a : Option Addr) (n c : Nat), v = .agg #[.int .u8 (o : Int), .string (txt nm), .slice a n c] := by
  cases t with
  | mk op name kids =>
    rw [TrO] at h
    obtain ⟨a, cap, rfl, _⟩ := h
    exact ⟨op, name, a, _, cap, rfl⟩
theorem KidsO.at {w : World} {S : Nat → Prop} {b ob : Nat} : ∀ {ts : List Tr} {i k : Nat} {t : Tr}, KidsO w S ts b ob i → ts[k]? = some t → ∃ x y z, w.cell? ⟨b, ob + (i + k) * 3, none⟩ = some x ∧ w.cell? ⟨b, ob + (i + k) * 3 + 1, none⟩ = some y ∧ w.cell? ⟨b, ob + (i + k) * 3 + 2, none⟩ = some z ∧ TrO w S t (.agg #[x, y, z])
  | a :: ts, i, 0, t, h, hk => by
    obtain rfl : a = t := by simpa using hk
    rw [KidsO] at h
    exact h.1
  | a :: ts, i, k + 1, t, h, hk => by
    rw [KidsO] at h
    have := KidsO.at h.2 (k := k) (t := t) (by simpa using hk)
    rwa [show i + 1 + k = i + (k + 1) by omega] at this
end Go.Proofs.Ytbjdaibkcchllaa
namespace Go.Proofs.Ytbjdaibkcchllaa
open Go.RowKit

/-! count, Great -/
mutual
/-- names and lists that can be told -/
def wide : Tr → Bool
  | .mk _ nm kids => decide (nm.length ≤ 9223372036854775807) && decide (kids.length ≤ 9223372036854775807) && wideL kids
def wideL : List Tr → Bool
  | [] => true
  | t :: ts => wide t && wideL ts
end
theorem wideL_at : ∀ {ts : List Tr} {k : Nat} {t : Tr}, wideL ts = true → ts[k]? = some t → wide t = true
  | a :: ts, 0, t, h, hk => by
    obtain rfl : a = t := by simpa using hk
    rw [wideL, Bool.and_eq_true] at h; exact h.1
  | a :: ts, k + 1, t, h, hk => by
    rw [wideL, Bool.and_eq_true] at h
    exact wideL_at h.2 (by simpa using hk)
mutual
def cntP : Tr → Nat → Int → Int
  | .mk _ nm kids, lv, left => if lv = 0 ∨ left ≤ 0 ∨ 100 < nm.length then -1 else cntL kids (lv - 1) (left - 1)
def cntL : List Tr → Nat → Int → Int
  | [], _, left => left
  | t :: ts, lv, left => if left < 0 then left else cntL ts lv (cntP t lv left)
end
mutual
theorem cntP_le : ∀ {t : Tr} {lv : Nat} {left : Int}, -1 ≤ left → left ≤ 1200 → -1 ≤ cntP t lv left ∧ cntP t lv left ≤ 1200
  | .mk op nm kids, lv, left, h1, h2 => by
    rw [cntP]
    split
    · omega
    · exact cntL_le (by omega) (by omega)
theorem cntL_le : ∀ {ts : List Tr} {lv : Nat} {left : Int}, -1 ≤ left → left ≤ 1200 → -1 ≤ cntL ts lv left ∧ cntL ts lv left ≤ 1200
  | [], lv, left, h1, h2 => by rw [cntL]; exact ⟨h1, h2⟩
  | t :: ts, lv, left, h1, h2 => by
    rw [cntL]
    split
    · exact ⟨h1, h2⟩
    · have h := cntP_le (t := t) (lv := lv) h1 h2
      exact cntL_le h.1 h.2
end
theorem cntL_cons {ts : List Tr} {k lv : Nat} {left : Int} {t : Tr} (h : ts[k]? = some t) : cntL (ts.drop k) lv left = if left < 0 then left else cntL (ts.drop (k + 1)) lv (cntP t lv left) := by
  have hk := (List.getElem?_eq_some_iff.1 h).1
  have e : ts.drop k = t :: ts.drop (k + 1) := by
    rw [List.drop_eq_getElem_cons hk]
    congr 1
    exact (List.getElem?_eq_some_iff.1 h).2
  rw [e, cntL]
theorem cntL_neg {ts : List Tr} {lv : Nat} {left : Int} (h : left < 0) : cntL ts lv left = left := by
  cases ts with
  | nil => rw [cntL]
  | cons t ts => rw [cntL, if_pos h]
def CntC (t : Tr) : Prop := ∀ (v : Value) (S : Nat → Prop) (w : World) (lv : Nat) (left : Int), wide t = true → lv ≤ 100 → -1 ≤ left → left ≤ 1200 → TrO w S t v →
  Calls Try.prog 46 #[v, .int .i64 (lv : Int), .int .i64 left] w fun e w' => e = .returned (.int .i64 (cntP t lv left)) ∧ Fr nob w w'
set_option maxHeartbeats 2000000 in
theorem cnt_one (op : Nat) (nm : List UInt8) (kids : List Tr) (ih : ∀ t ∈ kids, CntC t) : CntC (.mk op nm kids) := by
  intro v S w lv left hwd hlv hl1 hl2 hT
  rw [TrO] at hT
  obtain ⟨a, cp, rfl, hK⟩ := hT
  rw [wide, Bool.and_eq_true, Bool.and_eq_true, decide_eq_true_iff, decide_eq_true_iff] at hwd
  obtain ⟨⟨ht1, ht2⟩, htk⟩ := hwd
  obtain ⟨R, hR⟩ : ∃ R, cntP (.mk op nm kids) lv left = R := ⟨_, rfl⟩
  rw [hR]
  rw [cntP] at hR
  have HR := Lib.hid hR
  have HK := Lib.hid hK
  have HIH := Lib.hid ih
  have HTK := Lib.hid htk
  obtain ⟨nk, hnk⟩ : ∃ nk, kids.length = nk := ⟨_, rfl⟩
  rw [hnk] at ht2 ⊢
  have HNK := Lib.hid hnk
  have HBX := Lib.hid (Box3.new w (.int .u8 (op : Int)) (.string (txt nm)) (.slice a nk cp) 25)
  have HF1 := Lib.hid ((Fr.refl nob w).alloc (.cells #[.int .u8 (op : Int), .string (txt nm), .slice a nk cp] 25))
  have hsz : (txt nm).size = nm.length := txt_size nm
  have HSZ := Lib.hid hsz
  clear hR hK ih htk hnk hsz
  go_enter Try.func46, Try.ntmps46
  go_upto_region 1 with fail
  generalize w.alloc (.cells #[.int .u8 (op : Int), .string (txt nm), .slice a nk cp] 25) = W1 at *
  have ⟨g0, g1, g2, _⟩ := HBX.out
  have q0 : (0 : Int) ≤ (lv : Int) := Int.natCast_nonneg _
  by_cases h0 : lv = 0
  · subst h0
    rw [if_pos (.inl rfl)] at HR
    obtain rfl := HR.out
    go_wp2_with fail
    go_ret
    exact ⟨rfl, HF1.out⟩
  have p0 : ((lv : Int) == 0) = false := by simp only [beq_eq_false_iff_ne, ne_eq]; omega
  by_cases h1 : left ≤ 0
  · rw [if_pos (.inr (.inl h1))] at HR
    obtain rfl := HR.out
    have p1 : left - 1 < 0 := by omega
    go_wp2_with fail
    go_ret
    exact ⟨rfl, HF1.out⟩
  have p1 : ¬ left - 1 < 0 := by omega
  by_cases h2 : 100 < nm.length
  · rw [if_pos (.inr (.inr h2))] at HR
    obtain rfl := HR.out
    have p2 : (100 : Int) < (nm.length : Int) := by omega
    go_wp2_with fail
    go_ret
    exact ⟨rfl, HF1.out⟩
  have p2 : ¬ (100 : Int) < (nm.length : Int) := by omega
  rw [if_neg (by rintro (h | h | h) <;> omega)] at HR
  obtain ⟨lw, hlw⟩ : ∃ lw, lv = lw + 1 := ⟨lv - 1, by omega⟩
  have hlw2 : (lv : Int) - 1 = (lw : Int) := by omega
  rw [hlw, Nat.add_sub_cancel] at HR
  have HLW := Lib.hid (And.intro hlw hlw2)
  have HL0 := Lib.hid (show 0 < left by omega)
  clear h0 h1 h2 hlw hlw2
  go_wp2_with fail
  clear p0 p1 p2 g0 g1 g2
  go_loopg [2, 7] nk (fun m cv iv wr => ∃ (k : Nat) (c : Int), k + m = nk ∧ cv = .int .i64 c ∧ iv = .int .i64 (k : Int) ∧ -1 ≤ c ∧ c ≤ 1200 ∧ cntL (kids.drop k) lw c = R ∧ Box3 wr w.heap.size (.int .u8 (op : Int)) (.string (txt nm)) (.slice a nk cp) ∧ Fr nob w wr)
  case atStart => exact ⟨0, left - 1, by omega, rfl, rfl, by have h := HL0.out; omega, by omega, by rw [List.drop_zero]; exact HR.out, HBX.out, HF1.out⟩
  case round =>
    clear HBX HF1
    obtain ⟨k, c, hkm, rfl, rfl, hc1, hc2, hcl, hB, hF⟩ := hrel
    have HCL := Lib.hid hcl
    have HB := Lib.hid hB
    have HF := Lib.hid hF
    have r2 := hB.c2
    have q4 : (0 : Int) ≤ (k : Int) := Int.natCast_nonneg _
    clear hcl hB hF
    cases gk with
    | zero =>
      obtain rfl : k = nk := by omega
      have hv : c = R := by rw [← HCL.out, List.drop_eq_nil_of_le (by rw [HNK.out]; exact Nat.le_refl _), cntL]
      have HV := Lib.hid hv
      clear hv
      go_wp2_with fail
      go_ret
      rw [HV.out]
      exact ⟨rfl, HF.out⟩
    | succ m =>
      have q3 : (k : Int) < (nk : Int) := by omega
      by_cases hneg : c < 0
      · have q5 : ¬ (0 : Int) ≤ c := by omega
        have hv : c = R := by rw [← HCL.out, cntL_neg hneg]
        have HV := Lib.hid hv
        clear hv
        go_wp2_with fail
        go_ret
        rw [HV.out]
        exact ⟨rfl, HF.out⟩
      have q5 : (0 : Int) ≤ c := by omega
      have hk : k < kids.length := by rw [HNK.out]; omega
      have hkt : kids[k]? = some kids[k] := List.getElem?_eq_getElem hk
      have hmem : kids[k] ∈ kids := List.getElem_mem hk
      generalize kids[k] = t at hkt hmem
      obtain ⟨b, ob, rfl, hSb, hKV⟩ := HK.out (by intro e; rw [e] at hk; simp at hk)
      obtain ⟨x, y, z, e0, e1, e2, hT⟩ := hKV.at hkt
      rw [show 0 + k = k by omega] at e0 e1 e2
      replace e0 := HF.out.cell e0 (fun h => h)
      replace e1 := HF.out.cell e1 (fun h => h)
      replace e2 := HF.out.cell e2 (fun h => h)
      have hT1 := hT.kept (T := S) HF.out (fun b h _ => ⟨fun h => h, h⟩)
      obtain ⟨o, nm', a', ln', cp', hform⟩ := hT1.form
      obtain ⟨rfl, rfl, rfl⟩ : x = .int .u8 (o : Int) ∧ y = .string (txt nm') ∧ z = .slice a' ln' cp' := by simpa using hform
      have hC := HIH.out t hmem _ S wr lw c (wideL_at HTK.out hkt) (by have h := HLW.out.1; omega) hc1 hc2 hT1
      rw [← HLW.out.2] at hC
      have hstep := cntL_cons (lv := lw) (left := c) hkt
      rw [if_neg hneg, HCL.out] at hstep
      have hle := cntP_le (t := t) (lv := lw) hc1 hc2
      generalize cntP t lw c = c2 at *
      have HST := Lib.hid hstep
      have HLE := Lib.hid hle
      clear hk hkt hmem hKV hT hT1 hform hSb hstep hneg hle
      go_wp2_with fail
      refine hC.mono ?_
      rintro e w2 ⟨rfl, F2⟩
      have HB2 := Lib.hid (HB.out.kept F2 (fun h => h))
      have HF2 := Lib.hid (HF.out.trans F2 (fun _ _ h => h))
      clear hC F2 r2 HB HF
      go_wp2_with fail
      go_roundg m
      case measure => omega
      case rel => exact ⟨k + 1, c2, by omega, rfl, by go_num, HLE.out.1, HLE.out.2, HST.out.symm, HB2.out, HF2.out⟩
theorem cnt_any : ∀ (d : Nat) (t : Tr), SizeOf.sizeOf t < d → CntC t
  | 0, t, h => absurd h (Nat.not_lt_zero _)
  | d + 1, .mk op nm kids, h => cnt_one op nm kids fun t ht => cnt_any d t (by have := List.sizeOf_lt_of_mem ht; simp at h; omega)
/-- at most so many nodes and levels, with names of at most 100 bytes -/
def greatB (t : Tr) (lv : Nat) : Bool := decide (cntP t lv 1200 < 0)
theorem great_any (t : Tr) (v : Value) (S : Nat → Prop) (w : World) (lv : Nat) (hlv : lv ≤ 100) (hw : wide t = true) (hT : TrO w S t v) :
    Calls Try.prog 16 #[v, .int .i64 (lv : Int)] w fun e w' => e = .returned (.bool (greatB t lv)) ∧ Fr nob w w' := by
  obtain ⟨o, nm, a, ln, cp, hform⟩ := hT.form
  subst hform
  have F1 : Fr nob w (w.alloc (.cells #[.int .u8 (o : Int), .string (txt nm), .slice a ln cp] 25)) := (Fr.refl nob w).alloc _
  have hC := cnt_any _ t (Nat.lt_succ_self _) _ _ _ lv 1200 hw hlv (by decide) (by decide) (hT.kept (T := S) F1 (fun b h _ => ⟨fun h => h, h⟩))
  have ⟨g0, g1, g2, _⟩ := Box3.new w (.int .u8 (o : Int)) (.string (txt nm)) (.slice a ln cp) 25
  have HF1 := Lib.hid F1
  unfold greatB
  generalize cntP t lv 1200 = c at *
  clear hT F1
  go_enter Try.func16, Try.ntmps16
  go_wp2_with fail
  refine hC.mono ?_
  rintro e w2 ⟨rfl, F2⟩
  have HF2 := Lib.hid (HF1.out.trans F2 (fun _ _ h => h))
  clear F2 hC
  go_wp2_with fail
  go_ret
  exact ⟨rfl, HF2.out⟩
end Go.Proofs.Ytbjdaibkcchllaa
