import Derived.Test.YtbjdaibkcchllaaQc2
namespace Go.Proofs.Ytbjdaibkcchllaa
open Go.RowKit

/-! the reference's Levels -/
mutual
def lvlP : Tr → Nat
  | .mk _ _ kids => lvlL kids 0 + 1
def lvlL : List Tr → Nat → Nat
  | [], n => n
  | t :: ts, n => lvlL ts (max n (lvlP t))
end
theorem lvlL_ge : ∀ {ts : List Tr} {n : Nat}, n ≤ lvlL ts n
  | [], n => by rw [lvlL]; exact Nat.le_refl _
  | t :: ts, n => by rw [lvlL]; exact Nat.le_trans (Nat.le_max_left _ _) lvlL_ge
theorem lvlL_mem : ∀ {ts : List Tr} {n : Nat} {t : Tr}, t ∈ ts → lvlP t ≤ lvlL ts n
  | a :: ts, n, t, h => by
    rw [lvlL]
    rcases List.mem_cons.1 h with rfl | h
    · exact Nat.le_trans (Nat.le_max_right _ _) lvlL_ge
    · exact lvlL_mem h
theorem drop_at {l : List Tr} {k : Nat} {x : Tr} (h : l[k]? = some x) : l.drop k = x :: l.drop (k + 1) := by
  have hk := (List.getElem?_eq_some_iff.1 h).1
  rw [List.drop_eq_getElem_cons hk]
  congr 1
  exact (List.getElem?_eq_some_iff.1 h).2
def LvlC (t : Tr) : Prop := ∀ (v : Value) (S : Nat → Prop) (w : World), wide t = true → lvlP t ≤ 1000000 → TrO w S t v →
  Calls Try.prog 26 #[v] w fun e w' => e = .returned (.int .i64 (lvlP t : Int)) ∧ Fr nob w w'
set_option maxHeartbeats 2000000 in
theorem lvl_one (op : Nat) (nm : List UInt8) (kids : List Tr) (ih : ∀ t ∈ kids, LvlC t) : LvlC (.mk op nm kids) := by
  intro v S w hwd hlv hT
  rw [TrO] at hT
  obtain ⟨a, cp, rfl, hK⟩ := hT
  rw [wide, Bool.and_eq_true, Bool.and_eq_true, decide_eq_true_iff, decide_eq_true_iff] at hwd
  obtain ⟨⟨ht1, ht2⟩, htk⟩ := hwd
  rw [lvlP] at hlv ⊢
  obtain ⟨R, hR⟩ : ∃ R, lvlL kids 0 = R := ⟨_, rfl⟩
  have hle : ∀ t ∈ kids, lvlP t ≤ 1000000 := fun t ht => by have := lvlL_mem (n := 0) ht; omega
  rw [hR] at hlv ⊢
  have HR := Lib.hid hR
  have HK := Lib.hid hK
  have HIH := Lib.hid ih
  have HTK := Lib.hid htk
  have HLE := Lib.hid hle
  obtain ⟨nk, hnk⟩ : ∃ nk, kids.length = nk := ⟨_, rfl⟩
  rw [hnk] at ht2 ⊢
  have HNK := Lib.hid hnk
  have HBX := Lib.hid (Box3.new w (.int .u8 (op : Int)) (.string (txt nm)) (.slice a nk cp) 25)
  have HF1 := Lib.hid ((Fr.refl nob w).alloc (.cells #[.int .u8 (op : Int), .string (txt nm), .slice a nk cp] 25))
  clear hR hK ih htk hnk hle
  go_enter Try.func26, Try.ntmps26
  go_upto_region 1 with fail
  generalize w.alloc (.cells #[.int .u8 (op : Int), .string (txt nm), .slice a nk cp] 25) = W1 at *
  go_wp2_with fail
  go_loopg [3, 4] nk (fun m cv iv wr => ∃ (k c : Nat), k + m = nk ∧ cv = .int .i64 (c : Int) ∧ iv = .int .i64 (k : Int) ∧ c ≤ 1000000 ∧ lvlL (kids.drop k) c = R ∧ Box3 wr w.heap.size (.int .u8 (op : Int)) (.string (txt nm)) (.slice a nk cp) ∧ Fr nob w wr)
  case atStart => exact ⟨0, 0, by omega, rfl, rfl, by omega, by rw [List.drop_zero]; exact HR.out, HBX.out, HF1.out⟩
  case round =>
    clear HBX HF1
    obtain ⟨k, c, hkm, rfl, rfl, hc2, hcl, hB, hF⟩ := hrel
    have HCL := Lib.hid hcl
    have HB := Lib.hid hB
    have HF := Lib.hid hF
    have r2 := hB.c2
    have q4 : (0 : Int) ≤ (k : Int) := Int.natCast_nonneg _
    clear hcl hB hF
    cases gk with
    | zero =>
      obtain rfl : k = nk := by omega
      have hv : c = R := by rw [← HCL.out, List.drop_eq_nil_of_le (by rw [HNK.out]; exact Nat.le_refl _), lvlL]
      have HV := Lib.hid hv
      clear hv
      go_wp2_with fail
      go_ret
      rw [← HV.out]
      exact ⟨by simp, HF.out⟩
    | succ m =>
      have q3 : (k : Int) < (nk : Int) := by omega
      have hk : k < kids.length := by rw [HNK.out]; omega
      have hkt : kids[k]? = some kids[k] := List.getElem?_eq_getElem hk
      have hmem : kids[k] ∈ kids := List.getElem_mem hk
      generalize kids[k] = t at hkt hmem
      obtain ⟨b, ob, rfl, hSb, hKV⟩ := HK.out (by intro e; rw [e] at hk; simp at hk)
      obtain ⟨x, y, z, e0, e1, e2, hT⟩ := hKV.at hkt
      rw [show 0 + k = k by omega] at e0 e1 e2
      replace e0 := HF.out.cell e0 (fun h => h)
      replace e1 := HF.out.cell e1 (fun h => h)
      replace e2 := HF.out.cell e2 (fun h => h)
      have hT1 := hT.kept (T := S) HF.out (fun b h _ => ⟨fun h => h, h⟩)
      obtain ⟨o, nm', a', ln', cp', hform⟩ := hT1.form
      obtain ⟨rfl, rfl, rfl⟩ : x = .int .u8 (o : Int) ∧ y = .string (txt nm') ∧ z = .slice a' ln' cp' := by simpa using hform
      have hC := HIH.out t hmem _ S wr (wideL_at HTK.out hkt) (HLE.out t hmem) hT1
      have hlt := HLE.out t hmem
      have hstep : lvlL (kids.drop (k + 1)) (max c (lvlP t)) = R := by rw [← HCL.out, drop_at hkt, lvlL]
      generalize lvlP t = c2 at *
      have HST := Lib.hid hstep
      have HLT := Lib.hid hlt
      clear hk hkt hmem hKV hT hT1 hform hSb hstep hlt
      go_wp2_with fail
      refine hC.mono ?_
      rintro e w2 ⟨rfl, F2⟩
      have HB2 := Lib.hid (HB.out.kept F2 (fun h => h))
      have HF2 := Lib.hid (HF.out.trans F2 (fun _ _ h => h))
      clear hC F2 r2 HB HF
      by_cases hcc : c < c2
      · have q6 : (c : Int) < (c2 : Int) := by omega
        go_wp2_with fail
        go_roundg m
        case measure => omega
        case rel => exact ⟨k + 1, c2, by omega, rfl, by go_num, by have := HLT.out; omega, by rw [← HST.out, Nat.max_eq_right (by omega)], HB2.out, HF2.out⟩
      · have q6 : ¬ (c : Int) < (c2 : Int) := by omega
        go_wp2_with fail
        go_roundg m
        case measure => omega
        case rel => exact ⟨k + 1, c, by omega, rfl, by go_num, hc2, by rw [← HST.out, Nat.max_eq_left (by omega)], HB2.out, HF2.out⟩
theorem lvl_any : ∀ (d : Nat) (t : Tr), SizeOf.sizeOf t < d → LvlC t
  | 0, t, h => absurd h (Nat.not_lt_zero _)
  | d + 1, .mk op nm kids, h => lvl_one op nm kids fun t ht => lvl_any d t (by have := List.sizeOf_lt_of_mem ht; simp at h; omega)
end Go.Proofs.Ytbjdaibkcchllaa
