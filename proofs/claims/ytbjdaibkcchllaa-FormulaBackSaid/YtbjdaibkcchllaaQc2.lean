import Derived.Test.YtbjdaibkcchllaaQc1
import Derived.Deep.RegionWith
namespace Go.Proofs.Ytbjdaibkcchllaa
open Go.RowKit

/-! the reference's Same -/
mutual
def sameP : Tr → Tr → Bool
  | .mk op nm ks, .mk op' nm' ks' => (op == op') && (nm == nm') && (ks.length == ks'.length) && sameL ks ks'
def sameL : List Tr → List Tr → Bool
  | [], _ => true
  | _ :: _, [] => true
  | t :: ts, t' :: ts' => sameP t t' && sameL ts ts'
end
mutual
theorem sameP_iff : ∀ {t t' : Tr}, sameP t t' = true → t = t'
  | .mk op nm ks, .mk op' nm' ks', h => by
    rw [sameP, Bool.and_eq_true, Bool.and_eq_true, Bool.and_eq_true, beq_iff_eq, beq_iff_eq, beq_iff_eq] at h
    obtain ⟨⟨⟨rfl, rfl⟩, h3⟩, h4⟩ := h
    rw [sameL_iff h3 h4]
theorem sameL_iff : ∀ {ts ts' : List Tr}, ts.length = ts'.length → sameL ts ts' = true → ts = ts'
  | [], [], _, _ => rfl
  | [], _ :: _, h, _ => by simp at h
  | _ :: _, [], h, _ => by simp at h
  | t :: ts, t' :: ts', h, h2 => by
    rw [sameL, Bool.and_eq_true] at h2
    rw [sameP_iff h2.1, sameL_iff (by simpa using h) h2.2]
end
mutual
theorem sameP_refl : ∀ (t : Tr), sameP t t = true
  | .mk op nm ks => by rw [sameP, sameL_refl ks]; simp
theorem sameL_refl : ∀ (ts : List Tr), sameL ts ts = true
  | [] => by rw [sameL]
  | t :: ts => by rw [sameL, sameP_refl t, sameL_refl ts]; rfl
end
theorem sameL_cons {ts ts' : List Tr} {k : Nat} {t t' : Tr} (h : ts[k]? = some t) (h' : ts'[k]? = some t') : sameL (ts.drop k) (ts'.drop k) = (sameP t t' && sameL (ts.drop (k + 1)) (ts'.drop (k + 1))) := by
  have e : ∀ {l : List Tr} {x : Tr}, l[k]? = some x → l.drop k = x :: l.drop (k + 1) := fun {l x} h => by
    have hk := (List.getElem?_eq_some_iff.1 h).1
    rw [List.drop_eq_getElem_cons hk]
    congr 1
    exact (List.getElem?_eq_some_iff.1 h).2
  rw [e h, e h', sameL]
theorem txt_beq (a b : List UInt8) : ((txt a).toList == (txt b).toList) = (a == b) := by rw [ByteArray.toList_eq, ByteArray.toList_eq, txt_data, txt_data]
def SameC (t : Tr) : Prop := ∀ (t' : Tr) (v v' : Value) (S S' : Nat → Prop) (w : World), wide t = true → wide t' = true → TrO w S t v → TrO w S' t' v' →
  Calls Try.prog 15 #[v, v'] w fun e w' => e = .returned (.bool (sameP t t')) ∧ Fr nob w w'
set_option maxHeartbeats 4000000 in
theorem same_one (op : Nat) (nm : List UInt8) (kids : List Tr) (ih : ∀ t ∈ kids, SameC t) : SameC (.mk op nm kids) := by
  intro t' v v' S S' w hwd hwd' hT hT'
  obtain ⟨op', nm', kids'⟩ := t'
  rw [TrO] at hT hT'
  obtain ⟨a, cp, rfl, hK⟩ := hT
  obtain ⟨a', cp', rfl, hK'⟩ := hT'
  rw [wide, Bool.and_eq_true, Bool.and_eq_true, decide_eq_true_iff, decide_eq_true_iff] at hwd hwd'
  obtain ⟨⟨ht1, ht2⟩, htk⟩ := hwd
  obtain ⟨⟨ht1', ht2'⟩, htk'⟩ := hwd'
  obtain ⟨R, hR⟩ : ∃ R, sameP (.mk op nm kids) (.mk op' nm' kids') = R := ⟨_, rfl⟩
  rw [hR]
  rw [sameP] at hR
  have HK := Lib.hid hK
  have HK' := Lib.hid hK'
  have HIH := Lib.hid ih
  have HTK := Lib.hid htk
  have HTK' := Lib.hid htk'
  obtain ⟨nk, hnk⟩ : ∃ nk, kids.length = nk := ⟨_, rfl⟩
  obtain ⟨nk', hnk'⟩ : ∃ nk', kids'.length = nk' := ⟨_, rfl⟩
  rw [hnk] at ht2 hR ⊢
  rw [hnk'] at ht2' hR ⊢
  have HNK := Lib.hid hnk
  have HNK' := Lib.hid hnk'
  have HR := Lib.hid hR
  have A1 : Fr nob (w.alloc (.cells #[.int .u8 (op : Int), .string (txt nm), .slice a nk cp] 25)) ((w.alloc (.cells #[.int .u8 (op : Int), .string (txt nm), .slice a nk cp] 25)).alloc (.cells #[.int .u8 (op' : Int), .string (txt nm'), .slice a' nk' cp'] 25)) := (Fr.refl nob _).alloc _
  have HBX := Lib.hid ((Box3.new w (.int .u8 (op : Int)) (.string (txt nm)) (.slice a nk cp) 25).kept A1 (fun h => h))
  have hby := Box3.new (w.alloc (.cells #[.int .u8 (op : Int), .string (txt nm), .slice a nk cp] 25)) (.int .u8 (op' : Int)) (.string (txt nm')) (.slice a' nk' cp') 25
  simp only [World.size_alloc] at hby
  have HBY := Lib.hid hby
  have HF1 := Lib.hid (((Fr.refl nob w).alloc (.cells #[.int .u8 (op : Int), .string (txt nm), .slice a nk cp] 25)).alloc (.cells #[.int .u8 (op' : Int), .string (txt nm'), .slice a' nk' cp'] 25))
  clear hR hK hK' ih htk htk' hnk hnk' A1 hby
  go_enter Try.func15, Try.ntmps15
  go_upto_region 1 with fail
  generalize (w.alloc (.cells #[.int .u8 (op : Int), .string (txt nm), .slice a nk cp] 25)).alloc (.cells #[.int .u8 (op' : Int), .string (txt nm'), .slice a' nk' cp'] 25) = W1 at *
  have ⟨g0, g1, g2, _⟩ := HBX.out
  have ⟨k0, k1, k2, _⟩ := HBY.out
  by_cases h0 : op = op'
  · subst h0
    by_cases h1 : nm = nm'
    · subst h1
      by_cases h2 : nk = nk'
      · subst h2
        have p1 : ((txt nm).toList == (txt nm).toList) = true := by simp
        have hRR : sameL kids kids' = R := by rw [← HR.out]; simp
        have HRR := Lib.hid hRR
        clear hRR
        go_wp2_with fail
        clear p1 g0 g1 g2 k0 k1 k2
        go_loopg [5] nk (fun m iv wr => ∃ (k : Nat), k + m = nk ∧ iv = .int .i64 (k : Int) ∧ sameL (kids.drop k) (kids'.drop k) = R ∧ Box3 wr w.heap.size (.int .u8 (op : Int)) (.string (txt nm)) (.slice a nk cp) ∧ Box3 wr (w.heap.size + 1) (.int .u8 (op : Int)) (.string (txt nm)) (.slice a' nk cp') ∧ Fr nob w wr)
        case atStart => exact ⟨0, by omega, rfl, by rw [List.drop_zero, List.drop_zero]; exact HRR.out, HBX.out, HBY.out, HF1.out⟩
        case round =>
          clear HBX HBY HF1 HRR HR
          obtain ⟨k, hkm, rfl, hcl, hB, hB', hF⟩ := hrel
          have HCL := Lib.hid hcl
          have HB := Lib.hid hB
          have HB' := Lib.hid hB'
          have HF := Lib.hid hF
          have r2 := hB.c2
          have s2 := hB'.c2
          have q4 : (0 : Int) ≤ (k : Int) := Int.natCast_nonneg _
          clear hcl hB hF hB'
          cases gk with
          | zero =>
            obtain rfl : k = nk := by omega
            have hv : true = R := by rw [← HCL.out, List.drop_eq_nil_of_le (by rw [HNK.out]; exact Nat.le_refl _), sameL]
            have HV := Lib.hid hv
            clear hv
            go_wp2_with fail
            go_ret
            rw [← HV.out]
            exact ⟨rfl, HF.out⟩
          | succ m =>
            have q3 : (k : Int) < (nk : Int) := by omega
            have hk : k < kids.length := by rw [HNK.out]; omega
            have hk' : k < kids'.length := by rw [HNK'.out]; omega
            have hkt : kids[k]? = some kids[k] := List.getElem?_eq_getElem hk
            have hkt' : kids'[k]? = some kids'[k] := List.getElem?_eq_getElem hk'
            have hmem : kids[k] ∈ kids := List.getElem_mem hk
            generalize kids[k] = t at hkt hmem
            generalize kids'[k] = t' at hkt'
            obtain ⟨b, ob, rfl, hSb, hKV⟩ := HK.out (by intro e; rw [e] at hk; simp at hk)
            obtain ⟨b', ob', rfl, hSb', hKV'⟩ := HK'.out (by intro e; rw [e] at hk'; simp at hk')
            obtain ⟨x, y, z, e0, e1, e2, hT⟩ := hKV.at hkt
            obtain ⟨x', y', z', e0', e1', e2', hT'⟩ := hKV'.at hkt'
            rw [show 0 + k = k by omega] at e0 e1 e2 e0' e1' e2'
            have D : Fr nob w wr.drew := HF.out.drew
            replace e0 := D.cell e0 (fun h => h)
            replace e1 := D.cell e1 (fun h => h)
            replace e2 := D.cell e2 (fun h => h)
            replace e0' := D.cell e0' (fun h => h)
            replace e1' := D.cell e1' (fun h => h)
            replace e2' := D.cell e2' (fun h => h)
            have D0 : Fr nob wr wr.drew := (Fr.refl nob wr).drew
            have hT1 := hT.kept (T := S) D (fun b h _ => ⟨fun h => h, h⟩)
            have hT1' := hT'.kept (T := S') D (fun b h _ => ⟨fun h => h, h⟩)
            obtain ⟨o, nn, la, ln, lc, hform⟩ := hT1.form
            obtain ⟨rfl, rfl, rfl⟩ : x = .int .u8 (o : Int) ∧ y = .string (txt nn) ∧ z = .slice la ln lc := by simpa using hform
            obtain ⟨o', nn', la', ln', lc', hform'⟩ := hT1'.form
            obtain ⟨rfl, rfl, rfl⟩ : x' = .int .u8 (o' : Int) ∧ y' = .string (txt nn') ∧ z' = .slice la' ln' lc' := by simpa using hform'
            have hC := HIH.out t hmem t' _ _ S S' wr.drew (wideL_at HTK.out hkt) (wideL_at HTK'.out hkt') hT1 hT1'
            have hstep := sameL_cons hkt hkt'
            rw [HCL.out] at hstep
            generalize sameP t t' = c2 at *
            have HST := Lib.hid hstep
            have HBd := Lib.hid (HB.out.kept D0 (fun h => h))
            have HBd' := Lib.hid (HB'.out.kept D0 (fun h => h))
            have HFd := Lib.hid D
            have rd2 := HBd.out.c2
            have sd2 := HBd'.out.c2
            clear hk hk' hkt hkt' hmem hKV hKV' hT hT' hT1 hT1' hform hform' hSb hSb' hstep D D0 HB HB' HF
            go_wp2_with fail
            clear r2 s2
            go_region_with (go_at_call 15; (with_reducible refine hC.mono ?_); rintro e w2 ⟨rfl, F2⟩)
            all_goals (
              have HB2 := Lib.hid (HBd.out.kept F2 (fun h => h))
              have HB2' := Lib.hid (HBd'.out.kept F2 (fun h => h))
              have HF2 := Lib.hid (HFd.out.trans F2 (fun _ _ h => h))
              clear F2 hC rd2 sd2 e0 e1 e2 e0' e1' e2'
              cases c2 with
              | false =>
                have hv : false = R := by rw [HST.out]; rfl
                subst hv
                go_wp2_with fail
                go_ret
                exact ⟨rfl, HF2.out⟩
              | true =>
                go_wp2_with fail
                go_roundg m
                case measure => omega
                case rel => exact ⟨k + 1, by omega, by go_num, by rw [HST.out]; rfl, HB2.out, HB2'.out, HF2.out⟩)
      · have p1 : ((txt nm).toList == (txt nm).toList) = true := by simp
        have p2 : ((nk : Int) == (nk' : Int)) = false := by simp only [beq_eq_false_iff_ne, ne_eq]; omega
        have hv : R = false := by rw [← HR.out]; simp [h2]
        subst hv
        go_wp2_with fail
        go_ret
        exact ⟨rfl, HF1.out⟩
    · have hv : R = false := by rw [← HR.out]; simp [h1]
      subst hv
      have p1 : ((txt nm).toList == (txt nm').toList) = false := by rw [txt_beq]; simpa using h1
      go_wp2_with fail
      go_ret
      exact ⟨rfl, HF1.out⟩
  · have p0 : ((op : Int) == (op' : Int)) = false := by simp only [beq_eq_false_iff_ne, ne_eq]; omega
    have hv : R = false := by rw [← HR.out]; simp [h0]
    subst hv
    go_wp2_with fail
    go_ret
    exact ⟨rfl, HF1.out⟩
theorem same_any : ∀ (d : Nat) (t : Tr), SizeOf.sizeOf t < d → SameC t
  | 0, t, h => absurd h (Nat.not_lt_zero _)
  | d + 1, .mk op nm kids, h => same_one op nm kids fun t ht => same_any d t (by have := List.sizeOf_lt_of_mem ht; simp at h; omega)
end Go.Proofs.Ytbjdaibkcchllaa
