import Derived.Test.YtbjdaibkcchllaaQc8
import Derived.Test.YtbjdaibkcchllaaQaa
namespace Go.Proofs.Ytbjdaibkcchllaa
open Go.RowKit

/-! the reference's line and sign -/
def linP (op : Nat) : Nat := 7 - levP op
theorem line_any (op : Nat) (w : World) : Calls Try.prog 54 #[.int .u8 (op : Int)] w fun e w' => e = .returned (.int .i64 (linP op : Int)) ∧ w = w' := by
  by_cases h5 : op = 5
  · subst h5
    go_enter Try.func54, Try.ntmps54
    go_wp2_with fail
    go_ret
    exact ⟨rfl, rfl⟩
  have q5 : ((op : Int) == 5) = false := by simp; omega
  by_cases h7 : op = 7
  · subst h7
    go_enter Try.func54, Try.ntmps54
    go_wp2_with fail
    go_ret
    exact ⟨rfl, rfl⟩
  have q7 : ((op : Int) == 7) = false := by simp; omega
  by_cases h6 : op = 6
  · subst h6
    go_enter Try.func54, Try.ntmps54
    go_wp2_with fail
    go_ret
    exact ⟨rfl, rfl⟩
  have q6 : ((op : Int) == 6) = false := by simp; omega
  by_cases h8 : op = 8
  · subst h8
    go_enter Try.func54, Try.ntmps54
    go_wp2_with fail
    go_ret
    exact ⟨rfl, rfl⟩
  have q8 : ((op : Int) == 8) = false := by simp; omega
  by_cases h9 : op = 9
  · subst h9
    go_enter Try.func54, Try.ntmps54
    go_wp2_with fail
    go_ret
    exact ⟨rfl, rfl⟩
  have q9 : ((op : Int) == 9) = false := by simp; omega
  by_cases h10 : op = 10
  · subst h10
    go_enter Try.func54, Try.ntmps54
    go_wp2_with fail
    go_ret
    exact ⟨rfl, rfl⟩
  have q10 : ((op : Int) == 10) = false := by simp; omega
  have hv : linP op = 1 := by unfold linP levP; simp [h5, h6, h7, h8, h9, h10]
  rw [hv]
  clear hv h5 h6 h7 h8 h9 h10
  go_enter Try.func54, Try.ntmps54
  go_wp2_with fail
  go_ret
  exact ⟨rfl, rfl⟩
theorem rsign_any (op k : Nat) (h4 : op = 5 ∨ op = 6 ∨ op = 7 ∨ op = 8 ∨ op = 9 ∨ op = 10) (hk : 0 < k) (w : World) : Calls Try.prog 55 #[.int .u8 (op : Int), .int .i64 (k : Int)] w fun e w' => e = .returned (.string (txt ([32] ++ sgnP op k ++ [32]))) ∧ w = w' := by
  have hk0 : ¬ k = 0 := by omega
  by_cases h5 : op = 5
  · subst h5
    have hv : sgnP 5 k = sgnP 5 1 := by simp [sgnP, hk0]
    rw [hv]
    clear hv hk0 hk h4
    go_enter Try.func55, Try.ntmps55
    go_wp2_with fail
    go_ret
    exact ⟨rfl, rfl⟩
  by_cases h7 : op = 7
  · subst h7
    have hv : sgnP 7 k = sgnP 7 1 := by simp [sgnP, hk0]
    rw [hv]
    clear hv hk0 hk h4
    go_enter Try.func55, Try.ntmps55
    go_wp2_with fail
    go_ret
    exact ⟨rfl, rfl⟩
  by_cases h6 : op = 6
  · subst h6
    have hv : sgnP 6 k = sgnP 6 1 := by simp [sgnP, hk0]
    rw [hv]
    clear hv hk0 hk h4
    go_enter Try.func55, Try.ntmps55
    go_wp2_with fail
    go_ret
    exact ⟨rfl, rfl⟩
  by_cases h8 : op = 8
  · subst h8
    have hv : sgnP 8 k = sgnP 8 1 := by simp [sgnP, hk0]
    rw [hv]
    clear hv hk0 hk h4
    go_enter Try.func55, Try.ntmps55
    go_wp2_with fail
    go_ret
    exact ⟨rfl, rfl⟩
  by_cases h9 : op = 9
  · subst h9
    have hv : sgnP 9 k = sgnP 9 1 := by simp [sgnP, hk0]
    rw [hv]
    clear hv hk0 hk h4
    go_enter Try.func55, Try.ntmps55
    go_wp2_with fail
    go_ret
    exact ⟨rfl, rfl⟩
  obtain rfl : op = 10 := by omega
  by_cases h1 : k = 1
  · subst h1
    go_enter Try.func55, Try.ntmps55
    go_wp2_with fail
    go_ret
    exact ⟨rfl, rfl⟩
  · have q1 : ((k : Int) == 1) = false := by simp; omega
    have hv : sgnP 10 k = [58] := by simp [sgnP, hk0, h1]
    rw [hv]
    clear hv hk0 hk h4 h1
    go_enter Try.func55, Try.ntmps55
    go_wp2_with fail
    go_ret
    exact ⟨rfl, rfl⟩
end Go.Proofs.Ytbjdaibkcchllaa
namespace Go.Proofs.Ytbjdaibkcchllaa
open Go.RowKit

/-! the reference's Text -/
def opT : Tr → Nat
  | .mk op _ _ => op
theorem prP_level (t : Tr) (l : Nat) : prP t l = if levP (opT t) < l then [40] ++ prP t 0 ++ [41] else prP t 0 := by
  obtain ⟨op, nm, kids⟩ := t
  rw [prP, prP, if_neg (Nat.not_lt_zero _)]
  rfl
theorem levP_le (op : Nat) : levP op ≤ 6 := by
  unfold levP
  repeat' split
  all_goals omega
theorem prL_cons {ts : List Tr} {op k : Nat} {t : Tr} (h : ts[k]? = some t) : prL op k (ts.drop k) = (if 0 < k then [32] ++ sgnP op k ++ [32] else []) ++ prP t (kidP op k) ++ prL op (k + 1) (ts.drop (k + 1)) := by
  rw [drop_at h, prL]
theorem preL_sub : ∀ {ts : List Tr} {t u : Tr}, t ∈ ts → u ∈ preP t → u ∈ preL ts
  | x :: xs, t, u, ht, hu => by
    rw [preL]
    rcases List.mem_cons.1 ht with rfl | h
    · exact List.mem_append_left _ hu
    · exact List.mem_append_right _ (preL_sub h hu)
def TextC (t : Tr) : Prop := ∀ (v : Value) (S : Nat → Prop) (w : World), wide t = true → (preP t).all oneT = true → (prP t 0).length ≤ 1000000000 → TrO w S t v →
  Calls Try.prog 20 #[v] w fun e w' => e = .returned (.string (txt (prP t 0))) ∧ Fr nob w w'
theorem TrO.op {w : World} {S : Nat → Prop} {t : Tr} {o : Nat} {nm : List UInt8} {a : Option Addr} {n c : Nat} (h : TrO w S t (.agg #[.int .u8 (o : Int), .string (txt nm), .slice a n c])) : opT t = o := by
  obtain ⟨op, nm', kids⟩ := t
  rw [TrO] at h
  obtain ⟨a', cp, h, _⟩ := h
  have h2 : (#[Value.int .u8 (o : Int), .string (txt nm), .slice a n c] : Array Value) = #[.int .u8 (op : Int), .string (txt nm'), .slice a' kids.length cp] := Value.agg.inj h
  have h3 := congrArg (fun l => l[0]?) h2
  have h4 : (some (Value.int .u8 (o : Int)) : Option Value) = some (.int .u8 (op : Int)) := h3
  have h5 : (o : Int) = (op : Int) := (Value.int.inj (Option.some.inj h4)).2
  show op = o
  omega
set_option maxHeartbeats 16000000 in
set_option maxRecDepth 100000 in
theorem text_one (op : Nat) (nm : List UInt8) (kids : List Tr) (ih : ∀ t ∈ kids, TextC t) : TextC (.mk op nm kids) := by
  intro v S w hwd hall hlen hT
  rw [TrO] at hT
  obtain ⟨a, cp, rfl, hK⟩ := hT
  rw [wide, Bool.and_eq_true, Bool.and_eq_true, decide_eq_true_iff, decide_eq_true_iff] at hwd
  obtain ⟨⟨ht1, ht2⟩, htk⟩ := hwd
  rw [preP, List.all_cons, Bool.and_eq_true] at hall
  obtain ⟨hone, hall⟩ := hall
  have hone : oneB op nm kids.length = true := hone
  obtain ⟨ALL, hALL⟩ : ∃ ALL, prP (.mk op nm kids) 0 = ALL := ⟨_, rfl⟩
  rw [hALL] at hlen ⊢
  rw [prP, if_neg (Nat.not_lt_zero _)] at hALL
  have hle : ∀ t ∈ kids, (preP t).all oneT = true := fun t ht => by
    rw [List.all_eq_true] at hall ⊢
    exact fun u hu => hall u (preL_sub ht hu)
  have HALL := Lib.hid hALL
  have HK := Lib.hid hK
  have HIH := Lib.hid ih
  have HTK := Lib.hid htk
  have HLE := Lib.hid hle
  have HONE := Lib.hid hone
  obtain ⟨nk, hnk⟩ : ∃ nk, kids.length = nk := ⟨_, rfl⟩
  rw [hnk] at ht2 hone HONE ⊢
  have HNK := Lib.hid hnk
  have HBX := Lib.hid (Box3.new w (.int .u8 (op : Int)) (.string (txt nm)) (.slice a nk cp) 25)
  have HF1 := Lib.hid ((Fr.refl nob w).alloc (.cells #[.int .u8 (op : Int), .string (txt nm), .slice a nk cp] 25))
  have hdr : prL op 0 kids = prL op 0 (kids.drop 0) := by rw [List.drop_zero]
  rw [hdr] at HALL
  clear hALL hK ih htk hnk hle hall hone hdr
  go_enter Try.func20, Try.ntmps20
  go_upto_region 1 with fail
  generalize w.alloc (.cells #[.int .u8 (op : Int), .string (txt nm), .slice a nk cp] 25) = W1 at *
  have ⟨g0, g1, g2, _⟩ := HBX.out
  by_cases h1 : op = 1
  · subst h1
    have h := HONE.out
    obtain ⟨rfl, hn0⟩ : nm = [] ∧ nk = 0 := by simpa [oneB] using h
    obtain rfl : [48] = ALL := by rw [← HALL.out, List.drop_zero, List.eq_nil_of_length_eq_zero (HNK.out.trans hn0), prL]; rfl
    clear h hn0
    go_wp2_with fail
    go_ret
    exact ⟨rfl, HF1.out⟩
  have p1 : ((op : Int) == 1) = false := by simp; omega
  by_cases h2 : op = 2
  · subst h2
    have h := HONE.out
    obtain ⟨rfl, hn0⟩ : nm = [] ∧ nk = 0 := by simpa [oneB] using h
    obtain rfl : [49] = ALL := by rw [← HALL.out, List.drop_zero, List.eq_nil_of_length_eq_zero (HNK.out.trans hn0), prL]; rfl
    clear h hn0
    go_wp2_with fail
    go_ret
    exact ⟨rfl, HF1.out⟩
  have p2 : ((op : Int) == 2) = false := by simp; omega
  by_cases h3 : op = 3
  · subst h3
    have h := HONE.out
    have hn0 : nk = 0 := by
      have h4 : nameB nm = true ∧ nk = 0 := by simpa [oneB] using h
      exact h4.2
    obtain rfl : nm = ALL := by rw [← HALL.out, List.drop_zero, List.eq_nil_of_length_eq_zero (HNK.out.trans hn0), prL]; simp [sgnP]
    clear h hn0
    go_wp2_with fail
    go_ret
    exact ⟨rfl, HF1.out⟩
  have p3 : ((op : Int) == 3) = false := by simp; omega
  have hop : (op = 4 ∧ nk = 1) ∨ ((op = 5 ∨ op = 6 ∨ op = 7 ∨ op = 8 ∨ op = 9 ∨ op = 10) ∧ (op = 8 → nk = 2)) := by
    have h := HONE.out
    by_cases h4 : op = 4
    · subst h4
      left
      have h5 : nm = [] ∧ nk = 1 := by simpa [oneB] using h
      exact ⟨rfl, h5.2⟩
    · right
      constructor
      · unfold oneB at h
        rw [if_neg h3] at h
        have h6 : ¬ (op = 1 ∨ op = 2) := by omega
        rw [if_neg h6, if_neg h4] at h
        by_cases h7 : op = 5 ∨ op = 6 ∨ op = 7
        · omega
        rw [if_neg h7] at h
        by_cases h8 : op = 8 ∨ op = 9
        · omega
        rw [if_neg h8] at h
        by_cases h9 : op = 10
        · omega
        rw [if_neg h9] at h
        simp at h
      · rintro rfl
        have h5 : nm = [] ∧ nk = 2 := by simpa [oneB] using h
        exact h5.2
  have hnm : nm = [] := by
    have h := HONE.out
    unfold oneB at h
    rw [if_neg h3, Bool.and_eq_true] at h
    simpa using h.1
  have hstart : (if op = 4 ∧ 0 = 0 then [33] else []) ++ prL op 0 (kids.drop 0) = ALL := by
    rw [← HALL.out, hnm]
    rcases hop with ⟨rfl, _⟩ | ⟨h, _⟩
    · rfl
    · have h4 : ¬ (op = 4 ∧ 0 = 0) := by omega
      rw [if_neg h4]
      have h5 : sgnP op 0 = [] := by rcases h with rfl | rfl | rfl | rfl | rfl | rfl <;> rfl
      rw [h5]; rfl
  have HST := Lib.hid hstart
  have HOP := Lib.hid hop
  have HLN := Lib.hid hlen
  clear h1 h2 h3 hstart hop HONE hnm HALL hlen
  go_wp2_with fail
  clear p1 p2 p3 g0 g1 g2
  go_loopg [3, 4, 5] nk (fun m ov iv _mv wr => ∃ (k : Nat) (acc : List UInt8), k + m = nk ∧ iv = .int .i64 (k : Int) ∧ ov = .string (txt acc) ∧ acc ++ ((if op = 4 ∧ k = 0 then [33] else []) ++ prL op k (kids.drop k)) = ALL ∧ Box3 wr w.heap.size (.int .u8 (op : Int)) (.string (txt nm)) (.slice a nk cp) ∧ Fr nob w wr)
  case atStart => exact ⟨0, [], by omega, rfl, rfl, by rw [List.nil_append]; have h := HST.out; simp only [and_true] at h ⊢; exact h, HBX.out, HF1.out⟩
  case round =>
    clear HBX HF1 HST
    obtain ⟨k, acc, hkm, rfl, rfl, hcl, hB, hF⟩ := hrel
    have HCL := Lib.hid hcl
    have HB := Lib.hid hB
    have HF := Lib.hid hF
    have r0 := hB.c0
    have r2 := hB.c2
    have q4 : (0 : Int) ≤ (k : Int) := Int.natCast_nonneg _
    clear hcl hB hF
    cases gk with
    | zero =>
      obtain rfl : k = nk := by omega
      have hv : acc = ALL := by
        rw [← HCL.out, List.drop_eq_nil_of_le (by rw [HNK.out]; exact Nat.le_refl _), prL, List.append_nil, if_neg (by rcases HOP.out with h | h <;> omega), List.append_nil]
      have HV := Lib.hid hv
      clear hv
      go_wp2_with fail
      go_ret
      rw [HV.out]
      exact ⟨rfl, HF.out⟩
    | succ m =>
      have q3 : (k : Int) < (nk : Int) := by omega
      have hk : k < kids.length := by rw [HNK.out]; omega
      have hkt : kids[k]? = some kids[k] := List.getElem?_eq_getElem hk
      have hmem : kids[k] ∈ kids := List.getElem_mem hk
      generalize kids[k] = t at hkt hmem
      obtain ⟨b, ob, rfl, hSb, hKV⟩ := HK.out (by intro e; rw [e] at hk; simp at hk)
      obtain ⟨x, y, z, e0, e1, e2, hT⟩ := hKV.at hkt
      rw [show 0 + k = k by omega] at e0 e1 e2
      replace e0 := HF.out.cell e0 (fun h => h)
      replace e1 := HF.out.cell e1 (fun h => h)
      replace e2 := HF.out.cell e2 (fun h => h)
      have hT1 := hT.kept (T := S) HF.out (fun b h _ => ⟨fun h => h, h⟩)
      obtain ⟨o, nm', a', ln', cp', hform⟩ := hT1.form
      obtain ⟨rfl, rfl, rfl⟩ : x = .int .u8 (o : Int) ∧ y = .string (txt nm') ∧ z = .slice a' ln' cp' := by simpa using hform
      have hot := hT1.op
      have hstep := prL_cons (op := op) hkt
      rw [prP_level t, hot] at hstep
      obtain ⟨X, hX⟩ : ∃ X, prP t 0 = X := ⟨_, rfl⟩
      rw [hX] at hstep
      obtain ⟨REST, hRS⟩ : ∃ REST, prL op (k + 1) (kids.drop (k + 1)) = REST := ⟨_, rfl⟩
      rw [hRS] at hstep
      have hcl := HCL.out
      rw [hstep] at hcl
      have hlin := HLN.out
      rw [← hcl] at hlin
      have hX2 : X.length ≤ (if levP o < kidP op k then [40] ++ X ++ [41] else X).length := by
        split
        · simp only [List.length_append]; omega
        · exact Nat.le_refl _
      have hXl : X.length ≤ 1000000000 := by
        rw [List.length_append, List.length_append, List.length_append, List.length_append] at hlin
        omega
      have hC := HIH.out t hmem _ S wr (wideL_at HTK.out hkt) (HLE.out t hmem) (by rw [hX]; exact hXl) hT1
      rw [hX] at hC
      have hlo := line_any op
      have hlk := line_any o
      have hlp : linP op = 7 - levP op := rfl
      have hlp' : linP o = 7 - levP o := rfl
      have hl6 := levP_le op
      have hl6' := levP_le o
      have hne : ¬ ((k + 1 = 0)) := by omega
      have hacc : acc.length ≤ 1000000000 := by simp only [List.length_append] at hlin; omega
      have HCLL := Lib.hid hcl
      have HRS := Lib.hid hRS
      have HLIN := Lib.hid hlin
      have HXL := Lib.hid hXl
      clear hk hkt hmem hKV hT hT1 hform hSb hstep hot hX hRS hcl hXl HCL hlin hX2
      have hop0 := HOP.out
      rcases (show (op = 4 ∧ k = 0) ∨ (op = 8 ∧ k = 0) ∨ (op = 10 ∧ k = 0) ∨ ((op = 5 ∨ op = 6 ∨ op = 7 ∨ op = 9) ∧ k = 0) ∨ (op = 8 ∧ k = 1) ∨ (op = 10 ∧ 0 < k) ∨ ((op = 5 ∨ op = 6 ∨ op = 7 ∨ op = 9) ∧ 0 < k) by omega) with hc | hc | hc | hc | hc | hc | hc
      · -- op 4
        have p4 : ((op : Int) == 4) = true := by simp only [beq_iff_eq]; omega
        have p8 : ((op : Int) == 8) = false := by simp; omega
        have p10 : ((op : Int) == 10) = false := by simp; omega
        have pk : ¬ (0 : Int) < (k : Int) := by omega
        have pk1 : ((k : Int) == 1) = false := by simp only [beq_eq_false_iff_ne, ne_eq]; omega
        have hkp : kidP op k = 6 := by unfold kidP; rw [if_pos hc.1]
        by_cases hpar : levP o < kidP op k
        · have pp : (1 : Int) < (linP o : Int) := by omega
          have hnew : acc ++ [33] ++ ([40] ++ X ++ [41]) ++ ((if op = 4 ∧ k + 1 = 0 then [33] else []) ++ prL op (k + 1) (kids.drop (k + 1))) = ALL := by
            rw [HRS.out, if_neg (fun h => hne h.2), ← HCLL.out, if_pos hpar, if_neg (show ¬ 0 < k by omega), if_pos (show op = 4 ∧ k = 0 by omega)]
            simp [List.append_assoc]
          have HNEW := Lib.hid hnew
          have hb1 : 1 ≤ linP op := by omega
          have hb2 : linP op ≤ 7 := by omega
          have hb3 : linP o ≤ 7 := by omega
          have hxl := HXL.out
          clear hnew hpar hkp hop0 hlp hlp' hl6 hl6' hne HCLL HRS HLIN HXL hc
          go_upto_region 20 with (first | (go_at_call 54; (first | with_reducible refine (hlo _).mono ?_ | with_reducible refine (hlk _).mono ?_); rintro e w' ⟨rfl, rfl⟩) | fail)
          clear pk pk1
          go_wp2_with (first | (go_at_call 54; (first | with_reducible refine (hlo _).mono ?_ | with_reducible refine (hlk _).mono ?_); rintro e w' ⟨rfl, rfl⟩) | fail)
          refine hC.mono ?_
          rintro e w3 ⟨rfl, F3⟩
          have HB3 := Lib.hid (HB.out.kept F3 (fun h => h))
          have HF3 := Lib.hid (HF.out.trans F3 (fun _ _ h => h))
          clear F3 hC HB HF r0 r2 e0 e1 e2
          go_wp2_with fail
          go_roundg m
          case measure => omega
          case rel => exact ⟨k + 1, acc ++ [33] ++ ([40] ++ X ++ [41]), by omega, by go_num, congrArg Value.string (txt_ext (by simp)), HNEW.out, HB3.out, HF3.out⟩
        · have pp : ¬ (1 : Int) < (linP o : Int) := by omega
          have hnew : acc ++ [33] ++ X ++ ((if op = 4 ∧ k + 1 = 0 then [33] else []) ++ prL op (k + 1) (kids.drop (k + 1))) = ALL := by
            rw [HRS.out, if_neg (fun h => hne h.2), ← HCLL.out, if_neg hpar, if_neg (show ¬ 0 < k by omega), if_pos (show op = 4 ∧ k = 0 by omega)]
            simp [List.append_assoc]
          have HNEW := Lib.hid hnew
          have hb1 : 1 ≤ linP op := by omega
          have hb2 : linP op ≤ 7 := by omega
          have hb3 : linP o ≤ 7 := by omega
          have hxl := HXL.out
          clear hnew hpar hkp hop0 hlp hlp' hl6 hl6' hne HCLL HRS HLIN HXL hc
          go_upto_region 20 with (first | (go_at_call 54; (first | with_reducible refine (hlo _).mono ?_ | with_reducible refine (hlk _).mono ?_); rintro e w' ⟨rfl, rfl⟩) | fail)
          clear pk pk1
          go_wp2_with (first | (go_at_call 54; (first | with_reducible refine (hlo _).mono ?_ | with_reducible refine (hlk _).mono ?_); rintro e w' ⟨rfl, rfl⟩) | fail)
          refine hC.mono ?_
          rintro e w3 ⟨rfl, F3⟩
          have HB3 := Lib.hid (HB.out.kept F3 (fun h => h))
          have HF3 := Lib.hid (HF.out.trans F3 (fun _ _ h => h))
          clear F3 hC HB HF r0 r2 e0 e1 e2
          go_wp2_with fail
          go_roundg m
          case measure => omega
          case rel => exact ⟨k + 1, acc ++ [33] ++ X, by omega, by go_num, congrArg Value.string (txt_ext (by simp)), HNEW.out, HB3.out, HF3.out⟩
      · -- op 8, first
        have p4 : ((op : Int) == 4) = false := by simp; omega
        have p8 : ((op : Int) == 8) = true := by simp only [beq_iff_eq]; omega
        have p10 : ((op : Int) == 10) = false := by simp; omega
        have pk : ¬ (0 : Int) < (k : Int) := by omega
        have pk1 : ((k : Int) == 1) = false := by simp only [beq_eq_false_iff_ne, ne_eq]; omega
        have hkp : kidP op k = levP op + 1 := by unfold kidP; rw [if_neg (by omega), if_neg (by omega)]
        by_cases hpar : levP o < kidP op k
        · have pp : (linP op : Int) - 1 < (linP o : Int) := by omega
          have hnew : acc ++ ([40] ++ X ++ [41]) ++ ((if op = 4 ∧ k + 1 = 0 then [33] else []) ++ prL op (k + 1) (kids.drop (k + 1))) = ALL := by
            rw [HRS.out, if_neg (fun h => hne h.2), ← HCLL.out, if_pos hpar, if_neg (show ¬ 0 < k by omega), if_neg (show ¬ (op = 4 ∧ k = 0) by omega)]
            simp [List.append_assoc]
          have HNEW := Lib.hid hnew
          have hb1 : 1 ≤ linP op := by omega
          have hb2 : linP op ≤ 7 := by omega
          have hb3 : linP o ≤ 7 := by omega
          have hxl := HXL.out
          clear hnew hpar hkp hop0 hlp hlp' hl6 hl6' hne HCLL HRS HLIN HXL hc
          go_upto_region 20 with (first | (go_at_call 54; (first | with_reducible refine (hlo _).mono ?_ | with_reducible refine (hlk _).mono ?_); rintro e w' ⟨rfl, rfl⟩) | fail)
          clear pk pk1
          go_wp2_with (first | (go_at_call 54; (first | with_reducible refine (hlo _).mono ?_ | with_reducible refine (hlk _).mono ?_); rintro e w' ⟨rfl, rfl⟩) | fail)
          refine hC.mono ?_
          rintro e w3 ⟨rfl, F3⟩
          have HB3 := Lib.hid (HB.out.kept F3 (fun h => h))
          have HF3 := Lib.hid (HF.out.trans F3 (fun _ _ h => h))
          clear F3 hC HB HF r0 r2 e0 e1 e2
          go_wp2_with fail
          go_roundg m
          case measure => omega
          case rel => exact ⟨k + 1, acc ++ ([40] ++ X ++ [41]), by omega, by go_num, congrArg Value.string (txt_ext (by simp)), HNEW.out, HB3.out, HF3.out⟩
        · have pp : ¬ (linP op : Int) - 1 < (linP o : Int) := by omega
          have hnew : acc ++ X ++ ((if op = 4 ∧ k + 1 = 0 then [33] else []) ++ prL op (k + 1) (kids.drop (k + 1))) = ALL := by
            rw [HRS.out, if_neg (fun h => hne h.2), ← HCLL.out, if_neg hpar, if_neg (show ¬ 0 < k by omega), if_neg (show ¬ (op = 4 ∧ k = 0) by omega)]
            simp [List.append_assoc]
          have HNEW := Lib.hid hnew
          have hb1 : 1 ≤ linP op := by omega
          have hb2 : linP op ≤ 7 := by omega
          have hb3 : linP o ≤ 7 := by omega
          have hxl := HXL.out
          clear hnew hpar hkp hop0 hlp hlp' hl6 hl6' hne HCLL HRS HLIN HXL hc
          go_upto_region 20 with (first | (go_at_call 54; (first | with_reducible refine (hlo _).mono ?_ | with_reducible refine (hlk _).mono ?_); rintro e w' ⟨rfl, rfl⟩) | fail)
          clear pk pk1
          go_wp2_with (first | (go_at_call 54; (first | with_reducible refine (hlo _).mono ?_ | with_reducible refine (hlk _).mono ?_); rintro e w' ⟨rfl, rfl⟩) | fail)
          refine hC.mono ?_
          rintro e w3 ⟨rfl, F3⟩
          have HB3 := Lib.hid (HB.out.kept F3 (fun h => h))
          have HF3 := Lib.hid (HF.out.trans F3 (fun _ _ h => h))
          clear F3 hC HB HF r0 r2 e0 e1 e2
          go_wp2_with fail
          go_roundg m
          case measure => omega
          case rel => exact ⟨k + 1, acc ++ X, by omega, by go_num, congrArg Value.string (txt_ext (by simp)), HNEW.out, HB3.out, HF3.out⟩
      · -- op 10, first
        have p4 : ((op : Int) == 4) = false := by simp; omega
        have p8 : ((op : Int) == 8) = false := by simp; omega
        have p10 : ((op : Int) == 10) = true := by simp only [beq_iff_eq]; omega
        have pk : ¬ (0 : Int) < (k : Int) := by omega
        have pk1 : ((k : Int) == 1) = false := by simp only [beq_eq_false_iff_ne, ne_eq]; omega
        have hkp : kidP op k = levP op + 1 := by unfold kidP; rw [if_neg (by omega), if_neg (by omega)]
        by_cases hpar : levP o < kidP op k
        · have pp : (linP op : Int) - 1 < (linP o : Int) := by omega
          have hnew : acc ++ ([40] ++ X ++ [41]) ++ ((if op = 4 ∧ k + 1 = 0 then [33] else []) ++ prL op (k + 1) (kids.drop (k + 1))) = ALL := by
            rw [HRS.out, if_neg (fun h => hne h.2), ← HCLL.out, if_pos hpar, if_neg (show ¬ 0 < k by omega), if_neg (show ¬ (op = 4 ∧ k = 0) by omega)]
            simp [List.append_assoc]
          have HNEW := Lib.hid hnew
          have hb1 : 1 ≤ linP op := by omega
          have hb2 : linP op ≤ 7 := by omega
          have hb3 : linP o ≤ 7 := by omega
          have hxl := HXL.out
          clear hnew hpar hkp hop0 hlp hlp' hl6 hl6' hne HCLL HRS HLIN HXL hc
          go_upto_region 20 with (first | (go_at_call 54; (first | with_reducible refine (hlo _).mono ?_ | with_reducible refine (hlk _).mono ?_); rintro e w' ⟨rfl, rfl⟩) | fail)
          clear pk pk1
          go_wp2_with (first | (go_at_call 54; (first | with_reducible refine (hlo _).mono ?_ | with_reducible refine (hlk _).mono ?_); rintro e w' ⟨rfl, rfl⟩) | fail)
          refine hC.mono ?_
          rintro e w3 ⟨rfl, F3⟩
          have HB3 := Lib.hid (HB.out.kept F3 (fun h => h))
          have HF3 := Lib.hid (HF.out.trans F3 (fun _ _ h => h))
          clear F3 hC HB HF r0 r2 e0 e1 e2
          go_wp2_with fail
          go_roundg m
          case measure => omega
          case rel => exact ⟨k + 1, acc ++ ([40] ++ X ++ [41]), by omega, by go_num, congrArg Value.string (txt_ext (by simp)), HNEW.out, HB3.out, HF3.out⟩
        · have pp : ¬ (linP op : Int) - 1 < (linP o : Int) := by omega
          have hnew : acc ++ X ++ ((if op = 4 ∧ k + 1 = 0 then [33] else []) ++ prL op (k + 1) (kids.drop (k + 1))) = ALL := by
            rw [HRS.out, if_neg (fun h => hne h.2), ← HCLL.out, if_neg hpar, if_neg (show ¬ 0 < k by omega), if_neg (show ¬ (op = 4 ∧ k = 0) by omega)]
            simp [List.append_assoc]
          have HNEW := Lib.hid hnew
          have hb1 : 1 ≤ linP op := by omega
          have hb2 : linP op ≤ 7 := by omega
          have hb3 : linP o ≤ 7 := by omega
          have hxl := HXL.out
          clear hnew hpar hkp hop0 hlp hlp' hl6 hl6' hne HCLL HRS HLIN HXL hc
          go_upto_region 20 with (first | (go_at_call 54; (first | with_reducible refine (hlo _).mono ?_ | with_reducible refine (hlk _).mono ?_); rintro e w' ⟨rfl, rfl⟩) | fail)
          clear pk pk1
          go_wp2_with (first | (go_at_call 54; (first | with_reducible refine (hlo _).mono ?_ | with_reducible refine (hlk _).mono ?_); rintro e w' ⟨rfl, rfl⟩) | fail)
          refine hC.mono ?_
          rintro e w3 ⟨rfl, F3⟩
          have HB3 := Lib.hid (HB.out.kept F3 (fun h => h))
          have HF3 := Lib.hid (HF.out.trans F3 (fun _ _ h => h))
          clear F3 hC HB HF r0 r2 e0 e1 e2
          go_wp2_with fail
          go_roundg m
          case measure => omega
          case rel => exact ⟨k + 1, acc ++ X, by omega, by go_num, congrArg Value.string (txt_ext (by simp)), HNEW.out, HB3.out, HF3.out⟩
      · -- others, first
        have p4 : ((op : Int) == 4) = false := by simp; omega
        have p8 : ((op : Int) == 8) = false := by simp; omega
        have p10 : ((op : Int) == 10) = false := by simp; omega
        have pk : ¬ (0 : Int) < (k : Int) := by omega
        have pk1 : ((k : Int) == 1) = false := by simp only [beq_eq_false_iff_ne, ne_eq]; omega
        have hkp : kidP op k = levP op + 1 := by unfold kidP; rw [if_neg (by omega), if_neg (by omega)]
        by_cases hpar : levP o < kidP op k
        · have pp : (linP op : Int) - 1 < (linP o : Int) := by omega
          have hnew : acc ++ ([40] ++ X ++ [41]) ++ ((if op = 4 ∧ k + 1 = 0 then [33] else []) ++ prL op (k + 1) (kids.drop (k + 1))) = ALL := by
            rw [HRS.out, if_neg (fun h => hne h.2), ← HCLL.out, if_pos hpar, if_neg (show ¬ 0 < k by omega), if_neg (show ¬ (op = 4 ∧ k = 0) by omega)]
            simp [List.append_assoc]
          have HNEW := Lib.hid hnew
          have hb1 : 1 ≤ linP op := by omega
          have hb2 : linP op ≤ 7 := by omega
          have hb3 : linP o ≤ 7 := by omega
          have hxl := HXL.out
          clear hnew hpar hkp hop0 hlp hlp' hl6 hl6' hne HCLL HRS HLIN HXL hc
          go_upto_region 20 with (first | (go_at_call 54; (first | with_reducible refine (hlo _).mono ?_ | with_reducible refine (hlk _).mono ?_); rintro e w' ⟨rfl, rfl⟩) | fail)
          clear pk pk1
          go_wp2_with (first | (go_at_call 54; (first | with_reducible refine (hlo _).mono ?_ | with_reducible refine (hlk _).mono ?_); rintro e w' ⟨rfl, rfl⟩) | fail)
          refine hC.mono ?_
          rintro e w3 ⟨rfl, F3⟩
          have HB3 := Lib.hid (HB.out.kept F3 (fun h => h))
          have HF3 := Lib.hid (HF.out.trans F3 (fun _ _ h => h))
          clear F3 hC HB HF r0 r2 e0 e1 e2
          go_wp2_with fail
          go_roundg m
          case measure => omega
          case rel => exact ⟨k + 1, acc ++ ([40] ++ X ++ [41]), by omega, by go_num, congrArg Value.string (txt_ext (by simp)), HNEW.out, HB3.out, HF3.out⟩
        · have pp : ¬ (linP op : Int) - 1 < (linP o : Int) := by omega
          have hnew : acc ++ X ++ ((if op = 4 ∧ k + 1 = 0 then [33] else []) ++ prL op (k + 1) (kids.drop (k + 1))) = ALL := by
            rw [HRS.out, if_neg (fun h => hne h.2), ← HCLL.out, if_neg hpar, if_neg (show ¬ 0 < k by omega), if_neg (show ¬ (op = 4 ∧ k = 0) by omega)]
            simp [List.append_assoc]
          have HNEW := Lib.hid hnew
          have hb1 : 1 ≤ linP op := by omega
          have hb2 : linP op ≤ 7 := by omega
          have hb3 : linP o ≤ 7 := by omega
          have hxl := HXL.out
          clear hnew hpar hkp hop0 hlp hlp' hl6 hl6' hne HCLL HRS HLIN HXL hc
          go_upto_region 20 with (first | (go_at_call 54; (first | with_reducible refine (hlo _).mono ?_ | with_reducible refine (hlk _).mono ?_); rintro e w' ⟨rfl, rfl⟩) | fail)
          clear pk pk1
          go_wp2_with (first | (go_at_call 54; (first | with_reducible refine (hlo _).mono ?_ | with_reducible refine (hlk _).mono ?_); rintro e w' ⟨rfl, rfl⟩) | fail)
          refine hC.mono ?_
          rintro e w3 ⟨rfl, F3⟩
          have HB3 := Lib.hid (HB.out.kept F3 (fun h => h))
          have HF3 := Lib.hid (HF.out.trans F3 (fun _ _ h => h))
          clear F3 hC HB HF r0 r2 e0 e1 e2
          go_wp2_with fail
          go_roundg m
          case measure => omega
          case rel => exact ⟨k + 1, acc ++ X, by omega, by go_num, congrArg Value.string (txt_ext (by simp)), HNEW.out, HB3.out, HF3.out⟩
      · -- op 8, second
        have hop : op = 5 ∨ op = 6 ∨ op = 7 ∨ op = 8 ∨ op = 9 ∨ op = 10 := by omega
        have p4 : ((op : Int) == 4) = false := by simp; omega
        have p8 : ((op : Int) == 8) = true := by simp only [beq_iff_eq]; omega
        have p10 : ((op : Int) == 10) = false := by simp; omega
        have pk : (0 : Int) < (k : Int) := by omega
        have pk1 : ((k : Int) == 1) = true := by simp only [beq_iff_eq]; omega
        have hkp : kidP op k = levP op := by unfold kidP; rw [if_neg (by omega), if_pos (by omega)]
        have hsg := rsign_any op k hop (by omega)
        by_cases hpar : levP o < kidP op k
        · have pp : (linP op : Int) < (linP o : Int) := by omega
          have hnew : acc ++ ([32] ++ sgnP op k ++ [32]) ++ ([40] ++ X ++ [41]) ++ ((if op = 4 ∧ k + 1 = 0 then [33] else []) ++ prL op (k + 1) (kids.drop (k + 1))) = ALL := by
            rw [HRS.out, if_neg (fun h => hne h.2), ← HCLL.out, if_pos hpar, if_pos (show 0 < k by omega), if_neg (show ¬ (op = 4 ∧ k = 0) by omega)]
            simp [List.append_assoc]
          have HNEW := Lib.hid hnew
          have hb1 : 1 ≤ linP op := by omega
          have hb2 : linP op ≤ 7 := by omega
          have hb3 : linP o ≤ 7 := by omega
          have hxl := HXL.out
          have hs3 := sgnP_le op k
          have q6 : ¬ 9223372036854775807 < acc.length + ((sgnP op k).length + 1 + 1) := by omega
          have q7 : ¬ 9223372036854775807 < acc.length + ((sgnP op k).length + 1 + 1) + 1 := by omega
          clear hnew hpar hkp hop0 hlp hlp' hl6 hl6' hne HCLL HRS HLIN HXL hc hop
          go_wp2_with (first | (go_at_call 54; (first | with_reducible refine (hlo _).mono ?_ | with_reducible refine (hlk _).mono ?_); rintro e w' ⟨rfl, rfl⟩) | (go_at_call 55; with_reducible refine (hsg _).mono ?_; rintro e w' ⟨rfl, rfl⟩) | fail)
          refine hC.mono ?_
          rintro e w3 ⟨rfl, F3⟩
          have HB3 := Lib.hid (HB.out.kept F3 (fun h => h))
          have HF3 := Lib.hid (HF.out.trans F3 (fun _ _ h => h))
          clear F3 hC HB HF r0 r2 e0 e1 e2
          go_wp2_with fail
          go_roundg m
          case measure => omega
          case rel => exact ⟨k + 1, acc ++ ([32] ++ sgnP op k ++ [32]) ++ ([40] ++ X ++ [41]), by omega, by go_num, congrArg Value.string (txt_ext (by simp)), HNEW.out, HB3.out, HF3.out⟩
        · have pp : ¬ (linP op : Int) < (linP o : Int) := by omega
          have hnew : acc ++ ([32] ++ sgnP op k ++ [32]) ++ X ++ ((if op = 4 ∧ k + 1 = 0 then [33] else []) ++ prL op (k + 1) (kids.drop (k + 1))) = ALL := by
            rw [HRS.out, if_neg (fun h => hne h.2), ← HCLL.out, if_neg hpar, if_pos (show 0 < k by omega), if_neg (show ¬ (op = 4 ∧ k = 0) by omega)]
            simp [List.append_assoc]
          have HNEW := Lib.hid hnew
          have hb1 : 1 ≤ linP op := by omega
          have hb2 : linP op ≤ 7 := by omega
          have hb3 : linP o ≤ 7 := by omega
          have hxl := HXL.out
          have hs3 := sgnP_le op k
          have q6 : ¬ 9223372036854775807 < acc.length + ((sgnP op k).length + 1 + 1) := by omega
          have q7 : ¬ 9223372036854775807 < acc.length + ((sgnP op k).length + 1 + 1) + 1 := by omega
          clear hnew hpar hkp hop0 hlp hlp' hl6 hl6' hne HCLL HRS HLIN HXL hc hop
          go_wp2_with (first | (go_at_call 54; (first | with_reducible refine (hlo _).mono ?_ | with_reducible refine (hlk _).mono ?_); rintro e w' ⟨rfl, rfl⟩) | (go_at_call 55; with_reducible refine (hsg _).mono ?_; rintro e w' ⟨rfl, rfl⟩) | fail)
          refine hC.mono ?_
          rintro e w3 ⟨rfl, F3⟩
          have HB3 := Lib.hid (HB.out.kept F3 (fun h => h))
          have HF3 := Lib.hid (HF.out.trans F3 (fun _ _ h => h))
          clear F3 hC HB HF r0 r2 e0 e1 e2
          go_wp2_with fail
          go_roundg m
          case measure => omega
          case rel => exact ⟨k + 1, acc ++ ([32] ++ sgnP op k ++ [32]) ++ X, by omega, by go_num, congrArg Value.string (txt_ext (by simp)), HNEW.out, HB3.out, HF3.out⟩
      · -- op 10, later
        have hop : op = 5 ∨ op = 6 ∨ op = 7 ∨ op = 8 ∨ op = 9 ∨ op = 10 := by omega
        have p4 : ((op : Int) == 4) = false := by simp; omega
        have p8 : ((op : Int) == 8) = false := by simp; omega
        have p10 : ((op : Int) == 10) = true := by simp only [beq_iff_eq]; omega
        have pk : (0 : Int) < (k : Int) := by omega
        have hkp : kidP op k = levP op := by unfold kidP; rw [if_neg (by omega), if_pos (by omega)]
        have hsg := rsign_any op k hop (by omega)
        by_cases hpar : levP o < kidP op k
        · have pp : (linP op : Int) < (linP o : Int) := by omega
          have hnew : acc ++ ([32] ++ sgnP op k ++ [32]) ++ ([40] ++ X ++ [41]) ++ ((if op = 4 ∧ k + 1 = 0 then [33] else []) ++ prL op (k + 1) (kids.drop (k + 1))) = ALL := by
            rw [HRS.out, if_neg (fun h => hne h.2), ← HCLL.out, if_pos hpar, if_pos (show 0 < k by omega), if_neg (show ¬ (op = 4 ∧ k = 0) by omega)]
            simp [List.append_assoc]
          have HNEW := Lib.hid hnew
          have hb1 : 1 ≤ linP op := by omega
          have hb2 : linP op ≤ 7 := by omega
          have hb3 : linP o ≤ 7 := by omega
          have hxl := HXL.out
          have hs3 := sgnP_le op k
          have q6 : ¬ 9223372036854775807 < acc.length + ((sgnP op k).length + 1 + 1) := by omega
          have q7 : ¬ 9223372036854775807 < acc.length + ((sgnP op k).length + 1 + 1) + 1 := by omega
          clear hnew hpar hkp hop0 hlp hlp' hl6 hl6' hne HCLL HRS HLIN HXL hc hop
          go_wp2_with (first | (go_at_call 54; (first | with_reducible refine (hlo _).mono ?_ | with_reducible refine (hlk _).mono ?_); rintro e w' ⟨rfl, rfl⟩) | (go_at_call 55; with_reducible refine (hsg _).mono ?_; rintro e w' ⟨rfl, rfl⟩) | fail)
          refine hC.mono ?_
          rintro e w3 ⟨rfl, F3⟩
          have HB3 := Lib.hid (HB.out.kept F3 (fun h => h))
          have HF3 := Lib.hid (HF.out.trans F3 (fun _ _ h => h))
          clear F3 hC HB HF r0 r2 e0 e1 e2
          go_wp2_with fail
          go_roundg m
          case measure => omega
          case rel => exact ⟨k + 1, acc ++ ([32] ++ sgnP op k ++ [32]) ++ ([40] ++ X ++ [41]), by omega, by go_num, congrArg Value.string (txt_ext (by simp)), HNEW.out, HB3.out, HF3.out⟩
        · have pp : ¬ (linP op : Int) < (linP o : Int) := by omega
          have hnew : acc ++ ([32] ++ sgnP op k ++ [32]) ++ X ++ ((if op = 4 ∧ k + 1 = 0 then [33] else []) ++ prL op (k + 1) (kids.drop (k + 1))) = ALL := by
            rw [HRS.out, if_neg (fun h => hne h.2), ← HCLL.out, if_neg hpar, if_pos (show 0 < k by omega), if_neg (show ¬ (op = 4 ∧ k = 0) by omega)]
            simp [List.append_assoc]
          have HNEW := Lib.hid hnew
          have hb1 : 1 ≤ linP op := by omega
          have hb2 : linP op ≤ 7 := by omega
          have hb3 : linP o ≤ 7 := by omega
          have hxl := HXL.out
          have hs3 := sgnP_le op k
          have q6 : ¬ 9223372036854775807 < acc.length + ((sgnP op k).length + 1 + 1) := by omega
          have q7 : ¬ 9223372036854775807 < acc.length + ((sgnP op k).length + 1 + 1) + 1 := by omega
          clear hnew hpar hkp hop0 hlp hlp' hl6 hl6' hne HCLL HRS HLIN HXL hc hop
          go_wp2_with (first | (go_at_call 54; (first | with_reducible refine (hlo _).mono ?_ | with_reducible refine (hlk _).mono ?_); rintro e w' ⟨rfl, rfl⟩) | (go_at_call 55; with_reducible refine (hsg _).mono ?_; rintro e w' ⟨rfl, rfl⟩) | fail)
          refine hC.mono ?_
          rintro e w3 ⟨rfl, F3⟩
          have HB3 := Lib.hid (HB.out.kept F3 (fun h => h))
          have HF3 := Lib.hid (HF.out.trans F3 (fun _ _ h => h))
          clear F3 hC HB HF r0 r2 e0 e1 e2
          go_wp2_with fail
          go_roundg m
          case measure => omega
          case rel => exact ⟨k + 1, acc ++ ([32] ++ sgnP op k ++ [32]) ++ X, by omega, by go_num, congrArg Value.string (txt_ext (by simp)), HNEW.out, HB3.out, HF3.out⟩
      · -- others, later
        have hop : op = 5 ∨ op = 6 ∨ op = 7 ∨ op = 8 ∨ op = 9 ∨ op = 10 := by omega
        have p4 : ((op : Int) == 4) = false := by simp; omega
        have p8 : ((op : Int) == 8) = false := by simp; omega
        have p10 : ((op : Int) == 10) = false := by simp; omega
        have pk : (0 : Int) < (k : Int) := by omega
        have hkp : kidP op k = levP op + 1 := by unfold kidP; rw [if_neg (by omega), if_neg (by omega)]
        have hsg := rsign_any op k hop (by omega)
        by_cases hpar : levP o < kidP op k
        · have pp : (linP op : Int) - 1 < (linP o : Int) := by omega
          have hnew : acc ++ ([32] ++ sgnP op k ++ [32]) ++ ([40] ++ X ++ [41]) ++ ((if op = 4 ∧ k + 1 = 0 then [33] else []) ++ prL op (k + 1) (kids.drop (k + 1))) = ALL := by
            rw [HRS.out, if_neg (fun h => hne h.2), ← HCLL.out, if_pos hpar, if_pos (show 0 < k by omega), if_neg (show ¬ (op = 4 ∧ k = 0) by omega)]
            simp [List.append_assoc]
          have HNEW := Lib.hid hnew
          have hb1 : 1 ≤ linP op := by omega
          have hb2 : linP op ≤ 7 := by omega
          have hb3 : linP o ≤ 7 := by omega
          have hxl := HXL.out
          have hs3 := sgnP_le op k
          have q6 : ¬ 9223372036854775807 < acc.length + ((sgnP op k).length + 1 + 1) := by omega
          have q7 : ¬ 9223372036854775807 < acc.length + ((sgnP op k).length + 1 + 1) + 1 := by omega
          clear hnew hpar hkp hop0 hlp hlp' hl6 hl6' hne HCLL HRS HLIN HXL hc hop
          go_wp2_with (first | (go_at_call 54; (first | with_reducible refine (hlo _).mono ?_ | with_reducible refine (hlk _).mono ?_); rintro e w' ⟨rfl, rfl⟩) | (go_at_call 55; with_reducible refine (hsg _).mono ?_; rintro e w' ⟨rfl, rfl⟩) | fail)
          refine hC.mono ?_
          rintro e w3 ⟨rfl, F3⟩
          have HB3 := Lib.hid (HB.out.kept F3 (fun h => h))
          have HF3 := Lib.hid (HF.out.trans F3 (fun _ _ h => h))
          clear F3 hC HB HF r0 r2 e0 e1 e2
          go_wp2_with fail
          go_roundg m
          case measure => omega
          case rel => exact ⟨k + 1, acc ++ ([32] ++ sgnP op k ++ [32]) ++ ([40] ++ X ++ [41]), by omega, by go_num, congrArg Value.string (txt_ext (by simp)), HNEW.out, HB3.out, HF3.out⟩
        · have pp : ¬ (linP op : Int) - 1 < (linP o : Int) := by omega
          have hnew : acc ++ ([32] ++ sgnP op k ++ [32]) ++ X ++ ((if op = 4 ∧ k + 1 = 0 then [33] else []) ++ prL op (k + 1) (kids.drop (k + 1))) = ALL := by
            rw [HRS.out, if_neg (fun h => hne h.2), ← HCLL.out, if_neg hpar, if_pos (show 0 < k by omega), if_neg (show ¬ (op = 4 ∧ k = 0) by omega)]
            simp [List.append_assoc]
          have HNEW := Lib.hid hnew
          have hb1 : 1 ≤ linP op := by omega
          have hb2 : linP op ≤ 7 := by omega
          have hb3 : linP o ≤ 7 := by omega
          have hxl := HXL.out
          have hs3 := sgnP_le op k
          have q6 : ¬ 9223372036854775807 < acc.length + ((sgnP op k).length + 1 + 1) := by omega
          have q7 : ¬ 9223372036854775807 < acc.length + ((sgnP op k).length + 1 + 1) + 1 := by omega
          clear hnew hpar hkp hop0 hlp hlp' hl6 hl6' hne HCLL HRS HLIN HXL hc hop
          go_wp2_with (first | (go_at_call 54; (first | with_reducible refine (hlo _).mono ?_ | with_reducible refine (hlk _).mono ?_); rintro e w' ⟨rfl, rfl⟩) | (go_at_call 55; with_reducible refine (hsg _).mono ?_; rintro e w' ⟨rfl, rfl⟩) | fail)
          refine hC.mono ?_
          rintro e w3 ⟨rfl, F3⟩
          have HB3 := Lib.hid (HB.out.kept F3 (fun h => h))
          have HF3 := Lib.hid (HF.out.trans F3 (fun _ _ h => h))
          clear F3 hC HB HF r0 r2 e0 e1 e2
          go_wp2_with fail
          go_roundg m
          case measure => omega
          case rel => exact ⟨k + 1, acc ++ ([32] ++ sgnP op k ++ [32]) ++ X, by omega, by go_num, congrArg Value.string (txt_ext (by simp)), HNEW.out, HB3.out, HF3.out⟩
theorem text_any : ∀ (d : Nat) (t : Tr), SizeOf.sizeOf t < d → TextC t
  | 0, t, h => absurd h (Nat.not_lt_zero _)
  | d + 1, .mk op nm kids, h => text_one op nm kids fun t ht => text_any d t (by have := List.sizeOf_lt_of_mem ht; simp at h; omega)
end Go.Proofs.Ytbjdaibkcchllaa
