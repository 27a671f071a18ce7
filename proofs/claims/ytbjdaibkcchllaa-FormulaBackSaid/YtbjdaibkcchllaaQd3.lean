import Derived.Test.YtbjdaibkcchllaaQd1
import Derived.Test.YtbjdaibkcchllaaQd2
import Derived.Test.YtbjdaibkcchllaaQbp
namespace Go.Proofs.Ytbjdaibkcchllaa
open Go.RowKit

/-! what Great says -/
def nmT2 : Tr → List UInt8
  | .mk _ nm _ => nm
mutual
theorem cnt_pre : ∀ {t : Tr} {lv : Nat} {left : Int}, 0 ≤ cntP t lv left → cntP t lv left + ((preP t).length : Int) ≤ left ∧ ∀ u ∈ preP t, (nmT2 u).length ≤ 100
  | .mk op nm kids, lv, left, h => by
    rw [cntP] at h ⊢
    split at h
    · omega
    · rename_i hc
      rw [if_neg hc]
      obtain ⟨h1, h2⟩ := cnt_preL (left := left - 1) (by omega) h
      rw [preP, List.length_cons]
      refine ⟨by omega, fun u hu => ?_⟩
      rcases List.mem_cons.1 hu with rfl | hu
      · show nm.length ≤ 100; omega
      · exact h2 u hu
theorem cnt_preL : ∀ {ts : List Tr} {lv : Nat} {left : Int}, 0 ≤ left → 0 ≤ cntL ts lv left → cntL ts lv left + ((preL ts).length : Int) ≤ left ∧ ∀ u ∈ preL ts, (nmT2 u).length ≤ 100
  | [], lv, left, _, _ => by rw [cntL, preL]; simp
  | t :: ts, lv, left, h0, h => by
    rw [cntL, if_neg (by omega)] at h ⊢
    by_cases hc : 0 ≤ cntP t lv left
    · obtain ⟨h1, h2⟩ := cnt_pre hc
      obtain ⟨h3, h4⟩ := cnt_preL hc h
      rw [preL, List.length_append]
      refine ⟨by omega, fun u hu => ?_⟩
      rcases List.mem_append.1 hu with hu | hu
      · exact h2 u hu
      · exact h4 u hu
    · rw [cntL_neg (by omega)] at h; omega
end
mutual
theorem tame_of : ∀ {t : Tr}, (preP t).length ≤ 100000 → (∀ u ∈ preP t, (nmT2 u).length ≤ 100) → tame t = true
  | .mk op nm kids, h1, h2 => by
    rw [preP] at h1 h2
    rw [List.length_cons] at h1
    have hk := kids_le (kids := kids)
    have hn : nm.length ≤ 100 := h2 _ List.mem_cons_self
    rw [tame, Bool.and_eq_true, Bool.and_eq_true, decide_eq_true_iff, decide_eq_true_iff]
    exact ⟨⟨by omega, by omega⟩, tame_ofL (by omega) fun u hu => h2 u (List.mem_cons_of_mem _ hu)⟩
theorem tame_ofL : ∀ {ts : List Tr}, (preL ts).length ≤ 100000 → (∀ u ∈ preL ts, (nmT2 u).length ≤ 100) → tameL ts = true
  | [], _, _ => by rw [tameL]
  | t :: ts, h1, h2 => by
    rw [preL] at h1 h2
    rw [List.length_append] at h1
    rw [tameL, Bool.and_eq_true]
    exact ⟨tame_of (by omega) fun u hu => h2 u (List.mem_append_left _ hu), tame_ofL (by omega) fun u hu => h2 u (List.mem_append_right _ hu)⟩
end
mutual
theorem pr_len : ∀ {t : Tr} {l : Nat}, (∀ u ∈ preP t, (nmT2 u).length ≤ 100) → (prP t l).length + 5 ≤ 110 * (preP t).length
  | .mk op nm kids, l, h => by
    rw [preP] at h ⊢
    have hn : nm.length ≤ 100 := h _ List.mem_cons_self
    have hs := sgnP_le op 0
    have hL := prL_len (op := op) (k := 0) (ts := kids) fun u hu => h u (List.mem_cons_of_mem _ hu)
    rw [prP, List.length_cons]
    split
    · simp only [List.length_append, List.length_cons, List.length_nil]; omega
    · simp only [List.length_append]; omega
theorem prL_len : ∀ {op k : Nat} {ts : List Tr}, (∀ u ∈ preL ts, (nmT2 u).length ≤ 100) → (prL op k ts).length ≤ 110 * (preL ts).length
  | op, k, [], _ => by rw [prL]; simp
  | op, k, t :: ts, h => by
    rw [preL] at h ⊢
    have hs := sgnP_le op k
    have h1 := pr_len (t := t) (l := kidP op k) fun u hu => h u (List.mem_append_left _ hu)
    have h2 := prL_len (op := op) (k := k + 1) (ts := ts) fun u hu => h u (List.mem_append_right _ hu)
    rw [prL, List.length_append, List.length_append, List.length_append]
    split
    · simp only [List.length_append, List.length_cons, List.length_nil]; omega
    · simp only [List.length_nil]; omega
end
/-- what is known of a tree that is not great -/
structure Mild (t : Tr) : Prop where
  len : (preP t).length ≤ 1200
  nms : ∀ u ∈ preP t, (nmT2 u).length ≤ 100
theorem mild_of {t : Tr} {lv : Nat} (h : greatB t lv = false) : Mild t := by
  unfold greatB at h
  rw [decide_eq_false_iff_not] at h
  obtain ⟨h1, h2⟩ := cnt_pre (t := t) (lv := lv) (left := 1200) (by omega)
  exact ⟨by omega, h2⟩
theorem Mild.tame {t : Tr} (h : Mild t) : tame t = true := tame_of (by have := h.len; omega) h.nms
theorem Mild.pr {t : Tr} (h : Mild t) (l : Nat) : (prP t l).length ≤ 1000000000 := by
  have h1 := pr_len (t := t) (l := l) h.nms
  have h2 := h.len
  omega
theorem refV_all {t : Tr} (h : refV t = true) : (preP t).all oneT = true := by
  unfold refV at h
  rw [Bool.and_eq_true] at h
  exact h.1
set_option maxHeartbeats 4000000 in
set_option maxRecDepth 20000 in
theorem prints_any (t : Tr) (v : Value) (w : World) (hw : wide t = true) (hT : TrO w (fun b => b < w.heap.size) t v) : Calls Try.prog 5 #[v] w fun e w' => e = .returned (.bool true) ∧ Fr nob w w' := by
  obtain ⟨o, nm, a, n, c, hform⟩ := hT.form
  subst hform
  have A1 : Fr nob w (w.alloc (.cells #[.int .u8 (o : Int), .string (txt nm), .slice a n c] 25)) := (Fr.refl nob w).alloc _
  have hB1 := Box3.new w (.int .u8 (o : Int)) (.string (txt nm)) (.slice a n c) 25
  have hT1 := hT.kept (T := fun b => b < w.heap.size) A1 (fun b h _ => ⟨fun h => h, h⟩)
  have hG : Calls Try.prog 16 #[.agg #[.int .u8 (o : Int), .string (txt nm), .slice a n c], .int .i64 100] _ _ := great_any t _ _ (w.alloc (.cells #[.int .u8 (o : Int), .string (txt nm), .slice a n c] 25)) 100 (by decide) hw hT1
  have HW := Lib.hid wakes_any
  have HB1 := Lib.hid hB1
  have HT1 := Lib.hid hT1
  have HF1 := Lib.hid A1
  have HWD := Lib.hid hw
  have ⟨g0, g1, g2, _⟩ := hB1
  clear hT A1 hB1 hT1 hw
  go_enter Try.func5, Try.ntmps5
  go_upto_region 1 with fail
  generalize w.alloc (.cells #[.int .u8 (o : Int), .string (txt nm), .slice a n c] 25) = W1 at *
  cases hgr : greatB t 100 with
  | true =>
    rw [hgr] at hG
    go_wp2_with (first | (go_at_call 16; with_reducible refine hG.mono ?_; rintro e w2 ⟨rfl, F2⟩) | fail)
    refine (HW.out _).mono ?_
    rintro e w3 ⟨rfl, F3⟩
    have HF3 := Lib.hid ((HF1.out.trans F2 (fun _ _ h => h)).trans F3 (fun _ _ h => h))
    clear F2 F3
    go_wp2_with fail
    go_ret
    exact ⟨rfl, HF3.out⟩
  | false =>
    rw [hgr] at hG
    have HM := Lib.hid (mild_of hgr)
    clear hgr
    go_upto_region 3 with (first | (go_at_call 16; with_reducible refine hG.mono ?_; rintro e w2 ⟨rfl, F2⟩) | fail)
    have hF2 := HF1.out.trans F2 (fun _ _ h => h)
    have hB2 := HB1.out.kept F2 (fun h => h)
    have hT2 := HT1.out.kept (T := fun b => b < w.heap.size) F2 (fun b h _ => ⟨fun h => h, h⟩)
    have hz2 := hF2.size
    have hC := cop_any _ t (Nat.lt_succ_self _) _ (fun b => b < w.heap.size) w2 HWD.out (by have := HM.out.len; omega) (fun b h => by have h : b < w.heap.size := h; omega) hT2
    have ⟨b0, b1, b2, _⟩ := hB2
    have HB2 := Lib.hid hB2
    have HT2 := Lib.hid hT2
    have HF2 := Lib.hid hF2
    clear F2 hF2 hB2 hT2 hz2 HF1 HB1 HT1 hG g0 g1 g2
    go_wp2_with fail
    refine hC.mono ?_
    rintro e w3 ⟨v3, rfl, hT3, F3⟩
    obtain ⟨o3, nm3, a3, n3, c3, hform⟩ := hT3.form
    subst hform
    have HB3 := Lib.hid (HB2.out.kept F3 (fun h => h))
    have HT3 := Lib.hid (HT2.out.kept (T := fun b => b < w.heap.size) F3 (fun b h _ => ⟨fun h => h, h⟩))
    have HF3 := Lib.hid (HF2.out.trans F3 (fun _ _ h => h))
    have HTo3 := Lib.hid hT3.toO
    clear F3 hT3 HB2 HT2 HF2 b0 b1 b2 hC
    have A4 : Fr nob w3 (w3.alloc (.cells #[.int .u8 (o3 : Int), .string (txt nm3), .slice a3 n3 c3] 25)) := (Fr.refl nob w3).alloc _
    have HX4 := Lib.hid (Box3.new w3 (.int .u8 (o3 : Int)) (.string (txt nm3)) (.slice a3 n3 c3) 25)
    have HB4 := Lib.hid (HB3.out.kept A4 (fun h => h))
    have HT4 := Lib.hid (HT3.out.kept (T := fun b => b < w.heap.size) A4 (fun b h _ => ⟨fun h => h, h⟩))
    have HF4 := Lib.hid (HF3.out.trans A4 (fun _ _ h => h))
    have hTo4 := HTo3.out.kept (T := fun b => b < w3.heap.size) A4 (fun b h h' => ⟨fun h => h, h'⟩)
    have hP := print_any t _ (w3.alloc (.cells #[.int .u8 (o3 : Int), .string (txt nm3), .slice a3 n3 c3] 25)) HM.out.tame (HM.out.pr 0) (hTo4.kept (Fr.refl nob _) (fun b _ hb => ⟨fun h => h, hb⟩))
    have HTo4 := Lib.hid hTo4
    clear A4 HB3 HT3 HF3 HTo3 hTo4
    go_upto_region 4 with fail
    generalize w3.alloc (.cells #[.int .u8 (o3 : Int), .string (txt nm3), .slice a3 n3 c3] 25) = w4 at *
    have ⟨x0, x1, x2, _⟩ := HX4.out
    go_wp2_with fail
    refine hP.mono ?_
    rintro e w5 ⟨F5, rfl⟩
    have hF5 := HF4.out.trans F5 (fun _ _ h => h)
    have HX5 := Lib.hid (HX4.out.kept F5 (fun h => h))
    have hB5 := HB4.out.kept F5 (fun h => h)
    have hT5 := HT4.out.kept (T := fun b => b < w.heap.size) F5 (fun b h _ => ⟨fun h => h, h⟩)
    have HTo5 := Lib.hid (HTo4.out.kept (T := fun b => b < w3.heap.size) F5 (fun b h _ => ⟨fun h => h, h⟩))
    have hz5 := hF5.size
    have hV := refValid_any t _ (fun b => b < w.heap.size) w5 HWD.out (by have := HM.out.len; omega) (fun b h => by have h : b < w.heap.size := h; omega) hT5
    have HF5 := Lib.hid hF5
    have HB5 := Lib.hid hB5
    have HT5 := Lib.hid hT5
    have ⟨b0, b1, b2, _⟩ := hB5
    rw [refV_eq] at hV
    clear F5 hF5 hB5 hT5 hz5 HX4 HB4 HT4 HTo4 HF4 hP x0 x1 x2
    cases hvb : validB t with
    | false =>
      rw [hvb] at hV
      go_upto_region 6 with (first | (go_at_call 19; with_reducible refine hV.mono ?_; rintro e w6 ⟨rfl, F6⟩) | fail)
      have HF6 := Lib.hid (HF5.out.trans F6 (fun _ _ h => h))
      clear F6 hV
      go_wp2_with (first | (go_at_call 12; refine (HW.out _).mono ?_; rintro e w7 ⟨rfl, F7⟩) | fail)
      go_ret
      exact ⟨rfl, HF6.out.trans F7 (fun _ _ h => h)⟩
    | true =>
      have HALL := Lib.hid (refV_all (by rw [refV_eq, hvb] : refV t = true))
      rw [hvb] at hV
      clear hvb
      go_upto_region 7 with (first | (go_at_call 19; with_reducible refine hV.mono ?_; rintro e w6 ⟨rfl, F6⟩) | fail)
      have hF6 := HF5.out.trans F6 (fun _ _ h => h)
      have HX6 := Lib.hid (HX5.out.kept F6 (fun h => h))
      have hB6 := HB5.out.kept F6 (fun h => h)
      have hT6 := HT5.out.kept (T := fun b => b < w.heap.size) F6 (fun b h _ => ⟨fun h => h, h⟩)
      have HTo6 := Lib.hid (HTo5.out.kept (T := fun b => b < w3.heap.size) F6 (fun b h _ => ⟨fun h => h, h⟩))
      have hTx := text_any _ t (Nat.lt_succ_self _) _ (fun b => b < w.heap.size) w6 HWD.out HALL.out (HM.out.pr 0) hT6
      have HF6 := Lib.hid hF6
      have HB6 := Lib.hid hB6
      have HT6 := Lib.hid hT6
      have e6 : ((txt (prP t 0)).toList == (txt (prP t 0)).toList) = true := by simp
      have sr : sameP t t = true := sameP_refl t
      have HSR := Lib.hid sr
      have HSM := Lib.hid (same_any _ t (Nat.lt_succ_self _))
      clear b0 b1 b2 F6 hF6 hB6 hT6 hV HX5 HB5 HT5 HTo5 HF5 sr
      have ⟨b0, b1, b2, _⟩ := HB6.out
      generalize prP t 0 = PT at *
      go_wp2_with (first
        | (go_at_call 20; with_reducible refine hTx.mono ?_; rintro e w7 ⟨rfl, F7⟩
           have HF7 := Lib.hid (HF6.out.trans F7 (fun _ _ h => h))
           have ⟨y0, y1, y2, _⟩ := HX6.out.kept F7 (fun h => h)
           have ⟨z0, z1, z2, _⟩ := HB6.out.kept F7 (fun h => h)
           have hS7 := HSM.out t _ _ _ _ w7 HWD.out HWD.out (HTo6.out.kept (T := fun b => b < w3.heap.size) F7 (fun b h _ => ⟨fun h => h, h⟩)) (HT6.out.kept (T := fun b => b < w.heap.size) F7 (fun b h _ => ⟨fun h => h, h⟩))
           rw [HSR.out] at hS7
           clear F7 hTx b0 b1 b2 HX6 HB6)
        | (go_at_call 15; with_reducible refine hS7.mono ?_; rintro e w8 ⟨rfl, F8⟩
           have HF8 := Lib.hid (HF7.out.trans F8 (fun _ _ h => h))
           clear F8)
        | (go_at_call 12; refine (HW.out _).mono ?_; rintro e w9 ⟨rfl, F9⟩
           have HF9 := Lib.hid (HF8.out.trans F9 (fun _ _ h => h))
           clear F9)
        | fail)
      go_ret
      exact ⟨rfl, HF9.out⟩
end Go.Proofs.Ytbjdaibkcchllaa
