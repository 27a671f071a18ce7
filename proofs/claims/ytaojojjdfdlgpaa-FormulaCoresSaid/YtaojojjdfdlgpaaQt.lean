import Derived.Test.YtaojojjdfdlgpaaQl
namespace Go.Proofs.Ytaojojjdfdlgpaa
open Go.RowKit

/-! tokens -/
theorem ext_data (s : ByteArray) (a b : Nat) : (s.extract a b).data.toList = (s.data.toList.take b).drop a := by
  simp [ByteArray.data_extract]
  rw [List.drop_take]
theorem pre_eq (s p : ByteArray) : ((s.extract 0 p.size).toList == p.toList) = (p.data.toList.isPrefixOf s.data.toList) := by
  rw [ByteArray.toList_eq, ByteArray.toList_eq, ext_data, Bool.eq_iff_iff, List.isPrefixOf_iff_prefix, List.prefix_iff_eq_take]
  simp only [List.drop_zero, beq_iff_eq]
  have : p.data.toList.length = p.size := by simp
  rw [this]
  exact eq_comm
set_option maxHeartbeats 1000000 in
theorem slHasPrefix_any (s p : ByteArray) (w : World) : Calls Try.prog 137 #[.string s, .string p] w fun e w' => e = .returned (.bool (p.data.toList.isPrefixOf s.data.toList)) ∧ w = w' := by
  have key : ∀ b, p.data.toList.isPrefixOf s.data.toList = b → Calls Try.prog 137 #[.string s, .string p] w fun e w' => e = .returned (.bool b) ∧ w = w' := by
    intro b hb
    have HB := Lib.hid hb
    clear hb
    by_cases h : p.size ≤ s.size
    · have h' : (p.size : Int) ≤ (s.size : Int) := by omega
      go_enter Try.func137, Try.ntmps137
      go_wp2_with fail
      go_ret
      exact ⟨by simp only [← HB.out, ← pre_eq]; rfl, rfl⟩
    · have h' : ¬ (p.size : Int) ≤ (s.size : Int) := by omega
      obtain rfl : b = false := by
        rw [← HB.out, Bool.eq_false_iff, ne_eq, List.isPrefixOf_iff_prefix]
        intro h2
        have h3 := h2.length_le
        simp at h3
        omega
      go_enter Try.func137, Try.ntmps137
      go_wp2_with fail
      go_ret
      exact ⟨rfl, rfl⟩
  exact key _ rfl
theorem hasPrefix_any (s p : ByteArray) (w : World) : Calls Try.prog 130 #[.string s, .string p] w fun e w' => e = .returned (.bool (p.data.toList.isPrefixOf s.data.toList)) ∧ w = w' := by
  have h := slHasPrefix_any s p w
  generalize p.data.toList.isPrefixOf s.data.toList = b at *
  go_enter Try.func130, Try.ntmps130
  go_wp2_with (go_at_call 137; refine h.mono ?_; rintro e w' ⟨rfl, rfl⟩)
  go_ret
  exact ⟨rfl, rfl⟩

/-- the text of a list of bytes -/
def txt (l : List UInt8) : ByteArray := ⟨l.toArray⟩
@[simp] theorem txt_data (l : List UInt8) : (txt l).data.toList = l := by simp [txt]
@[simp] theorem txt_size (l : List UInt8) : (txt l).size = l.length := by simp [txt, ByteArray.size]
theorem txt_of (s : ByteArray) : txt s.data.toList = s := by
  cases s with
  | mk d => simp [txt]
theorem txt_ext {s : ByteArray} {l : List UInt8} (h : s.data.toList = l) : s = txt l := by rw [← h, txt_of]
def signs : List (List UInt8) := [[33], [38], [94], [124], [61, 62], [60, 61, 62], [63], [58], [40], [41]]
/-- the token with which a text begins -/
def firstTok (s : List UInt8) : List UInt8 :=
  if s.take (wlen s) = [48] ∨ s.take (wlen s) = [49] ∨ nameB (s.take (wlen s)) = true then s.take (wlen s) else (signs.find? fun x => x.isPrefixOf s).getD []
theorem find_yes {s : List UInt8} : ∀ {l : List (List UInt8)} {k : Nat} {x : List UInt8}, l[k]? = some x → x.isPrefixOf s = true → (∀ j y, j < k → l[j]? = some y → y.isPrefixOf s = false) → l.find? (fun x => x.isPrefixOf s) = some x
  | [], k, x, h, _, _ => by simp at h
  | a :: l, 0, x, h, hx, _ => by
    obtain rfl : a = x := by simpa using h
    simp [hx]
  | a :: l, k + 1, x, h, hx, hn => by
    have ha := hn 0 a (by omega) rfl
    have ih := find_yes (s := s) (l := l) (k := k) (x := x) (by simpa using h) hx (fun j y hj hy => hn (j + 1) y (by omega) (by simpa using hy))
    simp [ha, ih]
theorem find_no {s : List UInt8} {l : List (List UInt8)} (h : ∀ (j : Nat) y, l[j]? = some y → y.isPrefixOf s = false) : l.find? (fun x => x.isPrefixOf s) = none := by
  rw [List.find?_eq_none]
  intro x hx
  obtain ⟨j, hj, rfl⟩ := List.mem_iff_getElem.1 hx
  have := h j _ (List.getElem?_eq_getElem hj)
  simp [this]
abbrev SG : Array Value := #[.string ⟨#[33]⟩, .string ⟨#[38]⟩, .string ⟨#[94]⟩, .string ⟨#[124]⟩, .string ⟨#[61, 62]⟩, .string ⟨#[60, 61, 62]⟩, .string ⟨#[63]⟩, .string ⟨#[58]⟩, .string ⟨#[40]⟩, .string ⟨#[41]⟩]
theorem sg_at : ∀ k : _root_.Fin 10, ∀ w, (Instr.index 193 (.agg SG) (.int .i64 (k.val : Int))).run Try.prog w = .ok (.string (txt (signs.getD k.val []))) w
  | ⟨0, _⟩, _ => by kernel_rfl
  | ⟨1, _⟩, _ => by kernel_rfl
  | ⟨2, _⟩, _ => by kernel_rfl
  | ⟨3, _⟩, _ => by kernel_rfl
  | ⟨4, _⟩, _ => by kernel_rfl
  | ⟨5, _⟩, _ => by kernel_rfl
  | ⟨6, _⟩, _ => by kernel_rfl
  | ⟨7, _⟩, _ => by kernel_rfl
  | ⟨8, _⟩, _ => by kernel_rfl
  | ⟨9, _⟩, _ => by kernel_rfl

set_option maxHeartbeats 2000000 in
theorem firstToken_any (s : ByteArray) (hs : s.size ≤ 9223372036854775807) (w : World) : Calls Try.prog 123 #[.string s] w fun e w' => e = .returned (.string (txt (firstTok s.data.toList))) ∧ w = w' := by
  have key : ∀ t, firstTok s.data.toList = t → Calls Try.prog 123 #[.string s] w fun e w' => e = .returned (.string (txt t)) ∧ w = w' := by
    intro t ht
    have hw := wordLength_any s hs
    have hle := wlen_le s.data.toList
    have hsz : s.data.toList.length = s.size := by simp
    rw [hsz] at hle
    obtain ⟨n, hn⟩ : ∃ n, wlen s.data.toList = n := ⟨_, rfl⟩
    have hN := isName_any (s.extract 0 n) (by simp; omega)
    obtain ⟨wd, hwd⟩ : ∃ wd, s.data.toList.take n = wd := ⟨_, rfl⟩
    have hx : (s.extract 0 n).data.toList = wd := by rw [ext_data, List.drop_zero, hwd]
    have hxl : (s.extract 0 n).toList = wd := by rw [ByteArray.toList_eq, hx]
    have HX := Lib.hid (txt_ext hx)
    rw [hx] at hN
    rw [hn] at hw hle
    unfold firstTok at ht
    rw [hn, hwd] at ht
    clear hn hwd hsz hx
    have hn' : (n : Int) ≤ (s.size : Int) := by omega
    by_cases h0 : wd = [48]
    · have q0 : ((s.extract 0 n).toList == [48]) = true := by rw [hxl, h0]; rfl
      rw [if_pos (.inl h0)] at ht
      subst ht
      have H0 := Lib.hid h0
      clear h0 hxl
      go_enter Try.func123, Try.ntmps123
      go_wp2_with (first | (go_at_call 127; refine (hw _).mono ?_; rintro e w' ⟨rfl, rfl⟩) | fail)
      go_ret
      exact ⟨by rw [← HX.out]; rfl, rfl⟩
    have q0 : ((s.extract 0 n).toList == [48]) = false := by rw [hxl]; simpa using h0
    by_cases h1 : wd = [49]
    · have q1 : ((s.extract 0 n).toList == [49]) = true := by rw [hxl, h1]; rfl
      rw [if_pos (.inr (.inl h1))] at ht
      subst ht
      have H1 := Lib.hid h1
      clear h0 h1 hxl
      go_enter Try.func123, Try.ntmps123
      go_wp2_with (first | (go_at_call 127; refine (hw _).mono ?_; rintro e w' ⟨rfl, rfl⟩) | fail)
      go_ret
      exact ⟨by rw [← HX.out]; rfl, rfl⟩
    have q1 : ((s.extract 0 n).toList == [49]) = false := by rw [hxl]; simpa using h1
    clear hxl
    by_cases h2 : nameB wd = true
    · rw [if_pos (.inr (.inr h2))] at ht
      subst ht
      rw [h2] at hN
      clear h0 h1 h2
      go_enter Try.func123, Try.ntmps123
      go_wp2_with (first | (go_at_call 127; refine (hw _).mono ?_; rintro e w' ⟨rfl, rfl⟩) | (go_at_call 113; refine (hN _).mono ?_; rintro e w' ⟨rfl, rfl⟩))
      go_ret
      exact ⟨by rw [← HX.out]; rfl, rfl⟩
    rw [if_neg (by simp [h0, h1, h2])] at ht
    have h2' : nameB wd = false := by simpa using h2
    rw [h2'] at hN
    have HT := Lib.hid ht
    clear h0 h1 h2 h2' ht
    go_enter Try.func123, Try.ntmps123
    go_wp2_with (first | (go_at_call 127; refine (hw _).mono ?_; rintro e w' ⟨rfl, rfl⟩) | (go_at_call 113; refine (hN _).mono ?_; rintro e w' ⟨rfl, rfl⟩))
    go_loop [5, 22] (fun _ kv => ∃ k : Nat, k ≤ 10 ∧ kv = .int .i64 (k : Int) ∧ ∀ j y, j < k → signs[j]? = some y → y.isPrefixOf s.data.toList = false) (fun _ kv => 10 - (intOf kv).toNat)
    case atStart => exact ⟨0, by omega, rfl, fun j y h => by omega⟩
    case round =>
      obtain ⟨k, hk, rfl, hno⟩ := hrel
      have HNO := Lib.hid hno
      clear hno
      by_cases hlt : k < 10
      · have hlt' : (k : Int) < 10 := by omega
        have hix := sg_at ⟨k, hlt⟩
        obtain ⟨x, hx⟩ : ∃ x, signs[k]? = some x := ⟨signs[k]'hlt, List.getElem?_eq_getElem hlt⟩
        have hxd : signs.getD k [] = x := by simp [List.getD, hx]
        simp only [hxd] at hix
        have hP := hasPrefix_any s (txt x)
        rw [txt_data] at hP
        have HXX := Lib.hid hx
        clear hx hxd
        cases hpb : x.isPrefixOf s.data.toList with
        | true =>
          rw [hpb] at hP
          have HPB := Lib.hid hpb
          clear hpb
          go_wp2_with (go_at_call 130; refine (hP _).mono ?_; rintro e w' ⟨rfl, rfl⟩)
          go_ret
          exact ⟨by rw [← HT.out, find_yes HXX.out HPB.out HNO.out]; rfl, rfl⟩
        | false =>
          rw [hpb] at hP
          have HPB := Lib.hid hpb
          clear hpb
          go_wp2_with (go_at_call 130; refine (hP _).mono ?_; rintro e w' ⟨rfl, rfl⟩)
          go_round
          case rel => exact ⟨k + 1, by omega, by go_num, fun j y hj hy => by
            by_cases e : j = k
            · subst e; rw [HXX.out] at hy; cases hy; exact HPB.out
            · exact HNO.out j y (by omega) hy⟩
          case measure => simp [intOf]; omega
      · obtain rfl : k = 10 := by omega
        go_wp2_with fail
        go_ret
        exact ⟨by
          rw [← HT.out, find_no fun j y hy => HNO.out j y (by
            have : j < signs.length := by
              rcases Nat.lt_or_ge j signs.length with h | h
              · exact h
              · rw [List.getElem?_eq_none h] at hy; cases hy
            exact this) hy]; rfl, rfl⟩
  exact key _ rfl
end Go.Proofs.Ytaojojjdfdlgpaa
