import Derived.Test.YtbiheajnmjbdoaaQbp
import Derived.Test.YtbiheajnmjbdoaaQbq
namespace Go.Proofs.Ytbiheajnmjbdoaa
open Go.RowKit

/-! FormulaLong -/
theorem parse_stop (s : ByteArray) (xs : List UInt8) (hs : TX s = xs ++ [36]) (hl : xs.length ≤ 60000) (w : World) : Calls Try.prog 11 #[.string s] w fun e w' => (∃ (o : Nat) (nm : ByteArray) (a : Option Addr) (n c : Nat) (k : Nat), k ≤ xs.length ∧ e = .returned (.tuple #[.agg #[.int .u8 (o : Int), .string nm, .slice a n c], .int .i64 (k : Int), .int .i64 4])) ∧ Fr nob w w' := by
  obtain ⟨k, hk, hkl⟩ := whole_stop xs
  have hsz : s.size = xs.length + 1 := by
    have h := congrArg List.length hs
    rw [List.length_append, Array.length_toList] at h
    rw [ByteArray.size, h]
    simp
  refine (parse_any s (by omega) (fun t j h => ?_) w).mono ?_
  · rw [hs, hk] at h; cases h
  · rintro e w' ⟨v, rfl, hT, F⟩
    have hp : parseP (TX s) = (zeroT, k, 4) := by
      unfold parseP
      rw [hs, if_neg (by simp; omega), hk]
    rw [hp] at hT ⊢
    obtain ⟨_, _, _, _, _, rfl⟩ := hT.form
    exact ⟨⟨_, _, _, _, _, k, hkl, rfl⟩, F⟩
theorem parse_zero (s : ByteArray) (k : Nat) (hs : TX s = List.replicate k 32 ++ [48]) (hl : k ≤ 65535) (w : World) : Calls Try.prog 11 #[.string s] w fun e w' => (∃ (nm : ByteArray) (a : Option Addr) (c : Nat), e = .returned (.tuple #[.agg #[.int .u8 1, .string nm, .slice a 0 c], .int .i64 0, .int .i64 0])) ∧ Fr nob w w' := by
  have hsz : s.size = k + 1 := by
    have h := congrArg List.length hs
    rw [List.length_append, Array.length_toList] at h
    rw [ByteArray.size, h]
    simp
  refine (parse_any s (by omega) (fun t j h => ?_) w).mono ?_
  · rw [hs, whole_zero] at h; cases h; rfl
  · rintro e w' ⟨v, rfl, hT, F⟩
    have hp : parseP (TX s) = (.mk 1 [] [], 0, 0) := by
      unfold parseP
      rw [hs, if_neg (by simp; omega), whole_zero]
      rfl
    rw [hp] at hT ⊢
    rw [TrV] at hT
    obtain ⟨a, cp, rfl, _⟩ := hT
    exact ⟨⟨_, _, _, rfl⟩, F⟩
theorem parse_great (s : ByteArray) (hs : s.size = 65537) (w : World) : Calls Try.prog 11 #[.string s] w fun e w' => (∃ (o : Nat) (nm : ByteArray) (a : Option Addr) (n c : Nat), e = .returned (.tuple #[.agg #[.int .u8 (o : Int), .string nm, .slice a n c], .int .i64 65536, .int .i64 5])) ∧ Fr nob w w' := by
  refine (parse_long s (by omega) (by omega) w).mono ?_
  rintro e w' ⟨v, rfl, hT, F⟩
  obtain ⟨_, _, _, _, _, rfl⟩ := hT.form
  exact ⟨⟨_, _, _, _, _, rfl⟩, F⟩
set_option maxHeartbeats 2000000 in
set_option maxRecDepth 100000 in
theorem long_any (s : ByteArray) (n : Nat) (hn : n ≤ 255) (hs : s.size ≤ 9223372036854775807) (w : World) : Calls Try.prog 4 #[.string s, .int .u8 (n : Int)] w fun e w' => e = .returned (.bool true) ∧ Fr nob w w' := by
  have hW := Lib.hid wakes_any
  go_enter Try.func4, Try.ntmps4
  by_cases h0 : s.size = 0
  · have q0 : ((s.size : Int) == 0) = true := by rw [h0]; rfl
    go_wp2_with (go_at_call 10; refine (hW.out _).mono ?_; rintro e w' ⟨rfl, F⟩)
    all_goals (go_ret; exact ⟨rfl, F⟩)
  have q0 : ((s.size : Int) == 0) = false := by simp only [beq_eq_false_iff_ne, ne_eq]; omega
  by_cases h1 : 1000 < s.size
  · have q1 : (1000 : Int) < (s.size : Int) := by omega
    go_wp2_with (go_at_call 10; refine (hW.out _).mono ?_; rintro e w' ⟨rfl, F⟩)
    go_ret
    exact ⟨rfl, F⟩
  · have q1 : ¬ (1000 : Int) < (s.size : Int) := by omega
    go_wp2_with fail
    go_loopg [5] 65537 (fun m lv wr => ∃ t : ByteArray, lv = .string t ∧ 1 ≤ t.size ∧ t.size ≤ 131072 ∧ 65537 ≤ t.size + m ∧ w = wr)
    case atStart => exact ⟨s, rfl, by omega, by omega, by omega, rfl⟩
    case round =>
      obtain ⟨t, rfl, ht1, ht2, ht3, rfl⟩ := hrel
      by_cases h2 : t.size ≤ 65536
      · have q2 : (t.size : Int) ≤ 65536 := by omega
        obtain ⟨m, rfl⟩ : ∃ m, gk = m + 1 := ⟨gk - 1, by omega⟩
        go_wp2_with fail
        go_roundg m
        case measure => omega
        case rel => exact ⟨t ++ t, rfl, by rw [ByteArray.size_append]; omega, by rw [ByteArray.size_append]; omega, by rw [ByteArray.size_append]; omega, rfl⟩
      · have q2 : ¬ (t.size : Int) ≤ 65536 := by omega
        go_wp2_with fail
        go_loopg [6] 65537 (fun m lv wr => ∃ b : ByteArray, lv = .string b ∧ TX b = List.replicate b.size 32 ∧ 1 ≤ b.size ∧ b.size ≤ 131072 ∧ 65537 ≤ b.size + m ∧ w = wr)
        case atStart => exact ⟨⟨#[32]⟩, rfl, rfl, by decide, by decide, by decide, rfl⟩
        case round =>
          obtain ⟨b, rfl, hb0, hb1, hb2, hb3, rfl⟩ := hrel
          have HB0 := Lib.hid hb0
          clear hb0
          by_cases h4 : b.size ≤ 65536
          · have q3 : (b.size : Int) ≤ 65536 := by omega
            obtain ⟨m, rfl⟩ : ∃ m, gk = m + 1 := ⟨gk - 1, by omega⟩
            go_wp2_with fail
            go_roundg m
            case measure => omega
            case rel =>
              refine ⟨b ++ b, rfl, ?_, by rw [ByteArray.size_append]; omega, by rw [ByteArray.size_append]; omega, by rw [ByteArray.size_append]; omega, rfl⟩
              rw [ByteArray.size_append, ← List.replicate_append_replicate, ← HB0.out]
              simp
          · have q3 : ¬ (b.size : Int) ≤ 65536 := by omega
            go_wp2_with fail
            have hP := parse_great (t.extract 0 65537) (by rw [ByteArray.size_extract]; omega)
            have e2 : TX (b.extract 0 65535 ++ ⟨#[48]⟩) = List.replicate 65535 32 ++ [48] := by
              show (b.extract 0 65535 ++ ⟨#[48]⟩).data.toList = _
              rw [ByteArray.data_append, Array.toList_append, ext_data, show b.data.toList = List.replicate b.size 32 from HB0.out, List.take_replicate, List.drop_zero, Nat.min_eq_left (by omega)]
            have e3 : TX (t.extract 0 n ++ ⟨#[36]⟩) = (TX t).take n ++ [36] := by
              show (t.extract 0 n ++ ⟨#[36]⟩).data.toList = _
              rw [ByteArray.data_append, Array.toList_append, ext_data, List.drop_zero]
            have HP2 := Lib.hid (parse_zero _ 65535 e2 (by decide))
            have HP3 := Lib.hid (parse_stop _ _ e3 (by rw [List.length_take]; omega))
            have hz : ((TX t).take n).length ≤ n := by rw [List.length_take]; omega
            have HZ := Lib.hid hz
            have HE := Lib.hid (And.intro e2 e3)
            have hbt : (n : Int) ≤ (t.size : Int) := by omega
            have hbs : (b.extract 0 65535).size = 65535 := by rw [ByteArray.size_extract]; omega
            have hts : (t.extract 0 n).size = n := by rw [ByteArray.size_extract]; omega
            clear e2 e3 HB0 hz
            refine (hP w).mono ?_
            clear hP
            rintro e w1 ⟨⟨o1, nm1, a1, n1, c1, rfl⟩, F1⟩
            have HF1 := Lib.hid F1
            clear F1
            go_wp2_with fail
            have D1 : Fr nob w1 (w1.alloc (.cells #[.int .u8 (o1 : Int), .string nm1, .slice a1 n1 c1] 25)) := (Fr.refl nob w1).alloc _
            have HF2 := Lib.hid (HF1.out.trans D1 (fun _ _ h => h))
            clear D1 HF1
            generalize w1.alloc (.cells #[.int .u8 (o1 : Int), .string nm1, .slice a1 n1 c1] 25) = w2 at *
            refine (HP2.out w2).mono ?_
            clear HP2
            rintro e w3 ⟨⟨nm2, a2, c2, rfl⟩, F3⟩
            have HF3 := Lib.hid (HF2.out.trans F3 (fun _ _ h => h))
            clear F3 HF2
            go_wp2_with fail
            have D3 : Fr nob w3 (w3.alloc (.cells #[.int .u8 1, .string nm2, .slice a2 0 c2] 25)) := (Fr.refl nob w3).alloc _
            have HB3 := Lib.hid (Box3.new w3 (.int .u8 1) (.string nm2) (.slice a2 0 c2) 25)
            have HF4 := Lib.hid (HF3.out.trans D3 (fun _ _ h => h))
            clear D3 HF3
            generalize w3.alloc (.cells #[.int .u8 1, .string nm2, .slice a2 0 c2] 25) = w4 at *
            refine (HP3.out w4).mono ?_
            clear HP3
            rintro e w5 ⟨⟨o3, nm3, a3, n3, c3, k, hk, rfl⟩, F5⟩
            have HF5 := Lib.hid (HF4.out.trans F5 (fun _ _ h => h))
            have HB5 := Lib.hid (HB3.out.kept F5 (fun h => h))
            have hkn : (k : Int) ≤ (n : Int) := by have h := HZ.out; omega
            clear F5 HF4 HB3 HZ hk
            have D5 : Fr nob w5 (w5.alloc (.cells #[.int .u8 (o3 : Int), .string nm3, .slice a3 n3 c3] 25)) := (Fr.refl nob w5).alloc _
            have HF6 := Lib.hid (HF5.out.trans D5 (fun _ _ h => h))
            have b0 := (HB5.out.kept D5 (fun h => h)).c0
            clear D5 HB5 HF5
            go_upto_region 11 with fail
            generalize w5.alloc (.cells #[.int .u8 (o3 : Int), .string nm3, .slice a3 n3 c3] 25) = w6 at *
            go_wp2_with (go_at_call 10; refine (hW.out _).mono ?_; rintro e w' ⟨rfl, F⟩)
            go_ret
            exact ⟨rfl, HF6.out.trans F (fun _ _ h => h)⟩
end Go.Proofs.Ytbiheajnmjbdoaa
