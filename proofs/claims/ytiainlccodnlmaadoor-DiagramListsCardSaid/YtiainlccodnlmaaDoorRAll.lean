import Derived.Test.YtiainlccodnlmaaDoorEach
import Derived.Test.YtiainlccodnlmaaDoorRefA
namespace Go.Proofs.YtiainlccodnlmaaDoor
open Go.RowKit
open Bd

/-! All of the reference -/
abbrev uc (n : Nat) : Value := .int .u32 (n : Int)
theorem info_u32 : (Tryd.prog.info? 29).map (fun i => (i.zero, i.size, i.bytes)) = some (some (.int .u32 0), 1, 4) := by kernel_rfl
theorem lstN_len (f : Cfg → Bool) (k : Nat) : (lstN f k).length ≤ k := by
  have := List.length_filter_le (fun c => f (bitsOf c)) (List.range k)
  rwa [List.length_range] at this

theorem owns_below {W W' : World} {n e size k : Nat} {v : Value} {xs : List Value} (h : W.ownsRow n e size v k xs) (hb : Below W.heap.size W W') : W'.ownsRow n e size v k xs :=
  h.kept (row := none) ⟨hb.os, hb.tape, hb.output, hb.size, fun k hk _ => hb.block k hk⟩ (by
    rcases h.2 with ⟨rfl, _⟩ | ⟨g, cap, cur, rfl, _⟩
    · exact .inl rfl
    · exact .inr (by simp [Value.ownBlock]))

set_option maxRecDepth 100000 in
set_option maxHeartbeats 1000000 in
theorem RAll_nat (V : List Nat) (f : Cfg → Bool) (N : Nat) (hN : N ≤ 10) (v : Value) (w : World) (hs : RSet w v V f) : Calls Tryd.prog 31 #[v, .int .i64 (N : Int)] w fun e w' => ∃ u, e = .returned u ∧ SRow w' u ((lstN f (2 ^ N)).map uc) ∧ Below w.heap.size w w' := by
  obtain ⟨i0, hi0, hz0, hz1, hz2⟩ := info_parts info_u32
  have hh := fun c (hc : c < 2 ^ 32) W (h : Fr nob w W) => RHas_any V f c hc v W (hs.kept h)
  have HH := Lib.hid hh
  obtain ⟨hV, hf, sv, st, rfl, h1, h2⟩ := hs
  obtain ⟨b0, b1⟩ := two_cells' w sv st 35
  have hb : Below w.heap.size w (w.alloc (.cells #[sv, st] 35)) := (Below.refl _ w).alloc (Nat.le_refl _) _
  obtain ⟨a, cap, e1⟩ := h1.form
  obtain ⟨a2, cap2, e2⟩ := h2.form
  generalize (List.map ik V).length = n1 at e1
  generalize (List.map Value.bool (tab V f)).length = n2 at e2
  clear h1 h2 hf hh
  subst e1 e2
  have hN1 : (N : Int) ≤ 10 := by omega
  go_enter Tryd.func31, Tryd.ntmps31
  go_upto_region 7 with fail
  have hsz : w.heap.size < (w.alloc (.cells #[.slice a n1 cap, .slice a2 n2 cap2] 35)).heap.size := by simp
  generalize w.alloc (.cells #[.slice a n1 cap, .slice a2 n2 cap2] 35) = W0 at *
  have hM : (2 : Int) ^ N % 4294967296 = ((2 ^ N : Nat) : Int) := by
    have : 2 ^ N ≤ 2 ^ 10 := Nat.pow_le_pow_right (by omega) hN
    rw [show (2 : Int) ^ N = ((2 ^ N : Nat) : Int) by simp]
    generalize 2 ^ N = m at *
    omega
  have hM1 : 2 ^ N ≤ 1024 := Nat.pow_le_pow_right (by omega) hN
  obtain ⟨M, hMe⟩ : ∃ M, 2 ^ N = M := ⟨_, rfl⟩
  rw [hMe] at hM hM1
  have HME := Lib.hid hMe
  have HM := Lib.hid hM
  have HB := Lib.hid hb
  clear hMe hM hb
  have HB0 := Lib.hid b0
  have HB1 := Lib.hid b1
  clear b0 b1
  go_loopw [5, 6] (fun ov cv wr => ∃ k : Nat, k ≤ M ∧ cv = .int .u32 (k : Int) ∧ wr.ownsRow W0.heap.size 29 1 ov (lstN f k).length ((lstN f k).map uc) ∧ Below W0.heap.size W0 wr) (fun _ cv _ => M - (intOf cv).toNat)
  case atStart => exact ⟨0, Nat.zero_le _, rfl, World.ownsRow_nil _ _ _ _, Below.refl _ _⟩
  case round =>
    obtain ⟨k, hk, rfl, hown, hB⟩ := hrel
    have b0 := (hB.cell (p := ⟨w.heap.size, 0, none⟩) hsz).trans HB0.out
    have b1 := (hB.cell (p := ⟨w.heap.size, 1, none⟩) hsz).trans HB1.out
    have HBr := Lib.hid hB
    have HO := Lib.hid hown
    have hlen := lstN_len f k
    clear hB hown
    by_cases hkM : k < M
    · have d1 : decide ((k : Int) < 2 ^ N % 4294967296) = true := by rw [HM.out]; simp; omega
      have hs := lstN_succ f k
      have hc := HH.out k (by omega) wr
      have HR := Lib.hid (fun h => hc h)
      clear hc
      go_wp2_with fail
      refine (HR.out ((Fr.refl nob w).below (HB.out.trans (HBr.out.mono (Nat.le_of_lt hsz))))).mono ?_
      rintro e w2 ⟨rfl, hb2⟩
      have hB2 : Below W0.heap.size W0 w2 := HBr.out.trans (hb2.mono HBr.out.size)
      have hO2 : w2.ownsRow W0.heap.size 29 1 u5 (lstN f k).length ((lstN f k).map uc) := owns_below HO.out hb2
      clear b0 b1 HO HBr hb2 HR d1
      cases hf : f (bitsOf k) with
      | true =>
        rw [hf, if_pos rfl] at hs
        have HS := Lib.hid hs
        clear hs hf
        go_wp2_with (at_builtin; refine wpList_append_own _ rfl _ _ 53 rfl W0.heap.size 29 i0 (.int .u32 0) 1 4 Tryd.underlying53 hi0 hz0 hz1 hz2 rfl (by decide) _ _ _ rfl (hO2.alloc _) ⟨w2.heap.size, 0, none⟩ 1 1 [uc k] rfl rfl ?c1 ?c2 ?c3 ?c4 ?c5 ?_)
        case c1 => exact one_news _ _ _
        case c2 => simp [Value.oneCell']
        case c3 => unfold maxLen; omega
        case c4 => omega
        case c5 => have := hB2.size; simp; omega
        intro v' w3 hown' hgrow _
        have row' : w3.ownsRow W0.heap.size 29 1 v' (lstN f (k + 1)).length ((lstN f (k + 1)).map uc) := by
          rw [HS.out, List.map_append, List.length_append]; exact hown'
        have hB3 : Below W0.heap.size W0 w3 := (hB2.alloc hB2.size _).grown hgrow (by have := hB2.size; simp; omega) (fun j hj => (hO2.lt j hj).1)
        have HR3 := Lib.hid row'
        have HB3 := Lib.hid hB3
        clear hO2 hown' hgrow hB2 row' hB3
        go_wp2_with fail
        refine ⟨⟨k + 1, by omega, by go_num, HR3.out, HB3.out⟩, by simp [intOf]; omega⟩
      | false =>
        rw [hf, if_neg (by simp), List.append_nil] at hs
        have HS := Lib.hid hs
        have HR3 := Lib.hid hO2
        have HB3 := Lib.hid hB2
        clear hs hf hO2 hB2
        go_wp2_with fail
        refine ⟨⟨k + 1, by omega, by go_num, by rw [HS.out]; exact HR3.out, HB3.out⟩, by simp [intOf]; omega⟩
    · have d1 : decide ((k : Int) < 2 ^ N % 4294967296) = false := by rw [HM.out]; simp; omega
      obtain rfl : k = M := by omega
      clear b0 b1
      go_wp2_with fail
      go_ret
      exact ⟨_, rfl, by rw [HME.out]; exact SRow.of_own HO.out, HB.out.trans (HBr.out.mono (Nat.le_of_lt hsz))⟩
set_option maxRecDepth 100000 in
set_option maxHeartbeats 1000000 in
theorem RAll_neg (V : List Nat) (f : Cfg → Bool) (n : Int) (hneg : n < 0) (v : Value) (w : World) (hs : RSet w v V f) : Calls Tryd.prog 31 #[v, .int .i64 n] w fun e w' => ∃ u, e = .returned u ∧ SRow w' u ((lstN f 1).map uc) ∧ Below w.heap.size w w' := by
  obtain ⟨i0, hi0, hz0, hz1, hz2⟩ := info_parts info_u32
  have hh := fun c (hc : c < 2 ^ 32) W (h : Fr nob w W) => RHas_any V f c hc v W (hs.kept h)
  have HH := Lib.hid hh
  obtain ⟨hV, hf, sv, st, rfl, h1, h2⟩ := hs
  obtain ⟨b0, b1⟩ := two_cells' w sv st 35
  have hb : Below w.heap.size w (w.alloc (.cells #[sv, st] 35)) := (Below.refl _ w).alloc (Nat.le_refl _) _
  obtain ⟨a, cap, e1⟩ := h1.form
  obtain ⟨a2, cap2, e2⟩ := h2.form
  generalize (List.map ik V).length = n1 at e1
  generalize (List.map Value.bool (tab V f)).length = n2 at e2
  clear h1 h2 hf hh
  subst e1 e2
  have hN1 : n ≤ 24 := by omega
  go_enter Tryd.func31, Tryd.ntmps31
  go_upto_region 7 with fail
  have hsz : w.heap.size < (w.alloc (.cells #[.slice a n1 cap, .slice a2 n2 cap2] 35)).heap.size := by simp
  generalize w.alloc (.cells #[.slice a n1 cap, .slice a2 n2 cap2] 35) = W0 at *
  obtain ⟨M, hMe⟩ : ∃ M, 1 = M := ⟨_, rfl⟩
  have HME := Lib.hid hMe
  have HB := Lib.hid hb
  clear hMe hb
  have HB0 := Lib.hid b0
  have HB1 := Lib.hid b1
  clear b0 b1
  go_loopw [5, 6] (fun ov cv wr => ∃ k : Nat, k ≤ M ∧ cv = .int .u32 (k : Int) ∧ wr.ownsRow W0.heap.size 29 1 ov (lstN f k).length ((lstN f k).map uc) ∧ Below W0.heap.size W0 wr) (fun _ cv _ => M - (intOf cv).toNat)
  case atStart => exact ⟨0, Nat.zero_le _, rfl, World.ownsRow_nil _ _ _ _, Below.refl _ _⟩
  case round =>
    obtain ⟨k, hk, rfl, hown, hB⟩ := hrel
    have b0 := (hB.cell (p := ⟨w.heap.size, 0, none⟩) hsz).trans HB0.out
    have b1 := (hB.cell (p := ⟨w.heap.size, 1, none⟩) hsz).trans HB1.out
    have HBr := Lib.hid hB
    have HO := Lib.hid hown
    have hlen := lstN_len f k
    clear hB hown
    by_cases hkM : k < M
    · have hM1 := HME.out
      have d1 : decide ((k : Int) < 1) = true := by simp; omega
      have hk0 : k < 2 := by omega
      clear hM1
      have hs := lstN_succ f k
      have hc := HH.out k (by omega) wr
      have HR := Lib.hid (fun h => hc h)
      clear hc
      go_wp2_with fail
      refine (HR.out ((Fr.refl nob w).below (HB.out.trans (HBr.out.mono (Nat.le_of_lt hsz))))).mono ?_
      rintro e w2 ⟨rfl, hb2⟩
      have hB2 : Below W0.heap.size W0 w2 := HBr.out.trans (hb2.mono HBr.out.size)
      have hO2 : w2.ownsRow W0.heap.size 29 1 u5 (lstN f k).length ((lstN f k).map uc) := owns_below HO.out hb2
      clear b0 b1 HO HBr hb2 HR d1
      cases hf : f (bitsOf k) with
      | true =>
        rw [hf, if_pos rfl] at hs
        have HS := Lib.hid hs
        clear hs hf
        go_wp2_with (at_builtin; refine wpList_append_own _ rfl _ _ 53 rfl W0.heap.size 29 i0 (.int .u32 0) 1 4 Tryd.underlying53 hi0 hz0 hz1 hz2 rfl (by decide) _ _ _ rfl (hO2.alloc _) ⟨w2.heap.size, 0, none⟩ 1 1 [uc k] rfl rfl ?c1 ?c2 ?c3 ?c4 ?c5 ?_)
        case c1 => exact one_news _ _ _
        case c2 => simp [Value.oneCell']
        case c3 => unfold maxLen; omega
        case c4 => omega
        case c5 => have := hB2.size; simp; omega
        intro v' w3 hown' hgrow _
        have row' : w3.ownsRow W0.heap.size 29 1 v' (lstN f (k + 1)).length ((lstN f (k + 1)).map uc) := by
          rw [HS.out, List.map_append, List.length_append]; exact hown'
        have hB3 : Below W0.heap.size W0 w3 := (hB2.alloc hB2.size _).grown hgrow (by have := hB2.size; simp; omega) (fun j hj => (hO2.lt j hj).1)
        have HR3 := Lib.hid row'
        have HB3 := Lib.hid hB3
        clear hO2 hown' hgrow hB2 row' hB3
        go_wp2_with fail
        refine ⟨⟨k + 1, by omega, by go_num, HR3.out, HB3.out⟩, by simp [intOf]; omega⟩
      | false =>
        rw [hf, if_neg (by simp), List.append_nil] at hs
        have HS := Lib.hid hs
        have HR3 := Lib.hid hO2
        have HB3 := Lib.hid hB2
        clear hs hf hO2 hB2
        go_wp2_with fail
        refine ⟨⟨k + 1, by omega, by go_num, by rw [HS.out]; exact HR3.out, HB3.out⟩, by simp [intOf]; omega⟩
    · have hM1 := HME.out
      have d1 : decide ((k : Int) < 1) = false := by simp; omega
      have hk1 : 1 ≤ k := by omega
      clear hM1
      obtain rfl : k = M := by omega
      clear b0 b1
      go_wp2_with fail
      go_ret
      exact ⟨_, rfl, by rw [HME.out]; exact SRow.of_own HO.out, HB.out.trans (HBr.out.mono (Nat.le_of_lt hsz))⟩
theorem RAll_any (V : List Nat) (f : Cfg → Bool) (n : Int) (hn : n ≤ 10) (v : Value) (w : World) (hs : RSet w v V f) : Calls Tryd.prog 31 #[v, .int .i64 n] w fun e w' => ∃ u, e = .returned u ∧ SRow w' u ((lstN f (2 ^ n.toNat)).map uc) ∧ Below w.heap.size w w' := by
  by_cases h : n < 0
  · have e : n.toNat = 0 := by omega
    rw [e]
    exact RAll_neg V f n h v w hs
  · obtain ⟨N, rfl⟩ : ∃ N : Nat, n = N := ⟨n.toNat, by omega⟩
    exact RAll_nat V f N (by omega) v w hs
end Go.Proofs.YtiainlccodnlmaaDoor
