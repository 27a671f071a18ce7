/- The reference's reader: choice. -/
import Derived.Test.YtbjdaibkcchllaaQp6
namespace Go.Proofs.Ytbjdaibkcchllaa
open Go.RowKit

theorem imp_bd {L : List (Nat × List UInt8)} {n i : Nat} {b : Bool} {x : Tr × Nat × Bool} (h : impliesR L n i b = some x) (hn : 10 * (L.length - i) + 6 ≤ n) (hi : i ≤ L.length) : i ≤ x.2.1 ∧ x.2.1 ≤ L.length := by
  obtain ⟨y, hy, h1, h2⟩ := (enough L n).2.2.2.1 i b hn
  rw [h] at hy
  obtain rfl := Option.some.inj hy
  exact ⟨h1, by omega⟩
theorem choice_bd {L : List (Nat × List UInt8)} {n i : Nat} {b : Bool} {x : Tr × Nat × Bool} (h : choiceR L n i b = some x) (hn : 10 * (L.length - i) + 7 ≤ n) (hi : i ≤ L.length) : i ≤ x.2.1 ∧ x.2.1 ≤ L.length := by
  obtain ⟨y, hy, h1, h2⟩ := (enough L n).2.2.2.2.2 i b hn
  rw [h] at hy
  obtain rfl := Option.some.inj hy
  exact ⟨h1, by omega⟩
set_option maxRecDepth 20000 in
set_option maxHeartbeats 8000000 in
theorem rd_choice (L : List (Nat × List UInt8)) (hLL : L.length ≤ 1000000) (n : Nat) (ihI : ∀ m, m ≤ n → ImpC L m) (ihC : ChoiceR L n) : ChoiceR L (n + 1) := by
  intro i b v S w x hx hn hi hS hT
  rw [choiceR] at hx
  obtain ⟨x1, hx1, hx2⟩ := Option.bind_eq_some_iff.1 hx
  obtain ⟨x3, hx3, hx4⟩ := Option.bind_eq_some_iff.1 hx2
  clear hx hx2
  have hb1 := imp_bd hx1 (by omega) hi
  have hT0 := hT
  obtain ⟨a, cp, rfl, _⟩ := hT0
  obtain ⟨nl, hnl⟩ : ∃ nl, L.length = nl := ⟨_, rfl⟩
  rw [hnl] at hT ⊢
  obtain ⟨W1, hW1⟩ : ∃ W1, ((w.alloc (.cells #[.slice a nl cp, .int .i64 (i : Int), .bool b] 76)).alloc (.cells #[.int .u8 0, .string ⟨#[]⟩, .slice none 0 0] 25)).alloc (.cells #[.slice none 0 0, .int .i64 0, .bool false] 76) = W1 := ⟨_, rfl⟩
  have H1 := (((St.start hT hS).alloc (.slice a nl cp) (.int .i64 (i : Int)) (.bool b) 76).alloc (.int .u8 0) (.string ⟨#[]⟩) (.slice none 0 0) 25).alloc (.slice none 0 0) (.int .i64 0) (.bool false) 76
  rw [hW1, World.size_alloc, World.size_alloc] at H1
  have hI := ihI n (Nat.le_refl _) i b _ S W1 x1 hx1 (by omega) hi H1.lt H1.tok
  unfold RdPost rdV at hI
  have HH1 := Lib.hid H1
  have HB1 := Lib.hid hb1
  have HX3 := Lib.hid hx3
  have HX4 := Lib.hid hx4
  have HI := Lib.hid hi
  have HNN := Lib.hid hn
  have HII := Lib.hid ihI
  have HIC := Lib.hid ihC
  have HLL := Lib.hid hLL
  have ⟨b0, b1, b2, _⟩ := H1.at 2 rfl
  clear hx1 hx3 hx4 hb1 hi hn ihI ihC hS hLL hT H1 hnl
  unfold rdV
  go_enter Try.func45, Try.ntmps45
  go_upto_region 1 with fail
  (try rw [hW1])
  clear hW1
  go_wp2_with fail
  refine hI.mono ?_
  rintro e w2 ⟨v2, rfl, hT2, F2⟩
  obtain ⟨o2, nm2, a2, n2, c2, rfl⟩ := hT2.form
  obtain ⟨t1, j1, f1⟩ := x1
  dsimp only at hT2
  have HA := (HH1.out.ret F2 hT2).alloc (.int .u8 (o2 : Int)) (.string (txt nm2)) (.slice a2 n2 c2) 25
  have ⟨sx0, sx1, sx2, sxf⟩ := (HA).at 3 rfl
  have sxf0 := sxf 0
  have sxf1 := sxf 1
  have sxf2 := sxf 2
  clear sxf
  have HHS := Lib.hid (HA.set 3 rfl (.slice a nl cp) (.int .i64 (j1 : Int)) (.bool f1))
  clear HA HH1 hI b0 b1 b2 hT2 F2
  go_upto_region 2 with fail
  generalize ((((w2.alloc (.cells #[.int .u8 (o2 : Int), .string (txt nm2), .slice a2 n2 c2] 25)).setCell ⟨w.heap.size, 0, none⟩ (.slice a nl cp)).setCell ⟨w.heap.size, 1, none⟩ (.int .i64 (j1 : Int))).setCell ⟨w.heap.size, 2, none⟩ (.bool f1)) = w4 at *
  clear sx0 sx1 sx2 sxf0 sxf1 sxf2
  have HH4 := Lib.hid HHS.out
  clear HHS
  have hK : Calls Try.prog 83 #[.agg #[.slice a nl cp, .int .i64 (j1 : Int), .bool f1], .string ⟨#[60, 61, 62]⟩] w4 _ := skip_any [60, 61, 62] L j1 f1 _ S w4 (by have h1 : j1 ≤ L.length := HB1.out.2; have h2 := HLL.out; omega) HH4.out.tok
  have ⟨b0, b1, b2, bf⟩ := (HH4.out).at 3 rfl
  clear bf
  cases hsk : skipP L [60, 61, 62] j1 f1 with
  | false =>
    rw [hsk, if_neg (by decide)] at hK
    unfold rdV at hK
    have h3 : x3 = (t1, j1, f1) := by
      have h := HX3.out
      cases n with
      | zero => rw [sameR] at h; cases h
      | succ m =>
        rw [sameR] at h
        dsimp only at h
        rw [hsk, if_neg (by decide)] at h
        exact (Option.some.inj h).symm
    subst h3
    clear hsk HX3
    go_wp2_with fail
    refine hK.mono ?_
    rintro e w5 ⟨rfl, F5⟩
    have HHA := Lib.hid ((HH4.out.call F5).alloc (.slice a nl cp) (.int .i64 (j1 : Int)) (.bool f1) 76)
    clear hK F5 HH4 b0 b1 b2
    go_upto_region 6 with fail
    generalize w5.alloc (.cells #[.slice a nl cp, .int .i64 (j1 : Int), .bool f1] 76) = w9 at *
    have H9 := HHA.out
    clear HHA
    have HH6 := Lib.hid H9
    clear H9
    have hbx : i ≤ j1 ∧ j1 ≤ L.length := HB1.out
    have HBX := Lib.hid hbx
    clear hbx
    have hK : Calls Try.prog 83 #[.agg #[.slice a nl cp, .int .i64 (j1 : Int), .bool f1], .string ⟨#[63]⟩] w9 _ := skip_any [63] L j1 f1 _ S w9 (by have h1 := HBX.out.2; have h2 := HLL.out; omega) HH6.out.tok
    have ⟨b0, b1, b2, bf⟩ := (HH6.out).at 4 rfl
    clear bf
    cases hsk : skipP L [63] j1 f1 with
    | false =>
      rw [hsk, if_neg (by decide)] at hK
      unfold rdV at hK
      have hx := HX4.out
      (try dsimp only at hx)
      rw [hsk, if_neg (by decide)] at hx
      obtain rfl := Option.some.inj hx
      clear hsk hx
      go_wp2_with fail
      refine hK.mono ?_
      rintro e w10 ⟨rfl, F10⟩
      have HA := HH6.out.call F10
      have ⟨sx0, sx1, sx2, sxf⟩ := (HA).at 0 rfl
      have sxf0 := sxf 0
      have sxf1 := sxf 1
      have sxf2 := sxf 2
      clear sxf
      have HHS := Lib.hid (HA.set 0 rfl (.slice a nl cp) (.int .i64 (j1 : Int)) (.bool f1))
      clear HA HH6 hK F10 b0 b1 b2
      go_upto_region 8 with fail
      generalize (((w10.setCell ⟨w5.heap.size, 0, none⟩ (.slice a nl cp)).setCell ⟨w5.heap.size, 1, none⟩ (.int .i64 (j1 : Int))).setCell ⟨w5.heap.size, 2, none⟩ (.bool f1)) = w11 at *
      have H := HHS.out
      clear HHS sx0 sx1 sx2 sxf0 sxf1 sxf2
      have ⟨p00, p01, p02, p0f⟩ := (H).at 1 rfl
      clear p0f
      have ⟨p10, p11, p12, p1f⟩ := (H).at 4 rfl
      clear p1f
      have ⟨p20, p21, p22, p2f⟩ := (H).at 3 rfl
      have p2f0 := p2f 0
      have p2f1 := p2f 1
      have p2f2 := p2f 2
      clear p2f
      have ⟨p30, p31, p32, p3f⟩ := (H).at 2 rfl
      have p3f0 := p3f 0
      have p3f1 := p3f 1
      have p3f2 := p3f 2
      clear p3f
      have ⟨q00, q01, q02, q0f⟩ := (H.drew).at 1 rfl
      clear q0f
      have ⟨q10, q11, q12, q1f⟩ := (H.drew).at 4 rfl
      clear q1f
      have ⟨q20, q21, q22, q2f⟩ := (H.drew).at 3 rfl
      have q2f0 := q2f 0
      have q2f1 := q2f 1
      have q2f2 := q2f 2
      clear q2f
      have ⟨q30, q31, q32, q3f⟩ := (H.drew).at 2 rfl
      have q3f0 := q3f 0
      have q3f1 := q3f 1
      have q3f2 := q3f 2
      clear q3f
      have lt0 : w.heap.size + 1 < w2.heap.size := H.apart 1 3 _ _ (by decide) rfl rfl
      have ne00 : ¬ w2.heap.size = w.heap.size + 1 := by omega
      have en00 : ¬ w.heap.size + 1 = w2.heap.size := by omega
      clear lt0
      have lt1 : w.heap.size + 1 + 1 < w2.heap.size := H.apart 1 2 _ _ (by decide) rfl rfl
      have ne10 : ¬ w2.heap.size = w.heap.size + 1 + 1 := by omega
      have en10 : ¬ w.heap.size + 1 + 1 = w2.heap.size := by omega
      clear lt1
      have lt2 : w.heap.size < w.heap.size + 1 := H.apart 3 4 _ _ (by decide) rfl rfl
      have ne20 : ¬ w.heap.size + 1 = w.heap.size := by omega
      have en20 : ¬ w.heap.size = w.heap.size + 1 := by omega
      clear lt2
      have lt3 : w.heap.size < w.heap.size + 1 + 1 := H.apart 2 4 _ _ (by decide) rfl rfl
      have ne30 : ¬ w.heap.size + 1 + 1 = w.heap.size := by omega
      have en30 : ¬ w.heap.size = w.heap.size + 1 + 1 := by omega
      clear lt3
      have lt4 : w.heap.size + 1 < w.heap.size + 1 + 1 := H.apart 2 3 _ _ (by decide) rfl rfl
      have ne40 : ¬ w.heap.size + 1 + 1 = w.heap.size + 1 := by omega
      have en40 : ¬ w.heap.size + 1 = w.heap.size + 1 + 1 := by omega
      have ne41 : ¬ w.heap.size + 1 = w.heap.size := by omega
      have en41 : ¬ w.heap.size = w.heap.size + 1 := by omega
      clear lt4
      go_region
      clear p00 p01 p02 p10 p11 p12 p20 p21 p22 p2f0 p2f1 p2f2 p30 p31 p32 p3f0 p3f1 p3f2 q00 q01 q02 q10 q11 q12 q20 q21 q22 q2f0 q2f1 q2f2 q30 q31 q32 q3f0 q3f1 q3f2 ne00 en00 ne10 en10 ne20 en20 ne30 en30 ne40 en40 ne41 en41
      have HW := ((H.set 3 rfl (.int .u8 (o2 : Int)) (.string (txt nm2)) (.slice a2 n2 c2)).set 2 rfl (.slice a nl cp) (.int .i64 (j1 : Int)) (.bool f1)).drew
      generalize ((((((w11.setCell ⟨w.heap.size + 1, 0, none⟩ (.int .u8 (o2 : Int))).setCell ⟨w.heap.size + 1, 1, none⟩ (.string (txt nm2))).setCell ⟨w.heap.size + 1, 2, none⟩ (.slice a2 n2 c2)).setCell ⟨w.heap.size + 1 + 1, 0, none⟩ (.slice a nl cp)).setCell ⟨w.heap.size + 1 + 1, 1, none⟩ (.int .i64 (j1 : Int))).setCell ⟨w.heap.size + 1 + 1, 2, none⟩ (.bool f1)) = w99 at *
      have ⟨rx0, rx1, rx2, rxf⟩ := (HW).at 3 rfl
      clear rxf
      have ⟨ry0, ry1, ry2, ryf⟩ := (HW).at 2 rfl
      clear ryf
      have hdone := HW.done 0 rfl
      have hfr := HW.fr
      clear HW
      go_wp2_with fail
      exact bodyPost_ret (v := .tuple #[.agg #[.int .u8 (o2 : Int), .string (txt nm2), .slice a2 n2 c2], .agg #[.slice a nl cp, .int .i64 (j1 : Int), .bool f1]]) (by simp [results, Try.results45, go_sem, rx0, rx1, rx2, ry0, ry1, ry2]) rfl ⟨_, rfl, hdone, hfr⟩
    | true =>
      have hlt : j1 < L.length := skip_lt (by decide) hsk
      rw [hsk, if_pos rfl] at hK
      unfold rdV at hK
      have hx := HX4.out
      (try dsimp only at hx)
      rw [hsk, if_pos rfl] at hx
      obtain ⟨y, hy, hx5⟩ := Option.bind_eq_some_iff.1 hx
      have hby := choice_bd hy (by have h1 := HBX.out.1; have h2 := HNN.out; omega) (by omega)
      have HY := Lib.hid (And.intro hy (And.intro hby hlt))
      have HX5 := Lib.hid hx5
      clear hsk hx hy hx5 hby hlt
      go_wp2_with fail
      refine hK.mono ?_
      rintro e w10 ⟨rfl, F10⟩
      have HA := HH6.out.call F10
      have ⟨sx0, sx1, sx2, sxf⟩ := (HA).at 0 rfl
      have sxf0 := sxf 0
      have sxf1 := sxf 1
      have sxf2 := sxf 2
      clear sxf
      have HHS := Lib.hid (HA.set 0 rfl (.slice a nl cp) (.int .i64 ((j1 : Int) + 1)) (.bool f1))
      clear HA HH6 hK F10 b0 b1 b2
      go_upto_region 9 with fail
      generalize (((w10.setCell ⟨w5.heap.size, 0, none⟩ (.slice a nl cp)).setCell ⟨w5.heap.size, 1, none⟩ (.int .i64 ((j1 : Int) + 1))).setCell ⟨w5.heap.size, 2, none⟩ (.bool f1)) = w11 at *
      have H11 := HHS.out
      clear HHS sx0 sx1 sx2 sxf0 sxf1 sxf2
      have ⟨b0, b1, b2, bf⟩ := (H11).at 0 rfl
      clear bf
      have hCh := HIC.out (j1 + 1) f1 _ S w11 y HY.out.1 (by have h1 := HBX.out.1; have h2 := HNN.out; have h3 := HY.out.2.2; omega) (by have h3 := HY.out.2.2; omega) H11.lt H11.tok
      unfold RdPost rdV at hCh
      rw [show ((j1 + 1 : Nat) : Int) = (j1 : Int) + 1 from rfl] at hCh
      have HH11 := Lib.hid H11
      clear H11
      go_wp2_with fail
      refine hCh.mono ?_
      rintro e w12 ⟨v12, rfl, hT12, F12⟩
      obtain ⟨o12, nm12, a12, n12, c12, rfl⟩ := hT12.form
      obtain ⟨t12, j12, f12⟩ := y
      dsimp only at hT12
      have HA := (HH11.out.ret F12 hT12).alloc (.int .u8 (o12 : Int)) (.string (txt nm12)) (.slice a12 n12 c12) 25
      have ⟨sx0, sx1, sx2, sxf⟩ := (HA).at 5 rfl
      have sxf0 := sxf 0
      have sxf1 := sxf 1
      have sxf2 := sxf 2
      clear sxf
      have HHS := Lib.hid (HA.set 5 rfl (.slice a nl cp) (.int .i64 (j12 : Int)) (.bool f12))
      clear HA HH11 hCh b0 b1 b2 hT12 F12
      go_upto_region 10 with fail
      generalize ((((w12.alloc (.cells #[.int .u8 (o12 : Int), .string (txt nm12), .slice a12 n12 c12] 25)).setCell ⟨w.heap.size, 0, none⟩ (.slice a nl cp)).setCell ⟨w.heap.size, 1, none⟩ (.int .i64 (j12 : Int))).setCell ⟨w.heap.size, 2, none⟩ (.bool f12)) = w14 at *
      clear sx0 sx1 sx2 sxf0 sxf1 sxf2
      have HH14 := Lib.hid HHS.out
      clear HHS
      have hbx : j12 ≤ L.length := HY.out.2.1.2
      have HB12 := Lib.hid hbx
      clear hbx
      have hK : Calls Try.prog 83 #[.agg #[.slice a nl cp, .int .i64 (j12 : Int), .bool f12], .string ⟨#[58]⟩] w14 _ := skip_any [58] L j12 f12 _ S w14 (by have h1 := HB12.out; have h2 := HLL.out; omega) HH14.out.tok
      have ⟨b0, b1, b2, bf⟩ := (HH14.out).at 5 rfl
      clear bf
      cases hsk : skipP L [58] j12 f12 with
      | false =>
        rw [hsk, if_neg (by decide)] at hK
        unfold rdV at hK
        have hx := HX5.out
        (try dsimp only at hx)
        rw [hsk, if_neg (by decide)] at hx
        obtain rfl := Option.some.inj hx
        clear hsk hx
        go_wp2_with fail
        refine hK.mono ?_
        rintro e w15 ⟨rfl, F15⟩
        have HA := HH14.out.call F15
        have ⟨sx0, sx1, sx2, sxf⟩ := (HA).at 1 rfl
        have sxf0 := sxf 0
        have sxf1 := sxf 1
        have sxf2 := sxf 2
        clear sxf
        have HHS := Lib.hid (HA.set 1 rfl (.slice a nl cp) (.int .i64 (j12 : Int)) (.bool f12))
        clear HA HH14 hK F15 b0 b1 b2
        go_upto_region 12 with fail
        generalize (((w15.setCell ⟨w5.heap.size, 0, none⟩ (.slice a nl cp)).setCell ⟨w5.heap.size, 1, none⟩ (.int .i64 (j12 : Int))).setCell ⟨w5.heap.size, 2, none⟩ (.bool f12)) = w16 at *
        have H := HHS.out
        clear HHS sx0 sx1 sx2 sxf0 sxf1 sxf2
        have hB : ∀ W : World, Calls Try.prog 84 #[.agg #[.slice a nl cp, .int .i64 (j12 : Int), .bool f12]] W fun e w' => e = .returned (.agg #[.slice a nl cp, .int .i64 (j12 : Int), .bool true]) ∧ Fr nob W w' := fun W => bad_any j12 f12 (.slice a nl cp) ⟨_, _, _, rfl⟩ W
        have HHZ := Lib.hid H
        clear H
        have ⟨p00, p01, p02, p0f⟩ := (HHZ.out).at 2 rfl
        clear p0f
        have ⟨p10, p11, p12, p1f⟩ := (HHZ.out).at 5 rfl
        clear p1f
        have ⟨p20, p21, p22, p2f⟩ := (HHZ.out).at 4 rfl
        have p2f0 := p2f 0
        have p2f1 := p2f 1
        have p2f2 := p2f 2
        clear p2f
        have ⟨p30, p31, p32, p3f⟩ := (HHZ.out).at 3 rfl
        have p3f0 := p3f 0
        have p3f1 := p3f 1
        have p3f2 := p3f 2
        clear p3f
        have ⟨q00, q01, q02, q0f⟩ := (HHZ.out.drew).at 2 rfl
        clear q0f
        have ⟨q10, q11, q12, q1f⟩ := (HHZ.out.drew).at 5 rfl
        clear q1f
        have ⟨q20, q21, q22, q2f⟩ := (HHZ.out.drew).at 4 rfl
        have q2f0 := q2f 0
        have q2f1 := q2f 1
        have q2f2 := q2f 2
        clear q2f
        have ⟨q30, q31, q32, q3f⟩ := (HHZ.out.drew).at 3 rfl
        have q3f0 := q3f 0
        have q3f1 := q3f 1
        have q3f2 := q3f 2
        clear q3f
        have lt0 : w.heap.size + 1 < w2.heap.size := HHZ.out.apart 2 4 _ _ (by decide) rfl rfl
        have ne00 : ¬ w2.heap.size = w.heap.size + 1 := by omega
        have en00 : ¬ w.heap.size + 1 = w2.heap.size := by omega
        clear lt0
        have lt1 : w.heap.size + 1 + 1 < w2.heap.size := HHZ.out.apart 2 3 _ _ (by decide) rfl rfl
        have ne10 : ¬ w2.heap.size = w.heap.size + 1 + 1 := by omega
        have en10 : ¬ w.heap.size + 1 + 1 = w2.heap.size := by omega
        clear lt1
        have lt2 : w.heap.size < w.heap.size + 1 := HHZ.out.apart 4 5 _ _ (by decide) rfl rfl
        have ne20 : ¬ w.heap.size + 1 = w.heap.size := by omega
        have en20 : ¬ w.heap.size = w.heap.size + 1 := by omega
        clear lt2
        have lt3 : w.heap.size < w.heap.size + 1 + 1 := HHZ.out.apart 3 5 _ _ (by decide) rfl rfl
        have ne30 : ¬ w.heap.size + 1 + 1 = w.heap.size := by omega
        have en30 : ¬ w.heap.size = w.heap.size + 1 + 1 := by omega
        clear lt3
        have lt4 : w.heap.size + 1 < w.heap.size + 1 + 1 := HHZ.out.apart 3 4 _ _ (by decide) rfl rfl
        have ne40 : ¬ w.heap.size + 1 + 1 = w.heap.size + 1 := by omega
        have en40 : ¬ w.heap.size + 1 = w.heap.size + 1 + 1 := by omega
        have ne41 : ¬ w.heap.size + 1 = w.heap.size := by omega
        have en41 : ¬ w.heap.size = w.heap.size + 1 := by omega
        clear lt4
        go_region_with (first
          | (go_at_call 84
             (with_reducible refine (hB _).mono ?_)
             rintro e w90 ⟨rfl, F9⟩
             (first
               | (have HD := HHZ.out.drew.call F9)
               | (have HD := (HHZ.out.set 4 rfl (.int .u8 (o2 : Int)) (.string (txt nm2)) (.slice a2 n2 c2)).drew.call F9))
             have ⟨ya0, ya1, ya2, yaf⟩ := HD.at 4 rfl
             have ⟨za0, za1, za2, zaf⟩ := HD.at 3 rfl
             have ⟨ea0, ea1, ea2, _⟩ := HD.at 2 rfl
             have yaf0 := yaf 0
             have yaf1 := yaf 1
             have yaf2 := yaf 2
             have zaf0 := zaf 0
             have zaf1 := zaf 1
             have zaf2 := zaf 2
             have HHD := Lib.hid HD
             clear HD yaf zaf))
        all_goals (
          have HW := (HHD.out.set 4 rfl (.int .u8 (o2 : Int)) (.string (txt nm2)) (.slice a2 n2 c2)).set 3 rfl (.slice a nl cp) (.int .i64 (j12 : Int)) (.bool true)
          clear HHD hB F9 ya0 ya1 ya2 yaf0 yaf1 yaf2 za0 za1 za2 zaf0 zaf1 zaf2 ea0 ea1 ea2 p00 p01 p02 p10 p11 p12 p20 p21 p22 p2f0 p2f1 p2f2 p30 p31 p32 p3f0 p3f1 p3f2 q00 q01 q02 q10 q11 q12 q20 q21 q22 q2f0 q2f1 q2f2 q30 q31 q32 q3f0 q3f1 q3f2 ne00 en00 ne10 en10 ne20 en20 ne30 en30 ne40 en40 ne41 en41
          generalize ((((((w90.setCell ⟨w.heap.size + 1, 0, none⟩ (.int .u8 (o2 : Int))).setCell ⟨w.heap.size + 1, 1, none⟩ (.string (txt nm2))).setCell ⟨w.heap.size + 1, 2, none⟩ (.slice a2 n2 c2)).setCell ⟨w.heap.size + 1 + 1, 0, none⟩ (.slice a nl cp)).setCell ⟨w.heap.size + 1 + 1, 1, none⟩ (.int .i64 (j12 : Int))).setCell ⟨w.heap.size + 1 + 1, 2, none⟩ (.bool true)) = w99 at *
          have ⟨rx0, rx1, rx2, rxf⟩ := (HW).at 4 rfl
          clear rxf
          have ⟨ry0, ry1, ry2, ryf⟩ := (HW).at 3 rfl
          clear ryf
          have hdone := HW.done 1 rfl
          have hfr := HW.fr
          clear HW
          go_wp2_with fail
          exact bodyPost_ret (v := .tuple #[.agg #[.int .u8 (o2 : Int), .string (txt nm2), .slice a2 n2 c2], .agg #[.slice a nl cp, .int .i64 (j12 : Int), .bool true]]) (by simp [results, Try.results45, go_sem, rx0, rx1, rx2, ry0, ry1, ry2]) rfl ⟨_, rfl, hdone, hfr⟩)
      | true =>
        have hlt : j12 < L.length := skip_lt (by decide) hsk
        rw [hsk, if_pos rfl] at hK
        unfold rdV at hK
        have hx := HX5.out
        (try dsimp only at hx)
        rw [hsk, if_pos rfl] at hx
        obtain ⟨z, hz, hx6⟩ := Option.map_eq_some_iff.1 hx
        subst hx6
        have HZ := Lib.hid (And.intro hz hlt)
        clear hsk hx hz hlt
        go_wp2_with fail
        refine hK.mono ?_
        rintro e w15 ⟨rfl, F15⟩
        have HA := HH14.out.call F15
        have ⟨sx0, sx1, sx2, sxf⟩ := (HA).at 1 rfl
        have sxf0 := sxf 0
        have sxf1 := sxf 1
        have sxf2 := sxf 2
        clear sxf
        have HHS := Lib.hid (HA.set 1 rfl (.slice a nl cp) (.int .i64 ((j12 : Int) + 1)) (.bool f12))
        clear HA HH14 hK F15 b0 b1 b2
        go_upto_region 13 with fail
        generalize (((w15.setCell ⟨w5.heap.size, 0, none⟩ (.slice a nl cp)).setCell ⟨w5.heap.size, 1, none⟩ (.int .i64 ((j12 : Int) + 1))).setCell ⟨w5.heap.size, 2, none⟩ (.bool f12)) = w16 at *
        have H16 := HHS.out
        clear HHS sx0 sx1 sx2 sxf0 sxf1 sxf2
        have ⟨b0, b1, b2, bf⟩ := (H16).at 1 rfl
        clear bf
        have hCh := HIC.out (j12 + 1) f12 _ S w16 z HZ.out.1 (by have h1 := HBX.out.1; have h2 := HNN.out; have h3 := HZ.out.2; have h4 := HY.out.2.1.1; (try dsimp only at h4); omega) (by have h3 := HZ.out.2; omega) H16.lt H16.tok
        unfold RdPost rdV at hCh
        rw [show ((j12 + 1 : Nat) : Int) = (j12 : Int) + 1 from rfl] at hCh
        have HH16 := Lib.hid H16
        clear H16
        go_wp2_with fail
        refine hCh.mono ?_
        rintro e w17 ⟨v17, rfl, hT17, F17⟩
        obtain ⟨o17, nm17, a17, n17, c17, rfl⟩ := hT17.form
        obtain ⟨t17, j17, f17⟩ := z
        dsimp only at hT17
        have HA := (HH16.out.ret F17 hT17).alloc (.int .u8 (o17 : Int)) (.string (txt nm17)) (.slice a17 n17 c17) 25
        have ⟨sx0, sx1, sx2, sxf⟩ := (HA).at 6 rfl
        have sxf0 := sxf 0
        have sxf1 := sxf 1
        have sxf2 := sxf 2
        clear sxf
        have HHS := Lib.hid (HA.set 6 rfl (.slice a nl cp) (.int .i64 (j17 : Int)) (.bool f17))
        clear HA HH16 hCh b0 b1 b2 hT17 F17
        go_upto_region 14 with fail
        generalize ((((w17.alloc (.cells #[.int .u8 (o17 : Int), .string (txt nm17), .slice a17 n17 c17] 25)).setCell ⟨w.heap.size, 0, none⟩ (.slice a nl cp)).setCell ⟨w.heap.size, 1, none⟩ (.int .i64 (j17 : Int))).setCell ⟨w.heap.size, 2, none⟩ (.bool f17)) = w18 at *
        clear sx0 sx1 sx2 sxf0 sxf1 sxf2
        have H := HHS.out
        clear HHS
        obtain ⟨A, hA⟩ : ∃ A : Array Value, A = #[.int .u8 (o2 : Int), .string (txt nm2), .slice a2 n2 c2, .int .u8 (o12 : Int), .string (txt nm12), .slice a12 n12 c12, .int .u8 (o17 : Int), .string (txt nm17), .slice a17 n17 c17] := ⟨_, rfl⟩
        have HA := H.call ((Fr.refl nob w18).alloc (.cells A 25))
        have ⟨p00, p01, p02, p0f⟩ := (H).at 3 rfl
        clear p0f
        have ⟨p10, p11, p12, p1f⟩ := (H).at 1 rfl
        clear p1f
        have ⟨p20, p21, p22, p2f⟩ := (H).at 0 rfl
        clear p2f
        have ⟨p30, p31, p32, p3f⟩ := (H).at 6 rfl
        clear p3f
        have ⟨p40, p41, p42, p4f⟩ := (H).at 5 rfl
        have p4f0 := p4f 0
        have p4f1 := p4f 1
        have p4f2 := p4f 2
        clear p4f
        have ⟨p50, p51, p52, p5f⟩ := (H).at 4 rfl
        have p5f0 := p5f 0
        have p5f1 := p5f 1
        have p5f2 := p5f 2
        clear p5f
        have ⟨q00, q01, q02, q0f⟩ := (H.drew).at 3 rfl
        clear q0f
        have ⟨q10, q11, q12, q1f⟩ := (H.drew).at 1 rfl
        clear q1f
        have ⟨q20, q21, q22, q2f⟩ := (H.drew).at 0 rfl
        clear q2f
        have ⟨q30, q31, q32, q3f⟩ := (H.drew).at 6 rfl
        clear q3f
        have ⟨q40, q41, q42, q4f⟩ := (H.drew).at 5 rfl
        have q4f0 := q4f 0
        have q4f1 := q4f 1
        have q4f2 := q4f 2
        clear q4f
        have ⟨q50, q51, q52, q5f⟩ := (H.drew).at 4 rfl
        have q5f0 := q5f 0
        have q5f1 := q5f 1
        have q5f2 := q5f 2
        clear q5f
        have ⟨u00, u01, u02, u0f⟩ := (HA).at 3 rfl
        clear u0f
        have ⟨u10, u11, u12, u1f⟩ := (HA).at 1 rfl
        clear u1f
        have ⟨u20, u21, u22, u2f⟩ := (HA).at 0 rfl
        clear u2f
        have ⟨u30, u31, u32, u3f⟩ := (HA).at 6 rfl
        clear u3f
        have ⟨u40, u41, u42, u4f⟩ := (HA).at 5 rfl
        have u4f0 := u4f 0
        have u4f1 := u4f 1
        have u4f2 := u4f 2
        clear u4f
        have ⟨u50, u51, u52, u5f⟩ := (HA).at 4 rfl
        have u5f0 := u5f 0
        have u5f1 := u5f 1
        have u5f2 := u5f 2
        clear u5f
        have ⟨x00, x01, x02, x0f⟩ := (HA.drew).at 3 rfl
        clear x0f
        have ⟨x10, x11, x12, x1f⟩ := (HA.drew).at 1 rfl
        clear x1f
        have ⟨x20, x21, x22, x2f⟩ := (HA.drew).at 0 rfl
        clear x2f
        have ⟨x30, x31, x32, x3f⟩ := (HA.drew).at 6 rfl
        clear x3f
        have ⟨x40, x41, x42, x4f⟩ := (HA.drew).at 5 rfl
        have x4f0 := x4f 0
        have x4f1 := x4f 1
        have x4f2 := x4f 2
        clear x4f
        have ⟨x50, x51, x52, x5f⟩ := (HA.drew).at 4 rfl
        have x5f0 := x5f 0
        have x5f1 := x5f 1
        have x5f2 := x5f 2
        clear x5f
        have lt0 : w.heap.size + 1 < w2.heap.size := H.apart 3 5 _ _ (by decide) rfl rfl
        have ne00 : ¬ w2.heap.size = w.heap.size + 1 := by omega
        have en00 : ¬ w.heap.size + 1 = w2.heap.size := by omega
        clear lt0
        have lt1 : w.heap.size + 1 + 1 < w2.heap.size := H.apart 3 4 _ _ (by decide) rfl rfl
        have ne10 : ¬ w2.heap.size = w.heap.size + 1 + 1 := by omega
        have en10 : ¬ w.heap.size + 1 + 1 = w2.heap.size := by omega
        clear lt1
        have lt2 : w.heap.size + 1 < w12.heap.size := H.apart 1 5 _ _ (by decide) rfl rfl
        have ne20 : ¬ w12.heap.size = w.heap.size + 1 := by omega
        have en20 : ¬ w.heap.size + 1 = w12.heap.size := by omega
        clear lt2
        have lt3 : w.heap.size + 1 + 1 < w12.heap.size := H.apart 1 4 _ _ (by decide) rfl rfl
        have ne30 : ¬ w12.heap.size = w.heap.size + 1 + 1 := by omega
        have en30 : ¬ w.heap.size + 1 + 1 = w12.heap.size := by omega
        clear lt3
        have lt4 : w.heap.size + 1 < w17.heap.size := H.apart 0 5 _ _ (by decide) rfl rfl
        have ne40 : ¬ w17.heap.size = w.heap.size + 1 := by omega
        have en40 : ¬ w.heap.size + 1 = w17.heap.size := by omega
        clear lt4
        have lt5 : w.heap.size + 1 + 1 < w17.heap.size := H.apart 0 4 _ _ (by decide) rfl rfl
        have ne50 : ¬ w17.heap.size = w.heap.size + 1 + 1 := by omega
        have en50 : ¬ w.heap.size + 1 + 1 = w17.heap.size := by omega
        clear lt5
        have lt6 : w.heap.size < w.heap.size + 1 := H.apart 5 6 _ _ (by decide) rfl rfl
        have ne60 : ¬ w.heap.size + 1 = w.heap.size := by omega
        have en60 : ¬ w.heap.size = w.heap.size + 1 := by omega
        clear lt6
        have lt7 : w.heap.size < w.heap.size + 1 + 1 := H.apart 4 6 _ _ (by decide) rfl rfl
        have ne70 : ¬ w.heap.size + 1 + 1 = w.heap.size := by omega
        have en70 : ¬ w.heap.size = w.heap.size + 1 + 1 := by omega
        clear lt7
        have lt8 : w.heap.size + 1 < w.heap.size + 1 + 1 := H.apart 4 5 _ _ (by decide) rfl rfl
        have ne80 : ¬ w.heap.size + 1 + 1 = w.heap.size + 1 := by omega
        have en80 : ¬ w.heap.size + 1 = w.heap.size + 1 + 1 := by omega
        have ne81 : ¬ w.heap.size + 1 = w.heap.size := by omega
        have en81 : ¬ w.heap.size = w.heap.size + 1 := by omega
        clear lt8
        clear HA
        subst hA
        go_region
        clear p00 p01 p02 p10 p11 p12 p20 p21 p22 p30 p31 p32 p40 p41 p42 p4f0 p4f1 p4f2 p50 p51 p52 p5f0 p5f1 p5f2 q00 q01 q02 q10 q11 q12 q20 q21 q22 q30 q31 q32 q40 q41 q42 q4f0 q4f1 q4f2 q50 q51 q52 q5f0 q5f1 q5f2 u00 u01 u02 u10 u11 u12 u20 u21 u22 u30 u31 u32 u40 u41 u42 u4f0 u4f1 u4f2 u50 u51 u52 u5f0 u5f1 u5f2 x00 x01 x02 x10 x11 x12 x20 x21 x22 x30 x31 x32 x40 x41 x42 x4f0 x4f1 x4f2 x50 x51 x52 x5f0 x5f1 x5f2 ne00 en00 ne10 en10 ne20 en20 ne30 en30 ne40 en40 ne50 en50 ne60 en60 ne70 en70 ne80 en80 ne81 en81
        have HS := H.slice 10 3 [t1, t12, t17] #[.int .u8 (o2 : Int), .string (txt nm2), .slice a2 n2 c2, .int .u8 (o12 : Int), .string (txt nm12), .slice a12 n12 c12, .int .u8 (o17 : Int), .string (txt nm17), .slice a17 n17 c17] 25 rfl (RowL.append (RowL.append (RowL.form1 (H.tree 0 _ rfl)) (RowL.form1 (H.tree 1 _ rfl))) (RowL.form1 (H.tree 2 _ rfl)))
        have HW := ((HS.set 5 rfl (.int .u8 10) (.string ⟨#[]⟩) (.slice (some ⟨w18.heap.size, 0, none⟩) 3 3)).set 4 rfl (.slice a nl cp) (.int .i64 (j17 : Int)) (.bool f17)).drew
        generalize (((((((w18.alloc (.cells #[.int .u8 (o2 : Int), .string (txt nm2), .slice a2 n2 c2, .int .u8 (o12 : Int), .string (txt nm12), .slice a12 n12 c12, .int .u8 (o17 : Int), .string (txt nm17), .slice a17 n17 c17] 25)).setCell ⟨w.heap.size + 1, 0, none⟩ (.int .u8 10)).setCell ⟨w.heap.size + 1, 1, none⟩ (.string ⟨#[]⟩)).setCell ⟨w.heap.size + 1, 2, none⟩ (.slice (some ⟨w18.heap.size, 0, none⟩) 3 3)).setCell ⟨w.heap.size + 1 + 1, 0, none⟩ (.slice a nl cp)).setCell ⟨w.heap.size + 1 + 1, 1, none⟩ (.int .i64 (j17 : Int))).setCell ⟨w.heap.size + 1 + 1, 2, none⟩ (.bool f17)) = w99 at *
        clear HS
        have ⟨rx0, rx1, rx2, rxf⟩ := (HW).at 5 rfl
        clear rxf
        have ⟨ry0, ry1, ry2, ryf⟩ := (HW).at 4 rfl
        clear ryf
        have hdone := HW.done 0 rfl
        have hfr := HW.fr
        clear HW
        go_wp2_with fail
        exact bodyPost_ret (v := .tuple #[.agg #[.int .u8 10, .string ⟨#[]⟩, .slice (some ⟨w18.heap.size, 0, none⟩) 3 3], .agg #[.slice a nl cp, .int .i64 (j17 : Int), .bool f17]]) (by simp [results, Try.results45, go_sem, rx0, rx1, rx2, ry0, ry1, ry2]) rfl ⟨_, rfl, hdone, hfr⟩
  | true =>
    have hlt : j1 < L.length := skip_lt (by decide) hsk
    rw [hsk, if_pos rfl] at hK
    unfold rdV at hK
    obtain ⟨m, y, hy, hm, h3⟩ : ∃ m y, impliesR L m (j1 + 1) f1 = some y ∧ m + 1 = n ∧ (.mk 9 [] [t1, y.1], y.2) = x3 := by
      have h := HX3.out
      cases n with
      | zero => rw [sameR] at h; cases h
      | succ m =>
        rw [sameR] at h
        dsimp only at h
        rw [hsk, if_pos rfl] at h
        obtain ⟨y, hy, h2⟩ := Option.map_eq_some_iff.1 h
        exact ⟨m, y, hy, rfl, h2⟩
    subst h3
    have hm6 : 10 * (L.length - (j1 + 1)) + 6 ≤ m := by have h1 : i ≤ j1 := HB1.out.1; have h2 := HNN.out; omega
    have hby := imp_bd hy hm6 (by omega)
    have HY9 := Lib.hid (And.intro hy (And.intro hby (And.intro hlt (And.intro hm6 hm))))
    clear hsk HX3 hlt hby hy hm6 hm
    go_wp2_with fail
    refine hK.mono ?_
    rintro e w5 ⟨rfl, F5⟩
    have HHA := Lib.hid ((HH4.out.call F5).alloc (.slice a nl cp) (.int .i64 ((j1 : Int) + 1)) (.bool f1) 76)
    clear hK F5 HH4 b0 b1 b2
    go_upto_region 4 with fail
    generalize w5.alloc (.cells #[.slice a nl cp, .int .i64 ((j1 : Int) + 1), .bool f1] 76) = w6 at *
    have hI := HII.out m (by have := HY9.out.2.2.2.2; omega) (j1 + 1) f1 _ S w6 y HY9.out.1 HY9.out.2.2.2.1 (by have := HY9.out.2.2.1; omega) HHA.out.lt HHA.out.tok
    unfold RdPost rdV at hI
    rw [show ((j1 + 1 : Nat) : Int) = (j1 : Int) + 1 from rfl] at hI
    have ⟨b0, b1, b2, _⟩ := HHA.out.at 0 rfl
    go_wp2_with fail
    refine hI.mono ?_
    rintro e w7 ⟨v7, rfl, hT7, F7⟩
    obtain ⟨o7, nm7, a7, n7, c7, rfl⟩ := hT7.form
    obtain ⟨t7, j7, f7⟩ := y
    dsimp only at hT7
    have H8 := ((HHA.out.ret F7 hT7).alloc (.int .u8 (o7 : Int)) (.string (txt nm7)) (.slice a7 n7 c7) 25).alloc (.slice a nl cp) (.int .i64 (j7 : Int)) (.bool f7) 76
    rw [World.size_alloc] at H8
    have HH8 := Lib.hid H8
    clear H8 hI F7 hT7 HHA b0 b1 b2
    go_upto_region 5 with fail
    generalize (w7.alloc (.cells #[.int .u8 (o7 : Int), .string (txt nm7), .slice a7 n7 c7] 25)).alloc (.cells #[.slice a nl cp, .int .i64 (j7 : Int), .bool f7] 76) = w8 at *
    have H := HH8.out
    clear HH8
    obtain ⟨A, hA⟩ : ∃ A : Array Value, A = #[.int .u8 (o2 : Int), .string (txt nm2), .slice a2 n2 c2, .int .u8 (o7 : Int), .string (txt nm7), .slice a7 n7 c7] := ⟨_, rfl⟩
    have HA := H.call ((Fr.refl nob w8).alloc (.cells A 25))
    have ⟨p00, p01, p02, p0f⟩ := (H).at 3 rfl
    have p0f0 := p0f 0
    have p0f1 := p0f 1
    have p0f2 := p0f 2
    clear p0f
    have ⟨p10, p11, p12, p1f⟩ := (H).at 1 rfl
    clear p1f
    have ⟨p20, p21, p22, p2f⟩ := (H).at 0 rfl
    clear p2f
    have ⟨p30, p31, p32, p3f⟩ := (H).at 6 rfl
    have p3f0 := p3f 0
    have p3f1 := p3f 1
    have p3f2 := p3f 2
    clear p3f
    have ⟨q00, q01, q02, q0f⟩ := (H.drew).at 3 rfl
    have q0f0 := q0f 0
    have q0f1 := q0f 1
    have q0f2 := q0f 2
    clear q0f
    have ⟨q10, q11, q12, q1f⟩ := (H.drew).at 1 rfl
    clear q1f
    have ⟨q20, q21, q22, q2f⟩ := (H.drew).at 0 rfl
    clear q2f
    have ⟨q30, q31, q32, q3f⟩ := (H.drew).at 6 rfl
    have q3f0 := q3f 0
    have q3f1 := q3f 1
    have q3f2 := q3f 2
    clear q3f
    have ⟨u00, u01, u02, u0f⟩ := (HA).at 3 rfl
    have u0f0 := u0f 0
    have u0f1 := u0f 1
    have u0f2 := u0f 2
    clear u0f
    have ⟨u10, u11, u12, u1f⟩ := (HA).at 1 rfl
    clear u1f
    have ⟨u20, u21, u22, u2f⟩ := (HA).at 0 rfl
    clear u2f
    have ⟨u30, u31, u32, u3f⟩ := (HA).at 6 rfl
    have u3f0 := u3f 0
    have u3f1 := u3f 1
    have u3f2 := u3f 2
    clear u3f
    have ⟨x00, x01, x02, x0f⟩ := (HA.drew).at 3 rfl
    have x0f0 := x0f 0
    have x0f1 := x0f 1
    have x0f2 := x0f 2
    clear x0f
    have ⟨x10, x11, x12, x1f⟩ := (HA.drew).at 1 rfl
    clear x1f
    have ⟨x20, x21, x22, x2f⟩ := (HA.drew).at 0 rfl
    clear x2f
    have ⟨x30, x31, x32, x3f⟩ := (HA.drew).at 6 rfl
    have x3f0 := x3f 0
    have x3f1 := x3f 1
    have x3f2 := x3f 2
    clear x3f
    have lt0 : w.heap.size < w2.heap.size := H.apart 3 6 _ _ (by decide) rfl rfl
    have ne00 : ¬ w2.heap.size = w.heap.size := by omega
    have en00 : ¬ w.heap.size = w2.heap.size := by omega
    clear lt0
    have lt1 : w2.heap.size < w7.heap.size := H.apart 1 3 _ _ (by decide) rfl rfl
    have ne10 : ¬ w7.heap.size = w2.heap.size := by omega
    have en10 : ¬ w2.heap.size = w7.heap.size := by omega
    clear lt1
    have lt2 : w.heap.size < w7.heap.size := H.apart 1 6 _ _ (by decide) rfl rfl
    have ne20 : ¬ w7.heap.size = w.heap.size := by omega
    have en20 : ¬ w.heap.size = w7.heap.size := by omega
    clear lt2
    have lt3 : w2.heap.size < w7.heap.size + 1 := H.apart 0 3 _ _ (by decide) rfl rfl
    have ne30 : ¬ w7.heap.size + 1 = w2.heap.size := by omega
    have en30 : ¬ w2.heap.size = w7.heap.size + 1 := by omega
    clear lt3
    have lt4 : w.heap.size < w7.heap.size + 1 := H.apart 0 6 _ _ (by decide) rfl rfl
    have ne40 : ¬ w7.heap.size + 1 = w.heap.size := by omega
    have en40 : ¬ w.heap.size = w7.heap.size + 1 := by omega
    clear lt4
    clear HA
    subst hA
    go_region
    clear p00 p01 p02 p0f0 p0f1 p0f2 p10 p11 p12 p20 p21 p22 p30 p31 p32 p3f0 p3f1 p3f2 q00 q01 q02 q0f0 q0f1 q0f2 q10 q11 q12 q20 q21 q22 q30 q31 q32 q3f0 q3f1 q3f2 u00 u01 u02 u0f0 u0f1 u0f2 u10 u11 u12 u20 u21 u22 u30 u31 u32 u3f0 u3f1 u3f2 x00 x01 x02 x0f0 x0f1 x0f2 x10 x11 x12 x20 x21 x22 x30 x31 x32 x3f0 x3f1 x3f2 ne00 en00 ne10 en10 ne20 en20 ne30 en30 ne40 en40
    have HS := H.slice 9 2 [t1, t7] #[.int .u8 (o2 : Int), .string (txt nm2), .slice a2 n2 c2, .int .u8 (o7 : Int), .string (txt nm7), .slice a7 n7 c7] 25 rfl (RowL.append (RowL.form1 (H.tree 0 _ rfl)) (RowL.form1 (H.tree 1 _ rfl)))
    have HW := ((HS.set 3 rfl (.int .u8 9) (.string ⟨#[]⟩) (.slice (some ⟨w8.heap.size, 0, none⟩) 2 2)).set 6 rfl (.slice a nl cp) (.int .i64 (j7 : Int)) (.bool f7)).drew
    generalize (((((((w8.alloc (.cells #[.int .u8 (o2 : Int), .string (txt nm2), .slice a2 n2 c2, .int .u8 (o7 : Int), .string (txt nm7), .slice a7 n7 c7] 25)).setCell ⟨w2.heap.size, 0, none⟩ (.int .u8 9)).setCell ⟨w2.heap.size, 1, none⟩ (.string ⟨#[]⟩)).setCell ⟨w2.heap.size, 2, none⟩ (.slice (some ⟨w8.heap.size, 0, none⟩) 2 2)).setCell ⟨w.heap.size, 0, none⟩ (.slice a nl cp)).setCell ⟨w.heap.size, 1, none⟩ (.int .i64 (j7 : Int))).setCell ⟨w.heap.size, 2, none⟩ (.bool f7)) = w9 at *
    clear HS
    go_upto_region 6 with fail
    generalize w9.drew = w9d at *
    have H9 := HW
    clear HW H
    have HH6 := Lib.hid H9
    clear H9
    have hbx : i ≤ j7 ∧ j7 ≤ L.length := ⟨by have h1 : i ≤ j1 := HB1.out.1; have h2 : j1 + 1 ≤ j7 := HY9.out.2.1.1; omega, HY9.out.2.1.2⟩
    have HBX := Lib.hid hbx
    clear hbx
    have hK : Calls Try.prog 83 #[.agg #[.slice a nl cp, .int .i64 (j7 : Int), .bool f7], .string ⟨#[63]⟩] w9d _ := skip_any [63] L j7 f7 _ S w9d (by have h1 := HBX.out.2; have h2 := HLL.out; omega) HH6.out.tok
    have ⟨b0, b1, b2, bf⟩ := (HH6.out).at 6 rfl
    clear bf
    cases hsk : skipP L [63] j7 f7 with
    | false =>
      rw [hsk, if_neg (by decide)] at hK
      unfold rdV at hK
      have hx := HX4.out
      (try dsimp only at hx)
      rw [hsk, if_neg (by decide)] at hx
      obtain rfl := Option.some.inj hx
      clear hsk hx
      go_wp2_with fail
      refine hK.mono ?_
      rintro e w10 ⟨rfl, F10⟩
      have HA := HH6.out.call F10
      have ⟨sx0, sx1, sx2, sxf⟩ := (HA).at 2 rfl
      have sxf0 := sxf 0
      have sxf1 := sxf 1
      have sxf2 := sxf 2
      clear sxf
      have HHS := Lib.hid (HA.set 2 rfl (.slice a nl cp) (.int .i64 (j7 : Int)) (.bool f7))
      clear HA HH6 hK F10 b0 b1 b2
      go_upto_region 8 with fail
      generalize (((w10.setCell ⟨w5.heap.size, 0, none⟩ (.slice a nl cp)).setCell ⟨w5.heap.size, 1, none⟩ (.int .i64 (j7 : Int))).setCell ⟨w5.heap.size, 2, none⟩ (.bool f7)) = w11 at *
      have H := HHS.out
      clear HHS sx0 sx1 sx2 sxf0 sxf1 sxf2
      have ⟨p00, p01, p02, p0f⟩ := (H).at 3 rfl
      clear p0f
      have ⟨p10, p11, p12, p1f⟩ := (H).at 6 rfl
      clear p1f
      have ⟨p20, p21, p22, p2f⟩ := (H).at 5 rfl
      have p2f0 := p2f 0
      have p2f1 := p2f 1
      have p2f2 := p2f 2
      clear p2f
      have ⟨p30, p31, p32, p3f⟩ := (H).at 4 rfl
      have p3f0 := p3f 0
      have p3f1 := p3f 1
      have p3f2 := p3f 2
      clear p3f
      have ⟨q00, q01, q02, q0f⟩ := (H.drew).at 3 rfl
      clear q0f
      have ⟨q10, q11, q12, q1f⟩ := (H.drew).at 6 rfl
      clear q1f
      have ⟨q20, q21, q22, q2f⟩ := (H.drew).at 5 rfl
      have q2f0 := q2f 0
      have q2f1 := q2f 1
      have q2f2 := q2f 2
      clear q2f
      have ⟨q30, q31, q32, q3f⟩ := (H.drew).at 4 rfl
      have q3f0 := q3f 0
      have q3f1 := q3f 1
      have q3f2 := q3f 2
      clear q3f
      have lt0 : w.heap.size + 1 < w2.heap.size := H.apart 3 5 _ _ (by decide) rfl rfl
      have ne00 : ¬ w2.heap.size = w.heap.size + 1 := by omega
      have en00 : ¬ w.heap.size + 1 = w2.heap.size := by omega
      clear lt0
      have lt1 : w.heap.size + 1 + 1 < w2.heap.size := H.apart 3 4 _ _ (by decide) rfl rfl
      have ne10 : ¬ w2.heap.size = w.heap.size + 1 + 1 := by omega
      have en10 : ¬ w.heap.size + 1 + 1 = w2.heap.size := by omega
      clear lt1
      have lt2 : w.heap.size < w.heap.size + 1 := H.apart 5 6 _ _ (by decide) rfl rfl
      have ne20 : ¬ w.heap.size + 1 = w.heap.size := by omega
      have en20 : ¬ w.heap.size = w.heap.size + 1 := by omega
      clear lt2
      have lt3 : w.heap.size < w.heap.size + 1 + 1 := H.apart 4 6 _ _ (by decide) rfl rfl
      have ne30 : ¬ w.heap.size + 1 + 1 = w.heap.size := by omega
      have en30 : ¬ w.heap.size = w.heap.size + 1 + 1 := by omega
      clear lt3
      have lt4 : w.heap.size + 1 < w.heap.size + 1 + 1 := H.apart 4 5 _ _ (by decide) rfl rfl
      have ne40 : ¬ w.heap.size + 1 + 1 = w.heap.size + 1 := by omega
      have en40 : ¬ w.heap.size + 1 = w.heap.size + 1 + 1 := by omega
      have ne41 : ¬ w.heap.size + 1 = w.heap.size := by omega
      have en41 : ¬ w.heap.size = w.heap.size + 1 := by omega
      clear lt4
      go_region
      clear p00 p01 p02 p10 p11 p12 p20 p21 p22 p2f0 p2f1 p2f2 p30 p31 p32 p3f0 p3f1 p3f2 q00 q01 q02 q10 q11 q12 q20 q21 q22 q2f0 q2f1 q2f2 q30 q31 q32 q3f0 q3f1 q3f2 ne00 en00 ne10 en10 ne20 en20 ne30 en30 ne40 en40 ne41 en41
      have HW := ((H.set 5 rfl (.int .u8 9) (.string ⟨#[]⟩) (.slice (some ⟨w8.heap.size, 0, none⟩) 2 2)).set 4 rfl (.slice a nl cp) (.int .i64 (j7 : Int)) (.bool f7)).drew
      generalize ((((((w11.setCell ⟨w.heap.size + 1, 0, none⟩ (.int .u8 9)).setCell ⟨w.heap.size + 1, 1, none⟩ (.string ⟨#[]⟩)).setCell ⟨w.heap.size + 1, 2, none⟩ (.slice (some ⟨w8.heap.size, 0, none⟩) 2 2)).setCell ⟨w.heap.size + 1 + 1, 0, none⟩ (.slice a nl cp)).setCell ⟨w.heap.size + 1 + 1, 1, none⟩ (.int .i64 (j7 : Int))).setCell ⟨w.heap.size + 1 + 1, 2, none⟩ (.bool f7)) = w99 at *
      have ⟨rx0, rx1, rx2, rxf⟩ := (HW).at 5 rfl
      clear rxf
      have ⟨ry0, ry1, ry2, ryf⟩ := (HW).at 4 rfl
      clear ryf
      have hdone := HW.done 0 rfl
      have hfr := HW.fr
      clear HW
      go_wp2_with fail
      exact bodyPost_ret (v := .tuple #[.agg #[.int .u8 9, .string ⟨#[]⟩, .slice (some ⟨w8.heap.size, 0, none⟩) 2 2], .agg #[.slice a nl cp, .int .i64 (j7 : Int), .bool f7]]) (by simp [results, Try.results45, go_sem, rx0, rx1, rx2, ry0, ry1, ry2]) rfl ⟨_, rfl, hdone, hfr⟩
    | true =>
      have hlt : j7 < L.length := skip_lt (by decide) hsk
      rw [hsk, if_pos rfl] at hK
      unfold rdV at hK
      have hx := HX4.out
      (try dsimp only at hx)
      rw [hsk, if_pos rfl] at hx
      obtain ⟨y, hy, hx5⟩ := Option.bind_eq_some_iff.1 hx
      have hby := choice_bd hy (by have h1 := HBX.out.1; have h2 := HNN.out; omega) (by omega)
      have HY := Lib.hid (And.intro hy (And.intro hby hlt))
      have HX5 := Lib.hid hx5
      clear hsk hx hy hx5 hby hlt
      go_wp2_with fail
      refine hK.mono ?_
      rintro e w10 ⟨rfl, F10⟩
      have HA := HH6.out.call F10
      have ⟨sx0, sx1, sx2, sxf⟩ := (HA).at 2 rfl
      have sxf0 := sxf 0
      have sxf1 := sxf 1
      have sxf2 := sxf 2
      clear sxf
      have HHS := Lib.hid (HA.set 2 rfl (.slice a nl cp) (.int .i64 ((j7 : Int) + 1)) (.bool f7))
      clear HA HH6 hK F10 b0 b1 b2
      go_upto_region 9 with fail
      generalize (((w10.setCell ⟨w5.heap.size, 0, none⟩ (.slice a nl cp)).setCell ⟨w5.heap.size, 1, none⟩ (.int .i64 ((j7 : Int) + 1))).setCell ⟨w5.heap.size, 2, none⟩ (.bool f7)) = w11 at *
      have H11 := HHS.out
      clear HHS sx0 sx1 sx2 sxf0 sxf1 sxf2
      have ⟨b0, b1, b2, bf⟩ := (H11).at 2 rfl
      clear bf
      have hCh := HIC.out (j7 + 1) f7 _ S w11 y HY.out.1 (by have h1 := HBX.out.1; have h2 := HNN.out; have h3 := HY.out.2.2; omega) (by have h3 := HY.out.2.2; omega) H11.lt H11.tok
      unfold RdPost rdV at hCh
      rw [show ((j7 + 1 : Nat) : Int) = (j7 : Int) + 1 from rfl] at hCh
      have HH11 := Lib.hid H11
      clear H11
      go_wp2_with fail
      refine hCh.mono ?_
      rintro e w12 ⟨v12, rfl, hT12, F12⟩
      obtain ⟨o12, nm12, a12, n12, c12, rfl⟩ := hT12.form
      obtain ⟨t12, j12, f12⟩ := y
      dsimp only at hT12
      have HA := (HH11.out.ret F12 hT12).alloc (.int .u8 (o12 : Int)) (.string (txt nm12)) (.slice a12 n12 c12) 25
      have ⟨sx0, sx1, sx2, sxf⟩ := (HA).at 7 rfl
      have sxf0 := sxf 0
      have sxf1 := sxf 1
      have sxf2 := sxf 2
      clear sxf
      have HHS := Lib.hid (HA.set 7 rfl (.slice a nl cp) (.int .i64 (j12 : Int)) (.bool f12))
      clear HA HH11 hCh b0 b1 b2 hT12 F12
      go_upto_region 10 with fail
      generalize ((((w12.alloc (.cells #[.int .u8 (o12 : Int), .string (txt nm12), .slice a12 n12 c12] 25)).setCell ⟨w.heap.size, 0, none⟩ (.slice a nl cp)).setCell ⟨w.heap.size, 1, none⟩ (.int .i64 (j12 : Int))).setCell ⟨w.heap.size, 2, none⟩ (.bool f12)) = w14 at *
      clear sx0 sx1 sx2 sxf0 sxf1 sxf2
      have HH14 := Lib.hid HHS.out
      clear HHS
      have hbx : j12 ≤ L.length := HY.out.2.1.2
      have HB12 := Lib.hid hbx
      clear hbx
      have hK : Calls Try.prog 83 #[.agg #[.slice a nl cp, .int .i64 (j12 : Int), .bool f12], .string ⟨#[58]⟩] w14 _ := skip_any [58] L j12 f12 _ S w14 (by have h1 := HB12.out; have h2 := HLL.out; omega) HH14.out.tok
      have ⟨b0, b1, b2, bf⟩ := (HH14.out).at 7 rfl
      clear bf
      cases hsk : skipP L [58] j12 f12 with
      | false =>
        rw [hsk, if_neg (by decide)] at hK
        unfold rdV at hK
        have hx := HX5.out
        (try dsimp only at hx)
        rw [hsk, if_neg (by decide)] at hx
        obtain rfl := Option.some.inj hx
        clear hsk hx
        go_wp2_with fail
        refine hK.mono ?_
        rintro e w15 ⟨rfl, F15⟩
        have HA := HH14.out.call F15
        have ⟨sx0, sx1, sx2, sxf⟩ := (HA).at 3 rfl
        have sxf0 := sxf 0
        have sxf1 := sxf 1
        have sxf2 := sxf 2
        clear sxf
        have HHS := Lib.hid (HA.set 3 rfl (.slice a nl cp) (.int .i64 (j12 : Int)) (.bool f12))
        clear HA HH14 hK F15 b0 b1 b2
        go_upto_region 12 with fail
        generalize (((w15.setCell ⟨w5.heap.size, 0, none⟩ (.slice a nl cp)).setCell ⟨w5.heap.size, 1, none⟩ (.int .i64 (j12 : Int))).setCell ⟨w5.heap.size, 2, none⟩ (.bool f12)) = w16 at *
        have H := HHS.out
        clear HHS sx0 sx1 sx2 sxf0 sxf1 sxf2
        have hB : ∀ W : World, Calls Try.prog 84 #[.agg #[.slice a nl cp, .int .i64 (j12 : Int), .bool f12]] W fun e w' => e = .returned (.agg #[.slice a nl cp, .int .i64 (j12 : Int), .bool true]) ∧ Fr nob W w' := fun W => bad_any j12 f12 (.slice a nl cp) ⟨_, _, _, rfl⟩ W
        have HHZ := Lib.hid H
        clear H
        have ⟨p00, p01, p02, p0f⟩ := (HHZ.out).at 4 rfl
        clear p0f
        have ⟨p10, p11, p12, p1f⟩ := (HHZ.out).at 7 rfl
        clear p1f
        have ⟨p20, p21, p22, p2f⟩ := (HHZ.out).at 6 rfl
        have p2f0 := p2f 0
        have p2f1 := p2f 1
        have p2f2 := p2f 2
        clear p2f
        have ⟨p30, p31, p32, p3f⟩ := (HHZ.out).at 5 rfl
        have p3f0 := p3f 0
        have p3f1 := p3f 1
        have p3f2 := p3f 2
        clear p3f
        have ⟨q00, q01, q02, q0f⟩ := (HHZ.out.drew).at 4 rfl
        clear q0f
        have ⟨q10, q11, q12, q1f⟩ := (HHZ.out.drew).at 7 rfl
        clear q1f
        have ⟨q20, q21, q22, q2f⟩ := (HHZ.out.drew).at 6 rfl
        have q2f0 := q2f 0
        have q2f1 := q2f 1
        have q2f2 := q2f 2
        clear q2f
        have ⟨q30, q31, q32, q3f⟩ := (HHZ.out.drew).at 5 rfl
        have q3f0 := q3f 0
        have q3f1 := q3f 1
        have q3f2 := q3f 2
        clear q3f
        have lt0 : w.heap.size + 1 < w2.heap.size := HHZ.out.apart 4 6 _ _ (by decide) rfl rfl
        have ne00 : ¬ w2.heap.size = w.heap.size + 1 := by omega
        have en00 : ¬ w.heap.size + 1 = w2.heap.size := by omega
        clear lt0
        have lt1 : w.heap.size + 1 + 1 < w2.heap.size := HHZ.out.apart 4 5 _ _ (by decide) rfl rfl
        have ne10 : ¬ w2.heap.size = w.heap.size + 1 + 1 := by omega
        have en10 : ¬ w.heap.size + 1 + 1 = w2.heap.size := by omega
        clear lt1
        have lt2 : w.heap.size < w.heap.size + 1 := HHZ.out.apart 6 7 _ _ (by decide) rfl rfl
        have ne20 : ¬ w.heap.size + 1 = w.heap.size := by omega
        have en20 : ¬ w.heap.size = w.heap.size + 1 := by omega
        clear lt2
        have lt3 : w.heap.size < w.heap.size + 1 + 1 := HHZ.out.apart 5 7 _ _ (by decide) rfl rfl
        have ne30 : ¬ w.heap.size + 1 + 1 = w.heap.size := by omega
        have en30 : ¬ w.heap.size = w.heap.size + 1 + 1 := by omega
        clear lt3
        have lt4 : w.heap.size + 1 < w.heap.size + 1 + 1 := HHZ.out.apart 5 6 _ _ (by decide) rfl rfl
        have ne40 : ¬ w.heap.size + 1 + 1 = w.heap.size + 1 := by omega
        have en40 : ¬ w.heap.size + 1 = w.heap.size + 1 + 1 := by omega
        have ne41 : ¬ w.heap.size + 1 = w.heap.size := by omega
        have en41 : ¬ w.heap.size = w.heap.size + 1 := by omega
        clear lt4
        go_region_with (first
          | (go_at_call 84
             (with_reducible refine (hB _).mono ?_)
             rintro e w90 ⟨rfl, F9⟩
             (first
               | (have HD := HHZ.out.drew.call F9)
               | (have HD := (HHZ.out.set 6 rfl (.int .u8 9) (.string ⟨#[]⟩) (.slice (some ⟨w8.heap.size, 0, none⟩) 2 2)).drew.call F9))
             have ⟨ya0, ya1, ya2, yaf⟩ := HD.at 6 rfl
             have ⟨za0, za1, za2, zaf⟩ := HD.at 5 rfl
             have ⟨ea0, ea1, ea2, _⟩ := HD.at 4 rfl
             have yaf0 := yaf 0
             have yaf1 := yaf 1
             have yaf2 := yaf 2
             have zaf0 := zaf 0
             have zaf1 := zaf 1
             have zaf2 := zaf 2
             have HHD := Lib.hid HD
             clear HD yaf zaf))
        all_goals (
          have HW := (HHD.out.set 6 rfl (.int .u8 9) (.string ⟨#[]⟩) (.slice (some ⟨w8.heap.size, 0, none⟩) 2 2)).set 5 rfl (.slice a nl cp) (.int .i64 (j12 : Int)) (.bool true)
          clear HHD hB F9 ya0 ya1 ya2 yaf0 yaf1 yaf2 za0 za1 za2 zaf0 zaf1 zaf2 ea0 ea1 ea2 p00 p01 p02 p10 p11 p12 p20 p21 p22 p2f0 p2f1 p2f2 p30 p31 p32 p3f0 p3f1 p3f2 q00 q01 q02 q10 q11 q12 q20 q21 q22 q2f0 q2f1 q2f2 q30 q31 q32 q3f0 q3f1 q3f2 ne00 en00 ne10 en10 ne20 en20 ne30 en30 ne40 en40 ne41 en41
          generalize ((((((w90.setCell ⟨w.heap.size + 1, 0, none⟩ (.int .u8 9)).setCell ⟨w.heap.size + 1, 1, none⟩ (.string ⟨#[]⟩)).setCell ⟨w.heap.size + 1, 2, none⟩ (.slice (some ⟨w8.heap.size, 0, none⟩) 2 2)).setCell ⟨w.heap.size + 1 + 1, 0, none⟩ (.slice a nl cp)).setCell ⟨w.heap.size + 1 + 1, 1, none⟩ (.int .i64 (j12 : Int))).setCell ⟨w.heap.size + 1 + 1, 2, none⟩ (.bool true)) = w99 at *
          have ⟨rx0, rx1, rx2, rxf⟩ := (HW).at 6 rfl
          clear rxf
          have ⟨ry0, ry1, ry2, ryf⟩ := (HW).at 5 rfl
          clear ryf
          have hdone := HW.done 1 rfl
          have hfr := HW.fr
          clear HW
          go_wp2_with fail
          exact bodyPost_ret (v := .tuple #[.agg #[.int .u8 9, .string ⟨#[]⟩, .slice (some ⟨w8.heap.size, 0, none⟩) 2 2], .agg #[.slice a nl cp, .int .i64 (j12 : Int), .bool true]]) (by simp [results, Try.results45, go_sem, rx0, rx1, rx2, ry0, ry1, ry2]) rfl ⟨_, rfl, hdone, hfr⟩)
      | true =>
        have hlt : j12 < L.length := skip_lt (by decide) hsk
        rw [hsk, if_pos rfl] at hK
        unfold rdV at hK
        have hx := HX5.out
        (try dsimp only at hx)
        rw [hsk, if_pos rfl] at hx
        obtain ⟨z, hz, hx6⟩ := Option.map_eq_some_iff.1 hx
        subst hx6
        have HZ := Lib.hid (And.intro hz hlt)
        clear hsk hx hz hlt
        go_wp2_with fail
        refine hK.mono ?_
        rintro e w15 ⟨rfl, F15⟩
        have HA := HH14.out.call F15
        have ⟨sx0, sx1, sx2, sxf⟩ := (HA).at 3 rfl
        have sxf0 := sxf 0
        have sxf1 := sxf 1
        have sxf2 := sxf 2
        clear sxf
        have HHS := Lib.hid (HA.set 3 rfl (.slice a nl cp) (.int .i64 ((j12 : Int) + 1)) (.bool f12))
        clear HA HH14 hK F15 b0 b1 b2
        go_upto_region 13 with fail
        generalize (((w15.setCell ⟨w5.heap.size, 0, none⟩ (.slice a nl cp)).setCell ⟨w5.heap.size, 1, none⟩ (.int .i64 ((j12 : Int) + 1))).setCell ⟨w5.heap.size, 2, none⟩ (.bool f12)) = w16 at *
        have H16 := HHS.out
        clear HHS sx0 sx1 sx2 sxf0 sxf1 sxf2
        have ⟨b0, b1, b2, bf⟩ := (H16).at 3 rfl
        clear bf
        have hCh := HIC.out (j12 + 1) f12 _ S w16 z HZ.out.1 (by have h1 := HBX.out.1; have h2 := HNN.out; have h3 := HZ.out.2; have h4 := HY.out.2.1.1; (try dsimp only at h4); omega) (by have h3 := HZ.out.2; omega) H16.lt H16.tok
        unfold RdPost rdV at hCh
        rw [show ((j12 + 1 : Nat) : Int) = (j12 : Int) + 1 from rfl] at hCh
        have HH16 := Lib.hid H16
        clear H16
        go_wp2_with fail
        refine hCh.mono ?_
        rintro e w17 ⟨v17, rfl, hT17, F17⟩
        obtain ⟨o17, nm17, a17, n17, c17, rfl⟩ := hT17.form
        obtain ⟨t17, j17, f17⟩ := z
        dsimp only at hT17
        have HA := (HH16.out.ret F17 hT17).alloc (.int .u8 (o17 : Int)) (.string (txt nm17)) (.slice a17 n17 c17) 25
        have ⟨sx0, sx1, sx2, sxf⟩ := (HA).at 8 rfl
        have sxf0 := sxf 0
        have sxf1 := sxf 1
        have sxf2 := sxf 2
        clear sxf
        have HHS := Lib.hid (HA.set 8 rfl (.slice a nl cp) (.int .i64 (j17 : Int)) (.bool f17))
        clear HA HH16 hCh b0 b1 b2 hT17 F17
        go_upto_region 14 with fail
        generalize ((((w17.alloc (.cells #[.int .u8 (o17 : Int), .string (txt nm17), .slice a17 n17 c17] 25)).setCell ⟨w.heap.size, 0, none⟩ (.slice a nl cp)).setCell ⟨w.heap.size, 1, none⟩ (.int .i64 (j17 : Int))).setCell ⟨w.heap.size, 2, none⟩ (.bool f17)) = w18 at *
        clear sx0 sx1 sx2 sxf0 sxf1 sxf2
        have H := HHS.out
        clear HHS
        obtain ⟨A, hA⟩ : ∃ A : Array Value, A = #[.int .u8 9, .string ⟨#[]⟩, .slice (some ⟨w8.heap.size, 0, none⟩) 2 2, .int .u8 (o12 : Int), .string (txt nm12), .slice a12 n12 c12, .int .u8 (o17 : Int), .string (txt nm17), .slice a17 n17 c17] := ⟨_, rfl⟩
        have HA := H.call ((Fr.refl nob w18).alloc (.cells A 25))
        have ⟨p00, p01, p02, p0f⟩ := (H).at 5 rfl
        clear p0f
        have ⟨p10, p11, p12, p1f⟩ := (H).at 1 rfl
        clear p1f
        have ⟨p20, p21, p22, p2f⟩ := (H).at 0 rfl
        clear p2f
        have ⟨p30, p31, p32, p3f⟩ := (H).at 8 rfl
        clear p3f
        have ⟨p40, p41, p42, p4f⟩ := (H).at 7 rfl
        have p4f0 := p4f 0
        have p4f1 := p4f 1
        have p4f2 := p4f 2
        clear p4f
        have ⟨p50, p51, p52, p5f⟩ := (H).at 6 rfl
        have p5f0 := p5f 0
        have p5f1 := p5f 1
        have p5f2 := p5f 2
        clear p5f
        have ⟨q00, q01, q02, q0f⟩ := (H.drew).at 5 rfl
        clear q0f
        have ⟨q10, q11, q12, q1f⟩ := (H.drew).at 1 rfl
        clear q1f
        have ⟨q20, q21, q22, q2f⟩ := (H.drew).at 0 rfl
        clear q2f
        have ⟨q30, q31, q32, q3f⟩ := (H.drew).at 8 rfl
        clear q3f
        have ⟨q40, q41, q42, q4f⟩ := (H.drew).at 7 rfl
        have q4f0 := q4f 0
        have q4f1 := q4f 1
        have q4f2 := q4f 2
        clear q4f
        have ⟨q50, q51, q52, q5f⟩ := (H.drew).at 6 rfl
        have q5f0 := q5f 0
        have q5f1 := q5f 1
        have q5f2 := q5f 2
        clear q5f
        have ⟨u00, u01, u02, u0f⟩ := (HA).at 5 rfl
        clear u0f
        have ⟨u10, u11, u12, u1f⟩ := (HA).at 1 rfl
        clear u1f
        have ⟨u20, u21, u22, u2f⟩ := (HA).at 0 rfl
        clear u2f
        have ⟨u30, u31, u32, u3f⟩ := (HA).at 8 rfl
        clear u3f
        have ⟨u40, u41, u42, u4f⟩ := (HA).at 7 rfl
        have u4f0 := u4f 0
        have u4f1 := u4f 1
        have u4f2 := u4f 2
        clear u4f
        have ⟨u50, u51, u52, u5f⟩ := (HA).at 6 rfl
        have u5f0 := u5f 0
        have u5f1 := u5f 1
        have u5f2 := u5f 2
        clear u5f
        have ⟨x00, x01, x02, x0f⟩ := (HA.drew).at 5 rfl
        clear x0f
        have ⟨x10, x11, x12, x1f⟩ := (HA.drew).at 1 rfl
        clear x1f
        have ⟨x20, x21, x22, x2f⟩ := (HA.drew).at 0 rfl
        clear x2f
        have ⟨x30, x31, x32, x3f⟩ := (HA.drew).at 8 rfl
        clear x3f
        have ⟨x40, x41, x42, x4f⟩ := (HA.drew).at 7 rfl
        have x4f0 := x4f 0
        have x4f1 := x4f 1
        have x4f2 := x4f 2
        clear x4f
        have ⟨x50, x51, x52, x5f⟩ := (HA.drew).at 6 rfl
        have x5f0 := x5f 0
        have x5f1 := x5f 1
        have x5f2 := x5f 2
        clear x5f
        have lt0 : w.heap.size + 1 < w2.heap.size := H.apart 5 7 _ _ (by decide) rfl rfl
        have ne00 : ¬ w2.heap.size = w.heap.size + 1 := by omega
        have en00 : ¬ w.heap.size + 1 = w2.heap.size := by omega
        clear lt0
        have lt1 : w.heap.size + 1 + 1 < w2.heap.size := H.apart 5 6 _ _ (by decide) rfl rfl
        have ne10 : ¬ w2.heap.size = w.heap.size + 1 + 1 := by omega
        have en10 : ¬ w.heap.size + 1 + 1 = w2.heap.size := by omega
        clear lt1
        have lt2 : w.heap.size + 1 < w12.heap.size := H.apart 1 7 _ _ (by decide) rfl rfl
        have ne20 : ¬ w12.heap.size = w.heap.size + 1 := by omega
        have en20 : ¬ w.heap.size + 1 = w12.heap.size := by omega
        clear lt2
        have lt3 : w.heap.size + 1 + 1 < w12.heap.size := H.apart 1 6 _ _ (by decide) rfl rfl
        have ne30 : ¬ w12.heap.size = w.heap.size + 1 + 1 := by omega
        have en30 : ¬ w.heap.size + 1 + 1 = w12.heap.size := by omega
        clear lt3
        have lt4 : w.heap.size + 1 < w17.heap.size := H.apart 0 7 _ _ (by decide) rfl rfl
        have ne40 : ¬ w17.heap.size = w.heap.size + 1 := by omega
        have en40 : ¬ w.heap.size + 1 = w17.heap.size := by omega
        clear lt4
        have lt5 : w.heap.size + 1 + 1 < w17.heap.size := H.apart 0 6 _ _ (by decide) rfl rfl
        have ne50 : ¬ w17.heap.size = w.heap.size + 1 + 1 := by omega
        have en50 : ¬ w.heap.size + 1 + 1 = w17.heap.size := by omega
        clear lt5
        have lt6 : w.heap.size < w.heap.size + 1 := H.apart 7 8 _ _ (by decide) rfl rfl
        have ne60 : ¬ w.heap.size + 1 = w.heap.size := by omega
        have en60 : ¬ w.heap.size = w.heap.size + 1 := by omega
        clear lt6
        have lt7 : w.heap.size < w.heap.size + 1 + 1 := H.apart 6 8 _ _ (by decide) rfl rfl
        have ne70 : ¬ w.heap.size + 1 + 1 = w.heap.size := by omega
        have en70 : ¬ w.heap.size = w.heap.size + 1 + 1 := by omega
        clear lt7
        have lt8 : w.heap.size + 1 < w.heap.size + 1 + 1 := H.apart 6 7 _ _ (by decide) rfl rfl
        have ne80 : ¬ w.heap.size + 1 + 1 = w.heap.size + 1 := by omega
        have en80 : ¬ w.heap.size + 1 = w.heap.size + 1 + 1 := by omega
        have ne81 : ¬ w.heap.size + 1 = w.heap.size := by omega
        have en81 : ¬ w.heap.size = w.heap.size + 1 := by omega
        clear lt8
        clear HA
        subst hA
        go_region
        clear p00 p01 p02 p10 p11 p12 p20 p21 p22 p30 p31 p32 p40 p41 p42 p4f0 p4f1 p4f2 p50 p51 p52 p5f0 p5f1 p5f2 q00 q01 q02 q10 q11 q12 q20 q21 q22 q30 q31 q32 q40 q41 q42 q4f0 q4f1 q4f2 q50 q51 q52 q5f0 q5f1 q5f2 u00 u01 u02 u10 u11 u12 u20 u21 u22 u30 u31 u32 u40 u41 u42 u4f0 u4f1 u4f2 u50 u51 u52 u5f0 u5f1 u5f2 x00 x01 x02 x10 x11 x12 x20 x21 x22 x30 x31 x32 x40 x41 x42 x4f0 x4f1 x4f2 x50 x51 x52 x5f0 x5f1 x5f2 ne00 en00 ne10 en10 ne20 en20 ne30 en30 ne40 en40 ne50 en50 ne60 en60 ne70 en70 ne80 en80 ne81 en81
        have HS := H.slice 10 3 [.mk 9 [] [t1, t7], t12, t17] #[.int .u8 9, .string ⟨#[]⟩, .slice (some ⟨w8.heap.size, 0, none⟩) 2 2, .int .u8 (o12 : Int), .string (txt nm12), .slice a12 n12 c12, .int .u8 (o17 : Int), .string (txt nm17), .slice a17 n17 c17] 25 rfl (RowL.append (RowL.append (RowL.form1 (H.tree 0 _ rfl)) (RowL.form1 (H.tree 1 _ rfl))) (RowL.form1 (H.tree 2 _ rfl)))
        have HW := ((HS.set 7 rfl (.int .u8 10) (.string ⟨#[]⟩) (.slice (some ⟨w18.heap.size, 0, none⟩) 3 3)).set 6 rfl (.slice a nl cp) (.int .i64 (j17 : Int)) (.bool f17)).drew
        generalize (((((((w18.alloc (.cells #[.int .u8 9, .string ⟨#[]⟩, .slice (some ⟨w8.heap.size, 0, none⟩) 2 2, .int .u8 (o12 : Int), .string (txt nm12), .slice a12 n12 c12, .int .u8 (o17 : Int), .string (txt nm17), .slice a17 n17 c17] 25)).setCell ⟨w.heap.size + 1, 0, none⟩ (.int .u8 10)).setCell ⟨w.heap.size + 1, 1, none⟩ (.string ⟨#[]⟩)).setCell ⟨w.heap.size + 1, 2, none⟩ (.slice (some ⟨w18.heap.size, 0, none⟩) 3 3)).setCell ⟨w.heap.size + 1 + 1, 0, none⟩ (.slice a nl cp)).setCell ⟨w.heap.size + 1 + 1, 1, none⟩ (.int .i64 (j17 : Int))).setCell ⟨w.heap.size + 1 + 1, 2, none⟩ (.bool f17)) = w99 at *
        clear HS
        have ⟨rx0, rx1, rx2, rxf⟩ := (HW).at 7 rfl
        clear rxf
        have ⟨ry0, ry1, ry2, ryf⟩ := (HW).at 6 rfl
        clear ryf
        have hdone := HW.done 0 rfl
        have hfr := HW.fr
        clear HW
        go_wp2_with fail
        exact bodyPost_ret (v := .tuple #[.agg #[.int .u8 10, .string ⟨#[]⟩, .slice (some ⟨w18.heap.size, 0, none⟩) 3 3], .agg #[.slice a nl cp, .int .i64 (j17 : Int), .bool f17]]) (by simp [results, Try.results45, go_sem, rx0, rx1, rx2, ry0, ry1, ry2]) rfl ⟨_, rfl, hdone, hfr⟩
end Go.Proofs.Ytbjdaibkcchllaa
