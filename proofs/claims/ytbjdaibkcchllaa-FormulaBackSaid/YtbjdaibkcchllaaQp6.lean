/- The reference's reader: least. -/
import Derived.Test.YtbjdaibkcchllaaQp3
import Derived.Test.YtbjdaibkcchllaaQp4
import Derived.Deep.RegionWith
namespace Go.Proofs.Ytbjdaibkcchllaa
open Go.RowKit

theorem txt_list (l : List UInt8) : (txt l).toList = l := by rw [ByteArray.toList_eq, txt_data]
theorem leaf_trO (w : World) (S : Nat → Prop) (op : Nat) (nm : List UInt8) : TrO w S (.mk op nm []) (.agg #[.int .u8 (op : Int), .string (txt nm), .slice none 0 0]) := by
  rw [TrO]
  exact ⟨none, 0, rfl, fun h => absurd rfl h⟩
def LeastR (L : List (Nat × List UInt8)) (n : Nat) : Prop := ∀ (i : Nat) (b : Bool) (v : Value) (S : Nat → Prop) (w : World) (x : Tr × Nat × Bool), leastR L n i b = some x → 10 * (L.length - i) + 1 ≤ n → i ≤ L.length → (∀ b, S b → b < w.heap.size) → TokL w S L v →
  Calls Try.prog 113 #[rdV v i b] w (RdPost w v x)
def ChoiceR (L : List (Nat × List UInt8)) (n : Nat) : Prop := ∀ (i : Nat) (b : Bool) (v : Value) (S : Nat → Prop) (w : World) (x : Tr × Nat × Bool), choiceR L n i b = some x → 10 * (L.length - i) + 7 ≤ n → i ≤ L.length → (∀ b, S b → b < w.heap.size) → TokL w S L v →
  Calls Try.prog 45 #[rdV v i b] w (RdPost w v x)
set_option maxRecDepth 20000 in
set_option maxHeartbeats 4000000 in
theorem rd_least (L : List (Nat × List UInt8)) (hLL : L.length ≤ 1000000) (hW : ∀ i b, (wordP L i b).length ≤ 1000000) (n : Nat) (ihL : LeastR L n) (ihC : ChoiceR L n) : LeastR L (n + 1) := by
  intro i b v S w x hx hn hi hS hT
  rw [leastR] at hx
  have hT0 := hT
  obtain ⟨a, cp, rfl, _⟩ := hT0
  obtain ⟨nl, hnl⟩ : ∃ nl, L.length = nl := ⟨_, rfl⟩
  rw [hnl] at hT ⊢
  obtain ⟨W1, hW1⟩ : ∃ W1, ((w.alloc (.cells #[.slice a nl cp, .int .i64 (i : Int), .bool b] 76)).alloc (.cells #[.int .u8 0, .string ⟨#[]⟩, .slice none 0 0] 25)).alloc (.cells #[.slice none 0 0, .int .i64 0, .bool false] 76) = W1 := ⟨_, rfl⟩
  have H1 := (((St.start hT hS).alloc (.slice a nl cp) (.int .i64 (i : Int)) (.bool b) 76).alloc (.int .u8 0) (.string ⟨#[]⟩) (.slice none 0 0) 25).alloc (.slice none 0 0) (.int .i64 0) (.bool false) 76
  rw [hW1, World.size_alloc, World.size_alloc] at H1
  have hC := word_any L i b _ S W1 H1.tok
  unfold rdV at hC
  have HH1 := Lib.hid H1
  have HX := Lib.hid hx
  have HI := Lib.hid hi
  have HNN := Lib.hid hn
  have HIL := Lib.hid ihL
  have HIC := Lib.hid ihC
  have HSS := Lib.hid hS
  have HLL := Lib.hid hLL
  have HNL := Lib.hid hnl
  have ⟨b0, b1, b2, _⟩ := H1.at 2 rfl
  clear hx hi hn ihL ihC hS hLL hT H1 hnl
  unfold rdV
  go_enter Try.func113, Try.ntmps113
  go_upto_region 1 with fail
  (try rw [hW1])
  clear hW1
  go_wp2_with fail
  refine hC.mono ?_
  rintro e w2 ⟨rfl, F2⟩
  have HH2 := Lib.hid (HH1.out.call F2)
  clear b0 b1 b2 HH1 hC F2
  obtain ⟨wd, hwd⟩ : ∃ wd, wordP L i b = wd := ⟨_, rfl⟩
  rw [hwd] at HX ⊢
  have HWD := Lib.hid hwd
  clear hwd
  have ⟨b0, b1, b2, _⟩ := HH2.out.at 2 rfl
  have hi6 : i ≤ 1000000 := by have h1 := HI.out; have h2 := HLL.out; omega
  go_wp2_with fail
  · have he : (txt wd).toList.isEmpty = true := by assumption
    have hwd : wd = [] := by rw [txt_list] at he; exact List.isEmpty_iff.1 he
    have hx := HX.out
    rw [if_pos hwd] at hx
    obtain rfl := Option.some.inj hx
    clear hx he hwd
    have hB := bad_any i b (.slice a nl cp) ⟨_, _, _, rfl⟩ w2
    unfold rdV at hB
    refine hB.mono ?_
    rintro e w5 ⟨rfl, F5⟩
    have H5 := (HH2.out.call F5).add (leaf_trO w5 _ 0 [])
    clear b0 b1 b2 HH2 F5 hB
    have ⟨y0, y1, y2, yf⟩ := H5.at 1 rfl
    have yf0 := yf 0
    have yf1 := yf 1
    have yf2 := yf 2
    have ⟨z0, z1, z2, zf⟩ := H5.at 0 rfl
    have zf0 := zf 0
    have zf1 := zf 1
    have zf2 := zf 2
    clear yf zf
    have HW := (H5.set 1 rfl (.int .u8 0) (.string ⟨#[]⟩) (.slice none 0 0)).set 0 rfl (.slice a nl cp) (.int .i64 (i : Int)) (.bool true)
    have HHW := Lib.hid HW
    clear H5 HW
    go_wp2_with fail
    have HW := HHW.out
    clear HHW y0 y1 y2 yf0 yf1 yf2 z0 z1 z2 zf0 zf1 zf2
    generalize (((((w5.setCell ⟨w.heap.size + 1, 0, none⟩ (.int .u8 0)).setCell ⟨w.heap.size + 1, 1, none⟩ (.string ⟨#[]⟩)).setCell ⟨w.heap.size + 1, 2, none⟩ (.slice none 0 0)).setCell ⟨w.heap.size + 1 + 1, 0, none⟩ (.slice a nl cp)).setCell ⟨w.heap.size + 1 + 1, 1, none⟩ (.int .i64 (i : Int))).setCell ⟨w.heap.size + 1 + 1, 2, none⟩ (.bool true) = w9 at *
    have ⟨x0, x1, x2, _⟩ := HW.at 1 rfl
    have ⟨y0, y1, y2, _⟩ := HW.at 0 rfl
    have hdone := HW.done 0 rfl
    have hfr := HW.fr
    clear HW
    exact bodyPost_ret (v := .tuple #[.agg #[.int .u8 0, .string ⟨#[]⟩, .slice none 0 0], .agg #[.slice a nl cp, .int .i64 (i : Int), .bool true]]) (by simp [results, Try.results113, go_sem, x0, x1, x2, y0, y1, y2]) rfl ⟨_, rfl, hdone, hfr⟩
  · have h33 : ((txt wd).toList == [33]) = true := by assumption
    rw [txt_list] at h33
    have hwd : wd = [33] := beq_iff_eq.1 h33
    have hx := HX.out
    rw [if_neg (by rw [hwd]; decide), if_pos hwd] at hx
    obtain ⟨x1, hx1, rfl⟩ := Option.map_eq_some_iff.1 hx
    have hlt : i < L.length := word_lt (b := b) (by rw [HWD.out, hwd]; decide)
    have HLT := Lib.hid (And.intro hx1 hlt)
    clear hx h33 hwd hx1 hlt
    have HW4 : St w ((w2.alloc (.cells #[.slice a nl cp, .int .i64 ((i : Int) + 1), .bool b] 76))) S L (.slice a nl cp) [(w2.heap.size, .slice a nl cp, .int .i64 ((i : Int) + 1), .bool b), (w.heap.size + 1 + 1, .slice none 0 0, .int .i64 0, .bool false), (w.heap.size + 1, .int .u8 0, .string ⟨#[]⟩, .slice none 0 0), (w.heap.size, .slice a nl cp, .int .i64 (i : Int), .bool b)] [] := HH2.out.alloc (.slice a nl cp) (.int .i64 ((i : Int) + 1)) (.bool b) 76
    clear b0 b1 b2 HH2
    generalize w2.alloc (.cells #[.slice a nl cp, .int .i64 ((i : Int) + 1), .bool b] 76) = w4 at *
    have hLst := HIL.out (i + 1) b _ S w4 x1 HLT.out.1 (by have h1 := HNN.out; have h2 := HLT.out.2; omega) (by have h2 := HLT.out.2; omega) HW4.lt HW4.tok
    unfold RdPost rdV at hLst
    rw [show ((i + 1 : Nat) : Int) = (i : Int) + 1 from rfl] at hLst
    refine hLst.mono ?_
    clear hLst
    rintro e w5 ⟨v5, rfl, hT5, F5⟩
    obtain ⟨o5, nm5, a5, n5, c5, rfl⟩ := hT5.form
    obtain ⟨t5, j5, f5⟩ := x1
    dsimp only at hT5
    have H6 := ((HW4.ret F5 hT5).alloc (.int .u8 (o5 : Int)) (.string (txt nm5)) (.slice a5 n5 c5) 25).alloc (.slice a nl cp) (.int .i64 (j5 : Int)) (.bool f5) 76
    rw [World.size_alloc] at H6
    have HH6 := Lib.hid H6
    clear HW4 H6 hT5 F5
    go_upto_region 8 with fail
    have H6 := HH6.out
    clear HH6
    generalize (w5.alloc (.cells #[.int .u8 (o5 : Int), .string (txt nm5), .slice a5 n5 c5] 25)).alloc (.cells #[.slice a nl cp, .int .i64 (j5 : Int), .bool f5] 76) = w6 at *
    obtain ⟨A, hA⟩ : ∃ A : Array Value, A = #[.int .u8 (o5 : Int), .string (txt nm5), .slice a5 n5 c5] := ⟨_, rfl⟩
    have HA := H6.call ((Fr.refl nob w6).alloc (.cells A 25))
    have ⟨p00, p01, p02, p0f⟩ := (H6).at 1 rfl
    clear p0f
    have ⟨p10, p11, p12, p1f⟩ := (H6).at 0 rfl
    clear p1f
    have ⟨py0, py1, py2, pyf⟩ := (H6).at 4 rfl
    have pyf0 := pyf 0
    have pyf1 := pyf 1
    have pyf2 := pyf 2
    clear pyf
    have ⟨pz0, pz1, pz2, pzf⟩ := (H6).at 3 rfl
    have pzf0 := pzf 0
    have pzf1 := pzf 1
    have pzf2 := pzf 2
    clear pzf
    have ⟨q00, q01, q02, q0f⟩ := (H6.drew).at 1 rfl
    clear q0f
    have ⟨q10, q11, q12, q1f⟩ := (H6.drew).at 0 rfl
    clear q1f
    have ⟨qy0, qy1, qy2, qyf⟩ := (H6.drew).at 4 rfl
    have qyf0 := qyf 0
    have qyf1 := qyf 1
    have qyf2 := qyf 2
    clear qyf
    have ⟨qz0, qz1, qz2, qzf⟩ := (H6.drew).at 3 rfl
    have qzf0 := qzf 0
    have qzf1 := qzf 1
    have qzf2 := qzf 2
    clear qzf
    have ⟨u00, u01, u02, u0f⟩ := (HA).at 1 rfl
    clear u0f
    have ⟨u10, u11, u12, u1f⟩ := (HA).at 0 rfl
    clear u1f
    have ⟨uy0, uy1, uy2, uyf⟩ := (HA).at 4 rfl
    have uyf0 := uyf 0
    have uyf1 := uyf 1
    have uyf2 := uyf 2
    clear uyf
    have ⟨uz0, uz1, uz2, uzf⟩ := (HA).at 3 rfl
    have uzf0 := uzf 0
    have uzf1 := uzf 1
    have uzf2 := uzf 2
    clear uzf
    have ⟨x00, x01, x02, x0f⟩ := (HA.drew).at 1 rfl
    clear x0f
    have ⟨x10, x11, x12, x1f⟩ := (HA.drew).at 0 rfl
    clear x1f
    have ⟨xy0, xy1, xy2, xyf⟩ := (HA.drew).at 4 rfl
    have xyf0 := xyf 0
    have xyf1 := xyf 1
    have xyf2 := xyf 2
    clear xyf
    have ⟨xz0, xz1, xz2, xzf⟩ := (HA.drew).at 3 rfl
    have xzf0 := xzf 0
    have xzf1 := xzf 1
    have xzf2 := xzf 2
    clear xzf
    clear HA
    subst hA
    have lt0 : w.heap.size + 1 + 1 < w5.heap.size := H6.apart 1 3 _ _ (by decide) rfl rfl
    have ne00 : ¬ w5.heap.size = w.heap.size := by omega
    have en00 : ¬ w.heap.size = w5.heap.size := by omega
    have ne01 : ¬ w5.heap.size = w.heap.size + 1 := by omega
    have en01 : ¬ w.heap.size + 1 = w5.heap.size := by omega
    have ne02 : ¬ w5.heap.size = w.heap.size + 1 + 1 := by omega
    have en02 : ¬ w.heap.size + 1 + 1 = w5.heap.size := by omega
    have ne03 : ¬ w5.heap.size + 1 = w.heap.size + 1 := by omega
    have en03 : ¬ w.heap.size + 1 = w5.heap.size + 1 := by omega
    have ne04 : ¬ w5.heap.size + 1 = w.heap.size + 1 + 1 := by omega
    have en04 : ¬ w.heap.size + 1 + 1 = w5.heap.size + 1 := by omega
    clear lt0
    go_region
    clear p00 p01 p02 p10 p11 p12 py0 py1 py2 pyf0 pyf1 pyf2 pz0 pz1 pz2 pzf0 pzf1 pzf2 q00 q01 q02 q10 q11 q12 qy0 qy1 qy2 qyf0 qyf1 qyf2 qz0 qz1 qz2 qzf0 qzf1 qzf2 u00 u01 u02 u10 u11 u12 uy0 uy1 uy2 uyf0 uyf1 uyf2 uz0 uz1 uz2 uzf0 uzf1 uzf2 x00 x01 x02 x10 x11 x12 xy0 xy1 xy2 xyf0 xyf1 xyf2 xz0 xz1 xz2 xzf0 xzf1 xzf2 ne00 en00 ne01 en01 ne02 en02 ne03 en03 ne04 en04
    have HS := H6.slice 4 1 [t5] #[.int .u8 (o5 : Int), .string (txt nm5), .slice a5 n5 c5] 25 rfl (RowL.form1 (H6.tree 0 _ rfl))
    have HW := ((HS.set 4 rfl (.int .u8 4) (.string ⟨#[]⟩) (.slice (some ⟨w6.heap.size, 0, none⟩) 1 1)).set 3 rfl (.slice a nl cp) (.int .i64 (j5 : Int)) (.bool f5)).drew
    generalize (((((((w6.alloc (.cells #[.int .u8 (o5 : Int), .string (txt nm5), .slice a5 n5 c5] 25)).setCell ⟨w.heap.size + 1, 0, none⟩ (.int .u8 4)).setCell ⟨w.heap.size + 1, 1, none⟩ (.string ⟨#[]⟩)).setCell ⟨w.heap.size + 1, 2, none⟩ (.slice (some ⟨w6.heap.size, 0, none⟩) 1 1)).setCell ⟨w.heap.size + 1 + 1, 0, none⟩ (.slice a nl cp)).setCell ⟨w.heap.size + 1 + 1, 1, none⟩ (.int .i64 (j5 : Int))).setCell ⟨w.heap.size + 1 + 1, 2, none⟩ (.bool f5)) = w9 at *
    have ⟨x0, x1, x2, _⟩ := HW.at 4 rfl
    have ⟨y0, y1, y2, _⟩ := HW.at 3 rfl
    have hdone := HW.done 0 rfl
    have hfr := HW.fr
    clear HW
    go_wp2_with fail
    exact bodyPost_ret (v := .tuple #[.agg #[.int .u8 4, .string ⟨#[]⟩, .slice (some ⟨w6.heap.size, 0, none⟩) 1 1], .agg #[.slice a nl cp, .int .i64 (j5 : Int), .bool f5]]) (by simp [results, Try.results113, go_sem, x0, x1, x2, y0, y1, y2]) rfl ⟨_, rfl, hdone, hfr⟩
  · have h40 : ((txt wd).toList == [40]) = true := by assumption
    rw [txt_list] at h40
    have hwd : wd = [40] := beq_iff_eq.1 h40
    have hx := HX.out
    rw [if_neg (by rw [hwd]; decide), if_neg (by rw [hwd]; decide), if_pos hwd] at hx
    obtain ⟨x1, hx1, hx2⟩ := Option.map_eq_some_iff.1 hx
    have hlt : i < L.length := word_lt (b := b) (by rw [HWD.out, hwd]; decide)
    have HLT := Lib.hid (And.intro hx1 hlt)
    have HX2 := Lib.hid hx2
    clear hx h40 hwd hx1 hlt hx2
    have HW4 : St w ((w2.alloc (.cells #[.slice a nl cp, .int .i64 ((i : Int) + 1), .bool b] 76))) S L (.slice a nl cp) [(w2.heap.size, .slice a nl cp, .int .i64 ((i : Int) + 1), .bool b), (w.heap.size + 1 + 1, .slice none 0 0, .int .i64 0, .bool false), (w.heap.size + 1, .int .u8 0, .string ⟨#[]⟩, .slice none 0 0), (w.heap.size, .slice a nl cp, .int .i64 (i : Int), .bool b)] [] := HH2.out.alloc (.slice a nl cp) (.int .i64 ((i : Int) + 1)) (.bool b) 76
    clear b0 b1 b2 HH2
    generalize w2.alloc (.cells #[.slice a nl cp, .int .i64 ((i : Int) + 1), .bool b] 76) = w4 at *
    have hLst := HIC.out (i + 1) b _ S w4 x1 HLT.out.1 (by have h1 := HNN.out; have h2 := HLT.out.2; omega) (by have h2 := HLT.out.2; omega) HW4.lt HW4.tok
    have hj0 := (enough L n).2.2.2.2.2 (i + 1) b (by have h1 := HNN.out; have h2 := HLT.out.2; omega)
    have hj6 : x1.2.1 ≤ 1000000 := by
      obtain ⟨y, hy, _, hj⟩ := hj0
      rw [HLT.out.1] at hy
      obtain rfl := Option.some.inj hy
      have h2 := HLT.out.2
      have h3 := HLL.out
      omega
    clear hj0
    unfold RdPost rdV at hLst
    rw [show ((i + 1 : Nat) : Int) = (i : Int) + 1 from rfl] at hLst
    refine hLst.mono ?_
    clear hLst
    rintro e w5 ⟨v5, rfl, hT5, F5⟩
    obtain ⟨o5, nm5, a5, n5, c5, rfl⟩ := hT5.form
    obtain ⟨t5, j5, f5⟩ := x1
    dsimp only at hT5 hj6
    have H6 := ((HW4.ret F5 hT5).alloc (.int .u8 (o5 : Int)) (.string (txt nm5)) (.slice a5 n5 c5) 25).alloc (.slice a nl cp) (.int .i64 (j5 : Int)) (.bool f5) 76
    rw [World.size_alloc] at H6
    have HH6 := Lib.hid H6
    clear HW4 H6 hT5 F5
    go_upto_region 11 with fail
    have H6 := HH6.out
    clear HH6
    generalize (w5.alloc (.cells #[.int .u8 (o5 : Int), .string (txt nm5), .slice a5 n5 c5] 25)).alloc (.cells #[.slice a nl cp, .int .i64 (j5 : Int), .bool f5] 76) = w6 at *
    have hK : Calls Try.prog 83 #[.agg #[.slice a nl cp, .int .i64 (j5 : Int), .bool f5], .string ⟨#[41]⟩] w6 _ := skip_any [41] L j5 f5 _ S w6 (by omega) H6.tok
    have ⟨b0, b1, b2, _⟩ := H6.at 0 rfl
    have HH6 := Lib.hid H6
    clear H6
    cases hsk : skipP L [41] j5 f5 with
    | true =>
      have hx2 := HX2.out
      (try dsimp only at hx2)
      rw [if_pos hsk] at hx2
      rw [hsk, if_pos rfl] at hK
      unfold rdV at hK
      subst hx2
      clear hsk
      go_wp2_with fail
      refine hK.mono ?_
      rintro e w7 ⟨rfl, F7⟩
      have H8 := (HH6.out.call F7).alloc (.slice a nl cp) (.int .i64 ((j5 : Int) + 1)) (.bool f5) 76
      have HH8 := Lib.hid H8
      clear hK F7 HH6 b0 b1 b2 H8
      go_upto_region 14 with fail
      have H8 := HH8.out
      clear HH8
      generalize w7.alloc (.cells #[.slice a nl cp, .int .i64 ((j5 : Int) + 1), .bool f5] 76) = w8 at *
      have ⟨p00, p01, p02, p0f⟩ := (H8).at 2 rfl
      clear p0f
      have ⟨p10, p11, p12, p1f⟩ := (H8).at 0 rfl
      clear p1f
      have ⟨py0, py1, py2, pyf⟩ := (H8).at 5 rfl
      have pyf0 := pyf 0
      have pyf1 := pyf 1
      have pyf2 := pyf 2
      clear pyf
      have ⟨pz0, pz1, pz2, pzf⟩ := (H8).at 4 rfl
      have pzf0 := pzf 0
      have pzf1 := pzf 1
      have pzf2 := pzf 2
      clear pzf
      have ⟨q00, q01, q02, q0f⟩ := (H8.drew).at 2 rfl
      clear q0f
      have ⟨q10, q11, q12, q1f⟩ := (H8.drew).at 0 rfl
      clear q1f
      have ⟨qy0, qy1, qy2, qyf⟩ := (H8.drew).at 5 rfl
      have qyf0 := qyf 0
      have qyf1 := qyf 1
      have qyf2 := qyf 2
      clear qyf
      have ⟨qz0, qz1, qz2, qzf⟩ := (H8.drew).at 4 rfl
      have qzf0 := qzf 0
      have qzf1 := qzf 1
      have qzf2 := qzf 2
      clear qzf
      have lt0 : w.heap.size + 1 + 1 < w5.heap.size := H8.apart 2 4 _ _ (by decide) rfl rfl
      have ne00 : ¬ w5.heap.size = w.heap.size := by omega
      have en00 : ¬ w.heap.size = w5.heap.size := by omega
      have ne01 : ¬ w5.heap.size = w.heap.size + 1 := by omega
      have en01 : ¬ w.heap.size + 1 = w5.heap.size := by omega
      have ne02 : ¬ w5.heap.size = w.heap.size + 1 + 1 := by omega
      have en02 : ¬ w.heap.size + 1 + 1 = w5.heap.size := by omega
      have ne03 : ¬ w5.heap.size + 1 = w.heap.size + 1 := by omega
      have en03 : ¬ w.heap.size + 1 = w5.heap.size + 1 := by omega
      have ne04 : ¬ w5.heap.size + 1 = w.heap.size + 1 + 1 := by omega
      have en04 : ¬ w.heap.size + 1 + 1 = w5.heap.size + 1 := by omega
      clear lt0
      have lt1 : w.heap.size + 1 + 1 < w7.heap.size := H8.apart 0 4 _ _ (by decide) rfl rfl
      have ne10 : ¬ w7.heap.size = w.heap.size := by omega
      have en10 : ¬ w.heap.size = w7.heap.size := by omega
      have ne11 : ¬ w7.heap.size = w.heap.size + 1 := by omega
      have en11 : ¬ w.heap.size + 1 = w7.heap.size := by omega
      have ne12 : ¬ w7.heap.size = w.heap.size + 1 + 1 := by omega
      have en12 : ¬ w.heap.size + 1 + 1 = w7.heap.size := by omega
      have ne13 : ¬ w7.heap.size + 1 = w.heap.size + 1 := by omega
      have en13 : ¬ w.heap.size + 1 = w7.heap.size + 1 := by omega
      have ne14 : ¬ w7.heap.size + 1 = w.heap.size + 1 + 1 := by omega
      have en14 : ¬ w.heap.size + 1 + 1 = w7.heap.size + 1 := by omega
      clear lt1
      go_region
      clear p00 p01 p02 p10 p11 p12 py0 py1 py2 pyf0 pyf1 pyf2 pz0 pz1 pz2 pzf0 pzf1 pzf2 q00 q01 q02 q10 q11 q12 qy0 qy1 qy2 qyf0 qyf1 qyf2 qz0 qz1 qz2 qzf0 qzf1 qzf2 ne00 en00 ne01 en01 ne02 en02 ne03 en03 ne04 en04 ne10 en10 ne11 en11 ne12 en12 ne13 en13 ne14 en14
      have HW := ((H8.set 5 rfl (.int .u8 (o5 : Int)) (.string (txt nm5)) (.slice a5 n5 c5)).set 4 rfl (.slice a nl cp) (.int .i64 ((j5 : Int) + 1)) (.bool f5)).drew
      generalize ((((((w8.setCell ⟨w.heap.size + 1, 0, none⟩ (.int .u8 (o5 : Int))).setCell ⟨w.heap.size + 1, 1, none⟩ (.string (txt nm5))).setCell ⟨w.heap.size + 1, 2, none⟩ (.slice a5 n5 c5)).setCell ⟨w.heap.size + 1 + 1, 0, none⟩ (.slice a nl cp)).setCell ⟨w.heap.size + 1 + 1, 1, none⟩ (.int .i64 ((j5 : Int) + 1))).setCell ⟨w.heap.size + 1 + 1, 2, none⟩ (.bool f5)) = w9 at *
      have ⟨x0, x1, x2, _⟩ := HW.at 5 rfl
      have ⟨y0, y1, y2, _⟩ := HW.at 4 rfl
      have hdone := HW.done 0 rfl
      have hfr := HW.fr
      clear HW
      go_wp2_with fail
      exact bodyPost_ret (v := .tuple #[.agg #[.int .u8 (o5 : Int), .string (txt nm5), .slice a5 n5 c5], .agg #[.slice a nl cp, .int .i64 ((j5 : Int) + 1), .bool f5]]) (by simp [results, Try.results113, go_sem, x0, x1, x2, y0, y1, y2]) rfl ⟨_, rfl, hdone, hfr⟩
    | false =>
      have hx2 := HX2.out
      (try dsimp only at hx2)
      rw [if_neg (by rw [hsk]; decide)] at hx2
      rw [hsk, if_neg (by decide)] at hK
      unfold rdV at hK
      subst hx2
      clear hsk
      go_wp2_with fail
      refine hK.mono ?_
      rintro e w7 ⟨rfl, F7⟩
      have H8 := (HH6.out.call F7).alloc (.slice a nl cp) (.int .i64 (j5 : Int)) (.bool f5) 76
      have HH8 := Lib.hid H8
      clear hK F7 HH6 b0 b1 b2 H8
      go_upto_region 13 with fail
      generalize w7.alloc (.cells #[.slice a nl cp, .int .i64 (j5 : Int), .bool f5] 76) = w8 at *
      have hB : ∀ W : World, Calls Try.prog 84 #[.agg #[.slice a nl cp, .int .i64 (j5 : Int), .bool f5]] W fun e w' => e = .returned (.agg #[.slice a nl cp, .int .i64 (j5 : Int), .bool true]) ∧ Fr nob W w' := fun W => bad_any j5 f5 (.slice a nl cp) ⟨_, _, _, rfl⟩ W
      have ⟨p00, p01, p02, p0f⟩ := (HH8.out).at 2 rfl
      clear p0f
      have ⟨p10, p11, p12, p1f⟩ := (HH8.out).at 1 rfl
      clear p1f
      have ⟨py0, py1, py2, pyf⟩ := (HH8.out).at 5 rfl
      have pyf0 := pyf 0
      have pyf1 := pyf 1
      have pyf2 := pyf 2
      clear pyf
      have ⟨pz0, pz1, pz2, pzf⟩ := (HH8.out).at 4 rfl
      have pzf0 := pzf 0
      have pzf1 := pzf 1
      have pzf2 := pzf 2
      clear pzf
      have ⟨q00, q01, q02, q0f⟩ := (HH8.out.drew).at 2 rfl
      clear q0f
      have ⟨q10, q11, q12, q1f⟩ := (HH8.out.drew).at 1 rfl
      clear q1f
      have ⟨qy0, qy1, qy2, qyf⟩ := (HH8.out.drew).at 5 rfl
      have qyf0 := qyf 0
      have qyf1 := qyf 1
      have qyf2 := qyf 2
      clear qyf
      have ⟨qz0, qz1, qz2, qzf⟩ := (HH8.out.drew).at 4 rfl
      have qzf0 := qzf 0
      have qzf1 := qzf 1
      have qzf2 := qzf 2
      clear qzf
      have lt0 : w.heap.size + 1 + 1 < w5.heap.size := HH8.out.apart 2 4 _ _ (by decide) rfl rfl
      have ne00 : ¬ w5.heap.size = w.heap.size := by omega
      have en00 : ¬ w.heap.size = w5.heap.size := by omega
      have ne01 : ¬ w5.heap.size = w.heap.size + 1 := by omega
      have en01 : ¬ w.heap.size + 1 = w5.heap.size := by omega
      have ne02 : ¬ w5.heap.size = w.heap.size + 1 + 1 := by omega
      have en02 : ¬ w.heap.size + 1 + 1 = w5.heap.size := by omega
      have ne03 : ¬ w5.heap.size + 1 = w.heap.size + 1 := by omega
      have en03 : ¬ w.heap.size + 1 = w5.heap.size + 1 := by omega
      have ne04 : ¬ w5.heap.size + 1 = w.heap.size + 1 + 1 := by omega
      have en04 : ¬ w.heap.size + 1 + 1 = w5.heap.size + 1 := by omega
      clear lt0
      go_region_with (first
        | (go_at_call 84
           (with_reducible refine (hB _).mono ?_)
           rintro e w9 ⟨rfl, F9⟩
           (first
             | (have HD := HH8.out.drew.call F9)
             | (have HD := (HH8.out.set 5 rfl (.int .u8 (o5 : Int)) (.string (txt nm5)) (.slice a5 n5 c5)).drew.call F9))
           have ⟨ya0, ya1, ya2, yaf⟩ := HD.at 5 rfl
           have ⟨za0, za1, za2, zaf⟩ := HD.at 4 rfl
           have ⟨ea0, ea1, ea2, _⟩ := HD.at 2 rfl
           have yaf0 := yaf 0
           have yaf1 := yaf 1
           have yaf2 := yaf 2
           have zaf0 := zaf 0
           have zaf1 := zaf 1
           have zaf2 := zaf 2
           have HHD := Lib.hid HD
           clear HD yaf zaf))
      all_goals (
        have HW := (HHD.out.set 5 rfl (.int .u8 (o5 : Int)) (.string (txt nm5)) (.slice a5 n5 c5)).set 4 rfl (.slice a nl cp) (.int .i64 (j5 : Int)) (.bool true)
        clear HHD hB F9 ya0 ya1 ya2 yaf0 yaf1 yaf2 za0 za1 za2 zaf0 zaf1 zaf2 ea0 ea1 ea2 p00 p01 p02 p10 p11 p12 py0 py1 py2 pyf0 pyf1 pyf2 pz0 pz1 pz2 pzf0 pzf1 pzf2 q00 q01 q02 q10 q11 q12 qy0 qy1 qy2 qyf0 qyf1 qyf2 qz0 qz1 qz2 qzf0 qzf1 qzf2 ne00 en00 ne01 en01 ne02 en02 ne03 en03 ne04 en04
        generalize (((((w9.setCell ⟨w.heap.size + 1, 0, none⟩ (.int .u8 (o5 : Int))).setCell ⟨w.heap.size + 1, 1, none⟩ (.string (txt nm5))).setCell ⟨w.heap.size + 1, 2, none⟩ (.slice a5 n5 c5)).setCell ⟨w.heap.size + 1 + 1, 0, none⟩ (.slice a nl cp)).setCell ⟨w.heap.size + 1 + 1, 1, none⟩ (.int .i64 (j5 : Int))).setCell ⟨w.heap.size + 1 + 1, 2, none⟩ (.bool true) = w10 at *
        have ⟨x0, x1, x2, _⟩ := HW.at 5 rfl
        have ⟨y0, y1, y2, _⟩ := HW.at 4 rfl
        have hdone := HW.done 0 rfl
        have hfr := HW.fr
        clear HW
        go_wp2_with fail
        exact bodyPost_ret (v := .tuple #[.agg #[.int .u8 (o5 : Int), .string (txt nm5), .slice a5 n5 c5], .agg #[.slice a nl cp, .int .i64 (j5 : Int), .bool true]]) (by simp [results, Try.results113, go_sem, x0, x1, x2, y0, y1, y2]) rfl ⟨_, rfl, hdone, hfr⟩)
  · have hl : ((txt wd).toList == [48]) = true := by assumption
    rw [txt_list] at hl
    have hwd : wd = [48] := beq_iff_eq.1 hl
    have hx := HX.out
    rw [if_neg (by rw [hwd]; decide), if_neg (by rw [hwd]; decide), if_neg (by rw [hwd]; decide), if_pos hwd] at hx
    obtain rfl := Option.some.inj hx
    clear hx hl hwd
    have HW4 : St w ((w2.alloc (.cells #[.slice a nl cp, .int .i64 ((i : Int) + 1), .bool b] 76))) S L (.slice a nl cp) [(w2.heap.size, .slice a nl cp, .int .i64 ((i : Int) + 1), .bool b), (w.heap.size + 1 + 1, .slice none 0 0, .int .i64 0, .bool false), (w.heap.size + 1, .int .u8 0, .string ⟨#[]⟩, .slice none 0 0), (w.heap.size, .slice a nl cp, .int .i64 (i : Int), .bool b)] [] := HH2.out.alloc (.slice a nl cp) (.int .i64 ((i : Int) + 1)) (.bool b) 76
    clear b0 b1 b2 HH2
    have H6 := HW4.add (leaf_trO _ _ 1 [])
    clear HW4
    generalize w2.alloc (.cells #[.slice a nl cp, .int .i64 ((i : Int) + 1), .bool b] 76) = w6 at *
    have ⟨p00, p01, p02, p0f⟩ := (H6).at 0 rfl
    clear p0f
    have ⟨py0, py1, py2, pyf⟩ := (H6).at 2 rfl
    have pyf0 := pyf 0
    have pyf1 := pyf 1
    have pyf2 := pyf 2
    clear pyf
    have ⟨pz0, pz1, pz2, pzf⟩ := (H6).at 1 rfl
    have pzf0 := pzf 0
    have pzf1 := pzf 1
    have pzf2 := pzf 2
    clear pzf
    have ⟨q00, q01, q02, q0f⟩ := (H6.drew).at 0 rfl
    clear q0f
    have ⟨qy0, qy1, qy2, qyf⟩ := (H6.drew).at 2 rfl
    have qyf0 := qyf 0
    have qyf1 := qyf 1
    have qyf2 := qyf 2
    clear qyf
    have ⟨qz0, qz1, qz2, qzf⟩ := (H6.drew).at 1 rfl
    have qzf0 := qzf 0
    have qzf1 := qzf 1
    have qzf2 := qzf 2
    clear qzf
    have lt0 : w.heap.size + 1 + 1 < w2.heap.size := H6.apart 0 1 _ _ (by decide) rfl rfl
    have ne00 : ¬ w2.heap.size = w.heap.size := by omega
    have en00 : ¬ w.heap.size = w2.heap.size := by omega
    have ne01 : ¬ w2.heap.size = w.heap.size + 1 := by omega
    have en01 : ¬ w.heap.size + 1 = w2.heap.size := by omega
    have ne02 : ¬ w2.heap.size = w.heap.size + 1 + 1 := by omega
    have en02 : ¬ w.heap.size + 1 + 1 = w2.heap.size := by omega
    have ne03 : ¬ w2.heap.size + 1 = w.heap.size + 1 := by omega
    have en03 : ¬ w.heap.size + 1 = w2.heap.size + 1 := by omega
    have ne04 : ¬ w2.heap.size + 1 = w.heap.size + 1 + 1 := by omega
    have en04 : ¬ w.heap.size + 1 + 1 = w2.heap.size + 1 := by omega
    clear lt0
    go_region
    clear p00 p01 p02 py0 py1 py2 pyf0 pyf1 pyf2 pz0 pz1 pz2 pzf0 pzf1 pzf2 q00 q01 q02 qy0 qy1 qy2 qyf0 qyf1 qyf2 qz0 qz1 qz2 qzf0 qzf1 qzf2 ne00 en00 ne01 en01 ne02 en02 ne03 en03 ne04 en04
    have HW := ((H6.set 2 rfl (.int .u8 1) (.string ⟨#[]⟩) (.slice none 0 0)).set 1 rfl (.slice a nl cp) (.int .i64 ((i : Int) + 1)) (.bool b)).drew
    generalize ((((((w6.setCell ⟨w.heap.size + 1, 0, none⟩ (.int .u8 1)).setCell ⟨w.heap.size + 1, 1, none⟩ (.string ⟨#[]⟩)).setCell ⟨w.heap.size + 1, 2, none⟩ (.slice none 0 0)).setCell ⟨w.heap.size + 1 + 1, 0, none⟩ (.slice a nl cp)).setCell ⟨w.heap.size + 1 + 1, 1, none⟩ (.int .i64 ((i : Int) + 1))).setCell ⟨w.heap.size + 1 + 1, 2, none⟩ (.bool b)) = w9 at *
    have ⟨x0, x1, x2, _⟩ := HW.at 2 rfl
    have ⟨y0, y1, y2, _⟩ := HW.at 1 rfl
    have hdone := HW.done 0 rfl
    have hfr := HW.fr
    clear HW
    go_wp2_with fail
    exact bodyPost_ret (v := .tuple #[.agg #[.int .u8 1, .string ⟨#[]⟩, .slice none 0 0], .agg #[.slice a nl cp, .int .i64 ((i : Int) + 1), .bool b]]) (by simp [results, Try.results113, go_sem, x0, x1, x2, y0, y1, y2]) rfl ⟨_, rfl, hdone, hfr⟩
  · have hl : ((txt wd).toList == [49]) = true := by assumption
    rw [txt_list] at hl
    have hwd : wd = [49] := beq_iff_eq.1 hl
    have hx := HX.out
    rw [if_neg (by rw [hwd]; decide), if_neg (by rw [hwd]; decide), if_neg (by rw [hwd]; decide), if_neg (by rw [hwd]; decide), if_pos hwd] at hx
    obtain rfl := Option.some.inj hx
    clear hx hl hwd
    have HW4 : St w ((w2.alloc (.cells #[.slice a nl cp, .int .i64 ((i : Int) + 1), .bool b] 76))) S L (.slice a nl cp) [(w2.heap.size, .slice a nl cp, .int .i64 ((i : Int) + 1), .bool b), (w.heap.size + 1 + 1, .slice none 0 0, .int .i64 0, .bool false), (w.heap.size + 1, .int .u8 0, .string ⟨#[]⟩, .slice none 0 0), (w.heap.size, .slice a nl cp, .int .i64 (i : Int), .bool b)] [] := HH2.out.alloc (.slice a nl cp) (.int .i64 ((i : Int) + 1)) (.bool b) 76
    clear b0 b1 b2 HH2
    have H6 := HW4.add (leaf_trO _ _ 2 [])
    clear HW4
    generalize w2.alloc (.cells #[.slice a nl cp, .int .i64 ((i : Int) + 1), .bool b] 76) = w6 at *
    have ⟨p00, p01, p02, p0f⟩ := (H6).at 0 rfl
    clear p0f
    have ⟨py0, py1, py2, pyf⟩ := (H6).at 2 rfl
    have pyf0 := pyf 0
    have pyf1 := pyf 1
    have pyf2 := pyf 2
    clear pyf
    have ⟨pz0, pz1, pz2, pzf⟩ := (H6).at 1 rfl
    have pzf0 := pzf 0
    have pzf1 := pzf 1
    have pzf2 := pzf 2
    clear pzf
    have ⟨q00, q01, q02, q0f⟩ := (H6.drew).at 0 rfl
    clear q0f
    have ⟨qy0, qy1, qy2, qyf⟩ := (H6.drew).at 2 rfl
    have qyf0 := qyf 0
    have qyf1 := qyf 1
    have qyf2 := qyf 2
    clear qyf
    have ⟨qz0, qz1, qz2, qzf⟩ := (H6.drew).at 1 rfl
    have qzf0 := qzf 0
    have qzf1 := qzf 1
    have qzf2 := qzf 2
    clear qzf
    have lt0 : w.heap.size + 1 + 1 < w2.heap.size := H6.apart 0 1 _ _ (by decide) rfl rfl
    have ne00 : ¬ w2.heap.size = w.heap.size := by omega
    have en00 : ¬ w.heap.size = w2.heap.size := by omega
    have ne01 : ¬ w2.heap.size = w.heap.size + 1 := by omega
    have en01 : ¬ w.heap.size + 1 = w2.heap.size := by omega
    have ne02 : ¬ w2.heap.size = w.heap.size + 1 + 1 := by omega
    have en02 : ¬ w.heap.size + 1 + 1 = w2.heap.size := by omega
    have ne03 : ¬ w2.heap.size + 1 = w.heap.size + 1 := by omega
    have en03 : ¬ w.heap.size + 1 = w2.heap.size + 1 := by omega
    have ne04 : ¬ w2.heap.size + 1 = w.heap.size + 1 + 1 := by omega
    have en04 : ¬ w.heap.size + 1 + 1 = w2.heap.size + 1 := by omega
    clear lt0
    go_region
    clear p00 p01 p02 py0 py1 py2 pyf0 pyf1 pyf2 pz0 pz1 pz2 pzf0 pzf1 pzf2 q00 q01 q02 qy0 qy1 qy2 qyf0 qyf1 qyf2 qz0 qz1 qz2 qzf0 qzf1 qzf2 ne00 en00 ne01 en01 ne02 en02 ne03 en03 ne04 en04
    have HW := ((H6.set 2 rfl (.int .u8 2) (.string ⟨#[]⟩) (.slice none 0 0)).set 1 rfl (.slice a nl cp) (.int .i64 ((i : Int) + 1)) (.bool b)).drew
    generalize ((((((w6.setCell ⟨w.heap.size + 1, 0, none⟩ (.int .u8 2)).setCell ⟨w.heap.size + 1, 1, none⟩ (.string ⟨#[]⟩)).setCell ⟨w.heap.size + 1, 2, none⟩ (.slice none 0 0)).setCell ⟨w.heap.size + 1 + 1, 0, none⟩ (.slice a nl cp)).setCell ⟨w.heap.size + 1 + 1, 1, none⟩ (.int .i64 ((i : Int) + 1))).setCell ⟨w.heap.size + 1 + 1, 2, none⟩ (.bool b)) = w9 at *
    have ⟨x0, x1, x2, _⟩ := HW.at 2 rfl
    have ⟨y0, y1, y2, _⟩ := HW.at 1 rfl
    have hdone := HW.done 0 rfl
    have hfr := HW.fr
    clear HW
    go_wp2_with fail
    exact bodyPost_ret (v := .tuple #[.agg #[.int .u8 2, .string ⟨#[]⟩, .slice none 0 0], .agg #[.slice a nl cp, .int .i64 ((i : Int) + 1), .bool b]]) (by simp [results, Try.results113, go_sem, x0, x1, x2, y0, y1, y2]) rfl ⟨_, rfl, hdone, hfr⟩
  · have n0 : ¬ wd = [] := by
      have he : (txt wd).toList.isEmpty = false := by assumption
      rw [txt_list] at he
      intro h; rw [h] at he; cases he
    have nq : ∀ s : List UInt8, ((txt wd).toList == s) = false → ¬ wd = s := fun s h => by rw [txt_list] at h; exact beq_eq_false_iff_ne.1 h
    have n1 := nq [33] (by assumption)
    have n2 := nq [40] (by assumption)
    have n3 := nq [48] (by assumption)
    have n4 := nq [49] (by assumption)
    have hx := HX.out
    rw [if_neg n0, if_neg n1, if_neg n2, if_neg n3, if_neg n4] at hx
    have HX2 := Lib.hid hx
    clear hx n0 n1 n2 n3 n4 nq
    have HW4 : St w ((w2.alloc (.cells #[.slice a nl cp, .int .i64 ((i : Int) + 1), .bool b] 76))) S L (.slice a nl cp) [(w2.heap.size, .slice a nl cp, .int .i64 ((i : Int) + 1), .bool b), (w.heap.size + 1 + 1, .slice none 0 0, .int .i64 0, .bool false), (w.heap.size + 1, .int .u8 0, .string ⟨#[]⟩, .slice none 0 0), (w.heap.size, .slice a nl cp, .int .i64 (i : Int), .bool b)] [] := HH2.out.alloc (.slice a nl cp) (.int .i64 ((i : Int) + 1)) (.bool b) 76
    clear b0 b1 b2 HH2
    generalize w2.alloc (.cells #[.slice a nl cp, .int .i64 ((i : Int) + 1), .bool b] 76) = w4 at *
    have hN := refName_any (txt wd) (by have h := hW i b; rw [HWD.out] at h; rw [txt_size]; omega) w4
    rw [txt_data] at hN
    refine hN.mono ?_
    rintro e w5 ⟨rfl, rfl⟩
    clear hN
    cases hnb : nameB wd with
    | true =>
      have hx := HX2.out
      rw [if_pos hnb] at hx
      obtain rfl := Option.some.inj hx
      have H6 := HW4.add (leaf_trO _ _ 3 wd)
      clear hx hnb HW4
      go_upto_region 20 with fail
      have ⟨p00, p01, p02, p0f⟩ := (H6).at 0 rfl
      clear p0f
      have ⟨py0, py1, py2, pyf⟩ := (H6).at 2 rfl
      have pyf0 := pyf 0
      have pyf1 := pyf 1
      have pyf2 := pyf 2
      clear pyf
      have ⟨pz0, pz1, pz2, pzf⟩ := (H6).at 1 rfl
      have pzf0 := pzf 0
      have pzf1 := pzf 1
      have pzf2 := pzf 2
      clear pzf
      have ⟨q00, q01, q02, q0f⟩ := (H6.drew).at 0 rfl
      clear q0f
      have ⟨qy0, qy1, qy2, qyf⟩ := (H6.drew).at 2 rfl
      have qyf0 := qyf 0
      have qyf1 := qyf 1
      have qyf2 := qyf 2
      clear qyf
      have ⟨qz0, qz1, qz2, qzf⟩ := (H6.drew).at 1 rfl
      have qzf0 := qzf 0
      have qzf1 := qzf 1
      have qzf2 := qzf 2
      clear qzf
      have lt0 : w.heap.size + 1 + 1 < w2.heap.size := H6.apart 0 1 _ _ (by decide) rfl rfl
      have ne00 : ¬ w2.heap.size = w.heap.size := by omega
      have en00 : ¬ w.heap.size = w2.heap.size := by omega
      have ne01 : ¬ w2.heap.size = w.heap.size + 1 := by omega
      have en01 : ¬ w.heap.size + 1 = w2.heap.size := by omega
      have ne02 : ¬ w2.heap.size = w.heap.size + 1 + 1 := by omega
      have en02 : ¬ w.heap.size + 1 + 1 = w2.heap.size := by omega
      have ne03 : ¬ w2.heap.size + 1 = w.heap.size + 1 := by omega
      have en03 : ¬ w.heap.size + 1 = w2.heap.size + 1 := by omega
      have ne04 : ¬ w2.heap.size + 1 = w.heap.size + 1 + 1 := by omega
      have en04 : ¬ w.heap.size + 1 + 1 = w2.heap.size + 1 := by omega
      clear lt0
      go_region
      clear p00 p01 p02 py0 py1 py2 pyf0 pyf1 pyf2 pz0 pz1 pz2 pzf0 pzf1 pzf2 q00 q01 q02 qy0 qy1 qy2 qyf0 qyf1 qyf2 qz0 qz1 qz2 qzf0 qzf1 qzf2 ne00 en00 ne01 en01 ne02 en02 ne03 en03 ne04 en04
      have HW := ((H6.set 2 rfl (.int .u8 3) (.string (txt wd)) (.slice none 0 0)).set 1 rfl (.slice a nl cp) (.int .i64 ((i : Int) + 1)) (.bool b)).drew
      generalize ((((((w4.setCell ⟨w.heap.size + 1, 0, none⟩ (.int .u8 3)).setCell ⟨w.heap.size + 1, 1, none⟩ (.string (txt wd))).setCell ⟨w.heap.size + 1, 2, none⟩ (.slice none 0 0)).setCell ⟨w.heap.size + 1 + 1, 0, none⟩ (.slice a nl cp)).setCell ⟨w.heap.size + 1 + 1, 1, none⟩ (.int .i64 ((i : Int) + 1))).setCell ⟨w.heap.size + 1 + 1, 2, none⟩ (.bool b)) = w9 at *
      have ⟨x0, x1, x2, _⟩ := HW.at 2 rfl
      have ⟨y0, y1, y2, _⟩ := HW.at 1 rfl
      have hdone := HW.done 0 rfl
      have hfr := HW.fr
      clear HW
      go_wp2_with fail
      exact bodyPost_ret (v := .tuple #[.agg #[.int .u8 3, .string (txt wd), .slice none 0 0], .agg #[.slice a nl cp, .int .i64 ((i : Int) + 1), .bool b]]) (by simp [results, Try.results113, go_sem, x0, x1, x2, y0, y1, y2]) rfl ⟨_, rfl, hdone, hfr⟩
    | false =>
      have hx := HX2.out
      rw [if_neg (by rw [hnb]; decide)] at hx
      obtain rfl := Option.some.inj hx
      clear hx hnb
      have hB := bad_any i b (.slice a nl cp) ⟨_, _, _, rfl⟩ w4
      unfold rdV at hB
      have ⟨b0, b1, b2, _⟩ := HW4.at 3 rfl
      have HH4 := Lib.hid HW4
      clear HW4
      go_wp2_with fail
      refine hB.mono ?_
      rintro e w5 ⟨rfl, F5⟩
      have H5 := (HH4.out.call F5).add (leaf_trO w5 _ 0 [])
      clear b0 b1 b2 HH4 F5 hB
      have ⟨y0, y1, y2, yf⟩ := H5.at 2 rfl
      have yf0 := yf 0
      have yf1 := yf 1
      have yf2 := yf 2
      have ⟨z0, z1, z2, zf⟩ := H5.at 1 rfl
      have zf0 := zf 0
      have zf1 := zf 1
      have zf2 := zf 2
      clear yf zf
      have HW := (H5.set 2 rfl (.int .u8 0) (.string ⟨#[]⟩) (.slice none 0 0)).set 1 rfl (.slice a nl cp) (.int .i64 (i : Int)) (.bool true)
      have HHW := Lib.hid HW
      clear H5 HW
      go_wp2_with fail
      have HW := HHW.out
      clear HHW y0 y1 y2 yf0 yf1 yf2 z0 z1 z2 zf0 zf1 zf2
      generalize (((((w5.setCell ⟨w.heap.size + 1, 0, none⟩ (.int .u8 0)).setCell ⟨w.heap.size + 1, 1, none⟩ (.string ⟨#[]⟩)).setCell ⟨w.heap.size + 1, 2, none⟩ (.slice none 0 0)).setCell ⟨w.heap.size + 1 + 1, 0, none⟩ (.slice a nl cp)).setCell ⟨w.heap.size + 1 + 1, 1, none⟩ (.int .i64 (i : Int))).setCell ⟨w.heap.size + 1 + 1, 2, none⟩ (.bool true) = w9 at *
      have ⟨x0, x1, x2, _⟩ := HW.at 2 rfl
      have ⟨y0, y1, y2, _⟩ := HW.at 1 rfl
      have hdone := HW.done 0 rfl
      have hfr := HW.fr
      clear HW
      exact bodyPost_ret (v := .tuple #[.agg #[.int .u8 0, .string ⟨#[]⟩, .slice none 0 0], .agg #[.slice a nl cp, .int .i64 (i : Int), .bool true]]) (by simp [results, Try.results113, go_sem, x0, x1, x2, y0, y1, y2]) rfl ⟨_, rfl, hdone, hfr⟩
end Go.Proofs.Ytbjdaibkcchllaa
