import Derived.Test.YtbjdaibkcchllaaQp1
import Derived.Test.YtbjdaibkcchllaaQe1
import Derived.Test.YtbjdaibkcchllaaOpT
/- The reference's reader: implies, out of row's contract. -/
namespace Go.Proofs.Ytbjdaibkcchllaa
open Go.RowKit

def RdPost (w : World) (v : Value) (x : Tr × Nat × Bool) (e : Ending) (w' : World) : Prop :=
  ∃ v', e = .returned (.tuple #[v', .agg #[v, .int .i64 (x.2.1 : Int), .bool x.2.2]]) ∧ TrO w' (fun b => w.heap.size ≤ b ∧ b < w'.heap.size) x.1 v' ∧ Fr nob w w'
def ImpC (L : List (Nat × List UInt8)) (n : Nat) : Prop := ∀ (i : Nat) (b : Bool) (v : Value) (S : Nat → Prop) (w : World) (x : Tr × Nat × Bool), impliesR L n i b = some x → 10 * (L.length - i) + 6 ≤ n → i ≤ L.length → (∀ b, S b → b < w.heap.size) → TokL w S L v →
  Calls Try.prog 82 #[rdV v i b] w (RdPost w v x)
def RowC4 (L : List (Nat × List UInt8)) (n : Nat) : Prop := ∀ (k i : Nat) (b : Bool) (v : Value) (S : Nat → Prop) (w : World) (x : Tr × Nat × Bool), 1 ≤ k → k ≤ 4 → rowR L n k i b = some x → 10 * (L.length - i) + 1 + k ≤ n → i ≤ L.length → (∀ b, S b → b < w.heap.size) → TokL w S L v →
  Calls Try.prog 100 #[rdV v i b, .int .i64 (k : Int)] w (RdPost w v x)
set_option maxRecDepth 20000 in
set_option maxHeartbeats 4000000 in
theorem imp_one (L : List (Nat × List UInt8)) (hLL : L.length ≤ 1000000) (n : Nat) (hrow : RowC4 L n) (ih : ImpC L n) : ImpC L (n + 1) := by
  intro i b v S w x hx hn hi hS hT
  rw [impliesR] at hx
  obtain ⟨x1, hx1, hj⟩ := (enough L n).2.1 4 i b (by omega) (by omega) (by omega)
  rw [hx1, Option.bind_some] at hx
  have hT0 := hT
  obtain ⟨a, cp, rfl, _⟩ := hT0
  obtain ⟨nl, hnl⟩ : ∃ nl, L.length = nl := ⟨_, rfl⟩
  rw [hnl] at hT ⊢
  obtain ⟨W1, hW1⟩ : ∃ W1, ((w.alloc (.cells #[.slice a nl cp, .int .i64 (i : Int), .bool b] 76)).alloc (.cells #[.int .u8 0, .string ⟨#[]⟩, .slice none 0 0] 25)).alloc (.cells #[.slice none 0 0, .int .i64 0, .bool false] 76) = W1 := ⟨_, rfl⟩
  have A1 : Fr nob w W1 := by rw [← hW1]; exact (((Fr.refl nob w).alloc _).alloc _).alloc _
  have hbx : Box3 W1 w.heap.size (.slice a nl cp) (.int .i64 (i : Int)) (.bool b) := by
    rw [← hW1]; exact (Box3.new w _ _ _ _).kept (((Fr.refl nob _).alloc _).alloc _) (fun h => h)
  have hby : Box3 W1 (w.heap.size + 1) (.int .u8 0) (.string ⟨#[]⟩) (.slice none 0 0) := by
    have h := (Box3.new (w.alloc (.cells #[.slice a nl cp, .int .i64 (i : Int), .bool b] 76)) (.int .u8 0) (.string ⟨#[]⟩) (.slice none 0 0) 25).kept ((Fr.refl nob _).alloc (.cells #[.slice none 0 0, .int .i64 0, .bool false] 76)) (fun h => h)
    rw [hW1, World.size_alloc] at h; exact h
  have hbz : Box3 W1 (w.heap.size + 1 + 1) (.slice none 0 0) (.int .i64 0) (.bool false) := by
    have h := Box3.new ((w.alloc (.cells #[.slice a nl cp, .int .i64 (i : Int), .bool b] 76)).alloc (.cells #[.int .u8 0, .string ⟨#[]⟩, .slice none 0 0] 25)) (.slice none 0 0) (.int .i64 0) (.bool false) 76
    rw [hW1, World.size_alloc, World.size_alloc] at h; exact h
  have hT1 := hT.kept (T := S) A1 (fun b h _ => ⟨fun h => h, h⟩)
  have hsz := A1.size
  have hR := hrow 4 i b _ S W1 x1 (by omega) (by omega) hx1 (by omega) hi (fun b h => by have := hS b h; omega) hT1
  have HT1 := Lib.hid hT1
  have HBX := Lib.hid hbx
  have HBY := Lib.hid hby
  have HBZ := Lib.hid hbz
  have HF := Lib.hid A1
  have HX := Lib.hid hx
  have HJ := Lib.hid hj
  have HI := Lib.hid hi
  have HNN := Lib.hid hn
  have HIH := Lib.hid ih
  have HSS := Lib.hid hS
  have HLL := Lib.hid hLL
  have ⟨b0, b1, b2, bf⟩ := hbx
  have hfr : W1.frozen? ⟨w.heap.size, 0, none⟩ = false := bf 0
  clear hx hj hi hn ih hS hLL A1 hbx hby hbz hT hT1 hsz bf hrow hx1
  unfold RdPost at hR
  go_enter Try.func82, Try.ntmps82
  go_upto_region 1 with fail
  (try rw [hW1])
  clear hW1
  go_wp2_with fail
  refine hR.mono ?_
  rintro e w2 ⟨v2, rfl, hT2, F2⟩
  obtain ⟨o2, nm2, a2, n2, c2, rfl⟩ := hT2.form
  obtain ⟨t1, j1, f1⟩ := x1
  dsimp only at hT2
  clear b0 b1 b2
  have A2 : Fr nob w2 (w2.alloc (.cells #[.int .u8 (o2 : Int), .string (txt nm2), .slice a2 n2 c2] 25)) := (Fr.refl nob w2).alloc _
  have hbe := Box3.new w2 (.int .u8 (o2 : Int)) (.string (txt nm2)) (.slice a2 n2 c2) 25
  have G2 := F2.trans A2 (fun _ _ h => h)
  have hx3 := HBX.out.kept G2 (fun h => h)
  obtain ⟨hx4, FX⟩ := hx3.set (.slice a nl cp) (.int .i64 (j1 : Int)) (.bool f1)
  have ⟨b0, b1, b2, bf⟩ := hx3
  have bf0 := bf 0
  have bf1 := bf 1
  have bf2 := bf 2
  have hlt := HBX.out.lt
  have hz2 := F2.size
  have HX4 := Lib.hid hx4
  have HE4 := Lib.hid (hbe.kept FX (by omega))
  have HY4 := Lib.hid ((HBY.out.kept G2 (fun h => h)).kept FX (by omega))
  have HZ4 := Lib.hid ((HBZ.out.kept G2 (fun h => h)).kept FX (by omega))
  have hWz : w.heap.size + 2 < W1.heap.size := HBZ.out.lt
  have HT4 := Lib.hid ((HT1.out.kept (T := S) G2 (fun b h _ => ⟨fun h => h, h⟩)).kept (T := S) FX (fun b h _ => ⟨show ¬ b = w.heap.size by have := HSS.out b h; omega, h⟩))
  have HU4 := Lib.hid ((hT2.kept (T := fun b => W1.heap.size ≤ b ∧ b < w2.heap.size) A2 (fun b h _ => ⟨fun h => h, h⟩)).kept (T := fun b => W1.heap.size ≤ b ∧ b < w2.heap.size) FX (fun b h _ => ⟨show ¬ b = w.heap.size by have := h.1; omega, h⟩))
  have HF4 := Lib.hid ((HF.out.trans G2 (fun _ _ h => h)).trans' (T := nob) FX (fun _ _ h => h) (fun j hj h => by have e : j = w.heap.size := h; omega))
  have hze := HE4.out.lt
  have HSZ4 := Lib.hid (And.intro hWz (And.intro hz2 hze))
  clear hR hfr hx3 hx4 hbe hT2 F2 A2 G2 FX HT1 HBX HBY HBZ HF hWz hz2 hze hlt
  go_upto_region 2 with fail
  generalize (((w2.alloc (.cells #[.int .u8 (o2 : Int), .string (txt nm2), .slice a2 n2 c2] 25)).setCell ⟨w.heap.size, 0, none⟩ (.slice a nl cp)).setCell ⟨w.heap.size, 1, none⟩ (.int .i64 (j1 : Int))).setCell ⟨w.heap.size, 2, none⟩ (.bool f1) = w4 at *
  have hj1 : j1 ≤ 1000000 := by
    have h1 : j1 ≤ max i L.length := HJ.out.2
    have h2 := HI.out
    have h3 := HLL.out
    omega
  have hK : Calls Try.prog 83 #[.agg #[.slice a nl cp, .int .i64 (j1 : Int), .bool f1], .string ⟨#[61, 62]⟩] w4 _ := skip_any [61, 62] L j1 f1 _ S w4 (by omega) HT4.out
  have ⟨b0, b1, b2, _⟩ := HX4.out
  clear bf0 bf1 bf2 bf hj1
  cases hsk : skipP L [61, 62] j1 f1 with
  | false =>
    have hx2 : (t1, j1, f1) = x := by
      have h := HX.out
      rw [hsk, if_neg (by decide)] at h
      exact Option.some.inj h
    rw [hsk, if_neg (by decide)] at hK
    unfold rdV at hK
    subst hx2
    clear hsk
    go_wp2_with fail
    refine hK.mono ?_
    rintro e w5 ⟨rfl, F5⟩
    have A5 : Fr nob w5 (w5.alloc (.cells #[.slice a nl cp, .int .i64 (j1 : Int), .bool f1] 76)) := (Fr.refl nob w5).alloc _
    have G5 := F5.trans A5 (fun _ _ h => h)
    have HX6 := Lib.hid (HX4.out.kept G5 (fun h => h))
    have HE6 := Lib.hid (HE4.out.kept G5 (fun h => h))
    have HY6 := Lib.hid (HY4.out.kept G5 (fun h => h))
    have HZ6 := Lib.hid (HZ4.out.kept G5 (fun h => h))
    have HU6 := Lib.hid (HU4.out.kept (T := fun b => W1.heap.size ≤ b ∧ b < w2.heap.size) G5 (fun b h _ => ⟨fun h => h, h⟩))
    have HF6 := Lib.hid (HF4.out.trans G5 (fun _ _ h => h))
    have HG6 := Lib.hid G5.size
    clear hK F5 A5 G5 b0 b1 b2 HX4 HE4 HY4 HZ4 HU4 HF4 HT4 HX
    go_upto_region 4 with fail
    generalize w5.alloc (.cells #[.slice a nl cp, .int .i64 (j1 : Int), .bool f1] 76) = w6 at *
    have D : Fr nob w6 w6.drew := (Fr.refl nob w6).drew
    have ⟨b0, b1, b2, _⟩ := HX6.out.kept D (fun h => h)
    have ⟨k0, k1, k2, _⟩ := HE6.out.kept D (fun h => h)
    have ⟨m0, m1, m2, _⟩ := HX6.out
    have ⟨n0, n1, n2', _⟩ := HE6.out
    have ⟨r0, r1, r2, rf⟩ := HY6.out
    have ⟨s0, s1, s2, sf⟩ := HZ6.out
    have rf0 := rf 0
    have rf1 := rf 1
    have rf2 := rf 2
    have sf0 := sf 0
    have sf1 := sf 1
    have sf2 := sf 2
    clear rf sf
    have hy := HY6.out.kept D (fun h => h)
    have hz := HZ6.out.kept D (fun h => h)
    have ⟨d0, d1, d2, df⟩ := hy
    have ⟨g0, g1, g2, gf⟩ := hz
    have df0 := df 0
    have df1 := df 1
    have df2 := df 2
    have gf0 := gf 0
    have gf1 := gf 1
    have gf2 := gf 2
    have HD := Lib.hid D
    have HYD := Lib.hid hy
    have HZD := Lib.hid hz
    clear df gf D hy hz
    go_region
    clear b0 b1 b2 k0 k1 k2 d0 d1 d2 df0 df1 df2 g0 g1 g2 gf0 gf1 gf2 m0 m1 m2 n0 n1 n2' r0 r1 r2 rf0 rf1 rf2 s0 s1 s2 sf0 sf1 sf2 HYD HZD HD
    obtain ⟨Y1, FY⟩ := HY6.out.set (.int .u8 (o2 : Int)) (.string (txt nm2)) (.slice a2 n2 c2)
    obtain ⟨Z1, FZ⟩ := (HZ6.out.kept FY (by omega)).set (.slice a nl cp) (.int .i64 (j1 : Int)) (.bool f1)
    have Y2 := Y1.kept FZ (by omega)
    have FF := HF6.out.trans' (T := nob) (FY.trans' (T := fun j => w.heap.size ≤ j) FZ (fun j _ h => by have e : j = w.heap.size + 1 := h; omega) (fun j _ h => by have e : j = w.heap.size + 1 + 1 := h; omega)) (fun _ _ h => h) (fun j hj h => by have e : w.heap.size ≤ j := h; omega)
    have hsz := HSZ4.out
    have hz6 := HG6.out
    have FS := (FY.trans' (T := fun j => j < W1.heap.size) FZ (fun j _ h => by have e : j = w.heap.size + 1 := h; omega) (fun j _ h => by have e : j = w.heap.size + 1 + 1 := h; omega))
    have hfs := FS.size
    have U7 := HU6.out.kept (T := fun b => W1.heap.size ≤ b ∧ b < w2.heap.size) FS (fun b h _ => ⟨fun h' => by have e : b < W1.heap.size := h'; omega, h⟩)
    clear FY FZ FS Y1 HY6 HZ6 HX6 HE6 HU6 HF6 HG6
    generalize (((((w6.setCell ⟨w.heap.size + 1, 0, none⟩ (.int .u8 (o2 : Int))).setCell ⟨w.heap.size + 1, 1, none⟩ (.string (txt nm2))).setCell ⟨w.heap.size + 1, 2, none⟩ (.slice a2 n2 c2)).setCell ⟨w.heap.size + 1 + 1, 0, none⟩ (.slice a nl cp)).setCell ⟨w.heap.size + 1 + 1, 1, none⟩ (.int .i64 (j1 : Int))).setCell ⟨w.heap.size + 1 + 1, 2, none⟩ (.bool f1) = w7 at *
    have x0 : w7.drew.cell? ⟨w.heap.size + 1, 0, none⟩ = some (.int .u8 (o2 : Int)) := Y2.c0
    have x1 : w7.drew.cell? ⟨w.heap.size + 1, 1, none⟩ = some (.string (txt nm2)) := Y2.c1
    have x2 : w7.drew.cell? ⟨w.heap.size + 1, 2, none⟩ = some (.slice a2 n2 c2) := Y2.c2
    have y0 : w7.drew.cell? ⟨w.heap.size + 1 + 1, 0, none⟩ = some (.slice a nl cp) := Z1.c0
    have y1 : w7.drew.cell? ⟨w.heap.size + 1 + 1, 1, none⟩ = some (.int .i64 (j1 : Int)) := Z1.c1
    have y2 : w7.drew.cell? ⟨w.heap.size + 1 + 1, 2, none⟩ = some (.bool f1) := Z1.c2
    have U8 := U7.kept (T := fun b => w.heap.size ≤ b ∧ b < w7.drew.heap.size) ((Fr.refl nob w7).drew) (fun b h h' => ⟨fun h => h, by omega, h'⟩)
    have FE := FF.drew
    clear Y2 Z1 FF U7
    go_wp2_with fail
    exact bodyPost_ret (v := .tuple #[.agg #[.int .u8 (o2 : Int), .string (txt nm2), .slice a2 n2 c2], .agg #[.slice a nl cp, .int .i64 (j1 : Int), .bool f1]]) (by simp [results, Try.results82, go_sem, x0, x1, x2, y0, y1, y2]) rfl ⟨_, rfl, U8, FE⟩
  | true =>
    have hlt : j1 < L.length := skip_lt (by decide) hsk
    obtain ⟨y, hy, hyi⟩ := (enough L n).2.2.2.1 (j1 + 1) f1 (by have h1 : i ≤ j1 := HJ.out.1; have h2 := HNN.out; omega)
    have hx2 : (.mk 8 [] [t1, y.1], y.2) = x := by
      have h := HX.out
      rw [hsk, if_pos rfl, hy] at h
      exact Option.some.inj h
    rw [hsk, if_pos rfl] at hK
    unfold rdV at hK
    subst hx2
    obtain ⟨t5, j5, f5⟩ := y
    have HY5 := Lib.hid (And.intro hy (And.intro hyi hlt))
    clear hsk hy hyi hlt HX
    go_wp2_with fail
    refine hK.mono ?_
    rintro e w5 ⟨rfl, F5⟩
    have A5 : Fr nob w5 (w5.alloc (.cells #[.slice a nl cp, .int .i64 ((j1 : Int) + 1), .bool f1] 76)) := (Fr.refl nob w5).alloc _
    have G5 := F5.trans A5 (fun _ _ h => h)
    have HR6 := Lib.hid (Box3.new w5 (.slice a nl cp) (.int .i64 ((j1 : Int) + 1)) (.bool f1) 76)
    have HX6 := Lib.hid (HX4.out.kept G5 (fun h => h))
    have HE6 := Lib.hid (HE4.out.kept G5 (fun h => h))
    have HY6 := Lib.hid (HY4.out.kept G5 (fun h => h))
    have HZ6 := Lib.hid (HZ4.out.kept G5 (fun h => h))
    have HT6 := Lib.hid (HT4.out.kept (T := S) G5 (fun b h _ => ⟨fun h => h, h⟩))
    have HU6 := Lib.hid (HU4.out.kept (T := fun b => W1.heap.size ≤ b ∧ b < w2.heap.size) G5 (fun b h _ => ⟨fun h => h, h⟩))
    have HF6 := Lib.hid (HF4.out.trans G5 (fun _ _ h => h))
    have HG6 := Lib.hid G5.size
    clear hK F5 A5 G5 b0 b1 b2 HX4 HE4 HY4 HZ4 HU4 HF4 HT4
    go_upto_region 5 with fail
    generalize w5.alloc (.cells #[.slice a nl cp, .int .i64 ((j1 : Int) + 1), .bool f1] 76) = w6 at *
    have hf6 := HF6.out.size
    have hI := HIH.out (j1 + 1) f1 _ S w6 _ HY5.out.1 (by have h1 : i ≤ j1 := HJ.out.1; have h2 := HNN.out; have h3 := HY5.out.2.2; omega) (by have h3 := HY5.out.2.2; omega) (fun b h => by have := HSS.out b h; omega) HT6.out
    unfold RdPost rdV at hI
    rw [show ((j1 + 1 : Nat) : Int) = (j1 : Int) + 1 from rfl] at hI
    have ⟨b0, b1, b2, _⟩ := HR6.out
    clear hf6
    go_wp2_with fail
    refine hI.mono ?_
    rintro e w7 ⟨v7, rfl, hT7, F7⟩
    obtain ⟨o7, nm7, a7, n7, c7, rfl⟩ := hT7.form
    clear b0 b1 b2 hI
    have A7 : Fr nob w7 (w7.alloc (.cells #[.int .u8 (o7 : Int), .string (txt nm7), .slice a7 n7 c7] 25)) := (Fr.refl nob w7).alloc _
    have hbe := Box3.new w7 (.int .u8 (o7 : Int)) (.string (txt nm7)) (.slice a7 n7 c7) 25
    have G7 := F7.trans A7 (fun _ _ h => h)
    have hx3 := HX6.out.kept G7 (fun h => h)
    obtain ⟨hx4, FX⟩ := hx3.set (.slice a nl cp) (.int .i64 (j5 : Int)) (.bool f5)
    have ⟨b0, b1, b2, bf⟩ := hx3
    have bf0 := bf 0
    have bf1 := bf 1
    have bf2 := bf 2
    have hsz := HSZ4.out
    have hg6 := HG6.out
    have hz7 := F7.size
    have HX8 := Lib.hid hx4
    have HE8 := Lib.hid ((HE6.out.kept G7 (fun h => h)).kept FX (by omega))
    have HK8 := Lib.hid (hbe.kept FX (by omega))
    have HY8 := Lib.hid ((HY6.out.kept G7 (fun h => h)).kept FX (by omega))
    have HZ8 := Lib.hid ((HZ6.out.kept G7 (fun h => h)).kept FX (by omega))
    have HU8 := Lib.hid ((HU6.out.kept (T := fun b => W1.heap.size ≤ b) G7 (fun b h _ => ⟨fun h => h, h.1⟩)).kept (T := fun b => W1.heap.size ≤ b) FX (fun b h _ => ⟨show ¬ b = w.heap.size by have h : W1.heap.size ≤ b := h; omega, h⟩))
    have HV8 := Lib.hid ((hT7.kept (T := fun b => W1.heap.size ≤ b) A7 (fun b h _ => ⟨fun h => h, by have := h.1; omega⟩)).kept (T := fun b => W1.heap.size ≤ b) FX (fun b h _ => ⟨show ¬ b = w.heap.size by have h : W1.heap.size ≤ b := h; omega, h⟩))
    have HF8 := Lib.hid ((HF6.out.trans G7 (fun _ _ h => h)).trans' (T := nob) FX (fun _ _ h => h) (fun j hj h => by have e : j = w.heap.size := h; omega))
    have hk8 := HK8.out.lt
    have HSZ8 := Lib.hid (And.intro hsz.1 (And.intro (Nat.le_trans (Nat.le_trans (Nat.le_trans hsz.2.1 (Nat.le_of_lt hsz.2.2)) hg6) hz7) hk8))
    clear hx3 hx4 hbe hT7 F7 A7 G7 FX HX6 HE6 HY6 HZ6 HU6 HF6 HG6 HT6 HR6 hsz hg6 hz7 hk8 bf
    go_upto_region 6 with fail
    generalize (((w7.alloc (.cells #[.int .u8 (o7 : Int), .string (txt nm7), .slice a7 n7 c7] 25)).setCell ⟨w.heap.size, 0, none⟩ (.slice a nl cp)).setCell ⟨w.heap.size, 1, none⟩ (.int .i64 (j5 : Int))).setCell ⟨w.heap.size, 2, none⟩ (.bool f5) = w8 at *
    clear b0 b1 b2 bf0 bf1 bf2
    obtain ⟨A, hA⟩ : ∃ A : Array Value, A = #[.int .u8 (o2 : Int), .string (txt nm2), .slice a2 n2 c2, .int .u8 (o7 : Int), .string (txt nm7), .slice a7 n7 c7] := ⟨_, rfl⟩
    have D : Fr nob w8 (w8.alloc (.cells A 25)) := (Fr.refl nob w8).alloc _
    have D1 : Fr nob w8 (w8.alloc (.cells A 25)).drew := D.drew
    have D0 : Fr nob w8 w8.drew := (Fr.refl nob w8).drew
    have ⟨b0, b1, b2, _⟩ := HX8.out.kept D (fun h => h)
    have ⟨e0, e1, e2, _⟩ := HX8.out.kept D1 (fun h => h)
    have ⟨k0, k1, k2, _⟩ := HE8.out.kept D0 (fun h => h)
    have ⟨l0, l1, l2, _⟩ := HK8.out.kept D0 (fun h => h)
    have ⟨m0, m1, m2, _⟩ := HX8.out.kept D0 (fun h => h)
    have ⟨p0, p1, p2, _⟩ := HX8.out
    have ⟨q0, q1, q2, _⟩ := HE8.out
    have ⟨u0, u1, u2, _⟩ := HK8.out
    have ⟨d0, d1, d2, df⟩ := HY8.out.kept D (fun h => h)
    have ⟨g0, g1, g2, gf⟩ := HZ8.out.kept D (fun h => h)
    have ⟨r0, r1, r2, rf⟩ := HY8.out.kept D1 (fun h => h)
    have ⟨s0, s1, s2, sf⟩ := HZ8.out.kept D1 (fun h => h)
    have df0 := df 0
    have df1 := df 1
    have df2 := df 2
    have gf0 := gf 0
    have gf1 := gf 1
    have gf2 := gf 2
    have rf0 := rf 0
    have rf1 := rf 1
    have rf2 := rf 2
    have sf0 := sf 0
    have sf1 := sf 1
    have sf2 := sf 2
    clear df gf rf sf D D0 D1
    subst hA
    go_region
    clear b0 b1 b2 e0 e1 e2 k0 k1 k2 l0 l1 l2 m0 m1 m2 p0 p1 p2 q0 q1 q2 u0 u1 u2 d0 d1 d2 df0 df1 df2 g0 g1 g2 gf0 gf1 gf2 r0 r1 r2 rf0 rf1 rf2 s0 s1 s2 sf0 sf1 sf2
    have DA : Fr nob w8 (w8.alloc (.cells #[.int .u8 (o2 : Int), .string (txt nm2), .slice a2 n2 c2, .int .u8 (o7 : Int), .string (txt nm7), .slice a7 n7 c7] 25)) := (Fr.refl nob w8).alloc _
    have hnew := heap_alloc_new w8 (.cells #[.int .u8 (o2 : Int), .string (txt nm2), .slice a2 n2 c2, .int .u8 (o7 : Int), .string (txt nm7), .slice a7 n7 c7] 25)
    have hc : ∀ (j : Nat) u, (#[.int .u8 (o2 : Int), .string (txt nm2), .slice a2 n2 c2, .int .u8 (o7 : Int), .string (txt nm7), .slice a7 n7 c7] : Array Value)[j]? = some u → (w8.alloc (.cells #[.int .u8 (o2 : Int), .string (txt nm2), .slice a2 n2 c2, .int .u8 (o7 : Int), .string (txt nm7), .slice a7 n7 c7] 25)).cell? ⟨w8.heap.size, j, none⟩ = some u := fun j u h => (World.cell?_alloc_at _ _ _ _ rfl).trans h
    have hszA : (w8.alloc (.cells #[.int .u8 (o2 : Int), .string (txt nm2), .slice a2 n2 c2, .int .u8 (o7 : Int), .string (txt nm7), .slice a7 n7 c7] 25)).heap.size = w8.heap.size + 1 := by simp
    have hsz := HSZ8.out
    have hYl := HY8.out.lt
    have hZl := HZ8.out.lt
    obtain ⟨Y1, FY⟩ := (HY8.out.kept DA (fun h => h)).set (.int .u8 8) (.string ⟨#[]⟩) (.slice (some ⟨w8.heap.size, 0, none⟩) 2 2)
    obtain ⟨Z1, FZ⟩ := ((HZ8.out.kept DA (fun h => h)).kept FY (by omega)).set (.slice a nl cp) (.int .i64 (j5 : Int)) (.bool f5)
    have Y2 := Y1.kept FZ (by omega)
    have FS := (FY.trans' (T := fun j => j = w.heap.size + 1 ∨ j = w.heap.size + 1 + 1) FZ (fun j _ h => .inl h) (fun j _ h => .inr h))
    have hfs := FS.size
    have FF := (HF8.out.trans DA (fun _ _ h => h)).trans' (T := nob) FS (fun _ _ h => h) (fun j hj h => by rcases h with e | e <;> omega)
    have U7 := (HU8.out.kept (T := fun b => W1.heap.size ≤ b ∧ b < w8.heap.size) DA (fun b h h' => ⟨fun h => h, h, h'⟩)).kept (T := fun b => W1.heap.size ≤ b ∧ b < w8.heap.size) FS (fun b h _ => ⟨fun h' => by have := h.1; rcases h' with e | e <;> omega, h⟩)
    have V7 := (HV8.out.kept (T := fun b => W1.heap.size ≤ b ∧ b < w8.heap.size) DA (fun b h h' => ⟨fun h => h, h, h'⟩)).kept (T := fun b => W1.heap.size ≤ b ∧ b < w8.heap.size) FS (fun b h _ => ⟨fun h' => by have := h.1; rcases h' with e | e <;> omega, h⟩)
    have hng : ¬ (w8.heap.size = w.heap.size + 1 ∨ w8.heap.size = w.heap.size + 1 + 1) := by omega
    have c0 := FS.cell' (hc 0 _ rfl) hng
    have c1 := FS.cell' (hc 1 _ rfl) hng
    have c2' := FS.cell' (hc 2 _ rfl) hng
    have c3 := FS.cell' (hc 3 _ rfl) hng
    have c4 := FS.cell' (hc 4 _ rfl) hng
    have c5 := FS.cell' (hc 5 _ rfl) hng
    clear FY FZ FS Y1 HY8 HZ8 HX8 HE8 HK8 HU8 HV8 HF8 DA hnew hc
    generalize ((((((w8.alloc (.cells #[.int .u8 (o2 : Int), .string (txt nm2), .slice a2 n2 c2, .int .u8 (o7 : Int), .string (txt nm7), .slice a7 n7 c7] 25)).setCell ⟨w.heap.size + 1, 0, none⟩ (.int .u8 8)).setCell ⟨w.heap.size + 1, 1, none⟩ (.string ⟨#[]⟩)).setCell ⟨w.heap.size + 1, 2, none⟩ (.slice (some ⟨w8.heap.size, 0, none⟩) 2 2)).setCell ⟨w.heap.size + 1 + 1, 0, none⟩ (.slice a nl cp)).setCell ⟨w.heap.size + 1 + 1, 1, none⟩ (.int .i64 (j5 : Int))).setCell ⟨w.heap.size + 1 + 1, 2, none⟩ (.bool f5) = w9 at *
    have T9 : TrO w9.drew (fun b => w.heap.size ≤ b ∧ b < w9.drew.heap.size) (.mk 8 [] [t1, t5]) (.agg #[.int .u8 8, .string ⟨#[]⟩, .slice (some ⟨w8.heap.size, 0, none⟩) 2 2]) := by
      have hd : w9.drew.heap.size = w9.heap.size := rfl
      have U8 := U7.kept (T := fun b => w.heap.size ≤ b ∧ b < w9.drew.heap.size) ((Fr.refl nob w9).drew) (fun b h h' => ⟨fun h => h, by have := h.1; omega, h'⟩)
      have V8 := V7.kept (T := fun b => w.heap.size ≤ b ∧ b < w9.drew.heap.size) ((Fr.refl nob w9).drew) (fun b h h' => ⟨fun h => h, by have := h.1; omega, h'⟩)
      rw [TrO]
      refine ⟨_, _, rfl, fun _ => ⟨w8.heap.size, 0, rfl, ⟨by omega, by omega⟩, ?_⟩⟩
      rw [KidsO, KidsO, KidsO]
      exact ⟨⟨_, _, _, c0, c1, c2', U8⟩, ⟨_, _, _, c3, c4, c5, V8⟩, trivial⟩
    have x0 : w9.drew.cell? ⟨w.heap.size + 1, 0, none⟩ = some (.int .u8 8) := Y2.c0
    have x1 : w9.drew.cell? ⟨w.heap.size + 1, 1, none⟩ = some (.string ⟨#[]⟩) := Y2.c1
    have x2 : w9.drew.cell? ⟨w.heap.size + 1, 2, none⟩ = some (.slice (some ⟨w8.heap.size, 0, none⟩) 2 2) := Y2.c2
    have y0 : w9.drew.cell? ⟨w.heap.size + 1 + 1, 0, none⟩ = some (.slice a nl cp) := Z1.c0
    have y1 : w9.drew.cell? ⟨w.heap.size + 1 + 1, 1, none⟩ = some (.int .i64 (j5 : Int)) := Z1.c1
    have y2 : w9.drew.cell? ⟨w.heap.size + 1 + 1, 2, none⟩ = some (.bool f5) := Z1.c2
    have FE := FF.drew
    clear Y2 Z1 FF U7 V7 c0 c1 c2' c3 c4 c5
    go_wp2_with fail
    exact bodyPost_ret (v := .tuple #[.agg #[.int .u8 8, .string ⟨#[]⟩, .slice (some ⟨w8.heap.size, 0, none⟩) 2 2], .agg #[.slice a nl cp, .int .i64 (j5 : Int), .bool f5]]) (by simp [results, Try.results82, go_sem, x0, x1, x2, y0, y1, y2]) rfl ⟨_, rfl, T9, FE⟩
end Go.Proofs.Ytbjdaibkcchllaa
/- Boxes and trees of a reader's frame, kept together. -/
namespace Go.Proofs.Ytbjdaibkcchllaa
open Go.RowKit

abbrev Bx := Nat × Value × Value × Value
/-- blocks of the frame's own, but for its boxes -/
def Zn (w0 w : World) (bs : List Bx) (b : Nat) : Prop := w0.heap.size ≤ b ∧ b < w.heap.size ∧ ∀ (j : Nat) y, bs[j]? = some y → y.1 ≠ b
structure St (w0 w : World) (S : Nat → Prop) (L : List (Nat × List UInt8)) (v : Value) (bs : List Bx) (ts : List (Tr × Value)) : Prop where
  fr : Fr nob w0 w
  box : ∀ (j : Nat) x, bs[j]? = some x → w0.heap.size ≤ x.1 ∧ Box3 w x.1 x.2.1 x.2.2.1 x.2.2.2
  apart : ∀ (i j : Nat) x y, i < j → bs[i]? = some x → bs[j]? = some y → y.1 < x.1
  tree : ∀ (j : Nat) x, ts[j]? = some x → TrO w (Zn w0 w bs) x.1 x.2
  tok : TokL w S L v
  low : ∀ b, S b → b < w0.heap.size
theorem St.start {w : World} {S : Nat → Prop} {L : List (Nat × List UInt8)} {v : Value} (hT : TokL w S L v) (hS : ∀ b, S b → b < w.heap.size) : St w w S L v [] [] :=
  ⟨Fr.refl nob w, fun j x h => by simp at h, fun i j x y _ h => by simp at h, fun j x h => by simp at h, hT, hS⟩
theorem St.call {w0 w w' : World} {S : Nat → Prop} {L : List (Nat × List UInt8)} {v : Value} {bs : List Bx} {ts : List (Tr × Value)} (H : St w0 w S L v bs ts) (F : Fr nob w w') : St w0 w' S L v bs ts :=
  ⟨H.fr.trans F (fun _ _ h => h), fun j x h => ⟨(H.box j x h).1, (H.box j x h).2.kept F (fun h => h)⟩, H.apart,
    fun j x h => (H.tree j x h).kept F (fun _ hb _ => ⟨fun h => h, hb.1, Nat.lt_of_lt_of_le hb.2.1 F.size, hb.2.2⟩), H.tok.kept F (fun _b h _ => ⟨fun h => h, h⟩), H.low⟩
theorem St.alloc {w0 w : World} {S : Nat → Prop} {L : List (Nat × List UInt8)} {v : Value} {bs : List Bx} {ts : List (Tr × Value)} (H : St w0 w S L v bs ts) (x y z : Value) (T : TypeId) :
    St w0 (w.alloc (.cells #[x, y, z] T)) S L v ((w.heap.size, x, y, z) :: bs) ts := by
  have F : Fr nob w (w.alloc (.cells #[x, y, z] T)) := (Fr.refl nob w).alloc _
  have H' := H.call F
  refine ⟨H'.fr, fun j u h => ?_, fun i j u u' hij h h' => ?_, fun j u h => ?_, H'.tok, H.low⟩
  · cases j with
    | zero =>
      obtain rfl : (w.heap.size, x, y, z) = u := by simpa using h
      exact ⟨H.fr.size, Box3.new w x y z T⟩
    | succ j => exact H'.box j u (by simpa using h)
  · cases j with
    | zero => omega
    | succ j =>
      cases i with
      | zero =>
        obtain rfl : (w.heap.size, x, y, z) = u := by simpa using h
        exact (H.box j u' (by simpa using h')).2.lt
      | succ i => exact H.apart i j u u' (by omega) (by simpa using h) (by simpa using h')
  · refine (H.tree j u h).kept F (fun b hb hlt => ⟨fun h => h, hb.1, Nat.lt_of_lt_of_le hb.2.1 F.size, fun j y hy => ?_⟩)
    cases j with
    | zero =>
      obtain rfl := Option.some.inj hy
      exact fun e => by have e2 : w.heap.size = b := e; omega
    | succ j => exact hb.2.2 j y (by simpa using hy)
theorem St.add {w0 w : World} {S : Nat → Prop} {L : List (Nat × List UInt8)} {v : Value} {bs : List Bx} {ts : List (Tr × Value)} (H : St w0 w S L v bs ts) {t : Tr} {u : Value} (hT : TrO w (Zn w0 w bs) t u) : St w0 w S L v bs ((t, u) :: ts) :=
  ⟨H.fr, H.box, H.apart, fun j x h => by
    cases j with
    | zero => obtain rfl := Option.some.inj h; exact hT
    | succ j => exact H.tree j x (by simpa using h), H.tok, H.low⟩
/-- behind a call that returns a tree -/
theorem St.ret {w0 w w' : World} {S : Nat → Prop} {L : List (Nat × List UInt8)} {v : Value} {bs : List Bx} {ts : List (Tr × Value)} (H : St w0 w S L v bs ts) (F : Fr nob w w') {t : Tr} {u : Value} (hT : TrO w' (fun b => w.heap.size ≤ b ∧ b < w'.heap.size) t u) : St w0 w' S L v bs ((t, u) :: ts) :=
  (H.call F).add (hT.kept (Fr.refl nob w') (fun b hb _ => ⟨fun h => h, Nat.le_trans H.fr.size hb.1, hb.2, fun j y hy e => by have := (H.box j y hy).2.lt; have := hb.1; omega⟩))
/-- a box is written -/
theorem St.upd {w0 w w' : World} {S : Nat → Prop} {L : List (Nat × List UInt8)} {v : Value} {bs : List Bx} {ts : List (Tr × Value)} (H : St w0 w S L v bs ts) (i : Nat) {g : Nat} {x y z x' y' z' : Value} (hi : bs[i]? = some (g, x, y, z)) (X : Box3 w' g x' y' z') (F : Fr (fun k => k = g) w w') :
    St w0 w' S L v (bs.set i (g, x', y', z')) ts := by
  obtain ⟨hg, hb⟩ := H.box i _ hi
  have hil : i < bs.length := (List.getElem?_eq_some_iff.1 hi).1
  have hj : ∀ (j : Nat) u, (bs.set i (g, x', y', z'))[j]? = some u → (j = i ∧ u = (g, x', y', z')) ∨ (j ≠ i ∧ bs[j]? = some u) := by
    intro j u h
    rw [List.getElem?_set] at h
    by_cases e : i = j
    · subst e
      rw [if_pos rfl, if_pos hil] at h
      exact .inl ⟨rfl, (Option.some.inj h).symm⟩
    · rw [if_neg e] at h
      exact .inr ⟨fun h => e h.symm, h⟩
  have hne : ∀ (j : Nat) u, j ≠ i → bs[j]? = some u → u.1 ≠ g := by
    intro j u hji h e
    rcases Nat.lt_or_gt_of_ne hji with h1 | h1
    · have := H.apart j i _ _ h1 h hi
      rw [e] at this; exact Nat.lt_irrefl _ this
    · have := H.apart i j _ _ h1 hi h
      rw [e] at this; exact Nat.lt_irrefl _ this
  have hfst : ∀ (j : Nat) u, (bs.set i (g, x', y', z'))[j]? = some u → ∃ u', bs[j]? = some u' ∧ u'.1 = u.1 := by
    intro j u h
    rcases hj j u h with ⟨rfl, rfl⟩ | ⟨_, h2⟩
    · exact ⟨_, hi, rfl⟩
    · exact ⟨_, h2, rfl⟩
  refine ⟨H.fr.trans' (T := nob) F (fun _ _ h => h) (fun b hb h => by have e : b = g := h; have h2 : w0.heap.size ≤ g := hg; omega), fun j u h => ?_, fun a b u u' hab h h' => ?_, fun j u h => ?_, ?_, H.low⟩
  · rcases hj j u h with ⟨_, rfl⟩ | ⟨h1, h2⟩
    · exact ⟨hg, X⟩
    · exact ⟨(H.box j u h2).1, (H.box j u h2).2.kept F (hne j u h1 h2)⟩
  · obtain ⟨p, hp, ep⟩ := hfst a u h
    obtain ⟨q, hq, eq⟩ := hfst b u' h'
    rw [← ep, ← eq]
    exact H.apart a b p q hab hp hq
  · refine (H.tree j u h).kept F (fun b hb hlt => ⟨fun e => hb.2.2 i _ hi (Eq.symm e), hb.1, Nat.lt_of_lt_of_le hb.2.1 F.size, fun j y hy => ?_⟩)
    obtain ⟨q, hq, eq⟩ := hfst j y hy
    rw [← eq]
    exact hb.2.2 j q hq
  · exact H.tok.kept F (fun b hb _ => ⟨fun e => by have := H.low b hb; have h2 : w0.heap.size ≤ g := hg; have e2 : b = g := e; omega, hb⟩)
theorem St.set {w0 w : World} {S : Nat → Prop} {L : List (Nat × List UInt8)} {v : Value} {bs : List Bx} {ts : List (Tr × Value)} (H : St w0 w S L v bs ts) (i : Nat) {g : Nat} {x y z : Value} (hi : bs[i]? = some (g, x, y, z)) (x' y' z' : Value) :
    St w0 (((w.setCell ⟨g, 0, none⟩ x').setCell ⟨g, 1, none⟩ y').setCell ⟨g, 2, none⟩ z') S L v (bs.set i (g, x', y', z')) ts := by
  obtain ⟨hg, hb⟩ := H.box i _ hi
  obtain ⟨X, F⟩ := hb.set x' y' z'
  exact H.upd i hi X F
/-- the middle cell of a box is written -/
theorem St.set1 {w0 w : World} {S : Nat → Prop} {L : List (Nat × List UInt8)} {v : Value} {bs : List Bx} {ts : List (Tr × Value)} (H : St w0 w S L v bs ts) (i : Nat) {g : Nat} {x y z : Value} (hi : bs[i]? = some (g, x, y, z)) (y' : Value) :
    St w0 (w.setCell ⟨g, 1, none⟩ y') S L v (bs.set i (g, x, y', z)) ts := by
  obtain ⟨hg, ⟨h0, h1, h2, hf⟩⟩ := H.box i _ hi
  dsimp only at hg h0 h1 h2 hf
  refine H.upd i hi ⟨by rw [World.cell?_setCell_other (h := by simp)]; exact h0, World.cell?_setCell_same' _ _ _ (by rw [h1]; rfl), by rw [World.cell?_setCell_other (h := by simp)]; exact h2, fun o => by rw [World.frozen?_setCell]; exact hf o⟩ (fr_store w g 1 y')
theorem St.at {w0 w : World} {S : Nat → Prop} {L : List (Nat × List UInt8)} {v : Value} {bs : List Bx} {ts : List (Tr × Value)} (H : St w0 w S L v bs ts) (j : Nat) {g : Nat} {x y z : Value} (h : bs[j]? = some (g, x, y, z)) : Box3 w g x y z := (H.box j _ h).2
theorem St.drew {w0 w : World} {S : Nat → Prop} {L : List (Nat × List UInt8)} {v : Value} {bs : List Bx} {ts : List (Tr × Value)} (H : St w0 w S L v bs ts) : St w0 w.drew S L v bs ts := H.call (Fr.refl nob w).drew
/-- a list of trees is laid -/
theorem St.slice {w0 w : World} {S : Nat → Prop} {L : List (Nat × List UInt8)} {v : Value} {bs : List Bx} {ts : List (Tr × Value)} (H : St w0 w S L v bs ts) (op n : Nat) (us : List Tr) (A : Array Value) (T : TypeId) (hn : us.length = n) (hR : RowL w (Zn w0 w bs) us A.toList) :
    St w0 (w.alloc (.cells A T)) S L v bs ((.mk op [] us, .agg #[.int .u8 (op : Int), .string (txt []), .slice (some ⟨w.heap.size, 0, none⟩) n n]) :: ts) := by
  have F : Fr nob w (w.alloc (.cells A T)) := (Fr.refl nob w).alloc _
  have hs : (w.alloc (.cells A T)).heap.size = w.heap.size + 1 := by simp
  refine (H.call F).add ?_
  rw [TrO]
  refine ⟨_, n, by rw [hn], fun _ => ⟨w.heap.size, 0, rfl, ⟨H.fr.size, by omega, fun j y hy e => by have := (H.box j y hy).2.lt; omega⟩, ?_⟩⟩
  have hR2 : RowL (w.alloc (.cells A T)) (Zn w0 (w.alloc (.cells A T)) bs) us A.toList := hR.kept F (fun b hb _ => ⟨fun h => h, hb.1, Nat.lt_of_lt_of_le hb.2.1 F.size, hb.2.2⟩)
  refine kidsO_of2 fun j u hu => ?_
  obtain ⟨o, nm', a, n, c, e0, e1, e2, hT⟩ := hR2.at hu
  rw [show 0 + (0 + j) * 3 = j * 3 by omega]
  have hc : ∀ (j : Nat) u, A.toList[j]? = some u → (w.alloc (.cells A T)).cell? ⟨w.heap.size, j, none⟩ = some u := fun j u h => (World.cell?_alloc_at _ _ _ _ rfl).trans (by simpa using h)
  exact ⟨_, _, _, hc _ _ e0, hc _ _ e1, hc _ _ e2, hT⟩
theorem St.done {w0 w : World} {S : Nat → Prop} {L : List (Nat × List UInt8)} {v : Value} {bs : List Bx} {ts : List (Tr × Value)} (H : St w0 w S L v bs ts) (j : Nat) {t : Tr} {u : Value} (h : ts[j]? = some (t, u)) : TrO w (fun b => w0.heap.size ≤ b ∧ b < w.heap.size) t u :=
  (H.tree j _ h).kept (Fr.refl nob w) (fun _b hb _ => ⟨fun h => h, hb.1, hb.2.1⟩)
theorem St.lt {w0 w : World} {S : Nat → Prop} {L : List (Nat × List UInt8)} {v : Value} {bs : List Bx} {ts : List (Tr × Value)} (H : St w0 w S L v bs ts) : ∀ b, S b → b < w.heap.size := fun b h => Nat.lt_of_lt_of_le (H.low b h) H.fr.size
end Go.Proofs.Ytbjdaibkcchllaa
