import Derived.Test.YtaojojjdfdlgpaaQf
namespace Go.Proofs.Ytaojojjdfdlgpaa
open Go.RowKit

/-! formula -/
theorem joinsF_ok {s : List UInt8} {m d level : Nat} {t : Tr} {j : Nat} {r : Res (Tr × Nat)} (h : joinsF s m (d + 1) level t j = r) (hr : r ≠ .out) : ∃ m', m = m' + 1 ∧ (joinF s m' (level + d) t j).bind (fun x => joinsF s m' d level x.1 x.2) = r := by
  cases m with
  | zero => rw [joinsF] at h; exact absurd h.symm hr
  | succ m' => rw [joinsF] at h; exact ⟨m', rfl, h⟩
set_option maxHeartbeats 4000000 in
theorem form_any (s : ByteArray) (n : Nat) (ihL : LeastC s n) (ihJ : ∀ m, m < n → JoinC s m) : FormC s (n + 1) := by
  intro level p i w hlev h hi hro
  rw [formF] at hro ⊢
  obtain ⟨r, hr⟩ : ∃ r, ((leastF (TX s) n i).bind fun x => joinsF (TX s) n (6 - level) level x.1 x.2) = r := ⟨_, rfl⟩
  rw [hr] at hro ⊢
  have hlt := h.lt
  have F0 : Fr nob w (w.alloc (.cells #[.int .u8 0, .string ⟨#[]⟩, .slice none 0 0] 24)) := (Fr.refl nob w).alloc _
  have HB0 := Lib.hid (Box3.new w (.int .u8 0) (.string ⟨#[]⟩) (.slice none 0 0) 24)
  have hL : leastF (TX s) n i ≠ .out := fun e => hro (by rw [← hr, e]; rfl)
  have hC := ihL p i _ (h.kept F0 (fun h => h)) hi hL
  simp only [World.size_alloc] at hC
  have HR := Lib.hid hr
  have HRO := Lib.hid hro
  clear hr hro h hL
  go_enter Try.func111, Try.ntmps111
  go_wp2_with fail
  refine hC.mono ?_
  rintro e w1 ⟨F1, ⟨t0, j0, v0, hv, hj0, rfl, hT, hP1⟩ | ⟨k, hk, rfl⟩⟩
  · have hjo : joinsF (TX s) n (6 - level) level t0 j0 = r := by rw [← HR.out, hv]; rfl
    obtain ⟨o, nm, a, ln, cp, rfl⟩ := hT.form
    have hB1 := HB0.out.kept F1 (by have := hlt; omega)
    have hw1 := hB1.lt
    have FW1 := (F0.mono (fun _ _ h => h.elim)).trans F1 (fun _ _ h => h)
    have N2 := Box3.new w1 (.int .u8 (o : Int)) (.string (txt nm)) (.slice a ln cp) 24
    have G2 : Fr nob w1 (w1.alloc (.cells #[.int .u8 (o : Int), .string (txt nm), .slice a ln cp] 24)) := (Fr.refl nob w1).alloc _
    have HN2 := Lib.hid N2
    have HB2 := Lib.hid (hB1.kept G2 (fun h => h))
    have HT2 := Lib.hid (hT.kept (T := fun b => w.heap.size ≤ b ∧ b ≠ w.heap.size ∧ b ≠ w1.heap.size) G2 (fun b h h' => ⟨fun h => h, by have := F0.size; simp at this; have e : w.heap.size + 1 ≤ b := h; omega, by have e : w.heap.size + 1 ≤ b := h; omega, by omega⟩))
    have HP2 := Lib.hid (hP1.kept G2 (fun h => h))
    have FW2 := Lib.hid (FW1.trans G2 (fun _ _ h => h.elim))
    have HJO := Lib.hid hjo
    clear hv hT hP1 F1 N2 G2 hB1 hC HB0 F0 FW1 hjo
    go_wp2_with fail
    generalize w1.alloc (.cells #[.int .u8 (o : Int), .string (txt nm), .slice a ln cp] 24) = w2 at *
    go_loopg [6] (6 - level) (fun d kv wr => kv = .int .i64 (((level + d : Nat) : Int) - 1) ∧ level + d ≤ 6 ∧ ∃ (m : Nat) (t : Tr) (j : Nat) (o : Nat) (nm : List UInt8) (a : Option Addr) (ln cp : Nat), m ≤ n ∧ joinsF (TX s) m d level t j = r ∧ j ≤ s.size ∧ TrV wr (fun b => w.heap.size ≤ b ∧ b ≠ w.heap.size ∧ b ≠ w1.heap.size) t (.agg #[.int .u8 (o : Int), .string (txt nm), .slice a ln cp]) ∧ PSt wr p s j (tokP (TX s) j) ∧ Box3 wr w1.heap.size (.int .u8 (o : Int)) (.string (txt nm)) (.slice a ln cp) ∧ Box3 wr w.heap.size (.int .u8 0) (.string ⟨#[]⟩) (.slice none 0 0) ∧ Fr (fun k => k = p) w wr)
    case atStart => exact ⟨by congr 1; omega, by omega, n, t0, j0, o, nm, a, ln, cp, Nat.le_refl _, HJO.out, hj0, HT2.out, HP2.out, HN2.out, HB2.out, FW2.out⟩
    case round =>
      clear HT2 HP2 HN2 HB2 FW2 HJO
      obtain ⟨rfl, hd6, m, t, j, o, nm, a, ln, cp, hm, hjo, hj, hT, hP, hN, hB, FW⟩ := hrel
      have HT := Lib.hid hT
      have HP := Lib.hid hP
      have HN := Lib.hid hN
      have HB := Lib.hid hB
      have HF := Lib.hid FW
      have ⟨g0, g1, g2, gf⟩ := hN
      have ⟨d0, d1, d2, df⟩ := hB
      clear hT hP hN hB FW
      cases gk with
      | zero =>
        have hrt : Res.ok (t, j) = r := by
          cases m with
          | zero => rw [joinsF] at hjo; exact absurd hjo.symm HRO.out
          | succ m' => rw [joinsF] at hjo; exact hjo
        have HRT := Lib.hid hrt
        have df0 := df 0
        have df1 := df 1
        have df2 := df 2
        clear hjo hrt df gf
        go_wp2_with fail
        obtain ⟨X, FX⟩ := HB.out.set (.int .u8 (o : Int)) (.string (txt nm)) (.slice a ln cp)
        clear d0 d1 d2 df0 df1 df2 g0 g1 g2
        generalize ((wr.setCell ⟨w.heap.size, 0, none⟩ (.int .u8 (o : Int))).setCell ⟨w.heap.size, 1, none⟩ (.string (txt nm))).setCell ⟨w.heap.size, 2, none⟩ (.slice a ln cp) = w5 at *
        have x0 := X.c0
        have x1 := X.c1
        have x2 := X.c2
        have hpq : p ≠ w.heap.size := by omega
        refine bodyPost_ret (v := .agg #[.int .u8 (o : Int), .string (txt nm), .slice a ln cp]) (by simp [results, Try.results111, go_sem, x0, x1, x2]) rfl ⟨HF.out.trans' FX (fun _ _ h => h) (fun k hk h => by have e : k = w.heap.size := h; omega), .inl ⟨t, j, _, HRT.out.symm, hj, rfl, ?_, HP.out.kept FX (fun h => hpq h)⟩⟩
        exact HT.out.kept (T := fun b => w.heap.size ≤ b) FX (fun b h h' => ⟨fun e => h.2.1 e, h.1⟩)
      | succ d =>
        obtain ⟨m', rfl, hjo'⟩ := joinsF_ok hjo HRO.out
        have hJ : joinF (TX s) m' (level + d) t j ≠ .out := fun e => HRO.out (by rw [← hjo', e]; rfl)
        have hK := ihJ m' (by omega) (level + d) t _ _ p j wr (by omega) HT.out (fun b h => by have := hlt; have := h.1; omega) HP.out hj hJ
        have HJO := Lib.hid hjo'
        have gf0 := gf 0
        have gf1 := gf 1
        have gf2 := gf 2
        have ek : ((level + (d + 1) : Nat) : Int) - 1 = ((level + d : Nat) : Int) := by omega
        rw [ek]
        obtain ⟨K, hKe⟩ : ∃ K, level + d = K := ⟨_, rfl⟩
        have hKl : level ≤ K := by omega
        have hK6 : K ≤ 5 := by omega
        rw [hKe] at hK ⊢
        have HKE := Lib.hid hKe
        clear hjo hjo' hJ ek df gf hKe
        go_wp2_with fail
        refine hK.mono ?_
        rintro e w4 ⟨F4, ⟨t4, j4, v4, hv4, hj4, rfl, hT4, hP4⟩ | ⟨k, hk, rfl⟩⟩
        · obtain ⟨o4, nm4, a4, ln4, cp4, rfl⟩ := hT4.form
          have hN4 := HN.out.kept F4 (by have := HF.out.size; have := hlt; omega)
          have HB4 := Lib.hid (HB.out.kept F4 (by have := hlt; omega))
          have HF4 := Lib.hid (HF.out.trans F4 (fun _ _ h => h))
          have hwr : w1.heap.size < wr.heap.size := HN.out.lt
          obtain ⟨X, FX⟩ := hN4.set (.int .u8 (o4 : Int)) (.string (txt nm4)) (.slice a4 ln4 cp4)
          have ⟨e0, e1, e2, ef⟩ := hN4
          have ef0 := ef 0
          have ef1 := ef 1
          have ef2 := ef 2
          have HX := Lib.hid X
          have HT5 := Lib.hid (hT4.kept (T := fun b => w.heap.size ≤ b ∧ b ≠ w.heap.size ∧ b ≠ w1.heap.size) FX (fun b h h' => by
            have e : (w.heap.size ≤ b ∧ b ≠ w.heap.size ∧ b ≠ w1.heap.size) ∨ wr.heap.size ≤ b := h
            have : w.heap.size < w1.heap.size := hw1
            exact ⟨by show ¬ b = w1.heap.size; omega, by omega, by omega, by omega⟩))
          have HP5 := Lib.hid (hP4.kept FX (show ¬ p = w1.heap.size by have := hw1; omega))
          have HB5 := Lib.hid (HB4.out.kept FX (show ¬ w.heap.size = w1.heap.size by have := hw1; omega))
          have HF5 := Lib.hid (HF4.out.trans' FX (fun _ _ h => h) (fun k hk h => by have e : k = w1.heap.size := h; have := hw1; omega))
          have HV4 := Lib.hid hv4
          clear ef X FX hT4 hP4 hv4 F4 hN4 hK HB4 HF4 HT HP HN HB HF g0 g1 g2 gf0 gf1 gf2 d0 d1 d2
          go_wp2_with fail
          generalize ((w4.setCell ⟨w1.heap.size, 0, none⟩ (.int .u8 (o4 : Int))).setCell ⟨w1.heap.size, 1, none⟩ (.string (txt nm4))).setCell ⟨w1.heap.size, 2, none⟩ (.slice a4 ln4 cp4) = w5 at *
          go_roundg d
          case measure => omega
          case rel => exact ⟨by rw [← HKE.out], by omega, m', t4, j4, o4, nm4, a4, ln4, cp4, by omega, by rw [← HJO.out, HKE.out, HV4.out]; rfl, hj4, HT5.out, HP5.out, HX.out, HB5.out, HF5.out⟩
        · go_wp2_with fail
          refine ⟨rfl, HF.out.trans F4 (fun _ _ h => h), .inr ⟨k, ?_, rfl⟩⟩
          rw [← HJO.out, HKE.out, hk]; rfl
  · go_wp2_with fail
    refine ⟨rfl, (F0.mono (fun _ _ h => h.elim)).trans F1 (fun _ _ h => h), .inr ⟨k, ?_, rfl⟩⟩
    rw [← HR.out, hk]; rfl
end Go.Proofs.Ytaojojjdfdlgpaa
