import Derived.Test.YtaojojjdfdlgpaaQh
import Derived.Maps.AppendAt
import Derived.OwnWalk
import Derived.Laws.OwnMore
namespace Go.Proofs.Ytaojojjdfdlgpaa
open Go.RowKit

/-! row: trees beside one another, appended to -/
def KidsL (w : World) (S : Nat → Prop) : List Tr → List Value → Prop
  | [], cs => cs = []
  | t :: ts, cs => ∃ x y z rest, cs = x :: y :: z :: rest ∧ TrV w S t (.agg #[x, y, z]) ∧ KidsL w S ts rest
theorem KidsL.kept {w w' : World} {S S' T : Nat → Prop} (f : Fr S' w w') (hS : ∀ b, S b → b < w.heap.size → ¬ S' b ∧ T b) : ∀ {ts : List Tr} {cs : List Value}, KidsL w S ts cs → KidsL w' T ts cs
  | [], _, h => h
  | _ :: _, _, ⟨x, y, z, rest, hc, hT, hK⟩ => ⟨x, y, z, rest, hc, hT.kept f hS, KidsL.kept f hS hK⟩
theorem KidsL.snoc {w : World} {S : Nat → Prop} {t : Tr} {x y z : Value} (hT : TrV w S t (.agg #[x, y, z])) : ∀ {ts : List Tr} {cs : List Value}, KidsL w S ts cs → KidsL w S (ts ++ [t]) (cs ++ [x, y, z])
  | [], _, h => by
    cases h
    exact ⟨x, y, z, [], rfl, hT, rfl⟩
  | _ :: _, _, ⟨x', y', z', rest, hc, hT', hK⟩ => by
    subst hc
    exact ⟨x', y', z', rest ++ [x, y, z], rfl, hT', KidsL.snoc hT hK⟩
theorem KidsL.toV {w : World} {S : Nat → Prop} {g : Nat} : ∀ {ts : List Tr} {cs : List Value} {i : Nat}, KidsL w S ts cs → (∀ k u, cs[k]? = some u → w.cell? ⟨g, i * 3 + k, none⟩ = some u) → KidsV w S ts g i
  | [], _, _, _, _ => by rw [KidsV]; trivial
  | _ :: _, _, i, ⟨x, y, z, rest, hc, hT, hK⟩, h => by
    subst hc
    rw [KidsV]
    refine ⟨⟨x, y, z, h 0 x rfl, h 1 y rfl, h 2 z rfl, hT⟩, KidsL.toV hK fun k u hu => ?_⟩
    have := h (k + 3) u (by simpa using hu)
    rwa [show i * 3 + (k + 3) = (i + 1) * 3 + k by omega] at this
theorem info_expr : (Try.prog.info? 24).map (fun i => (i.zero, i.size, i.bytes)) = some (some (.agg #[.int .u8 0, .string ⟨#[]⟩, .slice none 0 0]), 3, 48) := by kernel_rfl
theorem three_new (w : World) (a b c : Value) (T : TypeId) : ∀ j u, [a, b, c][j]? = some u → (w.alloc (.cells #[a, b, c] T)).cell? ((⟨w.heap.size, 0, none⟩ : Addr).add j) = some u := by
  intro j u h
  have B := Box3.new w a b c T
  match j, h with
  | 0, h => simp at h; subst h; exact B.c0
  | 1, h => simp at h; subst h; exact B.c1
  | 2, h => simp at h; subst h; exact B.c2
theorem kidsF_step {s : List UInt8} {m op : Nat} {acc : List Tr} {j : Nat} {r : Res (List Tr × Nat)} (h : kidsF s m op acc j = r) (hr : r ≠ .out) : ∃ m', m = m' + 1 ∧ (if tokP s j = sgnP op 1 then (accP s j).bind fun j1 => (formF s m' (kidP op 1) j1).bind fun y => kidsF s m' op (acc ++ [y.1]) y.2 else .ok (acc, j)) = r := by
  cases m with
  | zero => rw [kidsF] at h; exact absurd h.symm hr
  | succ m' => rw [kidsF] at h; exact ⟨m', rfl, h⟩
def TS (S : Nat → Prop) (w : World) (g b : Nat) : Prop := (S b ∨ w.heap.size ≤ b) ∧ b ≠ w.heap.size ∧ b ≠ w.heap.size + 1 ∧ b ≠ g

set_option maxHeartbeats 4000000 in
theorem row_any (s : ByteArray) (hs : s.size ≤ 9223372036854775807) (n : Nat) (hn : n ≤ 1000000000000) (ihF : ∀ m, m < n → FormC s m) : RowC s (n + 1) := by
  intro op t v S p i w hop hT hS h hi hro
  rw [rowF] at hro ⊢
  obtain ⟨o, nm, a, ln, cp, rfl⟩ := hT.form
  have hlt := h.lt
  have F1 : Fr nob w ((w.alloc (.cells #[.int .u8 (o : Int), .string (txt nm), .slice a ln cp] 24)).alloc (.cells #[.int .u8 0, .string ⟨#[]⟩, .slice none 0 0] 24)) := ((Fr.refl nob w).alloc _).alloc _
  have N0 := Box3.new w (.int .u8 (o : Int)) (.string (txt nm)) (.slice a ln cp) 24
  have N1 := N0.kept (S := nob) ((Fr.refl nob (w.alloc (.cells #[.int .u8 (o : Int), .string (txt nm), .slice a ln cp] 24))).alloc (.cells #[.int .u8 0, .string ⟨#[]⟩, .slice none 0 0] 24)) (fun h => h)
  have B1 := Box3.new (w.alloc (.cells #[.int .u8 (o : Int), .string (txt nm), .slice a ln cp] 24)) (.int .u8 0) (.string ⟨#[]⟩) (.slice none 0 0) 24
  simp only [World.size_alloc] at B1
  have hT1 := hT.kept (T := fun b => S b ∧ b < w.heap.size) F1 (fun b h h' => ⟨fun h => h, h, h'⟩)
  have h1 := h.kept F1 (fun h => h)
  have hsg : ∀ w, Calls Try.prog 82 #[.int .u8 (op : Int), .int .i64 1] w fun e w' => e = .returned (.string (txt (sgnP op 1))) ∧ w = w' := sign_any op 1
  have hsq : ∀ w, Calls Try.prog 82 #[.int .u8 (op : Int), .int .i64 1] w fun e w' => e = .returned (.string (txt (sgnP op 1))) ∧ w' = w := fun w => (hsg w).mono fun e w' h => ⟨h.1, h.2.symm⟩
  have hz2 : ((w.alloc (.cells #[.int .u8 (o : Int), .string (txt nm), .slice a ln cp] 24)).alloc (.cells #[.int .u8 0, .string ⟨#[]⟩, .slice none 0 0] 24)).heap.size = w.heap.size + 2 := by simp
  by_cases htk : tokP (TX s) i = sgnP op 1
  · rw [if_pos htk] at hro ⊢
    obtain ⟨r, hr⟩ : ∃ r, ((kidsF (TX s) n op [t] i).bind fun y => Res.ok (Tr.mk op [] y.1, y.2)) = r := ⟨_, rfl⟩
    rw [hr] at hro ⊢
    have HTK := Lib.hid htk
    have q6 : ((txt (sgnP op 1)).toList == (txt (sgnP op 1)).toList) = true := by simp
    rw [htk] at h1
    have c0 := h1.c0
    have c1 := h1.c1
    have c2 := h1.c2
    have HR := Lib.hid hr
    have HRO := Lib.hid hro
    have HT1 := Lib.hid hT1
    have HN1 := Lib.hid N1
    have HB1 := Lib.hid B1
    have HF1 := Lib.hid F1
    have HS := Lib.hid hS
    have H1 := Lib.hid h1
    have HZ := Lib.hid hz2
    clear hr hro htk hT1 N1 B1 F1 hS h1 h hT N0 hz2
    obtain ⟨i0, hi0, hz0, hz1, hz2⟩ := info_parts info_expr
    have hTSp : ∀ g b, TS S w g b → ¬ b = p := fun g b h => by
      rcases h.1 with h1 | h1
      · exact HS.out b h1
      · omega
    have e0 := HN1.out.c0
    have e1 := HN1.out.c1
    have e2 := HN1.out.c2
    go_enter Try.func134, Try.ntmps134
    go_wp2_with fail
    generalize (w.alloc (.cells #[.int .u8 (o : Int), .string (txt nm), .slice a ln cp] 24)).alloc (.cells #[.int .u8 0, .string ⟨#[]⟩, .slice none 0 0] 24) = W0 at *
    go_quiet ((go_at_call 82; exact Calls.quiet_of_same (hsq _)))
    have D1 : Fr nob W0 (W0.drewN nq) := (Fr.refl nob W0).drewN nq
    replace e0 := D1.cell e0 (fun h => h)
    replace e1 := D1.cell e1 (fun h => h)
    replace e2 := D1.cell e2 (fun h => h)
    have hz1' : (W0.drewN nq).heap.size = w.heap.size + 2 := HZ.out
    have G1 : Fr nob (W0.drewN nq) ((W0.drewN nq).alloc (.cells #[.int .u8 (o : Int), .string (txt nm), .slice a ln cp] 24)) := (Fr.refl nob _).alloc _
    have HP2 := Lib.hid ((H1.out.kept D1 (fun h => h)).kept G1 (fun h => h))
    have HB2 := Lib.hid ((HB1.out.kept D1 (fun h => h)).kept G1 (fun h => h))
    have HT2 := Lib.hid ((HT1.out.kept (T := fun b => S b ∧ b < w.heap.size) D1 (fun b h _ => ⟨fun h => h, h⟩)).kept (T := TS S w (w.heap.size + 2)) G1 (fun b h _ => ⟨fun h => h, .inl h.1, by omega, by omega, by omega⟩))
    have HO2 := Lib.hid (World.ownsRow_lit (base := w.heap.size + 2) (e := 24) (size := 3) (W0.drewN nq) #[.int .u8 (o : Int), .string (txt nm), .slice a ln cp] 1 (by omega) (by unfold maxLen; omega) rfl)
    have HF2 := Lib.hid (((HF1.out.trans D1 (fun _ _ h => h)).trans G1 (fun _ _ h => h)).mono (T := fun k => k = p) (fun _ _ h => h.elim))
    have hsz2 : w.heap.size + 2 < ((W0.drewN nq).alloc (.cells #[.int .u8 (o : Int), .string (txt nm), .slice a ln cp] 24)).heap.size := by simp only [World.size_alloc]; omega
    rw [hz1'] at HO2
    clear D1 G1 c0 c1 c2 q6 hsq
    go_wp2_with fail
    clear hz1' e0 e1 e2
    generalize (W0.drewN nq).alloc (.cells #[.int .u8 (o : Int), .string (txt nm), .slice a ln cp] 24) = w2 at *
    obtain ⟨rk, hrk⟩ : ∃ rk, kidsF (TX s) n op [t] i = rk := ⟨_, rfl⟩
    have hrko : rk ≠ .out := fun e => HRO.out (by rw [← HR.out, hrk, e]; rfl)
    have HRK := Lib.hid hrk
    have HRKO := Lib.hid hrko
    have hKL : KidsL w2 (TS S w (w.heap.size + 2)) [t] [.int .u8 (o : Int), .string (txt nm), .slice a ln cp] := ⟨_, _, _, [], rfl, HT2.out, rfl⟩
    have HKL := Lib.hid hKL
    clear hrk hrko hKL
    go_loopg [7] n (fun m kv wr => ∃ (acc : List Tr) (j g cap : Nat) (cells : List Value), acc.length + m ≤ n + 1 ∧ kidsF (TX s) m op acc j = rk ∧ j ≤ s.size ∧ kv = .slice (some ⟨g, 0, none⟩) acc.length cap ∧ acc ≠ [] ∧ wr.ownsRow (w.heap.size + 2) 24 3 (.slice (some ⟨g, 0, none⟩) acc.length cap) acc.length cells ∧ w.heap.size + 2 ≤ g ∧ g < wr.heap.size ∧ KidsL wr (TS S w g) acc cells ∧ PSt wr p s j (tokP (TX s) j) ∧ Box3 wr (w.heap.size + 1) (.int .u8 0) (.string ⟨#[]⟩) (.slice none 0 0) ∧ Fr (fun k => k = p) w wr)
    case atStart => exact ⟨[t], i, w.heap.size + 2, 1, _, by simp; omega, HRK.out, hi, by rw [show W0.heap.size = w.heap.size + 2 from HZ.out]; rfl, by simp, HO2.out, Nat.le_refl _, hsz2, HKL.out, by rw [HTK.out]; exact HP2.out, HB2.out, HF2.out⟩
    case round =>
      clear HKL HP2 HB2 HF2 HO2 HT2 hsz2
      obtain ⟨acc, j, g, cap, cells, hacc, hkf, hj, rfl, hne, hown, hg, hgl, hK, hP, hB, hF⟩ := hrel
      obtain ⟨m, rfl, hst⟩ := kidsF_step hkf HRKO.out
      have HOWN := Lib.hid hown
      have HK := Lib.hid hK
      have HP := Lib.hid hP
      have HB := Lib.hid hB
      have HF := Lib.hid hF
      have HNE := Lib.hid hne
      obtain ⟨na, hna⟩ : ∃ na, acc.length = na := ⟨_, rfl⟩
      have HNA := Lib.hid hna
      have hna1 : 1 ≤ na := by rw [← hna]; exact List.length_pos_iff.2 hne
      rw [hna] at hacc ⊢
      have hpg : p ≠ g := by omega
      clear hkf hown hK hP hB hF hne hna
      by_cases htj : tokP (TX s) j = sgnP op 1
      · rw [if_pos htj] at hst
        have HTJ := Lib.hid htj
        have HST := Lib.hid hst
        have hpj := HP.out
        rw [htj] at hpj
        have HPJ := Lib.hid hpj
        clear hst htj hpj
        go_wp2_with fail
        refine (hsg _).mono ?_
        rintro e w' ⟨rfl, rfl⟩
        go_wp2_with fail
        refine (acc_yes s hs p j _ _ HPJ.out HTJ.out hj).mono ?_
        rintro e w3 ⟨F3, ⟨j1, hj1, hj1s, rfl, hP3⟩ | ⟨k, hk, rfl⟩⟩
        · have hL : formF (TX s) m (kidP op 1) j1 ≠ .out := fun e => HRKO.out (by rw [← HST.out, hj1, Res.bind_ok, e]; rfl)
          have hkl : kidP op 1 ≤ 6 := by rcases hop with rfl | rfl | rfl <;> decide
          have hC := ihF m (by omega) (kidP op 1) p j1 w3 hkl hP3 hj1s hL
          have HJ1 := Lib.hid hj1
          have HOWN3 := Lib.hid (F3.row HOWN.out (fun k hk => by cases hk; exact fun h => hpg h.symm))
          have HK3 := Lib.hid (HK.out.kept (T := TS S w g) F3 (fun b h _ => ⟨hTSp g b h, h⟩))
          have HB3 := Lib.hid (HB.out.kept F3 (by omega))
          have HF3 := Lib.hid (HF.out.trans F3 (fun _ _ h => h))
          have hs3 := F3.size
          clear hj1 hL hkl F3 hP3 HOWN HK HB HF HP HPJ
          go_wp2_with fail
          refine (kidLevel_any op 1 _).mono ?_
          rintro e w' ⟨rfl, rfl⟩
          go_wp2_with fail
          refine hC.mono ?_
          rintro e w4 ⟨F4, ⟨t4, j4, v4, hv4, hj4, rfl, hT4, hP4⟩ | ⟨k, hk, rfl⟩⟩
          · obtain ⟨o4, nm4, a4, ln4, cp4, rfl⟩ := hT4.form
            have hs4 := F4.size
            have G5 : Fr nob w4 (w4.alloc (.cells #[.int .u8 (o4 : Int), .string (txt nm4), .slice a4 ln4 cp4] 24)) := (Fr.refl nob w4).alloc _
            have own5 := G5.row (F4.row HOWN3.out (fun k hk => by cases hk; exact fun h => hpg h.symm)) (fun _ _ h => h)
            have HK5 := Lib.hid ((HK3.out.kept (T := TS S w g) F4 (fun b h _ => ⟨hTSp g b h, h⟩)).kept (T := fun b => TS S w g b ∧ b < w4.heap.size) G5 (fun b h h' => ⟨fun h => h, h, h'⟩))
            have HT5 := Lib.hid (hT4.kept (T := fun b => TS S w g b ∧ b < w4.heap.size) G5 (fun b h h' => ⟨fun h => h, by have e : w3.heap.size ≤ b := h; exact ⟨.inr (by omega), by omega, by omega, by omega⟩, h'⟩))
            have HB5 := Lib.hid ((HB3.out.kept F4 (by omega)).kept G5 (fun h => h))
            have HP5 := Lib.hid (hP4.kept G5 (fun h => h))
            have HF5 := Lib.hid ((HF3.out.trans F4 (fun _ _ h => h)).trans G5 (fun _ _ h => h.elim))
            have HV4 := Lib.hid hv4
            have hnews := three_new w4 (.int .u8 (o4 : Int)) (.string (txt nm4)) (.slice a4 ln4 cp4) 24
            have hsz5 : (w4.alloc (.cells #[.int .u8 (o4 : Int), .string (txt nm4), .slice a4 ln4 cp4] 24)).heap.size = w4.heap.size + 1 := by simp
            have HN5 := Lib.hid hnews
            rw [HNA.out] at own5
            clear hT4 hP4 hv4 F4 G5 hC HOWN3 HK3 HB3 HF3 hnews
            go_wp2_with (at_builtin; refine wpList_append_own_at _ rfl _ _ 22 rfl (w.heap.size + 2) 24 i0 (.agg #[.int .u8 0, .string ⟨#[]⟩, .slice none 0 0]) 3 48 Try.underlying22 hi0 hz0 hz1 hz2 rfl (by decide) (.slice (some ⟨g, 0, none⟩) na cap) na cells rfl own5 ⟨w4.heap.size, 0, none⟩ 1 1 [.int .u8 (o4 : Int), .string (txt nm4), .slice a4 ln4 cp4] rfl ?c1 ?c2 ?c3 ?c4 ?c5 ?c6 ?_)
            case c1 => rfl
            case c2 => exact HN5.out
            case c3 => intro u hu; simp at hu; rcases hu with rfl | rfl | rfl <;> rfl
            case c4 => unfold maxLen; omega
            case c5 => omega
            case c6 => omega
            intro v6 w6 own6 gr6 _ hat
            obtain ⟨g', cap', rfl, hg', hgl'⟩ : ∃ g' cap', v6 = .slice (some ⟨g', 0, none⟩) (na + 1) cap' ∧ w.heap.size + 2 ≤ g' ∧ g' < w6.heap.size := by
              rcases own6.2 with ⟨rfl, h0⟩ | ⟨g', cap', cur, rfl, h1, h2, _⟩
              · simp at h0
              · exact ⟨g', cap', rfl, h1, (Array.getElem?_eq_some_iff.1 h2).1⟩
            have F6 : Fr (fun k => k = g) (w4.alloc (.cells #[.int .u8 (o4 : Int), .string (txt nm4), .slice a4 ln4 cp4] 24)) w6 := (Fr.refl (fun k => k = g) _).grown gr6 (fun k hk _ => by cases hk; rfl)
            have hgg : g' = g ∨ w4.heap.size ≤ g' := by
              rcases hat with h | h
              · exact .inl (by simpa [Value.ownBlock] using h)
              · refine .inr ?_
                have : g' = w4.heap.size + 1 := by simpa [Value.ownBlock] using h
                omega
            have hTg : ∀ b, (TS S w g b ∧ b < w4.heap.size) → TS S w g' b := fun b h => ⟨h.1.1, h.1.2.1, h.1.2.2.1, by rcases hgg with e | e; rw [e]; exact h.1.2.2.2; have := h.2; omega⟩
            have HK6 := Lib.hid ((HK5.out.kept (T := TS S w g') F6 (fun b h _ => ⟨h.1.2.2.2, hTg b h⟩)).snoc (HT5.out.kept (T := TS S w g') F6 (fun b h _ => ⟨h.1.2.2.2, hTg b h⟩)))
            have HP6 := Lib.hid (HP5.out.kept F6 hpg)
            have HB6 := Lib.hid (HB5.out.kept F6 (show ¬ w.heap.size + 1 = g by omega))
            have HF6 := Lib.hid (HF5.out.trans' (T := fun k => k = p) F6 (fun _ _ h => h) (fun k hk h => by have e : k = g := h; omega))
            have HO6 := Lib.hid own6
            clear own5 own6 gr6 hat F6 HK5 HT5 HB5 HP5 HF5 hTg
            go_wp2_with fail
            go_roundg m
            case measure => omega
            case rel =>
              have e : (acc ++ [t4]).length = na + 1 := by simp [HNA.out]
              refine ⟨acc ++ [t4], j4, g', cap', _, by rw [e]; omega, by rw [← HST.out, HJ1.out, Res.bind_ok, HV4.out]; rfl, hj4, by rw [e], by simp, ?_, hg', hgl', HK6.out, HP6.out, HB6.out, HF6.out⟩
              rw [e]
              exact HO6.out
          · go_wp2_with fail
            refine ⟨rfl, HF3.out.trans F4 (fun _ _ h => h), .inr ⟨k, ?_, rfl⟩⟩
            rw [← HR.out, HRK.out, ← HST.out, HJ1.out, Res.bind_ok, hk]; rfl
        · go_wp2_with fail
          refine ⟨rfl, HF.out.trans F3 (fun _ _ h => h), .inr ⟨k, ?_, rfl⟩⟩
          rw [← HR.out, HRK.out, ← HST.out, hk]; rfl
      · rw [if_neg htj] at hst
        have hv : r = .ok (.mk op [] acc, j) := by rw [← HR.out, HRK.out, ← hst]; rfl
        have HV := Lib.hid hv
        have HTJ := Lib.hid htj
        clear hst hv htj
        go_wp2_with fail
        refine (hsg _).mono ?_
        rintro e w' ⟨rfl, rfl⟩
        go_wp2_with fail
        refine (accept_no s p j _ _ _ HP.out HTJ.out).mono ?_
        rintro e w' ⟨rfl, rfl⟩
        go_wp2_with fail
        refine (node_any op _ ⟨_, _, _, rfl⟩ _).mono ?_
        rintro e w5 ⟨rfl, F5⟩
        have HB5 := Lib.hid (HB.out.kept F5 (fun h => h))
        have ⟨d0, d1, d2, df⟩ := HB5.out
        have df0 := df 0
        have df1 := df 1
        have df2 := df 2
        have HO5 := Lib.hid (F5.row HOWN.out (fun _ _ h => h))
        have HK5 := Lib.hid (HK.out.kept (T := TS S w g) F5 (fun b h _ => ⟨fun h => h, h⟩))
        have HP5 := Lib.hid (HP.out.kept F5 (fun h => h))
        have HF5 := Lib.hid (HF.out.trans F5 (fun _ _ h => h.elim))
        clear df F5 HB HOWN HK HP HF
        go_wp2_with fail
        obtain ⟨X, FX⟩ := HB5.out.set (.int .u8 (op : Int)) (.string (txt [])) (.slice (some ⟨g, 0, none⟩) na cap)
        clear d0 d1 d2 df0 df1 df2
        generalize ((w5.setCell ⟨w.heap.size + 1, 0, none⟩ (.int .u8 (op : Int))).setCell ⟨w.heap.size + 1, 1, none⟩ (.string (txt []))).setCell ⟨w.heap.size + 1, 2, none⟩ (.slice (some ⟨g, 0, none⟩) na cap) = w6 at *
        have x0 := X.c0
        have x1 := X.c1
        have x2 := X.c2
        have own6 := FX.row HO5.out (fun k hk => by cases hk; show ¬ g = w.heap.size + 1; omega)
        have K6 := HK5.out.kept (T := fun b => S b ∨ w.heap.size ≤ b) FX (fun b h _ => ⟨h.2.2.1, h.1⟩)
        have P6 := HP5.out.kept FX (show ¬ p = w.heap.size + 1 by omega)
        have F6 := HF5.out.trans' (T := fun k => k = p) FX (fun _ _ h => h) (fun k hk h => by have e : k = w.heap.size + 1 := h; omega)
        rw [HNA.out] at own6
        have flg6 : Flg w6 g := by
          rcases own6.2 with ⟨h1, _⟩ | ⟨g', cap', cur, h1, _, h3, _⟩
          · cases h1
          · cases h1; exact flg_of h3
        refine bodyPost_ret (v := TrOp op (.slice (some ⟨g, 0, none⟩) na cap)) (by simp [results, Try.results134, go_sem, x0, x1, x2]) rfl ⟨F6, .inl ⟨.mk op [] acc, j, _, HV.out, hj, rfl, ?_, P6⟩⟩
        rw [TrV]
        refine ⟨_, cap, by rw [HNA.out], fun _ => ⟨g, rfl, ⟨.inr (by omega), flg6⟩, K6.toV fun k u hu => ?_⟩⟩
        have hk : k < na * 3 := by
          have := (List.getElem?_eq_some_iff.1 hu).1
          rw [own6.1] at this; exact this
        rw [show 0 * 3 + k = k by omega, own6.cellAt k hk]
        exact hu
  · rw [if_neg htk] at hro ⊢
    have ⟨d0, d1, d2, df⟩ := B1
    have df0 := df 0
    have df1 := df 1
    have df2 := df 2
    have ⟨g0, g1, g2, _⟩ := N1
    have q6 : ((txt (tokP (TX s) i)).toList == (txt (sgnP op 1)).toList) = false := by
      rw [ByteArray.toList_eq, ByteArray.toList_eq, txt_data, txt_data]; simpa using htk
    have c0 := h1.c0
    have c1 := h1.c1
    have c2 := h1.c2
    have HT0 := Lib.hid hT
    have H0 := Lib.hid h
    have HN1 := Lib.hid N1
    have HB1 := Lib.hid B1
    have HF1 := Lib.hid F1
    clear htk hT1 N1 B1 F1 h1 h hT N0 df hro hz2 d0 d1 d2 df0 df1 df2 g0 g1 g2
    go_enter Try.func134, Try.ntmps134
    go_wp2_with fail
    go_quiet ((go_at_call 82; exact Calls.quiet_of_same (hsq _)))
    have D : Fr nob ((w.alloc (.cells #[.int .u8 (o : Int), .string (txt nm), .slice a ln cp] 24)).alloc (.cells #[.int .u8 0, .string ⟨#[]⟩, .slice none 0 0] 24)) (((w.alloc (.cells #[.int .u8 (o : Int), .string (txt nm), .slice a ln cp] 24)).alloc (.cells #[.int .u8 0, .string ⟨#[]⟩, .slice none 0 0] 24)).drewN nq) := (Fr.refl nob _).drewN nq
    have N2 := HN1.out.kept D (fun h => h)
    have B2 := HB1.out.kept D (fun h => h)
    have FD := HF1.out.trans D (fun _ _ h => h)
    have ⟨g0, g1, g2, _⟩ := N2
    have ⟨d0, d1, d2, df⟩ := B2
    have df0 := df 0
    have df1 := df 1
    have df2 := df 2
    obtain ⟨X, FX⟩ := B2.set (.int .u8 (o : Int)) (.string (txt nm)) (.slice a ln cp)
    have P6 := Lib.hid ((H0.out.kept FD (fun h => h)).kept FX (show ¬ p = w.heap.size + 1 by omega))
    have T6 := Lib.hid ((HT0.out.kept (T := fun b => S b ∧ b < w.heap.size) FD (fun b h h' => ⟨fun h => h, h, h'⟩)).kept (T := fun b => S b ∨ w.heap.size ≤ b) FX (fun b h _ => ⟨show ¬ b = w.heap.size + 1 by have := h.2; omega, .inl h.1⟩))
    have F6 := Lib.hid (FD.trans' (T := fun k => k = p) FX (fun _ _ h => h.elim) (fun k hk h => by have e : k = w.heap.size + 1 := h; omega))
    have HX := Lib.hid X
    clear D N2 B2 FD X FX df c0 c1 c2 q6
    generalize ((w.alloc (.cells #[.int .u8 (o : Int), .string (txt nm), .slice a ln cp] 24)).alloc (.cells #[.int .u8 0, .string ⟨#[]⟩, .slice none 0 0] 24)).drewN nq = W1 at *
    go_wp2_with fail
    clear d0 d1 d2 df0 df1 df2 g0 g1 g2
    generalize ((W1.setCell ⟨w.heap.size + 1, 0, none⟩ (.int .u8 (o : Int))).setCell ⟨w.heap.size + 1, 1, none⟩ (.string (txt nm))).setCell ⟨w.heap.size + 1, 2, none⟩ (.slice a ln cp) = w6 at *
    have x0 := HX.out.c0
    have x1 := HX.out.c1
    have x2 := HX.out.c2
    exact bodyPost_ret (v := .agg #[.int .u8 (o : Int), .string (txt nm), .slice a ln cp]) (by simp [results, Try.results134, go_sem, x0, x1, x2]) rfl ⟨F6.out, .inl ⟨t, i, _, rfl, hi, rfl, T6.out, P6.out⟩⟩
end Go.Proofs.Ytaojojjdfdlgpaa
