import Derived.Test.YtbjdaibkcchllaaQp4
import Derived.Test.YtbjdaibkcchllaaQe1
import Derived.Test.YtbjdaibkcchllaaQc4
import Derived.Deep.CutRange
import Derived.BigQuiet
/- The reference's tokens in memory. -/
namespace Go.Proofs.Ytbjdaibkcchllaa
open Go.RowKit

theorem info_tok : (Try.prog.info? 80).map (fun i => (i.zero, i.size, i.bytes)) = some (some (.agg #[.int .i64 0, .string ⟨#[]⟩]), 2, 24) := by kernel_rfl
theorem tlist (l : List UInt8) : (txt l).toList = l := by rw [ByteArray.toList_eq, txt_data]
def tokC : List (Nat × List UInt8) → List Value
  | [] => []
  | t :: ts => .int .i64 (t.1 : Int) :: .string (txt t.2) :: tokC ts
theorem tokC_snoc (t : Nat × List UInt8) : ∀ ts : List (Nat × List UInt8), tokC (ts ++ [t]) = tokC ts ++ [.int .i64 (t.1 : Int), .string (txt t.2)]
  | [] => rfl
  | a :: ts => by
    show .int .i64 (a.1 : Int) :: .string (txt a.2) :: tokC (ts ++ [t]) = _
    rw [tokC_snoc t ts]; rfl
theorem tokC_at : ∀ {ts : List (Nat × List UInt8)} {k : Nat} {t : Nat × List UInt8}, ts[k]? = some t → (tokC ts)[k * 2]? = some (.int .i64 (t.1 : Int)) ∧ (tokC ts)[k * 2 + 1]? = some (.string (txt t.2))
  | a :: ts, 0, t, h => by
    obtain rfl : a = t := by simpa using h
    exact ⟨rfl, rfl⟩
  | a :: ts, k + 1, t, h => by
    have ih := tokC_at (ts := ts) (k := k) (t := t) (by simpa using h)
    rw [show (k + 1) * 2 = k * 2 + 1 + 1 by omega]
    exact ⟨by simpa [tokC] using ih.1, by simpa [tokC] using ih.2⟩
abbrev SG2 : Array Value := #[.string ⟨#[60, 61, 62]⟩, .string ⟨#[61, 62]⟩, .string ⟨#[33]⟩, .string ⟨#[38]⟩, .string ⟨#[94]⟩, .string ⟨#[124]⟩, .string ⟨#[63]⟩, .string ⟨#[58]⟩, .string ⟨#[40]⟩, .string ⟨#[41]⟩]
theorem sg2_at : ∀ k : Nat, k < 10 → SG2[k]? = some (.string (txt (signs2.getD k [])))
  | 0, _ => rfl
  | 1, _ => rfl
  | 2, _ => rfl
  | 3, _ => rfl
  | 4, _ => rfl
  | 5, _ => rfl
  | 6, _ => rfl
  | 7, _ => rfl
  | 8, _ => rfl
  | 9, _ => rfl
  | n + 10, h => by omega
/-- the frame of Tokens: its table of signs, and the tokens that it has -/
structure TkSt (w0 w : World) (acc : List (Nat × List UInt8)) (ov : Value) : Prop where
  fr : Fr nob w0 w
  sg : ∀ k, k < 10 → w.cell? ⟨w0.heap.size, k, none⟩ = some (.string (txt (signs2.getD k [])))
  own : w.ownsRow (w0.heap.size + 1) 80 2 ov acc.length (tokC acc)
theorem TkSt.call {w0 w w' : World} {acc : List (Nat × List UInt8)} {ov : Value} (H : TkSt w0 w acc ov) (F : Fr nob w w') : TkSt w0 w' acc ov :=
  ⟨H.fr.trans F (fun _ _ h => h), fun k hk => F.cell (H.sg k hk) (fun h => h), F.row H.own (fun _ _ h => h)⟩
theorem TkSt.append {w0 w w' : World} {acc : List (Nat × List UInt8)} {ov ov' : Value} (H : TkSt w0 w acc ov) (t : Nat × List UInt8)
    (own : w'.ownsRow (w0.heap.size + 1) 80 2 ov' (acc.length + 1) (tokC acc ++ [.int .i64 (t.1 : Int), .string (txt t.2)])) (gr : w.grownBy w' ov.ownBlock) : TkSt w0 w' (acc ++ [t]) ov' := by
  have F : Fr (fun j => ov.ownBlock = some j) w w' := (Fr.refl _ _).grown gr (fun j hj _ => hj)
  refine ⟨H.fr.trans' (T := nob) F (fun _ _ h => h) (fun j hj h => by have := (H.own.lt j h).1; omega), fun k hk => F.cell (H.sg k hk) (fun h => by have h2 : ov.ownBlock = some w0.heap.size := h; have := (H.own.lt _ h2).1; omega), ?_⟩
  rw [List.length_append, List.length_singleton, tokC_snoc]
  exact own
theorem TkSt.tok {w0 w : World} {acc : List (Nat × List UInt8)} {ov : Value} (H : TkSt w0 w acc ov) : TokL w (fun b => w0.heap.size ≤ b ∧ b < w.heap.size) acc ov := by
  have own := H.own
  rcases own.2 with ⟨h0, h1⟩ | ⟨g, cap, cur, h1, h2, h3, _⟩
  · have e : acc = [] := List.eq_nil_of_length_eq_zero h1
    subst e
    exact ⟨none, 0, h0, fun h => absurd rfl h⟩
  · subst h1
    refine ⟨_, cap, rfl, fun _ => ⟨g, rfl, ⟨by omega, (own.lt g rfl).2⟩, fun k t hk => ?_⟩⟩
    obtain ⟨e0, e1⟩ := tokC_at hk
    exact ⟨own_cells own _ _ e0, own_cells own _ _ e1⟩
/-- the first of so many signs with which a text begins -/
def sgK (t : List UInt8) (k : Nat) : List UInt8 := ((signs2.take k).find? fun x => x.isPrefixOf t).getD []
theorem sgK_ten (t : List UInt8) : sgK t 10 = sgnTok t := rfl
theorem sg2_ne : ∀ k, k < 10 → signs2.getD k [] ≠ [] := by
  intro k hk e
  have h : ∀ k : _root_.Fin 10, signs2.getD k.val [] ≠ [] := by decide
  exact h ⟨k, hk⟩ e
theorem sgK_step (t : List UInt8) {k : Nat} (hk : k < 10) : sgK t (k + 1) = if sgK t k = [] ∧ (signs2.getD k []).isPrefixOf t = true then signs2.getD k [] else sgK t k := by
  have hl : k < signs2.length := hk
  have e : signs2.take (k + 1) = signs2.take k ++ [signs2.getD k []] := by
    rw [List.take_succ_eq_append_getElem hl]
    simp [List.getD, List.getElem?_eq_getElem hl]
  unfold sgK
  rw [e, List.find?_append]
  clear e
  generalize signs2.getD k [] = y
  cases h : (signs2.take k).find? fun x => x.isPrefixOf t with
  | none =>
    cases hp : y.isPrefixOf t with
    | true => simp [List.find?, hp]
    | false => simp [List.find?, hp]
  | some x =>
    have hx : x ≠ [] := by
      have hm := List.mem_of_mem_take (List.mem_of_find?_eq_some h)
      obtain ⟨j, hj, rfl⟩ := List.mem_iff_getElem.1 hm
      have := sg2_ne j hj
      simpa [List.getD, List.getElem?_eq_getElem hj] using this
    simp [hx]
theorem pre_at (s p : ByteArray) {i : Nat} (_h : i + p.size ≤ s.size) : ((s.extract i (i + p.size)).toList == p.toList) = (p.data.toList.isPrefixOf (s.data.toList.drop i)) := by
  rw [ByteArray.toList_eq, ByteArray.toList_eq, ext_data, Bool.eq_iff_iff, List.isPrefixOf_iff_prefix, List.prefix_iff_eq_take]
  rw [List.drop_take, beq_iff_eq]
  have : p.data.toList.length = p.size := by simp
  rw [this, Nat.add_sub_cancel_left]
  exact eq_comm
theorem pre_not {s p : ByteArray} {i : Nat} (h : ¬ i + p.size ≤ s.size) (hi : i ≤ s.size) : p.data.toList.isPrefixOf (s.data.toList.drop i) = false := by
  rw [Bool.eq_false_iff, ne_eq, List.isPrefixOf_iff_prefix]
  intro h2
  have h3 := h2.length_le
  simp at h3
  omega
end Go.Proofs.Ytbjdaibkcchllaa
/- The reference's Tokens. -/
namespace Go.Proofs.Ytbjdaibkcchllaa
open Go.RowKit

theorem two_new (w : World) (a b : Value) (T : TypeId) : ∀ j u, [a, b][j]? = some u → (w.alloc (.cells #[a, b] T)).cell? ((⟨w.heap.size, 0, none⟩ : Addr).add j) = some u := by
  intro j u h
  rw [add_base]
  exact (World.cell?_alloc_at _ _ _ _ rfl).trans (by match j, h with | 0, h => exact h | 1, h => exact h)
theorem two_one (n : Int) (b : ByteArray) : ∀ u ∈ [Value.int .i64 n, .string b], u.oneCell' = true := by
  intro u hu; simp at hu; rcases hu with rfl | rfl <;> rfl
theorem inWord_q (n : Nat) (w : World) : Calls Try.prog 81 #[.int .u8 (n : Int)] w fun e w' => e = .returned (.bool (wrdB n)) ∧ w' = w := (inWord_any n w).mono fun _ _ h => ⟨h.1, h.2.symm⟩
theorem refName_q (s : ByteArray) (hs : s.size ≤ 9223372036854775807) (w : World) : Calls Try.prog 63 #[.string s] w fun e w' => e = .returned (.bool (nameB s.data.toList)) ∧ w' = w := (refName_any s hs w).mono fun _ _ h => ⟨h.1, h.2.symm⟩
def endB : Option Nat → Int
  | some k => (k : Int)
  | none => -1
def TokPost (s : ByteArray) (w : World) (e : Ending) (w' : World) : Prop :=
  ∃ v, e = .returned (.tuple #[v, .int .i64 (endB (toksP (TX s) (s.size + 1) 0).2)]) ∧ TokL w' (fun b => w.heap.size ≤ b ∧ b < w'.heap.size) (toksP (TX s) (s.size + 1) 0).1 v ∧ Fr nob w w'
theorem tok_parts : ∃ i : TypeInfo, Try.prog.info? 80 = some i ∧ i.zero = some (.agg #[.int .i64 0, .string ⟨#[]⟩]) ∧ i.size = 2 ∧ i.bytes = 24 := by
  have h := info_tok
  cases hh : Try.prog.info? 80 with
  | none => rw [hh] at h; cases h
  | some i =>
    rw [hh] at h
    simp only [Option.map_some, Option.some.injEq, Prod.mk.injEq] at h
    exact ⟨i, rfl, h.1, h.2.1, h.2.2⟩
set_option maxRecDepth 20000 in
set_option maxHeartbeats 8000000 in
theorem tokens_any (s : ByteArray) (hs : s.size ≤ 65536) (w : World) : Calls Try.prog 44 #[.string s] w (TokPost s w) := by
  unfold TokPost
  obtain ⟨L, hL⟩ : ∃ L, (toksP (TX s) (s.size + 1) 0).1 = L := ⟨_, rfl⟩
  obtain ⟨B, hB⟩ : ∃ B, (toksP (TX s) (s.size + 1) 0).2 = B := ⟨_, rfl⟩
  rw [hL, hB]
  have HL := Lib.hid hL
  have HB := Lib.hid hB
  have hsl : (TX s).length = s.size := by simp
  have HSL := Lib.hid hsl
  clear hL hB hsl
  obtain ⟨i0, hi0, hi1, hi2, hi3⟩ := tok_parts
  have HS1 : Hid (TkSt w (w.alloc (.cells SG2 9)) [] (.slice none 0 0)) := Lib.hid ⟨(Fr.refl nob w).alloc _, fun k hk => (World.cell?_alloc_at _ _ _ _ rfl).trans (sg2_at k hk), World.ownsRow_nil _ _ _ _⟩
  go_enter Try.func44, Try.ntmps44
  go_wp2_with fail
  generalize w.alloc (.cells SG2 9) = W1 at *
  go_loopg [5, 6] s.size (fun m ov iv wr => ∃ (acc : List (Nat × List UInt8)) (kv : Value) (i : Nat), kv = ov ∧ iv = .int .i64 (i : Int) ∧ i ≤ s.size ∧ s.size < i + m + 1 ∧ acc ++ (toksP (TX s) (m + 1) i).1 = L ∧ (toksP (TX s) (m + 1) i).2 = B ∧ acc.length ≤ i ∧ TkSt w wr acc kv)
  case atStart => exact ⟨[], _, 0, rfl, rfl, by omega, by omega, by rw [HL.out]; rfl, HB.out, by simp, HS1.out⟩
  case round =>
    clear HS1
    obtain ⟨acc, kv, i, rfl, rfl, hi, hm, hL, hB, hal, hS⟩ := hrel
    obtain ⟨cnt, hcnt⟩ : ∃ cnt, acc.length = cnt := ⟨_, rfl⟩
    have HIM := Lib.hid (And.intro hi hm)
    have HL2 := Lib.hid hL
    have HB2 := Lib.hid hB
    have HAL := Lib.hid hal
    have HSS := Lib.hid hS
    have HCNT := Lib.hid hcnt
    clear hm hL hB hal hS hcnt
    have q3 : (0 : Int) ≤ (i : Int) := Int.natCast_nonneg _
    by_cases hlt : i < s.size
    · have q1 : decide ((i : Int) < (s.size : Int)) = true := by simpa using hlt
      have q4 : (i : Int) < (s.size : Int) := by omega
      obtain ⟨m, rfl⟩ : ∃ m, gk = m + 1 := ⟨gk - 1, by have := HIM.out.2; omega⟩
      have hg : (TX s).getD i 0 = s[i] := by
        have h : i < (TX s).length := by rw [HSL.out]; exact hlt
        simp [List.getD, List.getElem?_eq_getElem h]
        rfl
      by_cases h32 : s[i] = 32
      · have q2 : ((s[i].toNat : Int) == 32) = true := by rw [h32]; rfl
        have hx := HL2.out
        have hy := HB2.out
        rw [toksP, if_pos (by rw [HSL.out]; exact hlt), if_pos (by rw [hg]; exact h32)] at hx hy
        have HX := Lib.hid hx
        have HY := Lib.hid hy
        clear hx hy hg h32
        go_wp2_with fail
        go_roundg m
        case measure => omega
        case rel => exact ⟨acc, _, i + 1, rfl, by go_num, by omega, by have := HIM.out.2; omega, HX.out, HY.out, by have := HAL.out; omega, HSS.out⟩
      · have q2 : ((s[i].toNat : Int) == 32) = false := by
          simp only [beq_eq_false_iff_ne, ne_eq]
          intro h
          refine h32 (UInt8.toNat_inj.1 ?_)
          show s[i].toNat = 32
          omega
        have hx := HL2.out
        have hy := HB2.out
        rw [toksP, if_pos (by rw [HSL.out]; exact hlt), if_neg (by rw [hg]; exact h32)] at hx hy
        have HX := Lib.hid hx
        have HY := Lib.hid hy
        clear hx hy hg h32 HL2 HB2
        go_wp2_with fail
        obtain ⟨w1, rfl⟩ : ∃ x, x = wr := ⟨_, rfl⟩
        go_loopg [7, 8] 10 (fun m2 wv kv wx => ∃ (k : Nat), kv = .int .i64 (k : Int) ∧ k + m2 = 10 ∧ wv = .string (txt (sgK ((TX s).drop i) k)) ∧ Fr nob w1 wx)
        case atStart => exact ⟨0, rfl, rfl, rfl, Fr.refl nob w1⟩
        case round =>
          obtain ⟨k, rfl, hk, rfl, hF2⟩ := hrel
          obtain ⟨wx, rfl⟩ : ∃ x, x = wr := ⟨_, rfl⟩
          cases gk with
          | succ m2 =>
            have hk10 : k < 10 := by omega
            obtain ⟨y, hy⟩ : ∃ y, signs2.getD k [] = y := ⟨_, rfl⟩
            obtain ⟨Y, hY⟩ : ∃ Y, txt y = Y := ⟨_, rfl⟩
            have hc := (HSS.out.call hF2).sg k hk10
            rw [hy, hY] at hc
            have hcd : ∀ n, (wx.drewN n).cell? ⟨w.heap.size, k, none⟩ = some (.string Y) := fun n => ((Fr.refl nob wx).drewN n).cell hc (fun h => h)
            have hYd : Y.data.toList = y := by rw [← hY, txt_data]
            have hYl : y.length ≤ 3 := by
              have h : ∀ k : _root_.Fin 10, (signs2.getD k.val []).length ≤ 3 := by decide
              have := h ⟨k, hk10⟩
              rw [hy] at this
              exact this
            have hYs : Y.size = y.length := by rw [← hY, txt_size]
            have hst := sgK_step ((TX s).drop i) hk10
            rw [hy] at hst
            have hpa := pre_at s Y (i := i)
            have hpn := pre_not (s := s) (p := Y) (i := i)
            rw [hYd] at hpa hpn
            obtain ⟨wd, hwd⟩ : ∃ wd, sgK ((TX s).drop i) k = wd := ⟨_, rfl⟩
            rw [hwd] at hst ⊢
            have qk : (0 : Int) ≤ (k : Int) := Int.natCast_nonneg _
            have qk2 : (k : Int) < 10 := by omega
            have qy : (Y.size : Int) ≤ 3 := by omega
            have HST := Lib.hid hst
            have HYd := Lib.hid hYd
            have HY2 := Lib.hid hY
            have HF2 := Lib.hid hF2
            have HK := Lib.hid hk
            have HI6 : (i : Int) ≤ 65536 := by omega
            clear hst hYd hY hF2 hy hwd hYl hYs hk hk10
            by_cases hw0 : wd = []
            · have q5 : (txt wd).toList.isEmpty = true := by rw [tlist, hw0]; rfl
              have HW0 := Lib.hid hw0
              clear hw0
              by_cases h2 : i + Y.size ≤ s.size
              · have q6 : decide ((i : Int) + (Y.size : Int) ≤ (s.size : Int)) = true := by simp; omega
                have q7 : (i : Int) + (Y.size : Int) ≤ (s.size : Int) := by omega
                cases hb3 : y.isPrefixOf ((TX s).drop i) with
                | true =>
                  have q8 : ((s.extract i (i + Y.size)).toList == Y.toList) = true := by rw [hpa h2]; exact hb3
                  have HE : Hid (sgK ((TX s).drop i) (k + 1) = y) := Lib.hid (by rw [HST.out, if_pos ⟨HW0.out, hb3⟩])
                  clear hpa hpn h2 hb3
                  go_wp2_with fail
                  go_quiet (fail)
                  have hcq := hcd nq
                  go_wp2_with fail
                  go_roundg m2
                  case measure => omega
                  case rel => exact ⟨k + 1, by go_num, by have := HK.out; omega, by rw [HE.out, HY2.out], HF2.out.trans ((Fr.refl nob wx).drewN _) (fun _ _ h => h)⟩
                | false =>
                  have q8 : ((s.extract i (i + Y.size)).toList == Y.toList) = false := by rw [hpa h2]; exact hb3
                  have HE : Hid (sgK ((TX s).drop i) (k + 1) = wd) := Lib.hid (by rw [HST.out, if_neg (fun h => by rw [hb3] at h; cases h.2)])
                  clear hpa hpn h2 hb3
                  go_wp2_with fail
                  go_quiet (fail)
                  go_wp2_with fail
                  go_roundg m2
                  case measure => omega
                  case rel => exact ⟨k + 1, by go_num, by have := HK.out; omega, by rw [HE.out], HF2.out.trans ((Fr.refl nob wx).drewN _) (fun _ _ h => h)⟩
              · have q6 : decide ((i : Int) + (Y.size : Int) ≤ (s.size : Int)) = false := by simp; omega
                have HE : Hid (sgK ((TX s).drop i) (k + 1) = wd) := Lib.hid (by rw [HST.out, if_neg (fun h => by rw [hpn h2 hi] at h; cases h.2)])
                clear hpa hpn h2
                go_wp2_with fail
                go_quiet (fail)
                go_wp2_with fail
                go_roundg m2
                case measure => omega
                case rel => exact ⟨k + 1, by go_num, by have := HK.out; omega, by rw [HE.out], HF2.out.trans ((Fr.refl nob wx).drewN _) (fun _ _ h => h)⟩
            · have q5 : (txt wd).toList.isEmpty = false := by
                rw [tlist]
                cases wd with
                | nil => exact absurd rfl hw0
                | cons a l => rfl
              have HE : Hid (sgK ((TX s).drop i) (k + 1) = wd) := Lib.hid (by rw [HST.out, if_neg (fun h => hw0 h.1)])
              clear hpa hpn hw0
              go_wp2_with fail
              go_quiet (fail)
              go_wp2_with fail
              go_roundg m2
              case measure => omega
              case rel => exact ⟨k + 1, by go_num, by have := HK.out; omega, by rw [HE.out], HF2.out.trans ((Fr.refl nob wx).drewN _) (fun _ _ h => h)⟩
          | zero =>
            have hk10 : k = 10 := by omega
            subst hk10
            rw [sgK_ten]
            have hrl := refTok_len ((TX s).drop i)
            rw [List.length_drop, HSL.out] at hrl
            have HW2 := Lib.hid hF2
            obtain ⟨tk, htk⟩ : ∃ tk, sgnTok ((TX s).drop i) = tk := ⟨_, rfl⟩
            rw [htk]
            clear hF2 hk
            by_cases hsg : tk = []
            · have HSG : Hid (sgnTok ((TX s).drop i) = []) := Lib.hid (htk.trans hsg)
              have q5 : (txt tk).toList.isEmpty = true := by rw [tlist, hsg]; rfl
              obtain ⟨wl, hwl⟩ : ∃ wl, wlen ((TX s).drop i) = wl := ⟨_, rfl⟩
              have hwle := wlen_le ((TX s).drop i)
              rw [List.length_drop, HSL.out, hwl] at hwle
              have hin : ∀ p (hp : p < s.size), i ≤ p → p < i + wl → wrdB s[p].toNat = true := fun p hp h1 h2 => by
                have h := wlen_in (l := (TX s).drop i) (k := p - i) (by rw [hwl]; omega) (by rw [List.length_drop, HSL.out]; omega)
                have e : ((TX s).drop i)[p - i]'(by rw [List.length_drop, HSL.out]; omega) = s[p] := by
                  rw [List.getElem_drop]
                  simp only [show i + (p - i) = p by omega]
                  rfl
                rw [e] at h; exact h
              have hout : ∀ (hp : i + wl < s.size), wrdB s[i + wl].toNat = false := fun hp => by
                have h := wlen_out (l := (TX s).drop i) (by rw [hwl, List.length_drop, HSL.out]; omega)
                have e : ((TX s).drop i)[wlen ((TX s).drop i)]'(by rw [hwl, List.length_drop, HSL.out]; omega) = s[i + wl] := by
                  rw [List.getElem_drop]
                  simp only [hwl]
                  rfl
                rw [e] at h; exact h
              have HIN := Lib.hid hin
              have HOUT := Lib.hid hout
              obtain ⟨wd, hwd⟩ : ∃ wd, ((TX s).drop i).take wl = wd := ⟨_, rfl⟩
              have HWD : Hid (((TX s).drop i).take (wlen ((TX s).drop i)) = wd) := Lib.hid (by rw [hwl]; exact hwd)
              have HWL : Hid (wd.length = wl) := Lib.hid (by rw [← hwd, List.length_take, List.length_drop, HSL.out]; omega)
              have hxx : (s.extract i (i + wl)).data.toList = wd := by rw [ext_data, List.drop_take, Nat.add_sub_cancel_left, hwd]
              have HXX := Lib.hid hxx
              have HWE := Lib.hid hwle
              clear hin hout hwd hwl hxx hwle htk hsg
              go_wp2_with fail
              go_loopg [9] wl (fun m3 nv wy => ∃ (p : Nat), nv = .int .i64 (p : Int) ∧ i ≤ p ∧ p + m3 = i + wl ∧ Fr nob w1 wy)
              case atStart => exact ⟨i, rfl, Nat.le_refl _, rfl, HW2.out⟩
              case round =>
                obtain ⟨p, rfl, hip, hpm, hF3⟩ := hrel
                obtain ⟨w3, rfl⟩ : ∃ x, x = wr := ⟨_, rfl⟩
                have HF5 := Lib.hid hF3
                have qp0 : (0 : Int) ≤ (p : Int) := Int.natCast_nonneg _
                clear hF3
                cases gk with
                | succ m3 =>
                  have hps : p < s.size := by have := HWE.out; omega
                  have hI : ∀ w, Calls Try.prog 81 #[.int .u8 (s[p].toNat : Int)] w fun e w' => e = .returned (.bool true) ∧ w = w' := fun w => by
                    have h := inWord_any s[p].toNat w
                    rw [HIN.out p hps hip (by omega)] at h
                    exact h
                  have qp : (p : Int) < (s.size : Int) := by omega
                  go_wp2_with (go_at_call 81; refine (hI _).mono ?_; rintro e w' ⟨rfl, rfl⟩)
                  go_roundg m3
                  case measure => omega
                  case rel => exact ⟨p + 1, by go_num, by omega, by omega, HF5.out⟩
                | zero =>
                  obtain rfl : p = i + wl := by omega
                  clear hpm
                  have hN := refName_any (s.extract i (i + wl)) (by simp; omega)
                  rw [HXX.out] at hN
                  have hxl : (s.extract i (i + wl)).toList = wd := by rw [ByteArray.toList_eq, HXX.out]
                  have HXL := Lib.hid hxl
                  have qpl : (i + wl : Nat) ≤ s.size := by have := HWE.out; omega
                  have qpi : (i : Int) ≤ ((i + wl : Nat) : Int) := by omega
                  have qpl2 : ((i + wl : Nat) : Int) ≤ (s.size : Int) := by omega
                  obtain ⟨p, hp⟩ : ∃ p, i + wl = p := ⟨_, rfl⟩
                  have HP := Lib.hid hp
                  have hout : ∀ (hps : p < s.size) w, Calls Try.prog 81 #[.int .u8 (s[p].toNat : Int)] w fun e w' => e = .returned (.bool false) ∧ w = w' := fun hps w => by
                    have h := inWord_any s[p].toNat w
                    subst hp
                    rw [HOUT.out hps] at h
                    exact h
                  rw [hp] at hN hxl qpl qpi qpl2 HXL HXX qp0 ⊢
                  clear hp hip hxl HIN HOUT
                  by_cases hps : p < s.size
                  · have hI := hout hps
                    have qp : (p : Int) < (s.size : Int) := by omega
                    go_upto_region 17 with (go_at_call 81; refine (hI _).mono ?_; rintro e w' ⟨rfl, rfl⟩)
                    clear hI hout
                    go_upto_region 18 with fail
                    have HTK : Hid (txt wd = s.extract i p) := Lib.hid (txt_ext HXX.out).symm
                    have HTS : Hid ((s.extract i p).size = wd.length) := Lib.hid (by rw [← HTK.out, txt_size])
                    have HTL : Hid (i + wd.length ≤ s.size) := Lib.hid (by have := HWL.out; have := HP.out; omega)
                    generalize s.extract i p = TKv at *
                    have qs : (i : Int) + (TKv.size : Int) ≤ 65536 := by have h1 := HTS.out; have h2 := HTL.out; omega
                    by_cases h48 : wd = [48]
                    · have q8 : (TKv.toList == [48]) = true := by rw [HXL.out, h48]; rfl
                      have HNE : Hid (wd ≠ []) := Lib.hid (by rw [h48]; decide)
                      have H48 := Lib.hid h48
                      clear h48
                      have HE : Hid (refTok ((TX s).drop i) = wd) := Lib.hid (by unfold refTok wrdTok; rw [HSG.out, if_pos rfl, HWD.out, if_pos (.inl H48.out)])
                      clear hrl
                      go_upto_region 20 with (go_at_call 63; refine (hN _).mono ?_; rintro e w' ⟨rfl, rfl⟩)
                      have HS3 := Lib.hid (HSS.out.call HF5.out)
                      have HS4 := Lib.hid (HS3.out.call ((Fr.refl nob w3).alloc (.cells #[.int .i64 (i : Int), .string TKv] 80)))
                      have own3 := HS4.out.own
                      rw [HCNT.out] at own3
                      have hc4 : cnt + 1 ≤ maxLen := by have h1 := HAL.out; rw [HCNT.out] at h1; unfold maxLen; omega
                      have hc5 : (cnt + 1) * 24 ≤ 140737488355328 := by have h1 := HAL.out; rw [HCNT.out] at h1; omega
                      have hc6 : w.heap.size + 1 ≤ (w3.alloc (.cells #[.int .i64 (i : Int), .string TKv] 80)).heap.size := by
                        have h1 : w.heap.size < w3.heap.size := lt_of_cell (HS3.out.sg 0 (by decide))
                        rw [World.size_alloc]; omega
                      have HC456 := Lib.hid (And.intro hc4 (And.intro hc5 hc6))
                      clear hc4 hc5 hc6 HS3 hN
                      go_wp2_with (at_builtin; refine wpList_append_own_at _ rfl _ _ 72 rfl (w.heap.size + 1) 80 i0 (.agg #[.int .i64 0, .string ⟨#[]⟩]) 2 24 Try.underlying72 hi0 hi1 hi2 hi3 rfl (by decide) kv cnt (tokC acc) rfl own3 ⟨w3.heap.size, 0, none⟩ 1 1 [.int .i64 (i : Int), .string TKv] rfl rfl (two_new w3 _ _ _) (two_one _ _) HC456.out.1 HC456.out.2.1 HC456.out.2.2 ?_)
                      intro v6 w6 own6 gr6 _ _
                      have HSN := Lib.hid (HS4.out.append (i, wd) (by rw [HCNT.out]; show w6.ownsRow _ _ _ _ _ (tokC acc ++ [.int .i64 (i : Int), .string (txt wd)]); rw [HTK.out]; exact own6) gr6)
                      clear own3 own6 gr6 HS4 HSS
                      go_wp2_with fail
                      go_roundg m
                      case measure => omega
                      case rel =>
                        have hx := HX.out
                        have hy := HY.out
                        have hne := HNE.out
                        rw [if_neg (by rw [HE.out]; exact hne), HE.out] at hx hy
                        have hlen := HTS.out
                        refine ⟨acc ++ [(i, wd)], _, i + (wd).length, rfl, by rw [hlen]; go_num, by have := HTL.out; omega, by have h1 := HIM.out.2; have h2 := List.length_pos_iff.2 hne; omega, ?_, hy, by have h1 := HAL.out; have h2 := List.length_pos_iff.2 hne; simp; omega, HSN.out⟩
                        rw [← hx, List.append_assoc]; rfl
                    have q8 : (TKv.toList == [48]) = false := by rw [HXL.out]; exact beq_eq_false_iff_ne.2 h48
                    by_cases h49 : wd = [49]
                    · have q9 : (TKv.toList == [49]) = true := by rw [HXL.out, h49]; rfl
                      have HNE : Hid (wd ≠ []) := Lib.hid (by rw [h49]; decide)
                      have H49 := Lib.hid h49
                      clear h48 h49
                      have HE : Hid (refTok ((TX s).drop i) = wd) := Lib.hid (by unfold refTok wrdTok; rw [HSG.out, if_pos rfl, HWD.out, if_pos (.inr (.inl H49.out))])
                      clear hrl
                      go_upto_region 20 with (go_at_call 63; refine (hN _).mono ?_; rintro e w' ⟨rfl, rfl⟩)
                      have HS3 := Lib.hid (HSS.out.call HF5.out)
                      have HS4 := Lib.hid (HS3.out.call ((Fr.refl nob w3).alloc (.cells #[.int .i64 (i : Int), .string TKv] 80)))
                      have own3 := HS4.out.own
                      rw [HCNT.out] at own3
                      have hc4 : cnt + 1 ≤ maxLen := by have h1 := HAL.out; rw [HCNT.out] at h1; unfold maxLen; omega
                      have hc5 : (cnt + 1) * 24 ≤ 140737488355328 := by have h1 := HAL.out; rw [HCNT.out] at h1; omega
                      have hc6 : w.heap.size + 1 ≤ (w3.alloc (.cells #[.int .i64 (i : Int), .string TKv] 80)).heap.size := by
                        have h1 : w.heap.size < w3.heap.size := lt_of_cell (HS3.out.sg 0 (by decide))
                        rw [World.size_alloc]; omega
                      have HC456 := Lib.hid (And.intro hc4 (And.intro hc5 hc6))
                      clear hc4 hc5 hc6 HS3 hN
                      go_wp2_with (at_builtin; refine wpList_append_own_at _ rfl _ _ 72 rfl (w.heap.size + 1) 80 i0 (.agg #[.int .i64 0, .string ⟨#[]⟩]) 2 24 Try.underlying72 hi0 hi1 hi2 hi3 rfl (by decide) kv cnt (tokC acc) rfl own3 ⟨w3.heap.size, 0, none⟩ 1 1 [.int .i64 (i : Int), .string TKv] rfl rfl (two_new w3 _ _ _) (two_one _ _) HC456.out.1 HC456.out.2.1 HC456.out.2.2 ?_)
                      intro v6 w6 own6 gr6 _ _
                      have HSN := Lib.hid (HS4.out.append (i, wd) (by rw [HCNT.out]; show w6.ownsRow _ _ _ _ _ (tokC acc ++ [.int .i64 (i : Int), .string (txt wd)]); rw [HTK.out]; exact own6) gr6)
                      clear own3 own6 gr6 HS4 HSS
                      go_wp2_with fail
                      go_roundg m
                      case measure => omega
                      case rel =>
                        have hx := HX.out
                        have hy := HY.out
                        have hne := HNE.out
                        rw [if_neg (by rw [HE.out]; exact hne), HE.out] at hx hy
                        have hlen := HTS.out
                        refine ⟨acc ++ [(i, wd)], _, i + (wd).length, rfl, by rw [hlen]; go_num, by have := HTL.out; omega, by have h1 := HIM.out.2; have h2 := List.length_pos_iff.2 hne; omega, ?_, hy, by have h1 := HAL.out; have h2 := List.length_pos_iff.2 hne; simp; omega, HSN.out⟩
                        rw [← hx, List.append_assoc]; rfl
                    have q9 : (TKv.toList == [49]) = false := by rw [HXL.out]; exact beq_eq_false_iff_ne.2 h49
                    have H489 := Lib.hid (And.intro h48 h49)
                    clear h48 h49
                    cases hnb : nameB wd with
                    | true =>
                      rw [hnb] at hN
                      have HNB := Lib.hid hnb
                      have HNE : Hid (wd ≠ []) := Lib.hid (fun h => by rw [h] at hnb; cases hnb)
                      clear hnb
                      have HE : Hid (refTok ((TX s).drop i) = wd) := Lib.hid (by unfold refTok wrdTok; rw [HSG.out, if_pos rfl, HWD.out, if_pos (.inr (.inr HNB.out))])
                      clear hrl
                      go_upto_region 20 with (go_at_call 63; refine (hN _).mono ?_; rintro e w' ⟨rfl, rfl⟩)
                      have HS3 := Lib.hid (HSS.out.call HF5.out)
                      have HS4 := Lib.hid (HS3.out.call ((Fr.refl nob w3).alloc (.cells #[.int .i64 (i : Int), .string TKv] 80)))
                      have own3 := HS4.out.own
                      rw [HCNT.out] at own3
                      have hc4 : cnt + 1 ≤ maxLen := by have h1 := HAL.out; rw [HCNT.out] at h1; unfold maxLen; omega
                      have hc5 : (cnt + 1) * 24 ≤ 140737488355328 := by have h1 := HAL.out; rw [HCNT.out] at h1; omega
                      have hc6 : w.heap.size + 1 ≤ (w3.alloc (.cells #[.int .i64 (i : Int), .string TKv] 80)).heap.size := by
                        have h1 : w.heap.size < w3.heap.size := lt_of_cell (HS3.out.sg 0 (by decide))
                        rw [World.size_alloc]; omega
                      have HC456 := Lib.hid (And.intro hc4 (And.intro hc5 hc6))
                      clear hc4 hc5 hc6 HS3 hN
                      go_wp2_with (at_builtin; refine wpList_append_own_at _ rfl _ _ 72 rfl (w.heap.size + 1) 80 i0 (.agg #[.int .i64 0, .string ⟨#[]⟩]) 2 24 Try.underlying72 hi0 hi1 hi2 hi3 rfl (by decide) kv cnt (tokC acc) rfl own3 ⟨w3.heap.size, 0, none⟩ 1 1 [.int .i64 (i : Int), .string TKv] rfl rfl (two_new w3 _ _ _) (two_one _ _) HC456.out.1 HC456.out.2.1 HC456.out.2.2 ?_)
                      intro v6 w6 own6 gr6 _ _
                      have HSN := Lib.hid (HS4.out.append (i, wd) (by rw [HCNT.out]; show w6.ownsRow _ _ _ _ _ (tokC acc ++ [.int .i64 (i : Int), .string (txt wd)]); rw [HTK.out]; exact own6) gr6)
                      clear own3 own6 gr6 HS4 HSS
                      go_wp2_with fail
                      go_roundg m
                      case measure => omega
                      case rel =>
                        have hx := HX.out
                        have hy := HY.out
                        have hne := HNE.out
                        rw [if_neg (by rw [HE.out]; exact hne), HE.out] at hx hy
                        have hlen := HTS.out
                        refine ⟨acc ++ [(i, wd)], _, i + (wd).length, rfl, by rw [hlen]; go_num, by have := HTL.out; omega, by have h1 := HIM.out.2; have h2 := List.length_pos_iff.2 hne; omega, ?_, hy, by have h1 := HAL.out; have h2 := List.length_pos_iff.2 hne; simp; omega, HSN.out⟩
                        rw [← hx, List.append_assoc]; rfl
                    | false =>
                      rw [hnb] at hN
                      have hre : refTok ((TX s).drop i) = [] := by
                        unfold refTok wrdTok
                        rw [HSG.out, if_pos rfl, HWD.out, if_neg (fun h => by
                          rcases h with h | h | h
                          · exact H489.out.1 h
                          · exact H489.out.2 h
                          · rw [hnb] at h; cases h)]
                      have hx := HX.out
                      have hy := HY.out
                      rw [if_pos hre] at hx hy
                      have HX2 := Lib.hid hx
                      have HY2 := Lib.hid hy
                      have HFF := Lib.hid (HSS.out.call HF5.out)
                      clear hx hy hre hnb
                      go_wp2_with (go_at_call 63; refine (hN _).mono ?_; rintro e w' ⟨rfl, rfl⟩)
                      have hT := HFF.out.tok
                      have hxx := HX2.out
                      rw [List.append_nil] at hxx
                      rw [hxx] at hT
                      exact bodyPost_ret (v := .tuple #[kv, .int .i64 (i : Int)]) (by simp [results, Try.results44, go_sem]) rfl ⟨kv, by rw [← HY2.out]; rfl, hT, HFF.out.fr⟩
                  · have qp : ¬ (p : Int) < (s.size : Int) := by omega
                    go_upto_region 17 with fail
                    clear hout
                    go_upto_region 18 with fail
                    have HTK : Hid (txt wd = s.extract i p) := Lib.hid (txt_ext HXX.out).symm
                    have HTS : Hid ((s.extract i p).size = wd.length) := Lib.hid (by rw [← HTK.out, txt_size])
                    have HTL : Hid (i + wd.length ≤ s.size) := Lib.hid (by have := HWL.out; have := HP.out; omega)
                    generalize s.extract i p = TKv at *
                    have qs : (i : Int) + (TKv.size : Int) ≤ 65536 := by have h1 := HTS.out; have h2 := HTL.out; omega
                    by_cases h48 : wd = [48]
                    · have q8 : (TKv.toList == [48]) = true := by rw [HXL.out, h48]; rfl
                      have HNE : Hid (wd ≠ []) := Lib.hid (by rw [h48]; decide)
                      have H48 := Lib.hid h48
                      clear h48
                      have HE : Hid (refTok ((TX s).drop i) = wd) := Lib.hid (by unfold refTok wrdTok; rw [HSG.out, if_pos rfl, HWD.out, if_pos (.inl H48.out)])
                      clear hrl
                      go_upto_region 20 with (go_at_call 63; refine (hN _).mono ?_; rintro e w' ⟨rfl, rfl⟩)
                      have HS3 := Lib.hid (HSS.out.call HF5.out)
                      have HS4 := Lib.hid (HS3.out.call ((Fr.refl nob w3).alloc (.cells #[.int .i64 (i : Int), .string TKv] 80)))
                      have own3 := HS4.out.own
                      rw [HCNT.out] at own3
                      have hc4 : cnt + 1 ≤ maxLen := by have h1 := HAL.out; rw [HCNT.out] at h1; unfold maxLen; omega
                      have hc5 : (cnt + 1) * 24 ≤ 140737488355328 := by have h1 := HAL.out; rw [HCNT.out] at h1; omega
                      have hc6 : w.heap.size + 1 ≤ (w3.alloc (.cells #[.int .i64 (i : Int), .string TKv] 80)).heap.size := by
                        have h1 : w.heap.size < w3.heap.size := lt_of_cell (HS3.out.sg 0 (by decide))
                        rw [World.size_alloc]; omega
                      have HC456 := Lib.hid (And.intro hc4 (And.intro hc5 hc6))
                      clear hc4 hc5 hc6 HS3 hN
                      go_wp2_with (at_builtin; refine wpList_append_own_at _ rfl _ _ 72 rfl (w.heap.size + 1) 80 i0 (.agg #[.int .i64 0, .string ⟨#[]⟩]) 2 24 Try.underlying72 hi0 hi1 hi2 hi3 rfl (by decide) kv cnt (tokC acc) rfl own3 ⟨w3.heap.size, 0, none⟩ 1 1 [.int .i64 (i : Int), .string TKv] rfl rfl (two_new w3 _ _ _) (two_one _ _) HC456.out.1 HC456.out.2.1 HC456.out.2.2 ?_)
                      intro v6 w6 own6 gr6 _ _
                      have HSN := Lib.hid (HS4.out.append (i, wd) (by rw [HCNT.out]; show w6.ownsRow _ _ _ _ _ (tokC acc ++ [.int .i64 (i : Int), .string (txt wd)]); rw [HTK.out]; exact own6) gr6)
                      clear own3 own6 gr6 HS4 HSS
                      go_wp2_with fail
                      go_roundg m
                      case measure => omega
                      case rel =>
                        have hx := HX.out
                        have hy := HY.out
                        have hne := HNE.out
                        rw [if_neg (by rw [HE.out]; exact hne), HE.out] at hx hy
                        have hlen := HTS.out
                        refine ⟨acc ++ [(i, wd)], _, i + (wd).length, rfl, by rw [hlen]; go_num, by have := HTL.out; omega, by have h1 := HIM.out.2; have h2 := List.length_pos_iff.2 hne; omega, ?_, hy, by have h1 := HAL.out; have h2 := List.length_pos_iff.2 hne; simp; omega, HSN.out⟩
                        rw [← hx, List.append_assoc]; rfl
                    have q8 : (TKv.toList == [48]) = false := by rw [HXL.out]; exact beq_eq_false_iff_ne.2 h48
                    by_cases h49 : wd = [49]
                    · have q9 : (TKv.toList == [49]) = true := by rw [HXL.out, h49]; rfl
                      have HNE : Hid (wd ≠ []) := Lib.hid (by rw [h49]; decide)
                      have H49 := Lib.hid h49
                      clear h48 h49
                      have HE : Hid (refTok ((TX s).drop i) = wd) := Lib.hid (by unfold refTok wrdTok; rw [HSG.out, if_pos rfl, HWD.out, if_pos (.inr (.inl H49.out))])
                      clear hrl
                      go_upto_region 20 with (go_at_call 63; refine (hN _).mono ?_; rintro e w' ⟨rfl, rfl⟩)
                      have HS3 := Lib.hid (HSS.out.call HF5.out)
                      have HS4 := Lib.hid (HS3.out.call ((Fr.refl nob w3).alloc (.cells #[.int .i64 (i : Int), .string TKv] 80)))
                      have own3 := HS4.out.own
                      rw [HCNT.out] at own3
                      have hc4 : cnt + 1 ≤ maxLen := by have h1 := HAL.out; rw [HCNT.out] at h1; unfold maxLen; omega
                      have hc5 : (cnt + 1) * 24 ≤ 140737488355328 := by have h1 := HAL.out; rw [HCNT.out] at h1; omega
                      have hc6 : w.heap.size + 1 ≤ (w3.alloc (.cells #[.int .i64 (i : Int), .string TKv] 80)).heap.size := by
                        have h1 : w.heap.size < w3.heap.size := lt_of_cell (HS3.out.sg 0 (by decide))
                        rw [World.size_alloc]; omega
                      have HC456 := Lib.hid (And.intro hc4 (And.intro hc5 hc6))
                      clear hc4 hc5 hc6 HS3 hN
                      go_wp2_with (at_builtin; refine wpList_append_own_at _ rfl _ _ 72 rfl (w.heap.size + 1) 80 i0 (.agg #[.int .i64 0, .string ⟨#[]⟩]) 2 24 Try.underlying72 hi0 hi1 hi2 hi3 rfl (by decide) kv cnt (tokC acc) rfl own3 ⟨w3.heap.size, 0, none⟩ 1 1 [.int .i64 (i : Int), .string TKv] rfl rfl (two_new w3 _ _ _) (two_one _ _) HC456.out.1 HC456.out.2.1 HC456.out.2.2 ?_)
                      intro v6 w6 own6 gr6 _ _
                      have HSN := Lib.hid (HS4.out.append (i, wd) (by rw [HCNT.out]; show w6.ownsRow _ _ _ _ _ (tokC acc ++ [.int .i64 (i : Int), .string (txt wd)]); rw [HTK.out]; exact own6) gr6)
                      clear own3 own6 gr6 HS4 HSS
                      go_wp2_with fail
                      go_roundg m
                      case measure => omega
                      case rel =>
                        have hx := HX.out
                        have hy := HY.out
                        have hne := HNE.out
                        rw [if_neg (by rw [HE.out]; exact hne), HE.out] at hx hy
                        have hlen := HTS.out
                        refine ⟨acc ++ [(i, wd)], _, i + (wd).length, rfl, by rw [hlen]; go_num, by have := HTL.out; omega, by have h1 := HIM.out.2; have h2 := List.length_pos_iff.2 hne; omega, ?_, hy, by have h1 := HAL.out; have h2 := List.length_pos_iff.2 hne; simp; omega, HSN.out⟩
                        rw [← hx, List.append_assoc]; rfl
                    have q9 : (TKv.toList == [49]) = false := by rw [HXL.out]; exact beq_eq_false_iff_ne.2 h49
                    have H489 := Lib.hid (And.intro h48 h49)
                    clear h48 h49
                    cases hnb : nameB wd with
                    | true =>
                      rw [hnb] at hN
                      have HNB := Lib.hid hnb
                      have HNE : Hid (wd ≠ []) := Lib.hid (fun h => by rw [h] at hnb; cases hnb)
                      clear hnb
                      have HE : Hid (refTok ((TX s).drop i) = wd) := Lib.hid (by unfold refTok wrdTok; rw [HSG.out, if_pos rfl, HWD.out, if_pos (.inr (.inr HNB.out))])
                      clear hrl
                      go_upto_region 20 with (go_at_call 63; refine (hN _).mono ?_; rintro e w' ⟨rfl, rfl⟩)
                      have HS3 := Lib.hid (HSS.out.call HF5.out)
                      have HS4 := Lib.hid (HS3.out.call ((Fr.refl nob w3).alloc (.cells #[.int .i64 (i : Int), .string TKv] 80)))
                      have own3 := HS4.out.own
                      rw [HCNT.out] at own3
                      have hc4 : cnt + 1 ≤ maxLen := by have h1 := HAL.out; rw [HCNT.out] at h1; unfold maxLen; omega
                      have hc5 : (cnt + 1) * 24 ≤ 140737488355328 := by have h1 := HAL.out; rw [HCNT.out] at h1; omega
                      have hc6 : w.heap.size + 1 ≤ (w3.alloc (.cells #[.int .i64 (i : Int), .string TKv] 80)).heap.size := by
                        have h1 : w.heap.size < w3.heap.size := lt_of_cell (HS3.out.sg 0 (by decide))
                        rw [World.size_alloc]; omega
                      have HC456 := Lib.hid (And.intro hc4 (And.intro hc5 hc6))
                      clear hc4 hc5 hc6 HS3 hN
                      go_wp2_with (at_builtin; refine wpList_append_own_at _ rfl _ _ 72 rfl (w.heap.size + 1) 80 i0 (.agg #[.int .i64 0, .string ⟨#[]⟩]) 2 24 Try.underlying72 hi0 hi1 hi2 hi3 rfl (by decide) kv cnt (tokC acc) rfl own3 ⟨w3.heap.size, 0, none⟩ 1 1 [.int .i64 (i : Int), .string TKv] rfl rfl (two_new w3 _ _ _) (two_one _ _) HC456.out.1 HC456.out.2.1 HC456.out.2.2 ?_)
                      intro v6 w6 own6 gr6 _ _
                      have HSN := Lib.hid (HS4.out.append (i, wd) (by rw [HCNT.out]; show w6.ownsRow _ _ _ _ _ (tokC acc ++ [.int .i64 (i : Int), .string (txt wd)]); rw [HTK.out]; exact own6) gr6)
                      clear own3 own6 gr6 HS4 HSS
                      go_wp2_with fail
                      go_roundg m
                      case measure => omega
                      case rel =>
                        have hx := HX.out
                        have hy := HY.out
                        have hne := HNE.out
                        rw [if_neg (by rw [HE.out]; exact hne), HE.out] at hx hy
                        have hlen := HTS.out
                        refine ⟨acc ++ [(i, wd)], _, i + (wd).length, rfl, by rw [hlen]; go_num, by have := HTL.out; omega, by have h1 := HIM.out.2; have h2 := List.length_pos_iff.2 hne; omega, ?_, hy, by have h1 := HAL.out; have h2 := List.length_pos_iff.2 hne; simp; omega, HSN.out⟩
                        rw [← hx, List.append_assoc]; rfl
                    | false =>
                      rw [hnb] at hN
                      have hre : refTok ((TX s).drop i) = [] := by
                        unfold refTok wrdTok
                        rw [HSG.out, if_pos rfl, HWD.out, if_neg (fun h => by
                          rcases h with h | h | h
                          · exact H489.out.1 h
                          · exact H489.out.2 h
                          · rw [hnb] at h; cases h)]
                      have hx := HX.out
                      have hy := HY.out
                      rw [if_pos hre] at hx hy
                      have HX2 := Lib.hid hx
                      have HY2 := Lib.hid hy
                      have HFF := Lib.hid (HSS.out.call HF5.out)
                      clear hx hy hre hnb
                      go_wp2_with (go_at_call 63; refine (hN _).mono ?_; rintro e w' ⟨rfl, rfl⟩)
                      have hT := HFF.out.tok
                      have hxx := HX2.out
                      rw [List.append_nil] at hxx
                      rw [hxx] at hT
                      exact bodyPost_ret (v := .tuple #[kv, .int .i64 (i : Int)]) (by simp [results, Try.results44, go_sem]) rfl ⟨kv, by rw [← HY2.out]; rfl, hT, HFF.out.fr⟩
            · have HE : Hid (refTok ((TX s).drop i) = tk) := Lib.hid (by unfold refTok; rw [htk, if_neg hsg])
              obtain ⟨TKv, hTK⟩ : ∃ TKv, txt tk = TKv := ⟨_, rfl⟩
              have HTK := Lib.hid hTK
              have HTS : Hid (TKv.size = tk.length) := Lib.hid (by rw [← hTK, txt_size])
              have HTL : Hid (i + tk.length ≤ s.size) := Lib.hid (by rw [HE.out] at hrl; omega)
              have HNE := Lib.hid hsg
              have q5 : TKv.toList.isEmpty = false := by
                rw [← hTK, tlist]
                cases tk with
                | nil => exact absurd rfl hsg
                | cons a l => rfl
              have qs : (i : Int) + (TKv.size : Int) ≤ 65536 := by have h1 := HTS.out; have h2 := HTL.out; omega
              rw [hTK]
              clear htk hTK hsg hrl
              go_wp2_with fail
              go_loopg [9] 0 (fun m3 nv wy => nv = .int .i64 (i : Int) ∧ Fr nob w1 wy)
              case atStart => exact ⟨rfl, HW2.out⟩
              case round =>
                obtain ⟨rfl, hF3⟩ := hrel
                obtain ⟨w3, rfl⟩ : ∃ x, x = wr := ⟨_, rfl⟩
                have HF5 := Lib.hid hF3
                clear hF3
                go_upto_region 20 with fail
                have HS3 := Lib.hid (HSS.out.call HF5.out)
                have HS4 := Lib.hid (HS3.out.call ((Fr.refl nob w3).alloc (.cells #[.int .i64 (i : Int), .string TKv] 80)))
                have own3 := HS4.out.own
                rw [HCNT.out] at own3
                have hc4 : cnt + 1 ≤ maxLen := by have h1 := HAL.out; rw [HCNT.out] at h1; unfold maxLen; omega
                have hc5 : (cnt + 1) * 24 ≤ 140737488355328 := by have h1 := HAL.out; rw [HCNT.out] at h1; omega
                have hc6 : w.heap.size + 1 ≤ (w3.alloc (.cells #[.int .i64 (i : Int), .string TKv] 80)).heap.size := by
                  have h1 : w.heap.size < w3.heap.size := lt_of_cell (HS3.out.sg 0 (by decide))
                  rw [World.size_alloc]; omega
                have HC456 := Lib.hid (And.intro hc4 (And.intro hc5 hc6))
                clear hc4 hc5 hc6 HS3 
                go_wp2_with (at_builtin; refine wpList_append_own_at _ rfl _ _ 72 rfl (w.heap.size + 1) 80 i0 (.agg #[.int .i64 0, .string ⟨#[]⟩]) 2 24 Try.underlying72 hi0 hi1 hi2 hi3 rfl (by decide) kv cnt (tokC acc) rfl own3 ⟨w3.heap.size, 0, none⟩ 1 1 [.int .i64 (i : Int), .string TKv] rfl rfl (two_new w3 _ _ _) (two_one _ _) HC456.out.1 HC456.out.2.1 HC456.out.2.2 ?_)
                intro v6 w6 own6 gr6 _ _
                have HSN := Lib.hid (HS4.out.append (i, tk) (by rw [HCNT.out]; show w6.ownsRow _ _ _ _ _ (tokC acc ++ [.int .i64 (i : Int), .string (txt tk)]); rw [HTK.out]; exact own6) gr6)
                clear own3 own6 gr6 HS4 HSS
                go_wp2_with fail
                go_roundg m
                case measure => omega
                case rel =>
                  have hx := HX.out
                  have hy := HY.out
                  have hne := HNE.out
                  rw [if_neg (by rw [HE.out]; exact hne), HE.out] at hx hy
                  have hlen := HTS.out
                  refine ⟨acc ++ [(i, tk)], _, i + (tk).length, rfl, by rw [hlen]; go_num, by have := HTL.out; omega, by have h1 := HIM.out.2; have h2 := List.length_pos_iff.2 hne; omega, ?_, hy, by have h1 := HAL.out; have h2 := List.length_pos_iff.2 hne; simp; omega, HSN.out⟩
                  rw [← hx, List.append_assoc]; rfl
    · have q1 : decide ((i : Int) < (s.size : Int)) = false := by simpa using hlt
      obtain rfl : i = s.size := by omega
      have hx := HL2.out
      have hy := HB2.out
      rw [toksP, if_neg (by rw [HSL.out]; omega), HSL.out] at hx hy
      have HX := Lib.hid hx
      have HY := Lib.hid hy
      have HF5 : Hid (Fr nob wr wr) := Lib.hid (Fr.refl nob wr)
      clear hx hy HL2 HB2 hlt
      go_upto_region 22 with fail
      obtain ⟨w3, rfl⟩ : ∃ x, x = wr := ⟨_, rfl⟩
      have HS3 := Lib.hid (HSS.out.call HF5.out)
      have HS4 := Lib.hid (HS3.out.call ((Fr.refl nob w3).alloc (.cells #[.int .i64 (s.size : Int), .string ⟨#[]⟩] 80)))
      have own3 := HS4.out.own
      rw [HCNT.out] at own3
      have hc4 : cnt + 1 ≤ maxLen := by have h1 := HAL.out; rw [HCNT.out] at h1; unfold maxLen; omega
      have hc5 : (cnt + 1) * 24 ≤ 140737488355328 := by have h1 := HAL.out; rw [HCNT.out] at h1; omega
      have hc6 : w.heap.size + 1 ≤ (w3.alloc (.cells #[.int .i64 (s.size : Int), .string ⟨#[]⟩] 80)).heap.size := by
        have h1 : w.heap.size < w3.heap.size := lt_of_cell (HS3.out.sg 0 (by decide))
        rw [World.size_alloc]; omega
      have HC456 := Lib.hid (And.intro hc4 (And.intro hc5 hc6))
      clear hc4 hc5 hc6 HS3 HF5
      go_wp2_with (at_builtin; refine wpList_append_own_at _ rfl _ _ 72 rfl (w.heap.size + 1) 80 i0 (.agg #[.int .i64 0, .string ⟨#[]⟩]) 2 24 Try.underlying72 hi0 hi1 hi2 hi3 rfl (by decide) kv cnt (tokC acc) rfl own3 ⟨w3.heap.size, 0, none⟩ 1 1 [.int .i64 (s.size : Int), .string ⟨#[]⟩] rfl rfl (two_new w3 _ _ _) (two_one _ _) HC456.out.1 HC456.out.2.1 HC456.out.2.2 ?_)
      intro v6 w6 own6 gr6 _ _
      have HSN := Lib.hid (HS4.out.append (s.size, []) (by rw [HCNT.out]; exact own6) gr6)
      clear own3 own6 gr6 HS4 HSS
      go_wp2_with fail
      have hT := HSN.out.tok
      have hxx := HX.out
      (try dsimp only at hxx)
      rw [hxx] at hT
      exact bodyPost_ret (v := .tuple #[v6, .int .i64 (-1)]) (by simp [results, Try.results44, go_sem]) rfl ⟨v6, by rw [← HY.out]; rfl, hT, HSN.out.fr⟩
end Go.Proofs.Ytbjdaibkcchllaa
