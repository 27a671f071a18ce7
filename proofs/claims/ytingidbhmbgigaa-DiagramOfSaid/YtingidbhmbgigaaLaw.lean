import Derived.Test.YtingidbhmbgigaaROf
import Derived.Test.YtingidbhmbgigaaAlike
import Derived.Test.YtingidbhmbgigaaSm
import Derived.Test.YtingidbhmbgigaaWake
namespace Go.Proofs.Ytingidbhmbgigaa
open Go.RowKit
open Bd

theorem info_dec : (Try.prog.info? 26).map (fun i => (i.zero, i.size, i.bytes)) = some (some (.agg #[.int .i64 0, .int .i64 0, .int .i64 0]), 3, 24) := by kernel_rfl

/-- the cells of a list -/
def dcells (L : List Dec) : List Value := L.flatMap fun d => [.int .i64 d.1, .int .i64 d.2.1, .int .i64 d.2.2]
theorem dcells_length (L : List Dec) : (dcells L).length = 3 * L.length := by
  unfold dcells; rw [Bd.length_flat _ _ 3 (by intro; rfl)]; omega
theorem dcells_at {L : List Dec} {k : Nat} (h : k < L.length) : (dcells L)[k * 3]? = some (.int .i64 L[k].1) ∧ (dcells L)[k * 3 + 1]? = some (.int .i64 L[k].2.1) ∧ (dcells L)[k * 3 + 2]? = some (.int .i64 L[k].2.2) := by
  induction L generalizing k with
  | nil => simp at h
  | cons d L ih =>
    have e : dcells (d :: L) = .int .i64 d.1 :: .int .i64 d.2.1 :: .int .i64 d.2.2 :: dcells L := rfl
    cases k with
    | zero => simp [e]
    | succ k =>
      have := ih (k := k) (by simpa using h)
      rw [e, show (k + 1) * 3 = k * 3 + 1 + 1 + 1 by omega]
      simpa using this
theorem LRow.of_own {w : World} {T : TypeId} {base : Nat} {v : Value} {L : List Dec} (h : w.ownsRow base T 3 v L.length (dcells L)) : LRow w v L := by
  rcases h.2 with ⟨rfl, h0⟩ | ⟨g, cap, cur, rfl, _⟩
  · have e0 : L = [] := List.length_eq_zero_iff.1 h0
    subst e0
    exact ⟨none, 0, rfl, fun k d hd => by simp at hd⟩
  · refine ⟨some ⟨g, 0, none⟩, cap, rfl, fun k d hd => ⟨g, 0, rfl, ?_⟩⟩
    obtain ⟨hk, rfl⟩ := List.getElem?_eq_some_iff.1 hd
    obtain ⟨e0, e1, e2⟩ := dcells_at hk
    rw [Nat.zero_add]
    exact ⟨(h.cellAt _ (by omega)).trans e0, (h.cellAt _ (by omega)).trans e1, (h.cellAt _ (by omega)).trans e2⟩
theorem dcells_news {w : World} {a : Addr} {n cap : Nat} {L : List Dec} (h : LRow w (.slice (some a) n cap) L) : ∀ j u, (dcells L)[j]? = some u → w.cell? (a.add j) = some u := by
  intro j u hj
  have hlt := (List.getElem?_eq_some_iff.1 hj).1
  rw [dcells_length] at hlt
  have hk : j / 3 < L.length := by omega
  obtain ⟨b', o', e, x0, x1, x2⟩ := h.at (k := j / 3) (d := L[j / 3]) (by simp [hk])
  cases e
  obtain ⟨e0, e1, e2⟩ := dcells_at hk
  have ha : (⟨b', o', none⟩ : Addr).add j = ⟨b', o' + j, none⟩ := by simp [Addr.add]
  rw [ha]
  rcases (by omega : j = j / 3 * 3 ∨ j = j / 3 * 3 + 1 ∨ j = j / 3 * 3 + 2) with h | h | h
  · rw [h] at hj ⊢; rw [e0] at hj; cases hj; exact x0
  · rw [h] at hj ⊢; rw [e1] at hj; cases hj; rw [← Nat.add_assoc]; exact x1
  · rw [h] at hj ⊢; rw [e2] at hj; cases hj; rw [← Nat.add_assoc]; exact x2

theorem validL_take {L : List Dec} {m : Nat} (hm : m = L.length) (h : validL (L.take m)) : validL L := by subst hm; rwa [List.take_length] at h

/-- Of and the document's Of of one list and root -/
theorem both_any (L : List Dec) (hL : L.length ≤ 65536) (r : Int) : ∃ (b : B) (err : Int), b.ok 0 ∧
    (∀ v W, LRow W v L → Calls Try.prog 6 #[v, .int .i64 r] W fun e w' => e = .returned (.tuple #[dval b, .int .i64 err]) ∧ Below W.heap.size W w') ∧
    (∀ v W, LRow W v L → Calls Try.prog 7 #[v, .int .i64 r] W fun e w' => ∃ v' V f, e = .returned (.tuple #[v', .int .i64 err]) ∧ RSet w' v' V f ∧ (∀ c, f c = b.ev c) ∧ Below W.heap.size W w') := by
  obtain ⟨m, hm, hval, hbad⟩ := first_bad L
  by_cases hml : m < L.length
  · refine ⟨.F, 4, trivial, fun v W hv => Of_form L m hml (hbad hml) (fun k hk => ?_) hL r v W hv, fun v W hv => ?_⟩
    · have := hval k (by rw [List.length_take]; omega)
      rwa [fitsD_take (by omega), List.getElem_take] at this
    · refine (ROf_any L m hm hval hbad hL r v W hv).mono ?_
      rintro e w' ⟨v', V, f, err, rfl, hs, hb, h1, _, _⟩
      obtain ⟨rfl, hf⟩ := h1 hml
      exact ⟨v', V, f, rfl, hs, hf, hb⟩
  · have hme : m = L.length := by omega
    have hv' := validL_take hme hval
    by_cases hr : 0 ≤ r ∧ r ≤ (L.length : Int) + 1
    · obtain ⟨rn, rfl⟩ : ∃ n : Nat, r = n := ⟨r.toNat, by omega⟩
      have hrn : rn < L.length + 2 := by omega
      refine ⟨semL L rn, 0, semL_ok0 hv' hrn, fun v W hv => Of_yes L hv' hL rn hrn v W hv, fun v W hv => ?_⟩
      refine (ROf_any L m hm hval hbad hL rn v W hv).mono ?_
      rintro e w' ⟨v', V, f, err, rfl, hs, hb, _, _, h3⟩
      obtain ⟨rfl, hf⟩ := h3 hme hr.1 hr.2
      exact ⟨v', V, f, rfl, hs, hf, hb⟩
    · have hr' : r < 0 ∨ (L.length : Int) + 1 < r := by omega
      refine ⟨.F, 3, trivial, fun v W hv => Of_range L hv' hL r hr' v W hv, fun v W hv => ?_⟩
      refine (ROf_any L m hm hval hbad hL r v W hv).mono ?_
      rintro e w' ⟨v', V, f, err, rfl, hs, hb, _, h2, _⟩
      obtain ⟨rfl, hf⟩ := h2 hme hr'
      exact ⟨v', V, f, rfl, hs, hf, hb⟩

set_option maxRecDepth 100000 in
set_option maxHeartbeats 4000000 in
theorem law_any (L : List Dec) (r : Int) (v : Value) (w : World) (hv : LRow w v L) (hn : (v = .slice none 0 0 ∧ L = []) ∨ ∃ (a : Addr) (cap : Nat), v = .slice (some a) L.length cap) : Calls Try.prog 3 #[v, .int .i64 r] w fun e w' => e = .returned (.bool true) ∧ Below w.heap.size w w' := by
  obtain ⟨i0, hi0, hz0, hz1, hz2⟩ := info_parts info_dec
  obtain ⟨a, cap, rfl⟩ := hv.form
  have hL16 : L.length ≤ 12 → L.length ≤ 65536 := fun h => by omega
  by_cases h12 : L.length ≤ 12
  · go_enter Try.func3, Try.ntmps3
    go_wp2_with fail
    go_loop [5, 6] (fun fv kv => ∃ k f : Nat, k ≤ L.length ∧ kv = kk k ∧ fv = .int .u32 (f : Int) ∧ f < 2 ^ 24) (fun _ kv => L.length - (intOf kv).toNat)
    case atStart => exact ⟨0, 0, Nat.zero_le _, rfl, rfl, by decide⟩
    case round =>
      obtain ⟨k, f, hk, rfl, rfl, hf⟩ := hrel
      by_cases hlt : k < L.length
      · have hd : L[k]? = some L[k] := by simp [hlt]
        obtain ⟨b, o, rfl, x0, x1, x2⟩ := hv.at hd
        generalize L[k] = d at *
        obtain ⟨x, lo, hi⟩ := d
        have hk1 : (k : Int) < (L.length : Int) := by omega
        clear hd
        by_cases hx0 : 0 ≤ x
        · by_cases hx1 : x < 24
          · obtain ⟨xn, rfl⟩ : ∃ n : Nat, x = n := ⟨x.toNat, by omega⟩
            have ho := or_u32 f xn hf (by omega)
            rw [Nat.one_shiftLeft] at ho
            have HO := Lib.hid ho
            clear ho
            go_wp2_with fail
            refine ⟨⟨k + 1, f ||| 2 ^ xn, by omega, by go_num, by rw [HO.out], Nat.or_lt_two_pow hf (Nat.pow_lt_pow_right (by omega) (by omega))⟩, by simp [intOf]; omega⟩
          · go_wp2_with fail
            refine ⟨⟨k + 1, f, by omega, by go_num, rfl, hf⟩, by simp [intOf]; omega⟩
        · go_wp2_with fail
          refine ⟨⟨k + 1, f, by omega, by go_num, rfl, hf⟩, by simp [intOf]; omega⟩
      · obtain rfl : k = L.length := by omega
        have hff := Features_any f (Nat.lt_of_lt_of_le hf (by decide)) w
        go_wp2_with fail
        refine hff.mono ?_
        clear hff
        rintro e w1 ⟨v1, rfl, hs1, hb1⟩
        obtain ⟨q1, c1, rfl⟩ := hs1.form
        rw [List.length_map]
        have fr1 := (Fr.refl nob w).below hb1
        generalize (featL f).length = nf at *
        by_cases h7 : nf ≤ 7
        · rcases hn with ⟨hnil, rfl⟩ | ⟨a', cap2, hsome⟩
          · cases hnil
            go_wp2_with fail
            have fr2 : Fr nob w w1 := fr1
            have hl2 := hv.kept fr2
            have ho2 : LRow w1 (.slice none 0 0) [] := ⟨none, 0, rfl, fun k d hd => by simp at hd⟩
            obtain ⟨bb, err, hbok, hOf, hRO⟩ := both_any [] (by simp) r
            have HOf := hOf (.slice none 0 0)
            have HRO := hRO (.slice none 0 0)
            clear hOf hRO h12 h7 hs1
            refine (HOf _ ho2).mono ?_
            rintro e w3 ⟨rfl, hb3⟩
            have p3 := (Fr.refl nob w1).below hb3
            have p4 : Fr nob w3 (w3.alloc (.cells #[.int .u32 (place (li bb) bb : Int), .string ⟨(code (rows (li bb))).toArray⟩] 31)) := (Fr.refl nob w3).alloc _
            obtain ⟨d0, d1⟩ := two_cells' w3 (.int .u32 (place (li bb) bb : Int)) (.string ⟨(code (rows (li bb))).toArray⟩) 31
            have fr4 := (fr2.trans p3 (fun _ _ h => h)).trans p4 (fun _ _ h => h)
            have ho4 := (ho2.kept p3).kept p4
            have hl4 := hv.kept fr4
            clear HOf hb3 p3 p4 ho2 hl2 fr2
            go_wp2_with fail
            generalize w3.alloc (.cells #[.int .u32 (place (li bb) bb : Int), .string ⟨(code (rows (li bb))).toArray⟩] 31) = W4 at *
            refine (HRO _ hl4).mono ?_
            rintro e w5 ⟨v', V, f', rfl, hs5, hf5, hb5⟩
            obtain ⟨q5, n5, c5, u5, m5, d5, rfl⟩ := hs5.form
            have p5 := (Fr.refl nob W4).below hb5
            have p6 : Fr nob w5 (w5.alloc (.cells #[.slice q5 n5 c5, .slice u5 m5 d5] 37)) := (Fr.refl nob w5).alloc _
            obtain ⟨s0, s1⟩ := two_cells' w5 (.slice q5 n5 c5) (.slice u5 m5 d5) 37
            replace d0 := (p5.trans p6 (fun _ _ h => h)).cell' d0 (fun h => h)
            replace d1 := (p5.trans p6 (fun _ _ h => h)).cell' d1 (fun h => h)
            have fr6 := (fr4.trans p5 (fun _ _ h => h)).trans p6 (fun _ _ h => h)
            have hs6 := hs5.kept p6
            have ho6 := (ho4.kept p5).kept p6
            clear HRO hb5 p5 p6 ho4 hl4 fr4 hs5
            have hee : (err == err) = true := by simp
            go_wp2_with fail
            generalize w5.alloc (.cells #[.slice q5 n5 c5, .slice u5 m5 d5] 37) = W6 at *
            refine (Alike_any bb hbok V f' _ W6 hs6 hf5).mono ?_
            rintro e w7 ⟨rfl, hb7⟩
            have fr7 := fr6.below hb7
            have ho7 := ho6.kept ((Fr.refl nob W6).below hb7)
            have hl7 := hv.kept fr7
            clear hs6 ho6 fr6 hb7 d0 d1 s0 s1
            go_wp2_with fail
            refine (lsame_any [] (by simp) _ _ _ ho7 hl7).mono ?_
            rintro e w8 ⟨rfl, hb8⟩
            have fr8 := fr7.below hb8
            clear ho7 hl7 hb8 fr7
            go_wp2_with fail
            refine (wakes_any _).mono ?_
            rintro e w9 ⟨rfl, hb9⟩
            go_wp2_with fail
            go_ret
            exact ⟨rfl, (fr8.below hb9).to_below (Nat.le_refl _) (fun _ h => h.elim)⟩
          · obtain rfl : a = some a' := by injection hsome
            obtain rfl : cap2 = cap := by injection hsome with _ _ h; exact h.symm
            have hnews := dcells_news (hv.kept fr1)
            go_wp2_with (at_builtin; refine wpList_append_own _ rfl _ _ 22 rfl 0 26 i0 (.agg #[.int .i64 0, .int .i64 0, .int .i64 0]) 3 24 Try.underlying22 hi0 hz0 hz1 hz2 rfl (by decide) (.slice none 0 0) 0 [] rfl (World.ownsRow_nil _ _ _ _) a' L.length cap2 (dcells L) rfl ?c1 ?c2 ?c3 ?c4 ?c5 ?c6 ?_)
            case c1 => rw [dcells_length]; omega
            case c2 => exact hnews
            case c3 => intro u hu; obtain ⟨d, _, hd⟩ := List.mem_flatMap.1 hu; simp at hd; rcases hd with rfl | rfl | rfl <;> rfl
            case c4 => unfold maxLen; omega
            case c5 => omega
            case c6 => omega
            intro vo w2 row2 gr2 _
            have fr2 : Fr nob w w2 := fr1.grown gr2 (fun k h => by cases h)
            have hl2 := hv.kept fr2
            have ho2 : LRow w2 vo L := LRow.of_own row2
            obtain ⟨bb, err, hbok, hOf, hRO⟩ := both_any L (by omega) r
            have HOf := hOf vo
            have HRO := hRO (.slice (some a') L.length cap2)
            clear hOf hRO gr2 row2 h12 h7 hs1
            go_wp2_with fail
            refine (HOf _ ho2).mono ?_
            rintro e w3 ⟨rfl, hb3⟩
            have p3 := (Fr.refl nob w2).below hb3
            have p4 : Fr nob w3 (w3.alloc (.cells #[.int .u32 (place (li bb) bb : Int), .string ⟨(code (rows (li bb))).toArray⟩] 31)) := (Fr.refl nob w3).alloc _
            obtain ⟨d0, d1⟩ := two_cells' w3 (.int .u32 (place (li bb) bb : Int)) (.string ⟨(code (rows (li bb))).toArray⟩) 31
            have fr4 := (fr2.trans p3 (fun _ _ h => h)).trans p4 (fun _ _ h => h)
            have ho4 := (ho2.kept p3).kept p4
            have hl4 := hv.kept fr4
            clear HOf hb3 p3 p4 ho2 hl2 fr2
            go_wp2_with fail
            generalize w3.alloc (.cells #[.int .u32 (place (li bb) bb : Int), .string ⟨(code (rows (li bb))).toArray⟩] 31) = W4 at *
            refine (HRO _ hl4).mono ?_
            rintro e w5 ⟨v', V, f', rfl, hs5, hf5, hb5⟩
            obtain ⟨q5, n5, c5, u5, m5, d5, rfl⟩ := hs5.form
            have p5 := (Fr.refl nob W4).below hb5
            have p6 : Fr nob w5 (w5.alloc (.cells #[.slice q5 n5 c5, .slice u5 m5 d5] 37)) := (Fr.refl nob w5).alloc _
            obtain ⟨s0, s1⟩ := two_cells' w5 (.slice q5 n5 c5) (.slice u5 m5 d5) 37
            replace d0 := (p5.trans p6 (fun _ _ h => h)).cell' d0 (fun h => h)
            replace d1 := (p5.trans p6 (fun _ _ h => h)).cell' d1 (fun h => h)
            have fr6 := (fr4.trans p5 (fun _ _ h => h)).trans p6 (fun _ _ h => h)
            have hs6 := hs5.kept p6
            have ho6 := (ho4.kept p5).kept p6
            clear HRO hb5 p5 p6 ho4 hl4 fr4 hs5
            have hee : (err == err) = true := by simp
            go_wp2_with fail
            generalize w5.alloc (.cells #[.slice q5 n5 c5, .slice u5 m5 d5] 37) = W6 at *
            refine (Alike_any bb hbok V f' _ W6 hs6 hf5).mono ?_
            rintro e w7 ⟨rfl, hb7⟩
            have fr7 := fr6.below hb7
            have ho7 := ho6.kept ((Fr.refl nob W6).below hb7)
            have hl7 := hv.kept fr7
            clear hs6 ho6 fr6 hb7 d0 d1 s0 s1
            go_wp2_with fail
            refine (lsame_any L (by omega) _ _ _ ho7 hl7).mono ?_
            rintro e w8 ⟨rfl, hb8⟩
            have fr8 := fr7.below hb8
            clear ho7 hl7 hb8 fr7
            go_wp2_with fail
            refine (wakes_any _).mono ?_
            rintro e w9 ⟨rfl, hb9⟩
            go_wp2_with fail
            go_ret
            exact ⟨rfl, (fr8.below hb9).to_below (Nat.le_refl _) (fun _ h => h.elim)⟩
        · go_wp2_with fail
          refine (wakes_any _).mono ?_
          rintro e w2 ⟨rfl, hb2⟩
          go_wp2_with fail
          go_ret
          exact ⟨rfl, (fr1.below hb2).to_below (Nat.le_refl _) (fun _ h => h.elim)⟩
  · go_enter Try.func3, Try.ntmps3
    go_wp2_with fail
    refine (wakes_any _).mono ?_
    rintro e w2 ⟨rfl, hb2⟩
    go_wp2_with fail
    go_ret
    exact ⟨rfl, hb2⟩
end Go.Proofs.Ytingidbhmbgigaa
