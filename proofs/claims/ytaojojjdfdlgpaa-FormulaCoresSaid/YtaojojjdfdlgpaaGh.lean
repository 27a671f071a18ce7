import Derived.Test.YtaojojjdfdlgpaaGa
import Derived.Test.YtaojojjdfdlgpaaRr
namespace Go.Proofs.Ytaojojjdfdlgpaa
open Go.RowKit Uq

/-! the reference's models -/
theorem abs_any (x : Int) (hx : Ltr x) (w : World) : Calls Try.prog 109 #[.int .i64 x] w fun e w' => e = .returned (.int .i64 (x.natAbs : Int)) ∧ w = w' := by
  obtain ⟨h0, h1, h2⟩ := hx
  have hng : IntKind.i64.wrap (-x) = -x := by rw [IntKind.wrap_i64]; omega
  go_enter Try.func109, Try.ntmps109
  by_cases e : x < 0
  · go_wp2_with fail
    go_ret
    exact ⟨by rw [show (x.natAbs : Int) = -x by omega]; rfl, rfl⟩
  · go_wp2_with fail
    go_ret
    exact ⟨by rw [show (x.natAbs : Int) = x by omega]; rfl, rfl⟩
theorem sat_eq (c : Nat) (x : Int) : ((((c : Int) / 2 ^ (x.natAbs - 1)).tmod 2 == 1) == decide (0 < x)) = satB c x := by
  unfold satB
  have e : (((c : Int) / 2 ^ (x.natAbs - 1)).tmod 2 == 1) = c.testBit (x.natAbs - 1) := by
    rw [show (2 : Int) ^ (x.natAbs - 1) = ((2 ^ (x.natAbs - 1) : Nat) : Int) by simp, ← Int.natCast_ediv, Int.tmod_eq_emod_of_nonneg (Int.natCast_nonneg _), Nat.testBit_eq_decide_div_mod_eq]
    generalize c / 2 ^ (x.natAbs - 1) = q
    by_cases h : q % 2 = 1
    · have : (q : Int) % 2 = 1 := by omega
      rw [this, h]; rfl
    · have : (q : Int) % 2 = 0 := by omega
      have h2 : q % 2 = 0 := by omega
      rw [this, h2]; rfl
  rw [e]
theorem any_drop_f {p : Int → Bool} {l : List Int} {k : Nat} {x : Int} (h : l[k]? = some x) : (l.drop k).any p = (p x || (l.drop (k + 1)).any p) := any_drop h
set_option maxRecDepth 100000 in
set_option maxHeartbeats 2000000 in
theorem holds_any (l : List (List Int)) (c : Nat) (hc : c < 2 ^ 24) (v : Value) (S : Nat → Prop) (w : World) (hw1 : l.length ≤ 1048576) (hw2 : ∀ r ∈ l, r.length ≤ 1048576 ∧ ∀ x ∈ r, Ltr x) (h : RowsO w S l v) :
    Calls Try.prog 76 #[v, .int .u32 (c : Int)] w fun e w' => e = .returned (.bool (holdsP l c)) ∧ w = w' := by
  obtain ⟨a, cap, rfl⟩ := h.form
  obtain ⟨n, hn⟩ : ∃ n, l.length = n := ⟨_, rfl⟩
  obtain ⟨R, hR⟩ : ∃ R, holdsP l c = R := ⟨_, rfl⟩
  rw [hn] at hw1 h ⊢
  rw [hR]
  unfold holdsP at hR
  have HR := Lib.hid hR
  have HH := Lib.hid h
  have HN := Lib.hid hn
  have HW := Lib.hid hw2
  have HC := Lib.hid hc
  clear hR h hn hw2 hc
  go_enter Try.func76, Try.ntmps76
  go_wp2_with fail
  go_loopg [5] n (fun m iv wr => ∃ k : Nat, k + m = n ∧ iv = .int .i64 (k : Int) ∧ (l.drop k).all (fun r => r.any (satB c)) = R ∧ w = wr)
  case atStart => exact ⟨0, by omega, rfl, by rw [List.drop_zero]; exact HR.out, rfl⟩
  case round =>
    obtain ⟨k, hkm, rfl, hrest, rfl⟩ := hrel
    have HRE := Lib.hid hrest
    have q4 : (0 : Int) ≤ (k : Int) := Int.natCast_nonneg _
    clear hrest
    cases gk with
    | zero =>
      obtain rfl : k = n := by omega
      have hv : R = true := by rw [← HRE.out, List.drop_eq_nil_of_le (by rw [HN.out]; exact Nat.le_refl _)]; rfl
      subst hv
      go_wp2_with fail
      go_ret
      exact ⟨rfl, rfl⟩
    | succ m =>
      have q3 : (k : Int) < (n : Int) := by omega
      have hk : k < l.length := by rw [HN.out]; omega
      have hkt : l[k]? = some l[k] := List.getElem?_eq_getElem hk
      have hmem : l[k] ∈ l := List.getElem_mem hk
      generalize l[k] = r at hkt hmem
      obtain ⟨b, ob, rfl, hSb, a', cap', hcl, hI⟩ := HH.out.at hkt
      have hst := all_drop (p := fun r : List Int => r.any (satB c)) hkt
      rw [HRE.out] at hst
      obtain ⟨hrl, hrx⟩ := HW.out r hmem
      obtain ⟨z, hz⟩ : ∃ z, r.length = z := ⟨_, rfl⟩
      obtain ⟨R2, hR2⟩ : ∃ R2, r.any (satB c) = R2 := ⟨_, rfl⟩
      rw [hz] at hcl hrl hI
      have HST := Lib.hid hst
      have HI := Lib.hid hI
      have HZ := Lib.hid hz
      have HX := Lib.hid hrx
      have HR2 := Lib.hid hR2
      clear hk hkt hmem hst hI hz hrx hR2
      go_wp2_with fail
      go_loopg [6, 7] z (fun m sv iv wr => ∃ (j : Nat) (is : Bool), j + m = z ∧ iv = .int .i64 (j : Int) ∧ sv = .bool is ∧ (is || (r.drop j).any (satB c)) = R2 ∧ w = wr)
      case atStart => exact ⟨0, false, by omega, rfl, rfl, by rw [List.drop_zero]; exact HR2.out, rfl⟩
      case round =>
        obtain ⟨j, is, hjm, rfl, rfl, hre2, rfl⟩ := hrel
        have HRE2 := Lib.hid hre2
        have q5 : (0 : Int) ≤ (j : Int) := Int.natCast_nonneg _
        clear hre2
        cases gk with
        | zero =>
          obtain rfl : j = z := by omega
          have hv2 : is = R2 := by rw [← HRE2.out, List.drop_eq_nil_of_le (by rw [HZ.out]; exact Nat.le_refl _)]; simp
          subst hv2
          cases is with
          | false =>
            have hv : R = false := by rw [HST.out]; show (r.any (satB c) && _) = false; rw [HR2.out]; rfl
            subst hv
            go_wp2_with fail
            go_ret
            exact ⟨rfl, rfl⟩
          | true =>
            have hv : (l.drop (k + 1)).all (fun r => r.any (satB c)) = R := by rw [HST.out]; show _ = (r.any (satB c) && _); rw [HR2.out]; rfl
            have HV := Lib.hid hv
            clear hv
            go_wp2_with fail
            go_roundg m
            case measure => omega
            case rel => exact ⟨k + 1, by omega, by go_num, HV.out, rfl⟩
        | succ m2 =>
          have q6 : (j : Int) < (z : Int) := by omega
          have hj : j < r.length := by rw [HZ.out]; omega
          have hjt : r[j]? = some r[j] := List.getElem?_eq_getElem hj
          have hjm2 : r[j] ∈ r := List.getElem_mem hj
          generalize r[j] = x at hjt hjm2
          obtain ⟨b2, ob2, rfl, hSb2, hcx⟩ := HI.out.at hjt
          have hLx := HX.out x hjm2
          have hst2 := any_drop_f (p := satB c) hjt
          have HST2 := Lib.hid hst2
          have hab := abs_any x hLx w
          obtain ⟨X, hX⟩ : ∃ X, x.natAbs = X := ⟨_, rfl⟩
          have hse := sat_eq c x
          rw [hX] at hab hse
          have hX1 : (1 : Int) ≤ (X : Int) := by unfold Ltr at hLx; omega
          have hX2 : (X : Int) ≤ 24 := by unfold Ltr at hLx; omega
          have HSE := Lib.hid hse
          clear hj hjt hjm2 hst2 hLx hse
          cases is with
          | true =>
            have hv2 : R2 = true := by rw [← HRE2.out]; rfl
            have HV2 := Lib.hid hv2
            clear hv2 hab
            go_wp2_with fail
            go_roundg m2
            case measure => omega
            case rel => exact ⟨j + 1, true, by omega, by go_num, rfl, by rw [HV2.out]; rfl, rfl⟩
          | false =>
            have hv2 : (satB c x || (r.drop (j + 1)).any (satB c)) = R2 := by rw [← HRE2.out, HST2.out]; rfl
            have HV2 := Lib.hid hv2
            clear hv2
            go_wp2_with fail
            refine hab.mono ?_
            rintro e w2 ⟨rfl, rfl⟩
            clear hab
            go_wp2_with fail
            go_roundg m2
            case measure => omega
            case rel => exact ⟨j + 1, satB c x, by omega, by go_num, by rw [HSE.out], HV2.out, rfl⟩
theorem info_u32 : (Try.prog.info? 49).map (fun i => (i.zero, i.size, i.bytes)) = some (some (.int .u32 0), 1, 4) := by kernel_rfl
theorem shl_n {i : Nat} (hi : i ≤ 24) : ((2 : Int) ^ i % 4294967296) = ((2 ^ i : Nat) : Int) := by
  have h2 : 2 ^ i ≤ 2 ^ 24 := Nat.pow_le_pow_right (by omega) hi
  rw [show (2 : Int) ^ i = ((2 ^ i : Nat) : Int) by simp]
  generalize 2 ^ i = m at *
  omega
def u32s (l : List Nat) : List Value := l.map fun (c : Nat) => Value.int .u32 (c : Int)
set_option maxRecDepth 100000 in
set_option maxHeartbeats 2000000 in
theorem models_any (l : List (List Int)) (N : Nat) (hN : N ≤ 12) (v : Value) (w : World) (hw1 : l.length ≤ 1048576) (hw2 : ∀ r ∈ l, r.length ≤ 1048576 ∧ ∀ x ∈ r, Ltr x) (h : RowsO w (fun b => b < w.heap.size) l v) :
    Calls Try.prog 43 #[.int .i64 (N : Int), v] w fun e w' => ∃ a cp, e = .returned (.slice a (modelsP N l).length cp) ∧ w'.ownsRow w.heap.size 49 1 (.slice a (modelsP N l).length cp) (modelsP N l).length (u32s (modelsP N l)) ∧ Fr nob w w' := by
  obtain ⟨a, cap, rfl⟩ := h.form
  obtain ⟨T, hT⟩ : ∃ T, 2 ^ N = T := ⟨_, rfl⟩
  have hsh := shl_n (i := N) (by omega)
  rw [hT] at hsh
  have hT2 : T ≤ 4096 := by rw [← hT]; exact Nat.pow_le_pow_right (by omega) hN
  have HM := Lib.hid (fun (c : Nat) (hc : c < 2 ^ 24) (w1 : World) (f : Fr nob w w1) => holds_any l c hc _ _ w1 hw1 hw2 (h.kept (T := fun b => b < w1.heap.size) f (fun b h _ => ⟨fun h => h, Nat.lt_of_lt_of_le h f.size⟩)))
  obtain ⟨R, hR⟩ : ∃ R, modelsP N l = R := ⟨_, rfl⟩
  rw [hR]
  unfold modelsP at hR
  rw [hT] at hR
  have HR := Lib.hid hR
  have HT := Lib.hid hT
  have HSH := Lib.hid hsh
  obtain ⟨i0, hi0, hz0, hz1, hz2⟩ := info_parts info_u32
  clear hR hT h hw1 hw2 hsh
  go_enter Try.func43, Try.ntmps43
  go_wp2_with fail
  go_loopg [5, 6] T (fun m kv iv wr => ∃ (k nk : Nat) (cs : List Nat), k + m = T ∧ iv = .int .u32 (k : Int) ∧ cs = (List.range k).filter (holdsP l) ∧ cs.length = nk ∧ nk ≤ k ∧ (∃ la lc, kv = .slice la nk lc) ∧ wr.ownsRow w.heap.size 49 1 kv nk (u32s cs) ∧ Fr nob w wr)
  case atStart => exact ⟨0, 0, [], by omega, rfl, rfl, rfl, Nat.le_refl _, ⟨none, 0, rfl⟩, World.ownsRow_nil _ _ _ _, Fr.refl _ _⟩
  case round =>
    obtain ⟨k, nk, cs, hkm, rfl, hcs, hcl, hnk, ⟨la, lc, rfl⟩, hown, hF⟩ := hrel
    have q4 : (0 : Int) ≤ (k : Int) := Int.natCast_nonneg _
    have HO := Lib.hid hown
    have HF := Lib.hid hF
    have HCS := Lib.hid hcs
    have HCL := Lib.hid hcl
    clear hown hF hcs hcl
    cases gk with
    | zero =>
      obtain rfl : k = T := by omega
      have q0 : ¬ (k : Int) < (2 : Int) ^ N % 4294967296 := by rw [HSH.out]; omega
      have hRc : R = cs := by rw [← HR.out, HCS.out]
      subst hRc
      go_wp2_with fail
      go_ret
      rw [HCL.out]
      exact ⟨la, lc, rfl, HO.out, HF.out⟩
    | succ m =>
      have q3 : (k : Int) < (2 : Int) ^ N % 4294967296 := by rw [HSH.out]; omega
      have hC := HM.out k (by omega) _ HF.out
      have hrs : (List.range (k + 1)).filter (holdsP l) = cs ++ (if holdsP l k = true then [k] else []) := by
        rw [HCS.out, List.range_succ, List.filter_append]
        congr 1
        by_cases e : holdsP l k = true
        · simp [e]
        · simp [e]
      cases hx : holdsP l k with
      | false =>
        rw [hx] at hC hrs
        have HRS := Lib.hid hrs
        clear hx hrs
        go_wp2_with fail
        refine hC.mono ?_
        rintro e w2 ⟨rfl, rfl⟩
        clear hC
        go_wp2_with fail
        go_roundg m
        case measure => omega
        case rel => exact ⟨k + 1, nk, cs, by omega, by go_num, by rw [HRS.out]; simp, HCL.out, by omega, ⟨_, _, rfl⟩, HO.out, HF.out⟩
      | true =>
        rw [hx] at hC hrs
        have HRS := Lib.hid hrs
        clear hx hrs
        have hcl2 : (u32s cs).length = nk := by unfold u32s; rw [List.length_map]; exact HCL.out
        go_wp2_with fail
        refine hC.mono ?_
        rintro e w2 ⟨rfl, rfl⟩
        clear hC
        go_wp2_with (at_builtin; refine wpList_append_own_at _ rfl _ _ 68 rfl w.heap.size 49 i0 (.int .u32 0) 1 4 Try.underlying68 hi0 hz0 hz1 hz2 rfl (by decide) (.slice la nk lc) nk (u32s cs) rfl (HO.out.alloc _) ⟨wr.heap.size, 0, none⟩ 1 1 [.int .u32 (k : Int)] rfl ?c1 ?c2 ?c3 ?c4 ?c5 ?c6 ?_)
        case c1 => rfl
        case c2 => exact cell_one_new _ _ _
        case c3 => intro u hu; simp at hu; subst hu; rfl
        case c4 => unfold maxLen; omega
        case c5 => omega
        case c6 => have h1 := HF.out.size; simp; omega
        intro v6 w6 own6 gr6 _ hat
        have F6 : Fr (fun j => (Value.slice la nk lc).ownBlock = some j) wr w6 := ((Fr.refl _ wr).alloc _).grown gr6 (fun j hj _ => hj)
        obtain ⟨g6, cap6, rfl⟩ : ∃ g6 cap6, v6 = .slice (some ⟨g6, 0, none⟩) (nk + 1) cap6 := by
          rcases own6.2 with ⟨rfl, h0⟩ | ⟨g', cap', cur, rfl, h1, h2, _⟩
          · simp at h0
          · exact ⟨g', cap', rfl⟩
        have hz1 := HF.out.size
        have HO7 : Hid (w6.ownsRow w.heap.size 49 1 (.slice (some ⟨g6, 0, none⟩) (nk + 1) cap6) (nk + 1) (u32s (cs ++ [k]))) := Lib.hid (by unfold u32s at own6 ⊢; rw [List.map_append]; exact own6)
        have HF7 : Hid (Fr nob w w6) := Lib.hid (HF.out.trans' F6 (fun _ _ h => h) (fun j hj h => by have := (HO.out.lt j h).1; omega))
        clear own6 gr6 hat F6 hz1 HO HF
        go_wp2_with fail
        go_roundg m
        case measure => omega
        case rel => exact ⟨k + 1, nk + 1, cs ++ [k], by omega, by go_num, by rw [HRS.out, if_pos trivial], by rw [List.length_append, HCL.out]; rfl, by omega, ⟨_, _, rfl⟩, HO7.out, HF7.out⟩
end Go.Proofs.Ytaojojjdfdlgpaa
