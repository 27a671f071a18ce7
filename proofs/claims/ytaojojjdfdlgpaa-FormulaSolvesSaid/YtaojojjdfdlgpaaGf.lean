import Derived.Test.YtaojojjdfdlgpaaGa
import Derived.Test.YtaojojjdfdlgpaaRr
import Derived.Test.YtaojojjdfdlgpaaGe
import Derived.Test.YtaojojjdfdlgpaaFf
import Derived.Test.YtaojojjdfdlgpaaQbp
namespace Go.Proofs.Ytaojojjdfdlgpaa
open Go.RowKit Uq

/-! the reference's models -/
theorem abs_any (x : Int) (hx : Ltr x) (w : World) : Calls Try.prog 109 #[.int .i64 x] w fun e w' => e = .returned (.int .i64 (x.natAbs : Int)) ∧ w = w' := by
  obtain ⟨h0, h1, h2⟩ := hx
  have hng : IntKind.i64.wrap (-x) = -x := by rw [IntKind.wrap_i64]; omega
  go_enter Try.func109, Try.ntmps109
  by_cases e : x < 0
  · go_wp2_with fail
    go_ret
    exact ⟨by rw [show (x.natAbs : Int) = -x by omega]; rfl, rfl⟩
  · go_wp2_with fail
    go_ret
    exact ⟨by rw [show (x.natAbs : Int) = x by omega]; rfl, rfl⟩
theorem sat_eq (c : Nat) (x : Int) : ((((c : Int) / 2 ^ (x.natAbs - 1)).tmod 2 == 1) == decide (0 < x)) = satB c x := by
  unfold satB
  have e : (((c : Int) / 2 ^ (x.natAbs - 1)).tmod 2 == 1) = c.testBit (x.natAbs - 1) := by
    rw [show (2 : Int) ^ (x.natAbs - 1) = ((2 ^ (x.natAbs - 1) : Nat) : Int) by simp, ← Int.natCast_ediv, Int.tmod_eq_emod_of_nonneg (Int.natCast_nonneg _), Nat.testBit_eq_decide_div_mod_eq]
    generalize c / 2 ^ (x.natAbs - 1) = q
    by_cases h : q % 2 = 1
    · have : (q : Int) % 2 = 1 := by omega
      rw [this, h]; rfl
    · have : (q : Int) % 2 = 0 := by omega
      have h2 : q % 2 = 0 := by omega
      rw [this, h2]; rfl
  rw [e]
theorem any_drop_f {p : Int → Bool} {l : List Int} {k : Nat} {x : Int} (h : l[k]? = some x) : (l.drop k).any p = (p x || (l.drop (k + 1)).any p) := any_drop h
set_option maxRecDepth 100000 in
set_option maxHeartbeats 2000000 in
theorem holds_any (l : List (List Int)) (c : Nat) (hc : c < 2 ^ 24) (v : Value) (S : Nat → Prop) (w : World) (hw1 : l.length ≤ 1048576) (hw2 : ∀ r ∈ l, r.length ≤ 1048576 ∧ ∀ x ∈ r, Ltr x) (h : RowsO w S l v) :
    Calls Try.prog 76 #[v, .int .u32 (c : Int)] w fun e w' => e = .returned (.bool (holdsP l c)) ∧ w = w' := by
  obtain ⟨a, cap, rfl⟩ := h.form
  obtain ⟨n, hn⟩ : ∃ n, l.length = n := ⟨_, rfl⟩
  obtain ⟨R, hR⟩ : ∃ R, holdsP l c = R := ⟨_, rfl⟩
  rw [hn] at hw1 h ⊢
  rw [hR]
  unfold holdsP at hR
  have HR := Lib.hid hR
  have HH := Lib.hid h
  have HN := Lib.hid hn
  have HW := Lib.hid hw2
  have HC := Lib.hid hc
  clear hR h hn hw2 hc
  go_enter Try.func76, Try.ntmps76
  go_wp2_with fail
  go_loopg [5] n (fun m iv wr => ∃ k : Nat, k + m = n ∧ iv = .int .i64 (k : Int) ∧ (l.drop k).all (fun r => r.any (satB c)) = R ∧ w = wr)
  case atStart => exact ⟨0, by omega, rfl, by rw [List.drop_zero]; exact HR.out, rfl⟩
  case round =>
    obtain ⟨k, hkm, rfl, hrest, rfl⟩ := hrel
    have HRE := Lib.hid hrest
    have q4 : (0 : Int) ≤ (k : Int) := Int.natCast_nonneg _
    clear hrest
    cases gk with
    | zero =>
      obtain rfl : k = n := by omega
      have hv : R = true := by rw [← HRE.out, List.drop_eq_nil_of_le (by rw [HN.out]; exact Nat.le_refl _)]; rfl
      subst hv
      go_wp2_with fail
      go_ret
      exact ⟨rfl, rfl⟩
    | succ m =>
      have q3 : (k : Int) < (n : Int) := by omega
      have hk : k < l.length := by rw [HN.out]; omega
      have hkt : l[k]? = some l[k] := List.getElem?_eq_getElem hk
      have hmem : l[k] ∈ l := List.getElem_mem hk
      generalize l[k] = r at hkt hmem
      obtain ⟨b, ob, rfl, hSb, a', cap', hcl, hI⟩ := HH.out.at hkt
      have hst := all_drop (p := fun r : List Int => r.any (satB c)) hkt
      rw [HRE.out] at hst
      obtain ⟨hrl, hrx⟩ := HW.out r hmem
      obtain ⟨z, hz⟩ : ∃ z, r.length = z := ⟨_, rfl⟩
      obtain ⟨R2, hR2⟩ : ∃ R2, r.any (satB c) = R2 := ⟨_, rfl⟩
      rw [hz] at hcl hrl hI
      have HST := Lib.hid hst
      have HI := Lib.hid hI
      have HZ := Lib.hid hz
      have HX := Lib.hid hrx
      have HR2 := Lib.hid hR2
      clear hk hkt hmem hst hI hz hrx hR2
      go_wp2_with fail
      go_loopg [6, 7] z (fun m sv iv wr => ∃ (j : Nat) (is : Bool), j + m = z ∧ iv = .int .i64 (j : Int) ∧ sv = .bool is ∧ (is || (r.drop j).any (satB c)) = R2 ∧ w = wr)
      case atStart => exact ⟨0, false, by omega, rfl, rfl, by rw [List.drop_zero]; exact HR2.out, rfl⟩
      case round =>
        obtain ⟨j, is, hjm, rfl, rfl, hre2, rfl⟩ := hrel
        have HRE2 := Lib.hid hre2
        have q5 : (0 : Int) ≤ (j : Int) := Int.natCast_nonneg _
        clear hre2
        cases gk with
        | zero =>
          obtain rfl : j = z := by omega
          have hv2 : is = R2 := by rw [← HRE2.out, List.drop_eq_nil_of_le (by rw [HZ.out]; exact Nat.le_refl _)]; simp
          subst hv2
          cases is with
          | false =>
            have hv : R = false := by rw [HST.out]; show (r.any (satB c) && _) = false; rw [HR2.out]; rfl
            subst hv
            go_wp2_with fail
            go_ret
            exact ⟨rfl, rfl⟩
          | true =>
            have hv : (l.drop (k + 1)).all (fun r => r.any (satB c)) = R := by rw [HST.out]; show _ = (r.any (satB c) && _); rw [HR2.out]; rfl
            have HV := Lib.hid hv
            clear hv
            go_wp2_with fail
            go_roundg m
            case measure => omega
            case rel => exact ⟨k + 1, by omega, by go_num, HV.out, rfl⟩
        | succ m2 =>
          have q6 : (j : Int) < (z : Int) := by omega
          have hj : j < r.length := by rw [HZ.out]; omega
          have hjt : r[j]? = some r[j] := List.getElem?_eq_getElem hj
          have hjm2 : r[j] ∈ r := List.getElem_mem hj
          generalize r[j] = x at hjt hjm2
          obtain ⟨b2, ob2, rfl, hSb2, hcx⟩ := HI.out.at hjt
          have hLx := HX.out x hjm2
          have hst2 := any_drop_f (p := satB c) hjt
          have HST2 := Lib.hid hst2
          have hab := abs_any x hLx w
          obtain ⟨X, hX⟩ : ∃ X, x.natAbs = X := ⟨_, rfl⟩
          have hse := sat_eq c x
          rw [hX] at hab hse
          have hX1 : (1 : Int) ≤ (X : Int) := by unfold Ltr at hLx; omega
          have hX2 : (X : Int) ≤ 24 := by unfold Ltr at hLx; omega
          have HSE := Lib.hid hse
          clear hj hjt hjm2 hst2 hLx hse
          cases is with
          | true =>
            have hv2 : R2 = true := by rw [← HRE2.out]; rfl
            have HV2 := Lib.hid hv2
            clear hv2 hab
            go_wp2_with fail
            go_roundg m2
            case measure => omega
            case rel => exact ⟨j + 1, true, by omega, by go_num, rfl, by rw [HV2.out]; rfl, rfl⟩
          | false =>
            have hv2 : (satB c x || (r.drop (j + 1)).any (satB c)) = R2 := by rw [← HRE2.out, HST2.out]; rfl
            have HV2 := Lib.hid hv2
            clear hv2
            go_wp2_with fail
            refine hab.mono ?_
            rintro e w2 ⟨rfl, rfl⟩
            clear hab
            go_wp2_with fail
            go_roundg m2
            case measure => omega
            case rel => exact ⟨j + 1, satB c x, by omega, by go_num, by rw [HSE.out], HV2.out, rfl⟩
theorem info_u32 : (Try.prog.info? 49).map (fun i => (i.zero, i.size, i.bytes)) = some (some (.int .u32 0), 1, 4) := by kernel_rfl
theorem shl_n {i : Nat} (hi : i ≤ 24) : ((2 : Int) ^ i % 4294967296) = ((2 ^ i : Nat) : Int) := by
  have h2 : 2 ^ i ≤ 2 ^ 24 := Nat.pow_le_pow_right (by omega) hi
  rw [show (2 : Int) ^ i = ((2 ^ i : Nat) : Int) by simp]
  generalize 2 ^ i = m at *
  omega
def u32s (l : List Nat) : List Value := l.map fun (c : Nat) => Value.int .u32 (c : Int)
set_option maxRecDepth 100000 in
set_option maxHeartbeats 2000000 in
theorem models_any (l : List (List Int)) (N : Nat) (hN : N ≤ 12) (v : Value) (w : World) (hw1 : l.length ≤ 1048576) (hw2 : ∀ r ∈ l, r.length ≤ 1048576 ∧ ∀ x ∈ r, Ltr x) (h : RowsO w (fun b => b < w.heap.size) l v) :
    Calls Try.prog 43 #[.int .i64 (N : Int), v] w fun e w' => ∃ a cp, e = .returned (.slice a (modelsP N l).length cp) ∧ w'.ownsRow w.heap.size 49 1 (.slice a (modelsP N l).length cp) (modelsP N l).length (u32s (modelsP N l)) ∧ Fr nob w w' := by
  obtain ⟨a, cap, rfl⟩ := h.form
  obtain ⟨T, hT⟩ : ∃ T, 2 ^ N = T := ⟨_, rfl⟩
  have hsh := shl_n (i := N) (by omega)
  rw [hT] at hsh
  have hT2 : T ≤ 4096 := by rw [← hT]; exact Nat.pow_le_pow_right (by omega) hN
  have HM := Lib.hid (fun (c : Nat) (hc : c < 2 ^ 24) (w1 : World) (f : Fr nob w w1) => holds_any l c hc _ _ w1 hw1 hw2 (h.kept (T := fun b => b < w1.heap.size) f (fun b h _ => ⟨fun h => h, Nat.lt_of_lt_of_le h f.size⟩)))
  obtain ⟨R, hR⟩ : ∃ R, modelsP N l = R := ⟨_, rfl⟩
  rw [hR]
  unfold modelsP at hR
  rw [hT] at hR
  have HR := Lib.hid hR
  have HT := Lib.hid hT
  have HSH := Lib.hid hsh
  obtain ⟨i0, hi0, hz0, hz1, hz2⟩ := info_parts info_u32
  clear hR hT h hw1 hw2 hsh
  go_enter Try.func43, Try.ntmps43
  go_wp2_with fail
  go_loopg [5, 6] T (fun m kv iv wr => ∃ (k nk : Nat) (cs : List Nat), k + m = T ∧ iv = .int .u32 (k : Int) ∧ cs = (List.range k).filter (holdsP l) ∧ cs.length = nk ∧ nk ≤ k ∧ (∃ la lc, kv = .slice la nk lc) ∧ wr.ownsRow w.heap.size 49 1 kv nk (u32s cs) ∧ Fr nob w wr)
  case atStart => exact ⟨0, 0, [], by omega, rfl, rfl, rfl, Nat.le_refl _, ⟨none, 0, rfl⟩, World.ownsRow_nil _ _ _ _, Fr.refl _ _⟩
  case round =>
    obtain ⟨k, nk, cs, hkm, rfl, hcs, hcl, hnk, ⟨la, lc, rfl⟩, hown, hF⟩ := hrel
    have q4 : (0 : Int) ≤ (k : Int) := Int.natCast_nonneg _
    have HO := Lib.hid hown
    have HF := Lib.hid hF
    have HCS := Lib.hid hcs
    have HCL := Lib.hid hcl
    clear hown hF hcs hcl
    cases gk with
    | zero =>
      obtain rfl : k = T := by omega
      have q0 : ¬ (k : Int) < (2 : Int) ^ N % 4294967296 := by rw [HSH.out]; omega
      have hRc : R = cs := by rw [← HR.out, HCS.out]
      subst hRc
      go_wp2_with fail
      go_ret
      rw [HCL.out]
      exact ⟨la, lc, rfl, HO.out, HF.out⟩
    | succ m =>
      have q3 : (k : Int) < (2 : Int) ^ N % 4294967296 := by rw [HSH.out]; omega
      have hC := HM.out k (by omega) _ HF.out
      have hrs : (List.range (k + 1)).filter (holdsP l) = cs ++ (if holdsP l k = true then [k] else []) := by
        rw [HCS.out, List.range_succ, List.filter_append]
        congr 1
        by_cases e : holdsP l k = true
        · simp [e]
        · simp [e]
      cases hx : holdsP l k with
      | false =>
        rw [hx] at hC hrs
        have HRS := Lib.hid hrs
        clear hx hrs
        go_wp2_with fail
        refine hC.mono ?_
        rintro e w2 ⟨rfl, rfl⟩
        clear hC
        go_wp2_with fail
        go_roundg m
        case measure => omega
        case rel => exact ⟨k + 1, nk, cs, by omega, by go_num, by rw [HRS.out]; simp, HCL.out, by omega, ⟨_, _, rfl⟩, HO.out, HF.out⟩
      | true =>
        rw [hx] at hC hrs
        have HRS := Lib.hid hrs
        clear hx hrs
        have hcl2 : (u32s cs).length = nk := by unfold u32s; rw [List.length_map]; exact HCL.out
        go_wp2_with fail
        refine hC.mono ?_
        rintro e w2 ⟨rfl, rfl⟩
        clear hC
        go_wp2_with (at_builtin; refine wpList_append_own_at _ rfl _ _ 68 rfl w.heap.size 49 i0 (.int .u32 0) 1 4 Try.underlying68 hi0 hz0 hz1 hz2 rfl (by decide) (.slice la nk lc) nk (u32s cs) rfl (HO.out.alloc _) ⟨wr.heap.size, 0, none⟩ 1 1 [.int .u32 (k : Int)] rfl ?c1 ?c2 ?c3 ?c4 ?c5 ?c6 ?_)
        case c1 => rfl
        case c2 => exact cell_one_new _ _ _
        case c3 => intro u hu; simp at hu; subst hu; rfl
        case c4 => unfold maxLen; omega
        case c5 => omega
        case c6 => have h1 := HF.out.size; simp; omega
        intro v6 w6 own6 gr6 _ hat
        have F6 : Fr (fun j => (Value.slice la nk lc).ownBlock = some j) wr w6 := ((Fr.refl _ wr).alloc _).grown gr6 (fun j hj _ => hj)
        obtain ⟨g6, cap6, rfl⟩ : ∃ g6 cap6, v6 = .slice (some ⟨g6, 0, none⟩) (nk + 1) cap6 := by
          rcases own6.2 with ⟨rfl, h0⟩ | ⟨g', cap', cur, rfl, h1, h2, _⟩
          · simp at h0
          · exact ⟨g', cap', rfl⟩
        have hz1 := HF.out.size
        have HO7 : Hid (w6.ownsRow w.heap.size 49 1 (.slice (some ⟨g6, 0, none⟩) (nk + 1) cap6) (nk + 1) (u32s (cs ++ [k]))) := Lib.hid (by unfold u32s at own6 ⊢; rw [List.map_append]; exact own6)
        have HF7 : Hid (Fr nob w w6) := Lib.hid (HF.out.trans' F6 (fun _ _ h => h) (fun j hj h => by have := (HO.out.lt j h).1; omega))
        clear own6 gr6 hat F6 hz1 HO HF
        go_wp2_with fail
        go_roundg m
        case measure => omega
        case rel => exact ⟨k + 1, nk + 1, cs ++ [k], by omega, by go_num, by rw [HRS.out, if_pos trivial], by rw [List.length_append, HCL.out]; rfl, by omega, ⟨_, _, rfl⟩, HO7.out, HF7.out⟩
end Go.Proofs.Ytaojojjdfdlgpaa
namespace Go.Proofs.Ytaojojjdfdlgpaa
open Go.RowKit Uq

/-! the law FormulaSolves -/
theorem steps_all {n : Nat} (hn : n ≤ 24) : ∀ (L Q C : List (List Int)) (k : Int), (∀ c ∈ C, ∀ x ∈ c, Ltr x) → (∀ c ∈ L, Inc n c ∧ c ≠ []) → Q.length = L.length → (∀ (i : Nat) c q, L[i]? = some c → Q[i]? = some q → q.Perm c) →
    (∀ (i : Nat) c, L[i]? = some c → Bad (C ++ L.take i) (Least (C ++ L.take i) (ngs c))) → Bad (C ++ L) (Least (C ++ L) []) → stepsP C (Q ++ [[]]) k = -1
  | [], Q, C, k, hC, _, hQ, _, _, hb => by
    obtain rfl : Q = [] := List.eq_nil_of_length_eq_zero (by simpa using hQ)
    rw [List.append_nil] at hb
    show stepsP C [[]] k = -1
    have h1 : confP C (negs []) = true := (conf_iff hC _).2 hb
    rw [stepsP, if_neg (by rw [h1]; decide)]
    rfl
  | c :: L, Q, C, k, hC, hL, hQ, hp, hr, hb => by
    match Q, hQ, hp with
    | [], hQ, _ => simp at hQ
    | q :: Q, hQ, hp =>
      have hqc : q.Perm c := hp 0 c q rfl rfl
      obtain ⟨hi, hne⟩ := hL c (by simp)
      have hql : ∀ x ∈ q, Ltr x := fun x hx => by have := hi.2 x (hqc.mem_iff.1 hx); unfold Ltr; omega
      have h0 := hr 0 c rfl
      rw [List.take_zero, List.append_nil] at h0
      have h1 : confP C (negs q) = true := (conf_iff hC _).2 (h0.cong (fun c hc => ⟨c, hc, fun _ => Iff.rfl⟩) fun x hx => by
        obtain ⟨y, hy, e⟩ := List.mem_map.1 hx
        exact List.mem_map.2 ⟨y, hqc.mem_iff.2 hy, e⟩)
      have hqe : q.isEmpty = false := by
        match q, hqc with
        | [], hqc => exact absurd (List.Perm.nil_eq hqc).symm hne
        | _ :: _, _ => rfl
      have hmem : ∀ D : List (List Int), ∀ c' ∈ C ++ c :: D, ∃ c2 ∈ (C ++ [q]) ++ D, ∀ x, x ∈ c' ↔ x ∈ c2 := fun D c' hc' => by
        rcases List.mem_append.1 hc' with h | h
        · exact ⟨c', by simp [h], fun _ => Iff.rfl⟩
        · rcases List.mem_cons.1 h with h | h
          · exact ⟨q, by simp, fun x => by rw [h]; exact hqc.mem_iff.symm⟩
          · exact ⟨c', by simp [h], fun _ => Iff.rfl⟩
      show stepsP C (q :: (Q ++ [[]])) k = -1
      rw [stepsP, if_neg (by rw [h1]; decide), if_neg (by rw [hqe]; decide)]
      refine steps_all hn L Q (C ++ [q]) (k + 1) (fun c hc => ?_) (fun c hc => hL c (by simp [hc])) (by simpa using hQ) (fun i c q h1 h2 => hp (i + 1) c q (by simpa using h1) (by simpa using h2)) (fun i c' hc' => ?_) ?_
      · rcases List.mem_append.1 hc with h | h
        · exact hC c h
        · simp at h; rw [h]; exact hql
      · have := hr (i + 1) c' (by simpa using hc')
        rw [List.take_succ_cons] at this
        exact this.cong (hmem _) fun _ h => h
      · exact hb.cong (hmem _) fun _ h => h
theorem refut_ver {n : Nat} {l Q : List (List Int)} (hk : chkP (n : Int) l = 0) (h : Refut n l Q) : verP (n : Int) l (Q ++ [[]]) = (-1, 0) ∧ (Q ++ [[]]).length ≤ 2 ^ n + 1 ∧ ∀ r ∈ Q ++ [[]], r.length ≤ 48 := by
  obtain ⟨hn, _, hl⟩ := cls_in hk
  obtain ⟨L, l1, l2, l3, l4, l5, l6⟩ := h
  have hQ : ∀ q ∈ Q, ∃ c ∈ L, q.Perm c := fun q hq => by
    obtain ⟨i, hi⟩ := List.getElem?_of_mem hq
    have hlt := (List.getElem?_eq_some_iff.1 hi).1
    have hc : L[i]? = some L[i] := List.getElem?_eq_getElem (by omega)
    exact ⟨_, List.getElem_mem (by omega), l2 i _ q hc hi⟩
  have hlen : ∀ r ∈ Q ++ [[]], r.length ≤ 48 := fun r hr => by
    rcases List.mem_append.1 hr with hr | hr
    · obtain ⟨c, hc, hp⟩ := hQ r hr
      obtain ⟨hi, _⟩ := l3 c hc
      rw [hp.length_eq]
      exact lits_le (hi.1.imp fun h => by omega) fun x hx => by have := hi.2 x hx; unfold Ltr; omega
    · simp at hr; rw [hr]; decide
  have hcl : clsB (n : Int) (Q ++ [[]]) = true := by
    unfold clsB litsB litB
    rw [List.all_eq_true]
    intro r hr
    rw [Bool.and_eq_true, List.all_eq_true]
    refine ⟨by have := hlen r hr; simp; omega, fun x hx => ?_⟩
    rcases List.mem_append.1 hr with hr | hr
    · obtain ⟨c, hc, hp⟩ := hQ r hr
      have := (l3 c hc).1.2 x (hp.mem_iff.1 hx)
      simp; omega
    · simp at hr; rw [hr] at hx; simp at hx
  refine ⟨?_, by rw [List.length_append, l1]; simp only [List.length_cons, List.length_nil]; omega, hlen⟩
  unfold verP
  rw [if_neg (by rw [hk]; simp), if_neg (by rw [hcl]; simp), steps_all hn L Q l 0 (fun c hc x hx => ((hl c hc).2 x hx).1) l3 l1 l2 l5 l6]
theorem row_u32 {w : World} {B n : Nat} {v : Value} {m : Nat} {t : List Nat} (h : w.ownsRow B 49 1 v n (u32s (m :: t))) : ∃ g cp, v = .slice (some ⟨g, 0, none⟩) n cp ∧ 0 < n ∧ w.cell? ⟨g, 0, none⟩ = some (.int .u32 (m : Int)) := by
  have hn := h.1
  rcases h.2 with ⟨h1, h2⟩ | ⟨g, cap', cur, h1, h2, h3, h4, h5, h6, h7⟩
  · exfalso
    rw [h2] at hn
    simp [u32s] at hn
  · have hn0 : 0 < n := by simp [u32s] at hn; omega
    refine ⟨g, cap', h1, hn0, ?_⟩
    rw [Lib.cell_of_heap h3]
    have h8 := congrArg (fun l => l[0]?) h7
    simp only [List.getElem?_take, Nat.mul_one, if_pos hn0] at h8
    simpa [u32s] using h8
set_option maxRecDepth 100000 in
set_option maxHeartbeats 4000000 in
theorem sols_any (l : List (List Int)) (n : Int) (v : Value) (w : World) (hwd : Wide l) (hv : RowsO w (fun b => b < w.heap.size) l v) :
    Calls Try.prog 10 #[.int .i64 n, v] w fun e w' => e = .returned (.bool true) ∧ Fr nob w w' := by
  have hG := large_any l v _ w hwd hv
  have hWk := Lib.hid wakes_any
  obtain ⟨a, cap, hform⟩ := hv.form
  cases hgr : largeP l with
  | true =>
    rw [hgr] at hG
    subst hform
    clear hwd hv hgr
    generalize l.length = LL at *
    go_enter Try.func10, Try.ntmps10
    go_wp2_with (first | (go_at_call 23; with_reducible refine hG.mono ?_; rintro e w2 ⟨rfl, rfl⟩) | fail)
    refine (hWk.out _).mono ?_
    rintro e w3 ⟨rfl, F3⟩
    go_wp2_with fail
    go_ret
    exact ⟨rfl, F3⟩
  | false =>
    rw [hgr] at hG
    obtain ⟨g1, g2⟩ := large_noP hgr
    by_cases hb : 8 < n ∧ n < 25
    · have q1 : (8 : Int) < n := hb.1
      have q2 : n < 25 := hb.2
      subst hform
      clear hwd hv hgr g1 g2 hb
      generalize l.length = LL at *
      go_enter Try.func10, Try.ntmps10
      go_wp2_with (first | (go_at_call 23; with_reducible refine hG.mono ?_; rintro e w2 ⟨rfl, rfl⟩) | fail)
      refine (hWk.out _).mono ?_
      rintro e w3 ⟨rfl, F3⟩
      go_wp2_with fail
      go_ret
      exact ⟨rfl, F3⟩
    · have hl1 : l.length ≤ 1048576 := by omega
      have hl2 : ∀ r ∈ l, r.length ≤ 1048576 := fun r hr => by have := g2 r hr; omega
      have hR := rows_any l v _ w hl1 hl2 hv
      have h12 : chkP n l = 0 → n ≤ 8 ∧ 0 ≤ n := fun hk => by
        unfold chkP at hk
        split at hk
        · cases hk
        · omega
      obtain ⟨LL, hLL⟩ : ∃ LL, l.length = LL := ⟨_, rfl⟩
      have HLL := Lib.hid hLL
      rw [hLL] at hform
      subst hform
      have HX := Lib.hid (And.intro hl1 (And.intro hl2 h12))
      have HV := Lib.hid hv
      have HW := Lib.hid hwd
      have hsplit : (8 < n ∧ ¬ n < 25) ∨ ¬ 8 < n := by omega
      clear hv hwd hLL hl1 hl2 g1 g2 hgr h12 hb
      go_enter Try.func10, Try.ntmps10
      rcases hsplit with ⟨q1, q2⟩ | q1
      all_goals (
        go_wp2_with (first | (go_at_call 23; with_reducible refine hG.mono ?_; rintro e w2 ⟨rfl, rfl⟩) | fail)
        clear hG
        refine hR.mono ?_
        rintro e w1 ⟨v1, rfl, hR1, F1⟩
        obtain ⟨a1, cap1, rfl⟩ := hR1.form
        have HR1 := Lib.hid (rows_in hR1)
        have HF1 := Lib.hid F1
        rw [HLL.out] at HR1 ⊢
        have hS := solve_any l n _ w1 HW.out HR1.out (fun h => by have := HX.out.2.2 h; omega)
        obtain ⟨K, hK⟩ : ∃ K, chkP n l = K := ⟨_, rfl⟩
        rw [hK] at hS
        have HK := Lib.hid hK
        clear hR hR1 F1 hK
        go_wp2_with fail
        refine hS.mono ?_
        rintro e w2 ⟨F2, b, m, pv, rfl, hA⟩
        have HF2 := Lib.hid (HF1.out.trans F2 (fun _ _ h => h))
        have HR2 := Lib.hid (below_rows F2 HR1.out)
        have HA := Lib.hid hA
        clear hS F2 HR1 HF1 hA
        by_cases hk : K = 0
        · subst hk
          first
          | (exfalso; have h := HX.out.2.2 HK.out; omega)
          | (
              cases b with
              | true =>
                obtain ⟨rfl, hm⟩ := HA.out.2.1 HK.out rfl
                obtain ⟨hn8, hn0⟩ := HX.out.2.2 HK.out
                obtain ⟨N, rfl⟩ : ∃ N : Nat, n = (N : Int) := ⟨n.toNat, by omega⟩
                obtain ⟨t, ht⟩ := models_least hm.1 hm.2.1 hm.2.2
                rw [Int.toNat_natCast] at ht
                have A3 : Fr nob w2 (w2.alloc (.cells #[.bool true, .int .u32 (m : Int), .slice none 0 0] 65)) := (Fr.refl nob w2).alloc _
                have HB3 := Lib.hid (Box3.new w2 (.bool true) (.int .u32 (m : Int)) (.slice none 0 0) 65)
                have HF3 := Lib.hid (HF2.out.trans A3 (fun _ _ h => h))
                have hC := refCls_any l (N : Int) _ _ _ HW.out (below_rows HF3.out HV.out)
                rw [HK.out] at hC
                have hSa := same_same l _ _ _ HX.out.1 HX.out.2.1 (below_rows A3 HR2.out) (below_rows HF3.out HV.out)
                have HT := Lib.hid ht
                have HN8 := Lib.hid hn8
                clear HF2 HR2 HA A3 hm ht hn0
                go_wp2_with fail
                refine hC.mono ?_
                rintro e w3 ⟨rfl, rfl⟩
                clear hC
                go_wp2_with fail
                refine hSa.mono ?_
                rintro e w4 ⟨rfl, F4⟩
                have HF4 := Lib.hid (HF3.out.trans F4 (fun _ _ h => h))
                have HB4 := Lib.hid (HB3.out.kept F4 (fun h => h))
                have hMo := models_any l N (by have := HN8.out; omega) _ w4 HX.out.1 (fun r hr => ⟨HX.out.2.1 r hr, fun x hx => (((cls_in HK.out).2.2 r hr).2 x hx).1⟩) (below_rows HF4.out HV.out)
                rw [HT.out] at hMo
                clear hSa F4 HF3 HB3
                go_wp2_with fail
                refine hMo.mono ?_
                rintro e w5 ⟨ma, mcp, rfl, hrow, F5⟩
                have HF5 := Lib.hid (HF4.out.trans F5 (fun _ _ h => h))
                obtain ⟨g, cp, hmv, hn0, hc0⟩ := row_u32 hrow
                cases hmv
                obtain ⟨ML, hML⟩ : ∃ ML, (m :: t).length = ML := ⟨_, rfl⟩
                rw [hML] at hn0 ⊢
                have q5 : (0 : Int) < (ML : Int) := by omega
                have hB5 := HB4.out.kept F5 (fun h => h)
                have d0 := hB5.c0
                have d1 := hB5.c1
                have d2 := hB5.c2
                clear hMo F5 hrow hML HF4 HB4 hB5
                go_wp2_with fail
                go_region_with (go_at_call 12; with_reducible refine (hWk.out _).mono ?_; rintro e w6 ⟨rfl, F6⟩)
                all_goals (
                  have HF6 := Lib.hid ((HF5.out.drew).trans F6 (fun _ _ h => h))
                  clear F6
                  go_wp2_with fail
                  go_ret
                  exact ⟨rfl, HF6.out⟩)
              | false =>
                obtain ⟨rfl, Q, hRef, hrows⟩ := HA.out.2.2 HK.out rfl
                obtain ⟨hn8, hn0⟩ := HX.out.2.2 HK.out
                obtain ⟨N, rfl⟩ : ∃ N : Nat, n = (N : Int) := ⟨n.toNat, by omega⟩
                rw [Int.toNat_natCast] at hRef
                obtain ⟨hver, hql, hqr⟩ := refut_ver HK.out hRef
                have hno := no_models (n := N) fun m => hRef.none (by omega) (fun c hc x hx => (((cls_in HK.out).2.2 c hc).2 x hx).1) m
                have hql2 : (Q ++ [[]]).length ≤ 1000 := Nat.le_trans hql (Nat.le_trans (Nat.add_le_add_right (Nat.pow_le_pow_right (by decide) (show N ≤ 8 by omega)) 1) (by decide))
                obtain ⟨p, hp⟩ : ∃ p, Q ++ [[]] = p := ⟨_, rfl⟩
                rw [hp] at hver hql2 hqr hrows
                obtain ⟨pa, pcp, rfl⟩ := hrows.form
                have HROWS := Lib.hid hrows
                have HP := Lib.hid (And.intro hver (And.intro hql2 hqr))
                have HNO := Lib.hid hno
                obtain ⟨PL, hPL⟩ : ∃ PL, p.length = PL := ⟨_, rfl⟩
                rw [hPL] at HROWS ⊢
                have A3 : Fr nob w2 (w2.alloc (.cells #[.bool false, .int .u32 0, .slice pa PL pcp] 65)) := (Fr.refl nob w2).alloc _
                have HB3 := Lib.hid (Box3.new w2 (.bool false) (.int .u32 0) (.slice pa PL pcp) 65)
                have HF3 := Lib.hid (HF2.out.trans A3 (fun _ _ h => h))
                have HR3 := Lib.hid (below_rows A3 HROWS.out)
                have hC := refCls_any l (N : Int) _ _ _ HW.out (below_rows HF3.out HV.out)
                rw [HK.out] at hC
                have hSa := same_same l _ _ _ HX.out.1 HX.out.2.1 (below_rows A3 HR2.out) (below_rows HF3.out HV.out)
                have HN8 := Lib.hid hn8
                have HPL := Lib.hid hPL
                clear HF2 HR2 HA A3 hn0 hRef hver hql hql2 hqr hno hrows hp hPL HROWS
                go_wp2_with fail
                refine hC.mono ?_
                rintro e w3 ⟨rfl, rfl⟩
                clear hC
                go_wp2_with fail
                refine hSa.mono ?_
                rintro e w4 ⟨rfl, F4⟩
                have HF4 := Lib.hid (HF3.out.trans F4 (fun _ _ h => h))
                have HB4 := Lib.hid (HB3.out.kept F4 (fun h => h))
                have HR4 := Lib.hid (below_rows F4 HR3.out)
                have hMo := models_any l N (by have := HN8.out; omega) _ w4 HX.out.1 (fun r hr => ⟨HX.out.2.1 r hr, fun x hx => (((cls_in HK.out).2.2 r hr).2 x hx).1⟩) (below_rows HF4.out HV.out)
                rw [HNO.out] at hMo
                clear hSa F4 HF3 HB3 HR3
                go_wp2_with fail
                refine hMo.mono ?_
                rintro e w5 ⟨ma, mcp, rfl, _, F5⟩
                have HF5 := Lib.hid (HF4.out.trans F5 (fun _ _ h => h))
                have HR5 := Lib.hid (below_rows F5 HR4.out)
                have hB5 := HB4.out.kept F5 (fun h => h)
                have d0 := hB5.c0
                have d1 := hB5.c1
                have d2 := hB5.c2
                have HB5 := Lib.hid hB5
                have hU := refVer_any l p (N : Int) _ _ w5 HW.out HP.out.2.1 (fun r hr => by have := HP.out.2.2 r hr; omega) (below_rows HF5.out HV.out) HR5.out
                rw [HP.out.1] at hU
                clear hMo F5 HF4 HB4 hB5 HR4
                go_wp2_with fail
                refine hU.mono ?_
                rintro e w6 ⟨rfl, F6⟩
                have HF6 := Lib.hid (HF5.out.trans F6 (fun _ _ h => h))
                have hB6 := HB5.out.kept F6 (fun h => h)
                have d0 := hB6.c0
                have d1 := hB6.c1
                have d2 := hB6.c2
                clear hU F6 HF5 HB5 hB6 HR5
                go_wp2_with fail
                refine (hWk.out _).mono ?_
                rintro e w7 ⟨rfl, F7⟩
                have HF7 := Lib.hid (HF6.out.trans F7 (fun _ _ h => h))
                clear F7
                go_wp2_with fail
                go_ret
                exact ⟨rfl, HF7.out⟩)
        · obtain ⟨rfl, rfl, rfl⟩ := HA.out.1 (by rw [HK.out]; exact hk)
          have A3 : Fr nob w2 (w2.alloc (.cells #[.bool false, .int .u32 0, .slice none 0 0] 65)) := (Fr.refl nob w2).alloc _
          have HB3 := Lib.hid (Box3.new w2 (.bool false) (.int .u32 0) (.slice none 0 0) 65)
          have HF3 := Lib.hid (HF2.out.trans A3 (fun _ _ h => h))
          have hC := refCls_any l n _ _ _ HW.out (below_rows HF3.out HV.out)
          rw [HK.out] at hC
          have q5 : (K != K) = false := by simp
          have q6 : (K != 0) = true := by simpa using hk
          have hSa := same_same l _ _ _ HX.out.1 HX.out.2.1 (below_rows A3 HR2.out) (below_rows HF3.out HV.out)
          clear HF2 HR2 HA A3 hk
          go_wp2_with fail
          refine hC.mono ?_
          rintro e w3 ⟨rfl, rfl⟩
          clear hC
          go_wp2_with fail
          refine hSa.mono ?_
          rintro e w4 ⟨rfl, F4⟩
          have HF4 := Lib.hid (HF3.out.trans F4 (fun _ _ h => h))
          have hB4 := HB3.out.kept F4 (fun h => h)
          have d0 := hB4.c0
          have d1 := hB4.c1
          have d2 := hB4.c2
          clear hSa F4 HF3 HB3 hB4
          go_wp2_with fail
          refine (hWk.out _).mono ?_
          rintro e w5 ⟨rfl, F5⟩
          have HF5 := Lib.hid (HF4.out.trans F5 (fun _ _ h => h))
          clear F5
          go_wp2_with fail
          go_ret
          exact ⟨rfl, HF5.out⟩)
end Go.Proofs.Ytaojojjdfdlgpaa
