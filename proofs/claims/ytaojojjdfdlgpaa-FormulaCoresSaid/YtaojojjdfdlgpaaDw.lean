import Derived.Test.YtaojojjdfdlgpaaDu
namespace Go.Proofs.Ytaojojjdfdlgpaa
open Go.RowKit Uq

/-! what is assumed, and what follows -/
theorem chk_zero2 {n : Int} {l : List (List Int)} (h : chkP n l = 0) : (0 ≤ n ∧ n ≤ 24) ∧ l.length ≤ 4096 ∧ ∀ r ∈ l, r.length ≤ 64 ∧ ∀ x ∈ r, x ≠ 0 ∧ -n ≤ x ∧ x ≤ n := by
  unfold chkP at h
  split at h
  · omega
  · split at h
    · omega
    · rename_i h1 h2
      have h3 : clsB n l = true := by
        cases hq : clsB n l
        · exact absurd (.inr hq) h2
        · rfl
      unfold clsB litsB litB at h3
      rw [List.all_eq_true] at h3
      refine ⟨by omega, by omega, fun r hr => ?_⟩
      have := h3 r hr
      rw [Bool.and_eq_true, List.all_eq_true] at this
      exact ⟨by simpa using this.1, fun x hx => by simpa using this.2 x hx⟩
theorem lits_ltr {n : Int} (hn : n ≤ 24) {F : List Int} (h : litsB n F = true) : ∀ x ∈ F, Ltr x := by
  unfold litsB litB at h
  rw [List.all_eq_true] at h
  intro x hx
  have := h x hx
  simp at this
  unfold Ltr
  omega
theorem chk_ltr {n : Int} {l : List (List Int)} (h : chkP n l = 0) : ∀ c ∈ l, ∀ x ∈ c, Ltr x := fun c hc x hx => by
  obtain ⟨h1, _, h3⟩ := chk_zero2 h
  have := (h3 c hc).2 x hx
  unfold Ltr
  omega
/-- what holds is what follows -/
theorem holds_cons {C : List (List Int)} {ids : List Nat} {s : DS} (h : Lev C ids s) (hC : ∀ c ∈ C, ∀ x ∈ c, Ltr x) {F : List Int} (hF : ∀ x ∈ F, Ltr x) :
    (assP F s).1 = !confP C F ∧ ((assP F s).1 = true → ∀ x, (assP F s).2.holds x = (consP C 50 F).contains x) := by
  obtain ⟨h1, h2⟩ := lev_assume h hF
  have hc := conf_iff hC F
  cases hb : (assP F s).1 with
  | true =>
    obtain ⟨h3, h4⟩ := h1 hb
    refine ⟨?_, fun _ x => ?_⟩
    · cases hq : confP C F with
      | true => exact absurd (hc.1 hq) h3
      | false => rfl
    · have e : (assP F s).2.holds x = true ↔ (consP C 50 F).contains x = true := by
        rw [h4 x, ← cons_iff hC F x]; simp
      cases hx : (assP F s).2.holds x <;> cases hy : (consP C 50 F).contains x
      · rfl
      · rw [hx, hy] at e; simp at e
      · rw [hx, hy] at e; simp at e
      · rfl
  | false =>
    refine ⟨?_, fun e => by cases e⟩
    rw [hc.2 (h2 hb)]; rfl
/-! the reference's in; its consequences, beside the memory -/
theorem any_drop_c {l : List Int} {k : Nat} {x y : Int} (h : l[k]? = some y) : (l.drop k).contains x = ((x == y) || (l.drop (k + 1)).contains x) := by
  rw [drop_at3 h, List.contains_cons]
set_option maxRecDepth 100000 in
theorem in_any (l : List Int) (x : Int) (v : Value) (S : Nat → Prop) (w : World) (hw : l.length ≤ 1048576) (h : IntsO w S l v) :
    Calls Try.prog 61 #[v, .int .i64 x] w fun e w' => e = .returned (.bool (l.contains x)) ∧ w = w' := by
  obtain ⟨a, cap, rfl⟩ := h.form
  obtain ⟨c, hc⟩ : ∃ c, l.length = c := ⟨_, rfl⟩
  obtain ⟨R, hR⟩ : ∃ R, l.contains x = R := ⟨_, rfl⟩
  rw [hR]
  rw [hc] at hw h ⊢
  have HR := Lib.hid hR
  have HH := Lib.hid h
  have HN := Lib.hid hc
  clear hR h hc
  go_enter Try.func61, Try.ntmps61
  go_wp2_with fail
  go_loopg [5] c (fun m iv wr => ∃ k : Nat, k + m = c ∧ iv = .int .i64 (k : Int) ∧ (l.drop k).contains x = R ∧ w = wr)
  case atStart => exact ⟨0, by omega, rfl, by rw [List.drop_zero]; exact HR.out, rfl⟩
  case round =>
    obtain ⟨k, hkm, rfl, hrest, rfl⟩ := hrel
    have HRE := Lib.hid hrest
    have q4 : (0 : Int) ≤ (k : Int) := Int.natCast_nonneg _
    clear hrest
    cases gk with
    | zero =>
      obtain rfl : k = c := by omega
      have hv : R = false := by rw [← HRE.out, List.drop_eq_nil_of_le (by rw [HN.out]; exact Nat.le_refl _)]; rfl
      subst hv
      go_wp2_with fail
      go_ret
      exact ⟨rfl, rfl⟩
    | succ m =>
      have q3 : (k : Int) < (c : Int) := by omega
      have hk : k < l.length := by rw [HN.out]; omega
      have hkt : l[k]? = some l[k] := List.getElem?_eq_getElem hk
      generalize l[k] = y at hkt
      obtain ⟨b, ob, rfl, hSb, hcl⟩ := HH.out.at hkt
      have hst := any_drop_c (x := x) hkt
      rw [HRE.out] at hst
      have HST := Lib.hid hst
      clear hst hk hkt
      by_cases e0 : y = x
      · have q0 : (y == x) = true := by simpa using e0
        have hv : R = true := by rw [HST.out, e0]; simp
        subst hv
        clear e0
        go_wp2_with fail
        go_ret
        exact ⟨rfl, rfl⟩
      · have q0 : (y == x) = false := by simpa using e0
        have hv : (l.drop (k + 1)).contains x = R := by
          rw [HST.out, show (x == y) = false by simpa using fun e => e0 e.symm]; rfl
        have HV := Lib.hid hv
        clear hv e0
        go_wp2_with fail
        go_roundg m
        case measure => omega
        case rel => exact ⟨k + 1, by omega, by go_num, HV.out, rfl⟩
theorem all_drop_c {p : Int → Bool} {l : List Int} {k : Nat} {x : Int} (h : l[k]? = some x) : (l.drop k).all p = (p x && (l.drop (k + 1)).all p) := all_drop h
/-- a literal that is new takes room -/
theorem room_add {out : List Int} {x : Int} (hx : Ltr x) (hn : x ∉ out) : (out ++ [x]).length + roomP (out ++ [x]) ≤ out.length + roomP out := by
  have h4 : roomP (out ++ [x]) < roomP out := by
    unfold roomP
    refine Uq.filter_lt (x := x) hx.all (fun z hz => ?_) ?_ ?_
    · simp at hz ⊢; exact hz.1
    · simpa using hn
    · simp
  rw [List.length_append, List.length_singleton]
  omega
theorem not_alone {out c : List Int} {x : Int} (h : aloneB out c x = true) : x ∉ out := (alone_iff.1 h).1
/-- the row that grows -/
def Outs (B n : Nat) (acc : List Int) (v : Value) (w : World) : Prop := acc.length = n ∧ w.ownsRow B 3 1 v n (acc.map (Value.int .i64))
theorem Outs.form {B n : Nat} {acc : List Int} {v : Value} {w : World} (h : Outs B n acc v w) : ∃ oa ocp, v = .slice oa n ocp := by
  obtain ⟨rfl, h⟩ := h
  obtain ⟨a, c, e, _⟩ := row_ints h
  exact ⟨a, c, e⟩
theorem Outs.ints {B n : Nat} {acc : List Int} {v : Value} {w : World} (h : Outs B n acc v w) : IntsO w (fun b => b < w.heap.size) acc v := by
  obtain ⟨rfl, h⟩ := h
  exact intsO_of h (fun g hg => (h.lt g hg).2)
theorem Outs.drew {B n : Nat} {acc : List Int} {v : Value} {w : World} (h : Outs B n acc v w) : Outs B n acc v w.drew := ⟨h.1, ((Fr.refl nob w).drew).row h.2 (fun _ _ h => h)⟩
end Go.Proofs.Ytaojojjdfdlgpaa
namespace Go.Proofs.Ytaojojjdfdlgpaa
open Go.RowKit Uq

set_option maxRecDepth 100000 in
set_option maxHeartbeats 4000000 in
theorem cons_any (l : List (List Int)) (F : List Int) (v vf : Value) (w : World) (hlt : ∀ c ∈ l, ∀ x ∈ c, Ltr x) (hl1 : l.length ≤ 1048576) (hl2 : ∀ r ∈ l, r.length ≤ 1048576) (hF : F.length ≤ 1000) (hv : RowsO w (fun b => b < w.heap.size) l v) (hf : IntsO w (fun b => b < w.heap.size) F vf) :
    Calls Try.prog 60 #[v, vf] w fun e w' => ∃ u, e = .returned u ∧ IntsO w' (fun b => b < w'.heap.size) (consP l 50 F) u ∧ (consP l 50 F).length ≤ 1100 ∧ Fr nob w w' := by
  obtain ⟨a, cap, rfl⟩ := hv.form
  obtain ⟨fa, fcap, rfl⟩ := hf.form
  obtain ⟨ra, rc, w1, hrun, hown1, F1⟩ := copyInts (by omega) hf
  obtain ⟨L, hL⟩ : ∃ L, l.length = L := ⟨_, rfl⟩
  obtain ⟨FL, hFL⟩ : ∃ FL, F.length = FL := ⟨_, rfl⟩
  obtain ⟨R, hR⟩ : ∃ R, consP l 50 F = R := ⟨_, rfl⟩
  rw [hL] at hl1 hv ⊢
  rw [hR]
  have hO1 : Outs w.heap.size FL F (.slice ra FL rc) w1 := ⟨hFL, by rw [← hFL]; exact hown1⟩
  rw [hFL] at hrun ⊢
  have HO1 := Lib.hid hO1
  have HF1 := Lib.hid F1
  have HR := Lib.hid hR
  have HV := Lib.hid hv
  have HL := Lib.hid hL
  have HL2 := Lib.hid hl2
  have HLT := Lib.hid hlt
  have HFL := Lib.hid hFL
  have HFW := Lib.hid hF
  clear hO1 F1 hR hv hL hl2 hlt hFL hown1 hf hF
  go_enter Try.func60, Try.ntmps60
  go_wp2_with (at_builtin; refine wpList_append_run2 _ rfl _ _ 37 rfl _ _ rfl rfl hrun ?_)
  go_wp2_with fail
  go_loopg [5] 50 (fun m ov wr => ∃ (n : Nat) (acc : List Int), consP l m acc = R ∧ roomP acc < m ∧ acc.length + roomP acc ≤ 1049 ∧ (∃ oa ocp, ov = .slice oa n ocp) ∧ Outs w.heap.size n acc ov wr ∧ Fr nob w wr)
  case atStart => exact ⟨FL, F, HR.out, by have := room_le F; omega, by have := room_le F; have := HFW.out; omega, ⟨_, _, rfl⟩, HO1.out, HF1.out⟩
  case round =>
    clear HO1 HF1 HR HFL HFW hrun
    obtain ⟨n, acc0, hR, hrm, hbd, ⟨oa, ocp, rfl⟩, hO, hF⟩ := hrel
    cases gk with
    | zero => exact absurd hrm (Nat.not_lt_zero _)
    | succ m =>
      obtain ⟨P, hP⟩ : ∃ P, passL l acc0 = P := ⟨_, rfl⟩
      rw [consP, hP] at hR
      have HLE := Lib.hid (show acc0.length ≤ P.length by rw [← hP]; exact passL_ext.le)
      have hN := hO.1
      obtain ⟨BB, hBB⟩ : ∃ BB, acc0.length + roomP acc0 = BB := ⟨_, rfl⟩
      have HR := Lib.hid hR
      have HP := Lib.hid hP
      have HO := Lib.hid hO
      have HF := Lib.hid hF
      have HN := Lib.hid hN
      have HB := Lib.hid hBB
      rw [hBB] at hbd
      clear hR hP hO hF hN hBB
      go_wp2_with fail
      go_loopg [5, 7] L (fun g ov iv wr => ∃ (i nn : Nat) (acc : List Int), i + g = L ∧ iv = .int .i64 (i : Int) ∧ passL (l.drop i) acc = P ∧ acc.length + roomP acc ≤ BB ∧ (∃ oa ocp, ov = .slice oa nn ocp) ∧ Outs w.heap.size nn acc ov wr ∧ Fr nob w wr)
      case atStart => exact ⟨0, n, acc0, by omega, rfl, by rw [List.drop_zero]; exact HP.out, Nat.le_of_eq HB.out, ⟨_, _, rfl⟩, HO.out, HF.out⟩
      case round =>
        clear HO HF HP
        obtain ⟨i, nn, acc, hig, rfl, hP, hb, ⟨oa, ocp, rfl⟩, hO, hF⟩ := hrel
        have HP := Lib.hid hP
        have HO := Lib.hid hO
        have HF := Lib.hid hF
        have HBA := Lib.hid hb
        clear hP hO hF hb
        cases gk with
        | zero =>
          obtain rfl : i = L := by omega
          have hacc : acc = P := by
            have h := HP.out
            rw [List.drop_eq_nil_of_le (by rw [HL.out]; exact Nat.le_refl _)] at h
            exact h
          subst hacc
          have hnn := HO.out.1
          by_cases e : nn = n
          · have hres : acc = R := by
              have h := HR.out
              rw [if_pos (by rw [hnn, e, HN.out])] at h
              exact h
            subst hres
            subst e
            clear hnn
            go_wp2_with fail
            go_ret
            exact ⟨_, rfl, HO.out.ints, by have := HBA.out; omega, HF.out⟩
          · have q0 : ((nn : Int) == (n : Int)) = false := by simp; omega
            have hres : consP l m acc = R := by
              have h := HR.out
              rw [if_neg (by rw [hnn, HN.out]; exact e)] at h
              exact h
            have hrm2 : roomP acc < m := by have h1 := HLE.out; have h2 := HN.out; have h3 := HB.out; have h4 := HBA.out; omega
            have hbd2 : acc.length + roomP acc ≤ 1049 := by have h4 := HBA.out; omega
            have HX := Lib.hid (And.intro hres (And.intro hrm2 hbd2))
            clear hnn e hres hrm2 hbd2
            go_wp2_with fail
            go_roundg m
            case measure => omega
            case rel => exact ⟨nn, acc, HX.out.1, HX.out.2.1, HX.out.2.2, ⟨_, _, rfl⟩, HO.out, HF.out⟩
        | succ g =>
          have q3 : (i : Int) < (L : Int) := by omega
          have q4 : (0 : Int) ≤ (i : Int) := Int.natCast_nonneg _
          have hi : i < l.length := by rw [HL.out]; omega
          have hit : l[i]? = some l[i] := List.getElem?_eq_getElem hi
          have hmem : l[i] ∈ l := List.getElem_mem hi
          generalize l[i] = r at hit hmem
          have hP2 : passL (l.drop (i + 1)) (passC r r acc) = P := by
            have h := HP.out
            rw [drop_at3 hit, passL] at h
            exact h
          have HP2 := Lib.hid hP2
          have HIT := Lib.hid hit
          have HRT := Lib.hid (HLT.out r hmem)
          have HRL := Lib.hid (HL2.out r hmem)
          obtain ⟨rl, hrl⟩ : ∃ rl, r.length = rl := ⟨_, rfl⟩
          have HRN := Lib.hid hrl
          have hrb : rl ≤ 1048576 := by rw [← hrl]; exact HRL.out
          obtain ⟨b, ob, hab, _, a', cap', _, _⟩ := HV.out.at hit
          subst hab
          clear hP2 hit hmem hi hrl HP
          go_wp2_with fail
          go_loopg [5, 8] rl (fun t ov iv wr => ∃ (k nn : Nat) (acc : List Int), k + t = rl ∧ iv = .int .i64 (k : Int) ∧ passL (l.drop (i + 1)) (passC r (r.drop k) acc) = P ∧ acc.length + roomP acc ≤ BB ∧ (∃ oa ocp, ov = .slice oa nn ocp) ∧ Outs w.heap.size nn acc ov wr ∧ Fr nob w wr)
          case atStart => exact ⟨0, nn, acc, by omega, rfl, by rw [List.drop_zero]; exact HP2.out, HBA.out, ⟨_, _, rfl⟩, HO.out, HF.out⟩
          case round =>
            clear HO HF HP2 HBA
            rename_i nn_ _
            obtain ⟨k, nn, acc, hkt, rfl, hP, hb, ⟨oa, ocp, rfl⟩, hO, hF⟩ := hrel
            have hV := HV.out.kept (T := fun b => b < wr.heap.size) hF (fun b h h' => ⟨fun h => h, by have := hF.size; omega⟩)
            obtain ⟨b2, ob2, e2, _, a', cap', c0, hI⟩ := hV.at HIT.out
            cases e2
            rw [HRN.out] at c0 hI
            have HP := Lib.hid hP
            have HO := Lib.hid hO
            have HF := Lib.hid hF
            have HBA := Lib.hid hb
            have HI := Lib.hid hI
            have q5 : (0 : Int) ≤ (k : Int) := Int.natCast_nonneg _
            clear hP hO hF hb hV hI
            cases gk with
            | zero =>
              obtain rfl : k = rl := by omega
              have hP3 : passL (l.drop (i + 1)) acc = P := by
                have h := HP.out
                rw [show r.drop k = [] from List.drop_eq_nil_of_le (by rw [HRN.out]; exact Nat.le_refl _)] at h
                exact h
              have HP3 := Lib.hid hP3
              clear hP3
              go_wp2_with fail
              go_roundg g
              case measure => omega
              case rel => exact ⟨i + 1, nn, acc, by omega, by go_num, HP3.out, HBA.out, ⟨_, _, rfl⟩, HO.out, HF.out⟩
            | succ t =>
              have q6 : (k : Int) < (rl : Int) := by omega
              have hk : k < r.length := by rw [HRN.out]; omega
              have hkx : r[k]? = some r[k] := List.getElem?_eq_getElem hk
              have hmx : r[k] ∈ r := List.getElem_mem hk
              generalize r[k] = x at hkx hmx
              obtain ⟨b3, ob3, hb3, _, c1⟩ := HI.out.at hkx
              subst hb3
              have hx := HRT.out x hmx
              have hP3 : passL (l.drop (i + 1)) (passC r (r.drop (k + 1)) (if aloneB acc r x = true then acc ++ [x] else acc)) = P := by
                have h := HP.out
                rw [drop_at3 hkx, passC] at h
                exact h
              obtain ⟨A, hA⟩ : ∃ A, aloneB acc r x = A := ⟨_, rfl⟩
              rw [hA] at hP3
              have hin := fun z => in_any acc z _ _ wr (by have := HBA.out; omega) HO.out.ints
              obtain ⟨A0, hA0⟩ : ∃ A0, acc.contains x = A0 := ⟨_, rfl⟩
              have hin0 := hin x
              rw [hA0] at hin0
              have HP3 := Lib.hid hP3
              have HA := Lib.hid hA
              have HA0 := Lib.hid hA0
              have HX := Lib.hid hx
              have hA1 : (!A0 && (r.drop 0).all fun y => y == x || acc.contains (-y)) = A := by
                rw [← hA, ← hA0, List.drop_zero]; rfl
              have HA1 := Lib.hid hA1
              clear hk hkx hmx hP3 hA hx hA0 hA1 HP
              go_wp2_with fail
              refine hin0.mono ?_
              rintro e w' ⟨rfl, rfl⟩
              clear hin0
              go_wp2_with fail
              go_loopg [10, 11] rl (fun s av mv wz => ∃ (j : Nat) (al : Bool), j + s = rl ∧ mv = .int .i64 (j : Int) ∧ av = .bool al ∧ (al && (r.drop j).all fun y => y == x || acc.contains (-y)) = A ∧ wr = wz)
              case atStart => exact ⟨0, !A0, by omega, rfl, rfl, HA1.out, rfl⟩
              case round =>
                clear HA1
                obtain ⟨j, al, hjs, rfl, rfl, hrest, rfl⟩ := hrel
                have q7 : (0 : Int) ≤ (j : Int) := Int.natCast_nonneg _
                cases al with
                | false =>
                  obtain rfl : A = false := hrest.symm
                  clear hrest
                  have hP4 : passL (l.drop (i + 1)) (passC r (r.drop (k + 1)) acc) = P := HP3.out
                  have HP4 := Lib.hid hP4
                  clear hP4
                  cases gk with
                  | zero =>
                    have q8 : ¬ (j : Int) < (rl : Int) := by omega
                    go_wp2_with fail
                    go_roundg t
                    case measure => omega
                    case rel => exact ⟨k + 1, nn, acc, by omega, by go_num, HP4.out, HBA.out, ⟨_, _, rfl⟩, HO.out, HF.out⟩
                  | succ s =>
                    have q8 : (j : Int) < (rl : Int) := by omega
                    go_wp2_with fail
                    go_roundg t
                    case measure => omega
                    case rel => exact ⟨k + 1, nn, acc, by omega, by go_num, HP4.out, HBA.out, ⟨_, _, rfl⟩, HO.out, HF.out⟩
                | true =>
                  cases gk with
                  | zero =>
                    have q8 : ¬ (j : Int) < (rl : Int) := by omega
                    obtain rfl : A = true := by
                      rw [← hrest, show r.drop j = [] from List.drop_eq_nil_of_le (by rw [HRN.out]; omega)]; rfl
                    have hP4 : passL (l.drop (i + 1)) (passC r (r.drop (k + 1)) (acc ++ [x])) = P := HP3.out
                    have HP4 := Lib.hid hP4
                    have hra := room_add HX.out (not_alone HA.out)
                    have hba := HBA.out
                    have hnn := HO.out.1
                    have HB4 := Lib.hid (show (acc ++ [x]).length + roomP (acc ++ [x]) ≤ BB by omega)
                    have hbn : nn ≤ 1049 := by omega
                    clear hP4 hrest hra hba hnn
                    obtain ⟨i0, hi0, hz0, hz1, hz2⟩ := info_parts info_int
                    have hs2 := HF.out.size
                    go_wp2_with (at_builtin; refine wpList_append_own_at _ rfl _ _ 37 rfl w.heap.size 3 i0 (.int .i64 0) 1 8 Try.underlying37 hi0 hz0 hz1 hz2 rfl (by decide) (.slice oa nn ocp) nn (acc.map (Value.int .i64)) rfl (HO.out.2.alloc _) ⟨wr.heap.size, 0, none⟩ 1 1 [.int .i64 x] rfl ?c1 ?c2 ?c3 ?c4 ?c5 ?c6 ?_)
                    case c3 => rfl
                    case c4 => unfold maxLen; omega
                    case c5 => omega
                    case c6 => first | omega | (simp; omega)
                    intro v6 w6 own6 gr6 _ _
                    have hO6 : Outs w.heap.size (nn + 1) (acc ++ [x]) v6 w6 := ⟨by rw [List.length_append, HO.out.1]; rfl, by rw [List.map_append]; exact own6⟩
                    have HF6 := Lib.hid ((HF.out.alloc (.cells #[.int .i64 x] 3)).grown gr6 (fun j hj hlt => absurd (HO.out.2.lt j hj).1 (by omega)))
                    have HO6 := Lib.hid hO6
                    obtain ⟨oa6, ocp6, rfl⟩ := hO6.form
                    clear hO6 own6 gr6 hs2
                    go_wp2_with fail
                    go_roundg t
                    case measure => omega
                    case rel => exact ⟨k + 1, nn + 1, acc ++ [x], by omega, by go_num, HP4.out, HB4.out, ⟨_, _, rfl⟩, HO6.out, HF6.out⟩
                  | succ s =>
                    have q8 : (j : Int) < (rl : Int) := by omega
                    have hj : j < r.length := by rw [HRN.out]; omega
                    have hjy : r[j]? = some r[j] := List.getElem?_eq_getElem hj
                    have hmy : r[j] ∈ r := List.getElem_mem hj
                    generalize r[j] = y at hjy hmy
                    obtain ⟨b4, ob4, e4, _, c2⟩ := HI.out.at hjy
                    cases e4
                    have hy := HRT.out y hmy
                    have hst := all_drop_c (p := fun y => y == x || acc.contains (-y)) hjy
                    rw [Bool.true_and, hst] at hrest
                    have HST := Lib.hid hrest
                    have HY := Lib.hid hy
                    clear hst hrest hj hjy hmy hy
                    by_cases e0 : y = x
                    · have q0 : (y == x) = true := by simpa using e0
                      have hv : (true && (r.drop (j + 1)).all fun y => y == x || acc.contains (-y)) = A := by
                        rw [← HST.out, e0]; simp
                      have HV4 := Lib.hid hv
                      clear hv e0
                      go_wp2_with fail
                      go_roundg s
                      case measure => omega
                      case rel => exact ⟨j + 1, true, by omega, by go_num, rfl, HV4.out, rfl⟩
                    · have q0 : (y == x) = false := by simpa using e0
                      obtain ⟨A2, hA2⟩ : ∃ A2, acc.contains (-y) = A2 := ⟨_, rfl⟩
                      have hv : (A2 && (r.drop (j + 1)).all fun y => y == x || acc.contains (-y)) = A := by
                        rw [← HST.out, q0, hA2]; rfl
                      have HV4 := Lib.hid hv
                      have hiny := hin (-y)
                      rw [hA2] at hiny
                      have hy1 : -24 ≤ y := by have := HY.out; unfold Ltr at this; omega
                      have hy2 : y ≤ 24 := by have := HY.out; unfold Ltr at this; omega
                      clear hv e0 hA2
                      clear HLE HN HB HR HL HV HP3 HBA HX HA HA0 HO HF HI HIT HRT HRL HRN HST HY hin HLT HL2
                      go_wp2_with fail
                      refine hiny.mono ?_
                      rintro e w' ⟨rfl, rfl⟩
                      clear hiny
                      go_wp2_with fail
                      go_roundg s
                      case measure => omega
                      case rel => exact ⟨j + 1, A2, by omega, by go_num, rfl, HV4.out, rfl⟩
end Go.Proofs.Ytaojojjdfdlgpaa
namespace Go.Proofs.Ytaojojjdfdlgpaa
open Go.RowKit Uq

theorem cons_ltr {l : List (List Int)} {F : List Int} (hl : ∀ c ∈ l, ∀ x ∈ c, Ltr x) (hF : ∀ x ∈ F, Ltr x) : ∀ x ∈ consP l 50 F, Ltr x := by
  obtain ⟨_, _, c3, _⟩ := cons_all hl (n := 50) (out := F) (by have := room_le F; omega)
  exact c3 Ltr (fun c hc x hx _ => hl c hc x hx) hF
set_option maxRecDepth 100000 in
set_option maxHeartbeats 4000000 in
theorem conf_any (l : List (List Int)) (F : List Int) (v vf : Value) (w : World) (hlt : ∀ c ∈ l, ∀ x ∈ c, Ltr x) (hFt : ∀ x ∈ F, Ltr x) (hl1 : l.length ≤ 1048576) (hl2 : ∀ r ∈ l, r.length ≤ 1048576) (hF : F.length ≤ 1000) (hv : RowsO w (fun b => b < w.heap.size) l v) (hf : IntsO w (fun b => b < w.heap.size) F vf) :
    Calls Try.prog 59 #[v, vf] w fun e w' => e = .returned (.bool (confP l F)) ∧ Fr nob w w' := by
  have hcons := cons_any l F v vf w hlt hl1 hl2 hF hv hf
  have hct := cons_ltr hlt hFt
  obtain ⟨a, cap, rfl⟩ := hv.form
  obtain ⟨fa, fcap, rfl⟩ := hf.form
  obtain ⟨L, hL⟩ : ∃ L, l.length = L := ⟨_, rfl⟩
  obtain ⟨FL, hFL⟩ : ∃ FL, F.length = FL := ⟨_, rfl⟩
  obtain ⟨R, hR⟩ : ∃ R, confP l F = R := ⟨_, rfl⟩
  obtain ⟨C, hC⟩ : ∃ C, consP l 50 F = C := ⟨_, rfl⟩
  rw [hR]
  rw [hC] at hcons hct
  unfold confP at hR
  rw [hC] at hR
  rw [hL] at hl1 hv hcons ⊢
  rw [hFL] at hcons ⊢
  have HV := Lib.hid hv
  have HL := Lib.hid hL
  have HR := Lib.hid hR
  have HCT := Lib.hid hct
  clear hv hf hlt hFt hl2 hF hL hFL hC hR hct
  go_enter Try.func59, Try.ntmps59
  go_wp2_with fail
  go_loopg [5] L (fun m iv wr => ∃ k : Nat, k + m = L ∧ iv = .int .i64 (k : Int) ∧ ((l.drop k).any (·.isEmpty) || C.any fun x => C.contains (-x)) = R ∧ w = wr)
  case atStart => exact ⟨0, by omega, rfl, by rw [List.drop_zero]; exact HR.out, rfl⟩
  case round =>
    clear HR
    obtain ⟨k, hkm, rfl, hrest, rfl⟩ := hrel
    have HRE := Lib.hid hrest
    have q4 : (0 : Int) ≤ (k : Int) := Int.natCast_nonneg _
    clear hrest
    cases gk with
    | zero =>
      obtain rfl : k = L := by omega
      have hR2 : (C.any fun x => C.contains (-x)) = R := by
        rw [← HRE.out, show l.drop k = [] from List.drop_eq_nil_of_le (by rw [HL.out]; exact Nat.le_refl _)]; rfl
      have HR2 := Lib.hid hR2
      clear hR2
      go_wp2_with fail
      refine hcons.mono ?_
      rintro e w2 ⟨u, rfl, hI, hlen, F2⟩
      obtain ⟨a2, c2, rfl⟩ := hI.form
      have hin := fun z => in_any C z _ _ w2 (by omega) hI
      obtain ⟨N, hN⟩ : ∃ N, C.length = N := ⟨_, rfl⟩
      rw [hN] at hI hlen hin ⊢
      have HI := Lib.hid hI
      have HN := Lib.hid hN
      have HF2 := Lib.hid F2
      clear hcons hI hN F2
      go_wp2_with fail
      go_loopg [7] N (fun m iv wr => ∃ k : Nat, k + m = N ∧ iv = .int .i64 (k : Int) ∧ ((C.drop k).any fun x => C.contains (-x)) = R ∧ w2 = wr)
      case atStart => exact ⟨0, by omega, rfl, by rw [List.drop_zero]; exact HR2.out, rfl⟩
      case round =>
        clear HR2
        obtain ⟨j, hjm, rfl, hrest, rfl⟩ := hrel
        have q5 : (0 : Int) ≤ (j : Int) := Int.natCast_nonneg _
        cases gk with
        | zero =>
          obtain rfl : j = N := by omega
          obtain rfl : R = false := by
            rw [← hrest, show C.drop j = [] from List.drop_eq_nil_of_le (by rw [HN.out]; exact Nat.le_refl _)]; rfl
          clear hrest
          go_wp2_with fail
          go_ret
          exact ⟨rfl, HF2.out⟩
        | succ m =>
          have q6 : (j : Int) < (N : Int) := by omega
          have hj : j < C.length := by rw [HN.out]; omega
          have hjy : C[j]? = some C[j] := List.getElem?_eq_getElem hj
          have hmy : C[j] ∈ C := List.getElem_mem hj
          generalize C[j] = y at hjy hmy
          obtain ⟨b4, ob4, e4, _, c0⟩ := HI.out.at hjy
          subst e4
          have hy := HCT.out y hmy
          have hy1 : -24 ≤ y := by unfold Ltr at hy; omega
          have hy2 : y ≤ 24 := by unfold Ltr at hy; omega
          have hst := any_drop (p := fun x => C.contains (-x)) hjy
          rw [hrest] at hst
          obtain ⟨A2, hA2⟩ : ∃ A2, C.contains (-y) = A2 := ⟨_, rfl⟩
          rw [hA2] at hst
          have hiny := hin (-y)
          rw [hA2] at hiny
          have HST := Lib.hid hst
          clear hst hrest hj hjy hmy hy hA2
          cases A2 with
          | true =>
            obtain rfl : R = true := HST.out
            go_wp2_with fail
            refine hiny.mono ?_
            rintro e w' ⟨rfl, rfl⟩
            clear hiny
            go_wp2_with fail
            go_ret
            exact ⟨rfl, HF2.out⟩
          | false =>
            have HV2 : Hid (((C.drop (j + 1)).any fun x => C.contains (-x)) = R) := Lib.hid HST.out.symm
            go_wp2_with fail
            refine hiny.mono ?_
            rintro e w' ⟨rfl, rfl⟩
            clear hiny
            go_wp2_with fail
            go_roundg m
            case measure => omega
            case rel => exact ⟨j + 1, by omega, by go_num, HV2.out, rfl⟩
    | succ m =>
      have q6 : (k : Int) < (L : Int) := by omega
      have hk : k < l.length := by rw [HL.out]; omega
      have hkt : l[k]? = some l[k] := List.getElem?_eq_getElem hk
      generalize l[k] = r at hkt
      obtain ⟨b, ob, rfl, hSb, a', cap', c0, _⟩ := HV.out.at hkt
      have hst := any_drop (p := fun r : List Int => r.isEmpty) hkt
      have hre := HRE.out
      rw [hst] at hre
      obtain ⟨rl, hrl⟩ : ∃ rl, r.length = rl := ⟨_, rfl⟩
      rw [hrl] at c0
      have HRL := Lib.hid hrl
      have HRR := Lib.hid hre
      clear hst hk hkt hre hrl
      by_cases e0 : rl = 0
      · have q0 : ((rl : Int) == 0) = true := by rw [e0]; rfl
        obtain rfl : R = true := by
          rw [← HRR.out, show r = [] from List.eq_nil_of_length_eq_zero (by rw [HRL.out]; exact e0)]; rfl
        clear e0
        go_wp2_with fail
        go_ret
        exact ⟨rfl, Fr.refl _ _⟩
      · have q0 : ((rl : Int) == 0) = false := by simp; omega
        have hv : ((l.drop (k + 1)).any (·.isEmpty) || C.any fun x => C.contains (-x)) = R := by
          rw [← HRR.out]
          have : r.isEmpty = false := by
            cases r with
            | nil => exact absurd HRL.out.symm e0
            | cons x t => rfl
          rw [this, Bool.false_or]
        have HV4 := Lib.hid hv
        clear hv e0
        go_wp2_with fail
        go_roundg m
        case measure => omega
        case rel => exact ⟨k + 1, by omega, by go_num, HV4.out, rfl⟩
end Go.Proofs.Ytaojojjdfdlgpaa
