import Derived.Test.YtaojojjdfdlgpaaDw
namespace Go.Proofs.Ytaojojjdfdlgpaa
open Go.RowKit Uq

set_option maxRecDepth 100000 in
set_option maxHeartbeats 4000000 in
theorem cons_any (l : List (List Int)) (F : List Int) (v vf : Value) (w : World) (hlt : ∀ c ∈ l, ∀ x ∈ c, Ltr x) (hl1 : l.length ≤ 1048576) (hl2 : ∀ r ∈ l, r.length ≤ 1048576) (hF : F.length ≤ 1000) (hv : RowsO w (fun b => b < w.heap.size) l v) (hf : IntsO w (fun b => b < w.heap.size) F vf) :
    Calls Try.prog 60 #[v, vf] w fun e w' => ∃ u, e = .returned u ∧ IntsO w' (fun b => b < w'.heap.size) (consP l 50 F) u ∧ (consP l 50 F).length ≤ 1100 ∧ Fr nob w w' := by
  obtain ⟨a, cap, rfl⟩ := hv.form
  obtain ⟨fa, fcap, rfl⟩ := hf.form
  obtain ⟨ra, rc, w1, hrun, hown1, F1⟩ := copyInts (by omega) hf
  obtain ⟨L, hL⟩ : ∃ L, l.length = L := ⟨_, rfl⟩
  obtain ⟨FL, hFL⟩ : ∃ FL, F.length = FL := ⟨_, rfl⟩
  obtain ⟨R, hR⟩ : ∃ R, consP l 50 F = R := ⟨_, rfl⟩
  rw [hL] at hl1 hv ⊢
  rw [hR]
  have hO1 : Outs w.heap.size FL F (.slice ra FL rc) w1 := ⟨hFL, by rw [← hFL]; exact hown1⟩
  rw [hFL] at hrun ⊢
  have HO1 := Lib.hid hO1
  have HF1 := Lib.hid F1
  have HR := Lib.hid hR
  have HV := Lib.hid hv
  have HL := Lib.hid hL
  have HL2 := Lib.hid hl2
  have HLT := Lib.hid hlt
  have HFL := Lib.hid hFL
  have HFW := Lib.hid hF
  clear hO1 F1 hR hv hL hl2 hlt hFL hown1 hf hF
  go_enter Try.func60, Try.ntmps60
  go_wp2_with (at_builtin; refine wpList_append_run2 _ rfl _ _ 37 rfl _ _ rfl rfl hrun ?_)
  go_wp2_with fail
  go_loopg [5] 50 (fun m ov wr => ∃ (n : Nat) (acc : List Int), consP l m acc = R ∧ roomP acc < m ∧ acc.length + roomP acc ≤ 1049 ∧ (∃ oa ocp, ov = .slice oa n ocp) ∧ Outs w.heap.size n acc ov wr ∧ Fr nob w wr)
  case atStart => exact ⟨FL, F, HR.out, by have := room_le F; omega, by have := room_le F; have := HFW.out; omega, ⟨_, _, rfl⟩, HO1.out, HF1.out⟩
  case round =>
    clear HO1 HF1 HR HFL HFW hrun
    obtain ⟨n, acc0, hR, hrm, hbd, ⟨oa, ocp, rfl⟩, hO, hF⟩ := hrel
    cases gk with
    | zero => exact absurd hrm (Nat.not_lt_zero _)
    | succ m =>
      obtain ⟨P, hP⟩ : ∃ P, passL l acc0 = P := ⟨_, rfl⟩
      rw [consP, hP] at hR
      have HLE := Lib.hid (show acc0.length ≤ P.length by rw [← hP]; exact passL_ext.le)
      have hN := hO.1
      obtain ⟨BB, hBB⟩ : ∃ BB, acc0.length + roomP acc0 = BB := ⟨_, rfl⟩
      have HR := Lib.hid hR
      have HP := Lib.hid hP
      have HO := Lib.hid hO
      have HF := Lib.hid hF
      have HN := Lib.hid hN
      have HB := Lib.hid hBB
      rw [hBB] at hbd
      clear hR hP hO hF hN hBB
      go_wp2_with fail
      go_loopg [5, 7] L (fun g ov iv wr => ∃ (i nn : Nat) (acc : List Int), i + g = L ∧ iv = .int .i64 (i : Int) ∧ passL (l.drop i) acc = P ∧ acc.length + roomP acc ≤ BB ∧ (∃ oa ocp, ov = .slice oa nn ocp) ∧ Outs w.heap.size nn acc ov wr ∧ Fr nob w wr)
      case atStart => exact ⟨0, n, acc0, by omega, rfl, by rw [List.drop_zero]; exact HP.out, Nat.le_of_eq HB.out, ⟨_, _, rfl⟩, HO.out, HF.out⟩
      case round =>
        clear HO HF HP
        obtain ⟨i, nn, acc, hig, rfl, hP, hb, ⟨oa, ocp, rfl⟩, hO, hF⟩ := hrel
        have HP := Lib.hid hP
        have HO := Lib.hid hO
        have HF := Lib.hid hF
        have HBA := Lib.hid hb
        clear hP hO hF hb
        cases gk with
        | zero =>
          obtain rfl : i = L := by omega
          have hacc : acc = P := by
            have h := HP.out
            rw [List.drop_eq_nil_of_le (by rw [HL.out]; exact Nat.le_refl _)] at h
            exact h
          subst hacc
          have hnn := HO.out.1
          by_cases e : nn = n
          · have hres : acc = R := by
              have h := HR.out
              rw [if_pos (by rw [hnn, e, HN.out])] at h
              exact h
            subst hres
            subst e
            clear hnn
            go_wp2_with fail
            go_ret
            exact ⟨_, rfl, HO.out.ints, by have := HBA.out; omega, HF.out⟩
          · have q0 : ((nn : Int) == (n : Int)) = false := by simp; omega
            have hres : consP l m acc = R := by
              have h := HR.out
              rw [if_neg (by rw [hnn, HN.out]; exact e)] at h
              exact h
            have hrm2 : roomP acc < m := by have h1 := HLE.out; have h2 := HN.out; have h3 := HB.out; have h4 := HBA.out; omega
            have hbd2 : acc.length + roomP acc ≤ 1049 := by have h4 := HBA.out; omega
            have HX := Lib.hid (And.intro hres (And.intro hrm2 hbd2))
            clear hnn e hres hrm2 hbd2
            go_wp2_with fail
            go_roundg m
            case measure => omega
            case rel => exact ⟨nn, acc, HX.out.1, HX.out.2.1, HX.out.2.2, ⟨_, _, rfl⟩, HO.out, HF.out⟩
        | succ g =>
          have q3 : (i : Int) < (L : Int) := by omega
          have q4 : (0 : Int) ≤ (i : Int) := Int.natCast_nonneg _
          have hi : i < l.length := by rw [HL.out]; omega
          have hit : l[i]? = some l[i] := List.getElem?_eq_getElem hi
          have hmem : l[i] ∈ l := List.getElem_mem hi
          generalize l[i] = r at hit hmem
          have hP2 : passL (l.drop (i + 1)) (passC r r acc) = P := by
            have h := HP.out
            rw [drop_at3 hit, passL] at h
            exact h
          have HP2 := Lib.hid hP2
          have HIT := Lib.hid hit
          have HRT := Lib.hid (HLT.out r hmem)
          have HRL := Lib.hid (HL2.out r hmem)
          obtain ⟨rl, hrl⟩ : ∃ rl, r.length = rl := ⟨_, rfl⟩
          have HRN := Lib.hid hrl
          have hrb : rl ≤ 1048576 := by rw [← hrl]; exact HRL.out
          obtain ⟨b, ob, hab, _, a', cap', _, _⟩ := HV.out.at hit
          subst hab
          clear hP2 hit hmem hi hrl HP
          go_wp2_with fail
          go_loopg [5, 8] rl (fun t ov iv wr => ∃ (k nn : Nat) (acc : List Int), k + t = rl ∧ iv = .int .i64 (k : Int) ∧ passL (l.drop (i + 1)) (passC r (r.drop k) acc) = P ∧ acc.length + roomP acc ≤ BB ∧ (∃ oa ocp, ov = .slice oa nn ocp) ∧ Outs w.heap.size nn acc ov wr ∧ Fr nob w wr)
          case atStart => exact ⟨0, nn, acc, by omega, rfl, by rw [List.drop_zero]; exact HP2.out, HBA.out, ⟨_, _, rfl⟩, HO.out, HF.out⟩
          case round =>
            clear HO HF HP2 HBA
            rename_i nn_ _
            obtain ⟨k, nn, acc, hkt, rfl, hP, hb, ⟨oa, ocp, rfl⟩, hO, hF⟩ := hrel
            have hV := HV.out.kept (T := fun b => b < wr.heap.size) hF (fun b h h' => ⟨fun h => h, by have := hF.size; omega⟩)
            obtain ⟨b2, ob2, e2, _, a', cap', c0, hI⟩ := hV.at HIT.out
            cases e2
            rw [HRN.out] at c0 hI
            have HP := Lib.hid hP
            have HO := Lib.hid hO
            have HF := Lib.hid hF
            have HBA := Lib.hid hb
            have HI := Lib.hid hI
            have q5 : (0 : Int) ≤ (k : Int) := Int.natCast_nonneg _
            clear hP hO hF hb hV hI
            cases gk with
            | zero =>
              obtain rfl : k = rl := by omega
              have hP3 : passL (l.drop (i + 1)) acc = P := by
                have h := HP.out
                rw [show r.drop k = [] from List.drop_eq_nil_of_le (by rw [HRN.out]; exact Nat.le_refl _)] at h
                exact h
              have HP3 := Lib.hid hP3
              clear hP3
              go_wp2_with fail
              go_roundg g
              case measure => omega
              case rel => exact ⟨i + 1, nn, acc, by omega, by go_num, HP3.out, HBA.out, ⟨_, _, rfl⟩, HO.out, HF.out⟩
            | succ t =>
              have q6 : (k : Int) < (rl : Int) := by omega
              have hk : k < r.length := by rw [HRN.out]; omega
              have hkx : r[k]? = some r[k] := List.getElem?_eq_getElem hk
              have hmx : r[k] ∈ r := List.getElem_mem hk
              generalize r[k] = x at hkx hmx
              obtain ⟨b3, ob3, hb3, _, c1⟩ := HI.out.at hkx
              subst hb3
              have hx := HRT.out x hmx
              have hP3 : passL (l.drop (i + 1)) (passC r (r.drop (k + 1)) (if aloneB acc r x = true then acc ++ [x] else acc)) = P := by
                have h := HP.out
                rw [drop_at3 hkx, passC] at h
                exact h
              obtain ⟨A, hA⟩ : ∃ A, aloneB acc r x = A := ⟨_, rfl⟩
              rw [hA] at hP3
              have hin := fun z => in_any acc z _ _ wr (by have := HBA.out; omega) HO.out.ints
              obtain ⟨A0, hA0⟩ : ∃ A0, acc.contains x = A0 := ⟨_, rfl⟩
              have hin0 := hin x
              rw [hA0] at hin0
              have HP3 := Lib.hid hP3
              have HA := Lib.hid hA
              have HA0 := Lib.hid hA0
              have HX := Lib.hid hx
              have hA1 : (!A0 && (r.drop 0).all fun y => y == x || acc.contains (-y)) = A := by
                rw [← hA, ← hA0, List.drop_zero]; rfl
              have HA1 := Lib.hid hA1
              clear hk hkx hmx hP3 hA hx hA0 hA1 HP
              go_wp2_with fail
              refine hin0.mono ?_
              rintro e w' ⟨rfl, rfl⟩
              clear hin0
              go_wp2_with fail
              go_loopg [10, 11] rl (fun s av mv wz => ∃ (j : Nat) (al : Bool), j + s = rl ∧ mv = .int .i64 (j : Int) ∧ av = .bool al ∧ (al && (r.drop j).all fun y => y == x || acc.contains (-y)) = A ∧ wr = wz)
              case atStart => exact ⟨0, !A0, by omega, rfl, rfl, HA1.out, rfl⟩
              case round =>
                clear HA1
                obtain ⟨j, al, hjs, rfl, rfl, hrest, rfl⟩ := hrel
                have q7 : (0 : Int) ≤ (j : Int) := Int.natCast_nonneg _
                cases al with
                | false =>
                  obtain rfl : A = false := hrest.symm
                  clear hrest
                  have hP4 : passL (l.drop (i + 1)) (passC r (r.drop (k + 1)) acc) = P := HP3.out
                  have HP4 := Lib.hid hP4
                  clear hP4
                  cases gk with
                  | zero =>
                    have q8 : ¬ (j : Int) < (rl : Int) := by omega
                    go_wp2_with fail
                    go_roundg t
                    case measure => omega
                    case rel => exact ⟨k + 1, nn, acc, by omega, by go_num, HP4.out, HBA.out, ⟨_, _, rfl⟩, HO.out, HF.out⟩
                  | succ s =>
                    have q8 : (j : Int) < (rl : Int) := by omega
                    go_wp2_with fail
                    go_roundg t
                    case measure => omega
                    case rel => exact ⟨k + 1, nn, acc, by omega, by go_num, HP4.out, HBA.out, ⟨_, _, rfl⟩, HO.out, HF.out⟩
                | true =>
                  cases gk with
                  | zero =>
                    have q8 : ¬ (j : Int) < (rl : Int) := by omega
                    obtain rfl : A = true := by
                      rw [← hrest, show r.drop j = [] from List.drop_eq_nil_of_le (by rw [HRN.out]; omega)]; rfl
                    have hP4 : passL (l.drop (i + 1)) (passC r (r.drop (k + 1)) (acc ++ [x])) = P := HP3.out
                    have HP4 := Lib.hid hP4
                    have hra := room_add HX.out (not_alone HA.out)
                    have hba := HBA.out
                    have hnn := HO.out.1
                    have HB4 := Lib.hid (show (acc ++ [x]).length + roomP (acc ++ [x]) ≤ BB by omega)
                    have hbn : nn ≤ 1049 := by omega
                    clear hP4 hrest hra hba hnn
                    obtain ⟨i0, hi0, hz0, hz1, hz2⟩ := info_parts info_int
                    have hs2 := HF.out.size
                    go_wp2_with (at_builtin; refine wpList_append_own_at _ rfl _ _ 37 rfl w.heap.size 3 i0 (.int .i64 0) 1 8 Try.underlying37 hi0 hz0 hz1 hz2 rfl (by decide) (.slice oa nn ocp) nn (acc.map (Value.int .i64)) rfl (HO.out.2.alloc _) ⟨wr.heap.size, 0, none⟩ 1 1 [.int .i64 x] rfl ?c1 ?c2 ?c3 ?c4 ?c5 ?c6 ?_)
                    case c3 => rfl
                    case c4 => unfold maxLen; omega
                    case c5 => omega
                    case c6 => first | omega | (simp; omega)
                    intro v6 w6 own6 gr6 _ _
                    have hO6 : Outs w.heap.size (nn + 1) (acc ++ [x]) v6 w6 := ⟨by rw [List.length_append, HO.out.1]; rfl, by rw [List.map_append]; exact own6⟩
                    have HF6 := Lib.hid ((HF.out.alloc (.cells #[.int .i64 x] 3)).grown gr6 (fun j hj hlt => absurd (HO.out.2.lt j hj).1 (by omega)))
                    have HO6 := Lib.hid hO6
                    obtain ⟨oa6, ocp6, rfl⟩ := hO6.form
                    clear hO6 own6 gr6 hs2
                    go_wp2_with fail
                    go_roundg t
                    case measure => omega
                    case rel => exact ⟨k + 1, nn + 1, acc ++ [x], by omega, by go_num, HP4.out, HB4.out, ⟨_, _, rfl⟩, HO6.out, HF6.out⟩
                  | succ s =>
                    have q8 : (j : Int) < (rl : Int) := by omega
                    have hj : j < r.length := by rw [HRN.out]; omega
                    have hjy : r[j]? = some r[j] := List.getElem?_eq_getElem hj
                    have hmy : r[j] ∈ r := List.getElem_mem hj
                    generalize r[j] = y at hjy hmy
                    obtain ⟨b4, ob4, e4, _, c2⟩ := HI.out.at hjy
                    cases e4
                    have hy := HRT.out y hmy
                    have hst := all_drop_c (p := fun y => y == x || acc.contains (-y)) hjy
                    rw [Bool.true_and, hst] at hrest
                    have HST := Lib.hid hrest
                    have HY := Lib.hid hy
                    clear hst hrest hj hjy hmy hy
                    by_cases e0 : y = x
                    · have q0 : (y == x) = true := by simpa using e0
                      have hv : (true && (r.drop (j + 1)).all fun y => y == x || acc.contains (-y)) = A := by
                        rw [← HST.out, e0]; simp
                      have HV4 := Lib.hid hv
                      clear hv e0
                      go_wp2_with fail
                      go_roundg s
                      case measure => omega
                      case rel => exact ⟨j + 1, true, by omega, by go_num, rfl, HV4.out, rfl⟩
                    · have q0 : (y == x) = false := by simpa using e0
                      obtain ⟨A2, hA2⟩ : ∃ A2, acc.contains (-y) = A2 := ⟨_, rfl⟩
                      have hv : (A2 && (r.drop (j + 1)).all fun y => y == x || acc.contains (-y)) = A := by
                        rw [← HST.out, q0, hA2]; rfl
                      have HV4 := Lib.hid hv
                      have hiny := hin (-y)
                      rw [hA2] at hiny
                      have hy1 : -24 ≤ y := by have := HY.out; unfold Ltr at this; omega
                      have hy2 : y ≤ 24 := by have := HY.out; unfold Ltr at this; omega
                      clear hv e0 hA2
                      clear HLE HN HB HR HL HV HP3 HBA HX HA HA0 HO HF HI HIT HRT HRL HRN HST HY hin HLT HL2
                      go_wp2_with fail
                      refine hiny.mono ?_
                      rintro e w' ⟨rfl, rfl⟩
                      clear hiny
                      go_wp2_with fail
                      go_roundg s
                      case measure => omega
                      case rel => exact ⟨j + 1, A2, by omega, by go_num, rfl, HV4.out, rfl⟩
end Go.Proofs.Ytaojojjdfdlgpaa
