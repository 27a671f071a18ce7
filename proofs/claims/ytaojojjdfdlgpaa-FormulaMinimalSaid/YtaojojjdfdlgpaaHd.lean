import Derived.Test.YtaojojjdfdlgpaaHc
import Derived.Test.YtaojojjdfdlgpaaQbp
namespace Go.Proofs.Ytaojojjdfdlgpaa
open Go.RowKit Uq

/-! the law FormulaMinimal -/
theorem large_noM {l : List (List Int)} (h : largeP l = false) : l.length ≤ 40 ∧ ∀ r ∈ l, r.length ≤ 80 := by
  unfold largeP at h
  rw [Bool.or_eq_false_iff, List.any_eq_false] at h
  refine ⟨by simpa using h.1, fun r hr => ?_⟩
  have := h.2 r hr
  simpa using this
theorem rows_M {w w' : World} {l : List (List Int)} {v : Value} (f : Fr nob w w') (h : RowsO w (fun b => b < w.heap.size) l v) : RowsO w' (fun b => b < w'.heap.size) l v :=
  h.kept f (fun _ hb _ => ⟨fun h => h, Nat.lt_of_lt_of_le hb f.size⟩)
theorem rowsO_row {w : World} {B n : Nat} {C : List (List Int)} {us : List Value} {v : Value} {S : Nat → Prop} (h : w.ownsRow B 37 1 v n us) (hn : C.length = n) (hD : Done w S C n us) (hS : ∀ b, v.ownBlock = some b → S b) : RowsO w S C v ∧ ∃ a c, v = .slice a n c ∧ n ≤ c := by
  rcases h.2 with ⟨h1, h2⟩ | ⟨g, cap', cur, h1, h2, h3, h4, h5, h6, h7⟩
  · exact ⟨⟨none, 0, by rw [h1, hn, h2], fun _ => rfl, fun hne => absurd (List.eq_nil_of_length_eq_zero (by rw [hn]; exact h2)) hne⟩, none, 0, by rw [h1, h2], by omega⟩
  · refine ⟨⟨_, _, by rw [h1, hn], (fun e => by cases e), fun _ => ⟨g, 0, rfl, hS g (by rw [h1]; rfl), fun j r hj => ?_⟩⟩, _, _, h1, by omega⟩
    have hjl : j < n := by rw [← hn]; exact (List.getElem?_eq_some_iff.1 hj).1
    obtain ⟨u, hu, hI⟩ := hD j r hjl hj
    refine ⟨u, ?_, hI⟩
    rw [Nat.zero_add, Lib.cell_of_heap h3]
    have h8 := congrArg (fun l => l[j]?) h7
    simp only [List.getElem?_take, Nat.mul_one, if_pos hjl, hu] at h8
    simpa using h8
/-- all but one -/
def selL (k : List (Nat × List Int)) (o : Int) : Nat → List (Nat × List Int)
  | 0 => []
  | i + 1 => if (i : Int) = o then selL k o i else selL k o i ++ (k.drop i).take 1
theorem selL_step {k : List (Nat × List Int)} {o : Int} {i : Nat} {x : Nat × List Int} (h : k[i]? = some x) (hne : ¬ (i : Int) = o) : selL k o (i + 1) = selL k o i ++ [x] := by
  rw [selL, if_neg hne, List.take_one, List.head?_drop, h]; rfl
theorem selL_skip {k : List (Nat × List Int)} {o : Int} {i : Nat} (h : (i : Int) = o) : selL k o (i + 1) = selL k o i := by rw [selL, if_pos h]
theorem selL_low {k : List (Nat × List Int)} {o : Int} : ∀ {i : Nat}, (o < 0 ∨ (i : Int) ≤ o) → selL k o i = k.take i
  | 0, _ => by simp [selL]
  | i + 1, h => by
    rw [selL, if_neg (by omega), selL_low (by omega)]
    rw [← List.take_add]
theorem selL_high {k : List (Nat × List Int)} {o : Nat} : ∀ {i : Nat}, o < i → selL k (o : Int) i = k.take o ++ (k.drop (o + 1)).take (i - (o + 1))
  | 0, h => absurd h (Nat.not_lt_zero _)
  | i + 1, h => by
    rw [selL]
    by_cases e : i = o
    · rw [if_pos (by omega), selL_low (by omega), e]
      rw [show o + 1 - (o + 1) = 0 by omega, List.take_zero, List.append_nil]
    · rw [if_neg (by omega), selL_high (by omega), List.append_assoc]
      congr 1
      rw [show i + 1 - (o + 1) = (i - (o + 1)) + 1 by omega, List.take_add, List.drop_drop, show o + 1 + (i - (o + 1)) = i by omega]
theorem selL_sub {k : List (Nat × List Int)} {o : Int} : ∀ (i : Nat) (x : Nat × List Int), x ∈ selL k o i → x ∈ k
  | 0, x, h => by simp [selL] at h
  | i + 1, x, h => by
    rw [selL] at h
    split at h
    · exact selL_sub i x h
    · rcases List.mem_append.1 h with h | h
      · exact selL_sub i x h
      · exact List.mem_of_mem_drop (List.mem_of_mem_take h)
theorem allS_map {l : List (Nat × List Int)} (f : Nat → Bool) : (l.map fun x => x.2).all (rowE f) = allS rowL l f := by
  unfold allS
  rw [List.all_map]
  rfl
theorem idx_mem {l : List (List Int)} {x : Nat × List Int} (h : x ∈ idx l) : l[x.1]? = some x.2 := by
  unfold idx at h
  obtain ⟨y, hy, e⟩ := List.mem_map.1 h
  have := List.mem_zipIdx' hy
  rw [← e]
  show l[y.2]? = some y.1
  rw [List.getElem?_eq_getElem this.1, ← this.2]
theorem idx_up (l : List (List Int)) : (idx l).Pairwise (fun a b => a.1 < b.1) := by
  unfold idx
  rw [List.pairwise_map]
  have h : (l.zipIdx.map (fun x => x.2)).Pairwise (· < ·) := by
    rw [List.zipIdx_map_snd]
    exact List.pairwise_lt_range' _
  rw [List.pairwise_map] at h
  exact h
theorem chk_part {n : Int} {l l2 : List (List Int)} (h : chkP n l = 0) (hs : ∀ c ∈ l2, c ∈ l) (hl : l2.length ≤ 4096) : chkP n l2 = 0 := by
  unfold chkP at h ⊢
  split at h
  · cases h
  · rename_i h1
    rw [if_neg h1]
    split at h
    · cases h
    · rename_i h2
      rw [if_neg]
      rintro (h3 | h3)
      · omega
      · refine h2 (.inr ?_)
        unfold clsB at h3 ⊢
        rw [List.all_eq_false] at h3 ⊢
        obtain ⟨c, hc, h4⟩ := h3
        exact ⟨c, hs c hc, h4⟩
set_option maxRecDepth 100000 in
set_option maxHeartbeats 4000000 in
theorem mins_any (l : List (List Int)) (n : Int) (v : Value) (w : World) (hwd : Wide l) (hv : RowsO w (fun b => b < w.heap.size) l v) (hcap : ∃ a c, v = .slice a l.length c ∧ l.length ≤ c) :
    Calls Try.prog 8 #[.int .i64 n, v] w fun e w' => e = .returned (.bool true) ∧ Fr nob w w' := by
  have hG := large_any l v _ w hwd hv
  have hWk := Lib.hid wakes_any
  have hCl := refCls_any l n _ _ w hwd hv
  have hCj := conj_any l n v w hwd hv hcap
  obtain ⟨a, cap, hform, hcp⟩ := hcap
  obtain ⟨K, hK⟩ : ∃ K, chkP n l = K := ⟨_, rfl⟩
  rw [hK] at hCl
  have HCL := Lib.hid hCl
  clear hCl
  cases hgr : largeP l with
  | true =>
    rw [hgr] at hG
    subst hform
    clear hwd hv hgr hcp hK hCj
    generalize l.length = LL at *
    go_enter Try.func8, Try.ntmps8
    go_wp2_with (first | (go_at_call 23; with_reducible refine hG.mono ?_; rintro e w2 ⟨rfl, rfl⟩) | fail)
    refine (hWk.out _).mono ?_
    rintro e w3 ⟨rfl, F3⟩
    go_wp2_with fail
    go_ret
    exact ⟨rfl, F3⟩
  | false =>
    rw [hgr] at hG
    by_cases h12 : 12 < n
    · have q0 : (12 : Int) < n := h12
      subst hform
      clear hwd hv hgr hcp hK h12 hCj
      generalize l.length = LL at *
      go_enter Try.func8, Try.ntmps8
      go_wp2_with (first | (go_at_call 23; with_reducible refine hG.mono ?_; rintro e w2 ⟨rfl, rfl⟩) | fail)
      refine (hWk.out _).mono ?_
      rintro e w3 ⟨rfl, F3⟩
      go_wp2_with fail
      go_ret
      exact ⟨rfl, F3⟩
    · have q0 : ¬ (12 : Int) < n := h12
      by_cases hk : K = 0
      · subst hk
        obtain ⟨hn0, g1, g2⟩ := chk_zero2 hK
        have g3 := chk_ltr hK
        obtain ⟨LL, hLL⟩ : ∃ LL, l.length = LL := ⟨_, rfl⟩
        have HLL := Lib.hid hLL
        have hl40 := (large_noM hgr).1
        subst hform
        have HV := Lib.hid hv
        have HW := Lib.hid hwd
        rw [hLL] at HV hG HCL hCj hcp hl40 ⊢
        have HX := Lib.hid (And.intro g2 g3)
        have HK := Lib.hid hK
        have HCP := Lib.hid hcp
        have HCJ := Lib.hid hCj
        clear hv hwd hLL g1 g2 g3 hgr hcp hK h12 hn0 hCj
        go_enter Try.func8, Try.ntmps8
        go_wp2_with (first | (go_at_call 23; with_reducible refine hG.mono ?_; rintro e w2 ⟨rfl, rfl⟩) | fail)
        clear hG
        refine HCL.out.mono ?_
        rintro e w2 ⟨rfl, rfl⟩
        clear HCL
        go_wp2_with fail
        refine HCJ.out.mono ?_
        rintro e w2 ⟨t, he, ok, _, hev, F2⟩
        obtain ⟨p, s, hps⟩ := dform t
        rw [HK.out, hps] at he
        subst he
        have A3 : Fr nob w2 (w2.alloc (.cells #[.int .u32 p, .string s] 52)) := (Fr.refl nob w2).alloc _
        have hB3 := Bx.new w2 (.int .u32 p) (.string s) 52
        have HF3 := Lib.hid (F2.trans A3 (fun _ _ h => h))
        have hEm := fun w => Dg.Empty_any t w
        rw [hps] at hEm
        have hCo := core_any l n _ _ HW.out (rows_M HF3.out HV.out) ⟨a, cap, by rw [HLL.out], by rw [HLL.out]; exact HCP.out⟩
        have HB3 := Lib.hid hB3
        have HEM := Lib.hid hEm
        have HEV := Lib.hid (hev HK.out)
        have HOK := Lib.hid ok
        clear F2 A3 hB3 hEm hev hps HCJ ok
        go_wp2_with fail
        refine hCo.mono ?_
        rintro e w4 ⟨F4, hres⟩
        have HB4 := HB3.out.kept F4 (fun h => h)
        have HF4 := Lib.hid (HF3.out.trans F4 (fun _ _ h => h))
        have e0 := HB4.c0
        have e1 := HB4.c1
        clear hCo F4 HF3 HB3 HB4
        rcases hres with ⟨h, _⟩ | ⟨_, hex, rfl⟩ | ⟨_, hun, k, ka, kc, gr, rfl, hI⟩
        · exact absurd HK.out h
        · have hF : ¬ t = .F := fun e => by
            obtain ⟨f, hf⟩ := hex
            rw [← HEV.out f, e] at hf
            cases hf
          have hE := HEM.out
          rw [decide_eq_false hF] at hE
          have HE := Lib.hid hE
          clear hF hE hex HEM HEV HOK
          go_wp2_with fail
          refine (HE.out _).mono ?_
          rintro e w5 ⟨rfl, b5⟩
          have HF5 := Lib.hid (HF4.out.trans ((Fr.refl nob _).below b5) (fun _ _ h => h))
          clear b5 e0 e1 HE HF4
          go_wp2_with fail
          refine (hWk.out _).mono ?_
          rintro e w6 ⟨rfl, F6⟩
          have HF6 := Lib.hid (HF5.out.trans F6 (fun _ _ h => h))
          clear F6
          go_wp2_with fail
          go_ret
          exact ⟨rfl, HF6.out⟩
        · have hF : t = .F := Dg.Bd.eq_of_ev (b := .F) HOK.out trivial fun f => by rw [HEV.out f, hun f]; rfl
          have hE := HEM.out
          rw [decide_eq_true hF] at hE
          have HE := Lib.hid hE
          have HGR := Lib.hid gr
          have hka : ∀ f, allS rowL k f = false := fun f => by
            have h1 := gr.unsat (fun f => by
              rw [Bool.true_and, ← allS_map, idx_snd]
              exact hun f) f
            rw [Bool.true_and] at h1
            exact h1
          have hkp : 1 ≤ k.length := by
            match k, hka with
            | [], hka => have := hka (fun _ => false); cases this
            | _ :: _, _ => simp
          have hkl : k.length ≤ LL := by
            have h := gr.sub.length_le
            unfold idx at h
            rw [List.length_map, List.length_zipIdx, HLL.out] at h
            exact h
          obtain ⟨KN, hKN⟩ : ∃ KN, k.length = KN := ⟨_, rfl⟩
          rw [hKN] at hI hkp hkl ⊢
          have HI := Lib.hid hI
          have HKA := Lib.hid hka
          have HKN := Lib.hid hKN
          clear hF hE hun HEM HEV HOK gr hka hI hKN
          go_wp2_with fail
          refine (HE.out _).mono ?_
          rintro e w5 ⟨rfl, b5⟩
          have F5 := (Fr.refl nob _).below b5
          have HF5 := Lib.hid (HF4.out.trans F5 (fun _ _ h => h))
          have HI5 := Lib.hid (HI.out.kept (T := fun b => b < w5.heap.size) F5 (fun b hb _ => ⟨fun h => h, Nat.lt_of_lt_of_le hb F5.size⟩))
          have HV5 := Lib.hid (rows_M HF5.out HV.out)
          have q3 : ((KN : Int) == 0) = false := by simp; omega
          clear b5 e0 e1 HE HF4 F5 HI
          go_wp2_with fail
          go_loopg [9] (KN + 1) (fun m ov wr => ∃ o : Nat, o + m = KN + 1 ∧ ov = .int .i64 ((o : Int) - 1) ∧ Fr nob w5 wr)
          case atStart => exact ⟨0, by omega, rfl, Fr.refl _ _⟩
          case round =>
            obtain ⟨o, hom, rfl, hF⟩ := hrel
            obtain ⟨O, hO⟩ : ∃ O : Int, (o : Int) - 1 = O := ⟨_, rfl⟩
            rw [hO]
            have HO := Lib.hid hO
            have HF := Lib.hid hF
            have q8 : -1 ≤ O := by omega
            clear hO hF
            cases gk with
            | zero =>
              have q4 : ¬ O < (KN : Int) := by have := HO.out; omega
              go_wp2_with fail
              refine (hWk.out _).mono ?_
              rintro e w6 ⟨rfl, F6⟩
              have HF6 := Lib.hid ((HF5.out.trans HF.out (fun _ _ h => h)).trans F6 (fun _ _ h => h))
              clear F6
              go_wp2_with fail
              go_ret
              exact ⟨rfl, HF6.out⟩
            | succ mo =>
              have q4 : O < (KN : Int) := by have := HO.out; omega
              have q9 : O ≤ 40 := by omega
              have HOM := Lib.hid hom
              clear hom
              go_wp2_with fail
              go_loopg [10, 11] KN (fun m cv iv wr => ∃ (i cn : Nat) (us : List Value), i + m = KN ∧ cn ≤ i ∧ iv = .int .i64 (i : Int) ∧ (∃ ca cc, cv = .slice ca cn cc) ∧ wr.ownsRow w5.heap.size 37 1 cv cn us ∧ us.length = cn ∧ Done wr (fun b => b < w5.heap.size) ((selL k O i).map fun x => x.2) cn us ∧ (selL k O i).length = cn ∧ Fr nob w5 wr)
              case atStart => exact ⟨0, 0, [], by omega, Nat.le_refl _, rfl, ⟨none, 0, rfl⟩, World.ownsRow_nil _ _ _ _, rfl, fun j r hj => absurd hj (Nat.not_lt_zero _), rfl, HF.out⟩
              case round =>
                clear HF
                obtain ⟨i, cn, us, him, hcn, rfl, ⟨ca, cc, rfl⟩, hown, hul, hD, hsl, hF⟩ := hrel
                have HOW := Lib.hid hown
                have HUL := Lib.hid hul
                have HD := Lib.hid hD
                have HSL := Lib.hid hsl
                have HF := Lib.hid hF
                have q10 : (0 : Int) ≤ (i : Int) := Int.natCast_nonneg _
                clear hown hul hD hsl hF
                cases gk with
                | zero =>
                  obtain rfl : i = KN := by omega
                  have hlen : ((selL k O i).map fun x => x.2).length = cn := by rw [List.length_map, HSL.out]
                  obtain ⟨hrw, ca2, cc2, hcv, hcc⟩ := rowsO_row HOW.out hlen (HD.out.kept (T := fun b => b < wr.heap.size) (Fr.refl nob wr) (fun b hb h => ⟨fun h => h, h⟩)) (fun b hb => (HOW.out.lt b hb).2)
                  cases hcv
                  have hsub : ∀ c ∈ (selL k O i).map (fun x => x.2), c ∈ l := fun c hc => by
                    obtain ⟨x, hx, rfl⟩ := List.mem_map.1 hc
                    exact List.mem_of_getElem? (idx_mem (HGR.out.sub.subset (selL_sub i x hx)))
                  have hck := chk_part HK.out hsub (by rw [hlen]; omega)
                  have hCj := conj_any ((selL k O i).map fun x => x.2) n _ wr ⟨by rw [hlen]; omega, fun r hr => Nat.le_trans (HX.out.1 r (hsub r hr)).1 (by decide)⟩ hrw ⟨ca, cc, by rw [hlen], by rw [hlen]; exact hcc⟩
                  have hend : (O < 0 ∧ ∀ f, ((selL k O i).map fun x => x.2).all (rowE f) = false) ∨ (¬ O < 0 ∧ ∃ f, ((selL k O i).map fun x => x.2).all (rowE f) = true) := by
                    by_cases hO : O < 0
                    · refine .inl ⟨hO, fun f => ?_⟩
                      rw [allS_map, selL_low (.inl hO), List.take_of_length_le (by rw [HKN.out]; exact Nat.le_refl _)]
                      exact HKA.out f
                    · refine .inr ⟨hO, ?_⟩
                      obtain ⟨o2, rfl⟩ : ∃ o2 : Nat, O = (o2 : Int) := ⟨O.toNat, by omega⟩
                      have ho2 : o2 < k.length := by rw [HKN.out]; omega
                      have hk12 : k = k.take o2 ++ k[o2] :: k.drop (o2 + 1) := by
                        rw [List.getElem_cons_drop, List.take_append_drop]
                      obtain ⟨f, hf⟩ := HGR.out.least hk12
                      refine ⟨f, ?_⟩
                      rw [Bool.true_and] at hf
                      rw [allS_map, selL_high (by rw [HKN.out] at ho2; exact ho2), List.take_of_length_le (l := k.drop (o2 + 1)) (by rw [List.length_drop, HKN.out]; exact Nat.le_refl _)]
                      exact hf
                  have HEND := Lib.hid hend
                  have HCK := Lib.hid hck
                  clear hlen hrw hcc hsub hck hend HOW HUL HD HSL
                  go_wp2_with fail
                  refine hCj.mono ?_
                  rintro e w6 ⟨t2, he, ok2, _, hev2, F6⟩
                  obtain ⟨p2, s2, hps2⟩ := dform t2
                  rw [HCK.out, hps2] at he
                  subst he
                  have A7 : Fr nob w6 (w6.alloc (.cells #[.int .u32 p2, .string s2] 52)) := (Fr.refl nob w6).alloc _
                  have hB7 := Bx.new w6 (.int .u32 p2) (.string s2) 52
                  have z0 := hB7.c0
                  have z1 := hB7.c1
                  have HF7 := Lib.hid ((HF.out.trans F6 (fun _ _ h => h)).trans A7 (fun _ _ h => h))
                  have hEm := fun w => Dg.Empty_any t2 w
                  rw [hps2] at hEm
                  have hev3 := hev2 HCK.out
                  rcases HEND.out with ⟨hO, hall⟩ | ⟨hO, hex⟩
                  · have hF : t2 = .F := Dg.Bd.eq_of_ev (b := .F) ok2 trivial fun f => by rw [hev3 f, hall f]; rfl
                    have hE := hEm
                    rw [decide_eq_true hF] at hE
                    have HE := Lib.hid hE
                    have q30 : decide (O < 0) = true := decide_eq_true (by omega)
                    clear hEm hev2 hev3 hF hE hall hCj F6 A7 hB7 HF hps2 ok2
                    go_wp2_with fail
                    refine (HE.out _).mono ?_
                    rintro e w8 ⟨rfl, b8⟩
                    have HF8 := Lib.hid (HF7.out.trans ((Fr.refl nob _).below b8) (fun _ _ h => h))
                    clear b8 z0 z1 HE
                    go_wp2_with fail
                    go_roundg mo
                    case measure => omega
                    case rel => exact ⟨o + 1, by have := HOM.out; omega, by rw [← HO.out]; go_num, HF8.out⟩
                  · have hF : ¬ t2 = .F := fun e => by
                      obtain ⟨f, hf⟩ := hex
                      rw [← hev3 f, e] at hf
                      cases hf
                    have hE := hEm
                    rw [decide_eq_false hF] at hE
                    have HE := Lib.hid hE
                    have q30 : decide (O < 0) = false := decide_eq_false (by omega)
                    clear hEm hev2 hev3 hF hE hex hCj F6 A7 hB7 HF hps2 ok2
                    go_wp2_with fail
                    refine (HE.out _).mono ?_
                    rintro e w8 ⟨rfl, b8⟩
                    have HF8 := Lib.hid (HF7.out.trans ((Fr.refl nob _).below b8) (fun _ _ h => h))
                    clear b8 z0 z1 HE
                    go_wp2_with fail
                    go_roundg mo
                    case measure => omega
                    case rel => exact ⟨o + 1, by have := HOM.out; omega, by rw [← HO.out]; go_num, HF8.out⟩
                | succ m =>
                  have q11 : (i : Int) < (KN : Int) := by omega
                  have hil : i < k.length := by rw [HKN.out]; omega
                  have hit : k[i]? = some k[i] := List.getElem?_eq_getElem hil
                  have hmem : k[i] ∈ k := List.getElem_mem hil
                  generalize k[i] = x at hit hmem
                  have hxl := idx_mem (HGR.out.sub.subset hmem)
                  have hxlt : x.1 < LL := by rw [← HLL.out]; exact (List.getElem?_eq_some_iff.1 hxl).1
                  have hIr := HI5.out.kept (T := fun b => b < w5.heap.size) HF.out (fun b hb _ => ⟨fun h => h, hb⟩)
                  have hVr := HV5.out.kept (T := fun b => b < w5.heap.size) HF.out (fun b hb _ => ⟨fun h => h, hb⟩)
                  obtain ⟨kb, kob, rfl, _, ck⟩ := hIr.at (j := i) (x := (x.1 : Int)) (by rw [List.getElem?_map, hit]; rfl)
                  obtain ⟨lb, lob, rfl, _, ra, rc, cl, hIx⟩ := hVr.at hxl
                  have q12 : (0 : Int) ≤ (x.1 : Int) := Int.natCast_nonneg _
                  have q13 : (x.1 : Int) < (LL : Int) := by omega
                  have hprev : 0 < i → ∃ y : Nat × List Int, k[i - 1]? = some y ∧ y.1 < x.1 ∧ wr.cell? ⟨kb, kob + (i - 1), none⟩ = some (.int .i64 (y.1 : Int)) := fun hp => by
                    have hjl : i - 1 < k.length := by omega
                    have hjt : k[i - 1]? = some k[i - 1] := List.getElem?_eq_getElem hjl
                    have hup := (idx_up l).sublist HGR.out.sub
                    have hlt := (List.pairwise_iff_getElem.1 hup) (i - 1) i hjl hil (by omega)
                    have hxe : k[i] = x := by
                      have := List.getElem?_eq_getElem hil
                      rw [hit] at this
                      exact (Option.some.inj this).symm
                    rw [hxe] at hlt
                    obtain ⟨kb2, kob2, e2, _, ck2⟩ := hIr.at (j := i - 1) (x := (k[i - 1].1 : Int)) (by rw [List.getElem?_map, hjt]; rfl)
                    cases e2
                    exact ⟨_, hjt, hlt, ck2⟩
                  have HIT := Lib.hid hit
                  obtain ⟨XI, hXI⟩ : ∃ XI, x.1 = XI := ⟨_, rfl⟩
                  obtain ⟨RN, hRN⟩ : ∃ RN, x.2.length = RN := ⟨_, rfl⟩
                  rw [hXI] at ck cl hxlt q12 q13 hprev
                  rw [hRN] at cl
                  have HIX := Lib.hid hIx
                  have HRN := Lib.hid hRN
                  have HXI := Lib.hid hXI
                  obtain ⟨i0, hi0, hz0, hz1, hz2⟩ := info_parts info_intsR
                  have q14 : ¬ (XI : Int) < 0 := by omega
                  have q15 : decide ((LL : Int) ≤ (XI : Int)) = false := decide_eq_false (by omega)
                  have q15b : decide ((XI : Int) < 0) = false := decide_eq_false (by omega)
                  have q15c : decide (LL ≤ XI) = false := decide_eq_false (by omega)
                  clear hil hit hmem hxl hxlt hIr hVr hIx hRN hXI
                  have hcase : (i = 0) ∨ (0 < i) := by omega
                  rcases hcase with hi0' | hi0'
                  · subst hi0'
                    clear hprev
                    rw [Nat.add_zero] at ck
                    go_wp2_with fail
                    go_quiet (fail)
                    all_goals (
                      have D := (Fr.refl nob wr).drewN nq
                      have HOW6 := Lib.hid (D.row HOW.out (fun _ _ h => h))
                      have HD6 := Lib.hid (HD.out.kept (T := fun b => b < w5.heap.size) D (fun b hb _ => ⟨fun h => h, hb⟩))
                      have HF6 := Lib.hid (HF.out.drewN nq)
                      have HIX6 := Lib.hid (HIX.out.kept (T := fun b => b < w5.heap.size) D (fun b hb _ => ⟨fun h => h, hb⟩))
                      have ck6 := D.cell ck (fun h => h)
                      have cl6 := D.cell cl (fun h => h)
                      clear D ck cl HOW HD HF HIX
                      generalize wr.drewN nq = w6 at *
                      by_cases hO : (((0 : Nat) : Int) : Int) = O
                      · have q20 : (((((0 : Nat) : Int) : Int)) != O) = false := by simp [hO]
                        have hsk := selL_skip (k := k) (o := O) (i := 0) hO
                        have HSK := Lib.hid hsk
                        clear hsk hO
                        go_wp2_with fail
                        go_roundg m
                        case measure => omega
                        case rel => exact ⟨0 + 1, cn, us, by omega, by omega, by go_num, ⟨_, _, rfl⟩, HOW6.out, HUL.out, by rw [HSK.out]; exact HD6.out, by rw [HSK.out]; exact HSL.out, HF6.out⟩
                      · have q20 : (((((0 : Nat) : Int) : Int)) != O) = true := by simpa using hO
                        have hst := selL_step HIT.out (o := O) hO
                        have HST := Lib.hid hst
                        have hsz6 := HF6.out.size
                        clear hst hO
                        go_wp2_with (at_builtin; refine wpList_append_own_at _ rfl _ _ 36 rfl w5.heap.size 37 i0 (.slice none 0 0) 1 24 Try.underlying36 hi0 hz0 hz1 hz2 rfl (by decide) (.slice ca cn cc) cn us rfl (HOW6.out.alloc _) ⟨w6.heap.size, 0, none⟩ 1 1 [.slice ra RN rc] rfl ?c1 ?c2 ?c3 ?c4 ?c5 ?c6 ?_)
                        case c1 => rfl
                        case c2 => exact cell_one_new _ _ _
                        case c3 => intro u hu; simp at hu; subst hu; rfl
                        case c4 => unfold maxLen; omega
                        case c5 => omega
                        case c6 => first | omega | (simp; omega)
                        intro v7 w7 own7 gr7 _ hat
                        have hF7 : Fr (fun j => (Value.slice ca cn cc).ownBlock = some j) w6 w7 := ((Fr.refl _ w6).alloc (.cells #[.slice ra RN rc] 37)).grown gr7 (fun j hj _ => hj)
                        obtain ⟨g7, cap7, rfl⟩ : ∃ g7 cap7, v7 = .slice (some ⟨g7, 0, none⟩) (cn + 1) cap7 := by
                          rcases own7.2 with ⟨rfl, h0⟩ | ⟨g', cap', cur, rfl, h1, h2, _⟩
                          · simp at h0
                          · exact ⟨g', cap', rfl⟩
                        have hlt := HOW6.out.lt
                        have HF7 : Hid (Fr nob w5 w7) := Lib.hid (HF6.out.trans' hF7 (T := nob) (fun _ _ h => h) (fun b hb h => by have := (hlt b h).1; omega))
                        have HD7 : Hid (Done w7 (fun b => b < w5.heap.size) ((selL k O (0 + 1)).map fun x => x.2) (cn + 1) (us ++ [.slice ra RN rc])) := Lib.hid (by
                          have hD7 := HD6.out.kept (T := fun b => b < w5.heap.size) hF7 (fun b hb _ => ⟨fun e => by have := (hlt b e).1; omega, hb⟩)
                          have hI7 := HIX6.out.kept (T := fun b => b < w5.heap.size) hF7 (fun b hb _ => ⟨fun e => by have := (hlt b e).1; omega, hb⟩)
                          rw [HST.out, List.map_append]
                          intro j r hj hr
                          by_cases e : j = cn
                          · rw [e, List.getElem?_append_right (by rw [List.length_map, HSL.out]; exact Nat.le_refl _), List.length_map, HSL.out, Nat.sub_self] at hr
                            cases hr
                            rw [HRN.out] at hI7
                            exact ⟨_, by rw [e, List.getElem?_append_right (by rw [HUL.out]; exact Nat.le_refl _), HUL.out, Nat.sub_self]; rfl, hI7⟩
                          · rw [List.getElem?_append_left (by rw [List.length_map, HSL.out]; omega)] at hr
                            obtain ⟨u, h1, h2⟩ := hD7 j r (by omega) hr
                            exact ⟨u, by rw [List.getElem?_append_left (by rw [HUL.out]; omega)]; exact h1, h2⟩)
                        have HOW7 := Lib.hid own7
                        clear own7 gr7 hat hF7 hlt hsz6
                        go_wp2_with fail
                        go_roundg m
                        case measure => omega
                        case rel => exact ⟨0 + 1, cn + 1, us ++ [.slice ra RN rc], by omega, by omega, by go_num, ⟨_, _, rfl⟩, HOW7.out, by rw [List.length_append, HUL.out]; rfl, HD7.out, by rw [HST.out, List.length_append, HSL.out]; rfl, HF7.out⟩)
                  · obtain ⟨y, _, hy2, ck2⟩ := hprev hi0'
                    have q16 : (0 : Int) < (i : Int) := by omega
                    obtain ⟨I1, rfl⟩ : ∃ I1, i = I1 + 1 := ⟨i - 1, by omega⟩
                    have q17 : ((I1 + 1 : Nat) : Int) - 1 = (I1 : Int) := by omega
                    have q18 : decide ((XI : Int) ≤ (y.1 : Int)) = false := decide_eq_false (by omega)
                    have q18b : decide (XI ≤ y.1) = false := decide_eq_false (by omega)
                    have q19 : (0 : Int) ≤ (I1 : Int) := Int.natCast_nonneg _
                    have q21 : (I1 : Int) < (KN : Int) := by omega
                    rw [Nat.add_sub_cancel] at ck2
                    clear hprev hi0' hy2
                    go_wp2_with fail
                    go_quiet (fail)
                    all_goals (
                      have D := (Fr.refl nob wr).drewN nq
                      have HOW6 := Lib.hid (D.row HOW.out (fun _ _ h => h))
                      have HD6 := Lib.hid (HD.out.kept (T := fun b => b < w5.heap.size) D (fun b hb _ => ⟨fun h => h, hb⟩))
                      have HF6 := Lib.hid (HF.out.drewN nq)
                      have HIX6 := Lib.hid (HIX.out.kept (T := fun b => b < w5.heap.size) D (fun b hb _ => ⟨fun h => h, hb⟩))
                      have ck6 := D.cell ck (fun h => h)
                      have cl6 := D.cell cl (fun h => h)
                      clear D ck cl HOW HD HF HIX
                      generalize wr.drewN nq = w6 at *
                      by_cases hO : (((I1 + 1 : Nat) : Int) : Int) = O
                      · have q20 : (((((I1 + 1 : Nat) : Int) : Int)) != O) = false := by simp [hO]
                        have hsk := selL_skip (k := k) (o := O) (i := I1 + 1) hO
                        have HSK := Lib.hid hsk
                        clear hsk hO
                        go_wp2_with fail
                        go_roundg m
                        case measure => omega
                        case rel => exact ⟨I1 + 1 + 1, cn, us, by omega, by omega, by go_num, ⟨_, _, rfl⟩, HOW6.out, HUL.out, by rw [HSK.out]; exact HD6.out, by rw [HSK.out]; exact HSL.out, HF6.out⟩
                      · have q20 : (((((I1 + 1 : Nat) : Int) : Int)) != O) = true := by simpa using hO
                        have hst := selL_step HIT.out (o := O) hO
                        have HST := Lib.hid hst
                        have hsz6 := HF6.out.size
                        clear hst hO
                        go_wp2_with (at_builtin; refine wpList_append_own_at _ rfl _ _ 36 rfl w5.heap.size 37 i0 (.slice none 0 0) 1 24 Try.underlying36 hi0 hz0 hz1 hz2 rfl (by decide) (.slice ca cn cc) cn us rfl (HOW6.out.alloc _) ⟨w6.heap.size, 0, none⟩ 1 1 [.slice ra RN rc] rfl ?c1 ?c2 ?c3 ?c4 ?c5 ?c6 ?_)
                        case c1 => rfl
                        case c2 => exact cell_one_new _ _ _
                        case c3 => intro u hu; simp at hu; subst hu; rfl
                        case c4 => unfold maxLen; omega
                        case c5 => omega
                        case c6 => first | omega | (simp; omega)
                        intro v7 w7 own7 gr7 _ hat
                        have hF7 : Fr (fun j => (Value.slice ca cn cc).ownBlock = some j) w6 w7 := ((Fr.refl _ w6).alloc (.cells #[.slice ra RN rc] 37)).grown gr7 (fun j hj _ => hj)
                        obtain ⟨g7, cap7, rfl⟩ : ∃ g7 cap7, v7 = .slice (some ⟨g7, 0, none⟩) (cn + 1) cap7 := by
                          rcases own7.2 with ⟨rfl, h0⟩ | ⟨g', cap', cur, rfl, h1, h2, _⟩
                          · simp at h0
                          · exact ⟨g', cap', rfl⟩
                        have hlt := HOW6.out.lt
                        have HF7 : Hid (Fr nob w5 w7) := Lib.hid (HF6.out.trans' hF7 (T := nob) (fun _ _ h => h) (fun b hb h => by have := (hlt b h).1; omega))
                        have HD7 : Hid (Done w7 (fun b => b < w5.heap.size) ((selL k O (I1 + 1 + 1)).map fun x => x.2) (cn + 1) (us ++ [.slice ra RN rc])) := Lib.hid (by
                          have hD7 := HD6.out.kept (T := fun b => b < w5.heap.size) hF7 (fun b hb _ => ⟨fun e => by have := (hlt b e).1; omega, hb⟩)
                          have hI7 := HIX6.out.kept (T := fun b => b < w5.heap.size) hF7 (fun b hb _ => ⟨fun e => by have := (hlt b e).1; omega, hb⟩)
                          rw [HST.out, List.map_append]
                          intro j r hj hr
                          by_cases e : j = cn
                          · rw [e, List.getElem?_append_right (by rw [List.length_map, HSL.out]; exact Nat.le_refl _), List.length_map, HSL.out, Nat.sub_self] at hr
                            cases hr
                            rw [HRN.out] at hI7
                            exact ⟨_, by rw [e, List.getElem?_append_right (by rw [HUL.out]; exact Nat.le_refl _), HUL.out, Nat.sub_self]; rfl, hI7⟩
                          · rw [List.getElem?_append_left (by rw [List.length_map, HSL.out]; omega)] at hr
                            obtain ⟨u, h1, h2⟩ := hD7 j r (by omega) hr
                            exact ⟨u, by rw [List.getElem?_append_left (by rw [HUL.out]; omega)]; exact h1, h2⟩)
                        have HOW7 := Lib.hid own7
                        clear own7 gr7 hat hF7 hlt hsz6
                        go_wp2_with fail
                        go_roundg m
                        case measure => omega
                        case rel => exact ⟨I1 + 1 + 1, cn + 1, us ++ [.slice ra RN rc], by omega, by omega, by go_num, ⟨_, _, rfl⟩, HOW7.out, by rw [List.length_append, HUL.out]; rfl, HD7.out, by rw [HST.out, List.length_append, HSL.out]; rfl, HF7.out⟩)
      · have q1 : (K != 0) = true := by simpa using hk
        subst hform
        clear hwd hv hgr hcp hK h12 hk hCj
        generalize l.length = LL at *
        go_enter Try.func8, Try.ntmps8
        go_wp2_with (first | (go_at_call 23; with_reducible refine hG.mono ?_; rintro e w2 ⟨rfl, rfl⟩) | fail)
        refine HCL.out.mono ?_
        rintro e w2 ⟨rfl, rfl⟩
        go_wp2_with fail
        refine (hWk.out _).mono ?_
        rintro e w3 ⟨rfl, F3⟩
        go_wp2_with fail
        go_ret
        exact ⟨rfl, F3⟩
end Go.Proofs.Ytaojojjdfdlgpaa
