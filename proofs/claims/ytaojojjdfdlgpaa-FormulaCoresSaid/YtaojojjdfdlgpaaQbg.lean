import Derived.Test.YtaojojjdfdlgpaaQbf
namespace Go.Proofs.Ytaojojjdfdlgpaa
open Go.RowKit

/-! follows, add -/
theorem follows_gen (d g cp n : Nat) (x : Int) (w : World) (P Q : World → Prop) (h0 : w.cell? ⟨g, 0, none⟩ = some (.int .i64 x)) (hn : 1 ≤ n)
    (hN : Calls Try.prog 88 #[.pointer (some ⟨d, 0, none⟩), .int .i64 x, .slice (some ⟨g, 0, none⟩) n cp] w fun e w' => e = .returned (.bool true) ∧ P w')
    (hP : ∀ w, P w → Calls Try.prog 89 #[.pointer (some ⟨d, 0, none⟩)] w fun e w' => e = .returned (.bool true) ∧ Q w') :
    Calls Try.prog 93 #[.pointer (some ⟨d, 0, none⟩), .slice (some ⟨g, 0, none⟩) n cp] w fun e w' => e = .returned (.bool true) ∧ Q w' := by
  have HP := Lib.hid hP
  have q0 : (0 : Int) < (n : Int) := by omega
  clear hP
  go_enter Try.func93, Try.ntmps93
  go_wp2_with fail
  refine hN.mono ?_
  rintro e w2 ⟨rfl, hp⟩
  have hC := HP.out w2 hp
  clear hN hp h0
  go_wp2_with fail
  refine hC.mono ?_
  rintro e w3 ⟨rfl, hq⟩
  have HQ := Lib.hid hq
  clear hq hC
  go_wp2_with fail
  go_ret
  exact ⟨rfl, HQ.out⟩
theorem row_ints {w : World} {B : Nat} {T : TypeId} {v : Value} {ys : List Int} (h : w.ownsRow B T 1 v ys.length (ys.map fun y => .int .i64 y)) :
    ∃ a cp, v = .slice a ys.length cp ∧ (ys ≠ [] → ∃ g, a = some ⟨g, 0, none⟩ ∧ ∀ (j : Nat) (y : Int), ys[j]? = some y → w.cell? ⟨g, j, none⟩ = some (.int .i64 y)) := by
  rcases h.2 with ⟨h1, h2⟩ | ⟨g, cap, cur, h1, h2, h3, h4, h5, h6, h7⟩
  · exact ⟨none, 0, by rw [h1, h2], fun hne => absurd (List.eq_nil_of_length_eq_zero h2) hne⟩
  · refine ⟨_, cap, h1, fun _ => ⟨g, rfl, fun j y hj => ?_⟩⟩
    rw [Lib.cell_of_heap h3]
    have hjl : j < ys.length := (List.getElem?_eq_some_iff.1 hj).1
    have h8 := congrArg (fun l => l[j]?) h7
    simp only [List.getElem?_take, List.getElem?_map, hj, Option.map_some, Nat.mul_one, if_pos hjl] at h8
    simpa using h8
set_option maxRecDepth 100000 in
set_option maxHeartbeats 2000000 in
theorem add_gen (d g cp : Nat) (c : Nat → Value) (xs : List Int) (kp : Int → Bool) (w : World) (R : World → Prop) (hM : Mem w d c) (hbr : c 151 = .bool false) (hxs : xs.length ≤ 1000) (hnd : xs.Nodup)
    (hx : ∀ (j : Nat) (y : Int), xs[j]? = some y → w.cell? ⟨g, j, none⟩ = some (.int .i64 y) ∧ ∃ q : Nat, -y + 24 = (q : Int) ∧ q < 49 ∧ c q = .bool (!kp y))
    (hK : ∀ v wL, wL.ownsRow w.heap.size 3 1 v (xs.filter kp).length ((xs.filter kp).map fun y => .int .i64 y) → Mem wL d c → Fr nob w wL →
      (xs.filter kp = [] ∧ ∀ w2, Mem w2 d (upd c 151 (.bool true)) → Fr (fun k => k = d) wL w2 → R w2) ∨
      ((xs.filter kp).length = 2 ∧ Calls Try.prog 92 #[.pointer (some ⟨d, 0, none⟩), v] wL fun e w' => e = .returned (.tuple #[]) ∧ R w') ∨
      ((xs.filter kp).length = 1 ∧ Calls Try.prog 93 #[.pointer (some ⟨d, 0, none⟩), v] wL fun e w' => e = .returned (.bool true) ∧ ∃ c' g' n cap, Mem w' d c' ∧ c' 147 = .slice (some ⟨g', 0, none⟩) n cap ∧ n ≤ 1000000 ∧ ∀ w2, Mem w2 d (upd (upd c' 151 (.bool false)) 149 (.int .i64 (n : Int))) → Fr (fun k => k = d) w' w2 → R w2)) :
    Calls Try.prog 64 #[.pointer (some ⟨d, 0, none⟩), .slice (some ⟨g, 0, none⟩) xs.length cp] w fun e w' => e = .returned (.tuple #[]) ∧ R w' := by
  have HM := Lib.hid hM
  have HX := Lib.hid hx
  have HK := Lib.hid hK
  have HND := Lib.hid hnd
  obtain ⟨c0, f0⟩ := hM 151 (by decide)
  rw [hbr] at c0
  have hdw : d < w.heap.size := lt_of_cell c0
  have HDW := Lib.hid hdw
  obtain ⟨n, hn⟩ : ∃ n, xs.length = n := ⟨_, rfl⟩
  rw [hn] at hxs ⊢
  have HN := Lib.hid hn
  clear hM hx hK hnd hdw hn
  go_enter Try.func64, Try.ntmps64
  go_wp2_with fail
  go_loopg [4, 13] n (fun m ov iv wr => ∃ k : Nat, k + m = n ∧ iv = .int .i64 (k : Int) ∧ wr.ownsRow w.heap.size 3 1 ov ((xs.take k).filter kp).length (((xs.take k).filter kp).map fun y => .int .i64 y) ∧ Fr nob w wr)
  case atStart => exact ⟨0, by omega, rfl, by rw [List.take_zero]; exact World.ownsRow_nil _ _ _ _, Fr.refl _ _⟩
  case round =>
    obtain ⟨k, hkm, rfl, hown, hF⟩ := hrel
    have HO := Lib.hid hown
    have HF := Lib.hid hF
    have hlt : ((xs.take k).filter kp).length ≤ 1000 := Nat.le_trans (List.length_filter_le _ _) (by rw [List.length_take]; omega)
    clear hown hF
    cases gk with
    | zero =>
      obtain rfl : k = n := by omega
      have hO := HO.out
      rw [show xs.take k = xs from List.take_of_length_le (by rw [HN.out]; exact Nat.le_refl _)] at hO hlt
      obtain ⟨a, cpo, hform, _⟩ := row_ints hO
      have hMr := HM.out.kept HF.out (fun h => h)
      have hKK := HK.out _ wr hO hMr HF.out
      rw [hform] at hKK
      subst hform
      obtain ⟨L, hL⟩ : ∃ L, (xs.filter kp).length = L := ⟨_, rfl⟩
      rw [hL] at hKK hlt ⊢
      have HMr := Lib.hid hMr
      clear hO hMr HO HK HX
      rcases hKK with ⟨hnil, hR⟩ | ⟨rfl, hC⟩ | ⟨rfl, hC⟩
      · obtain rfl : L = 0 := by rw [← hL, hnil]; rfl
        obtain ⟨c1, f1⟩ := HMr.out 151 (by decide)
        rw [hbr] at c1
        have HR := Lib.hid (hR _ (HMr.out.set 151 (.bool true)) (fr_store wr d 151 (.bool true)))
        clear hR hL hnil
        go_wp2_with fail
        refine bodyPost_ret (results_none rfl _ _ _) rfl ?_
        exact ⟨rfl, HR.out⟩
      · clear hL
        go_wp2_with fail
        refine hC.mono ?_
        rintro e w2 ⟨rfl, hR⟩
        have HR := Lib.hid hR
        clear hR hC
        go_wp2_with fail
        refine bodyPost_end (results_none rfl _ _ _) rfl ⟨rfl, HR.out⟩
      · have hW := fun w => watch_short (.pointer (some ⟨d, 0, none⟩)) a 1 cpo w (by decide)
        clear hL
        go_wp2_with fail
        refine (hW _).mono ?_
        rintro e w2 ⟨rfl, rfl⟩
        clear hW
        go_wp2_with fail
        refine hC.mono ?_
        rintro e w2 ⟨rfl, c', g', nn, cap, hM2, h147, hnn, hR⟩
        obtain ⟨c1, f1⟩ := hM2 151 (by decide)
        have S1 := fr_store w2 d 151 (.bool false)
        have M3 := hM2.set 151 (.bool false)
        have c7 : (w2.setCell ⟨d, 151, none⟩ (.bool false)).cell? ⟨d, 147, none⟩ = some (.slice (some ⟨g', 0, none⟩) nn cap) := by
          rw [← h147]; exact (M3 147 (by decide)).1
        obtain ⟨c9, f9⟩ := M3 149 (by decide)
        generalize upd c' 151 (.bool false) 149 = u9 at c9
        have HR := Lib.hid (hR _ (M3.set 149 (.int .i64 (nn : Int))) (S1.trans (fr_store _ d 149 (.int .i64 (nn : Int))) (fun _ _ h => h)))
        generalize c' 151 = u1 at c1
        clear hR S1 M3 hM2 hC h147
        go_wp2_with fail
        refine bodyPost_end (results_none rfl _ _ _) rfl ⟨rfl, HR.out⟩
    | succ m =>
      have hk : k < xs.length := by rw [HN.out]; omega
      have hkt : xs[k]? = some xs[k] := List.getElem?_eq_getElem hk
      have hstep : xs.take (k + 1) = xs.take k ++ [xs[k]] := List.take_succ_eq_append_getElem hk
      have hni : xs[k] ∉ xs.take k := by
        intro h
        have h2 : (xs.take (k + 1)).Nodup := HND.out.sublist (List.take_sublist _ _)
        rw [hstep, List.nodup_append] at h2
        exact h2.2.2 _ h _ (List.mem_singleton.2 rfl) rfl
      generalize xs[k] = l at hkt hstep hni
      obtain ⟨hl, q, hq, hq2, hcq⟩ := HX.out k l hkt
      have hlr := HF.out.cell hl (fun h => h)
      have hpl := fun w => place_any (-l) (by omega) w
      rw [hq] at hpl
      have hMr := HM.out.kept HF.out (fun h => h)
      have cq : wr.drew.cell? ⟨d, q, none⟩ = some (.bool (!kp l)) := by rw [← hcq]; exact (hMr.kept ((Fr.refl nob wr).drew) (fun h => h) q (by omega)).1
      have q1 : (0 : Int) ≤ (q : Int) := by omega
      have q2 : (q : Int) < 49 := by omega
      have q3 : (k : Int) < (n : Int) := by omega
      have q4 : (0 : Int) ≤ (k : Int) := Int.natCast_nonneg _
      have HSP := Lib.hid hstep
      have HNI := Lib.hid hni
      have hwl := wrap_neg l (by omega)
      have hl1 : -100 ≤ l := by omega
      have hl2 : l ≤ 100 := by omega
      clear hk hkt hstep hni hl hMr hcq hq
      cases hkp : kp l with
      | false =>
        rw [hkp, show (!false) = true from rfl] at cq
        have he : (xs.take (k + 1)).filter kp = (xs.take k).filter kp := by rw [HSP.out, List.filter_append]; simp [hkp]
        have HE := Lib.hid he
        clear he hkp
        go_wp2_with fail
        (first
          | go_region_with (go_at_call 57; (with_reducible refine (hpl _).mono ?_); rintro e w' ⟨rfl, rfl⟩)
          | fail)
        all_goals (
          have HO2 : Hid (wr.drew.ownsRow w.heap.size 3 1 u4 ((xs.take (k + 1)).filter kp).length (((xs.take (k + 1)).filter kp).map fun y => .int .i64 y)) := Lib.hid (by rw [HE.out]; exact ((Fr.refl nob wr).drew).row HO.out (fun _ _ h => h))
          have HF2 := Lib.hid (HF.out.drew)
          clear cq
          generalize wr.drew = w2 at *
          go_wp2_with fail
          go_roundg m
          case measure => omega
          case rel => exact ⟨k + 1, by omega, by go_num, HO2.out, HF2.out⟩)
      | true =>
        rw [hkp, show (!true) = false from rfl] at cq
        have he : (xs.take (k + 1)).filter kp = (xs.take k).filter kp ++ [l] := by rw [HSP.out, List.filter_append]; simp [hkp]
        have HE := Lib.hid he
        have hO2 := ((Fr.refl nob wr).drew).row HO.out (fun _ _ h => h)
        obtain ⟨a, cpo, rfl, hcells⟩ := row_ints hO2
        have hCt := contains_no a _ cpo l wr.drew (by omega) hcells (fun h => HNI.out (List.mem_filter.1 h).1)
        have HO2 := Lib.hid hO2
        have HF2 := Lib.hid (HF.out.drew)
        obtain ⟨ys, hys⟩ : ∃ ys, (xs.take k).filter kp = ys := ⟨_, rfl⟩
        rw [hys] at hCt hlt HO2 HE hcells ⊢
        clear he hkp hO2 hcells
        go_wp2_with fail
        (first
          | go_region_with (first
            | (go_at_call 57; (with_reducible refine (hpl _).mono ?_); rintro e w' ⟨rfl, rfl⟩)
            | (go_at_call 91; (with_reducible refine hCt.mono ?_); rintro e w' ⟨rfl, rfl⟩))
          | fail)
        all_goals (
          have HO3 := Lib.hid HO2.out
          generalize wr.drew = w2 at *
          obtain ⟨i0, hi0, hz0, hz1, hz2⟩ := info_parts info_int
          have hs2 := HF2.out.size
          clear cq hCt
          go_wp2_with (at_builtin; refine wpList_append_own_at _ rfl _ _ 37 rfl w.heap.size 3 i0 (.int .i64 0) 1 8 Try.underlying37 hi0 hz0 hz1 hz2 rfl (by decide) (.slice a ys.length cpo) ys.length (ys.map fun y => .int .i64 y) rfl (HO3.out.alloc _) ⟨w2.heap.size, 0, none⟩ 1 1 [.int .i64 l] rfl ?c1 ?c2 ?c3 ?c4 ?c5 ?c6 ?_)
          case c1 => rfl
          case c2 => exact cell_one_new _ _ _
          case c3 => intro u hu; simp at hu; subst hu; rfl
          case c4 => unfold maxLen; omega
          case c5 => omega
          case c6 => simp; omega
          intro v3 w3 own3 gr3 _ hat
          have HO4 : Hid (w3.ownsRow w.heap.size 3 1 v3 ((xs.take (k + 1)).filter kp).length (((xs.take (k + 1)).filter kp).map fun y => .int .i64 y)) := Lib.hid (by rw [HE.out, List.map_append, List.length_append]; exact own3)
          have HF4 := Lib.hid ((HF2.out.alloc (.cells #[.int .i64 l] 3)).grown gr3 (fun j hj hlt => absurd (HO2.out.lt j hj).1 (by omega)))
          clear own3 gr3 hat
          go_wp2_with fail
          go_roundg m
          case measure => omega
          case rel => exact ⟨k + 1, by omega, by go_num, HO4.out, HF4.out⟩)
end Go.Proofs.Ytaojojjdfdlgpaa
