import Derived.Test.YtaojojjdfdlgpaaDq
namespace Go.Proofs.Ytaojojjdfdlgpaa
open Go.RowKit Uq

/-! watch -/
def stepW (s : DS) (g : Nat) (y : Int) : DS := { s with watched := upF s.watched y (s.watched y ++ [g]) }
theorem watP_eq (s : DS) (a b : Int) (t : List Int) (g : Nat) : watP s a b t g = stepW (stepW { s with cl := upF s.cl g (a :: b :: t) } g a) g b := rfl
set_option maxRecDepth 100000 in
set_option maxHeartbeats 4000000 in
theorem watch_dm (Z : Nat → Prop) (d : Nat) (sh : Nat → Nat × Nat) (G : Nat → Prop) (s : DS) (c : Nat → Value) (g : Nat) (a b : Int) (t : List Int) (w : World) (h : Dm w Z 100 d sh G s c) (hg : G g) (hcl : s.cl g = a :: b :: t) (ha : Ltr a) (hb : Ltr b) (hlen : (sh g).1 ≤ 1000000) (hwl : ∀ i, (s.watched i).length ≤ 1000000) :
    Calls Try.prog 92 #[.pointer (some ⟨d, 0, none⟩), clV sh g] w fun e w' => e = .returned (.tuple #[]) ∧ ∃ c', Dm w' Z 100 d sh G (stepW (stepW s g a) g b) c' ∧ Fr (fun k => ¬ Z k) w w' := by
  have hcb := (h.hp.cls g hg).1
  rw [hcl] at hcb
  obtain ⟨n, cp, hsg⟩ : ∃ n cp, sh g = (n, cp) := ⟨_, _, rfl⟩
  have hcv : clV sh g = .slice (some ⟨g, 0, none⟩) n cp := by unfold clV; rw [hsg]
  have hn2 : 2 ≤ n := by have := hcb.len; rw [hsg] at this; simp only [List.length_cons] at this; omega
  have hncp : n ≤ cp := by have := hcb.cap; rw [hsg] at this; exact this
  rw [hsg] at hlen
  rw [hcv]
  have HD := Lib.hid h
  have HCL := Lib.hid hcl
  have HSG := Lib.hid hsg
  have HCV := Lib.hid hcv
  have HWL := Lib.hid hwl
  have q0 : ¬ (n : Int) < 2 := by omega
  have q1 : (2 : Int) ≤ (cp : Int) := by omega
  have HLE := Lib.hid hlen
  clear h hcb hcl hsg hcv hwl hlen hncp
  go_enter Try.func92, Try.ntmps92
  go_wp2_with fail
  go_loopg [12] 2 (fun m iv wr => ∃ (k : Nat) (s' : DS) (c' : Nat → Value), k + m = 2 ∧ iv = .int .i64 (k : Int) ∧ (k = 0 ∧ s' = s ∨ k = 1 ∧ s' = stepW s g a ∨ k = 2 ∧ s' = stepW (stepW s g a) g b) ∧ Dm wr Z 100 d sh G s' c' ∧ Fr (fun k => ¬ Z k) w wr)
  case atStart => exact ⟨0, s, c, rfl, rfl, .inl ⟨rfl, rfl⟩, HD.out, Fr.refl _ _⟩
  case round =>
    obtain ⟨k, s', c', hkm, rfl, hs, hD, hF⟩ := hrel
    have HS := Lib.hid hs
    have HD1 := Lib.hid hD
    have HF1 := Lib.hid hF
    clear hs hD hF
    cases gk with
    | zero =>
      obtain rfl : k = 2 := by omega
      have hs : s' = stepW (stepW s g a) g b := by
        rcases HS.out with ⟨h1, _⟩ | ⟨h1, _⟩ | ⟨_, h2⟩
        · omega
        · omega
        · exact h2
      have HE := Lib.hid hs
      clear hs
      go_wp2_with fail
      refine bodyPost_end (results_none rfl _ _ _) rfl ⟨rfl, ⟨c', ?_⟩, HF1.out⟩
      rw [← HE.out]
      exact HD1.out
    | succ m =>
      obtain ⟨y, py, hy, hpy, hpy2, hnext, hyc, hbnd⟩ : ∃ (y : Int) (py : Nat), Ltr y ∧ y + 24 = (py : Int) ∧ py < 49 ∧ (k + 1 = 0 ∧ stepW s' g y = s ∨ k + 1 = 1 ∧ stepW s' g y = stepW s g a ∨ k + 1 = 2 ∧ stepW s' g y = stepW (stepW s g a) g b) ∧ wr.cell? ⟨g, k, none⟩ = some (.int .i64 y) ∧ (s'.watched y).length ≤ 1000001 := by
        have hcb : CB wr g sh (s'.cl g) := (HD1.out.hp.cls g hg).1
        rcases HS.out with ⟨h1, h2⟩ | ⟨h1, h2⟩ | ⟨h1, _⟩
        · obtain ⟨py, hpy, hpy2⟩ := ltr_at ha
          subst h1 h2
          rw [HCL.out] at hcb
          exact ⟨a, py, ha, hpy, hpy2, .inr (.inl ⟨rfl, rfl⟩), hcb.cell 0 a rfl, by have := HWL.out a; omega⟩
        · obtain ⟨py, hpy, hpy2⟩ := ltr_at hb
          subst h1 h2
          rw [show (stepW s g a).cl g = a :: b :: t from HCL.out] at hcb
          refine ⟨b, py, hb, hpy, hpy2, .inr (.inr ⟨rfl, rfl⟩), hcb.cell 1 b rfl, ?_⟩
          show (upF s.watched a (s.watched a ++ [g]) b).length ≤ _
          by_cases e : b = a
          · rw [e, upF_same, List.length_append]; have := HWL.out a; simp; omega
          · rw [upF_other _ _ e]; have := HWL.out b; omega
        · omega
      have HNX := Lib.hid hnext
      have HPY := Lib.hid hpy
      have hpl2 := fun w => place_any y (by omega) w
      rw [hpy] at hpl2
      have q3 : (k : Int) < 2 := by omega
      have q4 : (0 : Int) ≤ (k : Int) := Int.natCast_nonneg _
      have q11 : (0 : Int) ≤ (py : Int) := by omega
      have q12 : (py : Int) < 49 := by omega
      have HLY := Lib.hid hy
      clear hnext hpy hy
      go_upto_region 4 with fail
      have D6 := HD1.out.drew
      obtain ⟨tv, htv⟩ : ∃ tv, c' (98 + py) = tv := ⟨_, rfl⟩
      have hty : TY (98 + py) = 37 := by unfold TY; rw [if_neg (by omega)]
      have hrw : rowS sh s' (98 + py) = (s'.watched y).map (clV sh) := by
        unfold rowS; rw [if_neg (by omega)]
        have h2 := HPY.out
        rw [show (((98 + py : Nat) : Int) - 122) = y by omega]
      have hrow := D6.hp.rows (98 + py) (by omega) (by omega) (by omega)
      rw [hrw, hty, htv, List.length_map] at hrow
      have c0 : wr.drew.cell? ⟨d, 98 + py, none⟩ = some tv := by rw [← htv]; exact (D6.hp.mem (98 + py) (by omega)).1
      obtain ⟨N, hN⟩ : ∃ N, (s'.watched y).length = N := ⟨_, rfl⟩
      rw [hN] at hrow hbnd
      have hc0 := Lib.hid c0
      have c1 := cell_alloc_l c0 (.cells #[.slice (some ⟨g, 0, none⟩) n cp] 37)
      have c2 : (wr.alloc (.cells #[.slice (some ⟨g, 0, none⟩) n cp] 37)).drew.cell? ⟨d, 98 + py, none⟩ = some tv := cell_alloc_l (W := wr) c0 (.cells #[.slice (some ⟨g, 0, none⟩) n cp] 37)
      have HRW := Lib.hid hrow
      have HTV := Lib.hid htv
      have HTY := Lib.hid hty
      have HRS := Lib.hid hrw
      have HN2 := Lib.hid hN
      have HNB := Lib.hid (And.intro (show N + 1 ≤ maxLen by unfold maxLen; omega) (show (N + 1) * 24 ≤ 140737488355328 by omega))
      obtain ⟨i0, hi0, hz0, hz1, hz2⟩ := info_parts info_ints
      have HD7 := Lib.hid D6
      clear D6 hrow htv hty hrw hN hbnd
      go_region_law (first
        | (go_simp; go_at_call 57; (with_reducible refine (hpl2 _).mono ?_); rintro e w' ⟨rfl, rfl⟩; simp only [])
        | (refine step_append_own2 (by rfl) _ _ _ (by rfl) 37 i0 _ 1 24 Try.underlying36 hi0 hz0 hz1 hz2 rfl (by decide) 0 tv N ((s'.watched y).map (clV sh)) (by rfl) (HRW.out.alloc _) ⟨wr.heap.size, 0, none⟩ 1 1 [.slice (some ⟨g, 0, none⟩) n cp] (by rfl) rfl (cell_one_new _ _ _) (by simp [Value.oneCell']) HNB.out.1 HNB.out.2 (Nat.zero_le _) ?_
           intro v' w5 own5 gr5 hat
           have hat2 : v'.ownBlock = tv.ownBlock ∨ v'.ownBlock = some (wr.heap.size + 1) := by
             rcases hat with h | h
             · exact .inl h
             · refine .inr (h.trans ?_)
               congr 1
               simp
           have G5 : Fr (fun k => tv.ownBlock = some k) wr.drew w5 := own_fr wr (.cells #[.slice (some ⟨g, 0, none⟩) n cp] 37) w5 tv gr5
           have hown := HD7.out.hp.own (98 + py) (by omega) (by omega) (by omega)
           rw [HTV.out] at hown
           have M5 := HD7.out.hp.mem.kept G5 (fun e => (hown d e).1 rfl)
           have c5 : w5.cell? ⟨d, 98 + py, none⟩ = some tv := by rw [← HTV.out]; exact (M5 (98 + py) (by omega)).1
           have f5 := (M5 (98 + py) (by omega)).2
           obtain ⟨g', cap', rfl⟩ : ∃ g' cap', v' = .slice (some ⟨g', 0, none⟩) (N + 1) cap' := by
             rcases own5.2 with ⟨rfl, h0⟩ | ⟨g', cap', cur, rfl, h1, h2, _⟩
             · simp at h0
             · exact ⟨g', cap', rfl⟩
           have HO5 := Lib.hid own5
           have HG5 := Lib.hid G5
           have HAT := Lib.hid hat2
           clear own5 G5 M5 gr5 hown hat hat2))
      all_goals (
        have hR := HD7.out.hp.row (i := 98 + py) (by omega) (by omega) (by omega) (w5 := w5) (v' := .slice (some ⟨g', 0, none⟩) (N + 1) cap') (new := (s'.watched y ++ [g]).map (clV sh)) (by rw [HTV.out]; exact HG5.out) (by
          rw [HTY.out, List.length_map, List.length_append, HN2.out, List.map_append]
          simp only [List.map_cons, List.map_nil, HCV.out]
          exact HO5.out) (by
          rw [HTV.out]
          rcases HAT.out with h | h
          · exact .inl h
          · refine .inr fun b hb => ?_
            rw [h] at hb
            have h1 := Option.some.inj hb
            have h2 : wr.drew.heap.size = wr.heap.size := rfl
            omega)
        have HR := Lib.hid (hand_dm (cl := s'.cl) hR HD7.out.sm hg HPY.out hpy2)
        have HF8 := Lib.hid (((HF1.out.drew).trans HG5.out (fun k _ e => (HD7.out.hp.own (98 + py) (by omega) (by omega) (by omega) k (by rw [HTV.out]; exact e)).2.1)).setCell (p := ⟨d, 98 + py, none⟩) (fun _ => HD7.out.hp.zd) (.slice (some ⟨g', 0, none⟩) (N + 1) cap'))
        clear hR c0 c1 c2 c5 f5 HD7 HG5 HO5 HF1 HD1 hyc
        generalize w5.setCell ⟨d, 98 + py, none⟩ (.slice (some ⟨g', 0, none⟩) (N + 1) cap') = w6 at *
        go_wp2_with fail
        go_roundg m
        case measure => omega
        case rel => exact ⟨k + 1, stepW s' g y, _, by omega, by go_num, HNX.out, HR.out, HF8.out⟩)
end Go.Proofs.Ytaojojjdfdlgpaa
