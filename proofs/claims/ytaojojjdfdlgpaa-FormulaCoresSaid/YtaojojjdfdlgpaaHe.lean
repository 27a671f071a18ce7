import Derived.Test.YtaojojjdfdlgpaaHc
import Derived.Test.YtaojojjdfdlgpaaGh
import Derived.Test.YtaojojjdfdlgpaaQbp
namespace Go.Proofs.Ytaojojjdfdlgpaa
open Go.RowKit Uq

/-! the law FormulaCores -/
theorem alike_eq (l : List Int) (v v' : Value) (w : World) (hl : l.length ≤ 1048576) (h : IntsO w (fun b => b < w.heap.size) l v) (h' : IntsO w (fun b => b < w.heap.size) l v') :
    Calls Try.prog 27 #[v, v'] w fun e w' => e = .returned (.bool true) ∧ Fr nob w w' := by
  obtain ⟨a, cap, rfl⟩ := h.form
  obtain ⟨a', cap', rfl⟩ := h'.form
  obtain ⟨N, hN⟩ : ∃ N, l.length = N := ⟨_, rfl⟩
  rw [hN] at hl h h' ⊢
  have HH := Lib.hid h
  have HH' := Lib.hid h'
  have HN := Lib.hid hN
  clear h h' hN
  have q0 : ((N : Int) != (N : Int)) = false := by simp
  go_enter Try.func27, Try.ntmps27
  go_wp2_with fail
  go_loopg [5] N (fun m iv wr => ∃ k : Nat, k + m = N ∧ iv = .int .i64 (k : Int) ∧ Fr nob w wr)
  case atStart => exact ⟨0, by omega, rfl, Fr.refl _ _⟩
  case round =>
    obtain ⟨k, hkm, rfl, hF⟩ := hrel
    have q4 : (0 : Int) ≤ (k : Int) := Int.natCast_nonneg _
    have HF := Lib.hid hF
    clear hF
    cases gk with
    | zero =>
      obtain rfl : k = N := by omega
      go_wp2_with fail
      go_ret
      exact ⟨rfl, HF.out⟩
    | succ m =>
      have q3 : (k : Int) < (N : Int) := by omega
      have hk : k < l.length := by rw [HN.out]; omega
      have hkt : l[k]? = some l[k] := List.getElem?_eq_getElem hk
      generalize l[k] = x at hkt
      obtain ⟨b, ob, e1, _, c0⟩ := (HH.out.kept (T := fun b => b < w.heap.size) ((HF.out).drew) (fun b hb _ => ⟨fun h => h, hb⟩)).at hkt
      obtain ⟨b', ob', e2, _, c1⟩ := (HH'.out.kept (T := fun b => b < w.heap.size) ((HF.out).drew) (fun b hb _ => ⟨fun h => h, hb⟩)).at hkt
      subst e1 e2
      have q1 : (x != x) = false := by simp
      have HF2 := Lib.hid HF.out.drew
      clear hk hkt
      go_wp2_with fail
      go_region_with fail
      all_goals
        go_wp2_with fail
        go_roundg m
        case measure => omega
        case rel => exact ⟨k + 1, by omega, by go_num, HF2.out⟩
theorem none_iff {N : Nat} {l : List (List Int)} (hl : ∀ c ∈ l, ∀ x ∈ c, Ltr x ∧ x.natAbs ≤ N) : modelsP N l = [] ↔ ∀ f, l.all (rowE f) = false := by
  constructor
  · intro h f
    cases hq : l.all (rowE f) with
    | false => rfl
    | true =>
      exfalso
      have hm : modP (fun y => f (y.natAbs - 1)) N ∈ modelsP N l := by
        refine List.mem_filter.2 ⟨List.mem_range.2 modP_lt, ?_⟩
        unfold holdsP
        rw [List.all_eq_true] at hq ⊢
        intro c hc
        have h1 := hq c hc
        unfold rowE at h1
        obtain ⟨y, hy, h2⟩ := List.any_eq_true.1 h1
        refine List.any_eq_true.2 ⟨y, hy, ?_⟩
        obtain ⟨h3, h4⟩ := hl c hc y hy
        unfold Ltr at h3
        unfold litE at h2
        unfold satB
        rw [modP_bit]
        have e1 : decide (y.natAbs - 1 < N) = true := by simp; omega
        have e2 : ((y.natAbs - 1 + 1 : Nat) : Int).natAbs - 1 = y.natAbs - 1 := by omega
        rw [e1, Bool.true_and, e2]
        exact h2
      rw [h] at hm
      simp at hm
  · intro h
    unfold modelsP
    rw [List.filter_eq_nil_iff]
    intro m _
    have : holdsP l m = l.all (rowE fun i => m.testBit i) := rfl
    rw [this, h]; simp
theorem row_base {w : World} {B B' n sz : Nat} {T : TypeId} {v : Value} {xs : List Value} (h : w.ownsRow B T sz v n xs) (hB : B' ≤ B) : w.ownsRow B' T sz v n xs :=
  ⟨h.1, h.2.imp id (fun ⟨g, cap, cur, h1, h2, r⟩ => ⟨g, cap, cur, h1, Nat.le_trans hB h2, r⟩)⟩
theorem rowsO_row2 {w : World} {B n : Nat} {C : List (List Int)} {us : List Value} {v : Value} {S : Nat → Prop} (h : w.ownsRow B 37 1 v n us) (hn : C.length = n) (hD : Done w S C n us) (hS : ∀ b, v.ownBlock = some b → S b) : RowsO w S C v := by
  rcases h.2 with ⟨h1, h2⟩ | ⟨g, cap', cur, h1, h2, h3, h4, h5, h6, h7⟩
  · exact ⟨none, 0, by rw [h1, hn, h2], fun _ => rfl, fun hne => absurd (List.eq_nil_of_length_eq_zero (by rw [hn]; exact h2)) hne⟩
  · refine ⟨_, _, by rw [h1, hn], (fun e => by cases e), fun _ => ⟨g, 0, rfl, hS g (by rw [h1]; rfl), fun j r hj => ?_⟩⟩
    have hjl : j < n := by rw [← hn]; exact (List.getElem?_eq_some_iff.1 hj).1
    obtain ⟨u, hu, hI⟩ := hD j r hjl hj
    refine ⟨u, ?_, hI⟩
    rw [Nat.zero_add, Lib.cell_of_heap h3]
    have h8 := congrArg (fun l => l[j]?) h7
    simp only [List.getElem?_take, Nat.mul_one, if_pos hjl, hu] at h8
    simpa using h8
theorem done_push {w : World} {S : Nat → Prop} {C : List (List Int)} {k : Nat} {us : List Value} {r : List Int} {u : Value} (h : Done w S C k us) (h1 : us.length = k) (h2 : C.length = k) (h3 : IntsO w S r u) : Done w S (C ++ [r]) (k + 1) (us ++ [u]) := by
  intro j r' hj hr
  by_cases hjk : j < k
  · rw [List.getElem?_append_left (by omega)] at hr
    rw [List.getElem?_append_left (by omega)]
    exact h j r' hjk hr
  · obtain rfl : j = k := by omega
    rw [List.getElem?_append_right (by omega), h2, Nat.sub_self] at hr
    rw [List.getElem?_append_right (by omega), h1, Nat.sub_self]
    simp at hr
    subst hr
    exact ⟨u, rfl, h3⟩
def fsts (k : List (Nat × List Int)) : List Int := k.map fun x => (x.1 : Int)
def snds (k : List (Nat × List Int)) : List (List Int) := k.map fun x => x.2
theorem seg_len (l : List (List Int)) (i : Nat) : (seg l i l.length).length = l.length - i := by
  unfold seg idx
  rw [List.length_take, List.length_drop, List.length_map, List.length_zipIdx, Nat.min_self]
theorem idx_mem2 {l : List (List Int)} {x : Nat × List Int} (h : x ∈ idx l) : l[x.1]? = some x.2 := by
  unfold idx at h
  obtain ⟨y, hy, e⟩ := List.mem_map.1 h
  have := List.mem_zipIdx' hy
  rw [← e]
  show l[y.2]? = some y.1
  rw [List.getElem?_eq_getElem this.1, ← this.2]
theorem idx_up2 (l : List (List Int)) : (idx l).Pairwise (fun a b => a.1 < b.1) := by
  unfold idx
  rw [List.pairwise_map]
  have h : (l.zipIdx.map (fun x => x.2)).Pairwise (· < ·) := by
    rw [List.zipIdx_map_snd]
    exact List.pairwise_lt_range' _
  rw [List.pairwise_map] at h
  exact h
theorem seg_mem {l : List (List Int)} {i b : Nat} {x : Nat × List Int} (h : x ∈ seg l i b) : x ∈ idx l := List.mem_of_mem_drop (List.mem_of_mem_take h)
theorem seg_next {l : List (List Int)} {i : Nat} {r : List Int} (h : l[i]? = some r) : seg l i l.length = (i, r) :: seg l (i + 1) l.length := by
  have hi := (List.getElem?_eq_some_iff.1 h).1
  rw [seg_split l (h := i + 1) (Nat.le_succ i) hi, seg_one l h]
  rfl
theorem seg_above {l : List (List Int)} {i : Nat} {r : List Int} (h : l[i]? = some r) : ∀ x ∈ seg l (i + 1) l.length, x.1 ≠ i := by
  have hp := idx_up2 l
  have hi := (List.getElem?_eq_some_iff.1 h).1
  intro x hx e
  have h1 : (seg l i l.length).Pairwise (fun a b => a.1 < b.1) := hp.sublist ((List.take_sublist _ _).trans (List.drop_sublist _ _))
  rw [seg_next h] at h1
  have := (List.pairwise_cons.1 h1).1 x hx
  simp only at this
  omega
theorem allS_snds (l : List (Nat × List Int)) (f : Nat → Bool) : (snds l).all (rowE f) = allS rowL l f := by
  unfold allS snds
  rw [List.all_map]
  rfl
set_option maxRecDepth 100000 in
set_option maxHeartbeats 4000000 in
theorem refCore_any (l : List (List Int)) (N : Nat) (hN : N ≤ 12) (v : Value) (w : World) (hl : l.length ≤ 40) (hL : ∀ c ∈ l, c.length ≤ 1000 ∧ ∀ x ∈ c, Ltr x ∧ x.natAbs ≤ N) (hv : RowsO w (fun b => b < w.heap.size) l v) :
    Calls Try.prog 38 #[.int .i64 (N : Int), v] w fun e w' => Fr nob w w' ∧ (((∃ f, l.all (rowE f) = true) ∧ e = .returned (.tuple #[.slice none 0 0, .int .i64 8])) ∨
      ((∀ f, l.all (rowE f) = false) ∧ ∃ (k : List (Nat × List Int)) (a : Option Addr) (c : Nat), Gr rowL (fun _ => true) (idx l) k ∧ e = .returned (.tuple #[.slice a k.length c, .int .i64 0]) ∧ IntsO w' (fun b => b < w'.heap.size) (fsts k) (.slice a k.length c))) := by
  have hMo := models_any l N hN v w (by omega) (fun r hr => ⟨by have := (hL r hr).1; omega, fun x hx => ((hL r hr).2 x hx).1⟩) hv
  obtain ⟨a, cap, rfl⟩ := hv.form
  obtain ⟨LN, hLN⟩ : ∃ LN, l.length = LN := ⟨_, rfl⟩
  rw [hLN] at hl hv hMo ⊢
  have HV := Lib.hid hv
  have HL := Lib.hid hL
  have HLN := Lib.hid hLN
  obtain ⟨ML, hML⟩ : ∃ ML, (modelsP N l).length = ML := ⟨_, rfl⟩
  rw [hML] at hMo
  have HML := Lib.hid hML
  have HMW := Lib.hid (fun (l2 : List (List Int)) (hs : ∀ c ∈ l2, c ∈ l) (hl2 : l2.length ≤ 1048576) v2 w2 (h : RowsO w2 (fun b => b < w2.heap.size) l2 v2) => models_any l2 N hN v2 w2 hl2 (fun r hr => ⟨by have := (hL r (hs r hr)).1; omega, fun x hx => ((hL r (hs r hr)).2 x hx).1⟩) h)
  clear hv hL hLN hML
  go_enter Try.func38, Try.ntmps38
  go_wp2_with fail
  refine hMo.mono ?_
  rintro e w2 ⟨ma, mcp, rfl, _, F2⟩
  have HF2 := Lib.hid F2
  clear hMo F2
  by_cases hm : ML = 0
  · subst hm
    have hun : ∀ f, l.all (rowE f) = false := (none_iff (fun c hc => (HL.out c hc).2)).1 (List.eq_nil_of_length_eq_zero HML.out)
    have HUN := Lib.hid hun
    clear hun
    go_wp2_with fail
    go_loopg [6, 7] LN (fun m lv iv wr => ∃ i : Nat, i + m = LN ∧ iv = .int .i64 (i : Int) ∧ (∃ la lc, lv = .slice la i lc) ∧ Outs w.heap.size i ((List.range i).map fun (j : Nat) => (j : Int)) lv wr ∧ Fr nob w wr)
    case atStart => exact ⟨0, by omega, rfl, ⟨none, 0, rfl⟩, ⟨rfl, World.ownsRow_nil _ _ _ _⟩, HF2.out⟩
    case round =>
      clear HF2
      obtain ⟨i, him, rfl, ⟨la, lc, rfl⟩, hO, hF⟩ := hrel
      have HO := Lib.hid hO
      have HF := Lib.hid hF
      have q4 : (0 : Int) ≤ (i : Int) := Int.natCast_nonneg _
      clear hO hF
      cases gk with
      | zero =>
        obtain rfl : i = LN := by omega
        have hseg0 : fsts ([] ++ seg l 0 i) = (List.range i).map fun (j : Nat) => (j : Int) := by
          rw [List.nil_append, ← HLN.out, seg_whole]
          unfold fsts idx
          rw [List.map_map]
          have h1 : (l.zipIdx.map fun x => x.2) = List.range l.length := by rw [List.zipIdx_map_snd, List.range_eq_range']
          rw [← h1, List.map_map]
          rfl
        have hO0 := HO.out
        rw [← hseg0] at hO0
        have hlen0 : ([] ++ seg l 0 i).length = i := by rw [List.nil_append, ← HLN.out, seg_len]; omega
        have HO0 : Hid (Outs w.heap.size i (fsts ([] ++ seg l 0 i)) (.slice la i lc) wr) := Lib.hid hO0
        clear hO0 hseg0 HO
        go_wp2_with fail
        go_loopg [6, 8] i (fun m lv iv wv => ∃ (j ln : Nat) (kI : List (Nat × List Int)), j + m = i ∧ iv = .int .i64 (j : Int) ∧ (∃ la lc, lv = .slice la ln lc) ∧ (kI ++ seg l j i).length = ln ∧ ln ≤ i ∧ Outs w.heap.size ln (fsts (kI ++ seg l j i)) lv wv ∧ (∀ x ∈ kI, x ∈ idx l ∧ x.1 < j) ∧ (∀ k2, Gr rowL (fun f => allS rowL kI f) (seg l j i) k2 → Gr rowL (fun _ => true) (idx l) (kI ++ k2)) ∧ Fr nob w wv)
        case atStart => exact ⟨0, i, [], by omega, rfl, ⟨_, _, rfl⟩, hlen0, Nat.le_refl _, HO0.out, by simp, fun k2 h => by rw [List.nil_append, ← seg_whole l, HLN.out]; exact h.congr fun _ => rfl, HF.out⟩
        case round =>
          clear HO0 HF hlen0
          obtain ⟨j, ln, kI, hjm, rfl, ⟨la, lc, rfl⟩, hln, hlni, hO, hkI, hgr, hF⟩ := hrel
          have HO := Lib.hid hO
          have HF := Lib.hid hF
          have HLN2 := Lib.hid hln
          have HKI := Lib.hid hkI
          have HGR := Lib.hid hgr
          have q5 : (0 : Int) ≤ (j : Int) := Int.natCast_nonneg _
          clear hO hF hln hkI hgr
          cases gk with
          | zero =>
            obtain rfl : j = i := by omega
            have hs0 : seg l j j = [] := by unfold seg; rw [Nat.sub_self, List.take_zero]
            have hg := HGR.out [] (by rw [hs0]; exact Gr.nil _)
            have hI := HO.out.ints
            have hl2 := HLN2.out
            rw [hs0, List.append_nil] at hI hl2
            rw [List.append_nil] at hg
            rw [← hl2] at hI ⊢
            have HI := Lib.hid hI
            have HG := Lib.hid hg
            clear hs0 hg hI hl2 HO
            go_wp2_with fail
            go_ret2
            exact ⟨HF.out, .inr ⟨HUN.out, kI, la, lc, HG.out, rfl, HI.out⟩⟩
          | succ m2 =>
            have q6 : (j : Int) < (i : Int) := by omega
            have hjl : j < l.length := by rw [HLN.out]; omega
            have hjt : l[j]? = some l[j] := List.getElem?_eq_getElem hjl
            generalize l[j] = r at hjt
            have hsn := seg_next hjt
            rw [HLN.out] at hsn
            have hab := seg_above hjt
            rw [HLN.out] at hab
            obtain ⟨cur, hcur⟩ : ∃ cur, kI ++ seg l j i = cur := ⟨_, rfl⟩
            have hO := HO.out
            have hl2 := HLN2.out
            rw [hcur] at hO hl2
            have hfil : cur.filter (fun y => decide (y.1 ≠ j)) = kI ++ seg l (j + 1) i := by
              rw [← hcur, hsn, List.filter_append, List.filter_cons]
              rw [if_neg (by simp), List.filter_eq_self.2 (fun x hx => by have := (HKI.out x hx).2; simp; omega), List.filter_eq_self.2 (fun x hx => by have := hab x hx; simpa using this)]
            have hcm : ∀ x ∈ cur, x ∈ idx l := fun x hx => by
              rw [← hcur] at hx
              rcases List.mem_append.1 hx with h | h
              · exact (HKI.out x h).1
              · exact seg_mem h
            have HSN := Lib.hid hsn
            have HCUR := Lib.hid hcur
            have HFIL := Lib.hid hfil
            have HCM := Lib.hid hcm
            have HO2 := Lib.hid hO
            have HL2 := Lib.hid hl2
            have HJT := Lib.hid hjt
            obtain ⟨w0, hw0⟩ : ∃ w0, w0 = wr := ⟨_, rfl⟩
            rw [← hw0] at HO2 HF HO
            have HI0 := Lib.hid HO2.out.ints
            have HV0 := Lib.hid (HV.out.kept (T := fun b => b < w0.heap.size) HF.out (fun b hb h => ⟨fun h => h, by have := HF.out.size; omega⟩))
            clear hjl hjt hsn hab hcur hO hl2 hfil hcm HO
            go_wp2_with fail
            subst hw0
            go_loopg [9, 10, 11] ln (fun m ov cv iv wv => ∃ (kk sn : Nat) (sel : List (Nat × List Int)) (us : List Value), kk + m = ln ∧ sn ≤ kk ∧ iv = .int .i64 (kk : Int) ∧ sel = (cur.take kk).filter (fun y => decide (y.1 ≠ j)) ∧ sel.length = sn ∧ (∃ oa oc, ov = .slice oa sn oc) ∧ (∃ ca cc, cv = .slice ca sn cc) ∧ Outs w0.heap.size sn (fsts sel) ov wv ∧ wv.ownsRow w0.heap.size 37 1 cv sn us ∧ us.length = sn ∧ Done wv (fun b => b < w0.heap.size) (snds sel) sn us ∧ (∀ b, ov.ownBlock = some b → cv.ownBlock ≠ some b) ∧ Fr nob w0 wv)
            case atStart => exact ⟨0, 0, [], [], by omega, Nat.le_refl _, rfl, rfl, rfl, ⟨none, 0, rfl⟩, ⟨none, 0, rfl⟩, ⟨rfl, World.ownsRow_nil _ _ _ _⟩, World.ownsRow_nil _ _ _ _, rfl, fun j r hj => absurd hj (Nat.not_lt_zero _), (fun b hb => by cases hb), Fr.refl _ _⟩
            case round =>
              obtain ⟨kk, sn, sel, us, hkm, hsk, rfl, hsel, hsl, ⟨oa, oc, rfl⟩, ⟨ca, cc, rfl⟩, hOo, hOc, hul, hD, hdis, hF1⟩ := hrel
              have HOO := Lib.hid hOo
              have HOC := Lib.hid hOc
              have HUL := Lib.hid hul
              have HD := Lib.hid hD
              have HDIS := Lib.hid hdis
              have HF1 := Lib.hid hF1
              have HSEL := Lib.hid hsel
              have HSL := Lib.hid hsl
              have q7 : (0 : Int) ≤ (kk : Int) := Int.natCast_nonneg _
              clear hOo hOc hul hD hdis hF1 hsel hsl
              cases gk with
              | zero =>
                obtain rfl : kk = ln := by omega
                have hse : sel = kI ++ seg l (j + 1) i := by
                  rw [HSEL.out, List.take_of_length_le (by rw [HL2.out]; exact Nat.le_refl _)]
                  exact HFIL.out
                have hsub : ∀ c ∈ snds sel, c ∈ l := fun c hc => by
                  obtain ⟨x, hx, rfl⟩ := List.mem_map.1 hc
                  rw [HSEL.out] at hx
                  exact List.mem_of_getElem? (idx_mem2 (HCM.out x (List.mem_of_mem_take (List.mem_filter.1 hx).1)))
                have hsnl : (snds sel).length = sn := by unfold snds; rw [List.length_map]; exact HSL.out
                have hrw := rowsO_row2 HOC.out hsnl (HD.out.kept (T := fun b => b < wr.heap.size) (Fr.refl nob wr) (fun b hb h => ⟨fun h => h, by have := HF1.out.size; omega⟩)) (fun b hb => (HOC.out.lt b hb).2)
                have hMo2 := HMW.out (snds sel) hsub (by rw [hsnl]; omega) _ _ hrw
                obtain ⟨MZ, hMZ⟩ : ∃ MZ, (modelsP N (snds sel)).length = MZ := ⟨_, rfl⟩
                rw [hMZ] at hMo2
                have hlen2 : (kI ++ seg l (j + 1) i).length = sn := by rw [← hse]; exact HSL.out
                have hsz0 := HF.out.size
                have HLEN2 := Lib.hid hlen2
                have hnn := none_iff (N := N) (l := snds sel) (fun c hc => (HL.out c (hsub c hc)).2)
                have hal : ∀ f, (snds sel).all (rowE f) = (allS rowL kI f && allS rowL (seg l (j + 1) i) f) := fun f => by
                  rw [allS_snds, hse, allS_app]
                have HAL := Lib.hid hal
                have HNN := Lib.hid hnn
                have HMZ := Lib.hid hMZ
                have HSE := Lib.hid hse
                clear hsub hsnl hrw hMZ hlen2 hnn hal hse HOC HUL HD HDIS HSEL HV0 HI0
                by_cases hz : MZ = 0
                · subst hz
                  have hdr : ∀ f, (allS rowL kI f && allS rowL (seg l (j + 1) i) f) = false := fun f => by
                    rw [← HAL.out f]
                    exact HNN.out.1 (List.eq_nil_of_length_eq_zero HMZ.out) f
                  have HDR := Lib.hid hdr
                  have hoo : Outs w.heap.size sn (fsts (kI ++ seg l (j + 1) i)) (.slice oa sn oc) wr := by
                    rw [← HSE.out]
                    exact ⟨HOO.out.1, row_base HOO.out.2 hsz0⟩
                  have HOO2 := Lib.hid hoo
                  clear hdr hoo hsz0 HOO HMZ HAL HNN
                  go_wp2_with fail
                  refine hMo2.mono ?_
                  rintro e w3 ⟨ma2, mcp2, rfl, _, F3⟩
                  have HF3 := Lib.hid F3
                  clear hMo2 F3
                  go_wp2_with fail
                  go_roundg m2
                  case measure => omega
                  case rel =>
                    exact ⟨j + 1, sn, kI, by omega, by go_num, ⟨_, _, rfl⟩, HLEN2.out, by omega, ⟨HOO2.out.1, HF3.out.row HOO2.out.2 (fun _ _ h => h)⟩, fun x hx => ⟨(HKI.out x hx).1, by have := (HKI.out x hx).2; omega⟩,
                      fun k2 h => HGR.out k2 (by rw [HSN.out]; exact .drop HDR.out h), (HF.out.trans HF1.out (fun _ _ h => h)).trans HF3.out (fun _ _ h => h)⟩
                · have q12 : (0 : Int) < (MZ : Int) := by omega
                  have hkp : ¬ ∀ f, (allS rowL kI f && allS rowL (seg l (j + 1) i) f) = false := fun h => hz (by
                    rw [← HMZ.out, HNN.out.2 (fun f => by rw [HAL.out f]; exact h f)]
                    rfl)
                  have HKP := Lib.hid hkp
                  have hap : (kI ++ [(j, r)]) ++ seg l (j + 1) i = cur := by rw [List.append_assoc, List.singleton_append, ← HSN.out, HCUR.out]
                  have HAP := Lib.hid hap
                  clear hkp hap hsz0 HOO HMZ HAL HNN hz
                  go_wp2_with fail
                  refine hMo2.mono ?_
                  rintro e w3 ⟨ma2, mcp2, rfl, _, F3⟩
                  have HF3 := Lib.hid F3
                  clear hMo2 F3
                  go_wp2_with fail
                  go_roundg m2
                  case measure => omega
                  case rel =>
                    exact ⟨j + 1, kk, kI ++ [(j, r)], by omega, by go_num, ⟨_, _, rfl⟩, by rw [HAP.out]; exact HL2.out, by omega, by rw [HAP.out]; exact ⟨HO2.out.1, (HF1.out.trans HF3.out (fun _ _ h => h)).row HO2.out.2 (fun _ _ h => h)⟩,
                      fun x hx => by
                        rcases List.mem_append.1 hx with h | h
                        · exact ⟨(HKI.out x h).1, by have := (HKI.out x h).2; omega⟩
                        · rw [List.mem_singleton] at h
                          subst h
                          exact ⟨HCM.out _ (by rw [← HAP.out]; simp), Nat.lt_succ_self j⟩,
                      fun k2 h => by
                        rw [List.append_assoc, List.singleton_append]
                        refine HGR.out _ ?_
                        rw [HSN.out]
                        refine .keep HKP.out (h.congr fun f => ?_)
                        rw [allS_app, allS_cons]
                        simp [allS], (HF.out.trans HF1.out (fun _ _ h => h)).trans HF3.out (fun _ _ h => h)⟩
              | succ m3 =>
                have q8 : (kk : Int) < (ln : Int) := by omega
                have hkl : kk < cur.length := by rw [HL2.out]; omega
                have hkt : cur[kk]? = some cur[kk] := List.getElem?_eq_getElem hkl
                have hmem : cur[kk] ∈ cur := List.getElem_mem hkl
                have htk : cur.take (kk + 1) = cur.take kk ++ [cur[kk]] := List.take_succ_eq_append_getElem hkl
                generalize cur[kk] = x at hkt hmem htk
                have hxl := idx_mem2 (HCM.out x hmem)
                have hxlt : x.1 < i := by rw [← HLN.out]; exact (List.getElem?_eq_some_iff.1 hxl).1
                have hIr := HI0.out.kept (T := fun b => b < w0.heap.size) HF1.out (fun b hb _ => ⟨fun h => h, hb⟩)
                have hVr := HV0.out.kept (T := fun b => b < w0.heap.size) HF1.out (fun b hb _ => ⟨fun h => h, hb⟩)
                obtain ⟨kb, kob, rfl, hkb, ck⟩ := hIr.at (j := kk) (x := (x.1 : Int)) (by unfold fsts; rw [List.getElem?_map, hkt]; rfl)
                obtain ⟨lb, lob, rfl, hlb, ra, rc, cl, hIx⟩ := hVr.at hxl
                obtain ⟨XI, hXI⟩ : ∃ XI, x.1 = XI := ⟨_, rfl⟩
                obtain ⟨RN, hRN⟩ : ∃ RN, x.2.length = RN := ⟨_, rfl⟩
                rw [hXI] at ck cl hxlt
                rw [hRN] at cl
                have q9 : (0 : Int) ≤ (XI : Int) := Int.natCast_nonneg _
                have q10 : (XI : Int) < (i : Int) := by omega
                have HIX := Lib.hid hIx
                have HRN := Lib.hid hRN
                have HXI := Lib.hid hXI
                have HTK := Lib.hid htk
                have HKB := Lib.hid (And.intro hkb hlb)
                clear hkl hkt hmem htk hxl hIr hVr hIx hRN hXI hkb hlb hxlt
                by_cases hne : XI = j
                · have q11 : ((XI : Int) != (j : Int)) = false := by simp [hne]
                  have hs2 : (cur.take (kk + 1)).filter (fun y => decide (y.1 ≠ j)) = sel := by
                    rw [HTK.out, List.filter_append, ← HSEL.out, List.filter_cons, if_neg (by rw [HXI.out, hne]; simp)]
                    simp
                  have HS2 := Lib.hid hs2
                  clear hs2 hne
                  go_wp2_with fail
                  go_roundg m3
                  case measure => omega
                  case rel => exact ⟨kk + 1, sn, sel, us, by omega, by omega, by go_num, HS2.out.symm, HSL.out, ⟨_, _, rfl⟩, ⟨_, _, rfl⟩, HOO.out, HOC.out, HUL.out, HD.out, HDIS.out, HF1.out⟩
                · have q11 : ((XI : Int) != (j : Int)) = true := by simp; omega
                  have hs2 : (cur.take (kk + 1)).filter (fun y => decide (y.1 ≠ j)) = sel ++ [x] := by
                    rw [HTK.out, List.filter_append, ← HSEL.out, List.filter_cons, if_pos (by rw [HXI.out]; simpa using hne)]
                    rfl
                  have HS2 := Lib.hid hs2
                  obtain ⟨i0, hi0, hz0, hz1, hz2⟩ := info_parts info_int
                  have hsz := HF1.out.size
                  clear hs2 hne
                  go_wp2_with (at_builtin; refine wpList_append_own_at _ rfl _ _ 37 rfl w0.heap.size 3 i0 (.int .i64 0) 1 8 Try.underlying37 hi0 hz0 hz1 hz2 rfl (by decide) (.slice oa sn oc) sn ((fsts sel).map (Value.int .i64)) rfl (HOO.out.2.alloc _) ⟨wr.heap.size, 0, none⟩ 1 1 [.int .i64 (XI : Int)] rfl ?c1 ?c2 ?c3 ?c4 ?c5 ?c6 ?_)
                  case c1 => rfl
                  case c2 => exact cell_one_new _ _ _
                  case c3 => intro u hu; simp at hu; subst hu; rfl
                  case c4 => unfold maxLen; omega
                  case c5 => omega
                  case c6 => first | omega | (simp; omega)
                  intro v6 w6 own6 gr6 _ hat6
                  have hF6 : Fr (fun b => (Value.slice oa sn oc).ownBlock = some b) wr w6 := ((Fr.refl _ wr).alloc (.cells #[.int .i64 (XI : Int)] 3)).grown gr6 (fun b hb _ => hb)
                  have hO6 : Outs w0.heap.size (sn + 1) (fsts (sel ++ [x])) v6 w6 := by
                    unfold fsts at own6 ⊢
                    rw [List.map_append]
                    exact ⟨by rw [List.length_append, List.length_map, HSL.out]; rfl, by rw [List.map_append, List.map_cons, HXI.out]; exact own6⟩
                  have HO6 := Lib.hid hO6
                  have hlo := HOO.out.2.lt
                  have hlc := HOC.out.lt
                  have HDL : Hid (∀ b, (Value.slice ca sn cc).ownBlock = some b → b < wr.heap.size) := Lib.hid (fun b hb => (hlc b hb).2)
                  have HAT6 := Lib.hid hat6
                  have HF6 := Lib.hid hF6
                  have ck6 := hF6.cell ck (fun e => by have := (hlo kb e).1; have := HKB.out.1; omega)
                  have cl6 := hF6.cell cl (fun e => by have := (hlo lb e).1; have := HKB.out.2; omega)
                  have HOC6 := Lib.hid (hF6.row HOC.out (fun b hb e => HDIS.out b e hb))
                  have HD6 := Lib.hid (HD.out.kept (T := fun b => b < w0.heap.size) hF6 (fun b hb _ => ⟨fun e => by have := (hlo b e).1; omega, hb⟩))
                  have HIX6 := Lib.hid (HIX.out.kept (T := fun b => b < w0.heap.size) hF6 (fun b hb _ => ⟨fun e => by have := (hlo b e).1; omega, hb⟩))
                  have HF16 : Hid (Fr nob w0 w6) := Lib.hid (HF1.out.trans' hF6 (T := nob) (fun _ _ h => h) (fun b hb h => by have := (hlo b h).1; omega))
                  obtain ⟨oa6, oc6, rfl⟩ := hO6.form
                  clear hO6 own6 gr6 hat6 hF6 hlo hlc hsz ck cl HOO HOC HD HIX HF1
                  obtain ⟨i1, hi1, hy0, hy1, hy2⟩ := info_parts info_intsR
                  have hsz6 := HF16.out.size
                  go_wp2_with (at_builtin; refine wpList_append_own_at _ rfl _ _ 36 rfl w0.heap.size 37 i1 (.slice none 0 0) 1 24 Try.underlying36 hi1 hy0 hy1 hy2 rfl (by decide) (.slice ca sn cc) sn us rfl (HOC6.out.alloc _) ⟨w6.heap.size, 0, none⟩ 1 1 [.slice ra RN rc] rfl ?d1 ?d2 ?d3 ?d4 ?d5 ?d6 ?_)
                  case d1 => rfl
                  case d2 => exact cell_one_new _ _ _
                  case d3 => intro u hu; simp at hu; subst hu; rfl
                  case d4 => unfold maxLen; omega
                  case d5 => omega
                  case d6 => first | omega | (simp; omega)
                  intro v7 w7 own7 gr7 _ hat7
                  have hF7 : Fr (fun b => (Value.slice ca sn cc).ownBlock = some b) w6 w7 := ((Fr.refl _ w6).alloc (.cells #[.slice ra RN rc] 37)).grown gr7 (fun b hb _ => hb)
                  obtain ⟨g7, cap7, rfl⟩ : ∃ g7 cap7, v7 = .slice (some ⟨g7, 0, none⟩) (sn + 1) cap7 := by
                    rcases own7.2 with ⟨rfl, h0⟩ | ⟨g', cap', cur', rfl, h1, h2, _⟩
                    · simp at h0
                    · exact ⟨g', cap', rfl⟩
                  have hlc6 := HOC6.out.lt
                  have hlo6 := HO6.out.2.lt
                  have hdis7 : ∀ b, (Value.slice oa6 (sn + 1) oc6).ownBlock = some b → (Value.slice ca sn cc).ownBlock ≠ some b := fun b hb e => by
                    rcases HAT6.out with h | h
                    · exact HDIS.out b (h ▸ hb) e
                    · rw [h] at hb
                      have h1 := (hlc6 b e).2
                      have h2 := HDL.out b e
                      simp only [Option.some.injEq] at hb
                      omega
                  have hO7 : Outs w0.heap.size (sn + 1) (fsts (sel ++ [x])) (.slice oa6 (sn + 1) oc6) w7 := ⟨HO6.out.1, hF7.row HO6.out.2 (fun b hb => hdis7 b hb)⟩
                  have hdis8 : ∀ b, (Value.slice oa6 (sn + 1) oc6).ownBlock = some b → (Value.slice (some ⟨g7, 0, none⟩) (sn + 1) cap7).ownBlock ≠ some b := fun b hb e => by
                    rcases hat7 with h | h
                    · exact hdis7 b hb (h ▸ e)
                    · rw [h] at e
                      have h1 := (hlo6 b hb).2
                      simp only [Option.some.injEq] at e
                      have h2 := own7.lt g7 rfl
                      omega
                  have hD7 : Done w7 (fun b => b < w0.heap.size) (snds (sel ++ [x])) (sn + 1) (us ++ [.slice ra RN rc]) := by
                    have h1 : ∀ b, b < w0.heap.size → b < w6.heap.size → ¬ (Value.slice ca sn cc).ownBlock = some b ∧ b < w0.heap.size := fun b hb _ => ⟨fun e => by have := (hlc6 b e).1; omega, hb⟩
                    have h2 := HD6.out.kept (T := fun b => b < w0.heap.size) hF7 h1
                    have h3 := HIX6.out.kept (T := fun b => b < w0.heap.size) hF7 h1
                    rw [HRN.out] at h3
                    have h4 : snds (sel ++ [x]) = snds sel ++ [x.2] := by unfold snds; rw [List.map_append]; rfl
                    rw [h4]
                    exact done_push h2 HUL.out (by unfold snds; rw [List.length_map]; exact HSL.out) h3
                  have HO7 := Lib.hid hO7
                  have HDIS8 := Lib.hid hdis8
                  have HD7 := Lib.hid hD7
                  have HOWN7 := Lib.hid own7
                  have HF17 : Hid (Fr nob w0 w7) := Lib.hid (HF16.out.trans' hF7 (T := nob) (fun _ _ h => h) (fun b hb h => by have := (hlc6 b h).1; omega))
                  clear hO7 hdis8 hD7 own7 hF7 gr7 hat7 hdis7 hlc6 hlo6 HO6 HOC6 HD6 HIX6 HF16 HAT6 HDL HDIS ck6 cl6 hsz6
                  go_wp2_with fail
                  go_roundg m3
                  case measure => omega
                  case rel =>
                    exact ⟨kk + 1, sn + 1, sel ++ [x], us ++ [.slice ra RN rc], by omega, by omega, by go_num, HS2.out.symm, by rw [List.length_append, HSL.out]; rfl, ⟨_, _, rfl⟩, ⟨_, _, rfl⟩, HO7.out, HOWN7.out, by rw [List.length_append, HUL.out]; rfl, HD7.out, HDIS8.out, HF17.out⟩
      | succ m =>
        have q3 : (i : Int) < (LN : Int) := by omega
        obtain ⟨i0, hi0, hz0, hz1, hz2⟩ := info_parts info_int
        have hs2 := HF.out.size
        go_wp2_with (at_builtin; refine wpList_append_own_at _ rfl _ _ 37 rfl w.heap.size 3 i0 (.int .i64 0) 1 8 Try.underlying37 hi0 hz0 hz1 hz2 rfl (by decide) (.slice la i lc) i (((List.range i).map fun (j : Nat) => (j : Int)).map (Value.int .i64)) rfl (HO.out.2.alloc _) ⟨wr.heap.size, 0, none⟩ 1 1 [.int .i64 (i : Int)] rfl ?c1 ?c2 ?c3 ?c4 ?c5 ?c6 ?_)
        case c1 => rfl
        case c2 => exact cell_one_new _ _ _
        case c3 => intro u hu; simp at hu; subst hu; rfl
        case c4 => unfold maxLen; omega
        case c5 => omega
        case c6 => first | omega | (simp; omega)
        intro v6 w6 own6 gr6 _ _
        have hO6 : Outs w.heap.size (i + 1) ((List.range (i + 1)).map fun (j : Nat) => (j : Int)) v6 w6 := by
          rw [List.range_succ, List.map_append]
          exact ⟨by rw [List.length_append, HO.out.1]; rfl, by rw [List.map_append, List.map_map]; exact own6⟩
        have HF6 := Lib.hid ((HF.out.alloc (.cells #[.int .i64 (i : Int)] 3)).grown gr6 (fun j hj hlt => absurd (HO.out.2.lt j hj).1 (by omega)))
        have HO6 := Lib.hid hO6
        obtain ⟨oa6, ocp6, rfl⟩ := hO6.form
        clear hO6 own6 gr6 hs2
        go_wp2_with fail
        go_roundg m
        case measure => omega
        case rel => exact ⟨i + 1, by omega, by go_num, ⟨_, _, rfl⟩, HO6.out, HF6.out⟩
  · have q0 : (0 : Int) < (ML : Int) := by omega
    have hex : ∃ f, l.all (rowE f) = true := by
      refine Classical.byContradiction fun h => hm ?_
      rw [← HML.out, (none_iff (N := N) (fun c hc => (HL.out c hc).2)).2 fun f => by
        cases hq : l.all (rowE f) with
        | false => rfl
        | true => exact absurd ⟨f, hq⟩ h]
      rfl
    have HEX := Lib.hid hex
    clear hex hm
    go_wp2_with fail
    go_ret2
    exact ⟨HF2.out, .inl ⟨HEX.out, rfl⟩⟩
set_option maxRecDepth 100000 in
set_option maxHeartbeats 1000000 in
theorem rowsC_any (l : List (List Int)) (v : Value) (S : Nat → Prop) (w : World) (hw1 : l.length ≤ 1048576) (hw2 : ∀ r ∈ l, r.length ≤ 1048576) (h : RowsO w S l v) :
    Calls Try.prog 24 #[v] w fun e w' => ∃ ra rc, e = .returned (.slice ra l.length rc) ∧ l.length ≤ rc ∧ RowsO w' (fun b => w.heap.size ≤ b) l (.slice ra l.length rc) ∧ Fr nob w w' := by
  obtain ⟨a, cap, rfl⟩ := h.form
  obtain ⟨c, hc⟩ : ∃ c, l.length = c := ⟨_, rfl⟩
  rw [hc] at hw1 h ⊢
  have HH := Lib.hid h
  have HN := Lib.hid hc
  have HW := Lib.hid hw2
  obtain ⟨i0, hi0, hz0, hz1, hz2⟩ := info_parts info_intsR
  clear h hc hw2
  go_enter Try.func24, Try.ntmps24
  go_wp2_with fail
  go_loopg [3, 4] c (fun m kv iv wr => ∃ (k : Nat) (cells : List Value), k + m = c ∧ iv = .int .i64 (k : Int) ∧ (∃ la lc, kv = .slice la k lc) ∧ wr.ownsRow w.heap.size 37 1 kv k cells ∧ Done wr (RS1 w.heap.size kv) l k cells ∧ Fr nob w wr)
  case atStart => exact ⟨0, [], by omega, rfl, ⟨none, 0, rfl⟩, World.ownsRow_nil _ _ _ _, fun j r hj => absurd hj (Nat.not_lt_zero _), Fr.refl _ _⟩
  case round =>
    obtain ⟨k, cells, hkm, rfl, ⟨la, lc, rfl⟩, hown, hD, hF⟩ := hrel
    have q4 : (0 : Int) ≤ (k : Int) := Int.natCast_nonneg _
    have HO := Lib.hid hown
    have HD := Lib.hid hD
    have HF := Lib.hid hF
    clear hown hD hF
    cases gk with
    | zero =>
      obtain rfl : k = c := by omega
      go_wp2_with fail
      go_ret
      refine ⟨la, lc, rfl, ?_, ?_, HF.out⟩
      · rcases HO.out.2 with ⟨h1, h2⟩ | ⟨g, cap', cur, h1, h2, h3, h4, h5, h6, h7⟩
        · omega
        · cases h1
          omega
      rcases HO.out.2 with ⟨h1, h2⟩ | ⟨g, cap', cur, h1, h2, h3, h4, h5, h6, h7⟩
      · refine ⟨none, 0, by rw [h1, HN.out, h2], fun _ => rfl, fun hne => absurd (List.eq_nil_of_length_eq_zero (by rw [HN.out]; exact h2)) hne⟩
      · cases h1
        refine ⟨_, _, by rw [HN.out], (fun e => by cases e), fun _ => ⟨g, 0, rfl, h2, fun j r hj => ?_⟩⟩
        obtain ⟨u, hu, hI⟩ := HD.out j r (by rw [← HN.out]; exact (List.getElem?_eq_some_iff.1 hj).1) hj
        refine ⟨u, ?_, hI.kept (Fr.refl nob _) (fun b hb _ => ⟨fun h => h, hb.1⟩)⟩
        rw [Nat.zero_add, Lib.cell_of_heap h3]
        have hjl : j < k := by rw [← HN.out]; exact (List.getElem?_eq_some_iff.1 hj).1
        have h8 := congrArg (fun l => l[j]?) h7
        simp only [List.getElem?_take, Nat.mul_one, if_pos hjl, hu] at h8
        simpa using h8
    | succ m =>
      have q3 : (k : Int) < (c : Int) := by omega
      have hk : k < l.length := by rw [HN.out]; omega
      have hkt : l[k]? = some l[k] := List.getElem?_eq_getElem hk
      have hmem : l[k] ∈ l := List.getElem_mem hk
      generalize l[k] = r at hkt hmem
      have hHr := HH.out.kept (T := S) HF.out (fun b h _ => ⟨fun h => h, h⟩)
      obtain ⟨b, ob, rfl, hSb, a', cap', hcl, hI⟩ := hHr.at hkt
      obtain ⟨ra, rc, w1, hrun, hown1, F1⟩ := copyInts (HW.out r hmem) hI
      have hclen : cells.length = k := by have := HO.out.1; omega
      have HR := Lib.hid hkt
      have HO1 := Lib.hid hown1
      have HF1 := Lib.hid F1
      have HCL := Lib.hid hclen
      have hO1 := (F1.row HO.out (fun _ _ h => h))
      have HOx := Lib.hid hO1
      clear hk hkt hmem hHr hI hown1 hO1 hclen
      go_wp2_with (first
        | (at_builtin; refine wpList_append_run2 _ rfl _ _ 37 rfl _ _ rfl rfl hrun ?_)
        | (at_builtin; refine wpList_append_own_at _ rfl _ _ 36 rfl w.heap.size 37 i0 (.slice none 0 0) 1 24 Try.underlying36 hi0 hz0 hz1 hz2 rfl (by decide) (.slice la k lc) k cells rfl (HOx.out.alloc _) ⟨w1.heap.size, 0, none⟩ 1 1 [.slice ra r.length rc] rfl ?c1 ?c2 ?c3 ?c4 ?c5 ?c6 ?_))
      case c1 => rfl
      case c2 => exact cell_one_new _ _ _
      case c3 => intro u hu; simp at hu; subst hu; rfl
      case c4 => unfold maxLen; omega
      case c5 => omega
      case c6 => have h1 := HF.out.size; have h2 := HF1.out.size; simp; omega
      intro v6 w6 own6 gr6 _ hat
      have A1 : Fr nob w1 (w1.alloc (.cells #[.slice ra r.length rc] 37)) := (Fr.refl nob w1).alloc _
      have F6 : Fr (fun j => (Value.slice la k lc).ownBlock = some j) (w1.alloc (.cells #[.slice ra r.length rc] 37)) w6 := (Fr.refl _ _).grown gr6 (fun j hj _ => hj)
      obtain ⟨g6, cap6, rfl⟩ : ∃ g6 cap6, v6 = .slice (some ⟨g6, 0, none⟩) (k + 1) cap6 := by
        rcases own6.2 with ⟨rfl, h0⟩ | ⟨g', cap', cur, rfl, h1, h2, _⟩
        · simp at h0
        · exact ⟨g', cap', rfl⟩
      have hz1 := HF.out.size
      have hz2 := HF1.out.size
      have holt : ∀ j, (Value.slice la k lc).ownBlock = some j → w.heap.size ≤ j ∧ j < wr.heap.size := fun j hj => HO.out.lt j hj
      have hg6 : ∀ b, b < w1.heap.size → (∀ j, (Value.slice la k lc).ownBlock = some j → j ≠ b) → (Value.slice (some ⟨g6, 0, none⟩) (k + 1) cap6).ownBlock ≠ some b := by
        intro b hb hold e
        rcases hat with h | h
        · rw [h] at e; exact hold b e rfl
        · rw [h] at e
          have e2 := Option.some.inj e
          omega
      have hI1 : IntsO w1 (fun b => wr.heap.size ≤ b ∧ b < w1.heap.size) r (.slice ra r.length rc) := intsO_of HO1.out (fun g hg => HO1.out.lt g hg)
      have hI6 := (hI1.kept (T := fun b => wr.heap.size ≤ b ∧ b < w1.heap.size) A1 (fun b h _ => ⟨fun h => h, h⟩)).kept (T := RS1 w.heap.size (.slice (some ⟨g6, 0, none⟩) (k + 1) cap6)) F6 (fun b h _ => ⟨fun e => by have := (holt b e).2; omega, by omega, hg6 b h.2 (fun j hj e => by have := (holt j hj).2; omega)⟩)
      have hD6 := ((HD.out.kept (T := fun b => RS1 w.heap.size (.slice la k lc) b ∧ b < w1.heap.size) HF1.out (fun b h h' => ⟨fun h => h, h, by omega⟩)).kept (T := fun b => RS1 w.heap.size (.slice la k lc) b ∧ b < w1.heap.size) A1 (fun b h _ => ⟨fun h => h, h⟩)).kept (T := RS1 w.heap.size (.slice (some ⟨g6, 0, none⟩) (k + 1) cap6)) F6 (fun b h _ => ⟨h.1.2, h.1.1, hg6 b h.2 (fun j hj e => h.1.2 (by rw [hj, e]))⟩)
      have hD7 : Done w6 (RS1 w.heap.size (.slice (some ⟨g6, 0, none⟩) (k + 1) cap6)) l (k + 1) (cells ++ [.slice ra r.length rc]) := by
        intro j q hj hq
        by_cases e : j = k
        · rw [e] at hq ⊢
          rw [HR.out] at hq
          cases hq
          exact ⟨_, by rw [List.getElem?_append_right (by rw [HCL.out]; exact Nat.le_refl _), HCL.out]; simp, hI6⟩
        · obtain ⟨u, h1, h2⟩ := hD6 j q (by omega) hq
          exact ⟨u, by rw [List.getElem?_append_left (by rw [HCL.out]; omega)]; exact h1, h2⟩
      have HD7 := Lib.hid hD7
      have HO7 := Lib.hid own6
      have HF7 := Lib.hid (((HF.out.trans HF1.out (fun _ _ h => h)).trans A1 (fun _ _ h => h)).trans' (T := nob) F6 (fun _ _ h => h) (fun j hj h => by have := (holt j h).1; omega))
      clear own6 gr6 hat A1 F6 hz1 hz2 holt hg6 hI1 hI6 hD6 hD7 hrun hcl HO HD HF HOx HO1 HF1
      go_wp2_with fail
      go_roundg m
      case measure => omega
      case rel => exact ⟨k + 1, _, by omega, by go_num, ⟨_, _, rfl⟩, HO7.out, HD7.out, HF7.out⟩
theorem large_noC {l : List (List Int)} (h : largeP l = false) : l.length ≤ 40 ∧ ∀ r ∈ l, r.length ≤ 80 := by
  unfold largeP at h
  rw [Bool.or_eq_false_iff, List.any_eq_false] at h
  refine ⟨by simpa using h.1, fun r hr => ?_⟩
  have := h.2 r hr
  simpa using this
theorem rows_C {w w' : World} {l : List (List Int)} {v : Value} (f : Fr nob w w') (h : RowsO w (fun b => b < w.heap.size) l v) : RowsO w' (fun b => b < w'.heap.size) l v :=
  h.kept f (fun _ hb _ => ⟨fun h => h, Nat.lt_of_lt_of_le hb f.size⟩)
theorem ints_C {w w' : World} {l : List Int} {v : Value} (f : Fr nob w w') (h : IntsO w (fun b => b < w.heap.size) l v) : IntsO w' (fun b => b < w'.heap.size) l v :=
  h.kept f (fun _ hb _ => ⟨fun h => h, Nat.lt_of_lt_of_le hb f.size⟩)
set_option maxRecDepth 100000 in
set_option maxHeartbeats 4000000 in
theorem cores_any (l : List (List Int)) (n : Int) (v : Value) (w : World) (hwd : Wide l) (hv : RowsO w (fun b => b < w.heap.size) l v) :
    Calls Try.prog 7 #[.int .i64 n, v] w fun e w' => e = .returned (.bool true) ∧ Fr nob w w' := by
  have hG := large_any l v _ w hwd hv
  have hWk := Lib.hid wakes_any
  obtain ⟨a, cap, hform⟩ := hv.form
  cases hgr : largeP l with
  | true =>
    rw [hgr] at hG
    subst hform
    clear hwd hv hgr
    generalize l.length = LL at *
    go_enter Try.func7, Try.ntmps7
    go_wp2_with (first | (go_at_call 23; with_reducible refine hG.mono ?_; rintro e w2 ⟨rfl, rfl⟩) | fail)
    refine (hWk.out _).mono ?_
    rintro e w3 ⟨rfl, F3⟩
    go_wp2_with fail
    go_ret
    exact ⟨rfl, F3⟩
  | false =>
    rw [hgr] at hG
    obtain ⟨g1, g2⟩ := large_noC hgr
    obtain ⟨LL, hLL⟩ : ∃ LL, l.length = LL := ⟨_, rfl⟩
    by_cases h20 : 20 < LL
    · have q0 : (20 : Int) < (LL : Int) := by omega
      subst hform
      rw [hLL] at hG ⊢
      clear hwd hv hgr g1 g2 hLL
      go_enter Try.func7, Try.ntmps7
      go_wp2_with (first | (go_at_call 23; with_reducible refine hG.mono ?_; rintro e w2 ⟨rfl, rfl⟩) | fail)
      refine (hWk.out _).mono ?_
      rintro e w3 ⟨rfl, F3⟩
      go_wp2_with fail
      go_ret
      exact ⟨rfl, F3⟩
    · have q0 : ¬ (20 : Int) < (LL : Int) := by omega
      by_cases hb : 7 < n ∧ n < 25
      · have q1 : (7 : Int) < n := hb.1
        have q2 : n < 25 := hb.2
        subst hform
        rw [hLL] at hG ⊢
        clear hwd hv hgr g1 g2 hb hLL
        go_enter Try.func7, Try.ntmps7
        go_wp2_with (first | (go_at_call 23; with_reducible refine hG.mono ?_; rintro e w2 ⟨rfl, rfl⟩) | fail)
        refine (hWk.out _).mono ?_
        rintro e w3 ⟨rfl, F3⟩
        go_wp2_with fail
        go_ret
        exact ⟨rfl, F3⟩
      · have hl2 : ∀ r ∈ l, r.length ≤ 1048576 := fun r hr => by have := g2 r hr; omega
        have hR := rowsC_any l v _ w (by omega) hl2 hv
        have h12 : chkP n l = 0 → n ≤ 7 ∧ 0 ≤ n := fun hk => by
          obtain ⟨h, _⟩ := chk_zero2 hk
          omega
        rw [hLL] at hform
        subst hform
        have HLL := Lib.hid hLL
        have HX := Lib.hid (And.intro g1 (And.intro g2 h12))
        have HV := Lib.hid hv
        have HW := Lib.hid hwd
        have hsplit : (7 < n ∧ ¬ n < 25) ∨ ¬ 7 < n := by omega
        rw [hLL] at hR
        clear hv hwd hLL hl2 g1 g2 hgr h12 hb
        go_enter Try.func7, Try.ntmps7
        rcases hsplit with ⟨q1, q2⟩ | q1
        all_goals (
          go_wp2_with (first | (go_at_call 23; with_reducible refine hG.mono ?_; rintro e w2 ⟨rfl, rfl⟩) | fail)
          clear hG
          refine hR.mono ?_
          rintro e w1 ⟨a1, cap1, rfl, hcp1, hR1, F1⟩
          have hS := core_any l n _ w1 HW.out (rows_in hR1) ⟨a1, cap1, by rw [HLL.out], by rw [HLL.out]; exact hcp1⟩
          have HF1 := Lib.hid F1
          obtain ⟨K, hK⟩ : ∃ K, chkP n l = K := ⟨_, rfl⟩
          have HK := Lib.hid hK
          clear hR hR1 F1 hK hcp1
          go_wp2_with fail
          refine hS.mono ?_
          rintro e w2 ⟨F2, hA⟩
          rw [HK.out] at hA
          have HF2 := Lib.hid (HF1.out.trans F2 (fun _ _ h => h))
          have HV2 := Lib.hid (rows_C HF2.out HV.out)
          have hC := refCls_any l n _ _ _ HW.out HV2.out
          rw [HK.out] at hC
          clear hS F2 HF1
          rcases hA with ⟨hk, rfl⟩ | ⟨rfl, hsat, rfl⟩ | ⟨rfl, hun, k, ka, kc, hg, rfl, hI⟩
          · have q5 : (K == K) = true := by simp
            have q6 : (K != 0) = true := by simpa using hk
            clear hk
            go_wp2_with fail
            refine hC.mono ?_
            rintro e w3 ⟨rfl, rfl⟩
            clear hC
            go_wp2_with fail
            refine (hWk.out _).mono ?_
            rintro e w5 ⟨rfl, F5⟩
            have HF5 := Lib.hid (HF2.out.trans F5 (fun _ _ h => h))
            clear F5
            go_wp2_with fail
            go_ret
            exact ⟨rfl, HF5.out⟩
          · obtain ⟨hn7, hn0⟩ := HX.out.2.2 HK.out
            obtain ⟨N, rfl⟩ : ∃ N : Nat, n = (N : Int) := ⟨n.toNat, by omega⟩
            have HSAT := Lib.hid hsat
            have hcz := chk_zero2 HK.out
            have hcl := chk_ltr HK.out
            have hRC := refCore_any l N (by omega) _ w2 HX.out.1 (fun c hc => ⟨by have := HX.out.2.1 c hc; omega, fun x hx => ⟨hcl c hc x hx, by have := (hcz.2.2 c hc).2 x hx; omega⟩⟩) HV2.out
            clear hsat hn0 hcz hcl
            go_wp2_with fail
            refine hC.mono ?_
            rintro e w3 ⟨rfl, rfl⟩
            clear hC
            go_wp2_with fail
            refine hRC.mono ?_
            rintro e w4 ⟨F4, hB⟩
            have HF4 := Lib.hid (HF2.out.trans F4 (fun _ _ h => h))
            rcases hB with ⟨_, rfl⟩ | ⟨hu, _⟩
            · have hAl := alike_eq [] (.slice none 0 0) (.slice none 0 0) w4 (by simp) ⟨none, 0, rfl, fun _ => rfl, fun h => absurd rfl h⟩ ⟨none, 0, rfl, fun _ => rfl, fun h => absurd rfl h⟩
              clear hRC F4 HF2
              go_wp2_with fail
              refine hAl.mono ?_
              rintro e w5 ⟨rfl, F5⟩
              have HF5 := Lib.hid (HF4.out.trans F5 (fun _ _ h => h))
              clear hAl F5
              go_wp2_with fail
              refine (hWk.out _).mono ?_
              rintro e w6 ⟨rfl, F6⟩
              have HF6 := Lib.hid (HF5.out.trans F6 (fun _ _ h => h))
              clear F6
              go_wp2_with fail
              go_ret
              exact ⟨rfl, HF6.out⟩
            · obtain ⟨f, hf⟩ := HSAT.out
              rw [hu f] at hf
              cases hf
          · obtain ⟨hn7, hn0⟩ := HX.out.2.2 HK.out
            obtain ⟨N, rfl⟩ : ∃ N : Nat, n = (N : Int) := ⟨n.toNat, by omega⟩
            have HUN := Lib.hid hun
            have hcz := chk_zero2 HK.out
            have hcl := chk_ltr HK.out
            have hRC := refCore_any l N (by omega) _ w2 HX.out.1 (fun c hc => ⟨by have := HX.out.2.1 c hc; omega, fun x hx => ⟨hcl c hc x hx, by have := (hcz.2.2 c hc).2 x hx; omega⟩⟩) HV2.out
            have HG := Lib.hid hg
            have hkl : k.length ≤ 40 := by
              have h1 := hg.sub.length_le
              have h2 : (idx l).length = l.length := by unfold idx; rw [List.length_map, List.length_zipIdx]
              have := HX.out.1
              omega
            obtain ⟨KL, hKL⟩ : ∃ KL, k.length = KL := ⟨_, rfl⟩
            rw [hKL] at hI hkl ⊢
            have HI := Lib.hid hI
            have HKL := Lib.hid hKL
            clear hun hn0 hcz hcl hg hI hKL
            go_wp2_with fail
            refine hC.mono ?_
            rintro e w3 ⟨rfl, rfl⟩
            clear hC
            go_wp2_with fail
            refine hRC.mono ?_
            rintro e w4 ⟨F4, hB⟩
            have HF4 := Lib.hid (HF2.out.trans F4 (fun _ _ h => h))
            rcases hB with ⟨⟨f, hf⟩, _⟩ | ⟨_, k2, a2, c2, hg2, rfl, hI2⟩
            · rw [HUN.out f] at hf
              cases hf
            · obtain rfl := HG.out.det hg2
              rw [HKL.out] at hI2 ⊢
              have hAl := alike_eq (fsts k) (.slice ka KL kc) (.slice a2 KL c2) w4 (by unfold fsts; rw [List.length_map, HKL.out]; omega) (ints_C F4 HI.out) hI2
              clear hRC F4 HF2 hI2 hg2 hkl
              go_wp2_with fail
              refine hAl.mono ?_
              rintro e w5 ⟨rfl, F5⟩
              have HF5 := Lib.hid (HF4.out.trans F5 (fun _ _ h => h))
              clear hAl F5
              go_wp2_with fail
              refine (hWk.out _).mono ?_
              rintro e w6 ⟨rfl, F6⟩
              have HF6 := Lib.hid (HF5.out.trans F6 (fun _ _ h => h))
              clear F6
              go_wp2_with fail
              go_ret
              exact ⟨rfl, HF6.out⟩)
end Go.Proofs.Ytaojojjdfdlgpaa
