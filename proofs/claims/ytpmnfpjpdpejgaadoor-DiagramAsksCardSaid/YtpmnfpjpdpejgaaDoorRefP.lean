import Derived.Test.YtpmnfpjpdpejgaaDoorRefM
import Derived.Test.YtpmnfpjpdpejgaaDoorNods
import Derived.Test.YtpmnfpjpdpejgaaDoorRuleG
import Derived.Test.YtpmnfpjpdpejgaaDoorCost
import Derived.Deep.AppendLies
import Derived.Test.YtpmnfpjpdpejgaaDoorSaid
import Derived.Great.BuildSlice
namespace Go.Proofs.YtpmnfpjpdpejgaaDoor
open Go.RowKit
open Bd

/-! Nodes of the reference: Full, Place, Through -/
theorem many_full (l : List Bool) : many l = l.length ↔ ∀ x ∈ l, x = true := by simp [many, List.countP_eq_length]
theorem full_dec {V : List Nat} {f : Cfg → Bool} (hV : rising V) (hf : onV V f) : many (tab V f) = 2 ^ V.length ↔ ∀ c, f c = true := by
  rw [← tab_length V f, many_full]; exact all_tab hV hf

set_option maxRecDepth 100000 in
set_option maxHeartbeats 1000000 in
theorem RFull_any (V : List Nat) (f : Cfg → Bool) (v : Value) (w : World) (hs : RSet w v V f) : Calls Tryd.prog 28 #[v] w fun e w' => e = .returned (.bool (decide (many (tab V f) = 2 ^ V.length))) ∧ Below w.heap.size w w' := by
  have hm := fun W (h : Fr nob w W) => Many_any V f v W (hs.kept h)
  generalize many (tab V f) = m at *
  obtain ⟨hV, hf, sv, st, rfl, h1, h2⟩ := hs
  obtain ⟨b0, b1⟩ := two_cells' w sv st 52
  have fr : Fr nob w (w.alloc (.cells #[sv, st] 52)) := (Fr.refl nob w).alloc _
  obtain ⟨a, cap, e1⟩ := h1.form
  obtain ⟨a2, cap2, e2⟩ := h2.form
  simp only [List.length_map, tab_length] at e1 e2
  clear h1 h2 hf
  generalize 2 ^ V.length = n2 at *
  subst e1 e2
  go_enter Tryd.func28, Tryd.ntmps28
  go_upto_region 7 with fail
  refine wp_region_grow' 6 9 (fun _ => #[]) [] (by kernel_rfl) (by kernel_rfl) rfl rfl (by intro T h; cases h) ?_
  simp only [List.take_succ_cons, List.take_zero]
  refine grow_step (v := .agg #[.slice a V.length cap, .slice a2 n2 cap2]) rfl rfl ?a0 ?b0
  case a0 =>
    intro w' hw'
    have y0 := hw'.cell' b0 (fun h => h)
    have y1 := hw'.cell' b1 (fun h => h)
    clear hw'
    refine growAt_value ?_
    go_simp
    try rfl
  simp only [Act.put, List.setIfInBounds_toArray, List.set_cons_zero, List.set_cons_succ]
  refine grow_step (v := ik m) rfl rfl ?a1 ?b1
  case a1 =>
    intro w' hw'
    refine growAt_call ?_ ((hm w' (fr.trans hw' (fun _ _ h => h))).mono fun e w'' ⟨he, hb⟩ => ⟨he, (Fr.refl nob w').below hb⟩)
    go_simp
  simp only [Act.put, List.setIfInBounds_toArray, List.set_cons_zero, List.set_cons_succ]
  refine grow_step (v := ?v2) rfl rfl ?a2 ?b2
  case a2 =>
    intro w' hw'
    clear hw'
    refine growAt_value ?_
    go_simp
    rfl
  simp only [Act.put, List.setIfInBounds_toArray, List.set_cons_zero, List.set_cons_succ]
  refine grow_step (v := .slice a2 n2 cap2) rfl rfl ?a3 ?b3
  case a3 =>
    intro w' hw'
    have y1 := hw'.cell' b1 (fun h => h)
    clear hw'
    refine growAt_value ?_
    go_simp
    try rfl
  simp only [Act.put, List.setIfInBounds_toArray, List.set_cons_zero, List.set_cons_succ]
  refine grow_step (v := ik n2) rfl rfl ?a4 ?b4
  case a4 =>
    intro w' hw'
    clear hw'
    refine growAt_value ?_
    go_simp
    try rfl
  simp only [Act.put, List.setIfInBounds_toArray, List.set_cons_zero, List.set_cons_succ]
  refine grow_step (v := .bool (decide (m = n2))) rfl rfl ?a5 ?b5
  case a5 =>
    intro w' hw'
    clear hw'
    refine growAt_value ?_
    go_simp
    exact beq_dec _ _
  simp only [Act.put, List.setIfInBounds_toArray, List.set_cons_zero, List.set_cons_succ]
  refine grow_nil ?_
  intro w5 listed p5 _ _
  have f5 := fr.trans p5 (fun _ _ h => h)
  clear p5 hm b0 b1 fr
  go_wp2_with fail
  go_ret
  exact ⟨rfl, f5.to_below (Nat.le_refl _) (fun _ h => h.elim)⟩

/-- Same of two trees -/
theorem RSame_tree {a b : B} (ha : a.ok 0) (hb : b.ok 0) {V W : List Nat} {va vb : Value} {w : World} (hsa : RSet w va V a.ev) (hsb : RSet w vb W b.ev) : Calls Tryd.prog 30 #[va, vb] w fun e w' => e = .returned (.bool (decide (a = b))) ∧ Below w.heap.size w w' := by
  refine (RSame_any V W a.ev b.ev va vb w hsa hsb).mono ?_
  rintro e w' ⟨x, rfl, hx, hB⟩
  refine ⟨?_, hB⟩
  have : x = decide (a = b) := by
    rw [Bool.eq_iff_iff, hx, decide_eq_true_iff]
    exact ⟨fun h => eq_of_ev ha hb h, fun h c => by rw [h]⟩
  rw [this]

/-- a row of sets, none of them said with a row without a block -/
def TS (w : World) (v : Value) (s : List B) : Prop := (s = [] ∧ v = .slice none 0 0) ∨ TRow w v s
theorem TS.kept {w w' : World} {v : Value} {s : List B} (h : TS w v s) (fr : Fr nob w w') : TS w' v s := h.imp id (fun h => h.kept fr)
theorem TS.form {w : World} {v : Value} {s : List B} (h : TS w v s) : ∃ q cap, v = .slice q s.length cap := by
  rcases h with ⟨rfl, rfl⟩ | h
  · exact ⟨none, 0, rfl⟩
  · obtain ⟨g, cap, e⟩ := h.form; exact ⟨_, cap, e⟩
theorem TS.at {w : World} {q : Option Addr} {n cap : Nat} {s : List B} (h : TS w (.slice q n cap) s) {k : Nat} (hk : k < s.length) : ∃ g q' n' c u m d V, q = some ⟨g, 0, none⟩ ∧ w.cell? ⟨g, k * 2, none⟩ = some (.slice q' n' c) ∧ w.cell? ⟨g, k * 2 + 1, none⟩ = some (.slice u m d) ∧ RSet w (.agg #[.slice q' n' c, .slice u m d]) V (s.getD k .F).ev := by
  rcases h with ⟨rfl, -⟩ | h
  · simp at hk
  · obtain ⟨g, cap', e⟩ := h.form
    simp only [Value.slice.injEq] at e
    obtain ⟨rfl, rfl, rfl⟩ := e
    obtain ⟨q', n', c, u, m, d, V, h1, h2, h3⟩ := h.at hk
    exact ⟨g, q', n', c, u, m, d, V, rfl, h1, h2, h3⟩

/-- the place of a set among those that are finished, -1: it is none of them -/
def plc (R : List B) (b : B) : Int := if b.const = true ∨ b ∈ R then (place R b : Int) else -1
theorem pos_rev : ∀ {R : List B} {b : B} {i : Nat}, R.Nodup → R.reverse[i]? = some b → pos R b = i
  | [], _, _, _, h => by simp at h
  | n :: r, b, i, hn, h => by
    rw [List.reverse_cons] at h
    have hn1 := (List.nodup_cons.1 hn).1
    by_cases hi : i < r.length
    · rw [List.getElem?_append_left (by simpa using hi)] at h
      have hb : b ∈ r := List.mem_reverse.1 (List.mem_of_getElem? h)
      rw [pos_cons hb hn1]
      exact pos_rev (List.nodup_cons.1 hn).2 h
    · rw [List.getElem?_append_right (by simpa using hi)] at h
      have hi2 : i = r.length := by
        have := (List.getElem?_eq_some_iff.1 h).1
        simp at this
        omega
      subst hi2
      simp at h
      subst h
      simp [pos]
theorem rev_getD {R : List B} {k : Nat} (hk : k < R.length) : R.reverse[k]? = some (R.reverse.getD k .F) := by
  rw [List.getD_eq_getElem?_getD, List.getElem?_eq_getElem (by simpa using hk)]; rfl

set_option maxRecDepth 100000 in
set_option maxHeartbeats 1000000 in
theorem RPlace_any (R : List B) (hR : ∀ x ∈ R, x.ok 0) (hn : R.Nodup) (hlen : R.length < 2 ^ 30) (b : B) (hb : b.ok 0) (V : List Nat) (vs vl va : Value) (w : World) (hl : TS w vs R.reverse) (hvl : ∃ q n c, vl = .slice q n c) (hsa : RSet w va V b.ev) : Calls Tryd.prog 72 #[.agg #[vs, vl], va] w fun e w' => e = .returned (.int .i64 (plc R b)) ∧ Below w.heap.size w w' := by
  have hE := fun W (h : RSet W va V b.ev) => REmpty_any V b.ev va W h
  have hF := fun W (h : RSet W va V b.ev) => RFull_any V b.ev va W h
  have he0 : (many (tab V b.ev) = 0) = (b = .F) := by
    rw [empty_dec hsa.1 hsa.2.1, eq_iff_iff]
    exact ⟨fun h => eq_of_ev hb (show B.F.ok 0 from trivial) (fun c => by rw [h c]; rfl), fun h c => by rw [h]; rfl⟩
  have hf0 : (many (tab V b.ev) = 2 ^ V.length) = (b = .T) := by
    rw [full_dec hsa.1 hsa.2.1, eq_iff_iff]
    exact ⟨fun h => eq_of_ev hb trivial (fun c => by rw [h c]; rfl), fun h c => by rw [h]; rfl⟩
  simp only [he0] at hE
  simp only [hf0] at hF
  clear he0 hf0
  have hSm := fun (x : B) (hx : x.ok 0) (Vx : List Nat) vx W (h1 : RSet W vx Vx x.ev) (h2 : RSet W va V b.ev) => RSame_tree hx hb h1 h2
  have hoks : ∀ k, k < R.length → (R.reverse.getD k .F).ok 0 := fun k hk => hR _ (List.mem_reverse.1 (List.mem_of_getElem? (rev_getD hk)))
  have hpos := fun k (hk : k < R.length) (he : R.reverse.getD k .F = b) => (show pos R b = k from pos_rev hn (by rw [rev_getD hk, he]))
  have hin := fun k (hk : k < R.length) (he : R.reverse.getD k .F = b) => (show b ∈ R from by rw [← he]; exact List.mem_reverse.1 (List.mem_of_getElem? (rev_getD hk)))
  have hno : (∀ j, j < R.length → R.reverse.getD j .F ≠ b) → b ∉ R := fun h hm => by
    obtain ⟨j, hj, e⟩ := List.getElem_of_mem (List.mem_reverse.2 hm)
    refine h j (by simpa using hj) ?_
    rw [List.getD_eq_getElem?_getD, List.getElem?_eq_getElem hj, e]; rfl
  obtain ⟨qs, cs, evs⟩ := hl.form
  obtain ⟨ql, nl, cl, evl⟩ := hvl
  obtain ⟨qa, n1, ca, qt, n3, ct, eva⟩ := hsa.form
  rw [List.length_reverse] at evs
  have hl2 : R.reverse.length = R.length := by simp
  generalize R.reverse = S at *
  subst evs evl eva
  obtain ⟨a0, a1⟩ := two_cells' w (.slice qs R.length cs) (.slice ql nl cl) 113
  obtain ⟨b0, b1⟩ := two_cells' (w.alloc (.cells #[.slice qs R.length cs, .slice ql nl cl] 113)) (.slice qa n1 ca) (.slice qt n3 ct) 52
  replace a0 := cell_alloc_l a0 (.cells #[.slice qa n1 ca, .slice qt n3 ct] 52)
  replace a1 := cell_alloc_l a1 (.cells #[.slice qa n1 ca, .slice qt n3 ct] 52)
  have fr : Fr nob w ((w.alloc (.cells #[.slice qs R.length cs, .slice ql nl cl] 113)).alloc (.cells #[.slice qa n1 ca, .slice qt n3 ct] 52)) := ((Fr.refl nob w).alloc _).alloc _
  simp only [World.size_alloc] at a0 a1 b0 b1
  go_enter Tryd.func72, Tryd.ntmps72
  go_wp2_with fail
  generalize ((w.alloc (.cells #[.slice qs R.length cs, .slice ql nl cl] 113)).alloc (.cells #[.slice qa n1 ca, .slice qt n3 ct] 52)) = W0 at *
  refine (hE _ (hsa.kept fr)).mono ?_
  rintro e w1 ⟨rfl, hb1⟩
  have fr1 := (Fr.refl nob W0).below hb1
  replace a0 := fr1.cell' a0 (fun h => h)
  replace b0 := fr1.cell' b0 (fun h => h)
  replace b1 := fr1.cell' b1 (fun h => h)
  replace fr := fr.trans fr1 (fun _ _ h => h)
  clear hb1 fr1 a1 hE
  by_cases hbF : b = .F
  · have hp : plc R b = 0 := by rw [hbF]; rfl
    have HP := Lib.hid hp
    clear hp
    simp only [hbF, decide_true]
    go_wp2_with fail
    go_ret
    exact ⟨by rw [HP.out]; rfl, fr.to_below (Nat.le_refl _) (fun _ h => h.elim)⟩
  simp only [hbF, decide_false]
  go_wp2_with fail
  refine (hF _ (hsa.kept fr)).mono ?_
  rintro e w2 ⟨rfl, hb1⟩
  have fr1 := (Fr.refl nob w1).below hb1
  replace a0 := fr1.cell' a0 (fun h => h)
  replace b0 := fr1.cell' b0 (fun h => h)
  replace b1 := fr1.cell' b1 (fun h => h)
  replace fr := fr.trans fr1 (fun _ _ h => h)
  clear hb1 fr1 hF
  by_cases hbT : b = .T
  · have hp : plc R b = 1 := by rw [hbT]; rfl
    have HP := Lib.hid hp
    clear hp
    simp only [hbT, decide_true]
    go_wp2_with fail
    go_ret
    exact ⟨by rw [HP.out]; rfl, fr.to_below (Nat.le_refl _) (fun _ h => h.elim)⟩
  simp only [hbT, decide_false]
  have hplc : plc R b = if b ∈ R then (pos R b + 2 : Int) else -1 := by
    cases b with
    | F => exact absurd rfl hbF
    | T => exact absurd rfl hbT
    | N i lo hi => simp [plc, B.const, place]
  have HPL := Lib.hid hplc
  clear hplc
  have HIN := Lib.hid hin
  have HPO := Lib.hid hpos
  have HNO := Lib.hid hno
  have HOK := Lib.hid hoks
  clear hin hpos hno hoks
  go_wp2_with fail
  go_loopw [5] (fun iv wr => ∃ k : Nat, k ≤ R.length ∧ iv = ik k ∧ Fr nob w2 wr ∧ RowKit.Hid (∀ j, j < k → S.getD j .F ≠ b)) (fun iv _ => R.length - (intOf iv).toNat)
  case atStart => exact ⟨0, Nat.zero_le _, rfl, Fr.refl _ _, Lib.hid (fun j hj => absurd hj (Nat.not_lt_zero _))⟩
  case round =>
    obtain ⟨k, hk, rfl, Sfr, hnot⟩ := hrel
    replace a0 := Sfr.cell' a0 (fun h => h)
    replace b0 := Sfr.cell' b0 (fun h => h)
    replace b1 := Sfr.cell' b1 (fun h => h)
    have frw := fr.trans Sfr (fun _ _ h => h)
    by_cases hlt : k < R.length
    · obtain ⟨g, q', n', c, u, m, d, Vx, rfl, x0, x1, hx⟩ := TS.at (hl.kept frw) (k := k) (by omega)
      have hSmk := fun W (h : Fr nob wr W) => hSm _ (HOK.out k hlt) Vx _ W (hx.kept h) ((hsa.kept frw).kept h)
      have hnk := HNO
      have hslt : k < S.length := by omega
      generalize hXk : S.getD k .F = X at *
      clear HOK hx HNO
      go_upto_region 7 with fail
      refine wp_region_grow' 6 26 (fun _ => #[]) [] (by kernel_rfl) (by kernel_rfl) rfl rfl (by intro T h; cases h) ?_
      simp only [List.take_succ_cons, List.take_zero]
      refine grow_step (v := ?v0) rfl rfl ?a0 ?b0
      case a0 =>
        intro w' hw'
        clear hw'
        refine growAt_value ?_
        go_simp
        rfl
      simp only [Act.put, List.setIfInBounds_toArray, List.set_cons_zero, List.set_cons_succ]
      refine grow_step (v := .slice (some ⟨g, 0, none⟩) R.length cs) rfl rfl ?a1 ?b1
      case a1 =>
        intro w' hw'
        have y0 := hw'.cell' a0 (fun h => h)
        clear hw'
        refine growAt_value ?_
        go_simp
        try rfl
      simp only [Act.put, List.setIfInBounds_toArray, List.set_cons_zero, List.set_cons_succ]
      refine grow_step (v := ik k) rfl rfl ?a2 ?b2
      case a2 =>
        intro w' hw'
        clear hw'
        refine growAt_value ?_
        go_simp
        try rfl
      simp only [Act.put, List.setIfInBounds_toArray, List.set_cons_zero, List.set_cons_succ]
      refine grow_step (v := .pointer (some ⟨g, k * 2, none⟩)) rfl rfl ?a3 ?b3
      case a3 =>
        intro w' hw'
        clear hw'
        refine growAt_value ?_
        go_simp
        try rfl
      simp only [Act.put, List.setIfInBounds_toArray, List.set_cons_zero, List.set_cons_succ]
      refine grow_step (v := .agg #[.slice q' n' c, .slice u m d]) rfl rfl ?a4 ?b4
      case a4 =>
        intro w' hw'
        have y0 := hw'.cell' x0 (fun h => h)
        have y1 := hw'.cell' x1 (fun h => h)
        clear hw'
        refine growAt_value ?_
        go_simp
        try rfl
      simp only [Act.put, List.setIfInBounds_toArray, List.set_cons_zero, List.set_cons_succ]
      refine grow_step (v := .agg #[.slice qa n1 ca, .slice qt n3 ct]) rfl rfl ?a5 ?b5
      case a5 =>
        intro w' hw'
        have y0 := hw'.cell' b0 (fun h => h)
        have y1 := hw'.cell' b1 (fun h => h)
        clear hw'
        refine growAt_value ?_
        go_simp
        try rfl
      simp only [Act.put, List.setIfInBounds_toArray, List.set_cons_zero, List.set_cons_succ]
      refine grow_nil ?_
      intro w5 listed p5 _ _
      have f5 := frw.trans p5 (fun _ _ h => h)
      have S5 := Sfr.trans p5 (fun _ _ h => h)
      have hS5 := hSmk w5 p5
      clear hSmk p5 Sfr frw a0 b0 b1 x0 x1
      go_wp2_with fail
      refine hS5.mono ?_
      rintro e w6 ⟨rfl, hb6⟩
      have f6 := f5.below hb6
      have S6 := S5.below hb6
      clear hS5 hb6 f5 S5
      by_cases hXb : X = b
      · have hp : plc R b = ((k : Int) + 2) := by
          rw [HPL.out, if_pos (HIN.out k hlt (hXk.trans hXb)), HPO.out k hlt (hXk.trans hXb)]
        have HP := Lib.hid hp
        clear hp
        simp only [hXb, decide_true]
        go_wp2_with fail
        go_ret
        exact ⟨by (rw [HP.out]; go_num), f6.to_below (Nat.le_refl _) (fun _ h => h.elim)⟩
      · have HK := Lib.hid (show ∀ j, j < k + 1 → S.getD j .F ≠ b from fun j hj => by
          by_cases e : j = k
          · rw [e, hXk]; exact hXb
          · exact hnot.out j (by omega))
        simp only [hXb, decide_false]
        go_wp2_with fail
        exact ⟨⟨k + 1, by omega, by go_num, S6, HK⟩, by simp [intOf]; omega⟩
    · obtain rfl : k = R.length := by omega
      have hp : plc R b = -1 := by rw [HPL.out, if_neg (HNO.out hnot.out)]
      have HP := Lib.hid hp
      clear hp
      go_wp2_with fail
      go_ret
      exact ⟨by rw [HP.out]; rfl, frw.to_below (Nat.le_refl _) (fun _ h => h.elim)⟩
end Go.Proofs.YtpmnfpjpdpejgaaDoor
namespace Go.Proofs.YtpmnfpjpdpejgaaDoor
open Go.RowKit
open Bd

/-! a listing of the reference: rows that it owns -/
def BX (w : World) (g : Nat) (a b : Value) (T : TypeId) : Prop := w.heap[g]? = some (.cells #[a, b] T (0, 0))
theorem BX.lt {w : World} {g : Nat} {a b : Value} {T : TypeId} (h : BX w g a b T) : g < w.heap.size := (Array.getElem?_eq_some_iff.1 h).1
theorem BX.box {w : World} {g : Nat} {a b : Value} {T : TypeId} (h : BX w g a b T) : Box2 w g a b := .of_heap h
theorem BX.new (w : World) (a b : Value) (T : TypeId) : BX (w.alloc (.cells #[a, b] T)) w.heap.size a b T := heap_alloc_new w _
theorem BX.kept {S : Nat → Prop} {w w' : World} {g : Nat} {a b : Value} {T : TypeId} (h : BX w g a b T) (fr : Fr S w w') (hS : ¬ S g) : BX w' g a b T := (fr.block g h.lt hS).trans h
theorem cells_set {w : World} {g : Nat} {c : Array Value} {T : TypeId} (h : w.heap[g]? = some (.cells c T (0, 0))) (o : Nat) (x : Value) : (w.setCell ⟨g, o, none⟩ x).heap[g]? = some (.cells (c.setIfInBounds o x) T (0, 0)) := by
  obtain ⟨hlt, hk⟩ := Array.getElem?_eq_some_iff.1 h
  show (w.heap.modify g _)[g]? = _
  rw [Array.getElem?_eq_getElem (by rw [Array.size_modify]; exact hlt), Array.getElem_modify_self, hk]
  rfl
theorem BX.set {w : World} {g : Nat} {a b : Value} {T : TypeId} (h : BX w g a b T) (x y : Value) : BX ((w.setCell ⟨g, 0, none⟩ x).setCell ⟨g, 1, none⟩ y) g x y T := cells_set (cells_set h 0 x) 1 y
theorem BX.apart {w : World} {g : Nat} {a b : Value} {T e : TypeId} {base size n : Nat} {v : Value} {xs : List Value} (h : BX w g a b T) (hr : w.ownsRow base e size v n xs) (hT : T ≠ e) : ∀ k, v.ownBlock = some k → ¬ k = g := by
  rintro k hk rfl
  rcases hr.2 with ⟨rfl, _⟩ | ⟨g', cap, cur, rfl, _, hg, _⟩
  · cases hk
  · cases hk
    have := h.symm.trans hg
    simp only [Option.some.injEq, Obj.cells.injEq] at this
    exact hT this.2.1
theorem own_blk {v : Value} {k : Nat} (h : v.ownBlock = some k) : G.blk v = some k := by
  unfold Value.ownBlock at h
  split at h
  · exact h
  · cases h
theorem own_form {w : World} {base size n : Nat} {e : TypeId} {v : Value} {xs : List Value} (h : w.ownsRow base e size v n xs) : ∃ q cap, v = .slice q n cap := by
  rcases h.2 with ⟨rfl, rfl⟩ | ⟨g', cap, cur, rfl, _⟩
  · exact ⟨none, 0, rfl⟩
  · exact ⟨_, cap, rfl⟩
theorem own_there (w : World) (e : TypeId) (size n : Nat) (xs : List Value) (hl : xs.length = n * size) (hn : n ≤ maxLen) : (w.alloc (.cells xs.toArray e)).ownsRow w.heap.size e size (.slice (some ⟨w.heap.size, 0, none⟩) n n) n xs :=
  ⟨hl, .inr ⟨w.heap.size, n, xs.toArray, rfl, Nat.le_refl _, heap_alloc_new w _, Nat.le_refl _, hn, by simpa using hl, by rw [← hl]; simp⟩⟩

/-- append(nil, row) -/
theorem app_nil (w : World) (t e : TypeId) (i : TypeInfo) (z : Value) (size bytes : Nat) (ht : Tryd.prog.underlying t = some (.slice e)) (hi : Tryd.prog.info? e = some i) (hz : i.zero = some z)
    (hsize : i.size = size) (hby : i.bytes = bytes) (hzs : z.cells.size = size) (hsz : 0 < size) (v : Value) (n : Nat) (xs : List Value) (own : w.ownsRow 0 e size v n xs) (h1 : ∀ u ∈ xs, u.oneCell' = true) (hn : n ≤ 67108864) (hb48 : bytes ≤ 48) :
    ∃ v' w', (Builtin.append_ #[t, t] t #[.slice none 0 0, v]).run Tryd.prog w = .ok v' w' ∧ w'.ownsRow w.heap.size e size v' n xs ∧ Fr nob w w' := by
  have hB : n * bytes ≤ 67108864 * 48 := Nat.mul_le_mul hn hb48
  rcases own.2 with ⟨rfl, rfl⟩ | ⟨g, cap, cur, rfl, _⟩
  · have hx : xs = [] := List.eq_nil_of_length_eq_zero (by simpa using own.1)
    subst hx
    refine ⟨.slice none 0 0, w, ?_, World.ownsRow_nil _ _ _ _, Fr.refl _ _⟩
    simp [Builtin.append_, run_underlying ht, sizeOf, typeInfo, hi, Builtin.lenOf, Builtin.firstCells]
  · obtain ⟨v', w', hrun, r1, r2, _⟩ := run_append_own (P := Tryd.prog) w w.heap.size t t e i z size bytes ht hi hz hsize hby hzs hsz (.slice none 0 0) 0 [] (World.ownsRow_nil w _ _ _) ⟨g, 0, none⟩ n cap xs own.1 (own.cells rfl) h1 (by unfold maxLen; omega) (by rw [Nat.zero_add]; omega) (Nat.le_refl _)
    rw [List.nil_append, Nat.zero_add] at r1
    exact ⟨v', w', hrun, r1, (Fr.refl nob w).grown r2 (fun k hk => by cases hk)⟩

/-- append(row, one more) -/
theorem app_one (w : World) (t e : TypeId) (i : TypeInfo) (z : Value) (size bytes : Nat) (ht : Tryd.prog.underlying t = some (.slice e)) (hi : Tryd.prog.info? e = some i) (hz : i.zero = some z)
    (hsize : i.size = size) (hby : i.bytes = bytes) (hzs : z.cells.size = size) (hsz : 0 < size) (base : Nat) (hbase : base ≤ w.heap.size) (v : Value) (n : Nat) (xs : List Value) (own : w.ownsRow base e size v n xs) (hn : n ≤ 67108864) (hb48 : bytes ≤ 48)
    (g : Nat) (news : List Value) (hl : news.length = size) (hnews : ∀ j u, news[j]? = some u → w.cell? ((⟨g, 0, none⟩ : Addr).add j) = some u) (h1 : ∀ u ∈ news, u.oneCell' = true) :
    ∃ v' w', (Builtin.append_ #[t, t] t #[v, .slice (some ⟨g, 0, none⟩) 1 1]).run Tryd.prog w = .ok v' w' ∧ w'.ownsRow base e size v' (n + 1) (xs ++ news) ∧ Fr (fun k => G.blk v = some k) w w' ∧ (∀ b, G.blk v' = some b → w.heap.size ≤ b ∨ G.blk v = some b) ∧ (∀ b, G.blk v' = some b → b < w'.heap.size) := by
  have hB : (n + 1) * bytes ≤ 67108865 * 48 := Nat.mul_le_mul (by omega) hb48
  obtain ⟨g', cap, w', hr, h2, h3, h4, h5⟩ := run_append_lies (P := Tryd.prog) w t t base e i z size bytes ht hi hz hsize hby hzs hsz v n xs own ⟨g, 0, none⟩ 1 1 news (by simpa using hl) hnews h1 (by decide) (by unfold maxLen; omega) (by omega) hbase _ rfl
  refine ⟨_, w', hr, h2, (Fr.refl _ w).grown h3 (fun k hk _ => own_blk hk), fun b hb => ?_, fun b hb => ?_⟩
  · cases hb
    rcases h4 with h | h
    · exact .inr (own_blk h)
    · exact .inl (Nat.le_of_eq h.symm)
  · cases hb; exact h5

theorem good_kids : ∀ {R : List B} {x : B}, good R → x ∈ R → inn R x.lo ∧ inn R x.hi
  | .N i lo hi :: r, x, hg, hx => by
    rcases List.mem_cons.1 hx with rfl | h
    · exact ⟨hg.2.1.mono (fun _ h => List.mem_cons_of_mem _ h), hg.2.2.1.mono (fun _ h => List.mem_cons_of_mem _ h)⟩
    · have := good_kids hg.2.2.2 h
      exact ⟨this.1.mono (fun _ h => List.mem_cons_of_mem _ h), this.2.mono (fun _ h => List.mem_cons_of_mem _ h)⟩
  | .F :: _, _, h, _ => h.elim
  | .T :: _, _, h, _ => h.elim

theorem dec3_cons {i : Nat} {lo hi : B} {R : List B} (hg : good (.N i lo hi :: R)) : (B.N i lo hi :: R).reverse.map (dec3 (.N i lo hi :: R)) = R.reverse.map (dec3 R) ++ [((i : Int), (place R lo : Int), (place R hi : Int))] := by
  obtain ⟨h1, h2, h3, h4⟩ := hg
  rw [List.reverse_cons, List.map_append]
  congr 1
  · refine List.map_congr_left fun x hx => ?_
    obtain ⟨k1, k2⟩ := good_kids h4 (List.mem_reverse.1 hx)
    unfold dec3
    rw [place_cons k1 h1, place_cons k2 h1]
  · simp only [List.map_cons, List.map_nil, dec3, B.lo, B.hi, B.top]
    rw [place_cons h2 h1, place_cons h3 h1]

/-- the listing at R -/
def LS (w : World) (vs vl : Value) (R : List B) : Prop := ∃ cs : List (Value × Value), cs.length = R.length ∧ (∀ p (h : p < cs.length), ∃ q n c u m d, cs[p] = (.slice q n c, .slice u m d)) ∧
  (∀ p (h : p < cs.length), ∃ V, RSet w (.agg #[cs[p].1, cs[p].2]) V (R.reverse.getD p .F).ev) ∧ w.ownsRow 0 52 2 vs R.length (flatV cs) ∧ w.ownsRow 0 68 3 vl R.length ((R.reverse.map (dec3 R)).flatMap d3)
theorem LS.nil (w : World) : LS w (.slice none 0 0) (.slice none 0 0) [] := ⟨[], rfl, fun _ h => absurd h (Nat.not_lt_zero _), fun _ h => absurd h (Nat.not_lt_zero _), World.ownsRow_nil _ _ _ _, World.ownsRow_nil _ _ _ _⟩
theorem LS.kept {w w' : World} {vs vl : Value} {R : List B} (h : LS w vs vl R) (fr : Fr nob w w') : LS w' vs vl R := by
  obtain ⟨cs, h1, h2, h3, h4, h5⟩ := h
  exact ⟨cs, h1, h2, fun p hp => (let ⟨V, hV⟩ := h3 p hp; ⟨V, hV.kept fr⟩), fr.row h4 (fun _ _ h => h), fr.row h5 (fun _ _ h => h)⟩
theorem LS.off {w w' : World} {vs vl : Value} {R : List B} {g : Nat} {x : Option Addr} {y z : Nat} {b : Value} (h : LS w vs vl R) (hb : BX w g (.slice x y z) b 113) (fr : Fr (fun k => k = g) w w') : LS w' vs vl R := by
  obtain ⟨cs, h1, h2, h3, h4, h5⟩ := h
  exact ⟨cs, h1, h2, fun p hp => (let ⟨V, hV⟩ := h3 p hp; ⟨V, hV.off hb.box.c0 fr⟩), fr.row h4 (hb.apart h4 (by decide)), fr.row h5 (hb.apart h5 (by decide))⟩
theorem LS.form {w : World} {vs vl : Value} {R : List B} (h : LS w vs vl R) : ∃ qs cs ql cl, vs = .slice qs R.length cs ∧ vl = .slice ql R.length cl := by
  obtain ⟨cs, h1, h2, h3, h4, h5⟩ := h
  obtain ⟨q, c, e⟩ := own_form h4
  obtain ⟨q', c', e'⟩ := own_form h5
  exact ⟨q, c, q', c', e, e'⟩
theorem LS.lrow {w : World} {vs vl : Value} {R : List B} (h : LS w vs vl R) : LRow w vl (R.reverse.map (dec3 R)) := by
  obtain ⟨cs, h1, h2, h3, h4, h5⟩ := h
  exact lRow_of (base := 0) (by simpa using h5)
theorem LS.ts {w : World} {vs vl : Value} {R : List B} (h : LS w vs vl R) : TS w vs R.reverse := by
  obtain ⟨cs, h1, h2, h3, h4, h5⟩ := h
  rcases id h4.2 with ⟨rfl, hn⟩ | ⟨g, cap, cur, rfl, _⟩
  · exact .inl ⟨by rw [List.length_eq_zero_iff.1 hn]; rfl, rfl⟩
  · refine .inr ⟨g, cap, cs, by simp, by simpa using h1, h2, h3, fun j u hj => ?_⟩
    have := h4.cells (g := g) rfl j u hj
    rwa [show (⟨g, 0, none⟩ : Addr).add j = ⟨g, j, none⟩ by unfold Addr.add; split <;> simp_all] at this
theorem flatV_app (cs ds : List (Value × Value)) : flatV (cs ++ ds) = flatV cs ++ flatV ds := by simp [flatV]
theorem LS.cons {w w' : World} {R : List B} {i : Nat} {lo hi : B} {cs : List (Value × Value)} {vs vl q1 q2 : Value} {V : List Nat} (hg : good (.N i lo hi :: R)) (h1 : cs.length = R.length) (h2 : ∀ p (h : p < cs.length), ∃ q n c u m d, cs[p] = (.slice q n c, .slice u m d))
    (h3 : ∀ p (h : p < cs.length), ∃ V, RSet w (.agg #[cs[p].1, cs[p].2]) V (R.reverse.getD p .F).ev) (fr : Fr nob w w') (hs : RSet w (.agg #[q1, q2]) V (B.N i lo hi).ev)
    (h4 : w'.ownsRow 0 52 2 vs (R.length + 1) (flatV cs ++ [q1, q2])) (h5 : w'.ownsRow 0 68 3 vl (R.length + 1) ((R.reverse.map (dec3 R)).flatMap d3 ++ d3 ((i : Int), (place R lo : Int), (place R hi : Int)))) : LS w' vs vl (.N i lo hi :: R) := by
  refine ⟨cs ++ [(q1, q2)], by simp [h1], fun p hp => ?_, fun p hp => ?_, ?_, ?_⟩
  · by_cases h : p < cs.length
    · rw [List.getElem_append_left h]; exact h2 p h
    · rw [List.getElem_append_right (by omega)]
      obtain ⟨qa, n1, ca, qt, n3, ct, e⟩ := hs.form
      simp only [Value.agg.injEq, Array.mk.injEq, List.cons.injEq, and_true] at e
      obtain ⟨rfl, rfl⟩ := e
      exact ⟨_, _, _, _, _, _, by simp; exact ⟨⟨rfl, rfl, rfl⟩, rfl, rfl, rfl⟩⟩
  · by_cases h : p < cs.length
    · rw [List.getElem_append_left h, List.reverse_cons, List.getD_eq_getElem?_getD, List.getElem?_append_left (by simp; omega), ← List.getD_eq_getElem?_getD]
      obtain ⟨V, hV⟩ := h3 p h
      exact ⟨V, hV.kept fr⟩
    · have e : p = cs.length := by simp at hp; omega
      subst e
      rw [List.getElem_append_right (Nat.le_refl _), List.reverse_cons, List.getD_eq_getElem?_getD, List.getElem?_append_right (by simp; omega)]
      simp only [Nat.sub_self, List.length_reverse, h1, List.getElem_cons_zero, List.getElem?_cons_zero, Option.getD_some]
      exact ⟨V, hs.kept fr⟩
  · rw [flatV_app]; exact h4
  · rw [dec3_cons hg, List.flatMap_append]
    simpa using h5
theorem flatV_cells : ∀ {cs : List (Value × Value)}, (∀ p (h : p < cs.length), ∃ q n c u m d, cs[p] = (.slice q n c, .slice u m d)) → ∀ u ∈ flatV cs, u.oneCell' = true := by
  intro cs h u hu
  simp only [flatV, List.mem_flatMap] at hu
  obtain ⟨x, hx, hu⟩ := hu
  obtain ⟨p, hp, rfl⟩ := List.getElem_of_mem hx
  obtain ⟨q, n, c, u', m, d, e⟩ := h p hp
  rw [e] at hu
  simp at hu
  rcases hu with rfl | rfl <;> rfl
theorem d3_cells (L : List Dec) : ∀ u ∈ L.flatMap d3, u.oneCell' = true := by
  intro u hu
  obtain ⟨x, _, hu⟩ := List.mem_flatMap.1 hu
  simp at hu
  rcases hu with rfl | rfl | rfl <;> rfl
theorem sz_le : ∀ {b : B} {n : Nat}, b.ok n → b.sz + 1 ≤ 2 ^ (24 - n)
  | .F, n, _ => Nat.one_le_two_pow
  | .T, n, _ => Nat.one_le_two_pow
  | .N i lo hi, n, h => by
    simp only [B.ok] at h
    have h1 := sz_le (b := lo) (n := i + 1) (by simp_all)
    have h2 := sz_le (b := hi) (n := i + 1) (by simp_all)
    have hi24 : i < 24 := by omega
    have hni : n ≤ i := by omega
    have e : 2 ^ (24 - n) ≥ 2 ^ (24 - (i + 1) + 1) := Nat.pow_le_pow_right (by omega) (by omega)
    rw [Nat.pow_succ] at e
    simp only [B.sz]
    omega
theorem vis_len (b : B) : ∀ R : List B, (vis b R).length ≤ R.length + b.sz := by
  induction b with
  | F => intro R; simp [vis]
  | T => intro R; simp [vis]
  | N i lo hi il ih =>
    intro R
    unfold vis
    split
    · omega
    · have h1 := il R
      have h2 := ih (vis lo R)
      simp only [List.length_cons, B.sz]
      omega
theorem ev_lo1 {i : Nat} {lo hi : B} {n : Nat} (h : (B.N i lo hi).ok n) (c : Cfg) : (B.N i lo hi).ev (up c i false) = lo.ev c := by
  obtain ⟨_, _, _, h4, _⟩ := h
  simp [B.ev, up, ← up_free h4 c false]
theorem ev_hi1 {i : Nat} {lo hi : B} {n : Nat} (h : (B.N i lo hi).ok n) (c : Cfg) : (B.N i lo hi).ev (up c i true) = hi.ev c := by
  obtain ⟨_, _, _, _, h5⟩ := h
  simp [B.ev, up, ← up_free h5 c true]
theorem feat_head {i : Nat} {lo hi : B} (hb : (B.N i lo hi).ok 0) : ∃ t, featL (supR (li (.N i lo hi))) = i :: t := by
  obtain ⟨_, h2, h3, h4, h5⟩ := id hb
  have hi1 : (supR (li (.N i lo hi))).testBit i = true := by
    rw [supR_dep hb]
    refine Classical.byContradiction fun hn => h3 (eq_of_ev (h4.mono (Nat.zero_le _)) (h5.mono (Nat.zero_le _)) fun c => ?_)
    refine Classical.byContradiction fun hc => hn ⟨c, ?_⟩
    rw [ev_lo1 hb, ev_hi1 hb]
    exact hc
  have hj : ∀ j, j < i → (supR (li (.N i lo hi))).testBit j = false := fun j hj => by
    rw [← Bool.not_eq_true, supR_dep hb]
    rintro ⟨c, hc⟩
    have hok : (B.N i lo hi).ok (j + 1) := ⟨by omega, h2, h3, h4, h5⟩
    exact hc (by rw [up_free hok, up_free hok])
  generalize supR (li (.N i lo hi)) = S at *
  unfold featL
  have e : List.range 24 = List.range' 0 i ++ (i :: List.range' (i + 1) (23 - i)) := by
    rw [List.range_eq_range', ← List.range'_succ]
    have := List.range'_append (s := 0) (m := i) (n := 23 - i + 1) (step := 1)
    rw [show 0 + 1 * i = i by omega, show i + (23 - i + 1) = 24 by omega] at this
    exact this.symm
  rw [e, List.filter_append, List.filter_cons_of_pos hi1]
  have e0 : (List.range' 0 i).filter S.testBit = [] := by
    rw [List.filter_eq_nil_iff]
    intro x hx
    have := List.mem_range'_1.1 hx
    rw [hj x (by omega)]
    decide
  rw [e0]
  exact ⟨_, rfl⟩
end Go.Proofs.YtpmnfpjpdpejgaaDoor
namespace Go.Proofs.YtpmnfpjpdpejgaaDoor
open Go.RowKit
open Bd

/-! Through of the reference -/
theorem good_nodup : ∀ {R : List B}, good R → R.Nodup
  | [], _ => List.nodup_nil
  | .N _ _ _ :: _, h => List.nodup_cons.2 ⟨h.1, good_nodup h.2.2.2⟩
  | .F :: _, h => h.elim
  | .T :: _, h => h.elim
theorem own_zero {w : World} {base : Nat} {e : TypeId} {size : Nat} {v : Value} {n : Nat} {xs : List Value} (h : w.ownsRow base e size v n xs) : w.ownsRow 0 e size v n xs := by
  obtain ⟨h1, h2⟩ := h
  refine ⟨h1, h2.imp id ?_⟩
  rintro ⟨g, cap, cur, e1, _, e2⟩
  exact ⟨g, cap, cur, e1, Nat.zero_le _, e2⟩
theorem plc_in {R : List B} {b : B} (h : inn R b) : plc R b = (place R b : Int) := if_pos h
theorem plc_no {R : List B} {i : Nat} {lo hi : B} (h : .N i lo hi ∉ R) : plc R (.N i lo hi) = -1 := if_neg (fun e => e.elim (fun e => by cases e) h)

set_option maxRecDepth 100000 in
set_option maxHeartbeats 1000000 in
theorem through_in (b : B) (R : List B) (hb : b.ok 0) (hg : good R) (hR : ∀ x ∈ R, x.ok 0) (hlen : R.length < 2 ^ 30) (hin : inn R b) (V : List Nat) (vs vl va : Value) (w : World) (hL : LS w vs vl R) (hsa : RSet w va V b.ev) :
    Calls Tryd.prog 71 #[.agg #[vs, vl], va] w fun e w' => ∃ vs' vl', e = .returned (.agg #[vs', vl']) ∧ LS w' vs' vl' R ∧ Below w.heap.size w w' := by
  have hP := fun W (h : Fr nob w W) => RPlace_any R hR (good_nodup hg) hlen b hb V vs vl va W (hL.kept h).ts (by obtain ⟨qs, cs, ql, cl, rfl, rfl⟩ := hL.form; exact ⟨_, _, _, rfl⟩) (hsa.kept h)
  rw [plc_in hin] at hP
  obtain ⟨qs, cs, ql, cl, rfl, rfl⟩ := hL.form
  obtain ⟨qa, n1, ca, qt, n3, ct, rfl⟩ := hsa.form
  clear hsa
  have f1 : Fr nob w (w.alloc (.cells #[.slice qs R.length cs, .slice ql R.length cl] 113)) := (Fr.refl nob w).alloc _
  have f2 : Fr nob w ((w.alloc (.cells #[.slice qs R.length cs, .slice ql R.length cl] 113)).alloc (.cells #[.slice qa n1 ca, .slice qt n3 ct] 52)) := f1.alloc _
  have f3 : Fr nob w (((w.alloc (.cells #[.slice qs R.length cs, .slice ql R.length cl] 113)).alloc (.cells #[.slice qa n1 ca, .slice qt n3 ct] 52)).alloc (.cells #[.slice none 0 0, .slice none 0 0] 113)) := f2.alloc _
  have X1 := ((BX.new w (.slice qs R.length cs) (.slice ql R.length cl) 113).kept ((Fr.refl nob _).alloc (.cells #[.slice qa n1 ca, .slice qt n3 ct] 52)) (fun h => h)).kept ((Fr.refl nob _).alloc (.cells #[.slice none 0 0, .slice none 0 0] 113)) (fun h => h)
  have X2 := (BX.new (w.alloc (.cells #[.slice qs R.length cs, .slice ql R.length cl] 113)) (.slice qa n1 ca) (.slice qt n3 ct) 52).kept ((Fr.refl nob _).alloc (.cells #[.slice none 0 0, .slice none 0 0] 113)) (fun h => h)
  have X3 := BX.new ((w.alloc (.cells #[.slice qs R.length cs, .slice ql R.length cl] 113)).alloc (.cells #[.slice qa n1 ca, .slice qt n3 ct] 52)) (.slice none 0 0) (.slice none 0 0) 113
  clear f1 f2
  have ⟨a0, a1, _⟩ := X1.box
  have ⟨b0, b1, _⟩ := X2.box
  simp only [World.size_alloc] at a0 a1 b0 b1 X1 X2 X3
  go_enter Tryd.func71, Tryd.ntmps71
  go_wp2_with fail
  generalize (((w.alloc (.cells #[.slice qs R.length cs, .slice ql R.length cl] 113)).alloc (.cells #[.slice qa n1 ca, .slice qt n3 ct] 52)).alloc (.cells #[.slice none 0 0, .slice none 0 0] 113)) = W0 at *
  refine (hP _ f3).mono ?_
  rintro e w1 ⟨rfl, hb1⟩
  have g1 := (Fr.refl nob W0).below hb1
  have frw := f3.trans g1 (fun _ _ h => h)
  have Y1 := X1.kept g1 (fun h => h)
  have Y3 := X3.kept g1 (fun h => h)
  have hLw := hL.kept frw
  have hp0 : (0 : Int) ≤ (place R b : Int) := Int.natCast_nonneg _
  clear hP hb1 a0 a1 b0 b1 X1 X2 X3 g1 f3 hL
  have ⟨a0, a1, _⟩ := Y1.box
  have ⟨r0, r1, rf⟩ := Y3.box
  have rf0 := rf 0
  have rf1 := rf 1
  have HF := Lib.hid (Y3.box.set (.slice qs R.length cs) (.slice ql R.length cl))
  have HY3 := Lib.hid Y3
  have HL := Lib.hid hLw
  have HW := Lib.hid frw
  clear rf Y1 Y3 hLw frw
  generalize place R b = pb at *
  go_wp2_with fail
  have ⟨⟨z0, z1, _⟩, hfr⟩ := HF.out
  refine bodyPost_ret (v := .agg #[.slice qs R.length cs, .slice ql R.length cl]) (by simp [results, Tryd.results71, go_sem, z0, z1]) rfl ⟨_, _, rfl, HL.out.off HY3.out hfr, ?_⟩
  exact (HW.out.trans' hfr (T := fun k => w.heap.size ≤ k) (fun _ _ h => h.elim) (fun j hj e => by omega)).to_below (Nat.le_refl _) (fun _ h => h)

theorem vis_ok {b : B} (hb : b.ok 0) {R : List B} (hR : ∀ x ∈ R, x.ok 0) : ∀ x ∈ vis b R, x.ok 0 := fun x hx => (vis_subs b R x hx).elim (hR x) (sub_ok hb)

/-- what the two halves are, and where they go -/
def R4 (lo hi : B) : Nat → Value → World → Prop := fun k v w => match k with
  | 2 => ∃ q n c u m d V, v = .agg #[.slice q n c, .slice u m d] ∧ RSet w v V lo.ev
  | 5 => ∃ q n c u m d V, v = .agg #[.slice q n c, .slice u m d] ∧ RSet w v V hi.ev
  | _ => ∃ g, v = .pointer (some ⟨g, 0, none⟩) ∧ BX w g (.slice none 0 0) (.slice none 0 0) 52
theorem R4.kept {lo hi : B} (k : Nat) (v : Value) (w w' : World) (h : R4 lo hi k v w) (fr : Fr nob w w') : R4 lo hi k v w' := by
  unfold R4 at *
  split at h
  · obtain ⟨q, n, c, u, m, d, V, e, h⟩ := h; exact ⟨q, n, c, u, m, d, V, e, h.kept fr⟩
  · obtain ⟨q, n, c, u, m, d, V, e, h⟩ := h; exact ⟨q, n, c, u, m, d, V, e, h.kept fr⟩
  · obtain ⟨g, e, h⟩ := h; exact ⟨g, e, h.kept fr (fun h => h)⟩
theorem R4.there {lo hi : B} (hlo : lo.ok 0) (hhi : hi.ok 0) (k : Nat) (w : World) : ∃ v w', Fr nob w w' ∧ R4 lo hi k v w' ∧ G.Fresh v w := by
  unfold R4
  split
  · obtain ⟨q, n, c, u, m, d, w', f', h⟩ := set_there w hlo
    exact ⟨_, w', f', ⟨q, n, c, u, m, d, _, rfl, h⟩, fun g hg => by cases hg⟩
  · obtain ⟨q, n, c, u, m, d, w', f', h⟩ := set_there w hhi
    exact ⟨_, w', f', ⟨q, n, c, u, m, d, _, rfl, h⟩, fun g hg => by cases hg⟩
  · exact ⟨_, _, (Fr.refl nob w).alloc _, ⟨_, rfl, BX.new w _ _ _⟩, fun g hg => by cases hg; exact Nat.le_refl _⟩

/-- the row of region 8 -/
def R8 (n : Nat) (xs : List Value) (q1 q2 : Value) (ys : List Value) (d : Dec) : Nat → Value → World → Prop := fun k v w => match k with
  | 2 => w.ownsRow 0 52 2 v n xs
  | 4 => ∃ g, v = .slice (some ⟨g, 0, none⟩) 1 1 ∧ w.cell? ⟨g, 0, none⟩ = some q1 ∧ w.cell? ⟨g, 1, none⟩ = some q2
  | 5 => w.ownsRow 0 52 2 v (n + 1) (xs ++ [q1, q2])
  | 8 => w.ownsRow 0 68 3 v n ys
  | 10 => ∃ g, v = .slice (some ⟨g, 0, none⟩) 1 1 ∧ w.cell? ⟨g, 0, none⟩ = some (.int .i64 d.1) ∧ w.cell? ⟨g, 1, none⟩ = some (.int .i64 d.2.1) ∧ w.cell? ⟨g, 2, none⟩ = some (.int .i64 d.2.2)
  | _ => w.ownsRow 0 68 3 v (n + 1) (ys ++ d3 d)
theorem R8.kept {n : Nat} {xs : List Value} {q1 q2 : Value} {ys : List Value} {d : Dec} (k : Nat) (v : Value) (w w' : World) (g : Option Nat) (h : R8 n xs q1 q2 ys d k v w) (fr : Fr (fun j => g = some j) w w') (hg : ∀ b, g = some b → G.blk v ≠ some b) : R8 n xs q1 q2 ys d k v w' := by
  have row : ∀ {e : TypeId} {size m : Nat} {zs : List Value}, w.ownsRow 0 e size v m zs → w'.ownsRow 0 e size v m zs := fun h => fr.row h (fun b hb e => hg b e (own_blk hb))
  unfold R8 at *
  split at h
  · exact row h
  · obtain ⟨b, rfl, h1, h2⟩ := h
    have hn : ¬ g = some b := fun e => hg b e rfl
    exact ⟨b, rfl, fr.cell' h1 hn, fr.cell' h2 hn⟩
  · exact row h
  · exact row h
  · obtain ⟨b, rfl, h1, h2, h3⟩ := h
    have hn : ¬ g = some b := fun e => hg b e rfl
    exact ⟨b, rfl, fr.cell' h1 hn, fr.cell' h2 hn, fr.cell' h3 hn⟩
  · exact row h
theorem R8.there {n : Nat} {xs : List Value} {q1 q2 : Value} {ys : List Value} {d : Dec} (hn : n + 1 ≤ maxLen) (hx : xs.length = n * 2) (hy : ys.length = n * 3) (k : Nat) (w : World) : ∃ v w', Fr nob w w' ∧ R8 n xs q1 q2 ys d k v w' ∧ G.Fresh v w := by
  have fresh : ∀ {n m : Nat}, G.Fresh (.slice (some ⟨w.heap.size, 0, none⟩) n m) w := fun b hb => by cases hb; exact Nat.le_refl _
  unfold R8
  split
  · exact ⟨_, _, (Fr.refl nob w).alloc _, own_zero (own_there w _ 2 n xs hx (by omega)), fresh⟩
  · exact ⟨_, _, (Fr.refl nob w).alloc (.cells #[q1, q2] 52), ⟨_, rfl, (two_cells' w q1 q2 _).1, (two_cells' w q1 q2 _).2⟩, fresh⟩
  · exact ⟨_, _, (Fr.refl nob w).alloc _, own_zero (own_there w _ 2 (n + 1) (xs ++ [q1, q2]) (by simp [hx]; omega) hn), fresh⟩
  · exact ⟨_, _, (Fr.refl nob w).alloc _, own_zero (own_there w _ 3 n ys hy (by omega)), fresh⟩
  · exact ⟨_, _, (Fr.refl nob w).alloc (.cells #[.int .i64 d.1, .int .i64 d.2.1, .int .i64 d.2.2] 68), ⟨_, rfl, (new_3 w _ _ _ _).1, (new_3 w _ _ _ _).2.1, (new_3 w _ _ _ _).2.2⟩, fresh⟩
  · exact ⟨_, _, (Fr.refl nob w).alloc _, own_zero (own_there w _ 3 (n + 1) (ys ++ d3 d) (by simp [hy, d3]; omega) hn), fresh⟩
theorem H.new_of {P : Program} {x : Sem Next} {w w' : World} {g : Option Nat} {S : Value → World → Prop} {v : Value} (h : x.run P w = .ok (.value v) w') (hS : S v w') (fr : Fr (fun k => g = some k) w w') (h1 : ∀ b, G.blk v = some b → w.heap.size ≤ b ∨ g = some b) (h2 : ∀ b, G.blk v = some b → b < w'.heap.size) : H.newUpon P w g S (x.run P w) := by
  rw [h]; exact ⟨hS, fr, h1, h2⟩
theorem own_at {w : World} {base : Nat} {e : TypeId} {size : Nat} {v : Value} {n : Nat} {xs : List Value} (h : w.ownsRow base e size v n xs) (b : Nat) (hb : G.blk v = some b) : base ≤ b ∧ b < w.heap.size := by
  rcases h.2 with ⟨rfl, _⟩ | ⟨g, cap, cur, rfl, h1, h2, _⟩
  · cases hb
  · cases hb; exact ⟨h1, (Array.getElem?_eq_some_iff.1 h2).1⟩

/-- a block that is a decision -/
def DX (w : World) (g : Nat) (a b c : Value) : Prop := w.heap[g]? = some (.cells #[a, b, c] 68 (0, 0))
theorem DX.new (w : World) (a b c : Value) : DX (w.alloc (.cells #[a, b, c] 68)) w.heap.size a b c := heap_alloc_new w _
theorem DX.lt {w : World} {g : Nat} {a b c : Value} (h : DX w g a b c) : g < w.heap.size := (Array.getElem?_eq_some_iff.1 h).1
theorem DX.kept {S : Nat → Prop} {w w' : World} {g : Nat} {a b c : Value} (h : DX w g a b c) (fr : Fr S w w') (hS : ¬ S g) : DX w' g a b c := (fr.block g h.lt hS).trans h
theorem DX.cells {w : World} {g : Nat} {a b c : Value} (h : DX w g a b c) : w.cell? ⟨g, 0, none⟩ = some a ∧ w.cell? ⟨g, 1, none⟩ = some b ∧ w.cell? ⟨g, 2, none⟩ = some c ∧ ∀ o, w.frozen? ⟨g, o, none⟩ = false := by
  unfold DX at h
  refine ⟨?_, ?_, ?_, fun o => ?_⟩ <;> simp [World.cell?, World.frozen?, h]
theorem DX.set {w : World} {g : Nat} {a b c : Value} (h : DX w g a b c) (x y z : Value) : DX (((w.setCell ⟨g, 0, none⟩ x).setCell ⟨g, 1, none⟩ y).setCell ⟨g, 2, none⟩ z) g x y z := cells_set (cells_set (cells_set h 0 x) 1 y) 2 z
theorem fr_set2 (w : World) (g : Nat) (x y : Value) : Fr (fun k => k = g) w ((w.setCell ⟨g, 0, none⟩ x).setCell ⟨g, 1, none⟩ y) := ((Fr.refl (fun k => k = g) w).setCell (p := ⟨g, 0, none⟩) (fun _ => rfl) x).setCell (p := ⟨g, 1, none⟩) (fun _ => rfl) y
theorem fr_set3 (w : World) (g : Nat) (x y z : Value) : Fr (fun k => k = g) w (((w.setCell ⟨g, 0, none⟩ x).setCell ⟨g, 1, none⟩ y).setCell ⟨g, 2, none⟩ z) := (fr_set2 w g x y).setCell (p := ⟨g, 2, none⟩) (fun _ => rfl) z

set_option maxRecDepth 100000 in
set_option maxHeartbeats 8000000 in
theorem through_new (i : Nat) (lo hi : B) (R : List B) (hb : (B.N i lo hi).ok 0) (hg : good R) (hR : ∀ x ∈ R, x.ok 0) (hlen : R.length + (B.N i lo hi).sz ≤ 33554432) (hno : B.N i lo hi ∉ R)
    (hil : ∀ (V : List Nat) (vs vl va : Value) (w : World), LS w vs vl R → RSet w va V lo.ev → Calls Tryd.prog 71 #[.agg #[vs, vl], va] w fun e w' => ∃ vs' vl', e = .returned (.agg #[vs', vl']) ∧ LS w' vs' vl' (vis lo R) ∧ Below w.heap.size w w')
    (hih : ∀ (V : List Nat) (vs vl va : Value) (w : World), LS w vs vl (vis lo R) → RSet w va V hi.ev → Calls Tryd.prog 71 #[.agg #[vs, vl], va] w fun e w' => ∃ vs' vl', e = .returned (.agg #[vs', vl']) ∧ LS w' vs' vl' (vis hi (vis lo R)) ∧ Below w.heap.size w w')
    (V : List Nat) (vs vl va : Value) (w : World) (hL : LS w vs vl R) (hsa : RSet w va V (B.N i lo hi).ev) :
    Calls Tryd.prog 71 #[.agg #[vs, vl], va] w fun e w' => ∃ vs' vl', e = .returned (.agg #[vs', vl']) ∧ LS w' vs' vl' (vis (.N i lo hi) R) ∧ Below w.heap.size w w' := by
  obtain ⟨_, hi24, hne, hlo, hhi⟩ := id hb
  have hlo0 := hlo.mono (Nat.zero_le _)
  have hhi0 := hhi.mono (Nat.zero_le _)
  have hvis : vis (.N i lo hi) R = .N i lo hi :: vis hi (vis lo R) := by simp [vis, hno]
  have hg3 : good (.N i lo hi :: vis hi (vis lo R)) := by rw [← hvis]; exact good_vis _ hg
  have hg2 : good (vis hi (vis lo R)) := good_vis _ (good_vis _ hg)
  have hR2 : ∀ x ∈ vis hi (vis lo R), x.ok 0 := vis_ok hhi0 (vis_ok hlo0 hR)
  have hlen2 : (vis hi (vis lo R)).length ≤ 33554432 := by
    have h1 := vis_len lo R
    have h2 := vis_len hi (vis lo R)
    simp only [B.sz] at hlen
    omega
  have hin1 : inn (vis hi (vis lo R)) lo := (inn_vis lo R).mono (mem_vis hi _)
  have hin2 : inn (vis hi (vis lo R)) hi := inn_vis hi _
  have HP := Lib.hid (fun W (h : Fr nob w W) => RPlace_any R hR (good_nodup hg) (by omega) _ hb V vs vl va W (hL.kept h).ts (by obtain ⟨qs, cs, ql, cl, rfl, rfl⟩ := hL.form; exact ⟨_, _, _, rfl⟩) (hsa.kept h))
  have HPL := Lib.hid (fun (vs vl va : Value) (Vx : List Nat) W (h : LS W vs vl (vis hi (vis lo R))) (hs : RSet W va Vx lo.ev) => (show Calls Tryd.prog 72 #[.agg #[vs, vl], va] W fun e w' => e = .returned (ik (place (vis hi (vis lo R)) lo)) ∧ Below W.heap.size W w' by
    have := RPlace_any _ hR2 (good_nodup hg2) (by omega) _ hlo0 Vx vs vl va W h.ts (by obtain ⟨qs, cs, ql, cl, rfl, rfl⟩ := h.form; exact ⟨_, _, _, rfl⟩) hs
    rwa [plc_in hin1] at this))
  have HPH := Lib.hid (fun (vs vl va : Value) (Vx : List Nat) W (h : LS W vs vl (vis hi (vis lo R))) (hs : RSet W va Vx hi.ev) => (show Calls Tryd.prog 72 #[.agg #[vs, vl], va] W fun e w' => e = .returned (ik (place (vis hi (vis lo R)) hi)) ∧ Below W.heap.size W w' by
    have := RPlace_any _ hR2 (good_nodup hg2) (by omega) _ hhi0 Vx vs vl va W h.ts (by obtain ⟨qs, cs, ql, cl, rfl, rfl⟩ := h.form; exact ⟨_, _, _, rfl⟩) hs
    rwa [plc_in hin2] at this))
  have hWl := fun W (h : RSet W va V (B.N i lo hi).ev) => (show Calls Tryd.prog 69 #[va, ik i, .bool false] W fun e w' => ∃ v', e = .returned v' ∧ RSet w' v' V lo.ev ∧ Below W.heap.size W w' from (RWithOff_any V _ i hi24 va W h).mono (fun e w' ⟨v', e1, e2, e3⟩ => ⟨v', e1, e2.congr (ev_lo1 hb), e3⟩))
  have hWh := fun W (h : RSet W va V (B.N i lo hi).ev) => (show Calls Tryd.prog 69 #[va, ik i, .bool true] W fun e w' => ∃ v', e = .returned v' ∧ RSet w' v' V hi.ev ∧ Below W.heap.size W w' from (RWithOn_any V _ i hi24 va W h).mono (fun e w' ⟨v', e1, e2, e3⟩ => ⟨v', e1, e2.congr (ev_hi1 hb), e3⟩))
  have hS := fun W (h : RSet W va V (B.N i lo hi).ev) => RSupport_any V _ va W h
  rw [supR_num hb hsa.2.1 (fun _ => rfl)] at hS
  have hF := fun W => Features_any (supR (li (.N i lo hi))) (Nat.lt_trans (supR_lt24 hb) (by decide)) W
  obtain ⟨t, ht⟩ := feat_head hb
  rw [ht] at hF
  rw [plc_no hno] at HP
  have HIL := Lib.hid hil
  have HIH := Lib.hid hih
  have HG3 := Lib.hid hg3
  have HT2 := Lib.hid (R4.there hlo0 hhi0)
  rw [hvis]
  clear hil hih hlo hhi hne ht hvis hg2 hg3 hR2 hin1 hin2 hR hno hg hlen hlo0 hhi0
  generalize supR (li (.N i lo hi)) = sup at *
  generalize vis hi (vis lo R) = R2 at *
  generalize vis lo R = R1 at *
  obtain ⟨qs, cs, ql, cl, rfl, rfl⟩ := hL.form
  obtain ⟨qa, n1, ca, qt, n3, ct, rfl⟩ := hsa.form
  have HSA := Lib.hid hsa
  have HLL := Lib.hid hL
  have f3 : Fr nob w (((w.alloc (.cells #[.slice qs R.length cs, .slice ql R.length cl] 113)).alloc (.cells #[.slice qa n1 ca, .slice qt n3 ct] 52)).alloc (.cells #[.slice none 0 0, .slice none 0 0] 113)) := (((Fr.refl nob w).alloc _).alloc _).alloc _
  have X1 := ((BX.new w (.slice qs R.length cs) (.slice ql R.length cl) 113).kept ((Fr.refl nob _).alloc (.cells #[.slice qa n1 ca, .slice qt n3 ct] 52)) (fun h => h)).kept ((Fr.refl nob _).alloc (.cells #[.slice none 0 0, .slice none 0 0] 113)) (fun h => h)
  have X2 := (BX.new (w.alloc (.cells #[.slice qs R.length cs, .slice ql R.length cl] 113)) (.slice qa n1 ca) (.slice qt n3 ct) 52).kept ((Fr.refl nob _).alloc (.cells #[.slice none 0 0, .slice none 0 0] 113)) (fun h => h)
  have X3 := BX.new ((w.alloc (.cells #[.slice qs R.length cs, .slice ql R.length cl] 113)).alloc (.cells #[.slice qa n1 ca, .slice qt n3 ct] 52)) (.slice none 0 0) (.slice none 0 0) 113
  have ⟨a0, a1, _⟩ := X1.box
  have ⟨b0, b1, _⟩ := X2.box
  simp only [World.size_alloc] at a0 a1 b0 b1 X1 X2 X3
  clear hsa hL
  go_enter Tryd.func71, Tryd.ntmps71
  go_wp2_with fail
  generalize (((w.alloc (.cells #[.slice qs R.length cs, .slice ql R.length cl] 113)).alloc (.cells #[.slice qa n1 ca, .slice qt n3 ct] 52)).alloc (.cells #[.slice none 0 0, .slice none 0 0] 113)) = W0 at *
  refine (HP.out _ f3).mono ?_
  rintro e w1 ⟨rfl, hb1⟩
  have g1 := (Fr.refl nob W0).below hb1
  have frw := f3.trans g1 (fun _ _ h => h)
  replace X1 := X1.kept g1 (fun h => h)
  replace X2 := X2.kept g1 (fun h => h)
  replace X3 := X3.kept g1 (fun h => h)
  replace a0 := g1.cell' a0 (fun h => h)
  replace a1 := g1.cell' a1 (fun h => h)
  replace b0 := g1.cell' b0 (fun h => h)
  replace b1 := g1.cell' b1 (fun h => h)
  clear HP hb1 g1 f3
  go_wp2_with fail
  refine (hS _ (HSA.out.kept frw)).mono ?_
  rintro e w2 ⟨rfl, hb1⟩
  have g1 := (Fr.refl nob w1).below hb1
  replace frw := frw.trans g1 (fun _ _ h => h)
  replace X1 := X1.kept g1 (fun h => h)
  replace X2 := X2.kept g1 (fun h => h)
  replace X3 := X3.kept g1 (fun h => h)
  replace a0 := g1.cell' a0 (fun h => h)
  replace a1 := g1.cell' a1 (fun h => h)
  replace b0 := g1.cell' b0 (fun h => h)
  replace b1 := g1.cell' b1 (fun h => h)
  clear hS hb1 g1
  go_wp2_with fail
  refine (hF _).mono ?_
  rintro e w3 ⟨vF, rfl, hF1, hb1⟩
  have g1 := (Fr.refl nob w2).below hb1
  replace frw := frw.trans g1 (fun _ _ h => h)
  replace X1 := X1.kept g1 (fun h => h)
  replace X2 := X2.kept g1 (fun h => h)
  replace X3 := X3.kept g1 (fun h => h)
  replace a0 := g1.cell' a0 (fun h => h)
  replace a1 := g1.cell' a1 (fun h => h)
  replace b0 := g1.cell' b0 (fun h => h)
  replace b1 := g1.cell' b1 (fun h => h)
  obtain ⟨aF, cF, rfl, hF2⟩ := hF1
  obtain ⟨gF, rfl, hF3⟩ := hF2 0 (ik i) rfl
  have hFl : ((i :: t).map ik).length = t.length + 1 := by simp
  rw [hFl]
  clear hF hb1 g1 hF2 hFl
  go_upto_region 4 with fail
  have HSW := Lib.hid (HSA.out.kept frw)
  refine G.wp_region 8 52 (fun k => k == 2 || k == 5 || k == 6 || k == 7) (R4 lo hi) (fun k => List.getD [Value.agg #[.slice qa n1 ca, .slice qt n3 ct], ik i, undef, Value.agg #[.slice qa n1 ca, .slice qt n3 ct], ik i, undef, undef, undef] k undef) (by kernel_rfl) (by kernel_rfl) rfl R4.kept (fun k _ => HT2.out k _) ?_
  simp only [List.take_succ_cons, List.take_zero]
  refine G.step (Value.agg #[.slice qa n1 ca, .slice qt n3 ct]) rfl rfl rfl ?s0 ?n0
  case s0 =>
    intro w' hw' hh
    have y0 := hw'.cell' b0 (fun h => h)
    have y1 := hw'.cell' b1 (fun h => h)
    clear hw' hh
    refine G.upon_value ?_
    go_simp
    try rfl
  simp only [Act.put, List.setIfInBounds_toArray, List.set_cons_zero, List.set_cons_succ]
  refine G.step (ik i) rfl rfl rfl ?s1 ?n1
  case s1 =>
    intro w' hw' hh
    clear hw' hh
    refine G.upon_value ?_
    go_simp
    try rfl
  simp only [Act.put, List.setIfInBounds_toArray, List.set_cons_zero, List.set_cons_succ]
  refine G.new rfl rfl ?s2 ?n2
  case s2 =>
    intro w' hw' hh
    clear hh
    refine G.new_call ?_ ((hWl w' (HSW.out.kept hw')).mono fun e w'' ⟨v', he, hs', hb'⟩ => ?_)
    · clear hw'
      go_simp
    · obtain ⟨q, n, c, u, m, d, rfl⟩ := hs'.form
      exact ⟨_, he, ⟨q, n, c, u, m, d, _, rfl, hs'⟩, (Fr.refl nob _).below hb', fun g hg => (by cases hg), fun g hg => (by cases hg)⟩
  rintro v2 ⟨wv, -, ⟨q2, n2, c2, u2, m2, d2, V2, rfl, -⟩, -⟩
  simp only [Act.put, List.setIfInBounds_toArray, List.set_cons_zero, List.set_cons_succ]
  refine G.step (Value.agg #[.slice qa n1 ca, .slice qt n3 ct]) rfl rfl rfl ?s3 ?n3
  case s3 =>
    intro w' hw' hh
    have y0 := hw'.cell' b0 (fun h => h)
    have y1 := hw'.cell' b1 (fun h => h)
    clear hw' hh
    refine G.upon_value ?_
    go_simp
    try rfl
  simp only [Act.put, List.setIfInBounds_toArray, List.set_cons_zero, List.set_cons_succ]
  refine G.step (ik i) rfl rfl rfl ?s4 ?n4
  case s4 =>
    intro w' hw' hh
    clear hw' hh
    refine G.upon_value ?_
    go_simp
    try rfl
  simp only [Act.put, List.setIfInBounds_toArray, List.set_cons_zero, List.set_cons_succ]
  refine G.new rfl rfl ?s5 ?n5
  case s5 =>
    intro w' hw' hh
    clear hh
    refine G.new_call ?_ ((hWh w' (HSW.out.kept hw')).mono fun e w'' ⟨v', he, hs', hb'⟩ => ?_)
    · clear hw'
      go_simp
    · obtain ⟨q, n, c, u, m, d, rfl⟩ := hs'.form
      exact ⟨_, he, ⟨q, n, c, u, m, d, _, rfl, hs'⟩, (Fr.refl nob _).below hb', fun g hg => (by cases hg), fun g hg => (by cases hg)⟩
  rintro v5 ⟨wv, -, ⟨q5, n5, c5, u5, m5, d5, V5, rfl, -⟩, -⟩
  simp only [Act.put, List.setIfInBounds_toArray, List.set_cons_zero, List.set_cons_succ]
  refine G.new rfl rfl ?s6 ?n6
  case s6 =>
    intro w' hw' hh
    clear hw' hh
    refine G.new_alloc (v := .pointer (some ⟨w'.heap.size, 0, none⟩)) (b := .cells #[.slice none 0 0, .slice none 0 0] 52) ?_ rfl ⟨_, rfl, BX.new w' _ _ _⟩
    go_simp
    try rfl
  rintro v6 ⟨wv, -, ⟨g6, rfl, -⟩, -⟩
  simp only [Act.put, List.setIfInBounds_toArray, List.set_cons_zero, List.set_cons_succ]
  refine G.new rfl rfl ?s7 ?n7
  case s7 =>
    intro w' hw' hh
    clear hw' hh
    refine G.new_alloc (v := .pointer (some ⟨w'.heap.size, 0, none⟩)) (b := .cells #[.slice none 0 0, .slice none 0 0] 52) ?_ rfl ⟨_, rfl, BX.new w' _ _ _⟩
    go_simp
    try rfl
  rintro v7 ⟨wv, -, ⟨g7, rfl, -⟩, -⟩
  simp only [Act.put, List.setIfInBounds_toArray, List.set_cons_zero, List.set_cons_succ]
  refine G.nil ?_
  rintro w4 listed fr4 hall hmade
  obtain ⟨y2, e2, ⟨q, n, c, u, m, d, VL, e2', hsl⟩, -⟩ := hmade 2 _ _ (by decide) rfl rfl rfl (hall 2 (by decide))
  obtain rfl : y2 = Value.agg #[.slice q2 n2 c2, .slice u2 m2 d2] := by simpa using e2.symm
  obtain ⟨y5, e5, ⟨q, n, c, u, m, d, VH, e5', hsh⟩, -⟩ := hmade 5 _ _ (by decide) rfl rfl rfl (hall 5 (by decide))
  obtain rfl : y5 = Value.agg #[.slice q5 n5 c5, .slice u5 m5 d5] := by simpa using e5.symm
  obtain ⟨y6, e6, ⟨g, e6', X6⟩, fresh6, -, dis6⟩ := hmade 6 _ _ (by decide) rfl rfl rfl (hall 6 (by decide))
  obtain rfl : y6 = Value.pointer (some ⟨g6, 0, none⟩) := by simpa using e6.symm
  obtain rfl : g6 = g := by simpa using e6'
  obtain ⟨y7, e7, ⟨g, e7', X7⟩, fresh7, -, -⟩ := hmade 7 _ _ (by decide) rfl rfl rfl (hall 7 (by decide))
  obtain rfl : y7 = Value.pointer (some ⟨g7, 0, none⟩) := by simpa using e7.symm
  obtain rfl : g7 = g := by simpa using e7'
  have h76 : ¬ g7 = g6 := fun e => dis6 7 _ _ _ (by decide) (by decide) rfl rfl (hall 7 (by decide)) rfl e7 g6 rfl (by rw [e]; rfl)
  have z6 := fresh6 g6 rfl
  have z7 := fresh7 g7 rfl
  have l1 := X1.lt
  have l2 := X2.lt
  have l3 := X3.lt
  clear e2 e2' e5 e5' e6 e6' e7 e7' hmade hall dis6 fresh6 fresh7 hWl hWh a0 a1 b0 b1 HSW HT2
  replace X1 := X1.kept fr4 (fun h => h)
  replace X2 := X2.kept fr4 (fun h => h)
  replace X3 := X3.kept fr4 (fun h => h)
  have F6 := fr_set2 w4 g6 (.slice q2 n2 c2) (.slice u2 m2 d2)
  have F7 := fr_set2 ((w4.setCell ⟨g6, 0, none⟩ (.slice q2 n2 c2)).setCell ⟨g6, 1, none⟩ (.slice u2 m2 d2)) g7 (.slice q5 n5 c5) (.slice u5 m5 d5)
  have hsl5 := (hsl.off X6.box.c0 F6).off (X7.kept F6 h76).box.c0 F7
  have hsh5 := (hsh.off X6.box.c0 F6).off (X7.kept F6 h76).box.c0 F7
  have Y6 := (X6.set (.slice q2 n2 c2) (.slice u2 m2 d2)).kept F7 (fun e => h76 e.symm)
  have Y7 := (X7.kept F6 h76).set (.slice q5 n5 c5) (.slice u5 m5 d5)
  have Y1 := (X1.kept F6 (by omega)).kept F7 (by omega)
  have Y2 := (X2.kept F6 (by omega)).kept F7 (by omega)
  have Y3 := (X3.kept F6 (by omega)).kept F7 (by omega)
  have lw := frw.size
  have frw5 := ((frw.trans fr4 (fun _ _ h => h)).trans F6 (fun j hj e => by exfalso; omega)).trans F7 (fun j hj e => by exfalso; omega)
  have HL5 := Lib.hid (HLL.out.kept frw5)
  have ⟨c60, c61, c6f⟩ := X6.box
  have ⟨c70, c71, c7f⟩ := X7.box
  have c6f0 := c6f 0
  have c6f1 := c6f 1
  have c7f0 := c7f 0
  have c7f1 := c7f 1
  have HY1 := Lib.hid Y1
  have HY2 := Lib.hid Y2
  have HY3 := Lib.hid Y3
  have HY6 := Lib.hid Y6
  have HY7 := Lib.hid Y7
  have HSL := Lib.hid hsl5
  have HSH := Lib.hid hsh5
  have HFR := Lib.hid frw5
  clear X1 X2 X3 X6 X7 Y1 Y2 Y3 Y6 Y7 F6 F7 hsl hsh hsl5 hsh5 frw5 frw c6f c7f fr4
  go_upto_region 5 with fail
  generalize ((((w4.setCell ⟨g6, 0, none⟩ (.slice q2 n2 c2)).setCell ⟨g6, 1, none⟩ (.slice u2 m2 d2)).setCell ⟨g7, 0, none⟩ (.slice q5 n5 c5)).setCell ⟨g7, 1, none⟩ (.slice u5 m5 d5)) = W5 at *
  clear c60 c61 c6f0 c6f1 c70 c71 c7f0 c7f1
  have HC := Lib.hid (HIL.out _ _ _ _ W5 HL5.out HSL.out)
  have ⟨a0, a1, _⟩ := HY1.out.box
  have ⟨b0, b1, _⟩ := HY6.out.box
  go_wp2_with fail
  refine HC.out.mono ?_
  rintro e w6 ⟨vs1, vl1, rfl, hL6, hb1⟩
  obtain ⟨qs1, cs1, ql1, cl1, rfl, rfl⟩ := hL6.form
  have g1 := (Fr.refl nob W5).below hb1
  have Z1 := HY1.out.kept g1 (fun h => h)
  have ⟨p0, p1, pf⟩ := Z1.box
  have pf0 := pf 0
  have pf1 := pf 1
  have F1 := fr_set2 w6 w.heap.size (.slice qs1 R1.length cs1) (.slice ql1 R1.length cl1)
  have frw6 := (HFR.out.trans g1 (fun _ _ h => h)).trans F1 (fun j hj e => by exfalso; omega)
  have HL7 := Lib.hid (hL6.off Z1 F1)
  have HSL7 := Lib.hid ((HSL.out.kept g1).off Z1.box.c0 F1)
  have HSH7 := Lib.hid ((HSH.out.kept g1).off Z1.box.c0 F1)
  have HZ1 := Lib.hid (Z1.set (.slice qs1 R1.length cs1) (.slice ql1 R1.length cl1))
  have HZ2 := Lib.hid ((HY2.out.kept g1 (fun h => h)).kept F1 (by omega))
  have HZ3 := Lib.hid ((HY3.out.kept g1 (fun h => h)).kept F1 (by omega))
  have HZ6 := Lib.hid ((HY6.out.kept g1 (fun h => h)).kept F1 (by omega))
  have HZ7 := Lib.hid ((HY7.out.kept g1 (fun h => h)).kept F1 (by omega))
  have HFR6 := Lib.hid frw6
  clear HC HY1 HY2 HY3 HY6 HY7 HSL HSH HFR HL5 hL6 hb1 g1 Z1 F1 frw6 pf a0 a1 b0 b1
  go_upto_region 6 with fail
  generalize ((w6.setCell ⟨w.heap.size, 0, none⟩ (.slice qs1 R1.length cs1)).setCell ⟨w.heap.size, 1, none⟩ (.slice ql1 R1.length cl1)) = W6 at *
  clear p0 p1 pf0 pf1
  have HC := Lib.hid (HIH.out _ _ _ _ W6 HL7.out HSH7.out)
  have ⟨a0, a1, _⟩ := HZ1.out.box
  have ⟨b0, b1, _⟩ := HZ7.out.box
  go_wp2_with fail
  refine HC.out.mono ?_
  rintro e w7 ⟨vs2, vl2, rfl, hL8, hb1⟩
  obtain ⟨qs2, cs2, ql2, cl2, rfl, rfl⟩ := hL8.form
  have g1 := (Fr.refl nob W6).below hb1
  have Z1 := HZ1.out.kept g1 (fun h => h)
  have ⟨p0, p1, pf⟩ := Z1.box
  have pf0 := pf 0
  have pf1 := pf 1
  have F1 := fr_set2 w7 w.heap.size (.slice qs2 R2.length cs2) (.slice ql2 R2.length cl2)
  have frw8 := (HFR6.out.trans g1 (fun _ _ h => h)).trans F1 (fun j hj e => by exfalso; omega)
  have HL8 := Lib.hid (hL8.off Z1 F1)
  have HSL8 := Lib.hid ((HSL7.out.kept g1).off Z1.box.c0 F1)
  have HSH8 := Lib.hid ((HSH7.out.kept g1).off Z1.box.c0 F1)
  have HX1 := Lib.hid (Z1.set (.slice qs2 R2.length cs2) (.slice ql2 R2.length cl2))
  have HX2 := Lib.hid ((HZ2.out.kept g1 (fun h => h)).kept F1 (by omega))
  have HX3 := Lib.hid ((HZ3.out.kept g1 (fun h => h)).kept F1 (by omega))
  have HX6 := Lib.hid ((HZ6.out.kept g1 (fun h => h)).kept F1 (by omega))
  have HX7 := Lib.hid ((HZ7.out.kept g1 (fun h => h)).kept F1 (by omega))
  have HFR8 := Lib.hid frw8
  clear HC HZ1 HZ2 HZ3 HZ6 HZ7 HSL7 HSH7 HFR6 HL7 hL8 hb1 g1 Z1 F1 frw8 pf a0 a1 b0 b1
  go_upto_region 7 with fail
  generalize ((w7.setCell ⟨w.heap.size, 0, none⟩ (.slice qs2 R2.length cs2)).setCell ⟨w.heap.size, 1, none⟩ (.slice ql2 R2.length cl2)) = W8 at *
  clear p0 p1 pf0 pf1
  have ⟨a0, a1, _⟩ := HX1.out.box
  have ⟨b0, b1, _⟩ := HX6.out.box
  have ⟨d0, d1, _⟩ := HX7.out.box
  refine G.wp_region 9 52 (fun k => k == 8) (fun _ v w => ∃ g, v = .pointer (some ⟨g, 0, none⟩) ∧ DX w g (.int .i64 0) (.int .i64 0) (.int .i64 0)) (fun k => List.getD [ik i, Value.agg #[.slice qs2 R2.length cs2, .slice ql2 R2.length cl2], Value.agg #[.slice q2 n2 c2, .slice u2 m2 d2], ik (place R2 lo), Value.agg #[.slice qs2 R2.length cs2, .slice ql2 R2.length cl2], Value.agg #[.slice q5 n5 c5, .slice u5 m5 d5], ik (place R2 hi), Value.agg #[ik i, ik (place R2 lo), ik (place R2 hi)], undef] k undef) (by kernel_rfl) (by kernel_rfl) rfl (fun _ _ _ _ ⟨g, e, h⟩ f => ⟨g, e, h.kept f (fun h => h)⟩) (fun k _ => ⟨_, _, (Fr.refl nob _).alloc _, ⟨_, rfl, DX.new W8 _ _ _⟩, fun g hg => by cases hg; exact Nat.le_refl _⟩) ?_
  simp only [List.take_succ_cons, List.take_zero]
  refine G.step (ik i) rfl rfl rfl ?t0G ?m0G
  case t0G =>
    intro w' hw' hh
    clear hw' hh
    refine G.upon_value ?_
    go_simp
    try rfl
  simp only [Act.put, List.setIfInBounds_toArray, List.set_cons_zero, List.set_cons_succ]
  refine G.step (Value.agg #[.slice qs2 R2.length cs2, .slice ql2 R2.length cl2]) rfl rfl rfl ?t1G ?m1G
  case t1G =>
    intro w' hw' hh
    have y0 := hw'.cell' a0 (fun h => h)
    have y1 := hw'.cell' a1 (fun h => h)
    clear hw' hh
    refine G.upon_value ?_
    go_simp
    try rfl
  simp only [Act.put, List.setIfInBounds_toArray, List.set_cons_zero, List.set_cons_succ]
  refine G.step (Value.agg #[.slice q2 n2 c2, .slice u2 m2 d2]) rfl rfl rfl ?t2G ?m2G
  case t2G =>
    intro w' hw' hh
    have y0 := hw'.cell' b0 (fun h => h)
    have y1 := hw'.cell' b1 (fun h => h)
    clear hw' hh
    refine G.upon_value ?_
    go_simp
    try rfl
  simp only [Act.put, List.setIfInBounds_toArray, List.set_cons_zero, List.set_cons_succ]
  refine G.step (ik (place R2 lo)) rfl rfl rfl ?t3G ?m3G
  case t3G =>
    intro w' hw' hh
    refine G.upon_call ?_ ((HPL.out _ _ _ _ w' (HL8.out.kept hw') (HSL8.out.kept hw')).mono fun e w'' ⟨he, hb⟩ => ⟨he, (Fr.refl nob _).below hb⟩)
    clear hw' hh
    go_simp
  simp only [Act.put, List.setIfInBounds_toArray, List.set_cons_zero, List.set_cons_succ]
  refine G.step (Value.agg #[.slice qs2 R2.length cs2, .slice ql2 R2.length cl2]) rfl rfl rfl ?t4G ?m4G
  case t4G =>
    intro w' hw' hh
    have y0 := hw'.cell' a0 (fun h => h)
    have y1 := hw'.cell' a1 (fun h => h)
    clear hw' hh
    refine G.upon_value ?_
    go_simp
    try rfl
  simp only [Act.put, List.setIfInBounds_toArray, List.set_cons_zero, List.set_cons_succ]
  refine G.step (Value.agg #[.slice q5 n5 c5, .slice u5 m5 d5]) rfl rfl rfl ?t5G ?m5G
  case t5G =>
    intro w' hw' hh
    have y0 := hw'.cell' d0 (fun h => h)
    have y1 := hw'.cell' d1 (fun h => h)
    clear hw' hh
    refine G.upon_value ?_
    go_simp
    try rfl
  simp only [Act.put, List.setIfInBounds_toArray, List.set_cons_zero, List.set_cons_succ]
  refine G.step (ik (place R2 hi)) rfl rfl rfl ?t6G ?m6G
  case t6G =>
    intro w' hw' hh
    refine G.upon_call ?_ ((HPH.out _ _ _ _ w' (HL8.out.kept hw') (HSH8.out.kept hw')).mono fun e w'' ⟨he, hb⟩ => ⟨he, (Fr.refl nob _).below hb⟩)
    clear hw' hh
    go_simp
  simp only [Act.put, List.setIfInBounds_toArray, List.set_cons_zero, List.set_cons_succ]
  refine G.step (Value.agg #[ik i, ik (place R2 lo), ik (place R2 hi)]) rfl rfl rfl ?t7G ?m7G
  case t7G =>
    intro w' hw' hh
    clear hw' hh
    refine G.upon_value ?_
    go_simp
    try rfl
  simp only [Act.put, List.setIfInBounds_toArray, List.set_cons_zero, List.set_cons_succ]
  refine G.new rfl rfl ?t8 ?m8
  case t8 =>
    intro w' hw' hh
    clear hw' hh
    refine G.new_alloc (v := .pointer (some ⟨w'.heap.size, 0, none⟩)) (b := .cells #[.int .i64 0, .int .i64 0, .int .i64 0] 68) ?_ rfl ⟨_, rfl, DX.new w' _ _ _⟩
    go_simp
    try rfl
  rintro v8 ⟨wv, -, ⟨g8, rfl, -⟩, -⟩
  simp only [Act.put, List.setIfInBounds_toArray, List.set_cons_zero, List.set_cons_succ]
  refine G.nil ?_
  rintro w9 listed9 fr9 hall hmade
  obtain ⟨y8, e8, ⟨g, e8', X8⟩, fresh8, -, -⟩ := hmade 8 _ _ (by decide) rfl rfl rfl (hall 8 (by decide))
  obtain rfl : y8 = Value.pointer (some ⟨g8, 0, none⟩) := by simpa using e8.symm
  obtain rfl : g8 = g := by simpa using e8'
  have z8 := fresh8 g8 rfl
  have k1 := HX1.out.lt
  have k2 := HX2.out.lt
  have k3 := HX3.out.lt
  have F8 := fr_set3 w9 g8 (ik i) (ik (place R2 lo)) (ik (place R2 hi))
  have ⟨c0, c1, c2', cf⟩ := X8.cells
  have cf0 := cf 0
  have cf1 := cf 1
  have cf2 := cf 2
  have HN8 := Lib.hid (X8.set (ik i) (ik (place R2 lo)) (ik (place R2 hi)))
  have frA : Fr nob W8 _ := fr9.trans F8 (fun j hj e => by exfalso; omega)
  have HL9 := Lib.hid (HL8.out.kept frA)
  have lw8 := HFR8.out.size
  have HFR9 := Lib.hid (HFR8.out.trans frA (fun _ _ h => h))
  have HN1 := Lib.hid (HX1.out.kept frA (fun h => h))
  have HN2 := Lib.hid (HX2.out.kept frA (fun h => h))
  have HN3 := Lib.hid (HX3.out.kept frA (fun h => h))
  clear HL8 HSL8 HSH8 HX1 HX2 HX3 HX6 HX7 HFR8 hmade hall e8 e8' fresh8 X8 cf F8 frA fr9 a0 a1 b0 b1 d0 d1 HPL HPH HIL HIH
  go_upto_region 8 with fail
  generalize (((w9.setCell ⟨g8, 0, none⟩ (ik i)).setCell ⟨g8, 1, none⟩ (ik (place R2 lo))).setCell ⟨g8, 2, none⟩ (ik (place R2 hi))) = W9 at *
  clear c0 c1 c2' cf0 cf1 cf2
  obtain ⟨cs, h1, h2, h3, hr1, hr2⟩ := HL9.out
  obtain ⟨iS, hiS, hzS, hsS, hyS⟩ := info_parts info_set
  obtain ⟨iD, hiD, hzD, hsD, hyD⟩ := info_parts info_dec
  have HB := Lib.hid (fun k w => @R8.there R2.length (flatV cs) (.slice qa n1 ca) (.slice qt n3 ct) ((R2.reverse.map (dec3 R2)).flatMap d3) ((i : Int), (place R2 lo : Int), (place R2 hi : Int)) (by unfold maxLen; omega) (by rw [flatV_length]; omega) (by rw [d3_len]; simp) k w)
  have ⟨a0, a1, _⟩ := HN1.out.box
  have ⟨b0, b1, _⟩ := HN2.out.box
  have ⟨d0, d1, d2', _⟩ := HN8.out.cells
  refine H.wp_region 12 52 (fun k => k == 2 || k == 4 || k == 5 || k == 8 || k == 10 || k == 11) [(5, 2), (11, 8)] (R8 R2.length (flatV cs) (.slice qa n1 ca) (.slice qt n3 ct) ((R2.reverse.map (dec3 R2)).flatMap d3) ((i : Int), (place R2 lo : Int), (place R2 hi : Int)))
    (fun k => List.getD [Value.pointer (some ⟨w.heap.size, 0, none⟩), .slice qs2 R2.length cs2, undef, Value.agg #[.slice qa n1 ca, .slice qt n3 ct], undef, undef, Value.pointer (some ⟨w.heap.size, 1, none⟩), .slice ql2 R2.length cl2, undef, Value.agg #[ik i, ik (place R2 lo), ik (place R2 hi)], undef, undef] k undef) (by kernel_rfl) (by kernel_rfl) (by kernel_rfl) (by decide) rfl (fun k v w1 w' g h f hb => h.kept k v w1 w' g f (fun b e => (hb b e).2)) (fun k _ => HB.out k W9) ?_
  simp only [List.take_succ_cons, List.take_zero]
  refine H.step (Value.pointer (some ⟨w.heap.size, 0, none⟩)) rfl rfl rfl ?t0H ?m0H
  case t0H =>
    intro w' hw' hh
    clear hw' hh
    refine G.upon_value ?_
    go_simp
    try rfl
  simp only [Act.put, List.setIfInBounds_toArray, List.set_cons_zero, List.set_cons_succ]
  refine H.step (.slice qs2 R2.length cs2) rfl rfl rfl ?t1H ?m1H
  case t1H =>
    intro w' hw' hh
    have y0 := hw'.cell' a0 (fun h => h)
    clear hw' hh
    refine G.upon_value ?_
    go_simp
    try rfl
  simp only [Act.put, List.setIfInBounds_toArray, List.set_cons_zero, List.set_cons_succ]
  refine H.new none rfl rfl rfl ?t2H ?m2H
  case t2H =>
    intro w' hw' hh
    obtain ⟨v', w'', hrun, hs', fr'⟩ := app_nil w' 47 52 iS _ 2 48 Tryd.underlying47 hiS hzS hsS hyS rfl (by decide) (.slice qs2 R2.length cs2) R2.length (flatV cs) (hw'.row hr1 (fun _ _ h => h)) (flatV_cells h2) (by omega) (by decide)
    refine H.new_of (v := v') (w' := w'') ?_ (own_zero hs') (fr'.mono (fun _ _ h => h.elim)) (fun b hb => .inl (own_at hs' b hb).1) (fun b hb => (own_at hs' b hb).2)
    clear hw' hh hs' fr'
    simp [execOp, resolve, invoke, builtin]
    erw [hrun]
    rfl
  rintro v2 ⟨wv, -, hv2, -⟩
  obtain ⟨qq2, cc2, rfl⟩ := own_form (show wv.ownsRow 0 52 2 v2 R2.length (flatV cs) from hv2)
  clear hv2
  simp only [Act.put, List.setIfInBounds_toArray, List.set_cons_zero, List.set_cons_succ]
  refine H.step (Value.agg #[.slice qa n1 ca, .slice qt n3 ct]) rfl rfl rfl ?t3H ?m3H
  case t3H =>
    intro w' hw' hh
    have y0 := hw'.cell' b0 (fun h => h)
    have y1 := hw'.cell' b1 (fun h => h)
    clear hw' hh
    refine G.upon_value ?_
    go_simp
    try rfl
  simp only [Act.put, List.setIfInBounds_toArray, List.set_cons_zero, List.set_cons_succ]
  refine H.new none rfl rfl rfl ?t4H ?m4H
  case t4H =>
    intro w' hw' hh
    clear hw' hh
    refine H.new_of (v := .slice (some ⟨w'.heap.size, 0, none⟩) 1 1) (w' := w'.alloc (.cells #[.slice qa n1 ca, .slice qt n3 ct] 52)) ?_ ⟨_, rfl, two_cells' _ _ _ _⟩ ((Fr.refl _ _).alloc _) (fun b hb => by cases hb; exact .inl (Nat.le_refl _)) (fun b hb => by cases hb; simp)
    go_simp
    try rfl
  rintro v4 ⟨wv, -, ⟨gg4, rfl, -⟩, -⟩
  simp only [Act.put, List.setIfInBounds_toArray, List.set_cons_zero, List.set_cons_succ]
  refine H.new (G.blk (.slice qq2 R2.length cc2)) rfl rfl rfl ?t5H ?m5H
  case t5H =>
    intro w' hw' hh
    have ea := hh 2 _ 41 _ (by decide) rfl (by kernel_rfl) rfl rfl (by decide) rfl
    have eb := hh 4 _ 43 _ (by decide) rfl (by kernel_rfl) rfl rfl (by decide) rfl
    obtain ⟨g, eb', y0, y1⟩ := eb
    obtain rfl : gg4 = g := by simpa using eb'
    obtain ⟨v', w'', hrun, hs', fr', hb1, hb2⟩ := app_one w' 47 52 iS _ 2 48 Tryd.underlying47 hiS hzS hsS hyS rfl (by decide) 0 (Nat.zero_le _) (.slice qq2 R2.length cc2) R2.length (flatV cs) ea (by omega) (by decide) gg4 [.slice qa n1 ca, .slice qt n3 ct] rfl (fun j u hj => by
      match j, hj with
      | 0, hj => cases hj; exact y0
      | 1, hj => cases hj; exact y1
      | j + 2, hj => simp at hj) (by simp [Value.oneCell'])
    refine H.new_of (v := v') (w' := w'') ?_ hs' fr' hb1 hb2
    clear hw' hh hs' fr' hb1 hb2 ea
    simp [execOp, resolve, invoke, builtin]
    erw [hrun]
    rfl
  rintro v5 ⟨wv, -, hv5, -⟩
  obtain ⟨qq5, cc5, rfl⟩ := own_form (show wv.ownsRow 0 52 2 v5 (R2.length + 1) (flatV cs ++ [.slice qa n1 ca, .slice qt n3 ct]) from hv5)
  clear hv5
  simp only [Act.put, List.setIfInBounds_toArray, List.set_cons_zero, List.set_cons_succ]
  refine H.step (Value.pointer (some ⟨w.heap.size, 1, none⟩)) rfl rfl rfl ?t6H ?m6H
  case t6H =>
    intro w' hw' hh
    clear hw' hh
    refine G.upon_value ?_
    go_simp
    try rfl
  simp only [Act.put, List.setIfInBounds_toArray, List.set_cons_zero, List.set_cons_succ]
  refine H.step (.slice ql2 R2.length cl2) rfl rfl rfl ?t7H ?m7H
  case t7H =>
    intro w' hw' hh
    have y0 := hw'.cell' a1 (fun h => h)
    clear hw' hh
    refine G.upon_value ?_
    go_simp
    try rfl
  simp only [Act.put, List.setIfInBounds_toArray, List.set_cons_zero, List.set_cons_succ]
  refine H.new none rfl rfl rfl ?t8H ?m8H
  case t8H =>
    intro w' hw' hh
    obtain ⟨v', w'', hrun, hs', fr'⟩ := app_nil w' 60 68 iD _ 3 24 Tryd.underlying60 hiD hzD hsD hyD rfl (by decide) (.slice ql2 R2.length cl2) R2.length ((R2.reverse.map (dec3 R2)).flatMap d3) (hw'.row hr2 (fun _ _ h => h)) (d3_cells _) (by omega) (by decide)
    refine H.new_of (v := v') (w' := w'') ?_ (own_zero hs') (fr'.mono (fun _ _ h => h.elim)) (fun b hb => .inl (own_at hs' b hb).1) (fun b hb => (own_at hs' b hb).2)
    clear hw' hh hs' fr'
    simp [execOp, resolve, invoke, builtin]
    erw [hrun]
    rfl
  rintro v8 ⟨wv, -, hv8, -⟩
  obtain ⟨qq8, cc8, rfl⟩ := own_form (show wv.ownsRow 0 68 3 v8 R2.length ((R2.reverse.map (dec3 R2)).flatMap d3) from hv8)
  clear hv8
  simp only [Act.put, List.setIfInBounds_toArray, List.set_cons_zero, List.set_cons_succ]
  refine H.step (Value.agg #[ik i, ik (place R2 lo), ik (place R2 hi)]) rfl rfl rfl ?t9H ?m9H
  case t9H =>
    intro w' hw' hh
    have y0 := hw'.cell' d0 (fun h => h)
    have y1 := hw'.cell' d1 (fun h => h)
    have y2 := hw'.cell' d2' (fun h => h)
    clear hw' hh
    refine G.upon_value ?_
    go_simp
    try rfl
  simp only [Act.put, List.setIfInBounds_toArray, List.set_cons_zero, List.set_cons_succ]
  refine H.new none rfl rfl rfl ?t10H ?m10H
  case t10H =>
    intro w' hw' hh
    clear hw' hh
    refine H.new_of (v := .slice (some ⟨w'.heap.size, 0, none⟩) 1 1) (w' := w'.alloc (.cells #[ik i, ik (place R2 lo), ik (place R2 hi)] 68)) ?_ ⟨_, rfl, new_3 _ _ _ _ _⟩ ((Fr.refl _ _).alloc _) (fun b hb => by cases hb; exact .inl (Nat.le_refl _)) (fun b hb => by cases hb; simp)
    go_simp
    try rfl
  rintro v10 ⟨wv, -, ⟨gg10, rfl, -⟩, -⟩
  simp only [Act.put, List.setIfInBounds_toArray, List.set_cons_zero, List.set_cons_succ]
  refine H.new (G.blk (.slice qq8 R2.length cc8)) rfl rfl rfl ?t11H ?m11H
  case t11H =>
    intro w' hw' hh
    have ea := hh 8 _ 47 _ (by decide) rfl (by kernel_rfl) rfl rfl (by decide) rfl
    have eb := hh 10 _ 49 _ (by decide) rfl (by kernel_rfl) rfl rfl (by decide) rfl
    obtain ⟨g, eb', y0, y1, y2⟩ := eb
    obtain rfl : gg10 = g := by simpa using eb'
    obtain ⟨v', w'', hrun, hs', fr', hb1, hb2⟩ := app_one w' 60 68 iD _ 3 24 Tryd.underlying60 hiD hzD hsD hyD rfl (by decide) 0 (Nat.zero_le _) (.slice qq8 R2.length cc8) R2.length ((R2.reverse.map (dec3 R2)).flatMap d3) ea (by omega) (by decide) gg10 (d3 ((i : Int), (place R2 lo : Int), (place R2 hi : Int))) rfl (fun j u hj => by
      match j, hj with
      | 0, hj => cases hj; exact y0
      | 1, hj => cases hj; exact y1
      | 2, hj => cases hj; exact y2
      | j + 3, hj => simp at hj) (by simp [Value.oneCell'])
    refine H.new_of (v := v') (w' := w'') ?_ hs' fr' hb1 hb2
    clear hw' hh hs' fr' hb1 hb2 ea
    simp [execOp, resolve, invoke, builtin]
    erw [hrun]
    rfl
  rintro v11 ⟨wv, -, hv11, -⟩
  obtain ⟨qq11, cc11, rfl⟩ := own_form (show wv.ownsRow 0 68 3 v11 (R2.length + 1) ((R2.reverse.map (dec3 R2)).flatMap d3 ++ (d3 ((i : Int), (place R2 lo : Int), (place R2 hi : Int)))) from hv11)
  clear hv11
  simp only [Act.put, List.setIfInBounds_toArray, List.set_cons_zero, List.set_cons_succ]
  refine H.nil ?_
  rintro w10 listed10 fr10 hall hmade
  obtain ⟨y5, e5, r5, -⟩ := hmade 5 _ _ (by decide) rfl rfl rfl (hall 5 (by decide)) (fun j _ h => absurd (H.klOf_mem h) (by simp))
  obtain rfl : y5 = Value.slice qq5 (R2.length + 1) cc5 := by simpa using e5.symm
  obtain ⟨y11, e11, r11, -⟩ := hmade 11 _ _ (by decide) rfl rfl rfl (hall 11 (by decide)) (fun j _ h => absurd (H.klOf_mem h) (by simp))
  obtain rfl : y11 = Value.slice qq11 (R2.length + 1) cc11 := by simpa using e11.symm
  have HLF := Lib.hid (LS.cons HG3.out h1 h2 h3 fr10 (HSA.out.kept HFR9.out) r5 r11)
  have frF := HFR9.out.trans fr10 (fun _ _ h => h)
  have T3 := HN3.out.kept fr10 (fun h => h)
  have ⟨r0, r1, rf⟩ := T3.box
  have rf0 := rf 0
  have rf1 := rf 1
  have HF := Lib.hid (T3.box.set (.slice qq5 (R2.length + 1) cc5) (.slice qq11 (R2.length + 1) cc11))
  have HT3 := Lib.hid T3
  have HW := Lib.hid frF
  clear rf T3 frF hmade hall r5 r11 e5 e11 a0 a1 b0 b1 d0 d1 d2' hr1 hr2 h1 h2 h3 HN1 HN2 HN3 HN8 HB HL9 HFR9 fr10
  go_wp2_with fail
  have ⟨⟨t0, t1, _⟩, hfr⟩ := HF.out
  refine bodyPost_ret (v := .agg #[.slice qq5 (R2.length + 1) cc5, .slice qq11 (R2.length + 1) cc11]) (by simp [results, Tryd.results71, go_sem, t0, t1]) rfl ⟨_, _, rfl, HLF.out.off HT3.out hfr, ?_⟩
  exact (HW.out.trans' hfr (T := fun k => w.heap.size ≤ k) (fun _ _ h => h.elim) (fun j hj e => by omega)).to_below (Nat.le_refl _) (fun _ h => h)

/-- Through lists the nodes of a set behind those that are listed -/
theorem RThrough_any (b : B) : ∀ (R : List B), b.ok 0 → good R → (∀ x ∈ R, x.ok 0) → R.length + b.sz ≤ 33554432 → ∀ (V : List Nat) (vs vl va : Value) (w : World), LS w vs vl R → RSet w va V b.ev →
    Calls Tryd.prog 71 #[.agg #[vs, vl], va] w fun e w' => ∃ vs' vl', e = .returned (.agg #[vs', vl']) ∧ LS w' vs' vl' (vis b R) ∧ Below w.heap.size w w' := by
  induction b with
  | F => intro R hb hg hR hlen V vs vl va w hL hs; exact through_in .F R hb hg hR (by omega) (.inl rfl) V vs vl va w hL hs
  | T => intro R hb hg hR hlen V vs vl va w hL hs; exact through_in .T R hb hg hR (by omega) (.inl rfl) V vs vl va w hL hs
  | N i lo hi il ih =>
    intro R hb hg hR hlen V vs vl va w hL hs
    have hlo0 := hb.2.2.2.1.mono (Nat.zero_le _)
    have hhi0 := hb.2.2.2.2.mono (Nat.zero_le _)
    by_cases hm : B.N i lo hi ∈ R
    · rw [vis_inn (.inr hm)]
      exact through_in _ R hb hg hR (by omega) (.inr hm) V vs vl va w hL hs
    · have h1 := vis_len lo R
      simp only [B.sz] at hlen
      exact through_new i lo hi R hb hg hR (by simp only [B.sz]; omega) hm (il R hlo0 hg hR (by omega)) (ih (vis lo R) hhi0 (good_vis _ hg) (vis_ok hlo0 hR) (by omega)) V vs vl va w hL hs
end Go.Proofs.YtpmnfpjpdpejgaaDoor
namespace Go.Proofs.YtpmnfpjpdpejgaaDoor
open Go.RowKit
open Bd

set_option maxRecDepth 100000 in
set_option maxHeartbeats 2000000 in
/-- Nodes of the reference -/
theorem RNodes_any (b : B) (hb : b.ok 0) (V : List Nat) (va : Value) (w : World) (hsa : RSet w va V b.ev) : Calls Tryd.prog 36 #[va] w fun e w' => ∃ v, e = .returned (.tuple #[v, .int .i64 (place (li b) b : Int)]) ∧ LRow w' v (nodD b) ∧ Below w.heap.size w w' := by
  have hsz := sz_le hb
  have hT := fun W (h : RSet W va V b.ev) => RThrough_any b [] hb trivial (fun _ h => by cases h) (by simp only [List.length_nil]; omega) V (.slice none 0 0) (.slice none 0 0) va W (LS.nil W) h
  have hlen := (small_li hb).1
  have hP := fun (vs vl : Value) W (hl : LS W vs vl (li b)) (h : RSet W va V b.ev) => (show Calls Tryd.prog 72 #[.agg #[vs, vl], va] W fun e w' => e = .returned (ik (place (li b) b)) ∧ Below W.heap.size W w' by
    have := RPlace_any (li b) (small_li hb).2 (good_nodup (good_li b)) (by omega) b hb V vs vl va W hl.ts (by obtain ⟨qs, cs, ql, cl, rfl, rfl⟩ := hl.form; exact ⟨_, _, _, rfl⟩) h
    rwa [plc_in (inn_li b)] at this)
  rw [show vis b [] = li b from rfl] at hT
  have hnd : ∀ W vs vl, LS W vs vl (li b) → LRow W vl (nodD b) := fun W vs vl h => h.lrow
  generalize nodD b = ND at *
  generalize place (li b) b = pb at *
  generalize hLB : li b = LB at *
  clear hLB hsz hlen
  obtain ⟨qa, n1, ca, qt, n3, ct, rfl⟩ := hsa.form
  have fr : Fr nob w (w.alloc (.cells #[.slice qa n1 ca, .slice qt n3 ct] 52)) := (Fr.refl nob w).alloc _
  have HSA := Lib.hid hsa
  have X2 := BX.new w (.slice qa n1 ca) (.slice qt n3 ct) 52
  have ⟨b0, b1, _⟩ := X2.box
  clear hsa
  go_enter Tryd.func36, Tryd.ntmps36
  go_wp2_with fail
  generalize w.alloc (.cells #[.slice qa n1 ca, .slice qt n3 ct] 52) = W0 at *
  refine (hT _ (HSA.out.kept fr)).mono ?_
  rintro e w1 ⟨vs, vl, rfl, hL, hb1⟩
  obtain ⟨qs, cs, ql, cl, rfl, rfl⟩ := hL.form
  have g1 := (Fr.refl nob W0).below hb1
  have frw := (fr.trans g1 (fun _ _ h => h)).alloc (.cells #[.slice qs LB.length cs, .slice ql LB.length cl] 113)
  have HL := Lib.hid (hL.kept ((Fr.refl nob w1).alloc (.cells #[.slice qs LB.length cs, .slice ql LB.length cl] 113)))
  have Y2 := (X2.kept g1 (fun h => h)).kept ((Fr.refl nob w1).alloc (.cells #[.slice qs LB.length cs, .slice ql LB.length cl] 113)) (fun h => h)
  have Y1 := BX.new w1 (.slice qs LB.length cs) (.slice ql LB.length cl) 113
  have ⟨a0, a1, _⟩ := Y1.box
  have ⟨c0, c1, _⟩ := Y2.box
  have HFR := Lib.hid frw
  clear hT hL hb1 g1 frw X2 b0 b1 Y1 Y2 fr
  go_upto_region 2 with fail
  refine wp_region_grow' 5 13 (fun _ => #[]) [] (by kernel_rfl) (by kernel_rfl) rfl rfl (by intro T h; cases h) ?_
  simp only [List.take_succ_cons, List.take_zero]
  refine grow_step (v := .pointer (some ⟨w1.heap.size, 1, none⟩)) rfl rfl ?a0 ?b0
  case a0 =>
    intro w' hw'
    clear hw'
    refine growAt_value ?_
    go_simp
    try rfl
  simp only [Act.put, List.setIfInBounds_toArray, List.set_cons_zero, List.set_cons_succ]
  refine grow_step (v := .slice ql LB.length cl) rfl rfl ?a1 ?b1
  case a1 =>
    intro w' hw'
    have y0 := hw'.cell' a1 (fun h => h)
    clear hw'
    refine growAt_value ?_
    go_simp
    try rfl
  simp only [Act.put, List.setIfInBounds_toArray, List.set_cons_zero, List.set_cons_succ]
  refine grow_step (v := .agg #[.slice qs LB.length cs, .slice ql LB.length cl]) rfl rfl ?a2 ?b2
  case a2 =>
    intro w' hw'
    have y0 := hw'.cell' a0 (fun h => h)
    have y1 := hw'.cell' a1 (fun h => h)
    clear hw'
    refine growAt_value ?_
    go_simp
    try rfl
  simp only [Act.put, List.setIfInBounds_toArray, List.set_cons_zero, List.set_cons_succ]
  refine grow_step (v := .agg #[.slice qa n1 ca, .slice qt n3 ct]) rfl rfl ?a3 ?b3
  case a3 =>
    intro w' hw'
    have y0 := hw'.cell' c0 (fun h => h)
    have y1 := hw'.cell' c1 (fun h => h)
    clear hw'
    refine growAt_value ?_
    go_simp
    try rfl
  simp only [Act.put, List.setIfInBounds_toArray, List.set_cons_zero, List.set_cons_succ]
  refine grow_step (v := ik pb) rfl rfl ?a4 ?b4
  case a4 =>
    intro w' hw'
    refine growAt_call ?_ ((hP _ _ w' (HL.out.kept hw') (HSA.out.kept (HFR.out.trans hw' (fun _ _ h => h)))).mono fun e w'' ⟨he, hb⟩ => ⟨he, (Fr.refl nob w').below hb⟩)
    clear hw'
    go_simp
  simp only [Act.put, List.setIfInBounds_toArray, List.set_cons_zero, List.set_cons_succ]
  refine grow_nil ?_
  intro w5 listed p5 _ _
  have HF := Lib.hid (HFR.out.trans p5 (fun _ _ h => h))
  have HND := Lib.hid (hnd _ _ _ (HL.out.kept p5))
  clear p5 HFR HL a0 a1 c0 c1 hP hnd
  go_wp2_with fail
  refine bodyPost_ret (v := .tuple #[.slice ql LB.length cl, .int .i64 (pb : Int)]) (by simp [results, Tryd.results36, go_sem]) rfl ⟨_, rfl, HND.out, HF.out.to_below (Nat.le_refl _) (fun _ h => h.elim)⟩
end Go.Proofs.YtpmnfpjpdpejgaaDoor
