import Derived.Test.YtpmnfpjpdpejgaaDoorBoths
import Derived.Test.YtpmnfpjpdpejgaaDoorRefP
import Derived.Test.YtpmnfpjpdpejgaaDoorWake
import Derived.Test.YtpmnfpjpdpejgaaDoorFoldI
namespace Go.Proofs.YtpmnfpjpdpejgaaDoor
open Go.RowKit Go.Shelf
open Bd

/-- the variable that the closure fills -/
def GX (w : World) (g : Nat) (v : Value) : Prop := w.heap[g]? = some (.cells #[v] 60 (0, 0))
theorem GX.lt {w : World} {g : Nat} {v : Value} (h : GX w g v) : g < w.heap.size := (Array.getElem?_eq_some_iff.1 h).1
theorem GX.kept {S : Nat → Prop} {w w' : World} {g : Nat} {v : Value} (h : GX w g v) (fr : Fr S w w') (hS : ¬ S g) : GX w' g v := (fr.block g h.lt hS).trans h
theorem GX.cell {w : World} {g : Nat} {v : Value} (h : GX w g v) : w.cell? ⟨g, 0, none⟩ = some v ∧ w.frozen? ⟨g, 0, none⟩ = false := by
  unfold GX at h
  constructor <;> simp [World.cell?, World.frozen?, h]
theorem GX.set {w : World} {g : Nat} {v : Value} (h : GX w g v) (x : Value) : GX (w.setCell ⟨g, 0, none⟩ x) g x := cells_set h 0 x
theorem GX.apart {w : World} {g : Nat} {u : Value} {base n : Nat} {v : Value} {xs : List Value} (h : GX w g u) (hr : w.ownsRow base 68 3 v n xs) : ∀ k, v.ownBlock = some k → ¬ k = g := by
  rintro k hk rfl
  rcases hr.2 with ⟨rfl, _⟩ | ⟨g', cap, cur, rfl, _, hg, _⟩
  · cases hk
  · cases hk
    have := h.symm.trans hg
    simp only [Option.some.injEq, Obj.cells.injEq] at this
    exact absurd this.2.1 (by decide)

set_option maxRecDepth 100000 in
set_option maxHeartbeats 2000000 in
theorem got_any (gb : Nat) (x y z : Int) (v : Value) (n : Nat) (xs : List Value) (w : World) (hX : GX w gb v) (hr : w.ownsRow 0 68 3 v n xs) (hn : n ≤ 4194304) :
    Calls Tryd.prog 41 #[.int .i64 x, .int .i64 y, .int .i64 z, .pointer (some ⟨gb, 0, none⟩)] w fun e w' => ∃ v', e = .returned (.int .i64 ((n + 2 : Nat) : Int)) ∧ GX w' gb v' ∧ w'.ownsRow 0 68 3 v' (n + 1) (xs ++ [.int .i64 x, .int .i64 y, .int .i64 z]) ∧ Fr (fun k => k = gb ∨ v.ownBlock = some k) w w' ∧ ∀ k, v'.ownBlock = some k → w.heap.size ≤ k ∨ v.ownBlock = some k := by
  obtain ⟨iD, hiD, hzD, hsD, hyD⟩ := info_parts info_dec
  have hap := hX.apart hr
  obtain ⟨q, c, rfl⟩ := own_form hr
  have ⟨a0, f0⟩ := hX.cell
  go_enter Tryd.func41, Tryd.ntmps41
  go_wp2_with (at_builtin; refine wpList_append_lies _ rfl _ _ 60 rfl 0 68 iD (.agg #[.int .i64 0, .int .i64 0, .int .i64 0]) 3 24 Tryd.underlying60 hiD hzD hsD hyD rfl (by decide) (.slice q n c) n xs rfl (hr.alloc _) ⟨w.heap.size, 0, none⟩ 1 1 [.int .i64 x, .int .i64 y, .int .i64 z] rfl rfl ?c5 ?c6 (by decide) ?c7 ?c8 (Nat.zero_le _) _ rfl ?_)
  case c5 =>
    intro j u h
    match j, h with
    | 0, h => cases h; exact (new_3 w _ _ _ _).1
    | 1, h => cases h; exact (new_3 w _ _ _ _).2.1
    | 2, h => cases h; exact (new_3 w _ _ _ _).2.2
    | j + 3, h => simp at h
  case c6 => simp [Value.oneCell']
  case c7 => unfold maxLen; omega
  case c8 => omega
  intro g cap w2 row2 gr2 hat hlt
  have fa : Fr nob w (w.alloc (.cells #[.int .i64 x, .int .i64 y, .int .i64 z] 68)) := (Fr.refl nob w).alloc _
  have fr2 : Fr (fun k => (Value.slice q n c).ownBlock = some k) (w.alloc (.cells #[.int .i64 x, .int .i64 y, .int .i64 z] 68)) w2 := (Fr.refl _ _).grown gr2 (fun k hk _ => hk)
  have X2 := (hX.kept fa (fun h => h)).kept fr2 (fun h => hap _ h rfl)
  have ⟨b0, g0⟩ := X2.cell
  have HX := Lib.hid (X2.set (.slice (some ⟨g, 0, none⟩) (n + 1) cap))
  have F3 : Fr (fun k => k = gb) w2 (w2.setCell ⟨gb, 0, none⟩ (.slice (some ⟨g, 0, none⟩) (n + 1) cap)) := (Fr.refl (fun k => k = gb) w2).setCell (p := ⟨gb, 0, none⟩) (fun _ => rfl) _
  have HR := Lib.hid (F3.row row2 (X2.apart row2))
  have HF := Lib.hid ((fa.trans' fr2 (T := fun k => k = gb ∨ (Value.slice q n c).ownBlock = some k) (fun _ _ h => h.elim) (fun _ _ h => .inr h)).trans F3 (fun _ _ h => .inl h))
  have HN := Lib.hid (show ∀ k, (Value.slice (some ⟨g, 0, none⟩) (n + 1) cap).ownBlock = some k → w.heap.size ≤ k ∨ (Value.slice q n c).ownBlock = some k from fun k hk => by
    cases hk
    rcases hat with h | h
    · exact .inr h
    · left; rw [h]; simp)
  clear fa fr2 X2 F3 hX hr hap row2 gr2 hat hlt a0 f0
  go_wp2_with fail
  go_ret
  exact ⟨_, by simp; omega, HX.out, HR.out, HF.out, HN.out⟩

/-- what Fold's join keeps -/
def GotJ (A : B) (gb : Nat) (ft : Nat → Prop) (R : List B) (w : World) : Prop := ∃ v, GX w gb v ∧ w.ownsRow 0 68 3 v R.length ((R.reverse.map (dec3 (li A))).flatMap d3) ∧ ft = fun k => k = gb ∨ v.ownBlock = some k
theorem got_join (A : B) (hA : A.ok 0) (gb : Nat) : FoldPI A (place (li A)) (GotJ A gb) gb := by
  refine ⟨?_, ?_, ?_⟩
  · rintro ft R w w' S ⟨v, hX, hr, rfl⟩ fr hS
    exact ⟨v, hX.kept fr (hS _ (.inl rfl)), fr.row hr (fun g hg => hS g (.inr hg)), rfl⟩
  · rintro ft R w ⟨v, hX, hr, rfl⟩ k hk
    rcases hk with rfl | hk
    · exact hX.lt
    · exact (own_at hr k (own_blk hk)).2
  · rintro ft R i lo hi w ⟨v, hX, hr, rfl⟩ hs
    have hlen : R.length + 1 ≤ (li A).length := by have := hs.length_le; simpa using this
    have hsm := (small_li hA).1
    refine (got_any gb (i : Int) (place (li A) lo : Int) (place (li A) hi : Int) v R.length _ w hX hr (by omega)).mono ?_
    rintro e w' ⟨v', rfl, hX', hr', fr, hn⟩
    have hp : place (li A) (.N i lo hi) = R.length + 2 := by
      rw [place_suffix (good_li A) hs (.inr List.mem_cons_self)]
      simp [place, pos]
    refine ⟨fun k => k = gb ∨ v'.ownBlock = some k, by rw [hp], ⟨v', hX', ?_, rfl⟩, fr, ?_⟩
    · have e1 : (((B.N i lo hi :: R).reverse.map (dec3 (li A))).flatMap d3) = (R.reverse.map (dec3 (li A))).flatMap d3 ++ [.int .i64 (i : Int), .int .i64 (place (li A) lo : Int), .int .i64 (place (li A) hi : Int)] := by
        rw [List.reverse_cons, List.map_append, List.flatMap_append]; rfl
      rw [e1, List.length_cons]
      exact hr'
    · rintro k (rfl | hk)
      · exact .inl (.inl rfl)
      · rcases hn k hk with h | h
        · exact .inr h
        · exact .inl (.inr h)

/-- Fold with that closure: the nodes -/
theorem fold_got (A : B) (hA : A.ok 0) (gb : Nat) (w : World) (hX : GX w gb (.slice none 0 0)) : Calls Tryd.prog 40 #[dval A, .int .i64 0, .int .i64 1, .func (.func 41) #[] #[.pointer (some ⟨gb, 0, none⟩)]] w fun e w' => ∃ v, e = .returned (.int .i64 (place (li A) A : Int)) ∧ GX w' gb v ∧ LRow w' v (nodD A) ∧ Fr (fun k => k = gb) w w' := by
  refine (foldI_any A hA (place (li A)) (GotJ A gb) gb (got_join A hA gb) 0 1 rfl rfl _ w ⟨.slice none 0 0, hX, World.ownsRow_nil _ _ _ _, rfl⟩).mono ?_
  rintro e w' ⟨ft', rfl, ⟨v, hX', hr, rfl⟩, fr, -⟩
  refine ⟨v, rfl, hX', lRow_of (base := 0) ?_, fr.mono (fun i _ h => h.elim id (fun h => by cases h))⟩
  rw [nodD_len]; exact hr

set_option maxRecDepth 100000 in
set_option maxHeartbeats 4000000 in
theorem folds_any (L : List OpD) (hx : ∀ x ∈ L, x.Fits) (v : Value) (w : World) (hv : ORow w v L) (hg : 0 < w.heap.size) (hT : Tab32 w) :
    Calls Tryd.prog 6 #[v] w fun e w' => e = .returned (.bool true) ∧ Below w.heap.size w w' := by
  have hme := Mentioned_any L hx v w hv
  have HX := Lib.hid hx
  have HV := Lib.hid hv
  have HT := Lib.hid hT
  obtain ⟨a, cap, rfl⟩ := hv.form
  clear hv hx hT
  go_enter Tryd.func6, Tryd.ntmps6
  go_wp2_with fail
  refine hme.mono ?_
  clear hme
  rintro e w1 ⟨b, rfl, hb, hb1⟩
  have f1 := (Fr.refl nob w).below hb1
  clear hb1
  cases b with
  | false =>
    clear hb
    go_wp2_with fail
    refine (wakes_any _).mono ?_
    rintro e w2 ⟨rfl, hb2⟩
    have f2 := f1.below hb2
    go_wp2_with fail
    go_ret
    exact ⟨rfl, f2.to_below (Nat.le_refl _) (fun _ h => h.elim)⟩
  | true =>
    obtain ⟨h12, h40⟩ := hb rfl
    have hbo := Both_any L (by omega) (fun x hm => ⟨HX.out x hm, Nat.le_trans (h40 x hm) (by decide)⟩) _ w1 (HV.out.kept f1) (Nat.lt_of_lt_of_le hg f1.size) (HT.out.below (f1.to_below (B := w.heap.size) (Nat.le_refl _) (fun _ h => h.elim)) hg)
    have hmk := Lib.hid (fun W (f : Fr nob w W) => Make_any L (by omega) (fun x hm => ⟨HX.out x hm, Nat.le_trans (h40 x hm) (by decide)⟩) _ W (HV.out.kept f) (Nat.lt_of_lt_of_le hg f.size) (HT.out.below (f.to_below (B := w.heap.size) (Nat.le_refl _) (fun _ h => h.elim)) hg))
    have hlen : (scr L).length = L.length + 1 := scr_len L
    have HOK := Lib.hid (ok_scr L)
    clear hb h40
    generalize scr L = s at *
    obtain ⟨m, hm⟩ : ∃ m, s.length = m + 1 := ⟨L.length, hlen⟩
    have hml : m < s.length := by omega
    have hm13 : m ≤ 12 := by omega
    clear hlen
    go_wp2_with fail
    refine hbo.mono ?_
    clear hbo
    rintro e w2 ⟨sv, tv, rfl, hS, hTr, hb2⟩
    have f2 := f1.below hb2
    clear hb2 f1
    obtain ⟨aS, capS, rfl⟩ := hS.form
    obtain ⟨gT, capT, rfl⟩ := hTr.form
    obtain ⟨qY, nY, cY, tY, mY, dY, VY, e0, e1, hsY⟩ := hTr.at hml
    have hok := ok_getD HOK.out m
    clear hS hTr
    go_wp2_with fail
    refine (hmk.out _ f2).mono ?_
    rintro e w3 ⟨sv3, rfl, hD, -, hb3⟩
    have f3 := (Fr.refl nob w2).below hb3
    obtain ⟨aD, capD, rfl⟩ := hD.form
    obtain ⟨gS, rfl, c0, c1⟩ := hD.at (getD_some hml)
    replace e0 := f3.cell' e0 (fun h => h)
    replace e1 := f3.cell' e1 (fun h => h)
    have hs3 := hsY.kept f3
    have ff3 := f2.trans f3 (fun _ _ h => h)
    try rw [hm]
    clear hD hml hmk hb3 f3 hsY f2
    generalize s.getD m .F = YX at *
    have hln := nodD_len YX
    have hsm := (small_li hok).1
    have hQ := fun W h => RNodes_any YX hok VY (.agg #[.slice qY nY cY, .slice tY mY dY]) W h
    have hE := fun va vb W => lsame_any (nodD YX) (by omega) va vb W
    have hF := fun gb W h => fold_got YX hok gb W h
    rw [← hln] at hsm
    clear hln
    generalize nodD YX = ND at *
    have e1' : ((m + 1 : Nat) : Int) - 1 = (m : Int) := by omega
    have hmf : ∀ (fn : Fn) (first cap : Array Value) (w : World), (Instr.makeFunc fn first cap).run Tryd.prog w = .ok (.func fn first cap) w := fun _ _ _ _ => rfl
    go_wp2_with fail
    refine (hQ _ hs3).mono ?_
    rintro e w4 ⟨v4, rfl, hR4, hb4⟩
    obtain ⟨aR, capR, rfl⟩ := hR4.form
    have f4 := (Fr.refl nob w3).below hb4
    replace c0 := cell_alloc_l (f4.cell c0 (fun h => h)) (.cells #[.slice none 0 0] 60)
    replace c1 := cell_alloc_l (f4.cell c1 (fun h => h)) (.cells #[.slice none 0 0] 60)
    have ff4 := (ff3.trans f4 (fun _ _ h => h)).alloc (.cells #[.slice none 0 0] 60)
    have HR := Lib.hid (fun W (f : Fr (fun k => k = w4.heap.size) (w4.alloc (.cells #[.slice none 0 0] 60)) W) => hR4.kept (((Fr.refl nob w4).alloc (.cells #[.slice none 0 0] 60)).trans f (fun j hj e => by exfalso; omega)))
    have hX5 : GX (w4.alloc (.cells #[.slice none 0 0] 60)) w4.heap.size (.slice none 0 0) := heap_alloc_new w4 _
    have lw4 : w.heap.size ≤ w4.heap.size := (ff3.trans f4 (fun _ _ h => h)).size
    clear hQ hb4 hs3 ff3 e0 e1 f4 hR4
    go_upto_region 7 with fail
    generalize w4.alloc (.cells #[.slice none 0 0] 60) = W5 at *
    generalize w4.heap.size = gb at *
    have hF5 := hF gb W5 hX5
    go_wp2_with fail
    refine hF5.mono ?_
    rintro e w6 ⟨v6, rfl, hX6, hL6, f6⟩
    obtain ⟨aL, capL, rfl⟩ := hL6.form
    have ⟨z0, _⟩ := hX6.cell
    have hR6 := HR.out w6 f6
    have ff6 := ff4.trans f6 (fun j hj e => by exfalso; omega)
    have hE6 := hE _ _ _ hL6 hR6
    clear hF hF5 hX5 HR f6 ff4 c0 c1 hL6 hR6 hE hX6
    go_wp2_with fail
    refine hE6.mono ?_
    rintro e w7 ⟨rfl, hb7⟩
    have f7 := ff6.below hb7
    clear hE6 hb7 ff6
    go_wp2_with fail
    refine (wakes_any _).mono ?_
    rintro e w8 ⟨rfl, hb8⟩
    have f8 := f7.below hb8
    clear hb8 f7
    go_wp2_with fail
    go_ret
    exact ⟨rfl, f8.to_below (Nat.le_refl _) (fun _ h => h.elim)⟩
end Go.Proofs.YtpmnfpjpdpejgaaDoor
