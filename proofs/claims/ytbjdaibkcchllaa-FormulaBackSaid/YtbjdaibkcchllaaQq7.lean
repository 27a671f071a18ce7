/- An argument of the type of formulas, opened, where no cell that is read is frozen; how long a formula's text is. -/
import Derived.Test.YtbjdaibkcchllaaQq5
import Derived.Test.YtbjdaibkcchllaaQq1
import Derived.Test.YtbjdaibkcchllaaQd3
import Derived.Test.YtbjdaibkcchllaaQpd
import Derived.Test.YtbjdaibkcchllaaOpT
namespace Go.Proofs.Ytbjdaibkcchllaa
open Go.ChangeShapes Go.WideShapes Go.ChangeAt Go.RowKit Go.WideElems Go.Deep

theorem kidsN_of {w : World} {S : Nat → Prop} {b ob : Nat} : ∀ {ts : List Tr} {i : Nat}, (∀ (k : Nat) t, ts[k]? = some t → w.frozen? ⟨b, ob + (i + k) * 3, none⟩ = false ∧ ∃ x y z, w.cell? ⟨b, ob + (i + k) * 3, none⟩ = some x ∧ w.cell? ⟨b, ob + (i + k) * 3 + 1, none⟩ = some y ∧ w.cell? ⟨b, ob + (i + k) * 3 + 2, none⟩ = some z ∧ TrN w S t (.agg #[x, y, z])) → KidsN w S ts b ob i
  | [], _, _ => by rw [KidsN]; trivial
  | t :: ts, i, h => by
    rw [KidsN]
    refine ⟨h 0 t rfl, kidsN_of fun k u hu => ?_⟩
    have := h (k + 1) u (by simpa using hu)
    rwa [show i + (k + 1) = i + 1 + k by omega] at this
section
variable {H : Type} {enc : TypeId × Value → H} {w : World} {base : Nat} {spare : Nat → Bool} {held : Bool}
def OpenTN (w : World) (cs : List Value) (t : Tr) : Prop := wide t = true ∧ ∃ (o : Nat) (nm : List UInt8) (a : Option Addr) (ln cp : Nat), cs = [.int .u8 (o : Int), .string (txt nm), .slice a ln cp] ∧ TrN w (fun b => b < w.heap.size) t (.agg #[.int .u8 (o : Int), .string (txt nm), .slice a ln cp])
theorem open_fieldsN {m : Nat} {cs : List Value} {x : DataW H × List MemPlace} (h : DataW.trod enc Try.prog w base spare held m 25 cs = some x) :
    ∃ n a b c y0 y1 y2, m = n + 1 ∧ cs = [a, b, c] ∧ DataW.trod enc Try.prog w base spare held n 5 [a] = some y0 ∧ DataW.trod enc Try.prog w base spare held n 9 [b] = some y1 ∧ DataW.trod enc Try.prog w base spare held n 23 [c] = some y2 ∧ (∀ l ∈ y2.2, l ∈ x.2) := by
  have hfs := exprFields
  split at hfs
  · rename_i fs hst
    obtain ⟨xs, n, hm, hxe, hlen, hxl, hf⟩ := DataW.trod_struct hst h
    rw [exprSize] at hlen
    have h3 : fs.toList.length = 3 := by rw [← List.length_map (f := fun f : Field => (f.type, f.offset, Try.prog.cellsOf f.type)), hfs]; rfl
    have hxs : xs.length = 3 := by rw [hxl]; simpa using h3
    have get : ∀ j t, ([5, 9, 23] : List TypeId)[j]? = some t → ∃ y, DataW.trod enc Try.prog w base spare held n t ((cs.drop j).take 1) = some y ∧ y ∈ xs := by
      intro j t hjt
      have hj : j < 3 := (List.getElem?_eq_some_iff.1 hjt).1
      have hj' : j < fs.size := by have : fs.size = 3 := by simpa using h3
                                   omega
      have h1 := hf j fs[j] (by simp [hj'])
      have e : ((fs[j]).type, (fs[j]).offset, Try.prog.cellsOf (fs[j]).type) = (t, j, 1) := by
        have := congrArg (fun l => l[j]?) hfs
        simp only [List.getElem?_map] at this
        rw [show fs.toList[j]? = some fs[j] by simp [hj']] at this
        match j, hj, hjt with
        | 0, _, hjt => cases hjt; simpa using this
        | 1, _, hjt => cases hjt; simpa using this
        | 2, _, hjt => cases hjt; simpa using this
      obtain ⟨e1, e2⟩ := Prod.mk.inj e
      obtain ⟨e2, e3⟩ := Prod.mk.inj e2
      rw [e3, e1, e2] at h1
      exact ⟨xs[j]'(by omega), h1.trans (List.getElem?_eq_getElem (by omega)), List.getElem_mem _⟩
    obtain ⟨a, b, c, rfl⟩ := list3 hlen
    obtain ⟨y0, h0, _⟩ := get 0 5 rfl
    obtain ⟨y1, h1, _⟩ := get 1 9 rfl
    obtain ⟨y2, h2, m2⟩ := get 2 23 rfl
    exact ⟨n, a, b, c, y0, y1, y2, hm, rfl, h0, h1, h2, fun l hl => by rw [hxe]; exact List.mem_flatMap.2 ⟨y2, m2, hl⟩⟩
  · cases hfs
theorem open_treeN : ∀ (fuel : Nat) {cs : List Value} {x : DataW H × List MemPlace}, DataW.trod enc Try.prog w base spare held fuel 25 cs = some x → w.noneFrozen x.2 → ∃ t, OpenTN w cs t := by
  intro fuel
  induction fuel using Nat.strongRecOn with
  | ind fuel ih =>
    intro cs x h hnf
    obtain ⟨n, a, b, c, y0, y1, y2, rfl, rfl, h0, h1, h2, hsub⟩ := open_fieldsN h
    obtain ⟨r, hr, _, hwf⟩ := DataW.trod_int Try.underlying5 h0
    obtain rfl : a = .int .u8 r := by simpa using hr
    obtain ⟨o, rfl⟩ : ∃ o : Nat, r = (o : Int) := by
      have h : 0 ≤ r ∧ r ≤ 255 := by simpa [Lit.wf, IntKind.min, IntKind.max, IntKind.signed, IntKind.bits] using hwf
      exact ⟨r.toNat, by omega⟩
    obtain ⟨s, hs, _, hsz⟩ := DataW.trod_string Try.underlying9 h1
    obtain rfl : b = .string s := by simpa using hs
    have hnm : s.data.toList.length ≤ 9223372036854775807 := by simpa [maxLen] using hsz
    rcases DataW.trod_slice Try.underlying23 h2 with ⟨hc, _⟩ | ⟨ad, len, cap, elems, rest, m, hm, hc, hy, _, hl1, hl2, hel, hi, _, _⟩
    · obtain rfl : c = .slice none 0 0 := by simpa using hc
      refine ⟨.mk o s.data.toList [], ?_, o, s.data.toList, none, 0, 0, by rw [txt_of], ?_⟩
      · rw [wide, wideL]; simpa using hnm
      · rw [TrN]; exact ⟨none, 0, rfl, fun h => absurd rfl h⟩
    · obtain rfl : c = .slice (some ad) len cap := by simpa using hc
      subst hm
      have hrow : ∀ i, i < len → w.frozen? ⟨ad.block, ad.off + i * 3, none⟩ = false := fun i hil => by
        refine hnf _ _ (hsub _ ?_)
        rw [hy]
        refine List.mem_append_left _ ?_
        unfold MemPlace.row
        refine List.mem_map.2 ⟨i * 3, List.mem_range.2 ?_, rfl⟩
        rw [exprSize, hel]
        have : i * 3 < len * 3 := by omega
        have : len * 3 ≤ (len + rest.length) * 3 := by omega
        omega
      have cell : ∀ i, i < len → ∃ t : Tr, wide t = true ∧ ∃ (o : Nat) (nm : List UInt8) (a' : Option Addr) (ln cp : Nat), w.cell? (ad.add (i * 3)) = some (.int .u8 (o : Int)) ∧ w.cell? (ad.add (i * 3 + 1)) = some (.string (txt nm)) ∧ w.cell? (ad.add (i * 3 + 2)) = some (.slice a' ln cp) ∧ TrN w (fun b => b < w.heap.size) t (.agg #[.int .u8 (o : Int), .string (txt nm), .slice a' ln cp]) := by
        intro i hil
        have h3 := hi i hil
        rw [exprSize, List.getElem?_eq_getElem (by omega : i < elems.length)] at h3
        obtain ⟨cs', hcs, ht⟩ := Option.bind_eq_some_iff.1 h3
        have hnfi : w.noneFrozen elems[i].2 := fun b off hm => hnf b off (hsub _ (by
          rw [hy]
          exact List.mem_append_right _ (List.mem_flatMap.2 ⟨elems[i], List.mem_append_left _ (List.getElem_mem _), hm⟩)))
        obtain ⟨t, hw, o', nm', a', ln', cp', rfl, hT⟩ := ih m (by omega) ht hnfi
        obtain ⟨_, _, hat⟩ := World.cells?_some hcs
        refine ⟨t, hw, o', nm', a', ln', cp', ?_, ?_, ?_, hT⟩
        · have := hat 0 (by omega); rw [add_add] at this; simpa using this
        · have := hat 1 (by omega); rw [add_add] at this; simpa using this
        · have := hat 2 (by omega); rw [add_add] at this; simpa using this
      obtain ⟨F, hF⟩ := choose_lt cell
      have hlen : ((List.range len).map F).length = len := by simp
      refine ⟨.mk o s.data.toList ((List.range len).map F), ?_, o, s.data.toList, some ad, len, cap, by rw [txt_of], ?_⟩
      · rw [wide, Bool.and_eq_true, Bool.and_eq_true, decide_eq_true_iff, decide_eq_true_iff, hlen]
        refine ⟨⟨hnm, by have := hl2; unfold maxLen at this; omega⟩, wideL_of fun t ht => ?_⟩
        obtain ⟨i, hi, rfl⟩ := List.mem_map.1 ht
        exact (hF i (List.mem_range.1 hi)).1
      · rw [TrN]
        refine ⟨some ad, cap, by rw [hlen], fun hne => ?_⟩
        have hpos : 0 < len := by rw [← hlen]; exact List.length_pos_iff.2 hne
        obtain ⟨_, _, _, _, _, _, c0, _⟩ := hF 0 hpos
        obtain ⟨ab, ao, sp⟩ := ad
        have hsp : sp = none := by
          have := World.cell?_spot c0
          rwa [Nat.zero_mul] at this
        subst hsp
        have hlt := World.block_lt_of_cell? w _ c0
        rw [add_off] at hlt
        refine ⟨ab, ao, rfl, hlt, kidsN_of fun k t hk => ?_⟩
        rw [List.getElem?_map] at hk
        obtain ⟨k', hk', rfl⟩ := Option.map_eq_some_iff.1 hk
        obtain ⟨hkl, rfl⟩ := List.getElem?_eq_some_iff.1 hk'
        rw [List.length_range] at hkl
        rw [List.getElem_range]
        obtain ⟨_, o', nm', a', ln', cp', e0, e1, e2, hT⟩ := hF k hkl
        rw [add_off] at e0 e1 e2
        rw [show 0 + k = k by omega]
        exact ⟨hrow k hkl, _, _, _, e0, by rw [Nat.add_assoc]; exact e1, by rw [Nat.add_assoc]; exact e2, hT⟩
end
end Go.Proofs.Ytbjdaibkcchllaa
namespace Go.Proofs.Ytbjdaibkcchllaa
open Go.RowKit

mutual
theorem pr_len2 : ∀ {t : Tr} {l : Nat}, (∀ u ∈ preP t, (nmT2 u).length ≤ 32) → (prP t l).length + 5 ≤ 42 * (preP t).length
  | .mk op nm kids, l, h => by
    rw [preP] at h ⊢
    have hn : nm.length ≤ 32 := h _ List.mem_cons_self
    have hs := sgnP_le op 0
    have hL := prL_len2 (op := op) (k := 0) (ts := kids) fun u hu => h u (List.mem_cons_of_mem _ hu)
    rw [prP, List.length_cons]
    split
    · simp only [List.length_append, List.length_cons, List.length_nil]; omega
    · simp only [List.length_append]; omega
theorem prL_len2 : ∀ {op k : Nat} {ts : List Tr}, (∀ u ∈ preL ts, (nmT2 u).length ≤ 32) → (prL op k ts).length ≤ 42 * (preL ts).length
  | op, k, [], _ => by rw [prL]; simp
  | op, k, t :: ts, h => by
    rw [preL] at h ⊢
    have hs := sgnP_le op k
    have h1 := pr_len2 (t := t) (l := kidP op k) fun u hu => h u (List.mem_append_left _ hu)
    have h2 := prL_len2 (op := op) (k := k + 1) (ts := ts) fun u hu => h u (List.mem_append_right _ hu)
    rw [prL, List.length_append, List.length_append, List.length_append]
    split
    · simp only [List.length_append, List.length_cons, List.length_nil]; omega
    · simp only [List.length_nil]; omega
end
theorem one_name {u : Tr} (h : oneT u = true) : (nmT2 u).length ≤ 32 := by
  obtain ⟨op, nm, kids⟩ := u
  show nm.length ≤ 32
  have h : oneB op nm kids.length = true := h
  unfold oneB at h
  split at h
  · unfold nameB at h
    simp only [Bool.and_eq_true, decide_eq_true_iff] at h
    exact h.1.1.1.2
  · rw [Bool.and_eq_true] at h
    have h1 : nm = [] := by simpa using h.1
    rw [h1]; exact Nat.zero_le _
theorem back_pure {t : Tr} (hv : validB t = true) (hl : (preP t).length ≤ 1200) : AllOne t ∧ (prP t 0).length ≤ 65536 := by
  have ha : AllOne t := fun u hu => List.all_eq_true.1 (refV_all (by rw [refV_eq, hv] : refV t = true)) u hu
  have h := pr_len2 (t := t) (l := 0) fun u hu => one_name (ha u hu)
  exact ⟨ha, by omega⟩
theorem parse_back {t : Tr} (hv : validB t = true) (hl : (preP t).length ≤ 1200) (w : World) : Calls Try.prog 13 #[.string (txt (prP t 0))] w (ParsePost w (t, 0, 0)) := by
  obtain ⟨ha, hs⟩ := back_pure hv hl
  have hT : TX (txt (prP t 0)) = prP t 0 := txt_data _
  have hsz : (txt (prP t 0)).size = (prP t 0).length := by rw [← hT]; simp
  have hout : ∀ i, i ≤ (TX (txt (prP t 0))).length → formF (TX (txt (prP t 0))) (12 * (TX (txt (prP t 0))).length + 2) 0 i ≠ .out := fun i hi => form_out (by rw [hT] at hi; rw [hsz]; exact hi)
  have hM : ∀ t' j, wholeP (TX (txt (prP t 0))) = .ok (t', j) → tame t' = true := fun t' j h => (whole_mdl (by rw [hT]; exact hs) hout h).tame
  have h := parse_any (txt (prP t 0)) (by rw [hsz]; exact hs) hM w
  rw [hT] at h hout
  rw [parse_printed ha hv hs hout] at h
  exact h
set_option maxHeartbeats 4000000 in
set_option maxRecDepth 20000 in
theorem back_any (t : Tr) (v : Value) (w : World) (hw : wide t = true) (hT : TrN w (fun b => b < w.heap.size) t v) : Calls Try.prog 9 #[v] w fun e w' => e = .returned (.bool true) ∧ Fr nob w w' := by
  obtain ⟨o, nm, a, n, c, hform⟩ := hT.toO.form
  subst hform
  have A1 : Fr nob w (w.alloc (.cells #[.int .u8 (o : Int), .string (txt nm), .slice a n c] 25)) := (Fr.refl nob w).alloc _
  have hB1 := Box3.new w (.int .u8 (o : Int)) (.string (txt nm)) (.slice a n c) 25
  have hT1 := hT.kept (T := fun b => b < w.heap.size) A1 (fun b h _ => ⟨fun h => h, h⟩)
  have hG : Calls Try.prog 16 #[.agg #[.int .u8 (o : Int), .string (txt nm), .slice a n c], .int .i64 100] _ _ := great_any t _ _ (w.alloc (.cells #[.int .u8 (o : Int), .string (txt nm), .slice a n c] 25)) 100 (by decide) hw hT1.toO
  have HW := Lib.hid wakes_any
  have HB1 := Lib.hid hB1
  have HT1 := Lib.hid hT1
  have HF1 := Lib.hid A1
  have HWD := Lib.hid hw
  have ⟨g0, g1, g2, _⟩ := hB1
  clear hT A1 hB1 hT1 hw
  go_enter Try.func9, Try.ntmps9
  go_upto_region 1 with fail
  generalize w.alloc (.cells #[.int .u8 (o : Int), .string (txt nm), .slice a n c] 25) = W1 at *
  cases hgr : greatB t 100 with
  | true =>
    rw [hgr] at hG
    go_wp2_with (first | (go_at_call 16; with_reducible refine hG.mono ?_; rintro e w2 ⟨rfl, F2⟩) | fail)
    refine (HW.out _).mono ?_
    rintro e w3 ⟨rfl, F3⟩
    have HF3 := Lib.hid ((HF1.out.trans F2 (fun _ _ h => h)).trans F3 (fun _ _ h => h))
    clear F2 F3
    go_wp2_with fail
    go_ret
    exact ⟨rfl, HF3.out⟩
  | false =>
    rw [hgr] at hG
    have HM := Lib.hid (mild_of hgr)
    clear hgr
    cases hvb : validB t with
    | false =>
      have HVB := Lib.hid hvb
      clear hvb
      go_wp2_with (first
        | (go_at_call 16; with_reducible refine hG.mono ?_; rintro e w2 ⟨rfl, F2⟩
           have HF2 := Lib.hid (HF1.out.trans F2 (fun _ _ h => h))
           have hz2 := HF2.out.size
           have ⟨y0, y1, y2, _⟩ := HB1.out.kept F2 (fun h => h)
           have hV := refValid_any t _ (fun b => b < w.heap.size) w2 HWD.out (by have := HM.out.len; omega) (fun b h => by have h : b < w.heap.size := h; omega) (HT1.out.kept (T := fun b => b < w.heap.size) F2 (fun b h _ => ⟨fun h => h, h⟩)).toO
           rw [refV_eq, HVB.out] at hV
           clear F2 hz2 hG g0 g1 g2)
        | (go_at_call 19; with_reducible refine hV.mono ?_; rintro e w6 ⟨rfl, F6⟩
           have HF6 := Lib.hid (HF2.out.trans F6 (fun _ _ h => h))
           clear F6 hV)
        | (go_at_call 12; refine (HW.out _).mono ?_; rintro e w7 ⟨rfl, F7⟩)
        | fail)
      go_ret
      exact ⟨rfl, HF6.out.trans F7 (fun _ _ h => h)⟩
    | true =>
      have HVB := Lib.hid hvb
      clear hvb
      go_upto_region 3 with (first
        | (go_at_call 16; with_reducible refine hG.mono ?_; rintro e w2 ⟨rfl, F2⟩
           have HF2 := Lib.hid (HF1.out.trans F2 (fun _ _ h => h))
           have hz2 := HF2.out.size
           have HB2 := Lib.hid (HB1.out.kept F2 (fun h => h))
           have ⟨y0, y1, y2, _⟩ := HB2.out
           have HT2 := Lib.hid (HT1.out.kept (T := fun b => b < w.heap.size) F2 (fun b h _ => ⟨fun h => h, h⟩))
           have hV := refValid_any t _ (fun b => b < w.heap.size) w2 HWD.out (by have := HM.out.len; omega) (fun b h => by have h : b < w.heap.size := h; omega) HT2.out.toO
           rw [refV_eq, HVB.out] at hV
           clear F2 hz2 hG g0 g1 g2)
        | (go_at_call 19; with_reducible refine hV.mono ?_; rintro e w3 ⟨rfl, F3⟩
           have HF3 := Lib.hid (HF2.out.trans F3 (fun _ _ h => h))
           have HB3 := Lib.hid (HB2.out.kept F3 (fun h => h))
           have HT3 := Lib.hid (HT2.out.kept (T := fun b => b < w.heap.size) F3 (fun b h _ => ⟨fun h => h, h⟩))
           clear F3 hV y0 y1 y2 HF2 HB2 HT2)
        | fail)
      have ⟨b0, b1, b2, _⟩ := HB3.out
      have hz3 := HF3.out.size
      have hP := print_any t _ w3 HM.out.tame (HM.out.pr 0) (HT3.out.toO.kept (T := fun b => b < w3.heap.size) (Fr.refl nob _) (fun b _ hb => ⟨fun h => h, hb⟩))
      unfold PrintPost at hP
      rw [HVB.out] at hP
      have HPB := Lib.hid (fun w => parse_back HVB.out HM.out.len w)
      have HTM := Lib.hid HM.out.tame
      clear hz3
      go_wp2_with fail
      refine hP.mono ?_
      rintro e w4 ⟨F4, he⟩
      rw [if_pos trivial] at he
      subst he
      have HF4 := Lib.hid (HF3.out.trans F4 (fun _ _ h => h))
      have HB4 := Lib.hid (HB3.out.kept F4 (fun h => h))
      have HT4 := Lib.hid (HT3.out.kept (T := fun b => b < w.heap.size) F4 (fun b h _ => ⟨fun h => h, h⟩))
      have hPB := HPB.out w4
      unfold ParsePost at hPB
      clear F4 hP HF3 HB3 HT3 HPB b0 b1 b2
      generalize prP t 0 = PT at *
      go_wp2_with fail
      refine hPB.mono ?_
      rintro e w5 ⟨v5, he, hT5, F5⟩
      obtain ⟨o5, nm5, a5, n5, c5, rfl⟩ := hT5.toO.form
      (try dsimp only at hT5 he)
      subst he
      have A6 : Fr nob w5 (w5.alloc (.cells #[.int .u8 (o5 : Int), .string (txt nm5), .slice a5 n5 c5] 25)) := (Fr.refl nob w5).alloc _
      have G6 := F5.trans A6 (fun _ _ h => h)
      have HF6 := Lib.hid (HF4.out.trans G6 (fun _ _ h => h))
      have HB6 := Lib.hid (HB4.out.kept G6 (fun h => h))
      have HX6 := Lib.hid (Box3.new w5 (.int .u8 (o5 : Int)) (.string (txt nm5)) (.slice a5 n5 c5) 25)
      have HT6 := Lib.hid (HT4.out.kept (T := fun b => b < w.heap.size) G6 (fun b h _ => ⟨fun h => h, h⟩))
      have HU6 := Lib.hid ((TrN.of (fun b h => h.2) hT5.toZ).kept (T := fun b => b < w5.heap.size) A6 (fun b h hlt => ⟨fun h => h, hlt⟩))
      have HZ6 := Lib.hid G6.size
      have hz6 : w5.heap.size + 1 = (w5.alloc (.cells #[.int .u8 (o5 : Int), .string (txt nm5), .slice a5 n5 c5] 25)).heap.size := by simp
      have HZ7 := Lib.hid hz6
      clear F5 hT5 A6 G6 hPB HF4 HB4 HT4 hz6
      go_upto_region 5 with fail
      generalize w5.alloc (.cells #[.int .u8 (o5 : Int), .string (txt nm5), .slice a5 n5 c5] 25) = w6 at *
      have hz := HF6.out.size
      have hS : Calls Try.prog 27 #[.agg #[.int .u8 (o5 : Int), .string (txt nm5), .slice a5 n5 c5], .agg #[.int .u8 (o : Int), .string (txt nm), .slice a n c]] w6 fun e w' => e = .returned (.bool true) ∧ Fr nob w6 w' := by
        obtain ⟨op, nm0, kids⟩ := t
        exact alike_trees op nm0 kids _ _ _ _ w6 (fun b h => by have h : b < w5.heap.size := h; have := HZ7.out; omega) (fun b h => by have h : b < w.heap.size := h; omega) (by have := HM.out.len; omega) HU6.out HT6.out
      have ⟨b0, b1, b2, _⟩ := HB6.out
      have ⟨d0, d1, d2, _⟩ := HX6.out
      clear hz
      go_wp2_with (first
        | (go_at_call 27; with_reducible refine hS.mono ?_; rintro e w8 ⟨rfl, F8⟩
           have HF8 := Lib.hid (HF6.out.trans F8 (fun _ _ h => h))
           have ⟨z0, z1, z2, _⟩ := HB6.out.kept F8 (fun h => h)
           have hV := valid_any t _ _ w8 HTM.out (HT6.out.kept (T := fun b => b < w.heap.size) F8 (fun b h _ => ⟨fun h => h, h⟩)).toO
           rw [HVB.out] at hV
           clear F8 hS b0 b1 b2 d0 d1 d2)
        | (go_at_call 24; with_reducible refine hV.mono ?_; rintro e w9 ⟨rfl, F9⟩
           have HF9 := Lib.hid (HF8.out.trans F9 (fun _ _ h => h))
           clear F9 hV)
        | (go_at_call 12; refine (HW.out _).mono ?_; rintro e w10 ⟨rfl, F10⟩
           have HF10 := Lib.hid (HF9.out.trans F10 (fun _ _ h => h))
           clear F10)
        | fail)
      go_ret
      exact ⟨rfl, HF10.out⟩
end Go.Proofs.Ytbjdaibkcchllaa
