/- An argument of the type of formulas, opened: from the reading as data to a tree in memory. -/
import Derived.Test.YtbjdaibkcchllaaChecked
import Derived.Test.YtbjdaibkcchllaaQc1
import Derived.WalkKit
import Derived.ProofKit
import Derived.OpenShut
import Derived.Carry
import Derived.Deep.Slices
import Derived.Deep.Fields
import Derived.ChangeSame
import Derived.ChangeMaps5
namespace Go.Proofs.Ytbjdaibkcchllaa
open Go.ChangeShapes Go.WideShapes Go.ChangeAt Go.RowKit Go.WideElems Go.Deep

theorem exprSize : Try.prog.cellsOf 25 = 3 := by kernel_rfl
theorem exprFields : (match Try.prog.underlying 25 with
    | some (.struct fs) => fs.toList.map fun f => (f.type, f.offset, Try.prog.cellsOf f.type)
    | _ => []) = [(5, 0, 1), (9, 1, 1), (23, 2, 1)] := by kernel_rfl
instance : Inhabited Tr := ⟨.mk 0 [] []⟩
theorem add_off (ab ao j : Nat) : (⟨ab, ao, none⟩ : Addr).add j = ⟨ab, ao + j, none⟩ := by
  unfold Addr.add
  split
  · rename_i h; subst h; rfl
  · rfl
theorem kidsO_of {w : World} {S : Nat → Prop} {b ob : Nat} : ∀ {ts : List Tr} {i : Nat}, (∀ (k : Nat) t, ts[k]? = some t → ∃ x y z, w.cell? ⟨b, ob + (i + k) * 3, none⟩ = some x ∧ w.cell? ⟨b, ob + (i + k) * 3 + 1, none⟩ = some y ∧ w.cell? ⟨b, ob + (i + k) * 3 + 2, none⟩ = some z ∧ TrO w S t (.agg #[x, y, z])) → KidsO w S ts b ob i
  | [], _, _ => by rw [KidsO]; trivial
  | t :: ts, i, h => by
    rw [KidsO]
    refine ⟨h 0 t rfl, kidsO_of fun k u hu => ?_⟩
    have := h (k + 1) u (by simpa using hu)
    rwa [show i + (k + 1) = i + 1 + k by omega] at this
theorem wideL_of : ∀ {ts : List Tr}, (∀ t ∈ ts, wide t = true) → wideL ts = true
  | [], _ => by rw [wideL]
  | t :: ts, h => by
    rw [wideL, Bool.and_eq_true]
    exact ⟨h t List.mem_cons_self, wideL_of fun u hu => h u (List.mem_cons_of_mem _ hu)⟩
section
variable {H : Type} {enc : TypeId × Value → H} {w : World} {base : Nat} {spare : Nat → Bool} {held : Bool}
def OpenT (w : World) (cs : List Value) (t : Tr) : Prop := wide t = true ∧ ∃ (o : Nat) (nm : List UInt8) (a : Option Addr) (ln cp : Nat), cs = [.int .u8 (o : Int), .string (txt nm), .slice a ln cp] ∧ TrO w (fun b => b < w.heap.size) t (.agg #[.int .u8 (o : Int), .string (txt nm), .slice a ln cp])
theorem list3 {α : Type} : ∀ {l : List α}, l.length = 3 → ∃ a b c, l = [a, b, c]
  | [a, b, c], _ => ⟨a, b, c, rfl⟩
theorem open_fields {m : Nat} {cs : List Value} {x : DataW H × List MemPlace} (h : DataW.trod enc Try.prog w base spare held m 25 cs = some x) :
    ∃ n a b c y0 y1 y2, m = n + 1 ∧ cs = [a, b, c] ∧ DataW.trod enc Try.prog w base spare held n 5 [a] = some y0 ∧ DataW.trod enc Try.prog w base spare held n 9 [b] = some y1 ∧ DataW.trod enc Try.prog w base spare held n 23 [c] = some y2 := by
  have hfs := exprFields
  split at hfs
  · rename_i fs hst
    obtain ⟨xs, n, hm, _, hlen, hxl, hf⟩ := DataW.trod_struct hst h
    rw [exprSize] at hlen
    have h3 : fs.toList.length = 3 := by rw [← List.length_map (f := fun f : Field => (f.type, f.offset, Try.prog.cellsOf f.type)), hfs]; rfl
    have hxs : xs.length = 3 := by rw [hxl]; simpa using h3
    have get : ∀ j t, ([5, 9, 23] : List TypeId)[j]? = some t → ∃ y, DataW.trod enc Try.prog w base spare held n t ((cs.drop j).take 1) = some y := by
      intro j t hjt
      have hj : j < 3 := (List.getElem?_eq_some_iff.1 hjt).1
      have hj' : j < fs.size := by have : fs.size = 3 := by simpa using h3
                                   omega
      have h1 := hf j fs[j] (by simp [hj'])
      have e : ((fs[j]).type, (fs[j]).offset, Try.prog.cellsOf (fs[j]).type) = (t, j, 1) := by
        have := congrArg (fun l => l[j]?) hfs
        simp only [List.getElem?_map] at this
        rw [show fs.toList[j]? = some fs[j] by simp [hj']] at this
        match j, hj, hjt with
        | 0, _, hjt => cases hjt; simpa using this
        | 1, _, hjt => cases hjt; simpa using this
        | 2, _, hjt => cases hjt; simpa using this
      obtain ⟨e1, e2⟩ := Prod.mk.inj e
      obtain ⟨e2, e3⟩ := Prod.mk.inj e2
      rw [e3, e1, e2] at h1
      exact ⟨xs[j]'(by omega), h1.trans (List.getElem?_eq_getElem (by omega))⟩
    obtain ⟨a, b, c, rfl⟩ := list3 hlen
    obtain ⟨y0, h0⟩ := get 0 5 rfl
    obtain ⟨y1, h1⟩ := get 1 9 rfl
    obtain ⟨y2, h2⟩ := get 2 23 rfl
    exact ⟨n, a, b, c, y0, y1, y2, hm, rfl, h0, h1, h2⟩
  · cases hfs
theorem open_tree : ∀ (fuel : Nat) {cs : List Value} {x : DataW H × List MemPlace}, DataW.trod enc Try.prog w base spare held fuel 25 cs = some x → ∃ t, OpenT w cs t := by
  intro fuel
  induction fuel using Nat.strongRecOn with
  | ind fuel ih =>
    intro cs x h
    obtain ⟨n, a, b, c, y0, y1, y2, rfl, rfl, h0, h1, h2⟩ := open_fields h
    obtain ⟨r, hr, _, hwf⟩ := DataW.trod_int Try.underlying5 h0
    obtain rfl : a = .int .u8 r := by simpa using hr
    obtain ⟨o, rfl⟩ : ∃ o : Nat, r = (o : Int) := by
      have h : 0 ≤ r ∧ r ≤ 255 := by simpa [Lit.wf, IntKind.min, IntKind.max, IntKind.signed, IntKind.bits] using hwf
      exact ⟨r.toNat, by omega⟩
    obtain ⟨s, hs, _, hsz⟩ := DataW.trod_string Try.underlying9 h1
    obtain rfl : b = .string s := by simpa using hs
    have hnm : s.data.toList.length ≤ 9223372036854775807 := by simpa [maxLen] using hsz
    rcases DataW.trod_slice Try.underlying23 h2 with ⟨hc, _⟩ | ⟨ad, len, cap, elems, rest, m, hm, hc, _, _, hl1, hl2, hel, hi, _, _⟩
    · obtain rfl : c = .slice none 0 0 := by simpa using hc
      refine ⟨.mk o s.data.toList [], ?_, o, s.data.toList, none, 0, 0, by rw [txt_of], ?_⟩
      · rw [wide, wideL]; simpa using hnm
      · rw [TrO]; exact ⟨none, 0, rfl, fun h => absurd rfl h⟩
    · obtain rfl : c = .slice (some ad) len cap := by simpa using hc
      subst hm
      have cell : ∀ i, i < len → ∃ t : Tr, wide t = true ∧ ∃ (o : Nat) (nm : List UInt8) (a' : Option Addr) (ln cp : Nat), w.cell? (ad.add (i * 3)) = some (.int .u8 (o : Int)) ∧ w.cell? (ad.add (i * 3 + 1)) = some (.string (txt nm)) ∧ w.cell? (ad.add (i * 3 + 2)) = some (.slice a' ln cp) ∧ TrO w (fun b => b < w.heap.size) t (.agg #[.int .u8 (o : Int), .string (txt nm), .slice a' ln cp]) := by
        intro i hil
        have h3 := hi i hil
        rw [exprSize, List.getElem?_eq_getElem (by omega : i < elems.length)] at h3
        obtain ⟨cs', hcs, ht⟩ := Option.bind_eq_some_iff.1 h3
        obtain ⟨t, hw, o', nm', a', ln', cp', rfl, hT⟩ := ih m (by omega) ht
        obtain ⟨_, _, hat⟩ := World.cells?_some hcs
        refine ⟨t, hw, o', nm', a', ln', cp', ?_, ?_, ?_, hT⟩
        · have := hat 0 (by omega); rw [add_add] at this; simpa using this
        · have := hat 1 (by omega); rw [add_add] at this; simpa using this
        · have := hat 2 (by omega); rw [add_add] at this; simpa using this
      obtain ⟨F, hF⟩ := choose_lt cell
      have hlen : ((List.range len).map F).length = len := by simp
      refine ⟨.mk o s.data.toList ((List.range len).map F), ?_, o, s.data.toList, some ad, len, cap, by rw [txt_of], ?_⟩
      · rw [wide, Bool.and_eq_true, Bool.and_eq_true, decide_eq_true_iff, decide_eq_true_iff, hlen]
        refine ⟨⟨hnm, by have := hl2; unfold maxLen at this; omega⟩, wideL_of fun t ht => ?_⟩
        obtain ⟨i, hi, rfl⟩ := List.mem_map.1 ht
        exact (hF i (List.mem_range.1 hi)).1
      · rw [TrO]
        refine ⟨some ad, cap, by rw [hlen], fun hne => ?_⟩
        have hpos : 0 < len := by rw [← hlen]; exact List.length_pos_iff.2 hne
        obtain ⟨_, _, _, _, _, _, c0, _⟩ := hF 0 hpos
        obtain ⟨ab, ao, sp⟩ := ad
        have hsp : sp = none := by
          have := World.cell?_spot c0
          rwa [Nat.zero_mul] at this
        subst hsp
        have hlt := World.block_lt_of_cell? w _ c0
        rw [add_off] at hlt
        refine ⟨ab, ao, rfl, hlt, kidsO_of fun k t hk => ?_⟩
        rw [List.getElem?_map] at hk
        obtain ⟨k', hk', rfl⟩ := Option.map_eq_some_iff.1 hk
        obtain ⟨hkl, rfl⟩ := List.getElem?_eq_some_iff.1 hk'
        rw [List.length_range] at hkl
        rw [List.getElem_range]
        obtain ⟨_, o', nm', a', ln', cp', e0, e1, e2, hT⟩ := hF k hkl
        rw [add_off] at e0 e1 e2
        rw [show 0 + k = k by omega]
        exact ⟨_, _, _, e0, by rw [Nat.add_assoc]; exact e1, by rw [Nat.add_assoc]; exact e2, hT⟩
end
end Go.Proofs.Ytbjdaibkcchllaa
