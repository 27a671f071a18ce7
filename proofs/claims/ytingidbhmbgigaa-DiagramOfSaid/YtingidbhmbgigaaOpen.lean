/- The argument of the laws over a list of decisions, opened: from the reading as data to the cells of memory. -/
import Derived.Test.YtingidbhmbgigaaChecked
import Derived.Test.YtingidbhmbgigaaLst
import Derived.WalkKit
import Derived.ProofKit
import Derived.OpenShut
import Derived.Carry
import Derived.Deep.Slices
import Derived.Deep.Fields
import Derived.ChangeSame
namespace Go.Proofs.Ytingidbhmbgigaa
open Go.ChangeShapes Go.WideShapes Go.ChangeAt Go.RowKit Go.WideElems Go.Deep
open Bd

theorem decSize : Try.prog.cellsOf 26 = 3 := by kernel_rfl
theorem intSize : Try.prog.cellsOf 3 = 1 := by kernel_rfl
theorem decFields : (match Try.prog.underlying 26 with
    | some (.struct fs) => fs.toList.map fun f => (f.type, f.offset)
    | _ => []) = [(3, 0), (3, 1), (3, 2)] := by kernel_rfl

section
variable {H : Type} {enc : TypeId × Value → H} {w : World} {base : Nat} {spare : Nat → Bool} {held : Bool}
theorem open_dec {n : Nat} {cs : List Value} {x : DataW H × List MemPlace} (h : DataW.trod enc Try.prog w base spare held n 26 cs = some x) : ∃ a b c : Int, cs = [.int .i64 a, .int .i64 b, .int .i64 c] := by
  have hfs := decFields
  split at hfs
  · rename_i fs hst
    obtain ⟨xs, m, _, _, hlen, hxl, hf⟩ := DataW.trod_struct hst h
    rw [decSize] at hlen
    have h3 : fs.toList.length = 3 := by rw [← List.length_map (f := fun f : Field => (f.type, f.offset)), hfs]; rfl
    have hxs : xs.length = 3 := by rw [hxl]; simpa using h3
    have get : ∀ j, j < 3 → ∃ v, cs[j]? = some (.int .i64 v) := by
      intro j hj
      have hj' : j < fs.size := by have : fs.size = 3 := by simpa using h3
                                   omega
      have h1 := hf j fs[j] (by simp [hj'])
      have e : ((fs[j]).type, (fs[j]).offset) = (3, j) := by
        have := congrArg (fun l => l[j]?) hfs
        simp only [List.getElem?_map] at this
        rw [show fs.toList[j]? = some fs[j] by simp [hj']] at this
        match j, hj with
        | 0, _ => simpa using this
        | 1, _ => simpa using this
        | 2, _ => simpa using this
      obtain ⟨e1, e2⟩ := Prod.mk.inj e
      rw [e1, e2, intSize] at h1
      rw [List.getElem?_eq_getElem (by omega : j < xs.length)] at h1
      obtain ⟨v, hv, _, _⟩ := DataW.trod_int Try.underlying3 h1
      refine ⟨v, ?_⟩
      have := congrArg (fun l => l[0]?) hv
      simpa using this
    obtain ⟨a, ha⟩ := get 0 (by omega)
    obtain ⟨b, hb⟩ := get 1 (by omega)
    obtain ⟨c, hc⟩ := get 2 (by omega)
    refine ⟨a, b, c, ?_⟩
    match cs, hlen, ha, hb, hc with
    | [x, y, z], _, ha, hb, hc =>
      cases ha; cases hb; cases hc
      rfl
  · cases hfs

theorem open_decs {fuel : Nat} {cs : List Value} {x : DataW H × List MemPlace} (h : DataW.trod enc Try.prog w base spare held fuel 22 cs = some x) :
    ∃ v L, cs = [v] ∧ LRow w v L ∧ ((v = .slice none 0 0 ∧ L = []) ∨ ∃ (a : Addr) (cap : Nat), v = .slice (some a) L.length cap) := by
  rcases open_slice Try.underlying22 h with ⟨rfl, _⟩ | ⟨a, len, cap, m, n, D, Pl, rfl, _, hl, _, hm, _, hi⟩
  · exact ⟨_, [], rfl, ⟨none, 0, rfl, fun k d hd => by simp at hd⟩, .inl ⟨rfl, rfl⟩⟩
  have hlm : len ≤ m := by rw [hm]; split <;> omega
  have cell : ∀ i, i < len → ∃ d : Dec, w.cell? (a.add (i * 3)) = some (.int .i64 d.1) ∧ w.cell? (a.add (i * 3 + 1)) = some (.int .i64 d.2.1) ∧ w.cell? (a.add (i * 3 + 2)) = some (.int .i64 d.2.2) := by
    intro i hil
    obtain ⟨cs', hc, ht⟩ := hi i (by omega)
    rw [decSize] at hc
    obtain ⟨x, y, z, rfl⟩ := open_dec ht
    obtain ⟨_, _, hat⟩ := World.cells?_some hc
    refine ⟨(x, y, z), ?_, ?_, ?_⟩
    · have := hat 0 (by omega); rw [add_add] at this; simpa using this
    · have := hat 1 (by omega); rw [add_add] at this; simpa using this
    · have := hat 2 (by omega); rw [add_add] at this; simpa using this
  obtain ⟨F, hF⟩ := choose_lt cell
  refine ⟨_, (List.range len).map F, rfl, ⟨some a, cap, by simp, fun k d hd => ?_⟩, .inr ⟨a, cap, by simp⟩⟩
  rw [List.getElem?_map] at hd
  obtain ⟨k', hk', rfl⟩ := Option.map_eq_some_iff.1 hd
  obtain ⟨hkl, rfl⟩ := List.getElem?_eq_some_iff.1 hk'
  rw [List.length_range] at hkl
  rw [List.getElem_range]
  obtain ⟨c0, c1, c2⟩ := hF k hkl
  obtain ⟨ab, ao, sp⟩ := a
  have hsp : sp = none := by
    have := World.cell?_spot (hF 0 (by omega)).1
    rwa [Nat.zero_mul] at this
  subst hsp
  have ad : ∀ j, (⟨ab, ao, none⟩ : Addr).add j = ⟨ab, ao + j, none⟩ := by
    intro j
    unfold Addr.add
    split
    · rename_i h; subst h; rfl
    · rfl
  rw [ad] at c0 c1 c2
  refine ⟨ab, ao, rfl, ?_, ?_, ?_⟩
  · exact c0
  · rw [Nat.add_assoc]; exact c1
  · rw [Nat.add_assoc]; exact c2
end
end Go.Proofs.Ytingidbhmbgigaa
