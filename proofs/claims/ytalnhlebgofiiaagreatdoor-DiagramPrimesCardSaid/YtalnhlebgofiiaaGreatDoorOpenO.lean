/- The argument of the laws over a script, opened: from the reading as data to the cells of memory. -/
import Derived.Test.YtalnhlebgofiiaaGreatDoorChecked
import Derived.Test.YtalnhlebgofiiaaGreatDoorMake
import Derived.WalkKit
import Derived.ProofKit
import Derived.OpenShut
import Derived.Carry
import Derived.Deep.Slices
import Derived.Deep.Fields
import Derived.ChangeSame
namespace Go.Proofs.YtalnhlebgofiiaaGreatDoor
open Go.ChangeShapes Go.WideShapes Go.ChangeAt Go.RowKit Go.WideElems Go.Deep
open Bd

theorem opSize : Tryz.prog.cellsOf 60 = 12 := by kernel_rfl
theorem i64Size : Tryz.prog.cellsOf 2 = 1 := by kernel_rfl
theorem opFields : (match Tryz.prog.underlying 60 with
    | some (.struct fs) => fs.toList.map fun f => (f.type, f.offset, Tryz.prog.cellsOf f.type)
    | _ => []) = [(5, 0, 1), (5, 1, 1), (5, 2, 1), (5, 3, 1), (5, 4, 1), (3, 5, 1), (3, 6, 1), (4, 7, 1), (23, 8, 1), (23, 9, 1), (24, 10, 1), (2, 11, 1)] := by kernel_rfl

instance : Inhabited (OpD × Value) := ⟨(⟨0, 0, 0, 0, 0, 0, 0, false, 0, 0, [], 0⟩, undef)⟩
section
variable {H : Type} {enc : TypeId × Value → H} {w : World} {base : Nat} {spare : Nat → Bool} {held : Bool}
theorem open_i64s {fuel : Nat} {cs : List Value} {x : DataW H × List MemPlace} (h : DataW.trod enc Tryz.prog w base spare held fuel 24 cs = some x) : ∃ v l, cs = [v] ∧ IRow w v l := by
  rcases open_slice Tryz.underlying24 h with ⟨rfl, _⟩ | ⟨a, len, cap, m, n, D, Pl, rfl, _, hl, _, hm, _, hi⟩
  · exact ⟨_, [], rfl, ⟨none, 0, rfl, fun _ => rfl, fun j x hx => by simp at hx⟩⟩
  have hlm : len ≤ m := by rw [hm]; split <;> omega
  have cell : ∀ i, i < len → ∃ d : Int, w.cell? (a.add i) = some (.int .i64 d) := by
    intro i hil
    obtain ⟨cs', hc, ht⟩ := hi i (by omega)
    rw [i64Size] at hc
    obtain ⟨v, rfl, _, _⟩ := DataW.trod_int Tryz.underlying2 ht
    obtain ⟨_, _, hat⟩ := World.cells?_some hc
    refine ⟨v, ?_⟩
    have := hat 0 (by omega); rw [add_add] at this; simpa using this
  obtain ⟨F, hF⟩ := choose_lt cell
  refine ⟨_, (List.range len).map F, rfl, ⟨some a, cap, by simp, (fun h => by cases h), fun k d hd => ⟨a, rfl, ?_⟩⟩⟩
  rw [List.getElem?_map] at hd
  obtain ⟨k', hk', rfl⟩ := Option.map_eq_some_iff.1 hd
  obtain ⟨hkl, rfl⟩ := List.getElem?_eq_some_iff.1 hk'
  rw [List.length_range] at hkl
  rw [List.getElem_range]
  exact hF k hkl

theorem open_op {n : Nat} {cs : List Value} {x : DataW H × List MemPlace} (h : DataW.trod enc Tryz.prog w base spare held n 60 cs = some x) : ∃ (o : OpD) (lv : Value), cs = opc o lv ∧ o.Fits ∧ IRow w lv o.l := by
  have hfs := opFields
  split at hfs
  · rename_i fs hst
    obtain ⟨xs, m, _, _, hlen, hxl, hf⟩ := DataW.trod_struct hst h
    rw [opSize] at hlen
    have h3 : fs.toList.length = 12 := by rw [← List.length_map (f := fun f : Field => (f.type, f.offset, Tryz.prog.cellsOf f.type)), hfs]; rfl
    have hxs : xs.length = 12 := by rw [hxl]; simpa using h3
    have get : ∀ j t, ([5, 5, 5, 5, 5, 3, 3, 4, 23, 23, 24, 2] : List TypeId)[j]? = some t →
        ∃ y, DataW.trod enc Tryz.prog w base spare held m t ((cs.drop j).take 1) = some y := by
      intro j t hjt
      have hj : j < 12 := (List.getElem?_eq_some_iff.1 hjt).1
      have hj' : j < fs.size := by have : fs.size = 12 := by simpa using h3
                                   omega
      have h1 := hf j fs[j] (by simp [hj'])
      have e : ((fs[j]).type, (fs[j]).offset, Tryz.prog.cellsOf (fs[j]).type) = (t, j, 1) := by
        have := congrArg (fun l => l[j]?) hfs
        simp only [List.getElem?_map] at this
        rw [show fs.toList[j]? = some fs[j] by simp [hj']] at this
        match j, hj with
        | 0, _ => simp at hjt; subst hjt; simpa using this
        | 1, _ => simp at hjt; subst hjt; simpa using this
        | 2, _ => simp at hjt; subst hjt; simpa using this
        | 3, _ => simp at hjt; subst hjt; simpa using this
        | 4, _ => simp at hjt; subst hjt; simpa using this
        | 5, _ => simp at hjt; subst hjt; simpa using this
        | 6, _ => simp at hjt; subst hjt; simpa using this
        | 7, _ => simp at hjt; subst hjt; simpa using this
        | 8, _ => simp at hjt; subst hjt; simpa using this
        | 9, _ => simp at hjt; subst hjt; simpa using this
        | 10, _ => simp at hjt; subst hjt; simpa using this
        | 11, _ => simp at hjt; subst hjt; simpa using this
      obtain ⟨e1, e2⟩ := Prod.mk.inj e
      obtain ⟨e2, e3⟩ := Prod.mk.inj e2
      rw [e3, e2, e1] at h1
      rw [List.getElem?_eq_getElem (by omega : j < xs.length)] at h1
      exact ⟨_, h1⟩
    have one : ∀ j v, (cs.drop j).take 1 = [v] → cs[j]? = some v := fun j v h => by
      have := congrArg (fun l => l[0]?) h
      simpa using this
    have gu8 : ∀ j, ([5, 5, 5, 5, 5, 3, 3, 4, 23, 23, 24, 2] : List TypeId)[j]? = some 5 → ∃ v : Nat, v < 256 ∧ cs[j]? = some (Value.int .u8 (v : Int)) := fun j hj => by
      obtain ⟨y, hy⟩ := get j _ hj
      obtain ⟨v, hv, _, hw⟩ := DataW.trod_int Tryz.underlying5 hy
      have hr : IntKind.u8.min ≤ v ∧ v ≤ IntKind.u8.max := by simpa [Lit.wf] using hw
      have hmin : IntKind.u8.min = 0 := by decide
      have hmax : IntKind.u8.max = 255 := by decide
      rw [hmin, hmax] at hr
      exact ⟨v.toNat, by omega, by rw [one j _ hv, Int.toNat_of_nonneg hr.1]⟩
    have gu32 : ∀ j, ([5, 5, 5, 5, 5, 3, 3, 4, 23, 23, 24, 2] : List TypeId)[j]? = some 23 → ∃ v : Nat, v < 4294967296 ∧ cs[j]? = some (Value.int .u32 (v : Int)) := fun j hj => by
      obtain ⟨y, hy⟩ := get j _ hj
      obtain ⟨v, hv, _, hw⟩ := DataW.trod_int Tryz.underlying23 hy
      have hr : IntKind.u32.min ≤ v ∧ v ≤ IntKind.u32.max := by simpa [Lit.wf] using hw
      have hmin : IntKind.u32.min = 0 := by decide
      have hmax : IntKind.u32.max = 4294967295 := by decide
      rw [hmin, hmax] at hr
      exact ⟨v.toNat, by omega, by rw [one j _ hv, Int.toNat_of_nonneg hr.1]⟩
    obtain ⟨a0, r0, c0⟩ := gu8 0 rfl
    obtain ⟨a1, r1, c1⟩ := gu8 1 rfl
    obtain ⟨a2, r2, c2⟩ := gu8 2 rfl
    obtain ⟨a3, r3, c3⟩ := gu8 3 rfl
    obtain ⟨a4, r4, c4⟩ := gu8 4 rfl
    obtain ⟨_, y5⟩ := get 5 _ rfl
    obtain ⟨a5, c5, _, _⟩ := DataW.trod_int Tryz.underlying3 y5
    replace c5 := one 5 _ c5
    obtain ⟨_, y6⟩ := get 6 _ rfl
    obtain ⟨a6, c6, _, _⟩ := DataW.trod_int Tryz.underlying3 y6
    replace c6 := one 6 _ c6
    obtain ⟨_, y7⟩ := get 7 _ rfl
    obtain ⟨a7, c7, _⟩ := DataW.trod_bool Tryz.underlying4 y7
    replace c7 := one 7 _ c7
    obtain ⟨a8, r8, c8⟩ := gu32 8 rfl
    obtain ⟨a9, r9, c9⟩ := gu32 9 rfl
    obtain ⟨_, y10⟩ := get 10 _ rfl
    obtain ⟨lv, l, c10, hil⟩ := open_i64s y10
    replace c10 := one 10 _ c10
    obtain ⟨_, y11⟩ := get 11 _ rfl
    obtain ⟨a11, c11, _, _⟩ := DataW.trod_int Tryz.underlying2 y11
    replace c11 := one 11 _ c11
    refine ⟨⟨a0, a1, a2, a3, a4, a5, a6, a7, a8, a9, l, a11⟩, lv, ?_, ⟨r0, r1, r2, r3, r4, r8, r9⟩, hil⟩
    clear get gu8 gu32 one y5 y6 y7 y10 y11 hf h hfs
    refine List.ext_getElem? fun j => ?_
    by_cases hj : j < 12
    · match j, hj with
      | 0, _ => exact c0
      | 1, _ => exact c1
      | 2, _ => exact c2
      | 3, _ => exact c3
      | 4, _ => exact c4
      | 5, _ => exact c5
      | 6, _ => exact c6
      | 7, _ => exact c7
      | 8, _ => exact c8
      | 9, _ => exact c9
      | 10, _ => exact c10
      | 11, _ => exact c11
    · rw [List.getElem?_eq_none (by omega), List.getElem?_eq_none (by show 12 ≤ j; omega)]
  · cases hfs

theorem open_ops {fuel : Nat} {cs : List Value} {x : DataW H × List MemPlace} (h : DataW.trod enc Tryz.prog w base spare held fuel 22 cs = some x) :
    ∃ v L, cs = [v] ∧ ORow w v L ∧ ∀ o ∈ L, o.Fits := by
  rcases open_slice Tryz.underlying22 h with ⟨rfl, _⟩ | ⟨a, len, cap, m, n, D, Pl, rfl, _, hl, _, hm, _, hi⟩
  · exact ⟨_, [], rfl, ⟨none, 0, rfl, fun k d hd => by simp at hd⟩, fun o ho => by cases ho⟩
  have hlm : len ≤ m := by rw [hm]; split <;> omega
  have cell : ∀ i, i < len → ∃ d : OpD × Value, (∀ j u, (opc d.1 d.2)[j]? = some u → w.cell? (a.add (i * 12 + j)) = some u) ∧ d.1.Fits ∧ IRow w d.2 d.1.l := by
    intro i hil
    obtain ⟨cs', hc, ht⟩ := hi i (by omega)
    rw [opSize] at hc
    obtain ⟨o, lv, rfl, hfit, hir⟩ := open_op ht
    obtain ⟨_, _, hat⟩ := World.cells?_some hc
    refine ⟨(o, lv), fun j u hu => ?_, hfit, hir⟩
    have hj : j < 12 := (List.getElem?_eq_some_iff.1 hu).1
    have := hat j hj
    rw [add_add] at this
    exact this.trans hu
  obtain ⟨F, hF⟩ := choose_lt cell
  refine ⟨_, (List.range len).map fun i => (F i).1, rfl, ⟨some a, cap, by simp, fun k d hd => ?_⟩, fun o ho => ?_⟩
  · rw [List.getElem?_map] at hd
    obtain ⟨k', hk', rfl⟩ := Option.map_eq_some_iff.1 hd
    obtain ⟨hkl, rfl⟩ := List.getElem?_eq_some_iff.1 hk'
    rw [List.length_range] at hkl
    rw [List.getElem_range]
    obtain ⟨c0, _, c2⟩ := hF k hkl
    obtain ⟨ab, ao, sp⟩ := a
    have hsp : sp = none := by
      have := World.cell?_spot ((hF 0 (by omega)).1 0 _ rfl)
      rwa [Nat.zero_mul] at this
    subst hsp
    have ad : ∀ j, (⟨ab, ao, none⟩ : Addr).add j = ⟨ab, ao + j, none⟩ := by
      intro j
      unfold Addr.add
      split
      · rename_i h; subst h; rfl
      · rfl
    refine ⟨ab, ao, (F k).2, rfl, fun j u hu => ?_, c2⟩
    have := c0 j u hu
    rw [ad] at this
    rw [Nat.add_assoc]
    exact this
  · obtain ⟨i, hi', rfl⟩ := List.mem_map.1 ho
    exact (hF i (List.mem_range.1 hi')).2.1
end
end Go.Proofs.YtalnhlebgofiiaaGreatDoor
