import Derived.Maps.Own
import Derived.WalkKit
import Derived.Below
import Derived.Deep.Quiet
import Derived.Test.YtaojojjdfdlgpaaProg
import Derived.Lib.Hide
import Derived.WalkSpells
import Derived.WalkLawsBesides
import Derived.Deep.AppendLies
import Derived.Deep.RegionHeld3
namespace Go.Proofs.Ytaojojjdfdlgpaa
open Go.Maps (Keyed)
open Go.ChangeMaps Go.MapKept

/-- Block b of w is a map of n entries; what stands at the key of a is 'm a'. -/
def IsMap {α : Type} (P : Program) (k : TypeId) (enc : α → Value) (w : World) (b n : Nat) (m : α → Option Value) : Prop :=
  ∃ es clock, w.heap[b]? = some (.map es clock) ∧ es.size = n ∧ (∀ e ∈ es.toList, ∃ l, keyOf P k e.key = some l) ∧
    (∀ e ∈ es.toList, ∃ a, e.key = enc a ∧ m a = some e.val) ∧ ∀ a v, m a = some v → ∃ e ∈ es.toList, e.key = enc a ∧ e.val = v

section
variable {α : Type} {P : Program} {k t e : TypeId} {enc : α → Value} {w : World} {b n : Nat} {m : α → Option Value}

theorem IsMap.made (w : World) (P : Program) (k : TypeId) (enc : α → Value) : IsMap P k enc (w.alloc (.map #[] 0)) w.heap.size 0 (fun _ => none) :=
  ⟨#[], 0, (MapKept.heap_alloc w _).1, rfl, by simp, by simp, by simp⟩

theorem IsMap.lt (h : IsMap P k enc w b n m) : b < w.heap.size := by
  obtain ⟨es, clock, hb, _⟩ := h
  exact (Array.getElem?_eq_some_iff.1 hb).1

theorem IsMap.kept {w' : World} {row : Option Nat} (h : IsMap P k enc w b n m) (hg : w.grownBy w' row) (hne : some b ≠ row) : IsMap P k enc w' b n m := by
  have hlt := h.lt
  obtain ⟨es, clock, hb, r⟩ := h
  exact ⟨es, clock, (hg.block b hlt hne).trans hb, r⟩

theorem IsMap.same {w' : World} (h : IsMap P k enc w b n m) (hg : w'.heap[b]? = w.heap[b]?) : IsMap P k enc w' b n m := by
  obtain ⟨es, clock, hb, r⟩ := h
  exact ⟨es, clock, hg.trans hb, r⟩

theorem IsMap.lookup_no (h : IsMap P k enc w b n m) (K : Keyed P k) (henc : ∀ a b, enc a = enc b → a = b) (ht : P.underlying t = some (.map k e)) {z : Value} (hz : (zeroValue e).run P w = .ok z w)
    {a : α} {kl : Lit} (hkey : keyOf P k (enc a) = some kl) (hm : m a = none) : (Instr.lookup t (.map (some b)) (enc a) true).run P w = .ok (.tuple #[z, .bool false]) w := by
  obtain ⟨es, clock, hb, _, hks, h1, h2⟩ := h
  rcases K.find w hkey es.toList hks with ⟨hf, hn⟩ | ⟨j, e0, hf, hj, he⟩
  · simp [Instr.lookup, run_underlying ht, MapKept.run_getObj_map hb, K.check w _ hkey, hf, hz, Result.andThen]
  · obtain ⟨a', e1, e2⟩ := h1 e0 (List.mem_of_getElem? hj)
    rw [he] at e1
    rw [henc _ _ e1, e2] at hm
    cases hm

theorem IsMap.lookup_yes (h : IsMap P k enc w b n m) (K : Keyed P k) (henc : ∀ a b, enc a = enc b → a = b) (ht : P.underlying t = some (.map k e))
    {a : α} {v : Value} {kl : Lit} (hkey : keyOf P k (enc a) = some kl) (hm : m a = some v) : (Instr.lookup t (.map (some b)) (enc a) true).run P w = .ok (.tuple #[v, .bool true]) w := by
  obtain ⟨es, clock, hb, _, hks, h1, h2⟩ := h
  rcases K.find w hkey es.toList hks with ⟨hf, hn⟩ | ⟨j, e0, hf, hj, he⟩
  · obtain ⟨e0, h3, h4, _⟩ := h2 a v hm
    exact absurd h4 (hn e0 h3)
  · obtain ⟨a', e1, e2⟩ := h1 e0 (List.mem_of_getElem? hj)
    rw [he] at e1
    rw [← henc _ _ e1, hm] at e2
    cases e2
    simp [Instr.lookup, run_underlying ht, MapKept.run_getObj_map hb, K.check w _ hkey, hf, Result.andThen]

open Classical in
noncomputable def putAt (m : α → Option Value) (a : α) (v : Value) : α → Option Value := fun x => if x = a then some v else m x

theorem IsMap.update_new (h : IsMap P k enc w b n m) (K : Keyed P k) (henc : ∀ a b, enc a = enc b → a = b) (ht : P.underlying t = some (.map k e))
    {a : α} {kl : Lit} (hkey : keyOf P k (enc a) = some kl) (hm : m a = none) (v : Value) :
    ∃ w', (Instr.mapUpdate t (.map (some b)) (enc a) v).run P w = .ok () w' ∧ IsMap P k enc w' b (n + 1) (putAt m a v) ∧ w.grownBy w' (some b) := by
  obtain ⟨es, clock, hb, hs, hks, h1, h2⟩ := h
  have hf : (Instr.findKey k (enc a) es.toList).run P w = .ok none w := by
    rcases K.find w hkey es.toList hks with ⟨hf, hn⟩ | ⟨j, e0, hf, hj, he⟩
    · exact hf
    · obtain ⟨a', e1, e2⟩ := h1 e0 (List.mem_of_getElem? hj)
      rw [he] at e1
      rw [henc _ _ e1, e2] at hm
      cases hm
  refine ⟨_, by simp only [Instr.mapUpdate]; simp [run_underlying ht, MapKept.run_getObj_map hb, K.check w _ hkey, hf, MapKept.run_setObj_map _ hb, Result.andThen]; rfl, ⟨es.push ⟨enc a, v, clock⟩, clock + 1, heap_setBlock_same hb _, by simp; omega, ?_, ?_, ?_⟩, ⟨rfl, rfl, rfl, by simp [setBlock], fun i _ hi => heap_setBlock_other hb _ (fun e => hi (by rw [e]))⟩⟩
  · intro x hx
    simp at hx
    rcases hx with hx | rfl
    · exact hks x (by simpa using hx)
    · exact ⟨kl, hkey⟩
  · intro x hx
    simp at hx
    rcases hx with hx | rfl
    · obtain ⟨a', e1, e2⟩ := h1 x (by simpa using hx)
      refine ⟨a', e1, ?_⟩
      unfold putAt
      rw [if_neg]
      · exact e2
      · rintro rfl; rw [e2] at hm; cases hm
    · exact ⟨a, rfl, by simp [putAt]⟩
  · intro x u hx
    unfold putAt at hx
    split at hx
    · rename_i e; subst e; cases hx
      exact ⟨⟨enc x, v, clock⟩, by simp, rfl, rfl⟩
    · obtain ⟨e0, h3, h4⟩ := h2 x u hx
      exact ⟨e0, by simp at h3 ⊢; exact .inl h3, h4⟩

theorem IsMap.len (h : IsMap P k enc w b n m) (ht : P.underlying t = some (.map k e)) (_hn : n < 4611686018427387904) (ty : TypeId) : (Builtin.len_ #[t] ty #[.map (some b)]).run P w = .ok (.int .i64 (n : Int)) w := by
  obtain ⟨es, clock, hb, hs, _⟩ := h
  have e1 : goInt es.size = .int .i64 (n : Int) := by rw [hs]; rfl
  simp [Builtin.len_, run_underlying ht, MapKept.run_getObj_map hb, Result.andThen, e1]

end

section
variable {α : Type} {P : Program} {k t e : TypeId} {enc : α → Value} {w : World} {b n : Nat} {m : α → Option Value}
/-- 'm[k] = v', k new, at the operation. -/
theorem wpList_mapUpdate_new {ops : Array Oper} {rest : List Oper} {o : Oper} {a : Act} {Q : Exit → Act → World → Prop} (hg : o.guard = none) (mm x v : Operand) (hop : o.op = Op.mapUpdate t mm x v)
    (K : Keyed P k) (henc : ∀ a b, enc a = enc b → a = b) (ht : P.underlying t = some (.map k e)) (hm : a.eval mm = .map (some b)) (hown : IsMap P k enc w b n m) (key : α) {kl : Lit} (val : Value) (hx : a.eval x = enc key) (hv : a.eval v = val)
    (hkey : keyOf P k (enc key) = some kl) (hnew : m key = none)
    (hK : ∀ w', IsMap P k enc w' b (n + 1) (putAt m key val) → w.grownBy w' (some b) → wpList P ops Q rest (a.put o.dst undef) w') :
    wpList P ops Q (o :: rest) a w := by
  refine wpList_plain hg fun K' hK' => ?_
  obtain ⟨w', hrun, r1, r2⟩ := hown.update_new K henc ht hkey hnew val
  unfold Oper.wp
  simp [execOp, hop, hm, hx, hv, hrun, Result.andThen]
  exact hK' _ _ (hK w' r1 r2)
end
end Go.Proofs.Ytaojojjdfdlgpaa
namespace Go.Proofs.Ytaojojjdfdlgpaa
open Go.RowKit

/-- w' is w with new blocks, draws, and writes to blocks of S alone. -/
structure Fr (S : Nat → Prop) (w w' : World) : Prop where
  os : w'.os = w.os
  tape : w'.tape = w.tape
  output : w'.output = w.output
  size : w.heap.size ≤ w'.heap.size
  block : ∀ k, k < w.heap.size → ¬ S k → w'.heap[k]? = w.heap[k]?

def nob : Nat → Prop := fun _ => False

theorem Fr.refl (S : Nat → Prop) (w : World) : Fr S w w := ⟨rfl, rfl, rfl, Nat.le_refl _, fun _ _ _ => rfl⟩

theorem Fr.trans' {S S' T : Nat → Prop} {a b c : World} (h : Fr S a b) (k : Fr S' b c) (h1 : ∀ i, i < a.heap.size → S i → T i) (h2 : ∀ i, i < a.heap.size → S' i → T i) : Fr T a c :=
  ⟨k.os.trans h.os, k.tape.trans h.tape, k.output.trans h.output, Nat.le_trans h.size k.size,
    fun i hi hT => (k.block i (Nat.lt_of_lt_of_le hi h.size) (fun e => hT (h2 i hi e))).trans (h.block i hi (fun e => hT (h1 i hi e)))⟩

theorem Fr.trans {S S' : Nat → Prop} {a b c : World} (h : Fr S a b) (k : Fr S' b c) (h2 : ∀ i, i < a.heap.size → S' i → S i) : Fr S a c := h.trans' k (fun _ _ e => e) h2

theorem Fr.mono {S T : Nat → Prop} {a b : World} (h : Fr S a b) (h1 : ∀ i, i < a.heap.size → S i → T i) : Fr T a b :=
  ⟨h.os, h.tape, h.output, h.size, fun i hi hT => h.block i hi (fun e => hT (h1 i hi e))⟩

theorem Fr.alloc {S : Nat → Prop} {a w : World} (h : Fr S a w) (o : Obj) : Fr S a (w.alloc o) :=
  ⟨h.os, h.tape, h.output, Nat.le_trans h.size (by simp), fun k hk hS => (Below.heap_alloc w o k (Nat.lt_of_lt_of_le hk h.size)).trans (h.block k hk hS)⟩

theorem Fr.drew {S : Nat → Prop} {a w : World} (h : Fr S a w) : Fr S a w.drew := ⟨h.os, h.tape, h.output, h.size, h.block⟩

theorem Fr.drewN {S : Nat → Prop} {a w : World} (h : Fr S a w) (n : Nat) : Fr S a (w.drewN n) := ⟨h.os, h.tape, h.output, h.size, h.block⟩

theorem Fr.setCell {S : Nat → Prop} {a w : World} (h : Fr S a w) {p : Addr} (hp : p.block < a.heap.size → S p.block) (u : Value) : Fr S a (w.setCell p u) :=
  ⟨h.os, h.tape, h.output, Nat.le_trans h.size (by simp [World.setCell]), fun k hk hS =>
    (Below.heap_setCell w p u k (fun e => hS (e ▸ hp (e ▸ hk)))).trans (h.block k hk hS)⟩

theorem Fr.grown {S : Nat → Prop} {a w w' : World} {row : Option Nat} (h : Fr S a w) (hg : w.grownBy w' row) (hr : ∀ k, row = some k → k < a.heap.size → S k) : Fr S a w' :=
  ⟨hg.os.trans h.os, hg.tape.trans h.tape, hg.output.trans h.output, Nat.le_trans h.size hg.size, fun k hk hS =>
    (hg.block k (Nat.lt_of_lt_of_le hk h.size) (fun e => hS (hr k e.symm hk))).trans (h.block k hk hS)⟩

theorem Fr.below {S : Nat → Prop} {a w w' : World} (h : Fr S a w) (hb : Below w.heap.size w w') : Fr S a w' :=
  ⟨hb.os.trans h.os, hb.tape.trans h.tape, hb.output.trans h.output, Nat.le_trans h.size hb.size, fun k hk hS =>
    (hb.block k (Nat.lt_of_lt_of_le hk h.size)).trans (h.block k hk hS)⟩

theorem Fr.to_below {S : Nat → Prop} {w w' : World} (h : Fr S w w') {B : Nat} (hB : B ≤ w.heap.size) (hS : ∀ k, S k → B ≤ k) : Below B w w' :=
  ⟨h.os, h.tape, h.output, h.size, fun k hk => h.block k (by omega) (fun e => by have := hS k e; omega)⟩

theorem Fr.cell {S : Nat → Prop} {w w' : World} (h : Fr S w w') {p : Addr} {v : Value} (hc : w.cell? p = some v) (hS : ¬ S p.block) : w'.cell? p = some v :=
  (World.cell?_of_block (h.block p.block (World.block_lt_of_cell? w p hc) hS)).trans hc

theorem Fr.frozen {S : Nat → Prop} {w w' : World} (h : Fr S w w') {p : Addr} (hlt : p.block < w.heap.size) (hS : ¬ S p.block) : w'.frozen? p = w.frozen? p :=
  World.frozen?_of_block (h.block p.block hlt hS)

theorem Fr.row {S : Nat → Prop} {w w' : World} (h : Fr S w w') {base : Nat} {e : TypeId} {size : Nat} {v : Value} {n : Nat} {xs : List Value} (hr : w.ownsRow base e size v n xs) (hS : ∀ g, v.ownBlock = some g → ¬ S g) : w'.ownsRow base e size v n xs := by
  refine ⟨hr.1, ?_⟩
  rcases hr.2 with hn | ⟨g, cap, cur, rfl, hb, hgg, rest⟩
  · exact .inl hn
  · exact .inr ⟨g, cap, cur, rfl, hb, (h.block g (Array.getElem?_eq_some_iff.1 hgg).1 (hS g rfl)).trans hgg, rest⟩

theorem Fr.map {S : Nat → Prop} {w w' : World} (h : Fr S w w') {α : Type} {P : Program} {k : TypeId} {enc : α → Value} {b n : Nat} {m : α → Option Value} (hm : IsMap P k enc w b n m) (hS : ¬ S b) : IsMap P k enc w' b n m :=
  hm.same (h.block b hm.lt hS)

theorem cell_alloc_l {W : World} {a : Addr} {v : Value} (h : W.cell? a = some v) (o : Obj) : (W.alloc o).cell? a = some v := ((Fr.refl nob W).alloc o).cell h (fun h => h)

theorem fr_store (w : World) (b o : Nat) (v : Value) : Fr (fun k => k = b) w (w.setCell ⟨b, o, none⟩ v) := (Fr.refl (fun k => k = b) w).setCell (p := ⟨b, o, none⟩) (fun _ => rfl) v

theorem Fr.set1 {S : Nat → Prop} {a w : World} (h : Fr S a w) {b o : Nat} (hb : a.heap.size ≤ b) (u : Value) : Fr S a (w.setCell ⟨b, o, none⟩ u) := h.setCell (p := ⟨b, o, none⟩) (fun h' => absurd h' (Nat.not_lt.2 hb)) u

def set3 (w : World) (g : Nat) (a b c : Value) : World := ((w.setCell ⟨g, 0, none⟩ a).setCell ⟨g, 1, none⟩ b).setCell ⟨g, 2, none⟩ c

theorem set3_facts {w : World} {g : Nat} {a b c va vb vc : Value} (h0 : w.cell? ⟨g, 0, none⟩ = some va) (h1 : w.cell? ⟨g, 1, none⟩ = some vb) (h2 : w.cell? ⟨g, 2, none⟩ = some vc) :
    (set3 w g a b c).cell? ⟨g, 0, none⟩ = some a ∧ (set3 w g a b c).cell? ⟨g, 1, none⟩ = some b ∧ (set3 w g a b c).cell? ⟨g, 2, none⟩ = some c ∧ Fr (fun k => k = g) w (set3 w g a b c) ∧ ∀ p, (set3 w g a b c).frozen? p = w.frozen? p := by
  unfold set3
  have e1 : (w.setCell ⟨g, 0, none⟩ a).cell? ⟨g, 1, none⟩ = some vb := by rw [World.cell?_setCell_other _ _ _ _ (by simp)]; exact h1
  have e2 : ((w.setCell ⟨g, 0, none⟩ a).setCell ⟨g, 1, none⟩ b).cell? ⟨g, 2, none⟩ = some vc := by rw [World.cell?_setCell_other _ _ _ _ (by simp), World.cell?_setCell_other _ _ _ _ (by simp)]; exact h2
  refine ⟨?_, ?_, World.cell?_setCell_same' _ _ _ (by rw [e2]; rfl), ((fr_store w g 0 a).trans (fr_store _ g 1 b) (fun _ _ h => h)).trans (fr_store _ g 2 c) (fun _ _ h => h), fun p => by rw [World.frozen?_setCell, World.frozen?_setCell, World.frozen?_setCell]⟩
  · rw [World.cell?_setCell_other _ _ _ _ (by simp), World.cell?_setCell_other _ _ _ _ (by simp)]
    exact World.cell?_setCell_same' _ _ _ (by rw [h0]; rfl)
  · rw [World.cell?_setCell_other _ _ _ _ (by simp)]
    exact World.cell?_setCell_same' _ _ _ (by rw [e1]; rfl)

/-- the cells of a block that is known whole -/
theorem block3 {w : World} {g : Nat} {a b c : Value} {T : TypeId} (h : w.heap[g]? = some (.cells #[a, b, c] T)) :
    w.cell? ⟨g, 0, none⟩ = some a ∧ w.cell? ⟨g, 1, none⟩ = some b ∧ w.cell? ⟨g, 2, none⟩ = some c ∧ ∀ o, w.frozen? ⟨g, o, none⟩ = false := by
  refine ⟨?_, ?_, ?_, fun o => ?_⟩ <;> simp [World.cell?, World.frozen?, h]

theorem undrew {w w' : World} {r : Option Nat} (h : w.drew.grownBy w' r) : w.grownBy w' r := ⟨h.os, h.tape, h.output, h.size, h.block⟩

theorem lt_of_cell {w : World} {p : Addr} {v : Value} (h : w.cell? p = some v) : p.block < w.heap.size := World.block_lt_of_cell? w p h

theorem Fr.cell' {S : Nat → Prop} {w w' : World} (h : Fr S w w') {b o : Nat} {v : Value} (hc : w.cell? ⟨b, o, none⟩ = some v) (hS : ¬ S b) : w'.cell? ⟨b, o, none⟩ = some v := h.cell hc hS
end Go.Proofs.Ytaojojjdfdlgpaa
