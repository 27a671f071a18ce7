import Derived.Maps.Own
namespace Go.Proofs.YtfhjpldlhhgcnaaDoor
open Go.Maps (Keyed)
open Go.ChangeMaps Go.MapKept

/-- Block b of w is a map of n entries; what stands at the key of a is 'm a'. -/
def IsMap {α : Type} (P : Program) (k : TypeId) (enc : α → Value) (w : World) (b n : Nat) (m : α → Option Value) : Prop :=
  ∃ es clock, w.heap[b]? = some (.map es clock) ∧ es.size = n ∧ (∀ e ∈ es.toList, ∃ l, keyOf P k e.key = some l) ∧
    (∀ e ∈ es.toList, ∃ a, e.key = enc a ∧ m a = some e.val) ∧ ∀ a v, m a = some v → ∃ e ∈ es.toList, e.key = enc a ∧ e.val = v

section
variable {α : Type} {P : Program} {k t e : TypeId} {enc : α → Value} {w : World} {b n : Nat} {m : α → Option Value}

theorem IsMap.made (w : World) (P : Program) (k : TypeId) (enc : α → Value) : IsMap P k enc (w.alloc (.map #[] 0)) w.heap.size 0 (fun _ => none) :=
  ⟨#[], 0, (MapKept.heap_alloc w _).1, rfl, by simp, by simp, by simp⟩

theorem IsMap.lt (h : IsMap P k enc w b n m) : b < w.heap.size := by
  obtain ⟨es, clock, hb, _⟩ := h
  exact (Array.getElem?_eq_some_iff.1 hb).1

theorem IsMap.kept {w' : World} {row : Option Nat} (h : IsMap P k enc w b n m) (hg : w.grownBy w' row) (hne : some b ≠ row) : IsMap P k enc w' b n m := by
  have hlt := h.lt
  obtain ⟨es, clock, hb, r⟩ := h
  exact ⟨es, clock, (hg.block b hlt hne).trans hb, r⟩

theorem IsMap.same {w' : World} (h : IsMap P k enc w b n m) (hg : w'.heap[b]? = w.heap[b]?) : IsMap P k enc w' b n m := by
  obtain ⟨es, clock, hb, r⟩ := h
  exact ⟨es, clock, hg.trans hb, r⟩

theorem IsMap.lookup_no (h : IsMap P k enc w b n m) (K : Keyed P k) (henc : ∀ a b, enc a = enc b → a = b) (ht : P.underlying t = some (.map k e)) {z : Value} (hz : (zeroValue e).run P w = .ok z w)
    {a : α} {kl : Lit} (hkey : keyOf P k (enc a) = some kl) (hm : m a = none) : (Instr.lookup t (.map (some b)) (enc a) true).run P w = .ok (.tuple #[z, .bool false]) w := by
  obtain ⟨es, clock, hb, _, hks, h1, h2⟩ := h
  rcases K.find w hkey es.toList hks with ⟨hf, hn⟩ | ⟨j, e0, hf, hj, he⟩
  · simp [Instr.lookup, run_underlying ht, MapKept.run_getObj_map hb, K.check w _ hkey, hf, hz, Result.andThen]
  · obtain ⟨a', e1, e2⟩ := h1 e0 (List.mem_of_getElem? hj)
    rw [he] at e1
    rw [henc _ _ e1, e2] at hm
    cases hm

theorem IsMap.lookup_yes (h : IsMap P k enc w b n m) (K : Keyed P k) (henc : ∀ a b, enc a = enc b → a = b) (ht : P.underlying t = some (.map k e))
    {a : α} {v : Value} {kl : Lit} (hkey : keyOf P k (enc a) = some kl) (hm : m a = some v) : (Instr.lookup t (.map (some b)) (enc a) true).run P w = .ok (.tuple #[v, .bool true]) w := by
  obtain ⟨es, clock, hb, _, hks, h1, h2⟩ := h
  rcases K.find w hkey es.toList hks with ⟨hf, hn⟩ | ⟨j, e0, hf, hj, he⟩
  · obtain ⟨e0, h3, h4, _⟩ := h2 a v hm
    exact absurd h4 (hn e0 h3)
  · obtain ⟨a', e1, e2⟩ := h1 e0 (List.mem_of_getElem? hj)
    rw [he] at e1
    rw [← henc _ _ e1, hm] at e2
    cases e2
    simp [Instr.lookup, run_underlying ht, MapKept.run_getObj_map hb, K.check w _ hkey, hf, Result.andThen]

open Classical in
noncomputable def putAt (m : α → Option Value) (a : α) (v : Value) : α → Option Value := fun x => if x = a then some v else m x

theorem IsMap.update_new (h : IsMap P k enc w b n m) (K : Keyed P k) (henc : ∀ a b, enc a = enc b → a = b) (ht : P.underlying t = some (.map k e))
    {a : α} {kl : Lit} (hkey : keyOf P k (enc a) = some kl) (hm : m a = none) (v : Value) :
    ∃ w', (Instr.mapUpdate t (.map (some b)) (enc a) v).run P w = .ok () w' ∧ IsMap P k enc w' b (n + 1) (putAt m a v) ∧ w.grownBy w' (some b) := by
  obtain ⟨es, clock, hb, hs, hks, h1, h2⟩ := h
  have hf : (Instr.findKey k (enc a) es.toList).run P w = .ok none w := by
    rcases K.find w hkey es.toList hks with ⟨hf, hn⟩ | ⟨j, e0, hf, hj, he⟩
    · exact hf
    · obtain ⟨a', e1, e2⟩ := h1 e0 (List.mem_of_getElem? hj)
      rw [he] at e1
      rw [henc _ _ e1, e2] at hm
      cases hm
  refine ⟨_, by simp only [Instr.mapUpdate]; simp [run_underlying ht, MapKept.run_getObj_map hb, K.check w _ hkey, hf, MapKept.run_setObj_map _ hb, Result.andThen]; rfl, ⟨es.push ⟨enc a, v, clock⟩, clock + 1, heap_setBlock_same hb _, by simp; omega, ?_, ?_, ?_⟩, ⟨rfl, rfl, rfl, by simp [setBlock], fun i _ hi => heap_setBlock_other hb _ (fun e => hi (by rw [e]))⟩⟩
  · intro x hx
    simp at hx
    rcases hx with hx | rfl
    · exact hks x (by simpa using hx)
    · exact ⟨kl, hkey⟩
  · intro x hx
    simp at hx
    rcases hx with hx | rfl
    · obtain ⟨a', e1, e2⟩ := h1 x (by simpa using hx)
      refine ⟨a', e1, ?_⟩
      unfold putAt
      rw [if_neg]
      · exact e2
      · rintro rfl; rw [e2] at hm; cases hm
    · exact ⟨a, rfl, by simp [putAt]⟩
  · intro x u hx
    unfold putAt at hx
    split at hx
    · rename_i e; subst e; cases hx
      exact ⟨⟨enc x, v, clock⟩, by simp, rfl, rfl⟩
    · obtain ⟨e0, h3, h4⟩ := h2 x u hx
      exact ⟨e0, by simp at h3 ⊢; exact .inl h3, h4⟩

theorem IsMap.len (h : IsMap P k enc w b n m) (ht : P.underlying t = some (.map k e)) (_hn : n < 4611686018427387904) (ty : TypeId) : (Builtin.len_ #[t] ty #[.map (some b)]).run P w = .ok (.int .i64 (n : Int)) w := by
  obtain ⟨es, clock, hb, hs, _⟩ := h
  have e1 : goInt es.size = .int .i64 (n : Int) := by rw [hs]; rfl
  simp [Builtin.len_, run_underlying ht, MapKept.run_getObj_map hb, Result.andThen, e1]

end

section
variable {α : Type} {P : Program} {k t e : TypeId} {enc : α → Value} {w : World} {b n : Nat} {m : α → Option Value}
/-- 'm[k] = v', k new, at the operation. -/
theorem wpList_mapUpdate_new {ops : Array Oper} {rest : List Oper} {o : Oper} {a : Act} {Q : Exit → Act → World → Prop} (hg : o.guard = none) (mm x v : Operand) (hop : o.op = Op.mapUpdate t mm x v)
    (K : Keyed P k) (henc : ∀ a b, enc a = enc b → a = b) (ht : P.underlying t = some (.map k e)) (hm : a.eval mm = .map (some b)) (hown : IsMap P k enc w b n m) (key : α) {kl : Lit} (val : Value) (hx : a.eval x = enc key) (hv : a.eval v = val)
    (hkey : keyOf P k (enc key) = some kl) (hnew : m key = none)
    (hK : ∀ w', IsMap P k enc w' b (n + 1) (putAt m key val) → w.grownBy w' (some b) → wpList P ops Q rest (a.put o.dst undef) w') :
    wpList P ops Q (o :: rest) a w := by
  refine wpList_plain hg fun K' hK' => ?_
  obtain ⟨w', hrun, r1, r2⟩ := hown.update_new K henc ht hkey hnew val
  unfold Oper.wp
  simp [execOp, hop, hm, hx, hv, hrun, Result.andThen]
  exact hK' _ _ (hK w' r1 r2)
end
end Go.Proofs.YtfhjpldlhhgcnaaDoor
