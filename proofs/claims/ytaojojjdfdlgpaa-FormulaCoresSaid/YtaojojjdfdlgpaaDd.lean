import Derived.Test.YtaojojjdfdlgpaaQbg
import Derived.Test.YtaojojjdfdlgpaaUq
namespace Go.Proofs.Ytaojojjdfdlgpaa
open Go.RowKit Uq

/-! a deduction in memory -/
def clV (sh : Nat → Nat × Nat) (g : Nat) : Value := .slice (some ⟨g, 0, none⟩) (sh g).1 (sh g).2
def refV (sh : Nat → Nat × Nat) : Option Nat → Value
  | none => .slice none 0 0
  | some g => clV sh g
structure CB (w : World) (g : Nat) (sh : Nat → Nat × Nat) (l : List Int) : Prop where
  len : (sh g).1 = l.length
  cell : ∀ (j : Nat) (y : Int), l[j]? = some y → w.cell? ⟨g, j, none⟩ = some (.int .i64 y)
  free : ∀ o, w.frozen? ⟨g, o, none⟩ = false
  cap : (sh g).1 ≤ (sh g).2
def TY (i : Nat) : TypeId := if i = 147 then 3 else 37
/-- the blocks: that of the deduction, those of its rows, those of the clauses; those of Z are none of these -/
structure Hp (w : World) (Z : Nat → Prop) (x d : Nat) (sh : Nat → Nat × Nat) (G : Nat → Prop) (cl : Nat → List Int) (R : Nat → List Value) (c : Nat → Value) : Prop where
  mem : Mem w d c
  zlt : ∀ k, Z k → k < w.heap.size
  zd : ¬ Z d
  gd : ¬ G d
  rows : ∀ i, 98 ≤ i → i ≤ 147 → i ≠ 98 + x → w.ownsRow 0 (TY i) 1 (c i) (R i).length (R i)
  cls : ∀ g, G g → CB w g sh (cl g) ∧ ¬ Z g ∧ g < w.heap.size
  own : ∀ i, 98 ≤ i → i ≤ 147 → i ≠ 98 + x → ∀ b, (c i).ownBlock = some b → b ≠ d ∧ ¬ Z b ∧ ¬ G b
  sep : ∀ i j, 98 ≤ i → i ≤ 147 → 98 ≤ j → j ≤ 147 → i ≠ j → i ≠ 98 + x → j ≠ 98 + x → ∀ b, (c i).ownBlock = some b → (c j).ownBlock ≠ some b
section
variable {w : World} {Z : Nat → Prop} {x d : Nat} {sh : Nat → Nat × Nat} {G : Nat → Prop} {cl : Nat → List Int} {R : Nat → List Value} {c : Nat → Value}
theorem CB.kept {S : Nat → Prop} {w' : World} {g : Nat} {l : List Int} (h : CB w g sh l) (f : Fr S w w') (hS : ¬ S g) (hg : g < w.heap.size) : CB w' g sh l :=
  ⟨h.len, fun j y hj => f.cell (h.cell j y hj) hS, fun o => (f.frozen (p := ⟨g, o, none⟩) hg hS).trans (h.free o), h.cap⟩
theorem Hp.kept {S : Nat → Prop} {w' : World} (h : Hp w Z x d sh G cl R c) (f : Fr S w w') (hS : ∀ k, k < w.heap.size → S k → Z k) : Hp w' Z x d sh G cl R c := by
  have hdl : d < w.heap.size := lt_of_cell (h.mem 0 (by decide)).1
  refine ⟨h.mem.kept f (fun e => h.zd (hS d hdl e)), fun k hk => Nat.lt_of_lt_of_le (h.zlt k hk) f.size, h.zd, h.gd, fun i h1 h2 h3 => ?_, fun g hg => ?_, h.own, h.sep⟩
  · have hr := h.rows i h1 h2 h3
    exact f.row hr fun b hb e => (h.own i h1 h2 h3 b hb).2.1 (hS b (hr.lt b hb).2 e)
  · obtain ⟨a1, a2, a3⟩ := h.cls g hg
    exact ⟨a1.kept f (fun e => a2 (hS g a3 e)) a3, a2, Nat.lt_of_lt_of_le a3 f.size⟩
theorem Hp.congr {cl' : Nat → List Int} {R' : Nat → List Value} (h : Hp w Z x d sh G cl R c) (h1 : ∀ g, G g → cl' g = cl g) (h2 : ∀ i, 98 ≤ i → i ≤ 147 → i ≠ 98 + x → R' i = R i) : Hp w Z x d sh G cl' R' c :=
  ⟨h.mem, h.zlt, h.zd, h.gd, fun i a b e => by rw [h2 i a b e]; exact h.rows i a b e, fun g hg => by rw [h1 g hg]; exact h.cls g hg, h.own, h.sep⟩
/-- a plain cell of the deduction is written -/
theorem Hp.set (h : Hp w Z x d sh G cl R c) (i : Nat) (hi : i < 98 ∨ 147 < i) (v : Value) : Hp (w.setCell ⟨d, i, none⟩ v) Z x d sh G cl R (upd c i v) := by
  have f := fr_store w d i v
  have e : ∀ j, 98 ≤ j → j ≤ 147 → upd c i v j = c j := fun j h1 h2 => by unfold upd; rw [if_neg (by omega)]
  refine ⟨h.mem.set i v, fun k hk => Nat.lt_of_lt_of_le (h.zlt k hk) f.size, h.zd, h.gd, fun j h1 h2 h3 => ?_, fun g hg => ?_, fun j h1 h2 h3 => by rw [e j h1 h2]; exact h.own j h1 h2 h3, fun j k h1 h2 h3 h4 => by rw [e j h1 h2, e k h3 h4]; exact h.sep j k h1 h2 h3 h4⟩
  · rw [e j h1 h2]
    exact f.row (h.rows j h1 h2 h3) fun b hb e => (h.own j h1 h2 h3 b hb).1 e
  · obtain ⟨a1, a2, a3⟩ := h.cls g hg
    exact ⟨a1.kept f (fun (e : g = d) => h.gd (e ▸ hg)) a3, a2, Nat.lt_of_lt_of_le a3 f.size⟩
/-- a clause is written anew -/
theorem Hp.clause {w' : World} (h : Hp w Z x d sh G cl R c) {g : Nat} (hg : G g) (f : Fr (fun k => k = g) w w') {l : List Int} (hc : CB w' g sh l) : Hp w' Z x d sh G (upF cl g l) R c := by
  refine ⟨h.mem.kept f (fun (e : d = g) => h.gd (e ▸ hg)), fun k hk => Nat.lt_of_lt_of_le (h.zlt k hk) f.size, h.zd, h.gd, fun i h1 h2 h3 => ?_, fun k hk => ?_, h.own, h.sep⟩
  · exact f.row (h.rows i h1 h2 h3) fun b hb (e : b = g) => (h.own i h1 h2 h3 b hb).2.2 (e ▸ hg)
  · obtain ⟨a1, a2, a3⟩ := h.cls k hk
    by_cases e : k = g
    · subst e
      rw [upF_same]
      exact ⟨hc, a2, Nat.lt_of_lt_of_le a3 f.size⟩
    · rw [upF_other _ _ e]
      exact ⟨a1.kept f e a3, a2, Nat.lt_of_lt_of_le a3 f.size⟩
/-- a row is grown, and written back -/
theorem Hp.row {w5 : World} (h : Hp w Z x d sh G cl R c) {i : Nat} (h1 : 98 ≤ i) (h2 : i ≤ 147) (h3 : i ≠ 98 + x) {v' : Value} {new : List Value} (f : Fr (fun k => (c i).ownBlock = some k) w w5) (ho : w5.ownsRow 0 (TY i) 1 v' new.length new)
    (hat : v'.ownBlock = (c i).ownBlock ∨ ∀ b, v'.ownBlock = some b → w.heap.size ≤ b) : Hp (w5.setCell ⟨d, i, none⟩ v') Z x d sh G cl (fun j => if j = i then new else R j) (upd c i v') := by
  have hdl : d < w.heap.size := lt_of_cell (h.mem 0 (by decide)).1
  have hown := h.own i h1 h2 h3
  have hv : ∀ b, v'.ownBlock = some b → b ≠ d ∧ ¬ Z b ∧ ¬ G b := by
    intro b hb
    rcases hat with h4 | h4
    · exact hown b (h4 ▸ hb)
    · have := h4 b hb
      exact ⟨by omega, fun hz => by have := h.zlt b hz; omega, fun hg => by have := (h.cls b hg).2.2; omega⟩
  have hm5 : Mem w5 d c := h.mem.kept f (fun e => (hown d e).1 rfl)
  have s5 := fr_store w5 d i v'
  have hvo : ∀ j, 98 ≤ j → j ≤ 147 → j ≠ i → j ≠ 98 + x → ∀ b, v'.ownBlock = some b → (c j).ownBlock ≠ some b := by
    intro j j1 j2 j3 j4 b hb e
    rcases hat with h4 | h4
    · exact h.sep i j h1 h2 j1 j2 (fun e => j3 e.symm) h3 j4 b (h4 ▸ hb) e
    · have := h4 b hb
      have := ((h.rows j j1 j2 j4).lt b e).2
      omega
  have ui : upd c i v' i = v' := by unfold upd; rw [if_pos rfl]
  have uj : ∀ j, j ≠ i → upd c i v' j = c j := fun j e => by unfold upd; rw [if_neg e]
  refine ⟨hm5.set i v', fun k hk => Nat.lt_of_lt_of_le (h.zlt k hk) (Nat.le_trans f.size s5.size), h.zd, h.gd, fun j j1 j2 j3 => ?_, fun g hg => ?_, fun j j1 j2 j3 => ?_, fun j k j1 j2 k1 k2 hjk j3 k3 b hb => ?_⟩
  · by_cases e : j = i
    · subst e
      rw [ui, if_pos rfl]
      exact s5.row ho fun b hb e => (hv b hb).1 e
    · rw [uj j e, if_neg e]
      refine s5.row (f.row (h.rows j j1 j2 j3) fun b hb e2 => ?_) fun b hb e2 => (h.own j j1 j2 j3 b hb).1 e2
      exact h.sep j i j1 j2 h1 h2 e j3 h3 b hb e2
  · obtain ⟨a1, a2, a3⟩ := h.cls g hg
    have a4 : g < w5.heap.size := Nat.lt_of_lt_of_le a3 f.size
    exact ⟨(a1.kept f (fun e => (hown g e).2.2 hg) a3).kept s5 (fun (e : g = d) => h.gd (e ▸ hg)) a4, a2, Nat.lt_of_lt_of_le a4 s5.size⟩
  · by_cases e : j = i
    · subst e; rw [ui]; exact hv
    · rw [uj j e]; exact h.own j j1 j2 j3
  · by_cases e : j = i
    · subst e
      rw [ui] at hb
      rw [uj k (fun e => hjk e.symm)]
      exact hvo k k1 k2 (fun e => hjk e.symm) k3 b hb
    · rw [uj j e] at hb
      by_cases e2 : k = i
      · subst e2
        rw [ui]
        exact fun e3 => hvo j j1 j2 e j3 b e3 hb
      · rw [uj k e2]
        exact h.sep j k j1 j2 k1 k2 hjk j3 k3 b hb
end
def rowS (sh : Nat → Nat × Nat) (s : DS) (i : Nat) : List Value := if i = 147 then s.trail.map (Value.int .i64) else (s.watched ((i : Int) - 122)).map (clV sh)
/-- what the cells say -/
structure Sm (sh : Nat → Nat × Nat) (G : Nat → Prop) (s : DS) (c : Nat → Value) : Prop where
  hd : ∀ i : Nat, i < 49 → c i = .bool (s.holds ((i : Int) - 24))
  rs : ∀ i : Nat, i < 49 → c (49 + i) = refV sh (s.reason ((i : Int) - 24))
  nx : c 148 = .int .i64 (s.next : Int)
  kn : c 149 = .int .i64 (s.known : Int)
  cf : c 150 = refV sh s.conflict
  bk : c 151 = .bool s.broken
  wG : ∀ i g, g ∈ s.watched i → G g
  rG : ∀ i g, s.reason i = some g → G g
  cG : ∀ g, s.conflict = some g → G g
/-- the deduction s lies at d -/
structure Dm (w : World) (Z : Nat → Prop) (x d : Nat) (sh : Nat → Nat × Nat) (G : Nat → Prop) (s : DS) (c : Nat → Value) : Prop where
  hp : Hp w Z x d sh G s.cl (rowS sh s) c
  sm : Sm sh G s c
theorem Dm.kept {w w' : World} {Z S : Nat → Prop} {x d : Nat} {sh : Nat → Nat × Nat} {G : Nat → Prop} {s : DS} {c : Nat → Value} (h : Dm w Z x d sh G s c) (f : Fr S w w') (hS : ∀ k, k < w.heap.size → S k → Z k) : Dm w' Z x d sh G s c := ⟨h.hp.kept f hS, h.sm⟩
theorem Dm.nob {w w' : World} {Z : Nat → Prop} {x d : Nat} {sh : Nat → Nat × Nat} {G : Nat → Prop} {s : DS} {c : Nat → Value} (h : Dm w Z x d sh G s c) (f : Fr nob w w') : Dm w' Z x d sh G s c := h.kept f (fun _ _ h => h.elim)
theorem Dm.drew {w : World} {Z : Nat → Prop} {x d : Nat} {sh : Nat → Nat × Nat} {G : Nat → Prop} {s : DS} {c : Nat → Value} (h : Dm w Z x d sh G s c) : Dm w.drew Z x d sh G s c := h.nob ((Fr.refl Go.Proofs.Ytaojojjdfdlgpaa.nob w).drew)
theorem ltr_at {x : Int} (h : Ltr x) : ∃ p : Nat, x + 24 = (p : Int) ∧ p < 49 := by
  unfold Ltr at h
  exact ⟨(x + 24).toNat, by omega, by omega⟩
theorem Sm.at {sh : Nat → Nat × Nat} {G : Nat → Prop} {s : DS} {c : Nat → Value} (h : Sm sh G s c) {l : Int} {p : Nat} (hp : l + 24 = (p : Int)) (hp2 : p < 49) : c p = .bool (s.holds l) := by
  rw [h.hd p hp2]
  congr 2; omega
end Go.Proofs.Ytaojojjdfdlgpaa
