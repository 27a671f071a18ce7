import Derived.Test.YtingidbhmbgigaaStep
import Derived.Deep.RegionLawGrows
import Derived.Deep.AppendLies
namespace Go.Proofs.Ytingidbhmbgigaa
open Go.RowKit

/-- append to a row that is not empty, as one step of a region that draws: wherever the new row lies, the old cells lie as they lay. -/
theorem step_append_both {P : Program} {ops : Array Oper} {o : Oper} {a : Act} {w : World} {K : Act → World → Prop} {Q : Exit → Act → World → Prop} {E : Prop}
    (hg : o.guard = none) (s x : Operand) (t : TypeId) (hop : o.op = Op.call { callee := Callee.builtin Builtin.append, args := #[s, x], argTypes := #[t, t] })
    (e : TypeId) (i : TypeInfo) (z : Value) (size bytes : Nat) (h1 : P.underlying t = some (.slice e)) (h2 : P.info? e = some i) (h3 : i.zero = some z) (h4 : i.size = size) (h5 : i.bytes = bytes) (h6 : z.cells.size = size) (h7 : 0 < size)
    (g n cap : Nat) (xs : List Value) (hs : a.eval s = .slice (some ⟨g, 0, none⟩) n cap) (hown : w.ownsRow 0 e size (.slice (some ⟨g, 0, none⟩) n cap) n xs) (ad : Addr) (m c : Nat) (news : List Value) (hx : a.eval x = .slice (some ad) m c) (hn : news.length = m * size)
    (hc : ∀ j u, news[j]? = some u → w.cell? (ad.add j) = some u) (h1c : ∀ u ∈ news, u.oneCell' = true) (_hm : 0 < m) (b1 : n + m ≤ maxLen) (b2 : (n + m) * bytes ≤ 140737488355328)
    (hK : ∀ g' cap' w', w'.ownsRow 0 e size (.slice (some ⟨g', 0, none⟩) (n + m) cap') (n + m) (xs ++ news) → Fr (fun k => k = g) w w' → (g' = g ∨ w.heap.size ≤ g') → (∀ j, j < n * size → w'.cell? ⟨g, j, none⟩ = w.cell? ⟨g, j, none⟩) → K (a.put o.dst (.slice (some ⟨g', 0, none⟩) (n + m) cap')) w') :
    if Region.wanted o (yielded ops a.tmps) = true then Oper.wp P o a w K Q else E := by
  by_cases hcap : n + m ≤ cap
  · refine step_append_fit hg s x t hop 0 e i size h1 h2 h4 g n cap xs hs hown ad m c news hx hn hc h1c hcap ?_
    intro w' r1 r2 r3
    exact hK g cap w' r1 ((Fr.refl _ _).grown r2 (fun k hk _ => by cases hk; rfl)) (.inl rfl) r3
  · refine step_append_grows hg s x t hop e i z size bytes h1 h2 h3 h4 h5 h6 h7 (some ⟨g, 0, none⟩) n cap xs hs (by simp) hown.1 (fun b hb j u hj => ?_) ad m c news hx hn hc h1c (by omega) b1 b2 ?_
    · cases hb
      exact hown.cells rfl j u hj
    · intro v' w' r1 r2
      obtain ⟨g', cap', rfl, hb, _⟩ := r1.form (by omega)
      have f := (Fr.refl nob w).grown r2 (fun k hk => by cases hk)
      refine hK g' cap' w' ⟨r1.1, r1.2.imp id (fun ⟨g, cap, cur, e, _, rest⟩ => ⟨g, cap, cur, e, Nat.zero_le _, rest⟩)⟩ (f.mono (fun _ _ h => h.elim)) (.inr hb) (fun j hj => ?_)
      have hl : j < xs.length := by rw [hown.1]; exact hj
      have hcell : w.cell? ⟨g, j, none⟩ = some xs[j] := (hown.cellAt j hj).trans (by simp [hl])
      rw [hcell]
      exact f.cell' hcell (fun h => h)
end Go.Proofs.Ytingidbhmbgigaa
