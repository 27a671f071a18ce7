/- The parser of the program answers as the reference's reader: pure. -/
import Derived.Test.YtbjdaibkcchllaaQp1
import Derived.Test.YtbjdaibkcchllaaQy
namespace Go.Proofs.Ytbjdaibkcchllaa
open Go.RowKit

/-! the parser answers as the reference's reader -/
def posT (L : List (Nat × List UInt8)) (K i : Nat) : Nat := ((L[i]?).map Prod.fst).getD K
/-- the tokens of s; where they end without the end of the text, K is the byte that begins none -/
structure Toks (s : List UInt8) (L : List (Nat × List UInt8)) (K : Nat) : Prop where
  tok : ∀ i, i < L.length → tokP s (posT L K i) = wordP L i false
  next : ∀ i, wordP L i false ≠ [] → accP s (posT L K i) = if i + 1 < L.length then .ok (posT L K (i + 1)) else .bad (posT L K (i + 1))
def Alive (L : List (Nat × List UInt8)) (f : Bool) (j : Nat) : Prop := f = false ∧ j < L.length
instance (L : List (Nat × List UInt8)) (f : Bool) (j : Nat) : Decidable (Alive L f j) := by unfold Alive; infer_instance
def outG {α : Type} (L : List (Nat × List UInt8)) (K : Nat) (x : α × Nat × Bool) : Res (α × Nat) := if Alive L x.2.2 x.2.1 then .ok (x.1, posT L K x.2.1) else .bad (posT L K x.2.1)
theorem word_dead {L : List (Nat × List UInt8)} {f : Bool} {j : Nat} (h : ¬ Alive L f j) : wordP L j f = [] := by
  cases f with
  | true => rfl
  | false =>
    have hj : L.length ≤ j := by
      rcases Nat.lt_or_ge j L.length with h2 | h2
      · exact absurd ⟨rfl, h2⟩ h
      · exact h2
    simp [wordP, List.getElem?_eq_none hj]
theorem skip_dead {L : List (Nat × List UInt8)} {s : List UInt8} {j : Nat} {f : Bool} (hs : s ≠ []) (h : wordP L j f = []) : skipP L s j f = false := by
  unfold skipP; rw [h]; exact beq_eq_false_iff_ne.2 (Ne.symm hs)
theorem dead_more {L : List (Nat × List UInt8)} {n k i : Nat} {ts : List Tr} {b : Bool} {x : Tr × Nat × Bool} (h : wordP L i b = []) (hx : moreR L n k ts i b = some x) : x = (wrapR k ts, i, b) := by
  cases n with
  | zero => rw [moreR] at hx; cases hx
  | succ n =>
    rw [moreR, skip_dead (sgR_ne k) h, if_neg (by decide)] at hx
    exact (Option.some.inj hx).symm
theorem dead_same {L : List (Nat × List UInt8)} {n : Nat} {x y : Tr × Nat × Bool} (h : wordP L x.2.1 x.2.2 = []) (hx : sameR L n x = some y) : y = x := by
  cases n with
  | zero => rw [sameR] at hx; cases hx
  | succ n =>
    rw [sameR, skip_dead (by decide) h, if_neg (by decide)] at hx
    exact (Option.some.inj hx).symm
structure DeadS (L : List (Nat × List UInt8)) (n : Nat) : Prop where
  least : ∀ i b x, wordP L i b = [] → leastR L n i b = some x → x.2 = (i, true)
  row : ∀ k i b x, wordP L i b = [] → rowR L n k i b = some x → x.2 = (i, true)
  imp : ∀ i b x, wordP L i b = [] → impliesR L n i b = some x → x.2 = (i, true)
  choice : ∀ i b x, wordP L i b = [] → choiceR L n i b = some x → x.2 = (i, true)
theorem dead_all (L : List (Nat × List UInt8)) : ∀ n, DeadS L n
  | 0 => ⟨fun i b x _ h => (by rw [leastR] at h; cases h), fun k i b x _ h => (by rw [rowR] at h; cases h), fun i b x _ h => (by rw [impliesR] at h; cases h), fun i b x _ h => (by rw [choiceR] at h; cases h)⟩
  | n + 1 => by
    have ih := dead_all L n
    refine ⟨fun i b x hw h => ?_, fun k i b x hw h => ?_, fun i b x hw h => ?_, fun i b x hw h => ?_⟩
    · rw [leastR, if_pos hw] at h
      rw [← Option.some.inj h]
    · rw [rowR] at h
      split at h
      · exact ih.least i b x hw h
      · obtain ⟨y, hy, h2⟩ := Option.bind_eq_some_iff.1 h
        have e := ih.row _ _ _ _ hw hy
        rw [e] at h2
        rw [dead_more (b := true) rfl h2]
    · rw [impliesR] at h
      obtain ⟨y, hy, h2⟩ := Option.bind_eq_some_iff.1 h
      have e := ih.row _ _ _ _ hw hy
      rw [e, skip_dead (by decide) rfl, if_neg (by decide)] at h2
      rw [← Option.some.inj h2, e]
    · rw [choiceR] at h
      obtain ⟨y, hy, h2⟩ := Option.bind_eq_some_iff.1 h
      have e := ih.imp _ _ _ hw hy
      obtain ⟨a, ha, h3⟩ := Option.bind_eq_some_iff.1 h2
      have e2 := dead_same (by rw [e]; rfl) ha
      rw [e2, e, skip_dead (by decide) rfl, if_neg (by decide)] at h3
      rw [← Option.some.inj h3, e]
/-- what the reader does on a level behind what it has -/
def tail2 (L : List (Nat × List UInt8)) (n : Nat) (x : Tr × Nat × Bool) : RdR := if skipP L [61, 62] x.2.1 x.2.2 = true then (impliesR L n (x.2.1 + 1) x.2.2).map fun y => (.mk 8 [] [x.1, y.1], y.2) else some x
def tail0 (L : List (Nat × List UInt8)) (n : Nat) (a : Tr × Nat × Bool) : RdR := if skipP L [63] a.2.1 a.2.2 = true then (choiceR L n (a.2.1 + 1) a.2.2).bind fun y =>
      if skipP L [58] y.2.1 y.2.2 = true then (choiceR L n (y.2.1 + 1) y.2.2).map fun z => (.mk 10 [] [a.1, y.1, z.1], z.2)
      else some (a.1, y.2.1, true)
    else some a
def joinR (L : List (Nat × List UInt8)) (k n : Nat) (x : Tr × Nat × Bool) : RdR :=
  if k = 5 then moreR L n 2 [x.1] x.2.1 x.2.2
  else if k = 4 then moreR L n 3 [x.1] x.2.1 x.2.2
  else if k = 3 then moreR L n 4 [x.1] x.2.1 x.2.2
  else if k = 2 then tail2 L n x
  else if k = 1 then sameR L n x
  else tail0 L n x
theorem dead_join {L : List (Nat × List UInt8)} {k n : Nat} {x y : Tr × Nat × Bool} (h : wordP L x.2.1 x.2.2 = []) (hy : joinR L k n x = some y) : y.2 = x.2 := by
  unfold joinR at hy
  split at hy
  · rw [dead_more h hy]
  split at hy
  · rw [dead_more h hy]
  split at hy
  · rw [dead_more h hy]
  split at hy
  · unfold tail2 at hy
    rw [skip_dead (by decide) h, if_neg (by decide)] at hy
    rw [← Option.some.inj hy]
  split at hy
  · rw [dead_same h hy]
  · unfold tail0 at hy
    rw [skip_dead (by decide) h, if_neg (by decide)] at hy
    rw [← Option.some.inj hy]
/-- the levels from lvl + d - 1 down to lvl, one after the other -/
def ChR (L : List (Nat × List UInt8)) (lvl : Nat) : Nat → Tr × Nat × Bool → Tr × Nat × Bool → Prop
  | 0, x, z => z = x
  | d + 1, x, z => ∃ n y, joinR L (lvl + d) n x = some y ∧ ChR L lvl d y z
theorem dead_ch {L : List (Nat × List UInt8)} {lvl : Nat} : ∀ {d : Nat} {x z : Tr × Nat × Bool}, wordP L x.2.1 x.2.2 = [] → ChR L lvl d x z → z.2 = x.2
  | 0, x, z, _, h => by rw [ChR] at h; rw [h]
  | d + 1, x, z, hw, h => by
    rw [ChR] at h
    obtain ⟨n, y, hy, h2⟩ := h
    have e := dead_join hw hy
    rw [dead_ch (by rw [e]; exact hw) h2, e]
/-- the reader that the parser's level lvl is -/
def gR (L : List (Nat × List UInt8)) (lvl n i : Nat) : RdR :=
  if lvl = 6 then leastR L n i false else if lvl = 5 then rowR L n 2 i false else if lvl = 4 then rowR L n 3 i false else if lvl = 3 then rowR L n 4 i false
  else if lvl = 2 then impliesR L n i false else choiceR L n i false
theorem rowOne {L : List (Nat × List UInt8)} {n i : Nat} {b : Bool} {x : Tr × Nat × Bool} (h : rowR L n 1 i b = some x) : ∃ m, leastR L m i b = some x := by
  cases n with
  | zero => rw [rowR] at h; cases h
  | succ n => rw [rowR, if_pos rfl] at h; exact ⟨n, h⟩
theorem rowStep {L : List (Nat × List UInt8)} {n k i : Nat} {b : Bool} {x : Tr × Nat × Bool} (hk : k ≠ 1) (h : rowR L n k i b = some x) : ∃ m y, rowR L m (k - 1) i b = some y ∧ moreR L m k [y.1] y.2.1 y.2.2 = some x := by
  cases n with
  | zero => rw [rowR] at h; cases h
  | succ n =>
    rw [rowR, if_neg hk] at h
    obtain ⟨y, hy, h2⟩ := Option.bind_eq_some_iff.1 h
    exact ⟨n, y, hy, h2⟩
theorem g5 {L : List (Nat × List UInt8)} {n i : Nat} {x : Tr × Nat × Bool} (h : rowR L n 2 i false = some x) : ∃ m y, leastR L m i false = some y ∧ ∃ k, joinR L 5 k y = some x := by
  obtain ⟨m, y, hy, h2⟩ := rowStep (by decide) h
  obtain ⟨m', hy'⟩ := rowOne hy
  exact ⟨m', y, hy', m, h2⟩
theorem g4 {L : List (Nat × List UInt8)} {n i : Nat} {x : Tr × Nat × Bool} (h : rowR L n 3 i false = some x) : ∃ m y, leastR L m i false = some y ∧ ∃ k z, joinR L 5 k y = some z ∧ ∃ k, joinR L 4 k z = some x := by
  obtain ⟨m, y, hy, h2⟩ := rowStep (by decide) h
  obtain ⟨m', y', hy', k, hk⟩ := g5 hy
  exact ⟨m', y', hy', k, y, hk, m, h2⟩
theorem g3 {L : List (Nat × List UInt8)} {n i : Nat} {x : Tr × Nat × Bool} (h : rowR L n 4 i false = some x) : ∃ m y, leastR L m i false = some y ∧ ∃ k z, joinR L 5 k y = some z ∧ ∃ k u, joinR L 4 k z = some u ∧ ∃ k, joinR L 3 k u = some x := by
  obtain ⟨m, y, hy, h2⟩ := rowStep (by decide) h
  obtain ⟨m', y', hy', k, z, hz, k2, hk⟩ := g4 hy
  exact ⟨m', y', hy', k, z, hz, k2, y, hk, m, h2⟩
theorem g2 {L : List (Nat × List UInt8)} {n i : Nat} {x : Tr × Nat × Bool} (h : impliesR L n i false = some x) : ∃ m y, leastR L m i false = some y ∧ ∃ k z, joinR L 5 k y = some z ∧ ∃ k u, joinR L 4 k z = some u ∧ ∃ k v, joinR L 3 k u = some v ∧ ∃ k, joinR L 2 k v = some x := by
  cases n with
  | zero => rw [impliesR] at h; cases h
  | succ n =>
    rw [impliesR] at h
    obtain ⟨y, hy, h2⟩ := Option.bind_eq_some_iff.1 h
    obtain ⟨m', y', hy', k, z, hz, k2, u, hk, k3, h3⟩ := g3 hy
    exact ⟨m', y', hy', k, z, hz, k2, u, hk, k3, y, h3, n, h2⟩
theorem g0 {L : List (Nat × List UInt8)} {n i : Nat} {x : Tr × Nat × Bool} (h : choiceR L n i false = some x) : ∃ m y, leastR L m i false = some y ∧ ∃ k z, joinR L 5 k y = some z ∧ ∃ k u, joinR L 4 k z = some u ∧ ∃ k v, joinR L 3 k u = some v ∧ ∃ k v2, joinR L 2 k v = some v2 ∧ ∃ k v1, joinR L 1 k v2 = some v1 ∧ ∃ k, joinR L 0 k v1 = some x := by
  cases n with
  | zero => rw [choiceR] at h; cases h
  | succ n =>
    rw [choiceR] at h
    obtain ⟨y, hy, h2⟩ := Option.bind_eq_some_iff.1 h
    obtain ⟨a, ha, h4⟩ := Option.bind_eq_some_iff.1 h2
    obtain ⟨m', y', hy', k, z, hz, k2, u, hk, k3, v, h3, k4, h5⟩ := g2 hy
    exact ⟨m', y', hy', k, z, hz, k2, u, hk, k3, v, h3, k4, y, h5, n, a, ha, n, h4⟩
def Lvl (l : Nat) : Prop := l = 6 ∨ l = 5 ∨ l = 4 ∨ l = 3 ∨ l = 2 ∨ l = 0
theorem g_ch {L : List (Nat × List UInt8)} {lvl n i : Nat} {x : Tr × Nat × Bool} (hl : Lvl lvl) (h : gR L lvl n i = some x) : ∃ m y, leastR L m i false = some y ∧ ChR L lvl (6 - lvl) y x := by
  rcases hl with rfl | rfl | rfl | rfl | rfl | rfl
  · exact ⟨n, x, h, rfl⟩
  · obtain ⟨m, y, hy, k, h2⟩ := g5 h
    exact ⟨m, y, hy, k, x, h2, rfl⟩
  · obtain ⟨m, y, hy, k, z, hz, k2, h2⟩ := g4 h
    exact ⟨m, y, hy, k, z, hz, k2, x, h2, rfl⟩
  · obtain ⟨m, y, hy, k, z, hz, k2, u, h2, k3, h3⟩ := g3 h
    exact ⟨m, y, hy, k, z, hz, k2, u, h2, k3, x, h3, rfl⟩
  · obtain ⟨m, y, hy, k, z, hz, k2, u, h2, k3, v, h3, k4, h4⟩ := g2 h
    exact ⟨m, y, hy, k, z, hz, k2, u, h2, k3, v, h3, k4, x, h4, rfl⟩
  · obtain ⟨m, y, hy, k, z, hz, k2, u, h2, k3, v, h3, k4, v2, h4, k5, v1, h5, k6, h6⟩ := g0 h
    exact ⟨m, y, hy, k, z, hz, k2, u, h2, k3, v, h3, k4, v2, h4, k5, v1, h5, k6, x, h6, rfl⟩
theorem outG_alive {α : Type} {L : List (Nat × List UInt8)} {K : Nat} {x : α × Nat × Bool} (h : Alive L x.2.2 x.2.1) : outG L K x = .ok (x.1, posT L K x.2.1) := if_pos h
theorem outG_dead {α : Type} {L : List (Nat × List UInt8)} {K : Nat} {x : α × Nat × Bool} (h : ¬ Alive L x.2.2 x.2.1) : outG L K x = .bad (posT L K x.2.1) := if_neg h
theorem outG_dead' {α : Type} {L : List (Nat × List UInt8)} {K i : Nat} {x : α × Nat × Bool} (h : x.2 = (i, true)) : outG L K x = .bad (posT L K i) := by
  have h2 : ¬ Alive L x.2.2 x.2.1 := by rw [h]; exact fun h => Bool.noConfusion h.1
  rw [outG_dead h2, h]
theorem Res.bind_ne {α β : Type} {r : Res α} {f : α → Res β} (h : r.bind f ≠ .out) : r ≠ .out := fun e => h (by rw [e]; rfl)
theorem acc_then {β : Type} {s : List UInt8} {L : List (Nat × List UInt8)} {K : Nat} (hT : Toks s L K) {i : Nat} {xr : Tr × Nat × Bool} {pf : Nat → Res (Tr × Nat)} {G : Tr × Nat → Res β} (hw : wordP L i false ≠ [])
    (hd2 : ¬ i + 1 < L.length → xr.2 = (i + 1, true))
    (hp : i + 1 < L.length → pf (posT L K (i + 1)) ≠ .out → pf (posT L K (i + 1)) = outG L K xr)
    (ho : ((accP s (posT L K i)).bind fun j => (pf j).bind G) ≠ .out) : ((accP s (posT L K i)).bind fun j => (pf j).bind G) = (outG L K xr).bind G := by
  have ha := hT.next i hw
  by_cases h1 : i + 1 < L.length
  · rw [if_pos h1] at ha
    rw [ha, Res.bind_ok] at ho ⊢
    rw [hp h1 (Res.bind_ne ho)]
  · rw [if_neg h1] at ha
    rw [ha, outG_dead' (hd2 h1)]; rfl
theorem acc_end {s : List UInt8} {L : List (Nat × List UInt8)} {K : Nat} (hT : Toks s L K) {t : Tr} {i : Nat} (hw : wordP L i false ≠ []) : ((accP s (posT L K i)).bind fun j => Res.ok (t, j)) = outG L K (t, i + 1, false) := by
  rw [hT.next i hw]
  by_cases h1 : i + 1 < L.length
  · rw [if_pos h1, outG_alive ⟨rfl, h1⟩]; rfl
  · rw [if_neg h1, outG_dead (fun h => h1 h.2)]; rfl
theorem dead_word {L : List (Nat × List UInt8)} {i : Nat} (h : ¬ i < L.length) : wordP L i false = [] := word_dead (fun h2 => h h2.2)
structure Eqv (s : List UInt8) (L : List (Nat × List UInt8)) (K N : Nat) : Prop where
  least : ∀ i n x, i < L.length → leastF s N (posT L K i) ≠ .out → leastR L n i false = some x → leastF s N (posT L K i) = outG L K x
  form : ∀ lvl i n x, Lvl lvl → i < L.length → formF s N lvl (posT L K i) ≠ .out → gR L lvl n i = some x → formF s N lvl (posT L K i) = outG L K x
  joins : ∀ d lvl e j x, lvl + d ≤ 6 → j < L.length → joinsF s N d lvl e (posT L K j) ≠ .out → ChR L lvl d (e, j, false) x → joinsF s N d lvl e (posT L K j) = outG L K x
  join : ∀ k e j n x, k ≤ 5 → j < L.length → joinF s N k e (posT L K j) ≠ .out → joinR L k n (e, j, false) = some x → joinF s N k e (posT L K j) = outG L K x
  row : ∀ k e j n x, k = 2 ∨ k = 3 ∨ k = 4 → j < L.length → rowF s N (opR k) e (posT L K j) ≠ .out → moreR L n k [e] j false = some x → rowF s N (opR k) e (posT L K j) = outG L K x
  kids : ∀ k ts j n x, k = 2 ∨ k = 3 ∨ k = 4 → j < L.length → kidsF s N (opR k) ts (posT L K j) ≠ .out → moreR L n k ts j false = some x →
    ∃ us, x.1 = wrapR k us ∧ ts.length ≤ us.length ∧ (tokP s (posT L K j) = sgR k → ts.length < us.length) ∧ kidsF s N (opR k) ts (posT L K j) = outG L K (us, x.2)
  two8 : ∀ e j n x, j < L.length → twoF s N 8 e (posT L K j) ≠ .out → tail2 L n (e, j, false) = some x → twoF s N 8 e (posT L K j) = outG L K x
  two9 : ∀ e j n x, j < L.length → twoF s N 9 e (posT L K j) ≠ .out → sameR L n (e, j, false) = some x → twoF s N 9 e (posT L K j) = outG L K x
theorem sgR_eq {k : Nat} (h : k = 2 ∨ k = 3 ∨ k = 4) : sgnP (opR k) 1 = sgR k := by rcases h with rfl | rfl | rfl <;> rfl
theorem wrapR_two {k : Nat} {ts : List Tr} (h : 2 ≤ ts.length) : wrapR k ts = .mk (opR k) [] ts := by
  match ts, h with
  | [], h => simp at h
  | [t], h => simp at h
  | a :: b :: l, _ => rfl
theorem kid_gR {L : List (Nat × List UInt8)} {k n i : Nat} {x : Tr × Nat × Bool} (h : k = 2 ∨ k = 3 ∨ k = 4) (hx : rowR L n (k - 1) i false = some x) : Lvl (kidP (opR k) 1) ∧ ∃ m, gR L (kidP (opR k) 1) m i = some x := by
  rcases h with rfl | rfl | rfl
  · obtain ⟨m, hm⟩ := rowOne hx
    exact ⟨.inl rfl, m, hm⟩
  · exact ⟨.inr (.inl rfl), n, hx⟩
  · exact ⟨.inr (.inr (.inl rfl)), n, hx⟩
theorem eqv_all {s : List UInt8} {L : List (Nat × List UInt8)} {K : Nat} (hT : Toks s L K) : ∀ N, Eqv s L K N
  | 0 => by
    refine ⟨?_, ?_, ?_, ?_, ?_, ?_, ?_, ?_⟩
    · intro i n x _ h; rw [leastF] at h; exact absurd rfl h
    · intro l i n x _ _ h; rw [formF] at h; exact absurd rfl h
    · intro d l e j x _ _ h; rw [joinsF] at h; exact absurd rfl h
    · intro k e j n x _ _ h; rw [joinF] at h; exact absurd rfl h
    · intro k e j n x _ _ h; rw [rowF] at h; exact absurd rfl h
    · intro k e j n x _ _ h; rw [kidsF] at h; exact absurd rfl h
    · intro e j n x _ h; rw [twoF] at h; exact absurd rfl h
    · intro e j n x _ h; rw [twoF] at h; exact absurd rfl h
  | N + 1 => by
    have ih := eqv_all hT N
    have two : ∀ op e j (x : Tr × Nat × Bool) y, op = 8 ∨ op = 9 → (∃ n, impliesR L n (j + 1) false = some y) → j < L.length → tokP s (posT L K j) = sgnP op 1 → (((accP s (posT L K j)).bind fun j1 => (formF s N (kidP op 1) j1).bind fun y => Res.ok (Tr.mk op [] [e, y.1], y.2)) ≠ .out) →
        (((accP s (posT L K j)).bind fun j1 => (formF s N (kidP op 1) j1).bind fun y => Res.ok (Tr.mk op [] [e, y.1], y.2)) = outG L K ((.mk op [] [e, y.1] : Tr), y.2)) := by
      intro op e j x y hop hy hj ht ho
      obtain ⟨n, hy⟩ := hy
      have hw : wordP L j false ≠ [] := by
        rw [← hT.tok j hj, ht]; rcases hop with rfl | rfl <;> decide
      have hl : kidP op 1 = 2 := by rcases hop with rfl | rfl <;> rfl
      rw [acc_then hT (xr := y) hw (fun h => (dead_all L n).imp _ _ _ (dead_word h) hy) (fun h1 h2 => ih.form (kidP op 1) (j + 1) n y (by rw [hl]; simp [Lvl]) h1 h2 (by rw [hl]; exact hy)) ho]
      by_cases ha : Alive L y.2.2 y.2.1
      · rw [outG_alive ha, outG_alive (x := ((.mk op [] [e, y.1] : Tr), y.2)) ha]; rfl
      · rw [outG_dead ha, outG_dead (x := ((.mk op [] [e, y.1] : Tr), y.2)) ha]; rfl
    refine ⟨?_, ?_, ?_, ?_, ?_, ?_, ?_, ?_⟩
    · intro i n x hi ho hx
      cases n with
      | zero => rw [leastR] at hx; cases hx
      | succ n =>
        have ht := hT.tok i hi
        rw [leastF, ht] at ho ⊢
        rw [leastR] at hx
        by_cases h0 : wordP L i false = []
        · rw [if_pos h0] at hx
          rw [h0, if_neg (by decide), if_neg (by decide), if_neg (by decide), if_neg (by decide), if_neg (by decide)]
          rw [← Option.some.inj hx, outG_dead (fun h => Bool.noConfusion h.1)]
        rw [if_neg h0] at hx
        by_cases h1 : wordP L i false = [33]
        · rw [if_pos h1] at ho hx ⊢
          obtain ⟨y, hy, rfl⟩ := Option.map_eq_some_iff.1 hx
          rw [acc_then hT (xr := y) h0 (fun h => (dead_all L n).least _ _ _ (dead_word h) hy) (fun h1 h2 => ih.least (i + 1) n y h1 h2 hy) ho]
          by_cases ha : Alive L y.2.2 y.2.1
          · rw [outG_alive ha, outG_alive (x := ((.mk 4 [] [y.1] : Tr), y.2)) ha]; rfl
          · rw [outG_dead ha, outG_dead (x := ((.mk 4 [] [y.1] : Tr), y.2)) ha]; rfl
        rw [if_neg h1] at ho hx ⊢
        by_cases h2 : wordP L i false = [40]
        · rw [if_pos h2] at ho hx ⊢
          obtain ⟨y, hy, rfl⟩ := Option.map_eq_some_iff.1 hx
          rw [acc_then hT (xr := y) h0 (fun h => (dead_all L n).choice _ _ _ (dead_word h) hy) (fun h1 h2 => ih.form 0 (i + 1) n y (by simp [Lvl]) h1 h2 hy) ho]
          by_cases ha : Alive L y.2.2 y.2.1
          · rw [outG_alive ha, Res.bind_ok]
            unfold expP
            dsimp only
            rw [hT.tok _ ha.2]
            by_cases hs : wordP L y.2.1 false = [41]
            · have hsk : skipP L [41] y.2.1 y.2.2 = true := by rw [ha.1]; unfold skipP; rw [hs]; rfl
              rw [if_pos hs, if_pos hsk, acc_end hT (by rw [hs]; decide), ha.1]
            · have hsk : skipP L [41] y.2.1 y.2.2 = false := by rw [ha.1]; exact beq_eq_false_iff_ne.2 hs
              rw [if_neg hs, hsk, if_neg (by decide), outG_dead (fun h => Bool.noConfusion h.1)]; rfl
          · have hsk := skip_dead (s := [41]) (by decide) (word_dead ha)
            rw [hsk, if_neg (by decide), outG_dead ha, outG_dead (fun h => Bool.noConfusion h.1)]; rfl
        rw [if_neg h2] at ho hx ⊢
        by_cases h3 : wordP L i false = [48]
        · rw [if_pos h3] at ho hx ⊢
          rw [acc_end hT h0, ← Option.some.inj hx]
        rw [if_neg h3] at ho hx ⊢
        by_cases h4 : wordP L i false = [49]
        · rw [if_pos h4] at ho hx ⊢
          rw [acc_end hT h0, ← Option.some.inj hx]
        rw [if_neg h4] at ho hx ⊢
        by_cases h5 : nameB (wordP L i false) = true
        · rw [if_pos h5] at ho hx ⊢
          rw [acc_end hT h0, ← Option.some.inj hx]
        · rw [if_neg h5] at ho hx ⊢
          rw [← Option.some.inj hx, outG_dead (fun h => Bool.noConfusion h.1)]
    · intro lvl i n x hl hi ho hx
      obtain ⟨m, y, hy, hc⟩ := g_ch hl hx
      rw [formF] at ho ⊢
      have e := ih.least i m y hi (Res.bind_ne ho) hy
      rw [e] at ho ⊢
      by_cases ha : Alive L y.2.2 y.2.1
      · obtain ⟨t, j, f⟩ := y
        obtain ⟨hf, hj⟩ := ha
        dsimp only at hf hj
        subst hf
        rw [outG_alive ⟨rfl, hj⟩, Res.bind_ok] at ho ⊢
        exact ih.joins (6 - lvl) lvl t j x (by rcases hl with rfl | rfl | rfl | rfl | rfl | rfl <;> decide) hj ho hc
      · have e2 := dead_ch (word_dead ha) hc
        rw [outG_dead ha, outG_dead (x := x) (by rw [e2]; exact ha), e2]; rfl
    · intro d lvl e j x hd hj ho hc
      cases d with
      | zero =>
        rw [ChR] at hc
        subst hc
        rw [joinsF, outG_alive ⟨rfl, hj⟩]
      | succ d =>
        rw [ChR] at hc
        obtain ⟨n, y, hy, hc⟩ := hc
        rw [joinsF] at ho ⊢
        have e2 := ih.join (lvl + d) e j n y (by omega) hj (Res.bind_ne ho) hy
        rw [e2] at ho ⊢
        by_cases ha : Alive L y.2.2 y.2.1
        · obtain ⟨t, j2, f⟩ := y
          obtain ⟨hf, hj2⟩ := ha
          dsimp only at hf hj2
          subst hf
          rw [outG_alive ⟨rfl, hj2⟩, Res.bind_ok] at ho ⊢
          exact ih.joins d lvl t j2 x (by omega) hj2 ho hc
        · have e3 := dead_ch (word_dead ha) hc
          rw [outG_dead ha, outG_dead (x := x) (by rw [e3]; exact ha), e3]; rfl
    · intro k e j n x hk hj ho hx
      rw [joinF] at ho ⊢
      unfold joinR at hx
      split
      · rename_i h
        rw [if_pos h] at ho hx
        exact ih.row 2 e j n x (by omega) hj ho hx
      rename_i h5; rw [if_neg h5] at ho hx
      split
      · rename_i h
        rw [if_pos h] at ho hx
        exact ih.row 3 e j n x (by omega) hj ho hx
      rename_i h4; rw [if_neg h4] at ho hx
      split
      · rename_i h
        rw [if_pos h] at ho hx
        exact ih.row 4 e j n x (by omega) hj ho hx
      rename_i h3; rw [if_neg h3] at ho hx
      split
      · rename_i h
        rw [if_pos h] at ho hx
        exact ih.two8 e j n x hj ho hx
      rename_i h2; rw [if_neg h2] at ho hx
      split
      · rename_i h
        rw [if_pos h] at ho hx
        exact ih.two9 e j n x hj ho hx
      rename_i h1; rw [if_neg h1] at ho hx
      unfold tail0 at hx
      dsimp only at hx
      rw [hT.tok j hj] at ho ⊢
      by_cases hs : wordP L j false = [63]
      · have hsk : skipP L [63] j false = true := by unfold skipP; rw [hs]; rfl
        rw [if_pos hs] at ho ⊢
        rw [if_pos hsk] at hx
        obtain ⟨y, hy, hx2⟩ := Option.bind_eq_some_iff.1 hx
        have hw : wordP L j false ≠ [] := by rw [hs]; decide
        rw [acc_then hT (xr := y) hw (fun h => (dead_all L n).choice _ _ _ (dead_word h) hy) (fun h1 h2 => ih.form 0 (j + 1) n y (by simp [Lvl]) h1 h2 hy) ho]
        rw [acc_then hT (xr := y) hw (fun h => (dead_all L n).choice _ _ _ (dead_word h) hy) (fun h1 h2 => ih.form 0 (j + 1) n y (by simp [Lvl]) h1 h2 hy) ho] at ho
        by_cases ha : Alive L y.2.2 y.2.1
        · rw [outG_alive ha, Res.bind_ok] at ho ⊢
          unfold expP at ho ⊢
          dsimp only at ho ⊢
          rw [hT.tok _ ha.2] at ho ⊢
          by_cases hs2 : wordP L y.2.1 false = [58]
          · have hsk2 : skipP L [58] y.2.1 y.2.2 = true := by rw [ha.1]; unfold skipP; rw [hs2]; rfl
            rw [if_pos hsk2, ha.1] at hx2
            rw [if_pos hs2] at ho ⊢
            obtain ⟨z, hz, rfl⟩ := Option.map_eq_some_iff.1 hx2
            have hw2 : wordP L y.2.1 false ≠ [] := by rw [hs2]; decide
            rw [acc_then hT (xr := z) hw2 (fun h => (dead_all L n).choice _ _ _ (dead_word h) hz) (fun h1 h2 => ih.form 0 (y.2.1 + 1) n z (by simp [Lvl]) h1 h2 hz) ho]
            by_cases hb : Alive L z.2.2 z.2.1
            · rw [outG_alive hb, outG_alive (x := ((.mk 10 [] [e, y.1, z.1] : Tr), z.2)) hb]; rfl
            · rw [outG_dead hb, outG_dead (x := ((.mk 10 [] [e, y.1, z.1] : Tr), z.2)) hb]; rfl
          · have hsk2 : skipP L [58] y.2.1 y.2.2 = false := by rw [ha.1]; exact beq_eq_false_iff_ne.2 hs2
            rw [hsk2, if_neg (by decide)] at hx2
            rw [if_neg hs2, ← Option.some.inj hx2, outG_dead (fun h => Bool.noConfusion h.1)]; rfl
        · rw [skip_dead (by decide) (word_dead ha), if_neg (by decide)] at hx2
          rw [outG_dead ha, ← Option.some.inj hx2, outG_dead (fun h => Bool.noConfusion h.1)]; rfl
      · have hsk : skipP L [63] j false = false := beq_eq_false_iff_ne.2 hs
        rw [hsk, if_neg (by decide)] at hx
        rw [if_neg hs, ← Option.some.inj hx, outG_alive ⟨rfl, hj⟩]
    · intro k e j n x hk hj ho hx
      rw [rowF, sgR_eq hk] at ho ⊢
      by_cases hs : tokP s (posT L K j) = sgR k
      · rw [if_pos hs] at ho ⊢
        obtain ⟨us, hu, _, hlen, he⟩ := ih.kids k [e] j n x hk hj (Res.bind_ne ho) hx
        have h2 : 2 ≤ us.length := hlen hs
        rw [he]
        obtain ⟨t, j2, f⟩ := x
        dsimp only at hu
        rw [hu, wrapR_two h2]
        by_cases ha : Alive L f j2
        · rw [outG_alive (x := (us, j2, f)) ha, outG_alive (x := ((.mk (opR k) [] us : Tr), j2, f)) ha]; rfl
        · rw [outG_dead (x := (us, j2, f)) ha, outG_dead (x := ((.mk (opR k) [] us : Tr), j2, f)) ha]; rfl
      · rw [if_neg hs]
        cases n with
        | zero => rw [moreR] at hx; cases hx
        | succ n =>
          have hsk : skipP L (sgR k) j false = false := by rw [hT.tok j hj] at hs; exact beq_eq_false_iff_ne.2 hs
          rw [moreR, hsk, if_neg (by decide)] at hx
          rw [← Option.some.inj hx, outG_alive ⟨rfl, hj⟩]; rfl
    · intro k ts j n x hk hj ho hx
      cases n with
      | zero => rw [moreR] at hx; cases hx
      | succ n =>
        rw [kidsF, sgR_eq hk] at ho ⊢
        rw [moreR] at hx
        by_cases hs : tokP s (posT L K j) = sgR k
        · have hsw : wordP L j false = sgR k := by rw [← hT.tok j hj]; exact hs
          have hsk : skipP L (sgR k) j false = true := by unfold skipP; rw [hsw]; exact beq_self_eq_true _
          rw [if_pos hs] at ho ⊢
          rw [if_pos hsk] at hx
          obtain ⟨y, hy, hx2⟩ := Option.bind_eq_some_iff.1 hx
          have hw : wordP L j false ≠ [] := by rw [hsw]; exact sgR_ne k
          obtain ⟨hl, m, hg⟩ := kid_gR hk hy
          have ea := acc_then hT (xr := y) hw (fun h => (dead_all L n).row _ _ _ _ (dead_word h) hy) (fun h1 h2 => ih.form _ (j + 1) m y hl h1 h2 hg) ho
          rw [ea] at ho ⊢
          by_cases ha : Alive L y.2.2 y.2.1
          · obtain ⟨t, j2, f⟩ := y
            obtain ⟨hf, hj2⟩ := ha
            dsimp only at hf hj2
            subst hf
            rw [outG_alive ⟨rfl, hj2⟩, Res.bind_ok] at ho ⊢
            obtain ⟨us, hu, hlen, _, he⟩ := ih.kids k (ts ++ [t]) j2 n x hk hj2 ho hx2
            rw [List.length_append, List.length_singleton] at hlen
            exact ⟨us, hu, by omega, fun _ => by omega, he⟩
          · have e2 := dead_more (word_dead ha) hx2
            subst e2
            refine ⟨ts ++ [y.1], rfl, by rw [List.length_append]; omega, fun _ => by rw [List.length_append, List.length_singleton]; omega, ?_⟩
            rw [outG_dead ha, outG_dead (x := (ts ++ [y.1], y.2)) ha]; rfl
        · have hsk : skipP L (sgR k) j false = false := by rw [hT.tok j hj] at hs; exact beq_eq_false_iff_ne.2 hs
          rw [hsk, if_neg (by decide)] at hx
          rw [if_neg hs]
          refine ⟨ts, by rw [← Option.some.inj hx], Nat.le_refl _, fun h => absurd h hs, ?_⟩
          rw [← Option.some.inj hx, outG_alive (x := (ts, j, false)) ⟨rfl, hj⟩]
    · intro e j n x hj ho hx
      unfold tail2 at hx
      dsimp only at hx
      rw [twoF] at ho ⊢
      by_cases hs : tokP s (posT L K j) = sgnP 8 1
      · have hsk : skipP L [61, 62] j false = true := by rw [hT.tok j hj] at hs; unfold skipP; rw [hs]; rfl
        rw [if_pos hsk] at hx
        rw [if_pos hs] at ho ⊢
        obtain ⟨y, hy, rfl⟩ := Option.map_eq_some_iff.1 hx
        exact two 8 e j (e, 0, false) y (.inl rfl) ⟨n, hy⟩ hj hs ho
      · have hsk : skipP L [61, 62] j false = false := by rw [hT.tok j hj] at hs; exact beq_eq_false_iff_ne.2 hs
        rw [hsk, if_neg (by decide)] at hx
        rw [if_neg hs, ← Option.some.inj hx, outG_alive ⟨rfl, hj⟩]
    · intro e j n x hj ho hx
      cases n with
      | zero => rw [sameR] at hx; cases hx
      | succ n =>
        rw [sameR] at hx
        dsimp only at hx
        rw [twoF] at ho ⊢
        by_cases hs : tokP s (posT L K j) = sgnP 9 1
        · have hsk : skipP L [60, 61, 62] j false = true := by rw [hT.tok j hj] at hs; unfold skipP; rw [hs]; rfl
          rw [if_pos hsk] at hx
          rw [if_pos hs] at ho ⊢
          obtain ⟨y, hy, rfl⟩ := Option.map_eq_some_iff.1 hx
          exact two 9 e j (e, 0, false) y (.inr rfl) ⟨n, hy⟩ hj hs ho
        · have hsk : skipP L [60, 61, 62] j false = false := by rw [hT.tok j hj] at hs; exact beq_eq_false_iff_ne.2 hs
          rw [hsk, if_neg (by decide)] at hx
          rw [if_neg hs, ← Option.some.inj hx, outG_alive ⟨rfl, hj⟩]
/-- no reader goes beyond the end of the text -/
structure Reach (L : List (Nat × List UInt8)) (n : Nat) : Prop where
  least : ∀ i b x, i < L.length → leastR L n i b = some x → x.2.1 < L.length
  row : ∀ k i b x, i < L.length → rowR L n k i b = some x → x.2.1 < L.length
  more : ∀ k ts i b x, i < L.length → moreR L n k ts i b = some x → x.2.1 < L.length
  imp : ∀ i b x, i < L.length → impliesR L n i b = some x → x.2.1 < L.length
  same : ∀ y x, y.2.1 < L.length → sameR L n y = some x → x.2.1 < L.length
  choice : ∀ i b x, i < L.length → choiceR L n i b = some x → x.2.1 < L.length
theorem reach_all {L : List (Nat × List UInt8)} (hL : ∀ i b, wordP L i b ≠ [] → i + 1 < L.length) : ∀ n, Reach L n
  | 0 => ⟨fun i b x _ h => (by rw [leastR] at h; cases h), fun k i b x _ h => (by rw [rowR] at h; cases h), fun k ts i b x _ h => (by rw [moreR] at h; cases h), fun i b x _ h => (by rw [impliesR] at h; cases h), fun y x _ h => (by rw [sameR] at h; cases h), fun i b x _ h => (by rw [choiceR] at h; cases h)⟩
  | n + 1 => by
    have ih := reach_all hL n
    have sk : ∀ (s : List UInt8) i b, s ≠ [] → skipP L s i b = true → i + 1 < L.length := fun s i b hs h => hL i b (by have e := beq_iff_eq.1 h; rw [e]; exact hs)
    refine ⟨fun i b x hi h => ?_, fun k i b x hi h => ?_, fun k ts i b x hi h => ?_, fun i b x hi h => ?_, fun y x hi h => ?_, fun i b x hi h => ?_⟩
    · rw [leastR] at h
      by_cases h0 : wordP L i b = []
      · rw [if_pos h0] at h; rw [← Option.some.inj h]; exact hi
      have h1 := hL i b h0
      rw [if_neg h0] at h
      split at h
      · obtain ⟨y, hy, rfl⟩ := Option.map_eq_some_iff.1 h
        have h2 := ih.least _ _ _ h1 hy
        exact h2
      split at h
      · obtain ⟨y, hy, rfl⟩ := Option.map_eq_some_iff.1 h
        have h2 := ih.choice _ _ _ h1 hy
        show (if skipP L [41] y.2.1 y.2.2 = true then (y.1, y.2.1 + 1, y.2.2) else (y.1, y.2.1, true) : Tr × Nat × Bool).2.1 < L.length
        split
        · rename_i hs; exact sk _ _ _ (by decide) hs
        · exact h2
      split at h
      · rw [← Option.some.inj h]; exact h1
      split at h
      · rw [← Option.some.inj h]; exact h1
      split at h
      · rw [← Option.some.inj h]; exact h1
      · rw [← Option.some.inj h]; exact hi
    · rw [rowR] at h
      split at h
      · exact ih.least _ _ _ hi h
      · obtain ⟨y, hy, h2⟩ := Option.bind_eq_some_iff.1 h
        exact ih.more _ _ _ _ _ (ih.row _ _ _ _ hi hy) h2
    · rw [moreR] at h
      split at h
      · rename_i hs
        obtain ⟨y, hy, h2⟩ := Option.bind_eq_some_iff.1 h
        exact ih.more _ _ _ _ _ (ih.row _ _ _ _ (sk _ _ _ (sgR_ne k) hs) hy) h2
      · rw [← Option.some.inj h]; exact hi
    · rw [impliesR] at h
      obtain ⟨y, hy, h2⟩ := Option.bind_eq_some_iff.1 h
      have h1 := ih.row _ _ _ _ hi hy
      split at h2
      · rename_i hs
        obtain ⟨z, hz, rfl⟩ := Option.map_eq_some_iff.1 h2
        have h3 := ih.imp _ _ _ (sk _ _ _ (by decide) hs) hz
        exact h3
      · rw [← Option.some.inj h2]; exact h1
    · rw [sameR] at h
      split at h
      · rename_i hs
        obtain ⟨z, hz, rfl⟩ := Option.map_eq_some_iff.1 h
        have h3 := ih.imp _ _ _ (sk _ _ _ (by decide) hs) hz
        exact h3
      · rw [← Option.some.inj h]; exact hi
    · rw [choiceR] at h
      obtain ⟨y, hy, h2⟩ := Option.bind_eq_some_iff.1 h
      obtain ⟨a, ha, h3⟩ := Option.bind_eq_some_iff.1 h2
      have h1 := ih.same _ _ (ih.imp _ _ _ hi hy) ha
      split at h3
      · rename_i hs
        obtain ⟨z, hz, h4⟩ := Option.bind_eq_some_iff.1 h3
        have h5 := ih.choice _ _ _ (sk _ _ _ (by decide) hs) hz
        split at h4
        · rename_i hs2
          obtain ⟨u, hu, rfl⟩ := Option.map_eq_some_iff.1 h4
          have h6 := ih.choice _ _ _ (sk _ _ _ (by decide) hs2) hu
          exact h6
        · rw [← Option.some.inj h4]; exact h5
      · rw [← Option.some.inj h3]; exact h1
/-! the reference's tokens -/
def signs2 : List (List UInt8) := [[60, 61, 62], [61, 62], [33], [38], [94], [124], [63], [58], [40], [41]]
/-- the sign with which a text begins -/
def sgnTok (s : List UInt8) : List UInt8 := (signs2.find? fun x => x.isPrefixOf s).getD []
/-- the word with which a text begins, if it is one -/
def wrdTok (s : List UInt8) : List UInt8 := if s.take (wlen s) = [48] ∨ s.take (wlen s) = [49] ∨ nameB (s.take (wlen s)) = true then s.take (wlen s) else []
def refTok (s : List UInt8) : List UInt8 := if sgnTok s = [] then wrdTok s else sgnTok s
theorem find_uniq {p : List UInt8 → Bool} {l m : List (List UInt8)} (hlm : ∀ x, x ∈ l → x ∈ m) (hml : ∀ x, x ∈ m → x ∈ l) (hu : ∀ x, x ∈ l → ∀ y, y ∈ l → p x = true → p y = true → x = y) : l.find? p = m.find? p := by
  cases h : l.find? p with
  | none =>
    symm
    rw [List.find?_eq_none] at h ⊢
    exact fun x hx => h x (hml x hx)
  | some x =>
    have h1 := List.find?_some h
    have h2 := List.mem_of_find?_eq_some h
    cases g : m.find? p with
    | none => exact absurd h1 (List.find?_eq_none.1 g x (hlm x h2))
    | some y =>
      have g1 := List.find?_some g
      have g2 := List.mem_of_find?_eq_some g
      rw [hu x h2 y (hml y g2) h1 g1]
theorem signs_same (s : List UInt8) : signs.find? (fun x => x.isPrefixOf s) = signs2.find? (fun x => x.isPrefixOf s) := by
  refine find_uniq (by decide) (by decide) fun x hx y hy h1 h2 => ?_
  have a := List.isPrefixOf_iff_prefix.1 h1
  have b := List.isPrefixOf_iff_prefix.1 h2
  have key : ∀ x, x ∈ signs → ∀ y, y ∈ signs → x.isPrefixOf y = true → x = y := by decide
  rcases Nat.le_total x.length y.length with h | h
  · exact key x hx y hy (List.isPrefixOf_iff_prefix.2 (List.prefix_of_prefix_length_le a b h))
  · exact (key y hy x hx (List.isPrefixOf_iff_prefix.2 (List.prefix_of_prefix_length_le b a h))).symm
theorem sgn_word {s : List UInt8} (h : wlen s ≠ 0) : signs2.find? (fun x => x.isPrefixOf s) = none := by
  rw [List.find?_eq_none]
  intro x hx hp
  have a := List.isPrefixOf_iff_prefix.1 hp
  cases s with
  | nil => exact h rfl
  | cons c l =>
    have hc : wrdB c.toNat = true := by
      cases hw : wrdB c.toNat with
      | true => rfl
      | false => exact absurd (by rw [wlen, hw]; rfl) h
    have key : ∀ x, x ∈ signs2 → ∃ d m, x = d :: m ∧ wrdB d.toNat = false := by
      intro x hx
      have k2 : ∀ x, x ∈ signs2 → x ≠ [] ∧ wrdB (x.headD 0).toNat = false := by decide
      obtain ⟨h1, h2⟩ := k2 x hx
      cases x with
      | nil => exact absurd rfl h1
      | cons d m => exact ⟨d, m, rfl, h2⟩
    obtain ⟨d, m, rfl, hd⟩ := key x hx
    obtain ⟨t, ht⟩ := a
    injection ht with e1 e2
    rw [e1, hc] at hd
    cases hd
theorem refTok_eq (s : List UInt8) : refTok s = firstTok s := by
  unfold refTok sgnTok wrdTok firstTok
  rw [signs_same]
  by_cases h : wlen s = 0
  · have e : s.take (wlen s) = [] := by rw [h]; rfl
    rw [e, if_neg (show ¬ (([] : List UInt8) = [48] ∨ ([] : List UInt8) = [49] ∨ nameB [] = true) by decide)]
    split
    · rename_i h2; rw [h2]; rfl
    · rfl
  · rw [sgn_word h]
    rfl
def toksP (s : List UInt8) : Nat → Nat → List (Nat × List UInt8) × Option Nat
  | 0, _ => ([], none)
  | n + 1, i => if i < s.length then (if s.getD i 0 = 32 then toksP s n (i + 1) else if refTok (s.drop i) = [] then ([], some i) else ((i, refTok (s.drop i)) :: (toksP s n (i + (refTok (s.drop i)).length)).1, (toksP s n (i + (refTok (s.drop i)).length)).2))
    else ([(s.length, [])], none)
theorem refTok_len (s : List UInt8) : (refTok s).length ≤ s.length := by rw [refTok_eq]; exact firstTok_len s
theorem step_first (s : List UInt8) : ∀ n i, i ≤ s.length → s.length - i < n → match (toksP s n i).1 with
    | t :: _ => stepP s i = .ok t.1
    | [] => ∃ k, (toksP s n i).2 = some k ∧ stepP s i = .bad k
  | 0, i, _, h => absurd h (Nat.not_lt_zero _)
  | n + 1, i, hi, h => by
    rw [toksP]
    by_cases h1 : i < s.length
    · rw [if_pos h1]
      have hg : s.getD i 0 = s[i] := by simp [h1]
      by_cases h2 : s.getD i 0 = 32
      · rw [if_pos h2]
        have ih := step_first s n (i + 1) (by omega) (by omega)
        have e : nextP s i = nextP s (i + 1) := by
          have hb : blanks (s.drop i) = blanks (s.drop (i + 1)) + 1 := by
            rw [List.drop_eq_getElem_cons h1, blanks, if_pos (by rw [← hg]; exact h2)]
          unfold nextP
          rw [hb, show i + (blanks (s.drop (i + 1)) + 1) = i + 1 + blanks (s.drop (i + 1)) by omega]
        have e2 : stepP s i = stepP s (i + 1) := by unfold stepP; rw [e]
        rw [e2]
        exact ih
      · rw [if_neg h2]
        have hb : blanks (s.drop i) = 0 := by
          rw [List.drop_eq_getElem_cons h1, blanks, if_neg (by rw [← hg]; exact h2)]
        by_cases h3 : refTok (s.drop i) = []
        · rw [if_pos h3]
          refine ⟨i, rfl, ?_⟩
          have e : nextP s i = .error i := by
            simp only [nextP, hb, Nat.add_zero]
            rw [if_pos ⟨by rw [← refTok_eq]; exact h3, h1⟩]
          unfold stepP; rw [e]
        · rw [if_neg h3]
          have e : nextP s i = .ok i := by
            simp only [nextP, hb, Nat.add_zero]
            rw [if_neg (fun h => h3 (by rw [refTok_eq]; exact h.1))]
          show stepP s i = .ok i
          unfold stepP; rw [e]
    · rw [if_neg h1]
      obtain rfl : i = s.length := by omega
      have hb : blanks (s.drop s.length) = 0 := by rw [List.drop_length]; rfl
      have e : nextP s s.length = .ok s.length := by
        simp only [nextP, hb, Nat.add_zero]
        rw [if_neg (fun h => h1 h.2)]
      show stepP s s.length = .ok s.length
      unfold stepP; rw [e]
theorem posT_cons (t : Nat × List UInt8) (L : List (Nat × List UInt8)) (K i : Nat) : posT (t :: L) K (i + 1) = posT L K i := by simp [posT]
theorem wordP_cons (t : Nat × List UInt8) (L : List (Nat × List UInt8)) (i : Nat) (b : Bool) : wordP (t :: L) (i + 1) b = wordP L i b := by simp [wordP]
theorem toks_all (s : List UInt8) : ∀ n i K, i ≤ s.length → s.length - i < n → (∀ k, (toksP s n i).2 = some k → k = K) → Toks s (toksP s n i).1 K
  | 0, i, _, _, h, _ => absurd h (Nat.not_lt_zero _)
  | n + 1, i, K, hi, h, hK => by
    rw [toksP] at hK ⊢
    by_cases h1 : i < s.length
    · rw [if_pos h1] at hK ⊢
      by_cases h2 : s.getD i 0 = 32
      · rw [if_pos h2] at hK ⊢
        exact toks_all s n (i + 1) K (by omega) (by omega) hK
      · rw [if_neg h2] at hK ⊢
        by_cases h3 : refTok (s.drop i) = []
        · rw [if_pos h3]
          exact ⟨fun j hj => absurd hj (Nat.not_lt_zero _), fun j hj => absurd (by simp [wordP]) hj⟩
        · rw [if_neg h3] at hK ⊢
          have hl := refTok_len (s.drop i)
          rw [List.length_drop] at hl
          have hp := List.length_pos_iff.2 h3
          have ih := toks_all s n (i + (refTok (s.drop i)).length) K (by omega) (by omega) hK
          have hf := step_first s n (i + (refTok (s.drop i)).length) (by omega) (by omega)
          dsimp only at hK ⊢
          generalize toksP s n (i + (refTok (s.drop i)).length) = TT at *
          obtain ⟨L, B⟩ := TT
          dsimp only at hK hf ih ⊢
          refine ⟨fun j hj => ?_, fun j hj => ?_⟩
          · cases j with
            | zero => show firstTok (s.drop i) = refTok (s.drop i); rw [refTok_eq]
            | succ j => rw [posT_cons, wordP_cons]; exact ih.tok j (by simpa using hj)
          · cases j with
            | zero =>
              show stepP s (i + (firstTok (s.drop i)).length) = _
              rw [refTok_eq] at hf
              cases L with
              | nil =>
                obtain ⟨k, hk, e⟩ := hf
                rw [if_neg (by simp), e, hK k hk]; rfl
              | cons t L =>
                dsimp only at hf
                rw [if_pos (by simp), hf]; rfl
            | succ j =>
              rw [wordP_cons] at hj
              rw [posT_cons, posT_cons, ih.next j hj]
              simp
    · rw [if_neg h1]
      obtain rfl : i = s.length := by omega
      refine ⟨fun j hj => ?_, fun j hj => ?_⟩
      · obtain rfl : j = 0 := by simpa using hj
        show firstTok (s.drop s.length) = []
        rw [List.drop_length]; decide
      · exact absurd (by cases j <;> simp [wordP]) hj
/-- where the tokens stand, and how they end -/
theorem toks_end (s : List UInt8) : ∀ n i, i ≤ s.length → s.length - i < n →
    (∀ j, j < (toksP s n i).1.length → (wordP (toksP s n i).1 j false ≠ [] → posT (toksP s n i).1 0 j < s.length) ∧ (wordP (toksP s n i).1 j false = [] → posT (toksP s n i).1 0 j = s.length ∧ (toksP s n i).2 = none)) ∧
    ((toksP s n i).2 = none → ∀ j, wordP (toksP s n i).1 j false ≠ [] → j + 1 < (toksP s n i).1.length)
  | 0, i, _, h => absurd h (Nat.not_lt_zero _)
  | n + 1, i, hi, h => by
    rw [toksP]
    by_cases h1 : i < s.length
    · rw [if_pos h1]
      by_cases h2 : s.getD i 0 = 32
      · rw [if_pos h2]
        exact toks_end s n (i + 1) (by omega) (by omega)
      · rw [if_neg h2]
        by_cases h3 : refTok (s.drop i) = []
        · rw [if_pos h3]
          exact ⟨fun j hj => absurd hj (Nat.not_lt_zero _), fun h => by cases h⟩
        · rw [if_neg h3]
          have hl := refTok_len (s.drop i)
          rw [List.length_drop] at hl
          have hp := List.length_pos_iff.2 h3
          have ih := toks_end s n (i + (refTok (s.drop i)).length) (by omega) (by omega)
          have hf := step_first s n (i + (refTok (s.drop i)).length) (by omega) (by omega)
          generalize toksP s n (i + (refTok (s.drop i)).length) = TT at *
          obtain ⟨L, B⟩ := TT
          dsimp only at hf ih ⊢
          refine ⟨fun j hj => ?_, fun hB j hj => ?_⟩
          · cases j with
            | zero =>
              refine ⟨fun _ => h1, fun e => absurd e ?_⟩
              exact h3
            | succ j => rw [posT_cons, wordP_cons]; exact ih.1 j (by simpa using hj)
          · cases j with
            | zero =>
              cases L with
              | nil =>
                obtain ⟨k, hk, _⟩ := hf
                rw [hB] at hk; cases hk
              | cons t L => simp
            | succ j =>
              rw [wordP_cons] at hj
              have := ih.2 hB j hj
              simpa using this
    · rw [if_neg h1]
      refine ⟨fun j hj => ?_, fun _ j hj => ?_⟩
      · obtain rfl : j = 0 := by simpa using hj
        exact ⟨fun h => absurd rfl h, fun _ => ⟨rfl, rfl⟩⟩
      · exact absurd (by cases j <;> simp [wordP]) hj
/-- how the reference answers, out of the reader's answer -/
def rparseP (s : List UInt8) (x : Tr × Nat × Bool) (L : List (Nat × List UInt8)) (B : Option Nat) : Tr × Nat × Nat :=
  if x.2.1 < L.length ∧ (x.2.2 = true ∨ wordP L x.2.1 false ≠ []) then (zeroT, posT L 0 x.2.1, 4)
  else match B with
    | some k => (zeroT, k, 4)
    | none => if validB x.1 = true then (x.1, 0, 0) else (zeroT, s.length, 5)
theorem posT_lt {L : List (Nat × List UInt8)} {K K' i : Nat} (h : i < L.length) : posT L K i = posT L K' i := by
  simp [posT, List.getElem?_eq_getElem h]
theorem same_answer {s : List UInt8} (hs : s.length ≤ 65536) {n : Nat} {x : Tr × Nat × Bool} (hx : choiceR (toksP s (s.length + 1) 0).1 n 0 false = some x)
    (hout : ∀ i, i ≤ s.length → formF s (12 * s.length + 2) 0 i ≠ .out) :
    parseP s = rparseP s x (toksP s (s.length + 1) 0).1 (toksP s (s.length + 1) 0).2 := by
  have h1 := step_first s (s.length + 1) 0 (Nat.zero_le _) (by omega)
  have h2 := toks_all s (s.length + 1) 0 ((toksP s (s.length + 1) 0).2.getD 0) (Nat.zero_le _) (by omega) (fun k hk => by rw [hk]; rfl)
  have h3 := toks_end s (s.length + 1) 0 (Nat.zero_le _) (by omega)
  generalize toksP s (s.length + 1) 0 = TT at *
  obtain ⟨L, B⟩ := TT
  dsimp only at h1 h2 h3 hx ⊢
  unfold parseP rparseP
  rw [if_neg (by omega)]
  unfold wholeP
  cases L with
  | nil =>
    obtain ⟨k, rfl, hk⟩ := h1
    rw [hk, if_neg (by simp)]
    rfl
  | cons t L =>
    dsimp only at h1
    have hp : posT (t :: L) (B.getD 0) 0 = t.1 := rfl
    have hle : t.1 ≤ s.length := by
      have := h3.1 0 (by simp)
      by_cases hw : wordP (t :: L) 0 false = []
      · have h := (this.2 hw).1; exact Nat.le_of_eq h
      · have h := this.1 hw; exact Nat.le_of_lt h
    rw [h1, Res.bind_ok]
    have he := (eqv_all h2 (12 * s.length + 2)).form 0 0 n x (by simp [Lvl]) (by simp) (by rw [hp]; exact hout _ hle) hx
    rw [hp] at he
    rw [he]
    have hpos : 0 < (t :: L).length := by simp
    clear hp he
    generalize t :: L = L at *
    by_cases ha : Alive L x.2.2 x.2.1
    · rw [outG_alive ha, Res.bind_ok]
      dsimp only
      have h4 := h3.1 x.2.1 ha.2
      rw [← posT_lt (K := 0) ha.2]
      by_cases hw : wordP L x.2.1 false = []
      · obtain ⟨h5, h6⟩ := h4.2 hw
        have hnc : ¬ (x.2.1 < L.length ∧ (x.2.2 = true ∨ wordP L x.2.1 false ≠ [])) := by
          rintro ⟨_, h | h⟩
          · rw [ha.1] at h; cases h
          · exact h hw
        rw [h5, if_neg (Nat.lt_irrefl _), if_neg hnc, h6]
      · rw [if_pos (h4.1 hw), if_pos ⟨ha.2, .inr hw⟩]
    · rw [outG_dead ha]
      show (zeroT, posT L (B.getD 0) x.2.1, 4) = _
      by_cases hj : x.2.1 < L.length
      · have hf : x.2.2 = true := by
          cases h : x.2.2 with
          | true => rfl
          | false => exact absurd ⟨h, hj⟩ ha
        rw [if_pos ⟨hj, .inl hf⟩, posT_lt hj]
      · rw [if_neg (fun h => hj h.1)]
        cases B with
        | none =>
          exfalso
          apply hj
          exact (reach_all (fun i b hw => h3.2 rfl i (by cases b with | true => exact absurd rfl hw | false => exact hw)) n).choice 0 false x hpos hx
        | some k => simp [posT, List.getElem?_eq_none (show L.length ≤ x.2.1 by omega)]
end Go.Proofs.Ytbjdaibkcchllaa
