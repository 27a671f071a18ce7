import Derived.Test.YtbiheajnmjbdoaaQs
namespace Go.Proofs.Ytbiheajnmjbdoaa
open Go.RowKit

/-! the parser as a function -/
inductive Res (α : Type) where
  | out
  | bad (k : Nat)
  | ok (a : α)
def Res.bind {α β : Type} : Res α → (α → Res β) → Res β
  | .out, _ => .out
  | .bad k, _ => .bad k
  | .ok a, f => f a
theorem Res.bind_ok {α β : Type} (a : α) (f : α → Res β) : (Res.ok a).bind f = f a := rfl
theorem Res.bind_bad {α β : Type} (k : Nat) (f : α → Res β) : (Res.bad k).bind f = .bad k := rfl
theorem Res.bind_out {α β : Type} (f : α → Res β) : (Res.out).bind f = .out := rfl
def tokP (s : List UInt8) (i : Nat) : List UInt8 := firstTok (s.drop i)
def stepP (s : List UInt8) (j : Nat) : Res Nat :=
  match nextP s j with
  | .ok j => .ok j
  | .error k => .bad k
/-- past the token at i -/
def accP (s : List UInt8) (i : Nat) : Res Nat := stepP s (i + (tokP s i).length)
def expP (s t : List UInt8) (i : Nat) : Res Nat := if tokP s i = t then accP s i else .bad i
mutual
def leastF (s : List UInt8) : Nat → Nat → Res (Tr × Nat)
  | 0, _ => .out
  | n + 1, i =>
    if tokP s i = [33] then (accP s i).bind fun j => (leastF s n j).bind fun x => .ok (.mk 4 [] [x.1], x.2)
    else if tokP s i = [40] then (accP s i).bind fun j => (formF s n 0 j).bind fun x => (expP s [41] x.2).bind fun k => .ok (x.1, k)
    else if tokP s i = [48] then (accP s i).bind fun j => .ok (.mk 1 [] [], j)
    else if tokP s i = [49] then (accP s i).bind fun j => .ok (.mk 2 [] [], j)
    else if nameB (tokP s i) = true then (accP s i).bind fun j => .ok (.mk 3 (tokP s i) [], j)
    else .bad i
def formF (s : List UInt8) : Nat → Nat → Nat → Res (Tr × Nat)
  | 0, _, _ => .out
  | n + 1, level, i => (leastF s n i).bind fun x => joinsF s n (6 - level) level x.1 x.2
def joinsF (s : List UInt8) : Nat → Nat → Nat → Tr → Nat → Res (Tr × Nat)
  | 0, _, _, _, _ => .out
  | _ + 1, 0, _, e, j => .ok (e, j)
  | n + 1, d + 1, level, e, j => (joinF s n (level + d) e j).bind fun x => joinsF s n d level x.1 x.2
def joinF (s : List UInt8) : Nat → Nat → Tr → Nat → Res (Tr × Nat)
  | 0, _, _, _ => .out
  | n + 1, k, e, j =>
    if k = 5 then rowF s n 5 e j
    else if k = 4 then rowF s n 7 e j
    else if k = 3 then rowF s n 6 e j
    else if k = 2 then twoF s n 8 e j
    else if k = 1 then twoF s n 9 e j
    else if tokP s j = [63] then (accP s j).bind fun j1 => (formF s n 0 j1).bind fun y => (expP s [58] y.2).bind fun j3 => (formF s n 0 j3).bind fun z => .ok (.mk 10 [] [e, y.1, z.1], z.2)
    else .ok (e, j)
def rowF (s : List UInt8) : Nat → Nat → Tr → Nat → Res (Tr × Nat)
  | 0, _, _, _ => .out
  | n + 1, op, e, j => if tokP s j = sgnP op 1 then (kidsF s n op [e] j).bind fun y => .ok (.mk op [] y.1, y.2) else .ok (e, j)
def kidsF (s : List UInt8) : Nat → Nat → List Tr → Nat → Res (List Tr × Nat)
  | 0, _, _, _ => .out
  | n + 1, op, acc, j => if tokP s j = sgnP op 1 then (accP s j).bind fun j1 => (formF s n (kidP op 1) j1).bind fun y => kidsF s n op (acc ++ [y.1]) y.2 else .ok (acc, j)
def twoF (s : List UInt8) : Nat → Nat → Tr → Nat → Res (Tr × Nat)
  | 0, _, _, _ => .out
  | n + 1, op, e, j => if tokP s j = sgnP op 1 then (accP s j).bind fun j1 => (formF s n (kidP op 1) j1).bind fun y => .ok (.mk op [] [e, y.1], y.2) else .ok (e, j)
end
/-! positions -/
theorem find_len (s : List UInt8) : ((signs.find? fun x => x.isPrefixOf s).getD []).length ≤ s.length := by
  cases h : signs.find? fun x => x.isPrefixOf s with
  | none => simp
  | some x =>
    have := List.find?_some h
    exact (List.isPrefixOf_iff_prefix.1 this).length_le
theorem firstTok_len (s : List UInt8) : (firstTok s).length ≤ s.length := by
  unfold firstTok
  split
  · rw [List.length_take]; exact Nat.min_le_right _ _
  · exact find_len s
theorem tokP_len {s : List UInt8} {i : Nat} (h : i ≤ s.length) : i + (tokP s i).length ≤ s.length := by
  have := firstTok_len (s.drop i)
  rw [List.length_drop] at this
  unfold tokP
  omega
theorem nextP_le {s : List UInt8} {J j : Nat} (hJ : J ≤ s.length) (h : nextP s J = .ok j) : J ≤ j ∧ j ≤ s.length := by
  have hb := blanks_le (s.drop J)
  rw [List.length_drop] at hb
  unfold nextP at h
  simp only at h
  split at h
  · cases h
  · cases h; omega
theorem accP_le {s : List UInt8} {i j : Nat} (hi : i ≤ s.length) (h : accP s i = .ok j) : j ≤ s.length := by
  unfold accP stepP at h
  split at h
  · rename_i k hk
    cases h
    exact (nextP_le (tokP_len hi) hk).2
  · cases h
end Go.Proofs.Ytbiheajnmjbdoaa
