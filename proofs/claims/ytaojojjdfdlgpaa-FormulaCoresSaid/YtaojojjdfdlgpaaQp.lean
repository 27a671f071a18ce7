import Derived.Test.YtaojojjdfdlgpaaQo
namespace Go.Proofs.Ytaojojjdfdlgpaa
open Go.RowKit

/-! the grammar's tables -/
def levP (op : Nat) : Nat := if op = 10 then 0 else if op = 9 then 1 else if op = 8 then 2 else if op = 6 then 3 else if op = 7 then 4 else if op = 5 then 5 else 6
def sgnP (op k : Nat) : List UInt8 :=
  if op = 4 then [33] else if op = 1 then [48] else if op = 2 then [49] else if k = 0 then [] else if op = 5 then [38] else if op = 7 then [94] else if op = 6 then [124]
  else if op = 8 then [61, 62] else if op = 9 then [60, 61, 62] else if k = 1 then [63] else [58]
def kidP (op k : Nat) : Nat := if op = 4 then 6 else if (op = 8 ∨ op = 10) ∧ 0 < k then levP op else levP op + 1

theorem levelOf_any (op : Nat) (w : World) : Calls Try.prog 80 #[.int .u8 (op : Int)] w fun e w' => e = .returned (.int .i64 (levP op : Int)) ∧ w = w' := by
  by_cases h10 : op = 10
  · subst h10
    go_enter Try.func80, Try.ntmps80
    go_wp2_with fail
    go_ret
    exact ⟨rfl, rfl⟩
  have q10 : ((op : Int) == 10) = false := by simp; omega
  by_cases h9 : op = 9
  · subst h9
    go_enter Try.func80, Try.ntmps80
    go_wp2_with fail
    go_ret
    exact ⟨rfl, rfl⟩
  have q9 : ((op : Int) == 9) = false := by simp; omega
  by_cases h8 : op = 8
  · subst h8
    go_enter Try.func80, Try.ntmps80
    go_wp2_with fail
    go_ret
    exact ⟨rfl, rfl⟩
  have q8 : ((op : Int) == 8) = false := by simp; omega
  by_cases h6 : op = 6
  · subst h6
    go_enter Try.func80, Try.ntmps80
    go_wp2_with fail
    go_ret
    exact ⟨rfl, rfl⟩
  have q6 : ((op : Int) == 6) = false := by simp; omega
  by_cases h7 : op = 7
  · subst h7
    go_enter Try.func80, Try.ntmps80
    go_wp2_with fail
    go_ret
    exact ⟨rfl, rfl⟩
  have q7 : ((op : Int) == 7) = false := by simp; omega
  by_cases h5 : op = 5
  · subst h5
    go_enter Try.func80, Try.ntmps80
    go_wp2_with fail
    go_ret
    exact ⟨rfl, rfl⟩
  have q5 : ((op : Int) == 5) = false := by simp; omega
  have hv : levP op = 6 := by simp [levP, *]
  rw [hv]
  clear hv h10 h9 h8 h6 h7 h5
  go_enter Try.func80, Try.ntmps80
  go_wp2_with fail
  go_ret
  exact ⟨rfl, rfl⟩

theorem sign_any (op k : Nat) (w : World) : Calls Try.prog 82 #[.int .u8 (op : Int), .int .i64 (k : Int)] w fun e w' => e = .returned (.string (txt (sgnP op k))) ∧ w = w' := by
  by_cases h4 : op = 4
  · subst h4
    go_enter Try.func82, Try.ntmps82
    go_wp2_with fail
    go_ret
    exact ⟨rfl, rfl⟩
  have q4 : ((op : Int) == 4) = false := by simp; omega
  by_cases h1 : op = 1
  · subst h1
    go_enter Try.func82, Try.ntmps82
    go_wp2_with fail
    go_ret
    exact ⟨rfl, rfl⟩
  have q1 : ((op : Int) == 1) = false := by simp; omega
  by_cases h2 : op = 2
  · subst h2
    go_enter Try.func82, Try.ntmps82
    go_wp2_with fail
    go_ret
    exact ⟨rfl, rfl⟩
  have q2 : ((op : Int) == 2) = false := by simp; omega
  by_cases hk : k = 0
  · subst hk
    have hv : sgnP op 0 = [] := by simp [sgnP, *]
    rw [hv]
    clear hv h4 h1 h2
    go_enter Try.func82, Try.ntmps82
    go_wp2_with fail
    go_ret
    exact ⟨rfl, rfl⟩
  have qk : ((k : Int) == 0) = false := by simp; omega
  by_cases h5 : op = 5
  · subst h5
    have hv : sgnP 5 k = [38] := by simp [sgnP, hk]
    rw [hv]
    clear hv
    go_enter Try.func82, Try.ntmps82
    go_wp2_with fail
    go_ret
    exact ⟨rfl, rfl⟩
  have q5 : ((op : Int) == 5) = false := by simp; omega
  by_cases h7 : op = 7
  · subst h7
    have hv : sgnP 7 k = [94] := by simp [sgnP, hk]
    rw [hv]
    clear hv
    go_enter Try.func82, Try.ntmps82
    go_wp2_with fail
    go_ret
    exact ⟨rfl, rfl⟩
  have q7 : ((op : Int) == 7) = false := by simp; omega
  by_cases h6 : op = 6
  · subst h6
    have hv : sgnP 6 k = [124] := by simp [sgnP, hk]
    rw [hv]
    clear hv
    go_enter Try.func82, Try.ntmps82
    go_wp2_with fail
    go_ret
    exact ⟨rfl, rfl⟩
  have q6 : ((op : Int) == 6) = false := by simp; omega
  by_cases h8 : op = 8
  · subst h8
    have hv : sgnP 8 k = [61, 62] := by simp [sgnP, hk]
    rw [hv]
    clear hv
    go_enter Try.func82, Try.ntmps82
    go_wp2_with fail
    go_ret
    exact ⟨rfl, rfl⟩
  have q8 : ((op : Int) == 8) = false := by simp; omega
  by_cases h9 : op = 9
  · subst h9
    have hv : sgnP 9 k = [60, 61, 62] := by simp [sgnP, hk]
    rw [hv]
    clear hv
    go_enter Try.func82, Try.ntmps82
    go_wp2_with fail
    go_ret
    exact ⟨rfl, rfl⟩
  have q9 : ((op : Int) == 9) = false := by simp; omega
  by_cases hk1 : k = 1
  · subst hk1
    have hv : sgnP op 1 = [63] := by simp [sgnP, *]
    rw [hv]
    clear hv h4 h1 h2 h5 h7 h6 h8 h9
    go_enter Try.func82, Try.ntmps82
    go_wp2_with fail
    go_ret
    exact ⟨rfl, rfl⟩
  have qk1 : ((k : Int) == 1) = false := by simp; omega
  have hv : sgnP op k = [58] := by simp [sgnP, *]
  rw [hv]
  clear hv h4 h1 h2 h5 h7 h6 h8 h9 hk hk1
  go_enter Try.func82, Try.ntmps82
  go_wp2_with fail
  go_ret
  exact ⟨rfl, rfl⟩

theorem kidLevel_any (op k : Nat) (w : World) : Calls Try.prog 83 #[.int .u8 (op : Int), .int .i64 (k : Int)] w fun e w' => e = .returned (.int .i64 (kidP op k : Int)) ∧ w = w' := by
  have hl := levelOf_any op
  by_cases h4 : op = 4
  · subst h4
    go_enter Try.func83, Try.ntmps83
    go_wp2_with (go_at_call 80; refine (hl _).mono ?_; rintro e w' ⟨rfl, rfl⟩)
    go_ret
    exact ⟨rfl, rfl⟩
  have q4 : ((op : Int) == 4) = false := by simp; omega
  by_cases h0 : 0 < k
  · have hk : (0 : Int) < (k : Int) := by omega
    by_cases h8 : op = 8
    · subst h8
      have hv : kidP 8 k = levP 8 := by simp [kidP, h0]
      rw [hv]
      clear hv h0
      go_enter Try.func83, Try.ntmps83
      go_wp2_with (go_at_call 80; refine (hl _).mono ?_; rintro e w' ⟨rfl, rfl⟩)
      go_ret
      exact ⟨rfl, rfl⟩
    have q8 : ((op : Int) == 8) = false := by simp; omega
    by_cases h10 : op = 10
    · subst h10
      have hv : kidP 10 k = levP 10 := by simp [kidP, h0]
      rw [hv]
      clear hv h0
      go_enter Try.func83, Try.ntmps83
      go_wp2_with (go_at_call 80; refine (hl _).mono ?_; rintro e w' ⟨rfl, rfl⟩)
      go_ret
      exact ⟨rfl, rfl⟩
    have q10 : ((op : Int) == 10) = false := by simp; omega
    have hv : kidP op k = levP op + 1 := by simp [kidP, *]
    have hb : levP op ≤ 6 := by unfold levP; repeat' split
                                all_goals omega
    rw [hv]
    generalize levP op = lv at *
    clear hv h4 h8 h10 h0
    go_enter Try.func83, Try.ntmps83
    go_wp2_with (go_at_call 80; refine (hl _).mono ?_; rintro e w' ⟨rfl, rfl⟩)
    go_ret
    exact ⟨by simp, rfl⟩
  · obtain rfl : k = 0 := by omega
    have hv : kidP op 0 = levP op + 1 := by simp [kidP, *]
    have hb : levP op ≤ 6 := by unfold levP; repeat' split
                                all_goals omega
    rw [hv]
    generalize levP op = lv at *
    clear hv h0
    by_cases h8 : op = 8
    · subst h8
      go_enter Try.func83, Try.ntmps83
      go_wp2_with (go_at_call 80; refine (hl _).mono ?_; rintro e w' ⟨rfl, rfl⟩)
      go_ret
      exact ⟨by simp, rfl⟩
    have q8 : ((op : Int) == 8) = false := by simp; omega
    by_cases h10 : op = 10
    · subst h10
      go_enter Try.func83, Try.ntmps83
      go_wp2_with (go_at_call 80; refine (hl _).mono ?_; rintro e w' ⟨rfl, rfl⟩)
      go_ret
      exact ⟨by simp, rfl⟩
    have q10 : ((op : Int) == 10) = false := by simp; omega
    clear h4 h8 h10
    go_enter Try.func83, Try.ntmps83
    go_wp2_with (go_at_call 80; refine (hl _).mono ?_; rintro e w' ⟨rfl, rfl⟩)
    go_ret
    exact ⟨by simp, rfl⟩

abbrev TrOp (op : Nat) (kv : Value) : Value := .agg #[.int .u8 (op : Int), .string (txt []), kv]
theorem node_any (op : Nat) (kv : Value) (hk : ∃ a n c, kv = .slice a n c) (w : World) : Calls Try.prog 132 #[.int .u8 (op : Int), kv] w fun e w' => e = .returned (TrOp op kv) ∧ Fr nob w w' := by
  obtain ⟨a, n, c, rfl⟩ := hk
  go_enter Try.func132, Try.ntmps132
  go_wp2_with fail
  exact bodyPost_ret (v := TrOp op (.slice a n c)) (by simp [results, Try.results132, go_sem]; rfl) rfl ⟨rfl, (Fr.refl nob w).alloc _⟩
end Go.Proofs.Ytaojojjdfdlgpaa
namespace Go.Proofs.Ytaojojjdfdlgpaa
open Go.RowKit

/-! the parser as a function -/
inductive Res (α : Type) where
  | out
  | bad (k : Nat)
  | ok (a : α)
def Res.bind {α β : Type} : Res α → (α → Res β) → Res β
  | .out, _ => .out
  | .bad k, _ => .bad k
  | .ok a, f => f a
theorem Res.bind_ok {α β : Type} (a : α) (f : α → Res β) : (Res.ok a).bind f = f a := rfl
theorem Res.bind_bad {α β : Type} (k : Nat) (f : α → Res β) : (Res.bad k).bind f = .bad k := rfl
theorem Res.bind_out {α β : Type} (f : α → Res β) : (Res.out).bind f = .out := rfl
def tokP (s : List UInt8) (i : Nat) : List UInt8 := firstTok (s.drop i)
def stepP (s : List UInt8) (j : Nat) : Res Nat :=
  match nextP s j with
  | .ok j => .ok j
  | .error k => .bad k
/-- past the token at i -/
def accP (s : List UInt8) (i : Nat) : Res Nat := stepP s (i + (tokP s i).length)
def expP (s t : List UInt8) (i : Nat) : Res Nat := if tokP s i = t then accP s i else .bad i
mutual
def leastF (s : List UInt8) : Nat → Nat → Res (Tr × Nat)
  | 0, _ => .out
  | n + 1, i =>
    if tokP s i = [33] then (accP s i).bind fun j => (leastF s n j).bind fun x => .ok (.mk 4 [] [x.1], x.2)
    else if tokP s i = [40] then (accP s i).bind fun j => (formF s n 0 j).bind fun x => (expP s [41] x.2).bind fun k => .ok (x.1, k)
    else if tokP s i = [48] then (accP s i).bind fun j => .ok (.mk 1 [] [], j)
    else if tokP s i = [49] then (accP s i).bind fun j => .ok (.mk 2 [] [], j)
    else if nameB (tokP s i) = true then (accP s i).bind fun j => .ok (.mk 3 (tokP s i) [], j)
    else .bad i
def formF (s : List UInt8) : Nat → Nat → Nat → Res (Tr × Nat)
  | 0, _, _ => .out
  | n + 1, level, i => (leastF s n i).bind fun x => joinsF s n (6 - level) level x.1 x.2
def joinsF (s : List UInt8) : Nat → Nat → Nat → Tr → Nat → Res (Tr × Nat)
  | 0, _, _, _, _ => .out
  | _ + 1, 0, _, e, j => .ok (e, j)
  | n + 1, d + 1, level, e, j => (joinF s n (level + d) e j).bind fun x => joinsF s n d level x.1 x.2
def joinF (s : List UInt8) : Nat → Nat → Tr → Nat → Res (Tr × Nat)
  | 0, _, _, _ => .out
  | n + 1, k, e, j =>
    if k = 5 then rowF s n 5 e j
    else if k = 4 then rowF s n 7 e j
    else if k = 3 then rowF s n 6 e j
    else if k = 2 then twoF s n 8 e j
    else if k = 1 then twoF s n 9 e j
    else if tokP s j = [63] then (accP s j).bind fun j1 => (formF s n 0 j1).bind fun y => (expP s [58] y.2).bind fun j3 => (formF s n 0 j3).bind fun z => .ok (.mk 10 [] [e, y.1, z.1], z.2)
    else .ok (e, j)
def rowF (s : List UInt8) : Nat → Nat → Tr → Nat → Res (Tr × Nat)
  | 0, _, _, _ => .out
  | n + 1, op, e, j => if tokP s j = sgnP op 1 then (kidsF s n op [e] j).bind fun y => .ok (.mk op [] y.1, y.2) else .ok (e, j)
def kidsF (s : List UInt8) : Nat → Nat → List Tr → Nat → Res (List Tr × Nat)
  | 0, _, _, _ => .out
  | n + 1, op, acc, j => if tokP s j = sgnP op 1 then (accP s j).bind fun j1 => (formF s n (kidP op 1) j1).bind fun y => kidsF s n op (acc ++ [y.1]) y.2 else .ok (acc, j)
def twoF (s : List UInt8) : Nat → Nat → Tr → Nat → Res (Tr × Nat)
  | 0, _, _, _ => .out
  | n + 1, op, e, j => if tokP s j = sgnP op 1 then (accP s j).bind fun j1 => (formF s n (kidP op 1) j1).bind fun y => .ok (.mk op [] [e, y.1], y.2) else .ok (e, j)
end
/-! positions -/
theorem find_len (s : List UInt8) : ((signs.find? fun x => x.isPrefixOf s).getD []).length ≤ s.length := by
  cases h : signs.find? fun x => x.isPrefixOf s with
  | none => simp
  | some x =>
    have := List.find?_some h
    exact (List.isPrefixOf_iff_prefix.1 this).length_le
theorem firstTok_len (s : List UInt8) : (firstTok s).length ≤ s.length := by
  unfold firstTok
  split
  · rw [List.length_take]; exact Nat.min_le_right _ _
  · exact find_len s
theorem tokP_len {s : List UInt8} {i : Nat} (h : i ≤ s.length) : i + (tokP s i).length ≤ s.length := by
  have := firstTok_len (s.drop i)
  rw [List.length_drop] at this
  unfold tokP
  omega
theorem nextP_le {s : List UInt8} {J j : Nat} (hJ : J ≤ s.length) (h : nextP s J = .ok j) : J ≤ j ∧ j ≤ s.length := by
  have hb := blanks_le (s.drop J)
  rw [List.length_drop] at hb
  unfold nextP at h
  simp only at h
  split at h
  · cases h
  · cases h; omega
theorem accP_le {s : List UInt8} {i j : Nat} (hi : i ≤ s.length) (h : accP s i = .ok j) : j ≤ s.length := by
  unfold accP stepP at h
  split at h
  · rename_i k hk
    cases h
    exact (nextP_le (tokP_len hi) hk).2
  · cases h
end Go.Proofs.Ytaojojjdfdlgpaa
