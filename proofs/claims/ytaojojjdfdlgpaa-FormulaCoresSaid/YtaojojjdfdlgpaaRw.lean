import Derived.Test.YtaojojjdfdlgpaaQb
import Derived.OwnWalk
import Derived.Maps.AppendAt
import Derived.Laws.OwnMore
import Derived.Deep.RegionWith
import Derived.Deep.LoopGhost
import Derived.Lib.Builder
namespace Go.Proofs.Ytaojojjdfdlgpaa
open Go.RowKit

/-! lists of numbers, and lists of them, anywhere in their blocks -/
def IntsO (w : World) (S : Nat → Prop) (l : List Int) (v : Value) : Prop :=
  ∃ a cap, v = .slice a l.length cap ∧ (a = none → cap = 0) ∧ (l ≠ [] → ∃ b ob, a = some ⟨b, ob, none⟩ ∧ S b ∧ ∀ (j : Nat) (x : Int), l[j]? = some x → w.cell? ⟨b, ob + j, none⟩ = some (.int .i64 x))
def RowsO (w : World) (S : Nat → Prop) (l : List (List Int)) (v : Value) : Prop :=
  ∃ a cap, v = .slice a l.length cap ∧ (a = none → cap = 0) ∧ (l ≠ [] → ∃ b ob, a = some ⟨b, ob, none⟩ ∧ S b ∧ ∀ (j : Nat) (r : List Int), l[j]? = some r → ∃ u, w.cell? ⟨b, ob + j, none⟩ = some u ∧ IntsO w S r u)
theorem IntsO.kept {w w' : World} {S S' T : Nat → Prop} (f : Fr S' w w') (hS : ∀ b, S b → b < w.heap.size → ¬ S' b ∧ T b) {l : List Int} {v : Value} (h : IntsO w S l v) : IntsO w' T l v := by
  obtain ⟨a, cap, rfl, h0, hk⟩ := h
  refine ⟨a, cap, rfl, h0, fun hne => ?_⟩
  obtain ⟨b, ob, rfl, hb, hc⟩ := hk hne
  have hlt : b < w.heap.size := by
    cases l with
    | nil => exact absurd rfl hne
    | cons x l => exact lt_of_cell (hc 0 x rfl)
  exact ⟨b, ob, rfl, (hS b hb hlt).2, fun j x hj => f.cell (hc j x hj) (hS b hb hlt).1⟩
theorem RowsO.kept {w w' : World} {S S' T : Nat → Prop} (f : Fr S' w w') (hS : ∀ b, S b → b < w.heap.size → ¬ S' b ∧ T b) {l : List (List Int)} {v : Value} (h : RowsO w S l v) : RowsO w' T l v := by
  obtain ⟨a, cap, rfl, h0, hk⟩ := h
  refine ⟨a, cap, rfl, h0, fun hne => ?_⟩
  obtain ⟨b, ob, rfl, hb, hc⟩ := hk hne
  have hlt : b < w.heap.size := by
    cases l with
    | nil => exact absurd rfl hne
    | cons x l => obtain ⟨u, hu, _⟩ := hc 0 x rfl; exact lt_of_cell hu
  refine ⟨b, ob, rfl, (hS b hb hlt).2, fun j r hj => ?_⟩
  obtain ⟨u, hu, hI⟩ := hc j r hj
  exact ⟨u, f.cell hu (hS b hb hlt).1, hI.kept f hS⟩
theorem IntsO.form {w : World} {S : Nat → Prop} {l : List Int} {v : Value} (h : IntsO w S l v) : ∃ a cap, v = .slice a l.length cap := by
  obtain ⟨a, cap, e, _⟩ := h; exact ⟨a, cap, e⟩
theorem RowsO.form {w : World} {S : Nat → Prop} {l : List (List Int)} {v : Value} (h : RowsO w S l v) : ∃ a cap, v = .slice a l.length cap := by
  obtain ⟨a, cap, e, _⟩ := h; exact ⟨a, cap, e⟩
theorem IntsO.at {w : World} {S : Nat → Prop} {l : List Int} {a : Option Addr} {n cap : Nat} (h : IntsO w S l (.slice a n cap)) {j : Nat} {x : Int} (hj : l[j]? = some x) :
    ∃ b ob, a = some ⟨b, ob, none⟩ ∧ S b ∧ w.cell? ⟨b, ob + j, none⟩ = some (.int .i64 x) := by
  obtain ⟨a', cap', e, _, hk⟩ := h
  cases e
  obtain ⟨b, ob, e, hb, hc⟩ := hk (fun e => by rw [e] at hj; simp at hj)
  exact ⟨b, ob, e, hb, hc j x hj⟩
theorem RowsO.at {w : World} {S : Nat → Prop} {l : List (List Int)} {a : Option Addr} {n cap : Nat} (h : RowsO w S l (.slice a n cap)) {j : Nat} {r : List Int} (hj : l[j]? = some r) :
    ∃ b ob, a = some ⟨b, ob, none⟩ ∧ S b ∧ ∃ a' cap', w.cell? ⟨b, ob + j, none⟩ = some (.slice a' r.length cap') ∧ IntsO w S r (.slice a' r.length cap') := by
  obtain ⟨a', cap', e, _, hk⟩ := h
  cases e
  obtain ⟨b, ob, e, hb, hc⟩ := hk (fun e => by rw [e] at hj; simp at hj)
  obtain ⟨u, hu, hI⟩ := hc j r hj
  obtain ⟨a2, c2, rfl⟩ := hI.form
  exact ⟨b, ob, e, hb, a2, c2, hu, hI⟩
/-- lists that can be counted -/
def Wide (l : List (List Int)) : Prop := l.length ≤ 9223372036854775807 ∧ ∀ r ∈ l, r.length ≤ 9223372036854775807
def largeP (l : List (List Int)) : Bool := decide (40 < l.length) || l.any fun r => decide (80 < r.length)
def litB (n x : Int) : Bool := decide (x ≠ 0 ∧ -n ≤ x ∧ x ≤ n)
def litsB (n : Int) (l : List Int) : Bool := l.all (litB n)
def clsB (n : Int) (l : List (List Int)) : Bool := l.all fun r => decide (r.length ≤ 64) && litsB n r
def chkP (n : Int) (l : List (List Int)) : Int := if n < 0 ∨ 24 < n then 3 else if 4096 < l.length ∨ clsB n l = false then 2 else 0

theorem any_drop {α : Type} {p : α → Bool} {l : List α} {k : Nat} {x : α} (h : l[k]? = some x) : (l.drop k).any p = (p x || (l.drop (k + 1)).any p) := by
  have hk := (List.getElem?_eq_some_iff.1 h).1
  rw [List.drop_eq_getElem_cons hk, (List.getElem?_eq_some_iff.1 h).2, List.any_cons]
theorem all_drop {α : Type} {p : α → Bool} {l : List α} {k : Nat} {x : α} (h : l[k]? = some x) : (l.drop k).all p = (p x && (l.drop (k + 1)).all p) := by
  have hk := (List.getElem?_eq_some_iff.1 h).1
  rw [List.drop_eq_getElem_cons hk, (List.getElem?_eq_some_iff.1 h).2, List.all_cons]

theorem large_any (l : List (List Int)) (v : Value) (S : Nat → Prop) (w : World) (hw : Wide l) (h : RowsO w S l v) :
    Calls Try.prog 23 #[v] w fun e w' => e = .returned (.bool (largeP l)) ∧ w = w' := by
  obtain ⟨a, cap, rfl⟩ := h.form
  obtain ⟨n, hn⟩ : ∃ n, l.length = n := ⟨_, rfl⟩
  obtain ⟨R, hR⟩ : ∃ R, largeP l = R := ⟨_, rfl⟩
  have hw1 := hw.1
  rw [hn] at hw1
  rw [hR]
  rw [hn] at h ⊢
  unfold largeP at hR
  rw [hn] at hR
  have HR := Lib.hid hR
  have HH := Lib.hid h
  have HN := Lib.hid hn
  have HW := Lib.hid hw
  clear hR h hn hw
  go_enter Try.func23, Try.ntmps23
  by_cases h40 : 40 < n
  · have q0 : (40 : Int) < (n : Int) := by omega
    have hv : R = true := by rw [← HR.out]; simp [h40]
    subst hv
    go_wp2_with fail
    go_ret
    exact ⟨rfl, rfl⟩
  · have q0 : ¬ (40 : Int) < (n : Int) := by omega
    have hr0 : l.any (fun r => decide (80 < r.length)) = R := by rw [← HR.out]; simp [h40]
    have HR0 := Lib.hid hr0
    clear h40 hr0
    go_wp2_with fail
    go_loopg [3] n (fun m iv wr => ∃ k : Nat, k + m = n ∧ iv = .int .i64 (k : Int) ∧ (l.drop k).any (fun r => decide (80 < r.length)) = R ∧ w = wr)
    case atStart => exact ⟨0, by omega, rfl, by rw [List.drop_zero]; exact HR0.out, rfl⟩
    case round =>
      obtain ⟨k, hkm, rfl, hrest, rfl⟩ := hrel
      have HRE := Lib.hid hrest
      have q4 : (0 : Int) ≤ (k : Int) := Int.natCast_nonneg _
      clear hrest
      cases gk with
      | zero =>
        obtain rfl : k = n := by omega
        have hv : R = false := by rw [← HRE.out, List.drop_eq_nil_of_le (by rw [HN.out]; exact Nat.le_refl _)]; rfl
        subst hv
        go_wp2_with fail
        go_ret
        exact ⟨rfl, rfl⟩
      | succ m =>
        have q3 : (k : Int) < (n : Int) := by omega
        have hk : k < l.length := by rw [HN.out]; omega
        have hkt : l[k]? = some l[k] := List.getElem?_eq_getElem hk
        have hmem : l[k] ∈ l := List.getElem_mem hk
        generalize l[k] = r at hkt hmem
        obtain ⟨b, ob, rfl, hSb, a', cap', hc, _⟩ := HH.out.at hkt
        have hst := any_drop (p := fun r : List Int => decide (80 < r.length)) hkt
        rw [HRE.out] at hst
        have hrl := HW.out.2 r hmem
        obtain ⟨c, hcl⟩ : ∃ c, r.length = c := ⟨_, rfl⟩
        rw [hcl] at hc hst hrl
        have HST := Lib.hid hst
        clear hk hkt hmem hst hcl
        by_cases h80 : 80 < c
        · have q5 : (80 : Int) < (c : Int) := by omega
          have hv : R = true := by rw [HST.out]; simp [h80]
          subst hv
          go_wp2_with fail
          go_ret
          exact ⟨rfl, rfl⟩
        · have q5 : ¬ (80 : Int) < (c : Int) := by omega
          have hv : (l.drop (k + 1)).any (fun r => decide (80 < r.length)) = R := by rw [HST.out]; simp [h80]
          have HV := Lib.hid hv
          clear hv h80
          go_wp2_with fail
          go_roundg m
          case measure => omega
          case rel => exact ⟨k + 1, by omega, by go_num, HV.out, rfl⟩

theorem isLit_any (x n : Int) (hn : 0 ≤ n ∧ n ≤ 24) (w : World) : Calls Try.prog 87 #[.int .i64 x, .int .i64 n] w fun e w' => e = .returned (.bool (litB n x)) ∧ w = w' := by
  obtain ⟨h1, h2⟩ := hn
  obtain ⟨R, hR⟩ : ∃ R, litB n x = R := ⟨_, rfl⟩
  rw [hR]
  have HR := Lib.hid hR
  have hng : IntKind.i64.wrap (-n) = -n := by rw [IntKind.wrap_i64]; omega
  clear hR
  go_enter Try.func87, Try.ntmps87
  by_cases e0 : x = 0
  · subst e0
    have hv : R = false := by rw [← HR.out]; simp [litB]
    subst hv
    go_wp2_with fail
    go_ret
    exact ⟨rfl, rfl⟩
  · have q0 : (x != 0) = true := by simpa using e0
    by_cases e1 : -n ≤ x
    · by_cases e2 : x ≤ n
      · have hv : R = true := by rw [← HR.out]; simp [litB, e0, e1, e2]
        subst hv
        go_wp2_with fail
        go_ret
        exact ⟨rfl, rfl⟩
      · have hv : R = false := by rw [← HR.out]; simp [litB, e0, e1, e2]
        subst hv
        go_wp2_with fail
        go_ret
        exact ⟨rfl, rfl⟩
    · have hv : R = false := by rw [← HR.out]; simp [litB, e1]
      subst hv
      go_wp2_with fail
      go_ret
      exact ⟨rfl, rfl⟩
theorem areLits_any (l : List Int) (n : Int) (hn : 0 ≤ n ∧ n ≤ 24) (v : Value) (S : Nat → Prop) (w : World) (hw : l.length ≤ 9223372036854775807) (h : IntsO w S l v) :
    Calls Try.prog 54 #[v, .int .i64 n] w fun e w' => e = .returned (.bool (litsB n l)) ∧ w = w' := by
  obtain ⟨a, cap, rfl⟩ := h.form
  obtain ⟨c, hc⟩ : ∃ c, l.length = c := ⟨_, rfl⟩
  obtain ⟨R, hR⟩ : ∃ R, litsB n l = R := ⟨_, rfl⟩
  rw [hc] at hw h ⊢
  rw [hR]
  unfold litsB at hR
  have HR := Lib.hid hR
  have HH := Lib.hid h
  have HN := Lib.hid hc
  have HL := Lib.hid (fun x w => isLit_any x n hn w)
  clear hR h hc hn
  go_enter Try.func54, Try.ntmps54
  go_wp2_with fail
  go_loopg [9] c (fun m iv wr => ∃ k : Nat, k + m = c ∧ iv = .int .i64 (k : Int) ∧ (l.drop k).all (litB n) = R ∧ w = wr)
  case atStart => exact ⟨0, by omega, rfl, by rw [List.drop_zero]; exact HR.out, rfl⟩
  case round =>
    obtain ⟨k, hkm, rfl, hrest, rfl⟩ := hrel
    have HRE := Lib.hid hrest
    have q4 : (0 : Int) ≤ (k : Int) := Int.natCast_nonneg _
    clear hrest
    cases gk with
    | zero =>
      obtain rfl : k = c := by omega
      have hv : R = true := by rw [← HRE.out, List.drop_eq_nil_of_le (by rw [HN.out]; exact Nat.le_refl _)]; rfl
      subst hv
      go_wp2_with fail
      go_ret
      exact ⟨rfl, rfl⟩
    | succ m =>
      have q3 : (k : Int) < (c : Int) := by omega
      have hk : k < l.length := by rw [HN.out]; omega
      have hkt : l[k]? = some l[k] := List.getElem?_eq_getElem hk
      generalize l[k] = x at hkt
      obtain ⟨b, ob, rfl, hSb, hcl⟩ := HH.out.at hkt
      have hst := all_drop (p := litB n) hkt
      rw [HRE.out] at hst
      have hC := HL.out x w
      cases hx : litB n x with
      | false =>
        have hv : R = false := by rw [hst, hx]; rfl
        rw [hx] at hC
        subst hv
        clear hst hk hkt hx
        go_wp2_with fail
        refine hC.mono ?_
        rintro e w2 ⟨rfl, rfl⟩
        go_wp2_with fail
        go_ret
        exact ⟨rfl, rfl⟩
      | true =>
        have hv : (l.drop (k + 1)).all (litB n) = R := by rw [hst, hx]; rfl
        have HV := Lib.hid hv
        rw [hx] at hC
        clear hst hk hkt hx hv
        go_wp2_with fail
        refine hC.mono ?_
        rintro e w2 ⟨rfl, rfl⟩
        go_wp2_with fail
        go_roundg m
        case measure => omega
        case rel => exact ⟨k + 1, by omega, by go_num, HV.out, rfl⟩
theorem areCls_any (l : List (List Int)) (n : Int) (hn : 0 ≤ n ∧ n ≤ 24) (v : Value) (S : Nat → Prop) (w : World) (hw : Wide l) (h : RowsO w S l v) :
    Calls Try.prog 62 #[v, .int .i64 n] w fun e w' => e = .returned (.bool (clsB n l)) ∧ w = w' := by
  obtain ⟨a, cap, rfl⟩ := h.form
  obtain ⟨c, hc⟩ : ∃ c, l.length = c := ⟨_, rfl⟩
  obtain ⟨R, hR⟩ : ∃ R, clsB n l = R := ⟨_, rfl⟩
  have hw1 := hw.1
  rw [hc] at hw1 h ⊢
  rw [hR]
  unfold clsB at hR
  have HR := Lib.hid hR
  have HH := Lib.hid h
  have HN := Lib.hid hc
  have HW := Lib.hid hw
  have HL := Lib.hid (fun l v w => areLits_any l n hn v S w)
  clear hR h hc hn hw
  go_enter Try.func62, Try.ntmps62
  go_wp2_with fail
  go_loopg [9] c (fun m iv wr => ∃ k : Nat, k + m = c ∧ iv = .int .i64 (k : Int) ∧ (l.drop k).all (fun r => decide (r.length ≤ 64) && litsB n r) = R ∧ w = wr)
  case atStart => exact ⟨0, by omega, rfl, by rw [List.drop_zero]; exact HR.out, rfl⟩
  case round =>
    obtain ⟨k, hkm, rfl, hrest, rfl⟩ := hrel
    have HRE := Lib.hid hrest
    have q4 : (0 : Int) ≤ (k : Int) := Int.natCast_nonneg _
    clear hrest
    cases gk with
    | zero =>
      obtain rfl : k = c := by omega
      have hv : R = true := by rw [← HRE.out, List.drop_eq_nil_of_le (by rw [HN.out]; exact Nat.le_refl _)]; rfl
      subst hv
      go_wp2_with fail
      go_ret
      exact ⟨rfl, rfl⟩
    | succ m =>
      have q3 : (k : Int) < (c : Int) := by omega
      have hk : k < l.length := by rw [HN.out]; omega
      have hkt : l[k]? = some l[k] := List.getElem?_eq_getElem hk
      have hmem : l[k] ∈ l := List.getElem_mem hk
      generalize l[k] = r at hkt hmem
      obtain ⟨b, ob, rfl, hSb, a', cap', hcl, hI⟩ := HH.out.at hkt
      have hst := all_drop (p := fun r : List Int => decide (r.length ≤ 64) && litsB n r) hkt
      rw [HRE.out] at hst
      have hrl := HW.out.2 r hmem
      have hC := HL.out r _ w hrl hI
      obtain ⟨z, hz⟩ : ∃ z, r.length = z := ⟨_, rfl⟩
      rw [hz] at hcl hst hC hrl
      have HST := Lib.hid hst
      clear hst hk hkt hmem hI hz
      by_cases h64 : z ≤ 64
      · have q5 : ¬ (64 : Int) < (z : Int) := by omega
        cases hx : litsB n r with
        | false =>
          have hv : R = false := by rw [HST.out, hx]; simp
          rw [hx] at hC
          subst hv
          clear hx h64
          go_wp2_with fail
          refine hC.mono ?_
          rintro e w2 ⟨rfl, rfl⟩
          go_wp2_with fail
          go_ret
          exact ⟨rfl, rfl⟩
        | true =>
          have hv : (l.drop (k + 1)).all (fun r => decide (r.length ≤ 64) && litsB n r) = R := by rw [HST.out, hx]; simp [h64]
          have HV := Lib.hid hv
          rw [hx] at hC
          clear hx hv h64
          go_wp2_with fail
          refine hC.mono ?_
          rintro e w2 ⟨rfl, rfl⟩
          go_wp2_with fail
          go_roundg m
          case measure => omega
          case rel => exact ⟨k + 1, by omega, by go_num, HV.out, rfl⟩
      · have q5 : (64 : Int) < (z : Int) := by omega
        have hv : R = false := by rw [HST.out]; simp [h64]
        subst hv
        clear hC
        go_wp2_with fail
        go_ret
        exact ⟨rfl, rfl⟩
theorem chk_any (l : List (List Int)) (n : Int) (v : Value) (S : Nat → Prop) (w : World) (hw : Wide l) (h : RowsO w S l v) :
    Calls Try.prog 53 #[.int .i64 n, v] w fun e w' => e = .returned (.int .i64 (chkP n l)) ∧ w = w' := by
  obtain ⟨R, hR⟩ : ∃ R, chkP n l = R := ⟨_, rfl⟩
  rw [hR]
  unfold chkP at hR
  have hC := fun hn => areCls_any l n hn v S w hw h
  obtain ⟨a, cap, rfl⟩ := h.form
  have hw1 := hw.1
  obtain ⟨c, hc⟩ : ∃ c, l.length = c := ⟨_, rfl⟩
  rw [hc] at hR hC hw1 ⊢
  have HR := Lib.hid hR
  have HC := Lib.hid hC
  clear hR hC h hw hc
  go_enter Try.func53, Try.ntmps53
  by_cases e0 : n < 0
  · have hv : R = 3 := by rw [← HR.out, if_pos (.inl e0)]
    subst hv
    go_wp2_with fail
    go_ret
    exact ⟨rfl, rfl⟩
  · by_cases e1 : 24 < n
    · have hv : R = 3 := by rw [← HR.out, if_pos (.inr e1)]
      subst hv
      go_wp2_with fail
      go_ret
      exact ⟨rfl, rfl⟩
    · have hr : (if 4096 < c ∨ clsB n l = false then (2 : Int) else 0) = R := by have h := HR.out; rw [if_neg (by omega)] at h; exact h
      have HR2 := Lib.hid hr
      have hC := HC.out ⟨by omega, by omega⟩
      clear hr
      by_cases e2 : 4096 < c
      · have q5 : (4096 : Int) < (c : Int) := by omega
        have hv : R = 2 := by rw [← HR2.out, if_pos (.inl e2)]
        subst hv
        clear hC
        go_wp2_with fail
        go_ret
        exact ⟨rfl, rfl⟩
      · have q5 : ¬ (4096 : Int) < (c : Int) := by omega
        cases hx : clsB n l with
        | false =>
          have hv : R = 2 := by rw [← HR2.out, if_pos (.inr hx)]
          rw [hx] at hC
          subst hv
          clear hx e2
          go_wp2_with fail
          refine hC.mono ?_
          rintro e w2 ⟨rfl, rfl⟩
          go_wp2_with fail
          go_ret
          exact ⟨rfl, rfl⟩
        | true =>
          have hv : R = 0 := by rw [← HR2.out, if_neg (by rw [hx]; simp; omega)]
          rw [hx] at hC
          subst hv
          clear hx e2
          go_wp2_with fail
          refine hC.mono ?_
          rintro e w2 ⟨rfl, rfl⟩
          go_wp2_with fail
          go_ret
          exact ⟨rfl, rfl⟩

/-! the reference: Fits, Clauses -/
def fitsB (n : Int) (l : List Int) : Bool := litsB n l && decide (l.length ≤ 64)
def fitB (n : Int) (l : List (List Int)) : Bool := l.all (fitsB n)
theorem fitB_eq (n : Int) (l : List (List Int)) : fitB n l = clsB n l := by
  unfold fitB clsB
  congr 1
  funext r
  unfold fitsB
  rw [Bool.and_comm]
theorem fits_any (l : List Int) (n : Int) (hn : 0 ≤ n ∧ n ≤ 24) (v : Value) (S : Nat → Prop) (w : World) (hw : l.length ≤ 9223372036854775807) (h : IntsO w S l v) :
    Calls Try.prog 58 #[.int .i64 n, v] w fun e w' => e = .returned (.bool (fitsB n l)) ∧ w = w' := by
  obtain ⟨h1, h2⟩ := hn
  obtain ⟨a, cap, rfl⟩ := h.form
  obtain ⟨c, hc⟩ : ∃ c, l.length = c := ⟨_, rfl⟩
  obtain ⟨R, hR⟩ : ∃ R, fitsB n l = R := ⟨_, rfl⟩
  rw [hR]
  unfold fitsB litsB at hR
  rw [hc] at hw h hR ⊢
  have HR := Lib.hid hR
  have HH := Lib.hid h
  have HN := Lib.hid hc
  have hng : IntKind.i64.wrap (-n) = -n := by rw [IntKind.wrap_i64]; omega
  clear hR h hc
  go_enter Try.func58, Try.ntmps58
  go_wp2_with fail
  go_loopg [5] c (fun m iv wr => ∃ k : Nat, k + m = c ∧ iv = .int .i64 (k : Int) ∧ ((l.drop k).all (litB n) && decide (c ≤ 64)) = R ∧ w = wr)
  case atStart => exact ⟨0, by omega, rfl, by rw [List.drop_zero]; exact HR.out, rfl⟩
  case round =>
    obtain ⟨k, hkm, rfl, hrest, rfl⟩ := hrel
    have HRE := Lib.hid hrest
    have q4 : (0 : Int) ≤ (k : Int) := Int.natCast_nonneg _
    clear hrest
    cases gk with
    | zero =>
      obtain rfl : k = c := by omega
      have hv : decide (k ≤ 64) = R := by rw [← HRE.out, List.drop_eq_nil_of_le (by rw [HN.out]; exact Nat.le_refl _)]; rfl
      have HV := Lib.hid hv
      clear hv
      by_cases h64 : k ≤ 64
      · have q5 : (k : Int) ≤ 64 := by omega
        obtain rfl : R = true := by rw [← HV.out]; simp [h64]
        go_wp2_with fail
        go_ret
        exact ⟨rfl, rfl⟩
      · have q5 : ¬ (k : Int) ≤ 64 := by omega
        obtain rfl : R = false := by rw [← HV.out]; simp [h64]
        go_wp2_with fail
        go_ret
        exact ⟨rfl, rfl⟩
    | succ m =>
      have q3 : (k : Int) < (c : Int) := by omega
      have hk : k < l.length := by rw [HN.out]; omega
      have hkt : l[k]? = some l[k] := List.getElem?_eq_getElem hk
      generalize l[k] = x at hkt
      obtain ⟨b, ob, rfl, hSb, hcl⟩ := HH.out.at hkt
      have hst := all_drop (p := litB n) hkt
      have HST := Lib.hid hst
      clear hst hk hkt
      by_cases e0 : x = 0
      · subst e0
        have hv : R = false := by rw [← HRE.out, HST.out]; simp [litB]
        subst hv
        go_wp2_with fail
        go_ret
        exact ⟨rfl, rfl⟩
      · have q0 : (x == 0) = false := by simpa using e0
        by_cases e1 : x < -n
        · have hv : R = false := by rw [← HRE.out, HST.out]; simp [litB]; omega
          subst hv
          go_wp2_with fail
          go_ret
          exact ⟨rfl, rfl⟩
        · by_cases e2 : n < x
          · have hv : R = false := by rw [← HRE.out, HST.out]; simp [litB]; omega
            subst hv
            go_wp2_with fail
            go_ret
            exact ⟨rfl, rfl⟩
          · have hv : ((l.drop (k + 1)).all (litB n) && decide (c ≤ 64)) = R := by
              rw [← HRE.out, HST.out]
              have : litB n x = true := by simp [litB]; omega
              rw [this]; rfl
            have HV := Lib.hid hv
            clear hv
            go_wp2_with fail
            go_roundg m
            case measure => omega
            case rel => exact ⟨k + 1, by omega, by go_num, HV.out, rfl⟩
theorem refCls_any (l : List (List Int)) (n : Int) (v : Value) (S : Nat → Prop) (w : World) (hw : Wide l) (h : RowsO w S l v) :
    Calls Try.prog 37 #[.int .i64 n, v] w fun e w' => e = .returned (.int .i64 (chkP n l)) ∧ w = w' := by
  obtain ⟨R, hR⟩ : ∃ R, chkP n l = R := ⟨_, rfl⟩
  rw [hR]
  unfold chkP at hR
  rw [← fitB_eq] at hR
  unfold fitB at hR
  obtain ⟨a, cap, rfl⟩ := h.form
  have hw1 := hw.1
  obtain ⟨c, hc⟩ : ∃ c, l.length = c := ⟨_, rfl⟩
  rw [hc] at hR hw1 h ⊢
  have HR := Lib.hid hR
  have HH := Lib.hid h
  have HN := Lib.hid hc
  have HW := Lib.hid hw
  have HL := Lib.hid (fun l hn v w => fits_any l n hn v S w)
  clear hR h hw hc
  go_enter Try.func37, Try.ntmps37
  by_cases e0 : n < 0
  · have hv : R = 3 := by rw [← HR.out, if_pos (.inl e0)]
    subst hv
    go_wp2_with fail
    go_ret
    exact ⟨rfl, rfl⟩
  · by_cases e1 : 24 < n
    · have hv : R = 3 := by rw [← HR.out, if_pos (.inr e1)]
      subst hv
      go_wp2_with fail
      go_ret
      exact ⟨rfl, rfl⟩
    · have hr : (if 4096 < c ∨ l.all (fitsB n) = false then (2 : Int) else 0) = R := by have h := HR.out; rw [if_neg (by omega)] at h; exact h
      have HR2 := Lib.hid hr
      have HL2 := Lib.hid (fun l v w => HL.out l ⟨by omega, by omega⟩ v w)
      clear hr HL
      go_wp2_with fail
      go_loopg [5] c (fun m iv wr => ∃ k : Nat, k + m = c ∧ iv = .int .i64 (k : Int) ∧ l.all (fitsB n) = (l.drop k).all (fitsB n) ∧ w = wr)
      case atStart => exact ⟨0, by omega, rfl, by rw [List.drop_zero], rfl⟩
      case round =>
        obtain ⟨k, hkm, rfl, hrest, rfl⟩ := hrel
        have HRE := Lib.hid hrest
        have q4 : (0 : Int) ≤ (k : Int) := Int.natCast_nonneg _
        clear hrest
        cases gk with
        | zero =>
          obtain rfl : k = c := by omega
          have hv : l.all (fitsB n) = true := by rw [HRE.out, List.drop_eq_nil_of_le (by rw [HN.out]; exact Nat.le_refl _)]; rfl
          have HV := Lib.hid hv
          clear hv
          by_cases h4 : 4096 < k
          · have q5 : (4096 : Int) < (k : Int) := by omega
            obtain rfl : R = 2 := by rw [← HR2.out, if_pos (.inl h4)]
            go_wp2_with fail
            go_ret
            exact ⟨rfl, rfl⟩
          · have q5 : ¬ (4096 : Int) < (k : Int) := by omega
            obtain rfl : R = 0 := by rw [← HR2.out, if_neg (by rw [HV.out]; simp; omega)]
            go_wp2_with fail
            go_ret
            exact ⟨rfl, rfl⟩
        | succ m =>
          have q3 : (k : Int) < (c : Int) := by omega
          have hk : k < l.length := by rw [HN.out]; omega
          have hkt : l[k]? = some l[k] := List.getElem?_eq_getElem hk
          have hmem : l[k] ∈ l := List.getElem_mem hk
          generalize l[k] = r at hkt hmem
          obtain ⟨b, ob, rfl, hSb, a', cap', hcl, hI⟩ := HH.out.at hkt
          have hst := all_drop (p := fitsB n) hkt
          have hC := HL2.out r _ w (HW.out.2 r hmem) hI
          have HST := Lib.hid hst
          clear hst hk hkt hmem hI
          cases hx : fitsB n r with
          | false =>
            obtain rfl : R = 2 := by rw [← HR2.out, if_pos (.inr (by rw [HRE.out, HST.out, hx]; rfl))]
            rw [hx] at hC
            clear hx
            go_wp2_with fail
            refine hC.mono ?_
            rintro e w2 ⟨rfl, rfl⟩
            go_wp2_with fail
            go_ret
            exact ⟨rfl, rfl⟩
          | true =>
            have hv : l.all (fitsB n) = (l.drop (k + 1)).all (fitsB n) := by rw [HRE.out, HST.out, hx]; rfl
            have HV := Lib.hid hv
            rw [hx] at hC
            clear hx hv
            go_wp2_with fail
            refine hC.mono ?_
            rintro e w2 ⟨rfl, rfl⟩
            go_wp2_with fail
            go_roundg m
            case measure => omega
            case rel => exact ⟨k + 1, by omega, by go_num, HV.out, rfl⟩
end Go.Proofs.Ytaojojjdfdlgpaa
