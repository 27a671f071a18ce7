import Derived.Test.YtaojojjdfdlgpaaDv
namespace Go.Proofs.Ytaojojjdfdlgpaa
open Go.RowKit Uq

/-! the reference's in; its consequences, beside the memory -/
theorem any_drop_c {l : List Int} {k : Nat} {x y : Int} (h : l[k]? = some y) : (l.drop k).contains x = ((x == y) || (l.drop (k + 1)).contains x) := by
  rw [drop_at3 h, List.contains_cons]
set_option maxRecDepth 100000 in
theorem in_any (l : List Int) (x : Int) (v : Value) (S : Nat → Prop) (w : World) (hw : l.length ≤ 1048576) (h : IntsO w S l v) :
    Calls Try.prog 61 #[v, .int .i64 x] w fun e w' => e = .returned (.bool (l.contains x)) ∧ w = w' := by
  obtain ⟨a, cap, rfl⟩ := h.form
  obtain ⟨c, hc⟩ : ∃ c, l.length = c := ⟨_, rfl⟩
  obtain ⟨R, hR⟩ : ∃ R, l.contains x = R := ⟨_, rfl⟩
  rw [hR]
  rw [hc] at hw h ⊢
  have HR := Lib.hid hR
  have HH := Lib.hid h
  have HN := Lib.hid hc
  clear hR h hc
  go_enter Try.func61, Try.ntmps61
  go_wp2_with fail
  go_loopg [5] c (fun m iv wr => ∃ k : Nat, k + m = c ∧ iv = .int .i64 (k : Int) ∧ (l.drop k).contains x = R ∧ w = wr)
  case atStart => exact ⟨0, by omega, rfl, by rw [List.drop_zero]; exact HR.out, rfl⟩
  case round =>
    obtain ⟨k, hkm, rfl, hrest, rfl⟩ := hrel
    have HRE := Lib.hid hrest
    have q4 : (0 : Int) ≤ (k : Int) := Int.natCast_nonneg _
    clear hrest
    cases gk with
    | zero =>
      obtain rfl : k = c := by omega
      have hv : R = false := by rw [← HRE.out, List.drop_eq_nil_of_le (by rw [HN.out]; exact Nat.le_refl _)]; rfl
      subst hv
      go_wp2_with fail
      go_ret
      exact ⟨rfl, rfl⟩
    | succ m =>
      have q3 : (k : Int) < (c : Int) := by omega
      have hk : k < l.length := by rw [HN.out]; omega
      have hkt : l[k]? = some l[k] := List.getElem?_eq_getElem hk
      generalize l[k] = y at hkt
      obtain ⟨b, ob, rfl, hSb, hcl⟩ := HH.out.at hkt
      have hst := any_drop_c (x := x) hkt
      rw [HRE.out] at hst
      have HST := Lib.hid hst
      clear hst hk hkt
      by_cases e0 : y = x
      · have q0 : (y == x) = true := by simpa using e0
        have hv : R = true := by rw [HST.out, e0]; simp
        subst hv
        clear e0
        go_wp2_with fail
        go_ret
        exact ⟨rfl, rfl⟩
      · have q0 : (y == x) = false := by simpa using e0
        have hv : (l.drop (k + 1)).contains x = R := by
          rw [HST.out, show (x == y) = false by simpa using fun e => e0 e.symm]; rfl
        have HV := Lib.hid hv
        clear hv e0
        go_wp2_with fail
        go_roundg m
        case measure => omega
        case rel => exact ⟨k + 1, by omega, by go_num, HV.out, rfl⟩
theorem all_drop_c {p : Int → Bool} {l : List Int} {k : Nat} {x : Int} (h : l[k]? = some x) : (l.drop k).all p = (p x && (l.drop (k + 1)).all p) := all_drop h
/-- a literal that is new takes room -/
theorem room_add {out : List Int} {x : Int} (hx : Ltr x) (hn : x ∉ out) : (out ++ [x]).length + roomP (out ++ [x]) ≤ out.length + roomP out := by
  have h4 : roomP (out ++ [x]) < roomP out := by
    unfold roomP
    refine Uq.filter_lt (x := x) hx.all (fun z hz => ?_) ?_ ?_
    · simp at hz ⊢; exact hz.1
    · simpa using hn
    · simp
  rw [List.length_append, List.length_singleton]
  omega
theorem not_alone {out c : List Int} {x : Int} (h : aloneB out c x = true) : x ∉ out := (alone_iff.1 h).1
/-- the row that grows -/
def Outs (B n : Nat) (acc : List Int) (v : Value) (w : World) : Prop := acc.length = n ∧ w.ownsRow B 3 1 v n (acc.map (Value.int .i64))
theorem Outs.form {B n : Nat} {acc : List Int} {v : Value} {w : World} (h : Outs B n acc v w) : ∃ oa ocp, v = .slice oa n ocp := by
  obtain ⟨rfl, h⟩ := h
  obtain ⟨a, c, e, _⟩ := row_ints h
  exact ⟨a, c, e⟩
theorem Outs.ints {B n : Nat} {acc : List Int} {v : Value} {w : World} (h : Outs B n acc v w) : IntsO w (fun b => b < w.heap.size) acc v := by
  obtain ⟨rfl, h⟩ := h
  exact intsO_of h (fun g hg => (h.lt g hg).2)
theorem Outs.drew {B n : Nat} {acc : List Int} {v : Value} {w : World} (h : Outs B n acc v w) : Outs B n acc v w.drew := ⟨h.1, ((Fr.refl nob w).drew).row h.2 (fun _ _ h => h)⟩
end Go.Proofs.Ytaojojjdfdlgpaa
