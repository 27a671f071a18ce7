import Derived.Test.YtfhjpldlhhgcnaaDoorSup
import Derived.Test.YtfhjpldlhhgcnaaDoorFun
namespace Go.Proofs.YtfhjpldlhhgcnaaDoor
open Go.RowKit
namespace Bd

/-- the set depends on a feature -/
def dep (f : Cfg → Bool) (i : Nat) : Prop := ∃ c, f (up c i false) ≠ f (up c i true)

theorem up_comm (c : Cfg) {i j : Nat} (h : i ≠ j) (u v : Bool) : up (up c i u) j v = up (up c j v) i u := by
  funext k; simp only [up]; split
  · rename_i e; subst e; rw [if_neg (Ne.symm h)]
  · rfl

theorem sub_self (b : B) : sub b b := by cases b <;> first | rfl | exact .inl rfl

theorem dep_of_sub {b : B} : ∀ {n i : Nat} {lo hi : B}, n ≤ 24 → b.ok n → sub (.N i lo hi) b → dep b.ev i := by
  induction b with
  | F => intro n i lo hi _ _ h; cases h
  | T => intro n i lo hi _ _ h; cases h
  | N j l u il iu =>
    intro n i lo hi hn hb h
    obtain ⟨h1, h2, h3, h4, h5⟩ := hb
    rcases h with h | h | h
    · cases h
      have : ∃ c, l.ev c ≠ u.ev c := Classical.byContradiction fun hc => h3 (uniq (n := j + 1) (by omega) h4 h5 (fun c => Classical.byContradiction fun hx => hc ⟨c, hx⟩))
      obtain ⟨c, hc⟩ := this
      refine ⟨c, ?_⟩
      show (if up c j false j then u.ev (up c j false) else l.ev (up c j false)) ≠ (if up c j true j then u.ev (up c j true) else l.ev (up c j true))
      rw [up_free h4, up_free h5, up_free h4, up_free h5]
      simpa [up] using hc
    · have hi' : j + 1 ≤ i := (sub_ok h4 h).1
      obtain ⟨c, hc⟩ := il (by omega) h4 h
      refine ⟨up c j false, ?_⟩
      have e : ∀ v, (B.N j l u).ev (up (up c j false) i v) = l.ev (up c i v) := fun v => by
        rw [up_comm c (by omega)]
        show (if up (up c i v) j false j then _ else _) = _
        simp only [up, if_true, Bool.false_eq_true, if_false]
        exact up_free h4 (up c i v) false
      rw [e, e]; exact hc
    · have hi' : j + 1 ≤ i := (sub_ok h5 h).1
      obtain ⟨c, hc⟩ := iu (by omega) h5 h
      refine ⟨up c j true, ?_⟩
      have e : ∀ v, (B.N j l u).ev (up (up c j true) i v) = u.ev (up c i v) := fun v => by
        rw [up_comm c (by omega)]
        show (if up (up c i v) j true j then _ else _) = _
        simp only [up, if_true]
        exact up_free h5 (up c i v) true
      rw [e, e]; exact hc

theorem free_of_no {b : B} {i : Nat} : (∀ lo hi, ¬ sub (.N i lo hi) b) → ∀ c v, b.ev (up c i v) = b.ev c := by
  induction b with
  | F => intros; rfl
  | T => intros; rfl
  | N j l u il iu =>
    intro h c v
    have hj : j ≠ i := by rintro rfl; exact h l u (.inl rfl)
    have e1 := il (fun lo hi hs => h lo hi (.inr (.inl hs))) c v
    have e2 := iu (fun lo hi hs => h lo hi (.inr (.inr hs))) c v
    show (if up c i v j then _ else _) = (if c j then _ else _)
    rw [e1, e2]; simp [up, hj]

theorem sub_mem : ∀ {b : B} {R : List B} {s : B}, good R → inn R b → sub s b → inn R s := by
  intro b
  induction b with
  | F => intro R s _ hb h; obtain rfl : s = .F := h; exact hb
  | T => intro R s _ hb h; obtain rfl : s = .T := h; exact hb
  | N i l u il iu =>
    intro R s hg hb h
    obtain ⟨k1, k2⟩ := kids_inn hg (hb.resolve_left (by simp [B.const]))
    rcases h with rfl | h | h
    · exact hb
    · exact il hg k1 h
    · exact iu hg k2 h

theorem mem_li {b s : B} : s ∈ li b ↔ s.const = false ∧ sub s b := by
  constructor
  · intro h
    exact ⟨good_all_N (good_li b) s h, (vis_subs b [] s h).resolve_left (by simp)⟩
  · rintro ⟨h1, h2⟩
    exact (sub_mem (good_li b) (inn_li b) h2).resolve_left (by simp [h1])

theorem supR_bit {i : Nat} : ∀ {R : List B}, (supR R).testBit i = true ↔ ∃ b ∈ R, b.top = i
  | [] => by simp [supR]
  | b :: r => by
    rw [supR, Nat.testBit_or, Bool.or_eq_true, supR_bit, Nat.one_shiftLeft, Nat.testBit_two_pow]
    simp only [decide_eq_true_eq, List.mem_cons]
    constructor
    · rintro (⟨x, h1, h2⟩ | h)
      · exact ⟨x, .inr h1, h2⟩
      · exact ⟨b, .inl rfl, h⟩
    · rintro ⟨x, rfl | h1, h2⟩
      · exact .inr h2
      · exact .inl ⟨x, h1, h2⟩

theorem supR_dep {b : B} (hb : b.ok 0) (i : Nat) : (supR (li b)).testBit i = true ↔ dep b.ev i := by
  rw [supR_bit]
  constructor
  · rintro ⟨s, hs, ht⟩
    obtain ⟨h1, h2⟩ := mem_li.1 hs
    cases s with
    | F => cases h1
    | T => cases h1
    | N j l u => obtain rfl : j = i := ht; exact dep_of_sub (Nat.zero_le _) hb h2
  · rintro ⟨c, hc⟩
    refine Classical.byContradiction fun hn => hc ?_
    have h : ∀ lo hi, ¬ sub (.N i lo hi) b := fun lo hi hs => hn ⟨_, mem_li.2 ⟨rfl, hs⟩, rfl⟩
    rw [free_of_no h, free_of_no h]
theorem supR_lt24 {b : B} (hb : b.ok 0) : supR (li b) < 2 ^ 24 := supR_lt (top_lt (good_li b) (small_li hb).2)
end Bd
end Go.Proofs.YtfhjpldlhhgcnaaDoor
