import Derived.Maps.Own
import Derived.WalkKit
import Derived.Below
import Derived.Deep.Quiet
import Derived.Test.YtaojojjdfdlgpaaProg
import Derived.Lib.Hide
import Derived.WalkSpells
import Derived.WalkLawsBesides
import Derived.Deep.AppendLies
import Derived.Deep.RegionHeld3
import Derived.BigQuiet
import Derived.Deep.QuietTactic
import Derived.DeepKeys4
import Derived.StillTailTactics
import Derived.Deep.RegionLaw
import Derived.Laws.BytesString
import Derived.Laws.Cells
namespace Go.Proofs.Ytaojojjdfdlgpaa.Dg.Bd

inductive B where
  | F
  | T
  | N (i : Nat) (lo hi : B)
  deriving DecidableEq

abbrev Cfg := Nat → Bool
def up (c : Cfg) (i : Nat) (v : Bool) : Cfg := fun j => if j = i then v else c j
def cut (c : Cfg) : Cfg := fun j => decide (j < 24) && c j
def win (i : Nat) (c : Cfg) : Cfg := fun j => decide (i ≤ j) && (decide (j < 24) && c j)

def B.ev : B → Cfg → Bool
  | .F, _ => false
  | .T, _ => true
  | .N i lo hi, c => if c i then hi.ev c else lo.ev c

def B.ok : B → Nat → Prop
  | .F, _ => True
  | .T, _ => True
  | .N i lo hi, n => n ≤ i ∧ i < 24 ∧ lo ≠ hi ∧ lo.ok (i + 1) ∧ hi.ok (i + 1)

def mk (i : Nat) (lo hi : B) : B := if lo = hi then lo else .N i lo hi

theorem B.ok.mono {b : B} {n m : Nat} (h : b.ok n) (hm : m ≤ n) : b.ok m := by
  cases b with
  | F => trivial
  | T => trivial
  | N i lo hi => exact ⟨Nat.le_trans hm h.1, h.2⟩

theorem ok_mk {i : Nat} {lo hi : B} (hi' : i < 24) (hl : lo.ok (i + 1)) (hh : hi.ok (i + 1)) : (mk i lo hi).ok i := by
  unfold mk; split
  · exact hl.mono (by omega)
  · exact ⟨Nat.le_refl _, hi', by assumption, hl, hh⟩

theorem ev_mk (i : Nat) (lo hi : B) (c : Cfg) : (mk i lo hi).ev c = if c i then hi.ev c else lo.ev c := by
  unfold mk; split
  · subst_vars; simp
  · rfl

theorem ev_agree {b : B} : ∀ {n : Nat} {c d : Cfg}, b.ok n → (∀ j, n ≤ j → j < 24 → c j = d j) → b.ev c = b.ev d := by
  induction b with
  | F => intros; rfl
  | T => intros; rfl
  | N i lo hi il ih =>
    intro n c d h hc
    obtain ⟨h1, h2, _, h4, h5⟩ := h
    simp only [B.ev]
    rw [hc i h1 h2, il h4 (fun j hj => hc j (by omega)), ih h5 (fun j hj => hc j (by omega))]

/-- b with the feature i fixed, where no feature below i is left. -/
def B.fix (b : B) (i : Nat) (v : Bool) : B :=
  match b with
  | .N j lo hi => if j = i then (if v then hi else lo) else b
  | _ => b

theorem ok_fix {b : B} {i : Nat} (h : b.ok i) (v : Bool) : (b.fix i v).ok (i + 1) := by
  cases b with
  | F => trivial
  | T => trivial
  | N j lo hi =>
    obtain ⟨h1, h2, h3, h4, h5⟩ := h
    unfold B.fix
    split
    · rename_i e; injection e with e1 e2 e3; subst e1 e2 e3
      split
      · rename_i e; subst e; cases v <;> simp [h4, h5]
      · exact ⟨by omega, h2, h3, h4, h5⟩
    · rename_i e; exact absurd rfl (e _ _ _)

theorem ev_fix {b : B} {i : Nat} (h : b.ok i) (v : Bool) (c : Cfg) : (b.fix i v).ev c = b.ev (up c i v) := by
  cases b with
  | F => rfl
  | T => rfl
  | N j lo hi =>
    obtain ⟨h1, h2, h3, h4, h5⟩ := h
    simp only [B.fix]
    by_cases e : j = i
    · subst e
      simp only [if_true, B.ev]
      have hl : lo.ev (up c j v) = lo.ev c := ev_agree h4 (fun k hk _ => by simp [up]; intro; omega)
      have hh : hi.ev (up c j v) = hi.ev c := ev_agree h5 (fun k hk _ => by simp [up]; intro; omega)
      cases v <;> simp [up, hl, hh] <;> simp [up] at hl hh <;> simp [hl, hh]
    · rw [if_neg e]
      have hk : (B.N j lo hi).ok (i + 1) := ⟨by omega, h2, h3, h4, h5⟩
      exact ev_agree hk (fun k hk _ => by simp [up]; intro; omega)

theorem mk_fix {b : B} {i : Nat} (h : b.ok i) : mk i (b.fix i false) (b.fix i true) = b := by
  cases b with
  | F => rfl
  | T => rfl
  | N j lo hi =>
    obtain ⟨h1, h2, h3, h4, h5⟩ := h
    simp only [B.fix]
    by_cases e : j = i
    · subst e; simp [mk, h3]
    · simp [mk, e]

theorem ok_24 {b : B} (h : b.ok 24) : b = .F ∨ b = .T := by
  cases b with
  | F => exact .inl rfl
  | T => exact .inr rfl
  | N j lo hi => obtain ⟨h1, h2, _⟩ := h; omega

theorem uniq_k : ∀ (k n : Nat) {a b : B}, n + k = 24 → a.ok n → b.ok n → (∀ c, a.ev c = b.ev c) → a = b
  | 0, n, a, b, hn, ha, hb, h => by
    obtain rfl : n = 24 := by omega
    rcases ok_24 ha with rfl | rfl <;> rcases ok_24 hb with rfl | rfl
    · rfl
    · exact absurd (h (fun _ => false)) (by simp [B.ev])
    · exact absurd (h (fun _ => false)) (by simp [B.ev])
    · rfl
  | k + 1, n, a, b, hn, ha, hb, h => by
    rw [← mk_fix ha, ← mk_fix hb,
      uniq_k k (n + 1) (by omega) (ok_fix ha false) (ok_fix hb false) (fun c => by rw [ev_fix ha, ev_fix hb, h]),
      uniq_k k (n + 1) (by omega) (ok_fix ha true) (ok_fix hb true) (fun c => by rw [ev_fix ha, ev_fix hb, h])]

theorem uniq {a b : B} {n : Nat} (hn : n ≤ 24) (ha : a.ok n) (hb : b.ok n) (h : ∀ c, a.ev c = b.ev c) : a = b :=
  uniq_k (24 - n) n (by omega) ha hb h

def canF : Nat → Nat → (Cfg → Bool) → B
  | 0, _, f => if f (fun _ => false) then .T else .F
  | k + 1, i, f => mk i (canF k (i + 1) (fun c => f (up c i false))) (canF k (i + 1) (fun c => f (up c i true)))

theorem ok_canF : ∀ (k i : Nat) (f : Cfg → Bool), i + k = 24 → (canF k i f).ok i
  | 0, i, f, h => by unfold canF; split <;> trivial
  | k + 1, i, f, h => ok_mk (by omega) (ok_canF k (i + 1) _ (by omega)) (ok_canF k (i + 1) _ (by omega))

theorem ev_canF : ∀ (k i : Nat) (f : Cfg → Bool) (c : Cfg), i + k = 24 → (canF k i f).ev c = f (win i c)
  | 0, i, f, c, h => by
    obtain rfl : i = 24 := by omega
    have : win 24 c = fun _ => false := by
      funext j; simp [win]; intro a b; omega
    rw [this]; unfold canF; split <;> simp_all [B.ev]
  | k + 1, i, f, c, h => by
    unfold canF
    rw [ev_mk, ev_canF k (i + 1) _ c (by omega), ev_canF k (i + 1) _ c (by omega)]
    have e : ∀ v, c i = v → up (win (i + 1) c) i v = win i c := by
      intro v hv; funext j; simp only [up, win]
      by_cases hj : j = i
      · subst hj; simp [hv]; intro; omega
      · rw [if_neg hj]; by_cases hl : i ≤ j
        · have : i + 1 ≤ j := by omega
          simp [hl, this]
        · have : ¬ i + 1 ≤ j := by omega
          simp [hl, this]
    by_cases hc : c i = true
    · rw [if_pos hc, e true hc]
    · rw [if_neg hc, e false (by simpa using hc)]

theorem can_ex (f : Cfg → Bool) : ∃ b : B, b.ok 0 ∧ ∀ c, b.ev c = f (cut c) := by
  have h : ∀ k, 0 + k = 24 → ∃ b : B, b.ok 0 ∧ ∀ c, b.ev c = f (win 0 c) := fun k hk => ⟨_, ok_canF k 0 f hk, fun c => ev_canF k 0 f c hk⟩
  obtain ⟨b, h1, h2⟩ := h 24 (by omega)
  refine ⟨b, h1, fun c => (h2 c).trans ?_⟩
  have : win 0 c = cut c := by funext j; simp [win, cut]
  rw [this]
noncomputable def can (f : Cfg → Bool) : B := (can_ex f).choose
theorem ok_can (f : Cfg → Bool) : (can f).ok 0 := (can_ex f).choose_spec.1
theorem ev_can (f : Cfg → Bool) (c : Cfg) : (can f).ev c = f (cut c) := (can_ex f).choose_spec.2 c
theorem ev_cut {b : B} (h : b.ok 0) (c : Cfg) : b.ev (cut c) = b.ev c := ev_agree h (fun j _ hj => by simp [cut, hj])
theorem can_eq {f : Cfg → Bool} {a : B} (ha : a.ok 0) (h : ∀ c, f (cut c) = a.ev c) : can f = a :=
  uniq (by omega) (ok_can f) ha (fun c => by rw [ev_can, h])
theorem eq_of_ev {a b : B} (ha : a.ok 0) (hb : b.ok 0) (h : ∀ c, a.ev c = b.ev c) : a = b := uniq (by omega) ha hb h
theorem cut_cut (c : Cfg) : cut (cut c) = cut c := by funext j; simp [cut]

/-! ### listings, the newest node first -/
def B.const : B → Bool
  | .N _ _ _ => false
  | _ => true

def pos : List B → B → Nat
  | [], _ => 0
  | n :: r, b => if b = n then r.length else pos r b

def place (R : List B) : B → Nat
  | .F => 0
  | .T => 1
  | b => pos R b + 2

def inn (R : List B) (b : B) : Prop := b.const = true ∨ b ∈ R

def good : List B → Prop
  | [] => True
  | .N i lo hi :: r => .N i lo hi ∉ r ∧ inn r lo ∧ inn r hi ∧ good r
  | _ :: _ => False

def rows : List B → List (Nat × Nat × Nat)
  | [] => []
  | .N i lo hi :: r => rows r ++ [(i, place r lo, place r hi)]
  | _ :: r => rows r

def vis : B → List B → List B
  | .N i lo hi, R => if .N i lo hi ∈ R then R else .N i lo hi :: vis hi (vis lo R)
  | _, R => R

theorem inn.mono {R S : List B} {b : B} (h : inn R b) (hs : ∀ x ∈ R, x ∈ S) : inn S b := h.imp id (hs b)

theorem pos_lt {R : List B} {b : B} (h : b ∈ R) : pos R b < R.length := by
  induction R with
  | nil => cases h
  | cons n r ih =>
    unfold pos; split
    · simp
    · have := ih (by rcases List.mem_cons.1 h with e | e; exact absurd e ‹_›; exact e)
      simp; omega

theorem pos_cons {R : List B} {b n : B} (h : b ∈ R) (hn : n ∉ R) : pos (n :: R) b = pos R b := by
  rw [pos, if_neg]; rintro rfl; exact hn h

theorem place_cons {R : List B} {b n : B} (h : inn R b) (hn : n ∉ R) : place (n :: R) b = place R b := by
  cases b with
  | F => rfl
  | T => rfl
  | N i lo hi =>
    have : B.N i lo hi ∈ R := by rcases h with h | h; cases h; exact h
    simp [place, pos_cons this hn]

theorem rows_length : ∀ {R : List B}, good R → (rows R).length = R.length
  | [], _ => rfl
  | .N i lo hi :: r, h => by simp [rows, rows_length h.2.2.2]
  | .F :: _, h => h.elim
  | .T :: _, h => h.elim

theorem pos_inj : ∀ {R : List B} {a b : B}, a ∈ R → b ∈ R → pos R a = pos R b → a = b := by
  intro R
  induction R with
  | nil => intro a b h; cases h
  | cons n r ih =>
    intro a b ha hb h
    unfold pos at h
    by_cases ea : a = n <;> by_cases eb : b = n
    · rw [ea, eb]
    · rw [if_pos ea, if_neg eb] at h
      have := pos_lt (List.mem_of_ne_of_mem eb hb); omega
    · rw [if_neg ea, if_pos eb] at h
      have := pos_lt (List.mem_of_ne_of_mem ea ha); omega
    · rw [if_neg ea, if_neg eb] at h
      exact ih (List.mem_of_ne_of_mem ea ha) (List.mem_of_ne_of_mem eb hb) h

theorem place_inj {R : List B} {a b : B} (ha : inn R a) (hb : inn R b) (h : place R a = place R b) : a = b := by
  cases a <;> cases b <;> simp [place] at h <;> try rfl
  rename_i i lo hi j l2 h2
  have ha' : B.N i lo hi ∈ R := by rcases ha with h | h; cases h; exact h
  have hb' : B.N j l2 h2 ∈ R := by rcases hb with h | h; cases h; exact h
  exact pos_inj ha' hb' h

theorem place_lt {R : List B} {b : B} (h : inn R b) : place R b < R.length + 2 := by
  cases b with
  | F => simp [place]
  | T => simp [place]
  | N i lo hi =>
    have : B.N i lo hi ∈ R := by rcases h with h | h; cases h; exact h
    have := pos_lt this
    simp [place]; omega

/-- The row of a node that is listed. -/
theorem rows_at : ∀ {R : List B} {i : Nat} {lo hi : B}, good R → .N i lo hi ∈ R → (rows R)[pos R (.N i lo hi)]? = some (i, place R lo, place R hi) ∧ inn R lo ∧ inn R hi
  | [], _, _, _, _, h => by cases h
  | .F :: _, _, _, _, hg, _ => hg.elim
  | .T :: _, _, _, _, hg, _ => hg.elim
  | .N j l h' :: r, i, lo, hi, hg, h => by
    obtain ⟨hn, hl, hh, hr⟩ := hg
    by_cases e : B.N i lo hi = .N j l h'
    · cases e
      refine ⟨?_, hl.mono (by intro x hx; exact List.mem_cons_of_mem _ hx), hh.mono (by intro x hx; exact List.mem_cons_of_mem _ hx)⟩
      rw [pos, if_pos rfl, rows, place_cons hl hn, place_cons hh hn, ← rows_length hr]
      simp
    · have hm := List.mem_of_ne_of_mem e h
      obtain ⟨h1, h2, h3⟩ := rows_at hr hm
      refine ⟨?_, h2.mono (by intro x hx; exact List.mem_cons_of_mem _ hx), h3.mono (by intro x hx; exact List.mem_cons_of_mem _ hx)⟩
      rw [pos_cons hm hn, place_cons h2 hn, place_cons h3 hn, rows]
      have := pos_lt hm
      rw [List.getElem?_append_left (by rw [rows_length hr]; exact this), h1]

theorem good_all_N : ∀ {R : List B}, good R → ∀ b ∈ R, b.const = false
  | [], _, _, h => by cases h
  | .N _ _ _ :: r, hg, b, h => by
    rcases List.mem_cons.1 h with rfl | h
    · rfl
    · exact good_all_N hg.2.2.2 b h
  | .F :: _, hg, _, _ => hg.elim
  | .T :: _, hg, _, _ => hg.elim

/-- size of a tree, to see that a node is not below itself -/
def B.sz : B → Nat
  | .N _ lo hi => lo.sz + hi.sz + 1
  | _ => 0

theorem vis_sub (b : B) : ∀ (R : List B) (x : B), x ∈ vis b R → x ∈ R ∨ x.sz ≤ b.sz := by
  induction b with
  | F => intro R x h; exact .inl h
  | T => intro R x h; exact .inl h
  | N i lo hi il ih =>
    intro R x h
    unfold vis at h; split at h
    · exact .inl h
    · rcases List.mem_cons.1 h with rfl | h
      · exact .inr (Nat.le_refl _)
      · rcases ih _ x h with h | h
        · rcases il _ x h with h | h
          · exact .inl h
          · right; simp only [B.sz]; omega
        · right; simp only [B.sz]; omega

theorem mem_vis (b : B) : ∀ (R : List B) (x : B), x ∈ R → x ∈ vis b R := by
  induction b with
  | F => intro R x h; exact h
  | T => intro R x h; exact h
  | N i lo hi il ih =>
    intro R x h
    unfold vis; split
    · exact h
    · exact List.mem_cons_of_mem _ (ih _ _ (il _ _ h))

theorem inn_vis (b : B) (R : List B) : inn (vis b R) b := by
  cases b with
  | F => exact .inl rfl
  | T => exact .inl rfl
  | N i lo hi =>
    right; unfold vis; split
    · assumption
    · simp

theorem notin_vis {i : Nat} {lo hi : B} {R : List B} (h : .N i lo hi ∉ R) : .N i lo hi ∉ vis hi (vis lo R) := by
  intro hc
  rcases vis_sub _ _ _ hc with hc | hc
  · rcases vis_sub _ _ _ hc with hc | hc
    · exact h hc
    · simp only [B.sz] at hc; omega
  · simp only [B.sz] at hc; omega

theorem good_vis (b : B) : ∀ {R : List B}, good R → good (vis b R) := by
  induction b with
  | F => intro R h; exact h
  | T => intro R h; exact h
  | N i lo hi il ih =>
    intro R h
    unfold vis; split
    · exact h
    · exact ⟨notin_vis ‹_›, (inn_vis lo R).mono (mem_vis hi _), inn_vis hi _, ih (il h)⟩

/-- A set that is listed is passed over. -/
theorem vis_inn {b : B} {R : List B} (h : inn R b) : vis b R = R := by
  cases b with
  | F => rfl
  | T => rfl
  | N i lo hi =>
    have : B.N i lo hi ∈ R := by rcases h with h | h; cases h; exact h
    simp [vis, this]

theorem kids_inn {i : Nat} {lo hi : B} {R : List B} (hg : good R) (h : .N i lo hi ∈ R) : inn R lo ∧ inn R hi := (rows_at hg h).2

/-- What the work does with a feature and two sets: through the low one, through the high one, then the node. -/
theorem vis_mk {i : Nat} {lo hi : B} {R : List B} (hg : good R) :
    vis (mk i lo hi) R = if lo = hi then vis hi (vis lo R) else if .N i lo hi ∈ vis hi (vis lo R) then vis hi (vis lo R) else .N i lo hi :: vis hi (vis lo R) := by
  unfold mk
  by_cases e : lo = hi
  · subst e; rw [if_pos rfl, if_pos rfl, vis_inn (inn_vis lo R)]
  · rw [if_neg e, if_neg e]
    by_cases h : .N i lo hi ∈ R
    · obtain ⟨h1, h2⟩ := kids_inn hg h
      rw [vis_inn h1, vis_inn h2, if_pos h, vis_inn (.inr h)]
    · rw [if_neg (notin_vis h)]; rw [vis, if_neg h]

/-- The listing only grows: the older one is its tail. -/
theorem vis_suffix (b : B) : ∀ (R : List B), R <:+ vis b R := by
  induction b with
  | F => intro R; exact List.suffix_refl _
  | T => intro R; exact List.suffix_refl _
  | N i lo hi il ih =>
    intro R; unfold vis; split
    · exact List.suffix_refl _
    · exact (il R).trans ((ih _).trans (List.suffix_cons _ _))

theorem good_suffix : ∀ {R S : List B}, good S → R <:+ S → good R := by
  intro R S hS h
  induction S with
  | nil => rw [List.suffix_nil.1 h]; trivial
  | cons n s ih =>
    rcases List.suffix_cons_iff.1 h with rfl | h'
    · exact hS
    · cases n with
      | F => exact hS.elim
      | T => exact hS.elim
      | N i lo hi => exact ih hS.2.2.2 h'

theorem place_suffix {R S : List B} (hS : good S) (h : R <:+ S) {b : B} (hb : inn R b) : place S b = place R b := by
  induction S with
  | nil => rw [List.suffix_nil.1 h]
  | cons n s ih =>
    rcases List.suffix_cons_iff.1 h with rfl | h'
    · rfl
    · cases n with
      | F => exact hS.elim
      | T => exact hS.elim
      | N i lo hi =>
        rw [place_cons (hb.mono h'.subset) hS.1]
        exact ih hS.2.2.2 h'

end Go.Proofs.Ytaojojjdfdlgpaa.Dg.Bd
namespace Go.Proofs.Ytaojojjdfdlgpaa.Dg.Bd

/-! ### how many nodes there can be -/
theorem nodup_le {α : Type} [DecidableEq α] : ∀ {R M : List α}, R.Nodup → (∀ x ∈ R, x ∈ M) → R.length ≤ M.length
  | [], _, _, _ => Nat.zero_le _
  | n :: r, M, hn, h => by
    obtain ⟨A, C, rfl⟩ := List.append_of_mem (h n (by simp))
    obtain ⟨h1, h2⟩ := List.nodup_cons.1 hn
    have : r.length ≤ (A ++ C).length := nodup_le h2 (fun x hx => by
      have hm := h x (List.mem_cons_of_mem _ hx)
      have hne : x ≠ n := by rintro rfl; exact h1 hx
      simp at hm ⊢; rcases hm with h | h | h
      · exact .inl h
      · exact absurd h hne
      · exact .inr h)
    simp at this ⊢; omega

def allB : Nat → Nat → List B
  | 0, _ => [.F, .T]
  | k + 1, i => (allB k (i + 1)).flatMap fun lo => (allB k (i + 1)).map fun hi => mk i lo hi

theorem mem_allB : ∀ (k i : Nat) {b : B}, i + k = 24 → b.ok i → b ∈ allB k i
  | 0, i, b, h, hb => by
    obtain rfl : i = 24 := by omega
    rcases ok_24 hb with rfl | rfl <;> simp [allB]
  | k + 1, i, b, h, hb => by
    rw [allB, ← mk_fix hb]
    exact List.mem_flatMap.2 ⟨_, mem_allB k (i + 1) (by omega) (ok_fix hb false), List.mem_map.2 ⟨_, mem_allB k (i + 1) (by omega) (ok_fix hb true), rfl⟩⟩

theorem length_flat {α β : Type} (l : List α) (f : α → List β) (n : Nat) (h : ∀ x, (f x).length = n) : (l.flatMap f).length = l.length * n := by
  induction l with
  | nil => simp
  | cons a l ih => simp [List.flatMap_cons, ih, h, Nat.add_mul]; omega

theorem length_allB (k i : Nat) : (allB (k + 1) i).length = (allB k (i + 1)).length * (allB k (i + 1)).length := by
  rw [allB, length_flat _ _ (allB k (i + 1)).length (by simp)]

theorem length_allB4 (i : Nat) : (allB 4 i).length = 65536 := by
  simp [length_allB]; simp [allB]

def cofs : Nat → Nat → B → List B
  | 0, _, _ => []
  | k + 1, i, b => b :: (cofs k (i + 1) (b.fix i false) ++ cofs k (i + 1) (b.fix i true))

theorem length_cofs : ∀ (k i : Nat) (b : B), (cofs k i b).length + 1 = 2 ^ k
  | 0, _, _ => rfl
  | k + 1, i, b => by
    have h1 := length_cofs k (i + 1) (b.fix i false)
    have h2 := length_cofs k (i + 1) (b.fix i true)
    simp [cofs, Nat.pow_succ]; omega

def B.top : B → Nat
  | .N i _ _ => i
  | _ => 24

/-- below: s is b or below it -/
def sub (s : B) : B → Prop
  | .N i lo hi => s = .N i lo hi ∨ sub s lo ∨ sub s hi
  | b => s = b

theorem top_ge {b : B} {n : Nat} (h : b.ok n) (hn : n ≤ 24) : n ≤ b.top := by
  cases b with
  | F => exact hn
  | T => exact hn
  | N i lo hi => exact h.1

theorem sub_ok {s b : B} : ∀ {n : Nat}, b.ok n → sub s b → s.ok n := by
  induction b with
  | F => intro n h hs; obtain rfl : s = .F := hs; trivial
  | T => intro n h hs; obtain rfl : s = .T := hs; trivial
  | N i lo hi il ih =>
    intro n h hs
    rcases hs with rfl | hs | hs
    · exact h
    · exact (il h.2.2.2.1 hs).mono (by have := h.1; omega)
    · exact (ih h.2.2.2.2 hs).mono (by have := h.1; omega)

theorem sub_fix {s b : B} {i : Nat} (h : sub s b) : s = b ∨ sub s (b.fix i false) ∨ sub s (b.fix i true) := by
  cases b with
  | F => exact .inl h
  | T => exact .inl h
  | N j lo hi =>
    by_cases e : j = i
    · rcases h with h | h | h
      · exact .inl h
      · exact .inr (.inl (by simpa [B.fix, e] using h))
      · exact .inr (.inr (by simpa [B.fix, e] using h))
    · exact .inr (.inl (by simpa [B.fix, e] using h))

theorem mem_cofs : ∀ (k i : Nat) {s b : B}, b.ok i → i ≤ 24 → i + k ≤ 24 → sub s b → s.top < i + k → s ∈ cofs k i b
  | 0, i, s, b, hb, hi, hk, hs, ht => by have := top_ge (sub_ok hb hs) hi; omega
  | k + 1, i, s, b, hb, hi, hk, hs, ht => by
    rw [cofs]
    rcases sub_fix (i := i) hs with rfl | h | h
    · simp
    · exact List.mem_cons_of_mem _ (List.mem_append_left _ (mem_cofs k (i + 1) (ok_fix hb _) (by omega) (by omega) h (by omega)))
    · exact List.mem_cons_of_mem _ (List.mem_append_right _ (mem_cofs k (i + 1) (ok_fix hb _) (by omega) (by omega) h (by omega)))

theorem vis_subs (b : B) : ∀ (R : List B) (x : B), x ∈ vis b R → x ∈ R ∨ sub x b := by
  induction b with
  | F => intro R x h; exact .inl h
  | T => intro R x h; exact .inl h
  | N i lo hi il ih =>
    intro R x h
    unfold vis at h; split at h
    · exact .inl h
    · rcases List.mem_cons.1 h with rfl | h
      · exact .inr (.inl rfl)
      · rcases ih _ x h with h | h
        · rcases il _ x h with h | h
          · exact .inl h
          · exact .inr (.inr (.inl h))
        · exact .inr (.inr (.inr h))

theorem good_nodup : ∀ {R : List B}, good R → R.Nodup
  | [], _ => List.nodup_nil
  | .N _ _ _ :: _, h => List.nodup_cons.2 ⟨h.1, good_nodup h.2.2.2⟩
  | .F :: _, h => h.elim
  | .T :: _, h => h.elim

theorem ok_of_top {s : B} {n m : Nat} (h : s.ok n) (hm : m ≤ s.top) : s.ok m := by
  cases s with
  | F => trivial
  | T => trivial
  | N i lo hi => exact ⟨hm, h.2⟩

/-- FEWER THAN 2^21 NODES. -/
theorem few {b : B} (hb : b.ok 0) : (vis b []).length < 2097152 := by
  have hd := good_nodup (good_vis b (R := []) trivial)
  have hs : ∀ x ∈ vis b [], x ∈ cofs 20 0 b ++ allB 4 20 := by
    intro x hx
    have hx' : sub x b := (vis_subs b [] x hx).resolve_left (by simp)
    by_cases ht : x.top < 20
    · exact List.mem_append_left _ (mem_cofs 20 0 hb (by omega) (by omega) hx' (by omega))
    · exact List.mem_append_right _ (mem_allB 4 20 (by omega) (ok_of_top (sub_ok hb hx') (by omega)))
  have h1 := nodup_le hd hs
  rw [List.length_append, length_allB4] at h1
  have h2 := length_cofs 20 0 b
  omega

/-! ### the bytes -/
def b3 (p : Nat) : List UInt8 := [UInt8.ofNat p, UInt8.ofNat (p / 256), UInt8.ofNat (p / 65536)]
def rowCode (r : Nat × Nat × Nat) : List UInt8 := UInt8.ofNat r.1 :: (b3 r.2.1 ++ b3 r.2.2)
def code (rs : List (Nat × Nat × Nat)) : List UInt8 := rs.flatMap rowCode

theorem rowCode_length (_r : Nat × Nat × Nat) : (rowCode _r).length = 7 := rfl
theorem code_length (rs : List (Nat × Nat × Nat)) : (code rs).length = 7 * rs.length := by
  unfold code; rw [length_flat _ _ 7 (by intro; rfl)]; omega
theorem code_snoc (rs : List (Nat × Nat × Nat)) (r : Nat × Nat × Nat) : code (rs ++ [r]) = code rs ++ rowCode r := by simp [code]
theorem code_at {rs : List (Nat × Nat × Nat)} {k : Nat} {r : Nat × Nat × Nat} (h : rs[k]? = some r) (j : Nat) (hj : j < 7) : (code rs)[7 * k + j]? = (rowCode r)[j]? := by
  induction rs generalizing k with
  | nil => simp at h
  | cons a rs ih =>
    have e : code (a :: rs) = rowCode a ++ code rs := rfl
    cases k with
    | zero =>
      simp at h; subst h
      rw [e, List.getElem?_append_left (by rw [rowCode_length]; omega)]; simp
    | succ k =>
      simp at h
      rw [e, List.getElem?_append_right (by rw [rowCode_length]; omega), rowCode_length, ← ih h]
      congr 1; omega

theorem b3_val {p : Nat} (h : p < 16777216) : (UInt8.ofNat p).toNat + 256 * (UInt8.ofNat (p / 256)).toNat + 65536 * (UInt8.ofNat (p / 65536)).toNat = p := by
  simp only [UInt8.toNat_ofNat']; omega

theorem rowCode_inj {r s : Nat × Nat × Nat} (hr : r.1 < 256 ∧ r.2.1 < 16777216 ∧ r.2.2 < 16777216) (hs : s.1 < 256 ∧ s.2.1 < 16777216 ∧ s.2.2 < 16777216) (h : rowCode r = rowCode s) : r = s := by
  obtain ⟨i, l, u⟩ := r
  obtain ⟨j, m, v⟩ := s
  simp only [rowCode, b3, List.cons_append, List.nil_append, List.cons.injEq, and_true] at h
  obtain ⟨h0, h1, h2, h3, h4, h5, h6⟩ := h
  have e1 := b3_val hr.2.1
  have e2 := b3_val hs.2.1
  have e3 := b3_val hr.2.2
  have e4 := b3_val hs.2.2
  have e0 := congrArg UInt8.toNat h0
  simp only [UInt8.toNat_ofNat'] at e0
  simp only at hr hs e1 e2 e3 e4
  rw [h1, h2, h3] at e1
  rw [h4, h5, h6] at e3
  have a1 : i = j := by omega
  have a2 : l = m := by omega
  have a3 : u = v := by omega
  rw [a1, a2, a3]

theorem code_inj : ∀ {rs ss : List (Nat × Nat × Nat)}, (∀ r ∈ rs, r.1 < 256 ∧ r.2.1 < 16777216 ∧ r.2.2 < 16777216) → (∀ r ∈ ss, r.1 < 256 ∧ r.2.1 < 16777216 ∧ r.2.2 < 16777216) → code rs = code ss → rs = ss
  | [], [], _, _, _ => rfl
  | [], s :: ss, _, _, h => by have := congrArg List.length h; rw [code_length, code_length] at this; simp at this
  | r :: rs, [], _, _, h => by have := congrArg List.length h; rw [code_length, code_length] at this; simp at this
  | r :: rs, s :: ss, h1, h2, h => by
    have e : rowCode r ++ code rs = rowCode s ++ code ss := h
    obtain ⟨e1, e2⟩ := List.append_inj e (by rfl)
    rw [rowCode_inj (h1 r (by simp)) (h2 s (by simp)) e1, code_inj (fun x hx => h1 x (List.mem_cons_of_mem _ hx)) (fun x hx => h2 x (List.mem_cons_of_mem _ hx)) e2]

/-- Listings with the same rows are the same. -/
theorem rows_inj : ∀ {R S : List B}, good R → good S → rows R = rows S → R = S
  | [], [], _, _, _ => rfl
  | [], .N _ _ _ :: s, _, hs, h => by simp [rows] at h
  | .N _ _ _ :: r, [], hr, _, h => by simp [rows] at h
  | .N i l u :: r, .N j m v :: s, hr, hs, h => by
    simp only [rows] at h
    obtain ⟨e1, e2⟩ := List.append_inj' h rfl
    obtain rfl := rows_inj hr.2.2.2 hs.2.2.2 e1
    simp at e2
    obtain ⟨rfl, e3, e4⟩ := e2
    rw [place_inj hr.2.1 hs.2.1 e3, place_inj hr.2.2.1 hs.2.2.1 e4]
  | .F :: _, _, h, _, _ => h.elim
  | .T :: _, _, h, _, _ => h.elim
  | [], .F :: _, _, h, _ => h.elim
  | [], .T :: _, _, h, _ => h.elim
  | .N _ _ _ :: _, .F :: _, _, h, _ => h.elim
  | .N _ _ _ :: _, .T :: _, _, h, _ => h.elim

def li (b : B) : List B := vis b []
theorem good_li (b : B) : good (li b) := good_vis b trivial
theorem inn_li (b : B) : inn (li b) b := inn_vis b []

def small (R : List B) : Prop := R.length < 2097152 ∧ ∀ b ∈ R, b.ok 0

theorem rows_small : ∀ {R : List B}, good R → small R → ∀ r ∈ rows R, r.1 < 24 ∧ r.2.1 < 2097154 ∧ r.2.2 < 2097154
  | [], _, _, r, h => by simp [rows] at h
  | .N i l u :: t, hg, hs, r, h => by
    simp only [rows, List.mem_append, List.mem_singleton] at h
    rcases h with h | rfl
    · exact rows_small hg.2.2.2 ⟨by have := hs.1; simp at this; omega, fun b hb => hs.2 b (List.mem_cons_of_mem _ hb)⟩ r h
    · have h1 := place_lt hg.2.1
      have h2 := place_lt hg.2.2.1
      have h3 := hs.1
      have h4 := (hs.2 (.N i l u) (by simp)).2.1
      simp at h3 ⊢; omega
  | .F :: _, h, _, _, _ => h.elim
  | .T :: _, h, _, _, _ => h.elim

theorem small_li {b : B} (hb : b.ok 0) : small (li b) := ⟨few hb, fun x hx => sub_ok hb ((vis_subs b [] x hx).resolve_left (by simp))⟩

theorem small_suffix {R S : List B} (h : R <:+ S) (hs : small S) : small R := ⟨Nat.lt_of_le_of_lt h.length_le hs.1, fun b hb => hs.2 b (h.subset hb)⟩

/-- A set is what its place and its bytes say. -/
theorem enc_inj {a b : B} (ha : a.ok 0) (hb : b.ok 0) (h1 : place (li a) a = place (li b) b) (h2 : code (rows (li a)) = code (rows (li b))) : a = b := by
  have h3 := code_inj (fun r hr => by have := rows_small (good_li a) (small_li ha) r hr; omega) (fun r hr => by have := rows_small (good_li b) (small_li hb) r hr; omega) h2
  have h4 := rows_inj (good_li a) (good_li b) h3
  rw [← h4] at h1
  exact place_inj (inn_li a) (h4 ▸ inn_li b) h1

end Go.Proofs.Ytaojojjdfdlgpaa.Dg.Bd

namespace Go.Proofs.Ytaojojjdfdlgpaa.Dg
open Go.Maps (Keyed)
open Go.ChangeMaps Go.MapKept

/-- Block b of w is a map of n entries; what stands at the key of a is 'm a'. -/
def IsMap {α : Type} (P : Program) (k : TypeId) (enc : α → Value) (w : World) (b n : Nat) (m : α → Option Value) : Prop :=
  ∃ es clock, w.heap[b]? = some (.map es clock) ∧ es.size = n ∧ (∀ e ∈ es.toList, ∃ l, keyOf P k e.key = some l) ∧
    (∀ e ∈ es.toList, ∃ a, e.key = enc a ∧ m a = some e.val) ∧ ∀ a v, m a = some v → ∃ e ∈ es.toList, e.key = enc a ∧ e.val = v

section
variable {α : Type} {P : Program} {k t e : TypeId} {enc : α → Value} {w : World} {b n : Nat} {m : α → Option Value}

theorem IsMap.made (w : World) (P : Program) (k : TypeId) (enc : α → Value) : IsMap P k enc (w.alloc (.map #[] 0)) w.heap.size 0 (fun _ => none) :=
  ⟨#[], 0, (MapKept.heap_alloc w _).1, rfl, by simp, by simp, by simp⟩

theorem IsMap.lt (h : IsMap P k enc w b n m) : b < w.heap.size := by
  obtain ⟨es, clock, hb, _⟩ := h
  exact (Array.getElem?_eq_some_iff.1 hb).1

theorem IsMap.kept {w' : World} {row : Option Nat} (h : IsMap P k enc w b n m) (hg : w.grownBy w' row) (hne : some b ≠ row) : IsMap P k enc w' b n m := by
  have hlt := h.lt
  obtain ⟨es, clock, hb, r⟩ := h
  exact ⟨es, clock, (hg.block b hlt hne).trans hb, r⟩

theorem IsMap.same {w' : World} (h : IsMap P k enc w b n m) (hg : w'.heap[b]? = w.heap[b]?) : IsMap P k enc w' b n m := by
  obtain ⟨es, clock, hb, r⟩ := h
  exact ⟨es, clock, hg.trans hb, r⟩

theorem IsMap.lookup_no (h : IsMap P k enc w b n m) (K : Keyed P k) (henc : ∀ a b, enc a = enc b → a = b) (ht : P.underlying t = some (.map k e)) {z : Value} (hz : (zeroValue e).run P w = .ok z w)
    {a : α} {kl : Lit} (hkey : keyOf P k (enc a) = some kl) (hm : m a = none) : (Instr.lookup t (.map (some b)) (enc a) true).run P w = .ok (.tuple #[z, .bool false]) w := by
  obtain ⟨es, clock, hb, _, hks, h1, h2⟩ := h
  rcases K.find w hkey es.toList hks with ⟨hf, hn⟩ | ⟨j, e0, hf, hj, he⟩
  · simp [Instr.lookup, run_underlying ht, MapKept.run_getObj_map hb, K.check w _ hkey, hf, hz, Result.andThen]
  · obtain ⟨a', e1, e2⟩ := h1 e0 (List.mem_of_getElem? hj)
    rw [he] at e1
    rw [henc _ _ e1, e2] at hm
    cases hm

theorem IsMap.lookup_yes (h : IsMap P k enc w b n m) (K : Keyed P k) (henc : ∀ a b, enc a = enc b → a = b) (ht : P.underlying t = some (.map k e))
    {a : α} {v : Value} {kl : Lit} (hkey : keyOf P k (enc a) = some kl) (hm : m a = some v) : (Instr.lookup t (.map (some b)) (enc a) true).run P w = .ok (.tuple #[v, .bool true]) w := by
  obtain ⟨es, clock, hb, _, hks, h1, h2⟩ := h
  rcases K.find w hkey es.toList hks with ⟨hf, hn⟩ | ⟨j, e0, hf, hj, he⟩
  · obtain ⟨e0, h3, h4, _⟩ := h2 a v hm
    exact absurd h4 (hn e0 h3)
  · obtain ⟨a', e1, e2⟩ := h1 e0 (List.mem_of_getElem? hj)
    rw [he] at e1
    rw [← henc _ _ e1, hm] at e2
    cases e2
    simp [Instr.lookup, run_underlying ht, MapKept.run_getObj_map hb, K.check w _ hkey, hf, Result.andThen]

open Classical in
noncomputable def putAt (m : α → Option Value) (a : α) (v : Value) : α → Option Value := fun x => if x = a then some v else m x

theorem IsMap.update_new (h : IsMap P k enc w b n m) (K : Keyed P k) (henc : ∀ a b, enc a = enc b → a = b) (ht : P.underlying t = some (.map k e))
    {a : α} {kl : Lit} (hkey : keyOf P k (enc a) = some kl) (hm : m a = none) (v : Value) :
    ∃ w', (Instr.mapUpdate t (.map (some b)) (enc a) v).run P w = .ok () w' ∧ IsMap P k enc w' b (n + 1) (putAt m a v) ∧ w.grownBy w' (some b) := by
  obtain ⟨es, clock, hb, hs, hks, h1, h2⟩ := h
  have hf : (Instr.findKey k (enc a) es.toList).run P w = .ok none w := by
    rcases K.find w hkey es.toList hks with ⟨hf, hn⟩ | ⟨j, e0, hf, hj, he⟩
    · exact hf
    · obtain ⟨a', e1, e2⟩ := h1 e0 (List.mem_of_getElem? hj)
      rw [he] at e1
      rw [henc _ _ e1, e2] at hm
      cases hm
  refine ⟨_, by simp only [Instr.mapUpdate]; simp [run_underlying ht, MapKept.run_getObj_map hb, K.check w _ hkey, hf, MapKept.run_setObj_map _ hb, Result.andThen]; rfl, ⟨es.push ⟨enc a, v, clock⟩, clock + 1, heap_setBlock_same hb _, by simp; omega, ?_, ?_, ?_⟩, ⟨rfl, rfl, rfl, by simp [setBlock], fun i _ hi => heap_setBlock_other hb _ (fun e => hi (by rw [e]))⟩⟩
  · intro x hx
    simp at hx
    rcases hx with hx | rfl
    · exact hks x (by simpa using hx)
    · exact ⟨kl, hkey⟩
  · intro x hx
    simp at hx
    rcases hx with hx | rfl
    · obtain ⟨a', e1, e2⟩ := h1 x (by simpa using hx)
      refine ⟨a', e1, ?_⟩
      unfold putAt
      rw [if_neg]
      · exact e2
      · rintro rfl; rw [e2] at hm; cases hm
    · exact ⟨a, rfl, by simp [putAt]⟩
  · intro x u hx
    unfold putAt at hx
    split at hx
    · rename_i e; subst e; cases hx
      exact ⟨⟨enc x, v, clock⟩, by simp, rfl, rfl⟩
    · obtain ⟨e0, h3, h4⟩ := h2 x u hx
      exact ⟨e0, by simp at h3 ⊢; exact .inl h3, h4⟩

theorem IsMap.len (h : IsMap P k enc w b n m) (ht : P.underlying t = some (.map k e)) (_hn : n < 4611686018427387904) (ty : TypeId) : (Builtin.len_ #[t] ty #[.map (some b)]).run P w = .ok (.int .i64 (n : Int)) w := by
  obtain ⟨es, clock, hb, hs, _⟩ := h
  have e1 : goInt es.size = .int .i64 (n : Int) := by rw [hs]; rfl
  simp [Builtin.len_, run_underlying ht, MapKept.run_getObj_map hb, Result.andThen, e1]

end

section
variable {α : Type} {P : Program} {k t e : TypeId} {enc : α → Value} {w : World} {b n : Nat} {m : α → Option Value}
/-- 'm[k] = v', k new, at the operation. -/
theorem wpList_mapUpdate_new {ops : Array Oper} {rest : List Oper} {o : Oper} {a : Act} {Q : Exit → Act → World → Prop} (hg : o.guard = none) (mm x v : Operand) (hop : o.op = Op.mapUpdate t mm x v)
    (K : Keyed P k) (henc : ∀ a b, enc a = enc b → a = b) (ht : P.underlying t = some (.map k e)) (hm : a.eval mm = .map (some b)) (hown : IsMap P k enc w b n m) (key : α) {kl : Lit} (val : Value) (hx : a.eval x = enc key) (hv : a.eval v = val)
    (hkey : keyOf P k (enc key) = some kl) (hnew : m key = none)
    (hK : ∀ w', IsMap P k enc w' b (n + 1) (putAt m key val) → w.grownBy w' (some b) → wpList P ops Q rest (a.put o.dst undef) w') :
    wpList P ops Q (o :: rest) a w := by
  refine wpList_plain hg fun K' hK' => ?_
  obtain ⟨w', hrun, r1, r2⟩ := hown.update_new K henc ht hkey hnew val
  unfold Oper.wp
  simp [execOp, hop, hm, hx, hv, hrun, Result.andThen]
  exact hK' _ _ (hK w' r1 r2)
end
end Go.Proofs.Ytaojojjdfdlgpaa.Dg
namespace Go.Proofs.Ytaojojjdfdlgpaa.Dg
open Go.RowKit

/-- w' is w with new blocks, draws, and writes to blocks of S alone. -/
structure Fr (S : Nat → Prop) (w w' : World) : Prop where
  os : w'.os = w.os
  tape : w'.tape = w.tape
  output : w'.output = w.output
  size : w.heap.size ≤ w'.heap.size
  block : ∀ k, k < w.heap.size → ¬ S k → w'.heap[k]? = w.heap[k]?

def nob : Nat → Prop := fun _ => False

theorem Fr.refl (S : Nat → Prop) (w : World) : Fr S w w := ⟨rfl, rfl, rfl, Nat.le_refl _, fun _ _ _ => rfl⟩

theorem Fr.trans' {S S' T : Nat → Prop} {a b c : World} (h : Fr S a b) (k : Fr S' b c) (h1 : ∀ i, i < a.heap.size → S i → T i) (h2 : ∀ i, i < a.heap.size → S' i → T i) : Fr T a c :=
  ⟨k.os.trans h.os, k.tape.trans h.tape, k.output.trans h.output, Nat.le_trans h.size k.size,
    fun i hi hT => (k.block i (Nat.lt_of_lt_of_le hi h.size) (fun e => hT (h2 i hi e))).trans (h.block i hi (fun e => hT (h1 i hi e)))⟩

theorem Fr.trans {S S' : Nat → Prop} {a b c : World} (h : Fr S a b) (k : Fr S' b c) (h2 : ∀ i, i < a.heap.size → S' i → S i) : Fr S a c := h.trans' k (fun _ _ e => e) h2

theorem Fr.mono {S T : Nat → Prop} {a b : World} (h : Fr S a b) (h1 : ∀ i, i < a.heap.size → S i → T i) : Fr T a b :=
  ⟨h.os, h.tape, h.output, h.size, fun i hi hT => h.block i hi (fun e => hT (h1 i hi e))⟩

theorem Fr.alloc {S : Nat → Prop} {a w : World} (h : Fr S a w) (o : Obj) : Fr S a (w.alloc o) :=
  ⟨h.os, h.tape, h.output, Nat.le_trans h.size (by simp), fun k hk hS => (Below.heap_alloc w o k (Nat.lt_of_lt_of_le hk h.size)).trans (h.block k hk hS)⟩

theorem Fr.drew {S : Nat → Prop} {a w : World} (h : Fr S a w) : Fr S a w.drew := ⟨h.os, h.tape, h.output, h.size, h.block⟩

theorem Fr.drewN {S : Nat → Prop} {a w : World} (h : Fr S a w) (n : Nat) : Fr S a (w.drewN n) := ⟨h.os, h.tape, h.output, h.size, h.block⟩

theorem Fr.setCell {S : Nat → Prop} {a w : World} (h : Fr S a w) {p : Addr} (hp : p.block < a.heap.size → S p.block) (u : Value) : Fr S a (w.setCell p u) :=
  ⟨h.os, h.tape, h.output, Nat.le_trans h.size (by simp [World.setCell]), fun k hk hS =>
    (Below.heap_setCell w p u k (fun e => hS (e ▸ hp (e ▸ hk)))).trans (h.block k hk hS)⟩

theorem Fr.grown {S : Nat → Prop} {a w w' : World} {row : Option Nat} (h : Fr S a w) (hg : w.grownBy w' row) (hr : ∀ k, row = some k → k < a.heap.size → S k) : Fr S a w' :=
  ⟨hg.os.trans h.os, hg.tape.trans h.tape, hg.output.trans h.output, Nat.le_trans h.size hg.size, fun k hk hS =>
    (hg.block k (Nat.lt_of_lt_of_le hk h.size) (fun e => hS (hr k e.symm hk))).trans (h.block k hk hS)⟩

theorem Fr.below {S : Nat → Prop} {a w w' : World} (h : Fr S a w) (hb : Below w.heap.size w w') : Fr S a w' :=
  ⟨hb.os.trans h.os, hb.tape.trans h.tape, hb.output.trans h.output, Nat.le_trans h.size hb.size, fun k hk hS =>
    (hb.block k (Nat.lt_of_lt_of_le hk h.size)).trans (h.block k hk hS)⟩

theorem Fr.to_below {S : Nat → Prop} {w w' : World} (h : Fr S w w') {B : Nat} (hB : B ≤ w.heap.size) (hS : ∀ k, S k → B ≤ k) : Below B w w' :=
  ⟨h.os, h.tape, h.output, h.size, fun k hk => h.block k (by omega) (fun e => by have := hS k e; omega)⟩

theorem Fr.cell {S : Nat → Prop} {w w' : World} (h : Fr S w w') {p : Addr} {v : Value} (hc : w.cell? p = some v) (hS : ¬ S p.block) : w'.cell? p = some v :=
  (World.cell?_of_block (h.block p.block (World.block_lt_of_cell? w p hc) hS)).trans hc

theorem Fr.frozen {S : Nat → Prop} {w w' : World} (h : Fr S w w') {p : Addr} (hlt : p.block < w.heap.size) (hS : ¬ S p.block) : w'.frozen? p = w.frozen? p :=
  World.frozen?_of_block (h.block p.block hlt hS)

theorem Fr.row {S : Nat → Prop} {w w' : World} (h : Fr S w w') {base : Nat} {e : TypeId} {size : Nat} {v : Value} {n : Nat} {xs : List Value} (hr : w.ownsRow base e size v n xs) (hS : ∀ g, v.ownBlock = some g → ¬ S g) : w'.ownsRow base e size v n xs := by
  refine ⟨hr.1, ?_⟩
  rcases hr.2 with hn | ⟨g, cap, cur, rfl, hb, hgg, rest⟩
  · exact .inl hn
  · exact .inr ⟨g, cap, cur, rfl, hb, (h.block g (Array.getElem?_eq_some_iff.1 hgg).1 (hS g rfl)).trans hgg, rest⟩

theorem Fr.map {S : Nat → Prop} {w w' : World} (h : Fr S w w') {α : Type} {P : Program} {k : TypeId} {enc : α → Value} {b n : Nat} {m : α → Option Value} (hm : IsMap P k enc w b n m) (hS : ¬ S b) : IsMap P k enc w' b n m :=
  hm.same (h.block b hm.lt hS)

theorem cell_alloc_l {W : World} {a : Addr} {v : Value} (h : W.cell? a = some v) (o : Obj) : (W.alloc o).cell? a = some v := ((Fr.refl nob W).alloc o).cell h (fun h => h)

theorem fr_store (w : World) (b o : Nat) (v : Value) : Fr (fun k => k = b) w (w.setCell ⟨b, o, none⟩ v) := (Fr.refl (fun k => k = b) w).setCell (p := ⟨b, o, none⟩) (fun _ => rfl) v

theorem Fr.set1 {S : Nat → Prop} {a w : World} (h : Fr S a w) {b o : Nat} (hb : a.heap.size ≤ b) (u : Value) : Fr S a (w.setCell ⟨b, o, none⟩ u) := h.setCell (p := ⟨b, o, none⟩) (fun h' => absurd h' (Nat.not_lt.2 hb)) u

def set3 (w : World) (g : Nat) (a b c : Value) : World := ((w.setCell ⟨g, 0, none⟩ a).setCell ⟨g, 1, none⟩ b).setCell ⟨g, 2, none⟩ c

theorem set3_facts {w : World} {g : Nat} {a b c va vb vc : Value} (h0 : w.cell? ⟨g, 0, none⟩ = some va) (h1 : w.cell? ⟨g, 1, none⟩ = some vb) (h2 : w.cell? ⟨g, 2, none⟩ = some vc) :
    (set3 w g a b c).cell? ⟨g, 0, none⟩ = some a ∧ (set3 w g a b c).cell? ⟨g, 1, none⟩ = some b ∧ (set3 w g a b c).cell? ⟨g, 2, none⟩ = some c ∧ Fr (fun k => k = g) w (set3 w g a b c) ∧ ∀ p, (set3 w g a b c).frozen? p = w.frozen? p := by
  unfold set3
  have e1 : (w.setCell ⟨g, 0, none⟩ a).cell? ⟨g, 1, none⟩ = some vb := by rw [World.cell?_setCell_other _ _ _ _ (by simp)]; exact h1
  have e2 : ((w.setCell ⟨g, 0, none⟩ a).setCell ⟨g, 1, none⟩ b).cell? ⟨g, 2, none⟩ = some vc := by rw [World.cell?_setCell_other _ _ _ _ (by simp), World.cell?_setCell_other _ _ _ _ (by simp)]; exact h2
  refine ⟨?_, ?_, World.cell?_setCell_same' _ _ _ (by rw [e2]; rfl), ((fr_store w g 0 a).trans (fr_store _ g 1 b) (fun _ _ h => h)).trans (fr_store _ g 2 c) (fun _ _ h => h), fun p => by rw [World.frozen?_setCell, World.frozen?_setCell, World.frozen?_setCell]⟩
  · rw [World.cell?_setCell_other _ _ _ _ (by simp), World.cell?_setCell_other _ _ _ _ (by simp)]
    exact World.cell?_setCell_same' _ _ _ (by rw [h0]; rfl)
  · rw [World.cell?_setCell_other _ _ _ _ (by simp)]
    exact World.cell?_setCell_same' _ _ _ (by rw [e1]; rfl)

/-- the cells of a block that is known whole -/
theorem block3 {w : World} {g : Nat} {a b c : Value} {T : TypeId} (h : w.heap[g]? = some (.cells #[a, b, c] T)) :
    w.cell? ⟨g, 0, none⟩ = some a ∧ w.cell? ⟨g, 1, none⟩ = some b ∧ w.cell? ⟨g, 2, none⟩ = some c ∧ ∀ o, w.frozen? ⟨g, o, none⟩ = false := by
  refine ⟨?_, ?_, ?_, fun o => ?_⟩ <;> simp [World.cell?, World.frozen?, h]

theorem undrew {w w' : World} {r : Option Nat} (h : w.drew.grownBy w' r) : w.grownBy w' r := ⟨h.os, h.tape, h.output, h.size, h.block⟩

theorem lt_of_cell {w : World} {p : Addr} {v : Value} (h : w.cell? p = some v) : p.block < w.heap.size := World.block_lt_of_cell? w p h

end Go.Proofs.Ytaojojjdfdlgpaa.Dg
namespace Go.Proofs.Ytaojojjdfdlgpaa.Dg
open Go.RowKit

/-- the cells of bytes -/
def bs (l : List UInt8) : List Value := l.map fun x => .int .u8 (x.toNat : Int)
theorem bs_append (l m : List UInt8) : bs (l ++ m) = bs l ++ bs m := by simp [bs]
theorem bs_b3 {p : Nat} (hp : p < 16777216) : bs (Bd.b3 p) = [.int .u8 ((p : Int) % 256), .int .u8 ((p : Int) / 256 % 256), .int .u8 ((p : Int) / 65536)] := by
  have h1 : ((UInt8.ofNat p).toNat : Int) = (p : Int) % 256 := by simp [UInt8.toNat_ofNat']
  have h2 : ((UInt8.ofNat (p / 256)).toNat : Int) = (p : Int) / 256 % 256 := by simp [UInt8.toNat_ofNat']
  have h3 : ((UInt8.ofNat (p / 65536)).toNat : Int) = (p : Int) / 65536 := by simp only [UInt8.toNat_ofNat']; omega
  simp only [bs, Bd.b3, List.map_cons, List.map_nil, h1, h2, h3]

theorem info_u8 : (Try.prog.info? 5).map (fun i => (i.zero, i.size, i.bytes)) = some (some (.int .u8 0), 1, 1) := by kernel_rfl

set_option maxRecDepth 100000 in
set_option maxHeartbeats 400000 in
theorem appendPlace_any (n : Nat) (v : Value) (l : List UInt8) (p : Nat) (w : World) (hp : p < 16777216) (hown : w.ownsRow 0 5 1 v n (bs l)) (hn : n < 33554432) :
    Calls Try.prog 118 #[v, .int .u32 (p : Int)] w fun e w' =>
      ∃ g cap, e = .returned (.slice (some ⟨g, 0, none⟩) (n + 3) cap) ∧ w'.ownsRow 0 5 1 (.slice (some ⟨g, 0, none⟩) (n + 3) cap) (n + 3) (bs (l ++ Bd.b3 p)) ∧ w.grownBy w' v.ownBlock ∧ (v.ownBlock = some g ∨ w.heap.size ≤ g) := by
  obtain ⟨i0, hi, hz0, hz1, hz2⟩ := info_parts info_u8
  have hq := bs_b3 hp
  have HQ : Hid (bs (l ++ Bd.b3 p) = bs l ++ [.int .u8 ((p : Int) % 256), .int .u8 ((p : Int) / 256 % 256), .int .u8 ((p : Int) / 65536)]) := Lib.hid (by rw [bs_append, hq])
  clear hq
  go_enter Try.func118, Try.ntmps118
  go_wp2_with (at_builtin; refine wpList_append_lies _ rfl _ _ 134 rfl 0 5 i0 (.int .u8 0) 1 1 Try.underlying134 hi hz0 hz1 hz2 rfl (by decide) _ _ _ rfl (hown.alloc _) ⟨w.heap.size, 0, none⟩ 3 3 [.int .u8 ((p : Int) % 256), .int .u8 ((p : Int) / 256 % 256), .int .u8 ((p : Int) / 65536)] rfl rfl ?c1 ?c2 (by decide) ?c3 ?c4 (Nat.zero_le _) (w.heap.size + 1) (by simp) ?_)
  case c1 =>
    intro j u h
    match j, h with
    | 0, h => simp at h; subst h; simp [Addr.add]
    | 1, h => simp at h; subst h; simp [Addr.add]
    | 2, h => simp at h; subst h; simp [Addr.add]
  case c2 => simp [Value.oneCell']
  case c3 => unfold maxLen; omega
  case c4 => omega
  intro g cap w1 hown' hgrow hat _
  go_wp2
  go_ret
  exact ⟨g, cap, rfl, HQ.out ▸ hown', ⟨hgrow.os, hgrow.tape, hgrow.output, Nat.le_trans (by simp) hgrow.size, fun k hk hne => (hgrow.block k (by simp; omega) hne).trans (Below.heap_alloc w _ k hk)⟩, hat.imp id (by omega)⟩
end Go.Proofs.Ytaojojjdfdlgpaa.Dg

namespace Go.Proofs.Ytaojojjdfdlgpaa.Dg
open Go.RowKit

/-- the key of a node -/
def nk (r : Nat × Nat × Nat) : Value := .agg #[.int .u8 (r.1 : Int), .int .u32 (r.2.1 : Int), .int .u32 (r.2.2 : Int)]
theorem nk_inj (a b : Nat × Nat × Nat) (h : nk a = nk b) : a = b := by
  obtain ⟨a1, a2, a3⟩ := a
  obtain ⟨b1, b2, b3⟩ := b
  simp only [nk, Value.agg.injEq, Array.mk.injEq, List.cons.injEq, Value.int.injEq, true_and, and_true] at h
  obtain ⟨h1, h2, h3⟩ := h
  have e1 : a1 = b1 := by omega
  have e2 : a2 = b2 := by omega
  have e3 : a3 = b3 := by omega
  rw [e1, e2, e3]

theorem laidOut : laidOutB Try.prog = true := by kernel_rfl
theorem nkKeyed : Maps.Keyed Try.prog 124 := Maps.Keyed.of_law (deep_law_laid (m := 5) laidOut (by decide) (of_decide_eq_true (by kernel_rfl)) (by kernel_rfl) (by kernel_rfl))

theorem types_pos : ∃ k, Try.prog.types.size = k + 1 := by
  have h : 1 ≤ Try.prog.types.size := of_decide_eq_true (by kernel_rfl)
  exact ⟨_, (Nat.sub_add_cancel h).symm⟩

theorem wf_u8 {n : Nat} (h : n < 256) : (Lit.int .u8 (n : Int)).wf = true := by
  have h1 : IntKind.u8.min = 0 := rfl
  have h2 : IntKind.u8.max = 255 := rfl
  simp only [Lit.wf, Bool.and_eq_true, decide_eq_true_eq]; omega
theorem wf_u32 {n : Nat} (h : n < 4294967296) : (Lit.int .u32 (n : Int)).wf = true := by
  have h1 : IntKind.u32.min = 0 := rfl
  have h2 : IntKind.u32.max = 4294967295 := rfl
  simp only [Lit.wf, Bool.and_eq_true, decide_eq_true_eq]; omega

theorem cells_node : Try.prog.cellsOf 124 = 3 := by kernel_rfl
theorem cells_u8 : Try.prog.cellsOf 5 = 1 := by kernel_rfl
theorem cells_u32 : Try.prog.cellsOf 49 = 1 := by kernel_rfl
theorem key_node : Try.prog.keyType 124 = true := by kernel_rfl

theorem nkKey {r : Nat × Nat × Nat} (h1 : r.1 < 256) (h2 : r.2.1 < 4294967296) (h3 : r.2.2 < 4294967296) : ∃ l, keyOf Try.prog 124 (nk r) = some l := by
  have e1 := wf_u8 h1
  have e2 := wf_u32 h2
  have e3 := wf_u32 h3
  rw [← Option.isSome_iff_exists]
  obtain ⟨k, hk⟩ := types_pos
  unfold keyOf
  rw [Try.underlying124]
  simp only [key_node, nk, Value.formed, Try.underlying124, cells_node, Value.cells, hk]
  simp only [Program.keyLits, Try.underlying124, cells_node]
  simp [e1, e2, e3, cells_u8, cells_u32]

/-- The work: its code, what it has found; the nodes that it has listed. -/
structure Wk (w : World) (wb mb : Nat) (v : Value) (rs : List (Nat × Nat × Nat)) (m : (Nat × Nat × Nat) → Option Value) : Prop where
  code : w.cell? ⟨wb, 0, none⟩ = some v
  found : w.cell? ⟨wb, 1, none⟩ = some (.map (some mb))
  open_ : w.frozen? ⟨wb, 0, none⟩ = false
  row : w.ownsRow 0 5 1 v (7 * rs.length) (bs (Bd.code rs))
  map : IsMap Try.prog 124 nk w mb rs.length m
  ne : wb ≠ mb
  apart : ∀ g, v.ownBlock = some g → g ≠ wb ∧ g ≠ mb

def foot (wb mb : Nat) (v : Value) (k : Nat) : Prop := k = wb ∨ k = mb ∨ v.ownBlock = some k

set_option maxRecDepth 100000 in
set_option maxHeartbeats 400000 in
theorem node_same (wb i p : Nat) (w : World) :
    Calls Try.prog 95 #[.pointer (some ⟨wb, 0, none⟩), .int .i64 (i : Int), .int .u32 (p : Int), .int .u32 (p : Int)] w fun e w' => e = .returned (.int .u32 (p : Int)) ∧ w = w' := by
  go_enter Try.func95, Try.ntmps95
  go_wp2
  go_ret
  exact ⟨rfl, rfl⟩

set_option maxRecDepth 100000 in
set_option maxHeartbeats 400000 in
theorem node_found (wb mb i pl ph p : Nat) (v : Value) (rs : List (Nat × Nat × Nat)) (m : (Nat × Nat × Nat) → Option Value) (w : World) (hW : Wk w wb mb v rs m) (hi : i < 24) (hl : pl < 16777216) (hh : ph < 16777216) (hne : pl ≠ ph)
    (hm : m (i, pl, ph) = some (.int .u32 (p : Int))) :
    Calls Try.prog 95 #[.pointer (some ⟨wb, 0, none⟩), .int .i64 (i : Int), .int .u32 (pl : Int), .int .u32 (ph : Int)] w fun e w' => e = .returned (.int .u32 (p : Int)) ∧ Below w.heap.size w w' := by
  have hne' : ((pl : Int) == (ph : Int)) = false := by simp; omega
  have hlt := lt_of_cell hW.found
  have hf := hW.found
  have hlook : ∀ d, (Instr.lookup 178 (.map (some mb)) (.agg #[.int .u8 (i : Int), .int .u32 (pl : Int), .int .u32 (ph : Int)]) true).run Try.prog (((w.alloc (.cells #[.int .u8 (i : Int), .int .u32 (pl : Int), .int .u32 (ph : Int)] 124))).drewN d) = .ok (.tuple #[.int .u32 (p : Int), .bool true]) (((w.alloc (.cells #[.int .u8 (i : Int), .int .u32 (pl : Int), .int .u32 (ph : Int)] 124))).drewN d) := fun d => by
    obtain ⟨l, hkey⟩ := nkKey (r := (i, pl, ph)) (by simp; omega) (by simp; omega) (by simp; omega)
    exact ((((Fr.refl nob w).alloc _).drewN d).map hW.map (fun h => h)).lookup_yes nkKeyed nk_inj Try.underlying178 hkey hm
  go_enter Try.func95, Try.ntmps95
  go_wp2
  go_quiet (fail)
  go_wp2
  go_ret
  exact ⟨rfl, (((Fr.refl nob w).alloc _).drewN _).to_below (Nat.le_refl _) (fun _ h => h.elim)⟩

/-- The work between two steps of 'node', and what lies before it. -/
structure Mid (w0 : World) (wb mb : Nat) (v0 : Value) (W : World) (g k cap : Nat) (l : List UInt8) (N : Nat) (m : (Nat × Nat × Nat) → Option Value) : Prop where
  code : W.cell? ⟨wb, 0, none⟩ = some (.slice (some ⟨g, 0, none⟩) k cap)
  found : W.cell? ⟨wb, 1, none⟩ = some (.map (some mb))
  open_ : W.frozen? ⟨wb, 0, none⟩ = false
  row : W.ownsRow 0 5 1 (.slice (some ⟨g, 0, none⟩) k cap) k (bs l)
  map : IsMap Try.prog 124 nk W mb N m
  ng : g ≠ wb
  ngm : g ≠ mb
  fr : Fr (foot wb mb v0) w0 W
  src : v0.ownBlock = some g ∨ w0.heap.size ≤ g

theorem Mid.store {w0 W : World} {wb mb : Nat} {v0 u : Value} {g k cap N : Nat} {l : List UInt8} {m : (Nat × Nat × Nat) → Option Value} (hc : W.cell? ⟨wb, 0, none⟩ = some u) (hf : W.cell? ⟨wb, 1, none⟩ = some (.map (some mb)))
    (ho : W.frozen? ⟨wb, 0, none⟩ = false) (hr : W.ownsRow 0 5 1 (.slice (some ⟨g, 0, none⟩) k cap) k (bs l)) (hm : IsMap Try.prog 124 nk W mb N m) (ng : g ≠ wb) (ngm : g ≠ mb) (ne : wb ≠ mb)
    (fr : Fr (foot wb mb v0) w0 W) (src : v0.ownBlock = some g ∨ w0.heap.size ≤ g) :
    Mid w0 wb mb v0 (W.setCell ⟨wb, 0, none⟩ (.slice (some ⟨g, 0, none⟩) k cap)) g k cap l N m := by
  have frS := fr_store W wb 0 (.slice (some ⟨g, 0, none⟩) k cap)
  refine ⟨World.cell?_setCell_same' _ _ _ (by rw [hc]; rfl), ?_, ?_, frS.row hr (fun g' h => by cases h; exact ng), frS.map hm (fun h => ne h.symm), ng, ngm, fr.trans frS (fun k _ h => .inl h), src⟩
  · rw [World.cell?_setCell_other _ _ _ _ (by simp)]; exact hf
  · rw [World.frozen?_setCell]; exact ho

theorem Mid.step {w0 W W5 : World} {wb mb : Nat} {v0 : Value} {g k cap g5 k5 cap5 N : Nat} {l l5 : List UInt8} {m : (Nat × Nat × Nat) → Option Value} (M : Mid w0 wb mb v0 W g k cap l N m) (ne : wb ≠ mb)
    (hr : W5.ownsRow 0 5 1 (.slice (some ⟨g5, 0, none⟩) k5 cap5) k5 (bs l5)) (gr : W.grownBy W5 (some g)) (at5 : some g = some g5 ∨ W.heap.size ≤ g5) :
    W5.cell? ⟨wb, 0, none⟩ = some (.slice (some ⟨g, 0, none⟩) k cap) ∧ W5.frozen? ⟨wb, 0, none⟩ = false ∧ Mid w0 wb mb v0 (W5.setCell ⟨wb, 0, none⟩ (.slice (some ⟨g5, 0, none⟩) k5 cap5)) g5 k5 cap5 l5 N m := by
  have hwb := lt_of_cell M.code
  have c5 := gr.cell M.code (by simp; exact fun h => M.ng h.symm)
  have c6 := gr.cell M.found (by simp; exact fun h => M.ng h.symm)
  have f5 : W5.frozen? ⟨wb, 0, none⟩ = false := (World.frozen?_of_block (gr.block wb hwb (by simp; exact fun h => M.ng h.symm))).trans M.open_
  have hmb := M.map.lt
  refine ⟨c5, f5, Mid.store c5 c6 f5 hr (M.map.kept gr (by simp; exact fun h => M.ngm h.symm)) ?_ ?_ ne ?_ ?_⟩
  · rcases at5 with h | h
    · cases h; exact M.ng
    · intro e
      have e' : g5 = wb := e
      have h3 : wb < W.heap.size := hwb
      omega
  · rcases at5 with h | h
    · cases h; exact M.ngm
    · intro e
      have e' : g5 = mb := e
      omega
  · refine M.fr.grown gr (fun k hk hlt => ?_)
    cases hk
    rcases M.src with h | h
    · exact .inr (.inr h)
    · omega
  · rcases at5 with h | h
    · cases h; exact M.src
    · exact .inr (Nat.le_trans M.fr.size h)

theorem Mid.done {w0 W : World} {wb mb : Nat} {v0 : Value} {g cap i pl ph n : Nat} {rs : List (Nat × Nat × Nat)} {m : (Nat × Nat × Nat) → Option Value}
    (M : Mid w0 wb mb v0 W g (7 * n + 1 + 3 + 3) cap (Bd.code rs ++ [UInt8.ofNat i] ++ Bd.b3 pl ++ Bd.b3 ph) (n + 1) m) (ne : wb ≠ mb) (hn : rs.length = n) :
    Wk W wb mb (.slice (some ⟨g, 0, none⟩) (7 * n + 1 + 3 + 3) cap) (rs ++ [(i, pl, ph)]) m := by
  have e1 : 7 * (rs ++ [(i, pl, ph)]).length = 7 * n + 1 + 3 + 3 := by simp [hn]; omega
  have e2 : Bd.code (rs ++ [(i, pl, ph)]) = Bd.code rs ++ [UInt8.ofNat i] ++ Bd.b3 pl ++ Bd.b3 ph := by rw [Bd.code_snoc]; simp [Bd.rowCode]
  have e3 : (rs ++ [(i, pl, ph)]).length = n + 1 := by simp [hn]
  exact ⟨M.code, M.found, M.open_, by rw [e1, e2]; exact M.row, by rw [e3]; exact M.map, ne, fun g' h => by cases h; exact ⟨M.ng, M.ngm⟩⟩

set_option maxRecDepth 100000 in
set_option maxHeartbeats 1000000 in
theorem node_new (wb mb i pl ph n : Nat) (v : Value) (rs : List (Nat × Nat × Nat)) (m : (Nat × Nat × Nat) → Option Value) (w : World) (hW : Wk w wb mb v rs m) (hi : i < 24) (hl : pl < 16777216) (hh : ph < 16777216) (hne : pl ≠ ph)
    (hm : m (i, pl, ph) = none) (hn : rs.length = n) (hn2 : n < 4194304) :
    Calls Try.prog 95 #[.pointer (some ⟨wb, 0, none⟩), .int .i64 (i : Int), .int .u32 (pl : Int), .int .u32 (ph : Int)] w fun e w' => ∃ v', e = .returned (.int .u32 ((n + 2 : Nat) : Int)) ∧
      Wk w' wb mb v' (rs ++ [(i, pl, ph)]) (putAt m (i, pl, ph) (.int .u32 ((n + 2 : Nat) : Int))) ∧ Fr (foot wb mb v) w w' ∧ ∀ g, v'.ownBlock = some g → v.ownBlock = some g ∨ w.heap.size ≤ g := by
  obtain ⟨i0, hi0, hz0, hz1, hz2⟩ := info_parts info_u8
  have hrow : w.ownsRow 0 5 1 v (7 * n) (bs (Bd.code rs)) := hn ▸ hW.row
  have hne' : ((pl : Int) == (ph : Int)) = false := by simp; omega
  have hlt := lt_of_cell hW.found
  have hf := hW.found
  have hc := hW.code
  obtain ⟨l, hkey⟩ := nkKey (r := (i, pl, ph)) (by simp; omega) (by simp; omega) (by simp; omega)
  have zero : ∀ w, (zeroValue 49).run Try.prog w = .ok (.int .u32 0) w := fun _ => by kernel_rfl
  have hmap := fun d => (((Fr.refl nob w).alloc (.cells #[.int .u8 (i : Int), .int .u32 (pl : Int), .int .u32 (ph : Int)] 124)).drewN d).map hW.map (fun h => h)
  have hlook := fun d => (hmap d).lookup_no nkKeyed nk_inj Try.underlying178 (zero _) hkey hm
  have hlen := fun d ty => (hmap d).len Try.underlying178 (by omega) ty
  rw [hn] at hlen
  have hn0 : (0 : Int) ≤ (n : Int) := by omega
  have hn1 : (n : Int) < 4194304 := by omega
  simp only [nk] at hlook
  have Hm := Lib.hid hm
  have Hbi : Hid (bs (Bd.code rs) ++ [.int .u8 (i : Int)] = bs (Bd.code rs ++ [UInt8.ofNat i])) := Lib.hid (by
    have h1 : ((UInt8.ofNat i).toNat : Int) = (i : Int) := by simp only [UInt8.toNat_ofNat']; omega
    rw [bs_append, bs, bs]; simp only [List.map_cons, List.map_nil, h1])
  clear hm hmap zero
  go_enter Try.func95, Try.ntmps95
  go_wp2
  go_quiet (fail)
  go_wp2
  have fr1 : Fr nob w ((w.alloc (.cells #[.int .u8 (i : Int), .int .u32 (pl : Int), .int .u32 (ph : Int)] 124)).drewN nq) := ((Fr.refl nob w).alloc _).drewN _
  have cn0 : ((w.alloc (.cells #[.int .u8 (i : Int), .int .u32 (pl : Int), .int .u32 (ph : Int)] 124)).drewN nq).cell? ⟨w.heap.size, 0, none⟩ = some (.int .u8 (i : Int)) := World.cell?_alloc_at _ _ _ _ rfl
  have cn1 : ((w.alloc (.cells #[.int .u8 (i : Int), .int .u32 (pl : Int), .int .u32 (ph : Int)] 124)).drewN nq).cell? ⟨w.heap.size, 1, none⟩ = some (.int .u32 (pl : Int)) := World.cell?_alloc_at _ _ _ _ rfl
  have cn2 : ((w.alloc (.cells #[.int .u8 (i : Int), .int .u32 (pl : Int), .int .u32 (ph : Int)] 124)).drewN nq).cell? ⟨w.heap.size, 2, none⟩ = some (.int .u32 (ph : Int)) := World.cell?_alloc_at _ _ _ _ rfl
  have z1 : ((w.alloc (.cells #[.int .u8 (i : Int), .int .u32 (pl : Int), .int .u32 (ph : Int)] 124)).drewN nq).heap.size = w.heap.size + 1 := World.size_alloc _ _
  generalize ((w.alloc (.cells #[.int .u8 (i : Int), .int .u32 (pl : Int), .int .u32 (ph : Int)] 124)).drewN nq) = W1 at *
  have c0 := fr1.cell hc (fun h => h)
  have c1 := fr1.cell hf (fun h => h)
  have f1 := fr1.frozen (p := ⟨wb, 0, none⟩) hlt (fun h => h)
  have row1 := fr1.row hrow (fun _ _ h => h)
  have map1 := fr1.map hW.map (fun h => h)
  clear hlook hlen hf hc
  go_still_tail 6, (by kernel_rfl)
  go_wp2_with (at_mapUpdate; refine wpList_mapUpdate_new rfl _ _ _ rfl nkKeyed nk_inj Try.underlying178 rfl map1 (i, pl, ph) (.int .u32 ((n : Int) + 2)) rfl rfl hkey Hm.out ?_)
  intro W2 map2 gr2
  replace gr2 := undrew gr2
  have fr2 : Fr (foot wb mb v) w W2 := (fr1.mono (fun _ _ h => h.elim)).grown gr2 (fun k hk _ => .inr (.inl (by cases hk; rfl)))
  have d0 := gr2.cell c0 (by simp; exact fun h => hW.ne h)
  have d1 := gr2.cell c1 (by simp; exact fun h => hW.ne h)
  have e0 := gr2.cell cn0 (by simp; have := hW.map.lt; omega)
  have row2 := row1.kept gr2 (.inr (fun h => (hW.apart mb h).2 rfl))
  have z2 : w.heap.size < W2.heap.size := by have := gr2.size; omega
  have f2 : W2.frozen? ⟨wb, 0, none⟩ = false := (World.frozen?_of_block (gr2.block wb (by omega) (by simp; exact fun h => hW.ne h))).trans (f1.trans hW.open_)
  have d0' := cell_alloc_l d0
  have e0' := cell_alloc_l e0
  have f2' : ∀ o, (W2.alloc o).frozen? ⟨wb, 0, none⟩ = false := fun o => (World.frozen?_of_block (Below.heap_alloc W2 o wb (by omega))).trans f2
  have ag : v.ownBlock ≠ some wb := fun h => (hW.apart wb h).1 rfl
  have ak : v.ownBlock ≠ some w.heap.size := fun h => by have := (hW.row.lt _ h).2; omega
  clear c0 c1 cn0 cn1 cn2 fr1 row1 map1 gr2 z1 f1
  go_wp2
  go_region_law
    ((refine step_append_lies _ (by rfl) _ _ _ (by rfl) 0 5 i0 _ 1 1 Try.underlying134 hi0 hz0 hz1 hz2 rfl (by omega) v (7 * n) (bs (Bd.code rs)) (by rfl) ((row2.alloc _).drew)
        ⟨W2.heap.size, 0, none⟩ 1 1 [.int .u8 (i : Int)] (by rfl) (by rfl) (World.news_of_block (cs := #[.int .u8 (i : Int)]) (t := 5) (fr := (0, 0)) (heap_alloc_new W2 _)) (by simp [Value.oneCell'])
        (by omega) (by unfold maxLen; omega) (by omega) (Nat.zero_le _) (W2.heap.size + 1) (by simp) ?_; intro g3 cap3 W3 row3 gr3 at3 lt3
      have fr3 : Fr (foot wb mb v) w W3 := (((fr2.alloc _).drew).grown gr3 (fun k hk _ => .inr (.inr hk)))
      have d3 : W3.cell? ⟨wb, 0, none⟩ = some v := gr3.cell (cell_alloc_l d0 _) (Ne.symm ag)
      have d4 : W3.cell? ⟨wb, 1, none⟩ = some (.map (some mb)) := gr3.cell (cell_alloc_l d1 _) (Ne.symm ag)
      have f3 : W3.frozen? ⟨wb, 0, none⟩ = false := (World.frozen?_of_block (gr3.block wb (by simp; omega) (Ne.symm ag))).trans (f2' _)
      have map3 := ((map2.kept (World.grownBy_alloc W2 _ none) (by simp)).kept (undrew gr3) (fun h => (hW.apart mb h.symm).2 rfl))
      clear gr3))
  all_goals
    have ng : g3 ≠ wb := by
      rcases at3 with h | h
      · exact (hW.apart g3 h).1
      · omega
    have ngm : g3 ≠ mb := by
      rcases at3 with h | h
      · exact (hW.apart g3 h).2
      · have := map2.lt; omega
    rw [Hbi.out] at row3
    have M4 := Mid.store d3 d4 f3 row3 map3 ng ngm hW.ne fr3 (at3.imp id (by omega))
    generalize W3.setCell ⟨wb, 0, none⟩ (.slice (some ⟨g3, 0, none⟩) (7 * n + 1) cap3) = W4 at *
    have c4 := M4.code
    clear d0 d1 d0' e0 e0' d3 d4 f2 f2' f3 row2 map2 fr2 row3 map3 fr3
    go_wp2_with fail
    refine (appendPlace_any _ _ _ pl W4 hl M4.row (by omega)).mono ?_
    rintro e W5 ⟨g5, cap5, rfl, row5, gr5, at5⟩
    obtain ⟨c5, f5, M5⟩ := M4.step hW.ne row5 gr5 at5
    clear c4 M4 row5 gr5 at5
    go_wp2_with fail
    generalize W5.setCell ⟨wb, 0, none⟩ (.slice (some ⟨g5, 0, none⟩) (7 * n + 1 + 3) cap5) = W6 at *
    refine (appendPlace_any _ _ _ ph W6 hh M5.row (by omega)).mono ?_
    rintro e W7 ⟨g7, cap7, rfl, row7, gr7, at7⟩
    obtain ⟨c7, f7, M7⟩ := M5.step hW.ne row7 gr7 at7
    clear M5 row7 gr7 at7
    go_wp2_with fail
    go_ret
    exact ⟨_, rfl, M7.done hW.ne hn, M7.fr, fun g h => by cases h; exact M7.src⟩
end Go.Proofs.Ytaojojjdfdlgpaa.Dg

namespace Go.Proofs.Ytaojojjdfdlgpaa.Dg
open Go.RowKit
namespace Bd

def rowOf : List B → (Nat × Nat × Nat) → Option Nat
  | [], _ => none
  | .N i lo hi :: t, r => if r = (i, place t lo, place t hi) then some t.length else rowOf t r
  | _ :: t, r => rowOf t r

theorem rowOf_some : ∀ {R : List B} {r : Nat × Nat × Nat} {k : Nat}, good R → rowOf R r = some k → ∃ i lo hi, .N i lo hi ∈ R ∧ r = (i, place R lo, place R hi) ∧ k = pos R (.N i lo hi)
  | [], _, _, _, h => by simp [rowOf] at h
  | .F :: _, _, _, hg, _ => hg.elim
  | .T :: _, _, _, hg, _ => hg.elim
  | .N i lo hi :: t, r, k, hg, h => by
    obtain ⟨hn, hl, hh, ht⟩ := hg
    unfold rowOf at h; split at h
    · rename_i e; cases h
      exact ⟨i, lo, hi, by simp, by rw [e, place_cons hl hn, place_cons hh hn], by simp [pos]⟩
    · obtain ⟨j, l, u, h1, h2, h3⟩ := rowOf_some ht h
      obtain ⟨k1, k2⟩ := kids_inn ht h1
      exact ⟨j, l, u, List.mem_cons_of_mem _ h1, by rw [h2, place_cons k1 hn, place_cons k2 hn], by rw [h3, pos_cons h1 hn]⟩

theorem rowOf_mem : ∀ {R : List B} {i : Nat} {lo hi : B}, good R → .N i lo hi ∈ R → rowOf R (i, place R lo, place R hi) = some (pos R (.N i lo hi))
  | [], _, _, _, _, h => by cases h
  | .F :: _, _, _, _, hg, _ => hg.elim
  | .T :: _, _, _, _, hg, _ => hg.elim
  | .N j l u :: t, i, lo, hi, hg, h => by
    obtain ⟨hn, hl, hh, ht⟩ := hg
    by_cases e : B.N i lo hi = .N j l u
    · cases e
      rw [place_cons hl hn, place_cons hh hn, rowOf, if_pos rfl, pos, if_pos rfl]
    · have hm := List.mem_of_ne_of_mem e h
      obtain ⟨k1, k2⟩ := kids_inn ht hm
      rw [place_cons k1 hn, place_cons k2 hn, rowOf, if_neg, rowOf_mem ht hm, pos_cons hm hn]
      intro e2
      simp only [Prod.mk.injEq] at e2
      obtain ⟨e3, e4, e5⟩ := e2
      exact e (by rw [e3, place_inj k1 hl e4, place_inj k2 hh e5])

theorem rowOf_none {R : List B} {i : Nat} {lo hi : B} (hg : good R) (hl : inn R lo) (hh : inn R hi) (hn : .N i lo hi ∉ R) : rowOf R (i, place R lo, place R hi) = none := by
  cases h : rowOf R (i, place R lo, place R hi) with
  | none => rfl
  | some k =>
    obtain ⟨j, l, u, h1, h2, _⟩ := rowOf_some hg h
    obtain ⟨k1, k2⟩ := kids_inn hg h1
    simp only [Prod.mk.injEq] at h2
    obtain ⟨e3, e4, e5⟩ := h2
    rw [e3, place_inj hl k1 e4, place_inj hh k2 e5] at hn
    exact absurd h1 hn
end Bd
open Bd

noncomputable def fnd (R : List B) : (Nat × Nat × Nat) → Option Value := fun r => (rowOf R r).map fun k => .int .u32 ((k + 2 : Nat) : Int)

theorem fnd_cons (i : Nat) (lo hi : B) (R : List B) : fnd (.N i lo hi :: R) = putAt (fnd R) (i, place R lo, place R hi) (.int .u32 ((R.length + 2 : Nat) : Int)) := by
  funext r
  have e : rowOf (.N i lo hi :: R) r = if r = (i, place R lo, place R hi) then some R.length else rowOf R r := rfl
  unfold fnd putAt
  rw [e]
  by_cases h : r = (i, place R lo, place R hi)
  · rw [if_pos h, if_pos h]; rfl
  · rw [if_neg h, if_neg h]

structure Work (w : World) (wb mb : Nat) (v : Value) (R : List B) : Prop where
  wk : Wk w wb mb v (rows R) (fnd R)
  good : Bd.good R
  small : Bd.small R

theorem place_small {R : List B} {b : B} (hs : small R) (h : inn R b) : place R b < 16777216 := by
  have h1 := place_lt h
  have h2 := hs.1
  omega

theorem node_any (wb mb i : Nat) (v : Value) (R : List B) (lo hi : B) (w : World) (hW : Work w wb mb v R) (hi24 : i < 24) (hl : inn R lo) (hh : inn R hi) (hs : small (vis (mk i lo hi) R)) :
    Calls Try.prog 95 #[.pointer (some ⟨wb, 0, none⟩), .int .i64 (i : Int), .int .u32 (place R lo : Int), .int .u32 (place R hi : Int)] w fun e w' =>
      ∃ v', e = .returned (.int .u32 (place (vis (mk i lo hi) R) (mk i lo hi) : Int)) ∧ Work w' wb mb v' (vis (mk i lo hi) R) ∧ Fr (foot wb mb v) w w' ∧ ∀ g, v'.ownBlock = some g → v.ownBlock = some g ∨ w.heap.size ≤ g := by
  obtain ⟨hk, hg, hsm⟩ := hW
  rw [vis_mk hg, vis_inn hl, vis_inn hh]
  rw [vis_mk hg, vis_inn hl, vis_inn hh] at hs
  by_cases e : lo = hi
  · subst e
    rw [if_pos rfl]
    refine (node_same wb i (place R lo) w).mono ?_
    rintro _ _ ⟨rfl, rfl⟩
    exact ⟨v, by simp [mk], ⟨hk, hg, hsm⟩, Fr.refl _ _, fun g h => .inl h⟩
  · rw [if_neg e] at hs ⊢
    have hne : place R lo ≠ place R hi := fun h => e (place_inj hl hh h)
    have em : mk i lo hi = .N i lo hi := by simp [mk, e]
    by_cases hm : .N i lo hi ∈ R
    · rw [if_pos hm, em]
      refine (node_found wb mb i (place R lo) (place R hi) (place R (.N i lo hi)) v (rows R) (fnd R) w hk hi24 (place_small hsm hl) (place_small hsm hh) hne (by unfold fnd; rw [rowOf_mem hg hm]; rfl)).mono ?_
      rintro _ w' ⟨rfl, hb⟩
      have fr : Fr nob w w' := (Fr.refl nob w).below hb
      have hwb := lt_of_cell hk.code
      exact ⟨v, rfl, ⟨⟨fr.cell hk.code (fun h => h), fr.cell hk.found (fun h => h), (fr.frozen (p := ⟨wb, 0, none⟩) hwb (fun h => h)).trans hk.open_, fr.row hk.row (fun _ _ h => h), fr.map hk.map (fun h => h), hk.ne, hk.apart⟩, hg, hsm⟩, fr.mono (fun _ _ h => h.elim), fun g h => .inl h⟩
    · rw [if_neg hm] at hs ⊢
      rw [em]
      refine (node_new wb mb i (place R lo) (place R hi) R.length v (rows R) (fnd R) w hk hi24 (place_small hsm hl) (place_small hsm hh) hne (by unfold fnd; rw [rowOf_none hg hl hh hm]; rfl) (rows_length hg) (by have := hsm.1; omega)).mono ?_
      rintro _ w' ⟨v', rfl, hk', fr, src⟩
      refine ⟨v', ?_, ⟨?_, ⟨hm, hl, hh, hg⟩, hs⟩, fr, src⟩
      · simp [place, pos]
      · rw [fnd_cons]
        exact hk'

theorem node_any' (wb mb i : Nat) (v : Value) (R : List B) (lo hi : B) (w : World) (hW : Work w wb mb v R) (hi24 : i < 24) (hl : inn R lo) (hh : inn R hi) (hs : small (vis (mk i lo hi) R)) (pl ph : Nat) (hpl : pl = place R lo) (hph : ph = place R hi) :
    Calls Try.prog 95 #[.pointer (some ⟨wb, 0, none⟩), .int .i64 (i : Int), .int .u32 (pl : Int), .int .u32 (ph : Int)] w fun e w' =>
      ∃ v', e = .returned (.int .u32 (place (vis (mk i lo hi) R) (mk i lo hi) : Int)) ∧ Work w' wb mb v' (vis (mk i lo hi) R) ∧ Fr (foot wb mb v) w w' ∧ ∀ g, v'.ownBlock = some g → v.ownBlock = some g ∨ w.heap.size ≤ g := by
  subst hpl hph
  exact node_any wb mb i v R lo hi w hW hi24 hl hh hs

end Go.Proofs.Ytaojojjdfdlgpaa.Dg
namespace Go.Proofs.Ytaojojjdfdlgpaa.Dg
open Go.RowKit
open Bd

namespace Bd
theorem suffix_mk {i : Nat} {lo hi : B} {R : List B} (hg : good R) : vis hi (vis lo R) <:+ vis (mk i lo hi) R := by
  rw [vis_mk hg]
  by_cases e : lo = hi
  · rw [if_pos e]; exact List.suffix_refl _
  · rw [if_neg e]; split
    · exact List.suffix_refl _
    · exact List.suffix_cons _ _

theorem vis_vis_mk {i : Nat} {lo hi : B} {R : List B} (hg : good R) : vis (mk i lo hi) (vis hi (vis lo R)) = vis (mk i lo hi) R := by
  have hl : inn (vis hi (vis lo R)) lo := (inn_vis lo R).mono (mem_vis hi _)
  have hh := inn_vis hi (vis lo R)
  rw [vis_mk (good_vis hi (good_vis lo hg)), vis_mk hg, vis_inn hl, vis_inn hh]

/-- What a way to split keys says of their sets. -/
structure Spl {α : Type} (sem : α → B) (val : α → Prop) (mu : α → Nat) (sp : α → Nat × α × α) : Prop where
  leaf : ∀ k, val k → 24 ≤ (sp k).1 → (sem k = .F ∧ (sp k).1 = 24) ∨ (sem k = .T ∧ (sp k).1 = 25)
  step : ∀ k, val k → (sp k).1 < 24 → sem k = mk (sp k).1 (sem (sp k).2.1) (sem (sp k).2.2) ∧ val (sp k).2.1 ∧ val (sp k).2.2 ∧ mu (sp k).2.1 < mu k ∧ mu (sp k).2.2 < mu k
end Bd

/-- What is finished. -/
structure Fin {α : Type} (kt : TypeId) (enc : α → Value) (sem : α → B) (w : World) (fb : Nat) (mf : α → Option Value) (R : List B) : Prop where
  map : ∃ n, IsMap Try.prog kt enc w fb n mf
  places : ∀ k p, mf k = some p → inn R (sem k) ∧ p = .int .u32 (place R (sem k) : Int)

/-- The captured variables. -/
structure Caps (w : World) (vf : FuncId) (fv : Value) (fb wb : Nat) (b1 b2 b3 b4 : Nat) : Prop where
  c1 : w.cell? ⟨b1, 0, none⟩ = some fv
  c2 : w.cell? ⟨b2, 0, none⟩ = some (.map (some fb))
  c3 : w.cell? ⟨b3, 0, none⟩ = some (.func (.func vf) #[] #[.pointer (some ⟨b1, 0, none⟩), .pointer (some ⟨b2, 0, none⟩), .pointer (some ⟨b3, 0, none⟩), .pointer (some ⟨b4, 0, none⟩)])
  c4 : w.cell? ⟨b4, 0, none⟩ = some (.pointer (some ⟨wb, 0, none⟩))

def foot4 (wb mb fb : Nat) (v : Value) (k : Nat) : Prop := foot wb mb v k ∨ k = fb

/-- the boxes lie apart from what is written -/
def Off (wb mb fb b1 b2 b3 b4 : Nat) (v : Value) : Prop :=
  (¬ foot4 wb mb fb v b1 ∧ ¬ foot4 wb mb fb v b2 ∧ ¬ foot4 wb mb fb v b3 ∧ ¬ foot4 wb mb fb v b4) ∧ ¬ foot wb mb v fb

/-- The state of 'grow' while it goes through keys. -/
structure Gr {α : Type} (kt : TypeId) (enc : α → Value) (sem : α → B) (vf : FuncId) (fv : Value) (w : World) (wb mb fb b1 b2 b3 b4 : Nat) (v : Value) (mf : α → Option Value) (R : List B) : Prop where
  work : Work w wb mb v R
  fin : Fin kt enc sem w fb mf R
  caps : Caps w vf fv fb wb b1 b2 b3 b4
  off : Off wb mb fb b1 b2 b3 b4 v

def VisPost {α : Type} (kt : TypeId) (enc : α → Value) (sem : α → B) (mu : α → Nat) (vf : FuncId) (fv : Value) (wb mb fb b1 b2 b3 b4 : Nat) (v : Value) (mf : α → Option Value) (R : List B) (k : α) (w : World) (e : Ending) (w' : World) : Prop :=
  ∃ v' mf', e = .returned (.int .u32 (place (vis (sem k) R) (sem k) : Int)) ∧ Gr kt enc sem vf fv w' wb mb fb b1 b2 b3 b4 v' mf' (vis (sem k) R) ∧
    Fr (foot4 wb mb fb v) w w' ∧ (∀ g, v'.ownBlock = some g → v.ownBlock = some g ∨ w.heap.size ≤ g) ∧ ∀ k', mf' k' = mf k' ∨ mu k' ≤ mu k

section
variable {α : Type} {kt : TypeId} {enc : α → Value} {sem : α → B} {mu : α → Nat} {vf : FuncId} {fv : Value} {w w' : World} {wb mb fb b1 b2 b3 b4 : Nat} {v : Value} {mf : α → Option Value} {R : List B}

theorem Work.kept {S : Nat → Prop} (h : Work w wb mb v R) (fr : Fr S w w') (hS : ∀ k, foot wb mb v k → ¬ S k) : Work w' wb mb v R := by
  obtain ⟨hk, hg, hs⟩ := h
  have hwb := lt_of_cell hk.code
  exact ⟨⟨fr.cell hk.code (hS _ (.inl rfl)), fr.cell hk.found (hS _ (.inl rfl)), (fr.frozen (p := ⟨wb, 0, none⟩) hwb (hS _ (.inl rfl))).trans hk.open_, fr.row hk.row (fun g hg => hS g (.inr (.inr hg))), fr.map hk.map (hS _ (.inr (.inl rfl))), hk.ne, hk.apart⟩, hg, hs⟩

theorem Caps.kept {S : Nat → Prop} (h : Caps w vf fv fb wb b1 b2 b3 b4) (fr : Fr S w w') (h1 : ¬ S b1) (h2 : ¬ S b2) (h3 : ¬ S b3) (h4 : ¬ S b4) : Caps w' vf fv fb wb b1 b2 b3 b4 :=
  ⟨fr.cell h.c1 h1, fr.cell h.c2 h2, fr.cell h.c3 h3, fr.cell h.c4 h4⟩

theorem Gr.keptNew (h : Gr kt enc sem vf fv w wb mb fb b1 b2 b3 b4 v mf R) (fr : Fr nob w w') : Gr kt enc sem vf fv w' wb mb fb b1 b2 b3 b4 v mf R :=
  ⟨h.work.kept fr (fun _ _ h => h), ⟨h.fin.map.imp (fun _ hm => fr.map hm (fun h => h)), h.fin.places⟩, h.caps.kept fr (fun h => h) (fun h => h) (fun h => h) (fun h => h), h.off⟩

theorem Work.foot_lt (h : Work w wb mb v R) : ∀ k, foot wb mb v k → k < w.heap.size := by
  intro k hk
  rcases hk with rfl | rfl | hk
  · exact lt_of_cell h.wk.code
  · exact h.wk.map.lt
  · exact (h.wk.row.lt k hk).2

theorem Caps.lt (h : Caps w vf fv fb wb b1 b2 b3 b4) : b1 < w.heap.size ∧ b2 < w.heap.size ∧ b3 < w.heap.size ∧ b4 < w.heap.size :=
  ⟨lt_of_cell h.c1, lt_of_cell h.c2, lt_of_cell h.c3, lt_of_cell h.c4⟩

/-- A block that has a new code's block or an old one is off. -/
theorem foot_src {v' : Value} {k n : Nat} (src : ∀ g, v'.ownBlock = some g → v.ownBlock = some g ∨ n ≤ g) (hk : k < n) (h : ¬ foot wb mb v k) : ¬ foot wb mb v' k := by
  rintro (e | e | e)
  · exact h (.inl e)
  · exact h (.inr (.inl e))
  · rcases src k e with e' | e'
    · exact h (.inr (.inr e'))
    · omega

theorem foot4_src {v' : Value} {k n : Nat} (src : ∀ g, v'.ownBlock = some g → v.ownBlock = some g ∨ n ≤ g) (hk : k < n) (h : ¬ foot4 wb mb fb v k) : ¬ foot4 wb mb fb v' k := by
  rintro (e | e)
  · exact foot_src src hk (fun h' => h (.inl h')) e
  · exact h (.inr e)

/-- THE END OF A STEP: the key is finished. -/
theorem grFinish {w4 w5 w6 : World} {v4 v5 : Value} {mf4 : α → Option Value} {R4 : List B} {f : Nat} {lo hi : B} {k : α} (hG4 : Gr kt enc sem vf fv w4 wb mb fb b1 b2 b3 b4 v4 mf4 R4) (hW5 : Work w5 wb mb v5 (vis (mk f lo hi) R4)) (fr5 : Fr (foot wb mb v4) w4 w5)
    (src5 : ∀ g, v5.ownBlock = some g → v4.ownBlock = some g ∨ w4.heap.size ≤ g) {n : Nat} (map6 : IsMap Try.prog kt enc w6 fb n (putAt mf4 k (.int .u32 (place (vis (mk f lo hi) R4) (mk f lo hi) : Int)))) (gr6 : w5.grownBy w6 (some fb)) (hk : sem k = mk f lo hi) :
    Gr kt enc sem vf fv w6 wb mb fb b1 b2 b3 b4 v5 (putAt mf4 k (.int .u32 (place (vis (mk f lo hi) R4) (mk f lo hi) : Int))) (vis (mk f lo hi) R4) := by
  obtain ⟨⟨o1, o2, o3, o4⟩, o5⟩ := hG4.off
  obtain ⟨l1, l2, l3, l4⟩ := hG4.caps.lt
  have lfb : fb < w4.heap.size := by obtain ⟨n, hm⟩ := hG4.fin.map; exact hm.lt
  have frm : Fr (fun k => k = fb) w5 w6 := (Fr.refl _ w5).grown gr6 (fun k h _ => by cases h; rfl)
  have o5' := foot_src src5 lfb o5
  have n1 : ∀ b, ¬ foot4 wb mb fb v4 b → b ≠ fb := fun b h e => h (.inr e)
  have n2 : ∀ b, ¬ foot4 wb mb fb v4 b → ¬ foot wb mb v4 b := fun b h e => h (.inl e)
  refine ⟨hW5.kept frm (fun k hk e => by subst e; exact o5' hk), ⟨⟨n, map6⟩, ?_⟩, (hG4.caps.kept fr5 (n2 _ o1) (n2 _ o2) (n2 _ o3) (n2 _ o4)).kept frm (n1 _ o1) (n1 _ o2) (n1 _ o3) (n1 _ o4),
    ⟨foot4_src src5 l1 o1, foot4_src src5 l2 o2, foot4_src src5 l3 o3, foot4_src src5 l4 o4⟩, o5'⟩
  intro x p hx
  unfold putAt at hx
  split at hx
  · rename_i e; subst e; cases hx
    rw [hk]
    exact ⟨inn_vis _ _, rfl⟩
  · obtain ⟨h1, h2⟩ := hG4.fin.places x p hx
    exact ⟨h1.mono (mem_vis _ _), by rw [h2, place_suffix hW5.good (vis_suffix _ _) h1]⟩


/-- The world in which 'grow' visits its key. -/
def gw2 (w1 : World) (wb b1 : Nat) (vf : FuncId) (T1 T2 T3 : TypeId) : World :=
  ((((w1.alloc (.cells #[.pointer (some ⟨wb, 0, none⟩)] T1)).alloc (.map #[] 0)).alloc (.cells #[.map (some (w1.heap.size + 1))] T2)).alloc
        (.cells #[.func (.func vf) #[] #[.pointer (some ⟨b1, 0, none⟩), .pointer (some ⟨w1.heap.size + 1 + 1, 0, none⟩), .pointer (some ⟨w1.heap.size + 1 + 1 + 1, 0, none⟩), .pointer (some ⟨w1.heap.size, 0, none⟩)]] T3))

theorem fr_gw2 (w1 : World) (wb b1 : Nat) (vf : FuncId) (T1 T2 T3 : TypeId) : Fr nob w1 (gw2 w1 wb b1 vf T1 T2 T3) := ((((Fr.refl nob w1).alloc _).alloc _).alloc _).alloc _

/-- THE START: what 'grow' has laid before it visits its key. -/
theorem gr_start {W0 w1 : World} {T1 T2 T3 : TypeId} (hW : Work w1 wb mb (.slice none 0 0) []) (fr1 : Fr nob W0 w1) (lwb : W0.heap.size ≤ wb) (lmb : W0.heap.size ≤ mb) (h1 : W0.cell? ⟨b1, 0, none⟩ = some fv) :
    Gr kt enc sem vf fv
      (gw2 w1 wb b1 vf T1 T2 T3)
      wb mb (w1.heap.size + 1) b1 (w1.heap.size + 1 + 1) (w1.heap.size + 1 + 1 + 1) w1.heap.size (.slice none 0 0) (fun _ => none) [] := by
  have l1 := lt_of_cell h1
  simp only at l1
  have lw := lt_of_cell hW.wk.code
  simp only at lw
  have lm := hW.wk.map.lt
  have f1 : ∀ (w : World) o, Fr nob w (w.alloc o) := fun w o => (Fr.refl nob w).alloc o
  have fr : Fr nob w1 (gw2 w1 wb b1 vf T1 T2 T3) :=
    fr_gw2 ..
  have hm := IsMap.made (w1.alloc (.cells #[.pointer (some ⟨wb, 0, none⟩)] T1)) Try.prog kt enc
  rw [show (w1.alloc (.cells #[.pointer (some ⟨wb, 0, none⟩)] T1)).heap.size = w1.heap.size + 1 by simp] at hm
  have nf : ∀ k, k ≠ wb → k ≠ mb → ¬ foot wb mb (.slice none 0 0) k := by
    rintro k h1 h2 (h | h | h)
    · exact h1 h
    · exact h2 h
    · cases h
  refine ⟨hW.kept fr (fun _ _ h => h), ⟨⟨0, (f1 _ _).map ((f1 _ _).map hm (fun h => h)) (fun h => h)⟩, by simp⟩, ⟨fr.cell (fr1.cell h1 (fun h => h)) (fun h => h), ?_, ?_, ?_⟩, ⟨⟨?_, ?_, ?_, ?_⟩, nf _ (by omega) (by omega)⟩⟩
  · exact cell_alloc_l (World.cell?_alloc_at _ _ _ _ (by simp)) _
  · exact World.cell?_alloc_at _ _ _ _ (by simp)
  · exact cell_alloc_l (cell_alloc_l (cell_alloc_l (World.cell?_alloc_at _ _ _ _ rfl) _) _) _
  · rintro (h | h)
    · exact nf b1 (by omega) (by omega) h
    · have := fr1.size; omega
  · rintro (h | h)
    · exact nf _ (by omega) (by omega) h
    · omega
  · rintro (h | h)
    · exact nf _ (by omega) (by omega) h
    · omega
  · rintro (h | h)
    · exact nf _ (by omega) (by omega) h
    · omega

end
end Go.Proofs.Ytaojojjdfdlgpaa.Dg
namespace Go.Proofs.Ytaojojjdfdlgpaa.Dg
open Go.RowKit
open Bd

/-- a set as a value of the program -/
noncomputable abbrev dval (b : B) : Value := .agg #[.int .u32 (place (li b) b : Int), .string ⟨(code (rows (li b))).toArray⟩]

theorem fold_push : ∀ (l : List UInt8) (s : ByteArray), (l.map fun x => (x.toNat : Int)).foldl (fun r n => r.push (UInt8.ofNat n.toNat)) s = ⟨s.data ++ l.toArray⟩
  | [], s => by simp
  | x :: l, s => by
    simp only [List.map_cons, List.foldl_cons]
    rw [fold_push l]
    congr 1
    simp [ByteArray.push]

theorem run_string_of_row {w : World} {v : Value} {n : Nat} {l : List UInt8} (h : w.ownsRow 0 5 1 v n (bs l)) : (convert 134 9 v).run Try.prog w = .ok (.string ⟨l.toArray⟩) w := by
  have hlen : l.length = n := by have := h.1; simp [bs] at this; omega
  rcases h.2 with ⟨rfl, h0⟩ | ⟨g, cap, cur, rfl, _⟩
  · rw [run_convert_bytes_string w _ _ 5 _ _ _ Try.underlying134 Try.underlying5 Try.underlying9]
    have : l = [] := List.length_eq_zero_iff.1 (by omega)
    subst this
    rfl
  · rw [run_convert_bytes_string w _ _ 5 _ _ _ Try.underlying134 Try.underlying5 Try.underlying9]
    have e : (loadCells ⟨g, 0, none⟩ n).run Try.prog w = .ok ((l.map fun x => (x.toNat : Int)).map (Value.int .u8)).toArray w := by
      have := run_loadCells_list (P := Try.prog) (w := w) ⟨g, 0, none⟩ (bs l) (h.cells rfl)
      rw [show (bs l).length = n by simp [bs, hlen]] at this
      rw [this, bs, List.map_map]
      rfl
    rw [run_bytesToString w _ _ _ _ e, fold_push]
    simp

set_option maxRecDepth 100000 in
set_option maxHeartbeats 400000 in
theorem newWork_any (w : World) : Calls Try.prog 94 #[] w fun e w' => ∃ wb mb, e = .returned (.pointer (some ⟨wb, 0, none⟩)) ∧ Work w' wb mb (.slice none 0 0) [] ∧ Fr nob w w' ∧ w.heap.size ≤ wb ∧ w.heap.size ≤ mb := by
  have hmm := @run_makeMap Try.prog
  go_enter Try.func94, Try.ntmps94
  go_wp2
  go_ret
  have hm := IsMap.made w Try.prog 124 nk
  have fr : Fr nob (w.alloc (.map #[] 0)) ((w.alloc (.map #[] 0)).alloc (.cells #[.slice none 0 0, .map (some w.heap.size)] 180)) := (Fr.refl nob _).alloc _
  refine ⟨w.heap.size + 1, w.heap.size, rfl, ⟨⟨World.cell?_alloc_at _ _ _ _ (by simp), World.cell?_alloc_at _ _ _ _ (by simp), World.frozen?_alloc_at _ _ _ _ (by simp), World.ownsRow_nil _ _ _ _, fr.map hm (fun h => h), by omega, fun g h => by cases h⟩, trivial, ⟨by simp, by simp⟩⟩, ((Fr.refl nob w).alloc _).alloc _, by omega, Nat.le_refl _⟩

set_option maxRecDepth 100000 in
set_option maxHeartbeats 400000 in
theorem set_any (wb mb : Nat) (v : Value) (R : List B) (p : Nat) (w : World) (hW : Work w wb mb v R) :
    Calls Try.prog 96 #[.pointer (some ⟨wb, 0, none⟩), .int .u32 (p : Int)] w fun e w' => e = .returned (.agg #[.int .u32 (p : Int), .string ⟨(code (rows R)).toArray⟩]) ∧ Below w.heap.size w w' := by
  have hc := cell_alloc_l hW.wk.code
  have hwb := lt_of_cell hW.wk.code
  have hcv := fun o => run_string_of_row (hW.wk.row.alloc o)
  go_enter Try.func96, Try.ntmps96
  go_wp2
  exact bodyPost_ret (v := .agg #[.int .u32 (p : Int), .string ⟨(code (rows R)).toArray⟩]) (by simp [results, Try.results96, go_sem]) rfl ⟨rfl, (Below.refl _ _).alloc (Nat.le_refl _) _⟩
end Go.Proofs.Ytaojojjdfdlgpaa.Dg

