namespace Go.Proofs.YtfhjpldlhhgcnaaDoor.Bd

inductive B where
  | F
  | T
  | N (i : Nat) (lo hi : B)
  deriving DecidableEq

abbrev Cfg := Nat → Bool
def up (c : Cfg) (i : Nat) (v : Bool) : Cfg := fun j => if j = i then v else c j
def cut (c : Cfg) : Cfg := fun j => decide (j < 24) && c j
def win (i : Nat) (c : Cfg) : Cfg := fun j => decide (i ≤ j) && (decide (j < 24) && c j)

def B.ev : B → Cfg → Bool
  | .F, _ => false
  | .T, _ => true
  | .N i lo hi, c => if c i then hi.ev c else lo.ev c

def B.ok : B → Nat → Prop
  | .F, _ => True
  | .T, _ => True
  | .N i lo hi, n => n ≤ i ∧ i < 24 ∧ lo ≠ hi ∧ lo.ok (i + 1) ∧ hi.ok (i + 1)

def mk (i : Nat) (lo hi : B) : B := if lo = hi then lo else .N i lo hi

theorem B.ok.mono {b : B} {n m : Nat} (h : b.ok n) (hm : m ≤ n) : b.ok m := by
  cases b with
  | F => trivial
  | T => trivial
  | N i lo hi => exact ⟨Nat.le_trans hm h.1, h.2⟩

theorem ok_mk {i : Nat} {lo hi : B} (hi' : i < 24) (hl : lo.ok (i + 1)) (hh : hi.ok (i + 1)) : (mk i lo hi).ok i := by
  unfold mk; split
  · exact hl.mono (by omega)
  · exact ⟨Nat.le_refl _, hi', by assumption, hl, hh⟩

theorem ev_mk (i : Nat) (lo hi : B) (c : Cfg) : (mk i lo hi).ev c = if c i then hi.ev c else lo.ev c := by
  unfold mk; split
  · subst_vars; simp
  · rfl

theorem ev_agree {b : B} : ∀ {n : Nat} {c d : Cfg}, b.ok n → (∀ j, n ≤ j → j < 24 → c j = d j) → b.ev c = b.ev d := by
  induction b with
  | F => intros; rfl
  | T => intros; rfl
  | N i lo hi il ih =>
    intro n c d h hc
    obtain ⟨h1, h2, _, h4, h5⟩ := h
    simp only [B.ev]
    rw [hc i h1 h2, il h4 (fun j hj => hc j (by omega)), ih h5 (fun j hj => hc j (by omega))]

/-- b with the feature i fixed, where no feature below i is left. -/
def B.fix (b : B) (i : Nat) (v : Bool) : B :=
  match b with
  | .N j lo hi => if j = i then (if v then hi else lo) else b
  | _ => b

theorem ok_fix {b : B} {i : Nat} (h : b.ok i) (v : Bool) : (b.fix i v).ok (i + 1) := by
  cases b with
  | F => trivial
  | T => trivial
  | N j lo hi =>
    obtain ⟨h1, h2, h3, h4, h5⟩ := h
    unfold B.fix
    split
    · rename_i e; injection e with e1 e2 e3; subst e1 e2 e3
      split
      · rename_i e; subst e; cases v <;> simp [h4, h5]
      · exact ⟨by omega, h2, h3, h4, h5⟩
    · rename_i e; exact absurd rfl (e _ _ _)

theorem ev_fix {b : B} {i : Nat} (h : b.ok i) (v : Bool) (c : Cfg) : (b.fix i v).ev c = b.ev (up c i v) := by
  cases b with
  | F => rfl
  | T => rfl
  | N j lo hi =>
    obtain ⟨h1, h2, h3, h4, h5⟩ := h
    simp only [B.fix]
    by_cases e : j = i
    · subst e
      simp only [if_true, B.ev]
      have hl : lo.ev (up c j v) = lo.ev c := ev_agree h4 (fun k hk _ => by simp [up]; intro; omega)
      have hh : hi.ev (up c j v) = hi.ev c := ev_agree h5 (fun k hk _ => by simp [up]; intro; omega)
      cases v <;> simp [up, hl, hh] <;> simp [up] at hl hh <;> simp [hl, hh]
    · rw [if_neg e]
      have hk : (B.N j lo hi).ok (i + 1) := ⟨by omega, h2, h3, h4, h5⟩
      exact ev_agree hk (fun k hk _ => by simp [up]; intro; omega)

theorem mk_fix {b : B} {i : Nat} (h : b.ok i) : mk i (b.fix i false) (b.fix i true) = b := by
  cases b with
  | F => rfl
  | T => rfl
  | N j lo hi =>
    obtain ⟨h1, h2, h3, h4, h5⟩ := h
    simp only [B.fix]
    by_cases e : j = i
    · subst e; simp [mk, h3]
    · simp [mk, e]

theorem ok_24 {b : B} (h : b.ok 24) : b = .F ∨ b = .T := by
  cases b with
  | F => exact .inl rfl
  | T => exact .inr rfl
  | N j lo hi => obtain ⟨h1, h2, _⟩ := h; omega

theorem uniq_k : ∀ (k n : Nat) {a b : B}, n + k = 24 → a.ok n → b.ok n → (∀ c, a.ev c = b.ev c) → a = b
  | 0, n, a, b, hn, ha, hb, h => by
    obtain rfl : n = 24 := by omega
    rcases ok_24 ha with rfl | rfl <;> rcases ok_24 hb with rfl | rfl
    · rfl
    · exact absurd (h (fun _ => false)) (by simp [B.ev])
    · exact absurd (h (fun _ => false)) (by simp [B.ev])
    · rfl
  | k + 1, n, a, b, hn, ha, hb, h => by
    rw [← mk_fix ha, ← mk_fix hb,
      uniq_k k (n + 1) (by omega) (ok_fix ha false) (ok_fix hb false) (fun c => by rw [ev_fix ha, ev_fix hb, h]),
      uniq_k k (n + 1) (by omega) (ok_fix ha true) (ok_fix hb true) (fun c => by rw [ev_fix ha, ev_fix hb, h])]

theorem uniq {a b : B} {n : Nat} (hn : n ≤ 24) (ha : a.ok n) (hb : b.ok n) (h : ∀ c, a.ev c = b.ev c) : a = b :=
  uniq_k (24 - n) n (by omega) ha hb h

def canF : Nat → Nat → (Cfg → Bool) → B
  | 0, _, f => if f (fun _ => false) then .T else .F
  | k + 1, i, f => mk i (canF k (i + 1) (fun c => f (up c i false))) (canF k (i + 1) (fun c => f (up c i true)))

theorem ok_canF : ∀ (k i : Nat) (f : Cfg → Bool), i + k = 24 → (canF k i f).ok i
  | 0, i, f, h => by unfold canF; split <;> trivial
  | k + 1, i, f, h => ok_mk (by omega) (ok_canF k (i + 1) _ (by omega)) (ok_canF k (i + 1) _ (by omega))

theorem ev_canF : ∀ (k i : Nat) (f : Cfg → Bool) (c : Cfg), i + k = 24 → (canF k i f).ev c = f (win i c)
  | 0, i, f, c, h => by
    obtain rfl : i = 24 := by omega
    have : win 24 c = fun _ => false := by
      funext j; simp [win]; intro a b; omega
    rw [this]; unfold canF; split <;> simp_all [B.ev]
  | k + 1, i, f, c, h => by
    unfold canF
    rw [ev_mk, ev_canF k (i + 1) _ c (by omega), ev_canF k (i + 1) _ c (by omega)]
    have e : ∀ v, c i = v → up (win (i + 1) c) i v = win i c := by
      intro v hv; funext j; simp only [up, win]
      by_cases hj : j = i
      · subst hj; simp [hv]; intro; omega
      · rw [if_neg hj]; by_cases hl : i ≤ j
        · have : i + 1 ≤ j := by omega
          simp [hl, this]
        · have : ¬ i + 1 ≤ j := by omega
          simp [hl, this]
    by_cases hc : c i = true
    · rw [if_pos hc, e true hc]
    · rw [if_neg hc, e false (by simpa using hc)]

theorem can_ex (f : Cfg → Bool) : ∃ b : B, b.ok 0 ∧ ∀ c, b.ev c = f (cut c) := by
  have h : ∀ k, 0 + k = 24 → ∃ b : B, b.ok 0 ∧ ∀ c, b.ev c = f (win 0 c) := fun k hk => ⟨_, ok_canF k 0 f hk, fun c => ev_canF k 0 f c hk⟩
  obtain ⟨b, h1, h2⟩ := h 24 (by omega)
  refine ⟨b, h1, fun c => (h2 c).trans ?_⟩
  have : win 0 c = cut c := by funext j; simp [win, cut]
  rw [this]
noncomputable def can (f : Cfg → Bool) : B := (can_ex f).choose
theorem ok_can (f : Cfg → Bool) : (can f).ok 0 := (can_ex f).choose_spec.1
theorem ev_can (f : Cfg → Bool) (c : Cfg) : (can f).ev c = f (cut c) := (can_ex f).choose_spec.2 c
theorem ev_cut {b : B} (h : b.ok 0) (c : Cfg) : b.ev (cut c) = b.ev c := ev_agree h (fun j _ hj => by simp [cut, hj])
theorem can_eq {f : Cfg → Bool} {a : B} (ha : a.ok 0) (h : ∀ c, f (cut c) = a.ev c) : can f = a :=
  uniq (by omega) (ok_can f) ha (fun c => by rw [ev_can, h])
theorem eq_of_ev {a b : B} (ha : a.ok 0) (hb : b.ok 0) (h : ∀ c, a.ev c = b.ev c) : a = b := uniq (by omega) ha hb h
theorem cut_cut (c : Cfg) : cut (cut c) = cut c := by funext j; simp [cut]

/-! ### listings, the newest node first -/
def B.const : B → Bool
  | .N _ _ _ => false
  | _ => true

def pos : List B → B → Nat
  | [], _ => 0
  | n :: r, b => if b = n then r.length else pos r b

def place (R : List B) : B → Nat
  | .F => 0
  | .T => 1
  | b => pos R b + 2

def inn (R : List B) (b : B) : Prop := b.const = true ∨ b ∈ R

def good : List B → Prop
  | [] => True
  | .N i lo hi :: r => .N i lo hi ∉ r ∧ inn r lo ∧ inn r hi ∧ good r
  | _ :: _ => False

def rows : List B → List (Nat × Nat × Nat)
  | [] => []
  | .N i lo hi :: r => rows r ++ [(i, place r lo, place r hi)]
  | _ :: r => rows r

def vis : B → List B → List B
  | .N i lo hi, R => if .N i lo hi ∈ R then R else .N i lo hi :: vis hi (vis lo R)
  | _, R => R

theorem inn.mono {R S : List B} {b : B} (h : inn R b) (hs : ∀ x ∈ R, x ∈ S) : inn S b := h.imp id (hs b)

theorem pos_lt {R : List B} {b : B} (h : b ∈ R) : pos R b < R.length := by
  induction R with
  | nil => cases h
  | cons n r ih =>
    unfold pos; split
    · simp
    · have := ih (by rcases List.mem_cons.1 h with e | e; exact absurd e ‹_›; exact e)
      simp; omega

theorem pos_cons {R : List B} {b n : B} (h : b ∈ R) (hn : n ∉ R) : pos (n :: R) b = pos R b := by
  rw [pos, if_neg]; rintro rfl; exact hn h

theorem place_cons {R : List B} {b n : B} (h : inn R b) (hn : n ∉ R) : place (n :: R) b = place R b := by
  cases b with
  | F => rfl
  | T => rfl
  | N i lo hi =>
    have : B.N i lo hi ∈ R := by rcases h with h | h; cases h; exact h
    simp [place, pos_cons this hn]

theorem rows_length : ∀ {R : List B}, good R → (rows R).length = R.length
  | [], _ => rfl
  | .N i lo hi :: r, h => by simp [rows, rows_length h.2.2.2]
  | .F :: _, h => h.elim
  | .T :: _, h => h.elim

theorem pos_inj : ∀ {R : List B} {a b : B}, a ∈ R → b ∈ R → pos R a = pos R b → a = b := by
  intro R
  induction R with
  | nil => intro a b h; cases h
  | cons n r ih =>
    intro a b ha hb h
    unfold pos at h
    by_cases ea : a = n <;> by_cases eb : b = n
    · rw [ea, eb]
    · rw [if_pos ea, if_neg eb] at h
      have := pos_lt (List.mem_of_ne_of_mem eb hb); omega
    · rw [if_neg ea, if_pos eb] at h
      have := pos_lt (List.mem_of_ne_of_mem ea ha); omega
    · rw [if_neg ea, if_neg eb] at h
      exact ih (List.mem_of_ne_of_mem ea ha) (List.mem_of_ne_of_mem eb hb) h

theorem place_inj {R : List B} {a b : B} (ha : inn R a) (hb : inn R b) (h : place R a = place R b) : a = b := by
  cases a <;> cases b <;> simp [place] at h <;> try rfl
  rename_i i lo hi j l2 h2
  have ha' : B.N i lo hi ∈ R := by rcases ha with h | h; cases h; exact h
  have hb' : B.N j l2 h2 ∈ R := by rcases hb with h | h; cases h; exact h
  exact pos_inj ha' hb' h

theorem place_lt {R : List B} {b : B} (h : inn R b) : place R b < R.length + 2 := by
  cases b with
  | F => simp [place]
  | T => simp [place]
  | N i lo hi =>
    have : B.N i lo hi ∈ R := by rcases h with h | h; cases h; exact h
    have := pos_lt this
    simp [place]; omega

/-- The row of a node that is listed. -/
theorem rows_at : ∀ {R : List B} {i : Nat} {lo hi : B}, good R → .N i lo hi ∈ R → (rows R)[pos R (.N i lo hi)]? = some (i, place R lo, place R hi) ∧ inn R lo ∧ inn R hi
  | [], _, _, _, _, h => by cases h
  | .F :: _, _, _, _, hg, _ => hg.elim
  | .T :: _, _, _, _, hg, _ => hg.elim
  | .N j l h' :: r, i, lo, hi, hg, h => by
    obtain ⟨hn, hl, hh, hr⟩ := hg
    by_cases e : B.N i lo hi = .N j l h'
    · cases e
      refine ⟨?_, hl.mono (by intro x hx; exact List.mem_cons_of_mem _ hx), hh.mono (by intro x hx; exact List.mem_cons_of_mem _ hx)⟩
      rw [pos, if_pos rfl, rows, place_cons hl hn, place_cons hh hn, ← rows_length hr]
      simp
    · have hm := List.mem_of_ne_of_mem e h
      obtain ⟨h1, h2, h3⟩ := rows_at hr hm
      refine ⟨?_, h2.mono (by intro x hx; exact List.mem_cons_of_mem _ hx), h3.mono (by intro x hx; exact List.mem_cons_of_mem _ hx)⟩
      rw [pos_cons hm hn, place_cons h2 hn, place_cons h3 hn, rows]
      have := pos_lt hm
      rw [List.getElem?_append_left (by rw [rows_length hr]; exact this), h1]

theorem good_all_N : ∀ {R : List B}, good R → ∀ b ∈ R, b.const = false
  | [], _, _, h => by cases h
  | .N _ _ _ :: r, hg, b, h => by
    rcases List.mem_cons.1 h with rfl | h
    · rfl
    · exact good_all_N hg.2.2.2 b h
  | .F :: _, hg, _, _ => hg.elim
  | .T :: _, hg, _, _ => hg.elim

/-- size of a tree, to see that a node is not below itself -/
def B.sz : B → Nat
  | .N _ lo hi => lo.sz + hi.sz + 1
  | _ => 0

theorem vis_sub (b : B) : ∀ (R : List B) (x : B), x ∈ vis b R → x ∈ R ∨ x.sz ≤ b.sz := by
  induction b with
  | F => intro R x h; exact .inl h
  | T => intro R x h; exact .inl h
  | N i lo hi il ih =>
    intro R x h
    unfold vis at h; split at h
    · exact .inl h
    · rcases List.mem_cons.1 h with rfl | h
      · exact .inr (Nat.le_refl _)
      · rcases ih _ x h with h | h
        · rcases il _ x h with h | h
          · exact .inl h
          · right; simp only [B.sz]; omega
        · right; simp only [B.sz]; omega

theorem mem_vis (b : B) : ∀ (R : List B) (x : B), x ∈ R → x ∈ vis b R := by
  induction b with
  | F => intro R x h; exact h
  | T => intro R x h; exact h
  | N i lo hi il ih =>
    intro R x h
    unfold vis; split
    · exact h
    · exact List.mem_cons_of_mem _ (ih _ _ (il _ _ h))

theorem inn_vis (b : B) (R : List B) : inn (vis b R) b := by
  cases b with
  | F => exact .inl rfl
  | T => exact .inl rfl
  | N i lo hi =>
    right; unfold vis; split
    · assumption
    · simp

theorem notin_vis {i : Nat} {lo hi : B} {R : List B} (h : .N i lo hi ∉ R) : .N i lo hi ∉ vis hi (vis lo R) := by
  intro hc
  rcases vis_sub _ _ _ hc with hc | hc
  · rcases vis_sub _ _ _ hc with hc | hc
    · exact h hc
    · simp only [B.sz] at hc; omega
  · simp only [B.sz] at hc; omega

theorem good_vis (b : B) : ∀ {R : List B}, good R → good (vis b R) := by
  induction b with
  | F => intro R h; exact h
  | T => intro R h; exact h
  | N i lo hi il ih =>
    intro R h
    unfold vis; split
    · exact h
    · exact ⟨notin_vis ‹_›, (inn_vis lo R).mono (mem_vis hi _), inn_vis hi _, ih (il h)⟩

/-- A set that is listed is passed over. -/
theorem vis_inn {b : B} {R : List B} (h : inn R b) : vis b R = R := by
  cases b with
  | F => rfl
  | T => rfl
  | N i lo hi =>
    have : B.N i lo hi ∈ R := by rcases h with h | h; cases h; exact h
    simp [vis, this]

theorem kids_inn {i : Nat} {lo hi : B} {R : List B} (hg : good R) (h : .N i lo hi ∈ R) : inn R lo ∧ inn R hi := (rows_at hg h).2

/-- What the work does with a feature and two sets: through the low one, through the high one, then the node. -/
theorem vis_mk {i : Nat} {lo hi : B} {R : List B} (hg : good R) :
    vis (mk i lo hi) R = if lo = hi then vis hi (vis lo R) else if .N i lo hi ∈ vis hi (vis lo R) then vis hi (vis lo R) else .N i lo hi :: vis hi (vis lo R) := by
  unfold mk
  by_cases e : lo = hi
  · subst e; rw [if_pos rfl, if_pos rfl, vis_inn (inn_vis lo R)]
  · rw [if_neg e, if_neg e]
    by_cases h : .N i lo hi ∈ R
    · obtain ⟨h1, h2⟩ := kids_inn hg h
      rw [vis_inn h1, vis_inn h2, if_pos h, vis_inn (.inr h)]
    · rw [if_neg (notin_vis h)]; rw [vis, if_neg h]

/-- The listing only grows: the older one is its tail. -/
theorem vis_suffix (b : B) : ∀ (R : List B), R <:+ vis b R := by
  induction b with
  | F => intro R; exact List.suffix_refl _
  | T => intro R; exact List.suffix_refl _
  | N i lo hi il ih =>
    intro R; unfold vis; split
    · exact List.suffix_refl _
    · exact (il R).trans ((ih _).trans (List.suffix_cons _ _))

theorem good_suffix : ∀ {R S : List B}, good S → R <:+ S → good R := by
  intro R S hS h
  induction S with
  | nil => rw [List.suffix_nil.1 h]; trivial
  | cons n s ih =>
    rcases List.suffix_cons_iff.1 h with rfl | h'
    · exact hS
    · cases n with
      | F => exact hS.elim
      | T => exact hS.elim
      | N i lo hi => exact ih hS.2.2.2 h'

theorem place_suffix {R S : List B} (hS : good S) (h : R <:+ S) {b : B} (hb : inn R b) : place S b = place R b := by
  induction S with
  | nil => rw [List.suffix_nil.1 h]
  | cons n s ih =>
    rcases List.suffix_cons_iff.1 h with rfl | h'
    · rfl
    · cases n with
      | F => exact hS.elim
      | T => exact hS.elim
      | N i lo hi =>
        rw [place_cons (hb.mono h'.subset) hS.1]
        exact ih hS.2.2.2 h'

end Go.Proofs.YtfhjpldlhhgcnaaDoor.Bd
