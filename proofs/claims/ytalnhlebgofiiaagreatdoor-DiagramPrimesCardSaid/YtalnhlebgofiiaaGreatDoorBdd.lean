
namespace Go.Proofs.YtalnhlebgofiiaaGreatDoor.Bd

inductive B where
  | F
  | T
  | N (i : Nat) (lo hi : B)
  deriving DecidableEq

abbrev Cfg := Nat → Bool
def up (c : Cfg) (i : Nat) (v : Bool) : Cfg := fun j => if j = i then v else c j
def cut (c : Cfg) : Cfg := fun j => decide (j < 24) && c j
def win (i : Nat) (c : Cfg) : Cfg := fun j => decide (i ≤ j) && (decide (j < 24) && c j)

def B.ev : B → Cfg → Bool
  | .F, _ => false
  | .T, _ => true
  | .N i lo hi, c => if c i then hi.ev c else lo.ev c

def B.ok : B → Nat → Prop
  | .F, _ => True
  | .T, _ => True
  | .N i lo hi, n => n ≤ i ∧ i < 24 ∧ lo ≠ hi ∧ lo.ok (i + 1) ∧ hi.ok (i + 1)

def mk (i : Nat) (lo hi : B) : B := if lo = hi then lo else .N i lo hi

theorem B.ok.mono {b : B} {n m : Nat} (h : b.ok n) (hm : m ≤ n) : b.ok m := by
  cases b with
  | F => trivial
  | T => trivial
  | N i lo hi => exact ⟨Nat.le_trans hm h.1, h.2⟩

theorem ok_mk {i : Nat} {lo hi : B} (hi' : i < 24) (hl : lo.ok (i + 1)) (hh : hi.ok (i + 1)) : (mk i lo hi).ok i := by
  unfold mk; split
  · exact hl.mono (by omega)
  · exact ⟨Nat.le_refl _, hi', by assumption, hl, hh⟩

theorem ev_mk (i : Nat) (lo hi : B) (c : Cfg) : (mk i lo hi).ev c = if c i then hi.ev c else lo.ev c := by
  unfold mk; split
  · subst_vars; simp
  · rfl

theorem ev_agree {b : B} : ∀ {n : Nat} {c d : Cfg}, b.ok n → (∀ j, n ≤ j → j < 24 → c j = d j) → b.ev c = b.ev d := by
  induction b with
  | F => intros; rfl
  | T => intros; rfl
  | N i lo hi il ih =>
    intro n c d h hc
    obtain ⟨h1, h2, _, h4, h5⟩ := h
    simp only [B.ev]
    rw [hc i h1 h2, il h4 (fun j hj => hc j (by omega)), ih h5 (fun j hj => hc j (by omega))]

/-- b with the feature i fixed, where no feature below i is left. -/
def B.fix (b : B) (i : Nat) (v : Bool) : B :=
  match b with
  | .N j lo hi => if j = i then (if v then hi else lo) else b
  | _ => b

theorem ok_fix {b : B} {i : Nat} (h : b.ok i) (v : Bool) : (b.fix i v).ok (i + 1) := by
  cases b with
  | F => trivial
  | T => trivial
  | N j lo hi =>
    obtain ⟨h1, h2, h3, h4, h5⟩ := h
    unfold B.fix
    split
    · rename_i e; injection e with e1 e2 e3; subst e1 e2 e3
      split
      · rename_i e; subst e; cases v <;> simp [h4, h5]
      · exact ⟨by omega, h2, h3, h4, h5⟩
    · rename_i e; exact absurd rfl (e _ _ _)

theorem ev_fix {b : B} {i : Nat} (h : b.ok i) (v : Bool) (c : Cfg) : (b.fix i v).ev c = b.ev (up c i v) := by
  cases b with
  | F => rfl
  | T => rfl
  | N j lo hi =>
    obtain ⟨h1, h2, h3, h4, h5⟩ := h
    simp only [B.fix]
    by_cases e : j = i
    · subst e
      simp only [if_true, B.ev]
      have hl : lo.ev (up c j v) = lo.ev c := ev_agree h4 (fun k hk _ => by simp [up]; intro; omega)
      have hh : hi.ev (up c j v) = hi.ev c := ev_agree h5 (fun k hk _ => by simp [up]; intro; omega)
      cases v <;> simp [up, hl, hh] <;> simp [up] at hl hh <;> simp [hl, hh]
    · rw [if_neg e]
      have hk : (B.N j lo hi).ok (i + 1) := ⟨by omega, h2, h3, h4, h5⟩
      exact ev_agree hk (fun k hk _ => by simp [up]; intro; omega)

theorem mk_fix {b : B} {i : Nat} (h : b.ok i) : mk i (b.fix i false) (b.fix i true) = b := by
  cases b with
  | F => rfl
  | T => rfl
  | N j lo hi =>
    obtain ⟨h1, h2, h3, h4, h5⟩ := h
    simp only [B.fix]
    by_cases e : j = i
    · subst e; simp [mk, h3]
    · simp [mk, e]

theorem ok_24 {b : B} (h : b.ok 24) : b = .F ∨ b = .T := by
  cases b with
  | F => exact .inl rfl
  | T => exact .inr rfl
  | N j lo hi => obtain ⟨h1, h2, _⟩ := h; omega

theorem uniq_k : ∀ (k n : Nat) {a b : B}, n + k = 24 → a.ok n → b.ok n → (∀ c, a.ev c = b.ev c) → a = b
  | 0, n, a, b, hn, ha, hb, h => by
    obtain rfl : n = 24 := by omega
    rcases ok_24 ha with rfl | rfl <;> rcases ok_24 hb with rfl | rfl
    · rfl
    · exact absurd (h (fun _ => false)) (by simp [B.ev])
    · exact absurd (h (fun _ => false)) (by simp [B.ev])
    · rfl
  | k + 1, n, a, b, hn, ha, hb, h => by
    rw [← mk_fix ha, ← mk_fix hb,
      uniq_k k (n + 1) (by omega) (ok_fix ha false) (ok_fix hb false) (fun c => by rw [ev_fix ha, ev_fix hb, h]),
      uniq_k k (n + 1) (by omega) (ok_fix ha true) (ok_fix hb true) (fun c => by rw [ev_fix ha, ev_fix hb, h])]

theorem uniq {a b : B} {n : Nat} (hn : n ≤ 24) (ha : a.ok n) (hb : b.ok n) (h : ∀ c, a.ev c = b.ev c) : a = b :=
  uniq_k (24 - n) n (by omega) ha hb h

def canF : Nat → Nat → (Cfg → Bool) → B
  | 0, _, f => if f (fun _ => false) then .T else .F
  | k + 1, i, f => mk i (canF k (i + 1) (fun c => f (up c i false))) (canF k (i + 1) (fun c => f (up c i true)))

theorem ok_canF : ∀ (k i : Nat) (f : Cfg → Bool), i + k = 24 → (canF k i f).ok i
  | 0, i, f, h => by unfold canF; split <;> trivial
  | k + 1, i, f, h => ok_mk (by omega) (ok_canF k (i + 1) _ (by omega)) (ok_canF k (i + 1) _ (by omega))

theorem ev_canF : ∀ (k i : Nat) (f : Cfg → Bool) (c : Cfg), i + k = 24 → (canF k i f).ev c = f (win i c)
  | 0, i, f, c, h => by
    obtain rfl : i = 24 := by omega
    have : win 24 c = fun _ => false := by
      funext j; simp [win]; intro a b; omega
    rw [this]; unfold canF; split <;> simp_all [B.ev]
  | k + 1, i, f, c, h => by
    unfold canF
    rw [ev_mk, ev_canF k (i + 1) _ c (by omega), ev_canF k (i + 1) _ c (by omega)]
    have e : ∀ v, c i = v → up (win (i + 1) c) i v = win i c := by
      intro v hv; funext j; simp only [up, win]
      by_cases hj : j = i
      · subst hj; simp [hv]; intro; omega
      · rw [if_neg hj]; by_cases hl : i ≤ j
        · have : i + 1 ≤ j := by omega
          simp [hl, this]
        · have : ¬ i + 1 ≤ j := by omega
          simp [hl, this]
    by_cases hc : c i = true
    · rw [if_pos hc, e true hc]
    · rw [if_neg hc, e false (by simpa using hc)]

theorem can_ex (f : Cfg → Bool) : ∃ b : B, b.ok 0 ∧ ∀ c, b.ev c = f (cut c) := by
  have h : ∀ k, 0 + k = 24 → ∃ b : B, b.ok 0 ∧ ∀ c, b.ev c = f (win 0 c) := fun k hk => ⟨_, ok_canF k 0 f hk, fun c => ev_canF k 0 f c hk⟩
  obtain ⟨b, h1, h2⟩ := h 24 (by omega)
  refine ⟨b, h1, fun c => (h2 c).trans ?_⟩
  have : win 0 c = cut c := by funext j; simp [win, cut]
  rw [this]
noncomputable def can (f : Cfg → Bool) : B := (can_ex f).choose
theorem ok_can (f : Cfg → Bool) : (can f).ok 0 := (can_ex f).choose_spec.1
theorem ev_can (f : Cfg → Bool) (c : Cfg) : (can f).ev c = f (cut c) := (can_ex f).choose_spec.2 c
theorem ev_cut {b : B} (h : b.ok 0) (c : Cfg) : b.ev (cut c) = b.ev c := ev_agree h (fun j _ hj => by simp [cut, hj])
theorem can_eq {f : Cfg → Bool} {a : B} (ha : a.ok 0) (h : ∀ c, f (cut c) = a.ev c) : can f = a :=
  uniq (by omega) (ok_can f) ha (fun c => by rw [ev_can, h])
theorem eq_of_ev {a b : B} (ha : a.ok 0) (hb : b.ok 0) (h : ∀ c, a.ev c = b.ev c) : a = b := uniq (by omega) ha hb h
theorem cut_cut (c : Cfg) : cut (cut c) = cut c := by funext j; simp [cut]

/-! ### listings, the newest node first -/
def B.const : B → Bool
  | .N _ _ _ => false
  | _ => true

def pos : List B → B → Nat
  | [], _ => 0
  | n :: r, b => if b = n then r.length else pos r b

def place (R : List B) : B → Nat
  | .F => 0
  | .T => 1
  | b => pos R b + 2

def inn (R : List B) (b : B) : Prop := b.const = true ∨ b ∈ R

def good : List B → Prop
  | [] => True
  | .N i lo hi :: r => .N i lo hi ∉ r ∧ inn r lo ∧ inn r hi ∧ good r
  | _ :: _ => False

def rows : List B → List (Nat × Nat × Nat)
  | [] => []
  | .N i lo hi :: r => rows r ++ [(i, place r lo, place r hi)]
  | _ :: r => rows r

def vis : B → List B → List B
  | .N i lo hi, R => if .N i lo hi ∈ R then R else .N i lo hi :: vis hi (vis lo R)
  | _, R => R

theorem inn.mono {R S : List B} {b : B} (h : inn R b) (hs : ∀ x ∈ R, x ∈ S) : inn S b := h.imp id (hs b)

theorem pos_lt {R : List B} {b : B} (h : b ∈ R) : pos R b < R.length := by
  induction R with
  | nil => cases h
  | cons n r ih =>
    unfold pos; split
    · simp
    · have := ih (by rcases List.mem_cons.1 h with e | e; exact absurd e ‹_›; exact e)
      simp; omega

theorem pos_cons {R : List B} {b n : B} (h : b ∈ R) (hn : n ∉ R) : pos (n :: R) b = pos R b := by
  rw [pos, if_neg]; rintro rfl; exact hn h

theorem place_cons {R : List B} {b n : B} (h : inn R b) (hn : n ∉ R) : place (n :: R) b = place R b := by
  cases b with
  | F => rfl
  | T => rfl
  | N i lo hi =>
    have : B.N i lo hi ∈ R := by rcases h with h | h; cases h; exact h
    simp [place, pos_cons this hn]

theorem rows_length : ∀ {R : List B}, good R → (rows R).length = R.length
  | [], _ => rfl
  | .N i lo hi :: r, h => by simp [rows, rows_length h.2.2.2]
  | .F :: _, h => h.elim
  | .T :: _, h => h.elim

theorem pos_inj : ∀ {R : List B} {a b : B}, a ∈ R → b ∈ R → pos R a = pos R b → a = b := by
  intro R
  induction R with
  | nil => intro a b h; cases h
  | cons n r ih =>
    intro a b ha hb h
    unfold pos at h
    by_cases ea : a = n <;> by_cases eb : b = n
    · rw [ea, eb]
    · rw [if_pos ea, if_neg eb] at h
      have := pos_lt (List.mem_of_ne_of_mem eb hb); omega
    · rw [if_neg ea, if_pos eb] at h
      have := pos_lt (List.mem_of_ne_of_mem ea ha); omega
    · rw [if_neg ea, if_neg eb] at h
      exact ih (List.mem_of_ne_of_mem ea ha) (List.mem_of_ne_of_mem eb hb) h

theorem place_inj {R : List B} {a b : B} (ha : inn R a) (hb : inn R b) (h : place R a = place R b) : a = b := by
  cases a <;> cases b <;> simp [place] at h <;> try rfl
  rename_i i lo hi j l2 h2
  have ha' : B.N i lo hi ∈ R := by rcases ha with h | h; cases h; exact h
  have hb' : B.N j l2 h2 ∈ R := by rcases hb with h | h; cases h; exact h
  exact pos_inj ha' hb' h

theorem place_lt {R : List B} {b : B} (h : inn R b) : place R b < R.length + 2 := by
  cases b with
  | F => simp [place]
  | T => simp [place]
  | N i lo hi =>
    have : B.N i lo hi ∈ R := by rcases h with h | h; cases h; exact h
    have := pos_lt this
    simp [place]; omega

/-- The row of a node that is listed. -/
theorem rows_at : ∀ {R : List B} {i : Nat} {lo hi : B}, good R → .N i lo hi ∈ R → (rows R)[pos R (.N i lo hi)]? = some (i, place R lo, place R hi) ∧ inn R lo ∧ inn R hi
  | [], _, _, _, _, h => by cases h
  | .F :: _, _, _, _, hg, _ => hg.elim
  | .T :: _, _, _, _, hg, _ => hg.elim
  | .N j l h' :: r, i, lo, hi, hg, h => by
    obtain ⟨hn, hl, hh, hr⟩ := hg
    by_cases e : B.N i lo hi = .N j l h'
    · cases e
      refine ⟨?_, hl.mono (by intro x hx; exact List.mem_cons_of_mem _ hx), hh.mono (by intro x hx; exact List.mem_cons_of_mem _ hx)⟩
      rw [pos, if_pos rfl, rows, place_cons hl hn, place_cons hh hn, ← rows_length hr]
      simp
    · have hm := List.mem_of_ne_of_mem e h
      obtain ⟨h1, h2, h3⟩ := rows_at hr hm
      refine ⟨?_, h2.mono (by intro x hx; exact List.mem_cons_of_mem _ hx), h3.mono (by intro x hx; exact List.mem_cons_of_mem _ hx)⟩
      rw [pos_cons hm hn, place_cons h2 hn, place_cons h3 hn, rows]
      have := pos_lt hm
      rw [List.getElem?_append_left (by rw [rows_length hr]; exact this), h1]

theorem good_all_N : ∀ {R : List B}, good R → ∀ b ∈ R, b.const = false
  | [], _, _, h => by cases h
  | .N _ _ _ :: r, hg, b, h => by
    rcases List.mem_cons.1 h with rfl | h
    · rfl
    · exact good_all_N hg.2.2.2 b h
  | .F :: _, hg, _, _ => hg.elim
  | .T :: _, hg, _, _ => hg.elim

/-- size of a tree, to see that a node is not below itself -/
def B.sz : B → Nat
  | .N _ lo hi => lo.sz + hi.sz + 1
  | _ => 0

theorem vis_sub (b : B) : ∀ (R : List B) (x : B), x ∈ vis b R → x ∈ R ∨ x.sz ≤ b.sz := by
  induction b with
  | F => intro R x h; exact .inl h
  | T => intro R x h; exact .inl h
  | N i lo hi il ih =>
    intro R x h
    unfold vis at h; split at h
    · exact .inl h
    · rcases List.mem_cons.1 h with rfl | h
      · exact .inr (Nat.le_refl _)
      · rcases ih _ x h with h | h
        · rcases il _ x h with h | h
          · exact .inl h
          · right; simp only [B.sz]; omega
        · right; simp only [B.sz]; omega

theorem mem_vis (b : B) : ∀ (R : List B) (x : B), x ∈ R → x ∈ vis b R := by
  induction b with
  | F => intro R x h; exact h
  | T => intro R x h; exact h
  | N i lo hi il ih =>
    intro R x h
    unfold vis; split
    · exact h
    · exact List.mem_cons_of_mem _ (ih _ _ (il _ _ h))

theorem inn_vis (b : B) (R : List B) : inn (vis b R) b := by
  cases b with
  | F => exact .inl rfl
  | T => exact .inl rfl
  | N i lo hi =>
    right; unfold vis; split
    · assumption
    · simp

theorem notin_vis {i : Nat} {lo hi : B} {R : List B} (h : .N i lo hi ∉ R) : .N i lo hi ∉ vis hi (vis lo R) := by
  intro hc
  rcases vis_sub _ _ _ hc with hc | hc
  · rcases vis_sub _ _ _ hc with hc | hc
    · exact h hc
    · simp only [B.sz] at hc; omega
  · simp only [B.sz] at hc; omega

theorem good_vis (b : B) : ∀ {R : List B}, good R → good (vis b R) := by
  induction b with
  | F => intro R h; exact h
  | T => intro R h; exact h
  | N i lo hi il ih =>
    intro R h
    unfold vis; split
    · exact h
    · exact ⟨notin_vis ‹_›, (inn_vis lo R).mono (mem_vis hi _), inn_vis hi _, ih (il h)⟩

/-- A set that is listed is passed over. -/
theorem vis_inn {b : B} {R : List B} (h : inn R b) : vis b R = R := by
  cases b with
  | F => rfl
  | T => rfl
  | N i lo hi =>
    have : B.N i lo hi ∈ R := by rcases h with h | h; cases h; exact h
    simp [vis, this]

theorem kids_inn {i : Nat} {lo hi : B} {R : List B} (hg : good R) (h : .N i lo hi ∈ R) : inn R lo ∧ inn R hi := (rows_at hg h).2

/-- What the work does with a feature and two sets: through the low one, through the high one, then the node. -/
theorem vis_mk {i : Nat} {lo hi : B} {R : List B} (hg : good R) :
    vis (mk i lo hi) R = if lo = hi then vis hi (vis lo R) else if .N i lo hi ∈ vis hi (vis lo R) then vis hi (vis lo R) else .N i lo hi :: vis hi (vis lo R) := by
  unfold mk
  by_cases e : lo = hi
  · subst e; rw [if_pos rfl, if_pos rfl, vis_inn (inn_vis lo R)]
  · rw [if_neg e, if_neg e]
    by_cases h : .N i lo hi ∈ R
    · obtain ⟨h1, h2⟩ := kids_inn hg h
      rw [vis_inn h1, vis_inn h2, if_pos h, vis_inn (.inr h)]
    · rw [if_neg (notin_vis h)]; rw [vis, if_neg h]

/-- The listing only grows: the older one is its tail. -/
theorem vis_suffix (b : B) : ∀ (R : List B), R <:+ vis b R := by
  induction b with
  | F => intro R; exact List.suffix_refl _
  | T => intro R; exact List.suffix_refl _
  | N i lo hi il ih =>
    intro R; unfold vis; split
    · exact List.suffix_refl _
    · exact (il R).trans ((ih _).trans (List.suffix_cons _ _))

theorem good_suffix : ∀ {R S : List B}, good S → R <:+ S → good R := by
  intro R S hS h
  induction S with
  | nil => rw [List.suffix_nil.1 h]; trivial
  | cons n s ih =>
    rcases List.suffix_cons_iff.1 h with rfl | h'
    · exact hS
    · cases n with
      | F => exact hS.elim
      | T => exact hS.elim
      | N i lo hi => exact ih hS.2.2.2 h'

theorem place_suffix {R S : List B} (hS : good S) (h : R <:+ S) {b : B} (hb : inn R b) : place S b = place R b := by
  induction S with
  | nil => rw [List.suffix_nil.1 h]
  | cons n s ih =>
    rcases List.suffix_cons_iff.1 h with rfl | h'
    · rfl
    · cases n with
      | F => exact hS.elim
      | T => exact hS.elim
      | N i lo hi =>
        rw [place_cons (hb.mono h'.subset) hS.1]
        exact ih hS.2.2.2 h'

end Go.Proofs.YtalnhlebgofiiaaGreatDoor.Bd
namespace Go.Proofs.YtalnhlebgofiiaaGreatDoor.Bd

/-! ### how many nodes there can be -/
theorem nodup_le {α : Type} [DecidableEq α] : ∀ {R M : List α}, R.Nodup → (∀ x ∈ R, x ∈ M) → R.length ≤ M.length
  | [], _, _, _ => Nat.zero_le _
  | n :: r, M, hn, h => by
    obtain ⟨A, C, rfl⟩ := List.append_of_mem (h n (by simp))
    obtain ⟨h1, h2⟩ := List.nodup_cons.1 hn
    have : r.length ≤ (A ++ C).length := nodup_le h2 (fun x hx => by
      have hm := h x (List.mem_cons_of_mem _ hx)
      have hne : x ≠ n := by rintro rfl; exact h1 hx
      simp at hm ⊢; rcases hm with h | h | h
      · exact .inl h
      · exact absurd h hne
      · exact .inr h)
    simp at this ⊢; omega

def allB : Nat → Nat → List B
  | 0, _ => [.F, .T]
  | k + 1, i => (allB k (i + 1)).flatMap fun lo => (allB k (i + 1)).map fun hi => mk i lo hi

theorem mem_allB : ∀ (k i : Nat) {b : B}, i + k = 24 → b.ok i → b ∈ allB k i
  | 0, i, b, h, hb => by
    obtain rfl : i = 24 := by omega
    rcases ok_24 hb with rfl | rfl <;> simp [allB]
  | k + 1, i, b, h, hb => by
    rw [allB, ← mk_fix hb]
    exact List.mem_flatMap.2 ⟨_, mem_allB k (i + 1) (by omega) (ok_fix hb false), List.mem_map.2 ⟨_, mem_allB k (i + 1) (by omega) (ok_fix hb true), rfl⟩⟩

theorem length_flat {α β : Type} (l : List α) (f : α → List β) (n : Nat) (h : ∀ x, (f x).length = n) : (l.flatMap f).length = l.length * n := by
  induction l with
  | nil => simp
  | cons a l ih => simp [List.flatMap_cons, ih, h, Nat.add_mul]; omega

theorem length_allB (k i : Nat) : (allB (k + 1) i).length = (allB k (i + 1)).length * (allB k (i + 1)).length := by
  rw [allB, length_flat _ _ (allB k (i + 1)).length (by simp)]

theorem length_allB4 (i : Nat) : (allB 4 i).length = 65536 := by
  simp [length_allB]; simp [allB]

def cofs : Nat → Nat → B → List B
  | 0, _, _ => []
  | k + 1, i, b => b :: (cofs k (i + 1) (b.fix i false) ++ cofs k (i + 1) (b.fix i true))

theorem length_cofs : ∀ (k i : Nat) (b : B), (cofs k i b).length + 1 = 2 ^ k
  | 0, _, _ => rfl
  | k + 1, i, b => by
    have h1 := length_cofs k (i + 1) (b.fix i false)
    have h2 := length_cofs k (i + 1) (b.fix i true)
    simp [cofs, Nat.pow_succ]; omega

def B.top : B → Nat
  | .N i _ _ => i
  | _ => 24

/-- below: s is b or below it -/
def sub (s : B) : B → Prop
  | .N i lo hi => s = .N i lo hi ∨ sub s lo ∨ sub s hi
  | b => s = b

theorem top_ge {b : B} {n : Nat} (h : b.ok n) (hn : n ≤ 24) : n ≤ b.top := by
  cases b with
  | F => exact hn
  | T => exact hn
  | N i lo hi => exact h.1

theorem sub_ok {s b : B} : ∀ {n : Nat}, b.ok n → sub s b → s.ok n := by
  induction b with
  | F => intro n h hs; obtain rfl : s = .F := hs; trivial
  | T => intro n h hs; obtain rfl : s = .T := hs; trivial
  | N i lo hi il ih =>
    intro n h hs
    rcases hs with rfl | hs | hs
    · exact h
    · exact (il h.2.2.2.1 hs).mono (by have := h.1; omega)
    · exact (ih h.2.2.2.2 hs).mono (by have := h.1; omega)

theorem sub_fix {s b : B} {i : Nat} (h : sub s b) : s = b ∨ sub s (b.fix i false) ∨ sub s (b.fix i true) := by
  cases b with
  | F => exact .inl h
  | T => exact .inl h
  | N j lo hi =>
    by_cases e : j = i
    · rcases h with h | h | h
      · exact .inl h
      · exact .inr (.inl (by simpa [B.fix, e] using h))
      · exact .inr (.inr (by simpa [B.fix, e] using h))
    · exact .inr (.inl (by simpa [B.fix, e] using h))

theorem mem_cofs : ∀ (k i : Nat) {s b : B}, b.ok i → i ≤ 24 → i + k ≤ 24 → sub s b → s.top < i + k → s ∈ cofs k i b
  | 0, i, s, b, hb, hi, hk, hs, ht => by have := top_ge (sub_ok hb hs) hi; omega
  | k + 1, i, s, b, hb, hi, hk, hs, ht => by
    rw [cofs]
    rcases sub_fix (i := i) hs with rfl | h | h
    · simp
    · exact List.mem_cons_of_mem _ (List.mem_append_left _ (mem_cofs k (i + 1) (ok_fix hb _) (by omega) (by omega) h (by omega)))
    · exact List.mem_cons_of_mem _ (List.mem_append_right _ (mem_cofs k (i + 1) (ok_fix hb _) (by omega) (by omega) h (by omega)))

theorem vis_subs (b : B) : ∀ (R : List B) (x : B), x ∈ vis b R → x ∈ R ∨ sub x b := by
  induction b with
  | F => intro R x h; exact .inl h
  | T => intro R x h; exact .inl h
  | N i lo hi il ih =>
    intro R x h
    unfold vis at h; split at h
    · exact .inl h
    · rcases List.mem_cons.1 h with rfl | h
      · exact .inr (.inl rfl)
      · rcases ih _ x h with h | h
        · rcases il _ x h with h | h
          · exact .inl h
          · exact .inr (.inr (.inl h))
        · exact .inr (.inr (.inr h))

theorem good_nodup : ∀ {R : List B}, good R → R.Nodup
  | [], _ => List.nodup_nil
  | .N _ _ _ :: _, h => List.nodup_cons.2 ⟨h.1, good_nodup h.2.2.2⟩
  | .F :: _, h => h.elim
  | .T :: _, h => h.elim

theorem ok_of_top {s : B} {n m : Nat} (h : s.ok n) (hm : m ≤ s.top) : s.ok m := by
  cases s with
  | F => trivial
  | T => trivial
  | N i lo hi => exact ⟨hm, h.2⟩

/-- FEWER THAN 2^21 NODES. -/
theorem few {b : B} (hb : b.ok 0) : (vis b []).length < 2097152 := by
  have hd := good_nodup (good_vis b (R := []) trivial)
  have hs : ∀ x ∈ vis b [], x ∈ cofs 20 0 b ++ allB 4 20 := by
    intro x hx
    have hx' : sub x b := (vis_subs b [] x hx).resolve_left (by simp)
    by_cases ht : x.top < 20
    · exact List.mem_append_left _ (mem_cofs 20 0 hb (by omega) (by omega) hx' (by omega))
    · exact List.mem_append_right _ (mem_allB 4 20 (by omega) (ok_of_top (sub_ok hb hx') (by omega)))
  have h1 := nodup_le hd hs
  rw [List.length_append, length_allB4] at h1
  have h2 := length_cofs 20 0 b
  omega

/-! ### the bytes -/
def b3 (p : Nat) : List UInt8 := [UInt8.ofNat p, UInt8.ofNat (p / 256), UInt8.ofNat (p / 65536)]
def rowCode (r : Nat × Nat × Nat) : List UInt8 := UInt8.ofNat r.1 :: (b3 r.2.1 ++ b3 r.2.2)
def code (rs : List (Nat × Nat × Nat)) : List UInt8 := rs.flatMap rowCode

theorem rowCode_length (_r : Nat × Nat × Nat) : (rowCode _r).length = 7 := rfl
theorem code_length (rs : List (Nat × Nat × Nat)) : (code rs).length = 7 * rs.length := by
  unfold code; rw [length_flat _ _ 7 (by intro; rfl)]; omega
theorem code_snoc (rs : List (Nat × Nat × Nat)) (r : Nat × Nat × Nat) : code (rs ++ [r]) = code rs ++ rowCode r := by simp [code]
theorem code_at {rs : List (Nat × Nat × Nat)} {k : Nat} {r : Nat × Nat × Nat} (h : rs[k]? = some r) (j : Nat) (hj : j < 7) : (code rs)[7 * k + j]? = (rowCode r)[j]? := by
  induction rs generalizing k with
  | nil => simp at h
  | cons a rs ih =>
    have e : code (a :: rs) = rowCode a ++ code rs := rfl
    cases k with
    | zero =>
      simp at h; subst h
      rw [e, List.getElem?_append_left (by rw [rowCode_length]; omega)]; simp
    | succ k =>
      simp at h
      rw [e, List.getElem?_append_right (by rw [rowCode_length]; omega), rowCode_length, ← ih h]
      congr 1; omega

theorem b3_val {p : Nat} (h : p < 16777216) : (UInt8.ofNat p).toNat + 256 * (UInt8.ofNat (p / 256)).toNat + 65536 * (UInt8.ofNat (p / 65536)).toNat = p := by
  simp only [UInt8.toNat_ofNat']; omega

theorem rowCode_inj {r s : Nat × Nat × Nat} (hr : r.1 < 256 ∧ r.2.1 < 16777216 ∧ r.2.2 < 16777216) (hs : s.1 < 256 ∧ s.2.1 < 16777216 ∧ s.2.2 < 16777216) (h : rowCode r = rowCode s) : r = s := by
  obtain ⟨i, l, u⟩ := r
  obtain ⟨j, m, v⟩ := s
  simp only [rowCode, b3, List.cons_append, List.nil_append, List.cons.injEq, and_true] at h
  obtain ⟨h0, h1, h2, h3, h4, h5, h6⟩ := h
  have e1 := b3_val hr.2.1
  have e2 := b3_val hs.2.1
  have e3 := b3_val hr.2.2
  have e4 := b3_val hs.2.2
  have e0 := congrArg UInt8.toNat h0
  simp only [UInt8.toNat_ofNat'] at e0
  simp only at hr hs e1 e2 e3 e4
  rw [h1, h2, h3] at e1
  rw [h4, h5, h6] at e3
  have a1 : i = j := by omega
  have a2 : l = m := by omega
  have a3 : u = v := by omega
  rw [a1, a2, a3]

theorem code_inj : ∀ {rs ss : List (Nat × Nat × Nat)}, (∀ r ∈ rs, r.1 < 256 ∧ r.2.1 < 16777216 ∧ r.2.2 < 16777216) → (∀ r ∈ ss, r.1 < 256 ∧ r.2.1 < 16777216 ∧ r.2.2 < 16777216) → code rs = code ss → rs = ss
  | [], [], _, _, _ => rfl
  | [], s :: ss, _, _, h => by have := congrArg List.length h; rw [code_length, code_length] at this; simp at this
  | r :: rs, [], _, _, h => by have := congrArg List.length h; rw [code_length, code_length] at this; simp at this
  | r :: rs, s :: ss, h1, h2, h => by
    have e : rowCode r ++ code rs = rowCode s ++ code ss := h
    obtain ⟨e1, e2⟩ := List.append_inj e (by rfl)
    rw [rowCode_inj (h1 r (by simp)) (h2 s (by simp)) e1, code_inj (fun x hx => h1 x (List.mem_cons_of_mem _ hx)) (fun x hx => h2 x (List.mem_cons_of_mem _ hx)) e2]

/-- Listings with the same rows are the same. -/
theorem rows_inj : ∀ {R S : List B}, good R → good S → rows R = rows S → R = S
  | [], [], _, _, _ => rfl
  | [], .N _ _ _ :: s, _, hs, h => by simp [rows] at h
  | .N _ _ _ :: r, [], hr, _, h => by simp [rows] at h
  | .N i l u :: r, .N j m v :: s, hr, hs, h => by
    simp only [rows] at h
    obtain ⟨e1, e2⟩ := List.append_inj' h rfl
    obtain rfl := rows_inj hr.2.2.2 hs.2.2.2 e1
    simp at e2
    obtain ⟨rfl, e3, e4⟩ := e2
    rw [place_inj hr.2.1 hs.2.1 e3, place_inj hr.2.2.1 hs.2.2.1 e4]
  | .F :: _, _, h, _, _ => h.elim
  | .T :: _, _, h, _, _ => h.elim
  | [], .F :: _, _, h, _ => h.elim
  | [], .T :: _, _, h, _ => h.elim
  | .N _ _ _ :: _, .F :: _, _, h, _ => h.elim
  | .N _ _ _ :: _, .T :: _, _, h, _ => h.elim

def li (b : B) : List B := vis b []
theorem good_li (b : B) : good (li b) := good_vis b trivial
theorem inn_li (b : B) : inn (li b) b := inn_vis b []

def small (R : List B) : Prop := R.length < 2097152 ∧ ∀ b ∈ R, b.ok 0

theorem rows_small : ∀ {R : List B}, good R → small R → ∀ r ∈ rows R, r.1 < 24 ∧ r.2.1 < 2097154 ∧ r.2.2 < 2097154
  | [], _, _, r, h => by simp [rows] at h
  | .N i l u :: t, hg, hs, r, h => by
    simp only [rows, List.mem_append, List.mem_singleton] at h
    rcases h with h | rfl
    · exact rows_small hg.2.2.2 ⟨by have := hs.1; simp at this; omega, fun b hb => hs.2 b (List.mem_cons_of_mem _ hb)⟩ r h
    · have h1 := place_lt hg.2.1
      have h2 := place_lt hg.2.2.1
      have h3 := hs.1
      have h4 := (hs.2 (.N i l u) (by simp)).2.1
      simp at h3 ⊢; omega
  | .F :: _, h, _, _, _ => h.elim
  | .T :: _, h, _, _, _ => h.elim

theorem small_li {b : B} (hb : b.ok 0) : small (li b) := ⟨few hb, fun x hx => sub_ok hb ((vis_subs b [] x hx).resolve_left (by simp))⟩

theorem small_suffix {R S : List B} (h : R <:+ S) (hs : small S) : small R := ⟨Nat.lt_of_le_of_lt h.length_le hs.1, fun b hb => hs.2 b (h.subset hb)⟩

/-- A set is what its place and its bytes say. -/
theorem enc_inj {a b : B} (ha : a.ok 0) (hb : b.ok 0) (h1 : place (li a) a = place (li b) b) (h2 : code (rows (li a)) = code (rows (li b))) : a = b := by
  have h3 := code_inj (fun r hr => by have := rows_small (good_li a) (small_li ha) r hr; omega) (fun r hr => by have := rows_small (good_li b) (small_li hb) r hr; omega) h2
  have h4 := rows_inj (good_li a) (good_li b) h3
  rw [← h4] at h1
  exact place_inj (inn_li a) (h4 ▸ inn_li b) h1

end Go.Proofs.YtalnhlebgofiiaaGreatDoor.Bd
