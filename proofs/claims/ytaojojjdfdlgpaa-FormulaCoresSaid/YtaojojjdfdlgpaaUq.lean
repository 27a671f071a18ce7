import Derived.Test.YtaojojjdfdlgpaaRw
namespace Go.Proofs.Ytaojojjdfdlgpaa
namespace Uq
/-! a pure deduction -/
structure DS where
  holds : Int → Bool
  reason : Int → Option Nat
  watched : Int → List Nat
  cl : Nat → List Int
  trail : List Int
  next : Nat
  known : Nat
  conflict : Option Nat
  broken : Bool

def upF {α β : Type} [DecidableEq α] (f : α → β) (i : α) (v : β) : α → β := fun j => if j = i then v else f j
theorem upF_same {α β : Type} [DecidableEq α] (f : α → β) (i : α) (v : β) : upF f i v i = v := by simp [upF]
theorem upF_other {α β : Type} [DecidableEq α] (f : α → β) {i j : α} (v : β) (h : j ≠ i) : upF f i v j = f j := by simp [upF, h]

def noteP (s : DS) (l : Int) (r : Option Nat) : Bool × DS :=
  if s.holds l = true then (true, s)
  else if s.holds (-l) = true then (false, { s with conflict := r })
  else (true, { s with holds := upF s.holds l true, reason := upF s.reason l r, trail := s.trail ++ [l] })

def normP : List Int → Int → List Int
  | a :: b :: t, lit => if a = lit then b :: a :: t else a :: b :: t
  | c, _ => c

/-- the first of the other literals that is not false -/
def othP (h : Int → Bool) : List Int → Option Nat
  | [] => none
  | x :: t => if h (-x) = false then some 0 else (othP h t).map (· + 1)

def handP (s : DS) (g : Nat) (lit : Int) : Bool × DS :=
  match normP (s.cl g) lit with
  | a :: b :: t =>
    if s.holds a = true then (false, { s with cl := upF s.cl g (a :: b :: t) })
    else match othP s.holds t with
      | none => (false, { s with cl := upF s.cl g (a :: b :: t) })
      | some k => (true, { s with cl := upF s.cl g (a :: t.getD k 0 :: t.set k lit), watched := upF s.watched (t.getD k 0) (s.watched (t.getD k 0) ++ [g]) })
  | _ => (false, s)

def lookP (lit : Int) : List Nat → List Nat → DS → Bool × DS
  | [], kept, s => (true, { s with watched := upF s.watched lit kept })
  | g :: rest, kept, s =>
    if (handP s g lit).1 = true then lookP lit rest kept (handP s g lit).2
    else if (noteP (handP s g lit).2 (((handP s g lit).2.cl g).headD 0) (some g)).1 = true then
      lookP lit rest (kept ++ [g]) (noteP (handP s g lit).2 (((handP s g lit).2.cl g).headD 0) (some g)).2
    else (false, { (noteP (handP s g lit).2 (((handP s g lit).2.cl g).headD 0) (some g)).2 with
        watched := upF (noteP (handP s g lit).2 (((handP s g lit).2.cl g).headD 0) (some g)).2.watched lit (kept ++ g :: rest) })

def propP : Nat → DS → Bool × DS
  | 0, s => (true, s)
  | n + 1, s =>
    match s.trail[s.next]? with
    | none => (true, s)
    | some l =>
      if (lookP (-l) (s.watched (-l)) [] { s with next := s.next + 1 }).1 = true then propP n (lookP (-l) (s.watched (-l)) [] { s with next := s.next + 1 }).2
      else (false, (lookP (-l) (s.watched (-l)) [] { s with next := s.next + 1 }).2)

/-! what is always so -/
def Ltr (x : Int) : Prop := x ≠ 0 ∧ -24 ≤ x ∧ x ≤ 24
theorem Ltr.neg {x : Int} (h : Ltr x) : Ltr (-x) := by unfold Ltr at *; omega
theorem Ltr.ne_neg {x : Int} (h : Ltr x) : -x ≠ x := by unfold Ltr at *; omega

structure Tra (s : DS) : Prop where
  nodup : s.trail.Nodup
  lits : ∀ x ∈ s.trail, Ltr x
  cons : ∀ x ∈ s.trail, -x ∉ s.trail
  holds : ∀ x, s.holds x = true ↔ x ∈ s.trail

/-- a clause that is kept: two watchers ahead -/
def Two (c : List Int) : Prop := 2 ≤ c.length ∧ c.Nodup ∧ ∀ x ∈ c, Ltr x
def wa (c : List Int) (x : Int) : Prop := c[0]? = some x ∨ c[1]? = some x

structure Wat (ids : List Nat) (wt : Int → List Nat) (cl : Nat → List Int) : Prop where
  two : ∀ g ∈ ids, Two (cl g)
  nodup : ∀ x, (wt x).Nodup
  mem : ∀ x g, g ∈ wt x ↔ g ∈ ids ∧ wa (cl g) x

/-- where a watcher is false in T, the other one is in U -/
def Clo (ids : List Nat) (cl : Nat → List Int) (T U : List Int) : Prop :=
  ∀ g ∈ ids, ∀ a b t, cl g = a :: b :: t → (-a ∈ T → b ∈ U) ∧ (-b ∈ T → a ∈ U)

theorem Tra.note {s : DS} (h : Tra s) {l : Int} (hl : Ltr l) (r : Option Nat) : Tra (noteP s l r).2 ∧
    ((noteP s l r).1 = true → l ∈ (noteP s l r).2.trail ∧ ∃ t, (noteP s l r).2.trail = s.trail ++ t ∧ (t = [] ∨ t = [l])) ∧
    ((noteP s l r).1 = false → -l ∈ s.trail ∧ (noteP s l r).2.trail = s.trail) ∧
    (noteP s l r).2.watched = s.watched ∧ (noteP s l r).2.cl = s.cl ∧ (noteP s l r).2.next = s.next ∧ (noteP s l r).2.known = s.known ∧ (noteP s l r).2.broken = s.broken := by
  unfold noteP
  split
  · rename_i h1
    exact ⟨h, fun _ => ⟨(h.holds l).1 h1, [], by simp, .inl rfl⟩, fun e => by simp at e, rfl, rfl, rfl, rfl, rfl⟩
  · rename_i h1
    split
    · rename_i h2
      exact ⟨⟨h.nodup, h.lits, h.cons, h.holds⟩, fun e => by simp at e, fun _ => ⟨(h.holds _).1 h2, rfl⟩, rfl, rfl, rfl, rfl, rfl⟩
    · rename_i h2
      have n1 : l ∉ s.trail := fun e => h1 ((h.holds l).2 e)
      have n2 : -l ∉ s.trail := fun e => h2 ((h.holds _).2 e)
      refine ⟨⟨?_, ?_, ?_, ?_⟩, fun _ => ⟨by simp, [l], rfl, .inr rfl⟩, fun e => by simp at e, rfl, rfl, rfl, rfl, rfl⟩
      · show (s.trail ++ [l]).Nodup
        rw [List.nodup_append]
        exact ⟨h.nodup, by simp, fun a ha b hb e => n1 (by simp at hb; rw [← hb, ← e]; exact ha)⟩
      · intro x hx
        rcases List.mem_append.1 hx with hx | hx
        · exact h.lits x hx
        · simp at hx; rw [hx]; exact hl
      · intro x hx hn
        rcases List.mem_append.1 hx with hx | hx <;> rcases List.mem_append.1 hn with hn | hn
        · exact h.cons x hx hn
        · simp at hn; exact n2 (by rw [← hn]; simpa using hx)
        · simp at hx; rw [hx] at hn; exact n2 hn
        · simp at hx hn; rw [hx] at hn; exact hl.ne_neg hn
      · intro x
        show upF s.holds l true x = true ↔ x ∈ s.trail ++ [l]
        by_cases e : x = l
        · rw [e, upF_same]; simp
        · rw [upF_other _ _ e, h.holds]; simp [e]

theorem othP_none {h : Int → Bool} : ∀ {t : List Int}, othP h t = none → ∀ x ∈ t, h (-x) = true
  | [], _, x, hx => by simp at hx
  | y :: t, e, x, hx => by
    rw [othP] at e
    split at e
    · cases e
    · rename_i hy
      rcases List.mem_cons.1 hx with rfl | hx
      · simpa using hy
      · exact othP_none (by simpa using e) x hx
theorem othP_some {h : Int → Bool} : ∀ {t : List Int} {k : Nat}, othP h t = some k → k < t.length ∧ h (-(t.getD k 0)) = false
  | [], k, e => by simp [othP] at e
  | y :: t, k, e => by
    rw [othP] at e
    split at e
    · rename_i hy
      cases e
      exact ⟨by simp, by simpa using hy⟩
    · cases hq : othP h t with
      | none => rw [hq] at e; simp at e
      | some j =>
        rw [hq] at e
        simp at e
        subst e
        have := othP_some hq
        exact ⟨by simp; omega, by simpa using this.2⟩
theorem Two.form {c : List Int} (h : Two c) : ∃ a b t, c = a :: b :: t := by
  match c, h.1 with
  | a :: b :: t, _ => exact ⟨a, b, t, rfl⟩
theorem set_perm : ∀ {t : List Int} {k : Nat} {b : Int}, k < t.length → (t.getD k 0 :: t.set k b).Perm (b :: t)
  | y :: t, 0, b, _ => by simpa using List.Perm.swap b y t
  | y :: t, k + 1, b, h => by
    have ih := set_perm (t := t) (k := k) (b := b) (by simpa using h)
    have e1 : (y :: t).getD (k + 1) 0 = t.getD k 0 := by simp
    have e2 : (y :: t).set (k + 1) b = y :: t.set k b := by simp
    rw [e1, e2]
    exact ((List.Perm.swap y _ _).trans (ih.cons y)).trans (List.Perm.swap b y t)
theorem Two.perm {c d : List Int} (h : Two c) (p : d.Perm c) : Two d :=
  ⟨by rw [p.length_eq]; exact h.1, p.nodup_iff.2 h.2.1, fun x hx => h.2.2 x (p.mem_iff.1 hx)⟩
theorem norm_perm (c : List Int) (lit : Int) : (normP c lit).Perm c := by
  unfold normP
  split
  · split
    · exact List.Perm.swap _ _ _
    · exact .refl _
  · exact .refl _
theorem norm_wa (c : List Int) (lit x : Int) : wa (normP c lit) x ↔ wa c x := by
  unfold normP
  split
  · split
    · simp [wa]; omega
    · rfl
  · rfl
/-- with lit a watcher, it is the second one then -/
theorem norm_form {c : List Int} {lit : Int} (h : Two c) (hw : wa c lit) : ∃ a t, normP c lit = a :: lit :: t ∧ a ≠ lit := by
  obtain ⟨a, b, t, rfl⟩ := h.form
  have hn : a ≠ b := fun e => by have := h.2.1; rw [e] at this; simp at this
  rw [normP]
  split
  · rename_i e
    exact ⟨b, t, by rw [e], fun e' => hn (by rw [e', e])⟩
  · rename_i e
    rcases hw with hw | hw
    · simp at hw; exact absurd hw e
    · simp at hw; exact ⟨a, t, by rw [hw], e⟩

/-- what a clause is handed on to -/
structure Hand (s s' : DS) (g : Nat) (lit : Int) (ok : Bool) : Prop where
  trail : s'.trail = s.trail
  holds : s'.holds = s.holds
  next : s'.next = s.next
  known : s'.known = s.known
  broken : s'.broken = s.broken
  cl : ∀ k, k ≠ g → s'.cl k = s.cl k
  perm : (s'.cl g).Perm (s.cl g)
  no : ok = false → s'.watched = s.watched ∧ ∃ a t, s'.cl g = a :: lit :: t ∧ a ≠ lit ∧ (∀ x, wa (s'.cl g) x ↔ wa (s.cl g) x) ∧ (a ∈ s.trail ∨ ∀ x ∈ t, -x ∈ s.trail)
  yes : ok = true → ∃ a o t, s'.cl g = a :: o :: t ∧ o ≠ lit ∧ -o ∉ s.trail ∧ (∀ x, wa (s.cl g) x ↔ x = a ∨ x = lit) ∧ a ≠ lit ∧ a ≠ o ∧ o ≠ a ∧ ¬ wa (s.cl g) o ∧ s'.watched = upF s.watched o (s.watched o ++ [g])

theorem hand_all {s : DS} (h : Tra s) {g : Nat} {lit : Int} (h2 : Two (s.cl g)) (hw : wa (s.cl g) lit) : Hand s (handP s g lit).2 g lit (handP s g lit).1 := by
  obtain ⟨a, t, hn, hal⟩ := norm_form h2 hw
  have hp := norm_perm (s.cl g) lit
  have hwn := norm_wa (s.cl g) lit
  unfold handP
  rw [hn] at hp hwn ⊢
  have hT := h2.perm hp
  have hnd := hT.2.1
  have hwl : ∀ x, wa (s.cl g) x ↔ x = a ∨ x = lit := fun x => by rw [← hwn]; simp [wa]; constructor <;> (rintro (h | h)) <;> simp [h]
  simp only
  split
  · rename_i ha
    refine ⟨rfl, rfl, rfl, rfl, rfl, fun k hk => upF_other _ _ hk, by dsimp only; rw [upF_same]; exact hp, fun _ => ⟨rfl, a, t, upF_same _ _ _, hal, fun x => by dsimp only; rw [upF_same]; exact hwn x, .inl ((h.holds a).1 ha)⟩, fun e => by simp at e⟩
  · rename_i ha
    split
    · rename_i ho
      refine ⟨rfl, rfl, rfl, rfl, rfl, fun k hk => upF_other _ _ hk, by dsimp only; rw [upF_same]; exact hp, fun _ => ⟨rfl, a, t, upF_same _ _ _, hal, fun x => by dsimp only; rw [upF_same]; exact hwn x, .inr fun x hx => (h.holds _).1 (othP_none ho x hx)⟩, fun e => by simp at e⟩
    · rename_i k ho
      obtain ⟨hk, hno⟩ := othP_some ho
      have hmem : t.getD k 0 ∈ t := by
        rw [List.getD_eq_getElem?_getD, List.getElem?_eq_getElem hk]; simp
      generalize hO : t.getD k 0 = o at *
      have hoa : o ≠ a := fun e => by rw [e] at hmem; simp at hnd; exact hnd.1.2 hmem
      have hol : o ≠ lit := fun e => by rw [e] at hmem; simp at hnd; exact hnd.2.1 hmem
      refine ⟨rfl, rfl, rfl, rfl, rfl, fun k hk => upF_other _ _ hk, ?_, fun e => by simp at e, fun _ => ⟨a, o, t.set k lit, upF_same _ _ _, hol, fun e => by rw [(h.holds _).2 e] at hno; simp at hno, hwl, hal, fun e => hoa e.symm, hoa, fun e => by rw [hwl] at e; rcases e with e | e; exact hoa e; exact hol e, rfl⟩⟩
      dsimp only; rw [upF_same]
      have := set_perm (t := t) (k := k) (b := lit) hk
      rw [hO] at this
      exact (this.cons a).trans hp

/-- what holds in a round of look: the clauses of 'rest' are still to be seen -/
structure LookI (ids : List Nat) (s : DS) (lit : Int) (rest kept : List Nat) (T : List Int) : Prop where
  tra : Tra s
  wat : Wat ids (upF s.watched lit (kept ++ rest)) s.cl
  neg : -lit ∈ s.trail
  sub : ∀ x ∈ T, x ∈ s.trail
  done : ∀ g ∈ ids, ∀ a b t, s.cl g = a :: b :: t → (a ≠ lit ∨ g ∉ rest → -a ∈ T → b ∈ s.trail) ∧ (b ≠ lit ∨ g ∉ rest → -b ∈ T → a ∈ s.trail)

theorem wa_two {a b : Int} {t : List Int} {x : Int} : wa (a :: b :: t) x ↔ x = a ∨ x = b := by
  simp [wa]; constructor <;> (rintro (h | h)) <;> simp [h]

theorem LookI.head {ids : List Nat} {s : DS} {lit : Int} {g : Nat} {rest kept : List Nat} {T : List Int} (h : LookI ids s lit (g :: rest) kept T) : g ∈ ids ∧ Two (s.cl g) ∧ wa (s.cl g) lit := by
  have h1 := (h.wat.mem lit g).1 (by rw [upF_same]; simp)
  exact ⟨h1.1, h.wat.two g h1.1, h1.2⟩

theorem LookI.yes {ids : List Nat} {s : DS} {lit : Int} {g : Nat} {rest kept : List Nat} {T : List Int} (h : LookI ids s lit (g :: rest) kept T) (hr : (handP s g lit).1 = true) :
    LookI ids (handP s g lit).2 lit rest kept T := by
  obtain ⟨hg, h2, hw⟩ := h.head
  have H := hand_all h.tra h2 hw
  obtain ⟨a, o, t, hc, hol, hno, hwa, hal, hao, _, hnw, hwt⟩ := H.yes hr
  generalize (handP s g lit).2 = s' at *
  have hnd := h.wat.nodup lit
  rw [upF_same] at hnd
  have hgk : g ∉ kept ++ rest := by
    rw [List.nodup_append] at hnd
    simp only [List.mem_append, not_or]
    exact ⟨fun e => hnd.2.2 g e g (by simp) rfl, (List.nodup_cons.1 hnd.2.1).1⟩
  have hwat : Wat ids (upF s'.watched lit (kept ++ rest)) s'.cl := by
    refine ⟨fun k hk => ?_, fun x => ?_, fun x k => ?_⟩
    · by_cases e : k = g
      · rw [e]; exact h2.perm H.perm
      · rw [H.cl k e]; exact h.wat.two k hk
    · by_cases e : x = lit
      · rw [e, upF_same]
        exact (List.Sublist.append_left (List.sublist_cons_self g rest) kept).nodup hnd
      · rw [upF_other _ _ e, hwt]
        have h3 := h.wat.nodup x
        rw [upF_other _ _ e] at h3
        by_cases e2 : x = o
        · rw [e2, upF_same, List.nodup_append]
          rw [e2] at h3
          refine ⟨h3, by simp, fun y hy z hz hyz => hnw ?_⟩
          simp at hz
          rw [hyz, hz] at hy
          have := (h.wat.mem o g).1 (by rw [upF_other _ _ hol]; exact hy)
          exact this.2
        · rw [upF_other _ _ e2]; exact h3
    · have h3 := h.wat.mem x k
      by_cases e : x = lit
      · rw [e, upF_same] at h3 ⊢
        by_cases e2 : k = g
        · rw [e2, hc]
          constructor
          · intro h4; exact absurd h4 hgk
          · rintro ⟨_, h4⟩
            rw [wa_two] at h4
            rcases h4 with h4 | h4
            · exact absurd h4.symm hal
            · exact absurd h4.symm hol
        · rw [H.cl k e2, ← h3]
          simp [e2]
      · rw [upF_other _ _ e] at h3 ⊢
        rw [hwt]
        by_cases e2 : k = g
        · rw [e2, hc, wa_two]
          rw [e2, hwa] at h3
          by_cases e3 : x = o
          · rw [e3, upF_same]; simp [hg]
          · rw [upF_other _ _ e3, h3]; simp [e, e3]
        · rw [H.cl k e2]
          by_cases e3 : x = o
          · rw [e3, upF_same]
            rw [e3] at h3
            rw [← h3]; simp [e2]
          · rw [upF_other _ _ e3, h3]
  have htra : Tra s' := ⟨by rw [H.trail]; exact h.tra.nodup, by rw [H.trail]; exact h.tra.lits, by rw [H.trail]; exact h.tra.cons, by rw [H.trail, H.holds]; exact h.tra.holds⟩
  refine ⟨htra, hwat, by rw [H.trail]; exact h.neg, by rw [H.trail]; exact h.sub, fun k hk x y u hu => ?_⟩
  rw [H.trail]
  by_cases e : k = g
  · subst e
    rw [hc] at hu
    cases hu
    refine ⟨fun _ ha => ?_, fun _ ho => absurd (h.sub _ ho) hno⟩
    have hnl : lit ∉ s.trail := fun e => h.tra.cons _ e h.neg
    obtain ⟨p, q, v, hp⟩ := h2.form
    have hd := h.done k hk p q v hp
    rw [hp] at hwa
    have hwa' : ∀ x, (x = p ∨ x = q) ↔ (x = a ∨ x = lit) := fun x => by rw [← hwa, wa_two]
    exfalso
    rcases (hwa' a).2 (.inl rfl) with e1 | e1
    · have e2 : q = lit := by
        rcases (hwa' lit).2 (.inr rfl) with e2 | e2
        · exact absurd (e1.trans e2.symm) hal
        · exact e2.symm
      rw [← e1, e2] at hd
      exact hnl (hd.1 (.inl hal) ha)
    · have e2 : p = lit := by
        rcases (hwa' lit).2 (.inr rfl) with e2 | e2
        · exact e2.symm
        · exact absurd (e1.trans e2.symm) hal
      rw [← e1, e2] at hd
      exact hnl (hd.2 (.inl hal) ha)
  · rw [H.cl k e] at hu
    have hd := h.done k hk x y u hu
    have hm : k ∉ rest → k ∉ g :: rest := fun h1 h2 => by
      rcases List.mem_cons.1 h2 with h2 | h2
      · exact e h2
      · exact h1 h2
    exact ⟨fun h1 => hd.1 (h1.imp id hm), fun h1 => hd.2 (h1.imp id hm)⟩

theorem LookI.no {ids : List Nat} {s : DS} {lit : Int} {g : Nat} {rest kept : List Nat} {T : List Int} (h : LookI ids s lit (g :: rest) kept T) (hr : (handP s g lit).1 = false) :
    ∃ a t, (handP s g lit).2.cl g = a :: lit :: t ∧ Ltr a ∧ (handP s g lit).2.watched = s.watched ∧ (a ∈ s.trail ∨ ∀ x ∈ t, -x ∈ s.trail) ∧
      ((noteP (handP s g lit).2 a (some g)).1 = true → LookI ids (noteP (handP s g lit).2 a (some g)).2 lit rest (kept ++ [g]) T) ∧
      ((noteP (handP s g lit).2 a (some g)).1 = false → -a ∈ s.trail ∧ a ∉ s.trail ∧ Wat ids (upF s.watched lit (kept ++ g :: rest)) (noteP (handP s g lit).2 a (some g)).2.cl) := by
  obtain ⟨hg, h2, hw⟩ := h.head
  have H := hand_all h.tra h2 hw
  obtain ⟨hwt, a, t, hc, hal, hwa, hat⟩ := H.no hr
  generalize (handP s g lit).2 = s' at *
  have hla : Ltr a := h2.2.2 a (H.perm.mem_iff.1 (by rw [hc]; simp))
  have htra : Tra s' := ⟨by rw [H.trail]; exact h.tra.nodup, by rw [H.trail]; exact h.tra.lits, by rw [H.trail]; exact h.tra.cons, by rw [H.trail, H.holds]; exact h.tra.holds⟩
  obtain ⟨n1, n2, n3, n4, n5, n6, n7, n8⟩ := htra.note hla (some g)
  have hwat : Wat ids (upF s.watched lit (kept ++ g :: rest)) s'.cl := by
    refine ⟨fun k hk => ?_, h.wat.nodup, fun x k => ?_⟩
    · by_cases e : k = g
      · rw [e]; exact h2.perm H.perm
      · rw [H.cl k e]; exact h.wat.two k hk
    · rw [h.wat.mem x k]
      by_cases e : k = g
      · rw [e, hwa]
      · rw [H.cl k e]
  have hold : ∀ k ∈ ids, ∀ x y u, s'.cl k = x :: y :: u → (x ≠ lit ∨ k ∉ g :: rest → -x ∈ T → y ∈ s.trail) ∧ (y ≠ lit ∨ k ∉ g :: rest → -y ∈ T → x ∈ s.trail) := by
    intro k hk x y u hu
    by_cases e : k = g
    · subst e
      obtain ⟨p, q, v, hp⟩ := h2.form
      have hd := h.done k hk p q v hp
      have hwa' : ∀ z, (z = x ∨ z = y) ↔ (z = p ∨ z = q) := fun z => by rw [← wa_two (t := u), ← hu, hwa, hp, wa_two]
      have hxy : x ≠ y := fun e => by
        have := (h2.perm H.perm).2.1
        rw [hu, e] at this
        simp at this
      rcases (hwa' x).1 (.inl rfl) with e1 | e1
      · have e2 : y = q := by
          rcases (hwa' y).1 (.inr rfl) with e2 | e2
          · exact absurd (e1.trans e2.symm) hxy
          · exact e2
        rw [e1, e2]; exact hd
      · have e2 : y = p := by
          rcases (hwa' y).1 (.inr rfl) with e2 | e2
          · exact e2
          · exact absurd (e1.trans e2.symm) hxy
        rw [e1, e2]; exact ⟨hd.2, hd.1⟩
    · rw [H.cl k e] at hu
      exact h.done k hk x y u hu
  refine ⟨a, t, hc, hla, hwt, hat, fun ht => ?_, fun ht => ?_⟩
  · obtain ⟨ha, ta, hta, _⟩ := n2 ht
    have hmono : ∀ x, x ∈ s.trail → x ∈ (noteP s' a (some g)).2.trail := fun x hx => by rw [hta, H.trail]; exact List.mem_append_left _ hx
    refine ⟨n1, by rw [n4, n5, hwt, List.append_assoc]; exact hwat, hmono _ h.neg, fun x hx => hmono _ (h.sub x hx), fun k hk x y u hu => ?_⟩
    rw [n5] at hu
    have hd := hold k hk x y u hu
    by_cases e : k = g
    · subst e
      rw [hc] at hu
      cases hu
      exact ⟨fun _ h1 => hmono _ (hd.1 (.inl hal) h1), fun _ _ => ha⟩
    · have hm : k ∉ rest → k ∉ g :: rest := fun h1 h2 => by
        rcases List.mem_cons.1 h2 with h2 | h2
        · exact e h2
        · exact h1 h2
      exact ⟨fun h1 h2 => hmono _ (hd.1 (h1.imp id hm) h2), fun h1 h2 => hmono _ (hd.2 (h1.imp id hm) h2)⟩
  · obtain ⟨h3, h4⟩ := n3 ht
    rw [H.trail] at h3
    exact ⟨h3, fun e => h.tra.cons _ e h3, by rw [n5]; exact hwat⟩

/-- from the clauses follows what is in K -/
def Der (ids : List Nat) (cl : Nat → List Int) (K : Int → Prop) : Prop := ∀ g ∈ ids, ∀ x ∈ cl g, (∀ y ∈ cl g, y ≠ x → K (-y)) → K x
theorem Der.perm {ids : List Nat} {cl cl' : Nat → List Int} {K : Int → Prop} (h : Der ids cl K) (p : ∀ g, (cl' g).Perm (cl g)) : Der ids cl' K :=
  fun g hg x hx hy => h g hg x ((p g).mem_iff.1 hx) fun y hy' => hy y ((p g).mem_iff.2 hy')

/-- what a step leaves: only the trail grows -/
structure Gro (s s' : DS) : Prop where
  trail : ∃ t, s'.trail = s.trail ++ t
  next : s'.next = s.next
  known : s'.known = s.known
  broken : s'.broken = s.broken
  perm : ∀ g, (s'.cl g).Perm (s.cl g)
theorem Gro.refl (s : DS) : Gro s s := ⟨⟨[], by simp⟩, rfl, rfl, rfl, fun _ => .refl _⟩
theorem Gro.trans {a b c : DS} (h : Gro a b) (k : Gro b c) : Gro a c := by
  obtain ⟨t, ht⟩ := h.trail
  obtain ⟨u, hu⟩ := k.trail
  exact ⟨⟨t ++ u, by rw [hu, ht, List.append_assoc]⟩, k.next.trans h.next, k.known.trans h.known, k.broken.trans h.broken, fun g => (k.perm g).trans (h.perm g)⟩
theorem Hand.gro {s s' : DS} {g : Nat} {lit : Int} {ok : Bool} (h : Hand s s' g lit ok) : Gro s s' :=
  ⟨⟨[], by rw [h.trail]; simp⟩, h.next, h.known, h.broken, fun k => by
    by_cases e : k = g
    · rw [e]; exact h.perm
    · rw [h.cl k e]⟩
theorem note_gro (s : DS) (l : Int) (r : Option Nat) : Gro s (noteP s l r).2 := by
  unfold noteP
  split
  · exact .refl _
  · split
    · exact ⟨⟨[], by simp⟩, rfl, rfl, rfl, fun _ => .refl _⟩
    · exact ⟨⟨[l], rfl⟩, rfl, rfl, rfl, fun _ => .refl _⟩

theorem look_all {ids : List Nat} {lit : Int} {T : List Int} : ∀ {rest kept : List Nat} {s : DS}, LookI ids s lit rest kept T →
    Tra (lookP lit rest kept s).2 ∧ Wat ids (lookP lit rest kept s).2.watched (lookP lit rest kept s).2.cl ∧ Gro s (lookP lit rest kept s).2 ∧
    ((lookP lit rest kept s).1 = true → Clo ids (lookP lit rest kept s).2.cl T (lookP lit rest kept s).2.trail) ∧
    (∀ K : Int → Prop, Der ids s.cl K → (∀ x ∈ s.trail, K x) → (∀ x ∈ (lookP lit rest kept s).2.trail, K x) ∧ ((lookP lit rest kept s).1 = false → ∃ x, K x ∧ K (-x))) ∧
    ∀ B, (∀ x ∈ B, x ∈ s.trail) → Clo ids s.cl B B → Clo ids (lookP lit rest kept s).2.cl B B
  | [], kept, s, h => by
    rw [lookP]
    have hw := h.wat
    rw [List.append_nil] at hw
    exact ⟨⟨h.tra.nodup, h.tra.lits, h.tra.cons, h.tra.holds⟩, hw, ⟨⟨[], by simp⟩, rfl, rfl, rfl, fun _ => .refl _⟩,
      fun _ g hg a b t hc => ⟨(h.done g hg a b t hc).1 (.inr (by simp)), (h.done g hg a b t hc).2 (.inr (by simp))⟩, fun K _ hK => ⟨hK, fun e => by simp at e⟩, fun B _ hB => hB⟩
  | g :: rest, kept, s, h => by
    obtain ⟨hg, h2, hw⟩ := h.head
    have H := hand_all h.tra h2 hw
    rw [lookP]
    have hnl : lit ∉ s.trail := fun e => h.tra.cons _ e h.neg
    split
    · rename_i hr
      obtain ⟨r1, r2, r3, r4, r5, r6⟩ := look_all (h.yes hr)
      refine ⟨r1, r2, H.gro.trans r3, r4, fun K hD hK => r5 K (hD.perm H.gro.perm) (by rw [H.trail]; exact hK), fun B hB hC => r6 B (by rw [H.trail]; exact hB) ?_⟩
      obtain ⟨a, o, t, hc, hol, hno, hwa, hal, hao, _, hnw, hwt⟩ := H.yes hr
      intro k hk x y u hu
      by_cases e : k = g
      · subst e
        rw [hc] at hu
        cases hu
        obtain ⟨p, q, v, hp⟩ := h2.form
        rw [hp] at hwa
        have hwa' : ∀ x, (x = p ∨ x = q) ↔ (x = a ∨ x = lit) := fun x => by rw [← hwa, wa_two]
        refine ⟨fun ha => ?_, fun ho => absurd (hB _ ho) hno⟩
        exfalso
        rcases (hwa' a).2 (.inl rfl) with e1 | e1 <;> rcases (hwa' lit).2 (.inr rfl) with e2 | e2
        · exact hal (e1.trans e2.symm)
        · exact hnl (hB _ (by rw [e2]; exact (hC k hk p q v hp).1 (by rw [← e1]; exact ha)))
        · exact hnl (hB _ (by rw [e2]; exact (hC k hk p q v hp).2 (by rw [← e1]; exact ha)))
        · exact hal (e1.trans e2.symm)
      · rw [H.cl k e] at hu
        exact hC k hk x y u hu
    · rename_i hr
      have hr' : (handP s g lit).1 = false := by simpa using hr
      obtain ⟨a, t, hc, hla, hwt, hat, hyes, hno⟩ := h.no hr'
      rw [hc, List.headD_cons]
      have htra : Tra (handP s g lit).2 := ⟨by rw [H.trail]; exact h.tra.nodup, by rw [H.trail]; exact h.tra.lits, by rw [H.trail]; exact h.tra.cons, by rw [H.trail, H.holds]; exact h.tra.holds⟩
      have N := htra.note hla (some g)
      have hKa : ∀ K : Int → Prop, Der ids s.cl K → (∀ x ∈ s.trail, K x) → K a := by
        intro K hD hK
        rcases hat with hat | hat
        · exact hK a hat
        · refine hD g hg a (H.perm.mem_iff.1 (by rw [hc]; simp)) fun y hy hya => ?_
          have hy' := H.perm.mem_iff.2 hy
          rw [hc] at hy'
          simp only [List.mem_cons] at hy'
          rcases hy' with e | e | e
          · exact absurd e hya
          · rw [e]; exact hK _ h.neg
          · exact hK _ (hat y e)
      have hCl : ∀ B, (∀ x ∈ B, x ∈ s.trail) → Clo ids s.cl B B → Clo ids (noteP (handP s g lit).2 a (some g)).2.cl B B := by
        intro B hB hC k hk x y u hu
        rw [N.2.2.2.2.1] at hu
        by_cases e : k = g
        · subst e
          obtain ⟨_, a', t', hc', hal, hwa, _⟩ := H.no hr'
          obtain ⟨p, q, v, hp⟩ := h2.form
          have hwa' : ∀ z, (z = x ∨ z = y) ↔ (z = p ∨ z = q) := fun z => by rw [← wa_two (t := u), ← hu, hwa, hp, wa_two]
          have hxy : x ≠ y := fun e => by
            have := (h2.perm H.perm).2.1
            rw [hu, e] at this
            simp at this
          have hd := hC k hk p q v hp
          rcases (hwa' x).1 (.inl rfl) with e1 | e1 <;> rcases (hwa' y).1 (.inr rfl) with e2 | e2
          · exact absurd (e1.trans e2.symm) hxy
          · rw [e1, e2]; exact hd
          · rw [e1, e2]; exact ⟨hd.2, hd.1⟩
          · exact absurd (e1.trans e2.symm) hxy
        · rw [H.cl k e] at hu
          exact hC k hk x y u hu
      split
      · rename_i hn
        obtain ⟨r1, r2, r3, r4, r5, r6⟩ := look_all (hyes hn)
        have G := H.gro.trans (note_gro (handP s g lit).2 a (some g))
        obtain ⟨_, ta, hta, htc⟩ := N.2.1 hn
        rw [H.trail] at hta
        refine ⟨r1, r2, G.trans r3, r4, fun K hD hK => r5 K (hD.perm G.perm) ?_, fun B hB hC => r6 B ?_ (hCl B hB hC)⟩
        · intro x hx
          rw [hta] at hx
          rcases List.mem_append.1 hx with hx | hx
          · exact hK x hx
          · rcases htc with e | e
            · rw [e] at hx; simp at hx
            · rw [e] at hx; simp at hx; rw [hx]; exact hKa K hD hK
        · intro x hx; rw [hta]; exact List.mem_append_left _ (hB x hx)
      · rename_i hn
        have hn' : (noteP (handP s g lit).2 a (some g)).1 = false := by simpa using hn
        obtain ⟨h3, h4, h5⟩ := hno hn'
        have htr : (noteP (handP s g lit).2 a (some g)).2.trail = s.trail := (N.2.2.1 hn').2.trans H.trail
        have G := H.gro.trans (note_gro (handP s g lit).2 a (some g))
        refine ⟨⟨N.1.nodup, N.1.lits, N.1.cons, N.1.holds⟩, ?_, ⟨G.trail, G.next, G.known, G.broken, G.perm⟩, fun e => by simp at e, fun K hD hK => ⟨fun x hx => hK x (by rw [← htr]; exact hx), fun _ => ⟨a, hKa K hD hK, hK _ h3⟩⟩, fun B hB hC => hCl B hB hC⟩
        show Wat ids (upF (noteP (handP s g lit).2 a (some g)).2.watched lit (kept ++ g :: rest)) _
        rw [N.2.2.2.1, hwt]
        exact h5

theorem nodup_le : ∀ {l m : List Int}, l.Nodup → (∀ x ∈ l, x ∈ m) → l.length ≤ m.length
  | [], m, _, _ => Nat.zero_le _
  | a :: l, m, hn, hs => by
    have ha : a ∈ m := hs a (by simp)
    have h1 := nodup_le (l := l) (m := m.erase a) (List.nodup_cons.1 hn).2 fun x hx => by
      have hne : x ≠ a := fun e => (List.nodup_cons.1 hn).1 (e ▸ hx)
      exact (List.mem_erase_of_ne hne).2 (hs x (by simp [hx]))
    rw [List.length_erase_of_mem ha] at h1
    have : 0 < m.length := List.length_pos_of_mem ha
    simp only [List.length_cons]
    omega
def allL : List Int := (List.range 49).map fun (i : Nat) => (i : Int) - 24
theorem lits_le {l : List Int} (hn : l.Nodup) (hl : ∀ x ∈ l, Ltr x) : l.length ≤ 48 := by
  have h : l.length ≤ (allL.erase 0).length := nodup_le hn fun x hx => by
    have h := hl x hx
    refine (List.mem_erase_of_ne h.1).2 ?_
    unfold allL
    rw [List.mem_map]
    unfold Ltr at h
    exact ⟨(x + 24).toNat, by rw [List.mem_range]; omega, by omega⟩
  have e : (allL.erase 0).length = 48 := by decide
  omega

/-- what propagating leaves -/
structure Pro (s s' : DS) : Prop where
  trail : ∃ t, s'.trail = s.trail ++ t
  known : s'.known = s.known
  broken : s'.broken = s.broken
  perm : ∀ g, (s'.cl g).Perm (s.cl g)
theorem Pro.refl (s : DS) : Pro s s := ⟨⟨[], by simp⟩, rfl, rfl, fun _ => .refl _⟩
theorem Pro.trans {a b c : DS} (h : Pro a b) (k : Pro b c) : Pro a c := by
  obtain ⟨t, ht⟩ := h.trail
  obtain ⟨u, hu⟩ := k.trail
  exact ⟨⟨t ++ u, by rw [hu, ht, List.append_assoc]⟩, k.known.trans h.known, k.broken.trans h.broken, fun g => (k.perm g).trans (h.perm g)⟩
theorem Gro.pro {s s' : DS} (h : Gro s s') : Pro s s' := ⟨h.trail, h.known, h.broken, h.perm⟩

/-- what is known between calls of propagate -/
structure Mid (ids : List Nat) (s : DS) : Prop where
  tra : Tra s
  wat : Wat ids s.watched s.cl
  le : s.next ≤ s.trail.length
theorem prop_all {ids : List Nat} : ∀ {n : Nat} {s : DS}, Mid ids s → 49 ≤ n + s.next →
    Mid ids (propP n s).2 ∧ Pro s (propP n s).2 ∧ s.next ≤ (propP n s).2.next ∧
    ((propP n s).1 = true → (propP n s).2.next = (propP n s).2.trail.length) ∧
    (Clo ids s.cl (s.trail.take s.next) s.trail → (propP n s).1 = true → Clo ids (propP n s).2.cl (propP n s).2.trail (propP n s).2.trail) ∧
    (∀ K : Int → Prop, Der ids s.cl K → (∀ x ∈ s.trail, K x) → (∀ x ∈ (propP n s).2.trail, K x) ∧ ((propP n s).1 = false → ∃ x, K x ∧ K (-x))) ∧
    ∀ B, (∀ x ∈ B, x ∈ s.trail) → Clo ids s.cl B B → Clo ids (propP n s).2.cl B B
  | 0, s, h, hf => by
    have := lits_le h.tra.nodup h.tra.lits
    have := h.le
    omega
  | n + 1, s, h, hf => by
    rw [propP]
    cases hq : s.trail[s.next]? with
    | none =>
      have hl : s.next = s.trail.length := by
        have h1 := List.getElem?_eq_none_iff.1 hq
        have := h.le
        omega
      refine ⟨h, .refl _, Nat.le_refl _, fun _ => hl, fun hC _ => ?_, fun K _ hK => ⟨hK, fun e => by simp at e⟩, fun B _ hB => hB⟩
      rw [hl, List.take_length] at hC
      exact hC
    | some l =>
      have hlt := (List.getElem?_eq_some_iff.1 hq).1
      have hl : l ∈ s.trail := List.mem_of_getElem? hq
      have htk : s.trail.take (s.next + 1) = s.trail.take s.next ++ [l] := by
        rw [List.take_add_one, hq]; rfl
      simp only
      have mk : ∀ T : List Int, (∀ x ∈ T, x ∈ s.trail) → (∀ g ∈ ids, ∀ a b t, s.cl g = a :: b :: t → (a ≠ -l ∨ g ∉ s.watched (-l) → -a ∈ T → b ∈ s.trail) ∧ (b ≠ -l ∨ g ∉ s.watched (-l) → -b ∈ T → a ∈ s.trail)) → LookI ids { s with next := s.next + 1 } (-l) (s.watched (-l)) [] T := by
        intro T hT hd
        refine ⟨⟨h.tra.nodup, h.tra.lits, h.tra.cons, h.tra.holds⟩, ?_, by rw [Int.neg_neg]; exact hl, hT, hd⟩
        have e : upF s.watched (-l) ([] ++ s.watched (-l)) = s.watched := by
          funext x
          unfold upF
          split
          · rename_i e; rw [e]; rfl
          · rfl
        show Wat ids (upF s.watched (-l) ([] ++ s.watched (-l))) s.cl
        rw [e]
        exact h.wat
      have L0 := look_all (mk [] (by simp) fun g _ a b t _ => ⟨fun _ e => by simp at e, fun _ e => by simp at e⟩)
      have hLP : Clo ids s.cl (s.trail.take s.next) s.trail → LookI ids { s with next := s.next + 1 } (-l) (s.watched (-l)) [] (s.trail.take (s.next + 1)) := by
        intro hC
        refine mk _ (fun x hx => List.mem_of_mem_take hx) fun g hg a b t hc => ?_
        have hmem : ∀ x, (x = a ∨ x = b) → (x ≠ -l ∨ g ∉ s.watched (-l)) → x ≠ -l := by
          intro x hx h1 e
          rcases h1 with h1 | h1
          · exact h1 e
          · exact h1 ((h.wat.mem _ _).2 ⟨hg, by rw [hc, ← e, wa_two]; exact hx⟩)
        have hd := hC g hg a b t hc
        rw [htk]
        refine ⟨fun h1 h2 => ?_, fun h1 h2 => ?_⟩
        · rcases List.mem_append.1 h2 with h2 | h2
          · exact hd.1 h2
          · simp at h2; exact absurd (by omega) (hmem a (.inl rfl) h1)
        · rcases List.mem_append.1 h2 with h2 | h2
          · exact hd.2 h2
          · simp at h2; exact absurd (by omega) (hmem b (.inr rfl) h1)
      have hL := fun hC => (look_all (hLP hC)).2.2.2.1
      generalize hlk : lookP (-l) (s.watched (-l)) [] { s with next := s.next + 1 } = r at *
      obtain ⟨l1, l2, l3, _, l5, l6⟩ := L0
      have hnx : r.2.next = s.next + 1 := l3.next
      have hP : Pro s r.2 := ⟨l3.trail, l3.known, l3.broken, l3.perm⟩
      obtain ⟨tt, htt⟩ := l3.trail
      have htt' : r.2.trail = s.trail ++ tt := htt
      split
      · rename_i hr
        obtain ⟨p1, p2, p3, p4, p5, p6, p7⟩ := prop_all (ids := ids) (n := n) (s := r.2) ⟨l1, l2, by rw [hnx, htt', List.length_append]; omega⟩ (by rw [hnx]; omega)
        refine ⟨p1, hP.trans p2, by omega, p4, fun hC hp => p5 ?_ hp, fun K hD hK => p6 K (hD.perm l3.perm) (l5 K hD hK).1, fun B hB hC => p7 B (fun x hx => by rw [htt']; exact List.mem_append_left _ (hB x hx)) (l6 B hB hC)⟩
        have h1 := hL hC hr
        rw [hnx, htt', List.take_append_of_le_length (by omega)]
        rw [htt'] at h1
        exact h1
      · rename_i hr
        have hr' : r.1 = false := by simpa using hr
        exact ⟨⟨l1, l2, by rw [hnx, htt', List.length_append]; omega⟩, hP, by rw [hnx]; omega, fun e => by simp at e, fun _ e => by simp at e, fun K hD hK => ⟨(l5 K hD hK).1, fun _ => (l5 K hD hK).2 hr'⟩, l6⟩

/-! adding clauses, assuming literals -/
def openP (h : Int → Bool) : List Int → List Int → List Int
  | [], acc => acc
  | x :: t, acc => if h (-x) = false ∧ x ∉ acc then openP h t (acc ++ [x]) else openP h t acc
/-- a literal is noted, and what follows from it -/
def folP (s : DS) (x : Int) (r : Option Nat) : Bool × DS :=
  if (noteP s x r).1 = true then propP 49 (noteP s x r).2 else (false, (noteP s x r).2)
def unitP (s : DS) (x : Int) (g : Nat) : DS :=
  { (folP { s with cl := upF s.cl g [x] } x (some g)).2 with
    broken := !(folP { s with cl := upF s.cl g [x] } x (some g)).1
    known := (folP { s with cl := upF s.cl g [x] } x (some g)).2.trail.length }
def watP (s : DS) (a b : Int) (t : List Int) (g : Nat) : DS :=
  { s with cl := upF s.cl g (a :: b :: t), watched := upF (upF s.watched a (s.watched a ++ [g])) b (upF s.watched a (s.watched a ++ [g]) b ++ [g]) }
def addP (s : DS) (c : List Int) (g : Nat) : DS :=
  if s.broken = true then s
  else match openP s.holds c [] with
    | [] => { s with broken := true }
    | [x] => unitP s x g
    | a :: b :: t => watP s a b t g
def assP : List Int → DS → Bool × DS
  | [], s => (!s.broken, s)
  | l :: t, s => if (folP s l none).1 = true then assP t (folP s l none).2 else (false, (folP s l none).2)
def retP (s : DS) (n : Nat) : DS := { s with holds := fun x => s.holds x && !(s.trail.drop n).contains x, trail := s.trail.take n, next := n }

theorem openP_mem {h : Int → Bool} : ∀ {c acc : List Int} {x : Int}, x ∈ openP h c acc ↔ x ∈ acc ∨ (x ∈ c ∧ h (-x) = false)
  | [], acc, x => by simp [openP]
  | y :: t, acc, x => by
    rw [openP]
    split
    · rename_i hy
      rw [openP_mem]
      simp only [List.mem_append, List.mem_cons, List.not_mem_nil, or_false]
      constructor
      · rintro ((h1 | h1) | h1)
        · exact .inl h1
        · rw [h1]; exact .inr ⟨.inl rfl, hy.1⟩
        · exact .inr ⟨.inr h1.1, h1.2⟩
      · rintro (h1 | ⟨h1 | h1, h2⟩)
        · exact .inl (.inl h1)
        · exact .inl (.inr h1)
        · exact .inr ⟨h1, h2⟩
    · rename_i hy
      rw [openP_mem]
      simp only [List.mem_cons]
      constructor
      · rintro (h1 | h1)
        · exact .inl h1
        · exact .inr ⟨.inr h1.1, h1.2⟩
      · rintro (h1 | ⟨h1 | h1, h2⟩)
        · exact .inl h1
        · rw [h1] at h2 ⊢
          rcases Decidable.em (y ∈ acc) with h3 | h3
          · exact .inl h3
          · exact absurd ⟨h2, h3⟩ hy
        · exact .inr ⟨h1, h2⟩
theorem openP_nodup {h : Int → Bool} : ∀ {c acc : List Int}, acc.Nodup → (openP h c acc).Nodup
  | [], acc, hn => hn
  | y :: t, acc, hn => by
    rw [openP]
    split
    · rename_i hy
      refine openP_nodup ?_
      rw [List.nodup_append]
      exact ⟨hn, by simp, fun a ha b hb e => hy.2 (by simp at hb; rw [← hb, ← e]; exact ha)⟩
    · exact openP_nodup hn

/-- K has what follows from the clauses C -/
def DerC (C : List (List Int)) (K : Int → Prop) : Prop := ∀ c ∈ C, ∀ x ∈ c, (∀ y ∈ c, y ≠ x → K (-y)) → K x
def Bad (C : List (List Int)) (K : Int → Prop) : Prop := (∃ c ∈ C, c = []) ∨ ∃ x, K x ∧ K (-x)
/-- a clause stands in what is kept, where T is known -/
def Rep (ids : List Nat) (cl : Nat → List Int) (T c : List Int) : Prop :=
  (∃ x ∈ c, x ∈ T) ∨ ∃ g ∈ ids, (∀ y ∈ cl g, y ∈ c) ∧ ∀ y ∈ c, y ∈ cl g ∨ -y ∈ T
theorem Rep.mono {ids ids' : List Nat} {cl cl' : Nat → List Int} {T T' c : List Int} (h : Rep ids cl T c) (hi : ∀ g ∈ ids, g ∈ ids') (hp : ∀ g ∈ ids, (cl' g).Perm (cl g)) (hT : ∀ x ∈ T, x ∈ T') : Rep ids' cl' T' c := by
  rcases h with ⟨x, h1, h2⟩ | ⟨g, hg, h1, h2⟩
  · exact .inl ⟨x, h1, hT x h2⟩
  · exact .inr ⟨g, hi g hg, fun y hy => h1 y ((hp g hg).mem_iff.1 hy), fun y hy => (h2 y hy).imp (hp g hg).mem_iff.2 (hT _)⟩
/-- the state while nothing is assumed -/
structure Lev (C : List (List Int)) (ids : List Nat) (s : DS) : Prop where
  mid : Mid ids s
  known : s.known = s.trail.length
  fine : s.broken = false → s.next = s.trail.length ∧ Clo ids s.cl s.trail s.trail ∧ ∀ c ∈ C, Rep ids s.cl s.trail c
  sound : ∀ K : Int → Prop, DerC C K → (∀ x ∈ s.trail, K x) ∧ Der ids s.cl K ∧ (s.broken = true → Bad C K)
theorem DerC.left {C D : List (List Int)} {K : Int → Prop} (h : DerC (C ++ D) K) : DerC C K := fun c hc => h c (List.mem_append_left _ hc)
theorem Bad.left {C D : List (List Int)} {K : Int → Prop} (h : Bad C K) : Bad (C ++ D) K := by
  rcases h with ⟨c, hc, e⟩ | h
  · exact .inl ⟨c, List.mem_append_left _ hc, e⟩
  · exact .inr h
theorem Clo.mono {ids : List Nat} {cl : Nat → List Int} {T T' U U' : List Int} (h : Clo ids cl T U) (hT : ∀ x ∈ T', x ∈ T) (hU : ∀ x ∈ U, x ∈ U') : Clo ids cl T' U' :=
  fun g hg a b t hc => ⟨fun h1 => hU _ ((h g hg a b t hc).1 (hT _ h1)), fun h1 => hU _ ((h g hg a b t hc).2 (hT _ h1))⟩

theorem add_all {C : List (List Int)} {ids : List Nat} {s : DS} (h : Lev C ids s) {c : List Int} {g : Nat} (hg : g ∉ ids) (hc : ∀ x ∈ c, Ltr x) :
    ∃ ids', Lev (C ++ [c]) ids' (addP s c g) ∧ (ids' = ids ∨ (ids' = ids ++ [g] ∧ s.broken = false ∧ ∃ a b t, openP s.holds c [] = a :: b :: t)) := by
  unfold addP
  split
  · rename_i hb
    refine ⟨ids, ⟨h.mid, h.known, fun e => by rw [hb] at e; simp at e, fun K hK => ?_⟩, .inl rfl⟩
    have := h.sound K hK.left
    exact ⟨this.1, this.2.1, fun _ => (this.2.2 hb).left⟩
  · rename_i hb
    have hb' : s.broken = false := by simpa using hb
    obtain ⟨f1, f2, f3⟩ := h.fine hb'
    have hom : ∀ x, x ∈ openP s.holds c [] ↔ x ∈ c ∧ -x ∉ s.trail := fun x => by
      rw [openP_mem]
      simp only [List.not_mem_nil, false_or]
      constructor
      · rintro ⟨h1, h2⟩; exact ⟨h1, fun e => by rw [(h.mid.tra.holds _).2 e] at h2; simp at h2⟩
      · rintro ⟨h1, h2⟩; exact ⟨h1, by
          cases hq : s.holds (-x)
          · rfl
          · exact absurd ((h.mid.tra.holds _).1 hq) h2⟩
    have hon : (openP s.holds c []).Nodup := openP_nodup (by simp)
    have hkey : ∀ K, DerC (C ++ [c]) K → ∀ x ∈ openP s.holds c [], (∀ y ∈ openP s.holds c [], y ≠ x → K (-y)) → K x := by
      intro K hK x hx hy
      refine hK c (by simp) x ((hom x).1 hx).1 fun y hyc hne => ?_
      rcases Decidable.em (y ∈ openP s.holds c []) with h1 | h1
      · exact hy y h1 hne
      · refine (h.sound K hK.left).1 _ ?_
        rcases Decidable.em (-y ∈ s.trail) with h2 | h2
        · exact h2
        · exact absurd ((hom y).2 ⟨hyc, h2⟩) h1
    generalize openP s.holds c [] = o at *
    have hclk : ∀ v, ∀ k ∈ ids, upF s.cl g v k = s.cl k := fun v k hk => upF_other _ _ (fun e => hg (e ▸ hk))
    have hwat : ∀ v, Wat ids s.watched (upF s.cl g v) := fun v =>
      ⟨fun k hk => by rw [hclk v k hk]; exact h.mid.wat.two k hk, h.mid.wat.nodup, fun x k => by
        rw [h.mid.wat.mem]
        constructor
        · rintro ⟨h1, h2⟩; exact ⟨h1, by rw [hclk v k h1]; exact h2⟩
        · rintro ⟨h1, h2⟩; exact ⟨h1, by rw [hclk v k h1] at h2; exact h2⟩⟩
    have hder : ∀ v K, Der ids s.cl K → Der ids (upF s.cl g v) K := fun v K hD k hk x hx hy => by
      rw [hclk v k hk] at hx hy
      exact hD k hk x hx hy
    match o, hom, hon, hkey with
    | [], hom, hon, hkey =>
      refine ⟨ids, ⟨⟨⟨h.mid.tra.nodup, h.mid.tra.lits, h.mid.tra.cons, h.mid.tra.holds⟩, h.mid.wat, h.mid.le⟩, h.known, fun e => by simp at e, fun K hK => ?_⟩, .inl rfl⟩
      have h0 := h.sound K hK.left
      refine ⟨h0.1, h0.2.1, fun _ => ?_⟩
      have hall : ∀ x ∈ c, -x ∈ s.trail := fun x hx => by
        rcases Decidable.em (-x ∈ s.trail) with h2 | h2
        · exact h2
        · exact absurd ((hom x).2 ⟨hx, h2⟩) (by simp)
      match c, hall, hK with
      | [], _, _ => exact .inl ⟨[], by simp, rfl⟩
      | x :: t, hall, hK => exact .inr ⟨x, hK (x :: t) (by simp) x (by simp) fun y hy _ => h0.1 _ (hall y hy), h0.1 _ (hall x (by simp))⟩
    | [x], hom, hon, hkey =>
      have hx := (hom x).1 (by simp)
      have hlx := hc x hx.1
      have htra : Tra { s with cl := upF s.cl g [x] } := ⟨h.mid.tra.nodup, h.mid.tra.lits, h.mid.tra.cons, h.mid.tra.holds⟩
      have N := htra.note hlx (some g)
      have hn1 : (noteP { s with cl := upF s.cl g [x] } x (some g)).1 = true := by
        cases hq : (noteP { s with cl := upF s.cl g [x] } x (some g)).1
        · exact absurd (N.2.2.1 hq).1 hx.2
        · rfl
      have hu : folP { s with cl := upF s.cl g [x] } x (some g) = propP 49 (noteP { s with cl := upF s.cl g [x] } x (some g)).2 := if_pos hn1
      show ∃ ids', Lev (C ++ [c]) ids' (unitP s x g) ∧ _
      unfold unitP
      rw [hu]
      clear hu
      obtain ⟨n1, n2, _, n4, n5, n6, n7, n8⟩ := N
      obtain ⟨hxt, tt, htt, _⟩ := n2 hn1
      generalize (noteP { s with cl := upF s.cl g [x] } x (some g)).2 = s1 at *
      simp only at n4 n5 n6 n7 n8 htt
      have hP := prop_all (ids := ids) (n := 49) (s := s1) ⟨n1, by rw [n4, n5]; exact hwat _, by rw [n6, htt, List.length_append]; have := h.mid.le; omega⟩ (by omega)
      obtain ⟨p1, p2, _, p4, p5, p6, _⟩ := hP
      have hclo : Clo ids s1.cl (s1.trail.take s1.next) s1.trail := by
        rw [n5, n6, f1, htt, List.take_left]
        intro k hk a b t hk2
        rw [hclk _ k hk] at hk2
        exact (f2.mono (fun _ h => h) (fun x hx => List.mem_append_left tt hx)) k hk a b t hk2
      have hp5 := p5 hclo
      obtain ⟨t2, ht2⟩ := p2.trail
      have hmon : ∀ y ∈ s.trail, y ∈ (propP 49 s1).2.trail := fun y hy => by rw [ht2, htt]; simp [hy]
      have hpr : ∀ k ∈ ids, ((propP 49 s1).2.cl k).Perm (s.cl k) := fun k hk => by
        have := p2.perm k
        rw [n5, hclk _ k hk] at this
        exact this
      refine ⟨ids, ⟨⟨⟨p1.tra.nodup, p1.tra.lits, p1.tra.cons, p1.tra.holds⟩, p1.wat, p1.le⟩, rfl, fun e => ?_, fun K hK => ?_⟩, .inl rfl⟩
      · have e' : (propP 49 s1).1 = true := by simpa using e
        refine ⟨p4 e', hp5 e', fun d hd => ?_⟩
        rcases List.mem_append.1 hd with hd | hd
        · exact (f3 d hd).mono (fun _ h => h) hpr hmon
        · simp at hd
          rw [hd]
          exact .inl ⟨x, hx.1, by rw [ht2]; exact List.mem_append_left _ hxt⟩
      · have h0 := h.sound K hK.left
        have hKx : K x := hkey K hK x (by simp) fun y hy hne => absurd (by simpa using hy) hne
        have hD1 : Der ids s1.cl K := by rw [n5]; exact hder _ K h0.2.1
        have h6 := p6 K hD1 (fun y hy => by
          have n2' := n2 hn1
          obtain ⟨_, t3, ht3, h3⟩ := n2'
          rw [ht3] at hy
          rcases List.mem_append.1 hy with hy | hy
          · exact h0.1 y hy
          · rcases h3 with e | e
            · rw [e] at hy; simp at hy
            · rw [e] at hy; simp at hy; rw [hy]; exact hKx)
        exact ⟨h6.1, hD1.perm p2.perm, fun e => .inr (h6.2 (by simpa using e))⟩
    | a :: b :: t, hom, hon, hkey =>
      have hab : a ≠ b := fun e => by rw [e] at hon; simp at hon
      refine ⟨ids ++ [g], ⟨⟨⟨h.mid.tra.nodup, h.mid.tra.lits, h.mid.tra.cons, h.mid.tra.holds⟩, ?_, h.mid.le⟩, h.known, fun _ => ⟨f1, ?_, fun d hd => ?_⟩, fun K hK => ?_⟩, .inr ⟨rfl, hb', a, b, t, rfl⟩⟩
      · have hgw : ∀ x, g ∉ s.watched x := fun x e => hg ((h.mid.wat.mem x g).1 e).1
        have hW : ∀ x, upF (upF s.watched a (s.watched a ++ [g])) b (upF s.watched a (s.watched a ++ [g]) b ++ [g]) x = if x = a ∨ x = b then s.watched x ++ [g] else s.watched x := by
          intro x
          rw [upF_other (f := s.watched) (i := a) _ (fun e => hab e.symm)]
          by_cases e : x = b
          · rw [e, upF_same]; simp
          · rw [upF_other _ _ e]
            by_cases e2 : x = a
            · rw [e2, upF_same]; simp
            · rw [upF_other _ _ e2]; simp [e, e2]
        refine ⟨fun k hk => ?_, fun x => ?_, fun x k => ?_⟩
        · rcases List.mem_append.1 hk with hk | hk
          · show Two (upF s.cl g _ k)
            rw [hclk _ k hk]; exact h.mid.wat.two k hk
          · simp at hk
            show Two (upF s.cl g _ k)
            rw [hk, upF_same]
            exact ⟨by simp, hon, fun x hx => hc x ((hom x).1 hx).1⟩
        · show (upF (upF s.watched a _) b _ x).Nodup
          rw [hW]
          split
          · rw [List.nodup_append]
            exact ⟨h.mid.wat.nodup x, by simp, fun y hy z hz e => hgw x (by simp at hz; rw [← hz, ← e]; exact hy)⟩
          · exact h.mid.wat.nodup x
        · show k ∈ upF (upF s.watched a _) b _ x ↔ k ∈ ids ++ [g] ∧ wa (upF s.cl g (a :: b :: t) k) x
          rw [hW]
          by_cases ek : k = g
          · rw [ek, upF_same, wa_two]
            split
            · rename_i hx; simp [hx]
            · rename_i hx; simp [hx, hgw x]
          · rw [upF_other _ _ ek]
            have := h.mid.wat.mem x k
            split
            · simp [ek, this]
            · simp [ek, this]
      · intro k hk x y u hu
        rcases List.mem_append.1 hk with hk | hk
        · change upF s.cl g _ k = _ at hu
          rw [hclk _ k hk] at hu
          exact f2 k hk x y u hu
        · simp at hk
          change upF s.cl g _ k = _ at hu
          rw [hk, upF_same] at hu
          cases hu
          exact ⟨fun e => absurd e ((hom a).1 (by simp)).2, fun e => absurd e ((hom b).1 (by simp)).2⟩
      · rcases List.mem_append.1 hd with hd | hd
        · refine (f3 d hd).mono (fun k hk => List.mem_append_left _ hk) (fun k hk => ?_) fun _ h => h
          show (upF s.cl g _ k).Perm _
          rw [hclk _ k hk]
        · simp at hd
          rw [hd]
          refine .inr ⟨g, by simp, fun y hy => ?_, fun y hy => ?_⟩
          · change y ∈ upF s.cl g _ g at hy
            rw [upF_same] at hy
            exact ((hom y).1 hy).1
          · show y ∈ upF s.cl g _ g ∨ _
            rw [upF_same]
            rcases Decidable.em (-y ∈ s.trail) with h2 | h2
            · exact .inr h2
            · exact .inl ((hom y).2 ⟨hy, h2⟩)
      · have h0 := h.sound K hK.left
        refine ⟨h0.1, fun k hk x hx hy => ?_, fun e => by change s.broken = true at e; rw [hb'] at e; cases e⟩
        rcases List.mem_append.1 hk with hk | hk
        · change x ∈ upF s.cl g _ k at hx
          change ∀ y ∈ upF s.cl g _ k, _ at hy
          rw [hclk _ k hk] at hx hy
          exact h0.2.1 k hk x hx hy
        · simp at hk
          change x ∈ upF s.cl g _ k at hx
          change ∀ y ∈ upF s.cl g _ k, _ at hy
          rw [hk, upF_same] at hx hy
          exact hkey K hK x hx hy
/-- the state while literals are assumed, T the literals that were known before -/
structure Ass (ids : List Nat) (T : List Int) (s : DS) : Prop where
  mid : Mid ids s
  pre : ∃ t, s.trail = T ++ t
  known : s.known = T.length
  base : Clo ids s.cl T T
theorem fol_all {ids : List Nat} {T : List Int} {s : DS} (h : Mid ids s) {l : Int} (hl : Ltr l) (r : Option Nat) :
    Mid ids (folP s l r).2 ∧ Pro s (folP s l r).2 ∧
    ((folP s l r).1 = true → l ∈ (folP s l r).2.trail ∧ (s.next = s.trail.length → Clo ids s.cl s.trail s.trail → (folP s l r).2.next = (folP s l r).2.trail.length ∧ Clo ids (folP s l r).2.cl (folP s l r).2.trail (folP s l r).2.trail)) ∧
    (∀ K : Int → Prop, Der ids s.cl K → (∀ x ∈ s.trail, K x) → K l → (∀ x ∈ (folP s l r).2.trail, K x) ∧ ((folP s l r).1 = false → ∃ x, K x ∧ K (-x))) ∧
    ((∀ x ∈ T, x ∈ s.trail) → Clo ids s.cl T T → Clo ids (folP s l r).2.cl T T) := by
  have N := h.tra.note hl r
  have G := note_gro s l r
  unfold folP
  split
  · rename_i hn
    obtain ⟨n1, n2, _, n4, n5, n6, n7, n8⟩ := N
    obtain ⟨hlt, tt, htt, hcase⟩ := n2 hn
    generalize (noteP s l r).2 = s1 at *
    obtain ⟨p1, p2, _, p4, p5, p6, p7⟩ := prop_all (ids := ids) (n := 49) (s := s1) ⟨n1, by rw [n4, n5]; exact h.wat, by rw [n6, htt, List.length_append]; have := h.le; omega⟩ (by omega)
    obtain ⟨t2, ht2⟩ := p2.trail
    refine ⟨p1, G.pro.trans p2, fun hp => ⟨by rw [ht2]; exact List.mem_append_left _ hlt, fun e hC => ⟨p4 hp, p5 ?_ hp⟩⟩, fun K hD hK hKl => p6 K (by rw [n5]; exact hD) ?_, fun hT hC => p7 T (fun x hx => by rw [htt]; exact List.mem_append_left _ (hT x hx)) (by rw [n5]; exact hC)⟩
    · rw [n5, n6, e, htt, List.take_left]
      exact hC.mono (fun _ h => h) fun x hx => List.mem_append_left _ hx
    · intro x hx
      rw [htt] at hx
      rcases List.mem_append.1 hx with hx | hx
      · exact hK x hx
      · rcases hcase with e | e
        · rw [e] at hx; simp at hx
        · rw [e] at hx; simp at hx; rw [hx]; exact hKl
  · rename_i hn
    have hn' : (noteP s l r).1 = false := by simpa using hn
    obtain ⟨n1, _, n3, n4, n5, n6, n7, n8⟩ := N
    obtain ⟨h3, h4⟩ := n3 hn'
    exact ⟨⟨n1, by rw [n4, n5]; exact h.wat, by rw [n6, h4]; exact h.le⟩, G.pro, (fun e => by cases e), fun K hD hK hKl => ⟨by rw [h4]; exact hK, fun _ => ⟨l, hKl, hK _ h3⟩⟩, fun hT hC => by rw [n5]; exact hC⟩

theorem ass_all {ids : List Nat} {T : List Int} : ∀ {F : List Int} {s : DS}, Ass ids T s → (∀ x ∈ F, Ltr x) →
    Ass ids T (assP F s).2 ∧ Pro s (assP F s).2 ∧
    ((assP F s).1 = true → s.broken = false ∧ (∀ x ∈ F, x ∈ (assP F s).2.trail) ∧ (s.next = s.trail.length → Clo ids s.cl s.trail s.trail → (assP F s).2.next = (assP F s).2.trail.length ∧ Clo ids (assP F s).2.cl (assP F s).2.trail (assP F s).2.trail)) ∧
    (∀ K : Int → Prop, Der ids s.cl K → (∀ x ∈ s.trail, K x) → (∀ x ∈ F, K x) → (∀ x ∈ (assP F s).2.trail, K x) ∧ ((assP F s).1 = false → s.broken = true ∨ ∃ x, K x ∧ K (-x)))
  | [], s, h, _ => by
    rw [assP]
    refine ⟨h, .refl _, fun e => ⟨by simpa using e, by simp, fun e1 e2 => ⟨e1, e2⟩⟩, fun K _ hK _ => ⟨hK, fun e => .inl (by simpa using e)⟩⟩
  | l :: F, s, h, hF => by
    obtain ⟨f1, f2, f3, f4, f5⟩ := fol_all (T := T) h.mid (hF l (by simp)) none
    rw [assP]
    obtain ⟨t1, ht1⟩ := f2.trail
    obtain ⟨t0, ht0⟩ := h.pre
    have hA : Ass ids T (folP s l none).2 := ⟨f1, ⟨t0 ++ t1, by rw [ht1, ht0, List.append_assoc]⟩, f2.known.trans h.known, f5 (fun x hx => by rw [ht0]; exact List.mem_append_left _ hx) h.base⟩
    split
    · rename_i hq
      obtain ⟨a1, a2, a3, a4⟩ := ass_all (F := F) hA fun x hx => hF x (by simp [hx])
      obtain ⟨t2, ht2⟩ := a2.trail
      refine ⟨a1, f2.trans a2, fun e => ?_, fun K hD hK hKF => ?_⟩
      · obtain ⟨b1, b2, b3⟩ := a3 e
        refine ⟨by rw [← f2.broken]; exact b1, fun x hx => ?_, fun e1 e2 => ?_⟩
        · rcases List.mem_cons.1 hx with rfl | hx
          · rw [ht2]; exact List.mem_append_left _ (f3 hq).1
          · exact b2 x hx
        · obtain ⟨c1, c2⟩ := (f3 hq).2 e1 e2
          exact b3 c1 c2
      · obtain ⟨k1, _⟩ := f4 K hD hK (hKF l (by simp))
        have := a4 K (hD.perm f2.perm) k1 fun x hx => hKF x (by simp [hx])
        rw [f2.broken] at this
        exact this
    · rename_i hq
      have hq' : (folP s l none).1 = false := by simpa using hq
      refine ⟨hA, f2, (fun e => by cases e), fun K hD hK hKF => ?_⟩
      obtain ⟨k1, k2⟩ := f4 K hD hK (hKF l (by simp))
      exact ⟨k1, fun _ => .inr (k2 hq')⟩

theorem Lev.ass {C : List (List Int)} {ids : List Nat} {s : DS} (h : Lev C ids s) (hb : s.broken = false) : Ass ids s.trail s :=
  ⟨h.mid, ⟨[], by simp⟩, h.known, (h.fine hb).2.1⟩

/-- what is closed under the clauses, where nothing breaks -/
theorem closed {C : List (List Int)} {ids : List Nat} {s : DS} {T : List Int} (hw : Wat ids s.watched s.cl) (ht : Tra s) (hC : Clo ids s.cl s.trail s.trail) (hR : ∀ c ∈ C, Rep ids s.cl T c) (hT : ∀ x ∈ T, x ∈ s.trail) :
    (∀ c ∈ C, c ≠ []) ∧ DerC C fun x => x ∈ s.trail := by
  have two : ∀ g ∈ ids, ∃ x ∈ s.cl g, -x ∉ s.trail := by
    intro g hg
    obtain ⟨a, b, t, hc⟩ := (hw.two g hg).form
    rcases Decidable.em (-a ∈ s.trail) with h1 | h1
    · have hb := (hC g hg a b t hc).1 h1
      exact ⟨b, by rw [hc]; simp, fun e => ht.cons _ hb e⟩
    · exact ⟨a, by rw [hc]; simp, h1⟩
  refine ⟨fun c hc e => ?_, fun c hc x hx hy => ?_⟩
  · rcases hR c hc with ⟨x, h1, _⟩ | ⟨g, hg, h1, _⟩
    · rw [e] at h1; simp at h1
    · obtain ⟨x, hx, _⟩ := two g hg
      have := h1 x hx
      rw [e] at this; simp at this
  · rcases hR c hc with ⟨z, h1, h2⟩ | ⟨g, hg, h1, h2⟩
    · rcases Decidable.em (z = x) with e | e
      · rw [← e]; exact hT z h2
      · exact absurd (hy z h1 e) (ht.cons _ (hT z h2))
    · obtain ⟨a, b, t, hcl⟩ := (hw.two g hg).form
      have hab : a ≠ b := fun e => by have := (hw.two g hg).2.1; rw [hcl, e] at this; simp at this
      have ha : a ∈ c := h1 a (by rw [hcl]; simp)
      have hb : b ∈ c := h1 b (by rw [hcl]; simp)
      rcases Decidable.em (a = x) with e | e
      · have hbt : -b ∈ s.trail := hy b hb (fun e2 => hab (e.trans e2.symm))
        rw [← e]
        exact (hC g hg a b t hcl).2 hbt
      · have hat : -a ∈ s.trail := hy a ha e
        have hbt := (hC g hg a b t hcl).1 hat
        rcases Decidable.em (b = x) with e2 | e2
        · rw [← e2]; exact hbt
        · exact absurd (hy b hb e2) (ht.cons _ hbt)

/-- the least set that has F and what follows -/
def Least (C : List (List Int)) (F : List Int) (x : Int) : Prop := ∀ K : Int → Prop, DerC C K → (∀ y ∈ F, K y) → K x
theorem least_der (C : List (List Int)) (F : List Int) : DerC C (Least C F) :=
  fun c hc x hx hy K hK hF => hK c hc x hx fun y hyc hne => hy y hyc hne K hK hF
theorem Bad.least {C : List (List Int)} {F : List Int} {T : Int → Prop} (h : Bad C (Least C F)) (hT : DerC C T) (hF : ∀ y ∈ F, T y) (hc : ∀ c ∈ C, c ≠ []) (hn : ∀ x, T x → ¬ T (-x)) : False := by
  rcases h with ⟨c, h1, h2⟩ | ⟨x, h1, h2⟩
  · exact hc c h1 h2
  · exact hn x (h1 T hT hF) (h2 T hT hF)

/-- assuming literals on what is known -/
theorem lev_assume {C : List (List Int)} {ids : List Nat} {s : DS} (h : Lev C ids s) {F : List Int} (hF : ∀ x ∈ F, Ltr x) :
    ((assP F s).1 = true → ¬ Bad C (Least C F) ∧ ∀ x, (assP F s).2.holds x = true ↔ Least C F x) ∧ ((assP F s).1 = false → Bad C (Least C F)) := by
  have hD := h.sound (Least C F) (least_der C F)
  cases hb : s.broken with
  | true =>
    have hB := hD.2.2 hb
    refine ⟨fun e => ?_, fun _ => hB⟩
    have hx : ∀ (F : List Int) (s : DS), s.broken = true → (assP F s).1 = false := by
      intro F
      induction F with
      | nil => intro s hs; rw [assP]; simp [hs]
      | cons l F ih =>
        intro s hs
        rw [assP]
        split
        · refine ih _ ?_
          unfold folP
          have hn : (noteP s l none).2.broken = s.broken := (note_gro s l none).broken
          split
          · have hp : ∀ (n : Nat) (s : DS), (propP n s).2.broken = s.broken := by
              intro n
              induction n with
              | zero => intro s; rfl
              | succ n ihn =>
                intro s
                have hlk : ∀ (lit : Int) (rest kept : List Nat) (s : DS), (lookP lit rest kept s).2.broken = s.broken := by
                  intro lit rest
                  induction rest with
                  | nil => intro kept s; rfl
                  | cons g rest ihr =>
                    intro kept s
                    have hh : (handP s g lit).2.broken = s.broken := by
                      unfold handP; split
                      · split
                        · rfl
                        · split <;> rfl
                      · rfl
                    have hn : ∀ a, (noteP (handP s g lit).2 a (some g)).2.broken = s.broken := fun a => ((note_gro _ a _).broken).trans hh
                    rw [lookP]
                    split
                    · rw [ihr, hh]
                    · split
                      · rw [ihr, hn]
                      · exact hn _
                rw [propP]
                split
                · rfl
                · split
                  · rw [ihn, hlk]
                  · rw [hlk]
            rw [hp, hn, hs]
          · rw [hn, hs]
        · rfl
    rw [hx F s hb] at e
    cases e
  | false =>
    obtain ⟨f1, f2, f3⟩ := h.fine hb
    obtain ⟨a1, a2, a3, a4⟩ := ass_all (F := F) (h.ass hb) hF
    obtain ⟨k1, k2⟩ := a4 (Least C F) hD.2.1 hD.1 fun x hx K _ hK => hK x hx
    refine ⟨fun e => ?_, fun e => ?_⟩
    · obtain ⟨_, b2, b3⟩ := a3 e
      obtain ⟨c1, c2⟩ := b3 f1 f2
      obtain ⟨t, ht⟩ := a2.trail
      obtain ⟨d1, d2⟩ := closed (C := C) (T := s.trail) a1.mid.wat a1.mid.tra c2 (fun c hc => (f3 c hc).mono (fun _ h => h) (fun g _ => a2.perm g) fun _ h => h) fun x hx => by rw [ht]; exact List.mem_append_left _ hx
      refine ⟨fun hB => hB.least d2 b2 d1 fun x hx hn => a1.mid.tra.cons x hx hn, fun x => ?_⟩
      rw [a1.mid.tra.holds]
      exact ⟨k1 x, fun hL => hL _ d2 b2⟩
    · rcases k2 e with h1 | h1
      · rw [hb] at h1; cases h1
      · exact .inr h1
theorem ass_mid {ids : List Nat} : ∀ {F : List Int} {s : DS}, Mid ids s → (∀ x ∈ F, Ltr x) → Mid ids (assP F s).2 ∧ Pro s (assP F s).2
  | [], s, h, _ => ⟨h, .refl _⟩
  | l :: F, s, h, hF => by
    obtain ⟨f1, f2, _⟩ := fol_all (T := []) h (hF l (by simp)) none
    rw [assP]
    split
    · obtain ⟨a1, a2⟩ := ass_mid (F := F) f1 fun x hx => hF x (by simp [hx])
      exact ⟨a1, f2.trans a2⟩
    · exact ⟨f1, f2⟩
theorem Tra.ret {s : DS} (h : Tra s) (n : Nat) : Tra (retP s n) := by
  have hs : ∀ x ∈ s.trail.take n, x ∈ s.trail := fun x hx => List.mem_of_mem_take hx
  refine ⟨h.nodup.sublist (List.take_sublist _ _), fun x hx => h.lits x (hs x hx), fun x hx hn => h.cons x (hs x hx) (hs _ hn), fun x => ?_⟩
  show (s.holds x && !(s.trail.drop n).contains x) = true ↔ x ∈ s.trail.take n
  have hnd := h.nodup
  rw [← List.take_append_drop n s.trail, List.nodup_append] at hnd
  rw [Bool.and_eq_true, h.holds]
  conv => lhs; rw [← List.take_append_drop n s.trail]
  simp only [List.mem_append, Bool.not_eq_true', List.contains_eq_mem, decide_eq_false_iff_not]
  constructor
  · rintro ⟨h1 | h1, h2⟩
    · exact h1
    · exact absurd h1 (by rw [List.take_append_drop] at h2; exact h2)
  · intro h1
    refine ⟨.inl h1, fun h2 => hnd.2.2 x h1 x ?_ rfl⟩
    rw [List.take_append_drop] at h2; exact h2
theorem lev_retreat {C : List (List Int)} {ids : List Nat} {s : DS} (h : Lev C ids s) {F : List Int} (hF : ∀ x ∈ F, Ltr x) : Lev C ids (retP (assP F s).2 (assP F s).2.known) := by
  obtain ⟨m1, m2⟩ := ass_mid (F := F) h.mid hF
  obtain ⟨t, ht⟩ := m2.trail
  have hk : (assP F s).2.known = s.trail.length := m2.known.trans h.known
  have htk : (assP F s).2.trail.take (assP F s).2.known = s.trail := by rw [hk, ht, List.take_left]
  have hb : (assP F s).2.broken = s.broken := m2.broken
  refine ⟨⟨m1.tra.ret _, m1.wat, ?_⟩, ?_, fun e => ?_, fun K hK => ?_⟩
  · show (assP F s).2.known ≤ ((assP F s).2.trail.take _).length
    rw [htk, hk]; exact Nat.le_refl _
  · show (assP F s).2.known = ((assP F s).2.trail.take _).length
    rw [htk, hk]
  · have e' : s.broken = false := hb.symm.trans e
    obtain ⟨f1, f2, f3⟩ := h.fine e'
    have a1 := (ass_all (F := F) (h.ass e') hF).1
    show (assP F s).2.known = ((assP F s).2.trail.take _).length ∧ Clo ids (assP F s).2.cl ((assP F s).2.trail.take _) ((assP F s).2.trail.take _) ∧ ∀ c ∈ C, Rep ids (assP F s).2.cl ((assP F s).2.trail.take _) c
    rw [htk]
    exact ⟨hk, a1.base, fun c hc => (f3 c hc).mono (fun _ h => h) (fun g _ => m2.perm g) fun _ h => h⟩
  · obtain ⟨k1, k2, k3⟩ := h.sound K hK
    show (∀ x ∈ (assP F s).2.trail.take _, K x) ∧ Der ids (assP F s).2.cl K ∧ ((assP F s).2.broken = true → Bad C K)
    rw [htk, hb]
    exact ⟨k1, k2.perm m2.perm, k3⟩

/-! the reference's consequences -/
def aloneB (out c : List Int) (x : Int) : Bool := !out.contains x && c.all fun y => y == x || out.contains (-y)
def passC (c : List Int) : List Int → List Int → List Int
  | [], out => out
  | x :: t, out => passC c t (if aloneB out c x = true then out ++ [x] else out)
def passL : List (List Int) → List Int → List Int
  | [], out => out
  | c :: l, out => passL l (passC c c out)
def consP (l : List (List Int)) : Nat → List Int → List Int
  | 0, out => out
  | n + 1, out => if (passL l out).length = out.length then passL l out else consP l n (passL l out)
def confP (l : List (List Int)) (F : List Int) : Bool := l.any (·.isEmpty) || (consP l 50 F).any fun x => (consP l 50 F).contains (-x)
theorem alone_iff {out c : List Int} {x : Int} : aloneB out c x = true ↔ x ∉ out ∧ ∀ y ∈ c, y ≠ x → -y ∈ out := by
  unfold aloneB
  simp only [Bool.and_eq_true, Bool.not_eq_true', List.contains_eq_mem, decide_eq_false_iff_not, List.all_eq_true, Bool.or_eq_true, beq_iff_eq, decide_eq_true_eq]
  constructor
  · rintro ⟨h1, h2⟩; exact ⟨h1, fun y hy hne => (h2 y hy).resolve_left hne⟩
  · rintro ⟨h1, h2⟩
    refine ⟨h1, fun y hy => ?_⟩
    rcases Decidable.em (y = x) with e | e
    · exact .inl e
    · exact .inr (h2 y hy e)
/-- new literals, each once, out of the clauses -/
def Ext (out out' : List Int) (P : Int → Prop) : Prop := ∃ t, out' = out ++ t ∧ (∀ x ∈ t, P x ∧ x ∉ out) ∧ t.Nodup
theorem Ext.refl (out : List Int) (P : Int → Prop) : Ext out out P := ⟨[], by simp, by simp, by simp⟩
theorem Ext.trans {a b c : List Int} {P : Int → Prop} (h : Ext a b P) (k : Ext b c P) : Ext a c P := by
  obtain ⟨t, rfl, h1, h2⟩ := h
  obtain ⟨u, rfl, k1, k2⟩ := k
  refine ⟨t ++ u, by simp, fun x hx => ?_, ?_⟩
  · rcases List.mem_append.1 hx with hx | hx
    · exact h1 x hx
    · exact ⟨(k1 x hx).1, fun e => (k1 x hx).2 (List.mem_append_left _ e)⟩
  · rw [List.nodup_append]
    exact ⟨h2, k2, fun x hx y hy e => (k1 y hy).2 (by rw [← e]; exact List.mem_append_right _ hx)⟩
theorem Ext.mono {a b : List Int} {P Q : Int → Prop} (h : Ext a b P) (hPQ : ∀ x, P x → Q x) : Ext a b Q := by
  obtain ⟨t, h0, h1, h2⟩ := h
  exact ⟨t, h0, fun x hx => ⟨hPQ x (h1 x hx).1, (h1 x hx).2⟩, h2⟩
theorem passC_ext {c : List Int} : ∀ {t out : List Int}, Ext out (passC c t out) (· ∈ t)
  | [], out => .refl _ _
  | x :: t, out => by
    rw [passC]
    refine Ext.trans (b := if aloneB out c x = true then out ++ [x] else out) ?_ (passC_ext.mono fun y hy => by simp [hy])
    split
    · rename_i h
      exact ⟨[x], rfl, fun y hy => by simp at hy; rw [hy]; exact ⟨by simp, (alone_iff.1 h).1⟩, by simp⟩
    · exact .refl _ _
theorem passL_ext : ∀ {l : List (List Int)} {out : List Int}, Ext out (passL l out) (fun x => ∃ c ∈ l, x ∈ c)
  | [], out => .refl _ _
  | c :: l, out => by
    rw [passL]
    exact (passC_ext.mono fun x hx => ⟨c, by simp, hx⟩).trans (passL_ext.mono fun x ⟨d, h1, h2⟩ => ⟨d, by simp [h1], h2⟩)
theorem Ext.same {a b : List Int} {P : Int → Prop} (h : Ext a b P) (e : b.length = a.length) : b = a := by
  obtain ⟨t, rfl, _⟩ := h
  rw [List.length_append] at e
  have : t = [] := List.eq_nil_of_length_eq_zero (by omega)
  rw [this, List.append_nil]
theorem Ext.le {a b : List Int} {P : Int → Prop} (h : Ext a b P) : a.length ≤ b.length := by
  obtain ⟨t, rfl, _⟩ := h
  rw [List.length_append]; omega
theorem passC_fix {c : List Int} : ∀ {t out : List Int}, passC c t out = out → ∀ x ∈ t, aloneB out c x = false
  | [], out, _, x, hx => by simp at hx
  | y :: t, out, h, x, hx => by
    rw [passC] at h
    have hy : aloneB out c y = false := by
      cases hq : aloneB out c y with
      | false => rfl
      | true =>
        rw [hq, if_pos rfl] at h
        have := (passC_ext (c := c) (t := t) (out := out ++ [y])).le
        rw [h, List.length_append] at this
        simp only [List.length_cons, List.length_nil] at this
        omega
    rw [hy] at h
    rcases List.mem_cons.1 hx with rfl | hx
    · exact hy
    · exact passC_fix (by simpa using h) x hx
theorem passL_fix : ∀ {l : List (List Int)} {out : List Int}, passL l out = out → ∀ c ∈ l, ∀ x ∈ c, aloneB out c x = false
  | [], out, _, c, hc => by simp at hc
  | d :: l, out, h, c, hc => by
    rw [passL] at h
    have h1 := (passC_ext (c := d) (t := d) (out := out)).le
    have h2 := (passL_ext (l := l) (out := passC d d out)).le
    rw [h] at h2
    have e := (passC_ext (c := d) (t := d) (out := out)).same (by omega)
    rw [e] at h
    rcases List.mem_cons.1 hc with rfl | hc
    · exact passC_fix e
    · exact passL_fix h c hc
theorem passC_sound {c : List Int} {K : Int → Prop} (hD : ∀ x ∈ c, (∀ y ∈ c, y ≠ x → K (-y)) → K x) : ∀ {t out : List Int}, (∀ x ∈ t, x ∈ c) → (∀ x ∈ out, K x) → ∀ x ∈ passC c t out, K x
  | [], out, _, h => h
  | y :: t, out, ht, h => by
    rw [passC]
    refine passC_sound hD (fun x hx => ht x (by simp [hx])) ?_
    split
    · rename_i ha
      have ha := alone_iff.1 ha
      intro x hx
      rcases List.mem_append.1 hx with hx | hx
      · exact h x hx
      · simp at hx
        rw [hx]
        exact hD y (ht y (by simp)) fun z hz hne => h _ (ha.2 z hz hne)
    · exact h
theorem passL_sound {K : Int → Prop} : ∀ {l : List (List Int)} {out : List Int}, DerC l K → (∀ x ∈ out, K x) → ∀ x ∈ passL l out, K x
  | [], out, _, h => h
  | c :: l, out, hD, h => by
    rw [passL]
    exact passL_sound (fun d hd => hD d (by simp [hd])) (passC_sound (hD c (by simp)) (fun x hx => hx) h)
def roomP (out : List Int) : Nat := (allL.filter fun x => !out.contains x).length
theorem filter_lt {p q : Int → Bool} : ∀ {l : List Int} {x : Int}, x ∈ l → (∀ y, q y = true → p y = true) → p x = true → q x = false → (l.filter q).length < (l.filter p).length
  | [], x, hx, _, _, _ => by simp at hx
  | y :: l, x, hx, hpq, h1, h2 => by
    have hle : (l.filter q).length ≤ (l.filter p).length := by
      have : ∀ l : List Int, (l.filter q).length ≤ (l.filter p).length := by
        intro l
        induction l with
        | nil => simp
        | cons z l ih =>
          simp only [List.filter_cons]
          cases hz : q z with
          | true => rw [hpq z hz]; simp [ih]
          | false =>
            cases p z <;> simp <;> omega
      exact this l
    rcases List.mem_cons.1 hx with rfl | hx
    · simp only [List.filter_cons, h1, h2]
      simp; omega
    · have ih := filter_lt (l := l) hx hpq h1 h2
      simp only [List.filter_cons]
      cases hz : q y with
      | true => rw [hpq y hz]; simp; omega
      | false => cases p y <;> simp <;> omega
theorem Ltr.all {x : Int} (h : Ltr x) : x ∈ allL := by
  unfold allL
  rw [List.mem_map]
  unfold Ltr at h
  exact ⟨(x + 24).toNat, by rw [List.mem_range]; omega, by omega⟩
theorem cons_all {l : List (List Int)} (hl : ∀ c ∈ l, ∀ x ∈ c, Ltr x) : ∀ {n : Nat} {out : List Int}, roomP out < n →
    (∀ x ∈ out, x ∈ consP l n out) ∧ DerC l (· ∈ consP l n out) ∧ (∀ K : Int → Prop, DerC l K → (∀ x ∈ out, K x) → ∀ x ∈ consP l n out, K x) ∧ (consP l n out).length ≤ out.length + roomP out
  | 0, out, h => absurd h (Nat.not_lt_zero _)
  | n + 1, out, h => by
    rw [consP]
    have hE := passL_ext (l := l) (out := out)
    split
    · rename_i e
      have e2 := hE.same e
      rw [e2]
      refine ⟨fun x hx => hx, fun c hc x hx hy => ?_, fun K _ h => h, by omega⟩
      have := passL_fix e2 c hc x hx
      rcases Decidable.em (x ∈ out) with h1 | h1
      · exact h1
      · rw [alone_iff.2 ⟨h1, hy⟩] at this; cases this
    · rename_i e
      obtain ⟨t, ht, h1, h2⟩ := hE
      have hroom : roomP (passL l out) + t.length ≤ roomP out := by
        have key : ∀ (t out : List Int), (∀ x ∈ t, Ltr x ∧ x ∉ out) → t.Nodup → roomP (out ++ t) + t.length ≤ roomP out := by
          intro t
          induction t with
          | nil => intro out _ _; simp
          | cons y t ih =>
            intro out hy hn
            have h3 := ih (out ++ [y]) (fun x hx => ⟨(hy x (by simp [hx])).1, by
              simp only [List.mem_append, List.mem_singleton, not_or]
              exact ⟨(hy x (by simp [hx])).2, fun e => (List.nodup_cons.1 hn).1 (e ▸ hx)⟩⟩) (List.nodup_cons.1 hn).2
            have h4 : roomP (out ++ [y]) < roomP out := by
              unfold roomP
              refine filter_lt (x := y) (hy y (by simp)).1.all (fun z hz => ?_) ?_ ?_
              · simp at hz ⊢; exact hz.1
              · have := (hy y (by simp)).2
                simpa using this
              · simp
            rw [List.append_assoc] at h3
            simp only [List.length_cons]
            have e5 : out ++ ([y] ++ t) = out ++ y :: t := rfl
            rw [e5] at h3
            omega
        rw [ht]
        exact key t out (fun x hx => ⟨by
          obtain ⟨⟨c, hc, hxc⟩, _⟩ := h1 x hx
          exact hl c hc x hxc, (h1 x hx).2⟩) h2
      have htl : t ≠ [] := fun e2 => e (by rw [ht, e2]; simp)
      have htp : 0 < t.length := List.length_pos_iff.2 htl
      obtain ⟨c1, c2, c3, c4⟩ := cons_all hl (n := n) (out := passL l out) (by omega)
      refine ⟨fun x hx => c1 x (by rw [ht]; exact List.mem_append_left _ hx), c2, fun K hK hF => c3 K hK (passL_sound hK hF), ?_⟩
      have : (passL l out).length = out.length + t.length := by rw [ht, List.length_append]
      omega
theorem room_le (out : List Int) : roomP out ≤ 49 := by
  unfold roomP
  exact Nat.le_trans (List.length_filter_le _ _) (by decide)
theorem cons_iff {l : List (List Int)} (hl : ∀ c ∈ l, ∀ x ∈ c, Ltr x) (F : List Int) (x : Int) : x ∈ consP l 50 F ↔ Least l F x := by
  obtain ⟨c1, c2, c3, _⟩ := cons_all hl (n := 50) (out := F) (by have := room_le F; omega)
  exact ⟨fun h K hK hF => c3 K hK hF x h, fun h => h _ c2 c1⟩
theorem conf_iff {l : List (List Int)} (hl : ∀ c ∈ l, ∀ x ∈ c, Ltr x) (F : List Int) : confP l F = true ↔ Bad l (Least l F) := by
  unfold confP Bad
  rw [Bool.or_eq_true, List.any_eq_true, List.any_eq_true]
  simp only [List.isEmpty_iff, List.contains_eq_mem, decide_eq_true_eq, cons_iff hl]
end Uq
end Go.Proofs.Ytaojojjdfdlgpaa
