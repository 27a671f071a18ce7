import Derived.Test.YtaojojjdfdlgpaaUq
namespace Go.Proofs.Ytaojojjdfdlgpaa
namespace Uq
/-! search: what is always so -/
theorem hand_rc (s : DS) (g : Nat) (lit : Int) : (handP s g lit).2.reason = s.reason ∧ (handP s g lit).2.conflict = s.conflict := by
  unfold handP
  split
  · split
    · exact ⟨rfl, rfl⟩
    · split <;> exact ⟨rfl, rfl⟩
  · exact ⟨rfl, rfl⟩
/-- each literal but the assumed ones follows from its clause -/
def Why (Src : Nat → Prop) (b : Nat) (s : DS) : Prop :=
  ∀ (k : Nat) (x : Int) (g : Nat), b ≤ k → s.trail[k]? = some x → s.reason x = some g → Src g ∧ x ∈ s.cl g ∧ ∀ y ∈ s.cl g, y ≠ x → -y ∈ s.trail.take k
structure Kee (s s' : DS) : Prop where
  trail : ∃ t, s'.trail = s.trail ++ t ∧ ∀ x ∈ t, s'.reason x ≠ none
  old : ∀ x ∈ s.trail, s'.reason x = s.reason x
def Conf (ids : List Nat) (s : DS) : Prop := ∃ g ∈ ids, s.conflict = some g ∧ ∀ y ∈ s.cl g, -y ∈ s.trail
theorem Kee.refl (s : DS) : Kee s s := ⟨⟨[], by simp, by simp⟩, fun _ _ => rfl⟩
theorem Kee.trans {a b c : DS} (h : Kee a b) (k : Kee b c) : Kee a c := by
  obtain ⟨t, ht, h1⟩ := h.trail
  obtain ⟨u, hu, k1⟩ := k.trail
  refine ⟨⟨t ++ u, by rw [hu, ht, List.append_assoc], fun x hx => ?_⟩, fun x hx => ?_⟩
  · rcases List.mem_append.1 hx with hx | hx
    · rw [k.old x (by rw [ht]; exact List.mem_append_right _ hx)]; exact h1 x hx
    · exact k1 x hx
  · rw [k.old x (by rw [ht]; exact List.mem_append_left _ hx), h.old x hx]
theorem Kee.of {s s' : DS} (ht : s'.trail = s.trail) (hr : s'.reason = s.reason) : Kee s s' := ⟨⟨[], by rw [ht]; simp, by simp⟩, fun _ _ => by rw [hr]⟩
theorem Why.of {Src : Nat → Prop} {b : Nat} {s s' : DS} (h : Why Src b s) (ht : s'.trail = s.trail) (hr : s'.reason = s.reason) (hp : ∀ g, (s'.cl g).Perm (s.cl g)) : Why Src b s' := by
  intro k x g h1 h2 h3
  rw [ht] at h2
  rw [hr] at h3
  obtain ⟨a1, a2, a3⟩ := h k x g h1 h2 h3
  exact ⟨a1, (hp g).mem_iff.2 a2, fun y hy hne => by rw [ht]; exact a3 y ((hp g).mem_iff.1 hy) hne⟩
theorem get_app {t : List Int} {l x : Int} {k : Nat} (h : (t ++ [l])[k]? = some x) : (t[k]? = some x ∧ k < t.length) ∨ (k = t.length ∧ x = l) := by
  rcases Nat.lt_or_ge k t.length with h1 | h1
  · rw [List.getElem?_append_left h1] at h; exact .inl ⟨h, h1⟩
  · rw [List.getElem?_append_right h1] at h
    have hk : k - t.length = 0 := by
      rcases Nat.eq_zero_or_pos (k - t.length) with e | e
      · exact e
      · rw [List.getElem?_eq_none (by simp; omega)] at h; cases h
    rw [hk] at h
    exact .inr ⟨by omega, by simpa using h.symm⟩
theorem note_why {Src : Nat → Prop} {b : Nat} {s : DS} (ht : Tra s) (h : Why Src b s) {g : Nat} (hg : Src g) {l : Int} (hl : l ∈ s.cl g) (ho : l ∈ s.trail ∨ ∀ y ∈ s.cl g, y ≠ l → -y ∈ s.trail) :
    Why Src b (noteP s l (some g)).2 ∧ Kee s (noteP s l (some g)).2 ∧ ((noteP s l (some g)).1 = false → (noteP s l (some g)).2.conflict = some g) := by
  unfold noteP
  split
  · exact ⟨h, .refl _, fun e => by cases e⟩
  · rename_i h1
    split
    · exact ⟨h.of rfl rfl fun _ => .refl _, .of rfl rfl, fun _ => rfl⟩
    · rename_i h2
      have n1 : l ∉ s.trail := fun e => h1 ((ht.holds l).2 e)
      have ho' := ho.resolve_left n1
      refine ⟨fun k x q hk hx hq => ?_, ⟨⟨[l], rfl, fun x hx => ?_⟩, fun x hx => ?_⟩, fun e => by cases e⟩
      · rcases get_app hx with ⟨hx, hlt⟩ | ⟨hk2, hx⟩
        · have hne : x ≠ l := fun e => n1 (by rw [← e]; exact List.mem_of_getElem? hx)
          change upF s.reason l (some g) x = some q at hq
          rw [upF_other _ _ hne] at hq
          obtain ⟨a1, a2, a3⟩ := h k x q hk hx hq
          refine ⟨a1, a2, fun y hy hyx => ?_⟩
          show -y ∈ (s.trail ++ [l]).take k
          rw [List.take_append_of_le_length (by omega)]
          exact a3 y hy hyx
        · change upF s.reason l (some g) x = some q at hq
          rw [hx, upF_same] at hq
          cases hq
          rw [hx]
          refine ⟨hg, hl, fun y hy hyx => ?_⟩
          show -y ∈ (s.trail ++ [l]).take k
          rw [hk2, List.take_left]
          exact ho' y hy hyx
      · simp at hx
        show upF s.reason l (some g) x ≠ none
        rw [hx, upF_same]; simp
      · show upF s.reason l (some g) x = _
        rw [upF_other _ _ (fun e => n1 (by rw [← e]; exact hx))]
theorem look_why {ids : List Nat} {lit : Int} {T : List Int} {Src : Nat → Prop} {b : Nat} (hS : ∀ g ∈ ids, Src g) : ∀ {rest kept : List Nat} {s : DS}, LookI ids s lit rest kept T → Why Src b s →
    Why Src b (lookP lit rest kept s).2 ∧ Kee s (lookP lit rest kept s).2 ∧ ((lookP lit rest kept s).1 = false → Conf ids (lookP lit rest kept s).2)
  | [], kept, s, h, hy => by
    rw [lookP]
    exact ⟨hy.of rfl rfl fun _ => .refl _, .of rfl rfl, fun e => by cases e⟩
  | g :: rest, kept, s, h, hy => by
    obtain ⟨hg, h2, hw⟩ := h.head
    have H := hand_all h.tra h2 hw
    have hrc := hand_rc s g lit
    have hy1 : Why Src b (handP s g lit).2 := hy.of H.trail hrc.1 H.gro.perm
    have hk1 : Kee s (handP s g lit).2 := .of H.trail hrc.1
    rw [lookP]
    split
    · rename_i hr
      obtain ⟨a1, a2, a3⟩ := look_why hS (h.yes hr) hy1
      exact ⟨a1, hk1.trans a2, a3⟩
    · rename_i hr
      have hr' : (handP s g lit).1 = false := by simpa using hr
      obtain ⟨a, t, hc, hla, hwt, hat, hyes, hno⟩ := h.no hr'
      rw [hc, List.headD_cons]
      have htra : Tra (handP s g lit).2 := ⟨by rw [H.trail]; exact h.tra.nodup, by rw [H.trail]; exact h.tra.lits, by rw [H.trail]; exact h.tra.cons, by rw [H.trail, H.holds]; exact h.tra.holds⟩
      have ho : a ∈ (handP s g lit).2.trail ∨ ∀ y ∈ (handP s g lit).2.cl g, y ≠ a → -y ∈ (handP s g lit).2.trail := by
        rw [H.trail, hc]
        refine hat.imp id fun hat y hy hya => ?_
        simp only [List.mem_cons] at hy
        rcases hy with e | e | e
        · exact absurd e hya
        · rw [e]; exact h.neg
        · exact hat y e
      have N := note_why htra hy1 (hS g hg) (l := a) (by rw [hc]; simp) ho
      have N0 := htra.note hla (some g)
      split
      · rename_i hn
        obtain ⟨a1, a2, a3⟩ := look_why hS (hyes hn) N.1
        exact ⟨a1, (hk1.trans N.2.1).trans a2, a3⟩
      · rename_i hn
        have hn' : (noteP (handP s g lit).2 a (some g)).1 = false := by simpa using hn
        refine ⟨N.1.of rfl rfl fun _ => .refl _, (hk1.trans N.2.1).trans (.of rfl rfl), fun _ => ⟨g, hg, N.2.2 hn', fun y hy => ?_⟩⟩
        change y ∈ (noteP (handP s g lit).2 a (some g)).2.cl g at hy
        show -y ∈ (noteP (handP s g lit).2 a (some g)).2.trail
        obtain ⟨h3, h4⟩ := N0.2.2.1 hn'
        rw [h4]
        rw [N0.2.2.2.2.1] at hy
        have hna : a ∉ (handP s g lit).2.trail := fun e => htra.cons _ e h3
        rcases Decidable.em (y = a) with e | e
        · rw [e]; exact h3
        · exact ho.resolve_left hna y hy e
theorem prop_why {ids : List Nat} {Src : Nat → Prop} {b : Nat} (hS : ∀ g ∈ ids, Src g) : ∀ {n : Nat} {s : DS}, Mid ids s → 49 ≤ n + s.next → Why Src b s →
    Why Src b (propP n s).2 ∧ Kee s (propP n s).2 ∧ ((propP n s).1 = false → Conf ids (propP n s).2)
  | 0, s, h, hf, _ => by
    have := lits_le h.tra.nodup h.tra.lits
    have := h.le
    omega
  | n + 1, s, h, hf, hy => by
    rw [propP]
    cases hq : s.trail[s.next]? with
    | none => exact ⟨hy, .refl _, fun e => by cases e⟩
    | some l =>
      have hlt := (List.getElem?_eq_some_iff.1 hq).1
      have hl : l ∈ s.trail := List.mem_of_getElem? hq
      simp only
      have hL : LookI ids { s with next := s.next + 1 } (-l) (s.watched (-l)) [] [] := by
        refine ⟨⟨h.tra.nodup, h.tra.lits, h.tra.cons, h.tra.holds⟩, ?_, by rw [Int.neg_neg]; exact hl, by simp, fun g _ a b t _ => ⟨fun _ e => by simp at e, fun _ e => by simp at e⟩⟩
        have e : upF s.watched (-l) ([] ++ s.watched (-l)) = s.watched := by
          funext x
          unfold upF
          split
          · rename_i e; rw [e]; rfl
          · rfl
        show Wat ids (upF s.watched (-l) ([] ++ s.watched (-l))) s.cl
        rw [e]
        exact h.wat
      have hy0 : Why Src b { s with next := s.next + 1 } := hy.of rfl rfl fun _ => .refl _
      have hk0 : Kee s { s with next := s.next + 1 } := .of rfl rfl
      obtain ⟨w1, w2, w3⟩ := look_why hS hL hy0
      obtain ⟨l1, l2, l3, _⟩ := look_all hL
      generalize lookP (-l) (s.watched (-l)) [] { s with next := s.next + 1 } = r at *
      have hnx : r.2.next = s.next + 1 := l3.next
      obtain ⟨tt, htt⟩ := l3.trail
      have htt' : r.2.trail = s.trail ++ tt := htt
      split
      · obtain ⟨p1, p2, p3⟩ := prop_why hS (n := n) (s := r.2) ⟨l1, l2, by rw [hnx, htt', List.length_append]; omega⟩ (by rw [hnx]; omega) w1
        exact ⟨p1, (hk0.trans w2).trans p2, p3⟩
      · rename_i hr
        exact ⟨w1, hk0.trans w2, fun _ => w3 (by simpa using hr)⟩
/-! the search -/
def Inc (n : Nat) (c : List Int) : Prop := c.Pairwise (· < ·) ∧ ∀ x ∈ c, 1 ≤ x ∧ x ≤ n
def DecAt (s : DS) (k : Nat) (x : Int) : Prop := s.known ≤ k ∧ s.trail[k]? = some x ∧ s.reason x = none
abbrev lrn (P : List (Nat × List Int)) : List (List Int) := P.map fun p => p.2
abbrev ngs (c : List Int) : List Int := c.map fun x => -x
structure Sea (n : Nat) (C : List (List Int)) (ids : List Nat) (P : List (Nat × List Int)) (s : DS) : Prop where
  mid : Mid ids s
  kn : s.known ≤ s.trail.length
  base : ∀ k x, DecAt s k x → Clo ids s.cl (s.trail.take k) (s.trail.take k) ∧
    (∃ i : Int, 1 ≤ i ∧ i ≤ n ∧ x = -i ∧ ∀ j : Int, i < j → j ≤ n → j ∈ s.trail.take k ∨ -j ∈ s.trail.take k) ∧ ∀ p ∈ P, ∀ y, p.2 = [y] → y ∈ s.trail.take k
  why : Why (fun g => g ∈ ids ∨ ∃ p ∈ P, p.1 = g) s.known s
  sound : ∀ K : Int → Prop, DerC (C ++ lrn P) K → (∀ x ∈ s.trail.take s.known, K x) ∧ Der ids s.cl K
  rep : ∀ c ∈ C, Rep ids s.cl (s.trail.take s.known) c
  rup : ∀ i p, P[i]? = some p → Bad (C ++ lrn (P.take i)) (Least (C ++ lrn (P.take i)) (ngs p.2))
  lrnd : ∀ p ∈ P, (s.cl p.1).Perm p.2 ∧ Inc n p.2 ∧ p.2 ≠ [] ∧ (p.1 ∈ ids ∨ p.2.length = 1)
  unit : ∀ p ∈ P, ∀ y, p.2 = [y] → y ∈ s.trail
  nodup : (lrn P).Nodup
  fine : s.broken = false
def Settled (ids : List Nat) (s : DS) : Prop := s.next = s.trail.length ∧ Clo ids s.cl s.trail s.trail

theorem Sea.init {n : Nat} {C : List (List Int)} {ids : List Nat} {s : DS} (h : Lev C ids s) (hb : s.broken = false) : Sea n C ids [] s ∧ Settled ids s := by
  obtain ⟨f1, f2, f3⟩ := h.fine hb
  have hno : ∀ k x, ¬ DecAt s k x := fun k x ⟨h1, h2, _⟩ => by
    have := (List.getElem?_eq_some_iff.1 h2).1
    have := h.known
    omega
  refine ⟨⟨h.mid, by rw [h.known]; exact Nat.le_refl _, fun k x hk => absurd hk (hno k x), fun k x g hk hx => ?_, fun K hK => ?_, ?_, by simp, by simp, by simp, by simp, hb⟩, f1, f2⟩
  · have := (List.getElem?_eq_some_iff.1 hx).1
    have := h.known
    omega
  · have hK' : DerC C K := by simpa [lrn] using hK
    rw [h.known, List.take_length]
    exact ⟨(h.sound K hK').1, (h.sound K hK').2.1⟩
  · rw [h.known, List.take_length]; exact f3

theorem get_of_app {t u : List Int} {k : Nat} {x : Int} (h : (t ++ u)[k]? = some x) (hk : x ∉ u) : t[k]? = some x ∧ k < t.length := by
  rcases Nat.lt_or_ge k t.length with h1 | h1
  · rw [List.getElem?_append_left h1] at h; exact ⟨h, h1⟩
  · rw [List.getElem?_append_right h1] at h
    exact absurd (List.mem_of_getElem? h) hk
theorem Kee.dec {s s' : DS} (h : Kee s s') (hn : s'.known = s.known) {k : Nat} {x : Int} (hd : DecAt s' k x) : DecAt s k x ∧ s'.trail.take k = s.trail.take k ∧ k < s.trail.length := by
  obtain ⟨h1, h2, h3⟩ := hd
  obtain ⟨t, ht, ha⟩ := h.trail
  have hx : x ∉ t := fun e => ha x e h3
  rw [ht] at h2
  obtain ⟨h4, h5⟩ := get_of_app h2 hx
  refine ⟨⟨by omega, h4, ?_⟩, ?_, h5⟩
  · rw [← h.old x (List.mem_of_getElem? h4)]; exact h3
  · rw [ht, List.take_append_of_le_length (by omega)]
theorem neg_ngs {x : Int} {c : List Int} (h : x ∈ c) : -x ∈ ngs c := List.mem_map.2 ⟨x, h, rfl⟩

/-- one more literal is assumed -/
theorem Sea.more {n : Nat} (hn : n ≤ 24) {C : List (List Int)} {ids : List Nat} {P : List (Nat × List Int)} {s : DS} (h : Sea n C ids P s) (hd : Settled ids s) {i : Int} (h1 : 1 ≤ i) (h2 : i ≤ n) (ho : i ∉ s.trail) (ho' : -i ∉ s.trail)
    (hall : ∀ j : Int, i < j → j ≤ n → j ∈ s.trail ∨ -j ∈ s.trail) :
    Sea n C ids P (folP s (-i) none).2 ∧ s.trail.length < (folP s (-i) none).2.trail.length ∧ ((folP s (-i) none).1 = true → Settled ids (folP s (-i) none).2) ∧ ((folP s (-i) none).1 = false → Conf ids (folP s (-i) none).2) := by
  have hlt : Ltr (-i) := by unfold Ltr; omega
  have hh1 : s.holds (-i) = false := by cases hq : s.holds (-i) with
    | false => rfl
    | true => exact absurd ((h.mid.tra.holds _).1 hq) ho'
  have hh2 : s.holds (- -i) = false := by rw [Int.neg_neg]; cases hq : s.holds i with
    | false => rfl
    | true => exact absurd ((h.mid.tra.holds _).1 hq) ho
  have hN : noteP s (-i) none = (true, { s with holds := upF s.holds (-i) true, reason := upF s.reason (-i) none, trail := s.trail ++ [-i] }) := by
    unfold noteP; rw [if_neg (by rw [hh1]; simp), if_neg (by rw [hh2]; simp)]
  have N := h.mid.tra.note hlt none
  rw [hN] at N
  have hF := fol_all (T := []) h.mid hlt none
  unfold folP at hF ⊢
  rw [hN] at hF ⊢
  rw [if_pos rfl] at hF ⊢
  simp only at hF N ⊢
  obtain ⟨s1, hs1⟩ : ∃ s1 : DS, ({ s with holds := upF s.holds (-i) true, reason := upF s.reason (-i) none, trail := s.trail ++ [-i] } : DS) = s1 := ⟨_, rfl⟩
  rw [hs1] at hF N ⊢
  have e1 : s1.trail = s.trail ++ [-i] := by rw [← hs1]
  have e2 : s1.reason = upF s.reason (-i) none := by rw [← hs1]
  have e3 : s1.cl = s.cl := by rw [← hs1]
  have e4 : s1.known = s.known := by rw [← hs1]
  have e5 : s1.next = s.next := by rw [← hs1]
  have e6 : s1.watched = s.watched := by rw [← hs1]
  have hm1 : Mid ids s1 := ⟨N.1, by rw [e6, e3]; exact h.mid.wat, by rw [e5, e1, List.length_append]; have := h.mid.le; omega⟩
  have hy1 : Why (fun g => g ∈ ids ∨ ∃ p ∈ P, p.1 = g) s.known s1 := by
    intro k x g hk hx hq
    rw [e1] at hx
    rw [e2] at hq
    rcases get_app hx with ⟨hx, hl⟩ | ⟨_, hx⟩
    · have hne : x ≠ -i := fun e => ho' (by rw [← e]; exact List.mem_of_getElem? hx)
      rw [upF_other _ _ hne] at hq
      obtain ⟨a1, a2, a3⟩ := h.why k x g hk hx hq
      rw [e3, e1, List.take_append_of_le_length (by omega)]
      exact ⟨a1, a2, a3⟩
    · rw [hx, upF_same] at hq; cases hq
  obtain ⟨w1, w2, w3⟩ := prop_why (Src := fun g => g ∈ ids ∨ ∃ p ∈ P, p.1 = g) (fun g hg => .inl hg) (n := 49) hm1 (by omega) hy1
  obtain ⟨p1, p2, p3, p4, _⟩ := hF
  have p7 := (prop_all (n := 49) hm1 (by omega)).2.2.2.2.2.2
  generalize propP 49 s1 = r at *
  obtain ⟨t, ht⟩ := p2.trail
  have hdec1 : ∀ k x, DecAt s1 k x → (DecAt s k x ∧ s1.trail.take k = s.trail.take k) ∨ (k = s.trail.length ∧ x = -i ∧ s1.trail.take k = s.trail) := by
    intro k x ⟨d1, d2, d3⟩
    rw [e1] at d2
    rcases get_app d2 with ⟨hx, hl⟩ | ⟨hk, hx⟩
    · have hne : x ≠ -i := fun e => ho' (by rw [← e]; exact List.mem_of_getElem? hx)
      rw [e2, upF_other _ _ hne] at d3
      exact .inl ⟨⟨by omega, hx, d3⟩, by rw [e1, List.take_append_of_le_length (by omega)]⟩
    · exact .inr ⟨hk, hx, by rw [e1, hk, List.take_left]⟩
  have hkr : r.2.known = s.known := p2.known
  have htk : r.2.trail.take s.known = s.trail.take s.known := by rw [ht, List.take_append_of_le_length h.kn]
  have hmem : ∀ x ∈ s.trail, x ∈ r.2.trail := fun x hx => by rw [ht]; exact List.mem_append_left _ hx
  refine ⟨⟨p1, by rw [hkr, ht, List.length_append]; have := h.kn; omega, fun k x hkx => ?_, by rw [hkr]; exact w1, fun K hK => ?_, fun c hc => ?_, h.rup, fun p hp => ?_, fun p hp y hy => hmem y (h.unit p hp y hy), h.nodup, p2.broken.trans h.fine⟩, ?_, fun e => ?_, w3⟩
  · obtain ⟨b1, b2, b3⟩ := w2.dec (hkr.trans e4.symm) hkx
    rw [b2]
    rcases hdec1 k x b1 with ⟨c1, c2⟩ | ⟨c1, c2, c3⟩
    · obtain ⟨d1, d2, d3⟩ := h.base k x c1
      rw [c2]
      exact ⟨p7 _ (fun y hy => by rw [e1]; exact List.mem_append_left _ (List.mem_of_mem_take hy)) (by rw [e3]; exact d1), d2, d3⟩
    · rw [c3]
      exact ⟨p7 _ (fun y hy => by rw [e1]; exact List.mem_append_left _ hy) (by rw [e3]; exact hd.2), ⟨i, h1, h2, c2, hall⟩, fun p hp y hy => h.unit p hp y hy⟩
  · rw [hkr, htk]
    exact ⟨(h.sound K hK).1, (h.sound K hK).2.perm p2.perm⟩
  · rw [hkr, htk]
    exact (h.rep c hc).mono (fun _ h => h) (fun g _ => p2.perm g) fun _ h => h
  · obtain ⟨a1, a2⟩ := h.lrnd p hp
    exact ⟨(p2.perm _).trans a1, a2⟩
  · obtain ⟨u, hu, _⟩ := w2.trail
    rw [hu, e1]; simp only [List.length_append, List.length_cons, List.length_nil]; omega
  · exact (p3 e).2 hd.1 hd.2

/-! going back -/
def markL (bl : Int → Bool) (c : List Int) : Int → Bool := fun z => bl z || c.contains (-z)
def blP (s : DS) : List Int → (Int → Bool) → List Int → Nat → List Int × Nat
  | [], _, c, n => (c, n)
  | x :: t, bl, c, n =>
    match s.reason x with
    | some g => blP s t (if bl x = true then markL bl (s.cl g) else bl) c n
    | none => blP s t bl (if bl x = true then c ++ [-x] else c) (if (if bl x = true then c ++ [-x] else c).length < 2 then s.known + t.length else n)

theorem blP_app {s : DS} : ∀ {L : List Int} {bl : Int → Bool} {c : List Int} {n : Nat}, ∃ c2, (blP s L bl c n).1 = c ++ c2
  | [], bl, c, n => ⟨[], by rw [blP]; simp⟩
  | x :: t, bl, c, n => by
    rw [blP]
    split
    · exact blP_app
    · obtain ⟨c2, h⟩ := blP_app (s := s) (L := t) (bl := bl) (c := if bl x = true then c ++ [-x] else c) (n := if (if bl x = true then c ++ [-x] else c).length < 2 then s.known + t.length else n)
      rw [h]
      split
      · exact ⟨[-x] ++ c2, by simp⟩
      · exact ⟨c2, rfl⟩
/-- what is blamed follows from what is assumed and blamed -/
theorem blP_sound {s : DS} {Src : Nat → Prop} {K : Int → Prop} (hy : Why Src s.known s) (hk : s.known ≤ s.trail.length) (hK0 : ∀ x ∈ s.trail.take s.known, K x) (hD : ∀ g, Src g → ∀ x ∈ s.cl g, (∀ y ∈ s.cl g, y ≠ x → K (-y)) → K x) :
    ∀ {L : List Int} {bl : Int → Bool} {c : List Int} {n : Nat} {rest : List Int}, s.trail = s.trail.take s.known ++ (L.reverse ++ rest) → (∀ y ∈ (blP s L bl c n).1, K (-y)) → ∀ x ∈ L, bl x = true → K x
  | [], _, _, _, _, _, _, x, hx => by simp at hx
  | x :: t, bl, c, n, rest, hs, hR, z, hz => by
    have hs' : s.trail = s.trail.take s.known ++ (t.reverse ++ (x :: rest)) := by
      rw [List.reverse_cons, List.append_assoc] at hs; exact hs
    have hpos : s.trail[s.known + t.length]? = some x := by
      rw [hs', List.getElem?_append_right (by rw [List.length_take]; omega), List.getElem?_append_right (by simp only [List.length_take, List.length_reverse]; omega)]
      have e : s.known + t.length - (s.trail.take s.known).length - t.reverse.length = 0 := by rw [List.length_take, List.length_reverse]; omega
      rw [e]; rfl
    have htk : s.trail.take (s.known + t.length) = s.trail.take s.known ++ t.reverse := by
      conv => lhs; rw [hs']
      rw [← List.append_assoc, List.take_append_of_le_length (by rw [List.length_append, List.length_take, List.length_reverse]; omega), List.take_of_length_le (by rw [List.length_append, List.length_take, List.length_reverse]; omega)]
    rw [blP] at hR
    intro hbz
    cases hq : s.reason x with
    | some g =>
      rw [hq] at hR
      simp only at hR
      have ih := blP_sound hy hk hK0 hD hs' hR
      obtain ⟨a1, a2, a3⟩ := hy _ x g (Nat.le_add_right _ _) hpos hq
      rcases List.mem_cons.1 hz with e | hz
      · rw [e] at hbz ⊢
        rw [if_pos hbz] at ih
        refine hD g a1 x a2 fun y hyc hne => ?_
        have h3 := a3 y hyc hne
        rw [htk] at h3
        rcases List.mem_append.1 h3 with h3 | h3
        · exact hK0 _ h3
        · exact ih _ (List.mem_reverse.1 h3) (by unfold markL; rw [Int.neg_neg]; simp [hyc])
      · refine ih z hz ?_
        split
        · unfold markL; rw [hbz]; rfl
        · exact hbz
    | none =>
      rw [hq] at hR
      simp only at hR
      rcases List.mem_cons.1 hz with e | hz
      · rw [e] at hbz ⊢
        rw [if_pos hbz] at hR
        obtain ⟨c2, h⟩ := blP_app (s := s) (L := t) (bl := bl) (c := c ++ [-x]) (n := if (c ++ [-x]).length < 2 then s.known + t.length else n)
        rw [h] at hR
        have := hR (-x) (by simp)
        rw [Int.neg_neg] at this
        exact this
      · exact blP_sound hy hk hK0 hD hs' hR z hz hbz
/-- what is found while going back, m the place reached -/
structure Bla (s : DS) (m : Nat) (c : List Int) (n : Nat) : Prop where
  inc : c.Pairwise (· < ·)
  dec : ∀ y ∈ c, ∃ k, m ≤ k ∧ DecAt s k (-y)
  at_ : c = [] ∨ ∃ c0 cs, c = c0 :: cs ∧ m ≤ n ∧ (∃ x, DecAt s n x) ∧ (∃ k0, n ≤ k0 ∧ DecAt s k0 (-c0)) ∧ (∀ y ∈ cs, -y ∈ s.trail.take n) ∧
    (cs = [] → ∀ k x, DecAt s k x → k < n → k < m) ∧ ∀ c1 t, cs = c1 :: t → ∀ k x, DecAt s k x → k < n → -c1 ∉ s.trail.take k
theorem Sea.tk {n : Nat} {C : List (List Int)} {ids : List Nat} {P : List (Nat × List Int)} {s : DS} (h : Sea n C ids P s) {k : Nat} {x : Int} (hk : s.trail[k]? = some x) : x ∉ s.trail.take k := by
  have hnd := h.mid.tra.nodup
  have hlt := (List.getElem?_eq_some_iff.1 hk).1
  rw [← List.take_append_drop k s.trail, List.nodup_append] at hnd
  have : x ∈ s.trail.drop k := List.mem_of_getElem? (i := 0) (by rw [List.getElem?_drop]; exact hk)
  exact fun e => hnd.2.2 x e x this rfl
theorem mem_tk {t : List Int} {k k' : Nat} {x : Int} (hk : t[k]? = some x) (h : k < k') : x ∈ t.take k' := by
  have : (t.take k')[k]? = some x := by rw [List.getElem?_take_of_lt h]; exact hk
  exact List.mem_of_getElem? this
theorem Sea.blame {n : Nat} {C : List (List Int)} {ids : List Nat} {P : List (Nat × List Int)} {s : DS} (h : Sea n C ids P s) :
    ∀ {L : List Int} {bl : Int → Bool} {c : List Int} {q : Nat} {rest : List Int}, s.trail = s.trail.take s.known ++ (L.reverse ++ rest) → Bla s (s.known + L.length) c q → Bla s s.known (blP s L bl c q).1 (blP s L bl c q).2
  | [], _, _, _, _, _, hJ => by rw [blP]; exact hJ
  | x :: t, bl, c, q, rest, hs, hJ => by
    have hs' : s.trail = s.trail.take s.known ++ (t.reverse ++ (x :: rest)) := by
      rw [List.reverse_cons, List.append_assoc] at hs; exact hs
    have hk := h.kn
    have hpos : s.trail[s.known + t.length]? = some x := by
      rw [hs', List.getElem?_append_right (by rw [List.length_take]; omega), List.getElem?_append_right (by simp only [List.length_take, List.length_reverse]; omega)]
      have e : s.known + t.length - (s.trail.take s.known).length - t.reverse.length = 0 := by rw [List.length_take, List.length_reverse]; omega
      rw [e]; rfl
    simp only [List.length_cons] at hJ
    rw [blP]
    cases hq : s.reason x with
    | some g =>
      simp only
      refine h.blame hs' ⟨hJ.inc, fun y hy => ?_, ?_⟩
      · obtain ⟨k, k1, k2⟩ := hJ.dec y hy
        exact ⟨k, by omega, k2⟩
      · rcases hJ.at_ with e | ⟨c0, cs, e, a1, a2, a3, a4, a5, a6⟩
        · exact .inl e
        · refine .inr ⟨c0, cs, e, by omega, a2, a3, a4, fun e k y hy hlt => ?_, a6⟩
          have := a5 e k y hy hlt
          rcases Nat.lt_or_ge k (s.known + t.length) with h1 | h1
          · exact h1
          · have hkk : k = s.known + t.length := by omega
            have h2 := hy.2.1
            rw [hkk, hpos] at h2
            cases h2
            rw [hy.2.2] at hq; cases hq
    | none =>
      simp only
      have hD : DecAt s (s.known + t.length) x := ⟨Nat.le_add_right _ _, hpos, hq⟩
      refine h.blame hs' ?_
      have hnew : ∀ y ∈ c, y < -x := by
        intro y hy
        obtain ⟨k, k1, k2⟩ := hJ.dec y hy
        obtain ⟨_, ⟨i, i1, i2, i3, i4⟩, _⟩ := h.base _ _ hD
        obtain ⟨_, ⟨j, j1, j2, j3, j4⟩, _⟩ := h.base _ _ k2
        have hxk : x ∈ s.trail.take k := mem_tk hpos (by omega)
        have hyk := h.tk k2.2.1
        have hxt : x ∈ s.trail := List.mem_of_getElem? hpos
        have hyt : -y ∈ s.trail := List.mem_of_getElem? k2.2.1
        rcases Int.lt_trichotomy y (-x) with e | e | e
        · exact e
        · exact absurd (by rw [e, Int.neg_neg]; exact hxk) hyk
        · exfalso
          have hsub : ∀ z, z ∈ s.trail.take (s.known + t.length) → z ∈ s.trail.take k := fun z hz => by
            obtain ⟨r, hr⟩ := List.getElem?_of_mem hz
            have hrl := (List.getElem?_eq_some_iff.1 hr).1
            rw [List.length_take] at hrl
            rw [List.getElem?_take_of_lt (by omega)] at hr
            exact mem_tk hr (by omega)
          rcases i4 y (by omega) (by omega) with h3 | h3
          · exact h.mid.tra.cons _ (List.mem_of_mem_take h3) hyt
          · exact hyk (hsub _ h3)
      cases hb : bl x with
      | false =>
        simp only [Bool.false_eq_true, if_false]
        refine ⟨hJ.inc, fun y hy => ?_, ?_⟩
        · obtain ⟨k, k1, k2⟩ := hJ.dec y hy
          exact ⟨k, by omega, k2⟩
        · rcases hJ.at_ with e | ⟨c0, cs, e, a1, a2, ⟨k0, a3, a3'⟩, a4, a5, a6⟩
          · exact .inl e
          · right
            match cs, e, a4, a5, a6 with
            | [], e, a4, a5, a6 =>
              rw [if_pos (by rw [e]; simp)]
              exact ⟨c0, [], e, Nat.le_refl _, ⟨x, hD⟩, ⟨k0, by omega, a3'⟩, by simp, fun _ k _ _ hlt => hlt, fun _ _ e => by cases e⟩
            | c1 :: t1, e, a4, a5, a6 =>
              rw [if_neg (by rw [e]; simp)]
              exact ⟨c0, c1 :: t1, e, by omega, a2, ⟨k0, a3, a3'⟩, a4, (fun e => by cases e), a6⟩
      | true =>
        simp only [if_true]
        refine ⟨?_, fun y hy => ?_, ?_⟩
        · rw [List.pairwise_append]
          exact ⟨hJ.inc, by simp, fun y hy z hz => by simp at hz; rw [hz]; exact hnew y hy⟩
        · rcases List.mem_append.1 hy with hy | hy
          · obtain ⟨k, k1, k2⟩ := hJ.dec y hy
            exact ⟨k, by omega, k2⟩
          · simp at hy
            rw [hy, Int.neg_neg]
            exact ⟨_, Nat.le_refl _, hD⟩
        · right
          rcases hJ.at_ with e | ⟨c0, cs, e, a1, a2, ⟨k0, a3, a3'⟩, a4, a5, a6⟩
          · rw [e]
            refine ⟨-x, [], rfl, ?_⟩
            rw [if_pos (by simp)]
            exact ⟨Nat.le_refl _, ⟨x, hD⟩, ⟨_, Nat.le_refl _, by rw [Int.neg_neg]; exact hD⟩, by simp, fun _ k _ _ hlt => hlt, fun _ _ e => by cases e⟩
          · rw [e]
            refine ⟨c0, cs ++ [-x], rfl, ?_⟩
            rw [if_neg (by simp)]
            refine ⟨by omega, a2, ⟨k0, a3, a3'⟩, fun y hy => ?_, fun e => by simp at e, fun c1 t1 e1 k z hz hlt => ?_⟩
            · rcases List.mem_append.1 hy with hy | hy
              · exact a4 y hy
              · simp at hy
                rw [hy, Int.neg_neg]
                exact mem_tk hpos (by omega)
            · match cs, e1, a4, a5, a6 with
              | [], e1, a4, a5, a6 =>
                have hk5 := a5 rfl k z hz hlt
                simp at e1
                rw [← e1.1, Int.neg_neg]
                intro e2
                have := h.tk hpos
                refine this ?_
                obtain ⟨r, hr⟩ := List.getElem?_of_mem e2
                have hrl := (List.getElem?_eq_some_iff.1 hr).1
                rw [List.length_take] at hrl
                rw [List.getElem?_take_of_lt (by omega)] at hr
                exact mem_tk hr (by omega)
              | d :: t2, e1, a4, a5, a6 =>
                simp at e1
                exact a6 c1 t2 (by rw [e1.1]) k z hz hlt

/-- the clause that is learned where there is a conflict -/
theorem Sea.cause {n : Nat} {C : List (List Int)} {ids : List Nat} {P : List (Nat × List Int)} {s : DS} (h : Sea n C ids P s) (hc : Conf ids s) {g : Nat} (hg : s.conflict = some g) {R : List Int × Nat}
    (hR : blP s (s.trail.drop s.known).reverse (markL (fun _ => false) (s.cl g)) [] 0 = R) :
    Bla s s.known R.1 R.2 ∧ Inc n R.1 ∧ Bad (C ++ lrn P) (Least (C ++ lrn P) (ngs R.1)) ∧ R.1 ∉ (lrn P).filter fun c => !c.isEmpty := by
  have hB := h.blame (L := (s.trail.drop s.known).reverse) (bl := markL (fun _ => false) (s.cl g)) (c := []) (q := 0) (rest := []) (by simp) ⟨by simp, by simp, .inl rfl⟩
  rw [hR] at hB
  refine ⟨hB, ⟨hB.inc, fun y hy => ?_⟩, ?_, ?_⟩
  · obtain ⟨k, _, k2⟩ := hB.dec y hy
    obtain ⟨_, ⟨i, i1, i2, i3, _⟩, _⟩ := h.base _ _ k2
    omega
  · obtain ⟨K, hK⟩ : ∃ K, Least (C ++ lrn P) (ngs R.1) = K := ⟨_, rfl⟩
    have hD : DerC (C ++ lrn P) K := by rw [← hK]; exact least_der _ _
    have hF : ∀ y ∈ R.1, K (-y) := fun y hy => by rw [← hK]; exact fun K' _ hF => hF _ (neg_ngs hy)
    rw [hK]
    obtain ⟨k1, k2⟩ := h.sound K hD
    have hsrc : ∀ g, (g ∈ ids ∨ ∃ p ∈ P, p.1 = g) → ∀ x ∈ s.cl g, (∀ y ∈ s.cl g, y ≠ x → K (-y)) → K x := by
      intro g hg x hx hy
      rcases hg with hg | ⟨p, hp, e⟩
      · exact k2 g hg x hx hy
      · have hpm := (h.lrnd p hp).1
        rw [e] at hpm
        exact hD p.2 (List.mem_append_right _ (List.mem_map.2 ⟨p, hp, rfl⟩)) x (hpm.mem_iff.1 hx) fun y hyp hne => hy y (hpm.mem_iff.2 hyp) hne
    have hS := blP_sound h.why h.kn k1 hsrc (L := (s.trail.drop s.known).reverse) (bl := markL (fun _ => false) (s.cl g)) (c := []) (n := 0) (rest := []) (by simp) (by rw [hR]; exact hF)
    obtain ⟨g', hg', e1, hall⟩ := hc
    rw [hg] at e1
    cases e1
    have hKn : ∀ y ∈ s.cl g, K (-y) := by
      intro y hy
      have hm := hall y hy
      rw [← List.take_append_drop s.known s.trail] at hm
      rcases List.mem_append.1 hm with hm | hm
      · exact k1 _ hm
      · exact hS _ (List.mem_reverse.2 hm) (by unfold markL; rw [Int.neg_neg]; simp [hy])
    obtain ⟨a, b, t, hcl⟩ := (h.mid.wat.two g hg').form
    have ha : a ∈ s.cl g := by rw [hcl]; simp
    exact .inr ⟨a, k2 g hg' a ha fun y hy _ => hKn y hy, hKn a ha⟩
  · intro hin
    rw [List.mem_filter] at hin
    obtain ⟨hin, hne⟩ := hin
    obtain ⟨p, hp, e⟩ := List.mem_map.1 hin
    rcases hB.at_ with e0 | ⟨c0, cs, e0, a1, a2, ⟨k0, a3, a3'⟩, a4, _, _⟩
    · rw [e0] at hne; simp at hne
    · have ht0 : -c0 ∈ s.trail := List.mem_of_getElem? a3'.2.1
      have hc0 : c0 ∉ s.trail := fun e => h.mid.tra.cons _ e ht0
      obtain ⟨l1, l2, l3, l4⟩ := h.lrnd p hp
      have hpe : p.2 = c0 :: cs := e.trans e0
      rcases Decidable.em (cs = []) with ec | ec
      · rw [ec] at hpe
        exact hc0 (h.unit p hp c0 hpe)
      · have hids : p.1 ∈ ids := by
          rcases l4 with l4 | l4
          · exact l4
          · rw [hpe] at l4
            simp only [List.length_cons] at l4
            exact absurd (List.eq_nil_of_length_eq_zero (by omega)) ec
        obtain ⟨a, b, t, hcl⟩ := (h.mid.wat.two p.1 hids).form
        have hab : a ≠ b := fun e => by have := (h.mid.wat.two p.1 hids).2.1; rw [hcl, e] at this; simp at this
        have hC := (h.base _ _ a3').1 p.1 hids a b t hcl
        have hcs : ∀ y ∈ s.cl p.1, y ≠ c0 → -y ∈ s.trail.take k0 := by
          intro y hy hne
          have hy := l1.mem_iff.1 hy
          rw [hpe] at hy
          have hy := (List.mem_cons.1 hy).resolve_left hne
          have := a4 y hy
          obtain ⟨r, hr⟩ := List.getElem?_of_mem this
          have hrl := (List.getElem?_eq_some_iff.1 hr).1
          rw [List.length_take] at hrl
          rw [List.getElem?_take_of_lt (by omega)] at hr
          exact mem_tk hr (by omega)
        have ha : a ∈ s.cl p.1 := by rw [hcl]; simp
        have hb : b ∈ s.cl p.1 := by rw [hcl]; simp
        rcases Decidable.em (a = c0) with ea | ea
        · have := hC.2 (hcs b hb (fun e => hab (ea.trans e.symm)))
          rw [ea] at this
          exact hc0 (List.mem_of_mem_take this)
        · have h1 := hC.1 (hcs a ha ea)
          rcases Decidable.em (b = c0) with eb | eb
          · rw [eb] at h1; exact hc0 (List.mem_of_mem_take h1)
          · exact h.mid.tra.cons _ (List.mem_of_mem_take h1) (List.mem_of_mem_take (hcs b hb eb))
/-- the state that is gone back to, with the clause in it -/
def lrnP (s : DS) (q : Nat) (c : List Int) (g : Nat) : DS :=
  match c with
  | a :: b :: t => watP (retP s q) a b t g
  | [a] => { retP s q with cl := upF (retP s q).cl g [a] }
  | [] => retP s q
theorem lrnP_eqs (s : DS) (q : Nat) (c0 : Int) (cs : List Int) (g : Nat) : (lrnP s q (c0 :: cs) g).trail = s.trail.take q ∧ (lrnP s q (c0 :: cs) g).cl = upF s.cl g (c0 :: cs) ∧ (lrnP s q (c0 :: cs) g).reason = s.reason ∧
    (lrnP s q (c0 :: cs) g).next = q ∧ (lrnP s q (c0 :: cs) g).known = s.known ∧ (lrnP s q (c0 :: cs) g).broken = s.broken ∧ (lrnP s q (c0 :: cs) g).holds = (retP s q).holds := by
  cases cs <;> exact ⟨rfl, rfl, rfl, rfl, rfl, rfl, rfl⟩
theorem watch_wat {ids : List Nat} {s : DS} (h : Wat ids s.watched s.cl) {g : Nat} (hg : g ∉ ids) {a b : Int} {t : List Int} (h2 : Two (a :: b :: t)) : Wat (ids ++ [g]) (watP s a b t g).watched (watP s a b t g).cl := by
  have hab : a ≠ b := fun e => by have := h2.2.1; rw [e] at this; simp at this
  have hgw : ∀ x, g ∉ s.watched x := fun x e => hg ((h.mem x g).1 e).1
  have hclk : ∀ v, ∀ k ∈ ids, upF s.cl g v k = s.cl k := fun v k hk => upF_other _ _ (fun e => hg (e ▸ hk))
  have hW : ∀ x, upF (upF s.watched a (s.watched a ++ [g])) b (upF s.watched a (s.watched a ++ [g]) b ++ [g]) x = if x = a ∨ x = b then s.watched x ++ [g] else s.watched x := by
    intro x
    rw [upF_other (f := s.watched) (i := a) _ (fun e => hab e.symm)]
    by_cases e : x = b
    · rw [e, upF_same]; simp
    · rw [upF_other _ _ e]
      by_cases e2 : x = a
      · rw [e2, upF_same]; simp
      · rw [upF_other _ _ e2]; simp [e, e2]
  refine ⟨fun k hk => ?_, fun x => ?_, fun x k => ?_⟩
  · rcases List.mem_append.1 hk with hk | hk
    · show Two (upF s.cl g _ k)
      rw [hclk _ k hk]; exact h.two k hk
    · simp at hk
      show Two (upF s.cl g _ k)
      rw [hk, upF_same]
      exact h2
  · show (upF (upF s.watched a _) b _ x).Nodup
    rw [hW]
    split
    · rw [List.nodup_append]
      exact ⟨h.nodup x, by simp, fun y hy z hz e => hgw x (by simp at hz; rw [← hz, ← e]; exact hy)⟩
    · exact h.nodup x
  · show k ∈ upF (upF s.watched a _) b _ x ↔ k ∈ ids ++ [g] ∧ wa (upF s.cl g (a :: b :: t) k) x
    rw [hW]
    by_cases ek : k = g
    · rw [ek, upF_same, wa_two]
      split
      · rename_i hx; simp [hx]
      · rename_i hx; simp [hx, hgw x]
    · rw [upF_other _ _ ek]
      have := h.mem x k
      split
      · simp [ek, this]
      · simp [ek, this]
theorem Sea.lrn_mid {n : Nat} (hn : n ≤ 24) {C : List (List Int)} {ids : List Nat} {P : List (Nat × List Int)} {s : DS} (h : Sea n C ids P s) {c0 : Int} {cs : List Int} {q : Nat} (hI : Inc n (c0 :: cs)) (hql : q ≤ s.trail.length) {g : Nat} (hgi : g ∉ ids) :
    Mid (if cs = [] then ids else ids ++ [g]) (lrnP s q (c0 :: cs) g) := by
  have hltr : ∀ x ∈ c0 :: cs, Ltr x := fun x hx => by have := hI.2 x hx; unfold Ltr; omega
  have hcn : (c0 :: cs).Nodup := hI.1.imp fun h => by omega
  obtain ⟨e1, e2, e3, e4, e5, e6, e7⟩ := lrnP_eqs s q c0 cs g
  have htr0 := h.mid.tra.ret q
  refine ⟨⟨by rw [e1]; exact htr0.nodup, by rw [e1]; exact htr0.lits, by rw [e1]; exact htr0.cons, by rw [e1, e7]; exact htr0.holds⟩, ?_, by rw [e4, e1, List.length_take]; omega⟩
  match cs, hcn, hltr with
  | [], _, _ =>
    rw [if_pos rfl]
    refine ⟨fun k hk => ?_, h.mid.wat.nodup, fun x k => ?_⟩
    · rw [e2, upF_other _ _ (show k ≠ g from fun e => hgi (e ▸ hk))]; exact h.mid.wat.two k hk
    · rw [e2]
      have := h.mid.wat.mem x k
      by_cases ek : k = g
      · rw [ek] at this ⊢
        show g ∈ s.watched x ↔ _
        rw [this]; simp [hgi]
      · rw [upF_other _ _ ek]; exact this
  | c1 :: t, hcn, hltr =>
    rw [if_neg (by simp)]
    exact watch_wat (s := retP s q) h.mid.wat hgi ⟨by simp, hcn, hltr⟩
theorem Sea.learn {n : Nat} (hn : n ≤ 24) {C : List (List Int)} {ids : List Nat} {P : List (Nat × List Int)} {s : DS} (h : Sea n C ids P s) {c0 : Int} {cs : List Int} {q : Nat} (hB : Bla s s.known (c0 :: cs) q) (hI : Inc n (c0 :: cs))
    (hbad : Bad (C ++ lrn P) (Least (C ++ lrn P) (ngs (c0 :: cs)))) (hnew : (c0 :: cs) ∉ lrn P) {g : Nat} (hgi : g ∉ ids) (hgP : ∀ p ∈ P, p.1 ≠ g) :
    ∃ ids', Sea n C ids' (P ++ [(g, c0 :: cs)]) (folP (lrnP s q (c0 :: cs) g) c0 (some g)).2 ∧
      ((folP (lrnP s q (c0 :: cs) g) c0 (some g)).1 = true → Settled ids' (folP (lrnP s q (c0 :: cs) g) c0 (some g)).2) ∧ ((folP (lrnP s q (c0 :: cs) g) c0 (some g)).1 = false → Conf ids' (folP (lrnP s q (c0 :: cs) g) c0 (some g)).2) ∧ ids' = (if cs = [] then ids else ids ++ [g]) := by
  obtain ⟨q0, cs', e0, a1, ⟨xq, a2⟩, ⟨k0, a3, a3'⟩, a4, a5, a6⟩ := hB.at_.resolve_left (by simp)
  cases e0
  have hql : q < s.trail.length := (List.getElem?_eq_some_iff.1 a2.2.1).1
  obtain ⟨b1, _, b3⟩ := h.base _ _ a2
  have hnd := h.mid.tra.nodup
  have ht0 : -c0 ∈ s.trail := List.mem_of_getElem? a3'.2.1
  have hc0 : c0 ∉ s.trail := fun e => h.mid.tra.cons _ e ht0
  have hsub : ∀ k k', k ≤ k' → ∀ z, z ∈ s.trail.take k → z ∈ s.trail.take k' := fun k k' hkk z hz => by
    obtain ⟨r, hr⟩ := List.getElem?_of_mem hz
    have hrl := (List.getElem?_eq_some_iff.1 hr).1
    rw [List.length_take] at hrl
    rw [List.getElem?_take_of_lt (by omega)] at hr
    exact mem_tk hr (by omega)
  have hq0 : -c0 ∉ s.trail.take q := fun e => h.tk a3'.2.1 (hsub _ _ a3 _ e)
  have hltr : ∀ x ∈ c0 :: cs, Ltr x := fun x hx => by have := hI.2 x hx; unfold Ltr; omega
  obtain ⟨e1, e2, e3, e4, e5, e6, e7⟩ := lrnP_eqs s q c0 cs g
  obtain ⟨ids', hids⟩ : ∃ ids', (if cs = [] then ids else ids ++ [g]) = ids' := ⟨_, rfl⟩
  have hold : ∀ k ∈ ids, k ∈ ids' := fun k hk => by rw [← hids]; split; exact hk; exact List.mem_append_left _ hk
  have hnew2 : ∀ k ∈ ids', k ∈ ids ∨ (k = g ∧ cs ≠ []) := fun k hk => by
    rw [← hids] at hk
    split at hk
    · exact .inl hk
    · rename_i hne
      rcases List.mem_append.1 hk with hk | hk
      · exact .inl hk
      · simp at hk; exact .inr ⟨hk, hne⟩
  have hm2 : Mid ids' (lrnP s q (c0 :: cs) g) := by rw [← hids]; exact h.lrn_mid hn hI (Nat.le_of_lt hql) hgi
  obtain ⟨s2, hs2⟩ : ∃ s2, lrnP s q (c0 :: cs) g = s2 := ⟨_, rfl⟩
  rw [hs2] at e1 e2 e3 e4 e5 e6 e7 hm2 ⊢
  have hc2 : c0 ∉ s2.trail := fun e => hc0 (by rw [e1] at e; exact List.mem_of_mem_take e)
  have hc2' : -c0 ∉ s2.trail := by rw [e1]; exact hq0
  have hh1 : s2.holds c0 = false := by cases hq : s2.holds c0 with
    | false => rfl
    | true => exact absurd ((hm2.tra.holds _).1 hq) hc2
  have hh2 : s2.holds (-c0) = false := by cases hq : s2.holds (-c0) with
    | false => rfl
    | true => exact absurd ((hm2.tra.holds _).1 hq) hc2'
  have hN : noteP s2 c0 (some g) = (true, { s2 with holds := upF s2.holds c0 true, reason := upF s2.reason c0 (some g), trail := s2.trail ++ [c0] }) := by
    unfold noteP; rw [if_neg (by rw [hh1]; simp), if_neg (by rw [hh2]; simp)]
  have N := hm2.tra.note (hltr c0 (by simp)) (some g)
  rw [hN] at N
  unfold folP
  rw [hN, if_pos rfl]
  simp only at N ⊢
  obtain ⟨s3, hs3⟩ : ∃ s3 : DS, ({ s2 with holds := upF s2.holds c0 true, reason := upF s2.reason c0 (some g), trail := s2.trail ++ [c0] } : DS) = s3 := ⟨_, rfl⟩
  rw [hs3] at N ⊢
  have f1 : s3.trail = s.trail.take q ++ [c0] := by rw [← hs3, ← e1]
  have f2 : s3.cl = upF s.cl g (c0 :: cs) := by rw [← hs3, ← e2]
  have f3 : s3.reason = upF s.reason c0 (some g) := by rw [← hs3, ← e3]
  have f4 : s3.next = q := by rw [← hs3, ← e4]
  have f5 : s3.known = s.known := by rw [← hs3, ← e5]
  have f6 : s3.watched = s2.watched := by rw [← hs3]
  have hlq : (s.trail.take q).length = q := by rw [List.length_take]; omega
  have hm3 : Mid ids' s3 := ⟨N.1, by rw [f6, f2, ← e2]; exact hm2.wat, by rw [f4, f1, List.length_append, hlq]; omega⟩
  have hkq : s.known ≤ q := a1
  have hclo : ∀ k ∈ ids, upF s.cl g (c0 :: cs) k = s.cl k := fun k hk => upF_other _ _ (fun e => hgi (e ▸ hk))
  have hclP : ∀ p ∈ P, upF s.cl g (c0 :: cs) p.1 = s.cl p.1 := fun p hp => upF_other _ _ (hgP p hp)
  obtain ⟨Src, hSrc⟩ : ∃ Src : Nat → Prop, (fun k => k ∈ ids' ∨ ∃ p ∈ P ++ [(g, c0 :: cs)], p.1 = k) = Src := ⟨_, rfl⟩
  have hy3 : Why Src s.known s3 := by
    intro k x r hk hx hr
    rw [f1] at hx
    rw [f3] at hr
    rcases get_app hx with ⟨hx, hl⟩ | ⟨hkk, hx⟩
    · rw [hlq] at hl
      have hx' : s.trail[k]? = some x := by rw [List.getElem?_take_of_lt hl] at hx; exact hx
      have hne : x ≠ c0 := fun e => hc0 (by rw [← e]; exact List.mem_of_getElem? hx')
      rw [upF_other _ _ hne] at hr
      obtain ⟨w1, w2, w3⟩ := h.why k x r hk hx' hr
      have hrg : r ≠ g := fun e => by
        rcases w1 with w1 | ⟨p, hp, e2⟩
        · exact hgi (e ▸ w1)
        · exact hgP p hp (e2.trans e)
      rw [f2, upF_other _ _ hrg, f1, List.take_append_of_le_length (by rw [hlq]; omega), List.take_take, Nat.min_eq_left (Nat.le_of_lt hl)]
      refine ⟨?_, w2, w3⟩
      rw [← hSrc]
      rcases w1 with w1 | ⟨p, hp, e2⟩
      · exact .inl (hold _ w1)
      · exact .inr ⟨p, List.mem_append_left _ hp, e2⟩
    · rw [hx, upF_same] at hr
      cases hr
      rw [hx, f2, upF_same, f1, hkk, List.take_left]
      refine ⟨by rw [← hSrc]; exact .inr ⟨_, List.mem_append_right _ (List.mem_singleton.2 rfl), rfl⟩, by simp, fun y hy hne => ?_⟩
      exact a4 y ((List.mem_cons.1 hy).resolve_left hne)
  have hcl3 : Clo ids' s3.cl (s3.trail.take s3.next) s3.trail := by
    rw [f4, f1, f2, List.take_append_of_le_length (by rw [hlq]; exact Nat.le_refl _), List.take_take, Nat.min_self]
    intro k hk x y u hu
    rcases hnew2 k hk with h1 | ⟨h1, h2⟩
    · rw [hclo k h1] at hu
      exact (b1.mono (fun _ h => h) fun x hx => List.mem_append_left _ hx) k h1 x y u hu
    · rw [h1, upF_same] at hu
      cases hu
      exact ⟨fun e => absurd e hq0, fun _ => by simp⟩
  have hbas3 : ∀ k x, DecAt s k x → k < q → Clo ids' s3.cl (s.trail.take k) (s.trail.take k) := by
    intro k x hk hkq r hr y z u hu
    rw [f2] at hu
    rcases hnew2 r hr with h1 | ⟨h1, h2⟩
    · rw [hclo r h1] at hu
      exact (h.base _ _ hk).1 r h1 y z u hu
    · rw [h1, upF_same] at hu
      cases hu
      exact ⟨fun e => absurd (hsub _ _ (Nat.le_of_lt hkq) _ e) hq0, fun e => absurd e (a6 _ _ rfl k x hk hkq)⟩
  have hS1 : ∀ k ∈ ids', Src k := fun k hk => by rw [← hSrc]; exact .inl hk
  obtain ⟨w1, w2, w3⟩ := prop_why (n := 49) hS1 hm3 (by omega) hy3
  obtain ⟨p1, p2, p3, p4, p5, p6, p7⟩ := prop_all (n := 49) hm3 (by omega)
  generalize propP 49 s3 = r at *
  obtain ⟨t, ht⟩ := p2.trail
  have hkr : r.2.known = s.known := p2.known.trans f5
  have htk : r.2.trail.take s.known = s.trail.take s.known := by
    rw [ht, f1, List.append_assoc, List.take_append_of_le_length (by rw [hlq]; exact hkq), List.take_take, Nat.min_eq_left hkq]
  have hmem : ∀ x ∈ s.trail.take q, x ∈ r.2.trail := fun x hx => by rw [ht, f1]; simp [hx]
  have hmc : c0 ∈ r.2.trail := by rw [ht, f1]; simp
  have hpc : ∀ k, (r.2.cl k).Perm (upF s.cl g (c0 :: cs) k) := fun k => by have := p2.perm k; rw [f2] at this; exact this
  have hdec : ∀ k x, DecAt r.2 k x → DecAt s k x ∧ k < q ∧ r.2.trail.take k = s.trail.take k := by
    intro k x hk
    obtain ⟨d1, d2, d3⟩ := w2.dec p2.known hk
    obtain ⟨g1, g2, g3⟩ := d1
    rw [f1] at g2
    rw [f3] at g3
    rcases get_app g2 with ⟨hx, hl⟩ | ⟨hkk, hx⟩
    · rw [hlq] at hl
      have hx' : s.trail[k]? = some x := by rw [List.getElem?_take_of_lt hl] at hx; exact hx
      have hne : x ≠ c0 := fun e => hc0 (by rw [← e]; exact List.mem_of_getElem? hx')
      rw [upF_other _ _ hne] at g3
      exact ⟨⟨by omega, hx', g3⟩, hl, by rw [d2, f1, List.take_append_of_le_length (by rw [hlq]; omega), List.take_take, Nat.min_eq_left (Nat.le_of_lt hl)]⟩
    · rw [hx, upF_same] at g3; cases g3
  refine ⟨ids', ⟨p1, by rw [hkr, ht, f1]; simp only [List.length_append, hlq]; omega, fun k x hkx => ?_, by rw [hkr, hSrc]; exact w1, fun K hK => ?_, fun c hc => ?_, fun i p hp => ?_, fun p hp => ?_, fun p hp y hy => ?_, ?_, ?_⟩, fun e => ⟨p4 e, p5 hcl3 e⟩, w3, hids.symm⟩
  · obtain ⟨d1, d2, d3⟩ := hdec k x hkx
    obtain ⟨g1, g2, g3⟩ := h.base _ _ d1
    rw [d3]
    refine ⟨p7 _ (fun y hy => by rw [f1]; exact List.mem_append_left _ (hsub _ _ (Nat.le_of_lt d2) _ hy)) (hbas3 k x d1 d2), g2, fun p hp y hy => ?_⟩
    rcases List.mem_append.1 hp with hp | hp
    · exact g3 p hp y hy
    · simp at hp
      rw [hp] at hy
      simp only [List.cons.injEq] at hy
      have := a5 hy.2 k x d1 d2
      have := d1.1
      omega
  · have hK' : DerC (C ++ lrn P) K := fun c hc => hK c (by
      rcases List.mem_append.1 hc with hc | hc
      · exact List.mem_append_left _ hc
      · exact List.mem_append_right _ (by simp [lrn] at hc ⊢; exact .inl hc))
    obtain ⟨k1, k2⟩ := h.sound K hK'
    rw [hkr, htk]
    refine ⟨k1, Der.perm (cl := upF s.cl g (c0 :: cs)) (fun k hk x hx hy => ?_) hpc⟩
    rcases hnew2 k hk with h1 | ⟨h1, _⟩
    · rw [hclo k h1] at hx hy
      exact k2 k h1 x hx hy
    · rw [h1, upF_same] at hx hy
      exact hK (c0 :: cs) (by simp [lrn]) x hx hy
  · rw [hkr, htk]
    exact (h.rep c hc).mono hold (fun k hk => by have := hpc k; rw [hclo k hk] at this; exact this) fun _ h => h
  · rcases Nat.lt_or_ge i P.length with hi | hi
    · rw [List.getElem?_append_left hi] at hp
      rw [List.take_append_of_le_length (Nat.le_of_lt hi)]
      exact h.rup i p hp
    · rw [List.getElem?_append_right hi] at hp
      have hi0 : i - P.length = 0 := by
        rcases Nat.eq_zero_or_pos (i - P.length) with e | e
        · exact e
        · rw [List.getElem?_eq_none (by simp; omega)] at hp; cases hp
      rw [hi0] at hp
      simp at hp
      have hi2 : i = P.length := by omega
      rw [← hp, hi2, List.take_left]
      exact hbad
  · rcases List.mem_append.1 hp with hp | hp
    · obtain ⟨l1, l2, l3, l4⟩ := h.lrnd p hp
      have := hpc p.1
      rw [hclP p hp] at this
      exact ⟨this.trans l1, l2, l3, l4.imp (hold _) id⟩
    · simp at hp
      have := hpc g
      rw [upF_same] at this
      rw [hp]
      refine ⟨this, hI, by simp, ?_⟩
      rw [← hids]
      split
      · rename_i e; right; rw [e]; rfl
      · left; simp
  · rcases List.mem_append.1 hp with hp | hp
    · exact hmem _ (b3 p hp y hy)
    · simp at hp
      rw [hp] at hy
      simp only [List.cons.injEq] at hy
      rw [← hy.1]; exact hmc
  · have e : lrn (P ++ [(g, c0 :: cs)]) = lrn P ++ [c0 :: cs] := by simp [lrn]
    rw [e, List.nodup_append]
    exact ⟨h.nodup, by simp, fun a ha b hb e => hnew (by simp at hb; rw [← hb, ← e]; exact ha)⟩
  · rw [p2.broken, ← hs3]
    show s2.broken = false
    rw [e6]; exact h.fine
/-! how many clauses can be learned -/
def incL : Nat → List (List Int)
  | 0 => [[]]
  | n + 1 => incL n ++ (incL n).map fun c => c ++ [((n + 1 : Nat) : Int)]
theorem incL_len : ∀ n : Nat, (incL n).length = 2 ^ n
  | 0 => rfl
  | n + 1 => by rw [incL, List.length_append, List.length_map, incL_len n, Nat.pow_succ]; omega
theorem Inc.mem : ∀ {n : Nat} {c : List Int}, Inc n c → c ∈ incL n
  | 0, c, h => by
    match c, h with
    | [], _ => simp [incL]
    | x :: t, h => have := h.2 x (by simp); omega
  | n + 1, c, h => by
    rw [incL, List.mem_append]
    rcases Decidable.em (((n + 1 : Nat) : Int) ∈ c) with hm | hm
    · right
      obtain ⟨t, u, e⟩ := List.append_of_mem hm
      have hp := h.1
      rw [e, List.pairwise_append] at hp
      have hu : u = [] := by
        match u, hp with
        | [], _ => rfl
        | y :: u, hp =>
          have h1 := (List.pairwise_cons.1 hp.2.1).1 y (by simp)
          have h2 := h.2 y (by rw [e]; simp)
          omega
      rw [e, hu]
      refine List.mem_map.2 ⟨t, Inc.mem ⟨hp.1, fun x hx => ?_⟩, rfl⟩
      have h1 := h.2 x (by rw [e]; simp [hx])
      have h2 := hp.2.2 x hx ((n + 1 : Nat) : Int) (by simp)
      omega
    · left
      refine Inc.mem ⟨h.1, fun x hx => ?_⟩
      have h1 := h.2 x hx
      have : x ≠ ((n + 1 : Nat) : Int) := fun e => hm (e ▸ hx)
      omega
theorem nodup_leG {α : Type} [DecidableEq α] : ∀ {l m : List α}, l.Nodup → (∀ x ∈ l, x ∈ m) → l.length ≤ m.length
  | [], m, _, _ => Nat.zero_le _
  | a :: l, m, hn, hs => by
    have ha : a ∈ m := hs a (by simp)
    have h1 := nodup_leG (l := l) (m := m.erase a) (List.nodup_cons.1 hn).2 fun x hx => by
      have hne : x ≠ a := fun e => (List.nodup_cons.1 hn).1 (e ▸ hx)
      exact (List.mem_erase_of_ne hne).2 (hs x (by simp [hx]))
    rw [List.length_erase_of_mem ha] at h1
    have : 0 < m.length := List.length_pos_of_mem ha
    simp only [List.length_cons]
    omega
theorem Sea.le {n : Nat} {C : List (List Int)} {ids : List Nat} {P : List (Nat × List Int)} {s : DS} (h : Sea n C ids P s) : P.length ≤ 2 ^ n := by
  have := nodup_leG (m := incL n) h.nodup fun c hc => by
    obtain ⟨p, hp, e⟩ := List.mem_map.1 hc
    rw [← e]
    exact (h.lrnd p hp).2.1.mem
  rw [incL_len, List.length_map] at this
  exact this

/-! models -/
def satB (c : Nat) (y : Int) : Bool := c.testBit (y.natAbs - 1) == decide (0 < y)
def holdsP (l : List (List Int)) (c : Nat) : Bool := l.all fun r => r.any (satB c)
def modelsP (n : Nat) (l : List (List Int)) : List Nat := (List.range (2 ^ n)).filter (holdsP l)
def modP (h : Int → Bool) : Nat → Nat
  | 0 => 0
  | k + 1 => if h ((k + 1 : Nat) : Int) = true then modP h k ||| 2 ^ k else modP h k
theorem modP_bit {h : Int → Bool} : ∀ {n i : Nat}, (modP h n).testBit i = (decide (i < n) && h ((i + 1 : Nat) : Int))
  | 0, i => by simp [modP]
  | n + 1, i => by
    have ih := modP_bit (h := h) (n := n) (i := i)
    rw [modP]
    split
    · rename_i hh
      rw [Nat.testBit_or, ih, Nat.testBit_two_pow]
      by_cases e : n = i
      · subst e; rw [hh]; simp
      · have e2 : (i < n + 1) ↔ (i < n) := by omega
        simp [e, e2]
    · rename_i hh
      rw [ih]
      by_cases e : n = i
      · subst e; rw [Bool.not_eq_true] at hh; rw [hh]; simp
      · have e2 : (i < n + 1) ↔ (i < n) := by omega
        simp [e2]
theorem modP_lt {h : Int → Bool} {n : Nat} : modP h n < 2 ^ n := by
  refine Nat.lt_pow_two_of_testBit _ fun i hi => ?_
  rw [modP_bit]
  have : ¬ i < n := by omega
  simp [this]
theorem satB_neg {c : Nat} {y : Int} (hy : y ≠ 0) : satB c (-y) = !satB c y := by
  unfold satB
  rw [Int.natAbs_neg]
  rcases Int.lt_or_gt_of_ne hy with h | h
  · have h1 : decide (0 < -y) = true := by simp; omega
    have h2 : decide (0 < y) = false := by simp; omega
    rw [h1, h2]; cases c.testBit _ <;> rfl
  · have h1 : decide (0 < -y) = false := by simp; omega
    have h2 : decide (0 < y) = true := by simp; omega
    rw [h1, h2]; cases c.testBit _ <;> rfl
theorem bit_lt {v m i : Nat} (h1 : v.testBit i = false) (h2 : m.testBit i = true) (h3 : ∀ j, i < j → v.testBit j = m.testBit j) : v < m := by
  have e : v / 2 ^ (i + 1) = m / 2 ^ (i + 1) := Nat.eq_of_testBit_eq fun j => by
    rw [Nat.testBit_div_two_pow, Nat.testBit_div_two_pow]; exact h3 _ (by omega)
  have a1 : v % 2 ^ (i + 1) < 2 ^ i := Nat.lt_pow_two_of_testBit _ fun j hj => by
    rw [Nat.testBit_mod_two_pow]
    rcases Nat.eq_or_lt_of_le hj with e | e
    · rw [← e, h1, Bool.and_false]
    · have : ¬ j < i + 1 := by omega
      simp [this]
  have a2 : 2 ^ i ≤ m % 2 ^ (i + 1) := Nat.ge_two_pow_of_testBit (by rw [Nat.testBit_mod_two_pow, h2]; simp)
  have b1 := Nat.div_add_mod v (2 ^ (i + 1))
  have b2 := Nat.div_add_mod m (2 ^ (i + 1))
  rw [e] at b1
  omega
/-- what a model says -/
theorem model_der {C : List (List Int)} (hl : ∀ c ∈ C, ∀ x ∈ c, Ltr x) {m : Nat} (h : holdsP C m = true) : DerC C fun x => satB m x = true := by
  intro c hc x hx hy
  unfold holdsP at h
  rw [List.all_eq_true] at h
  obtain ⟨y, hy1, hy2⟩ := List.any_eq_true.1 (h c hc)
  rcases Decidable.em (y = x) with e | e
  · rw [← e]; exact hy2
  · have : satB m (-y) = true := hy y hy1 e
    rw [satB_neg (hl c hc y hy1).1, hy2] at this
    cases this
theorem model_not_bad {C : List (List Int)} (hl : ∀ c ∈ C, ∀ x ∈ c, Ltr x) {m : Nat} (h : holdsP C m = true) {F : List Int} (hF : ∀ x ∈ F, Ltr x ∧ satB m x = true) : ¬ Bad C (Least C F) := by
  intro hb
  have hD := model_der hl h
  unfold holdsP at h
  rw [List.all_eq_true] at h
  have hlit : ∀ x, Least C F x → Ltr x := fun x hx => hx _ (fun c hc x hx _ => hl c hc x hx) fun y hy => (hF y hy).1
  rcases hb with ⟨c, hc, e⟩ | ⟨x, h1, h2⟩
  · have := h c hc
    rw [e] at this; simp at this
  · have k1 := h1 _ hD fun y hy => (hF y hy).2
    have k2 := h2 _ hD fun y hy => (hF y hy).2
    rw [satB_neg (hlit x h1).1, k1] at k2
    cases k2
theorem holdsP_app {C : List (List Int)} {c : List Int} {m : Nat} : holdsP (C ++ [c]) m = (holdsP C m && c.any (satB m)) := by
  unfold holdsP; simp
/-- a model is one of what is learned, too -/
theorem rup_models {C : List (List Int)} (hl : ∀ c ∈ C, ∀ x ∈ c, Ltr x) {m : Nat} (h : holdsP C m = true) : ∀ {k : Nat} {L : List (List Int)}, k ≤ L.length → (∀ c ∈ L, ∀ x ∈ c, Ltr x) → (∀ (i : Nat) c, L[i]? = some c → Bad (C ++ L.take i) (Least (C ++ L.take i) (ngs c))) → holdsP (C ++ L.take k) m = true
  | 0, L, _, _, _ => by simpa using h
  | k + 1, L, hk, hL, hr => by
    have ih := rup_models hl h (k := k) (L := L) (by omega) hL hr
    have hg : L[k]? = some L[k] := List.getElem?_eq_getElem (by omega)
    have hm : L[k] ∈ L := List.getElem_mem (by omega)
    rw [List.take_add_one, hg]
    show holdsP (C ++ (L.take k ++ [L[k]])) m = true
    rw [← List.append_assoc, holdsP_app, ih]
    simp only [Bool.true_and]
    cases hq : L[k].any (satB m) with
    | true => rfl
    | false =>
      exfalso
      refine model_not_bad (fun c hc x hx => ?_) ih (F := ngs L[k]) (fun x hx => ?_) (hr k _ hg)
      · rcases List.mem_append.1 hc with hc | hc
        · exact hl c hc x hx
        · exact hL c (List.mem_of_mem_take hc) x hx
      · obtain ⟨y, hy, e⟩ := List.mem_map.1 hx
        have hy2 := hL _ hm y hy
        rw [← e]
        refine ⟨hy2.neg, ?_⟩
        rw [satB_neg hy2.1]
        rw [List.any_eq_false] at hq
        simpa using hq y hy
theorem lrn_get {P : List (Nat × List Int)} {i : Nat} {c : List Int} (h : (lrn P)[i]? = some c) : ∃ p, P[i]? = some p ∧ p.2 = c := by
  unfold lrn at h
  rw [List.getElem?_map] at h
  cases hq : P[i]? with
  | none => rw [hq] at h; cases h
  | some p => rw [hq] at h; exact ⟨p, rfl, by simpa using h⟩
theorem Sea.ltr {n : Nat} (hn : n ≤ 24) {C : List (List Int)} {ids : List Nat} {P : List (Nat × List Int)} {s : DS} (h : Sea n C ids P s) : ∀ c ∈ lrn P, ∀ x ∈ c, Ltr x := by
  intro c hc x hx
  obtain ⟨p, hp, e⟩ := List.mem_map.1 hc
  have := (h.lrnd p hp).2.1.2 x (by rw [e]; exact hx)
  unfold Ltr; omega
theorem Sea.models {n : Nat} (hn : n ≤ 24) {C : List (List Int)} (hl : ∀ c ∈ C, ∀ x ∈ c, Ltr x) {ids : List Nat} {P : List (Nat × List Int)} {s : DS} (h : Sea n C ids P s) {m : Nat} (hm : holdsP C m = true) : holdsP (C ++ lrn P) m = true := by
  have := rup_models hl hm (k := (lrn P).length) (L := lrn P) (Nat.le_refl _) (h.ltr hn) fun i c hc => by
    obtain ⟨p, hp, e⟩ := lrn_get hc
    have := h.rup i p hp
    rw [e] at this
    have e2 : (lrn P).take i = lrn (P.take i) := by unfold lrn; rw [List.map_take]
    rw [e2]; exact this
  rw [List.take_length] at this
  exact this
/-- what follows from what is assumed, in a model -/
theorem Sea.follow {n : Nat} (hn : n ≤ 24) {C : List (List Int)} (hl : ∀ c ∈ C, ∀ x ∈ c, Ltr x) {ids : List Nat} {P : List (Nat × List Int)} {s : DS} (h : Sea n C ids P s) {m : Nat} (hm : holdsP C m = true) :
    ∀ (k : Nat) x, s.trail[k]? = some x → (∀ k' y, DecAt s k' y → k' ≤ k → satB m y = true) → satB m x = true := by
  intro k
  induction k using Nat.strongRecOn with
  | _ k ih =>
    intro x hx hd
    have hA := h.models hn hl hm
    have hDer : DerC (C ++ lrn P) fun x => satB m x = true := model_der (fun c hc => (List.mem_append.1 hc).elim (hl c) (h.ltr hn c)) hA
    obtain ⟨k1, k2⟩ := h.sound _ hDer
    rcases Nat.lt_or_ge k s.known with hk | hk
    · exact k1 x (mem_tk hx hk)
    · cases hq : s.reason x with
      | none => exact hd k x ⟨hk, hx, hq⟩ (Nat.le_refl _)
      | some g =>
        obtain ⟨w1, w2, w3⟩ := h.why k x g hk hx hq
        have hoth : ∀ y ∈ s.cl g, y ≠ x → satB m (-y) = true := by
          intro y hy hne
          obtain ⟨r, hr⟩ := List.getElem?_of_mem (w3 y hy hne)
          have hrl := (List.getElem?_eq_some_iff.1 hr).1
          rw [List.length_take] at hrl
          rw [List.getElem?_take_of_lt (by omega)] at hr
          exact ih r (by omega) _ hr fun k' z hz hk' => hd k' z hz (by omega)
        rcases w1 with w1 | ⟨p, hp, e⟩
        · exact k2 g w1 x w2 hoth
        · have hpm := (h.lrnd p hp).1
          rw [e] at hpm
          exact hDer p.2 (List.mem_append_right _ (List.mem_map.2 ⟨p, hp, rfl⟩)) x (hpm.mem_iff.1 w2) fun y hyp hne => hoth y (hpm.mem_iff.2 hyp) hne
/-- where all features are decided, there is the least model -/
theorem Sea.least {n : Nat} (hn : n ≤ 24) {C : List (List Int)} (hl : ∀ c ∈ C, ∀ x ∈ c, Ltr x ∧ x.natAbs ≤ n) {ids : List Nat} {P : List (Nat × List Int)} {s : DS} (h : Sea n C ids P s) (hd : Settled ids s)
    (hall : ∀ i : Int, 1 ≤ i → i ≤ n → i ∈ s.trail ∨ -i ∈ s.trail) : holdsP C (modP s.holds n) = true ∧ ∀ m, holdsP C m = true → m < 2 ^ n → modP s.holds n ≤ m := by
  have hl' : ∀ c ∈ C, ∀ x ∈ c, Ltr x := fun c hc x hx => (hl c hc x hx).1
  have hsat : ∀ y, y ∈ s.trail → y.natAbs ≤ n → satB (modP s.holds n) y = true := by
    intro y hy hyn
    have hy0 := h.mid.tra.lits y hy
    unfold Ltr at hy0
    unfold satB
    rw [modP_bit]
    have h1 : y.natAbs - 1 < n := by omega
    rcases Int.lt_or_gt_of_ne hy0.1 with h2 | h2
    · have e : ((y.natAbs - 1 + 1 : Nat) : Int) = -y := by omega
      have h3 : s.holds (-y) = false := by
        cases hq : s.holds (-y) with
        | false => rfl
        | true => exact absurd ((h.mid.tra.holds _).1 hq) (h.mid.tra.cons y hy)
      rw [e, h3]; simp; omega
    · have e : ((y.natAbs - 1 + 1 : Nat) : Int) = y := by omega
      rw [e, (h.mid.tra.holds y).2 hy]; simp [h1]; omega
  have htrue : ∀ c ∈ C, ∃ y ∈ c, y ∈ s.trail := by
    intro c hc
    rcases h.rep c hc with ⟨x, h1, h2⟩ | ⟨g, hg, h1, _⟩
    · exact ⟨x, h1, List.mem_of_mem_take h2⟩
    · obtain ⟨a, b, t, hcl⟩ := (h.mid.wat.two g hg).form
      have ha : a ∈ c := h1 a (by rw [hcl]; simp)
      have hb : b ∈ c := h1 b (by rw [hcl]; simp)
      obtain ⟨ha1, ha2⟩ := hl c hc a ha
      have hat : a ∈ s.trail ∨ -a ∈ s.trail := by
        unfold Ltr at ha1
        rcases Int.lt_or_gt_of_ne ha1.1 with h2 | h2
        · have := hall (-a) (by omega) (by omega)
          rw [Int.neg_neg] at this
          exact this.symm
        · exact hall a (by omega) (by omega)
      rcases hat with h2 | h2
      · exact ⟨a, ha, h2⟩
      · exact ⟨b, hb, (hd.2 g hg a b t hcl).1 h2⟩
  refine ⟨?_, fun m hm hmn => ?_⟩
  · unfold holdsP
    rw [List.all_eq_true]
    intro c hc
    obtain ⟨y, hy, ht⟩ := htrue c hc
    exact List.any_eq_true.2 ⟨y, hy, hsat y ht (hl c hc y hy).2⟩
  · have key : ∀ i : Nat, (∀ j, i < j → (modP s.holds n).testBit j = m.testBit j) → (modP s.holds n).testBit i = true → m.testBit i = true := by
      intro i hj hi
      rw [modP_bit] at hi
      simp only [Bool.and_eq_true, decide_eq_true_eq] at hi
      obtain ⟨hin, hih⟩ := hi
      have hit := (h.mid.tra.holds _).1 hih
      obtain ⟨k, hk⟩ := List.getElem?_of_mem hit
      have := h.follow hn hl' hm k _ hk fun k' y hy hkk => by
        obtain ⟨_, ⟨j, j1, j2, j3, j4⟩, _⟩ := h.base _ _ hy
        have hyt : y ∈ s.trail := List.mem_of_getElem? hy.2.1
        have hsy := hsat y hyt (by omega)
        have hji : ((i + 1 : Nat) : Int) < j := by
          rcases Int.lt_trichotomy j ((i + 1 : Nat) : Int) with e | e | e
          · exfalso
            rcases j4 _ e (by omega) with h3 | h3
            · have := h.tk hk
              refine this ?_
              obtain ⟨r, hr⟩ := List.getElem?_of_mem h3
              have hrl := (List.getElem?_eq_some_iff.1 hr).1
              rw [List.length_take] at hrl
              rw [List.getElem?_take_of_lt (by omega)] at hr
              exact mem_tk hr (by omega)
            · exact h.mid.tra.cons _ hit (List.mem_of_mem_take h3)
          · exfalso
            rw [j3, e] at hyt
            exact h.mid.tra.cons _ hit hyt
          · exact e
        unfold satB at hsy ⊢
        rw [← hj _ (by omega)]
        exact hsy
      unfold satB at this
      have e : ((i + 1 : Nat) : Int).natAbs - 1 = i := by omega
      rw [e] at this
      have h4 : Decidable.decide (0 < ((i + 1 : Nat) : Int)) = true := by simp
      rw [h4] at this
      simpa using this
    rcases Nat.lt_or_ge m (modP s.holds n) with hlt | hge
    · exfalso
      have hdiff : ∃ i, (modP s.holds n).testBit i ≠ m.testBit i ∧ ∀ j, i < j → (modP s.holds n).testBit j = m.testBit j := by
        have hex : ∀ k, (∀ j, k ≤ j → (modP s.holds n).testBit j = m.testBit j) → (∃ i, (modP s.holds n).testBit i ≠ m.testBit i ∧ ∀ j, i < j → (modP s.holds n).testBit j = m.testBit j) ∨ ∀ j, (modP s.holds n).testBit j = m.testBit j := by
          intro k
          induction k with
          | zero => intro hk; exact .inr fun j => hk j (Nat.zero_le _)
          | succ k ih =>
            intro hk
            rcases Decidable.em ((modP s.holds n).testBit k = m.testBit k) with e | e
            · refine ih fun j hj => ?_
              rcases Nat.lt_or_ge k j with h1 | h1
              · exact hk j (by omega)
              · have : j = k := by omega
                rw [this]; exact e
            · exact .inl ⟨k, e, fun j hj => hk j (by omega)⟩
        rcases hex n (fun j hj => by
          rw [Nat.testBit_lt_two_pow (Nat.lt_of_lt_of_le modP_lt (Nat.pow_le_pow_right (by decide) hj)), Nat.testBit_lt_two_pow (Nat.lt_of_lt_of_le hmn (Nat.pow_le_pow_right (by decide) hj))]) with h1 | h1
        · exact h1
        · have := Nat.eq_of_testBit_eq h1
          omega
      obtain ⟨i, h1, h2⟩ := hdiff
      have h3 := key i h2
      cases hq : (modP s.holds n).testBit i with
      | true =>
        rw [hq, h3 hq] at h1
        exact h1 rfl
      | false =>
        rw [hq] at h1
        have h4 : m.testBit i = true := by cases hm : m.testBit i with
          | true => rfl
          | false => rw [hm] at h1; exact absurd rfl h1
        have := bit_lt hq h4 h2
        omega
    · exact hge
theorem models_least {n : Nat} {C : List (List Int)} {v : Nat} (h : holdsP C v = true) (hv : v < 2 ^ n) (hm : ∀ m, holdsP C m = true → m < 2 ^ n → v ≤ m) : ∃ t, modelsP n C = v :: t := by
  have hmem : v ∈ modelsP n C := List.mem_filter.2 ⟨List.mem_range.2 hv, h⟩
  have hp : (modelsP n C).Pairwise (· < ·) := List.Pairwise.filter _ List.pairwise_lt_range
  match hq : modelsP n C, hmem, hp with
  | x :: t, hmem, hp =>
    rcases List.mem_cons.1 hmem with e | e
    · exact ⟨t, by rw [e]⟩
    · exfalso
      have h1 := (List.pairwise_cons.1 hp).1 v e
      have h2 : x ∈ modelsP n C := by rw [hq]; simp
      obtain ⟨h3, h4⟩ := List.mem_filter.1 h2
      have := hm x h4 (List.mem_range.1 h3)
      omega
theorem no_models {n : Nat} {C : List (List Int)} (h : ∀ m, holdsP C m = false) : modelsP n C = [] := by
  unfold modelsP
  rw [List.filter_eq_nil_iff]
  intro m _
  rw [h]; simp
/-- a refutation, in other words for its clauses -/
theorem Bad.cong {C C' : List (List Int)} {F F' : List Int} (hC : ∀ c ∈ C, ∃ c' ∈ C', ∀ x, x ∈ c ↔ x ∈ c') (hF : ∀ x ∈ F, x ∈ F') (h : Bad C (Least C F)) : Bad C' (Least C' F') := by
  have hL : ∀ x, Least C F x → Least C' F' x := fun x hx K hK hF' => hx K (fun c hc y hy hz => by
    obtain ⟨c', h1, h2⟩ := hC c hc
    exact hK c' h1 y ((h2 y).1 hy) fun z hz' hne => hz z ((h2 z).2 hz') hne) fun y hy => hF' y (hF y hy)
  rcases h with ⟨c, hc, e⟩ | ⟨x, h1, h2⟩
  · obtain ⟨c', h1, h2⟩ := hC c hc
    refine .inl ⟨c', h1, ?_⟩
    match c', h2 with
    | [], _ => rfl
    | y :: t, h2 => have := (h2 y).2 (by simp); rw [e] at this; simp at this
  · exact .inr ⟨x, hL _ h1, hL _ h2⟩
/-! the clause of a conflict is one that is kept -/
def Kon (ids : List Nat) (s : DS) : Prop := ∀ g, s.conflict = some g → g ∈ ids
theorem note_con (s : DS) (l : Int) (g g' : Nat) (h : (noteP s l (some g)).2.conflict = some g') : s.conflict = some g' ∨ g' = g := by
  unfold noteP at h
  split at h
  · exact .inl h
  · split at h
    · exact .inr (Option.some.inj h).symm
    · exact .inl h
theorem look_con {ids : List Nat} {lit : Int} {T : List Int} : ∀ {rest kept : List Nat} {s : DS}, LookI ids s lit rest kept T → Kon ids s → Kon ids (lookP lit rest kept s).2
  | [], kept, s, _, hk => by rw [lookP]; exact hk
  | g :: rest, kept, s, h, hk => by
    obtain ⟨hg, h2, hw⟩ := h.head
    have hrc := (hand_rc s g lit).2
    have hk1 : Kon ids (handP s g lit).2 := fun g' h' => hk g' (by rw [← hrc]; exact h')
    rw [lookP]
    split
    · rename_i hr
      exact look_con (h.yes hr) hk1
    · rename_i hr
      have hr' : (handP s g lit).1 = false := by simpa using hr
      obtain ⟨a, t, hc, _, _, _, hyes, _⟩ := h.no hr'
      rw [hc, List.headD_cons]
      have hk2 : Kon ids (noteP (handP s g lit).2 a (some g)).2 := fun g' h' => (note_con _ _ _ _ h').elim (hk1 g') (fun e => by rw [e]; exact hg)
      split
      · rename_i hn
        exact look_con (hyes hn) hk2
      · exact hk2
theorem prop_con {ids : List Nat} : ∀ {n : Nat} {s : DS}, Mid ids s → 49 ≤ n + s.next → Kon ids s → Kon ids (propP n s).2
  | 0, s, h, hf, _ => by
    have := lits_le h.tra.nodup h.tra.lits
    have := h.le
    omega
  | n + 1, s, h, hf, hk => by
    rw [propP]
    cases hq : s.trail[s.next]? with
    | none => exact hk
    | some l =>
      have hlt := (List.getElem?_eq_some_iff.1 hq).1
      have hl : l ∈ s.trail := List.mem_of_getElem? hq
      simp only
      have hL : LookI ids { s with next := s.next + 1 } (-l) (s.watched (-l)) [] [] := by
        refine ⟨⟨h.tra.nodup, h.tra.lits, h.tra.cons, h.tra.holds⟩, ?_, by rw [Int.neg_neg]; exact hl, by simp, fun g _ a b t _ => ⟨fun _ e => by simp at e, fun _ e => by simp at e⟩⟩
        have e : upF s.watched (-l) ([] ++ s.watched (-l)) = s.watched := by
          funext x
          unfold upF
          split
          · rename_i e; rw [e]; rfl
          · rfl
        show Wat ids (upF s.watched (-l) ([] ++ s.watched (-l))) s.cl
        rw [e]
        exact h.wat
      have hk1 := look_con hL (fun g' h' => hk g' h')
      obtain ⟨l1, l2, l3, _⟩ := look_all hL
      generalize lookP (-l) (s.watched (-l)) [] { s with next := s.next + 1 } = r at *
      have hnx : r.2.next = s.next + 1 := l3.next
      obtain ⟨tt, htt⟩ := l3.trail
      have htt' : r.2.trail = s.trail ++ tt := htt
      split
      · exact prop_con (n := n) (s := r.2) ⟨l1, l2, by rw [hnx, htt', List.length_append]; omega⟩ (by rw [hnx]; omega) hk1
      · exact hk1
theorem add_con {C : List (List Int)} {ids : List Nat} {s : DS} (h : Lev C ids s) (hk : Kon ids s) {c : List Int} {g : Nat} (hg : g ∉ ids) (hc : ∀ x ∈ c, Ltr x) : Kon ids (addP s c g) := by
  unfold addP
  split
  · exact hk
  · rename_i hb
    have hb' : s.broken = false := by simpa using hb
    have hom : ∀ x, x ∈ openP s.holds c [] → x ∈ c ∧ -x ∉ s.trail := fun x hx => by
      rw [openP_mem] at hx
      simp only [List.not_mem_nil, false_or] at hx
      exact ⟨hx.1, fun e => by rw [(h.mid.tra.holds _).2 e] at hx; simp at hx⟩
    generalize openP s.holds c [] = o at *
    match o, hom with
    | [], _ => exact hk
    | a :: b :: t, _ => exact hk
    | [x], hom =>
      show Kon ids (unitP s x g)
      have hx := hom x (by simp)
      have htra : Tra { s with cl := upF s.cl g [x] } := ⟨h.mid.tra.nodup, h.mid.tra.lits, h.mid.tra.cons, h.mid.tra.holds⟩
      have N := htra.note (hc x hx.1) (some g)
      have hn1 : (noteP { s with cl := upF s.cl g [x] } x (some g)).1 = true := by
        cases hq : (noteP { s with cl := upF s.cl g [x] } x (some g)).1
        · exact absurd (N.2.2.1 hq).1 hx.2
        · rfl
      have hu : folP { s with cl := upF s.cl g [x] } x (some g) = propP 49 (noteP { s with cl := upF s.cl g [x] } x (some g)).2 := if_pos hn1
      unfold unitP
      rw [hu]
      have hcn : (noteP { s with cl := upF s.cl g [x] } x (some g)).2.conflict = s.conflict := by
        unfold noteP at hn1 ⊢
        split
        · rfl
        · rename_i e1
          rw [if_neg e1] at hn1
          split
          · rename_i e2
            rw [if_pos e2] at hn1; cases hn1
          · rfl
      obtain ⟨n1, n2, _, n4, n5, n6, n7, n8⟩ := N
      obtain ⟨_, tt, htt, _⟩ := n2 hn1
      generalize (noteP { s with cl := upF s.cl g [x] } x (some g)).2 = s1 at *
      simp only at n4 n5 n6 htt
      have hclk : ∀ k ∈ ids, s1.cl k = s.cl k := fun k hk => by rw [n5]; exact upF_other _ _ (fun e => hg (e ▸ hk))
      have hm : Mid ids s1 := ⟨n1, ⟨fun k hk => by rw [hclk k hk]; exact h.mid.wat.two k hk, fun x => by rw [n4]; exact h.mid.wat.nodup x, fun x k => by
        rw [n4, h.mid.wat.mem]
        constructor
        · rintro ⟨h1, h2⟩; exact ⟨h1, by rw [hclk k h1]; exact h2⟩
        · rintro ⟨h1, h2⟩; exact ⟨h1, by rw [hclk k h1] at h2; exact h2⟩⟩, by rw [n6, htt, List.length_append]; have := h.mid.le; omega⟩
      exact prop_con (n := 49) hm (by omega) fun g' h' => hk g' (by rw [← hcn]; exact h')
theorem Kon.grow {ids ids' : List Nat} {s : DS} (h : Kon ids s) (hi : ∀ g ∈ ids, g ∈ ids') : Kon ids' s := fun g hg => hi g (h g hg)

/-! the rounds of the search -/
def Sta (n : Nat) (C : List (List Int)) (ids : List Nat) (P : List (Nat × List Int)) (s : DS) (free : Bool) : Prop :=
  (Sea n C ids P s ∧ (free = true → Settled ids s) ∧ (free = false → Conf ids s)) ∨ (free = false ∧ P = [] ∧ Lev C ids s ∧ s.broken = true ∧ Kon ids s)
theorem Sta.init {n : Nat} {C : List (List Int)} {ids : List Nat} {s : DS} (h : Lev C ids s) (hk : Kon ids s) : Sta n C ids [] s (!s.broken) := by
  cases hb : s.broken with
  | true => exact .inr ⟨rfl, rfl, h, hb, hk⟩
  | false =>
    obtain ⟨h1, h2⟩ := Sea.init (n := n) h hb
    exact .inl ⟨h1, fun _ => h2, fun e => by cases e⟩
theorem Sta.le {n : Nat} {C : List (List Int)} {ids : List Nat} {P : List (Nat × List Int)} {s : DS} {free : Bool} (h : Sta n C ids P s free) : P.length ≤ 2 ^ n := by
  rcases h with ⟨h, _⟩ | ⟨_, e, _⟩
  · exact h.le
  · rw [e]; exact Nat.zero_le _
theorem Sta.mid {n : Nat} {C : List (List Int)} {ids : List Nat} {P : List (Nat × List Int)} {s : DS} {free : Bool} (h : Sta n C ids P s free) : Mid ids s ∧ s.known ≤ s.trail.length := by
  rcases h with ⟨h, _⟩ | ⟨_, _, h, _⟩
  · exact ⟨h.mid, h.kn⟩
  · exact ⟨h.mid, Nat.le_of_eq h.known⟩
def conQ (s : DS) : List Int := match s.conflict with
  | none => []
  | some g => s.cl g
theorem Sta.lits {n : Nat} (hn : n ≤ 24) {C : List (List Int)} {ids : List Nat} {P : List (Nat × List Int)} {s : DS} (h : Sta n C ids P s false) : (∀ y ∈ conQ s, Ltr y) ∧ ∀ x ∈ s.trail.drop s.known, ∀ g, s.reason x = some g → ∀ y ∈ s.cl g, Ltr y := by
  rcases h with ⟨h, _, hc⟩ | ⟨_, _, h, _, hk⟩
  · obtain ⟨g, hg, e, _⟩ := hc rfl
    refine ⟨fun y hy => ?_, fun x hx g hr y hy => ?_⟩
    · unfold conQ at hy
      rw [e] at hy
      exact (h.mid.wat.two g hg).2.2 y hy
    · obtain ⟨k, hk⟩ := List.getElem?_of_mem hx
      rw [List.getElem?_drop] at hk
      obtain ⟨w1, _⟩ := h.why _ x g (Nat.le_add_right _ _) hk hr
      rcases w1 with w1 | ⟨p, hp, e⟩
      · exact (h.mid.wat.two g w1).2.2 y hy
      · obtain ⟨l1, l2, _⟩ := h.lrnd p hp
        rw [e] at l1
        have := l2.2 y (l1.mem_iff.1 hy)
        unfold Ltr; omega
  · refine ⟨fun y hy => ?_, fun x hx => ?_⟩
    · unfold conQ at hy
      cases hq : s.conflict with
      | none => rw [hq] at hy; simp at hy
      | some g => rw [hq] at hy; exact (h.mid.wat.two g (hk g hq)).2.2 y hy
    · rw [h.known, List.drop_length] at hx; simp at hx
/-- what is found where there is a conflict -/
theorem Sta.conf {n : Nat} {C : List (List Int)} {ids : List Nat} {P : List (Nat × List Int)} {s : DS} (h : Sta n C ids P s false) {R : List Int × Nat} (hR : blP s (s.trail.drop s.known).reverse (markL (fun _ => false) (conQ s)) [] 0 = R) :
    Bad (C ++ lrn P) (Least (C ++ lrn P) (ngs R.1)) ∧ (R.1 ≠ [] → Sea n C ids P s ∧ Bla s s.known R.1 R.2 ∧ Inc n R.1 ∧ R.1 ∉ lrn P ∧ R.2 ≤ s.trail.length) := by
  rcases h with ⟨h, _, hc⟩ | ⟨_, e, h, hb, _⟩
  · have hc' := hc rfl
    obtain ⟨g, hg, e, _⟩ := hc'
    have e2 : conQ s = s.cl g := by unfold conQ; rw [e]
    rw [e2] at hR
    obtain ⟨a1, a2, a3, a4⟩ := h.cause (hc rfl) e hR
    refine ⟨a3, fun hne => ⟨h, a1, a2, fun hin => a4 (List.mem_filter.2 ⟨hin, ?_⟩), ?_⟩⟩
    · match hq : R.1, hne with
      | x :: t, _ => rfl
    · obtain ⟨_, _, _, _, ⟨x, hx⟩, _⟩ := a1.at_.resolve_left hne
      exact Nat.le_of_lt (List.getElem?_eq_some_iff.1 hx.2.1).1
  · have hd : s.trail.drop s.known = [] := by rw [h.known, List.drop_length]
    rw [hd] at hR
    have : R = ([], 0) := hR.symm
    rw [this, e]
    refine ⟨?_, fun hne => absurd rfl hne⟩
    have e2 : C ++ lrn [] = C := by simp [lrn]
    rw [e2]
    exact (h.sound (Least C (ngs [])) (least_der _ _)).2.2 hb
/-- a refutation: its clauses as they were made, and as they lie -/
def Refut (n : Nat) (C : List (List Int)) (Q : List (List Int)) : Prop :=
  ∃ L : List (List Int), Q.length = L.length ∧ (∀ (i : Nat) c q, L[i]? = some c → Q[i]? = some q → q.Perm c) ∧ (∀ c ∈ L, Inc n c ∧ c ≠ []) ∧ L.length ≤ 2 ^ n ∧
    (∀ (i : Nat) c, L[i]? = some c → Bad (C ++ L.take i) (Least (C ++ L.take i) (ngs c))) ∧ Bad (C ++ L) (Least (C ++ L) [])
theorem Sta.refut {n : Nat} {C : List (List Int)} {ids : List Nat} {P : List (Nat × List Int)} {s : DS} {free : Bool} (h : Sta n C ids P s free) (hb : Bad (C ++ lrn P) (Least (C ++ lrn P) [])) : Refut n C (P.map fun p => s.cl p.1) := by
  refine ⟨lrn P, by simp [lrn], fun i c q hc hq => ?_, fun c hc => ?_, by rw [List.length_map]; exact h.le, fun i c hc => ?_, hb⟩
  · obtain ⟨p, hp, e⟩ := lrn_get hc
    rw [List.getElem?_map, hp] at hq
    rcases h with ⟨h, _⟩ | ⟨_, e, _⟩
    · have := (h.lrnd p (List.mem_of_getElem? hp)).1
      rw [← e, ← Option.some.inj hq]; exact this
    · rw [e] at hp; simp at hp
  · obtain ⟨p, hp, e⟩ := List.mem_map.1 hc
    rcases h with ⟨h, _⟩ | ⟨_, e, _⟩
    · obtain ⟨_, l2, l3, _⟩ := h.lrnd p hp
      rw [← e]; exact ⟨l2, l3⟩
    · rw [e] at hp; simp at hp
  · obtain ⟨p, hp, e⟩ := lrn_get hc
    rcases h with ⟨h, _⟩ | ⟨_, e, _⟩
    · have := h.rup i p hp
      have e2 : (lrn P).take i = lrn (P.take i) := by unfold lrn; rw [List.map_take]
      rw [e2, ← e]; exact this
    · rw [e] at hp; simp at hp
theorem Refut.none {n : Nat} (hn : n ≤ 24) {C : List (List Int)} (hl : ∀ c ∈ C, ∀ x ∈ c, Ltr x) {Q : List (List Int)} (h : Refut n C Q) (m : Nat) : holdsP C m = false := by
  obtain ⟨L, _, _, l3, _, l5, l6⟩ := h
  cases hm : holdsP C m with
  | false => rfl
  | true =>
    exfalso
    have hL : ∀ c ∈ L, ∀ x ∈ c, Ltr x := fun c hc x hx => by have := (l3 c hc).1.2 x hx; unfold Ltr; omega
    have := rup_models hl hm (k := L.length) (L := L) (Nat.le_refl _) hL l5
    rw [List.take_length] at this
    exact model_not_bad (fun c hc => (List.mem_append.1 hc).elim (hl c) (hL c)) this (F := []) (by simp) l6
theorem assP_one {s : DS} (x : Int) (hb : (folP s x none).2.broken = false) : assP [x] s = folP s x none := by
  rw [assP]
  split
  · rename_i e
    rw [assP, hb]
    show (true, _) = _
    rw [← e]
  · rename_i e
    have : (folP s x none).1 = false := by simpa using e
    rw [← this]
end Uq
end Go.Proofs.Ytaojojjdfdlgpaa
