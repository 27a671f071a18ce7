import Derived.Test.YtfhjpldlhhgcnaaDoorBdd
namespace Go.Proofs.YtfhjpldlhhgcnaaDoor.Bd

/-! ### how many nodes there can be -/
theorem nodup_le {α : Type} [DecidableEq α] : ∀ {R M : List α}, R.Nodup → (∀ x ∈ R, x ∈ M) → R.length ≤ M.length
  | [], _, _, _ => Nat.zero_le _
  | n :: r, M, hn, h => by
    obtain ⟨A, C, rfl⟩ := List.append_of_mem (h n (by simp))
    obtain ⟨h1, h2⟩ := List.nodup_cons.1 hn
    have : r.length ≤ (A ++ C).length := nodup_le h2 (fun x hx => by
      have hm := h x (List.mem_cons_of_mem _ hx)
      have hne : x ≠ n := by rintro rfl; exact h1 hx
      simp at hm ⊢; rcases hm with h | h | h
      · exact .inl h
      · exact absurd h hne
      · exact .inr h)
    simp at this ⊢; omega

def allB : Nat → Nat → List B
  | 0, _ => [.F, .T]
  | k + 1, i => (allB k (i + 1)).flatMap fun lo => (allB k (i + 1)).map fun hi => mk i lo hi

theorem mem_allB : ∀ (k i : Nat) {b : B}, i + k = 24 → b.ok i → b ∈ allB k i
  | 0, i, b, h, hb => by
    obtain rfl : i = 24 := by omega
    rcases ok_24 hb with rfl | rfl <;> simp [allB]
  | k + 1, i, b, h, hb => by
    rw [allB, ← mk_fix hb]
    exact List.mem_flatMap.2 ⟨_, mem_allB k (i + 1) (by omega) (ok_fix hb false), List.mem_map.2 ⟨_, mem_allB k (i + 1) (by omega) (ok_fix hb true), rfl⟩⟩

theorem length_flat {α β : Type} (l : List α) (f : α → List β) (n : Nat) (h : ∀ x, (f x).length = n) : (l.flatMap f).length = l.length * n := by
  induction l with
  | nil => simp
  | cons a l ih => simp [List.flatMap_cons, ih, h, Nat.add_mul]; omega

theorem length_allB (k i : Nat) : (allB (k + 1) i).length = (allB k (i + 1)).length * (allB k (i + 1)).length := by
  rw [allB, length_flat _ _ (allB k (i + 1)).length (by simp)]

theorem length_allB4 (i : Nat) : (allB 4 i).length = 65536 := by
  simp [length_allB]; simp [allB]

def cofs : Nat → Nat → B → List B
  | 0, _, _ => []
  | k + 1, i, b => b :: (cofs k (i + 1) (b.fix i false) ++ cofs k (i + 1) (b.fix i true))

theorem length_cofs : ∀ (k i : Nat) (b : B), (cofs k i b).length + 1 = 2 ^ k
  | 0, _, _ => rfl
  | k + 1, i, b => by
    have h1 := length_cofs k (i + 1) (b.fix i false)
    have h2 := length_cofs k (i + 1) (b.fix i true)
    simp [cofs, Nat.pow_succ]; omega

def B.top : B → Nat
  | .N i _ _ => i
  | _ => 24

/-- below: s is b or below it -/
def sub (s : B) : B → Prop
  | .N i lo hi => s = .N i lo hi ∨ sub s lo ∨ sub s hi
  | b => s = b

theorem top_ge {b : B} {n : Nat} (h : b.ok n) (hn : n ≤ 24) : n ≤ b.top := by
  cases b with
  | F => exact hn
  | T => exact hn
  | N i lo hi => exact h.1

theorem sub_ok {s b : B} : ∀ {n : Nat}, b.ok n → sub s b → s.ok n := by
  induction b with
  | F => intro n h hs; obtain rfl : s = .F := hs; trivial
  | T => intro n h hs; obtain rfl : s = .T := hs; trivial
  | N i lo hi il ih =>
    intro n h hs
    rcases hs with rfl | hs | hs
    · exact h
    · exact (il h.2.2.2.1 hs).mono (by have := h.1; omega)
    · exact (ih h.2.2.2.2 hs).mono (by have := h.1; omega)

theorem sub_fix {s b : B} {i : Nat} (h : sub s b) : s = b ∨ sub s (b.fix i false) ∨ sub s (b.fix i true) := by
  cases b with
  | F => exact .inl h
  | T => exact .inl h
  | N j lo hi =>
    by_cases e : j = i
    · rcases h with h | h | h
      · exact .inl h
      · exact .inr (.inl (by simpa [B.fix, e] using h))
      · exact .inr (.inr (by simpa [B.fix, e] using h))
    · exact .inr (.inl (by simpa [B.fix, e] using h))

theorem mem_cofs : ∀ (k i : Nat) {s b : B}, b.ok i → i ≤ 24 → i + k ≤ 24 → sub s b → s.top < i + k → s ∈ cofs k i b
  | 0, i, s, b, hb, hi, hk, hs, ht => by have := top_ge (sub_ok hb hs) hi; omega
  | k + 1, i, s, b, hb, hi, hk, hs, ht => by
    rw [cofs]
    rcases sub_fix (i := i) hs with rfl | h | h
    · simp
    · exact List.mem_cons_of_mem _ (List.mem_append_left _ (mem_cofs k (i + 1) (ok_fix hb _) (by omega) (by omega) h (by omega)))
    · exact List.mem_cons_of_mem _ (List.mem_append_right _ (mem_cofs k (i + 1) (ok_fix hb _) (by omega) (by omega) h (by omega)))

theorem vis_subs (b : B) : ∀ (R : List B) (x : B), x ∈ vis b R → x ∈ R ∨ sub x b := by
  induction b with
  | F => intro R x h; exact .inl h
  | T => intro R x h; exact .inl h
  | N i lo hi il ih =>
    intro R x h
    unfold vis at h; split at h
    · exact .inl h
    · rcases List.mem_cons.1 h with rfl | h
      · exact .inr (.inl rfl)
      · rcases ih _ x h with h | h
        · rcases il _ x h with h | h
          · exact .inl h
          · exact .inr (.inr (.inl h))
        · exact .inr (.inr (.inr h))

theorem good_nodup : ∀ {R : List B}, good R → R.Nodup
  | [], _ => List.nodup_nil
  | .N _ _ _ :: _, h => List.nodup_cons.2 ⟨h.1, good_nodup h.2.2.2⟩
  | .F :: _, h => h.elim
  | .T :: _, h => h.elim

theorem ok_of_top {s : B} {n m : Nat} (h : s.ok n) (hm : m ≤ s.top) : s.ok m := by
  cases s with
  | F => trivial
  | T => trivial
  | N i lo hi => exact ⟨hm, h.2⟩

/-- FEWER THAN 2^21 NODES. -/
theorem few {b : B} (hb : b.ok 0) : (vis b []).length < 2097152 := by
  have hd := good_nodup (good_vis b (R := []) trivial)
  have hs : ∀ x ∈ vis b [], x ∈ cofs 20 0 b ++ allB 4 20 := by
    intro x hx
    have hx' : sub x b := (vis_subs b [] x hx).resolve_left (by simp)
    by_cases ht : x.top < 20
    · exact List.mem_append_left _ (mem_cofs 20 0 hb (by omega) (by omega) hx' (by omega))
    · exact List.mem_append_right _ (mem_allB 4 20 (by omega) (ok_of_top (sub_ok hb hx') (by omega)))
  have h1 := nodup_le hd hs
  rw [List.length_append, length_allB4] at h1
  have h2 := length_cofs 20 0 b
  omega

/-! ### the bytes -/
def b3 (p : Nat) : List UInt8 := [UInt8.ofNat p, UInt8.ofNat (p / 256), UInt8.ofNat (p / 65536)]
def rowCode (r : Nat × Nat × Nat) : List UInt8 := UInt8.ofNat r.1 :: (b3 r.2.1 ++ b3 r.2.2)
def code (rs : List (Nat × Nat × Nat)) : List UInt8 := rs.flatMap rowCode

theorem rowCode_length (_r : Nat × Nat × Nat) : (rowCode _r).length = 7 := rfl
theorem code_length (rs : List (Nat × Nat × Nat)) : (code rs).length = 7 * rs.length := by
  unfold code; rw [length_flat _ _ 7 (by intro; rfl)]; omega
theorem code_snoc (rs : List (Nat × Nat × Nat)) (r : Nat × Nat × Nat) : code (rs ++ [r]) = code rs ++ rowCode r := by simp [code]
theorem code_at {rs : List (Nat × Nat × Nat)} {k : Nat} {r : Nat × Nat × Nat} (h : rs[k]? = some r) (j : Nat) (hj : j < 7) : (code rs)[7 * k + j]? = (rowCode r)[j]? := by
  induction rs generalizing k with
  | nil => simp at h
  | cons a rs ih =>
    have e : code (a :: rs) = rowCode a ++ code rs := rfl
    cases k with
    | zero =>
      simp at h; subst h
      rw [e, List.getElem?_append_left (by rw [rowCode_length]; omega)]; simp
    | succ k =>
      simp at h
      rw [e, List.getElem?_append_right (by rw [rowCode_length]; omega), rowCode_length, ← ih h]
      congr 1; omega

theorem b3_val {p : Nat} (h : p < 16777216) : (UInt8.ofNat p).toNat + 256 * (UInt8.ofNat (p / 256)).toNat + 65536 * (UInt8.ofNat (p / 65536)).toNat = p := by
  simp only [UInt8.toNat_ofNat']; omega

theorem rowCode_inj {r s : Nat × Nat × Nat} (hr : r.1 < 256 ∧ r.2.1 < 16777216 ∧ r.2.2 < 16777216) (hs : s.1 < 256 ∧ s.2.1 < 16777216 ∧ s.2.2 < 16777216) (h : rowCode r = rowCode s) : r = s := by
  obtain ⟨i, l, u⟩ := r
  obtain ⟨j, m, v⟩ := s
  simp only [rowCode, b3, List.cons_append, List.nil_append, List.cons.injEq, and_true] at h
  obtain ⟨h0, h1, h2, h3, h4, h5, h6⟩ := h
  have e1 := b3_val hr.2.1
  have e2 := b3_val hs.2.1
  have e3 := b3_val hr.2.2
  have e4 := b3_val hs.2.2
  have e0 := congrArg UInt8.toNat h0
  simp only [UInt8.toNat_ofNat'] at e0
  simp only at hr hs e1 e2 e3 e4
  rw [h1, h2, h3] at e1
  rw [h4, h5, h6] at e3
  have a1 : i = j := by omega
  have a2 : l = m := by omega
  have a3 : u = v := by omega
  rw [a1, a2, a3]

theorem code_inj : ∀ {rs ss : List (Nat × Nat × Nat)}, (∀ r ∈ rs, r.1 < 256 ∧ r.2.1 < 16777216 ∧ r.2.2 < 16777216) → (∀ r ∈ ss, r.1 < 256 ∧ r.2.1 < 16777216 ∧ r.2.2 < 16777216) → code rs = code ss → rs = ss
  | [], [], _, _, _ => rfl
  | [], s :: ss, _, _, h => by have := congrArg List.length h; rw [code_length, code_length] at this; simp at this
  | r :: rs, [], _, _, h => by have := congrArg List.length h; rw [code_length, code_length] at this; simp at this
  | r :: rs, s :: ss, h1, h2, h => by
    have e : rowCode r ++ code rs = rowCode s ++ code ss := h
    obtain ⟨e1, e2⟩ := List.append_inj e (by rfl)
    rw [rowCode_inj (h1 r (by simp)) (h2 s (by simp)) e1, code_inj (fun x hx => h1 x (List.mem_cons_of_mem _ hx)) (fun x hx => h2 x (List.mem_cons_of_mem _ hx)) e2]

/-- Listings with the same rows are the same. -/
theorem rows_inj : ∀ {R S : List B}, good R → good S → rows R = rows S → R = S
  | [], [], _, _, _ => rfl
  | [], .N _ _ _ :: s, _, hs, h => by simp [rows] at h
  | .N _ _ _ :: r, [], hr, _, h => by simp [rows] at h
  | .N i l u :: r, .N j m v :: s, hr, hs, h => by
    simp only [rows] at h
    obtain ⟨e1, e2⟩ := List.append_inj' h rfl
    obtain rfl := rows_inj hr.2.2.2 hs.2.2.2 e1
    simp at e2
    obtain ⟨rfl, e3, e4⟩ := e2
    rw [place_inj hr.2.1 hs.2.1 e3, place_inj hr.2.2.1 hs.2.2.1 e4]
  | .F :: _, _, h, _, _ => h.elim
  | .T :: _, _, h, _, _ => h.elim
  | [], .F :: _, _, h, _ => h.elim
  | [], .T :: _, _, h, _ => h.elim
  | .N _ _ _ :: _, .F :: _, _, h, _ => h.elim
  | .N _ _ _ :: _, .T :: _, _, h, _ => h.elim

def li (b : B) : List B := vis b []
theorem good_li (b : B) : good (li b) := good_vis b trivial
theorem inn_li (b : B) : inn (li b) b := inn_vis b []

def small (R : List B) : Prop := R.length < 2097152 ∧ ∀ b ∈ R, b.ok 0

theorem rows_small : ∀ {R : List B}, good R → small R → ∀ r ∈ rows R, r.1 < 24 ∧ r.2.1 < 2097154 ∧ r.2.2 < 2097154
  | [], _, _, r, h => by simp [rows] at h
  | .N i l u :: t, hg, hs, r, h => by
    simp only [rows, List.mem_append, List.mem_singleton] at h
    rcases h with h | rfl
    · exact rows_small hg.2.2.2 ⟨by have := hs.1; simp at this; omega, fun b hb => hs.2 b (List.mem_cons_of_mem _ hb)⟩ r h
    · have h1 := place_lt hg.2.1
      have h2 := place_lt hg.2.2.1
      have h3 := hs.1
      have h4 := (hs.2 (.N i l u) (by simp)).2.1
      simp at h3 ⊢; omega
  | .F :: _, h, _, _, _ => h.elim
  | .T :: _, h, _, _, _ => h.elim

theorem small_li {b : B} (hb : b.ok 0) : small (li b) := ⟨few hb, fun x hx => sub_ok hb ((vis_subs b [] x hx).resolve_left (by simp))⟩

theorem small_suffix {R S : List B} (h : R <:+ S) (hs : small S) : small R := ⟨Nat.lt_of_le_of_lt h.length_le hs.1, fun b hb => hs.2 b (h.subset hb)⟩

/-- A set is what its place and its bytes say. -/
theorem enc_inj {a b : B} (ha : a.ok 0) (hb : b.ok 0) (h1 : place (li a) a = place (li b) b) (h2 : code (rows (li a)) = code (rows (li b))) : a = b := by
  have h3 := code_inj (fun r hr => by have := rows_small (good_li a) (small_li ha) r hr; omega) (fun r hr => by have := rows_small (good_li b) (small_li hb) r hr; omega) h2
  have h4 := rows_inj (good_li a) (good_li b) h3
  rw [← h4] at h1
  exact place_inj (inn_li a) (h4 ▸ inn_li b) h1

end Go.Proofs.YtfhjpldlhhgcnaaDoor.Bd
