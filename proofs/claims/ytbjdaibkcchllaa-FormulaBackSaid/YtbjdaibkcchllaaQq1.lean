/- What is printed is read again: pure. -/
import Derived.Test.YtbjdaibkcchllaaQp4
import Derived.Test.YtbjdaibkcchllaaQd3
namespace Go.Proofs.Ytbjdaibkcchllaa
open Go.RowKit

/-! what is printed is read again: tokens -/
def hdP (op : Nat) (nm : List UInt8) : List (List UInt8) := if op = 4 then [[33]] else if op = 1 then [[48]] else if op = 2 then [[49]] else if op = 3 then [nm] else []
mutual
/-- the tokens of the text of a formula that stands where level l is asked for -/
def tkP : Tr → Nat → List (List UInt8)
  | .mk op nm kids, l => if levP op < l then [[40]] ++ (hdP op nm ++ tkL op 0 kids) ++ [[41]] else hdP op nm ++ tkL op 0 kids
def tkL : Nat → Nat → List Tr → List (List UInt8)
  | _, _, [] => []
  | op, k, t :: ts => (if 0 < k then [sgnP op k] else []) ++ tkP t (kidP op k) ++ tkL op (k + 1) ts
end
structure Mono (L : List (Nat × List UInt8)) (n : Nat) : Prop where
  least : ∀ i b x, leastR L n i b = some x → leastR L (n + 1) i b = some x
  row : ∀ k i b x, rowR L n k i b = some x → rowR L (n + 1) k i b = some x
  more : ∀ k ts i b x, moreR L n k ts i b = some x → moreR L (n + 1) k ts i b = some x
  imp : ∀ i b x, impliesR L n i b = some x → impliesR L (n + 1) i b = some x
  same : ∀ y x, sameR L n y = some x → sameR L (n + 1) y = some x
  choice : ∀ i b x, choiceR L n i b = some x → choiceR L (n + 1) i b = some x
theorem map_up {α β : Type} {f g : Option α} {h : α → β} {x : β} (hfg : ∀ y, f = some y → g = some y) (e : f.map h = some x) : g.map h = some x := by
  obtain ⟨y, hy, hx⟩ := Option.map_eq_some_iff.1 e
  rw [hfg y hy]; exact congrArg some hx
theorem bind_up {α β : Type} {f g : Option α} {h k : α → Option β} {x : β} (hfg : ∀ y, f = some y → g = some y) (hhk : ∀ y z, h y = some z → k y = some z) (e : f.bind h = some x) : g.bind k = some x := by
  obtain ⟨y, hy, hx⟩ := Option.bind_eq_some_iff.1 e
  rw [hfg y hy]; exact hhk y x hx
theorem mono_all (L : List (Nat × List UInt8)) : ∀ n, Mono L n
  | 0 => ⟨fun i b x h => (by rw [leastR] at h; cases h), fun k i b x h => (by rw [rowR] at h; cases h), fun k ts i b x h => (by rw [moreR] at h; cases h), fun i b x h => (by rw [impliesR] at h; cases h), fun y x h => (by rw [sameR] at h; cases h), fun i b x h => (by rw [choiceR] at h; cases h)⟩
  | n + 1 => by
    have ih := mono_all L n
    refine ⟨fun i b x h => ?_, fun k i b x h => ?_, fun k ts i b x h => ?_, fun i b x h => ?_, fun y x h => ?_, fun i b x h => ?_⟩
    · rw [leastR] at h ⊢
      split
      · rename_i e; rw [if_pos e] at h; exact h
      rename_i e; rw [if_neg e] at h
      split
      · rename_i e; rw [if_pos e] at h; exact map_up (fun y hy => ih.least _ _ _ hy) h
      rename_i e; rw [if_neg e] at h
      split
      · rename_i e; rw [if_pos e] at h; exact map_up (fun y hy => ih.choice _ _ _ hy) h
      rename_i e; rw [if_neg e] at h
      exact h
    · rw [rowR] at h ⊢
      split
      · rename_i e; rw [if_pos e] at h; exact ih.least _ _ _ h
      · rename_i e; rw [if_neg e] at h; exact bind_up (fun y hy => ih.row _ _ _ _ hy) (fun y z hz => ih.more _ _ _ _ _ hz) h
    · rw [moreR] at h ⊢
      split
      · rename_i e; rw [if_pos e] at h; exact bind_up (fun y hy => ih.row _ _ _ _ hy) (fun y z hz => ih.more _ _ _ _ _ hz) h
      · rename_i e; rw [if_neg e] at h; exact h
    · rw [impliesR] at h ⊢
      refine bind_up (fun y hy => ih.row _ _ _ _ hy) (fun y z hz => ?_) h
      split
      · rename_i e; rw [if_pos e] at hz; exact map_up (fun y hy => ih.imp _ _ _ hy) hz
      · rename_i e; rw [if_neg e] at hz; exact hz
    · rw [sameR] at h ⊢
      split
      · rename_i e; rw [if_pos e] at h; exact map_up (fun y hy => ih.imp _ _ _ hy) h
      · rename_i e; rw [if_neg e] at h; exact h
    · rw [choiceR] at h ⊢
      refine bind_up (fun y hy => ih.imp _ _ _ hy) (fun y z hz => ?_) h
      refine bind_up (fun y hy => ih.same _ _ hy) (fun y z hz => ?_) hz
      split
      · rename_i e
        rw [if_pos e] at hz
        refine bind_up (fun y hy => ih.choice _ _ _ hy) (fun y z hz => ?_) hz
        split
        · rename_i e; rw [if_pos e] at hz; exact map_up (fun y hy => ih.choice _ _ _ hy) hz
        · rename_i e; rw [if_neg e] at hz; exact hz
      · rename_i e; rw [if_neg e] at hz; exact hz
theorem up_least {L : List (Nat × List UInt8)} {i : Nat} {b : Bool} {x : Tr × Nat × Bool} {n m : Nat} (h : leastR L n i b = some x) (hm : n ≤ m) : leastR L m i b = some x := by
  induction hm with
  | refl => exact h
  | step _ ih => exact (mono_all L _).least _ _ _ ih
theorem up_row {L : List (Nat × List UInt8)} {k i : Nat} {b : Bool} {x : Tr × Nat × Bool} {n m : Nat} (h : rowR L n k i b = some x) (hm : n ≤ m) : rowR L m k i b = some x := by
  induction hm with
  | refl => exact h
  | step _ ih => exact (mono_all L _).row _ _ _ _ ih
theorem up_more {L : List (Nat × List UInt8)} {k i : Nat} {ts : List Tr} {b : Bool} {x : Tr × Nat × Bool} {n m : Nat} (h : moreR L n k ts i b = some x) (hm : n ≤ m) : moreR L m k ts i b = some x := by
  induction hm with
  | refl => exact h
  | step _ ih => exact (mono_all L _).more _ _ _ _ _ ih
theorem up_imp {L : List (Nat × List UInt8)} {i : Nat} {b : Bool} {x : Tr × Nat × Bool} {n m : Nat} (h : impliesR L n i b = some x) (hm : n ≤ m) : impliesR L m i b = some x := by
  induction hm with
  | refl => exact h
  | step _ ih => exact (mono_all L _).imp _ _ _ ih
theorem up_same {L : List (Nat × List UInt8)} {y x : Tr × Nat × Bool} {n m : Nat} (h : sameR L n y = some x) (hm : n ≤ m) : sameR L m y = some x := by
  induction hm with
  | refl => exact h
  | step _ ih => exact (mono_all L _).same _ _ ih
theorem up_choice {L : List (Nat × List UInt8)} {i : Nat} {b : Bool} {x : Tr × Nat × Bool} {n m : Nat} (h : choiceR L n i b = some x) (hm : n ≤ m) : choiceR L m i b = some x := by
  induction hm with
  | refl => exact h
  | step _ ih => exact (mono_all L _).choice _ _ _ ih
/-- the reader of a level, with some fuel -/
def lvR (L : List (Nat × List UInt8)) (l i : Nat) (x : Tr × Nat × Bool) : Prop :=
  if l = 6 then ∃ n, leastR L n i false = some x else if l = 5 then ∃ n, rowR L n 2 i false = some x else if l = 4 then ∃ n, rowR L n 3 i false = some x else if l = 3 then ∃ n, rowR L n 4 i false = some x
  else if l = 2 then ∃ n, impliesR L n i false = some x else if l = 1 then ∃ n y, impliesR L n i false = some y ∧ sameR L n y = some x else ∃ n, choiceR L n i false = some x
def opS (l : Nat) : List UInt8 := if l = 5 then [38] else if l = 4 then [94] else if l = 3 then [124] else if l = 2 then [61, 62] else if l = 1 then [60, 61, 62] else [63]
theorem rowR1 {L : List (Nat × List UInt8)} {n i : Nat} {x : Tr × Nat × Bool} (h : leastR L n i false = some x) : rowR L (n + 1) 1 i false = some x := by rw [rowR, if_pos rfl]; exact h
/-- the row's reader below level l -/
theorem row_of {L : List (Nat × List UInt8)} {k i : Nat} {x : Tr × Nat × Bool} (hk : k = 1 ∨ k = 2 ∨ k = 3) (h : lvR L (7 - k) i x) : ∃ n, rowR L n k i false = some x := by
  rcases hk with rfl | rfl | rfl
  · obtain ⟨n, h⟩ := (show ∃ n, leastR L n i false = some x from h)
    exact ⟨n + 1, rowR1 h⟩
  · exact h
  · exact h
theorem up1 {L : List (Nat × List UInt8)} {l i j : Nat} {t : Tr} (hl : l ≤ 5) (h : lvR L (l + 1) i (t, j, false)) (hs : skipP L (opS l) j false = false) : lvR L l i (t, j, false) := by
  have rowup : ∀ k, (k = 2 ∨ k = 3 ∨ k = 4) → (∃ n, rowR L n (k - 1) i false = some (t, j, false)) → skipP L (sgR k) j false = false → ∃ n, rowR L n k i false = some (t, j, false) := by
    intro k hk ⟨n, hn⟩ hs
    refine ⟨n + 2, ?_⟩
    rw [rowR, if_neg (by omega), up_row hn (Nat.le_succ n), Option.bind_some, moreR, hs, if_neg (by decide)]
    rfl
  have hc : l = 5 ∨ l = 4 ∨ l = 3 ∨ l = 2 ∨ l = 1 ∨ l = 0 := by omega
  rcases hc with rfl | rfl | rfl | rfl | rfl | rfl
  · exact rowup 2 (.inl rfl) (row_of (.inl rfl) h) hs
  · exact rowup 3 (.inr (.inl rfl)) (row_of (.inr (.inl rfl)) h) hs
  · exact rowup 4 (.inr (.inr rfl)) (row_of (.inr (.inr rfl)) h) hs
  · obtain ⟨n, hn⟩ := (show ∃ n, rowR L n 4 i false = some (t, j, false) from h)
    refine ⟨n + 1, ?_⟩
    rw [impliesR, hn, Option.bind_some]
    dsimp only
    rw [if_neg (by rw [show ([61, 62] : List UInt8) = opS 2 from rfl, hs]; decide)]
  · obtain ⟨n, hn⟩ := (show ∃ n, impliesR L n i false = some (t, j, false) from h)
    refine ⟨n + 1, (t, j, false), up_imp hn (Nat.le_succ n), ?_⟩
    rw [sameR]
    dsimp only
    rw [if_neg (by rw [show ([60, 61, 62] : List UInt8) = opS 1 from rfl, hs]; decide)]
  · obtain ⟨n, y, hn, hy⟩ := (show ∃ n y, impliesR L n i false = some y ∧ sameR L n y = some (t, j, false) from h)
    refine ⟨n + 1, ?_⟩
    rw [choiceR, hn, Option.bind_some, hy, Option.bind_some]
    dsimp only
    rw [if_neg (by rw [show ([63] : List UInt8) = opS 0 from rfl, hs]; decide)]
/-- no sign of level l or above stands at j -/
def NoC (L : List (Nat × List UInt8)) (l j : Nat) : Prop := ∀ q, l ≤ q → q ≤ 5 → skipP L (opS q) j false = false
theorem NoC.le {L : List (Nat × List UInt8)} {l m j : Nat} (h : NoC L l j) (hl : l ≤ m) : NoC L m j := fun q h1 h2 => h q (by omega) h2
theorem NoC.of_word {L : List (Nat × List UInt8)} {l j : Nat} {w : List UInt8} (h : wordP L j false = w) (hw : ∀ q, l ≤ q → q ≤ 5 → w ≠ opS q) : NoC L l j := fun q h1 h2 => by
  unfold skipP; rw [h]; exact beq_eq_false_iff_ne.2 (hw q h1 h2)
theorem upTo {L : List (Nat × List UInt8)} {i j : Nat} {t : Tr} : ∀ {d l : Nat}, l + d ≤ 6 → lvR L (l + d) i (t, j, false) → NoC L l j → lvR L l i (t, j, false)
  | 0, _, _, h, _ => h
  | d + 1, l, hl, h, hn => by
    have h2 := up1 (l := l + d) (by omega) h (hn (l + d) (by omega) (by omega))
    exact upTo (d := d) (by omega) h2 hn
/-- the words ws stand from i on -/
def At (L : List (Nat × List UInt8)) (i : Nat) (ws : List (List UInt8)) : Prop := ∀ (j : Nat) w, ws[j]? = some w → wordP L (i + j) false = w
theorem At.left {L : List (Nat × List UInt8)} {i : Nat} {a b : List (List UInt8)} (h : At L i (a ++ b)) : At L i a := fun j w hw => h j w (by
  have hj := (List.getElem?_eq_some_iff.1 hw).1
  rw [List.getElem?_append_left hj]; exact hw)
theorem At.right {L : List (Nat × List UInt8)} {i : Nat} {a b : List (List UInt8)} (h : At L i (a ++ b)) : At L (i + a.length) b := fun j w hw => by
  have := h (a.length + j) w (by rw [List.getElem?_append_right (by omega)]; simpa using hw)
  rw [Nat.add_assoc]; exact this
theorem At.head {L : List (Nat × List UInt8)} {i : Nat} {w : List UInt8} {a : List (List UInt8)} (h : At L i (w :: a)) : wordP L i false = w := h 0 w rfl
theorem At.tail {L : List (Nat × List UInt8)} {i : Nat} {w : List UInt8} {a : List (List UInt8)} (h : At L i (w :: a)) : At L (i + 1) a := At.right (a := [w]) h
theorem skip_of {L : List (Nat × List UInt8)} {i : Nat} {s : List UInt8} (h : wordP L i false = s) : skipP L s i false = true := by unfold skipP; rw [h]; exact beq_self_eq_true _
/-- every node is as the table says -/
def AllOne (t : Tr) : Prop := ∀ u ∈ preP t, oneT u = true
def AllOneL (ts : List Tr) : Prop := ∀ u ∈ preL ts, oneT u = true
theorem AllOne.kids {op : Nat} {nm : List UInt8} {kids : List Tr} (h : AllOne (.mk op nm kids)) : AllOneL kids := fun u hu => h u (by rw [preP]; exact List.mem_cons_of_mem _ hu)
theorem AllOne.node {op : Nat} {nm : List UInt8} {kids : List Tr} (h : AllOne (.mk op nm kids)) : oneB op nm kids.length = true := h (.mk op nm kids) (by rw [preP]; exact List.mem_cons_self)
theorem AllOneL.head {t : Tr} {ts : List Tr} (h : AllOneL (t :: ts)) : AllOne t := fun u hu => h u (by rw [preL]; exact List.mem_append_left _ hu)
theorem AllOneL.tail {t : Tr} {ts : List Tr} (h : AllOneL (t :: ts)) : AllOneL ts := fun u hu => h u (by rw [preL]; exact List.mem_append_right _ hu)
def RT (L : List (Nat × List UInt8)) (t : Tr) : Prop := ∀ l i, l ≤ 6 → At L i (tkP t l) → NoC L l (i + (tkP t l).length) → lvR L l i (t, i + (tkP t l).length, false)
theorem opS_ne : ∀ q, q ≤ 5 → opS q ≠ [41] ∧ opS q ≠ [58] ∧ opS q ≠ [] := by
  intro q hq
  have hc : q = 5 ∨ q = 4 ∨ q = 3 ∨ q = 2 ∨ q = 1 ∨ q = 0 := by omega
  rcases hc with rfl | rfl | rfl | rfl | rfl | rfl <;> decide
theorem opS_inj : ∀ p q, p ≤ 5 → q ≤ 5 → opS p = opS q → p = q := by
  have h : ∀ p : Fin 6, ∀ q : Fin 6, opS p.val = opS q.val → p = q := by decide
  intro p q hp hq e
  have := h ⟨p, by omega⟩ ⟨q, by omega⟩ e
  exact congrArg Fin.val this
/-- the rest of a row -/
theorem rest_row {L : List (Nat × List UInt8)} {k op : Nat} (hk : k = 2 ∨ k = 3 ∨ k = 4) (hop : op = opR k) : ∀ (ts : List Tr) (acc : List Tr) (i a : Nat), 0 < a → (∀ t ∈ ts, RT L t) → At L i (tkL op a ts) → NoC L (7 - k) (i + (tkL op a ts).length) →
    ∃ n, moreR L n k acc i false = some (wrapR k (acc ++ ts), i + (tkL op a ts).length, false)
  | [], acc, i, a, _, _, _, hn => by
    rw [tkL] at hn ⊢
    refine ⟨1, ?_⟩
    have hs : skipP L (sgR k) i false = false := by
      have h := hn (7 - k) (Nat.le_refl _) (by omega)
      rcases hk with rfl | rfl | rfl <;> exact h
    rw [moreR, hs, if_neg (by decide), List.append_nil]; rfl
  | t :: ts, acc, i, a, ha, hT, hA, hn => by
    have hlev : kidP op a = 7 - k + 1 ∧ sgnP op a = sgR k ∧ kidP op a = 7 - (k - 1) := by
      subst hop
      obtain ⟨c, rfl⟩ : ∃ c, a = c + 1 := ⟨a - 1, by omega⟩
      rcases hk with rfl | rfl | rfl <;> refine ⟨?_, ?_, ?_⟩ <;> first | rfl | simp [kidP, opR, levP, sgnP, sgR]
    obtain ⟨h1, h2, h3⟩ := hlev
    rw [tkL, if_pos ha, h2] at hA hn ⊢
    rw [show [sgR k] ++ tkP t (kidP op a) ++ tkL op (a + 1) ts = sgR k :: (tkP t (kidP op a) ++ tkL op (a + 1) ts) from rfl] at hA hn ⊢
    rw [List.length_cons, List.length_append] at hn ⊢
    have hw := hA.head
    have hA1 := hA.tail.left
    have hA2 := hA.tail.right
    -- what comes behind the kid
    have hk5 : kidP op a ≤ 6 := by rw [h1]; omega
    have hn1 : NoC L (kidP op a) (i + 1 + (tkP t (kidP op a)).length) := by
      cases ts with
      | nil =>
        rw [tkL] at hn
        have hn' := hn.le (m := kidP op a) (by rw [h1]; omega)
        rw [show ([] : List (List UInt8)).length = 0 from rfl] at hn'
        rw [show i + 1 + (tkP t (kidP op a)).length = i + ((tkP t (kidP op a)).length + 0 + 1) by omega]
        exact hn'
      | cons u us =>
        have hh := hA2
        rw [tkL, if_pos (Nat.succ_pos a)] at hh
        have hsg : sgnP op (a + 1) = sgR k := by subst hop; rcases hk with rfl | rfl | rfl <;> simp [opR, sgnP, sgR]
        rw [hsg] at hh
        have hw2 : wordP L (i + 1 + (tkP t (kidP op a)).length) false = sgR k := At.head (a := tkP u (kidP op (a + 1)) ++ tkL op (a + 1 + 1) us) (by simpa using hh)
        refine NoC.of_word hw2 fun q hq1 hq2 e => ?_
        have e2 : sgR k = opS (7 - k) := by rcases hk with rfl | rfl | rfl <;> rfl
        rw [e2] at e
        have := opS_inj _ _ (by omega) hq2 e
        rw [h1] at hq1
        omega
    have hR := hT t List.mem_cons_self (kidP op a) (i + 1) hk5 hA1 hn1
    obtain ⟨n1, hr⟩ := row_of (k := k - 1) (by omega) (by rw [← h3]; exact hR)
    obtain ⟨n2, hm⟩ := rest_row hk hop ts (acc ++ [t]) (i + 1 + (tkP t (kidP op a)).length) (a + 1) (Nat.succ_pos a) (fun u hu => hT u (List.mem_cons_of_mem _ hu)) hA2 (by rw [show i + 1 + (tkP t (kidP op a)).length + (tkL op (a + 1) ts).length = i + ((tkP t (kidP op a)).length + (tkL op (a + 1) ts).length + 1) by omega]; exact hn)
    refine ⟨max n1 n2 + 1, ?_⟩
    rw [moreR, skip_of hw, if_pos rfl, up_row hr (Nat.le_max_left _ _), Option.bind_some, up_more hm (Nat.le_max_right _ _), List.append_assoc]
    rw [show i + 1 + (tkP t (kidP op a)).length + (tkL op (a + 1) ts).length = i + ((tkP t (kidP op a)).length + (tkL op (a + 1) ts).length + 1) by omega]
    rfl
theorem leastS {L : List (Nat × List UInt8)} {n i : Nat} {w : List UInt8} (hw : wordP L i false = w) : leastR L (n + 1) i false =
    (if w = [] then some (.mk 0 [] [], i, true)
    else if w = [33] then (leastR L n (i + 1) false).map fun x => (.mk 4 [] [x.1], x.2)
    else if w = [40] then (choiceR L n (i + 1) false).map fun x => if skipP L [41] x.2.1 x.2.2 = true then (x.1, x.2.1 + 1, x.2.2) else (x.1, x.2.1, true)
    else if w = [48] then some (.mk 1 [] [], i + 1, false)
    else if w = [49] then some (.mk 2 [] [], i + 1, false)
    else if nameB w = true then some (.mk 3 w [], i + 1, false)
    else some (.mk 0 [] [], i, true)) := by
  rw [leastR, hw]
theorem name_not {w : List UInt8} (h : nameB w = true) : w ≠ [] ∧ w ≠ [33] ∧ w ≠ [40] ∧ w ≠ [48] ∧ w ≠ [49] := by
  refine ⟨?_, ?_, ?_, ?_, ?_⟩ <;> intro e <;> rw [e] at h <;> revert h <;> decide
theorem one_cases {op : Nat} {nm : List UInt8} {n : Nat} (h : oneB op nm n = true) :
    (op = 3 ∧ nameB nm = true ∧ n = 0) ∨ (nm = [] ∧ ((op = 1 ∨ op = 2) ∧ n = 0 ∨ op = 4 ∧ n = 1 ∨ (op = 5 ∨ op = 6 ∨ op = 7) ∧ 2 ≤ n ∨ (op = 8 ∨ op = 9) ∧ n = 2 ∨ op = 10 ∧ n = 3)) := by
  unfold oneB at h
  by_cases h3 : op = 3
  · rw [if_pos h3, Bool.and_eq_true, beq_iff_eq] at h
    exact .inl ⟨h3, h⟩
  · rw [if_neg h3, Bool.and_eq_true] at h
    obtain ⟨h1, h2⟩ := h
    refine .inr ⟨by simpa using h1, ?_⟩
    by_cases a : op = 1 ∨ op = 2
    · rw [if_pos a] at h2; exact .inl ⟨a, by simpa using h2⟩
    rw [if_neg a] at h2
    by_cases b : op = 4
    · rw [if_pos b] at h2; exact .inr (.inl ⟨b, by simpa using h2⟩)
    rw [if_neg b] at h2
    by_cases c : op = 5 ∨ op = 6 ∨ op = 7
    · rw [if_pos c] at h2; exact .inr (.inr (.inl ⟨c, by simpa using h2⟩))
    rw [if_neg c] at h2
    by_cases d : op = 8 ∨ op = 9
    · rw [if_pos d] at h2; exact .inr (.inr (.inr (.inl ⟨d, by simpa using h2⟩)))
    rw [if_neg d] at h2
    by_cases e : op = 10
    · rw [if_pos e] at h2; exact .inr (.inr (.inr (.inr ⟨e, by simpa using h2⟩)))
    · rw [if_neg e] at h2; cases h2
/-- a body, on the level of its own -/
theorem body_rt {L : List (Nat × List UInt8)} {op : Nat} {nm : List UInt8} {kids : List Tr} (h1 : oneB op nm kids.length = true) (hK : ∀ t ∈ kids, RT L t) {i : Nat}
    (hA : At L i (hdP op nm ++ tkL op 0 kids)) (hn : NoC L (levP op) (i + (hdP op nm ++ tkL op 0 kids).length)) : lvR L (levP op) i (.mk op nm kids, i + (hdP op nm ++ tkL op 0 kids).length, false) := by
  rcases one_cases h1 with ⟨rfl, hnm, hk⟩ | ⟨rfl, ⟨ho, hk⟩ | ⟨rfl, hk⟩ | ⟨ho, hk⟩ | ⟨ho, hk⟩ | ⟨rfl, hk⟩⟩
  · obtain rfl := List.eq_nil_of_length_eq_zero hk
    have hw : wordP L i false = nm := hA.head
    obtain ⟨a, b, c, d, e⟩ := name_not hnm
    refine (show ∃ n, leastR L n i false = some (.mk 3 nm [], i + 1, false) from ⟨1, ?_⟩)
    rw [leastS hw, if_neg a, if_neg b, if_neg c, if_neg d, if_neg e, if_pos hnm]
  · obtain rfl := List.eq_nil_of_length_eq_zero hk
    rcases ho with rfl | rfl
    · have hw : wordP L i false = [48] := hA.head
      refine (show ∃ n, leastR L n i false = some (.mk 1 [] [], i + 1, false) from ⟨1, ?_⟩)
      rw [leastS hw]; rfl
    · have hw : wordP L i false = [49] := hA.head
      refine (show ∃ n, leastR L n i false = some (.mk 2 [] [], i + 1, false) from ⟨1, ?_⟩)
      rw [leastS hw]; rfl
  · obtain ⟨t, rfl⟩ := List.length_eq_one_iff.1 hk
    have e : hdP 4 [] ++ tkL 4 0 [t] = [33] :: tkP t 6 := by
      rw [tkL, tkL, if_neg (by decide), List.append_nil, List.nil_append]; rfl
    rw [e] at hA hn ⊢
    rw [List.length_cons] at hn ⊢
    have hr := hK t List.mem_cons_self 6 (i + 1) (by omega) hA.tail (fun q h1 h2 => by omega)
    obtain ⟨n, hr⟩ := (show ∃ n, leastR L n (i + 1) false = some _ from hr)
    refine (show ∃ n, leastR L n i false = some _ from ⟨n + 1, ?_⟩)
    rw [leastS hA.head, if_neg (by decide), if_pos rfl, hr]
    simp only [Option.map_some]
    rw [show i + 1 + (tkP t 6).length = i + ((tkP t 6).length + 1) by omega]
  · obtain ⟨k, hk2, hop⟩ : ∃ k, (k = 2 ∨ k = 3 ∨ k = 4) ∧ op = opR k := by
      rcases ho with rfl | rfl | rfl
      · exact ⟨2, .inl rfl, rfl⟩
      · exact ⟨4, .inr (.inr rfl), rfl⟩
      · exact ⟨3, .inr (.inl rfl), rfl⟩
    have hlv : levP op = 7 - k := by subst hop; rcases hk2 with rfl | rfl | rfl <;> rfl
    have hhd : hdP op [] = [] := by subst hop; rcases hk2 with rfl | rfl | rfl <;> rfl
    have hk0 : kidP op 0 = 7 - (k - 1) ∧ kidP op 0 = 7 - k + 1 := by subst hop; rcases hk2 with rfl | rfl | rfl <;> exact ⟨rfl, rfl⟩
    match kids, hk with
    | t :: u :: us, _ =>
      rw [hhd, List.nil_append, tkL, if_neg (by decide), List.nil_append] at hA hn ⊢
      rw [List.length_append] at hn ⊢
      have hA1 := hA.left
      have hA2 := hA.right
      have hsg : sgnP op (0 + 1) = sgR k := by subst hop; rcases hk2 with rfl | rfl | rfl <;> rfl
      have hw2 : wordP L (i + (tkP t (kidP op 0)).length) false = sgR k := by
        have hh := hA2
        rw [tkL, if_pos (by decide), hsg] at hh
        exact At.head (a := tkP u (kidP op (0 + 1)) ++ tkL op (0 + 1 + 1) us) (by simpa using hh)
      have hn1 : NoC L (kidP op 0) (i + (tkP t (kidP op 0)).length) := NoC.of_word hw2 fun q hq1 hq2 e => by
        have e2 : sgR k = opS (7 - k) := by rcases hk2 with rfl | rfl | rfl <;> rfl
        rw [e2] at e
        have := opS_inj _ _ (by omega) hq2 e
        rw [hk0.2] at hq1
        omega
      obtain ⟨n1, hr⟩ := row_of (k := k - 1) (by omega) (by rw [← hk0.1]; exact hK t List.mem_cons_self (kidP op 0) i (by rw [hk0.2]; omega) hA1 hn1)
      obtain ⟨n2, hm⟩ := rest_row hk2 hop (u :: us) [t] (i + (tkP t (kidP op 0)).length) (0 + 1) (by decide) (fun x hx => hK x (List.mem_cons_of_mem _ hx)) hA2 (by rw [Nat.add_assoc, ← hlv]; exact hn)
      have hfin : ∃ n, rowR L n k i false = some (.mk op [] (t :: u :: us), i + ((tkP t (kidP op 0)).length + (tkL op (0 + 1) (u :: us)).length), false) := by
        refine ⟨max n1 n2 + 1, ?_⟩
        rw [rowR, if_neg (by omega), up_row hr (Nat.le_max_left _ _), Option.bind_some, up_more hm (Nat.le_max_right _ _), Nat.add_assoc, hop]
        rfl
      rw [hlv]
      rcases hk2 with rfl | rfl | rfl <;> exact hfin
  · match kids, hk with
    | [x, y], _ =>
      rcases ho with rfl | rfl
      · have e : hdP 8 [] ++ tkL 8 0 [x, y] = tkP x 3 ++ ([61, 62] :: tkP y 2) := by
          rw [tkL, tkL, tkL, if_neg (by decide), if_pos (by decide)]
          simp [hdP, kidP, levP, sgnP]
        rw [e] at hA hn ⊢
        rw [List.length_append, List.length_cons] at hn ⊢
        have hA2 := hA.right
        have hx := hK x List.mem_cons_self 3 i (by omega) hA.left (NoC.of_word hA2.head fun q h1 h2 e => by
          have := opS_inj 2 q (by omega) h2 e; omega)
        have hy := hK y (List.mem_cons_of_mem _ List.mem_cons_self) 2 (i + (tkP x 3).length + 1) (by omega) hA2.tail (by rw [show i + (tkP x 3).length + 1 + (tkP y 2).length = i + ((tkP x 3).length + ((tkP y 2).length + 1)) by omega]; exact hn)
        obtain ⟨n1, hx⟩ := (show ∃ n, rowR L n 4 i false = some _ from hx)
        obtain ⟨n2, hy⟩ := (show ∃ n, impliesR L n (i + (tkP x 3).length + 1) false = some _ from hy)
        refine (show ∃ n, impliesR L n i false = some _ from ⟨max n1 n2 + 1, ?_⟩)
        rw [impliesR, up_row hx (Nat.le_max_left _ _), Option.bind_some]
        dsimp only
        rw [skip_of hA2.head, if_pos rfl, up_imp hy (Nat.le_max_right _ _)]
        simp only [Option.map_some]
        rw [show i + (tkP x 3).length + 1 + (tkP y 2).length = i + ((tkP x 3).length + ((tkP y 2).length + 1)) by omega]
      · have e : hdP 9 [] ++ tkL 9 0 [x, y] = tkP x 2 ++ ([60, 61, 62] :: tkP y 2) := by
          rw [tkL, tkL, tkL, if_neg (by decide), if_pos (by decide)]
          simp [hdP, kidP, levP, sgnP]
        rw [e] at hA hn ⊢
        rw [List.length_append, List.length_cons] at hn ⊢
        have hA2 := hA.right
        have hx := hK x List.mem_cons_self 2 i (by omega) hA.left (NoC.of_word hA2.head fun q h1 h2 e => by
          have := opS_inj 1 q (by omega) h2 e; omega)
        have hy := hK y (List.mem_cons_of_mem _ List.mem_cons_self) 2 (i + (tkP x 2).length + 1) (by omega) hA2.tail (by rw [show i + (tkP x 2).length + 1 + (tkP y 2).length = i + ((tkP x 2).length + ((tkP y 2).length + 1)) by omega]; exact hn.le (by decide))
        obtain ⟨n1, hx⟩ := (show ∃ n, impliesR L n i false = some _ from hx)
        obtain ⟨n2, hy⟩ := (show ∃ n, impliesR L n (i + (tkP x 2).length + 1) false = some _ from hy)
        refine (show ∃ n y, impliesR L n i false = some y ∧ sameR L n y = some _ from ⟨max n1 n2 + 1, _, up_imp hx (Nat.le_succ_of_le (Nat.le_max_left _ _)), ?_⟩)
        rw [sameR]
        dsimp only
        rw [skip_of hA2.head, if_pos rfl, up_imp hy (Nat.le_max_right _ _)]
        simp only [Option.map_some]
        rw [show i + (tkP x 2).length + 1 + (tkP y 2).length = i + ((tkP x 2).length + ((tkP y 2).length + 1)) by omega]
  · match kids, hk with
    | [x, y, z], _ =>
      have e : hdP 10 [] ++ tkL 10 0 [x, y, z] = tkP x 1 ++ ([63] :: (tkP y 0 ++ ([58] :: tkP z 0))) := by
        rw [tkL, tkL, tkL, tkL, if_neg (by decide), if_pos (by decide), if_pos (by decide)]
        simp [hdP, kidP, levP, sgnP]
      rw [e] at hA hn ⊢
      rw [List.length_append, List.length_cons, List.length_append, List.length_cons] at hn ⊢
      have hA2 := hA.right
      have hA3 := hA2.tail.right
      have hx := hK x List.mem_cons_self 1 i (by omega) hA.left (NoC.of_word hA2.head fun q h1 h2 e => by
        have := opS_inj 0 q (by omega) h2 e; omega)
      have hy := hK y (List.mem_cons_of_mem _ List.mem_cons_self) 0 (i + (tkP x 1).length + 1) (by omega) hA2.tail.left (NoC.of_word hA3.head fun q h1 h2 e => (opS_ne q h2).2.1 e.symm)
      have hz := hK z (List.mem_cons_of_mem _ (List.mem_cons_of_mem _ List.mem_cons_self)) 0 (i + (tkP x 1).length + 1 + (tkP y 0).length + 1) (by omega) hA3.tail (by rw [show i + (tkP x 1).length + 1 + (tkP y 0).length + 1 + (tkP z 0).length = i + ((tkP x 1).length + ((tkP y 0).length + ((tkP z 0).length + 1) + 1)) by omega]; exact hn)
      obtain ⟨n1, w, hx, hw⟩ := (show ∃ n y, impliesR L n i false = some y ∧ sameR L n y = some _ from hx)
      obtain ⟨n2, hy⟩ := (show ∃ n, choiceR L n (i + (tkP x 1).length + 1) false = some _ from hy)
      obtain ⟨n3, hz⟩ := (show ∃ n, choiceR L n (i + (tkP x 1).length + 1 + (tkP y 0).length + 1) false = some _ from hz)
      refine (show ∃ n, choiceR L n i false = some _ from ⟨max n1 (max n2 n3) + 1, ?_⟩)
      rw [choiceR, up_imp hx (Nat.le_max_left _ _), Option.bind_some, up_same hw (Nat.le_max_left _ _), Option.bind_some]
      dsimp only
      rw [skip_of hA2.head, if_pos rfl, up_choice hy (Nat.le_trans (Nat.le_max_left _ _) (Nat.le_max_right _ _)), Option.bind_some]
      dsimp only
      rw [skip_of hA3.head, if_pos rfl, up_choice hz (Nat.le_trans (Nat.le_max_right _ _) (Nat.le_max_right _ _))]
      simp only [Option.map_some]
      rw [show i + (tkP x 1).length + 1 + (tkP y 0).length + 1 + (tkP z 0).length = i + ((tkP x 1).length + ((tkP y 0).length + ((tkP z 0).length + 1) + 1)) by omega]
theorem lev_le (op : Nat) : levP op ≤ 6 := by
  unfold levP
  repeat' split
  all_goals omega
theorem mem_preL {t u : Tr} : ∀ {ts : List Tr}, t ∈ ts → u ∈ preP t → u ∈ preL ts
  | a :: l, ht, hu => by
    rw [preL]
    rcases List.mem_cons.1 ht with rfl | ht
    · exact List.mem_append_left _ hu
    · exact List.mem_append_right _ (mem_preL ht hu)
theorem rt_all (L : List (Nat × List UInt8)) : ∀ (d : Nat) (t : Tr), SizeOf.sizeOf t < d → AllOne t → RT L t
  | 0, t, h, _ => absurd h (Nat.not_lt_zero _)
  | d + 1, .mk op nm kids, h, ha => by
    have hK : ∀ t ∈ kids, RT L t := fun t ht => rt_all L d t (by have := List.sizeOf_lt_of_mem ht; simp at h; omega) (fun u hu => ha.kids u (mem_preL ht hu))
    intro l i hl hA hn
    rw [tkP] at hA hn ⊢
    have hlv := lev_le op
    by_cases hp : levP op < l
    · rw [if_pos hp] at hA hn ⊢
      rw [show [[40]] ++ (hdP op nm ++ tkL op 0 kids) ++ [[41]] = [40] :: ((hdP op nm ++ tkL op 0 kids) ++ [[41]]) from rfl] at hA hn ⊢
      generalize hb : hdP op nm ++ tkL op 0 kids = body at *
      rw [List.length_cons, List.length_append, List.length_singleton] at hn ⊢
      have hA1 := hA.tail.left
      have hw : wordP L (i + 1 + body.length) false = [41] := hA.tail.right.head
      have hn1 : NoC L 0 (i + 1 + body.length) := NoC.of_word hw fun q _ h2 e => (opS_ne q h2).1 e.symm
      have hbd := body_rt ha.node hK (i := i + 1) (by rw [hb]; exact hA1) (by rw [hb]; exact hn1.le (Nat.zero_le _))
      rw [hb] at hbd
      obtain ⟨n, hc⟩ := (show ∃ n, choiceR L n (i + 1) false = some _ from upTo (d := levP op) (l := 0) (by omega) (by rw [Nat.zero_add]; exact hbd) hn1)
      have h6 : lvR L (l + (6 - l)) i (.mk op nm kids, i + (body.length + 1 + 1), false) := by
        rw [show l + (6 - l) = 6 by omega]
        refine (show ∃ n, leastR L n i false = some _ from ⟨n + 1, ?_⟩)
        rw [leastS hA.head, if_neg (by decide), if_neg (by decide), if_pos rfl, hc]
        simp only [Option.map_some]
        rw [skip_of hw, if_pos rfl, show i + 1 + body.length + 1 = i + (body.length + 1 + 1) by omega]
      exact upTo (by omega) h6 hn
    · rw [if_neg hp] at hA hn ⊢
      have hbd := body_rt ha.node hK hA (hn.le (by omega))
      exact upTo (d := levP op - l) (by omega) (by rw [show l + (levP op - l) = levP op by omega]; exact hbd) hn
/-! what is printed is read again: bytes -/
/-- no word goes on with r -/
def NW (r : List UInt8) : Prop := wlen r = 0
def Lex (s : List UInt8) (i : Nat) (ws : List (List UInt8)) (j : Nat) : Prop := ∀ n, s.length < i + n → ∃ m L1, s.length < j + m ∧ L1.map Prod.snd = ws ∧ toksP s n i = (L1 ++ (toksP s m j).1, (toksP s m j).2)
theorem Lex.nil (s : List UInt8) (i : Nat) : Lex s i [] i := fun n h => ⟨n, [], h, rfl, rfl⟩
theorem Lex.trans {s : List UInt8} {i j k : Nat} {a b : List (List UInt8)} (h : Lex s i a j) (g : Lex s j b k) : Lex s i (a ++ b) k := fun n hn => by
  obtain ⟨m, L1, hm, h1, h2⟩ := h n hn
  obtain ⟨m2, L2, hm2, g1, g2⟩ := g m hm
  refine ⟨m2, L1 ++ L2, hm2, by rw [List.map_append, h1, g1], ?_⟩
  rw [h2, g2, List.append_assoc]
theorem drop_lt {s : List UInt8} {i : Nat} {c : UInt8} {r : List UInt8} (h : s.drop i = c :: r) : ∃ _ : i < s.length, s.getD i 0 = c := by
  have hi : i < s.length := by
    rcases Nat.lt_or_ge i s.length with h1 | h1
    · exact h1
    · rw [List.drop_eq_nil_of_le h1] at h; cases h
  refine ⟨hi, ?_⟩
  rw [List.drop_eq_getElem_cons hi] at h
  injection h with h1 _
  simp [List.getD, List.getElem?_eq_getElem hi, h1]
theorem drop_more {s a r : List UInt8} {i : Nat} (h : s.drop i = a ++ r) : s.drop (i + a.length) = r := by
  rw [← List.drop_drop, h, List.drop_left]
theorem Lex.blank {s r : List UInt8} {i : Nat} (h : s.drop i = 32 :: r) : Lex s i [] (i + 1) := fun n hn => by
  obtain ⟨hi, hg⟩ := drop_lt h
  cases n with
  | zero => omega
  | succ n =>
    refine ⟨n, [], by omega, rfl, ?_⟩
    rw [toksP, if_pos hi, if_pos hg]; rfl
theorem Lex.tok {s : List UInt8} {i : Nat} {w : List UInt8} (hw : refTok (s.drop i) = w) (hne : w ≠ []) (hb : s.getD i 0 ≠ 32) (hi : i < s.length) : Lex s i [w] (i + w.length) := fun n hn => by
  cases n with
  | zero => omega
  | succ n =>
    have hp := List.length_pos_iff.2 hne
    refine ⟨n, [(i, w)], by omega, rfl, ?_⟩
    rw [toksP, if_pos hi, if_neg hb, if_neg (by rw [hw]; exact hne), hw]; rfl
theorem sgnTok_of {sg : List UInt8} (h : sg ∈ signs2) (r : List UInt8) : sgnTok (sg ++ r) = sg := by
  have hp : sg.isPrefixOf (sg ++ r) = true := List.isPrefixOf_iff_prefix.2 (List.prefix_append _ _)
  unfold sgnTok
  cases hf : signs2.find? (fun x => x.isPrefixOf (sg ++ r)) with
  | none => exact absurd hp (List.find?_eq_none.1 hf sg h)
  | some x =>
    have h1 := List.find?_some hf
    have h2 := List.mem_of_find?_eq_some hf
    have a := List.isPrefixOf_iff_prefix.1 h1
    have b := List.isPrefixOf_iff_prefix.1 hp
    have key : ∀ x, x ∈ signs2 → ∀ y, y ∈ signs2 → x.isPrefixOf y = true → x = y := by decide
    show x = sg
    rcases Nat.le_total x.length sg.length with hl | hl
    · exact key x h2 sg h (List.isPrefixOf_iff_prefix.2 (List.prefix_of_prefix_length_le a b hl))
    · exact (key sg h x h2 (List.isPrefixOf_iff_prefix.2 (List.prefix_of_prefix_length_le b a hl))).symm
theorem Lex.sign {s r sg : List UInt8} {i : Nat} (hs : sg ∈ signs2) (h : s.drop i = sg ++ r) : Lex s i [sg] (i + sg.length) := by
  have key : ∀ x, x ∈ signs2 → x ≠ [] ∧ x.headD 0 ≠ 32 := by decide
  obtain ⟨k1, k2⟩ := key sg hs
  have ht : refTok (s.drop i) = sg := by
    unfold refTok
    rw [h, sgnTok_of hs, if_neg k1]
  cases sg with
  | nil => exact absurd rfl k1
  | cons c l =>
    obtain ⟨hi, hg⟩ := drop_lt (r := l ++ r) h
    exact Lex.tok ht k1 (by rw [hg]; exact k2) hi
theorem wlen_append : ∀ {w r : List UInt8}, wlen w = w.length → NW r → wlen (w ++ r) = w.length
  | [], r, _, h => h
  | c :: w, r, h1, h2 => by
    have hc : wrdB c.toNat = true := by
      cases hw : wrdB c.toNat with
      | true => rfl
      | false =>
        have e : wlen (c :: w) = 0 := by rw [wlen, hw]; rfl
        rw [e] at h1; cases h1
    have h3 : wlen w = w.length := by
      rw [wlen, hc] at h1
      have h4 : wlen w + 1 = w.length + 1 := h1
      omega
    have ih := wlen_append h3 h2
    show wlen (c :: (w ++ r)) = _
    rw [wlen, hc]
    show wlen (w ++ r) + 1 = w.length + 1
    omega
theorem Lex.word {s r w : List UInt8} {i : Nat} (hw : w = [48] ∨ w = [49] ∨ nameB w = true) (hr : NW r) (h : s.drop i = w ++ r) : Lex s i [w] (i + w.length) := by
  have hl : wlen w = w.length := by
    rcases hw with rfl | rfl | hn
    · rfl
    · rfl
    · unfold nameB at hn
      simp only [Bool.and_eq_true, beq_iff_eq] at hn
      exact hn.1.2
  have hne : w ≠ [] := by
    rcases hw with rfl | rfl | hn
    · decide
    · decide
    · intro e; rw [e] at hn; cases hn
  have hwl := wlen_append hl hr
  have hp := List.length_pos_iff.2 hne
  have ht : refTok (s.drop i) = w := by
    unfold refTok
    have hz : sgnTok (s.drop i) = [] := by
      unfold sgnTok
      rw [sgn_word (by rw [h, hwl]; omega)]; rfl
    rw [hz, if_pos rfl]
    unfold wrdTok
    rw [h, hwl, List.take_left, if_pos hw]
  cases w with
  | nil => exact absurd rfl hne
  | cons c l =>
    obtain ⟨hi, hg⟩ := drop_lt (r := l ++ r) h
    refine Lex.tok ht hne ?_ hi
    rw [hg]
    intro e
    subst e
    rw [wlen] at hl
    have h32 : wrdB (32 : UInt8).toNat = false := by decide
    rw [h32] at hl
    cases hl
theorem sgnP_mem {op k : Nat} (h : op = 5 ∨ op = 6 ∨ op = 7 ∨ op = 8 ∨ op = 9 ∨ op = 10) (hk : 0 < k) : sgnP op k ∈ signs2 := by
  unfold sgnP
  rw [if_neg (by omega), if_neg (by omega), if_neg (by omega), if_neg (by omega)]
  repeat' split
  all_goals decide
/-- what a text's rest begins with, behind a kid -/
theorem nw_rest {op k : Nat} {ts : List Tr} {r : List UInt8} (hk : 0 < k) (hr : NW r) : NW (prL op k ts ++ r) := by
  cases ts with
  | nil => rw [prL]; exact hr
  | cons t ts => rw [prL, if_pos hk]; rfl
theorem lex_rest {s : List UInt8} {op : Nat} (hop : op = 5 ∨ op = 6 ∨ op = 7 ∨ op = 8 ∨ op = 9 ∨ op = 10) : ∀ (ts : List Tr) (k i : Nat) (r : List UInt8), 0 < k → (∀ t ∈ ts, ∀ l i r, l ≤ 6 → NW r → s.drop i = prP t l ++ r → Lex s i (tkP t l) (i + (prP t l).length)) → NW r → s.drop i = prL op k ts ++ r → Lex s i (tkL op k ts) (i + (prL op k ts).length)
  | [], k, i, r, _, _, _, _ => by rw [tkL, prL]; exact Lex.nil s i
  | t :: ts, k, i, r, hk, hT, hr, h => by
    rw [prL, if_pos hk] at h ⊢
    rw [tkL, if_pos hk]
    simp only [List.append_assoc, List.cons_append, List.nil_append] at h
    have h1 := Lex.blank h
    have d1 := drop_more (a := [32]) (r := sgnP op k ++ 32 :: (prP t (kidP op k) ++ (prL op (k + 1) ts ++ r))) h
    have h2 := Lex.sign (sgnP_mem hop hk) d1
    have d2 := drop_more d1
    have h3 := Lex.blank d2
    have d3 := drop_more (a := [32]) d2
    have hkl : kidP op k ≤ 6 := by
      unfold kidP
      have := lev_le op
      have h6 : levP op ≤ 5 := by rcases hop with rfl | rfl | rfl | rfl | rfl | rfl <;> decide
      split
      · omega
      split
      · omega
      · omega
    have h4 := hT t List.mem_cons_self (kidP op k) _ _ hkl (nw_rest (Nat.succ_pos k) hr) d3
    have d4 := drop_more d3
    have h5 := lex_rest hop ts (k + 1) _ r (Nat.succ_pos k) (fun t ht => hT t (List.mem_cons_of_mem _ ht)) hr d4
    have hh := (((h1.trans h2).trans h3).trans h4).trans h5
    simp only [List.nil_append, List.append_nil] at hh
    have e : i + [32].length + (sgnP op k).length + [32].length + (prP t (kidP op k)).length + (prL op (k + 1) ts).length = i + ([32] ++ sgnP op k ++ [32] ++ prP t (kidP op k) ++ prL op (k + 1) ts).length := by
      simp only [List.length_append]; omega
    rw [← e]
    exact hh
theorem lex_body {s : List UInt8} {op : Nat} {nm : List UInt8} {kids : List Tr} (h1 : oneB op nm kids.length = true) (hT : ∀ t ∈ kids, ∀ l i r, l ≤ 6 → NW r → s.drop i = prP t l ++ r → Lex s i (tkP t l) (i + (prP t l).length)) {i : Nat} {r : List UInt8} (hr : NW r)
    (h : s.drop i = (sgnP op 0 ++ nm ++ prL op 0 kids) ++ r) : Lex s i (hdP op nm ++ tkL op 0 kids) (i + (sgnP op 0 ++ nm ++ prL op 0 kids).length) := by
  rcases one_cases h1 with ⟨rfl, hnm, hk⟩ | ⟨rfl, ⟨ho, hk⟩ | ⟨rfl, hk⟩ | ho⟩
  · obtain rfl := List.eq_nil_of_length_eq_zero hk
    have e : sgnP 3 0 ++ nm ++ prL 3 0 [] = nm := by rw [prL]; simp [sgnP]
    rw [e] at h ⊢
    have e2 : hdP 3 nm ++ tkL 3 0 [] = [nm] := by rw [tkL]; rfl
    rw [e2]
    exact Lex.word (.inr (.inr hnm)) hr h
  · obtain rfl := List.eq_nil_of_length_eq_zero hk
    rcases ho with rfl | rfl
    · have e : sgnP 1 0 ++ [] ++ prL 1 0 [] = [48] := by rw [prL]; rfl
      rw [e] at h ⊢
      have e2 : hdP 1 [] ++ tkL 1 0 [] = [[48]] := by rw [tkL]; rfl
      rw [e2]
      exact Lex.word (.inl rfl) hr h
    · have e : sgnP 2 0 ++ [] ++ prL 2 0 [] = [49] := by rw [prL]; rfl
      rw [e] at h ⊢
      have e2 : hdP 2 [] ++ tkL 2 0 [] = [[49]] := by rw [tkL]; rfl
      rw [e2]
      exact Lex.word (.inr (.inl rfl)) hr h
  · obtain ⟨t, rfl⟩ := List.length_eq_one_iff.1 hk
    have e : sgnP 4 0 ++ [] ++ prL 4 0 [t] = [33] ++ prP t 6 := by
      rw [prL, prL, if_neg (by decide), List.append_nil, List.append_nil, List.nil_append]; rfl
    rw [e] at h ⊢
    have e2 : hdP 4 [] ++ tkL 4 0 [t] = [[33]] ++ tkP t 6 := by
      rw [tkL, tkL, if_neg (by decide), List.append_nil, List.nil_append]; rfl
    rw [e2]
    rw [List.append_assoc] at h
    have h2 := Lex.sign (sg := [33]) (by decide) h
    have h3 := hT t List.mem_cons_self 6 _ r (Nat.le_refl _) hr (drop_more h)
    rw [List.length_append, ← Nat.add_assoc]
    exact h2.trans h3
  · have hop : op = 5 ∨ op = 6 ∨ op = 7 ∨ op = 8 ∨ op = 9 ∨ op = 10 := by omega
    have hne : kids ≠ [] := by intro e; rw [e] at ho; simp at ho
    have e1 : sgnP op 0 = [] := by rcases hop with rfl | rfl | rfl | rfl | rfl | rfl <;> rfl
    have e2 : hdP op [] = [] := by rcases hop with rfl | rfl | rfl | rfl | rfl | rfl <;> rfl
    rw [e1, List.nil_append, List.nil_append] at h ⊢
    rw [e2, List.nil_append]
    match kids, hne with
    | t :: ts, _ =>
      rw [prL, if_neg (by decide), List.nil_append] at h ⊢
      rw [tkL, if_neg (by decide), List.nil_append]
      rw [List.append_assoc] at h
      have hkl : kidP op 0 ≤ 6 := by rcases hop with rfl | rfl | rfl | rfl | rfl | rfl <;> decide
      have h3 := hT t List.mem_cons_self (kidP op 0) i _ hkl (nw_rest (by decide) hr) h
      have h4 := lex_rest hop ts (0 + 1) _ r (by decide) (fun u hu => hT u (List.mem_cons_of_mem _ hu)) hr (drop_more h)
      rw [List.length_append, ← Nat.add_assoc]
      exact h3.trans h4
theorem lex_all (s : List UInt8) : ∀ (d : Nat) (t : Tr), SizeOf.sizeOf t < d → AllOne t → ∀ l i r, l ≤ 6 → NW r → s.drop i = prP t l ++ r → Lex s i (tkP t l) (i + (prP t l).length)
  | 0, t, h, _ => absurd h (Nat.not_lt_zero _)
  | d + 1, .mk op nm kids, h, ha => by
    have hT : ∀ t ∈ kids, ∀ l i r, l ≤ 6 → NW r → s.drop i = prP t l ++ r → Lex s i (tkP t l) (i + (prP t l).length) := fun t ht => lex_all s d t (by have := List.sizeOf_lt_of_mem ht; simp at h; omega) (fun u hu => ha.kids u (mem_preL ht hu))
    intro l i r hl hr hd
    rw [tkP]
    rw [prP] at hd ⊢
    by_cases hp : levP op < l
    · rw [if_pos hp] at hd ⊢
      rw [if_pos hp]
      generalize hb : sgnP op 0 ++ nm ++ prL op 0 kids = body at *
      simp only [List.append_assoc] at hd
      have h1 := Lex.sign (sg := [40]) (by decide) hd
      have d1 := drop_more hd
      have h2 := lex_body ha.node hT (i := i + [40].length) (r := [41] ++ r) (by rfl) (by rw [hb]; exact d1)
      rw [hb] at h2
      have h3 := Lex.sign (sg := [41]) (by decide) (drop_more d1)
      rw [List.length_append, List.length_append, ← Nat.add_assoc, ← Nat.add_assoc]
      exact (h1.trans h2).trans h3
    · rw [if_neg hp] at hd ⊢
      rw [if_neg hp]
      exact lex_body ha.node hT hr hd
/-- the tokens of a printed formula -/
theorem toks_printed {t : Tr} (ha : AllOne t) : ∃ L1, L1.map Prod.snd = tkP t 0 ∧ toksP (prP t 0) ((prP t 0).length + 1) 0 = (L1 ++ [((prP t 0).length, [])], none) := by
  have h := lex_all (prP t 0) _ t (Nat.lt_succ_self _) ha 0 0 [] (Nat.zero_le _) rfl (by simp)
  obtain ⟨m, L1, hm, h1, h2⟩ := h ((prP t 0).length + 1) (by omega)
  refine ⟨L1, h1, ?_⟩
  rw [h2, Nat.zero_add]
  cases m with
  | zero => omega
  | succ m => rw [toksP, if_neg (by omega)]
theorem parse_printed {t : Tr} (ha : AllOne t) (hv : validB t = true) (hs : (prP t 0).length ≤ 65536) (hout : ∀ i, i ≤ (prP t 0).length → formF (prP t 0) (12 * (prP t 0).length + 2) 0 i ≠ .out) : parseP (prP t 0) = (t, 0, 0) := by
  obtain ⟨L1, h1, h2⟩ := toks_printed ha
  have hlen : (tkP t 0).length = L1.length := by rw [← h1, List.length_map]
  have hw : ∀ j, wordP (L1 ++ [((prP t 0).length, ([] : List UInt8))]) (L1.length + j) false = [] := fun j => by
    unfold wordP
    rw [if_neg (by decide), List.getElem?_append_right (by omega)]
    cases j with
    | zero => simp
    | succ j => simp
  have hA : At (L1 ++ [((prP t 0).length, ([] : List UInt8))]) 0 (tkP t 0) := fun j w hj => by
    rw [← h1, List.getElem?_map] at hj
    have hjl : j < L1.length := by
      rcases Nat.lt_or_ge j L1.length with h | h
      · exact h
      · rw [List.getElem?_eq_none h] at hj; cases hj
    unfold wordP
    rw [if_neg (by decide), Nat.zero_add, List.getElem?_append_left hjl, hj]; rfl
  have hN : NoC (L1 ++ [((prP t 0).length, ([] : List UInt8))]) 0 (0 + (tkP t 0).length) := NoC.of_word (by rw [Nat.zero_add, hlen]; exact hw 0) fun q _ h e => (opS_ne q h).2.2 e.symm
  obtain ⟨n, hx⟩ := (show ∃ n, choiceR _ n 0 false = some _ from rt_all _ _ t (Nat.lt_succ_self _) ha 0 0 (Nat.zero_le _) hA hN)
  have hans := same_answer hs (n := n) (x := (t, 0 + (tkP t 0).length, false)) (by rw [h2]; exact hx) hout
  rw [hans, h2]
  unfold rparseP
  dsimp only
  rw [if_neg, if_pos hv]
  rintro ⟨_, h | h⟩
  · cases h
  · rw [Nat.zero_add, hlen] at h
    exact h (hw 0)
end Go.Proofs.Ytbjdaibkcchllaa
