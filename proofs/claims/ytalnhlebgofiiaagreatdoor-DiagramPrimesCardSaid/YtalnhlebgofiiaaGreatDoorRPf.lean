import Derived.Test.YtalnhlebgofiiaaGreatDoorRPc
import Derived.Test.YtalnhlebgofiiaaGreatDoorCmp
import Derived.Test.YtalnhlebgofiiaaGreatDoorRPa
import Derived.Test.YtalnhlebgofiiaaGreatDoorCovp
import Derived.Test.YtalnhlebgofiiaaGreatDoorPrm
import Derived.Laws.BitsAllLaws
namespace Go.Proofs.YtalnhlebgofiiaaGreatDoor
open Go.RowKit
open Bd

/-! The order of the reference's cubes is the order of the program's -/
theorem befR_iff (x y : Nat × Nat) : befR x y = true ↔ ((featL (x.1 ||| x.2)).length < (featL (y.1 ||| y.2)).length ∨ ((featL (x.1 ||| x.2)).length = (featL (y.1 ||| y.2)).length ∧ (x.1 < y.1 ∨ (x.1 = y.1 ∧ x.2 < y.2)))) := by
  unfold befR
  split
  · split
    · rw [decide_eq_true_iff]; omega
    · rw [decide_eq_true_iff]; omega
  · rw [decide_eq_true_iff]; omega
theorem befR_not (x y : Nat × Nat) : befR x y = false ↔ ¬ ((featL (x.1 ||| x.2)).length < (featL (y.1 ||| y.2)).length ∨ ((featL (x.1 ||| x.2)).length = (featL (y.1 ||| y.2)).length ∧ (x.1 < y.1 ∨ (x.1 = y.1 ∧ x.2 < y.2)))) := by
  rw [← befR_iff, Bool.not_eq_true]
theorem befR_tot {x y : Nat × Nat} (h1 : befR x y = false) (h2 : befR y x = false) : x = y := by
  rw [befR_not] at h1 h2
  have : x.1 = y.1 ∧ x.2 = y.2 := by omega
  exact Prod.ext this.1 this.2
theorem insR_perm (x : Nat × Nat) (O : List (Nat × Nat)) : (insR x O).Perm (x :: O) := by
  unfold insR
  refine List.perm_middle.trans ?_
  rw [List.takeWhile_append_dropWhile]
theorem sortR_perm (l : List (Nat × Nat)) : (sortR l).Perm l := by
  have key : ∀ (l O : List (Nat × Nat)), (l.foldl (fun O x => insR x O) O).Perm (O ++ l) := by
    intro l
    induction l with
    | nil => intro O; simp
    | cons x l ih =>
      intro O
      rw [List.foldl_cons]
      refine (ih _).trans ?_
      refine ((insR_perm x O).append_right l).trans ?_
      exact List.perm_middle.symm
  simpa [sortR] using key l []
theorem insR_sorted {x : Nat × Nat} : ∀ {O : List (Nat × Nat)}, O.Pairwise (fun a b => befR b a = false) → (insR x O).Pairwise (fun a b => befR b a = false)
  | [], _ => by simp [insR]
  | a :: O, h => by
    have h1 := (List.pairwise_cons.1 h).1
    have h2 := (List.pairwise_cons.1 h).2
    cases hb : befR a x with
    | true =>
      have e : insR x (a :: O) = a :: insR x O := by simp [insR, hb]
      rw [e, List.pairwise_cons]
      refine ⟨fun z hz => ?_, insR_sorted h2⟩
      rcases insR_mem.1 hz with rfl | hz
      · rw [befR_iff] at hb; rw [befR_not]; omega
      · exact h1 z hz
    | false =>
      have e : insR x (a :: O) = x :: a :: O := by simp [insR, hb]
      rw [e, List.pairwise_cons]
      refine ⟨fun z hz => ?_, h⟩
      rcases List.mem_cons.1 hz with rfl | hz
      · exact hb
      · have := h1 z hz
        rw [befR_not] at this hb ⊢; omega
theorem sortR_sorted (l : List (Nat × Nat)) : (sortR l).Pairwise (fun a b => befR b a = false) := by
  have key : ∀ (l O : List (Nat × Nat)), O.Pairwise (fun a b => befR b a = false) → (l.foldl (fun O x => insR x O) O).Pairwise (fun a b => befR b a = false) := by
    intro l
    induction l with
    | nil => intro O h; exact h
    | cons x l ih => intro O h; rw [List.foldl_cons]; exact ih _ (insR_sorted h)
  exact key l [] List.Pairwise.nil

/-! how many features a mask has -/
theorem pop8 : ∀ b : _root_.Fin 256, pop1 b.val = ((List.range 8).filter b.val.testBit).length := by decide +kernel
theorem popN_feat (x : Nat) (hx : x < 2 ^ 24) : popN x = (featL x).length := by
  have e : List.range 24 = List.range 8 ++ (List.range 8).map (· + 8) ++ (List.range 8).map (· + 16) := by decide
  have f0 : ((List.range 8).filter x.testBit).length = pop1 (x % 256) := by
    rw [pop8 ⟨x % 256, Nat.mod_lt _ (by decide)⟩]
    congr 1
    refine List.filter_congr fun i hi => ?_
    have hi := List.mem_range.1 hi
    show _ = (x % 2 ^ 8).testBit i
    rw [Nat.testBit_mod_two_pow]; simp [hi]
  have f1 : (((List.range 8).map (· + 8)).filter x.testBit).length = pop1 (x / 256 % 256) := by
    rw [pop8 ⟨x / 256 % 256, Nat.mod_lt _ (by decide)⟩, List.filter_map, List.length_map]
    congr 1
    refine List.filter_congr fun i hi => ?_
    have hi := List.mem_range.1 hi
    show _ = (x / 2 ^ 8 % 2 ^ 8).testBit i
    rw [Nat.testBit_mod_two_pow, Nat.testBit_div_two_pow]; simp [hi]
  have f2 : (((List.range 8).map (· + 16)).filter x.testBit).length = pop1 (x / 65536 % 256) := by
    rw [pop8 ⟨x / 65536 % 256, Nat.mod_lt _ (by decide)⟩, List.filter_map, List.length_map]
    congr 1
    refine List.filter_congr fun i hi => ?_
    have hi := List.mem_range.1 hi
    show _ = (x / 2 ^ 16 % 2 ^ 8).testBit i
    rw [Nat.testBit_mod_two_pow, Nat.testBit_div_two_pow]; simp [hi]
  have f3 : pop1 (x / 16777216) = 0 := by rw [Nat.div_eq_of_lt (by omega)]; decide +kernel
  unfold featL popN
  rw [e, List.filter_append, List.filter_append, List.length_append, List.length_append, f0, f1, f2, f3]; omega
theorem filter_apart {p q : Nat → Bool} : ∀ (l : List Nat), (∀ i ∈ l, ¬ (p i = true ∧ q i = true)) → (l.filter fun i => p i || q i).length = (l.filter p).length + (l.filter q).length
  | [], _ => rfl
  | a :: l, h => by
    have ih := filter_apart l fun i hi => h i (List.mem_cons_of_mem _ hi)
    have ha := h a (List.mem_cons_self ..)
    cases hp : p a <;> cases hq : q a <;> simp [hp, hq, ih] <;> first | omega | exact absurd ⟨hp, hq⟩ ha
theorem feat_or {on off : Nat} (h : on &&& off = 0) : (featL (on ||| off)).length = (featL on).length + (featL off).length := by
  unfold featL
  rw [← filter_apart]
  · congr 1
    refine List.filter_congr fun i _ => ?_
    rw [Nat.testBit_or]
  · intro i _ hb
    have := Nat.testBit_and on off i
    rw [h, hb.1, hb.2] at this
    simp at this
def prD (x : Cub) : Nat × Nat := (x.1.val, x.2.val)
theorem bef_lt {x y : Cub} (hx : x.1.val < 2 ^ 24 ∧ x.2.val < 2 ^ 24 ∧ x.1.val &&& x.2.val = 0) (hy : y.1.val < 2 ^ 24 ∧ y.2.val < 2 ^ 24 ∧ y.1.val &&& y.2.val = 0) : befR (prD x) (prD y) = ltOf (cubeCmp popN) x y := by
  rw [Bool.eq_iff_iff, befR_iff, ltOf_cube]
  simp only [prD]
  rw [feat_or hx.2.2, feat_or hy.2.2, ← popN_feat _ hx.1, ← popN_feat _ hx.2.1, ← popN_feat _ hy.1, ← popN_feat _ hy.2.1]
/-- the reference's list is the program's -/
theorem sortR_eq {l : List (Nat × Nat)} {L : List Cub} (hp : l.Perm (L.map prD)) (hL : ∀ x ∈ L, x.1.val < 2 ^ 24 ∧ x.2.val < 2 ^ 24 ∧ x.1.val &&& x.2.val = 0) : sortR l = (L.mergeSort fun x y => !(ltOf (cubeCmp popN)) y x).map prD := by
  have O := swo_cube popN
  have hm := List.mergeSort_perm L (fun x y => !(ltOf (cubeCmp popN)) y x)
  refine List.Perm.eq_of_pairwise (le := fun a b => befR b a = false) (fun a b _ _ h1 h2 => befR_tot h2 h1) (sortR_sorted l) ?_ ((sortR_perm l).trans (hp.trans (hm.symm.map prD)))
  rw [List.pairwise_map]
  have hs : (L.mergeSort fun x y => !(ltOf (cubeCmp popN)) y x).Pairwise fun x y => (!(ltOf (cubeCmp popN)) y x) = true := by
    refine List.pairwise_mergeSort ?_ ?_ _
    · intro a b c h1 h2
      simp only [Bool.not_eq_true'] at h1 h2 ⊢
      exact O.ntrans _ _ _ h2 h1
    · intro a b
      cases h : ltOf (cubeCmp popN) b a with
      | false => simp
      | true =>
        cases h' : ltOf (cubeCmp popN) a b with
        | false => simp
        | true => have := O.trans _ _ _ h h'; rw [O.irrefl] at this; cases this
  refine hs.imp_of_mem ?_
  intro a b ha hb h
  rw [bef_lt (hL b (hm.mem_iff.1 hb)) (hL a (hm.mem_iff.1 ha))]
  simpa using h
end Go.Proofs.YtalnhlebgofiiaaGreatDoor
namespace Go.Proofs.YtalnhlebgofiiaaGreatDoor
open Go.RowKit Go.Sort
open Bd

/-- a cube as its two masks -/
def prC (x : Cub) : Nat × Nat := (x.1.val, x.2.val)
theorem prC_toCub {V : List Nat} (hV24 : ∀ v ∈ V, v < 24) (k : Nat) : prC (toCub (cubeAt V k)) = cubeAt V k := by
  unfold prC
  rw [toCub_1 (msk_lt 1 hV24 k V.length (Nat.le_refl _)), toCub_2 (msk_lt 0 hV24 k V.length (Nat.le_refl _))]
theorem prow_of {w : World} {v : Value} {L : List Cub} (h : CRow w v L) : PRow w v (L.map prC) := by
  obtain ⟨a, cap, rfl, hc⟩ := h
  refine ⟨a, cap, by rw [List.length_map], fun k x hx => ?_⟩
  rw [List.getElem?_map] at hx
  cases hk : L[k]? with
  | none => rw [hk] at hx; cases hx
  | some y =>
    rw [hk] at hx
    obtain rfl : prC y = x := by simpa using hx
    exact hc k y hk
theorem clist_pr {V : List Nat} (hV24 : ∀ v ∈ V, v < 24) (f : Cfg → Bool) : (clist V f (3 ^ V.length)).map prC = primesOf V f := by
  unfold clist primesOf
  rw [List.map_map]
  exact List.map_congr_left fun k _ => prC_toCub hV24 k
theorem primesOf_mem {V : List Nat} {f : Cfg → Bool} {x : Nat × Nat} : x ∈ primesOf V f ↔ ∃ k, k < 3 ^ V.length ∧ prim V f k ∧ x = cubeAt V k := by
  unfold primesOf
  simp only [List.mem_map, List.mem_filter, List.mem_range, primB_iff]
  constructor
  · rintro ⟨k, ⟨h1, h2⟩, rfl⟩; exact ⟨k, h1, h2, rfl⟩
  · rintro ⟨k, h1, h2, rfl⟩; exact ⟨k, ⟨h1, h2⟩, rfl⟩
theorem primesOf_nodup {V : List Nat} (hV : V.Nodup) (f : Cfg → Bool) : (primesOf V f).Nodup := by
  unfold primesOf
  show ((List.filter (primB V f) (List.range (3 ^ V.length))).map (cubeAt V)).Pairwise (· ≠ ·)
  rw [List.pairwise_map]
  refine ((List.pairwise_lt_range (n := 3 ^ V.length)).filter (primB V f)).imp_of_mem fun {a b} ha hb hlt e => ?_
  have h1 := List.mem_range.1 (List.mem_filter.1 ha).1
  have h2 := List.mem_range.1 (List.mem_filter.1 hb).1
  have := cubeAt_inj hV h1 h2 e
  omega
end Go.Proofs.YtalnhlebgofiiaaGreatDoor
namespace Go.Proofs.YtalnhlebgofiiaaGreatDoor
open Go.RowKit
open Bd

/-! The cubes that the reference keeps are the prime cubes -/
theorem cubeF_at {V : List Nat} (hV : ∀ v ∈ V, v < 24) (k : Nat) (c : Cfg) : cubeF (cubeAt V k).1 (cubeAt V k).2 c = true ↔ fit V k c := by
  rw [cubeF_iff, ← ev_cubeAt hV, ev_cubeB']
theorem at_bit {V : List Nat} (hV : V.Nodup) {e k j : Nat} (hj : j < V.length) : (msk e V k V.length).testBit V[j] = true ↔ dig k j = e := by
  rw [msk_bit e V k V[j] _ (Nat.le_refl _)]
  constructor
  · rintro ⟨j', hj', _, h, hd⟩
    have : j' = j := Classical.byContradiction fun hne => by
      have hp := List.pairwise_iff_getElem.1 hV
      rcases Nat.lt_or_gt_of_ne hne with h' | h'
      · exact hp _ _ hj' hj h' h
      · exact hp _ _ hj hj' h' h.symm
    rwa [this] at hd
  · exact fun hd => ⟨j, hj, hj, rfl, hd⟩
theorem cubeF_up {V : List Nat} (hV : V.Nodup) (hV24 : ∀ v ∈ V, v < 24) {k j : Nat} (hj : j < V.length) (hd : dig k j ≠ 2) {on off : Nat} (h1 : ∀ i, on.testBit i = ((cubeAt V k).1.testBit i && decide (i ≠ V[j]))) (h2 : ∀ i, off.testBit i = ((cubeAt V k).2.testBit i && decide (i ≠ V[j]))) (c : Cfg) : cubeF on off c = true ↔ fit V (k + (2 - dig k j) * 3 ^ j) c := by
  have hne : ∀ i (hi : i < V.length), i ≠ j → V[i] ≠ V[j] := fun i hi hij e => by
    have hp := List.pairwise_iff_getElem.1 hV
    rcases Nat.lt_or_gt_of_ne hij with h' | h'
    · exact hp _ _ hi hj h' e
    · exact hp _ _ hj hi h' e.symm
  rw [cubeF_iff]
  constructor
  · intro h i hi
    rw [dig_up hd]
    by_cases e : i = j
    · rw [if_pos e]; exact ⟨fun h => absurd h (by decide), fun h => absurd h (by decide)⟩
    · rw [if_neg e]
      have h24 := hV24 _ (List.getElem_mem hi)
      refine ⟨fun hd1 => (h _ h24).1 ?_, fun hd0 => (h _ h24).2 ?_⟩
      · rw [h1, Bool.and_eq_true, decide_eq_true_iff]; exact ⟨(at_bit hV hi).2 hd1, hne i hi e⟩
      · rw [h2, Bool.and_eq_true, decide_eq_true_iff]; exact ⟨(at_bit hV hi).2 hd0, hne i hi e⟩
  · intro h i _
    rw [h1, h2]
    constructor
    · intro hb
      rw [Bool.and_eq_true, decide_eq_true_iff] at hb
      obtain ⟨j', hj', _, rfl, hd1⟩ := (msk_bit 1 V k i _ (Nat.le_refl _)).1 hb.1
      refine (h j' hj').1 ?_
      rw [dig_up hd, if_neg (fun e => hb.2 (by subst e; rfl))]; exact hd1
    · intro hb
      rw [Bool.and_eq_true, decide_eq_true_iff] at hb
      obtain ⟨j', hj', _, rfl, hd1⟩ := (msk_bit 0 V k i _ (Nat.le_refl _)).1 hb.1
      refine (h j' hj').2 ?_
      rw [dig_up hd, if_neg (fun e => hb.2 (by subst e; rfl))]; exact hd1
/-- a number with given digits -/
theorem dig_make (d : Nat → Nat) (hd : ∀ j, d j < 3) : ∀ n, ∃ k, k < 3 ^ n ∧ ∀ j, j < n → dig k j = d j
  | 0 => ⟨0, by simp, fun j h => by omega⟩
  | n + 1 => by
    obtain ⟨k, hk, h⟩ := dig_make (fun j => d (j + 1)) (fun j => hd (j + 1)) n
    have h0 := hd 0
    refine ⟨k * 3 + d 0, by rw [Nat.pow_succ]; omega, fun j hj => ?_⟩
    cases j with
    | zero => rw [dig_zero]; omega
    | succ j => rw [dig_succ, show (k * 3 + d 0) / 3 = k by omega]; exact h j (by omega)
theorem cubeAt_ex {V : List Nat} {on off : Nat} (h1 : ∀ i, on.testBit i = true → i ∈ V) (h2 : ∀ i, off.testBit i = true → i ∈ V) (h0 : on &&& off = 0) : ∃ k, k < 3 ^ V.length ∧ cubeAt V k = (on, off) := by
  have hb : ∀ i, ¬ (on.testBit i = true ∧ off.testBit i = true) := fun i h => by
    have := Nat.testBit_and on off i
    rw [h0, h.1, h.2] at this
    simp at this
  have hd3 : ∀ j, (if on.testBit (V.getD j 0) = true then 1 else if off.testBit (V.getD j 0) = true then 0 else 2) < 3 := fun j => by
    split
    · decide
    · split <;> decide
  obtain ⟨k, hk, h⟩ := dig_make _ hd3 V.length
  have key : ∀ j (hj : j < V.length), dig k j = if on.testBit V[j] = true then 1 else if off.testBit V[j] = true then 0 else 2 := fun j hj => by
    have := h j hj
    simpa [List.getD, List.getElem?_eq_getElem hj] using this
  refine ⟨k, hk, Prod.ext (Nat.eq_of_testBit_eq fun i => ?_) (Nat.eq_of_testBit_eq fun i => ?_)⟩
  · show (msk 1 V k V.length).testBit i = on.testBit i
    rw [Bool.eq_iff_iff, msk_bit 1 V k i _ (Nat.le_refl _)]
    constructor
    · rintro ⟨j, hj, _, rfl, hd⟩
      rw [key j hj] at hd
      split at hd
      · assumption
      · split at hd <;> cases hd
    · intro hi
      obtain ⟨j, hj, rfl⟩ := List.mem_iff_getElem.1 (h1 i hi)
      exact ⟨j, hj, hj, rfl, by rw [key j hj, if_pos hi]⟩
  · show (msk 0 V k V.length).testBit i = off.testBit i
    rw [Bool.eq_iff_iff, msk_bit 0 V k i _ (Nat.le_refl _)]
    constructor
    · rintro ⟨j, hj, _, rfl, hd⟩
      rw [key j hj] at hd
      split at hd
      · cases hd
      · split at hd
        · assumption
        · cases hd
    · intro hi
      obtain ⟨j, hj, rfl⟩ := List.mem_iff_getElem.1 (h2 i hi)
      exact ⟨j, hj, hj, rfl, by rw [key j hj, if_neg (fun h' => hb _ ⟨h', hi⟩), if_pos hi]⟩
theorem cubeAt_apart {V : List Nat} (hV : V.Nodup) (k : Nat) : (cubeAt V k).1 &&& (cubeAt V k).2 = 0 := by
  refine Nat.eq_of_testBit_eq fun i => ?_
  rw [Nat.testBit_and, Nat.zero_testBit, Bool.eq_false_iff]
  intro h
  rw [Bool.and_eq_true] at h
  obtain ⟨j, hj, _, rfl, hd⟩ := (msk_bit 1 V k i _ (Nat.le_refl _)).1 h.1
  have := (at_bit hV hj).1 h.2
  omega

/-- does the reference keep this cube? -/
def GoodR (V : List Nat) (f : Cfg → Bool) (on off : Nat) : Prop := on &&& off = 0 ∧ (∀ c, cubeF on off c = true → f c = true) ∧ ∀ v ∈ V, (on ||| off).testBit v = true → ∀ on' off' : Nat, (∀ i, on'.testBit i = (on.testBit i && decide (i ≠ v))) → (∀ i, off'.testBit i = (off.testBit i && decide (i ≠ v))) → ¬ ∀ c, cubeF on' off' c = true → f c = true
noncomputable def goodB (V : List Nat) (f : Cfg → Bool) (on off : Nat) : Bool := @decide (GoodR V f on off) (Classical.propDecidable _)
theorem goodB_iff {V : List Nat} {f : Cfg → Bool} {on off : Nat} : goodB V f on off = true ↔ GoodR V f on off := @decide_eq_true_iff _ (Classical.propDecidable _)
/-- a mask without one of its bits -/
theorem clear_ex (x v : Nat) : ∃ y : Nat, ∀ i, y.testBit i = (x.testBit i && decide (i ≠ v)) := by
  refine ⟨x ^^^ (x &&& 2 ^ v), fun i => ?_⟩
  rw [Nat.testBit_xor, Nat.testBit_and, Nat.testBit_two_pow]
  by_cases e : v = i
  · subst e; simp
  · have e' : ¬ i = v := fun h => e h.symm
    simp [e, e']
theorem good_at {V : List Nat} (hV : V.Nodup) (hV24 : ∀ v ∈ V, v < 24) (f : Cfg → Bool) (k : Nat) : GoodR V f (cubeAt V k).1 (cubeAt V k).2 ↔ prim V f k := by
  unfold GoodR prim
  have hins : (∀ c, cubeF (cubeAt V k).1 (cubeAt V k).2 c = true → f c = true) ↔ ins V f k := forall_congr' fun c => by rw [cubeF_at hV24]
  rw [hins]
  have hbit : ∀ j (hj : j < V.length), ((cubeAt V k).1 ||| (cubeAt V k).2).testBit V[j] = true ↔ dig k j ≠ 2 := fun j hj => by
    rw [Nat.testBit_or, Bool.or_eq_true]
    show (msk 1 V k V.length).testBit V[j] = true ∨ (msk 0 V k V.length).testBit V[j] = true ↔ _
    rw [at_bit hV hj, at_bit hV hj]
    have := dig_lt k j
    omega
  constructor
  · rintro ⟨_, hi, h⟩
    refine ⟨hi, fun j hj hd hc => ?_⟩
    obtain ⟨on', h1⟩ := clear_ex (cubeAt V k).1 V[j]
    obtain ⟨off', h2⟩ := clear_ex (cubeAt V k).2 V[j]
    exact h V[j] (List.getElem_mem hj) ((hbit j hj).2 hd) on' off' h1 h2 fun c hcc => hc c ((cubeF_up hV hV24 hj hd h1 h2 c).1 hcc)
  · rintro ⟨hi, h⟩
    refine ⟨cubeAt_apart hV k, hi, fun v hv hb on' off' h1 h2 hc => ?_⟩
    obtain ⟨j, hj, rfl⟩ := List.mem_iff_getElem.1 hv
    have hd := (hbit j hj).1 hb
    exact h j hj hd fun c hf => hc c ((cubeF_up hV hV24 hj hd h1 h2 c).2 hf)

/-- what the reference's loops keep: row for row -/
noncomputable def prow (V : List Nat) (f : Cfg → Bool) (k m : Nat) : List (Nat × Nat) := ((List.range m).filter fun q => goodB V f (cfgN V k) (cfgN V q)).map fun q => (cfgN V k, cfgN V q)
noncomputable def ptab (V : List Nat) (f : Cfg → Bool) (k : Nat) : List (Nat × Nat) := (List.range k).flatMap fun q => prow V f q (2 ^ V.length)
theorem prow_yes {V : List Nat} {f : Cfg → Bool} {k m : Nat} (h : goodB V f (cfgN V k) (cfgN V m) = true) : prow V f k (m + 1) = prow V f k m ++ [(cfgN V k, cfgN V m)] := by
  simp [prow, List.range_succ, List.filter_append, h]
theorem prow_no {V : List Nat} {f : Cfg → Bool} {k m : Nat} (h : goodB V f (cfgN V k) (cfgN V m) = false) : prow V f k (m + 1) = prow V f k m := by
  simp [prow, List.range_succ, List.filter_append, h]
theorem ptab_succ (V : List Nat) (f : Cfg → Bool) (k : Nat) : ptab V f (k + 1) = ptab V f k ++ prow V f k (2 ^ V.length) := by
  simp [ptab, List.range_succ, List.flatMap_append]
theorem ptab_mem {V : List Nat} {f : Cfg → Bool} {x : Nat × Nat} : x ∈ ptab V f (2 ^ V.length) ↔ ∃ k m, k < 2 ^ V.length ∧ m < 2 ^ V.length ∧ GoodR V f (cfgN V k) (cfgN V m) ∧ x = (cfgN V k, cfgN V m) := by
  unfold ptab prow
  simp only [List.mem_flatMap, List.mem_map, List.mem_filter, List.mem_range, goodB_iff]
  constructor
  · rintro ⟨k, hk, m, ⟨hm, hg⟩, rfl⟩; exact ⟨k, m, hk, hm, hg, rfl⟩
  · rintro ⟨k, m, hk, hm, hg, rfl⟩; exact ⟨k, hk, m, ⟨hm, hg⟩, rfl⟩
theorem cfgN_inj {V : List Nat} (hV : V.Pairwise (· < ·)) {k m : Nat} (hk : k < 2 ^ V.length) (hm : m < 2 ^ V.length) (h : cfgN V k = cfgN V m) : k = m := by
  rw [← idx_cfg hV hk, ← idx_cfg hV hm, h]
theorem ptab_nodup {V : List Nat} (hV : rising V) (f : Cfg → Bool) : (ptab V f (2 ^ V.length)).Nodup := by
  show (ptab V f (2 ^ V.length)).Pairwise (· ≠ ·)
  unfold ptab
  rw [List.pairwise_flatMap]
  constructor
  · intro k _
    unfold prow
    rw [List.pairwise_map]
    refine ((List.pairwise_lt_range (n := 2 ^ V.length)).filter _).imp_of_mem fun {a b} ha hb hlt e => ?_
    have h1 := List.mem_range.1 (List.mem_filter.1 ha).1
    have h2 := List.mem_range.1 (List.mem_filter.1 hb).1
    have := cfgN_inj hV.1 h1 h2 (Prod.mk.inj e).2
    omega
  · refine (List.pairwise_lt_range (n := 2 ^ V.length)).imp_of_mem fun {a b} ha hb hlt x hx y hy e => ?_
    have h1 := List.mem_range.1 ha
    have h2 := List.mem_range.1 hb
    obtain ⟨m, _, rfl⟩ := List.mem_map.1 hx
    obtain ⟨m', _, rfl⟩ := List.mem_map.1 hy
    have := cfgN_inj hV.1 h1 h2 (Prod.mk.inj e).1
    omega
theorem rising_nodup {V : List Nat} (hV : rising V) : V.Nodup := hV.1.imp fun h => Nat.ne_of_lt h
theorem cfg_of_bits {V : List Nat} (hV : rising V) {x : Nat} (h : ∀ i, x.testBit i = true → i ∈ V) : ∃ k, k < 2 ^ V.length ∧ cfgN V k = x := by
  obtain ⟨k, hk, hb⟩ := num_ex V hV (bitsOf x)
  refine ⟨k, hk, Nat.eq_of_testBit_eq fun i => ?_⟩
  by_cases hi : i ∈ V
  · exact hb i hi
  · have e1 : x.testBit i = false := by rw [Bool.eq_false_iff]; exact fun h' => hi (h i h')
    have e2 : (cfgN V k).testBit i = false := by
      rw [Bool.eq_false_iff]; intro h'
      obtain ⟨j, hj, _⟩ := (cfgN_bit k hV.1 i).1 h'
      exact hi (List.mem_of_getElem? hj)
    rw [e1, e2]
theorem ptab_perm {V : List Nat} (hV : rising V) (f : Cfg → Bool) : (ptab V f (2 ^ V.length)).Perm (primesOf V f) := by
  have hn := rising_nodup hV
  rw [List.perm_ext_iff_of_nodup (ptab_nodup hV f) (primesOf_nodup hn f)]
  intro x
  rw [ptab_mem, primesOf_mem]
  have hin : ∀ k i, (cfgN V k).testBit i = true → i ∈ V := fun k i h' => by
    obtain ⟨j, hj, _⟩ := (cfgN_bit k hV.1 i).1 h'
    exact List.mem_of_getElem? hj
  constructor
  · rintro ⟨k, m, _, _, hg, rfl⟩
    obtain ⟨t, ht, e⟩ := cubeAt_ex (hin k) (hin m) hg.1
    refine ⟨t, ht, (good_at hn hV.2 f t).1 ?_, e.symm⟩
    rw [e]; exact hg
  · rintro ⟨t, ht, hp, rfl⟩
    have hm : ∀ e i, (msk e V t V.length).testBit i = true → i ∈ V := fun e i h' => by
      obtain ⟨j, hj, _, rfl, _⟩ := (msk_bit e V t i _ (Nat.le_refl _)).1 h'
      exact List.getElem_mem hj
    obtain ⟨k, hk, ek⟩ := cfg_of_bits hV (hm 1)
    obtain ⟨m, hm', em⟩ := cfg_of_bits hV (hm 0)
    refine ⟨k, m, hk, hm', ?_, ?_⟩
    · rw [ek, em]; exact (good_at hn hV.2 f t).2 hp
    · rw [ek, em]; rfl
/-- the two lists are one -/
theorem primes_one {V : List Nat} (hV : rising V) (f : Cfg → Bool) : sortR (ptab V f (2 ^ V.length)) = ((clist V f (3 ^ V.length)).mergeSort fun x y => !(ltOf (cubeCmp popN)) y x).map prC := by
  refine sortR_eq (L := clist V f (3 ^ V.length)) ?_ ?_
  · show (ptab V f (2 ^ V.length)).Perm ((clist V f (3 ^ V.length)).map prC)
    rw [clist_pr hV.2]; exact ptab_perm hV f
  · intro x hx
    have h24 : ∀ e k, msk e V k V.length < 2 ^ 24 := fun e k => msk_lt e hV.2 k _ (Nat.le_refl _)
    obtain ⟨k, _, rfl⟩ := List.mem_map.1 hx
    have e : prC (toCub (cubeAt V k)) = cubeAt V k := prC_toCub hV.2 k
    have e1 : (toCub (cubeAt V k)).1.val = (cubeAt V k).1 := congrArg Prod.fst e
    have e2 : (toCub (cubeAt V k)).2.val = (cubeAt V k).2 := congrArg Prod.snd e
    rw [e1, e2]
    exact ⟨h24 1 k, h24 0 k, cubeAt_apart (rising_nodup hV) k⟩
end Go.Proofs.YtalnhlebgofiiaaGreatDoor
namespace Go.Proofs.YtalnhlebgofiiaaGreatDoor
open Go.RowKit
open Bd
theorem own_below' {W W' : World} {n e size k : Nat} {v : Value} {xs : List Value} (h : W.ownsRow n e size v k xs) (hb : Below W.heap.size W W') : W'.ownsRow n e size v k xs :=
  h.kept (row := none) ⟨hb.os, hb.tape, hb.output, hb.size, fun k hk _ => hb.block k hk⟩ (by
    rcases h.2 with ⟨rfl, _⟩ | ⟨g, cap, cur, rfl, _⟩
    · exact .inl rfl
    · exact .inr (by simp [Value.ownBlock]))
/-- none of the cubes with one literal fewer lies in the set -/
def NoIn (f : Cfg → Bool) (on off v : Nat) : Prop := (on ||| off).testBit v = true → ∀ on' off' : Nat, (∀ i, on'.testBit i = (on.testBit i && decide (i ≠ v))) → (∀ i, off'.testBit i = (off.testBit i && decide (i ≠ v))) → ¬ ∀ c, cubeF on' off' c = true → f c = true
theorem andnot_bit {x v : Nat} (hx : x < 2 ^ 24) (hv : v < 24) (i : Nat) : (x &&& (4294967295 - 2 ^ v)).testBit i = (x.testBit i && decide (i ≠ v)) := by
  have h2 : 2 ^ v < 2 ^ 32 := Nat.pow_lt_pow_right (by omega) (by omega)
  have e : 4294967295 - 2 ^ v = 2 ^ 32 - (2 ^ v + 1) := by omega
  rw [e, Nat.testBit_and, Nat.testBit_two_pow_sub_succ h2, Nat.testBit_two_pow]
  cases hb : x.testBit i with
  | false => simp
  | true =>
    have hi : i < 24 := by
      rcases Nat.lt_or_ge i 24 with h | h
      · exact h
      · rw [Nat.testBit_lt_two_pow (Nat.lt_of_lt_of_le hx (Nat.pow_le_pow_right (by omega) h))] at hb; cases hb
    have : decide (i < 32) = true := by simp; omega
    rw [this]
    by_cases e : v = i
    · subst e; simp
    · have e' : ¬ i = v := fun h => e h.symm
      simp [e, e']
theorem and_pow (x v : Nat) : x &&& 2 ^ v = if x.testBit v = true then 2 ^ v else 0 := by
  refine Nat.eq_of_testBit_eq fun i => ?_
  rw [Nat.testBit_and, Nat.testBit_two_pow]
  by_cases e : v = i
  · subst e; cases h : x.testBit v <;> simp
  · cases h : x.testBit v <;> simp [e]
theorem pow32 {v : Nat} (h : v < 24) : (2 : Int) ^ v % 4294967296 = ((2 ^ v : Nat) : Int) := by
  have hp : 2 ^ v < 2 ^ 24 := Nat.pow_lt_pow_right (by omega) h
  rw [show (2 : Int) ^ v = ((2 ^ v : Nat) : Int) by simp]
  generalize 2 ^ v = p at *
  omega
theorem noin_of {f : Cfg → Bool} {on off v : Nat} (hon : on < 2 ^ 24) (hoff : off < 2 ^ 24) (hv : v < 24) (h : ¬ ∀ c, cubeF (on &&& (4294967295 - 2 ^ v)) (off &&& (4294967295 - 2 ^ v)) c = true → f c = true) : NoIn f on off v := fun _ on' off' h1 h2 => by
  have e1 : on' = on &&& (4294967295 - 2 ^ v) := Nat.eq_of_testBit_eq fun i => by rw [h1, andnot_bit hon hv]
  have e2 : off' = off &&& (4294967295 - 2 ^ v) := Nat.eq_of_testBit_eq fun i => by rw [h2, andnot_bit hoff hv]
  rw [e1, e2]; exact h
theorem not_noin {f : Cfg → Bool} {on off v : Nat} (hon : on < 2 ^ 24) (hoff : off < 2 ^ 24) (hv : v < 24) (hb : (on ||| off).testBit v = true) (h : ∀ c, cubeF (on &&& (4294967295 - 2 ^ v)) (off &&& (4294967295 - 2 ^ v)) c = true → f c = true) : ¬ NoIn f on off v := fun hn => hn hb _ _ (andnot_bit hon hv) (andnot_bit hoff hv) h
theorem all_next {P : Nat → Prop} {U : List Nat} {j v : Nat} (hv : U[j]? = some v) (hp : P v) : (∀ i z, i < j + 1 → U[i]? = some z → P z) ↔ ∀ i z, i < j → U[i]? = some z → P z := by
  constructor
  · exact fun h i z hi hz => h i z (by omega) hz
  · intro h i z hi hz
    by_cases e : i = j
    · subst e; rw [hv] at hz; obtain rfl : v = z := by simpa using hz
      exact hp
    · exact h i z (by omega) hz
theorem ptab_len (V : List Nat) (f : Cfg → Bool) (k m : Nat) : (ptab V f k ++ prow V f k m).length ≤ k * 2 ^ V.length + m := by
  have h1 : ∀ k m, (prow V f k m).length ≤ m := fun k m => by
    unfold prow
    rw [List.length_map]
    exact Nat.le_trans (List.length_filter_le _ _) (by simp)
  have h2 : ∀ k, (ptab V f k).length ≤ k * 2 ^ V.length := by
    intro k
    induction k with
    | zero => simp [ptab]
    | succ k ih => rw [ptab_succ, List.length_append, Nat.succ_mul]; have := h1 k (2 ^ V.length); omega
  rw [List.length_append]
  have := h1 k m; have := h2 k; omega
theorem prow_own {w : World} {base : Nat} {T : TypeId} {v : Value} {L : List (Nat × Nat)} (h : w.ownsRow base T 2 v L.length (pcells L)) : PRow w v L := by
  by_cases hL : L = []
  · subst hL
    rcases h.2 with ⟨rfl, _⟩ | ⟨g, cap, cur, rfl, _⟩
    · exact ⟨none, 0, rfl, fun k x hx => by simp at hx⟩
    · exact ⟨_, cap, rfl, fun k x hx => by simp at hx⟩
  · exact (PNew.of_own rfl hL h).row
theorem primesOf_len (V : List Nat) (f : Cfg → Bool) : (primesOf V f).length ≤ 3 ^ V.length := by
  unfold primesOf
  rw [List.length_map]
  exact Nat.le_trans (List.length_filter_le _ _) (by simp)
set_option maxRecDepth 100000 in
set_option maxHeartbeats 4000000 in
theorem RPrimes_any (V : List Nat) (f : Cfg → Bool) (U : List Nat) (hUe : featL (numN (depL f V)) = U) (hul : U.length ≤ 12) (hdl : numN (depL f V) < 2 ^ 24) (va : Value) (w : World) (hsa : RSet w va V f) : Calls Tryz.prog 19 #[va] w fun e w' => (∃ lv, e = .returned (.tuple #[lv, .int .i64 0]) ∧ PRow w' lv (sortR (ptab U f (2 ^ U.length)))) ∧ Below w.heap.size w w' := by
  obtain ⟨i0, hi0, hz0, hz1', hz2'⟩ := info_parts info_cubeR
  have hsu := RSupport_any V f va
  have hfe := Features_any (numN (depL f V)) (Nat.lt_trans hdl (by decide))
  have hU := rising_featL (numN (depL f V))
  rw [hUe] at hfe hU
  obtain ⟨qa, n1, ca, qt, n3, ct, rfl⟩ := hsa.form
  obtain ⟨a0, a1⟩ := two_cells' w (.slice qa n1 ca) (.slice qt n3 ct) 36
  have fr : Fr nob w (w.alloc (.cells #[.slice qa n1 ca, .slice qt n3 ct] 36)) := (Fr.refl nob w).alloc _
  have hset := hsa.kept fr
  clear hsa hdl hUe
  have hpu : 2 ^ U.length ≤ 4096 := Nat.pow_le_pow_right (by omega) (by omega : U.length ≤ 12)
  have HW := Lib.hid (show wrap64 ((2 : Int) ^ U.length) = ((2 ^ U.length : Nat) : Int) by
    rw [show (2 : Int) ^ U.length = ((2 ^ U.length : Nat) : Int) by simp]
    unfold wrap64
    generalize 2 ^ U.length = p at *
    omega)
  go_enter Tryz.func19, Tryz.ntmps19
  go_wp2_with fail
  generalize w.alloc (.cells #[.slice qa n1 ca, .slice qt n3 ct] 36) = W at *
  refine (hsu _ hset).mono ?_
  rintro e w1 ⟨rfl, hb1⟩
  have f1 := (Fr.refl nob W).below hb1
  replace a0 := f1.cell' a0 (fun h => h)
  replace a1 := f1.cell' a1 (fun h => h)
  replace hset := hset.kept f1
  replace fr := fr.trans f1 (fun _ _ h => h)
  clear hb1 f1 hsu
  go_wp2_with fail
  refine (hfe _).mono ?_
  rintro e w3 ⟨v3, rfl, hs3, hb3⟩
  have f3 := (Fr.refl nob w1).below hb3
  replace a0 := f3.cell' a0 (fun h => h)
  replace a1 := f3.cell' a1 (fun h => h)
  replace hset := hset.kept f3
  replace fr := fr.trans f3 (fun _ _ h => h)
  obtain ⟨q3, c3, rfl⟩ := hs3.form
  rw [List.length_map] at hs3 ⊢
  clear hb3 f3 hfe
  have h12 : ¬ (12 : Int) < (U.length : Int) := by omega
  have h12' : ¬ 12 < U.length := by omega
  go_wp2_with fail
  go_loopw [5, 6] (fun ov kv wr => ∃ k : Nat, k ≤ 2 ^ U.length ∧ kv = ik k ∧ wr.ownsRow w3.heap.size 49 2 ov (ptab U f k).length (pcells (ptab U f k)) ∧ Fr nob w3 wr) (fun _ kv _ => 2 ^ U.length - (intOf kv).toNat)
  case atStart => exact ⟨0, Nat.zero_le _, rfl, World.ownsRow_nil _ _ _ _, Fr.refl _ _⟩
  case round =>
    obtain ⟨k, hk, rfl, hown, Kfr⟩ := hrel
    have OWN := Lib.hid hown
    have KFR := Lib.hid Kfr
    have hs' := hs3.kept Kfr
    clear hown Kfr
    by_cases hlt : k < 2 ^ U.length
    · have hk1 : (k : Int) < wrap64 (2 ^ U.length) := by rw [HW.out]; omega
      have hk62 : k < 2 ^ 62 := Nat.lt_of_lt_of_le hlt (Nat.le_trans hpu (by decide))
      have hon := cfgN_lt hU k
      go_wp2_with fail
      refine (Config_any U hU k hk62 _ _ hs').mono ?_
      rintro e w5 ⟨rfl, rfl⟩
      obtain ⟨on, honE⟩ : ∃ on, cfgN U k = on := ⟨_, rfl⟩
      have HON := Lib.hid honE
      rw [honE] at hon ⊢
      clear honE hs' hk1
      go_wp2_with fail
      go_loopw [5, 8] (fun ov mv wr => ∃ m : Nat, m ≤ 2 ^ U.length ∧ mv = ik m ∧ wr.ownsRow w3.heap.size 49 2 ov (ptab U f k ++ prow U f k m).length (pcells (ptab U f k ++ prow U f k m)) ∧ Fr nob w3 wr) (fun _ mv _ => 2 ^ U.length - (intOf mv).toNat)
      case atStart => exact ⟨0, Nat.zero_le _, rfl, by simpa [prow] using OWN.out, KFR.out⟩
      case round =>
        obtain ⟨m, hm, rfl, hown, Mfr⟩ := hrel
        have OWM := Lib.hid hown
        have MFR := Lib.hid Mfr
        have hs' := hs3.kept Mfr
        clear hown Mfr
        by_cases hmt : m < 2 ^ U.length
        · have hm1 : (m : Int) < wrap64 (2 ^ U.length) := by rw [HW.out]; omega
          have hm62 : m < 2 ^ 62 := Nat.lt_of_lt_of_le hmt (Nat.le_trans hpu (by decide))
          have hoff := cfgN_lt hU m
          go_wp2_with fail
          refine (Config_any U hU m hm62 _ _ hs').mono ?_
          rintro e w6 ⟨rfl, rfl⟩
          obtain ⟨off, hoffE⟩ : ∃ off, cfgN U m = off := ⟨_, rfl⟩
          have HOFF := Lib.hid hoffE
          rw [hoffE] at hoff ⊢
          clear hoffE hs' hm1
          have eA : bits BinOp.and IntKind.u32 (on : Int) (off : Int) = ((on &&& off : Nat) : Int) := u32_and_nat _ _ (by omega) (by omega)
          have XFR := Lib.hid ((Fr.refl nob wr).alloc (.cells #[.int .u32 (on : Int), .int .u32 (off : Int)] 49))
          have b0 := XFR.out.cell' (MFR.out.cell' a0 (fun h => h)) (fun h => h)
          have b1 := XFR.out.cell' (MFR.out.cell' a1 (fun h => h)) (fun h => h)
          obtain ⟨x0, x1⟩ := two_cells' wr (.int .u32 (on : Int)) (.int .u32 (off : Int)) 49
          have OWX := Lib.hid (OWM.out.alloc (.cells #[.int .u32 (on : Int), .int .u32 (off : Int)] 49))
          by_cases hz : on &&& off = 0
          · have hz1 : ¬ (0 : Int) < ((on &&& off : Nat) : Int) := by rw [hz]; simp
            have HZ := Lib.hid hz
            clear hz
            go_wp2_with fail
            generalize hW9 : wr.alloc (.cells #[.int .u32 (on : Int), .int .u32 (off : Int)] 49) = w9 at *
            refine (RInside_any V f on off (Nat.lt_trans hon (by decide)) (Nat.lt_trans hoff (by decide)) _ _ (hset.kept (MFR.out.trans XFR.out (fun _ _ h => h)))).mono ?_
            rintro e w10 ⟨bI, rfl, hbI, hb10⟩
            have HBI := Lib.hid hbI
            have OWY := Lib.hid (own_below' OWX.out hb10)
            have f10 := (Fr.refl nob w9).below hb10
            replace b0 := f10.cell' b0 (fun h => h)
            replace b1 := f10.cell' b1 (fun h => h)
            replace x0 := f10.cell' x0 (fun h => h)
            replace x1 := f10.cell' x1 (fun h => h)
            have YFR := Lib.hid ((MFR.out.trans XFR.out (fun _ _ h => h)).trans f10 (fun _ _ h => h))
            clear hbI hb10 f10
            cases bI with
            | false =>
              have hg : goodB U f (cfgN U k) (cfgN U m) = false := by
                rw [Bool.eq_false_iff]; intro h
                rw [HON.out, HOFF.out, goodB_iff] at h
                have := HBI.out.2 h.2.1
                cases this
              have HNO := Lib.hid (prow_no hg)
              clear hg
              go_wp2_with fail
              go_roundw
              case rel => exact ⟨m + 1, by omega, by go_num, by rw [HNO.out]; exact OWY.out, YFR.out⟩
              case measure => simp [intOf]; omega
            | true =>
              have hsU := hs3.kept YFR.out
              have h10 : w.heap.size < w10.heap.size := lt_of_cell b0
              go_wp2_with fail
              go_loopw [11, 12] (fun lv jv wq => ∃ (j : Nat) (b : Bool), j ≤ U.length ∧ jv = ik j ∧ lv = .bool b ∧ (b = true ↔ ∀ i z, i < j → U[i]? = some z → NoIn f on off z) ∧ Fr nob w10 wq) (fun _ jv _ => U.length - (intOf jv).toNat)
              case atStart => exact ⟨0, true, Nat.zero_le _, rfl, rfl, by simp, Fr.refl _ _⟩
              case round =>
                obtain ⟨j, b, hj, rfl, rfl, hbj, Qfr⟩ := hrel
                have HBJ := Lib.hid hbj
                have QFR := Lib.hid Qfr
                replace b0 := Qfr.cell' b0 (fun h => h)
                replace b1 := Qfr.cell' b1 (fun h => h)
                replace x0 := Qfr.cell' x0 (fun h => h)
                replace x1 := Qfr.cell' x1 (fun h => h)
                replace hsU := hsU.kept Qfr
                clear hbj Qfr
                by_cases hju : j < U.length
                · obtain ⟨v, hve⟩ : ∃ v, U[j] = v := ⟨_, rfl⟩
                  have hv24 : v < 24 := by rw [← hve]; exact hU.2 _ (List.getElem_mem hju)
                  have hvj : U[j]? = some v := by rw [List.getElem?_eq_getElem hju, hve]
                  have hc : (U.map ik)[j]? = some (ik v) := by simp [hju, hve]
                  obtain ⟨gq, hqe, hcell⟩ := hsU.at hc
                  subst hqe
                  have HVJ := Lib.hid hvj
                  have hp : 2 ^ v < 2 ^ 24 := Nat.pow_lt_pow_right (by omega) hv24
                  have hpe := pow32 hv24
                  have hor : on ||| off < 2 ^ 24 := Nat.or_lt_two_pow hon hoff
                  have eO : bits BinOp.or IntKind.u32 (on : Int) (off : Int) = ((on ||| off : Nat) : Int) := u32_or_nat _ _ (by omega) (by omega)
                  have e2v : (2 : Int) ^ v = ((2 ^ v : Nat) : Int) := by simp
                  have eB : bits BinOp.and IntKind.u32 ((on ||| off : Nat) : Int) ((2 : Int) ^ v) = (((on ||| off) &&& 2 ^ v : Nat) : Int) := by rw [e2v]; exact u32_and_nat _ _ (by omega) (by omega)
                  have eC : bits BinOp.andNot IntKind.u32 (on : Int) ((2 : Int) ^ v) = ((on &&& (4294967295 - 2 ^ v) : Nat) : Int) := by rw [e2v]; exact u32_andNot_nat _ _ (by omega) (by omega)
                  have eD : bits BinOp.andNot IntKind.u32 (off : Int) ((2 : Int) ^ v) = ((off &&& (4294967295 - 2 ^ v) : Nat) : Int) := by rw [e2v]; exact u32_andNot_nat _ _ (by omega) (by omega)
                  have hpos : 0 < 2 ^ v := Nat.pow_pos (by decide)
                  have hab := and_pow (on ||| off) v
                  have hon' : on &&& (4294967295 - 2 ^ v) < 2 ^ 24 := Nat.lt_of_le_of_lt Nat.and_le_left hon
                  have hoff' : off &&& (4294967295 - 2 ^ v) < 2 ^ 24 := Nat.lt_of_le_of_lt Nat.and_le_left hoff
                  have hi1 := noin_of (f := f) hon hoff hv24
                  have hi2 := not_noin (f := f) hon hoff hv24
                  generalize on &&& (4294967295 - 2 ^ v) = on1 at *
                  generalize off &&& (4294967295 - 2 ^ v) = off1 at *
                  have HI1 := Lib.hid hi1
                  have HI2 := Lib.hid hi2
                  clear hc hvj hi1 hi2 e2v
                  by_cases htb : (on ||| off).testBit v = true
                  · have hz2 : (0 : Int) < (((on ||| off) &&& 2 ^ v : Nat) : Int) := by rw [hab, if_pos htb]; exact Int.natCast_pos.2 hpos
                    have HTB := Lib.hid htb
                    clear htb hab
                    go_wp2_with fail
                    refine (RInside_any V f on1 off1 (Nat.lt_trans hon' (by decide)) (Nat.lt_trans hoff' (by decide)) _ _ (hset.kept (YFR.out.trans QFR.out (fun _ _ h => h)))).mono ?_
                    rintro e w11 ⟨bJ, rfl, hbJ, hb11⟩
                    have HJ := Lib.hid hbJ
                    have RFR := Lib.hid (QFR.out.below hb11)
                    clear hbJ hb11
                    cases bJ with
                    | true =>
                      have hno := HI2.out HTB.out (by first | exact HJ.out.1 rfl | exact HJ.out.1 trivial)
                      have HNN := Lib.hid hno
                      clear hno
                      go_wp2_with fail
                      go_roundw
                      case rel => exact ⟨j + 1, false, by omega, by go_num, rfl, by
                        constructor
                        · intro h; cases h
                        · intro h; exact absurd (h j v (by omega) HVJ.out) HNN.out, RFR.out⟩
                      case measure => simp [intOf]; omega
                    | false =>
                      have hno : NoIn f on off v := HI1.out (fun h => by have := HJ.out.2 h; cases this)
                      have HNN := Lib.hid hno
                      clear hno
                      go_wp2_with fail
                      go_roundw
                      case rel => exact ⟨j + 1, b, by omega, by go_num, rfl, by rw [all_next HVJ.out HNN.out]; exact HBJ.out, RFR.out⟩
                      case measure => simp [intOf]; omega
                  · have hz2 : ¬ (0 : Int) < (((on ||| off) &&& 2 ^ v : Nat) : Int) := by
                      rw [hab, if_neg htb]; simp
                    have hno : NoIn f on off v := fun h => absurd h htb
                    have HNN := Lib.hid hno
                    clear hno htb hab
                    go_wp2_with fail
                    go_roundw
                    case rel => exact ⟨j + 1, b, by omega, by go_num, rfl, by rw [all_next HVJ.out HNN.out]; exact HBJ.out, QFR.out⟩
                    case measure => simp [intOf]; omega
                · obtain rfl : j = U.length := by omega
                  obtain ⟨L, hL⟩ : ∃ L, ptab U f k ++ prow U f k m = L := ⟨_, rfl⟩
                  have hLl : L.length ≤ 20000000 := by
                    have h1 := ptab_len U f k m
                    rw [hL] at h1
                    have h2 : k * 2 ^ U.length ≤ 4096 * 4096 := Nat.mul_le_mul (by omega) hpu
                    omega
                  have own1 := own_below' OWY.out (QFR.out.to_below (Nat.le_refl _) (fun _ h => h.elim))
                  have TFR := Lib.hid (YFR.out.trans QFR.out (fun _ _ h => h))
                  rw [hL] at own1
                  have HL := Lib.hid hL
                  clear hL
                  cases b with
                  | false =>
                    have hg : goodB U f (cfgN U k) (cfgN U m) = false := by
                      rw [Bool.eq_false_iff]; intro h
                      rw [HON.out, HOFF.out, goodB_iff] at h
                      have := HBJ.out.2 fun i z _ hz => h.2.2 z (List.mem_of_getElem? hz)
                      cases this
                    have HNO := Lib.hid (prow_no hg)
                    have OW1 := Lib.hid own1
                    clear hg own1
                    go_wp2_with fail
                    go_roundw
                    case rel => exact ⟨m + 1, by omega, by go_num, by rw [HNO.out, HL.out]; exact OW1.out, TFR.out⟩
                    case measure => simp [intOf]; omega
                  | true =>
                    have hg : goodB U f (cfgN U k) (cfgN U m) = true := by
                      rw [HON.out, HOFF.out, goodB_iff]
                      refine ⟨HZ.out, (by first | exact HBI.out.1 rfl | exact HBI.out.1 trivial | exact HBI.out), fun z hz => ?_⟩
                      obtain ⟨i, hi, rfl⟩ := List.mem_iff_getElem.1 hz
                      exact HBJ.out.1 rfl i _ hi (List.getElem?_eq_getElem hi)
                    have HYES := Lib.hid (prow_yes hg)
                    clear hg
                    obtain ⟨d0, d1⟩ := two_cells' wr (.int .u32 (on : Int)) (.int .u32 (off : Int)) 49
                    have own2 := own1.alloc (.cells #[.int .u32 (on : Int), .int .u32 (off : Int)] 49)
                    have UFR := Lib.hid (TFR.out.alloc (.cells #[.int .u32 (on : Int), .int .u32 (off : Int)] 49))
                    have hus := UFR.out.size
                    clear own1
                    go_wp2_with (at_builtin; refine wpList_append_own _ rfl _ _ 45 rfl w3.heap.size 49 i0 (.agg #[.int .u32 0, .int .u32 0]) 2 8 Tryz.underlying45 hi0 hz0 hz1' hz2' rfl (by decide) _ L.length (pcells L) rfl own2 ⟨wr.heap.size, 0, none⟩ 1 1 [Value.int IntKind.u32 (on : Int), Value.int IntKind.u32 (off : Int)] rfl ?nz ?cz ?dz ?ez ?fz ?gz ?_)
                    case dz => exact ⟨rfl, rfl⟩
                    case ez => unfold maxLen; omega
                    case fz => omega
                    case gz => simpa using hus
                    intro v4 w4 own4 gr4 _
                    have fr4 := own_fr own2 gr4 (⟨UFR.out.os, UFR.out.tape, UFR.out.output, UFR.out.size, fun k hk _ => UFR.out.block k hk (fun h => h)⟩ : Fr (fun k => w3.heap.size ≤ k) w3 _)
                    have hF4 : Fr nob w3 w4 := ⟨fr4.os, fr4.tape, fr4.output, fr4.size, fun k hk _ => fr4.block k hk (by show ¬ w3.heap.size ≤ k; omega)⟩
                    have hO4 : w4.ownsRow w3.heap.size 49 2 v4 (ptab U f k ++ prow U f k (m + 1)).length (pcells (ptab U f k ++ prow U f k (m + 1))) := by
                      rw [HYES.out, HON.out, HOFF.out, ← List.append_assoc, HL.out, pcells_append, List.length_append]
                      exact own4
                    clear own4 gr4 fr4 own2
                    go_wp2_with fail
                    go_roundw
                    case rel => exact ⟨m + 1, by omega, by go_num, hO4, hF4⟩
                    case measure => simp [intOf]; omega
          · have hz1 : (0 : Int) < ((on &&& off : Nat) : Int) := by omega
            have hg : goodB U f (cfgN U k) (cfgN U m) = false := by
              rw [Bool.eq_false_iff]; intro h
              rw [HON.out, HOFF.out, goodB_iff] at h
              exact hz h.1
            have HNO := Lib.hid (prow_no hg)
            clear hz hg
            go_wp2_with fail
            go_roundw
            case rel => exact ⟨m + 1, by omega, by go_num, by rw [HNO.out]; exact OWX.out, MFR.out.trans XFR.out (fun _ _ h => h)⟩
            case measure => simp [intOf]; omega
        · obtain rfl : m = 2 ^ U.length := by omega
          have hm1 : ¬ ((2 ^ U.length : Nat) : Int) < wrap64 (2 ^ U.length) := by rw [HW.out]; omega
          go_wp2_with fail
          go_roundw
          case rel => exact ⟨k + 1, by omega, by go_num, by rw [ptab_succ]; exact OWM.out, MFR.out⟩
          case measure => simp [intOf]; omega
    · obtain rfl : k = 2 ^ U.length := by omega
      have hk1 : ¬ ((2 ^ U.length : Nat) : Int) < wrap64 (2 ^ U.length) := by rw [HW.out]; omega
      go_wp2_with fail
      have hpl : (ptab U f (2 ^ U.length)).length ≤ 531441 := by
        rw [(ptab_perm hU f).length_eq]
        exact Nat.le_trans (primesOf_len U f) (Nat.le_trans (Nat.pow_le_pow_right (by decide) hul) (by decide))
      have hpb : ∀ x ∈ ptab U f (2 ^ U.length), x.1 < 2 ^ 32 ∧ x.2 < 2 ^ 32 := fun x hx => by
        obtain ⟨k, m, _, _, _, rfl⟩ := ptab_mem.1 hx
        exact ⟨Nat.lt_trans (cfgN_lt hU k) (by decide), Nat.lt_trans (cfgN_lt hU m) (by decide)⟩
      refine (RSorted_any _ hpl hpb _ _ (prow_own OWN.out)).mono ?_
      rintro e wz ⟨lv, rfl, hpr, hbz⟩
      have HZ := Lib.hid hpr
      have ZFR := Lib.hid ((fr.trans KFR.out (fun _ _ h => h)).below hbz)
      clear hpr hbz hpl hpb
      go_wp2_with fail
      go_ret2
      exact ⟨⟨lv, by simp, HZ.out⟩, ZFR.out.to_below (Nat.le_refl _) (fun _ h => h.elim)⟩
end Go.Proofs.YtalnhlebgofiiaaGreatDoor
