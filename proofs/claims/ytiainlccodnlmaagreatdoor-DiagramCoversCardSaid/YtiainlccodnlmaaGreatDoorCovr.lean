import Derived.Test.YtiainlccodnlmaaGreatDoorCov
import Derived.Test.YtiainlccodnlmaaGreatDoorPrm
namespace Go.Proofs.YtiainlccodnlmaaGreatDoor
open Go.RowKit Go.Sort
open Bd

/-- a cube as its two masks -/
def prC (x : Cub) : Nat × Nat := (x.1.val, x.2.val)
theorem prC_toCub {V : List Nat} (hV24 : ∀ v ∈ V, v < 24) (k : Nat) : prC (toCub (cubeAt V k)) = cubeAt V k := by
  unfold prC
  rw [toCub_1 (msk_lt 1 hV24 k V.length (Nat.le_refl _)), toCub_2 (msk_lt 0 hV24 k V.length (Nat.le_refl _))]
theorem prow_of {w : World} {v : Value} {L : List Cub} (h : CRow w v L) : PRow w v (L.map prC) := by
  obtain ⟨a, cap, rfl, hc⟩ := h
  refine ⟨a, cap, by rw [List.length_map], fun k x hx => ?_⟩
  rw [List.getElem?_map] at hx
  cases hk : L[k]? with
  | none => rw [hk] at hx; cases hx
  | some y =>
    rw [hk] at hx
    obtain rfl : prC y = x := by simpa using hx
    exact hc k y hk
theorem clist_pr {V : List Nat} (hV24 : ∀ v ∈ V, v < 24) (f : Cfg → Bool) : (clist V f (3 ^ V.length)).map prC = primesOf V f := by
  unfold clist primesOf
  rw [List.map_map]
  exact List.map_congr_left fun k _ => prC_toCub hV24 k
theorem primesOf_mem {V : List Nat} {f : Cfg → Bool} {x : Nat × Nat} : x ∈ primesOf V f ↔ ∃ k, k < 3 ^ V.length ∧ prim V f k ∧ x = cubeAt V k := by
  unfold primesOf
  simp only [List.mem_map, List.mem_filter, List.mem_range, primB_iff]
  constructor
  · rintro ⟨k, ⟨h1, h2⟩, rfl⟩; exact ⟨k, h1, h2, rfl⟩
  · rintro ⟨k, h1, h2, rfl⟩; exact ⟨k, ⟨h1, h2⟩, rfl⟩
theorem primesOf_nodup {V : List Nat} (hV : V.Nodup) (f : Cfg → Bool) : (primesOf V f).Nodup := by
  unfold primesOf
  show ((List.filter (primB V f) (List.range (3 ^ V.length))).map (cubeAt V)).Pairwise (· ≠ ·)
  rw [List.pairwise_map]
  refine ((List.pairwise_lt_range (n := 3 ^ V.length)).filter (primB V f)).imp_of_mem fun {a b} ha hb hlt e => ?_
  have h1 := List.mem_range.1 (List.mem_filter.1 ha).1
  have h2 := List.mem_range.1 (List.mem_filter.1 hb).1
  have := cubeAt_inj hV h1 h2 e
  omega

set_option maxHeartbeats 1000000 in
theorem covers_any (L : List OpD) (hfit : ∀ x ∈ L, x.Fits) (v : Value) (w : World) (hv : ORow w v L) (hg : 0 < w.heap.size) (hT : Tab32 w) :
    Calls Tryz.prog 5 #[v] w fun e w' => e = .returned (.bool true) ∧ Below w.heap.size w w' := by
  have c3 := three_any L hfit v w hv hg hT
  have hA := ok_thr L 1
  generalize thr L 1 = A at *
  have hs24 := supR_lt24 hA
  obtain ⟨V, hVe⟩ : ∃ V, V = featL (supR (li A)) := ⟨_, rfl⟩
  have hris := rising_featL (supR (li A))
  rw [← hVe] at hris
  have hV : V.Nodup := hris.1.imp fun h => Nat.ne_of_lt h
  have hV24 := hris.2
  obtain ⟨S, hS⟩ : ∃ S, S = ((clist V A.ev (3 ^ V.length)).mergeSort fun x y => !(ltOf (cubeCmp popN)) y x) := ⟨_, rfl⟩
  have hperm : (S.map prC).Perm (primesOf V A.ev) := by
    rw [← clist_pr hV24, hS]
    exact (List.mergeSort_perm _ _).map prC
  have hmem : ∀ x, x ∈ S.map prC ↔ ∃ k, k < 3 ^ V.length ∧ prim V A.ev k ∧ x = cubeAt V k := fun x => (hperm.mem_iff).trans primesOf_mem
  have hnd : (S.map prC).Nodup := hperm.nodup_iff.2 (primesOf_nodup hV A.ev)
  refine covers_in A (thr L 2) (thr L 3) hA (okL L) (supR (li A)) V.length (S.map prC) ?hLp v w c3 (fun W => Support_any A hA W) ?cFe ?cPr ?hlt ?hin ?hap ?hun
  case hLp =>
    intro h8
    have h1 : (S.map prC).length ≤ 3 ^ V.length := by
      rw [hperm.length_eq]
      unfold primesOf
      rw [List.length_map]
      have := List.length_filter_le (primB V A.ev) (List.range (3 ^ V.length))
      rwa [List.length_range] at this
    exact Nat.le_trans h1 (Nat.le_trans (Nat.pow_le_pow_right (by decide) (show V.length ≤ 12 by omega)) (by decide))
  case cFe =>
    intro W
    refine (Features_any (supR (li A)) (by omega) W).mono ?_
    rintro e w' ⟨u, h1, h2, h3⟩
    obtain ⟨a, cap, h⟩ := h2.form
    rw [List.length_map, ← hVe] at h
    exact ⟨u, h1, ⟨a, cap, h⟩, h3⟩
  case cPr =>
    intro h8 W fr
    refine (Primes_any A hA W (hT.below (fr.to_below (B := w.heap.size) (Nat.le_refl _) (fun _ h => h.elim)) hg)).mono ?_
    rintro e w' ⟨h | h, hB⟩
    · obtain ⟨_, lv, rfl, hrow⟩ := h
      rw [← hVe, ← hS] at hrow
      exact ⟨lv, rfl, prow_of hrow, hB⟩
    · rw [← hVe] at h; omega
  case hlt =>
    intro i x hx
    obtain ⟨k, _, _, rfl⟩ := (hmem x).1 (List.mem_of_getElem? hx)
    have h1 := msk_lt 1 hV24 k V.length (Nat.le_refl _)
    have h0 := msk_lt 0 hV24 k V.length (Nat.le_refl _)
    exact ⟨Nat.lt_trans h1 (by decide), Nat.lt_trans h0 (by decide)⟩
  case hin =>
    intro i x hx
    obtain ⟨k, hk, hp, rfl⟩ := (hmem x).1 (List.mem_of_getElem? hx)
    exact cov_in hA hV hV24 hp
  case hap =>
    intro i k x y hx hy hne
    obtain ⟨k1, hk1, hp1, e1⟩ := (hmem x).1 (List.mem_of_getElem? hx)
    obtain ⟨k2, hk2, hp2, e2⟩ := (hmem y).1 (List.mem_of_getElem? hy)
    rw [e1, e2]
    refine cov_apart hV hV24 hk1 hk2 hp1 hp2 fun e => ?_
    have hxy : (S.map prC)[k]? = (S.map prC)[i]? := by rw [hx, hy, e1, e2, e]
    have hkl : k < (S.map prC).length := by
      rcases Nat.lt_or_ge k (S.map prC).length with h | h
      · exact h
      · rw [List.getElem?_eq_none h] at hy; cases hy
    exact hne ((List.getElem?_inj hkl hnd).1 hxy)
  case hun =>
    unfold unN
    rw [List.take_length]
    exact cov_all hA hV24 (supp_on hA hVe) hmem
end Go.Proofs.YtiainlccodnlmaaGreatDoor
