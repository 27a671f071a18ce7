import Derived.Test.YtingidbhmbgigaaFits
namespace Go.Proofs.Ytingidbhmbgigaa
open Go.RowKit
open Bd

def lAt (L : List Dec) (p : Nat) : Dec := L.getD (p - 2) (0, 0, 0)
def semK (L : List Dec) : Nat → Nat → B
  | 0, _ => .F
  | n + 1, p => if p < 2 then (if p = 0 then .F else .T) else mk (lAt L p).1.toNat (semK L n (lAt L p).2.1.toNat) (semK L n (lAt L p).2.2.toNat)
def semL (L : List Dec) (p : Nat) : B := semK L (p + 1) p
def validL (L : List Dec) : Prop := ∀ k (h : k < L.length), fitsD L k L[k] = true

theorem lAt_eq {L : List Dec} {k : Nat} (h : k < L.length) : lAt L (k + 2) = L[k] := by
  unfold lAt
  rw [show k + 2 - 2 = k by omega, List.getD_eq_getElem?_getD, List.getElem?_eq_getElem h]; rfl
theorem lAt_int {L : List Dec} {c : Int} (h : 2 ≤ c) : L.getD (c - 2).toNat (0, 0, 0) = lAt L c.toNat := by
  unfold lAt
  congr 1; omega
theorem fitsC_iff {L : List Dec} {k : Nat} {x c : Int} : fitsC L k x c = true ↔ 0 ≤ c ∧ c ≤ (k : Int) + 1 ∧ (2 ≤ c → x < (lAt L c.toNat).1) := by
  unfold fitsC
  simp only [Bool.and_eq_true, Bool.or_eq_true, decide_eq_true_eq]
  constructor
  · rintro ⟨h1, h2, h3⟩
    refine ⟨h1, h2, fun h => ?_⟩
    rw [← lAt_int h]
    rcases h3 with h3 | h3
    · omega
    · exact h3
  · rintro ⟨h1, h2, h3⟩
    refine ⟨h1, h2, ?_⟩
    by_cases h : 2 ≤ c
    · right; rw [lAt_int h]; exact h3 h
    · left; omega
theorem fitsD_iff {L : List Dec} {k : Nat} {d : Dec} : fitsD L k d = true ↔ 0 ≤ d.1 ∧ d.1 < 24 ∧ fitsC L k d.1 d.2.1 = true ∧ fitsC L k d.1 d.2.2 = true := by
  unfold fitsD; simp only [Bool.and_eq_true, decide_eq_true_eq]
theorem valid_at {L : List Dec} (hv : validL L) {p : Nat} (h2 : 2 ≤ p) (hp : p < L.length + 2) :
    0 ≤ (lAt L p).1 ∧ (lAt L p).1 < 24 ∧ (0 ≤ (lAt L p).2.1 ∧ (lAt L p).2.1 < p ∧ (2 ≤ (lAt L p).2.1 → (lAt L p).1 < (lAt L (lAt L p).2.1.toNat).1)) ∧
      (0 ≤ (lAt L p).2.2 ∧ (lAt L p).2.2 < p ∧ (2 ≤ (lAt L p).2.2 → (lAt L p).1 < (lAt L (lAt L p).2.2.toNat).1)) := by
  obtain ⟨k, rfl⟩ : ∃ k, p = k + 2 := ⟨p - 2, by omega⟩
  have hk : k < L.length := by omega
  have h := hv k hk
  rw [← lAt_eq hk, fitsD_iff] at h
  obtain ⟨a, b, c, d⟩ := h
  obtain ⟨c1, c2, c3⟩ := fitsC_iff.1 c
  obtain ⟨d1, d2, d3⟩ := fitsC_iff.1 d
  exact ⟨a, b, ⟨c1, by omega, c3⟩, ⟨d1, by omega, d3⟩⟩
theorem semK_stable {L : List Dec} (hv : validL L) : ∀ (n m p : Nat), p < n → p < m → p < L.length + 2 → semK L n p = semK L m p
  | 0, _, _, h, _, _ => absurd h (Nat.not_lt_zero _)
  | n + 1, 0, _, _, h, _ => absurd h (Nat.not_lt_zero _)
  | n + 1, m + 1, p, h1, h2, hp => by
    unfold semK
    by_cases h : p < 2
    · rw [if_pos h, if_pos h]
    · rw [if_neg h, if_neg h]
      obtain ⟨_, _, ⟨a1, a2, _⟩, ⟨b1, b2, _⟩⟩ := valid_at hv (by omega) hp
      rw [semK_stable hv n m _ (by omega) (by omega) (by omega), semK_stable hv n m (lAt L p).2.2.toNat (by omega) (by omega) (by omega)]
theorem semL_step {L : List Dec} (hv : validL L) {p : Nat} (h2 : 2 ≤ p) (hp : p < L.length + 2) : semL L p = mk (lAt L p).1.toNat (semL L (lAt L p).2.1.toNat) (semL L (lAt L p).2.2.toNat) := by
  obtain ⟨_, _, ⟨a1, a2, _⟩, ⟨b1, b2, _⟩⟩ := valid_at hv h2 hp
  unfold semL
  rw [semK, if_neg (by omega), semK_stable hv p ((lAt L p).2.1.toNat + 1) (lAt L p).2.1.toNat (by omega) (by omega) (by omega), semK_stable hv p ((lAt L p).2.2.toNat + 1) (lAt L p).2.2.toNat (by omega) (by omega) (by omega)]
theorem semL_ok {L : List Dec} (hv : validL L) : ∀ (n p : Nat), p < n → p < L.length + 2 → (semL L p).ok (if p < 2 then 24 else (lAt L p).1.toNat)
  | 0, _, h, _ => absurd h (Nat.not_lt_zero _)
  | n + 1, p, h, hp => by
    by_cases h2 : p < 2
    · have : p = 0 ∨ p = 1 := by omega
      rcases this with rfl | rfl <;> simp [semL, semK, B.ok]
    · rw [if_neg h2, semL_step hv (by omega) hp]
      obtain ⟨v0, v1, ⟨a1, a2, a3⟩, ⟨b1, b2, b3⟩⟩ := valid_at hv (by omega) hp
      have hl := semL_ok hv n (lAt L p).2.1.toNat (by omega) (by omega)
      have hh := semL_ok hv n (lAt L p).2.2.toNat (by omega) (by omega)
      refine ok_mk (by omega) (hl.mono ?_) (hh.mono ?_)
      · split
        · omega
        · have := a3 (by omega); omega
      · split
        · omega
        · have := b3 (by omega); omega
theorem semL_ok0 {L : List Dec} (hv : validL L) {p : Nat} (hp : p < L.length + 2) : (semL L p).ok 0 := (semL_ok hv (p + 1) p (Nat.lt_succ_self _) hp).mono (Nat.zero_le _)
def spL (L : List Dec) (p : Nat) : Nat × Nat × Nat := if p < 2 then (24 + p, p, p) else ((lAt L p).1.toNat, (lAt L p).2.1.toNat, (lAt L p).2.2.toNat)
theorem splL {L : List Dec} (hv : validL L) : Spl (semL L) (fun p => p < L.length + 2) (fun p => p) (spL L) := by
  constructor
  · intro p hp h
    unfold spL at h ⊢
    by_cases h2 : p < 2
    · rw [if_pos h2]
      have : p = 0 ∨ p = 1 := by omega
      rcases this with rfl | rfl <;> simp [semL, semK]
    · rw [if_neg h2] at h
      have := valid_at hv (by omega) hp
      simp only at h; omega
  · intro p hp h
    unfold spL at h ⊢
    by_cases h2 : p < 2
    · rw [if_pos h2] at h; simp only at h; omega
    · rw [if_neg h2]
      obtain ⟨v0, v1, ⟨a1, a2, a3⟩, ⟨b1, b2, b3⟩⟩ := valid_at hv (by omega) hp
      exact ⟨semL_step hv (by omega) hp, by simp only; omega, by simp only; omega, by simp only; omega, by simp only; omega⟩

theorem lsplit_any (L : List Dec) (hv : validL L) (hL : L.length ≤ 65536) (p : Nat) (hp : p < L.length + 2) (v : Value) (w : World) (hr : LRow w v L) :
    Calls Try.prog 20 #[.agg #[v], kk p] w fun e w' => e = .returned (.tuple #[.int .i64 ((spL L p).1 : Int), kk (spL L p).2.1, kk (spL L p).2.2]) ∧ Below w.heap.size w w' := by
  by_cases h2 : p < 2
  · rw [show spL L p = (24 + p, p, p) by simp [spL, h2]]
    exact lsplit_small v p h2 w
  · obtain ⟨k, rfl⟩ : ∃ k, p = k + 2 := ⟨p - 2, by omega⟩
    have hk : k < L.length := by omega
    obtain ⟨v0, v1, ⟨a1, a2, a3⟩, ⟨b1, b2, b3⟩⟩ := valid_at hv (by omega) hp
    rw [lAt_eq hk] at v0 v1 a1 a2 b1 b2
    have h := lsplit_node L k hk hL v w hr
    refine h.mono ?_
    rintro e w' ⟨rfl, hb⟩
    refine ⟨?_, hb⟩
    have e1 : L[k].1 = ((L[k].1.toNat : Nat) : Int) := by omega
    have e2 : L[k].2.1 = ((L[k].2.1.toNat : Nat) : Int) := by omega
    have e3 : L[k].2.2 = ((L[k].2.2.toNat : Nat) : Int) := by omega
    rw [show spL L (k + 2) = (L[k].1.toNat, L[k].2.1.toNat, L[k].2.2.toNat) by unfold spL; rw [if_neg (by omega), lAt_eq hk]]
    simp only [kk, ← e1, ← e2, ← e3]

set_option maxRecDepth 100000 in
set_option maxHeartbeats 2000000 in
/-- Of, where the list and the root describe a set -/
theorem Of_yes (L : List Dec) (hval : validL L) (hL : L.length ≤ 65536) (r : Nat) (hr : r < L.length + 2) (v : Value) (w : World) (hv : LRow w v L) :
    Calls Try.prog 6 #[v, .int .i64 (r : Int)] w fun e w' => e = .returned (.tuple #[dval (semL L r), .int .i64 0]) ∧ Below w.heap.size w w' := by
  have hmf : ∀ (fn : Fn) (first cap : Array Value) (w : World), (Instr.makeFunc fn first cap).run Try.prog w = .ok (.func fn first cap) w := fun _ _ _ _ => rfl
  obtain ⟨a, cap, rfl⟩ := hv.form
  have r0 : (w.alloc (.cells #[.int .u32 0, .string ⟨#[]⟩] 31)).cell? ⟨w.heap.size, 0, none⟩ = some (.int .u32 0) := World.cell?_alloc_at _ _ _ _ (by simp)
  have r1 : (w.alloc (.cells #[.int .u32 0, .string ⟨#[]⟩] 31)).cell? ⟨w.heap.size, 1, none⟩ = some (.string ⟨#[]⟩) := World.cell?_alloc_at _ _ _ _ (by simp)
  replace r0 := cell_alloc_l r0 (.cells #[.slice a L.length cap] 51)
  replace r1 := cell_alloc_l r1 (.cells #[.slice a L.length cap] 51)
  have q0 := one_cell (w.alloc (.cells #[.int .u32 0, .string ⟨#[]⟩] 31)) (.slice a L.length cap) 51
  simp only [World.size_alloc] at q0
  have fr : Fr nob w ((w.alloc (.cells #[.int .u32 0, .string ⟨#[]⟩] 31)).alloc (.cells #[.slice a L.length cap] 51)) := ((Fr.refl nob w).alloc _).alloc _
  have fz : ∀ o, ((w.alloc (.cells #[.int .u32 0, .string ⟨#[]⟩] 31)).alloc (.cells #[.slice a L.length cap] 51)).frozen? ⟨w.heap.size, o, none⟩ = false := fun o => by
    have h1 : (w.alloc (.cells #[.int .u32 0, .string ⟨#[]⟩] 31)).frozen? ⟨w.heap.size, o, none⟩ = false := World.frozen?_alloc_at _ _ _ _ (by simp)
    exact (((Fr.refl nob _).alloc _).frozen (p := ⟨w.heap.size, o, none⟩) (by simp) (fun h => h)).trans h1
  have hr1 : (r : Int) < (L.length : Int) + 2 := by omega
  have hr2 : ¬ ((L.length : Int) + 1 < (r : Int)) := by omega
  go_enter Try.func6, Try.ntmps6
  go_wp2_with fail
  generalize ((w.alloc (.cells #[.int .u32 0, .string ⟨#[]⟩] 31)).alloc (.cells #[.slice a L.length cap] 51)) = W0 at *
  have lW : w.heap.size < W0.heap.size := lt_of_cell r0
  go_loopw [16] (fun kv wr => ∃ k : Nat, k ≤ L.length ∧ kv = kk k ∧ Fr nob W0 wr) (fun kv _ => L.length - (intOf kv).toNat)
  case atStart => exact ⟨0, Nat.zero_le _, rfl, Fr.refl _ _⟩
  case round =>
    obtain ⟨k, hk, rfl, fwr⟩ := hrel
    replace r0 := fwr.cell' r0 (fun h => h)
    have l0 := lt_of_cell r0
    replace r1 := fwr.cell' r1 (fun h => h)
    replace q0 := fwr.cell' q0 (fun h => h)
    have frw := fr.trans fwr (fun _ _ h => h)
    by_cases hlt : k < L.length
    · have hf := fits_any L k hlt hL (.slice a L.length cap) wr (hv.kept frw)
      rw [hval k hlt] at hf
      go_wp2_with fail
      refine hf.mono ?_
      clear hf
      rintro e w1 ⟨rfl, hb⟩
      have f1 := fwr.below hb
      clear hb r0 r1 q0
      go_wp2_with fail
      refine ⟨⟨k + 1, by omega, by go_num, f1⟩, by simp [intOf]; omega⟩
    · obtain rfl : k = L.length := by omega
      have f0 : wr.frozen? ⟨w.heap.size, 0, none⟩ = false := (fwr.frozen (p := ⟨w.heap.size, 0, none⟩) lW (fun h => h)).trans (fz 0)
      have f1 : wr.frozen? ⟨w.heap.size, 1, none⟩ = false := (fwr.frozen (p := ⟨w.heap.size, 1, none⟩) lW (fun h => h)).trans (fz 1)
      have hg := growI_any (splL hval) (.agg #[.slice a L.length cap]) (fun k hk => by omega) wr (fun k W hk hb => lsplit_any L hval hL k hk _ W ((hv.kept frw).below hb)) r hr (semL_ok0 hval hr)
      go_wp2_with fail
      refine hg.mono ?_
      clear hg
      rintro e w2 ⟨rfl, hb⟩
      have fr3 : Fr nob wr w2 := (Fr.refl nob wr).below hb
      have r03 := fr3.cell' r0 (fun h => h)
      have r13 := fr3.cell' r1 (fun h => h)
      have f03 := (fr3.frozen (p := ⟨w.heap.size, 0, none⟩) l0 (fun h => h)).trans f0
      have f13 := (fr3.frozen (p := ⟨w.heap.size, 1, none⟩) l0 (fun h => h)).trans f1
      have frA := frw.trans fr3 (fun _ _ h => h)
      clear r0 r1 f0 f1 q0 hb
      go_wp2_with fail
      refine bodyPost_ret (v := .tuple #[dval (semL L r), .int .i64 0]) (by simp [results, Try.results6, go_sem, r03, r13]) rfl ⟨rfl, ?_⟩
      exact ((frA.set1 (Nat.le_refl _) _).set1 (Nat.le_refl _) _).to_below (Nat.le_refl _) (fun _ h => h.elim)

set_option maxRecDepth 100000 in
set_option maxHeartbeats 2000000 in
/-- Of, where an element does not fit -/
theorem Of_form (L : List Dec) (m : Nat) (hm : m < L.length) (hbad : fitsD L m L[m] = false) (hgood : ∀ k (h : k < m), fitsD L k (L[k]'(by omega)) = true) (hL : L.length ≤ 65536) (r : Int) (v : Value) (w : World) (hv : LRow w v L) :
    Calls Try.prog 6 #[v, .int .i64 r] w fun e w' => e = .returned (.tuple #[dval .F, .int .i64 4]) ∧ Below w.heap.size w w' := by
  obtain ⟨a, cap, rfl⟩ := hv.form
  have r0 : (w.alloc (.cells #[.int .u32 0, .string ⟨#[]⟩] 31)).cell? ⟨w.heap.size, 0, none⟩ = some (.int .u32 0) := World.cell?_alloc_at _ _ _ _ (by simp)
  have r1 : (w.alloc (.cells #[.int .u32 0, .string ⟨#[]⟩] 31)).cell? ⟨w.heap.size, 1, none⟩ = some (.string ⟨#[]⟩) := World.cell?_alloc_at _ _ _ _ (by simp)
  replace r0 := cell_alloc_l r0 (.cells #[.slice a L.length cap] 51)
  replace r1 := cell_alloc_l r1 (.cells #[.slice a L.length cap] 51)
  have q0 := one_cell (w.alloc (.cells #[.int .u32 0, .string ⟨#[]⟩] 31)) (.slice a L.length cap) 51
  simp only [World.size_alloc] at q0
  have fr : Fr nob w ((w.alloc (.cells #[.int .u32 0, .string ⟨#[]⟩] 31)).alloc (.cells #[.slice a L.length cap] 51)) := ((Fr.refl nob w).alloc _).alloc _
  have fz : ∀ o, ((w.alloc (.cells #[.int .u32 0, .string ⟨#[]⟩] 31)).alloc (.cells #[.slice a L.length cap] 51)).frozen? ⟨w.heap.size, o, none⟩ = false := fun o => by
    have h1 : (w.alloc (.cells #[.int .u32 0, .string ⟨#[]⟩] 31)).frozen? ⟨w.heap.size, o, none⟩ = false := World.frozen?_alloc_at _ _ _ _ (by simp)
    exact (((Fr.refl nob _).alloc _).frozen (p := ⟨w.heap.size, o, none⟩) (by simp) (fun h => h)).trans h1
  go_enter Try.func6, Try.ntmps6
  go_wp2_with fail
  generalize ((w.alloc (.cells #[.int .u32 0, .string ⟨#[]⟩] 31)).alloc (.cells #[.slice a L.length cap] 51)) = W0 at *
  have lW : w.heap.size < W0.heap.size := lt_of_cell r0
  go_loopw [16] (fun kv wr => ∃ k : Nat, k ≤ m ∧ kv = kk k ∧ Fr nob W0 wr) (fun kv _ => m - (intOf kv).toNat)
  case atStart => exact ⟨0, Nat.zero_le _, rfl, Fr.refl _ _⟩
  case round =>
    obtain ⟨k, hk, rfl, fwr⟩ := hrel
    replace r0 := fwr.cell' r0 (fun h => h)
    have l0 := lt_of_cell r0
    replace r1 := fwr.cell' r1 (fun h => h)
    replace q0 := fwr.cell' q0 (fun h => h)
    have frw := fr.trans fwr (fun _ _ h => h)
    by_cases hlt : k < m
    · have hlt' : k < L.length := by omega
      have hf := fits_any L k hlt' hL (.slice a L.length cap) wr (hv.kept frw)
      rw [hgood k hlt] at hf
      go_wp2_with fail
      refine hf.mono ?_
      clear hf
      rintro e w1 ⟨rfl, hb⟩
      have f1 := fwr.below hb
      clear hb r0 r1 q0
      go_wp2_with fail
      refine ⟨⟨k + 1, by omega, by go_num, f1⟩, by simp [intOf]; omega⟩
    · obtain rfl : k = m := by omega
      have f0 : wr.frozen? ⟨w.heap.size, 0, none⟩ = false := (fwr.frozen (p := ⟨w.heap.size, 0, none⟩) lW (fun h => h)).trans (fz 0)
      have f1 : wr.frozen? ⟨w.heap.size, 1, none⟩ = false := (fwr.frozen (p := ⟨w.heap.size, 1, none⟩) lW (fun h => h)).trans (fz 1)
      have hf := fits_any L k hm hL (.slice a L.length cap) wr (hv.kept frw)
      rw [hbad] at hf
      go_wp2_with fail
      refine hf.mono ?_
      clear hf
      rintro e w2 ⟨rfl, hb⟩
      have fr3 : Fr nob wr w2 := (Fr.refl nob wr).below hb
      have r03 := fr3.cell' r0 (fun h => h)
      have r13 := fr3.cell' r1 (fun h => h)
      have f03 := (fr3.frozen (p := ⟨w.heap.size, 0, none⟩) l0 (fun h => h)).trans f0
      have f13 := (fr3.frozen (p := ⟨w.heap.size, 1, none⟩) l0 (fun h => h)).trans f1
      have frA := frw.trans fr3 (fun _ _ h => h)
      clear r0 r1 f0 f1 q0 hb
      go_wp2_with fail
      refine bodyPost_ret (v := .tuple #[dval .F, .int .i64 4]) (by simp [results, Try.results6, go_sem, r03, r13, dval]; exact ⟨rfl, rfl⟩) rfl ⟨rfl, ?_⟩
      exact ((frA.set1 (Nat.le_refl _) _).set1 (Nat.le_refl _) _).to_below (Nat.le_refl _) (fun _ h => h.elim)

set_option maxRecDepth 100000 in
set_option maxHeartbeats 2000000 in
/-- Of, where the root is out of range -/
theorem Of_range (L : List Dec) (hval : validL L) (hL : L.length ≤ 65536) (r : Int) (hr : r < 0 ∨ (L.length : Int) + 1 < r) (v : Value) (w : World) (hv : LRow w v L) :
    Calls Try.prog 6 #[v, .int .i64 r] w fun e w' => e = .returned (.tuple #[dval .F, .int .i64 3]) ∧ Below w.heap.size w w' := by
  obtain ⟨a, cap, rfl⟩ := hv.form
  have r0 : (w.alloc (.cells #[.int .u32 0, .string ⟨#[]⟩] 31)).cell? ⟨w.heap.size, 0, none⟩ = some (.int .u32 0) := World.cell?_alloc_at _ _ _ _ (by simp)
  have r1 : (w.alloc (.cells #[.int .u32 0, .string ⟨#[]⟩] 31)).cell? ⟨w.heap.size, 1, none⟩ = some (.string ⟨#[]⟩) := World.cell?_alloc_at _ _ _ _ (by simp)
  replace r0 := cell_alloc_l r0 (.cells #[.slice a L.length cap] 51)
  replace r1 := cell_alloc_l r1 (.cells #[.slice a L.length cap] 51)
  have q0 := one_cell (w.alloc (.cells #[.int .u32 0, .string ⟨#[]⟩] 31)) (.slice a L.length cap) 51
  simp only [World.size_alloc] at q0
  have fr : Fr nob w ((w.alloc (.cells #[.int .u32 0, .string ⟨#[]⟩] 31)).alloc (.cells #[.slice a L.length cap] 51)) := ((Fr.refl nob w).alloc _).alloc _
  have fz : ∀ o, ((w.alloc (.cells #[.int .u32 0, .string ⟨#[]⟩] 31)).alloc (.cells #[.slice a L.length cap] 51)).frozen? ⟨w.heap.size, o, none⟩ = false := fun o => by
    have h1 : (w.alloc (.cells #[.int .u32 0, .string ⟨#[]⟩] 31)).frozen? ⟨w.heap.size, o, none⟩ = false := World.frozen?_alloc_at _ _ _ _ (by simp)
    exact (((Fr.refl nob _).alloc _).frozen (p := ⟨w.heap.size, o, none⟩) (by simp) (fun h => h)).trans h1
  go_enter Try.func6, Try.ntmps6
  go_wp2_with fail
  generalize ((w.alloc (.cells #[.int .u32 0, .string ⟨#[]⟩] 31)).alloc (.cells #[.slice a L.length cap] 51)) = W0 at *
  have lW : w.heap.size < W0.heap.size := lt_of_cell r0
  go_loopw [16] (fun kv wr => ∃ k : Nat, k ≤ L.length ∧ kv = kk k ∧ Fr nob W0 wr) (fun kv _ => L.length - (intOf kv).toNat)
  case atStart => exact ⟨0, Nat.zero_le _, rfl, Fr.refl _ _⟩
  case round =>
    obtain ⟨k, hk, rfl, fwr⟩ := hrel
    replace r0 := fwr.cell' r0 (fun h => h)
    have l0 := lt_of_cell r0
    replace r1 := fwr.cell' r1 (fun h => h)
    replace q0 := fwr.cell' q0 (fun h => h)
    have frw := fr.trans fwr (fun _ _ h => h)
    by_cases hlt : k < L.length
    · have hf := fits_any L k hlt hL (.slice a L.length cap) wr (hv.kept frw)
      rw [hval k hlt] at hf
      go_wp2_with fail
      refine hf.mono ?_
      clear hf
      rintro e w1 ⟨rfl, hb⟩
      have f1 := fwr.below hb
      clear hb r0 r1 q0
      go_wp2_with fail
      refine ⟨⟨k + 1, by omega, by go_num, f1⟩, by simp [intOf]; omega⟩
    · obtain rfl : k = L.length := by omega
      have f0 : wr.frozen? ⟨w.heap.size, 0, none⟩ = false := (fwr.frozen (p := ⟨w.heap.size, 0, none⟩) lW (fun h => h)).trans (fz 0)
      have f1 : wr.frozen? ⟨w.heap.size, 1, none⟩ = false := (fwr.frozen (p := ⟨w.heap.size, 1, none⟩) lW (fun h => h)).trans (fz 1)
      have frA := frw
      by_cases hr0 : r < 0
      · go_wp2_with fail
        refine bodyPost_ret (v := .tuple #[dval .F, .int .i64 3]) (by simp [results, Try.results6, go_sem, r0, r1, dval]; exact ⟨rfl, rfl⟩) rfl ⟨rfl, ?_⟩
        exact ((frA.set1 (Nat.le_refl _) _).set1 (Nat.le_refl _) _).to_below (Nat.le_refl _) (fun _ h => h.elim)
      · have hr1 : (L.length : Int) + 1 < r := by omega
        clear hr
        go_wp2_with fail
        refine bodyPost_ret (v := .tuple #[dval .F, .int .i64 3]) (by simp [results, Try.results6, go_sem, r0, r1, dval]; exact ⟨rfl, rfl⟩) rfl ⟨rfl, ?_⟩
        exact ((frA.set1 (Nat.le_refl _) _).set1 (Nat.le_refl _) _).to_below (Nat.le_refl _) (fun _ h => h.elim)
end Go.Proofs.Ytingidbhmbgigaa
