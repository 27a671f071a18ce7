import Derived.Test.YtalnhlebgofiiaaGreatDoorWork
import Derived.Lib.EndianBits
import Derived.Deep.RegionWith
import Derived.Test.YtalnhlebgofiiaaGreatDoorGrowT
import Derived.Test.YtalnhlebgofiiaaGreatDoorRule
namespace Go.Proofs.YtalnhlebgofiiaaGreatDoor
open Go.RowKit
open Bd

theorem join3 (a b c : Nat) (ha : a < 256) (hb : b < 256) (hc : c < 256) :
    bits BinOp.or IntKind.u32 (bits BinOp.or IntKind.u32 ((a : Int) % 4294967296) ((b : Int) % 4294967296 * 256 % 4294967296)) ((c : Int) % 4294967296 * 65536 % 4294967296) = ((a + 256 * b + 65536 * c : Nat) : Int) := by
  have e1 : (a : Int) % 4294967296 = a := by omega
  have e2 : (b : Int) % 4294967296 * 256 % 4294967296 = 256 * b := by omega
  have e3 : (c : Int) % 4294967296 * 65536 % 4294967296 = 65536 * c := by omega
  have h1 := u32_or8 (a : Int) (256 * (b : Int)) (by omega) (by omega) (by omega) (by omega) (by omega)
  have h2 := u32_or16 ((a : Int) + 256 * b) (65536 * (c : Int)) (by omega) (by omega) (by omega) (by omega) (by omega)
  rw [e1, e2, e3, h1, h2]
  omega

/-- the number that a string's first three bytes write -/
def rp (s : ByteArray) : Nat := (s.data.toList.getD 0 0).toNat + 256 * (s.data.toList.getD 1 0).toNat + 65536 * (s.data.toList.getD 2 0).toNat

theorem rp_b3 {s : ByteArray} {p : Nat} (hp : p < 16777216) (hs : s.data.toList.take 3 = b3 p) : rp s = p := by
  have h : ∀ i, i < 3 → s.data.toList.getD i 0 = (b3 p).getD i 0 := fun i hi => by
    rw [← hs, List.getD, List.getD, List.getElem?_take, if_pos hi]
  unfold rp
  rw [h 0 (by omega), h 1 (by omega), h 2 (by omega)]
  exact b3_val hp

set_option maxRecDepth 100000 in
set_option maxHeartbeats 400000 in
theorem readPlace_any (s : ByteArray) (w : World) (hsz : 3 ≤ s.size) (hm : s.size ≤ maxLen) :
    Calls Tryz.prog 105 #[.string s] w fun e w' => e = .returned (.int .u32 (rp s : Int)) ∧ ∃ n, w' = w.drewN n := by
  unfold maxLen at hm
  have h0 : 0 < s.size := by omega
  have h1 : 1 < s.size := by omega
  have h2 : 2 < s.size := by omega
  have hj := join3 s[0].toNat s[1].toNat s[2].toNat s[0].toNat_lt s[1].toNat_lt s[2].toNat_lt
  have hv : s[0].toNat + 256 * s[1].toNat + 65536 * s[2].toNat = rp s := by
    have e : ∀ i (h : i < s.size), s.data.toList.getD i 0 = s[i] := fun i h => by
      rw [List.getD, List.getElem?_eq_getElem (by simpa using h)]; simp; rfl
    unfold rp
    rw [e 0 h0, e 1 h1, e 2 h2]
  rw [hv] at hj
  have Hj := Lib.hid hj
  clear hj hv
  have i0 : (0 : Int) < (s.size : Int) := by omega
  have i1 : (1 : Int) < (s.size : Int) := by omega
  have i2 : (2 : Int) < (s.size : Int) := by omega
  go_enter Tryz.func105, Tryz.ntmps105
  go_wp2
  go_quiet (fail)
  go_wp2
  go_ret
  refine ⟨?_, _, rfl⟩
  rw [← Hj.out]
  rfl

theorem rows_ext {s : ByteArray} {rs : List (Nat × Nat × Nat)} {k : Nat} {r : Nat × Nat × Nat} (hs : s.data.toList = code rs) (hk : rs[k]? = some r) : ((s.extract (k * 7) (7 * rs.length)).extract 0 7).data.toList = rowCode r := by
  have hkl : k < rs.length := (List.getElem?_eq_some_iff.1 hk).1
  have e1 : (s.extract (k * 7) (7 * rs.length)).data.toList = ((code rs).drop (k * 7)).take (7 * rs.length - k * 7) := by
    rw [ByteArray.data_extract, Array.toList_extract, hs, List.extract_eq_take_drop]
  rw [ByteArray.data_extract, Array.toList_extract, List.extract_eq_take_drop, e1]
  apply List.ext_getElem?
  intro j
  simp only [List.getElem?_take, List.getElem?_drop, Nat.zero_add, Nat.sub_zero]
  by_cases hj : j < 7
  · rw [if_pos (by omega), if_pos (by omega), ← code_at hk j hj]
    congr 1; omega
  · rw [if_neg (by omega), List.getElem?_eq_none (by rw [rowCode_length]; omega)]

theorem row_parts {T : ByteArray} {r : Nat × Nat × Nat} (hT : T.data.toList = rowCode r) (hr : r.1 < 256 ∧ r.2.1 < 16777216 ∧ r.2.2 < 16777216) (_hTs : T.size = 7) (h0 : 0 < T.size) : T[0].toNat = r.1 ∧ rp (T.extract 1 7) = r.2.1 ∧ rp (T.extract 4 7) = r.2.2 := by
  have e0 : T[0] = UInt8.ofNat r.1 := by
    have h : T.data.toList[0]? = some (UInt8.ofNat r.1) := by rw [hT]; rfl
    rw [List.getElem?_eq_getElem (by simpa using h0)] at h
    simp at h
    exact h
  have e : ∀ a, (T.extract a 7).data.toList = (rowCode r).drop a := fun a => by
    rw [ByteArray.data_extract, Array.toList_extract, hT, List.extract_eq_take_drop, List.take_of_length_le (by simp [rowCode_length])]
  refine ⟨?_, rp_b3 hr.2.1 ?_, rp_b3 hr.2.2 ?_⟩
  · rw [e0]; simp only [UInt8.toNat_ofNat']; omega
  · rw [e]; rfl
  · rw [e]; rfl

set_option maxRecDepth 100000 in
set_option maxHeartbeats 400000 in
theorem at_small (d : Value) (p : Nat) (q : Nat) (s : ByteArray) (w : World) (hd : d = .agg #[.int .u32 (q : Int), .string s]) (hp : p < 2) :
    Calls Tryz.prog 58 #[d, .int .u32 (p : Int)] w fun e w' => e = .returned (nk (24, p, p)) ∧ Below w.heap.size w w' := by
  subst hd
  have hp' : (p : Int) < 2 := by omega
  go_enter Tryz.func58, Tryz.ntmps58
  go_wp2
  refine bodyPost_ret (v := nk (24, p, p)) (by simp [results, Tryz.results58, go_sem, nk]) rfl ⟨rfl, ((Below.refl _ _).alloc (Nat.le_refl _) _).alloc (by simp) _⟩

set_option maxRecDepth 100000 in
set_option maxHeartbeats 400000 in
theorem at_row (d : Value) (k : Nat) (q : Nat) (s : ByteArray) (rs : List (Nat × Nat × Nat)) (r : Nat × Nat × Nat) (w : World) (hd : d = .agg #[.int .u32 (q : Int), .string s]) (hs : s.data.toList = code rs) (hk : rs[k]? = some r) (hn : rs.length < 2097152)
    (hr : r.1 < 256 ∧ r.2.1 < 16777216 ∧ r.2.2 < 16777216) :
    Calls Tryz.prog 58 #[d, .int .u32 ((k + 2 : Nat) : Int)] w fun e w' => e = .returned (nk r) ∧ Below w.heap.size w w' := by
  subst hd
  have hkl : k < rs.length := (List.getElem?_eq_some_iff.1 hk).1
  have hsz : s.size = 7 * rs.length := by rw [← code_length, ← hs]; simp
  go_enter Tryz.func58, Tryz.ntmps58
  go_wp2
  have hT := rows_ext hs hk
  generalize (s.extract (k * 7) (7 * rs.length)).extract 0 7 = T at *
  have hTs : T.size = 7 := by have := congrArg List.length hT; simpa [rowCode_length] using this
  have hT0 : 0 < T.size := by omega
  have iT0 : (0 : Int) < (T.size : Int) := by omega
  have hr' := Lib.hid hr
  have HT := Lib.hid hT
  clear hT hr hs hk
  go_region_with (go_at_call 105; refine (readPlace_any _ _ ?_ ?_).mono ?_; (simp; omega); (unfold maxLen; simp; omega); rintro e w' ⟨rfl, n', rfl⟩)
  all_goals go_wp2
  all_goals
    refine bodyPost_ret (v := .agg #[.int .u8 (T[0].toNat : Int), .int .u32 (rp (T.extract 1 7) : Int), .int .u32 (rp (T.extract 4 7) : Int)]) (by simp [results, Tryz.results58, go_sem]) rfl ⟨?_, ?_⟩
    · obtain ⟨q1, q2, q3⟩ := row_parts HT.out hr'.out hTs hT0
      rw [q1, q2, q3]; rfl
    · exact (((((((Fr.refl nob w).alloc _).alloc _).drewN _).setCell (p := ⟨w.heap.size + 1, 0, none⟩) (fun h => absurd h (by simp)) _).setCell (p := ⟨w.heap.size + 1, 1, none⟩) (fun h => absurd h (by simp)) _).setCell (p := ⟨w.heap.size + 1, 2, none⟩) (fun h => absurd h (by simp)) _).to_below (Nat.le_refl _) (fun _ h => h.elim)
end Go.Proofs.YtalnhlebgofiiaaGreatDoor
namespace Go.Proofs.YtalnhlebgofiiaaGreatDoor
open Go.RowKit
open Bd

/-- whether the chosen set is empty or full whatever else is fixed -/
def decidedN (k : Nat × Nat × Nat) : Nat × Bool :=
  if k.1 = 1 ∨ k.2.1 = k.2.2 then (k.2.1, decide (k.2.1 < 2)) else if k.1 = 0 then (k.2.2, decide (k.2.2 < 2)) else (0, false)
def plainN (k : Nat × Nat × Nat) : Nat × Nat × Nat :=
  if k.1 = 0 then (0, 0, k.2.2) else if k.1 = 1 then (1, k.2.1, 0) else k

theorem run_neq_nat (a b : Nat) : ((a : Int) == (b : Int)) = decide (a = b) := by
  by_cases h : a = b
  · simp [h]
  · have : ¬ ((a : Int) = (b : Int)) := by omega
    simp [h, this]

set_option maxRecDepth 100000 in
set_option maxHeartbeats 400000 in
theorem decided_any (a b c : Nat) (w : World) : Calls Tryz.prog 134 #[tk (a, b, c)] w fun e w' => e = .returned (.tuple #[.int .u32 ((decidedN (a, b, c)).1 : Int), .bool (decidedN (a, b, c)).2]) ∧ Below w.heap.size w w' := by
  have fin : ∀ n, Below w.heap.size w ((w.alloc (.cells #[.int .u32 (a : Int), .int .u32 (b : Int), .int .u32 (c : Int)] 153)).drewN n) := fun n => (((Fr.refl nob w).alloc _).drewN n).to_below (Nat.le_refl _) (fun _ h => h.elim)
  by_cases h1 : a = 1
  · subst h1
    have e : decidedN (1, b, c) = (b, decide (b < 2)) := by simp [decidedN]
    rw [e]
    go_enter Tryz.func134, Tryz.ntmps134
    go_wp2
    go_quiet (fail)
    go_wp2
    go_ret2
    exact ⟨by simp; omega, fin _⟩
  have n1 : ((a : Int) == 1) = false := by simp; omega
  by_cases h2 : b = c
  · subst h2
    have e : decidedN (a, b, b) = (b, decide (b < 2)) := by simp [decidedN]
    rw [e]
    go_enter Tryz.func134, Tryz.ntmps134
    go_wp2
    go_quiet (fail)
    go_wp2
    go_ret2
    exact ⟨by simp; omega, fin _⟩
  have n2 : ((b : Int) == (c : Int)) = false := by simp; omega
  by_cases h3 : a = 0
  · subst h3
    have e : decidedN (0, b, c) = (c, decide (c < 2)) := by simp [decidedN, h2]
    rw [e]
    clear n1
    go_enter Tryz.func134, Tryz.ntmps134
    go_wp2
    go_quiet (fail)
    go_wp2
    go_ret2
    exact ⟨by simp; omega, fin _⟩
  · have n3 : ((a : Int) == 0) = false := by simp; omega
    have e : decidedN (a, b, c) = (0, false) := by simp [decidedN, h1, h2, h3]
    rw [e]
    go_enter Tryz.func134, Tryz.ntmps134
    go_wp2
    go_ret2
    exact ⟨rfl, fin 0⟩

set_option maxRecDepth 100000 in
set_option maxHeartbeats 400000 in
theorem plain_any (a b c : Nat) (w : World) : Calls Tryz.prog 135 #[tk (a, b, c)] w fun e w' => e = .returned (tk (plainN (a, b, c))) ∧ Below w.heap.size w w' := by
  by_cases h0 : a = 0
  · subst h0
    have e : plainN (0, b, c) = (0, 0, c) := by simp [plainN]
    rw [e]
    go_enter Tryz.func135, Tryz.ntmps135
    go_wp2
    refine bodyPost_ret (v := tk (0, 0, c)) (by simp [results, Tryz.results135, go_sem]) rfl ⟨rfl, ?_⟩
    exact ((Below.refl _ _).alloc (Nat.le_refl _) _).alloc (by simp) _
  have n0 : ((a : Int) == 0) = false := by simp; omega
  by_cases h1 : a = 1
  · subst h1
    have e : plainN (1, b, c) = (1, b, 0) := by simp [plainN]
    rw [e]
    clear n0
    go_enter Tryz.func135, Tryz.ntmps135
    go_wp2
    refine bodyPost_ret (v := tk (1, b, 0)) (by simp [results, Tryz.results135, go_sem]) rfl ⟨rfl, ?_⟩
    exact ((Below.refl _ _).alloc (Nat.le_refl _) _).alloc (by simp) _
  · have n1 : ((a : Int) == 1) = false := by simp; omega
    have e : plainN (a, b, c) = (a, b, c) := by simp [plainN, h0, h1]
    rw [e]
    go_enter Tryz.func135, Tryz.ntmps135
    go_wp2
    refine bodyPost_ret (v := tk (a, b, c)) (by simp [results, Tryz.results135, go_sem]) rfl ⟨rfl, ?_⟩
    exact ((Below.refl _ _).alloc (Nat.le_refl _) _).alloc (by simp) _
end Go.Proofs.YtalnhlebgofiiaaGreatDoor
