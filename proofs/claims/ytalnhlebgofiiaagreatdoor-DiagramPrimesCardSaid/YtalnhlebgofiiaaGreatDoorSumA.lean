import Derived.Test.YtalnhlebgofiiaaGreatDoorSem
import Derived.Test.YtalnhlebgofiiaaGreatDoorExi
namespace Go.Proofs.YtalnhlebgofiiaaGreatDoor
open Go.RowKit
namespace Bd

/-- what the last n features cost in a configuration -/
def costN (cw : Nat → Int) : Nat → Cfg → Int
  | 0, _ => 0
  | n + 1, c => (if c (23 - n) then cw (23 - n) else 0) + costN cw n c
theorem costN_succ (cw : Nat → Int) (n : Nat) (c : Cfg) : costN cw (n + 1) c = (if c (23 - n) then cw (23 - n) else 0) + costN cw n c := rfl
theorem costN_agree (cw : Nat → Int) : ∀ (n : Nat) (c d : Cfg), n ≤ 24 → (∀ j, 24 - n ≤ j → j < 24 → c j = d j) → costN cw n c = costN cw n d
  | 0, _, _, _, _ => rfl
  | n + 1, c, d, hn, h => by
    unfold costN
    rw [costN_agree cw n c d (by omega) (fun j h1 h2 => h j (by omega) h2), h (23 - n) (by omega) (by omega)]
theorem costN_bound (cw : Nat → Int) (M : Int) (hM : 0 ≤ M) (hcw : ∀ j, -M ≤ cw j ∧ cw j ≤ M) : ∀ (n : Nat) (c : Cfg), -(n * M) ≤ costN cw n c ∧ costN cw n c ≤ n * M
  | 0, _ => by simp [costN]
  | n + 1, c => by
    have ih := costN_bound cw M hM hcw n c
    have h := hcw (23 - n)
    unfold costN
    have e : ((n + 1 : Nat) : Int) * M = n * M + M := by rw [Int.natCast_add, Int.add_mul]; simp
    rw [e]
    split <;> omega

/-- the set of the configurations whose last n features bring the sum s into the bounds -/
noncomputable def costB (cw : Nat → Int) (lo hi : Int) (n : Nat) (s : Int) : B := can fun c => decide (lo ≤ s + costN cw n c) && decide (s + costN cw n c ≤ hi)
theorem ok_costB0 (cw : Nat → Int) (lo hi : Int) (n : Nat) (s : Int) : (costB cw lo hi n s).ok 0 := ok_can _
theorem ok_costB (cw : Nat → Int) (lo hi : Int) {n : Nat} (hn : n ≤ 24) (s : Int) : (costB cw lo hi n s).ok (24 - n) :=
  ok_can_of (by omega) fun c d h => by simp only [costN_agree cw n c d hn h]
theorem ev_costB (cw : Nat → Int) (lo hi : Int) {n : Nat} (hn : n ≤ 24) (s : Int) (c : Cfg) : (costB cw lo hi n s).ev c = (decide (lo ≤ s + costN cw n c) && decide (s + costN cw n c ≤ hi)) := by
  unfold costB
  rw [ev_can, costN_agree cw n (cut c) c hn (fun j _ h => by simp [cut, h])]
theorem costB_zero (cw : Nat → Int) (lo hi s : Int) : costB cw lo hi 0 s = if lo ≤ s ∧ s ≤ hi then .T else .F := by
  refine eq_of_ev (ok_costB0 _ _ _ _ _) (by split <;> trivial) fun c => ?_
  rw [ev_costB cw lo hi (Nat.zero_le _)]
  by_cases h1 : lo ≤ s <;> by_cases h2 : s ≤ hi <;> simp [costN, h1, h2, B.ev]
theorem costB_succ (cw : Nat → Int) (lo hi : Int) {n : Nat} (hn : n < 24) (s : Int) : costB cw lo hi (n + 1) s = mk (23 - n) (costB cw lo hi n s) (costB cw lo hi n (s + cw (23 - n))) := by
  have o : ∀ s, (costB cw lo hi n s).ok (23 - n + 1) := fun s => (ok_costB cw lo hi (by omega : n ≤ 24) s).mono (by omega)
  refine eq_of_ev (ok_costB0 _ _ _ _ _) ((ok_mk (by omega) (o _) (o _)).mono (Nat.zero_le _)) fun c => ?_
  rw [ev_mk, ev_costB cw lo hi (by omega), ev_costB cw lo hi (by omega), ev_costB cw lo hi (by omega)]
  rw [costN_succ]
  split
  · rw [Int.add_assoc]
  · rw [Int.zero_add]

/-- a span: the sums from l to h give one set -/
def SpanOk (cw : Nat → Int) (lo hi : Int) (n : Nat) (l h : Int) (t : B) : Prop := ∀ s, l ≤ s → s ≤ h → costB cw lo hi n s = t
theorem span_low (cw : Nat → Int) (lo hi l : Int) : SpanOk cw lo hi 0 l (lo - 1) .F := fun s _ h => by rw [costB_zero, if_neg (by omega)]
theorem span_high (cw : Nat → Int) (lo hi h : Int) : SpanOk cw lo hi 0 (hi + 1) h .F := fun s h _ => by rw [costB_zero, if_neg (by omega)]
theorem span_mid (cw : Nat → Int) (lo hi : Int) : SpanOk cw lo hi 0 lo hi .T := fun s h1 h2 => by rw [costB_zero, if_pos ⟨h1, h2⟩]
theorem span_node {cw : Nat → Int} {lo hi : Int} {n : Nat} (hn : n < 24) {l0 h0 l1 h1 : Int} {t0 t1 : B} (a : SpanOk cw lo hi n l0 h0 t0) (b : SpanOk cw lo hi n l1 h1 t1) :
    SpanOk cw lo hi (n + 1) (max l0 (l1 - cw (23 - n))) (min h0 (h1 - cw (23 - n))) (mk (23 - n) t0 t1) := fun s h2 h3 => by
  rw [costB_succ cw lo hi hn, a s (by omega) (by omega), b (s + cw (23 - n)) (by omega) (by omega)]

/-- a bound, brought nearer -/
def nearN (b : Int) : Int := min (max b (-1099511627776)) 1099511627776
theorem costB_near (cw : Nat → Int) (hcw : ∀ j, -2147483648 ≤ cw j ∧ cw j ≤ 2147483648) (lo hi : Int) : costB cw (nearN lo) (nearN hi) 24 0 = costB cw lo hi 24 0 := by
  refine eq_of_ev (ok_costB0 _ _ _ _ _) (ok_costB0 _ _ _ _ _) fun c => ?_
  rw [ev_costB cw _ _ (Nat.le_refl _), ev_costB cw _ _ (Nat.le_refl _)]
  have h := costN_bound cw 2147483648 (by omega) hcw 24 c
  generalize costN cw 24 c = x at *
  have e1 : decide (nearN lo ≤ 0 + x) = decide (lo ≤ 0 + x) := by unfold nearN; apply decide_eq_decide.2; omega
  have e2 : decide (0 + x ≤ nearN hi) = decide (0 + x ≤ hi) := by unfold nearN; apply decide_eq_decide.2; omega
  rw [e1, e2]
theorem costB_far_low (cw : Nat → Int) (hcw : ∀ j, -2147483648 ≤ cw j ∧ cw j ≤ 2147483648) (hi : Int) (c : Cfg) : (costB cw (-1099511627776) hi 24 0).ev c = decide (costN cw 24 c ≤ hi) := by
  rw [ev_costB cw _ _ (Nat.le_refl _)]
  have h := costN_bound cw 2147483648 (by omega) hcw 24 c
  generalize costN cw 24 c = x at *
  rw [show decide ((-1099511627776 : Int) ≤ 0 + x) = true by apply decide_eq_true; omega]; simp
theorem costB_far_high (cw : Nat → Int) (hcw : ∀ j, -2147483648 ≤ cw j ∧ cw j ≤ 2147483648) (lo : Int) (c : Cfg) : (costB cw lo 1099511627776 24 0).ev c = decide (lo ≤ costN cw 24 c) := by
  rw [ev_costB cw _ _ (Nat.le_refl _)]
  have h := costN_bound cw 2147483648 (by omega) hcw 24 c
  generalize costN cw 24 c = x at *
  rw [show decide (0 + x ≤ (1099511627776 : Int)) = true by apply decide_eq_true; omega]; simp
end Bd
end Go.Proofs.YtalnhlebgofiiaaGreatDoor
namespace Go.Proofs.YtalnhlebgofiiaaGreatDoor
open Go.RowKit
open Bd

set_option maxRecDepth 100000 in
set_option maxHeartbeats 400000 in
theorem nearer_any (b : Int) (w : World) : Calls Tryz.prog 138 #[.int .i64 b] w fun e w' => e = .returned (.int .i64 (nearN b)) ∧ w' = w := by
  go_enter Tryz.func138, Tryz.ntmps138
  go_wp2_with fail
  all_goals
    go_ret
    refine ⟨?_, rfl⟩
    first | rfl | (refine congrArg (fun x : Int => Ending.returned (.int .i64 x)) ?_; unfold nearN; omega) | (refine congrArg (fun x : Int => Ending.returned (.int .i64 x)) ?_; unfold nearN; split at * <;> omega)

/-- a span's value -/
abbrev spv (l h : Int) (p : Nat) : Value := .agg #[.int .i64 l, .int .i64 h, .int .u32 (p : Int)]
def cmpN (l h s : Int) : Int := if h < s then -1 else if s < l then 1 else 0
set_option maxRecDepth 100000 in
set_option maxHeartbeats 400000 in
theorem compare_any (l h s : Int) (p : Nat) (w : World) : Calls Tryz.prog 149 #[spv l h p, .int .i64 s] w fun e w' => e = .returned (.int .i64 (cmpN l h s)) ∧ Below w.heap.size w w' := by
  have c0 : (w.alloc (.cells #[.int .i64 l, .int .i64 h, .int .u32 (p : Int)] 192)).cell? ⟨w.heap.size, 0, none⟩ = some (.int .i64 l) := World.cell?_alloc_at _ _ _ _ (by simp)
  have c1 : (w.alloc (.cells #[.int .i64 l, .int .i64 h, .int .u32 (p : Int)] 192)).cell? ⟨w.heap.size, 1, none⟩ = some (.int .i64 h) := World.cell?_alloc_at _ _ _ _ (by simp)
  have fr : Fr nob w (w.alloc (.cells #[.int .i64 l, .int .i64 h, .int .u32 (p : Int)] 192)) := (Fr.refl nob w).alloc _
  by_cases h1 : h < s
  · have e : cmpN l h s = -1 := by unfold cmpN; rw [if_pos h1]
    rw [e]
    go_enter Tryz.func149, Tryz.ntmps149
    go_wp2_with fail
    go_ret
    exact ⟨rfl, fr.to_below (Nat.le_refl _) (fun _ h => h.elim)⟩
  · by_cases h2 : s < l
    · have e : cmpN l h s = 1 := by unfold cmpN; rw [if_neg h1, if_pos h2]
      rw [e]
      go_enter Tryz.func149, Tryz.ntmps149
      go_wp2_with fail
      go_ret
      exact ⟨rfl, fr.to_below (Nat.le_refl _) (fun _ h => h.elim)⟩
    · have e : cmpN l h s = 0 := by unfold cmpN; rw [if_neg h1, if_neg h2]
      rw [e]
      go_enter Tryz.func149, Tryz.ntmps149
      go_wp2_with fail
      go_ret
      exact ⟨rfl, fr.to_below (Nat.le_refl _) (fun _ h => h.elim)⟩

/-- what 'end' answers -/
def endN (lo hi s : Int) : Int × Int × Nat := if s < lo then (-2199023255552, lo - 1, 0) else if hi < s then (hi + 1, 2199023255552, 0) else (lo, hi, 1)
set_option maxRecDepth 100000 in
set_option maxHeartbeats 1000000 in
theorem end_any (sb : Nat) (lo hi s : Int) (hlo : -1099511627776 ≤ lo ∧ lo ≤ 1099511627776) (hhi : -1099511627776 ≤ hi ∧ hi ≤ 1099511627776) (w : World) (c0 : w.cell? ⟨sb, 25, none⟩ = some (.int .i64 lo)) (c1 : w.cell? ⟨sb, 26, none⟩ = some (.int .i64 hi)) :
    Calls Tryz.prog 147 #[.pointer (some ⟨sb, 0, none⟩), .int .i64 s] w fun e w' => e = .returned (spv (endN lo hi s).1 (endN lo hi s).2.1 (endN lo hi s).2.2) ∧ Below w.heap.size w w' := by
  have c0' := cell_alloc_l c0 (.cells #[.int .i64 0, .int .i64 0, .int .u32 0] 192)
  have c1' := cell_alloc_l c1 (.cells #[.int .i64 0, .int .i64 0, .int .u32 0] 192)
  obtain ⟨z0, z1, z2, zf⟩ := block3 (heap_alloc_new w (.cells #[.int .i64 0, .int .i64 0, .int .u32 0] 192))
  have zf0 := zf 0
  have zf1 := zf 1
  have zf2 := zf 2
  have fr : Fr nob w (w.alloc (.cells #[.int .i64 0, .int .i64 0, .int .u32 0] 192)) := (Fr.refl nob w).alloc _
  by_cases h1 : s < lo
  · have e : endN lo hi s = (-2199023255552, lo - 1, 0) := by unfold endN; rw [if_pos h1]
    rw [e]
    clear c0 c1 zf
    go_enter Tryz.func147, Tryz.ntmps147
    go_wp2_with fail
    refine bodyPost_ret (v := spv (-2199023255552) (lo - 1) 0) (by simp [results, Tryz.results147, go_sem]) rfl ⟨rfl, ?_⟩
    exact ((Fr.refl nob w).alloc _).to_below (Nat.le_refl _) (fun _ h => h.elim)
  · by_cases h2 : hi < s
    · have e : endN lo hi s = (hi + 1, 2199023255552, 0) := by unfold endN; rw [if_neg h1, if_pos h2]
      rw [e]
      clear c0 c1 zf
      go_enter Tryz.func147, Tryz.ntmps147
      go_wp2_with fail
      refine bodyPost_ret (v := spv (hi + 1) 2199023255552 0) (by simp [results, Tryz.results147, go_sem]) rfl ⟨rfl, ?_⟩
      exact ((Fr.refl nob w).alloc _).to_below (Nat.le_refl _) (fun _ h => h.elim)
    · have e : endN lo hi s = (lo, hi, 1) := by unfold endN; rw [if_neg h1, if_neg h2]
      rw [e]
      clear c0 c1 zf
      go_enter Tryz.func147, Tryz.ntmps147
      go_wp2_with fail
      go_region
      go_wp2_with fail
      refine bodyPost_ret (v := spv lo hi 1) (by simp [results, Tryz.results147, go_sem]) rfl ⟨rfl, ?_⟩
      exact ((Fr.refl nob w).alloc _).drew.to_below (Nat.le_refl _) (fun _ h => h.elim)
end Go.Proofs.YtalnhlebgofiiaaGreatDoor
namespace Go.Proofs.YtalnhlebgofiiaaGreatDoor
open Go.RowKit
open Bd

abbrev Span := Int × Int × Nat
/-- a list of spans, read off memory -/
def SpRow (w : World) (v : Value) (L : List Span) : Prop := ∃ (a : Option Addr) (cap : Nat), v = .slice a L.length cap ∧ ∀ (k : Nat) (x : Span), L[k]? = some x → ∃ b, a = some ⟨b, 0, none⟩ ∧ w.cell? ⟨b, k * 3, none⟩ = some (.int .i64 x.1) ∧ w.cell? ⟨b, k * 3 + 1, none⟩ = some (.int .i64 x.2.1) ∧ w.cell? ⟨b, k * 3 + 2, none⟩ = some (.int .u32 (x.2.2 : Int))
theorem SpRow.kept {w w' : World} {v : Value} {L : List Span} (h : SpRow w v L) (f : Fr nob w w') : SpRow w' v L := by
  obtain ⟨a, cap, rfl, hc⟩ := h
  refine ⟨a, cap, rfl, fun k d hd => ?_⟩
  obtain ⟨b, h1, h2, h3, h4⟩ := hc k d hd
  exact ⟨b, h1, f.cell' h2 (fun h => h), f.cell' h3 (fun h => h), f.cell' h4 (fun h => h)⟩
theorem SpRow.form {w : World} {v : Value} {L : List Span} (h : SpRow w v L) : ∃ a cap, v = .slice a L.length cap := by
  obtain ⟨a, cap, e, _⟩ := h; exact ⟨a, cap, e⟩
theorem SpRow.at {w : World} {a : Option Addr} {n cap : Nat} {L : List Span} (h : SpRow w (.slice a n cap) L) {k : Nat} {x : Span} (hd : L[k]? = some x) : ∃ b, a = some ⟨b, 0, none⟩ ∧ w.cell? ⟨b, k * 3, none⟩ = some (.int .i64 x.1) ∧ w.cell? ⟨b, k * 3 + 1, none⟩ = some (.int .i64 x.2.1) ∧ w.cell? ⟨b, k * 3 + 2, none⟩ = some (.int .u32 (x.2.2 : Int)) := by
  obtain ⟨a', cap', e, hc⟩ := h
  cases e
  exact hc k x hd
theorem cmpN_zero {l h s : Int} (e : cmpN l h s = 0) : l ≤ s ∧ s ≤ h := by
  unfold cmpN at e
  split at e
  · omega
  · split at e
    · omega
    · omega

set_option maxRecDepth 100000 in
set_option maxHeartbeats 2000000 in
/-- the search: an index of the list or its length; what is found holds the sum -/
theorem search_any (L : List Span) (hL : L.length ≤ 1073741824) (s : Int) (v : Value) (w : World) (hv : SpRow w v L) :
    Calls Tryz.prog 148 #[v, .int .i64 s, .func (.func 149) #[] #[]] w fun e w' =>
      (∃ (k : Nat) (b : Bool), e = .returned (.tuple #[.int .i64 (k : Int), .bool b]) ∧ k ≤ L.length ∧ (b = true → ∃ x, L[k]? = some x ∧ x.1 ≤ s ∧ s ≤ x.2.1)) ∧ Below w.heap.size w w' := by
  obtain ⟨a, cap, rfl⟩ := hv.form
  go_enter Tryz.func148, Tryz.ntmps148
  go_wp2_with fail
  go_loopw [9, 10] (fun iv jv wr => ∃ i j : Nat, iv = .int .i64 (i : Int) ∧ jv = .int .i64 (j : Int) ∧ i ≤ j ∧ j ≤ L.length ∧ Fr nob w wr) (fun iv jv _ => (intOf jv).toNat - (intOf iv).toNat)
  case atStart => exact ⟨0, L.length, rfl, rfl, Nat.zero_le _, Nat.le_refl _, Fr.refl _ _⟩
  case round =>
    obtain ⟨i, j, rfl, rfl, hij, hj, fr⟩ := hrel
    by_cases hlt : i < j
    · have hlt' : (i : Int) < (j : Int) := by omega
      have hm : (i + j) / 2 < L.length := by omega
      have hd : L[(i + j) / 2]? = some L[(i + j) / 2] := by simp [hm]
      obtain ⟨b, rfl, c0, c1, c2⟩ := (hv.kept fr).at hd
      generalize hx : L[(i + j) / 2] = x at *
      go_wp2_with fail
      refine (compare_any x.1 x.2.1 s x.2.2 _).mono ?_
      rintro e w3 ⟨rfl, hb3⟩
      have fr3 := (fr.trans ((Fr.refl nob _).below hb3) (fun _ _ h => h))
      clear hb3 c0 c1 c2
      by_cases hc : cmpN x.1 x.2.1 s < 0
      · go_wp2_with fail
        go_roundw
        case rel =>
          exact ⟨(i + j) / 2 + 1, j, by simp, rfl, by omega, hj, fr3⟩
        case measure =>
          simp only [intOf]; omega
      · go_wp2_with fail
        go_roundw
        case rel =>
          exact ⟨i, (i + j) / 2, rfl, by simp, by omega, by omega, fr3⟩
        case measure =>
          simp only [intOf]; omega
    · have e : i = j := by omega
      subst e
      by_cases hn : i < L.length
      · have hn' : (i : Int) < (L.length : Int) := by omega
        have hd : L[i]? = some L[i] := by simp [hn]
        obtain ⟨b, rfl, c0, c1, c2⟩ := (hv.kept fr).at hd
        generalize hx : L[i] = x at *
        go_wp2_with fail
        refine (compare_any x.1 x.2.1 s x.2.2 _).mono ?_
        rintro e w3 ⟨rfl, hb3⟩
        have fr3 := (fr.trans ((Fr.refl nob _).below hb3) (fun _ _ h => h))
        clear hb3 c0 c1 c2
        by_cases hc : cmpN x.1 x.2.1 s = 0
        · obtain ⟨k1, k2⟩ := cmpN_zero hc
          go_wp2_with fail
          go_ret2
          exact ⟨⟨i, true, rfl, by omega, fun _ => ⟨x, by rw [hd], k1, k2⟩⟩, fr3.to_below (Nat.le_refl _) (fun _ h => h.elim)⟩
        · have hc' : (cmpN x.1 x.2.1 s == 0) = false := by simpa using hc
          go_wp2_with fail
          go_ret2
          exact ⟨⟨i, false, rfl, by omega, fun h => by cases h⟩, fr3.to_below (Nat.le_refl _) (fun _ h => h.elim)⟩
      · have hn' : ¬ (i : Int) < (L.length : Int) := by omega
        go_wp2_with fail
        go_ret2
        exact ⟨⟨i, .inl ⟨rfl, by omega⟩⟩, fr.to_below (Nat.le_refl _) (fun _ h => h.elim)⟩
end Go.Proofs.YtalnhlebgofiiaaGreatDoor
