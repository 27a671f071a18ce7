import Derived.Laws.CopyRow
import Derived.Laws.CopyOwn
import Derived.Test.YtalnhlebgofiiaaGreatDoorSumA
import Derived.Maps.AppendAt
import Derived.Lib.AppendZeros
import Derived.Lib.Hide
import Derived.Lib.Overlaps
namespace Go.Proofs.YtalnhlebgofiiaaGreatDoor
open Go.RowKit

/-- copy, elements of K cells, into a row that is known whole -/
theorem run_copyK {P : Program} (w : World) (dT sT ty elem : TypeId) (K g o dLen dCap : Nat) (a : Addr) (sLen sCap : Nat) (cur : Array Value) (t : TypeId) (cs : List Value)
    (hu : P.underlying dT = some (.slice elem)) (hs : (P.info? elem).map (·.size) = some K)
    (hg : w.heap[g]? = some (.cells cur t (0, 0))) (hn : cs.length = Nat.min sLen dLen * K)
    (hsrc : ∀ j v, cs[j]? = some v → w.cell? (a.add j) = some v) (hfit : o + cs.length ≤ cur.size) (h1 : ∀ v ∈ cs, v.oneCell' = true) :
    (Builtin.copy_ #[dT, sT] ty #[.slice (some ⟨g, o, none⟩) dLen dCap, .slice (some a) sLen sCap]).run P w =
      .ok (goInt (Nat.min sLen dLen)) (w.setRow g (cur.toList.take o ++ cs ++ cur.toList.drop (o + cs.length)).toArray) := by
  have hl := run_loadCells_list (P := P) w a cs hsrc
  have hst := run_storeCells_at P g o t cs 0 cur w hg (by simpa using hfit) h1
  cases hq : P.info? elem with
  | none => simp [hq] at hs
  | some i =>
    have hi : i.size = K := by simpa [hq] using hs
    simp [Builtin.copy_, run_underlying hu, Builtin.lenOf, Builtin.firstCells, sizeOf, typeInfo, hq, hi, ← hn, hl, hst]
theorem wpList_copyK {P : Program} {w : World} {ops : Array Oper} {rest : List Oper} {o : Oper} {a : Act} {Q : Exit → Act → World → Prop} (hgd : o.guard = none) (d s : Operand) (dT sT : TypeId)
    (ho : o.op = .call { callee := .builtin .copy, args := #[d, s], argTypes := #[dT, sT] }) (elem : TypeId) (K : Nat) (hu : P.underlying dT = some (.slice elem)) (hsz : (P.info? elem).map (·.size) = some K)
    (g off dLen dCap : Nat) (ad : Addr) (sLen sCap : Nat) (hd : a.eval d = .slice (some ⟨g, off, none⟩) dLen dCap) (hs : a.eval s = .slice (some ad) sLen sCap)
    (cur : Array Value) (t : TypeId) (hg : w.heap[g]? = some (.cells cur t (0, 0))) (cs : List Value) (hn : cs.length = Nat.min sLen dLen * K)
    (hsrc : ∀ j v, cs[j]? = some v → w.cell? (ad.add j) = some v) (hfit : off + cs.length ≤ cur.size) (h1 : ∀ v ∈ cs, v.oneCell' = true)
    (h : wpList P ops Q rest (a.put o.dst (goInt (Nat.min sLen dLen))) (w.setRow g (cur.toList.take off ++ (cs ++ cur.toList.drop (off + cs.length))).toArray)) : wpList P ops Q (o :: rest) a w := by
  refine wpList_plain hgd fun K' hK => ?_
  have hrun := run_copyK (P := P) w dT sT o.type elem K g off dLen dCap ad sLen sCap cur t cs hu hsz hg hn hsrc hfit h1
  unfold Oper.wp
  simp [execOp, ho, resolve, invoke, builtin, hd, hs, hrun, Result.andThen]
  exact hK _ _ (by simpa using h)
theorem step_copyK {P : Program} {ops : Array Oper} {o : Oper} {a : Act} {w : World} {K' : Act → World → Prop} {Q : Exit → Act → World → Prop} {E : Prop} (hgd : o.guard = none) (d s : Operand) (dT sT : TypeId)
    (ho : o.op = .call { callee := .builtin .copy, args := #[d, s], argTypes := #[dT, sT] }) (elem : TypeId) (K : Nat) (hu : P.underlying dT = some (.slice elem)) (hsz : (P.info? elem).map (·.size) = some K)
    (g off dLen dCap : Nat) (ad : Addr) (sLen sCap : Nat) (hd : a.eval d = .slice (some ⟨g, off, none⟩) dLen dCap) (hs : a.eval s = .slice (some ad) sLen sCap)
    (cur : Array Value) (t : TypeId) (hg : w.heap[g]? = some (.cells cur t (0, 0))) (cs : List Value) (hn : cs.length = Nat.min sLen dLen * K)
    (hsrc : ∀ j v, cs[j]? = some v → w.cell? (ad.add j) = some v) (hfit : off + cs.length ≤ cur.size) (h1 : ∀ v ∈ cs, v.oneCell' = true)
    (h : K' (a.put o.dst (goInt (Nat.min sLen dLen))) (w.setRow g (cur.toList.take off ++ (cs ++ cur.toList.drop (off + cs.length))).toArray)) :
    if Region.wanted o (yielded ops a.tmps) = true then Oper.wp P o a w K' Q else E := by
  have hw : Region.wanted o (yielded ops a.tmps) = true := by simp [Region.wanted, hgd]
  rw [if_pos hw]
  have hrun := run_copyK (P := P) w dT sT o.type elem K g off dLen dCap ad sLen sCap cur t cs hu hsz hg hn hsrc hfit h1
  unfold Oper.wp
  simp [execOp, ho, resolve, invoke, builtin, hd, hs, hrun, Result.andThen]
  show K' _ _
  simpa using h

/-- append of n zero elements ('append(s, make(S, n)...)') that does not fit -/
theorem run_append_zerosK {P : Program} (w : World) (t tn ty e : TypeId) (i : TypeInfo) (z : Value) (q kn : IntKind) (ht : P.underlying t = some (.slice e)) (htn : P.underlying tn = some (.int kn)) (hi : P.info? e = some i) (hz : i.zero = some z)
    (b : Addr) (sLen sCap : Nat) (olds : List Value) (hlo : olds.length = sLen * i.size) (holds : ∀ j v, olds[j]? = some v → w.cell? (b.add j) = some v)
    (n : Nat) (hnz : n * i.size ≠ 0) (hg : sCap < sLen + n) (h63 : ((sLen + n : Nat) : Int) ≤ 9223372036854775807) (hb : n * i.bytes ≤ 281474976710656) (hfit : Builtin.nextslicecap (sLen + n) sCap * i.bytes ≤ 281474976710656) :
    (Builtin.append_ #[t, tn] ty #[.slice (some b) sLen sCap, .int q (n : Int)]).run P w =
      .ok (.slice (some ⟨w.heap.size, 0, none⟩) (sLen + n) (grownCap w (sLen + n) sCap e))
        (w.drew.alloc (.cells (olds.toArray ++ Builtin.zeroCells z.cells n ++ Builtin.zeroCells z.cells (grownCap w (sLen + n) sCap e - (sLen + n))) e)) := by
  have hw : IntKind.i64.wrap (n : Int) = n := by rw [IntKind.wrap_i64]; omega
  have hn : ¬ (sLen + n ≤ sCap) := by omega
  have hneg : ¬ ((n : Int) < 0) := by omega
  have h63' : ¬ (9223372036854775807 < ((sLen : Int) + (n : Int))) := by omega
  have h48' : ¬ (281474976710656 < Builtin.nextslicecap (sLen + n) sCap * i.bytes) := by omega
  have h48i : ¬ (281474976710656 < (n : Int) * (i.bytes : Int)) := by rw [← Int.natCast_mul]; omega
  have hfo := run_firstCells_some (P := P) w.drew i.size sLen b sLen sCap olds hlo (by simpa using holds)
  simp [Builtin.append_, run_underlying ht, run_underlying htn, sizeOf, typeInfo, zeroValue, hi, hz, asInt, asIntOf, hw, hneg, h48i, hn, h63', h48', Question.forced, hfo, newRow, grownCap]
  exact fun h => absurd h hnz
end Go.Proofs.YtalnhlebgofiiaaGreatDoor
namespace Go.Proofs.YtalnhlebgofiiaaGreatDoor
open Go.RowKit
open Bd

theorem info_span : (Tryz.prog.info? 192).map (fun i => (i.zero, i.size, i.bytes)) = some (some (.agg #[.int .i64 0, .int .i64 0, .int .u32 0]), 3, 24) := by kernel_rfl
/-- the cells of one span -/
abbrev spc (x : Span) : List Value := [.int .i64 x.1, .int .i64 x.2.1, .int .u32 (x.2.2 : Int)]

theorem add_plain (b o j : Nat) : (⟨b, o, none⟩ : Addr).add j = ⟨b, o + j, none⟩ := by unfold Addr.add; split <;> simp_all
theorem spc_at {w : World} {gv : Nat} {x : Span} (d0 : w.cell? ⟨gv, 0, none⟩ = some (.int .i64 x.1)) (d1 : w.cell? ⟨gv, 1, none⟩ = some (.int .i64 x.2.1)) (d2 : w.cell? ⟨gv, 2, none⟩ = some (.int .u32 (x.2.2 : Int))) :
    ∀ j u, (spc x)[j]? = some u → w.cell? ((⟨gv, 0, none⟩ : Addr).add j) = some u := by
  intro j u hj
  match j, hj with
  | 0, h => simp at h; subst h; exact d0
  | 1, h => simp at h; subst h; exact d1
  | 2, h => simp at h; subst h; exact d2

set_option maxRecDepth 100000 in
set_option maxHeartbeats 2000000 in
/-- Insert of one span at the end of a row -/
theorem ins_end (base n : Nat) (v : Value) (xs : List Value) (x : Span) (w : World) (gv c : Nat) (hown : w.ownsRow base 192 3 v n xs) (hn : n ≤ 1073741824) (hb : base ≤ w.heap.size)
    (d0 : w.cell? ⟨gv, 0, none⟩ = some (.int .i64 x.1)) (d1 : w.cell? ⟨gv, 1, none⟩ = some (.int .i64 x.2.1)) (d2 : w.cell? ⟨gv, 2, none⟩ = some (.int .u32 (x.2.2 : Int))) :
    Calls Tryz.prog 150 #[v, .int .i64 (n : Int), .slice (some ⟨gv, 0, none⟩) 1 c] w fun e w' => ∃ v', e = .returned v' ∧ w'.ownsRow base 192 3 v' (n + 1) (xs ++ spc x) ∧ w.grownBy w' v.ownBlock ∧ (v'.ownBlock = v.ownBlock ∨ v'.ownBlock = some w.heap.size) := by
  obtain ⟨i0, hi0, hz0, hz1, hz2⟩ := info_parts info_span
  rcases hown.2 with ⟨rfl, rfl⟩ | ⟨g, cap, cur, rfl, hg1, hg2, hg3, hg4, hg5, hg6⟩
  · go_enter Tryz.func150, Tryz.ntmps150
    go_wp2_with (at_builtin; refine wpList_append_own_at _ rfl _ _ 187 rfl base 192 i0 (.agg #[.int .i64 0, .int .i64 0, .int .u32 0]) 3 24 Tryz.underlying187 hi0 hz0 hz1 hz2 rfl (by decide) (.slice none 0 0) 0 xs rfl hown ⟨gv, 0, none⟩ 1 c (spc x) rfl ?c1 ?c2 ?c3 ?c4 ?c5 ?c6 ?_)
    case c1 => rfl
    case c2 => exact spc_at d0 d1 d2
    case c3 => intro u hu; simp at hu; rcases hu with rfl | rfl | rfl <;> rfl
    case c4 => unfold maxLen; omega
    case c5 => omega
    case c6 => exact hb
    intro v' w' hr hgr _ hat
    go_wp2_with fail
    go_ret
    exact ⟨v', rfl, hr, hgr, hat⟩
  · have hn' : (n : Int) ≤ (cap : Int) := by omega
    go_enter Tryz.func150, Tryz.ntmps150
    go_wp2_with (at_builtin; refine wpList_append_own_at _ rfl _ _ 187 rfl base 192 i0 (.agg #[.int .i64 0, .int .i64 0, .int .u32 0]) 3 24 Tryz.underlying187 hi0 hz0 hz1 hz2 rfl (by decide) (.slice (some ⟨g, 0, none⟩) n cap) n xs rfl hown ⟨gv, 0, none⟩ 1 c (spc x) rfl ?c1 ?c2 ?c3 ?c4 ?c5 ?c6 ?_)
    case c1 => rfl
    case c2 => exact spc_at d0 d1 d2
    case c3 => intro u hu; simp at hu; rcases hu with rfl | rfl | rfl <;> rfl
    case c4 => unfold maxLen; omega
    case c5 => omega
    case c6 => exact hb
    all_goals
      intro v' w' hr hgr _ hat
      go_wp2_with fail
      go_ret
      exact ⟨v', rfl, hr, hgr, hat⟩
end Go.Proofs.YtalnhlebgofiiaaGreatDoor
namespace Go.Proofs.YtalnhlebgofiiaaGreatDoor
open Go.RowKit
open Bd

set_option maxRecDepth 100000 in
set_option maxHeartbeats 1000000 in
/-- Insert of one span within a row that is full -/
theorem ins_grow (n k g cap : Nat) (cur : Array Value) (x : Span) (w : World) (gv c : Nat) (hk : k < n) (hn : n ≤ 1073741824) (hc : n ≤ cap) (hfull : cap < n + 1) (hsz : cur.size = cap * 3) (hone : ∀ u ∈ cur.toList, u.oneCell' = true) (hg : w.heap[g]? = some (.cells cur 192 (0, 0)))
    (d0 : w.cell? ⟨gv, 0, none⟩ = some (.int .i64 x.1)) (d1 : w.cell? ⟨gv, 1, none⟩ = some (.int .i64 x.2.1)) (d2 : w.cell? ⟨gv, 2, none⟩ = some (.int .u32 (x.2.2 : Int))) :
    Calls Tryz.prog 150 #[.slice (some ⟨g, 0, none⟩) n cap, .int .i64 (k : Int), .slice (some ⟨gv, 0, none⟩) 1 c] w fun e w' => ∃ v', e = .returned v' ∧ w'.ownsRow w.heap.size 192 3 v' (n + 1) (cur.toList.take (k * 3) ++ (spc x ++ (cur.toList.take (n * 3)).drop (k * 3))) ∧ Fr nob w w' := by
  obtain ⟨i0, hi0, hz0, hz1, hz2⟩ := info_parts info_span
  obtain rfl : cap = n := by omega
  have hk' : (k : Int) < (cap : Int) := by omega
  have hk'' : ((k : Int) == (cap : Int)) = false := by simp only [beq_eq_false_iff_ne]; omega
  have hol : (cur.toList.take (k * 3)).length = k * i0.size := by rw [hz1, List.length_take]; simp [hsz]; omega
  have hoc : ∀ j u, (cur.toList.take (k * 3))[j]? = some u → w.cell? ((⟨g, 0, none⟩ : Addr).add j) = some u := fun j u hu => by
    rw [List.getElem?_take] at hu
    split at hu
    · rw [add_plain, Nat.zero_add, cell_of_row w g j cur _ (0, 0) hg]; simpa using hu
    · cases hu
  have hneed : k + (cap + 1 - k) = cap + 1 := by omega
  have hfits := growslice_fits_succ (old := cap) (bytes := i0.bytes) (by rw [hz2]; omega) (by rw [hz2]; omega)
  have hrun := fun ty => run_append_zerosK (P := Tryz.prog) w 187 3 ty 192 i0 (.agg #[.int .i64 0, .int .i64 0, .int .u32 0]) .i64 .i64 Tryz.underlying187 (by kernel_rfl) hi0 hz0
    ⟨g, 0, none⟩ k cap (cur.toList.take (k * 3)) hol hoc (cap + 1 - k) (by rw [hz1]; omega) (by omega) (by omega) (by rw [hz2]; omega) (by rw [hneed]; exact hfits)
  rw [hneed] at hrun
  have hc1 := grownCap_ge w (cap + 1) cap 192
  have hc2 := grownCap_le_maxLen w (cap + 1) cap 192 (by unfold maxLen; omega)
  generalize grownCap w (cap + 1) cap 192 = cap' at *
  obtain ⟨Z, hZ⟩ : ∃ Z, Z = (cur.toList.take (k * 3)).toArray ++ Builtin.zeroCells (Value.agg #[.int .i64 0, .int .i64 0, .int .u32 0]).cells (cap + 1 - k) ++ Builtin.zeroCells (Value.agg #[.int .i64 0, .int .i64 0, .int .u32 0]).cells (cap' - (cap + 1)) := ⟨_, rfl⟩
  rw [← hZ] at hrun
  have hZs : Z.size = cap' * 3 := by
    rw [hz1] at hol
    have e3 : (Value.agg #[.int .i64 0, .int .i64 0, .int .u32 0]).cells.size = 3 := rfl
    rw [hZ, Array.size_append, Array.size_append, size_zeroCells, size_zeroCells, List.size_toArray, hol, e3]; omega
  have hZt : Z.toList.take (k * 3) = cur.toList.take (k * 3) := by
    rw [hz1] at hol
    rw [hZ]; simp only [Array.toList_append, List.append_assoc]
    rw [List.take_left' hol]
  have hint : ((cap + 1 - k : Nat) : Int) = (cap : Int) + 1 - (k : Int) := by omega
  rw [hint] at hrun
  have HR := Lib.hid hrun
  have HZ := Lib.hid hZt
  clear hrun hZ hZt hoc hol hint hfits
  have fr1 : Fr nob w (w.drew.alloc (.cells Z 192)) := ((Fr.refl nob w).drew).alloc _
  have hZ1 : (w.drew.alloc (.cells Z 192)).heap[w.heap.size]? = some (.cells Z 192 (0, 0)) := World.alloc_heap_new w.drew _
  go_enter Tryz.func150, Tryz.ntmps150
  have hk3 : (k : Int) < (cap' : Int) := by omega
  have hk4 : (k : Int) + 1 < (cap' : Int) := by omega
  have hszT : (Tryz.prog.info? 192).map (·.size) = some 3 := by rw [hi0]; simp [hz1]
  have HONE := Lib.hid hone
  clear hone
  go_wp2_with (first | (at_builtin; refine Lib.wpList_append_run _ rfl _ _ _ _ rfl _ _ rfl rfl _ _ (HR.out _) ?_; generalize w.drew.alloc (.cells Z 192) = W1 at *; clear HR) | (refine wpList_copyK rfl _ _ 187 187 rfl 192 3 Tryz.underlying187 hszT w.heap.size (k * 3) _ _ ⟨gv, 0, none⟩ 1 c rfl rfl Z 192 hZ1 (spc x) ?hn ?hsrc ?hfit ?hone ?_))
  case hn =>
    have e : Nat.min 1 (cap + 1 - k) = 1 := Nat.min_eq_left (by omega)
    rw [e]; rfl
  case hsrc => exact spc_at (fr1.cell d0 (fun h => h)) (fr1.cell d1 (fun h => h)) (fr1.cell d2 (fun h => h))
  case hfit => rw [hZs]; show k * 3 + 3 ≤ cap' * 3; omega
  case hone => intro u hu; simp at hu; rcases hu with rfl | rfl | rfl <;> rfl
  have hS : (W1.setRow w.heap.size (Z.toList.take (k * 3) ++ (spc x ++ Z.toList.drop (k * 3 + (spc x).length))).toArray).heap[w.heap.size]? = some (.cells (Z.toList.take (k * 3) ++ (spc x ++ Z.toList.drop (k * 3 + (spc x).length))).toArray 192 (0, 0)) := setRow_heap W1 w.heap.size Z _ _ (0, 0) hZ1
  have fr2 : Fr nob w (W1.setRow w.heap.size (Z.toList.take (k * 3) ++ (spc x ++ Z.toList.drop (k * 3 + (spc x).length))).toArray) :=
    fr1.trans (S' := fun j => j = w.heap.size) ⟨rfl, rfl, rfl, by simp [World.setRow], fun j _ hj => setRow_other W1 _ j _ hj⟩ (fun i hi h => by omega)
  generalize W1.setRow w.heap.size (Z.toList.take (k * 3) ++ (spc x ++ Z.toList.drop (k * 3 + (spc x).length))).toArray = W2 at *
  have hR1 : (Z.toList.take (k * 3) ++ (spc x ++ Z.toList.drop (k * 3 + (spc x).length))).length = cap' * 3 := by
    simp only [List.length_append, List.length_take, List.length_cons, List.length_nil, List.length_drop, Array.length_toList, hZs]; omega
  have hR2 : (Z.toList.take (k * 3) ++ (spc x ++ Z.toList.drop (k * 3 + (spc x).length))).take (k * 3 + 3) = cur.toList.take (k * 3) ++ spc x := by
    rw [HZ.out]
    have hl : (cur.toList.take (k * 3)).length = k * 3 := by rw [List.length_take]; simp [hsz]; omega
    rw [List.take_append, hl, List.take_of_length_le (by omega), show k * 3 + 3 - k * 3 = 3 by omega]; rfl
  generalize Z.toList.take (k * 3) ++ (spc x ++ Z.toList.drop (k * 3 + (spc x).length)) = R2 at *
  obtain ⟨cs, hcs⟩ : ∃ cs, cs = cur.toList.drop (k * 3) := ⟨_, rfl⟩
  have hcl : cs.length = (cap - k) * 3 := by rw [hcs, List.length_drop]; simp [hsz]; omega
  have hwr : IntKind.i64.wrap ((k : Int) + 1) = (k : Int) + 1 := by rw [IntKind.wrap_i64]; omega
  have hb0 : (0 : Int) ≤ (k : Int) + 1 := by omega
  have hb1 : (k : Int) + 1 ≤ (cap : Int) + 1 := by omega
  have hb2 : (0 : Int) ≤ (k : Int) := by omega
  have hb3 : (k : Int) ≤ (cap : Int) := by omega
  have htn : ((k : Int) + 1).toNat = k + 1 := by omega
  have hne : ¬ cap' = k + 1 := by omega
  have hne2 : ¬ cap = k := by omega
  have hS' : W2.drew.heap[w.heap.size]? = some (.cells R2.toArray 192 (0, 0)) := hS
  have hn2 : cs.length = Nat.min (cap - k) (cap - k) * 3 := by
    have e : Nat.min (cap - k) (cap - k) = cap - k := Nat.min_self _
    rw [e, hcl]
  have hsrc2 : ∀ j v, cs[j]? = some v → W2.drew.cell? ((⟨g, k * 3, none⟩ : Addr).add j) = some v := fun j u hu => by
    rw [add_plain]
    rw [hcs, List.getElem?_drop] at hu
    have h0 : w.cell? ⟨g, k * 3 + j, none⟩ = some u := by rw [cell_of_row w g (k * 3 + j) cur _ (0, 0) hg]; simpa using hu
    exact fr2.cell h0 (fun h => h)
  have hfit2 : (k + 1) * 3 + cs.length ≤ R2.toArray.size := by rw [List.size_toArray, hR1, hcl]; omega
  have hone2 : ∀ v ∈ cs, v.oneCell' = true := fun v hv => HONE.out v (List.mem_of_mem_drop (by rw [hcs] at hv; exact hv))
  have HCS := Lib.hid hcs
  have HCL := Lib.hid hcl
  have HN2 := Lib.hid hn2
  clear hcs hcl hn2
  go_region_law (refine step_copyK rfl (.tmp 50) (.tmp 53) 187 187 rfl 192 3 Tryz.underlying187 hszT w.heap.size ((k + 1) * 3) (cap - k) (cap' - (k + 1)) ⟨g, k * 3, none⟩ (cap - k) (cap - k) (by go_simp) (by go_simp) R2.toArray 192 hS' cs HN2.out hsrc2 hfit2 hone2 ?_)
  clear hsrc2 hone2 hfit2 HONE
  have hk33 : (k + 1) * 3 = k * 3 + 3 := by omega
  have hT := setRow_heap W2.drew w.heap.size R2.toArray (R2.take ((k + 1) * 3) ++ (cs ++ R2.drop ((k + 1) * 3 + cs.length))).toArray _ (0, 0) hS'
  have fr3 : Fr nob w (W2.drew.setRow w.heap.size (R2.take ((k + 1) * 3) ++ (cs ++ R2.drop ((k + 1) * 3 + cs.length))).toArray) :=
    fr2.drew.trans (S' := fun j => j = w.heap.size) ⟨rfl, rfl, rfl, by simp [World.setRow], fun j _ hj => setRow_other W2.drew _ j _ hj⟩ (fun i hi h => by omega)
  have hTl : (R2.take ((k + 1) * 3) ++ (cs ++ R2.drop ((k + 1) * 3 + cs.length))).length = cap' * 3 := by
    simp only [List.length_append, List.length_take, List.length_drop, hR1, HCL.out]; omega
  have htk : cur.toList.take (cap * 3) = cur.toList := List.take_of_length_le (by simp [hsz])
  have hTt : (R2.take ((k + 1) * 3) ++ (cs ++ R2.drop ((k + 1) * 3 + cs.length))).take ((cap + 1) * 3) = cur.toList.take (k * 3) ++ (spc x ++ (cur.toList.take (cap * 3)).drop (k * 3)) := by
    rw [← List.append_assoc, List.take_left' (by simp only [List.length_append, List.length_take, hR1, HCL.out]; omega), hk33, hR2, HCS.out, List.append_assoc, htk]
  go_wp2_with fail
  go_ret
  refine ⟨_, rfl, ⟨?_, .inr ⟨w.heap.size, cap', _, rfl, Nat.le_refl _, hT, by omega, hc2, by rw [List.size_toArray]; exact hTl, hTt⟩⟩, fr3⟩
  simp only [List.length_append, List.length_take, List.length_cons, List.length_drop, Array.length_toList, hsz]; omega
end Go.Proofs.YtalnhlebgofiiaaGreatDoor
namespace Go.Proofs.YtalnhlebgofiiaaGreatDoor
open Go.RowKit
open Bd

set_option maxRecDepth 100000 in
set_option maxHeartbeats 1000000 in
/-- Insert of one span within a row that has room -/
theorem ins_fit (n k g cap : Nat) (cur : Array Value) (x : Span) (w : World) (gv c : Nat) (hk : k < n) (hn : n ≤ 1073741824) (hroom : n + 1 ≤ cap) (hsz : cur.size = cap * 3) (hone : ∀ u ∈ cur.toList.take (n * 3), u.oneCell' = true) (hg : w.heap[g]? = some (.cells cur 192 (0, 0)))
    (hne : gv ≠ g) (tA : TypeId) (hgv : w.heap[gv]? = some (.cells (spc x).toArray tA (0, 0))) :
    Calls Tryz.prog 150 #[.slice (some ⟨g, 0, none⟩) n cap, .int .i64 (k : Int), .slice (some ⟨gv, 0, none⟩) 1 c] w fun e w' => e = .returned (.slice (some ⟨g, 0, none⟩) (n + 1) cap) ∧
      (∃ R : List Value, w'.heap[g]? = some (.cells R.toArray 192 (0, 0)) ∧ R.length = cap * 3 ∧ R.take ((n + 1) * 3) = cur.toList.take (k * 3) ++ (spc x ++ (cur.toList.take (n * 3)).drop (k * 3))) ∧ Fr (fun j => j = g) w w' := by
  obtain ⟨i0, hi0, hz0, hz1, hz2⟩ := info_parts info_span
  have hszT : (Tryz.prog.info? 192).map (·.size) = some 3 := by rw [hi0]; simp [hz1]
  have hsa : w.shape? gv = some (tA, 3) := by simp [World.shape?, hgv]
  have hsb : w.shape? g = some (192, cap * 3) := by simp [World.shape?, hg, hsz]
  have hfa : w.frozen? ⟨gv, 0, none⟩ = false := by simp [World.frozen?, hgv]
  have hfe : w.frozen? ⟨gv, 3, none⟩ = false := by simp [World.frozen?, hgv]
  have hso : ∀ w, (Go.sizeOf 192).run Tryz.prog w = .ok 3 w := fun w => by simp [sizeOf, typeInfo, hi0, hz1]
  have hov : ∀ lb cb, (callFunc 152 #[.slice (some ⟨gv, 0, none⟩) 1 c, .slice (some ⟨g, (k + 1) * 3, none⟩) lb cb]).run Tryz.prog w = .ok (.value (.bool false)) w := fun lb cb => by
    rw [run_callFunc_extern Tryz.func152 (by kernel_rfl) (by kernel_rfl) (by kernel_rfl) (e := Extern.SlicesOverlaps.overlaps #[187, 187] #[4]) (by kernel_rfl),
      Lib.run_overlaps_apart w 187 4 192 Tryz.underlying187 3 hso ⟨gv, 0, none⟩ ⟨g, (k + 1) * 3, none⟩ 1 c lb cb hne tA 192 3 (cap * 3) hsa hsb (by omega) hfa hfe]
    rfl
  have hk' : (k : Int) < (n : Int) := by omega
  have hk'' : ((k : Int) == (n : Int)) = false := by simp only [beq_eq_false_iff_ne]; omega
  have hc' : (n : Int) + 1 ≤ (cap : Int) := by omega
  have hwr : IntKind.i64.wrap ((k : Int) + 1) = (k : Int) + 1 := by rw [IntKind.wrap_i64]; omega
  have hwn : IntKind.i64.wrap ((n : Int) + 1) = (n : Int) + 1 := by rw [IntKind.wrap_i64]; omega
  have hb0 : (0 : Int) ≤ (k : Int) + 1 := by omega
  have hb1 : (k : Int) + 1 ≤ (n : Int) + 1 := by omega
  have hb2 : (0 : Int) ≤ (k : Int) := by omega
  have hb3 : (k : Int) ≤ (n : Int) + 1 := by omega
  have htn : ((k : Int) + 1).toNat = k + 1 := by omega
  have htm : ((n : Int) + 1).toNat = n + 1 := by omega
  have hne1 : ¬ cap = k + 1 := by omega
  have hne2 : ¬ cap = k := by omega
  have HONE := Lib.hid hone
  clear hone hfa hfe hso hsa hsb
  go_enter Tryz.func150, Tryz.ntmps150
  go_wp2_with (simp only [hov])
  obtain ⟨cs, hcs⟩ : ∃ cs, cs = (cur.toList.take (n * 3)).drop (k * 3) := ⟨_, rfl⟩
  have hcl : cs.length = (n - k) * 3 := by rw [hcs, List.length_drop, List.length_take]; simp only [Array.length_toList, hsz]; omega
  have hn2 : cs.length = Nat.min (n + 1 - k) (n - k) * 3 := by
    have e : Nat.min (n + 1 - k) (n - k) = n - k := Nat.min_eq_right (by omega)
    rw [e, hcl]
  have hS' : w.drew.heap[g]? = some (.cells cur 192 (0, 0)) := hg
  have hsrc2 : ∀ j v, cs[j]? = some v → w.drew.cell? ((⟨g, k * 3, none⟩ : Addr).add j) = some v := fun j u hu => by
    rw [add_plain]
    rw [hcs, List.getElem?_drop, List.getElem?_take] at hu
    split at hu
    · have h0 : w.cell? ⟨g, k * 3 + j, none⟩ = some u := by rw [cell_of_row w g (k * 3 + j) cur _ (0, 0) hg]; simpa using hu
      exact h0
    · cases hu
  have hfit2 : (k + 1) * 3 + cs.length ≤ cur.size := by rw [hsz, hcl]; omega
  have hone2 : ∀ v ∈ cs, v.oneCell' = true := fun v hv => HONE.out v (List.mem_of_mem_drop (by rw [hcs] at hv; exact hv))
  have HCS := Lib.hid hcs
  have HCL := Lib.hid hcl
  have HN2 := Lib.hid hn2
  clear hcs hcl hn2
  go_region_law (refine step_copyK rfl (.tmp 73) (.tmp 76) 187 187 rfl 192 3 Tryz.underlying187 hszT g ((k + 1) * 3) (n - k) (cap - (k + 1)) ⟨g, k * 3, none⟩ (n + 1 - k) (cap - k) (by go_simp) (by go_simp) cur 192 hS' cs HN2.out hsrc2 hfit2 hone2 ?_)
  clear hsrc2 hone2 hfit2 HONE
  have hS : (w.drew.setRow g (cur.toList.take ((k + 1) * 3) ++ (cs ++ cur.toList.drop ((k + 1) * 3 + cs.length))).toArray).heap[g]? = some (.cells (cur.toList.take ((k + 1) * 3) ++ (cs ++ cur.toList.drop ((k + 1) * 3 + cs.length))).toArray 192 (0, 0)) := setRow_heap w.drew g cur _ _ (0, 0) hS'
  have fr2 : Fr (fun j => j = g) w (w.drew.setRow g (cur.toList.take ((k + 1) * 3) ++ (cs ++ cur.toList.drop ((k + 1) * 3 + cs.length))).toArray) := ((Fr.refl _ w).drew).trans (S' := fun j => j = g) ⟨rfl, rfl, rfl, by simp [World.setRow], fun j _ hj => setRow_other w.drew _ j _ hj⟩ (fun _ _ h => h)
  generalize w.drew.setRow g (cur.toList.take ((k + 1) * 3) ++ (cs ++ cur.toList.drop ((k + 1) * 3 + cs.length))).toArray = W2 at *
  have hR1 : (cur.toList.take ((k + 1) * 3) ++ (cs ++ cur.toList.drop ((k + 1) * 3 + cs.length))).length = cap * 3 := by
    simp only [List.length_append, List.length_take, List.length_drop, Array.length_toList, hsz, HCL.out]; omega
  have hR2 : ∃ Y : List Value, Y.length = 3 ∧ (cur.toList.take ((k + 1) * 3) ++ (cs ++ cur.toList.drop ((k + 1) * 3 + cs.length))).take ((n + 1) * 3) = cur.toList.take (k * 3) ++ (Y ++ cs) := by
    refine ⟨(cur.toList.take ((k + 1) * 3)).drop (k * 3), ?_, ?_⟩
    · simp only [List.length_drop, List.length_take, Array.length_toList, hsz]; omega
    · have e1 : cur.toList.take (k * 3) = (cur.toList.take ((k + 1) * 3)).take (k * 3) := by rw [List.take_take, Nat.min_eq_left (by omega)]
      rw [← List.append_assoc, List.take_left' (by simp only [List.length_append, List.length_take, Array.length_toList, hsz, HCL.out]; omega), e1, ← List.append_assoc, List.take_append_drop]
  generalize cur.toList.take ((k + 1) * 3) ++ (cs ++ cur.toList.drop ((k + 1) * 3 + cs.length)) = R2 at *
  go_wp2_with (refine wpList_copyK rfl _ _ 187 187 rfl 192 3 Tryz.underlying187 hszT g (k * 3) (n + 1 - k) (cap - k) ⟨gv, 0, none⟩ 1 c rfl rfl R2.toArray 192 hS (spc x) ?hn ?hsrc ?hfit ?hone ?_)
  case hn =>
    have e : Nat.min 1 (n + 1 - k) = 1 := Nat.min_eq_left (by omega)
    rw [e]; rfl
  case hsrc =>
    intro j u hj
    have hgv3 : W2.heap[gv]? = some (.cells (spc x).toArray tA (0, 0)) := (fr2.block gv (Array.getElem?_eq_some_iff.1 hgv).1 hne).trans hgv
    rw [add_plain, Nat.zero_add, cell_of_row W2 gv j _ _ (0, 0) hgv3]
    simpa using hj
  case hfit => rw [List.size_toArray, hR1]; show k * 3 + 3 ≤ cap * 3; omega
  case hone => intro u hu; simp at hu; rcases hu with rfl | rfl | rfl <;> rfl
  obtain ⟨Y, hY, hR2⟩ := hR2
  have hlA : (cur.toList.take (k * 3)).length = k * 3 := by rw [List.length_take]; simp only [Array.length_toList, hsz]; omega
  have hT := setRow_heap W2 g R2.toArray (R2.take (k * 3) ++ (spc x ++ R2.drop (k * 3 + (spc x).length))).toArray _ (0, 0) hS
  have fr3 : Fr (fun j => j = g) w (W2.setRow g (R2.take (k * 3) ++ (spc x ++ R2.drop (k * 3 + (spc x).length))).toArray) := fr2.trans (S' := fun j => j = g) ⟨rfl, rfl, rfl, by simp [World.setRow], fun j _ hj => setRow_other W2 _ j _ hj⟩ (fun _ _ h => h)
  have hTl : (R2.take (k * 3) ++ (spc x ++ R2.drop (k * 3 + (spc x).length))).length = cap * 3 := by
    simp only [List.length_append, List.length_take, List.length_cons, List.length_nil, List.length_drop, hR1]; omega
  have hTt : (R2.take (k * 3) ++ (spc x ++ R2.drop (k * 3 + (spc x).length))).take ((n + 1) * 3) = cur.toList.take (k * 3) ++ (spc x ++ (cur.toList.take (n * 3)).drop (k * 3)) := by
    have e : R2 = cur.toList.take (k * 3) ++ (Y ++ (cs ++ R2.drop ((n + 1) * 3))) := by
      have := List.take_append_drop ((n + 1) * 3) R2
      rw [hR2] at this
      exact this.symm.trans (by simp only [List.append_assoc])
    have e1 : R2.take (k * 3) = cur.toList.take (k * 3) := by
      have h := congrArg (List.take (k * 3)) e
      rw [List.take_left' hlA] at h; exact h
    have e2 : R2.drop (k * 3 + (spc x).length) = cs ++ R2.drop ((n + 1) * 3) := by
      have h := congrArg (List.drop (k * 3 + 3)) e
      rw [← List.append_assoc, List.drop_left' (by rw [List.length_append, hlA, hY])] at h; exact h
    rw [e1, e2, ← List.append_assoc, ← List.append_assoc, List.take_left' (by simp only [List.length_append, hlA, List.length_cons, List.length_nil, HCL.out]; omega), HCS.out, List.append_assoc]
  go_ret
  exact ⟨rfl, ⟨_, hT, hTl, hTt⟩, fr3⟩
end Go.Proofs.YtalnhlebgofiiaaGreatDoor
namespace Go.Proofs.YtalnhlebgofiiaaGreatDoor
open Go.RowKit
open Bd

theorem flat_len : ∀ L : List Span, (L.flatMap spc).length = L.length * 3
  | [] => rfl
  | x :: L => by rw [List.flatMap_cons, List.length_append, flat_len L]; simp only [List.length_cons, List.length_nil]; omega
theorem flat_take : ∀ (L : List Span) (k : Nat), (L.flatMap spc).take (k * 3) = (L.take k).flatMap spc
  | [], k => by simp
  | x :: L, 0 => by simp
  | x :: L, k + 1 => by
    rw [List.flatMap_cons, List.take_succ_cons, List.flatMap_cons, ← flat_take L k, show (k + 1) * 3 = k * 3 + 1 + 1 + 1 by omega]
    rfl
theorem flat_drop : ∀ (L : List Span) (k : Nat), (L.flatMap spc).drop (k * 3) = (L.drop k).flatMap spc
  | [], k => by simp
  | x :: L, 0 => by simp
  | x :: L, k + 1 => by
    rw [List.flatMap_cons, List.drop_succ_cons, ← flat_drop L k, show (k + 1) * 3 = k * 3 + 1 + 1 + 1 by omega]
    rfl
theorem flat_one (L : List Span) : ∀ u ∈ L.flatMap spc, u.oneCell' = true := by
  intro u hu
  obtain ⟨x, _, hx⟩ := List.mem_flatMap.1 hu
  simp at hx
  rcases hx with rfl | rfl | rfl <;> rfl
theorem flat_at {L : List Span} {k : Nat} {x : Span} (h : L[k]? = some x) : (L.flatMap spc)[k * 3]? = some (.int .i64 x.1) ∧ (L.flatMap spc)[k * 3 + 1]? = some (.int .i64 x.2.1) ∧ (L.flatMap spc)[k * 3 + 2]? = some (.int .u32 (x.2.2 : Int)) := by
  have e : L.drop k = x :: L.drop (k + 1) := by
    have hk := (List.getElem?_eq_some_iff.1 h).1
    rw [List.drop_eq_getElem_cons hk]
    congr 1
    exact (List.getElem?_eq_some_iff.1 h).2
  have hd := flat_drop L k
  rw [e, List.flatMap_cons] at hd
  have g : ∀ j, (L.flatMap spc)[k * 3 + j]? = ((L.flatMap spc).drop (k * 3))[j]? := fun j => by rw [List.getElem?_drop]
  refine ⟨(g 0).trans ?_, (g 1).trans ?_, (g 2).trans ?_⟩ <;> rw [hd] <;> rfl

/-- a row that is owned is a list of spans -/
theorem spRow_of {w : World} {v : Value} {L : List Span} (h : w.ownsRow 0 192 3 v L.length (L.flatMap spc)) : SpRow w v L := by
  rcases h.2 with ⟨rfl, hn⟩ | ⟨g, cap, cur, rfl, _, hg, hc, _, hs, ht⟩
  · have e : L = [] := List.length_eq_zero_iff.1 hn
    subst e
    exact ⟨none, 0, rfl, fun k x hx => by simp at hx⟩
  · refine ⟨_, cap, rfl, fun k x hx => ⟨g, rfl, ?_⟩⟩
    have hk := (List.getElem?_eq_some_iff.1 hx).1
    have f := flat_at hx
    have c : ∀ j u, j < L.length * 3 → (L.flatMap spc)[j]? = some u → w.cell? ⟨g, j, none⟩ = some u := fun j u hj hu => by
      rw [cell_of_row w g j cur _ (0, 0) hg]
      rw [← ht, List.getElem?_take, if_pos hj] at hu
      simpa using hu
    exact ⟨c _ _ (by omega) f.1, c _ _ (by omega) f.2.1, c _ _ (by omega) f.2.2⟩

/-- INSERT OF ONE SPAN, WHEREVER IT IS. -/
theorem ins_any (L : List Span) (k : Nat) (x : Span) (v : Value) (w : World) (gv c : Nat) (hown : w.ownsRow 0 192 3 v L.length (L.flatMap spc)) (hk : k ≤ L.length) (hn : L.length ≤ 1073741824)
    (tA : TypeId) (hgv : w.heap[gv]? = some (.cells (spc x).toArray tA (0, 0))) (hne : v.ownBlock ≠ some gv) :
    Calls Tryz.prog 150 #[v, .int .i64 (k : Int), .slice (some ⟨gv, 0, none⟩) 1 c] w fun e w' => ∃ v', e = .returned v' ∧ w'.ownsRow 0 192 3 v' (L.take k ++ x :: L.drop k).length ((L.take k ++ x :: L.drop k).flatMap spc) ∧
      Fr (fun j => v.ownBlock = some j) w w' ∧ ∀ g, v'.ownBlock = some g → v.ownBlock = some g ∨ w.heap.size ≤ g := by
  have hlen : (L.take k ++ x :: L.drop k).length = L.length + 1 := by simp only [List.length_append, List.length_take, List.length_cons, List.length_drop]; omega
  have hfl : (L.take k ++ x :: L.drop k).flatMap spc = (L.flatMap spc).take (k * 3) ++ (spc x ++ (L.flatMap spc).drop (k * 3)) := by
    rw [List.flatMap_append, List.flatMap_cons, flat_take, flat_drop]
  have dc := fun j u (h : (spc x)[j]? = some u) => (show w.cell? ⟨gv, j, none⟩ = some u by rw [cell_of_row w gv j _ _ (0, 0) hgv]; simpa using h)
  have d0 := dc 0 _ rfl
  have d1 := dc 1 _ rfl
  have d2 := dc 2 _ rfl
  rw [hlen, hfl]
  by_cases hkn : k = L.length
  · subst hkn
    have e1 : (L.flatMap spc).take (L.length * 3) = L.flatMap spc := List.take_of_length_le (by rw [flat_len]; omega)
    have e2 : (L.flatMap spc).drop (L.length * 3) = [] := List.drop_eq_nil_of_le (by rw [flat_len]; omega)
    rw [e1, e2, List.append_nil]
    refine (ins_end 0 L.length v (L.flatMap spc) x w gv c hown hn (Nat.zero_le _) d0 d1 d2).mono ?_
    rintro e w' ⟨v', rfl, h1, h2, h3⟩
    refine ⟨v', rfl, h1, (Fr.refl _ w).grown h2 (fun j hj _ => hj), fun g hg => ?_⟩
    rcases h3 with h3 | h3
    · exact .inl (h3 ▸ hg)
    · rw [h3] at hg; cases hg; exact .inr (Nat.le_refl _)
  · have hk' : k < L.length := by omega
    rcases hown.2 with ⟨rfl, h0⟩ | ⟨g, cap, cur, rfl, _, hg, hc, hm, hs, ht⟩
    · omega
    · by_cases hfull : cap < L.length + 1
      · have hcl : cur.toList = L.flatMap spc := by
          rw [← ht, List.take_of_length_le]
          simp only [Array.length_toList, hs]; omega
        refine (ins_grow L.length k g cap cur x w gv c hk' hn hc hfull hs (fun u hu => flat_one L u (hcl ▸ hu)) hg d0 d1 d2).mono ?_
        rintro e w' ⟨v', rfl, h1, h2⟩
        rw [ht, hcl] at h1
        rcases h1.2 with ⟨rfl, h0⟩ | ⟨g', cap', cur', rfl, hb', rest⟩
        · omega
        · exact ⟨_, rfl, ⟨h1.1, .inr ⟨g', cap', cur', rfl, Nat.zero_le _, rest⟩⟩, h2.mono (fun _ _ h => h.elim), fun j hj => by cases hj; exact .inr hb'⟩
      · refine (ins_fit L.length k g cap cur x w gv c hk' hn (by omega) hs (fun u hu => flat_one L u (ht ▸ hu)) hg (fun e => hne (by rw [← e]; rfl)) tA hgv).mono ?_
        rintro e w' ⟨rfl, ⟨R, h1, h2, h3⟩, h4⟩
        refine ⟨_, rfl, ⟨?_, .inr ⟨g, cap, R.toArray, rfl, Nat.zero_le _, h1, by omega, hm, by rw [List.size_toArray]; exact h2, ?_⟩⟩, h4.mono (fun j _ h => by rw [h]; rfl), fun j hj => .inl hj⟩
        · simp only [List.length_append, List.length_take, List.length_drop, flat_len, List.length_cons, List.length_nil]; omega
        · rw [ht] at h3
          have e0 : cur.toList.take (k * 3) = (L.flatMap spc).take (k * 3) := by
            rw [← ht, List.take_take, Nat.min_eq_left (by omega)]
          rw [e0] at h3
          exact h3
end Go.Proofs.YtalnhlebgofiiaaGreatDoor
