import Derived.Test.YtaojojjdfdlgpaaDgD
import Derived.OwnWalk
import Derived.Deep.RegionLaw
import Derived.Recover
import Derived.Deep.RegionHeld3
import Derived.Test.YtaojojjdfdlgpaaGa
import Derived.Test.YtaojojjdfdlgpaaDw
import Derived.Laws.BitsLemmas
namespace Go.Proofs.Ytaojojjdfdlgpaa.Dg
open Go.RowKit
open Bd

def cubeB (on off : Nat) : B := if on &&& off &&& 16777215 = 0 then cubeP on off 24 else .F
theorem ok_cubeB (on off : Nat) : (cubeB on off).ok 0 := by
  unfold cubeB; split
  · exact ok_cubeP0 on off (Nat.le_refl _)
  · trivial

theorem and_u32 (a b : Nat) (ha : a < 2 ^ 32) (hb : b < 2 ^ 32) : bits BinOp.and IntKind.u32 (a : Int) (b : Int) = ((a &&& b : Nat) : Int) := (bits_nat .u32 32 (by decide) wraps_u32 a b ha hb).1

/-- the loop of Cube: behind k features -/
structure CubeSt (on off : Nat) (w0 : World) (wb mb : Nat) (v : Value) (k : Nat) (wr : World) : Prop where
  work : Work wr wb mb v (li (cubeP on off k))
  fr : Fr (fun j => w0.heap.size < j) w0 wr
  own : ∀ j, foot wb mb v j → w0.heap.size < j
  r0 : wr.cell? ⟨w0.heap.size, 0, none⟩ = some (.int .u32 0)
  r1 : wr.cell? ⟨w0.heap.size, 1, none⟩ = some (.string ⟨#[]⟩)
  f0 : wr.frozen? ⟨w0.heap.size, 0, none⟩ = false
  f1 : wr.frozen? ⟨w0.heap.size, 1, none⟩ = false

theorem CubeSt.next {on off : Nat} {w0 wr w' : World} {wb mb k i : Nat} {v v' : Value} {lo hi : B} (h : CubeSt on off w0 wb mb v k wr) (hW : Work w' wb mb v' (vis (Bd.mk i lo hi) (li (cubeP on off k)))) (fr : Fr (foot wb mb v) wr w') (src : ∀ g, v'.ownBlock = some g → v.ownBlock = some g ∨ wr.heap.size ≤ g)
    (he : vis (Bd.mk i lo hi) (li (cubeP on off k)) = li (cubeP on off (k + 1))) : CubeSt on off w0 wb mb v' (k + 1) w' := by
  obtain ⟨h1, h2, h3, h4, h5, h6, h7⟩ := h
  have n0 : ¬ foot wb mb v w0.heap.size := fun h => by have := h3 _ h; omega
  have l0 := lt_of_cell h4
  simp only at l0
  refine ⟨he ▸ hW, h2.trans fr (fun j hj h => ?_), ?_, fr.cell h4 n0, fr.cell h5 n0, (fr.frozen (p := ⟨w0.heap.size, 0, none⟩) l0 n0).trans h6, (fr.frozen (p := ⟨w0.heap.size, 1, none⟩) l0 n0).trans h7⟩
  · have := h3 j h; omega
  · rintro j (rfl | rfl | hj)
    · exact h3 _ (.inl rfl)
    · exact h3 _ (.inr (.inl rfl))
    · rcases src j hj with h | h
      · exact h3 _ (.inr (.inr h))
      · omega

theorem CubeSt.same {on off : Nat} {w0 wr : World} {wb mb k : Nat} {v : Value} (h : CubeSt on off w0 wb mb v k wr) (he : cubeP on off (k + 1) = cubeP on off k) : CubeSt on off w0 wb mb v (k + 1) wr := by
  obtain ⟨h1, h2, h3, h4, h5, h6, h7⟩ := h
  exact ⟨he ▸ h1, h2, h3, h4, h5, h6, h7⟩

set_option maxRecDepth 100000 in
set_option maxHeartbeats 1000000 in
theorem Cube_any (on off : Nat) (hon : on < 2 ^ 32) (hoff : off < 2 ^ 32) (w : World) : Calls Try.prog 66 #[.int .u32 (on : Int), .int .u32 (off : Int)] w fun e w' => e = .returned (dval (cubeB on off)) ∧ Below w.heap.size w w' := by
  have r0 : (w.alloc (.cells #[.int .u32 0, .string ⟨#[]⟩] 52)).cell? ⟨w.heap.size, 0, none⟩ = some (.int .u32 0) := World.cell?_alloc_at _ _ _ _ (by simp)
  have r1 : (w.alloc (.cells #[.int .u32 0, .string ⟨#[]⟩] 52)).cell? ⟨w.heap.size, 1, none⟩ = some (.string ⟨#[]⟩) := World.cell?_alloc_at _ _ _ _ (by simp)
  have f0 : (w.alloc (.cells #[.int .u32 0, .string ⟨#[]⟩] 52)).frozen? ⟨w.heap.size, 0, none⟩ = false := World.frozen?_alloc_at _ _ _ _ (by simp)
  have f1 : (w.alloc (.cells #[.int .u32 0, .string ⟨#[]⟩] 52)).frozen? ⟨w.heap.size, 1, none⟩ = false := World.frozen?_alloc_at _ _ _ _ (by simp)
  have fr : Fr nob w (w.alloc (.cells #[.int .u32 0, .string ⟨#[]⟩] 52)) := (Fr.refl nob w).alloc _
  have zW : (w.alloc (.cells #[.int .u32 0, .string ⟨#[]⟩] 52)).heap.size = w.heap.size + 1 := World.size_alloc _ _
  have ha : bits BinOp.and IntKind.u32 (bits BinOp.and IntKind.u32 (on : Int) (off : Int)) 16777215 = ((on &&& off &&& 16777215 : Nat) : Int) := by
    rw [and_u32 on off hon hoff]
    exact and_u32 (on &&& off) 16777215 (Nat.lt_of_le_of_lt Nat.and_le_left hon) (by decide)
  have HA := Lib.hid ha
  clear ha
  by_cases hc : on &&& off &&& 16777215 = 0
  · have hb : (bits BinOp.and IntKind.u32 (bits BinOp.and IntKind.u32 (on : Int) (off : Int)) 16777215 != 0) = false := by rw [HA.out, hc]; rfl
    have e : cubeB on off = cubeP on off 24 := if_pos hc
    rw [e]
    clear HA hc e
    go_enter Try.func66, Try.ntmps66
    go_wp2_with fail
    generalize w.alloc (.cells #[.int .u32 0, .string ⟨#[]⟩] 52) = W at *
    refine (newWork_any _).mono ?_
    rintro e w1 ⟨wb, mb, rfl, hW1, fr1, lwb, lmb⟩
    have z1 := fr1.size
    have S0 : CubeSt on off w wb mb (.slice none 0 0) 0 w1 := by
      refine ⟨hW1, (fr.trans fr1 (fun _ _ h => h)).mono (fun _ _ h => h.elim), ?_, fr1.cell r0 (fun h => h), fr1.cell r1 (fun h => h), (fr1.frozen (p := ⟨w.heap.size, 0, none⟩) (by simp; omega) (fun h => h)).trans f0, (fr1.frozen (p := ⟨w.heap.size, 1, none⟩) (by simp; omega) (fun h => h)).trans f1⟩
      rintro j (rfl | rfl | hj)
      · omega
      · omega
      · cases hj
    clear r0 r1 f0 f1 hW1 fr1 lwb lmb fr
    go_wp2_with fail
    go_loopw [6, 16] (fun pv kv wr => ∃ (k : Nat) (v : Value), k ≤ 24 ∧ kv = .int .i64 (k : Int) ∧ pv = .int .u32 (place (li (cubeP on off k)) (cubeP on off k) : Int) ∧ CubeSt on off w wb mb v k wr) (fun _ kv _ => 24 - (intOf kv).toNat)
    case atStart => exact ⟨0, _, Nat.zero_le _, rfl, rfl, S0⟩
    case round =>
      clear S0
      obtain ⟨k, v, hk, rfl, rfl, S⟩ := hrel
      by_cases hlt : k < 24
      · have e23 : ((23 : Int) - (k : Int)) = ((23 - k : Nat) : Int) := by omega
        have b1 := bit_u32 on (23 - k) hon
        have b2 := bit_u32 off (23 - k) hoff
        go_wp2_with fail
        · have hbit : on.testBit (23 - k) = true := by assumption
          have ek : cubeP on off (k + 1) = Bd.mk (23 - k) .F (cubeP on off k) := by rw [cubeP, if_pos hbit]
          have el := li_mk_hi (23 - k) (cubeP on off k)
          refine (node_any' wb mb (23 - k) v _ .F (cubeP on off k) wr S.work (by omega) (inn_F _) (inn_li _) (by rw [el, ← ek]; exact small_li (ok_cubeP0 on off (by omega))) 0 _ rfl rfl).mono ?_
          rintro e w2 ⟨v', rfl, hW2, fr2, src2⟩
          have S2 := S.next hW2 fr2 src2 (by rw [el, ek])
          rw [el, ← ek]
          clear S hW2 fr2 src2 b1 b2 e23
          go_wp2_with fail
          go_roundw
          case rel => exact ⟨k + 1, v', by omega, by go_num, by rw [ek], S2⟩
          case measure => simp [intOf]; omega
        · have hbit0 : on.testBit (23 - k) = false := by assumption
          have hbit : off.testBit (23 - k) = true := by assumption
          have ek : cubeP on off (k + 1) = Bd.mk (23 - k) (cubeP on off k) .F := by rw [cubeP, if_neg (by simp [hbit0]), if_pos hbit]
          have el := li_mk_lo (23 - k) (cubeP on off k)
          refine (node_any' wb mb (23 - k) v _ (cubeP on off k) .F wr S.work (by omega) (inn_li _) (inn_F _) (by rw [el, ← ek]; exact small_li (ok_cubeP0 on off (by omega))) _ 0 rfl rfl).mono ?_
          rintro e w2 ⟨v', rfl, hW2, fr2, src2⟩
          have S2 := S.next hW2 fr2 src2 (by rw [el, ek])
          rw [el, ← ek]
          clear S hW2 fr2 src2 b1 b2 e23
          go_wp2_with fail
          go_roundw
          case rel => exact ⟨k + 1, v', by omega, by go_num, by rw [ek], S2⟩
          case measure => simp [intOf]; omega
        · have hbit0 : on.testBit (23 - k) = false := by assumption
          have hbit : off.testBit (23 - k) = false := by assumption
          have ek : cubeP on off (k + 1) = cubeP on off k := by rw [cubeP, if_neg (by simp [hbit0]), if_neg (by simp [hbit])]
          refine ⟨⟨k + 1, v, by omega, by go_num, by rw [ek], S.same ek⟩, by simp [intOf]; omega⟩
      · obtain rfl : k = 24 := by omega
        go_wp2_with fail
        refine (set_any wb mb v _ (place (li (cubeP on off 24)) (cubeP on off 24)) _ S.work).mono ?_
        rintro e w3 ⟨rfl, hb3⟩
        have fr3 : Fr nob wr w3 := (Fr.refl nob wr).below hb3
        have l0 := lt_of_cell S.r0
        have r03 := fr3.cell S.r0 (fun h => h)
        have r13 := fr3.cell S.r1 (fun h => h)
        have f03 := (fr3.frozen (p := ⟨w.heap.size, 0, none⟩) l0 (fun h => h)).trans S.f0
        have f13 := (fr3.frozen (p := ⟨w.heap.size, 1, none⟩) l0 (fun h => h)).trans S.f1
        have frA := S.fr.trans fr3 (fun _ _ h => h.elim)
        clear S
        go_wp2_with fail
        refine bodyPost_ret (v := dval (cubeP on off 24)) (by simp [results, Try.results66, go_sem, r03, r13]) rfl ⟨rfl, ?_⟩
        exact ((((frA.mono (T := fun j => w.heap.size ≤ j) (fun _ _ h => Nat.le_of_lt h))).setCell (p := ⟨w.heap.size, 0, none⟩) (fun _ => Nat.le_refl _) _).setCell (p := ⟨w.heap.size, 1, none⟩) (fun _ => Nat.le_refl _) _).to_below (Nat.le_refl _) (fun _ h => h)
  · have hb : (bits BinOp.and IntKind.u32 (bits BinOp.and IntKind.u32 (on : Int) (off : Int)) 16777215 != 0) = true := by
      rw [HA.out]; simp; omega
    have e : cubeB on off = .F := if_neg hc
    rw [e]
    clear HA hc e
    go_enter Try.func66, Try.ntmps66
    go_wp2_with fail
    generalize w.alloc (.cells #[.int .u32 0, .string ⟨#[]⟩] 52) = W at *
    refine (False_any _).mono ?_
    rintro e w1 ⟨rfl, hb3⟩
    have fr3 : Fr nob W w1 := (Fr.refl nob W).below hb3
    have r03 := fr3.cell r0 (fun h => h)
    have r13 := fr3.cell r1 (fun h => h)
    have f03 := (fr3.frozen (p := ⟨w.heap.size, 0, none⟩) (lt_of_cell r0) (fun h => h)).trans f0
    have f13 := (fr3.frozen (p := ⟨w.heap.size, 1, none⟩) (lt_of_cell r1) (fun h => h)).trans f1
    have frA := fr.trans fr3 (fun _ _ h => h.elim)
    clear r0 r1 f0 f1
    go_wp2_with fail
    refine bodyPost_ret (v := dval .F) (by simp [results, Try.results66, go_sem, r03, r13]) rfl ⟨rfl, ?_⟩
    exact ((frA.set1 (Nat.le_refl _) _).set1 (Nat.le_refl _) _).to_below (Nat.le_refl _) (fun _ h => h.elim)
end Go.Proofs.Ytaojojjdfdlgpaa.Dg
namespace Go.Proofs.Ytaojojjdfdlgpaa.Dg
open Go.RowKit
open Bd

theorem ev_cubeP24 (on off : Nat) (c : Cfg) : (cubeP on off 24).ev c = true ↔ ∀ i, i < 24 → (on.testBit i = true → c i = true) ∧ (on.testBit i = false → off.testBit i = true → c i = false) := by
  rw [ev_cubeP, cubeEv, List.all_eq_true]
  constructor
  · intro h i hi
    have := h (23 - i) (List.mem_range.2 (by omega))
    rw [show 23 - (23 - i) = i by omega] at this
    refine ⟨fun h1 => by simpa [h1] using this, fun h1 h2 => by simpa [h1, h2] using this⟩
  · intro h j hj
    have := h (23 - j) (by omega)
    cases h1 : on.testBit (23 - j) with
    | true => simp; exact this.1 h1
    | false =>
      cases h2 : off.testBit (23 - j) with
      | true => simp; exact this.2 h1 h2
      | false => simp

set_option maxRecDepth 100000 in
set_option maxHeartbeats 1000000 in
theorem Var_yes (i : Nat) (hi : i < 24) (w : World) : Calls Try.prog 33 #[.int .i64 (i : Int)] w fun e w' => e = .returned (.tuple #[dval (cubeB (2 ^ i) 0), .int .i64 0]) ∧ Below w.heap.size w w' := by
  have r0 : (w.alloc (.cells #[.int .u32 0, .string ⟨#[]⟩] 52)).cell? ⟨w.heap.size, 0, none⟩ = some (.int .u32 0) := World.cell?_alloc_at _ _ _ _ (by simp)
  have r1 : (w.alloc (.cells #[.int .u32 0, .string ⟨#[]⟩] 52)).cell? ⟨w.heap.size, 1, none⟩ = some (.string ⟨#[]⟩) := World.cell?_alloc_at _ _ _ _ (by simp)
  have f0 : (w.alloc (.cells #[.int .u32 0, .string ⟨#[]⟩] 52)).frozen? ⟨w.heap.size, 0, none⟩ = false := World.frozen?_alloc_at _ _ _ _ (by simp)
  have f1 : (w.alloc (.cells #[.int .u32 0, .string ⟨#[]⟩] 52)).frozen? ⟨w.heap.size, 1, none⟩ = false := World.frozen?_alloc_at _ _ _ _ (by simp)
  have fr : Fr nob w (w.alloc (.cells #[.int .u32 0, .string ⟨#[]⟩] 52)) := (Fr.refl nob w).alloc _
  have hi' : (i : Int) < 24 := by omega
  have h2 : 2 ^ i < 2 ^ 24 := Nat.pow_lt_pow_right (by omega) hi
  have h3 : 2 ^ i < 2 ^ 32 := Nat.lt_of_lt_of_le h2 (by decide)
  go_enter Try.func33, Try.ntmps33
  go_wp2_with fail
  generalize w.alloc (.cells #[.int .u32 0, .string ⟨#[]⟩] 52) = W at *
  have e2 : ((2 : Int) ^ i % 4294967296) = ((2 ^ i : Nat) : Int) := by
    rw [show (2 : Int) ^ i = ((2 ^ i : Nat) : Int) by simp]
    generalize 2 ^ i = m at *
    omega
  rw [e2]
  refine (Cube_any (2 ^ i) 0 h3 (by decide) _).mono ?_
  rintro e w1 ⟨rfl, hb3⟩
  have fr3 : Fr nob W w1 := (Fr.refl nob W).below hb3
  have r03 := fr3.cell r0 (fun h => h)
  have r13 := fr3.cell r1 (fun h => h)
  have f03 := (fr3.frozen (p := ⟨w.heap.size, 0, none⟩) (lt_of_cell r0) (fun h => h)).trans f0
  have f13 := (fr3.frozen (p := ⟨w.heap.size, 1, none⟩) (lt_of_cell r1) (fun h => h)).trans f1
  have frA := fr.trans fr3 (fun _ _ h => h.elim)
  clear r0 r1 f0 f1 e2 h2 h3
  go_wp2_with fail
  refine bodyPost_ret (v := .tuple #[dval (cubeB (2 ^ i) 0), .int .i64 0]) (by simp [results, Try.results33, go_sem, r03, r13]) rfl ⟨rfl, ?_⟩
  exact ((frA.set1 (Nat.le_refl _) _).set1 (Nat.le_refl _) _).to_below (Nat.le_refl _) (fun _ h => h.elim)

set_option maxRecDepth 100000 in
set_option maxHeartbeats 1000000 in
theorem Var_no (i : Int) (hi : i < 0 ∨ 24 ≤ i) (w : World) : Calls Try.prog 33 #[.int .i64 i] w fun e w' => e = .returned (.tuple #[dval .F, .int .i64 3]) ∧ Below w.heap.size w w' := by
  have hb : (decide (i < 0) || decide (24 ≤ i)) = true := by simpa using hi
  rcases hi with h | h
  all_goals
    go_enter Try.func33, Try.ntmps33
    go_wp2
    refine bodyPost_ret (v := .tuple #[dval .F, .int .i64 3]) (by simp [results, Try.results33, go_sem, dval]; exact ⟨rfl, rfl⟩) rfl ⟨rfl, ?_⟩
    exact (Below.refl _ _).alloc (Nat.le_refl _) _
end Go.Proofs.Ytaojojjdfdlgpaa.Dg

namespace Go.Proofs.Ytaojojjdfdlgpaa.Dg
open Go.RowKit

/-- append within the capacity, as one step of a region that draws: what lay in the row lies there. -/
theorem step_append_fit {P : Program} {ops : Array Oper} {o : Oper} {a : Act} {w : World} {K : Act → World → Prop} {Q : Exit → Act → World → Prop} {E : Prop}
    (hg : o.guard = none) (s x : Operand) (t : TypeId) (hop : o.op = Op.call { callee := Callee.builtin Builtin.append, args := #[s, x], argTypes := #[t, t] })
    (base : Nat) (e : TypeId) (i : TypeInfo) (size : Nat) (h1 : P.underlying t = some (.slice e)) (h2 : P.info? e = some i) (h4 : i.size = size)
    (g k cap : Nat) (xs : List Value) (hs : a.eval s = .slice (some ⟨g, 0, none⟩) k cap) (hown : w.ownsRow base e size (.slice (some ⟨g, 0, none⟩) k cap) k xs) (ad : Addr) (m c : Nat) (news : List Value) (hx : a.eval x = .slice (some ad) m c) (hn : news.length = m * size)
    (hc : ∀ j u, news[j]? = some u → w.cell? (ad.add j) = some u) (h1c : ∀ u ∈ news, u.oneCell' = true) (b1 : k + m ≤ cap)
    (hK : ∀ w', w'.ownsRow base e size (.slice (some ⟨g, 0, none⟩) (k + m) cap) (k + m) (xs ++ news) → w.grownBy w' (some g) → (∀ j, j < k * size → w'.cell? ⟨g, j, none⟩ = w.cell? ⟨g, j, none⟩) → K (a.put o.dst (.slice (some ⟨g, 0, none⟩) (k + m) cap)) w') :
    if Region.wanted o (yielded ops a.tmps) = true then Oper.wp P o a w K Q else E := by
  have hw : Region.wanted o (yielded ops a.tmps) = true := by simp [Region.wanted, hg]
  rw [if_pos hw]
  obtain ⟨w', hrun, r1, r2⟩ := run_append_fits (P := P) w base t o.type e i size h1 h2 h4 g k cap xs hown ad m c news hn hc h1c b1
  unfold Oper.wp
  simp [execOp, hop, resolve, invoke, builtin, hs, hx, hrun, Result.andThen]
  refine hK w' r1 r2 (fun j hj => ?_)
  have hl : xs.length = k * size := hown.1
  rw [r1.cellAt j (by rw [Nat.add_mul]; omega), hown.cellAt j hj, List.getElem?_append_left (by omega)]

theorem Fr.cell' {S : Nat → Prop} {w w' : World} (h : Fr S w w') {b o : Nat} {v : Value} (hc : w.cell? ⟨b, o, none⟩ = some v) (hS : ¬ S b) : w'.cell? ⟨b, o, none⟩ = some v := h.cell hc hS
theorem one_news (w : World) (v : Value) (t : TypeId) : ∀ j u, [v][j]? = some u → (w.alloc (.cells #[v] t)).cell? ((⟨w.heap.size, 0, none⟩ : Addr).add j) = some u := by
  intro j u h
  match j, h with
  | 0, h => simp at h; subst h; simp [Addr.add]
end Go.Proofs.Ytaojojjdfdlgpaa.Dg

namespace Go.Proofs.Ytaojojjdfdlgpaa.Dg
open Go.RowKit
open Bd

theorem info_U : (Try.prog.info? 49).map (fun i => (i.zero, i.size, i.bytes)) = some (some (.int .u32 0), 1, 4) := by kernel_rfl

/-- the deferred closure, where nothing has panicked -/
theorem foldU_idle (w : World) : CallsD Try.prog 122 #[] .returning w fun e u' w' => e = .returned (.tuple #[]) ∧ u' = .returning ∧ w' = w := by
  refine callsD_of_wpS Try.func122 rfl fun c₀ cs hu => ?_
  apply wpS_region
  simp [wpOpsS, go_sem, recoverD, hu, Try.ntmps122, bodyPostS, results, Try.results122]
  cases c₀
  simp_all

/-- what the loop of Fold keeps, behind k nodes -/
structure FoldStU (A : B) (val : B → Nat) (J : (Nat → Prop) → List B → World → Prop) (ft0 : Nat → Prop) (w0 : World) (gv : Value) (k : Nat) (wr : World) : Prop where
  ex : ∃ ft, J ft ((li A).drop ((li A).length - k)) wr ∧ (∀ g, gv.ownBlock = some g → ¬ ft g) ∧ ∀ j, ft j → ft0 j ∨ w0.heap.size < j
  row : wr.ownsRow 0 49 1 gv (k + 2) (glist (fun b => .int .u32 (val b : Int)) ((li A).drop ((li A).length - k)))
  own : ∀ g, gv.ownBlock = some g → w0.heap.size < g
  fr : Fr ft0 w0 wr
  a0 : wr.cell? ⟨w0.heap.size, 0, none⟩ = some (.int .u32 (place (li A) A : Int))
  a1 : wr.cell? ⟨w0.heap.size, 1, none⟩ = some (.string ⟨(code (rows (li A))).toArray⟩)

structure FoldPU (A : B) (val : B → Nat) (J : (Nat → Prop) → List B → World → Prop) (wb : Nat) : Prop where
  kept : ∀ ft R w w' S, J ft R w → Fr S w w' → (∀ k, ft k → ¬ S k) → J ft R w'
  lt : ∀ ft R w, J ft R w → ∀ k, ft k → k < w.heap.size
  join : ∀ ft R i lo hi w, J ft R w → (B.N i lo hi :: R) <:+ li A → Calls Try.prog 95 #[.pointer (some ⟨wb, 0, none⟩), .int .i64 (i : Int), .int .u32 (val lo : Int), .int .u32 (val hi : Int)] w fun e w' => ∃ ft', e = .returned (.int .u32 (val (.N i lo hi) : Int)) ∧ J ft' (.N i lo hi :: R) w' ∧ Fr ft w w' ∧ ∀ k, ft' k → ft k ∨ w.heap.size ≤ k

section
variable {A : B} {val : B → Nat} {J : (Nat → Prop) → List B → World → Prop} {ft0 : Nat → Prop} {w0 wr w' : World} {gv : Value} {k : Nat} {wb : Nat}
theorem FoldStU.kept (P : FoldPU A val J wb) (h : FoldStU A val J ft0 w0 gv k wr) (fr : Fr nob wr w') : FoldStU A val J ft0 w0 gv k w' := by
  obtain ⟨⟨ft, h1, h2, h3⟩, h4, h5, h6, h7, h8⟩ := h
  exact ⟨⟨ft, P.kept _ _ _ _ _ h1 fr (fun _ _ h => h), h2, h3⟩, fr.row h4 (fun _ _ h => h), h5, h6.trans fr (fun _ _ h => h.elim), fr.cell h7 (fun h => h), fr.cell h8 (fun h => h)⟩

/-- a round: the call, then the append -/
theorem FoldStU.step (P : FoldPU A val J wb) {w1 w2 w3 : World} {ft ft' : Nat → Prop} {R : List B} {i g cap : Nat} {lo hi : B} (_hR : R = (li A).drop ((li A).length - k)) (hR' : B.N i lo hi :: R = (li A).drop ((li A).length - (k + 1)))
    (h1 : FoldStU A val J ft0 w0 gv k w1) (hft : ∀ g, gv.ownBlock = some g → ¬ ft g) (hft0 : ∀ j, ft j → ft0 j ∨ w0.heap.size < j) (_hft1 : ∀ j, ft j → j < w1.heap.size) (hJ : J ft' (B.N i lo hi :: R) w2) (fr : Fr ft w1 w2) (hn : ∀ k, ft' k → ft k ∨ w1.heap.size ≤ k) (hl : w0.heap.size < w1.heap.size)
    (lt0 : ∀ k, ft0 k → k < w0.heap.size) (hrow : w3.ownsRow 0 49 1 (.slice (some ⟨g, 0, none⟩) (k + 2 + 1) cap) (k + 2 + 1) (glist (fun b => .int .u32 (val b : Int)) R ++ [.int .u32 (val (.N i lo hi) : Int)])) (hg : w2.grownBy w3 gv.ownBlock) (hat : gv.ownBlock = some g ∨ w2.heap.size ≤ g) :
    FoldStU A val J ft0 w0 (.slice (some ⟨g, 0, none⟩) (k + 2 + 1) cap) (k + 1) w3 := by
  obtain ⟨_, h4, h5, h6, h7, h8⟩ := h1
  have hsz := fr.size
  have own1 : ∀ g, gv.ownBlock = some g → g < w1.heap.size := fun g hg => (h4.lt g hg).2
  have n0 : ¬ ft w0.heap.size := fun h => by
    rcases hft0 _ h with h | h
    · have := lt0 _ h; omega
    · omega
  have n1 : ∀ g, gv.ownBlock = some g → g ≠ w0.heap.size := fun g hg e => by have := h5 g hg; omega
  have fr3 : Fr (fun j => gv.ownBlock = some j) w2 w3 := (Fr.refl _ w2).grown hg (fun k hk _ => hk)
  refine ⟨⟨ft', ?_, ?_, ?_⟩, ?_, ?_, ?_, ?_, ?_⟩
  · rw [← hR']
    exact P.kept _ _ _ _ _ hJ fr3 (fun j hj hs => by
      rcases hn j hj with h | h
      · exact hft j hs h
      · have := own1 j hs; omega)
  · intro g' hg' hf
    obtain rfl : g = g' := by simpa [Value.ownBlock] using hg'
    rcases hat with h | h
    · rcases hn _ hf with h' | h'
      · exact hft _ h h'
      · have := own1 _ h; omega
    · have := P.lt _ _ _ hJ _ hf; omega
  · intro j hj
    rcases hn j hj with h | h
    · exact hft0 j h
    · exact .inr (by omega)
  · rw [← hR', glist_cons]; exact hrow
  · intro g' hg'
    obtain rfl : g = g' := by simpa [Value.ownBlock] using hg'
    rcases hat with h | h
    · exact h5 _ h
    · omega
  · refine (h6.trans fr (fun j hj h => ?_)).trans fr3 (fun j hj h => ?_)
    · rcases hft0 j h with h | h
      · exact h
      · omega
    · have := h5 j h; omega
  · exact fr3.cell (fr.cell h7 n0) (fun h => n1 _ h rfl)
  · exact fr3.cell (fr.cell h8 n0) (fun h => n1 _ h rfl)
end

set_option maxRecDepth 100000 in
set_option maxHeartbeats 1000000 in
theorem foldU_any (A : B) (hA : A.ok 0) (val : B → Nat) (J : (Nat → Prop) → List B → World → Prop) (wb : Nat) (P : FoldPU A val J wb) (vF vT : Nat) (hvF : val .F = vF) (hvT : val .T = vT)
    (ft0 : Nat → Prop) (w : World) (h0 : J ft0 [] w) :
    Calls Try.prog 101 #[dval A, .int .u32 (vF : Int), .int .u32 (vT : Int), .func (.func 95) #[.pointer (some ⟨wb, 0, none⟩)] #[]] w fun e w' => ∃ ft', e = .returned (.int .u32 (val A : Int)) ∧ J ft' (li A) w' ∧ Fr ft0 w w' ∧ ∀ k, ft' k → ft0 k ∨ w.heap.size ≤ k := by
  obtain ⟨i0, hi0, hz0, hz1, hz2⟩ := info_parts info_U
  have hs := (small_li hA).1
  have hs' : (((li A).length : Nat) : Int) < 2097152 := by omega
  have l0 := P.lt _ _ _ h0
  have h1 := P.kept _ _ _ _ nob h0 ((Fr.refl nob w).alloc (.cells #[.int .u32 (place (li A) A : Int), .string ⟨(code (rows (li A))).toArray⟩] 52)) (fun _ _ h => h)
  have a0 : (w.alloc (.cells #[.int .u32 (place (li A) A : Int), .string ⟨(code (rows (li A))).toArray⟩] 52)).cell? ⟨w.heap.size, 0, none⟩ = some (.int .u32 (place (li A) A : Int)) := World.cell?_alloc_at _ _ _ _ (by simp)
  have a1 : (w.alloc (.cells #[.int .u32 (place (li A) A : Int), .string ⟨(code (rows (li A))).toArray⟩] 52)).cell? ⟨w.heap.size, 1, none⟩ = some (.string ⟨(code (rows (li A))).toArray⟩) := World.cell?_alloc_at _ _ _ _ (by simp)
  have fr : Fr nob w (w.alloc (.cells #[.int .u32 (place (li A) A : Int), .string ⟨(code (rows (li A))).toArray⟩] 52)) := (Fr.refl nob w).alloc _
  have zw : w.heap.size < (w.alloc (.cells #[.int .u32 (place (li A) A : Int), .string ⟨(code (rows (li A))).toArray⟩] 52)).heap.size := by simp
  go_enter_defers Try.func101, Try.ntmps101
  go_wp2_with fail
  generalize w.alloc (.cells #[.int .u32 (place (li A) A : Int), .string ⟨(code (rows (li A))).toArray⟩] 52) = W at *
  refine (size_any A hA _).mono ?_
  rintro e w1 ⟨rfl, hb⟩
  replace fr := fr.below hb
  replace a0 := ((Fr.refl nob W).below hb).cell a0 (fun h => h)
  replace a1 := ((Fr.refl nob W).below hb).cell a1 (fun h => h)
  replace h1 := P.kept _ _ _ _ nob h1 ((Fr.refl nob W).below hb) (fun _ _ h => h)
  replace zw : w.heap.size < w1.heap.size := by have := hb.size; omega
  clear hb h0
  go_wp2_with (at_make; refine wpList_make_own _ rfl _ _ 68 rfl 0 49 i0 (.int .u32 0) 1 Try.underlying68 hi0 hz0 hz1 .i64 .u32 (((li A).length : Int) + 2) ((li A).length + 2) rfl rfl ?c1 ?c2 ?c3 (Nat.zero_le _) ?_)
  case c1 => omega
  case c2 => rw [hz2]; omega
  case c3 => unfold maxLen; omega
  intro w2 row2 gr2
  replace fr := fr.grown gr2 (fun k h => by cases h)
  replace h1 := P.kept _ _ _ _ nob h1 ((Fr.refl nob w1).grown gr2 (fun k h => by cases h)) (fun _ _ h => h)
  replace a0 := gr2.cell a0 (by simp)
  replace a1 := gr2.cell a1 (by simp)
  have ow2 : w.heap.size < w1.heap.size := zw
  have zw2 : w1.heap.size ≤ w2.heap.size := gr2.size

  clear gr2
  go_wp2_with (at_builtin; refine wpList_append_fits _ rfl _ _ 68 rfl 0 49 i0 1 Try.underlying68 hi0 hz1 w1.heap.size 0 ((li A).length + 2) [] rfl (row2.alloc _) ⟨w2.heap.size, 0, none⟩ 2 2 [.int .u32 (vF : Int), .int .u32 (vT : Int)] rfl rfl ?c5 ?c6 ?c7 ?_)
  case c7 => omega
  case c5 =>
    intro j u h
    match j, h with
    | 0, h => simp at h; subst h; simp [Addr.add]
    | 1, h => simp at h; subst h; simp [Addr.add]
  case c6 => simp [Value.oneCell']
  intro w3 row3 gr3
  have fa : Fr nob w2 (w2.alloc (.cells #[.int .u32 (vF : Int), .int .u32 (vT : Int)] 49)) := (Fr.refl nob w2).alloc _
  have fr3 : Fr (fun j => j = w1.heap.size) (w2.alloc (.cells #[.int .u32 (vF : Int), .int .u32 (vT : Int)] 49)) w3 := (Fr.refl _ _).grown gr3 (fun k h _ => by cases h; rfl)
  have lj := P.lt _ _ _ h1
  have S3 : FoldStU A val J ft0 w (.slice (some ⟨w1.heap.size, 0, none⟩) 2 ((li A).length + 2)) 0 w3 := by
    have e0 : (li A).drop ((li A).length - 0) = [] := by simp
    have zz : w.heap.size ≠ w1.heap.size := by omega
    refine ⟨⟨ft0, ?_, ?_, fun j h => .inl h⟩, ?_, ?_, ?_, ?_, ?_⟩
    · rw [e0]
      exact P.kept _ _ _ _ _ (P.kept _ _ _ _ nob h1 fa (fun _ _ h => h)) fr3 (fun j hj h => by have := l0 j hj; omega)
    · intro g hg hf
      obtain rfl : w1.heap.size = g := by simpa [Value.ownBlock] using hg
      have := l0 _ hf; omega
    · rw [e0]
      have e1 : glist (fun b => (.int .u32 (val b : Int) : Value)) ([] : List B) = [.int .u32 (vF : Int), .int .u32 (vT : Int)] := by simp [glist, hvF, hvT]
      rw [e1]; exact row3
    · intro g hg
      obtain rfl : w1.heap.size = g := by simpa [Value.ownBlock] using hg
      omega
    · exact ((fr.trans fa (fun _ _ h => h)).trans' fr3 (fun _ _ h => h.elim) (fun j hj h => by omega))
    · exact fr3.cell (fa.cell a0 (fun h => h)) (fun h => zz h)
    · exact fr3.cell (fa.cell a1 (fun h => h)) (fun h => zz h)
  clear row3 gr3 fa fr3 lj h1 a0 a1 row2 fr
  have a0 := S3.a0
  have a1 := S3.a1
  go_wp2_with fail
  refine (size_any A hA _).mono ?_
  rintro e w4 ⟨rfl, hb⟩
  have S4 := S3.kept P ((Fr.refl nob w3).below hb)
  replace zw : w.heap.size < w4.heap.size := lt_of_cell S4.a0
  clear hb S3 a0 a1
  go_wp2_with fail
  go_loopw [9, 23] (fun gv kv wr => ∃ k : Nat, k ≤ (li A).length ∧ kv = .int .u32 (k : Int) ∧ gv = .slice (some ⟨w1.heap.size, 0, none⟩) (k + 2) ((li A).length + 2) ∧ FoldStU A val J ft0 w (.slice (some ⟨w1.heap.size, 0, none⟩) (k + 2) ((li A).length + 2)) k wr) (fun _ kv _ => (li A).length - (intOf kv).toNat)
  case atStart => exact ⟨0, Nat.zero_le _, rfl, rfl, S4⟩
  case round =>
    clear S4
    obtain ⟨k, hk, rfl, rfl, S⟩ := hrel
    have a0 := S.a0
    have a1 := S.a1
    by_cases hlt : k < (li A).length
    · go_wp2_with fail
      obtain ⟨x, hx, hp, hd⟩ := nth_place (good_li A) hlt
      have h := at_any A x hA (.inr hx) wr
      rw [hp] at h
      refine h.mono ?_
      rintro e w5 ⟨rfl, hb⟩
      clear h a0 a1
      have S5 := S.kept P ((Fr.refl nob wr).below hb)
      clear S hb
      cases x with
      | F => simp [place] at hp
      | T => simp [place] at hp
      | N i lo hi =>
        simp only [rowB, nk, B.top, B.lo, B.hi] at *
        have hgR : good (B.N i lo hi :: (li A).drop ((li A).length - k)) := by rw [← hd]; exact good_suffix (good_li A) (List.drop_suffix _ _)
        obtain ⟨_, hil, hih, _⟩ := hgR
        have hsuf : (li A).drop ((li A).length - k) <:+ li A := List.drop_suffix _ _
        have hlR : ((li A).drop ((li A).length - k)).length = k := by simp; omega
        have pl := place_lt hil
        have ph := place_lt hih
        rw [hlR] at pl ph
        rw [← place_suffix (good_li A) hsuf hil] at pl
        rw [← place_suffix (good_li A) hsuf hih] at ph
        have cl : w5.cell? ⟨w1.heap.size, place (li A) lo, none⟩ = some (.int .u32 (val lo : Int)) := by
          rw [S5.row.cellAt _ (by omega), place_suffix (good_li A) hsuf hil]; exact glist_at _ hil
        have ch : w5.cell? ⟨w1.heap.size, place (li A) hi, none⟩ = some (.int .u32 (val hi : Int)) := by
          rw [S5.row.cellAt _ (by omega), place_suffix (good_li A) hsuf hih]; exact glist_at _ hih
        go_wp2_with fail
        have z15a : w1.heap.size < w5.heap.size := (S5.row.lt _ rfl).2
        have hlt5 : ∀ ft, J ft ((li A).drop ((li A).length - k)) w5 → ∀ j, ft j → j < w5.heap.size := fun ft h => P.lt _ _ _ h
        obtain ⟨ft, hJ5, hf2, hf3⟩ := S5.ex
        replace hlt5 := hlt5 _ hJ5
        have fn : Fr nob w5 (w5.alloc (.cells #[.int .u8 (i : Int), .int .u32 (place (li A) lo : Int), .int .u32 (place (li A) hi : Int)] 124)) := (Fr.refl nob w5).alloc _
        have n0 : (w5.alloc (.cells #[.int .u8 (i : Int), .int .u32 (place (li A) lo : Int), .int .u32 (place (li A) hi : Int)] 124)).cell? ⟨w5.heap.size, 0, none⟩ = some (.int .u8 (i : Int)) := World.cell?_alloc_at _ _ _ _ (by simp)
        have n1 : (w5.alloc (.cells #[.int .u8 (i : Int), .int .u32 (place (li A) lo : Int), .int .u32 (place (li A) hi : Int)] 124)).cell? ⟨w5.heap.size, 1, none⟩ = some (.int .u32 (place (li A) lo : Int)) := World.cell?_alloc_at _ _ _ _ (by simp)
        have n2 : (w5.alloc (.cells #[.int .u8 (i : Int), .int .u32 (place (li A) lo : Int), .int .u32 (place (li A) hi : Int)] 124)).cell? ⟨w5.heap.size, 2, none⟩ = some (.int .u32 (place (li A) hi : Int)) := World.cell?_alloc_at _ _ _ _ (by simp)
        have z6 : w.heap.size < w5.heap.size := lt_of_cell S5.a0
        generalize w5.alloc (.cells #[.int .u8 (i : Int), .int .u32 (place (li A) lo : Int), .int .u32 (place (li A) hi : Int)] 124) = W6 at *
        have S6 := S5.kept P fn
        replace cl := fn.cell cl (fun h => h)
        replace ch := fn.cell ch (fun h => h)
        replace z6 : w.heap.size < W6.heap.size := by have := fn.size; omega
        clear S5
        have hJ := P.kept _ _ _ _ nob hJ5 fn (fun _ _ h => h)
        have row6 := S6.row
        have lt6 := P.lt _ _ _ hJ
        have ng : ¬ ft w1.heap.size := hf2 _ rfl
        have nb : ¬ ft w5.heap.size := fun h => by have := hlt5 _ h; omega
        have hcall := fun W' (h : Fr nob W6 W') => P.join ft _ i lo hi W' (P.kept _ _ _ _ nob hJ h (fun _ _ h => h)) (by rw [← hd]; exact List.drop_suffix _ _)
        have hpl0 : (0 : Int) ≤ (place (li A) lo : Int) := Int.natCast_nonneg _
        have hph0 : (0 : Int) ≤ (place (li A) hi : Int) := Int.natCast_nonneg _
        have hpl1 : (place (li A) lo : Int) < (k : Int) + 2 := by omega
        have hph1 : (place (li A) hi : Int) < (k : Int) + 2 := by omega
        have hpl2 : (place (li A) lo : Int) < ((k + 2 : Nat) : Int) := by omega
        have hph2 : (place (li A) hi : Int) < ((k + 2 : Nat) : Int) := by omega
        have hi24 : i < 24 := ((small_li hA).2 _ hx).2.1
        have z15 : w1.heap.size < w5.heap.size := z15a
        have hiw : IntKind.i64.wrap (i : Int) = (i : Int) := by rw [IntKind.wrap_i64]; omega
        go_region_held3 (fun w' => w'.cell? ⟨w5.heap.size, 0, none⟩ = some (.int .u8 (i : Int)) ∧ w'.cell? ⟨w5.heap.size, 1, none⟩ = some (.int .u32 (place (li A) lo : Int)) ∧ w'.cell? ⟨w5.heap.size, 2, none⟩ = some (.int .u32 (place (li A) hi : Int)) ∧
            w'.cell? ⟨w1.heap.size, place (li A) lo, none⟩ = some (.int .u32 (val lo : Int)) ∧ w'.cell? ⟨w1.heap.size, place (li A) hi, none⟩ = some (.int .u32 (val hi : Int)))
          (first | go_keep | (go_split_ands; exact ⟨x0, x1, x2, x3, x4⟩) | (go_split_ands; exact ⟨y0, y1, y2, y3, y4⟩))
          (first
            | (go_at_call 95
               refine (hcall _ ?_).mono ?_
               · exact (Fr.refl _ _).drew
               rintro e w7 ⟨ft', rfl, hJ7, fr7, hn7⟩
               have x0 := fr7.cell' n0 nb
               have x1 := fr7.cell' n1 nb
               have x2 := fr7.cell' n2 nb
               have x3 := fr7.cell' cl ng
               have x4 := fr7.cell' ch ng)
            | (refine step_append_fit (by rfl) _ _ _ (by rfl) 0 49 i0 1 Try.underlying68 hi0 hz1 w1.heap.size (k + 2) ((li A).length + 2) _ (by rfl) ((fr7.row row6.drew (fun g hg => by cases hg; exact ng)).alloc _) ⟨w7.heap.size, 0, none⟩ 1 1 [.int .u32 (val (.N i lo hi) : Int)] (by rfl) (by rfl) (one_news _ _ _) (by simp [Value.oneCell']) (by omega) ?_
               intro w8 row8 gr8 keep8
               have y0 := gr8.cell (cell_alloc_l x0 _) (by simp; omega)
               have y1 := gr8.cell (cell_alloc_l x1 _) (by simp; omega)
               have y2 := gr8.cell (cell_alloc_l x2 _) (by simp; omega)
               have y3 := (keep8 _ (by omega)).trans (cell_alloc_l x3 _)
               have y4 := (keep8 _ (by omega)).trans (cell_alloc_l x4 _)))
        clear x0 x1 x2 x3 x4 y0 y1 y2 y3 y4 n0 n1 n2 cl ch hcall
        have fr7' : Fr ft W6 w7 := ((Fr.refl ft W6).drew).trans fr7 (fun _ _ h => h)
        have S8 := S6.step P rfl hd.symm hf2 hf3 (fun j hj => by have := lt6 j hj; omega) (P.kept _ _ _ _ nob hJ7 ((Fr.refl nob w7).alloc _) (fun _ _ h => h)) (fr7'.alloc (.cells #[.int .u32 (val (.N i lo hi) : Int)] 49)) hn7 z6 l0 row8 gr8 (.inl rfl)
        clear S6 row8 gr8 keep8 fr7 fr7' hn7 hJ7 hJ5 hJ fn hf2 hf3 row6
        go_wp2_with fail
        go_roundw
        case rel => exact ⟨k + 1, by omega, by go_num, rfl, S8⟩
        case measure => simp [intOf]; omega
    · obtain rfl : k = (li A).length := by omega
      have e0 : (li A).drop ((li A).length - (li A).length) = li A := by simp
      have hpA := place_lt (inn_li A)
      have hc : wr.cell? ⟨w1.heap.size, place (li A) A, none⟩ = some (.int .u32 (val A : Int)) := by
        have h := S.row
        rw [e0] at h
        exact (h.cellAt (place (li A) A) (by omega)).trans (glist_at _ (inn_li A))
      obtain ⟨ft, hJ, h2, h3⟩ := S.ex
      have hfr := S.fr
      rw [e0] at hJ
      clear S e0
      go_wp2_with fail
      refine leaves_cons (f := 122) (args := #[]) (by simp) (by simp [go_sem]) ?_
      refine (foldU_idle _).mono ?_
      rintro e u' w'' ⟨rfl, rfl, rfl⟩
      exact ⟨_, results_tmp rfl _ _ _, ft, rfl, hJ, hfr, fun j hj => (h3 j hj).imp id (by omega)⟩
end Go.Proofs.Ytaojojjdfdlgpaa.Dg
namespace Go.Proofs.Ytaojojjdfdlgpaa.Dg
open Go.RowKit
open Bd

/-- the place of the complement in its own listing -/
def negP (A b : B) : Nat := place ((li A).map B.neg) b.neg
def NegJ (wb mb : Nat) (ft : Nat → Prop) (R : List B) (w : World) : Prop := ∃ v, Work w wb mb v (R.map B.neg) ∧ ft = foot wb mb v

theorem map_suffix {R S : List B} (h : R <:+ S) : R.map B.neg <:+ S.map B.neg := by
  obtain ⟨t, rfl⟩ := h
  exact ⟨t.map B.neg, by simp⟩

theorem vis_node_neg {R : List B} {i : Nat} {lo hi : B} (hg : good (B.N i lo hi :: R)) (hne : lo ≠ hi) : vis (mk i lo.neg hi.neg) (R.map B.neg) = (B.N i lo hi :: R).map B.neg ∧ mk i lo.neg hi.neg = (B.N i lo hi).neg := by
  obtain ⟨hn, hl, hh, hR⟩ := hg
  have e : mk i lo.neg hi.neg = .N i lo.neg hi.neg := by rw [mk, if_neg (fun h => hne (neg_inj h))]
  have hn' : B.N i lo.neg hi.neg ∉ R.map B.neg := fun h => hn (mem_neg (b := .N i lo hi).1 h)
  refine ⟨?_, e⟩
  rw [vis_mk (good_neg hR), vis_inn (inn_neg hl), vis_inn (inn_neg hh), if_neg (fun h => hne (neg_inj h)), if_neg hn']
  rfl

theorem negP_join (A : B) (hA : A.ok 0) (wb mb : Nat) : FoldPU A (negP A) (NegJ wb mb) wb := by
  refine ⟨?_, ?_, ?_⟩
  · rintro ft R w w' S ⟨v, hW, rfl⟩ fr hS
    exact ⟨v, hW.kept fr hS, rfl⟩
  · rintro ft R w ⟨v, hW, rfl⟩ k hk
    exact hW.foot_lt k hk
  · rintro ft R i lo hi w ⟨v, hW, rfl⟩ hs
    have hg := good_suffix (good_li A) hs
    have hsm := small_suffix hs (small_li hA)
    obtain ⟨hn, hl, hh, hR⟩ := hg
    have ho : (B.N i lo hi).ok 0 := hsm.2 _ List.mem_cons_self
    have hne : lo ≠ hi := ho.2.2.1
    obtain ⟨e1, e2⟩ := vis_node_neg ⟨hn, hl, hh, hR⟩ hne
    have hsR : R <:+ li A := (List.suffix_cons _ _).trans hs
    have gA := good_neg (good_li A)
    refine (node_any' wb mb i v (R.map B.neg) lo.neg hi.neg w hW ho.2.1 (inn_neg hl) (inn_neg hh) (by rw [e1]; exact small_neg hsm) (negP A lo) (negP A hi) (place_suffix gA (map_suffix hsR) (inn_neg hl)) (place_suffix gA (map_suffix hsR) (inn_neg hh))).mono ?_
    rintro e w' ⟨v', rfl, hW', fr, src⟩
    rw [e1] at hW' ⊢
    rw [e2]
    refine ⟨foot wb mb v', ?_, ⟨v', hW', rfl⟩, fr, ?_⟩
    · rw [← place_suffix gA (map_suffix hs) (inn_neg (.inr List.mem_cons_self))]; rfl
    · rintro k (rfl | rfl | hk)
      · exact .inl (.inl rfl)
      · exact .inl (.inr (.inl rfl))
      · rcases src k hk with h | h
        · exact .inl (.inr (.inr h))
        · exact .inr h

set_option maxRecDepth 100000 in
set_option maxHeartbeats 1000000 in
theorem Not_any (A : B) (hA : A.ok 0) (w : World) : Calls Try.prog 68 #[dval A] w fun e w' => e = .returned (dval A.neg) ∧ Below w.heap.size w w' := by
  have hmf : ∀ (fn : Fn) (first cap : Array Value) (w : World), (Instr.makeFunc fn first cap).run Try.prog w = .ok (.func fn first cap) w := fun _ _ _ _ => rfl
  have hs := (small_li hA).1
  go_enter Try.func68, Try.ntmps68
  go_wp2_with fail
  refine (newWork_any _).mono ?_
  rintro e w1 ⟨wb, mb, rfl, hW1, fr1, lwb, lmb⟩
  have z1 := fr1.size
  simp only [World.size_alloc] at z1 lwb lmb
  have c0 : w1.cell? ⟨w.heap.size, 0, none⟩ = some (.int .u32 (place (li A) A : Int)) := fr1.cell (cell_alloc_l (World.cell?_alloc_at _ _ _ _ (by simp)) _) (fun h => h)
  have c1 : w1.cell? ⟨w.heap.size, 1, none⟩ = some (.string ⟨(code (rows (li A))).toArray⟩) := fr1.cell (cell_alloc_l (World.cell?_alloc_at _ _ _ _ (by simp)) _) (fun h => h)
  have r0 : w1.cell? ⟨w.heap.size + 1, 0, none⟩ = some (.int .u32 0) := fr1.cell (World.cell?_alloc_at _ _ _ _ (by simp)) (fun h => h)
  have r1 : w1.cell? ⟨w.heap.size + 1, 1, none⟩ = some (.string ⟨#[]⟩) := fr1.cell (World.cell?_alloc_at _ _ _ _ (by simp)) (fun h => h)
  have f0 : w1.frozen? ⟨w.heap.size + 1, 0, none⟩ = false := (fr1.frozen (p := ⟨w.heap.size + 1, 0, none⟩) (by simp) (fun h => h)).trans (World.frozen?_alloc_at _ _ _ _ (by simp))
  have f1 : w1.frozen? ⟨w.heap.size + 1, 1, none⟩ = false := (fr1.frozen (p := ⟨w.heap.size + 1, 1, none⟩) (by simp) (fun h => h)).trans (World.frozen?_alloc_at _ _ _ _ (by simp))
  have frw : Fr nob w w1 := (((Fr.refl nob w).alloc _).alloc _).trans fr1 (fun _ _ h => h)
  have hlt1 := hW1.foot_lt
  go_wp2_with fail
  refine (foldU_any A hA (negP A) (NegJ wb mb) wb (negP_join A hA wb mb) 1 0 rfl rfl (foot wb mb (.slice none 0 0)) _ ⟨_, hW1, rfl⟩).mono ?_
  rintro e w2 ⟨ft, rfl, ⟨v2, hW2, rfl⟩, fr2, hn2⟩
  have nf : ∀ k, k < w.heap.size + 2 → ¬ foot wb mb (.slice none 0 0) k := by
    rintro k hk (h | h | h)
    · omega
    · omega
    · cases h
  have fr12 := frw.trans' fr2 (T := fun k => w.heap.size ≤ k) (fun _ _ h => h.elim) (fun k hk h => absurd h (nf k (by omega)))
  have r02 := fr2.cell r0 (nf _ (by simp))
  have r12 := fr2.cell r1 (nf _ (by simp))
  have f02 := (fr2.frozen (p := ⟨w.heap.size + 1, 0, none⟩) (by simp; omega) (nf _ (by simp))).trans f0
  have f12 := (fr2.frozen (p := ⟨w.heap.size + 1, 1, none⟩) (by simp; omega) (nf _ (by simp))).trans f1
  have z2 := fr2.size
  clear c0 c1 r0 r1 f0 f1 hn2
  rw [← li_neg] at hW2
  go_wp2_with fail
  refine (set_any wb mb v2 _ (negP A A) _ hW2).mono ?_
  rintro e w3 ⟨rfl, hb3⟩
  have fr3 : Fr nob w2 w3 := (Fr.refl nob w2).below hb3
  have r03 := fr3.cell r02 (fun h => h)
  have r13 := fr3.cell r12 (fun h => h)
  have f03 := (fr3.frozen (p := ⟨w.heap.size + 1, 0, none⟩) (by simp; omega) (fun h => h)).trans f02
  have f13 := (fr3.frozen (p := ⟨w.heap.size + 1, 1, none⟩) (by simp; omega) (fun h => h)).trans f12
  clear r02 r12 f02 f12
  have eP : negP A A = place (li A.neg) A.neg := by rw [li_neg]; rfl
  go_wp2_with fail
  refine bodyPost_ret (v := dval A.neg) (by simp [results, Try.results68, go_sem, r03, r13]) rfl ⟨rfl, ?_⟩
  exact (((fr12.trans fr3 (fun _ _ h => h.elim)).setCell (p := ⟨w.heap.size + 1, 0, none⟩) (by simp) _).setCell (p := ⟨w.heap.size + 1, 1, none⟩) (by simp) _).to_below (Nat.le_refl _) (fun _ h => h)
end Go.Proofs.Ytaojojjdfdlgpaa.Dg
namespace Go.Proofs.Ytaojojjdfdlgpaa.Dg
open Go.RowKit
open Bd

set_option maxRecDepth 100000 in
set_option maxHeartbeats 400000 in
theorem Xor_any (A B' : B) (hA : A.ok 0) (hB : B'.ok 0) (w : World) : Calls Try.prog 34 #[dval A, dval B'] w fun e w' => e = .returned (dval (ite A B'.neg B')) ∧ Below w.heap.size w w' := by
  have a0 := cell_alloc_l (cell_alloc_l (World.cell?_alloc_at _ _ _ _ (by simp) : (w.alloc (.cells #[.int .u32 (place (li A) A : Int), .string ⟨(code (rows (li A))).toArray⟩] 52)).cell? ⟨w.heap.size, 0, none⟩ = some (.int .u32 (place (li A) A : Int))) (.cells #[.int .u32 (place (li B') B' : Int), .string ⟨(code (rows (li B'))).toArray⟩] 52)) (.cells #[.int .u32 0, .string ⟨#[]⟩] 52)
  have a1 := cell_alloc_l (cell_alloc_l (World.cell?_alloc_at _ _ _ _ (by simp) : (w.alloc (.cells #[.int .u32 (place (li A) A : Int), .string ⟨(code (rows (li A))).toArray⟩] 52)).cell? ⟨w.heap.size, 1, none⟩ = some (.string ⟨(code (rows (li A))).toArray⟩)) (.cells #[.int .u32 (place (li B') B' : Int), .string ⟨(code (rows (li B'))).toArray⟩] 52)) (.cells #[.int .u32 0, .string ⟨#[]⟩] 52)
  have b0 := cell_alloc_l (World.cell?_alloc_at _ _ _ _ (by simp) : (((w.alloc (.cells #[.int .u32 (place (li A) A : Int), .string ⟨(code (rows (li A))).toArray⟩] 52)).alloc (.cells #[.int .u32 (place (li B') B' : Int), .string ⟨(code (rows (li B'))).toArray⟩] 52)).cell? ⟨w.heap.size + 1, 0, none⟩ = some (.int .u32 (place (li B') B' : Int)))) (.cells #[.int .u32 0, .string ⟨#[]⟩] 52)
  have b1 := cell_alloc_l (World.cell?_alloc_at _ _ _ _ (by simp) : (((w.alloc (.cells #[.int .u32 (place (li A) A : Int), .string ⟨(code (rows (li A))).toArray⟩] 52)).alloc (.cells #[.int .u32 (place (li B') B' : Int), .string ⟨(code (rows (li B'))).toArray⟩] 52)).cell? ⟨w.heap.size + 1, 1, none⟩ = some (.string ⟨(code (rows (li B'))).toArray⟩))) (.cells #[.int .u32 0, .string ⟨#[]⟩] 52)
  have fr := ((Fr.refl nob w).alloc (.cells #[.int .u32 (place (li A) A : Int), .string ⟨(code (rows (li A))).toArray⟩] 52)).alloc (.cells #[.int .u32 (place (li B') B' : Int), .string ⟨(code (rows (li B'))).toArray⟩] 52) |>.alloc (.cells #[.int .u32 0, .string ⟨#[]⟩] 52)
  have r0 : ((((w.alloc (.cells #[.int .u32 (place (li A) A : Int), .string ⟨(code (rows (li A))).toArray⟩] 52)).alloc (.cells #[.int .u32 (place (li B') B' : Int), .string ⟨(code (rows (li B'))).toArray⟩] 52)).alloc (.cells #[.int .u32 0, .string ⟨#[]⟩] 52))).cell? ⟨w.heap.size + 1 + 1, 0, none⟩ = some (.int .u32 0) := World.cell?_alloc_at _ _ _ _ (by simp)
  have r1 : ((((w.alloc (.cells #[.int .u32 (place (li A) A : Int), .string ⟨(code (rows (li A))).toArray⟩] 52)).alloc (.cells #[.int .u32 (place (li B') B' : Int), .string ⟨(code (rows (li B'))).toArray⟩] 52)).alloc (.cells #[.int .u32 0, .string ⟨#[]⟩] 52))).cell? ⟨w.heap.size + 1 + 1, 1, none⟩ = some (.string ⟨#[]⟩) := World.cell?_alloc_at _ _ _ _ (by simp)
  have f0 : ((((w.alloc (.cells #[.int .u32 (place (li A) A : Int), .string ⟨(code (rows (li A))).toArray⟩] 52)).alloc (.cells #[.int .u32 (place (li B') B' : Int), .string ⟨(code (rows (li B'))).toArray⟩] 52)).alloc (.cells #[.int .u32 0, .string ⟨#[]⟩] 52))).frozen? ⟨w.heap.size + 1 + 1, 0, none⟩ = false := World.frozen?_alloc_at _ _ _ _ (by simp)
  have f1 : ((((w.alloc (.cells #[.int .u32 (place (li A) A : Int), .string ⟨(code (rows (li A))).toArray⟩] 52)).alloc (.cells #[.int .u32 (place (li B') B' : Int), .string ⟨(code (rows (li B'))).toArray⟩] 52)).alloc (.cells #[.int .u32 0, .string ⟨#[]⟩] 52))).frozen? ⟨w.heap.size + 1 + 1, 1, none⟩ = false := World.frozen?_alloc_at _ _ _ _ (by simp)
  go_enter Try.func34, Try.ntmps34
  go_wp2_with fail
  refine wp_region_grow' 5 10 (fun _ => #[]) [] (by kernel_rfl) (by kernel_rfl) rfl rfl (by intro T h; cases h) ?_
  generalize (((w.alloc (.cells #[.int .u32 (place (li A) A : Int), .string ⟨(code (rows (li A))).toArray⟩] 52)).alloc (.cells #[.int .u32 (place (li B') B' : Int), .string ⟨(code (rows (li B'))).toArray⟩] 52)).alloc (.cells #[.int .u32 0, .string ⟨#[]⟩] 52)) = W at *
  simp only [List.take_succ_cons, List.take_zero]
  refine grow_step (v := ?v0) rfl rfl ?a0 ?b0
  case a0 =>
    intro w' hw'
    have y_a0 := hw'.cell a0 (fun h => h)
    have y_a1 := hw'.cell a1 (fun h => h)
    clear hw'
    refine growAt_value ?_
    go_simp
    rfl
  simp only [Act.put, List.setIfInBounds_toArray, List.set_cons_zero, List.set_cons_succ]
  refine grow_step (v := ?v1) rfl rfl ?a1 ?b1
  case a1 =>
    intro w' hw'
    have y_b0 := hw'.cell b0 (fun h => h)
    have y_b1 := hw'.cell b1 (fun h => h)
    clear hw'
    refine growAt_value ?_
    go_simp
    rfl
  simp only [Act.put, List.setIfInBounds_toArray, List.set_cons_zero, List.set_cons_succ]
  refine grow_step (v := dval B'.neg) rfl rfl ?a2 ?b2
  case a2 =>
    intro w' hw'
    refine growAt_call ?_ ((Not_any B' hB w').mono fun e w'' ⟨he, hb⟩ => ⟨he, (Fr.refl nob _).below hb⟩)
    go_simp
  simp only [Act.put, List.setIfInBounds_toArray, List.set_cons_zero, List.set_cons_succ]
  refine grow_step (v := ?v3) rfl rfl ?a3 ?b3
  case a3 =>
    intro w' hw'
    have y_b0 := hw'.cell b0 (fun h => h)
    have y_b1 := hw'.cell b1 (fun h => h)
    clear hw'
    refine growAt_value ?_
    go_simp
    rfl
  simp only [Act.put, List.setIfInBounds_toArray, List.set_cons_zero, List.set_cons_succ]
  refine grow_step (v := dval (ite A B'.neg B')) rfl rfl ?a4 ?b4
  case a4 =>
    intro w' hw'
    refine growAt_call ?_ ((Ite_any A B'.neg B' hA (ok_neg hB) hB w').mono fun e w'' ⟨he, hb⟩ => ⟨he, (Fr.refl nob _).below hb⟩)
    go_simp
  simp only [Act.put, List.setIfInBounds_toArray, List.set_cons_zero, List.set_cons_succ]
  refine grow_nil ?_
  intro w2 listed fr2 _ _
  have r02 := fr2.cell r0 (fun h => h)
  have r12 := fr2.cell r1 (fun h => h)
  have l0 := lt_of_cell r0
  have f02 := (fr2.frozen (p := ⟨w.heap.size + 1 + 1, 0, none⟩) l0 (fun h => h)).trans f0
  have f12 := (fr2.frozen (p := ⟨w.heap.size + 1 + 1, 1, none⟩) l0 (fun h => h)).trans f1
  have G := fr.trans fr2 (fun _ _ h => h)
  clear a0 a1 b0 b1 fr fr2 r0 r1 f0 f1
  go_wp2_with fail
  refine bodyPost_ret (v := dval (ite A B'.neg B')) (by simp [results, Try.results34, go_sem, r02, r12]) rfl ⟨rfl, ?_⟩
  exact ((G.set1 (by omega) _).set1 (by omega) _).to_below (Nat.le_refl _) (fun _ h => h.elim)

end Go.Proofs.Ytaojojjdfdlgpaa.Dg

namespace Go.Proofs.Ytaojojjdfdlgpaa
open Go.RowKit Uq

/-! clauses as sets -/
theorem ev_cubeAll (on off : Nat) (c : Nat → Bool) : (Dg.cubeB on off).ev c = true ↔ ∀ i, i < 24 → (on.testBit i = true → c i = true) ∧ (off.testBit i = true → c i = false) := by
  unfold Dg.cubeB
  by_cases h : on &&& off &&& 16777215 = 0
  · rw [if_pos h, Dg.ev_cubeP24]
    have hno : ∀ i, i < 24 → ¬ (on.testBit i = true ∧ off.testBit i = true) := fun i hi ⟨h1, h2⟩ => by
      have h3 : (on &&& off &&& 16777215).testBit i = true := by
        rw [Nat.testBit_and, Nat.testBit_and, h1, h2, show (16777215 : Nat) = 2 ^ 24 - 1 by decide, Nat.testBit_two_pow_sub_one]; simpa using hi
      rw [h, Nat.zero_testBit] at h3; cases h3
    constructor
    · intro hh i hi
      refine ⟨(hh i hi).1, fun ho => (hh i hi).2 ?_ ho⟩
      cases hb : on.testBit i with
      | false => rfl
      | true => exact absurd ⟨hb, ho⟩ (hno i hi)
    · exact fun hh i hi => ⟨(hh i hi).1, fun _ => (hh i hi).2⟩
  · rw [if_neg h]
    constructor
    · intro hh; cases hh
    · intro hh
      exfalso
      apply h
      refine Nat.eq_of_testBit_eq fun i => ?_
      rw [Nat.zero_testBit, Nat.testBit_and, Nat.testBit_and, show (16777215 : Nat) = 2 ^ 24 - 1 by decide, Nat.testBit_two_pow_sub_one]
      cases h1 : on.testBit i <;> cases h2 : off.testBit i <;> simp
      refine Classical.byContradiction fun h3 => ?_
      have hi : i < 24 := by omega
      have a := (hh i hi).1 h1
      have b := (hh i hi).2 h2
      rw [a] at b; cases b
def onM (c : List Int) : Nat := c.foldl (fun m y => if 0 < y then m else m ||| 2 ^ (y.natAbs - 1)) 0
def offM (c : List Int) : Nat := c.foldl (fun m y => if 0 < y then m ||| 2 ^ (y.natAbs - 1) else m) 0
def litE (f : Nat → Bool) (y : Int) : Bool := f (y.natAbs - 1) == decide (0 < y)
theorem onM_take {c : List Int} {k : Nat} {y : Int} (h : c[k]? = some y) : onM (c.take (k + 1)) = if 0 < y then onM (c.take k) else onM (c.take k) ||| 2 ^ (y.natAbs - 1) := by
  unfold onM
  rw [List.take_add_one, h]
  show List.foldl _ 0 (c.take k ++ [y]) = _
  rw [List.foldl_append]
  rfl
theorem offM_take {c : List Int} {k : Nat} {y : Int} (h : c[k]? = some y) : offM (c.take (k + 1)) = if 0 < y then offM (c.take k) ||| 2 ^ (y.natAbs - 1) else offM (c.take k) := by
  unfold offM
  rw [List.take_add_one, h]
  show List.foldl _ 0 (c.take k ++ [y]) = _
  rw [List.foldl_append]
  rfl
theorem fold_bit (p : Int → Bool) (i : Nat) : ∀ (c : List Int) (m : Nat), (c.foldl (fun m y => if p y = true then m ||| 2 ^ (y.natAbs - 1) else m) m).testBit i = (m.testBit i || c.any fun y => p y && decide (y.natAbs - 1 = i))
  | [], m => by simp
  | y :: c, m => by
    rw [List.foldl_cons, fold_bit p i c, List.any_cons]
    cases hp : p y with
    | true =>
      rw [if_pos rfl, Nat.testBit_or, Nat.testBit_two_pow, Bool.or_assoc, Bool.true_and]
    | false =>
      rw [if_neg (by simp), Bool.false_and, Bool.false_or]
theorem offM_bit (c : List Int) (i : Nat) : (offM c).testBit i = c.any fun y => decide (0 < y) && decide (y.natAbs - 1 = i) := by
  have := fold_bit (fun y => decide (0 < y)) i c 0
  rw [Nat.zero_testBit, Bool.false_or] at this
  rw [← this]
  unfold offM
  simp only [decide_eq_true_eq]
theorem onM_bit (c : List Int) (i : Nat) : (onM c).testBit i = c.any fun y => !decide (0 < y) && decide (y.natAbs - 1 = i) := by
  have := fold_bit (fun y => !decide (0 < y)) i c 0
  rw [Nat.zero_testBit, Bool.false_or] at this
  rw [← this]
  unfold onM
  congr 2
  funext m y
  by_cases h : 0 < y <;> simp [h]
theorem mask_lt {c : List Int} (hL : ∀ x ∈ c, Ltr x) : onM c < 2 ^ 24 ∧ offM c < 2 ^ 24 := by
  refine ⟨Nat.lt_pow_two_of_testBit _ fun i hi => ?_, Nat.lt_pow_two_of_testBit _ fun i hi => ?_⟩
  · rw [onM_bit, List.any_eq_false]
    intro y hy
    have := hL y hy
    unfold Ltr at this
    have h2 : ¬ y.natAbs - 1 = i := by omega
    simp [h2]
  · rw [offM_bit, List.any_eq_false]
    intro y hy
    have := hL y hy
    unfold Ltr at this
    have h2 : ¬ y.natAbs - 1 = i := by omega
    simp [h2]
noncomputable def clB (c : List Int) : Dg.Bd.B := (Dg.cubeB (onM c) (offM c)).neg
theorem ok_clB (c : List Int) : (clB c).ok 0 := Dg.Bd.ok_neg (Dg.ok_cubeB _ _)
theorem ev_clB {c : List Int} (hL : ∀ x ∈ c, Ltr x) (f : Nat → Bool) : (clB c).ev f = c.any (litE f) := by
  unfold clB
  rw [Dg.Bd.ev_neg]
  have h := ev_cubeAll (onM c) (offM c) f
  have h2 : (Dg.cubeB (onM c) (offM c)).ev f = true ↔ c.any (litE f) = false := by
    rw [h, List.any_eq_false]
    constructor
    · intro hh y hy
      have hl := hL y hy
      unfold Ltr at hl
      obtain ⟨h3, h4⟩ := hh (y.natAbs - 1) (by omega)
      unfold litE
      by_cases hp : 0 < y
      · have := h4 (by rw [offM_bit, List.any_eq_true]; exact ⟨y, hy, by simp [hp]⟩)
        rw [this]; simp [hp]
      · have := h3 (by rw [onM_bit, List.any_eq_true]; exact ⟨y, hy, by simp [hp]⟩)
        rw [this]; simp [hp]
    · intro hh i hi
      refine ⟨fun ho => ?_, fun ho => ?_⟩
      · rw [onM_bit, List.any_eq_true] at ho
        obtain ⟨y, hy, he⟩ := ho
        simp only [Bool.and_eq_true, Bool.not_eq_true', decide_eq_false_iff_not, decide_eq_true_eq] at he
        have := hh y hy
        unfold litE at this
        rw [he.2] at this
        have h5 : decide (0 < y) = false := by simpa using he.1
        rw [h5] at this
        cases hf : f i with
        | true => rfl
        | false => rw [hf] at this; simp at this
      · rw [offM_bit, List.any_eq_true] at ho
        obtain ⟨y, hy, he⟩ := ho
        simp only [Bool.and_eq_true, decide_eq_true_eq] at he
        have := hh y hy
        unfold litE at this
        rw [he.2] at this
        have h5 : decide (0 < y) = true := by simpa using he.1
        rw [h5] at this
        cases hf : f i with
        | false => rfl
        | true => rw [hf] at this; simp at this
  cases hq : (Dg.cubeB (onM c) (offM c)).ev f with
  | true => rw [h2.1 hq]; rfl
  | false =>
    cases hc : c.any (litE f) with
    | true => rfl
    | false => rw [h2.2 hc] at hq; cases hq
/-! a set in a box of its own -/
structure Bx (w : World) (g : Nat) (a b : Value) : Prop where
  c0 : w.cell? ⟨g, 0, none⟩ = some a
  c1 : w.cell? ⟨g, 1, none⟩ = some b
  fr : ∀ o, w.frozen? ⟨g, o, none⟩ = false
theorem Bx.new (w : World) (a b : Value) (T : TypeId) : Bx (w.alloc (.cells #[a, b] T)) w.heap.size a b := by
  have hb := heap_alloc_new w (.cells #[a, b] T)
  exact ⟨by rw [Lib.cell_of_heap hb]; rfl, by rw [Lib.cell_of_heap hb]; rfl, fun o => by unfold World.frozen?; rw [hb]; rfl⟩
theorem Bx.lt {w : World} {g : Nat} {a b : Value} (h : Bx w g a b) : g < w.heap.size := lt_of_cell h.c0
theorem Bx.kept {S : Nat → Prop} {w w' : World} {g : Nat} {a b : Value} (h : Bx w g a b) (f : Fr S w w') (hS : ¬ S g) : Bx w' g a b :=
  ⟨f.cell h.c0 hS, f.cell h.c1 hS, fun o => (f.frozen (p := ⟨g, o, none⟩) h.lt hS).trans (h.fr o)⟩
theorem Bx.set {w : World} {g : Nat} {a b : Value} (h : Bx w g a b) (x y : Value) : Bx ((w.setCell ⟨g, 0, none⟩ x).setCell ⟨g, 1, none⟩ y) g x y ∧ Fr (fun k => k = g) w ((w.setCell ⟨g, 0, none⟩ x).setCell ⟨g, 1, none⟩ y) := by
  have h1 : (w.setCell ⟨g, 0, none⟩ x).cell? ⟨g, 1, none⟩ = some b := by
    rw [World.cell?_setCell_other (h := by intro e; injection e with _ e2 _; exact absurd e2 (by decide))]; exact h.c1
  refine ⟨⟨?_, World.cell?_setCell_same' _ _ _ (by rw [h1]; rfl), fun o => ?_⟩, (fr_store w g 0 x).trans (fr_store _ g 1 y) (fun _ _ h => h)⟩
  · rw [World.cell?_setCell_other (h := by intro e; injection e with _ e2 _; exact absurd e2 (by decide))]
    exact World.cell?_setCell_same' _ _ _ (by rw [h.c0]; rfl)
  · rw [World.frozen?_setCell, World.frozen?_setCell]; exact h.fr o
theorem dform (A : Dg.Bd.B) : ∃ (p : Int) (s : ByteArray), Dg.dval A = .agg #[.int .u32 p, .string s] := ⟨_, _, rfl⟩
theorem wraps32' (n : Int) (h₀ : 0 ≤ n) (h₁ : n < 2 ^ 32) : IntKind.u32.wrap n = n := by rw [IntKind.wrap_u32]; omega
theorem or_mask {a k : Nat} (hk : k < 24) (ha : a < 2 ^ 24) : bits BinOp.or IntKind.u32 (a : Int) ((2 : Int) ^ k % 4294967296) = ((a ||| 2 ^ k : Nat) : Int) := by
  have h2 : 2 ^ k < 2 ^ 24 := Nat.pow_lt_pow_right (by omega) hk
  have e : (2 : Int) ^ k % 4294967296 = ((2 ^ k : Nat) : Int) := by
    rw [show (2 : Int) ^ k = ((2 ^ k : Nat) : Int) by simp]
    generalize 2 ^ k = m at *
    omega
  rw [e]
  exact (bits_nat .u32 32 (by decide) wraps32' a (2 ^ k) (by omega) (by omega)).2
theorem mask_take {c : List Int} (hL : ∀ x ∈ c, Ltr x) (k : Nat) : onM (c.take k) < 2 ^ 24 ∧ offM (c.take k) < 2 ^ 24 := mask_lt fun x hx => hL x (List.mem_of_mem_take hx)
set_option maxRecDepth 100000 in
set_option maxHeartbeats 2000000 in
theorem setOf_any (c : List Int) (v : Value) (S : Nat → Prop) (w : World) (hl : c.length ≤ 1000000) (hL : ∀ x ∈ c, Ltr x) (hv : IntsO w S c v) :
    Calls Try.prog 105 #[v] w fun e w' => e = .returned (Dg.dval (clB c)) ∧ Fr nob w w' := by
  obtain ⟨a, cap, rfl⟩ := hv.form
  obtain ⟨N, hN⟩ : ∃ N, c.length = N := ⟨_, rfl⟩
  rw [hN] at hl hv ⊢
  have hcu := fun w => Dg.Cube_any (onM c) (offM c) (Nat.lt_trans (mask_lt hL).1 (by decide)) (Nat.lt_trans (mask_lt hL).2 (by decide)) w
  have hno := fun w => Dg.Not_any (Dg.cubeB (onM c) (offM c)) (Dg.ok_cubeB _ _) w
  change ∀ w, Calls Try.prog _ _ w fun e w' => e = .returned (Dg.dval (clB c)) ∧ _ at hno
  obtain ⟨p, s, hps⟩ := dform (clB c)
  obtain ⟨p1, s1, hps1⟩ := dform (Dg.cubeB (onM c) (offM c))
  rw [hps] at hno ⊢
  rw [hps1] at hcu hno
  have HV := Lib.hid hv
  have HL := Lib.hid hL
  have HN := Lib.hid hN
  have HCU := Lib.hid hcu
  have HNO := Lib.hid hno
  have HB := Lib.hid (Bx.new w (.int .u32 0) (.string ⟨#[]⟩) 52)
  have hA : Fr nob w (w.alloc (.cells #[.int .u32 0, .string ⟨#[]⟩] 52)) := (Fr.refl nob w).alloc _
  have HA := Lib.hid hA
  have HVA := Lib.hid (hv.kept (T := fun b => S b ∧ b < w.heap.size) hA (fun b hb h => ⟨fun h => h, hb, h⟩))
  clear hv hL hN hcu hno hA hps hps1
  go_enter Try.func105, Try.ntmps105
  go_wp2_with fail
  generalize w.alloc (.cells #[.int .u32 0, .string ⟨#[]⟩] 52) = W at *
  go_loopg [3, 4, 9] N (fun m onv offv iv wr => ∃ k : Nat, k + m = N ∧ iv = .int .i64 (k : Int) ∧ onv = .int .u32 (onM (c.take k) : Int) ∧ offv = .int .u32 (offM (c.take k) : Int) ∧ W = wr)
  case atStart => exact ⟨0, by omega, rfl, by rw [List.take_zero]; rfl, by rw [List.take_zero]; rfl, rfl⟩
  case round =>
    obtain ⟨k, hkm, rfl, rfl, rfl, rfl⟩ := hrel
    have q4 : (0 : Int) ≤ (k : Int) := Int.natCast_nonneg _
    cases gk with
    | zero =>
      obtain rfl : k = N := by omega
      rw [List.take_of_length_le (by rw [HN.out]; exact Nat.le_refl _)]
      go_wp2_with fail
      refine (HCU.out _).mono ?_
      rintro e w2 ⟨rfl, b2⟩
      have F2 := (Fr.refl nob W).below b2
      have HB2 := Lib.hid (HB.out.kept F2 (fun h => h))
      have HF2 := Lib.hid (HA.out.trans F2 (fun _ _ h => h))
      clear b2 F2 HCU
      go_wp2_with fail
      refine (HNO.out _).mono ?_
      rintro e w3 ⟨rfl, b3⟩
      have F3 := (Fr.refl nob w2).below b3
      have hB3 := HB2.out.kept F3 (fun h => h)
      have HF3 := Lib.hid (HF2.out.trans F3 (fun _ _ h => h))
      have d0 := hB3.c0
      have d1 := hB3.c1
      have f0 := hB3.fr 0
      have f1 := hB3.fr 1
      have HB3 := Lib.hid hB3
      clear b3 F3 HNO hB3 HB2 HF2
      go_wp2_with fail
      obtain ⟨X, FX⟩ := HB3.out.set (.int .u32 p) (.string s)
      clear d0 d1 f0 f1
      generalize (w3.setCell ⟨w.heap.size, 0, none⟩ (.int .u32 p)).setCell ⟨w.heap.size, 1, none⟩ (.string s) = w5 at *
      have x0 := X.c0
      have x1 := X.c1
      refine bodyPost_ret (v := .agg #[.int .u32 p, .string s]) (by simp [results, Try.results105, go_sem, x0, x1]) rfl ⟨rfl, ?_⟩
      exact HF3.out.trans' FX (T := nob) (fun _ _ h => h) (fun k hk h => by have h1 : k = w.heap.size := h; omega)
    | succ m =>
      have q3 : (k : Int) < (N : Int) := by omega
      have hk : k < c.length := by rw [HN.out]; omega
      have hkt : c[k]? = some c[k] := List.getElem?_eq_getElem hk
      have hmem : c[k] ∈ c := List.getElem_mem hk
      generalize c[k] = y at hkt hmem
      have hy := HL.out y hmem
      obtain ⟨b, ob, rfl, _, hcl⟩ := HVA.out.at hkt
      have h1 := onM_take hkt
      have h2 := offM_take hkt
      obtain ⟨hm1, hm2⟩ := mask_take HL.out k
      obtain ⟨x1, hx1⟩ : ∃ x1, onM (c.take k) = x1 := ⟨_, rfl⟩
      obtain ⟨x2, hx2⟩ : ∃ x2, offM (c.take k) = x2 := ⟨_, rfl⟩
      rw [hx1] at h1 hm1
      rw [hx2] at h2 hm2
      rw [hx1, hx2]
      rcases Int.lt_or_gt_of_ne hy.1 with hs | hs
      · obtain ⟨p, rfl⟩ : ∃ p : Nat, y = -((p : Int) + 1) := ⟨(-y - 1).toNat, by omega⟩
        rw [if_neg (by omega)] at h1 h2
        rw [show (-((p : Int) + 1)).natAbs - 1 = p by omega] at h1
        have hp : p < 24 := by unfold Ltr at hy; omega
        have hob := or_mask hp hm1
        have q5 : ¬ (0 : Int) < -((p : Int) + 1) := by omega
        have q6 : (p : Int) < 24 := by omega
        have q7 : (0 : Int) ≤ (p : Int) := Int.natCast_nonneg _
        have H1 := Lib.hid h1
        have H2 := Lib.hid h2
        have HOB := Lib.hid hob
        clear h1 h2 hm1 hm2 hx1 hx2 hy hob hk hkt hmem hs hp
        go_wp2_with fail
        go_roundg m
        case measure => omega
        case rel => exact ⟨k + 1, by omega, by go_num, by rw [HOB.out, H1.out], by rw [H2.out], rfl⟩
      · obtain ⟨p, rfl⟩ : ∃ p : Nat, y = (p : Int) + 1 := ⟨(y - 1).toNat, by omega⟩
        rw [if_pos (by omega)] at h1 h2
        rw [show ((p : Int) + 1).natAbs - 1 = p by omega] at h2
        have hp : p < 24 := by unfold Ltr at hy; omega
        have hob := or_mask hp hm2
        have q5 : (0 : Int) < (p : Int) + 1 := by omega
        have q6 : (p : Int) < 24 := by omega
        have q7 : (0 : Int) ≤ (p : Int) := Int.natCast_nonneg _
        have H1 := Lib.hid h1
        have H2 := Lib.hid h2
        have HOB := Lib.hid hob
        clear h1 h2 hm1 hm2 hx1 hx2 hy hob hk hkt hmem hs hp
        go_wp2_with fail
        go_roundg m
        case measure => omega
        case rel => exact ⟨k + 1, by omega, by go_num, by rw [H1.out], by rw [HOB.out, H2.out], rfl⟩
/-! all clauses -/
def rowE (f : Nat → Bool) (r : List Int) : Bool := r.any (litE f)
theorem RowsO.split {w : World} {S : Nat → Prop} {l : List (List Int)} {a : Option Addr} {n cap : Nat} (h : RowsO w S l (.slice a n cap)) (hn : n ≤ cap) {k : Nat} (hk : k ≤ n) :
    RowsO w S (l.take k) (.slice a k cap) := by
  obtain ⟨a', cap', e, h0, h1⟩ := h
  cases e
  have hl : (l.take k).length = k := by rw [List.length_take]; omega
  refine ⟨a, cap, by rw [hl], h0, fun hne => ?_⟩
  obtain ⟨b, ob, rfl, hb, hc⟩ := h1 (fun e => by rw [e] at hne; simp at hne)
  exact ⟨b, ob, rfl, hb, fun j r hj => by
    have hjk : j < k := by rw [← hl]; exact (List.getElem?_eq_some_iff.1 hj).1
    rw [List.getElem?_take_of_lt hjk] at hj
    exact hc j r hj⟩
theorem RowsO.rest {w : World} {S : Nat → Prop} {l : List (List Int)} {b ob n cap : Nat} (h : RowsO w S l (.slice (some ⟨b, ob, none⟩) n cap)) {k m c2 o2 : Nat} (hm : m + k = n) (ho : k < n → o2 = ob + k) :
    RowsO w S (l.drop k) (.slice (some ⟨b, o2, none⟩) m c2) := by
  obtain ⟨a', cap', e, h0, h1⟩ := h
  cases e
  have hl : (l.drop k).length = m := by rw [List.length_drop]; omega
  refine ⟨_, c2, by rw [hl], (fun e => by cases e), fun hne => ?_⟩
  have hkn : k < l.length := by
    rcases Nat.lt_or_ge k l.length with h | h
    · exact h
    · rw [List.drop_eq_nil_of_le h] at hne; exact absurd rfl hne
  obtain ⟨b', ob', e, hb, hc⟩ := h1 (fun e => by rw [e] at hkn; simp at hkn)
  cases e
  rw [ho hkn]
  exact ⟨b, ob + k, rfl, hb, fun j r hj => by
    rw [List.getElem?_drop] at hj
    have := hc (k + j) r hj
    rw [show ob + (k + j) = ob + k + j by omega] at this
    exact this⟩
def AllPost (l : List (List Int)) (w : World) (e : Ending) (w' : World) : Prop :=
  ∃ t : Dg.Bd.B, t.ok 0 ∧ (∀ f, t.ev f = l.all (rowE f)) ∧ e = .returned (Dg.dval t) ∧ Fr nob w w'
set_option maxRecDepth 100000 in
set_option maxHeartbeats 4000000 in
theorem allOf_step (l : List (List Int)) (v : Value) (w : World) (hl : l.length ≤ 1000000) (hL : ∀ r ∈ l, r.length ≤ 1000000 ∧ ∀ x ∈ r, Ltr x) (hv : RowsO w (fun b => b < w.heap.size) l v) (hc : ∃ a c, v = .slice a l.length c ∧ l.length ≤ c)
    (ih : ∀ (l' : List (List Int)) (v' : Value) (w' : World), l'.length < l.length → (∀ r ∈ l', r ∈ l) → RowsO w' (fun b => b < w'.heap.size) l' v' → (∃ a c, v' = .slice a l'.length c ∧ l'.length ≤ c) → Calls Try.prog 73 #[v'] w' (AllPost l' w')) :
    Calls Try.prog 73 #[v] w (AllPost l w) := by
  obtain ⟨a, cap, rfl, hcap⟩ := hc
  obtain ⟨N, hN⟩ : ∃ N, l.length = N := ⟨_, rfl⟩
  rw [hN] at hl hcap hv ih ⊢
  have HV := Lib.hid hv
  have HL := Lib.hid hL
  have HN := Lib.hid hN
  have HI := Lib.hid ih
  have HB := Lib.hid (Bx.new w (.int .u32 0) (.string ⟨#[]⟩) 52)
  have hA : Fr nob w (w.alloc (.cells #[.int .u32 0, .string ⟨#[]⟩] 52)) := (Fr.refl nob w).alloc _
  have HA := Lib.hid hA
  have HVA := Lib.hid (hv.kept (T := fun b => b < w.heap.size) hA (fun b hb h => ⟨fun h => h, h⟩))
  clear hv hL hN ih hA
  go_enter Try.func73, Try.ntmps73
  rcases (show N = 0 ∨ N = 1 ∨ 2 ≤ N by omega) with rfl | rfl | h2
  · have hl0 : l = [] := List.eq_nil_of_length_eq_zero HN.out
    subst hl0
    obtain ⟨p, s, hps⟩ := dform .T
    have hT := fun w => Dg.True_any w
    rw [hps] at hT
    have HPS := Lib.hid hps
    clear hps
    go_wp2_with fail
    refine (hT _).mono ?_
    rintro e w2 ⟨rfl, b2⟩
    have F2 := (Fr.refl nob _).below b2
    have hB2 := HB.out.kept F2 (fun h => h)
    have HF2 := Lib.hid (HA.out.trans F2 (fun _ _ h => h))
    clear b2 F2 hT HVA
    have d0 := hB2.c0
    have d1 := hB2.c1
    have f0 := hB2.fr 0
    have f1 := hB2.fr 1
    have HB2 := Lib.hid hB2
    clear hB2 HB
    go_wp2_with fail
    obtain ⟨X, FX⟩ := HB2.out.set (.int .u32 p) (.string s)
    clear d0 d1 f0 f1
    generalize (w2.setCell ⟨w.heap.size, 0, none⟩ (.int .u32 p)).setCell ⟨w.heap.size, 1, none⟩ (.string s) = w5 at *
    have x0 := X.c0
    have x1 := X.c1
    refine bodyPost_ret (v := .agg #[.int .u32 p, .string s]) (by simp [results, Try.results73, go_sem, x0, x1]) rfl ⟨Dg.Bd.B.T, trivial, fun _ => rfl, by rw [HPS.out], ?_⟩
    exact HF2.out.trans' FX (T := nob) (fun _ _ h => h) (fun k hk h => by have h1 : k = w.heap.size := h; omega)
  · obtain ⟨r, rfl⟩ : ∃ r, l = [r] := List.length_eq_one_iff.1 HN.out
    obtain ⟨b, ob, rfl, _, a', cap', hcl, hI⟩ := HVA.out.at (j := 0) rfl
    obtain ⟨hr1, hr2⟩ := HL.out r (by simp)
    obtain ⟨p, s, hps⟩ := dform (clB r)
    have hS := setOf_any r _ _ _ hr1 hr2 hI
    obtain ⟨rn, hrn⟩ : ∃ rn, r.length = rn := ⟨_, rfl⟩
    rw [hrn] at hcl hS
    rw [Nat.add_zero] at hcl
    rw [hps] at hS
    have HPS := Lib.hid hps
    have HR2 := Lib.hid hr2
    have q0 : (0 : Int) < 1 := by decide
    clear hps hr1 hr2 hI hrn
    go_wp2_with fail
    refine hS.mono ?_
    rintro e w2 ⟨rfl, F2⟩
    have hB2 := HB.out.kept F2 (fun h => h)
    have HF2 := Lib.hid (HA.out.trans F2 (fun _ _ h => h))
    clear F2 hS HVA hcl
    have d0 := hB2.c0
    have d1 := hB2.c1
    have f0 := hB2.fr 0
    have f1 := hB2.fr 1
    have HB2 := Lib.hid hB2
    clear hB2 HB
    go_wp2_with fail
    obtain ⟨X, FX⟩ := HB2.out.set (.int .u32 p) (.string s)
    clear d0 d1 f0 f1
    generalize (w2.setCell ⟨w.heap.size, 0, none⟩ (.int .u32 p)).setCell ⟨w.heap.size, 1, none⟩ (.string s) = w5 at *
    have x0 := X.c0
    have x1 := X.c1
    refine bodyPost_ret (v := .agg #[.int .u32 p, .string s]) (by simp [results, Try.results73, go_sem, x0, x1]) rfl ⟨clB r, ok_clB r, fun f => by rw [ev_clB HR2.out]; show _ = (rowE f r && _); simp [rowE], by rw [HPS.out], ?_⟩
    exact HF2.out.trans' FX (T := nob) (fun _ _ h => h) (fun k hk h => by have h1 : k = w.heap.size := h; omega)
  · have q1 : ((N : Int) == 0) = false := by simp; omega
    have q2 : ((N : Int) == 1) = false := by simp; omega
    obtain ⟨b, ob, rfl, _⟩ := HVA.out.at (j := 0) (List.getElem?_eq_getElem (by rw [HN.out]; omega))
    have hk1 : N / 2 < N := by omega
    have hk0 : 0 < N / 2 := by omega
    have hK := HI.out (l.take (N / 2)) (.slice (some ⟨b, ob, none⟩) (N / 2) cap) _ (by rw [List.length_take, HN.out]; omega) (fun r hr => List.mem_of_mem_take hr) ((HVA.out.split hcap (Nat.le_of_lt hk1)).kept (T := fun b => b < (w.alloc (.cells #[.int .u32 0, .string ⟨#[]⟩] 52)).heap.size) (Fr.refl nob _) (fun b hb h => ⟨fun h => h, h⟩)) ⟨_, _, by rw [List.length_take, HN.out, Nat.min_eq_left (by omega)], by rw [List.length_take, HN.out]; omega⟩
    have HALL : Hid (∀ f, l.all (rowE f) = ((l.take (N / 2)).all (rowE f) && (l.drop (N / 2)).all (rowE f))) := Lib.hid (fun f => by rw [← List.all_append, List.take_append_drop])
    go_wp2_with fail
    refine hK.mono ?_
    rintro e w2 ⟨t1, ok1, ev1, rfl, F2⟩
    obtain ⟨p, s, hps⟩ := dform t1
    have hEm := fun w => Dg.Empty_any t1 w
    rw [hps] at hEm ⊢
    have HPS := Lib.hid hps
    have HEV1 := Lib.hid ev1
    have HB2 := Lib.hid (HB.out.kept F2 (fun h => h))
    have HF2 := Lib.hid (HA.out.trans F2 (fun _ _ h => h))
    have A3 : Fr nob w2 (w2.alloc (.cells #[.int .u32 p, .string s] 52)) := (Fr.refl nob w2).alloc _
    have hC3 := Bx.new w2 (.int .u32 p) (.string s) 52
    have HB3 := Lib.hid (HB2.out.kept A3 (fun h => h))
    have HF3 := Lib.hid (HF2.out.trans A3 (fun _ _ h => h))
    have HLT := Lib.hid (show w.heap.size < w2.heap.size from HB2.out.lt)
    have e0 := hC3.c0
    have e1 := hC3.c1
    have HC3 := Lib.hid hC3
    clear hps ev1 F2 hK A3 hC3 HB2 HF2
    go_wp2_with fail
    refine (hEm _).mono ?_
    rintro e w4 ⟨rfl, b4⟩
    have F4 := (Fr.refl nob _).below b4
    have hC4 := HC3.out.kept F4 (fun h => h)
    have hB4 := HB3.out.kept F4 (fun h => h)
    have HF4 := Lib.hid (HF3.out.trans F4 (fun _ _ h => h))
    clear b4 F4 hEm e0 e1 HC3 HB3 HF3
    have e0 := hC4.c0
    have e1 := hC4.c1
    by_cases hF0 : t1 = .F
    · rw [decide_eq_true hF0]
      have HF0 := Lib.hid hF0
      clear hC4
      have d0 := hB4.c0
      have d1 := hB4.c1
      have f0 := hB4.fr 0
      have f1 := hB4.fr 1
      have HB4 := Lib.hid hB4
      clear hB4 HB
      go_wp2_with fail
      obtain ⟨X, FX⟩ := HB4.out.set (.int .u32 p) (.string s)
      clear d0 d1 f0 f1
      generalize (w4.setCell ⟨w.heap.size, 0, none⟩ (.int .u32 p)).setCell ⟨w.heap.size, 1, none⟩ (.string s) = w5 at *
      have x0 := X.c0
      have x1 := X.c1
      refine bodyPost_ret (v := .agg #[.int .u32 p, .string s]) (by simp [results, Try.results73, go_sem, x0, x1]) rfl ⟨_, ok1, fun f => by rw [HALL.out f, ← HEV1.out f, HF0.out]; rfl, by rw [HPS.out], ?_⟩
      exact HF4.out.trans' FX (T := nob) (fun _ _ h => h) (fun k hk h => by have h1 : k = w.heap.size := h; omega)
    · rw [decide_eq_false hF0]
      have q8 : (0 : Int) ≤ (N : Int) / 2 := by omega
      have q9 : (N : Int) / 2 ≤ (N : Int) := by omega
      have hk : ((N : Int) / 2).toNat = N / 2 := by omega
      have hV4 : RowsO w4.drew (fun b => b < w4.drew.heap.size) l (.slice (some ⟨b, ob, none⟩) N cap) := HV.out.kept ((HF4.out).drew) (fun b hb h => ⟨fun h => h, by have := HF4.out.size; show b < w4.heap.size; omega⟩)
      have hK2 : Calls Try.prog 73 #[.slice (some ⟨b, ob + ((N : Int) / 2).toNat, none⟩) (N - ((N : Int) / 2).toNat) (cap - ((N : Int) / 2).toNat)] w4.drew (AllPost (l.drop (N / 2)) w4.drew) := by
        rw [hk]
        exact HI.out (l.drop (N / 2)) _ _ (by rw [List.length_drop, HN.out]; omega) (fun r hr => List.mem_of_mem_drop hr) (hV4.rest (by omega) (fun _ => rfl)) ⟨_, _, by rw [List.length_drop, HN.out], by rw [List.length_drop, HN.out]; omega⟩
      have HAND : Hid (∀ (t2 : Dg.Bd.B) (_ : t2.ok 0) (w : World), ∃ p3 s3, Dg.dval (Dg.Bd.ite t1 t2 .F) = .agg #[.int .u32 p3, .string s3] ∧ Calls Try.prog 106 #[.agg #[.int .u32 p, .string s], Dg.dval t2] w fun e w' => e = .returned (.agg #[.int .u32 p3, .string s3]) ∧ Fr nob w w') := Lib.hid (fun t2 h2 w => by
        have h := Dg.And_any t1 t2 ok1 h2 w
        obtain ⟨p3, s3, h3⟩ := dform (Dg.Bd.ite t1 t2 .F)
        rw [HPS.out, h3] at h
        exact ⟨p3, s3, h3, h.mono fun e w' ⟨a, b⟩ => ⟨a, (Fr.refl nob w).below b⟩⟩)
      have HB4 := Lib.hid hB4
      clear hV4 hk HVA HV hB4 hC4 HLT
      go_wp2_with fail
      go_region_with (first
        | (go_at_call 73; (with_reducible refine hK2.mono ?_); rintro e w5 ⟨t2, ok2, ev2, rfl, F5⟩; have g0 := F5.cell e0 (fun h => h); have g1 := F5.cell e1 (fun h => h); have hB5 := HB4.out.kept (((Fr.refl nob w4).drew).trans F5 (fun _ _ h => h)) (fun h => h))
        | (go_at_call 106; obtain ⟨p3, s3, hps3, hA⟩ := HAND.out t2 ok2 w5; (with_reducible refine hA.mono ?_); rintro e w6 ⟨rfl, F6⟩; have hB6 := hB5.kept F6 (fun h => h); have d0 := hB6.c0; have d1 := hB6.c1; have f0 := hB6.fr 0; have f1 := hB6.fr 1))
      all_goals (
        have HF6 := Lib.hid ((HF4.out.trans (((Fr.refl nob w4).drew).trans F5 (fun _ _ h => h)) (fun _ _ h => h)).trans F6 (fun _ _ h => h))
        obtain ⟨X, FX⟩ := hB6.set (.int .u32 p3) (.string s3)
        clear d0 d1 f0 f1
        generalize (w6.setCell ⟨w.heap.size, 0, none⟩ (.int .u32 p3)).setCell ⟨w.heap.size, 1, none⟩ (.string s3) = w7 at *
        have x0 := X.c0
        have x1 := X.c1
        go_wp2_with fail
        refine bodyPost_ret (v := .agg #[.int .u32 p3, .string s3]) (by simp [results, Try.results73, go_sem, x0, x1]) rfl ⟨_, Dg.Bd.ok_ite0 t1 t2 .F, fun f => ?_, by rw [hps3], ?_⟩
        · rw [HALL.out f, Dg.Bd.ev_ite (z := .F) ok1 ok2 trivial, HEV1.out f, ev2 f]
          cases (l.take (N / 2)).all (rowE f) <;> rfl
        · exact HF6.out.trans' FX (T := nob) (fun _ _ h => h) (fun k hk h => by have h1 : k = w.heap.size := h; omega))
theorem allOf_any : ∀ (N : Nat) (l : List (List Int)) (v : Value) (w : World), l.length = N → l.length ≤ 1000000 → (∀ r ∈ l, r.length ≤ 1000000 ∧ ∀ x ∈ r, Ltr x) → RowsO w (fun b => b < w.heap.size) l v → (∃ a c, v = .slice a l.length c ∧ l.length ≤ c) →
    Calls Try.prog 73 #[v] w (AllPost l w) := by
  intro N
  induction N using Nat.strongRecOn with
  | _ N ih =>
    intro l v w hN hl hL hv hc
    exact allOf_step l v w hl hL hv hc fun l' v' w' h1 h2 h3 h4 => ih l'.length (by omega) l' v' w' rfl (by omega) (fun r hr => hL r (h2 r hr)) h3 h4
theorem dF : Dg.dval .F = .agg #[.int .u32 0, .string ⟨#[]⟩] := rfl
/-- what Conjunction answers -/
def ConPost (n : Int) (l : List (List Int)) (w : World) (e : Ending) (w' : World) : Prop :=
  ∃ t : Dg.Bd.B, e = .returned (.tuple #[Dg.dval t, .int .i64 (chkP n l)]) ∧ t.ok 0 ∧ (chkP n l ≠ 0 → t = .F) ∧ (chkP n l = 0 → ∀ f, t.ev f = l.all (rowE f)) ∧ Fr nob w w'
set_option maxRecDepth 100000 in
set_option maxHeartbeats 4000000 in
theorem conj_any (l : List (List Int)) (n : Int) (v : Value) (w : World) (hwd : Wide l) (hv : RowsO w (fun b => b < w.heap.size) l v) (hc : ∃ a c, v = .slice a l.length c ∧ l.length ≤ c) :
    Calls Try.prog 39 #[.int .i64 n, v] w (ConPost n l w) := by
  obtain ⟨a, cap, rfl, hcap⟩ := hc
  have A : Fr nob w (w.alloc (.cells #[.int .u32 0, .string ⟨#[]⟩] 52)) := (Fr.refl nob w).alloc _
  have hVA : RowsO (w.alloc (.cells #[.int .u32 0, .string ⟨#[]⟩] 52)) (fun b => b < (w.alloc (.cells #[.int .u32 0, .string ⟨#[]⟩] 52)).heap.size) l (.slice a l.length cap) := hv.kept A (fun b hb h => ⟨fun h => h, by simp; omega⟩)
  have hC := chk_any l n _ _ _ hwd hVA
  have hAl := fun h1 h2 => allOf_any l.length l _ _ rfl h1 h2 hVA ⟨a, cap, rfl, hcap⟩
  have HB := Lib.hid (Bx.new w (.int .u32 0) (.string ⟨#[]⟩) 52)
  have HA := Lib.hid A
  obtain ⟨LL, hLL⟩ : ∃ LL, l.length = LL := ⟨_, rfl⟩
  obtain ⟨K, hK⟩ : ∃ K, chkP n l = K := ⟨_, rfl⟩
  rw [hK] at hC
  rw [hLL] at hC ⊢
  rw [hLL] at hAl
  have HK := Lib.hid hK
  have HAL := Lib.hid hAl
  have HLL := Lib.hid hLL
  clear hv A hVA hwd hAl hcap hLL
  go_enter Try.func39, Try.ntmps39
  go_wp2_with fail
  refine hC.mono ?_
  rintro e w' ⟨rfl, rfl⟩
  clear hC
  generalize w.alloc (.cells #[.int .u32 0, .string ⟨#[]⟩] 52) = W at *
  by_cases hk : K = 0
  · subst hk
    obtain ⟨hn, hl1, hl2⟩ := chk_zero2 hK
    have hA := HAL.out (by have := HLL.out; omega) (fun r hr => ⟨by have := (hl2 r hr).1; omega, fun x hx => chk_ltr hK r hr x hx⟩)
    clear HAL hn hl1 hl2 hK
    go_wp2_with fail
    refine hA.mono ?_
    rintro e w2 ⟨t, ok, ev, rfl, F2⟩
    obtain ⟨p, s, hps⟩ := dform t
    rw [hps]
    have hB2 := HB.out.kept F2 (fun h => h)
    have HF2 := Lib.hid (HA.out.trans F2 (fun _ _ h => h))
    have HEV := Lib.hid ev
    have HPS := Lib.hid hps
    have d0 := hB2.c0
    have d1 := hB2.c1
    have f0 := hB2.fr 0
    have f1 := hB2.fr 1
    have HB2 := Lib.hid hB2
    clear hB2 HB hA F2 ev hps
    go_wp2_with fail
    obtain ⟨X, FX⟩ := HB2.out.set (.int .u32 p) (.string s)
    clear d0 d1 f0 f1
    generalize (w2.setCell ⟨w.heap.size, 0, none⟩ (.int .u32 p)).setCell ⟨w.heap.size, 1, none⟩ (.string s) = w5 at *
    have x0 := X.c0
    have x1 := X.c1
    refine bodyPost_ret (v := .tuple #[.agg #[.int .u32 p, .string s], .int .i64 0]) (by simp [results, Try.results39, go_sem, x0, x1]) rfl ⟨t, by rw [HPS.out, HK.out], ok, fun h => absurd HK.out h, fun _ => HEV.out, ?_⟩
    exact HF2.out.trans' FX (T := nob) (fun _ _ h => h) (fun k hk h => by have h1 : k = w.heap.size := h; omega)
  · have q0 : (K != 0) = true := by simpa using hk
    have d0 := HB.out.c0
    have d1 := HB.out.c1
    have f0 := HB.out.fr 0
    have f1 := HB.out.fr 1
    clear hK HAL
    go_wp2_with fail
    obtain ⟨X, FX⟩ := HB.out.set (.int .u32 0) (.string ⟨#[]⟩)
    clear d0 d1 f0 f1
    generalize (W.setCell ⟨w.heap.size, 0, none⟩ (.int .u32 0)).setCell ⟨w.heap.size, 1, none⟩ (.string ⟨#[]⟩) = w5 at *
    have x0 := X.c0
    have x1 := X.c1
    refine bodyPost_ret (v := .tuple #[.agg #[.int .u32 0, .string ⟨#[]⟩], .int .i64 K]) (by simp [results, Try.results39, go_sem, x0, x1]) rfl ⟨Dg.Bd.B.F, by rw [dF, HK.out], trivial, fun _ => rfl, fun h => absurd (HK.out.symm.trans h) hk, ?_⟩
    exact HA.out.trans' FX (T := nob) (fun _ _ h => h) (fun k hk h => by have h1 : k = w.heap.size := h; omega)
end Go.Proofs.Ytaojojjdfdlgpaa
