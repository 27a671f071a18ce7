import Derived.Lib.MinMax
import Derived.Lib.Tables
import Derived.RangeFuncBox
import Derived.RangeFuncBound
import Derived.RangeFuncLeaves
import Derived.Shelf.Abstract
import Derived.WalkKit
import Derived.OwnWalkIn
import Derived.TacticsInMore
import Derived.LoopNIn
import Derived.LoopIn
import Derived.Maps.AppendAt
import Derived.Test.YtalnhlebgofiiaaGreatDoorLow
import Derived.Test.YtalnhlebgofiiaaGreatDoorLayP
import Derived.Test.YtalnhlebgofiiaaGreatDoorCube
namespace Go.Proofs.YtalnhlebgofiiaaGreatDoor
open Go.RowKit Go.Shelf
open Bd
attribute [local go_sem] Oper.semAt_some

/-- features as the program's ints -/
def ints (V : List Nat) : List Int := V.map (fun (v : Nat) => ((v : Nat) : Int))
abbrev Tab32 (w : World) : Prop := TabAt 0 Go.Lib.deBruijn32tab w
theorem Tab32.below {n₀ : Nat} {w w' : World} (h : Tab32 w) (hb : Below n₀ w w') (hg : 0 < n₀) : Tab32 w' := fun j hj => (hb.cell (p := ⟨0, j, none⟩) hg).trans (h j hj)
theorem tz_any (x : Nat) (hx : x < 4294967296) (w : World) (hT : Tab32 w) : Calls Tryz.prog 92 #[.int .u32 (x : Int)] w fun e w' => e = .returned (.int .i64 (Go.Lib.ctz 32 x : Nat)) ∧ w' = w := Any7.bits_TrailingZeros32 Tryz.tz32 x hx w (fun _ => hT)

set_option maxRecDepth 100000 in
set_option maxHeartbeats 1000000 in
/-- the iterator over the features of a mask -/
theorem mem1_in (n : Nat) (hn : 1 ≤ n) (l Bn n₀ m : Nat) (hm : m < 4294967296) (hg : 0 < n₀) (J Jx : List Int → World → Prop)
    (hY : ∀ pre x W, 0 ≤ x → x < 24 → J pre W → pre.length < (featL m).length → YieldAt Fence.wide (n - 1) Tryz.prog l #[.int .i64 x] W fun e W' =>
      (e = .returned (.bool true) ∧ J (pre ++ [x]) W' ∧ Below n₀ W W') ∨ (e = .returned (.bool false) ∧ Jx (pre ++ [x]) W'))
    (W : World) (hBn : W.cell? ⟨Bn, 0, none⟩ = some (.int .u32 (m : Int))) (hT : Tab32 W) (h0 : J [] W) :
    CallsIn Fence.wide n Tryz.prog 91 #[.func (.yield l) #[] #[], .pointer (some ⟨Bn, 0, none⟩)] W fun e W' => (∃ v, e = .returned v) ∧
      ((∃ ys, ys = ints (featL m) ∧ J ys W') ∨ (∃ pre, pre <+: ints (featL m) ∧ Jx pre W')) := by
  have hfT : Fence.wide.fn 92 := trivial
  have ha := and_u32 m 16777215 hm (by decide)
  have hm24 : m &&& 16777215 = m % 2 ^ 24 := Nat.and_two_pow_sub_one_eq_mod m 24
  have hb0 := hasBits_featL m
  rw [← hm24] at hb0
  generalize m &&& 16777215 = x0 at *
  have hx0 : x0 < 2 ^ 24 := by rw [hm24]; exact Nat.mod_lt _ (by decide)
  have ha' : bits BinOp.and IntKind.u32 (m : Int) 16777215 = (x0 : Int) := ha
  clear hm24 ha
  refine callsIn_of_wp Tryz.func91 rfl trivial ?_ rfl
  simp only [Tryz.ntmps91, List.size_toArray, List.length_cons, List.length_nil, Nat.reduceAdd, Nat.reduceSub, Array.replicate_succ, Array.replicate_zero, List.push_toArray, List.append_toArray, List.nil_append, List.cons_append]
  gi_wp2
  gi_loopw [3] (fun v wr => ∃ (pre rest : List Nat) (x : Nat), v = .int .u32 (x : Int) ∧ x < 2 ^ 24 ∧ featL m = pre ++ rest ∧ hasBits x rest ∧ J (ints pre) wr ∧ Tab32 wr) (fun v _ => (intOf v).toNat)
  case atStart => exact ⟨[], featL m, x0, rfl, hx0, rfl, hb0, h0, hT⟩
  case round =>
    clear hBn hT h0 ha' hb0
    obtain ⟨pre, rest, x, rfl, hx, he, hb, hJ, hT⟩ := hrel
    cases rest with
    | nil =>
      obtain rfl := hasBits_nil hb
      gi_wp2
      go_end0
      exact ⟨⟨_, rfl⟩, .inl ⟨ints pre, by rw [he]; simp, hJ⟩⟩
    | cons v rest =>
      obtain ⟨h0, hz, hb', hlt⟩ := low_bit hb (by have := (rising_featL m).1; rw [he] at this; exact (List.pairwise_append.1 this).2.1) (by omega)
      have hv24 : v < 24 := (mem_featL.1 (by rw [he]; simp : v ∈ featL m)).1
      obtain ⟨fn, tmps, assign, body, hy, hR⟩ := hY (ints pre) (v : Int) wr (by omega) (by omega) hJ (by rw [he]; simp [ints])
      have ctz := callsIn_wide (n := n - 1) |>.2 (tz_any x (by omega) wr hT)
      rw [hz] at ctz
      have hx1 : ((x : Int) == 0) = false := by simp; omega
      have hx2 : 0 < (x : Int) := by omega
      have hand := and_u32 x (x - 1) (by omega) (by omega)
      rw [show ((x - 1 : Nat) : Int) = (x : Int) - 1 by omega] at hand
      gi_wp2_with (gi_at_call 92; refine ctz.mono ?_; rintro e w' ⟨rfl, rfl⟩)
      refine hR.mono ?_
      rintro e W3 (⟨rfl, hJ3, hk3⟩ | ⟨rfl, hJx3⟩)
      · gi_wp2
        go_roundw
        case rel => exact ⟨pre ++ [v], rest, x &&& (x - 1), rfl, Nat.lt_of_le_of_lt Nat.and_le_left hx, by simp [he], hb', by simpa [ints] using hJ3, hT.below hk3 hg⟩
        case measure =>
          have := Nat.and_le_right (n := x) (m := x - 1)
          simp only [intOf]; omega
      · gi_wp2
        refine bodyPost_ret (results_none rfl _ _ _) rfl ?_
        exact ⟨⟨_, rfl⟩, .inr ⟨ints pre ++ [(v : Int)], by rw [he]; exact ⟨ints rest, by simp [ints]⟩, hJx3⟩⟩

/-- **members(set)**: the set is boxed; the function value captures the box. -/
theorem members_any (m : Nat) (w : World) : Calls Tryz.prog 41 #[.int .u32 (m : Int)] w fun e w' => e = .returned (.func (.func 91) #[] #[.pointer (some ⟨w.heap.size, 0, none⟩)]) ∧ w' = w.alloc (.cells #[.int .u32 (m : Int)] 23) := by
  go_enter Tryz.func41, Tryz.ntmps41
  go_wp2
  go_ret
  exact ⟨rfl, rfl⟩

/-- .. hands back a value over which a range goes: the features of the mask, rising -/
theorem mem_stops (n : Nat) (hn : 1 ≤ n) (Bn n₀ m : Nat) (hm : m < 4294967296) (w : World) (hBn : Bn < w.heap.size) (_hn₀ : n₀ ≤ w.heap.size) (hg : 0 < n₀) (hc : w.cell? ⟨Bn, 0, none⟩ = some (.int .u32 (m : Int))) (hT : Tab32 w) :
    SeqStopsK Fence.wide n Tryz.prog 91 #[.pointer (some ⟨Bn, 0, none⟩)] (fun x : Int => #[Value.int .i64 x]) (Below n₀) (fun ys => ys = ints (featL m)) (fun pre => pre <+: ints (featL m)) (featL m).length w := fun l J Jx W hW _ _ hY h0 =>
  mem1_in n hn l Bn n₀ m hm hg J Jx (fun pre x W _ _ => hY pre x W) W ((hW.cell (p := ⟨Bn, 0, none⟩) hBn).trans hc) (hT.below hW (by omega)) h0

/-- the features as numbers below 24 -/
abbrev F24 := _root_.Fin 24
def fints (ys : List F24) : List Int := ys.map fun y => ((y.val : Nat) : Int)
theorem fints_snoc (ys : List F24) (y : F24) : fints (ys ++ [y]) = fints ys ++ [((y.val : Nat) : Int)] := by simp [fints]
/-- .. the same, each element told to be a feature -/
theorem mem_stops24 (n : Nat) (hn : 1 ≤ n) (Bn n₀ m : Nat) (hm : m < 4294967296) (w : World) (hBn : Bn < w.heap.size) (_hn₀ : n₀ ≤ w.heap.size) (hg : 0 < n₀) (hc : w.cell? ⟨Bn, 0, none⟩ = some (.int .u32 (m : Int))) (hT : Tab32 w) :
    SeqStopsK Fence.wide n Tryz.prog 91 #[.pointer (some ⟨Bn, 0, none⟩)] (fun x : F24 => #[Value.int .i64 ((x.val : Nat) : Int)]) (Below n₀) (fun ys => fints ys = ints (featL m)) (fun pre => fints pre <+: ints (featL m)) (featL m).length w := fun l J Jx W hW _ _ hY h0 => by
  refine (mem1_in n hn l Bn n₀ m hm hg (fun xs W => ∃ ys, fints ys = xs ∧ J ys W) (fun xs W => ∃ ys, fints ys = xs ∧ Jx ys W) (fun pre x W1 h1 h2 ⟨ys, he, hJ⟩ hl => ?_) W ((hW.cell (p := ⟨Bn, 0, none⟩) hBn).trans hc) (hT.below hW (by omega)) ⟨[], rfl, h0⟩).mono ?_
  · have hx : (((⟨x.toNat, by omega⟩ : F24).val : Nat) : Int) = x := by simp only; omega
    have hl' : ys.length < (featL m).length := by rw [← he] at hl; simpa [fints] using hl
    have hy := hY ys ⟨x.toNat, by omega⟩ W1 hJ hl'
    dsimp only at hy
    have hx' : ((x.toNat : Nat) : Int) = x := by omega
    rw [hx'] at hy
    refine hy.mono ?_
    rintro e W' (⟨h1, h2, h3⟩ | ⟨h1, h2⟩)
    · exact .inl ⟨h1, ⟨_, by rw [fints_snoc, he, hx], h2⟩, h3⟩
    · exact .inr ⟨h1, ⟨_, by rw [fints_snoc, he, hx], h2⟩⟩
  · rintro e W' ⟨h1, ⟨ys, h2, zs, h3, h4⟩ | ⟨pre, h2, zs, h3, h4⟩⟩
    · exact ⟨h1, .inl ⟨zs, h3.trans h2, h4⟩⟩
    · exact ⟨h1, .inr ⟨zs, (by show fints zs <+: _; rw [h3]; exact h2), h4⟩⟩
end Go.Proofs.YtalnhlebgofiiaaGreatDoor
