import Derived.Sort.CutIn
import Derived.Test.YtiainlccodnlmaaDoorMem
import Derived.Test.YtiainlccodnlmaaDoorHas
import Derived.Test.YtiainlccodnlmaaDoorCost
namespace Go.Proofs.YtiainlccodnlmaaDoor
open Go.RowKit Go.Shelf
open Bd
attribute [local go_sem] Oper.semAt_some

/-! All and each: the configurations of a set below 2^n, rising -/

/-- the configurations below k that a set has -/
def lstN (f : Cfg → Bool) (k : Nat) : List Nat := (List.range k).filter fun c => f (bitsOf c)
theorem lstN_succ (f : Cfg → Bool) (k : Nat) : lstN f (k + 1) = lstN f k ++ if f (bitsOf k) = true then [k] else [] := by
  unfold lstN
  rw [List.range_succ, List.filter_append]
  cases h : f (bitsOf k) <;> simp [h]
theorem lstN_pre (f : Cfg → Bool) {k m : Nat} (h : k ≤ m) : lstN f k <+: lstN f m := by
  induction m with
  | zero => obtain rfl : k = 0 := by omega
            exact List.prefix_rfl
  | succ m ih =>
    by_cases e : k = m + 1
    · subst e; exact List.prefix_rfl
    · refine (ih (by omega)).trans ?_
      rw [lstN_succ]; exact List.prefix_append _ _
theorem lstN_snoc (f : Cfg → Bool) {k m : Nat} (h : k < m) (hf : f (bitsOf k) = true) : lstN f k ++ [k] <+: lstN f m := by
  have := lstN_pre f (show k + 1 ≤ m from h)
  rw [lstN_succ, if_pos hf] at this
  exact this
theorem lstN_lt (f : Cfg → Bool) {k m : Nat} (h : k < m) (hf : f (bitsOf k) = true) : (lstN f k).length < (lstN f m).length := by
  have := (lstN_snoc f h hf).length_le
  simp at this; omega

/-- what a body keeps: the blocks of sets -/
def KeepsD (W W' : World) : Prop := ∀ (k : Nat) (cs : Array Value) (z : Nat × Nat), W.heap[k]? = some (.cells cs 31 z) → W'.heap[k]? = some (.cells cs 31 z)
theorem KeepsD.trans {X Y Z : World} (h : KeepsD X Y) (k : KeepsD Y Z) : KeepsD X Z := fun i cs z hi => k i cs z (h i cs z hi)
theorem KeepsD.putObj (W : World) (l : Nat) (o o' : Obj) (h : W.heap[l]? = some o) (ho : o.isCells = false) : KeepsD W (W.putObj l o') := fun k cs z hk => by
  have hne : k ≠ l := fun e => by subst e; rw [hk] at h; cases h; cases ho
  exact (World.putObj_heap_other hne).trans hk
/-- a box of a set -/
def DBox (W : World) (g : Nat) (A : B) : Prop := W.heap[g]? = some (.cells #[.int .u32 (place (li A) A : Int), .string ⟨(code (rows (li A))).toArray⟩] 31 (0, 0))
theorem DBox.kept {S : Nat → Prop} {W W' : World} {g : Nat} {A : B} (h : DBox W g A) (f : Fr S W W') (hS : ¬ S g) : DBox W' g A := (f.block g (Array.getElem?_eq_some_iff.1 h).1 hS).trans h
theorem DBox.keeps {W W' : World} {g : Nat} {A : B} (h : DBox W g A) (f : KeepsD W W') : DBox W' g A := f _ _ _ h
theorem DBox.box {W : World} {g : Nat} {A : B} (h : DBox W g A) : Box2 W g (.int .u32 (place (li A) A : Int)) (.string ⟨(code (rows (li A))).toArray⟩) := .of_heap h
theorem abides_below {β : Type} {b : Nat} {J : β → World → Prop} (h : AbidesFrom b J) {s : β} {W W' : World} (hs : J s W) (hb : Below W.heap.size W W') : J s W' :=
  h s W W' none hs ⟨hb.os, hb.tape, hb.output, hb.size, fun k hk _ => hb.block k hk⟩ (fun _ e => by cases e)

set_option maxRecDepth 100000 in
set_option maxHeartbeats 1000000 in
theorem each_in (n : Nat) (hn : 2 ≤ n) (A : B) (hA : A.ok 0) (N : Nat) (hN : N ≤ 10) (l : Nat) (b : Nat) (J Jx : List Nat → World → Prop) (hJ : AbidesFrom b J)
    (hY : ∀ pre x W, J pre W → pre.length < (lstN A.ev (2 ^ N)).length → YieldAt Fence.wide (n - 1) Tryd.prog l #[.int .u32 ((x : Nat) : Int)] W fun e W' =>
      (e = .returned (.bool true) ∧ J (pre ++ [x]) W' ∧ KeepsD W W') ∨ (e = .returned (.bool false) ∧ Jx (pre ++ [x]) W'))
    (W : World) (h0 : J [] W) :
    CallsIn Fence.wide n Tryd.prog 70 #[dval A, .int .i64 (N : Int), .int .u32 0, .func (.yield l) #[] #[]] W fun e W' => (∃ v, e = .returned (.bool v)) ∧
      ((∃ ys, ys = lstN A.ev (2 ^ N) ∧ J ys W') ∨ (∃ pre, pre <+: lstN A.ev (2 ^ N) ∧ Jx pre W')) := by
  have hfH : Fence.wide.fn 39 := trivial
  have hfE : Fence.wide.fn 14 := trivial
  have hemp := fun w => callsIn_wide (n := n - 1) |>.2 (Empty_any A w)
  have D0 : DBox (W.alloc (.cells #[.int .u32 (place (li A) A : Int), .string ⟨(code (rows (li A))).toArray⟩] 31)) W.heap.size A := World.alloc_heap_new W _
  have J0 : J [] (W.alloc (.cells #[.int .u32 (place (li A) A : Int), .string ⟨(code (rows (li A))).toArray⟩] 31)) := abides_below hJ h0 ((Below.refl _ _).alloc (Nat.le_refl _) _)
  refine callsIn_of_wp Tryd.func70 rfl trivial ?_ rfl
  simp only [Tryd.ntmps70, List.size_toArray, List.length_cons, List.length_nil, Nat.reduceAdd, Nat.reduceSub, Array.replicate_succ, Array.replicate_zero, List.push_toArray, List.append_toArray, List.nil_append, List.cons_append]
  gi_upto_region 1 with fail
  generalize W.alloc (.cells #[.int .u32 (place (li A) A : Int), .string ⟨(code (rows (li A))).toArray⟩] 31) = W0 at *
  generalize W.heap.size = g at *
  have a0 := D0.box.c0
  have a1 := D0.box.c1
  by_cases hF : A = .F
  · have hem : ∀ w, CallsIn Fence.wide (n - 1) Tryd.prog 14 #[dval A] w fun e w' => e = .returned (.bool true) ∧ Below w.heap.size w w' := fun w => by have := hemp w; rwa [decide_eq_true hF] at this
    have HF := Lib.hid hF
    clear hemp hF
    gi_wp2_with fail
    refine ⟨fun _ => by omega, (hem _).mono ?_⟩
    rintro e w1 ⟨rfl, hb1⟩
    dsimp only
    rename_i hk1
    refine hk1 _ _ ?_
    gi_wp2_with fail
    refine bodyPost_ret (v := .bool true) (by simp [results, Tryd.results70, go_sem]) rfl ⟨⟨_, rfl⟩, .inl ⟨[], ?_, abides_below hJ J0 hb1⟩⟩
    rw [HF.out]
    unfold lstN; symm; rw [List.filter_eq_nil_iff]; intro a _; simp [B.ev]
  · have hem : ∀ w, CallsIn Fence.wide (n - 1) Tryd.prog 14 #[dval A] w fun e w' => e = .returned (.bool false) ∧ Below w.heap.size w w' := fun w => by have := hemp w; rwa [decide_eq_false hF] at this
    clear hemp hF
    have hN1 : decide (10 < (N : Int)) = false := by simp; omega
    have hN2 : (N : Int) ≤ 10 := by omega
    gi_wp2_with fail
    refine ⟨fun _ => by omega, (hem _).mono ?_⟩
    rintro e w1 ⟨rfl, hb1⟩
    dsimp only
    rename_i hk1
    refine hk1 _ _ ?_
    gi_wp2_with fail
    have hM : (2 : Int) ^ N % 4294967296 = ((2 ^ N : Nat) : Int) := by
      have : 2 ^ N ≤ 2 ^ 10 := Nat.pow_le_pow_right (by omega) hN
      rw [show (2 : Int) ^ N = ((2 ^ N : Nat) : Int) by simp]
      generalize 2 ^ N = m at *
      omega
    have hM1 : 2 ^ N ≤ 1024 := Nat.pow_le_pow_right (by omega) hN
    rw [hM]
    have D1 : DBox w1 g A := D0.kept ((Fr.refl nob _).below hb1) (fun h => h)
    have J1 := abides_below hJ J0 hb1
    clear hM J0 D0 hb1 hem a0 a1 hk1 h0
    obtain ⟨M, hMe⟩ : ∃ M, 2 ^ N = M := ⟨_, rfl⟩
    rw [hMe] at hY hM1 ⊢
    have HME := Lib.hid hMe
    clear hMe
    gi_loopw [38] (fun v wr => ∃ k : Nat, k ≤ M ∧ v = .int .u32 (k : Int) ∧ J (lstN A.ev k) wr ∧ DBox wr g A) (fun v _ => M - (intOf v).toNat)
    case atStart => exact ⟨0, by omega, rfl, J1, D1⟩
    case round =>
      clear J1 D1
      obtain ⟨k, hk, rfl, hJk, hD⟩ := hrel
      have HJK := Lib.hid hJk
      have HD := Lib.hid hD
      have a0 := hD.box.c0
      have a1 := hD.box.c1
      by_cases hkM : k < M
      · have d1 : decide ((k : Int) < (M : Int)) = true := by simp; omega
        have d1' : decide (k < M) = true := by simp; omega
        have hhas := callsIn_wide (n := n - 1) |>.2 (Has_any A hA k (by omega) wr)
        clear hJk hD
        gi_wp2_with fail
        refine ⟨fun _ => by omega, hhas.mono ?_⟩
        rintro e w2 ⟨rfl, hb2⟩
        dsimp only
        rename_i hk1
        refine hk1 _ _ ?_
        clear hk1 hhas a0 a1
        have HD2 := Lib.hid (HD.out.kept ((Fr.refl nob _).below hb2) (fun h => h))
        have J2 := abides_below hJ HJK.out hb2
        have hor : bits BinOp.or IntKind.u32 0 (k : Int) = (k : Int) := by
          have := u32_or_nat 0 k (by omega) (by omega)
          rw [Nat.zero_or] at this; exact this
        have hkk : IntKind.u32.wrap ((k : Int) + 1) = (k : Int) + 1 := by rw [IntKind.wrap_u32]; omega
        clear HD HJK hb2
        have hev : (A.ev fun i => k.testBit i) = A.ev (bitsOf k) := rfl
        rw [hev]
        clear hev
        cases hh : A.ev (bitsOf k) with
        | false =>
          have hs := lstN_succ A.ev k
          rw [hh, if_neg (by simp), List.append_nil] at hs
          have HS := Lib.hid hs
          clear hh hs
          gi_wp2_with fail
          refine ⟨(fun f hf => by cases hf), ?_⟩
          rename_i hk2 x2 h2 w3 e2
          clear e2
          refine hk2 _ _ ?_
          gi_wp2_with fail
          go_roundw
          case rel => exact ⟨k + 1, by omega, by go_num, by rw [HS.out]; exact J2, HD2.out⟩
          case measure => simp [intOf]; omega
        | true =>
          have hs := lstN_succ A.ev k
          rw [hh, if_pos rfl] at hs
          have HS := Lib.hid hs
          have HP := Lib.hid (lstN_snoc A.ev hkM hh)
          obtain ⟨fn, tmps, assign, body, hy, hR⟩ := hY (lstN A.ev k) k w2 J2 (lstN_lt A.ev hkM hh)
          clear hh hs J2
          gi_wp2_with fail
          refine ⟨fun _ => by omega, hR.mono ?_⟩
          rintro e W3 (⟨rfl, hJ3, hk3⟩ | ⟨rfl, hJx3⟩)
          · dsimp only
            rename_i hk2
            refine hk2 _ _ ?_
            have HJ3 := Lib.hid hJ3
            have HD3 := Lib.hid (HD2.out.keeps hk3)
            clear hJ3 hk3
            gi_wp2_with fail
            go_roundw
            case rel => exact ⟨k + 1, by omega, by go_num, by rw [HS.out]; exact HJ3.out, HD3.out⟩
            case measure => simp [intOf]; omega
          · dsimp only
            rename_i hk2
            refine hk2 _ _ ?_
            have HJ3 := Lib.hid hJx3
            clear hJx3
            gi_wp2_with fail
            exact bodyPost_ret (v := .bool false) (by simp [results, Tryd.results70, go_sem]) rfl ⟨⟨_, rfl⟩, .inr ⟨_, by rw [HME.out]; exact HP.out, HJ3.out⟩⟩
      · have d1 : decide ((k : Int) < (M : Int)) = false := by simp; omega
        have d1' : decide (k < M) = false := by simp; omega
        obtain rfl : k = M := by omega
        clear hJk hD
        gi_wp2_with fail
        exact bodyPost_ret (v := .bool true) (by simp [results, Tryd.results70, go_sem]) rfl ⟨⟨_, rfl⟩, .inl ⟨_, by rw [HME.out], HJK.out⟩⟩
end Go.Proofs.YtiainlccodnlmaaDoor
