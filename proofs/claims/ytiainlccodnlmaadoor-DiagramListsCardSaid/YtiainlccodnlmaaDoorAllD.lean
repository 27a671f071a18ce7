import Derived.Test.YtiainlccodnlmaaDoorEach
import Derived.Test.YtiainlccodnlmaaDoorWith
namespace Go.Proofs.YtiainlccodnlmaaDoor
open Go.RowKit Go.Shelf
open Bd
attribute [local go_sem] Oper.semAt_some

theorem yield_depth {m m' : Nat} {P : Program} {l : Nat} {args : Array Value} {W : World} {R : Ending → World → Prop} (h : YieldAt Fence.wide m P l args W R) : YieldAt Fence.wide m' P l args W R := by
  obtain ⟨fn, tmps, assign, body, hy, hR⟩ := h
  exact ⟨fn, tmps, assign, body, hy, hR.1, fun c cs _ => hR.2 c cs (room_wide _)⟩

set_option maxRecDepth 100000 in
set_option maxHeartbeats 1000000 in
/-- the value that All hands back: a range over it gives the configurations, rising -/
theorem all_stops (n : Nat) (hn : 3 ≤ n) (A : B) (hA : A.ok 0) (N : Nat) (hN : N ≤ 10) (g h : Nat) (w : World) (hb : Box2 w g (.int .u32 (place (li A) A : Int)) (.string ⟨(code (rows (li A))).toArray⟩)) (hc : w.cell? ⟨h, 0, none⟩ = some (.int .i64 (N : Int))) :
    SeqStopsK Fence.wide n Tryd.prog 69 #[.pointer (some ⟨g, 0, none⟩), .pointer (some ⟨h, 0, none⟩)] (fun x : Nat => #[Value.int .u32 ((x : Nat) : Int)]) KeepsD (fun ys => ys = lstN A.ev (2 ^ N)) (fun pre => pre <+: lstN A.ev (2 ^ N)) (lstN A.ev (2 ^ N)).length w := fun l J Jx W hW hJ _ hY h0 => by
  have fr := (Fr.refl nob w).below hW
  have ⟨a0, a1, _⟩ := hb.kept fr (fun h => h)
  have n0 := fr.cell hc (fun h => h)
  have he := each_in (n - 1) (by omega) A hA N hN l _ J Jx hJ (fun pre x W1 hj hl => yield_depth (hY pre x W1 hj hl)) W h0
  have hfE : Fence.wide.fn 70 := trivial
  have HE := Lib.hid he
  clear he hb hc hW fr hY h0
  refine callsIn_of_wp Tryd.func69 rfl trivial ?_ rfl
  simp only [Tryd.ntmps69, List.size_toArray, List.length_cons, List.length_nil, Nat.reduceAdd, Nat.reduceSub, Array.replicate_succ, Array.replicate_zero, List.push_toArray, List.append_toArray, List.nil_append, List.cons_append]
  gi_wp2_with fail
  refine ⟨fun _ => by omega, HE.out.mono ?_⟩
  rintro e w2 ⟨⟨v, rfl⟩, hh⟩
  have HH := Lib.hid hh
  clear hh HE
  dsimp only
  rename_i hk1
  refine hk1 _ _ ?_
  gi_wp2_with fail
  go_end0
  exact ⟨⟨_, rfl⟩, HH.out⟩

/-- a set within the configurations below 2^N is as it was -/
def Agr (N : Nat) (A X : B) : Prop := X.ok 0 ∧ ∀ c, c < 2 ^ N → X.ev (bitsOf c) = A.ev (bitsOf c)
theorem Agr.with {N : Nat} {A X : B} (h : Agr N A X) (i : Nat) (hi : N ≤ i) : Agr N A (withI X (i : Int) false) := by
  refine ⟨ok_withI h.1 _ _, fun c hc => ?_⟩
  rw [← h.2 c hc]
  unfold withI
  split
  · rw [ev_withB h.1]
    congr 1
    have hb : bitsOf c i = false := Nat.testBit_lt_two_pow (Nat.lt_of_lt_of_le hc (Nat.pow_le_pow_right (by omega) hi))
    have := up_self (bitsOf c) i
    rw [hb] at this
    exact this
  · rfl
theorem Agr.lst {N : Nat} {A X : B} (h : Agr N A X) : lstN X.ev (2 ^ N) = lstN A.ev (2 ^ N) := by
  unfold lstN
  exact List.filter_congr fun c hc => h.2 c (List.mem_range.1 hc)

def AllPost (A : B) (N : Nat) (w : World) (e : Ending) (w' : World) : Prop :=
  ∃ (g h : Nat) (X : B), e = .returned (.func (.func 69) #[] #[.pointer (some ⟨g, 0, none⟩), .pointer (some ⟨h, 0, none⟩)]) ∧ Below w.heap.size w w' ∧ Agr N A X ∧
    Box2 w' g (.int .u32 (place (li X) X : Int)) (.string ⟨(code (rows (li X))).toArray⟩) ∧ w'.cell? ⟨h, 0, none⟩ = some (.int .i64 (N : Int))

set_option maxRecDepth 100000 in
set_option maxHeartbeats 2000000 in
theorem All_any (A : B) (hA : A.ok 0) (n : Int) (hn : n ≤ 10) (w : World) : Calls Tryd.prog 32 #[dval A, .int .i64 n] w (AllPost A n.toNat w) := by
  have D0 := Box2.new w (.int .u32 (place (li A) A : Int)) (.string ⟨(code (rows (li A))).toArray⟩) 31
  have fr : Fr nob w (w.alloc (.cells #[.int .u32 (place (li A) A : Int), .string ⟨(code (rows (li A))).toArray⟩] 31)) := (Fr.refl nob w).alloc _
  go_enter Tryd.func32, Tryd.ntmps32
  go_upto_region 3 with fail
  have e : min (max n 0) 24 = ((n.toNat : Nat) : Int) := by omega
  have hN : n.toNat ≤ 10 := by omega
  rw [e]
  have HNE := Lib.hid (show n.toNat = n.toNat from rfl)
  generalize hq : n.toNat = N at hN HNE ⊢
  have HQ := Lib.hid hq
  clear e hq hn HNE
  have D1 := D0.kept ((Fr.refl nob _).alloc (.cells #[.int .i64 (N : Int)] 3)) (fun h => h)
  have F1 := fr.trans ((Fr.refl nob _).alloc (.cells #[.int .i64 (N : Int)] 3)) (fun _ _ h => h)
  have n1 : ((w.alloc (.cells #[.int .u32 (place (li A) A : Int), .string ⟨(code (rows (li A))).toArray⟩] 31)).alloc (.cells #[.int .i64 (N : Int)] 3)).cell? ⟨w.heap.size + 1, 0, none⟩ = some (.int .i64 (N : Int)) := by
    have hs : (w.alloc (.cells #[.int .u32 (place (li A) A : Int), .string ⟨(code (rows (li A))).toArray⟩] 31)).heap.size = w.heap.size + 1 := by simp
    rw [← hs]
    exact World.cell?_alloc_at _ _ _ _ (by simp)
  generalize (w.alloc (.cells #[.int .u32 (place (li A) A : Int), .string ⟨(code (rows (li A))).toArray⟩] 31)).alloc (.cells #[.int .i64 (N : Int)] 3) = W1 at *
  clear D0 fr
  go_loopw [5] (fun v wr => ∃ (k : Nat) (X : B), N ≤ k ∧ k ≤ 24 ∧ v = .int .i64 (k : Int) ∧ Agr N A X ∧ Box2 wr w.heap.size (.int .u32 (place (li X) X : Int)) (.string ⟨(code (rows (li X))).toArray⟩) ∧ wr.cell? ⟨w.heap.size + 1, 0, none⟩ = some (.int .i64 (N : Int)) ∧ Fr nob w wr) (fun v _ => 24 - (intOf v).toNat)
  case atStart => exact ⟨N, A, Nat.le_refl _, by omega, rfl, ⟨hA, fun _ _ => rfl⟩, D1, n1, F1⟩
  case round =>
    clear D1 n1 F1 hA
    obtain ⟨k, X, hk1, hk2, rfl, hX, hD, hn1, hF⟩ := hrel
    have HX := Lib.hid hX
    have HD := Lib.hid hD
    have HN1 := Lib.hid hn1
    have HF := Lib.hid hF
    have ⟨a0, a1, af⟩ := hD
    clear hX hn1 hF hD
    by_cases hk : k < 24
    · have d1 : decide ((k : Int) < 24) = true := by simp; omega
      have d1' : decide (k < 24) = true := by simp; omega
      have hwith := With_any X HX.out.1 (k : Int) false wr
      clear af
      go_wp2_with fail
      refine hwith.mono ?_
      rintro e w2 ⟨rfl, hb2⟩
      clear hwith a0 a1
      have f2 := (Fr.refl nob wr).below hb2
      have D2 := HD.out.kept f2 (fun h => h)
      have n2 := f2.cell HN1.out (fun h => h)
      have F2 := HF.out.trans f2 (fun _ _ h => h)
      have ⟨b0, b1, bf⟩ := D2
      have bf0 := bf 0
      have bf1 := bf 1
      obtain ⟨D3, f3⟩ := D2.set (.int .u32 (place (li (withI X (k : Int) false)) (withI X (k : Int) false) : Int)) (.string ⟨(code (rows (li (withI X (k : Int) false)))).toArray⟩)
      have n3 := f3.cell n2 (by show ¬ w.heap.size + 1 = w.heap.size; omega)
      have F3 := F2.trans' f3 (T := nob) (fun _ _ h => h) (fun j hj h => by have e : j = w.heap.size := h; omega)
      have HD3 := Lib.hid D3
      have HN3 := Lib.hid n3
      have HF3 := Lib.hid F3
      clear f2 n2 F2 bf D2 D3 f3 n3 F3 hb2 HD HN1 HF
      go_wp2_with fail
      go_roundw
      case rel => exact ⟨k + 1, _, by omega, by omega, by go_num, HX.out.with k hk1, HD3.out, HN3.out, HF3.out⟩
      case measure => simp [intOf]; omega
    · have d1 : decide ((k : Int) < 24) = false := by simp; omega
      have d1' : decide (k < 24) = false := by simp; omega
      clear a0 a1 af
      go_wp2_with fail
      go_ret
      exact ⟨_, _, X, rfl, HF.out.to_below (Nat.le_refl _) (fun _ h => h.elim), by rw [HQ.out]; exact HX.out, HD.out, by rw [HQ.out]; exact HN1.out⟩
end Go.Proofs.YtiainlccodnlmaaDoor
