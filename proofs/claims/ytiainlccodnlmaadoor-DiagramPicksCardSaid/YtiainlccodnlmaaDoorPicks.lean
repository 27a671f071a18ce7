import Derived.Test.YtiainlccodnlmaaDoorChp
import Derived.Test.YtiainlccodnlmaaDoorRefL
import Derived.Test.YtiainlccodnlmaaDoorMake
import Derived.Test.YtiainlccodnlmaaDoorWake
namespace Go.Proofs.YtiainlccodnlmaaDoor
open Go.RowKit
open Bd

/-! what is picked: the price of best in plain sums -/

/-- what a configuration costs -/
def cst (w : Nat → Int) (c : Nat) : Int := sumF (fun j => if c.testBit j then w j else 0) 24
theorem sumF_sub {f g h : Nat → Int} : ∀ {n : Nat}, (∀ j, j < n → f j = g j - h j) → sumF f n = sumF g n - sumF h n
  | 0, _ => by simp [sumF]
  | n + 1, H => by
    have ih := sumF_sub (n := n) (f := f) (g := g) (h := h) fun j hj => H j (by omega)
    have := H n (by omega)
    simp only [sumF]
    omega
theorem pr_cst {w : Nat → Int} {us : Nat} (hu : ∀ j, j < 24 → us.testBit j = decide (w j < 0)) (c : Nat) : pr w us c = cst w c - cst w us :=
  sumF_sub fun j hj => by
    have h := hu j hj
    unfold prj
    rw [h]
    by_cases hw : w j < 0
    · cases hc : c.testBit j <;> simp [hw]
    · cases hc : c.testBit j <;> simp [hw]
theorem usN_24 (w : Nat → Int) : ∀ j, j < 24 → (usN w 24).testBit j = decide (w j < 0) := fun j hj => by rw [usN_bit]; simp [hj]
/-- what best picks is in the set, and none is before it -/
theorem pick_all {w : Nat → Int} (hw : ∀ j, -2147483648 ≤ w j ∧ w j ≤ 2147483648) {A : B} (hA : A.ok 0) (hF : A ≠ .F) :
    bstN w A < 16777216 ∧ A.ev (bitsOf (bstN w A)) = true ∧ ∀ d, A.ev (bitsOf d) = true → cst w (bstN w A) < cst w d ∨ (cst w (bstN w A) = cst w d ∧ bstN w A ≤ d) := by
  have H := best_all hw (usN_lt w (k := 24) (Nat.le_refl _)) (usN_24 w) hA hF
  have e : bstN w A = (ofr w (usN w 24) A).2 := by unfold bstN; rw [if_neg hF]
  have hm := H.min
  have hl := H.lt
  have he := H.ev
  rw [← e] at hm hl he
  refine ⟨hl, he, fun d hd => ?_⟩
  have := hm d hd
  rw [pr_cst (usN_24 w), pr_cst (usN_24 w)] at this
  omega
theorem sumF_snoc (f : Nat → Int) (n : Nat) : sumF f (n + 1) = sumF f n + f n := by simp [sumF]
theorem csL_range (w : Nat → Int) (p : Nat → Bool) : ∀ n : Nat, csL w (ints ((List.range n).filter p)) = sumF (fun j => if p j then w j else 0) n
  | 0 => by simp [csL, ints, sumF]
  | n + 1 => by
    rw [List.range_succ, List.filter_append, sumF_snoc, ← csL_range w p n]
    unfold csL ints
    rw [List.map_append, List.map_append, List.sum_append]
    cases h : p n <;> simp [h]
theorem csL_cst (w : Nat → Int) (c : Nat) : csL w (ints (featL c)) = cst w c := csL_range w c.testBit 24
theorem len_range (p : Nat → Bool) : ∀ n : Nat, (((List.range n).filter p).length : Int) = sumF (fun j => if p j then 1 else 0) n
  | 0 => by simp [sumF]
  | n + 1 => by
    rw [List.range_succ, List.filter_append, sumF_snoc, ← len_range p n]
    cases h : p n <;> simp [h]
theorem len_cst (c : Nat) : ((featL c).length : Int) = cst (fun _ => 1) c := len_range c.testBit 24
theorem costN_sumF (w : Nat → Int) (c : Cfg) : ∀ n : Nat, n ≤ 24 → costN w n c + sumF (fun j => if c j then w j else 0) (24 - n) = sumF (fun j => if c j then w j else 0) 24
  | 0, _ => by simp [costN]
  | n + 1, h => by
    have ih := costN_sumF w c n (by omega)
    obtain ⟨k, hk⟩ : ∃ k, 24 - n = k + 1 := ⟨23 - n, by omega⟩
    have e1 : 24 - (n + 1) = k := by omega
    have e2 : 23 - n = k := by omega
    rw [hk, sumF_snoc] at ih
    rw [e1, costN_succ, e2]
    omega
theorem costN_cst (w : Nat → Int) (c : Nat) : costN w 24 (bitsOf c) = cst w c := by
  have := costN_sumF w (bitsOf c) 24 (Nat.le_refl _)
  have h0 : sumF (fun j => if bitsOf c j then w j else 0) (24 - 24) = 0 := by simp [sumF]
  rw [h0, Int.add_zero] at this
  exact this
theorem sumC_sumF (g : Nat → Int) (c : Cfg) : ∀ n : Nat, sumC g c n = sumF (fun j => if c j then g j else 0) n
  | 0 => by simp [sumC, sumF]
  | n + 1 => by rw [sumF_snoc, ← sumC_sumF g c n]; rfl
theorem sumF_more {f : Nat → Int} {n : Nat} (hf : ∀ j, n ≤ j → f j = 0) : ∀ k : Nat, sumF f (n + k) = sumF f n
  | 0 => rfl
  | k + 1 => by rw [show n + (k + 1) = (n + k) + 1 from rfl, sumF_snoc, hf (n + k) (by omega), sumF_more hf k]; omega
/-- the reference's cost is the program's -/
theorem sumC_cst {l : List Int} (hl : wOk l = true) (c : Nat) : sumC (gl l) (bitsOf c) l.length = cst (wC l) c := by
  have hlen := (wOk_iff.1 hl).1
  have hg : wC l = gl l := by funext j; unfold wC; rw [if_pos hl]
  rw [sumC_sumF, hg]
  obtain ⟨k, hk⟩ : ∃ k, 24 = l.length + k := ⟨24 - l.length, by omega⟩
  unfold cst
  rw [hk, sumF_more]
  · rfl
  · intro j hj
    have : gl l j = 0 := by unfold gl; simp [hj]
    rw [this]; split <;> rfl
theorem least_le {A : B} (hA : A.ok 0) (hF : A ≠ .F) {d : Nat} (hd : A.ev (bitsOf d) = true) : bstN (fun _ => 0) A ≤ d := by
  have h := (pick_all (w := fun _ => 0) (fun _ => by omega) hA hF).2.2 d hd
  have hz : ∀ c, cst (fun _ => 0) c = 0 := fun c => by
    unfold cst
    have : ∀ n, sumF (fun j => if c.testBit j then (0 : Int) else 0) n = 0 := fun n => by
      induction n with
      | zero => rfl
      | succ n ih => rw [sumF_snoc, ih]; split <;> rfl
    exact this 24
  rw [hz, hz] at h
  omega
theorem small_le {A : B} (hA : A.ok 0) (hF : A ≠ .F) {d : Nat} (hd : A.ev (bitsOf d) = true) : (featL (bstN (fun _ => 1) A)).length ≤ (featL d).length := by
  have h := (pick_all (w := fun _ => 1) (fun _ => by omega) hA hF).2.2 d hd
  rw [← len_cst, ← len_cst] at h
  omega
theorem cheap_le {w : Nat → Int} (hw : ∀ j, -2147483648 ≤ w j ∧ w j ≤ 2147483648) {A : B} (hA : A.ok 0) (hF : A ≠ .F) {d : Nat} (hd : A.ev (bitsOf d) = true) : cst w (bstN w A) ≤ cst w d := by
  have h := (pick_all hw hA hF).2.2 d hd
  omega
theorem cwN_neg (m j : Nat) (hj : j < 24) : decide (cwN (ints (featL m)) j < 0) = m.testBit j := by
  have e : ((j : Int) ∈ ints (featL m)) ↔ m.testBit j = true := by
    unfold ints featL
    simp only [List.mem_map, List.mem_filter, List.mem_range]
    constructor
    · rintro ⟨a, ⟨_, h⟩, h2⟩
      have : a = j := by omega
      subst this; exact h
    · intro h; exact ⟨j, ⟨hj, h⟩, rfl⟩
  unfold cwN
  by_cases h : m.testBit j = true
  · rw [if_pos (e.2 h), h]; rfl
  · rw [if_neg (fun x => h (e.1 x))]
    have : m.testBit j = false := by simpa using h
    rw [this]; rfl
theorem us_near (m : Nat) : usN (cwN (ints (featL m))) 24 = m % 2 ^ 24 := Nat.eq_of_testBit_eq fun j => by
  rw [usN_bit, Nat.testBit_mod_two_pow]
  by_cases hj : j < 24
  · rw [← cwN_neg m j hj]; simp [hj]
  · simp [hj]
theorem pr_near (m c : Nat) : pr (cwN (ints (featL m))) (m % 2 ^ 24) c = ((featL (c ^^^ (m % 2 ^ 24))).length : Int) := by
  rw [len_cst]
  refine sumF_congr fun j hj => ?_
  have hw : cwN (ints (featL m)) j = -1 ∨ cwN (ints (featL m)) j = 1 := by unfold cwN; split <;> simp
  unfold prj
  rw [Nat.testBit_xor]
  cases h1 : c.testBit j <;> cases h2 : (m % 2 ^ 24).testBit j <;> rcases hw with h | h <;> simp [h]
theorem near_le {A : B} (hA : A.ok 0) (hF : A ≠ .F) (m : Nat) {d : Nat} (hd : A.ev (bitsOf d) = true) : (featL (bstN (cwN (ints (featL m))) A ^^^ (m % 2 ^ 24))).length ≤ (featL (d ^^^ (m % 2 ^ 24))).length := by
  have h := (pick_all (cwN_bound (ints (featL m))) hA hF).2.2 d hd
  have e := fun c => pr_cst (usN_24 (cwN (ints (featL m)))) c
  rw [us_near] at e
  have e1 := e (bstN (cwN (ints (featL m))) A)
  have e2 := e d
  rw [pr_near] at e1 e2
  omega
theorem near_self {A : B} (hA : A.ok 0) (m : Nat) (hd : A.ev (bitsOf (m % 2 ^ 24)) = true) : bstN (cwN (ints (featL m))) A = m % 2 ^ 24 := by
  have hF : A ≠ .F := fun h => by subst h; cases hd
  have h := near_le hA hF m hd
  have hb : bstN (cwN (ints (featL m))) A < 2 ^ 24 := (pick_all (cwN_bound (ints (featL m))) hA hF).1
  rw [Nat.xor_self] at h
  have h0 : (featL 0).length = 0 := by decide
  have hz : featL (bstN (cwN (ints (featL m))) A ^^^ (m % 2 ^ 24)) = [] := List.eq_nil_of_length_eq_zero (by omega)
  refine Nat.eq_of_testBit_eq fun j => ?_
  by_cases hj : j < 24
  · have : ¬ (bstN (cwN (ints (featL m))) A ^^^ (m % 2 ^ 24)).testBit j = true := fun h => by
      have hm : j ∈ featL (bstN (cwN (ints (featL m))) A ^^^ (m % 2 ^ 24)) := by unfold featL; simp only [List.mem_filter, List.mem_range]; exact ⟨hj, h⟩
      rw [hz] at hm; cases hm
    rw [Nat.testBit_xor] at this
    revert this
    cases (bstN (cwN (ints (featL m))) A).testBit j <;> cases (m % 2 ^ 24).testBit j <;> simp
  · rw [Nat.testBit_lt_two_pow (Nat.lt_of_lt_of_le hb (Nat.pow_le_pow_right (by omega) (show 24 ≤ j by omega))), Nat.testBit_lt_two_pow (Nat.lt_of_lt_of_le (Nat.mod_lt _ (by decide)) (Nat.pow_le_pow_right (by omega) (show 24 ≤ j by omega)))]
theorem len_one (i : Nat) : (featL (2 ^ i)).length ≤ 1 := by
  by_cases hi : i < 24
  · have : ∀ i, i < 24 → (featL (2 ^ i)).length ≤ 1 := by decide
    exact this i hi
  · have : featL (2 ^ i) = [] := by
      unfold featL
      rw [List.filter_eq_nil_iff]
      intro a ha
      have := List.mem_range.1 ha
      rw [Nat.testBit_two_pow]
      simp; omega
    rw [this]; simp
theorem near_flip {A : B} (hA : A.ok 0) (hF : A ≠ .F) (m i : Nat) (hd : A.ev (bitsOf ((m % 2 ^ 24) ^^^ 2 ^ i)) = true) : (featL (bstN (cwN (ints (featL m))) A ^^^ (m % 2 ^ 24))).length ≤ 1 := by
  have h := near_le hA hF m hd
  have e : (m % 2 ^ 24) ^^^ 2 ^ i ^^^ (m % 2 ^ 24) = 2 ^ i := by rw [Nat.xor_comm (m % 2 ^ 24), Nat.xor_assoc, Nat.xor_self, Nat.xor_zero]
  rw [e] at h
  exact Nat.le_trans h (len_one i)
/-- none has fewer features than the smallest -/
theorem small_empty {A : B} (hA : A.ok 0) (hF : A ≠ .F) : ite A (costB (cwM (ints (featL 16777215))) 0 (((featL (bstN (fun _ => 1) A)).length : Int) - 1) 24 0) .F = .F :=
  eq_of_ev (ok_ite0 _ _ _) (show (B.F).ok 0 from trivial) fun c => by
    rw [ev_ite hA (ok_costB0 _ _ _ _ _) (show (B.F).ok 0 from trivial)]
    cases hc : A.ev c with
    | false => rfl
    | true =>
      obtain ⟨k, -, hb⟩ := num_ex (List.range 24) (by unfold rising; decide) c
      generalize cfgN (List.range 24) k = d at hb
      have he : A.ev (bitsOf d) = true := by
        rw [← hc]; exact ev_agree hA fun j _ hj => hb j (List.mem_range.2 hj)
      have hs := small_le hA hF he
      have hw : cst (cwM (ints (featL 16777215))) d = ((featL d).length : Int) := by
        rw [len_cst]
        refine sumF_congr fun j hj => ?_
        have : cwM (ints (featL 16777215)) j = 1 := by
          have : ∀ j, j < 24 → cwM (ints (featL 16777215)) j = 1 := by decide
          exact this j hj
        rw [this]
      rw [if_pos rfl, ev_costB _ _ _ (Nat.le_refl _), ← costN_agree _ 24 (bitsOf d) c (Nat.le_refl _) (fun j _ hj => hb j (List.mem_range.2 hj)), costN_cst, hw]
      have : decide (0 + ((featL d).length : Int) ≤ ((featL (bstN (fun _ => 1) A)).length : Int) - 1) = false := by simp; omega
      rw [this, Bool.and_false]; rfl
end Go.Proofs.YtiainlccodnlmaaDoor
namespace Go.Proofs.YtiainlccodnlmaaDoor
open Go.RowKit
open Bd

set_option maxRecDepth 100000 in
set_option maxHeartbeats 2000000 in
/-- a script that builds nothing, or costs that are none: nothing is asked -/
theorem picks_bad (A B1 C : B) (ok ok2 : Bool) (hbad : ok = false ∨ ok2 = false) (l : List Int) (hok2 : ok2 = wOk l) (v : Value) (a : Option Addr) (cap c : Nat) (w : World)
    (c3 : Calls Tryd.prog 33 #[v] w fun e w' => e = .returned (.tuple #[dval A, dval B1, dval C, .bool ok]) ∧ Below w.heap.size w w')
    (cCs : l.length ≤ 24 → ∀ W, Fr nob w W → Calls Tryd.prog 34 #[.slice a l.length cap] W fun e w' => e = .returned (.bool ok2) ∧ W = w') :
    Calls Tryd.prog 7 #[v, .int .u32 (c : Int), .slice a l.length cap] w fun e w' => e = .returned (.bool true) ∧ Below w.heap.size w w' := by
  go_enter Tryd.func7, Tryd.ntmps7
  go_wp2_with fail
  refine c3.mono ?_
  rintro e w1 ⟨rfl, hb1⟩
  have fr1 := (Fr.refl nob w).below hb1
  clear hb1 c3
  have fW := ((fr1.alloc (.cells #[.int .u32 (place (li A) A : Int), .string ⟨(code (rows (li A))).toArray⟩] 31)).alloc (.cells #[.int .u32 (place (li B1) B1 : Int), .string ⟨(code (rows (li B1))).toArray⟩] 31)).alloc (.cells #[.int .u32 (place (li C) C : Int), .string ⟨(code (rows (li C))).toArray⟩] 31)
  have FW := Lib.hid fW
  have CC := Lib.hid (fun h => cCs h _ fW)
  clear cCs fW fr1
  cases ok with
  | false =>
    clear hbad hok2 CC
    go_wp2_with fail
    refine (wakes_any _).mono ?_
    rintro e w2 ⟨rfl, hb2⟩
    have f2 := FW.out.below hb2
    go_wp2_with fail
    exact bodyPost_ret (v := .bool true) (by simp [results, Tryd.results7, go_sem]) rfl ⟨rfl, f2.to_below (Nat.le_refl _) (fun _ h => h.elim)⟩
  | true =>
    obtain rfl : ok2 = false := by rcases hbad with h | h; (cases h); exact h
    by_cases hl : (24 : Int) < (l.length : Int)
    · clear hbad hok2 CC
      go_wp2_with fail
      refine (wakes_any _).mono ?_
      rintro e w2 ⟨rfl, hb2⟩
      have f2 := FW.out.below hb2
      go_wp2_with fail
      exact bodyPost_ret (v := .bool true) (by simp [results, Tryd.results7, go_sem]) rfl ⟨rfl, f2.to_below (Nat.le_refl _) (fun _ h => h.elim)⟩
    · clear hbad hok2
      have cc := CC.out (by omega)
      clear CC
      go_wp2_with fail
      refine cc.mono ?_
      rintro e w2 ⟨rfl, rfl⟩
      go_wp2_with fail
      refine (wakes_any _).mono ?_
      rintro e w2 ⟨rfl, hb2⟩
      have f2 := FW.out.below hb2
      go_wp2_with fail
      exact bodyPost_ret (v := .bool true) (by simp [results, Tryd.results7, go_sem]) rfl ⟨rfl, f2.to_below (Nat.le_refl _) (fun _ h => h.elim)⟩
end Go.Proofs.YtiainlccodnlmaaDoor
namespace Go.Proofs.YtiainlccodnlmaaDoor
open Go.RowKit
open Bd

theorem lw_val {P : Program} {ops : Array Oper} {rest : List Oper} {o : Oper} {a : Act} {w : World} {Q : Exit → Act → World → Prop} {v : Value} (hw : Region.wanted o (yielded ops a.tmps) = true) (h : (execOp a.eval o).run P w = .ok (.value v) w) (k : wpList P ops Q rest (a.put o.dst v) w) : wpList P ops Q (o :: rest) a w := by
  refine wpList_step fun K hK => ?_
  rw [if_pos hw]
  unfold Oper.wp
  rw [h]
  exact hK _ _ k
theorem lw_call {P : Program} {ops : Array Oper} {rest : List Oper} {o : Oper} {a : Act} {w : World} {Q : Exit → Act → World → Prop} {v : Value} {f : FuncId} {args : Array Value} (hw : Region.wanted o (yielded ops a.tmps) = true) (h : (execOp a.eval o).run P w = .ok (.enter f args) w)
    (hc : Calls P f args w fun e w' => e = .returned v ∧ Fr nob w w') (k : ∀ w', Fr nob w w' → wpList P ops Q rest (a.put o.dst v) w') : wpList P ops Q (o :: rest) a w := by
  refine wpList_step fun K hK => ?_
  rw [if_pos hw]
  unfold Oper.wp
  rw [h, Oper.upon_enter]
  refine hc.mono fun e w' hh => ?_
  obtain ⟨rfl, hf⟩ := hh
  exact hK _ _ (k w' hf)

set_option maxRecDepth 100000 in
set_option maxHeartbeats 4000000 in
theorem picks_in (A B1 C : B) (b : Bool) (x y z u : Nat) (s er : Int) (l : List Int) (hl : l.length ≤ 24) (v : Value) (a : Option Addr) (cap c : Nat) (w : World) (HIx : IRow w (.slice a l.length cap) l)
    (c3 : Calls Tryd.prog 33 #[v] w fun e w' => e = .returned (.tuple #[dval A, dval B1, dval C, .bool true]) ∧ Below w.heap.size w w')
    (cCs : ∀ W, Fr nob w W → Calls Tryd.prog 34 #[.slice a l.length cap] W fun e w' => e = .returned (.bool true) ∧ W = w')
    (cL : ∀ W, Calls Tryd.prog 35 #[dval A] W fun e w' => e = .returned (.tuple #[.int .u32 (x : Int), .bool b]) ∧ Below W.heap.size W w')
    (cS : ∀ W, Calls Tryd.prog 36 #[dval A] W fun e w' => e = .returned (.tuple #[.int .u32 (y : Int), .bool b]) ∧ Below W.heap.size W w')
    (cN : ∀ W, Fr nob w W → Calls Tryd.prog 37 #[dval A, .int .u32 (c : Int)] W fun e w' => e = .returned (.tuple #[.int .u32 (z : Int), .bool b]) ∧ Below W.heap.size W w')
    (cP : ∀ W v', Fr nob w W → SRow W v' (l.map (Value.int .i64)) → Calls Tryd.prog 38 #[dval A, v'] W fun e w' => e = .returned (.tuple #[.int .u32 (u : Int), .int .i64 s, .int .i64 er]) ∧ Below W.heap.size W w')
    (cE : ∀ W, Calls Tryd.prog 14 #[dval A] W fun e w' => e = .returned (.bool (!b)) ∧ Below W.heap.size W w')
    (hF : b = false → x = 0 ∧ y = 0 ∧ z = 0 ∧ u = 0 ∧ s = 0 ∧ er = 8) (hE : b = true → er = 0) (cc : Nat) (hcc : (c : Int) % 16777216 = (cc : Int)) (h : Bool)
    (cH : ∀ W (q : Nat), (q = x ∨ q = y ∨ q = z ∨ q = u) → b = true → Calls Tryd.prog 39 #[dval A, .int .u32 (q : Int)] W fun e w' => e = .returned (.bool true) ∧ Below W.heap.size W w')
    (cHc : ∀ W, Calls Tryd.prog 39 #[dval A, .int .u32 (cc : Int)] W fun e w' => e = .returned (.bool h) ∧ Below W.heap.size W w')
    (hz : h = true → z = cc)
    (cCu : ∀ W, Fr nob w W → b = true → Calls Tryd.prog 40 #[.slice a l.length cap, .int .u32 (u : Int)] W fun e w' => e = .returned (.int .i64 s) ∧ W = w')
    (ny nz : Nat) (hny : ny ≤ 24) (hnz : nz ≤ 24) (zx : Nat) (hzx : bits BinOp.xor IntKind.u32 (z : Int) (cc : Int) = (zx : Int))
    (cFy : ∀ W, Calls Tryd.prog 41 #[.int .u32 (y : Int)] W fun e w' => ∃ v, e = .returned v ∧ (∃ a cap, v = .slice a ny cap) ∧ Below W.heap.size W w')
    (cFz : ∀ W, Calls Tryd.prog 41 #[.int .u32 (zx : Int)] W fun e w' => ∃ v, e = .returned v ∧ (∃ a cap, v = .slice a nz cap) ∧ Below W.heap.size W w')
    (BB AB : B) (cBt : ∀ W, Fr nob w W → Calls Tryd.prog 43 #[.int .u32 16777215, .int .i64 0, .int .i64 ((ny : Int) - 1)] W fun e w' => e = .returned (dval BB) ∧ Below W.heap.size W w')
    (cAn : ∀ W, Calls Tryd.prog 42 #[dval A, dval BB] W fun e w' => e = .returned (dval AB) ∧ Below W.heap.size W w')
    (cEm : ∀ W, b = true → Calls Tryd.prog 14 #[dval AB] W fun e w' => e = .returned (.bool true) ∧ Below W.heap.size W w')
    (hle : b = true → h = true → x ≤ cc)
    (hflip : ∀ W (k : Nat), b = true → k < 24 → 2 ≤ nz → ∀ q : Int, q = bits BinOp.xor IntKind.u32 (cc : Int) (IntKind.u32.wrap (2 ^ k)) → Calls Tryd.prog 39 #[dval A, .int .u32 q] W fun e w' => e = .returned (.bool false) ∧ Below W.heap.size W w')
    (sc : Int) (cCc : ∀ W, Fr nob w W → b = true → Calls Tryd.prog 40 #[.slice a l.length cap, .int .u32 (cc : Int)] W fun e w' => e = .returned (.int .i64 sc) ∧ W = w')
    (hsc : b = true → h = true → s ≤ sc) :
    Calls Tryd.prog 7 #[v, .int .u32 (c : Int), .slice a l.length cap] w fun e w' => e = .returned (.bool true) ∧ Below w.heap.size w w' := by
  have hl24 : (l.length : Int) ≤ 24 := by omega
  go_enter Tryd.func7, Tryd.ntmps7
  go_wp2_with fail
  refine c3.mono ?_
  rintro e w1 ⟨rfl, hb1⟩
  have fr1 := (Fr.refl nob w).below hb1
  clear hb1 c3
  have fW := ((fr1.alloc (.cells #[.int .u32 (place (li A) A : Int), .string ⟨(code (rows (li A))).toArray⟩] 31)).alloc (.cells #[.int .u32 (place (li B1) B1 : Int), .string ⟨(code (rows (li B1))).toArray⟩] 31)).alloc (.cells #[.int .u32 (place (li C) C : Int), .string ⟨(code (rows (li C))).toArray⟩] 31)
  obtain ⟨D0, -, -⟩ := three_boxes w1 (.int .u32 (place (li A) A : Int)) (.string ⟨(code (rows (li A))).toArray⟩) (.int .u32 (place (li B1) B1 : Int)) (.string ⟨(code (rows (li B1))).toArray⟩) (.int .u32 (place (li C) C : Int)) (.string ⟨(code (rows (li C))).toArray⟩) 31
  have cc := cCs _ fW
  have HL := Lib.hid cL
  have HS := Lib.hid cS
  have HN := Lib.hid cN
  have HP := Lib.hid cP
  have HX := Lib.hid HIx
  have HF := Lib.hid fW
  have HE := Lib.hid cE
  have HH := Lib.hid cH
  have HC := Lib.hid cHc
  have HU := Lib.hid cCu
  have HFF := Lib.hid hF
  have HEE := Lib.hid hE
  have HZ := Lib.hid hz
  have HCC := Lib.hid hcc
  have Khzx := Lib.hid hzx
  have KcFy := Lib.hid cFy
  have KcFz := Lib.hid cFz
  have KcBt := Lib.hid cBt
  have KcAn := Lib.hid cAn
  have KcEm := Lib.hid cEm
  have Khle := Lib.hid hle
  have Khflip := Lib.hid hflip
  have KcCc := Lib.hid cCc
  have Khsc := Lib.hid hsc
  clear cCs cL cS cN cP HIx fW fr1 cE cH cHc cCu hF hE hz hcc hzx cFy cFz cBt cAn cEm hle hflip cCc hsc
  go_wp2_with fail
  refine cc.mono ?_
  rintro e w2 ⟨rfl, rfl⟩
  go_upto_region 4 with fail
  generalize ((w1.alloc (.cells #[.int .u32 (place (li A) A : Int), .string ⟨(code (rows (li A))).toArray⟩] 31)).alloc (.cells #[.int .u32 (place (li B1) B1 : Int), .string ⟨(code (rows (li B1))).toArray⟩] 31)).alloc (.cells #[.int .u32 (place (li C) C : Int), .string ⟨(code (rows (li C))).toArray⟩] 31) = W0 at *
  generalize w1.heap.size = g at *
  have a0 := D0.c0
  have a1 := D0.c1
  go_wp2_with fail
  refine (HL.out _).mono ?_
  rintro e wL ⟨rfl, hb⟩
  have D9 := Lib.hid (D0.kept ((Fr.refl nob _).below hb) (fun h => h))
  have HF9 := Lib.hid (HF.out.below hb)
  clear a0 a1 hb D0 HF
  have D0 := D9.out
  have HF := HF9
  clear D9 HF9
  have a0 := D0.c0
  have a1 := D0.c1
  go_wp2_with fail
  refine (HS.out _).mono ?_
  rintro e wS ⟨rfl, hb⟩
  have D9 := Lib.hid (D0.kept ((Fr.refl nob _).below hb) (fun h => h))
  have HF9 := Lib.hid (HF.out.below hb)
  clear a0 a1 hb D0 HF
  have D0 := D9.out
  have HF := HF9
  clear D9 HF9
  have a0 := D0.c0
  have a1 := D0.c1
  go_wp2_with fail
  refine (HN.out _ HF.out).mono ?_
  rintro e wN ⟨rfl, hb⟩
  have D9 := Lib.hid (D0.kept ((Fr.refl nob _).below hb) (fun h => h))
  have HF9 := Lib.hid (HF.out.below hb)
  clear a0 a1 hb D0 HF
  have D0 := D9.out
  have HF := HF9
  clear D9 HF9
  go_upto_region 7 with fail
  have HD := Lib.hid D0
  clear D0 HL HS HN cc
  refine E.wp_region_any_call 10 225 2 (fun i => i == 3 || i == 4 || i == 5 || i == 6 || i == 7 || i == 8 || i == 9) (fun w' => Fr nob wN w') (fun v w' => Fr nob wN w' ∧ SRow w' v (l.map (Value.int .i64))) (fun _ => True)
    (fun _ => #[]) [] (by kernel_rfl) (by kernel_rfl) rfl (by decide) (by kernel_rfl) (by kernel_rfl) (fun _ h => h) (fun _ h => h.size) (fun _ _ h k => h.trans k (fun _ _ h => h)) ⟨undef, trivial⟩ (fun _ _ _ => trivial) (fun _ _ h => h.1.size)
    (fun _ _ _ h k => ⟨h.1.trans k (fun _ _ h => h), h.2.kept k⟩) rfl (by intro T h; cases h) ?_
  rintro v2 -
  simp only [List.take_succ_cons, List.take_zero]
  refine E.anyc_value (v := dval A) rfl rfl rfl rfl ?o0 ?_
  case o0 =>
    intro w' h
    have hf : Fr nob wN w' := h.elim (fun h => h) (fun h => h.1)
    have ⟨a0, a1, rf⟩ := HD.out.kept hf (fun h => h)
    have f0 := rf 0
    have f1 := rf 1
    clear h hf rf
    go_simp
    try rfl
  simp only [Act.put, List.setIfInBounds_toArray, List.set_cons_zero, List.set_cons_succ]
  refine E.anyc_value (v := .slice a l.length cap) rfl rfl rfl rfl ?o1 ?_
  case o1 =>
    intro w' h
    clear h
    go_simp
    try rfl
  simp only [Act.put, List.setIfInBounds_toArray, List.set_cons_zero, List.set_cons_succ]
  refine E.anyc_op rfl rfl rfl ?o2 ?_
  case o2 =>
    intro w' hf
    obtain ⟨v', w'', hrun, hs', fr'⟩ := copyI w' a l cap (by omega) (HX.out.kept (HF.out.trans hf (fun _ _ h => h)) (fun _ _ h => h))
    refine ⟨v', w'', ?_, ⟨hf.trans fr' (fun _ _ h => h), hs'⟩, fr'.size, fun b _ hb => fr'.block b hb (fun h => h)⟩
    simp [execOp, resolve, invoke, builtin]
    erw [hrun]
    rfl
  simp only [Act.put, List.setIfInBounds_toArray, List.set_cons_zero, List.set_cons_succ]
  refine E.anyc_behind (v := .tuple #[.int .u32 (u : Int), .int .i64 s, .int .i64 er]) rfl rfl rfl rfl ?o3 ?_
  case o3 =>
    intro w' h
    refine E.upon_call (f := 38) (args := #[dval A, v2]) ?_ ((HP.out w' v2 (HF.out.trans h.1 (fun _ _ h => h)) h.2).mono fun e w'' ⟨he, hb⟩ => ⟨he, (Fr.refl nob _).below hb⟩)
    go_simp
  simp only [Act.put, List.setIfInBounds_toArray, List.set_cons_zero, List.set_cons_succ]
  refine E.anyc_behind (v := .tuple #[.int .u32 (u : Int), .int .i64 s, .int .i64 er]) rfl rfl rfl rfl ?o4 ?_
  case o4 =>
    intro w' _
    refine E.upon_value ?_
    go_simp
    try rfl
  simp only [Act.put, List.setIfInBounds_toArray, List.set_cons_zero, List.set_cons_succ]
  refine E.anyc_behind (v := .int .u32 (u : Int)) rfl rfl rfl rfl ?o5 ?_
  case o5 =>
    intro w' _
    refine E.upon_value ?_
    go_simp
    try rfl
  simp only [Act.put, List.setIfInBounds_toArray, List.set_cons_zero, List.set_cons_succ]
  refine E.anyc_behind (v := .int .i64 s) rfl rfl rfl rfl ?o6 ?_
  case o6 =>
    intro w' _
    refine E.upon_value ?_
    go_simp
    try rfl
  simp only [Act.put, List.setIfInBounds_toArray, List.set_cons_zero, List.set_cons_succ]
  refine E.anyc_behind (v := .int .i64 er) rfl rfl rfl rfl ?o7 ?_
  case o7 =>
    intro w' _
    refine E.upon_value ?_
    go_simp
    try rfl
  simp only [Act.put, List.setIfInBounds_toArray, List.set_cons_zero, List.set_cons_succ]
  refine E.anyc_behind (v := .int .u32 (u : Int)) rfl rfl rfl rfl ?o8 ?_
  case o8 =>
    intro w' _
    refine E.upon_value ?_
    go_simp
    try rfl
  simp only [Act.put, List.setIfInBounds_toArray, List.set_cons_zero, List.set_cons_succ]
  refine E.anyc_behind (v := .int .i64 s) rfl rfl rfl rfl ?o9 ?_
  case o9 =>
    intro w' _
    refine E.upon_value ?_
    go_simp
    try rfl
  simp only [Act.put, List.setIfInBounds_toArray, List.set_cons_zero, List.set_cons_succ]
  refine E.anyc_nil ?_
  rintro w4 listed ⟨fr4, -⟩ - -
  have HF4 := Lib.hid (HF.out.trans fr4 (fun _ _ h => h))
  have D4 := HD.out.kept fr4 (fun h => h)
  have a0 := D4.c0
  have a1 := D4.c1
  clear fr4 HF HD HP HX
  go_wp2_with fail
  refine (HE.out _).mono ?_
  rintro e w5 ⟨rfl, hb5⟩
  have HD5 := Lib.hid (D4.kept ((Fr.refl nob _).below hb5) (fun h => h))
  have HF5 := Lib.hid (HF4.out.below hb5)
  clear hb5 D4 HF4 HE a0 a1
  cases b with
  | false =>
    obtain ⟨rfl, rfl, rfl, rfl, rfl, rfl⟩ := HFF.out rfl
    clear HD5 HH HC HU HZ HEE HFF Khzx KcFy KcFz KcBt KcAn KcEm Khle Khflip KcCc Khsc
    go_wp2_with fail
    refine (wakes_any _).mono ?_
    rintro e w6 ⟨rfl, hb6⟩
    have HF6 := Lib.hid (HF5.out.below hb6)
    clear hb6
    go_wp2_with fail
    exact bodyPost_ret (v := .bool true) (by simp [results, Tryd.results7, go_sem]) rfl ⟨rfl, HF6.out.to_below (Nat.le_refl _) (fun _ h => h.elim)⟩
  | true =>
    obtain rfl := HEE.out rfl
    clear HFF HEE
    go_upto_region 11 with fail
    rw [HCC.out]
    have a0 := HD5.out.c0
    have a1 := HD5.out.c1
    cases h with
    | true =>
      obtain rfl := HZ.out rfl
      refine wp_region_lit ?_
      clear a0 a1
      refine lw_val (v := Value.bool true) rfl ?s1 ?_
      case s1 =>
        go_simp
        try rfl
      simp only [Act.put, List.setIfInBounds_toArray, List.set_cons_zero, List.set_cons_succ]
      refine lw_val (v := Value.bool false) rfl ?s2 ?_
      case s2 =>
        go_simp
        try rfl
      simp only [Act.put, List.setIfInBounds_toArray, List.set_cons_zero, List.set_cons_succ]
      refine lw_val (v := Value.bool false) rfl ?s3 ?_
      case s3 =>
        go_simp
        try rfl
      simp only [Act.put, List.setIfInBounds_toArray, List.set_cons_zero, List.set_cons_succ]
      refine lw_val (v := Value.bool true) rfl ?s4 ?_
      case s4 =>
        go_simp
        try rfl
      simp only [Act.put, List.setIfInBounds_toArray, List.set_cons_zero, List.set_cons_succ]
      refine lw_val (v := Value.bool false) rfl ?s5 ?_
      case s5 =>
        go_simp
        try rfl
      simp only [Act.put, List.setIfInBounds_toArray, List.set_cons_zero, List.set_cons_succ]
      refine lw_val (v := Value.bool false) rfl ?s6 ?_
      case s6 =>
        go_simp
        try rfl
      simp only [Act.put, List.setIfInBounds_toArray, List.set_cons_zero, List.set_cons_succ]
      refine lw_val (v := Value.bool false) rfl ?s7 ?_
      case s7 =>
        go_simp
        try rfl
      simp only [Act.put, List.setIfInBounds_toArray, List.set_cons_zero, List.set_cons_succ]
      refine lw_val (v := Value.bool true) rfl ?s8 ?_
      case s8 =>
        go_simp
        try rfl
      simp only [Act.put, List.setIfInBounds_toArray, List.set_cons_zero, List.set_cons_succ]
      refine lw_val (v := Value.bool false) rfl ?s9 ?_
      case s9 =>
        go_simp
        try rfl
      simp only [Act.put, List.setIfInBounds_toArray, List.set_cons_zero, List.set_cons_succ]
      refine lw_val (v := Value.bool false) rfl ?s10 ?_
      case s10 =>
        go_simp
        try rfl
      simp only [Act.put, List.setIfInBounds_toArray, List.set_cons_zero, List.set_cons_succ]
      refine lw_val (v := Value.bool false) rfl ?s11 ?_
      case s11 =>
        go_simp
        try rfl
      simp only [Act.put, List.setIfInBounds_toArray, List.set_cons_zero, List.set_cons_succ]
      refine lw_val (v := .int .i64 0) rfl ?s12 ?_
      case s12 =>
        go_simp
        try rfl
      simp only [Act.put, List.setIfInBounds_toArray, List.set_cons_zero, List.set_cons_succ]
      refine lw_val (v := Value.bool false) rfl ?s13 ?_
      case s13 =>
        go_simp
        try rfl
      simp only [Act.put, List.setIfInBounds_toArray, List.set_cons_zero, List.set_cons_succ]
      refine lw_val (v := Value.bool false) rfl ?s14 ?_
      case s14 =>
        go_simp
        try rfl
      simp only [Act.put, List.setIfInBounds_toArray, List.set_cons_zero, List.set_cons_succ]
      refine lw_val (v := Value.bool false) rfl ?s15 ?_
      case s15 =>
        go_simp
        try rfl
      simp only [Act.put, List.setIfInBounds_toArray, List.set_cons_zero, List.set_cons_succ]
      refine lw_val (v := dval A) rfl ?s16 ?_
      case s16 =>
        have a0 := HD5.out.c0
        have a1 := HD5.out.c1
        go_simp
        try rfl
      simp only [Act.put, List.setIfInBounds_toArray, List.set_cons_zero, List.set_cons_succ]
      refine lw_val (v := .int .u32 (x : Int)) rfl ?s17 ?_
      case s17 =>
        go_simp
        try rfl
      simp only [Act.put, List.setIfInBounds_toArray, List.set_cons_zero, List.set_cons_succ]
      refine lw_call (v := Value.bool true) rfl ?s18 ((HH.out _ _ (.inl rfl) (by trivial)).mono fun e w'' ⟨he, hb⟩ => ⟨he, (Fr.refl nob _).below hb⟩) ?_
      case s18 => go_simp
      intro wq hq
      simp only [Act.put, List.setIfInBounds_toArray, List.set_cons_zero, List.set_cons_succ]
      have HDq := Lib.hid (HD5.out.kept hq (fun h => h))
      have HFq := Lib.hid (HF5.out.trans hq (fun _ _ h => h))
      clear HD5 HF5 hq
      have HD5 := HDq
      have HF5 := HFq
      clear HDq HFq
      refine lw_val (v := Value.bool false) rfl ?s19 ?_
      case s19 =>
        go_simp
        try rfl
      simp only [Act.put, List.setIfInBounds_toArray, List.set_cons_zero, List.set_cons_succ]
      refine lw_val (v := Value.bool false) rfl ?s20 ?_
      case s20 =>
        go_simp
        try rfl
      simp only [Act.put, List.setIfInBounds_toArray, List.set_cons_zero, List.set_cons_succ]
      refine lw_val (v := Value.bool false) rfl ?s21 ?_
      case s21 =>
        go_simp
        try rfl
      simp only [Act.put, List.setIfInBounds_toArray, List.set_cons_zero, List.set_cons_succ]
      refine lw_val (v := dval A) rfl ?s22 ?_
      case s22 =>
        have a0 := HD5.out.c0
        have a1 := HD5.out.c1
        go_simp
        try rfl
      simp only [Act.put, List.setIfInBounds_toArray, List.set_cons_zero, List.set_cons_succ]
      refine lw_val (v := .int .u32 (y : Int)) rfl ?s23 ?_
      case s23 =>
        go_simp
        try rfl
      simp only [Act.put, List.setIfInBounds_toArray, List.set_cons_zero, List.set_cons_succ]
      refine lw_call (v := Value.bool true) rfl ?s24 ((HH.out _ _ (.inr (.inl rfl)) (by trivial)).mono fun e w'' ⟨he, hb⟩ => ⟨he, (Fr.refl nob _).below hb⟩) ?_
      case s24 => go_simp
      intro wq hq
      simp only [Act.put, List.setIfInBounds_toArray, List.set_cons_zero, List.set_cons_succ]
      have HDq := Lib.hid (HD5.out.kept hq (fun h => h))
      have HFq := Lib.hid (HF5.out.trans hq (fun _ _ h => h))
      clear HD5 HF5 hq
      have HD5 := HDq
      have HF5 := HFq
      clear HDq HFq
      refine lw_val (v := Value.bool false) rfl ?s25 ?_
      case s25 =>
        go_simp
        try rfl
      simp only [Act.put, List.setIfInBounds_toArray, List.set_cons_zero, List.set_cons_succ]
      refine lw_val (v := Value.bool false) rfl ?s26 ?_
      case s26 =>
        go_simp
        try rfl
      simp only [Act.put, List.setIfInBounds_toArray, List.set_cons_zero, List.set_cons_succ]
      refine lw_val (v := Value.bool false) rfl ?s27 ?_
      case s27 =>
        go_simp
        try rfl
      simp only [Act.put, List.setIfInBounds_toArray, List.set_cons_zero, List.set_cons_succ]
      refine lw_val (v := dval A) rfl ?s28 ?_
      case s28 =>
        have a0 := HD5.out.c0
        have a1 := HD5.out.c1
        go_simp
        try rfl
      simp only [Act.put, List.setIfInBounds_toArray, List.set_cons_zero, List.set_cons_succ]
      refine lw_val (v := .int .u32 (z : Int)) rfl ?s29 ?_
      case s29 =>
        go_simp
        try rfl
      simp only [Act.put, List.setIfInBounds_toArray, List.set_cons_zero, List.set_cons_succ]
      refine lw_call (v := Value.bool true) rfl ?s30 ((HH.out _ _ (.inr (.inr (.inl rfl))) (by trivial)).mono fun e w'' ⟨he, hb⟩ => ⟨he, (Fr.refl nob _).below hb⟩) ?_
      case s30 => go_simp
      intro wq hq
      simp only [Act.put, List.setIfInBounds_toArray, List.set_cons_zero, List.set_cons_succ]
      have HDq := Lib.hid (HD5.out.kept hq (fun h => h))
      have HFq := Lib.hid (HF5.out.trans hq (fun _ _ h => h))
      clear HD5 HF5 hq
      have HD5 := HDq
      have HF5 := HFq
      clear HDq HFq
      refine lw_val (v := Value.bool false) rfl ?s31 ?_
      case s31 =>
        go_simp
        try rfl
      simp only [Act.put, List.setIfInBounds_toArray, List.set_cons_zero, List.set_cons_succ]
      refine lw_val (v := Value.bool false) rfl ?s32 ?_
      case s32 =>
        go_simp
        try rfl
      simp only [Act.put, List.setIfInBounds_toArray, List.set_cons_zero, List.set_cons_succ]
      refine lw_val (v := Value.bool false) rfl ?s33 ?_
      case s33 =>
        go_simp
        try rfl
      simp only [Act.put, List.setIfInBounds_toArray, List.set_cons_zero, List.set_cons_succ]
      refine lw_val (v := dval A) rfl ?s34 ?_
      case s34 =>
        have a0 := HD5.out.c0
        have a1 := HD5.out.c1
        go_simp
        try rfl
      simp only [Act.put, List.setIfInBounds_toArray, List.set_cons_zero, List.set_cons_succ]
      refine lw_val (v := .int .u32 (u : Int)) rfl ?s35 ?_
      case s35 =>
        go_simp
        try rfl
      simp only [Act.put, List.setIfInBounds_toArray, List.set_cons_zero, List.set_cons_succ]
      refine lw_call (v := Value.bool true) rfl ?s36 ((HH.out _ _ (.inr (.inr (.inr rfl))) (by trivial)).mono fun e w'' ⟨he, hb⟩ => ⟨he, (Fr.refl nob _).below hb⟩) ?_
      case s36 => go_simp
      intro wq hq
      simp only [Act.put, List.setIfInBounds_toArray, List.set_cons_zero, List.set_cons_succ]
      have HDq := Lib.hid (HD5.out.kept hq (fun h => h))
      have HFq := Lib.hid (HF5.out.trans hq (fun _ _ h => h))
      clear HD5 HF5 hq
      have HD5 := HDq
      have HF5 := HFq
      clear HDq HFq
      refine lw_val (v := Value.bool false) rfl ?s37 ?_
      case s37 =>
        go_simp
        try rfl
      simp only [Act.put, List.setIfInBounds_toArray, List.set_cons_zero, List.set_cons_succ]
      refine lw_val (v := Value.bool false) rfl ?s38 ?_
      case s38 =>
        go_simp
        try rfl
      simp only [Act.put, List.setIfInBounds_toArray, List.set_cons_zero, List.set_cons_succ]
      refine lw_val (v := Value.bool false) rfl ?s39 ?_
      case s39 =>
        go_simp
        try rfl
      simp only [Act.put, List.setIfInBounds_toArray, List.set_cons_zero, List.set_cons_succ]
      refine lw_val (v := dval A) rfl ?s40 ?_
      case s40 =>
        have a0 := HD5.out.c0
        have a1 := HD5.out.c1
        go_simp
        try rfl
      simp only [Act.put, List.setIfInBounds_toArray, List.set_cons_zero, List.set_cons_succ]
      refine lw_val (v := .int .u32 (z : Int)) rfl ?s41 ?_
      case s41 =>
        go_simp
        try rfl
      simp only [Act.put, List.setIfInBounds_toArray, List.set_cons_zero, List.set_cons_succ]
      refine lw_call (v := Value.bool true) rfl ?s42 ((HC.out _).mono fun e w'' ⟨he, hb⟩ => ⟨he, (Fr.refl nob _).below hb⟩) ?_
      case s42 => go_simp
      intro wq hq
      simp only [Act.put, List.setIfInBounds_toArray, List.set_cons_zero, List.set_cons_succ]
      have HDq := Lib.hid (HD5.out.kept hq (fun h => h))
      have HFq := Lib.hid (HF5.out.trans hq (fun _ _ h => h))
      clear HD5 HF5 hq
      have HD5 := HDq
      have HF5 := HFq
      clear HDq HFq
      refine lw_val (v := Value.bool true) rfl ?s43 ?_
      case s43 =>
        go_simp
        try rfl
      simp only [Act.put, List.setIfInBounds_toArray, List.set_cons_zero, List.set_cons_succ]
      refine lw_val (v := .int .u32 (z : Int)) rfl ?s44 ?_
      case s44 =>
        go_simp
        try rfl
      simp only [Act.put, List.setIfInBounds_toArray, List.set_cons_zero, List.set_cons_succ]
      refine lw_val (v := .int .u32 (z : Int)) rfl ?s45 ?_
      case s45 =>
        go_simp
        try rfl
      simp only [Act.put, List.setIfInBounds_toArray, List.set_cons_zero, List.set_cons_succ]
      refine lw_val (v := Value.bool false) rfl ?s46 ?_
      case s46 =>
        go_simp
        try rfl
      simp only [Act.put, List.setIfInBounds_toArray, List.set_cons_zero, List.set_cons_succ]
      refine lw_val (v := Value.bool false) rfl ?s47 ?_
      case s47 =>
        go_simp
        try rfl
      simp only [Act.put, List.setIfInBounds_toArray, List.set_cons_zero, List.set_cons_succ]
      refine lw_val (v := Value.bool false) rfl ?s48 ?_
      case s48 =>
        go_simp
        try rfl
      simp only [Act.put, List.setIfInBounds_toArray, List.set_cons_zero, List.set_cons_succ]
      refine lw_val (v := Value.bool false) rfl ?s49 ?_
      case s49 =>
        go_simp
        try rfl
      simp only [Act.put, List.setIfInBounds_toArray, List.set_cons_zero, List.set_cons_succ]
      refine lw_val (v := .slice a l.length cap) rfl ?s50 ?_
      case s50 =>
        go_simp
        try rfl
      simp only [Act.put, List.setIfInBounds_toArray, List.set_cons_zero, List.set_cons_succ]
      refine lw_val (v := .int .u32 (u : Int)) rfl ?s51 ?_
      case s51 =>
        go_simp
        try rfl
      simp only [Act.put, List.setIfInBounds_toArray, List.set_cons_zero, List.set_cons_succ]
      refine lw_call (v := .int .i64 s) rfl ?s52 ((HU.out _ HF5.out (by trivial)).mono fun e w'' ⟨he, hb⟩ => ⟨he, by rw [← hb]; exact Fr.refl nob _⟩) ?_
      case s52 => go_simp
      intro wq hq
      simp only [Act.put, List.setIfInBounds_toArray, List.set_cons_zero, List.set_cons_succ]
      have HDq := Lib.hid (HD5.out.kept hq (fun h => h))
      have HFq := Lib.hid (HF5.out.trans hq (fun _ _ h => h))
      clear HD5 HF5 hq
      have HD5 := HDq
      have HF5 := HFq
      clear HDq HFq
      refine lw_val (v := .int .i64 s) rfl ?s53 ?_
      case s53 =>
        go_simp
        try rfl
      simp only [Act.put, List.setIfInBounds_toArray, List.set_cons_zero, List.set_cons_succ]
      refine lw_val (v := Value.bool false) rfl ?s54 ?_
      case s54 =>
        go_simp
        try rfl
      simp only [Act.put, List.setIfInBounds_toArray, List.set_cons_zero, List.set_cons_succ]
      have HD6 := HD5
      have HF6 := HF5
      clear HD5 HF5
      go_wp2_with fail
      refine (KcFy.out _).mono ?_
      rintro e w7 ⟨_, rfl, ⟨ay, cy, rfl⟩, hb7⟩
      have HD7 := Lib.hid (HD6.out.kept ((Fr.refl nob _).below hb7) (fun h => h))
      have HF7 := Lib.hid (HF6.out.below hb7)
      clear hb7 HD6 HF6
      have hzx := Khzx.out
      go_wp2_with fail
      refine (KcFz.out _).mono ?_
      rintro e w8 ⟨_, rfl, ⟨az, cz, rfl⟩, hb8⟩
      have HD8 := Lib.hid (HD7.out.kept ((Fr.refl nob _).below hb8) (fun h => h))
      have HF8 := Lib.hid (HF7.out.below hb8)
      clear hb8 HD7 HF7 hzx
      go_upto_region 14 with fail
      have a0 := HD8.out.c0
      have a1 := HD8.out.c1
      have hle := Khle.out (by trivial) (by trivial)
      have hlt : decide ((z : Int) < (x : Int)) = false := by simp; omega
      have hlt2 : decide (z < x) = false := by simp; omega
      clear hle
      by_cases hn0 : 0 < ny
      · have hn1 : decide (0 < (ny : Int)) = true := by simp; omega
        have hn2 : decide (0 < ny) = true := by simp; omega
        have hw1 : IntKind.i64.wrap ((ny : Int) - 1) = (ny : Int) - 1 := by rw [IntKind.wrap_i64]; omega
        refine wp_region_grow' 20 225 (fun _ => #[]) [] (by kernel_rfl) (by kernel_rfl) rfl rfl (by intro T h; cases h) ?_
        simp only [List.take_succ_cons, List.take_zero]
        refine grow_step (v := .int .i64 (ny : Int)) rfl rfl ?s55 ?_
        case s55 =>
          intro w' hw'
          clear hw'
          refine growAt_value ?_
          go_simp
          try rfl
        simp only [Act.put, List.setIfInBounds_toArray, List.set_cons_zero, List.set_cons_succ]
        refine grow_step (v := Value.bool true) rfl rfl ?s56 ?_
        case s56 =>
          intro w' hw'
          clear hw'
          refine growAt_value ?_
          go_simp
          try rfl
        simp only [Act.put, List.setIfInBounds_toArray, List.set_cons_zero, List.set_cons_succ]
        refine grow_step (v := Value.bool true) rfl rfl ?s57 ?_
        case s57 =>
          intro w' hw'
          clear hw'
          refine growAt_value ?_
          go_simp
          try rfl
        simp only [Act.put, List.setIfInBounds_toArray, List.set_cons_zero, List.set_cons_succ]
        refine grow_step (v := dval A) rfl rfl ?s58 ?_
        case s58 =>
          intro w' hw'
          have q0 := hw'.cell a0 (fun h => h)
          have q1 := hw'.cell a1 (fun h => h)
          clear hw'
          refine growAt_value ?_
          go_simp
          try rfl
        simp only [Act.put, List.setIfInBounds_toArray, List.set_cons_zero, List.set_cons_succ]
        refine grow_step (v := .int .i64 (ny : Int)) rfl rfl ?s59 ?_
        case s59 =>
          intro w' hw'
          clear hw'
          refine growAt_value ?_
          go_simp
          try rfl
        simp only [Act.put, List.setIfInBounds_toArray, List.set_cons_zero, List.set_cons_succ]
        refine grow_step (v := .int .i64 ((ny : Int) - 1)) rfl rfl ?s60 ?_
        case s60 =>
          intro w' hw'
          clear hw'
          refine growAt_value ?_
          go_simp
          try rfl
        simp only [Act.put, List.setIfInBounds_toArray, List.set_cons_zero, List.set_cons_succ]
        refine grow_step (v := dval BB) rfl rfl ?s61 ?_
        case s61 =>
          intro w' hw'
          have FRx := HF8.out.trans hw' (fun _ _ h => h)
          refine growAt_call ?_ ((KcBt.out w' FRx).mono fun e w'' ⟨he, hb⟩ => ⟨he, (Fr.refl nob _).below hb⟩)
          clear hw' FRx
          go_simp
        simp only [Act.put, List.setIfInBounds_toArray, List.set_cons_zero, List.set_cons_succ]
        refine grow_step (v := dval AB) rfl rfl ?s62 ?_
        case s62 =>
          intro w' hw'
          refine growAt_call ?_ ((KcAn.out w').mono fun e w'' ⟨he, hb⟩ => ⟨he, (Fr.refl nob _).below hb⟩)
          clear hw'
          go_simp
        simp only [Act.put, List.setIfInBounds_toArray, List.set_cons_zero, List.set_cons_succ]
        refine grow_step (v := Value.bool true) rfl rfl ?s63 ?_
        case s63 =>
          intro w' hw'
          refine growAt_call ?_ ((KcEm.out w' (by trivial)).mono fun e w'' ⟨he, hb⟩ => ⟨he, (Fr.refl nob _).below hb⟩)
          clear hw'
          go_simp
        simp only [Act.put, List.setIfInBounds_toArray, List.set_cons_zero, List.set_cons_succ]
        refine grow_step (v := Value.bool false) rfl rfl ?s64 ?_
        case s64 =>
          intro w' hw'
          clear hw'
          refine growAt_value ?_
          go_simp
          try rfl
        simp only [Act.put, List.setIfInBounds_toArray, List.set_cons_zero, List.set_cons_succ]
        refine grow_step (v := Value.bool false) rfl rfl ?s65 ?_
        case s65 =>
          intro w' hw'
          clear hw'
          refine growAt_value ?_
          go_simp
          try rfl
        simp only [Act.put, List.setIfInBounds_toArray, List.set_cons_zero, List.set_cons_succ]
        refine grow_step (v := Value.bool false) rfl rfl ?s66 ?_
        case s66 =>
          intro w' hw'
          clear hw'
          refine growAt_value ?_
          go_simp
          try rfl
        simp only [Act.put, List.setIfInBounds_toArray, List.set_cons_zero, List.set_cons_succ]
        refine grow_step (v := dval A) rfl rfl ?s67 ?_
        case s67 =>
          intro w' hw'
          have q0 := hw'.cell a0 (fun h => h)
          have q1 := hw'.cell a1 (fun h => h)
          clear hw'
          refine growAt_value ?_
          go_simp
          try rfl
        simp only [Act.put, List.setIfInBounds_toArray, List.set_cons_zero, List.set_cons_succ]
        refine grow_step (v := .int .u32 (z : Int)) rfl rfl ?s68 ?_
        case s68 =>
          intro w' hw'
          clear hw'
          refine growAt_value ?_
          go_simp
          try rfl
        simp only [Act.put, List.setIfInBounds_toArray, List.set_cons_zero, List.set_cons_succ]
        refine grow_step (v := Value.bool true) rfl rfl ?s69 ?_
        case s69 =>
          intro w' hw'
          refine growAt_call ?_ ((HC.out w').mono fun e w'' ⟨he, hb⟩ => ⟨he, (Fr.refl nob _).below hb⟩)
          clear hw'
          go_simp
        simp only [Act.put, List.setIfInBounds_toArray, List.set_cons_zero, List.set_cons_succ]
        refine grow_step (v := Value.bool true) rfl rfl ?s70 ?_
        case s70 =>
          intro w' hw'
          clear hw'
          refine growAt_value ?_
          go_simp
          try rfl
        simp only [Act.put, List.setIfInBounds_toArray, List.set_cons_zero, List.set_cons_succ]
        refine grow_step (v := .int .u32 (z : Int)) rfl rfl ?s71 ?_
        case s71 =>
          intro w' hw'
          clear hw'
          refine growAt_value ?_
          go_simp
          try rfl
        simp only [Act.put, List.setIfInBounds_toArray, List.set_cons_zero, List.set_cons_succ]
        refine grow_step (v := .int .u32 (x : Int)) rfl rfl ?s72 ?_
        case s72 =>
          intro w' hw'
          clear hw'
          refine growAt_value ?_
          go_simp
          try rfl
        simp only [Act.put, List.setIfInBounds_toArray, List.set_cons_zero, List.set_cons_succ]
        refine grow_step (v := Value.bool false) rfl rfl ?s73 ?_
        case s73 =>
          intro w' hw'
          clear hw'
          refine growAt_value ?_
          go_simp
          try rfl
        simp only [Act.put, List.setIfInBounds_toArray, List.set_cons_zero, List.set_cons_succ]
        refine grow_step (v := Value.bool false) rfl rfl ?s74 ?_
        case s74 =>
          intro w' hw'
          clear hw'
          refine growAt_value ?_
          go_simp
          try rfl
        simp only [Act.put, List.setIfInBounds_toArray, List.set_cons_zero, List.set_cons_succ]
        refine grow_nil ?_
        rintro w9 listed fr9 - -
        have HD9 := Lib.hid (HD8.out.kept fr9 (fun h => h))
        have HF9 := Lib.hid (HF8.out.trans fr9 (fun _ _ h => h))
        clear a0 a1 fr9 HD8 HF8
        clear hn1 hn2
        have HD := Lib.hid HD9.out
        go_wp2_with fail
        go_loopw [22] (fun v wr => ∃ k : Nat, k ≤ 24 ∧ v = .int .i64 (k : Int) ∧ Box2 wr g (.int .u32 (place (li A) A : Int)) (.string ⟨(code (rows (li A))).toArray⟩) ∧ Fr nob w wr) (fun v _ => 24 - (intOf v).toNat)
        case atStart => exact ⟨0, by omega, rfl, HD9.out, HF9.out⟩
        case round =>
          clear HD9 HF9 HD
          obtain ⟨k, hk, rfl, hD, hF⟩ := hrel
          have HDr := Lib.hid hD
          have HFr := Lib.hid hF
          have a0 := hD.c0
          have a1 := hD.c1
          clear hD hF
          by_cases hk24 : k < 24
          · have d1 : decide ((k : Int) < 24) = true := by simp; omega
            have d1' : decide (k < 24) = true := by simp; omega
            by_cases hm : 0 < nz
            · have d2 : decide (0 < (nz : Int)) = true := by simp; omega
              have d2' : decide (0 < nz) = true := by simp; omega
              by_cases hm2 : 2 ≤ nz
              · have d3 : decide (2 ≤ (nz : Int)) = true := by simp; omega
                have d3' : decide (2 ≤ nz) = true := by simp; omega
                go_wp2_with fail
                refine (Khflip.out _ k (by trivial) hk24 hm2 _ ?q).mono ?_
                case q => rfl
                rintro e wa ⟨rfl, hba⟩
                have HDa := Lib.hid (HDr.out.kept ((Fr.refl nob _).below hba) (fun h => h))
                have HFa := Lib.hid (HFr.out.below hba)
                clear hba HDr HFr a0 a1
                go_wp2_with fail
                go_roundw
                case rel => exact ⟨k + 1, by omega, by go_num, HDa.out, HFa.out⟩
                case measure => simp [intOf]; omega
              · have d3 : decide (2 ≤ (nz : Int)) = false := by simp; omega
                have d3' : decide (2 ≤ nz) = false := by simp; omega
                go_wp2_with fail
                go_roundw
                case rel => exact ⟨k + 1, by omega, by go_num, HDr.out, HFr.out⟩
                case measure => simp [intOf]; omega
            · have d2 : decide (0 < (nz : Int)) = false := by simp; omega
              have d2' : decide (0 < nz) = false := by simp; omega
              go_wp2_with fail
              refine (HC.out _).mono ?_
              rintro e wa ⟨rfl, hba⟩
              have HFa := Lib.hid (HFr.out.below hba)
              clear hba HFr HDr a0 a1
              go_wp2_with fail
              refine (KcCc.out _ HFa.out (by trivial)).mono ?_
              rintro e wb ⟨rfl, rfl⟩
              have hge := Khsc.out (by trivial) (by trivial)
              have hge1 : decide (s ≤ sc) = true := by simpa using hge
              go_wp2_with fail
              refine (wakes_any _).mono ?_
              rintro e wc ⟨rfl, hbc⟩
              have HFc := Lib.hid (HFa.out.below hbc)
              clear hbc HFa
              go_wp2_with fail
              exact bodyPost_ret (v := .bool true) (by simp [results, Tryd.results7, go_sem]) rfl ⟨rfl, HFc.out.to_below (Nat.le_refl _) (fun _ h => h.elim)⟩
          · have d1 : decide ((k : Int) < 24) = false := by simp; omega
            have d1' : decide (k < 24) = false := by simp; omega
            go_wp2_with fail
            refine (HC.out _).mono ?_
            rintro e wa ⟨rfl, hba⟩
            have HFa := Lib.hid (HFr.out.below hba)
            clear hba HFr HDr a0 a1
            go_wp2_with fail
            refine (KcCc.out _ HFa.out (by trivial)).mono ?_
            rintro e wb ⟨rfl, rfl⟩
            have hge := Khsc.out (by trivial) (by trivial)
            have hge1 : decide (s ≤ sc) = true := by simpa using hge
            go_wp2_with fail
            refine (wakes_any _).mono ?_
            rintro e wc ⟨rfl, hbc⟩
            have HFc := Lib.hid (HFa.out.below hbc)
            clear hbc HFa
            go_wp2_with fail
            exact bodyPost_ret (v := .bool true) (by simp [results, Tryd.results7, go_sem]) rfl ⟨rfl, HFc.out.to_below (Nat.le_refl _) (fun _ h => h.elim)⟩
      · have hn1 : decide (0 < (ny : Int)) = false := by simp; omega
        have hn2 : decide (0 < ny) = false := by simp; omega
        refine wp_region_grow' 20 225 (fun _ => #[]) [] (by kernel_rfl) (by kernel_rfl) rfl rfl (by intro T h; cases h) ?_
        simp only [List.take_succ_cons, List.take_zero]
        refine grow_step (v := .int .i64 (ny : Int)) rfl rfl ?s75 ?_
        case s75 =>
          intro w' hw'
          clear hw'
          refine growAt_value ?_
          go_simp
          try rfl
        simp only [Act.put, List.setIfInBounds_toArray, List.set_cons_zero, List.set_cons_succ]
        refine grow_step (v := Value.bool false) rfl rfl ?s76 ?_
        case s76 =>
          intro w' hw'
          clear hw'
          refine growAt_value ?_
          go_simp
          try rfl
        simp only [Act.put, List.setIfInBounds_toArray, List.set_cons_zero, List.set_cons_succ]
        refine grow_step (v := Value.bool false) rfl rfl ?s77 ?_
        case s77 =>
          intro w' hw'
          clear hw'
          refine growAt_value ?_
          go_simp
          try rfl
        simp only [Act.put, List.setIfInBounds_toArray, List.set_cons_zero, List.set_cons_succ]
        refine grow_skip rfl rfl ?_
        simp only [Act.put, List.setIfInBounds_toArray, List.set_cons_zero, List.set_cons_succ]
        refine grow_skip rfl rfl ?_
        simp only [Act.put, List.setIfInBounds_toArray, List.set_cons_zero, List.set_cons_succ]
        refine grow_skip rfl rfl ?_
        simp only [Act.put, List.setIfInBounds_toArray, List.set_cons_zero, List.set_cons_succ]
        refine grow_skip rfl rfl ?_
        simp only [Act.put, List.setIfInBounds_toArray, List.set_cons_zero, List.set_cons_succ]
        refine grow_skip rfl rfl ?_
        simp only [Act.put, List.setIfInBounds_toArray, List.set_cons_zero, List.set_cons_succ]
        refine grow_skip rfl rfl ?_
        simp only [Act.put, List.setIfInBounds_toArray, List.set_cons_zero, List.set_cons_succ]
        refine grow_skip rfl rfl ?_
        simp only [Act.put, List.setIfInBounds_toArray, List.set_cons_zero, List.set_cons_succ]
        refine grow_step (v := Value.bool false) rfl rfl ?s78 ?_
        case s78 =>
          intro w' hw'
          clear hw'
          refine growAt_value ?_
          go_simp
          try rfl
        simp only [Act.put, List.setIfInBounds_toArray, List.set_cons_zero, List.set_cons_succ]
        refine grow_step (v := Value.bool false) rfl rfl ?s79 ?_
        case s79 =>
          intro w' hw'
          clear hw'
          refine growAt_value ?_
          go_simp
          try rfl
        simp only [Act.put, List.setIfInBounds_toArray, List.set_cons_zero, List.set_cons_succ]
        refine grow_step (v := dval A) rfl rfl ?s80 ?_
        case s80 =>
          intro w' hw'
          have q0 := hw'.cell a0 (fun h => h)
          have q1 := hw'.cell a1 (fun h => h)
          clear hw'
          refine growAt_value ?_
          go_simp
          try rfl
        simp only [Act.put, List.setIfInBounds_toArray, List.set_cons_zero, List.set_cons_succ]
        refine grow_step (v := .int .u32 (z : Int)) rfl rfl ?s81 ?_
        case s81 =>
          intro w' hw'
          clear hw'
          refine growAt_value ?_
          go_simp
          try rfl
        simp only [Act.put, List.setIfInBounds_toArray, List.set_cons_zero, List.set_cons_succ]
        refine grow_step (v := Value.bool true) rfl rfl ?s82 ?_
        case s82 =>
          intro w' hw'
          refine growAt_call ?_ ((HC.out w').mono fun e w'' ⟨he, hb⟩ => ⟨he, (Fr.refl nob _).below hb⟩)
          clear hw'
          go_simp
        simp only [Act.put, List.setIfInBounds_toArray, List.set_cons_zero, List.set_cons_succ]
        refine grow_step (v := Value.bool true) rfl rfl ?s83 ?_
        case s83 =>
          intro w' hw'
          clear hw'
          refine growAt_value ?_
          go_simp
          try rfl
        simp only [Act.put, List.setIfInBounds_toArray, List.set_cons_zero, List.set_cons_succ]
        refine grow_step (v := .int .u32 (z : Int)) rfl rfl ?s84 ?_
        case s84 =>
          intro w' hw'
          clear hw'
          refine growAt_value ?_
          go_simp
          try rfl
        simp only [Act.put, List.setIfInBounds_toArray, List.set_cons_zero, List.set_cons_succ]
        refine grow_step (v := .int .u32 (x : Int)) rfl rfl ?s85 ?_
        case s85 =>
          intro w' hw'
          clear hw'
          refine growAt_value ?_
          go_simp
          try rfl
        simp only [Act.put, List.setIfInBounds_toArray, List.set_cons_zero, List.set_cons_succ]
        refine grow_step (v := Value.bool false) rfl rfl ?s86 ?_
        case s86 =>
          intro w' hw'
          clear hw'
          refine growAt_value ?_
          go_simp
          try rfl
        simp only [Act.put, List.setIfInBounds_toArray, List.set_cons_zero, List.set_cons_succ]
        refine grow_step (v := Value.bool false) rfl rfl ?s87 ?_
        case s87 =>
          intro w' hw'
          clear hw'
          refine growAt_value ?_
          go_simp
          try rfl
        simp only [Act.put, List.setIfInBounds_toArray, List.set_cons_zero, List.set_cons_succ]
        refine grow_nil ?_
        rintro w9 listed fr9 - -
        have HD9 := Lib.hid (HD8.out.kept fr9 (fun h => h))
        have HF9 := Lib.hid (HF8.out.trans fr9 (fun _ _ h => h))
        clear a0 a1 fr9 HD8 HF8
        clear hn1 hn2
        have HD := Lib.hid HD9.out
        go_wp2_with fail
        go_loopw [22] (fun v wr => ∃ k : Nat, k ≤ 24 ∧ v = .int .i64 (k : Int) ∧ Box2 wr g (.int .u32 (place (li A) A : Int)) (.string ⟨(code (rows (li A))).toArray⟩) ∧ Fr nob w wr) (fun v _ => 24 - (intOf v).toNat)
        case atStart => exact ⟨0, by omega, rfl, HD9.out, HF9.out⟩
        case round =>
          clear HD9 HF9 HD
          obtain ⟨k, hk, rfl, hD, hF⟩ := hrel
          have HDr := Lib.hid hD
          have HFr := Lib.hid hF
          have a0 := hD.c0
          have a1 := hD.c1
          clear hD hF
          by_cases hk24 : k < 24
          · have d1 : decide ((k : Int) < 24) = true := by simp; omega
            have d1' : decide (k < 24) = true := by simp; omega
            by_cases hm : 0 < nz
            · have d2 : decide (0 < (nz : Int)) = true := by simp; omega
              have d2' : decide (0 < nz) = true := by simp; omega
              by_cases hm2 : 2 ≤ nz
              · have d3 : decide (2 ≤ (nz : Int)) = true := by simp; omega
                have d3' : decide (2 ≤ nz) = true := by simp; omega
                go_wp2_with fail
                refine (Khflip.out _ k (by trivial) hk24 hm2 _ ?q).mono ?_
                case q => rfl
                rintro e wa ⟨rfl, hba⟩
                have HDa := Lib.hid (HDr.out.kept ((Fr.refl nob _).below hba) (fun h => h))
                have HFa := Lib.hid (HFr.out.below hba)
                clear hba HDr HFr a0 a1
                go_wp2_with fail
                go_roundw
                case rel => exact ⟨k + 1, by omega, by go_num, HDa.out, HFa.out⟩
                case measure => simp [intOf]; omega
              · have d3 : decide (2 ≤ (nz : Int)) = false := by simp; omega
                have d3' : decide (2 ≤ nz) = false := by simp; omega
                go_wp2_with fail
                go_roundw
                case rel => exact ⟨k + 1, by omega, by go_num, HDr.out, HFr.out⟩
                case measure => simp [intOf]; omega
            · have d2 : decide (0 < (nz : Int)) = false := by simp; omega
              have d2' : decide (0 < nz) = false := by simp; omega
              go_wp2_with fail
              refine (HC.out _).mono ?_
              rintro e wa ⟨rfl, hba⟩
              have HFa := Lib.hid (HFr.out.below hba)
              clear hba HFr HDr a0 a1
              go_wp2_with fail
              refine (KcCc.out _ HFa.out (by trivial)).mono ?_
              rintro e wb ⟨rfl, rfl⟩
              have hge := Khsc.out (by trivial) (by trivial)
              have hge1 : decide (s ≤ sc) = true := by simpa using hge
              go_wp2_with fail
              refine (wakes_any _).mono ?_
              rintro e wc ⟨rfl, hbc⟩
              have HFc := Lib.hid (HFa.out.below hbc)
              clear hbc HFa
              go_wp2_with fail
              exact bodyPost_ret (v := .bool true) (by simp [results, Tryd.results7, go_sem]) rfl ⟨rfl, HFc.out.to_below (Nat.le_refl _) (fun _ h => h.elim)⟩
          · have d1 : decide ((k : Int) < 24) = false := by simp; omega
            have d1' : decide (k < 24) = false := by simp; omega
            go_wp2_with fail
            refine (HC.out _).mono ?_
            rintro e wa ⟨rfl, hba⟩
            have HFa := Lib.hid (HFr.out.below hba)
            clear hba HFr HDr a0 a1
            go_wp2_with fail
            refine (KcCc.out _ HFa.out (by trivial)).mono ?_
            rintro e wb ⟨rfl, rfl⟩
            have hge := Khsc.out (by trivial) (by trivial)
            have hge1 : decide (s ≤ sc) = true := by simpa using hge
            go_wp2_with fail
            refine (wakes_any _).mono ?_
            rintro e wc ⟨rfl, hbc⟩
            have HFc := Lib.hid (HFa.out.below hbc)
            clear hbc HFa
            go_wp2_with fail
            exact bodyPost_ret (v := .bool true) (by simp [results, Tryd.results7, go_sem]) rfl ⟨rfl, HFc.out.to_below (Nat.le_refl _) (fun _ h => h.elim)⟩
    | false =>
      refine wp_region_lit ?_
      clear a0 a1
      refine lw_val (v := Value.bool true) rfl ?s88 ?_
      case s88 =>
        go_simp
        try rfl
      simp only [Act.put, List.setIfInBounds_toArray, List.set_cons_zero, List.set_cons_succ]
      refine lw_val (v := Value.bool false) rfl ?s89 ?_
      case s89 =>
        go_simp
        try rfl
      simp only [Act.put, List.setIfInBounds_toArray, List.set_cons_zero, List.set_cons_succ]
      refine lw_val (v := Value.bool false) rfl ?s90 ?_
      case s90 =>
        go_simp
        try rfl
      simp only [Act.put, List.setIfInBounds_toArray, List.set_cons_zero, List.set_cons_succ]
      refine lw_val (v := Value.bool true) rfl ?s91 ?_
      case s91 =>
        go_simp
        try rfl
      simp only [Act.put, List.setIfInBounds_toArray, List.set_cons_zero, List.set_cons_succ]
      refine lw_val (v := Value.bool false) rfl ?s92 ?_
      case s92 =>
        go_simp
        try rfl
      simp only [Act.put, List.setIfInBounds_toArray, List.set_cons_zero, List.set_cons_succ]
      refine lw_val (v := Value.bool false) rfl ?s93 ?_
      case s93 =>
        go_simp
        try rfl
      simp only [Act.put, List.setIfInBounds_toArray, List.set_cons_zero, List.set_cons_succ]
      refine lw_val (v := Value.bool false) rfl ?s94 ?_
      case s94 =>
        go_simp
        try rfl
      simp only [Act.put, List.setIfInBounds_toArray, List.set_cons_zero, List.set_cons_succ]
      refine lw_val (v := Value.bool true) rfl ?s95 ?_
      case s95 =>
        go_simp
        try rfl
      simp only [Act.put, List.setIfInBounds_toArray, List.set_cons_zero, List.set_cons_succ]
      refine lw_val (v := Value.bool false) rfl ?s96 ?_
      case s96 =>
        go_simp
        try rfl
      simp only [Act.put, List.setIfInBounds_toArray, List.set_cons_zero, List.set_cons_succ]
      refine lw_val (v := Value.bool false) rfl ?s97 ?_
      case s97 =>
        go_simp
        try rfl
      simp only [Act.put, List.setIfInBounds_toArray, List.set_cons_zero, List.set_cons_succ]
      refine lw_val (v := Value.bool false) rfl ?s98 ?_
      case s98 =>
        go_simp
        try rfl
      simp only [Act.put, List.setIfInBounds_toArray, List.set_cons_zero, List.set_cons_succ]
      refine lw_val (v := .int .i64 0) rfl ?s99 ?_
      case s99 =>
        go_simp
        try rfl
      simp only [Act.put, List.setIfInBounds_toArray, List.set_cons_zero, List.set_cons_succ]
      refine lw_val (v := Value.bool false) rfl ?s100 ?_
      case s100 =>
        go_simp
        try rfl
      simp only [Act.put, List.setIfInBounds_toArray, List.set_cons_zero, List.set_cons_succ]
      refine lw_val (v := Value.bool false) rfl ?s101 ?_
      case s101 =>
        go_simp
        try rfl
      simp only [Act.put, List.setIfInBounds_toArray, List.set_cons_zero, List.set_cons_succ]
      refine lw_val (v := Value.bool false) rfl ?s102 ?_
      case s102 =>
        go_simp
        try rfl
      simp only [Act.put, List.setIfInBounds_toArray, List.set_cons_zero, List.set_cons_succ]
      refine lw_val (v := dval A) rfl ?s103 ?_
      case s103 =>
        have a0 := HD5.out.c0
        have a1 := HD5.out.c1
        go_simp
        try rfl
      simp only [Act.put, List.setIfInBounds_toArray, List.set_cons_zero, List.set_cons_succ]
      refine lw_val (v := .int .u32 (x : Int)) rfl ?s104 ?_
      case s104 =>
        go_simp
        try rfl
      simp only [Act.put, List.setIfInBounds_toArray, List.set_cons_zero, List.set_cons_succ]
      refine lw_call (v := Value.bool true) rfl ?s105 ((HH.out _ _ (.inl rfl) (by trivial)).mono fun e w'' ⟨he, hb⟩ => ⟨he, (Fr.refl nob _).below hb⟩) ?_
      case s105 => go_simp
      intro wq hq
      simp only [Act.put, List.setIfInBounds_toArray, List.set_cons_zero, List.set_cons_succ]
      have HDq := Lib.hid (HD5.out.kept hq (fun h => h))
      have HFq := Lib.hid (HF5.out.trans hq (fun _ _ h => h))
      clear HD5 HF5 hq
      have HD5 := HDq
      have HF5 := HFq
      clear HDq HFq
      refine lw_val (v := Value.bool false) rfl ?s106 ?_
      case s106 =>
        go_simp
        try rfl
      simp only [Act.put, List.setIfInBounds_toArray, List.set_cons_zero, List.set_cons_succ]
      refine lw_val (v := Value.bool false) rfl ?s107 ?_
      case s107 =>
        go_simp
        try rfl
      simp only [Act.put, List.setIfInBounds_toArray, List.set_cons_zero, List.set_cons_succ]
      refine lw_val (v := Value.bool false) rfl ?s108 ?_
      case s108 =>
        go_simp
        try rfl
      simp only [Act.put, List.setIfInBounds_toArray, List.set_cons_zero, List.set_cons_succ]
      refine lw_val (v := dval A) rfl ?s109 ?_
      case s109 =>
        have a0 := HD5.out.c0
        have a1 := HD5.out.c1
        go_simp
        try rfl
      simp only [Act.put, List.setIfInBounds_toArray, List.set_cons_zero, List.set_cons_succ]
      refine lw_val (v := .int .u32 (y : Int)) rfl ?s110 ?_
      case s110 =>
        go_simp
        try rfl
      simp only [Act.put, List.setIfInBounds_toArray, List.set_cons_zero, List.set_cons_succ]
      refine lw_call (v := Value.bool true) rfl ?s111 ((HH.out _ _ (.inr (.inl rfl)) (by trivial)).mono fun e w'' ⟨he, hb⟩ => ⟨he, (Fr.refl nob _).below hb⟩) ?_
      case s111 => go_simp
      intro wq hq
      simp only [Act.put, List.setIfInBounds_toArray, List.set_cons_zero, List.set_cons_succ]
      have HDq := Lib.hid (HD5.out.kept hq (fun h => h))
      have HFq := Lib.hid (HF5.out.trans hq (fun _ _ h => h))
      clear HD5 HF5 hq
      have HD5 := HDq
      have HF5 := HFq
      clear HDq HFq
      refine lw_val (v := Value.bool false) rfl ?s112 ?_
      case s112 =>
        go_simp
        try rfl
      simp only [Act.put, List.setIfInBounds_toArray, List.set_cons_zero, List.set_cons_succ]
      refine lw_val (v := Value.bool false) rfl ?s113 ?_
      case s113 =>
        go_simp
        try rfl
      simp only [Act.put, List.setIfInBounds_toArray, List.set_cons_zero, List.set_cons_succ]
      refine lw_val (v := Value.bool false) rfl ?s114 ?_
      case s114 =>
        go_simp
        try rfl
      simp only [Act.put, List.setIfInBounds_toArray, List.set_cons_zero, List.set_cons_succ]
      refine lw_val (v := dval A) rfl ?s115 ?_
      case s115 =>
        have a0 := HD5.out.c0
        have a1 := HD5.out.c1
        go_simp
        try rfl
      simp only [Act.put, List.setIfInBounds_toArray, List.set_cons_zero, List.set_cons_succ]
      refine lw_val (v := .int .u32 (z : Int)) rfl ?s116 ?_
      case s116 =>
        go_simp
        try rfl
      simp only [Act.put, List.setIfInBounds_toArray, List.set_cons_zero, List.set_cons_succ]
      refine lw_call (v := Value.bool true) rfl ?s117 ((HH.out _ _ (.inr (.inr (.inl rfl))) (by trivial)).mono fun e w'' ⟨he, hb⟩ => ⟨he, (Fr.refl nob _).below hb⟩) ?_
      case s117 => go_simp
      intro wq hq
      simp only [Act.put, List.setIfInBounds_toArray, List.set_cons_zero, List.set_cons_succ]
      have HDq := Lib.hid (HD5.out.kept hq (fun h => h))
      have HFq := Lib.hid (HF5.out.trans hq (fun _ _ h => h))
      clear HD5 HF5 hq
      have HD5 := HDq
      have HF5 := HFq
      clear HDq HFq
      refine lw_val (v := Value.bool false) rfl ?s118 ?_
      case s118 =>
        go_simp
        try rfl
      simp only [Act.put, List.setIfInBounds_toArray, List.set_cons_zero, List.set_cons_succ]
      refine lw_val (v := Value.bool false) rfl ?s119 ?_
      case s119 =>
        go_simp
        try rfl
      simp only [Act.put, List.setIfInBounds_toArray, List.set_cons_zero, List.set_cons_succ]
      refine lw_val (v := Value.bool false) rfl ?s120 ?_
      case s120 =>
        go_simp
        try rfl
      simp only [Act.put, List.setIfInBounds_toArray, List.set_cons_zero, List.set_cons_succ]
      refine lw_val (v := dval A) rfl ?s121 ?_
      case s121 =>
        have a0 := HD5.out.c0
        have a1 := HD5.out.c1
        go_simp
        try rfl
      simp only [Act.put, List.setIfInBounds_toArray, List.set_cons_zero, List.set_cons_succ]
      refine lw_val (v := .int .u32 (u : Int)) rfl ?s122 ?_
      case s122 =>
        go_simp
        try rfl
      simp only [Act.put, List.setIfInBounds_toArray, List.set_cons_zero, List.set_cons_succ]
      refine lw_call (v := Value.bool true) rfl ?s123 ((HH.out _ _ (.inr (.inr (.inr rfl))) (by trivial)).mono fun e w'' ⟨he, hb⟩ => ⟨he, (Fr.refl nob _).below hb⟩) ?_
      case s123 => go_simp
      intro wq hq
      simp only [Act.put, List.setIfInBounds_toArray, List.set_cons_zero, List.set_cons_succ]
      have HDq := Lib.hid (HD5.out.kept hq (fun h => h))
      have HFq := Lib.hid (HF5.out.trans hq (fun _ _ h => h))
      clear HD5 HF5 hq
      have HD5 := HDq
      have HF5 := HFq
      clear HDq HFq
      refine lw_val (v := Value.bool false) rfl ?s124 ?_
      case s124 =>
        go_simp
        try rfl
      simp only [Act.put, List.setIfInBounds_toArray, List.set_cons_zero, List.set_cons_succ]
      refine lw_val (v := Value.bool false) rfl ?s125 ?_
      case s125 =>
        go_simp
        try rfl
      simp only [Act.put, List.setIfInBounds_toArray, List.set_cons_zero, List.set_cons_succ]
      refine lw_val (v := Value.bool false) rfl ?s126 ?_
      case s126 =>
        go_simp
        try rfl
      simp only [Act.put, List.setIfInBounds_toArray, List.set_cons_zero, List.set_cons_succ]
      refine lw_val (v := dval A) rfl ?s127 ?_
      case s127 =>
        have a0 := HD5.out.c0
        have a1 := HD5.out.c1
        go_simp
        try rfl
      simp only [Act.put, List.setIfInBounds_toArray, List.set_cons_zero, List.set_cons_succ]
      refine lw_val (v := .int .u32 (cc : Int)) rfl ?s128 ?_
      case s128 =>
        go_simp
        try rfl
      simp only [Act.put, List.setIfInBounds_toArray, List.set_cons_zero, List.set_cons_succ]
      refine lw_call (v := Value.bool false) rfl ?s129 ((HC.out _).mono fun e w'' ⟨he, hb⟩ => ⟨he, (Fr.refl nob _).below hb⟩) ?_
      case s129 => go_simp
      intro wq hq
      simp only [Act.put, List.setIfInBounds_toArray, List.set_cons_zero, List.set_cons_succ]
      have HDq := Lib.hid (HD5.out.kept hq (fun h => h))
      have HFq := Lib.hid (HF5.out.trans hq (fun _ _ h => h))
      clear HD5 HF5 hq
      have HD5 := HDq
      have HF5 := HFq
      clear HDq HFq
      refine lw_val (v := Value.bool false) rfl ?s130 ?_
      case s130 =>
        go_simp
        try rfl
      simp only [Act.put, List.setIfInBounds_toArray, List.set_cons_zero, List.set_cons_succ]
      refine wpList_skip rfl ?_
      simp only [Act.put, List.setIfInBounds_toArray, List.set_cons_zero, List.set_cons_succ]
      refine wpList_skip rfl ?_
      simp only [Act.put, List.setIfInBounds_toArray, List.set_cons_zero, List.set_cons_succ]
      refine wpList_skip rfl ?_
      simp only [Act.put, List.setIfInBounds_toArray, List.set_cons_zero, List.set_cons_succ]
      refine lw_val (v := Value.bool false) rfl ?s131 ?_
      case s131 =>
        go_simp
        try rfl
      simp only [Act.put, List.setIfInBounds_toArray, List.set_cons_zero, List.set_cons_succ]
      refine lw_val (v := Value.bool false) rfl ?s132 ?_
      case s132 =>
        go_simp
        try rfl
      simp only [Act.put, List.setIfInBounds_toArray, List.set_cons_zero, List.set_cons_succ]
      refine lw_val (v := Value.bool false) rfl ?s133 ?_
      case s133 =>
        go_simp
        try rfl
      simp only [Act.put, List.setIfInBounds_toArray, List.set_cons_zero, List.set_cons_succ]
      refine lw_val (v := .slice a l.length cap) rfl ?s134 ?_
      case s134 =>
        go_simp
        try rfl
      simp only [Act.put, List.setIfInBounds_toArray, List.set_cons_zero, List.set_cons_succ]
      refine lw_val (v := .int .u32 (u : Int)) rfl ?s135 ?_
      case s135 =>
        go_simp
        try rfl
      simp only [Act.put, List.setIfInBounds_toArray, List.set_cons_zero, List.set_cons_succ]
      refine lw_call (v := .int .i64 s) rfl ?s136 ((HU.out _ HF5.out (by trivial)).mono fun e w'' ⟨he, hb⟩ => ⟨he, by rw [← hb]; exact Fr.refl nob _⟩) ?_
      case s136 => go_simp
      intro wq hq
      simp only [Act.put, List.setIfInBounds_toArray, List.set_cons_zero, List.set_cons_succ]
      have HDq := Lib.hid (HD5.out.kept hq (fun h => h))
      have HFq := Lib.hid (HF5.out.trans hq (fun _ _ h => h))
      clear HD5 HF5 hq
      have HD5 := HDq
      have HF5 := HFq
      clear HDq HFq
      refine lw_val (v := .int .i64 s) rfl ?s137 ?_
      case s137 =>
        go_simp
        try rfl
      simp only [Act.put, List.setIfInBounds_toArray, List.set_cons_zero, List.set_cons_succ]
      refine lw_val (v := Value.bool false) rfl ?s138 ?_
      case s138 =>
        go_simp
        try rfl
      simp only [Act.put, List.setIfInBounds_toArray, List.set_cons_zero, List.set_cons_succ]
      have HD6 := HD5
      have HF6 := HF5
      clear HD5 HF5
      go_wp2_with fail
      refine (KcFy.out _).mono ?_
      rintro e w7 ⟨_, rfl, ⟨ay, cy, rfl⟩, hb7⟩
      have HD7 := Lib.hid (HD6.out.kept ((Fr.refl nob _).below hb7) (fun h => h))
      have HF7 := Lib.hid (HF6.out.below hb7)
      clear hb7 HD6 HF6
      have hzx := Khzx.out
      go_wp2_with fail
      refine (KcFz.out _).mono ?_
      rintro e w8 ⟨_, rfl, ⟨az, cz, rfl⟩, hb8⟩
      have HD8 := Lib.hid (HD7.out.kept ((Fr.refl nob _).below hb8) (fun h => h))
      have HF8 := Lib.hid (HF7.out.below hb8)
      clear hb8 HD7 HF7 hzx
      go_upto_region 14 with fail
      have a0 := HD8.out.c0
      have a1 := HD8.out.c1
      by_cases hn0 : 0 < ny
      · have hn1 : decide (0 < (ny : Int)) = true := by simp; omega
        have hn2 : decide (0 < ny) = true := by simp; omega
        have hw1 : IntKind.i64.wrap ((ny : Int) - 1) = (ny : Int) - 1 := by rw [IntKind.wrap_i64]; omega
        refine wp_region_grow' 20 225 (fun _ => #[]) [] (by kernel_rfl) (by kernel_rfl) rfl rfl (by intro T h; cases h) ?_
        simp only [List.take_succ_cons, List.take_zero]
        refine grow_step (v := .int .i64 (ny : Int)) rfl rfl ?s139 ?_
        case s139 =>
          intro w' hw'
          clear hw'
          refine growAt_value ?_
          go_simp
          try rfl
        simp only [Act.put, List.setIfInBounds_toArray, List.set_cons_zero, List.set_cons_succ]
        refine grow_step (v := Value.bool true) rfl rfl ?s140 ?_
        case s140 =>
          intro w' hw'
          clear hw'
          refine growAt_value ?_
          go_simp
          try rfl
        simp only [Act.put, List.setIfInBounds_toArray, List.set_cons_zero, List.set_cons_succ]
        refine grow_step (v := Value.bool true) rfl rfl ?s141 ?_
        case s141 =>
          intro w' hw'
          clear hw'
          refine growAt_value ?_
          go_simp
          try rfl
        simp only [Act.put, List.setIfInBounds_toArray, List.set_cons_zero, List.set_cons_succ]
        refine grow_step (v := dval A) rfl rfl ?s142 ?_
        case s142 =>
          intro w' hw'
          have q0 := hw'.cell a0 (fun h => h)
          have q1 := hw'.cell a1 (fun h => h)
          clear hw'
          refine growAt_value ?_
          go_simp
          try rfl
        simp only [Act.put, List.setIfInBounds_toArray, List.set_cons_zero, List.set_cons_succ]
        refine grow_step (v := .int .i64 (ny : Int)) rfl rfl ?s143 ?_
        case s143 =>
          intro w' hw'
          clear hw'
          refine growAt_value ?_
          go_simp
          try rfl
        simp only [Act.put, List.setIfInBounds_toArray, List.set_cons_zero, List.set_cons_succ]
        refine grow_step (v := .int .i64 ((ny : Int) - 1)) rfl rfl ?s144 ?_
        case s144 =>
          intro w' hw'
          clear hw'
          refine growAt_value ?_
          go_simp
          try rfl
        simp only [Act.put, List.setIfInBounds_toArray, List.set_cons_zero, List.set_cons_succ]
        refine grow_step (v := dval BB) rfl rfl ?s145 ?_
        case s145 =>
          intro w' hw'
          have FRx := HF8.out.trans hw' (fun _ _ h => h)
          refine growAt_call ?_ ((KcBt.out w' FRx).mono fun e w'' ⟨he, hb⟩ => ⟨he, (Fr.refl nob _).below hb⟩)
          clear hw' FRx
          go_simp
        simp only [Act.put, List.setIfInBounds_toArray, List.set_cons_zero, List.set_cons_succ]
        refine grow_step (v := dval AB) rfl rfl ?s146 ?_
        case s146 =>
          intro w' hw'
          refine growAt_call ?_ ((KcAn.out w').mono fun e w'' ⟨he, hb⟩ => ⟨he, (Fr.refl nob _).below hb⟩)
          clear hw'
          go_simp
        simp only [Act.put, List.setIfInBounds_toArray, List.set_cons_zero, List.set_cons_succ]
        refine grow_step (v := Value.bool true) rfl rfl ?s147 ?_
        case s147 =>
          intro w' hw'
          refine growAt_call ?_ ((KcEm.out w' (by trivial)).mono fun e w'' ⟨he, hb⟩ => ⟨he, (Fr.refl nob _).below hb⟩)
          clear hw'
          go_simp
        simp only [Act.put, List.setIfInBounds_toArray, List.set_cons_zero, List.set_cons_succ]
        refine grow_step (v := Value.bool false) rfl rfl ?s148 ?_
        case s148 =>
          intro w' hw'
          clear hw'
          refine growAt_value ?_
          go_simp
          try rfl
        simp only [Act.put, List.setIfInBounds_toArray, List.set_cons_zero, List.set_cons_succ]
        refine grow_step (v := Value.bool false) rfl rfl ?s149 ?_
        case s149 =>
          intro w' hw'
          clear hw'
          refine growAt_value ?_
          go_simp
          try rfl
        simp only [Act.put, List.setIfInBounds_toArray, List.set_cons_zero, List.set_cons_succ]
        refine grow_step (v := Value.bool false) rfl rfl ?s150 ?_
        case s150 =>
          intro w' hw'
          clear hw'
          refine growAt_value ?_
          go_simp
          try rfl
        simp only [Act.put, List.setIfInBounds_toArray, List.set_cons_zero, List.set_cons_succ]
        refine grow_step (v := dval A) rfl rfl ?s151 ?_
        case s151 =>
          intro w' hw'
          have q0 := hw'.cell a0 (fun h => h)
          have q1 := hw'.cell a1 (fun h => h)
          clear hw'
          refine growAt_value ?_
          go_simp
          try rfl
        simp only [Act.put, List.setIfInBounds_toArray, List.set_cons_zero, List.set_cons_succ]
        refine grow_step (v := .int .u32 (cc : Int)) rfl rfl ?s152 ?_
        case s152 =>
          intro w' hw'
          clear hw'
          refine growAt_value ?_
          go_simp
          try rfl
        simp only [Act.put, List.setIfInBounds_toArray, List.set_cons_zero, List.set_cons_succ]
        refine grow_step (v := Value.bool false) rfl rfl ?s153 ?_
        case s153 =>
          intro w' hw'
          refine growAt_call ?_ ((HC.out w').mono fun e w'' ⟨he, hb⟩ => ⟨he, (Fr.refl nob _).below hb⟩)
          clear hw'
          go_simp
        simp only [Act.put, List.setIfInBounds_toArray, List.set_cons_zero, List.set_cons_succ]
        refine grow_step (v := Value.bool false) rfl rfl ?s154 ?_
        case s154 =>
          intro w' hw'
          clear hw'
          refine growAt_value ?_
          go_simp
          try rfl
        simp only [Act.put, List.setIfInBounds_toArray, List.set_cons_zero, List.set_cons_succ]
        refine grow_skip rfl rfl ?_
        simp only [Act.put, List.setIfInBounds_toArray, List.set_cons_zero, List.set_cons_succ]
        refine grow_skip rfl rfl ?_
        simp only [Act.put, List.setIfInBounds_toArray, List.set_cons_zero, List.set_cons_succ]
        refine grow_skip rfl rfl ?_
        simp only [Act.put, List.setIfInBounds_toArray, List.set_cons_zero, List.set_cons_succ]
        refine grow_step (v := Value.bool false) rfl rfl ?s155 ?_
        case s155 =>
          intro w' hw'
          clear hw'
          refine growAt_value ?_
          go_simp
          try rfl
        simp only [Act.put, List.setIfInBounds_toArray, List.set_cons_zero, List.set_cons_succ]
        refine grow_nil ?_
        rintro w9 listed fr9 - -
        have HD9 := Lib.hid (HD8.out.kept fr9 (fun h => h))
        have HF9 := Lib.hid (HF8.out.trans fr9 (fun _ _ h => h))
        clear a0 a1 fr9 HD8 HF8
        clear hn1 hn2
        have HD := Lib.hid HD9.out
        go_wp2_with fail
        go_loopw [22] (fun v wr => ∃ k : Nat, k ≤ 24 ∧ v = .int .i64 (k : Int) ∧ Box2 wr g (.int .u32 (place (li A) A : Int)) (.string ⟨(code (rows (li A))).toArray⟩) ∧ Fr nob w wr) (fun v _ => 24 - (intOf v).toNat)
        case atStart => exact ⟨0, by omega, rfl, HD9.out, HF9.out⟩
        case round =>
          clear HD9 HF9 HD
          obtain ⟨k, hk, rfl, hD, hF⟩ := hrel
          have HDr := Lib.hid hD
          have HFr := Lib.hid hF
          have a0 := hD.c0
          have a1 := hD.c1
          clear hD hF
          by_cases hk24 : k < 24
          · have d1 : decide ((k : Int) < 24) = true := by simp; omega
            have d1' : decide (k < 24) = true := by simp; omega
            by_cases hm : 0 < nz
            · have d2 : decide (0 < (nz : Int)) = true := by simp; omega
              have d2' : decide (0 < nz) = true := by simp; omega
              by_cases hm2 : 2 ≤ nz
              · have d3 : decide (2 ≤ (nz : Int)) = true := by simp; omega
                have d3' : decide (2 ≤ nz) = true := by simp; omega
                go_wp2_with fail
                refine (Khflip.out _ k (by trivial) hk24 hm2 _ ?q).mono ?_
                case q => rfl
                rintro e wa ⟨rfl, hba⟩
                have HDa := Lib.hid (HDr.out.kept ((Fr.refl nob _).below hba) (fun h => h))
                have HFa := Lib.hid (HFr.out.below hba)
                clear hba HDr HFr a0 a1
                go_wp2_with fail
                go_roundw
                case rel => exact ⟨k + 1, by omega, by go_num, HDa.out, HFa.out⟩
                case measure => simp [intOf]; omega
              · have d3 : decide (2 ≤ (nz : Int)) = false := by simp; omega
                have d3' : decide (2 ≤ nz) = false := by simp; omega
                go_wp2_with fail
                go_roundw
                case rel => exact ⟨k + 1, by omega, by go_num, HDr.out, HFr.out⟩
                case measure => simp [intOf]; omega
            · have d2 : decide (0 < (nz : Int)) = false := by simp; omega
              have d2' : decide (0 < nz) = false := by simp; omega
              go_wp2_with fail
              refine (HC.out _).mono ?_
              rintro e wa ⟨rfl, hba⟩
              have HFa := Lib.hid (HFr.out.below hba)
              clear hba HFr HDr a0 a1
              go_wp2_with fail
              refine (wakes_any _).mono ?_
              rintro e wc ⟨rfl, hbc⟩
              have HFc := Lib.hid (HFa.out.below hbc)
              clear hbc HFa
              go_wp2_with fail
              exact bodyPost_ret (v := .bool true) (by simp [results, Tryd.results7, go_sem]) rfl ⟨rfl, HFc.out.to_below (Nat.le_refl _) (fun _ h => h.elim)⟩
          · have d1 : decide ((k : Int) < 24) = false := by simp; omega
            have d1' : decide (k < 24) = false := by simp; omega
            go_wp2_with fail
            refine (HC.out _).mono ?_
            rintro e wa ⟨rfl, hba⟩
            have HFa := Lib.hid (HFr.out.below hba)
            clear hba HFr HDr a0 a1
            go_wp2_with fail
            refine (wakes_any _).mono ?_
            rintro e wc ⟨rfl, hbc⟩
            have HFc := Lib.hid (HFa.out.below hbc)
            clear hbc HFa
            go_wp2_with fail
            exact bodyPost_ret (v := .bool true) (by simp [results, Tryd.results7, go_sem]) rfl ⟨rfl, HFc.out.to_below (Nat.le_refl _) (fun _ h => h.elim)⟩
      · have hn1 : decide (0 < (ny : Int)) = false := by simp; omega
        have hn2 : decide (0 < ny) = false := by simp; omega
        refine wp_region_grow' 20 225 (fun _ => #[]) [] (by kernel_rfl) (by kernel_rfl) rfl rfl (by intro T h; cases h) ?_
        simp only [List.take_succ_cons, List.take_zero]
        refine grow_step (v := .int .i64 (ny : Int)) rfl rfl ?s156 ?_
        case s156 =>
          intro w' hw'
          clear hw'
          refine growAt_value ?_
          go_simp
          try rfl
        simp only [Act.put, List.setIfInBounds_toArray, List.set_cons_zero, List.set_cons_succ]
        refine grow_step (v := Value.bool false) rfl rfl ?s157 ?_
        case s157 =>
          intro w' hw'
          clear hw'
          refine growAt_value ?_
          go_simp
          try rfl
        simp only [Act.put, List.setIfInBounds_toArray, List.set_cons_zero, List.set_cons_succ]
        refine grow_step (v := Value.bool false) rfl rfl ?s158 ?_
        case s158 =>
          intro w' hw'
          clear hw'
          refine growAt_value ?_
          go_simp
          try rfl
        simp only [Act.put, List.setIfInBounds_toArray, List.set_cons_zero, List.set_cons_succ]
        refine grow_skip rfl rfl ?_
        simp only [Act.put, List.setIfInBounds_toArray, List.set_cons_zero, List.set_cons_succ]
        refine grow_skip rfl rfl ?_
        simp only [Act.put, List.setIfInBounds_toArray, List.set_cons_zero, List.set_cons_succ]
        refine grow_skip rfl rfl ?_
        simp only [Act.put, List.setIfInBounds_toArray, List.set_cons_zero, List.set_cons_succ]
        refine grow_skip rfl rfl ?_
        simp only [Act.put, List.setIfInBounds_toArray, List.set_cons_zero, List.set_cons_succ]
        refine grow_skip rfl rfl ?_
        simp only [Act.put, List.setIfInBounds_toArray, List.set_cons_zero, List.set_cons_succ]
        refine grow_skip rfl rfl ?_
        simp only [Act.put, List.setIfInBounds_toArray, List.set_cons_zero, List.set_cons_succ]
        refine grow_skip rfl rfl ?_
        simp only [Act.put, List.setIfInBounds_toArray, List.set_cons_zero, List.set_cons_succ]
        refine grow_step (v := Value.bool false) rfl rfl ?s159 ?_
        case s159 =>
          intro w' hw'
          clear hw'
          refine growAt_value ?_
          go_simp
          try rfl
        simp only [Act.put, List.setIfInBounds_toArray, List.set_cons_zero, List.set_cons_succ]
        refine grow_step (v := Value.bool false) rfl rfl ?s160 ?_
        case s160 =>
          intro w' hw'
          clear hw'
          refine growAt_value ?_
          go_simp
          try rfl
        simp only [Act.put, List.setIfInBounds_toArray, List.set_cons_zero, List.set_cons_succ]
        refine grow_step (v := dval A) rfl rfl ?s161 ?_
        case s161 =>
          intro w' hw'
          have q0 := hw'.cell a0 (fun h => h)
          have q1 := hw'.cell a1 (fun h => h)
          clear hw'
          refine growAt_value ?_
          go_simp
          try rfl
        simp only [Act.put, List.setIfInBounds_toArray, List.set_cons_zero, List.set_cons_succ]
        refine grow_step (v := .int .u32 (cc : Int)) rfl rfl ?s162 ?_
        case s162 =>
          intro w' hw'
          clear hw'
          refine growAt_value ?_
          go_simp
          try rfl
        simp only [Act.put, List.setIfInBounds_toArray, List.set_cons_zero, List.set_cons_succ]
        refine grow_step (v := Value.bool false) rfl rfl ?s163 ?_
        case s163 =>
          intro w' hw'
          refine growAt_call ?_ ((HC.out w').mono fun e w'' ⟨he, hb⟩ => ⟨he, (Fr.refl nob _).below hb⟩)
          clear hw'
          go_simp
        simp only [Act.put, List.setIfInBounds_toArray, List.set_cons_zero, List.set_cons_succ]
        refine grow_step (v := Value.bool false) rfl rfl ?s164 ?_
        case s164 =>
          intro w' hw'
          clear hw'
          refine growAt_value ?_
          go_simp
          try rfl
        simp only [Act.put, List.setIfInBounds_toArray, List.set_cons_zero, List.set_cons_succ]
        refine grow_skip rfl rfl ?_
        simp only [Act.put, List.setIfInBounds_toArray, List.set_cons_zero, List.set_cons_succ]
        refine grow_skip rfl rfl ?_
        simp only [Act.put, List.setIfInBounds_toArray, List.set_cons_zero, List.set_cons_succ]
        refine grow_skip rfl rfl ?_
        simp only [Act.put, List.setIfInBounds_toArray, List.set_cons_zero, List.set_cons_succ]
        refine grow_step (v := Value.bool false) rfl rfl ?s165 ?_
        case s165 =>
          intro w' hw'
          clear hw'
          refine growAt_value ?_
          go_simp
          try rfl
        simp only [Act.put, List.setIfInBounds_toArray, List.set_cons_zero, List.set_cons_succ]
        refine grow_nil ?_
        rintro w9 listed fr9 - -
        have HD9 := Lib.hid (HD8.out.kept fr9 (fun h => h))
        have HF9 := Lib.hid (HF8.out.trans fr9 (fun _ _ h => h))
        clear a0 a1 fr9 HD8 HF8
        clear hn1 hn2
        have HD := Lib.hid HD9.out
        go_wp2_with fail
        go_loopw [22] (fun v wr => ∃ k : Nat, k ≤ 24 ∧ v = .int .i64 (k : Int) ∧ Box2 wr g (.int .u32 (place (li A) A : Int)) (.string ⟨(code (rows (li A))).toArray⟩) ∧ Fr nob w wr) (fun v _ => 24 - (intOf v).toNat)
        case atStart => exact ⟨0, by omega, rfl, HD9.out, HF9.out⟩
        case round =>
          clear HD9 HF9 HD
          obtain ⟨k, hk, rfl, hD, hF⟩ := hrel
          have HDr := Lib.hid hD
          have HFr := Lib.hid hF
          have a0 := hD.c0
          have a1 := hD.c1
          clear hD hF
          by_cases hk24 : k < 24
          · have d1 : decide ((k : Int) < 24) = true := by simp; omega
            have d1' : decide (k < 24) = true := by simp; omega
            by_cases hm : 0 < nz
            · have d2 : decide (0 < (nz : Int)) = true := by simp; omega
              have d2' : decide (0 < nz) = true := by simp; omega
              by_cases hm2 : 2 ≤ nz
              · have d3 : decide (2 ≤ (nz : Int)) = true := by simp; omega
                have d3' : decide (2 ≤ nz) = true := by simp; omega
                go_wp2_with fail
                refine (Khflip.out _ k (by trivial) hk24 hm2 _ ?q).mono ?_
                case q => rfl
                rintro e wa ⟨rfl, hba⟩
                have HDa := Lib.hid (HDr.out.kept ((Fr.refl nob _).below hba) (fun h => h))
                have HFa := Lib.hid (HFr.out.below hba)
                clear hba HDr HFr a0 a1
                go_wp2_with fail
                go_roundw
                case rel => exact ⟨k + 1, by omega, by go_num, HDa.out, HFa.out⟩
                case measure => simp [intOf]; omega
              · have d3 : decide (2 ≤ (nz : Int)) = false := by simp; omega
                have d3' : decide (2 ≤ nz) = false := by simp; omega
                go_wp2_with fail
                go_roundw
                case rel => exact ⟨k + 1, by omega, by go_num, HDr.out, HFr.out⟩
                case measure => simp [intOf]; omega
            · have d2 : decide (0 < (nz : Int)) = false := by simp; omega
              have d2' : decide (0 < nz) = false := by simp; omega
              go_wp2_with fail
              refine (HC.out _).mono ?_
              rintro e wa ⟨rfl, hba⟩
              have HFa := Lib.hid (HFr.out.below hba)
              clear hba HFr HDr a0 a1
              go_wp2_with fail
              refine (wakes_any _).mono ?_
              rintro e wc ⟨rfl, hbc⟩
              have HFc := Lib.hid (HFa.out.below hbc)
              clear hbc HFa
              go_wp2_with fail
              exact bodyPost_ret (v := .bool true) (by simp [results, Tryd.results7, go_sem]) rfl ⟨rfl, HFc.out.to_below (Nat.le_refl _) (fun _ h => h.elim)⟩
          · have d1 : decide ((k : Int) < 24) = false := by simp; omega
            have d1' : decide (k < 24) = false := by simp; omega
            go_wp2_with fail
            refine (HC.out _).mono ?_
            rintro e wa ⟨rfl, hba⟩
            have HFa := Lib.hid (HFr.out.below hba)
            clear hba HFr HDr a0 a1
            go_wp2_with fail
            refine (wakes_any _).mono ?_
            rintro e wc ⟨rfl, hbc⟩
            have HFc := Lib.hid (HFa.out.below hbc)
            clear hbc HFa
            go_wp2_with fail
            exact bodyPost_ret (v := .bool true) (by simp [results, Tryd.results7, go_sem]) rfl ⟨rfl, HFc.out.to_below (Nat.le_refl _) (fun _ h => h.elim)⟩
end Go.Proofs.YtiainlccodnlmaaDoor
namespace Go.Proofs.YtiainlccodnlmaaDoor
open Go.RowKit
open Bd

theorem featL_le (m : Nat) : (featL m).length ≤ 24 := by unfold featL; exact Nat.le_trans (List.length_filter_le _ _) (by simp)
theorem Tab32.fr {w W : World} (h : Tab32 w) (f : Fr nob w W) : Tab32 W := fun j hj => f.cell (h j hj) (fun h => h)

theorem picks_any (L : List OpD) (hfit : ∀ x ∈ L, x.Fits) (c : Nat) (hc : c < 4294967296) (l : List Int) (v : Value) (a : Option Addr) (cap : Nat) (w : World) (hv : ORow w v L) (hI : IRow w (.slice a l.length cap) l) (hg : 0 < w.heap.size) (hT : Tab32 w) :
    Calls Tryd.prog 7 #[v, .int .u32 (c : Int), .slice a l.length cap] w fun e w' => e = .returned (.bool true) ∧ Below w.heap.size w w' := by
  have c3 := three_any L hfit v w hv hg hT
  have kI : ∀ W, Fr nob w W → IRow W (.slice a l.length cap) l := fun W fr => hI.kept fr (fun _ _ h => h)
  have cs : l.length ≤ 24 → ∀ W, Fr nob w W → Calls Tryd.prog 34 #[.slice a l.length cap] W fun e w' => e = .returned (.bool (wOk l)) ∧ W = w' := fun h W fr => RCosts_any l (by omega) _ W (kI W fr)
  by_cases hgood : okL L = true ∧ wOk l = true
  · obtain ⟨hk, hw⟩ := hgood
    have hl := (wOk_iff.1 hw).1
    rw [hk] at c3
    rw [hw] at cs
    have hA := ok_thr L 1
    generalize thr L 1 = A at *
    have lx := bstN_lt (cw := fun _ => 0) (fun _ => by omega) hA
    have ly := bstN_lt (cw := fun _ => 1) (fun _ => by omega) hA
    have lz := bstN_lt (cwN_bound (ints (featL c))) hA
    have lu := bstN_lt (wC_bound l) hA
    have hF0 : ∀ cw, A = .F → bstN cw A = 0 := fun cw h => by unfold bstN; rw [if_pos h]
    have hcc : c % 16777216 < 16777216 := Nat.mod_lt _ (by decide)
    refine picks_in A (thr L 2) (thr L 3) (!decide (A = .F)) (bstN (fun _ => 0) A) (bstN (fun _ => 1) A) (bstN (cwN (ints (featL c))) A) (bstN (wC l) A)
      (if A = .F then 0 else cst (wC l) (bstN (wC l) A)) (if A = .F then 8 else 0) l hl v a cap c w hI c3 (cs hl) (Least_any A hA) (Smallest_any A hA)
      (fun W fr => Nearest_any A hA c hc W (Nat.lt_of_lt_of_le hg fr.size) (hT.fr fr)) ?cP ?cE ?hF ?hE (c % 16777216) (by omega) (A.ev (bitsOf (c % 16777216))) ?cH (fun W => Has_any A hA _ (by omega) W) ?hz ?cCu
      (featL (bstN (fun _ => 1) A)).length (featL (bstN (cwN (ints (featL c))) A ^^^ (c % 16777216))).length (featL_le _) (featL_le _)
      (bstN (cwN (ints (featL c))) A ^^^ (c % 16777216)) (u32_xor_nat _ _ (by omega) (by omega)) ?cFy ?cFz
      (costB (cwM (ints (featL 16777215))) 0 (((featL (bstN (fun _ => 1) A)).length : Int) - 1) 24 0) _ ?cBt (fun W => And_any A _ hA (ok_costB0 _ _ _ _ _) W) ?cEm ?hle ?hflip
      (cst (wC l) (c % 16777216)) ?cCc ?hsc
    case cP =>
      intro W v' fr hs
      have h := Cheapest_any A hA l (by omega) v' W hs (Nat.lt_of_lt_of_le hg fr.size) (hT.fr fr)
      rw [hw] at h
      by_cases hF : A = .F
      · rw [hF, chpV_none] at h
        rw [if_pos hF, if_pos hF, hF0 _ hF, hF]; exact h
      · rw [chpV_ok _ hF, csL_cst] at h
        rw [if_neg hF, if_neg hF]; exact h
    case cE => intro W; have h := Empty_any A W; simpa using h
    case hF =>
      intro h
      have hF : A = .F := by simpa using h
      exact ⟨hF0 _ hF, hF0 _ hF, hF0 _ hF, hF0 _ hF, if_pos hF, if_pos hF⟩
    case hE => intro h; have hF : ¬ A = .F := by simpa using h
               exact if_neg hF
    case cH =>
      intro W q hq h
      have hF : A ≠ .F := by simpa using h
      have hb : q < 2 ^ 32 ∧ A.ev (bitsOf q) = true := by
        rcases hq with rfl | rfl | rfl | rfl
        · exact ⟨by omega, (pick_all (fun _ => by omega) hA hF).2.1⟩
        · exact ⟨by omega, (pick_all (fun _ => by omega) hA hF).2.1⟩
        · exact ⟨by omega, (pick_all (cwN_bound _) hA hF).2.1⟩
        · exact ⟨by omega, (pick_all (wC_bound l) hA hF).2.1⟩
      have h := Has_any A hA q hb.1 W
      rw [show (A.ev fun i => q.testBit i) = true from hb.2] at h
      exact h
    case hz => intro h; exact near_self hA c h
    case cCu =>
      intro W fr h
      have hF : ¬ A = .F := by simpa using h
      have h := RCost_any l hw (bstN (wC l) A) (by omega) _ W (kI W fr)
      rw [sumC_cst hw] at h
      rw [if_neg hF]; exact h
    case cFy =>
      intro W
      refine (Features_any _ (by omega) W).mono ?_
      rintro e w' ⟨v, h1, h2, h3⟩
      obtain ⟨a, cap, h⟩ := h2.form
      exact ⟨v, h1, ⟨a, cap, by rw [h, List.length_map]⟩, h3⟩
    case cFz =>
      intro W
      refine (Features_any _ (Nat.xor_lt_two_pow (by omega) (by omega)) W).mono ?_
      rintro e w' ⟨v, h1, h2, h3⟩
      obtain ⟨a, cap, h⟩ := h2.form
      exact ⟨v, h1, ⟨a, cap, by rw [h, List.length_map]⟩, h3⟩
    case cBt => intro W fr; exact Between_any 0 _ 16777215 (by omega) W (Nat.lt_of_lt_of_le hg fr.size) (hT.fr fr)
    case cEm =>
      intro W h
      have hF : A ≠ .F := by simpa using h
      have h := Empty_any (ite A (costB (cwM (ints (featL 16777215))) 0 (((featL (bstN (fun _ => 1) A)).length : Int) - 1) 24 0) .F) W
      rw [decide_eq_true (small_empty hA hF)] at h
      exact h
    case hle =>
      intro h hd
      have hF : A ≠ .F := by simpa using h
      exact least_le hA hF hd
    case hflip =>
      intro W k h hk hm q hq
      have hF : A ≠ .F := by simpa using h
      have hp : 2 ^ k < 2 ^ 24 := Nat.pow_lt_pow_right (by omega) hk
      have e : IntKind.u32.wrap (2 ^ k) = ((2 ^ k : Nat) : Int) := by
        rw [IntKind.wrap_u32, show (2 : Int) ^ k = ((2 ^ k : Nat) : Int) by simp]
        generalize 2 ^ k = m at *
        omega
      rw [e, u32_xor_nat _ _ (by omega) (by omega)] at hq
      subst hq
      have h := Has_any A hA ((c % 16777216) ^^^ 2 ^ k) (Nat.xor_lt_two_pow (by omega) (by omega)) W
      have hf : (A.ev fun i => ((c % 16777216) ^^^ 2 ^ k).testBit i) = false := by
        cases hh : (A.ev fun i => ((c % 16777216) ^^^ 2 ^ k).testBit i) with
        | false => rfl
        | true => have := near_flip hA hF c k hh; exact absurd this (by show ¬ (featL (bstN (cwN (ints (featL c))) A ^^^ (c % 16777216))).length ≤ 1; omega)
      rw [hf] at h
      exact h
    case cCc =>
      intro W fr _
      have h := RCost_any l hw (c % 16777216) (by omega) _ W (kI W fr)
      rw [sumC_cst hw] at h
      exact h
    case hsc =>
      intro h hd
      have hF : A ≠ .F := by simpa using h
      rw [if_neg hF]
      exact cheap_le (wC_bound l) hA hF hd
  · have hbad : okL L = false ∨ wOk l = false := by
      cases h1 : okL L <;> cases h2 : wOk l <;> simp_all
    exact picks_bad (thr L 1) (thr L 2) (thr L 3) (okL L) (wOk l) hbad l rfl v a cap c w c3 cs
end Go.Proofs.YtiainlccodnlmaaDoor
