import Derived.Test.YtiainlccodnlmaaDoorBet
import Derived.Test.YtiainlccodnlmaaDoorCost
import Derived.Deep.MidRow
namespace Go.Proofs.YtiainlccodnlmaaDoor
open Go.RowKit
open Bd

theorem ofr_bound {cw : Nat → Int} (hw : ∀ j, -2147483648 ≤ cw j ∧ cw j ≤ 2147483648) {us : Nat} (hus : us < 2 ^ 24) : ∀ {b : B} {n : Nat}, b.ok n → (0 ≤ (ofr cw us b).1 ∧ (ofr cw us b).1 ≤ 1099511627776 + ((24 - n : Nat) : Int) * 2147483648) ∧ (ofr cw us b).2 < 2 ^ 24
  | .F, n, _ => ⟨⟨by show (0 : Int) ≤ 1099511627776; decide, by show (1099511627776 : Int) ≤ _; omega⟩, by show 0 < 2 ^ 24; decide⟩
  | .T, n, _ => ⟨⟨Int.le_refl _, by show (0 : Int) ≤ _; omega⟩, hus⟩
  | .N i lo hi, n, h => by
    obtain ⟨h1, h2, _, h4, h5⟩ := h
    obtain ⟨⟨a1, a2⟩, a3⟩ := ofr_bound hw hus h4
    obtain ⟨⟨b1, b2⟩, b3⟩ := ofr_bound hw hus h5
    have hwi := hw i
    have e : ofr cw us (.N i lo hi) = if (ofr cw us lo).1 + max (- cw i) 0 < (ofr cw us hi).1 + max (cw i) 0 ∨ ((ofr cw us lo).1 + max (- cw i) 0 = (ofr cw us hi).1 + max (cw i) 0 ∧ stb (ofr cw us lo).2 i false < stb (ofr cw us hi).2 i true) then ((ofr cw us lo).1 + max (- cw i) 0, stb (ofr cw us lo).2 i false) else ((ofr cw us hi).1 + max (cw i) 0, stb (ofr cw us hi).2 i true) := rfl
    have m1 : 0 ≤ max (- cw i) 0 ∧ max (- cw i) 0 ≤ 2147483648 := by omega
    have m2 : 0 ≤ max (cw i) 0 ∧ max (cw i) 0 ≤ 2147483648 := by omega
    have k : (24 - (i + 1) : Nat) + 1 ≤ 24 - n := by omega
    have k' : ((24 - (i + 1) : Nat) : Int) + 1 ≤ ((24 - n : Nat) : Int) := by omega
    rw [e]
    split
    · exact ⟨⟨by simp only; omega, by simp only; omega⟩, stb_lt a3 h2 false⟩
    · exact ⟨⟨by simp only; omega, by simp only; omega⟩, stb_lt b3 h2 true⟩
/-- the usual configuration: what is cheaper with than without -/
def usN (cw : Nat → Int) : Nat → Nat
  | 0 => 0
  | k + 1 => if cw k < 0 then usN cw k ||| 2 ^ k else usN cw k
theorem usN_bit (cw : Nat → Int) (j : Nat) : ∀ k, (usN cw k).testBit j = decide (j < k ∧ cw j < 0)
  | 0 => by simp [usN]
  | k + 1 => by
    unfold usN
    by_cases h : cw k < 0
    · rw [if_pos h, Nat.testBit_or, usN_bit cw j k, Nat.testBit_two_pow, Bool.eq_iff_iff]
      simp only [Bool.or_eq_true, decide_eq_true_eq]
      constructor
      · rintro (⟨a, b⟩ | rfl)
        · exact ⟨by omega, b⟩
        · exact ⟨by omega, h⟩
      · rintro ⟨a, b⟩
        by_cases e : k = j
        · exact .inr e
        · exact .inl ⟨by omega, b⟩
    · rw [if_neg h, usN_bit cw j k, Bool.eq_iff_iff]
      simp only [decide_eq_true_eq]
      constructor
      · rintro ⟨a, b⟩; exact ⟨by omega, b⟩
      · rintro ⟨a, b⟩
        refine ⟨?_, b⟩
        by_cases e : j = k
        · subst e; exact absurd b h
        · omega
theorem usN_lt (cw : Nat → Int) {k : Nat} (hk : k ≤ 24) : usN cw k < 2 ^ 24 := Nat.lt_pow_two_of_testBit _ fun i hi => by
  rw [usN_bit]; simp; omega

theorem off_join (A : B) (hA : A.ok 0) (cw : Nat → Int) (hcw : ∀ j, -2147483648 ≤ cw j ∧ cw j ≤ 2147483648) {us : Nat} (hus : us < 2 ^ 24) : FoldPO A (fun b => ((ofr cw us b).1, ((ofr cw us b).2 : Int))) (fun ft _ _ => ft = nob) (pv cw) := by
  refine ⟨?_, ?_, ?_⟩
  · intro ft R w w' S h _ _; exact h
  · rintro ft R w rfl k hk; exact hk.elim
  · rintro ft R i lo hi w rfl hs
    have hok := (small_suffix hs (small_li hA)).2 (.N i lo hi) List.mem_cons_self
    obtain ⟨_, h2, _, h4, h5⟩ := id hok
    obtain ⟨⟨a1, a2⟩, a3⟩ := ofr_bound hcw hus h4
    obtain ⟨⟨b1, b2⟩, b3⟩ := ofr_bound hcw hus h5
    refine (better_any cw i h2 (hcw i) _ _ ⟨a1, by omega⟩ ⟨b1, by omega⟩ _ _ a3 b3 w).mono ?_
    rintro e w' ⟨rfl, hB⟩
    exact ⟨nob, rfl, rfl, (Fr.refl nob w).below hB, fun _ h => .inl h⟩
theorem run_w (cw : Nat → Int) {k : Nat} (hk : k < 24) (W : World) : (Instr.index 109 (wv cw) (ik k)).run Tryd.prog W = .ok (.int .i64 (cw k)) W := by
  match k, hk with
  | 0, _ => exact (show (Instr.index 109 (wv cw) (ik 0)).run Tryd.prog W = .ok (.int .i64 (cw 0)) W by kernel_rfl)
  | 1, _ => exact (show (Instr.index 109 (wv cw) (ik 1)).run Tryd.prog W = .ok (.int .i64 (cw 1)) W by kernel_rfl)
  | 2, _ => exact (show (Instr.index 109 (wv cw) (ik 2)).run Tryd.prog W = .ok (.int .i64 (cw 2)) W by kernel_rfl)
  | 3, _ => exact (show (Instr.index 109 (wv cw) (ik 3)).run Tryd.prog W = .ok (.int .i64 (cw 3)) W by kernel_rfl)
  | 4, _ => exact (show (Instr.index 109 (wv cw) (ik 4)).run Tryd.prog W = .ok (.int .i64 (cw 4)) W by kernel_rfl)
  | 5, _ => exact (show (Instr.index 109 (wv cw) (ik 5)).run Tryd.prog W = .ok (.int .i64 (cw 5)) W by kernel_rfl)
  | 6, _ => exact (show (Instr.index 109 (wv cw) (ik 6)).run Tryd.prog W = .ok (.int .i64 (cw 6)) W by kernel_rfl)
  | 7, _ => exact (show (Instr.index 109 (wv cw) (ik 7)).run Tryd.prog W = .ok (.int .i64 (cw 7)) W by kernel_rfl)
  | 8, _ => exact (show (Instr.index 109 (wv cw) (ik 8)).run Tryd.prog W = .ok (.int .i64 (cw 8)) W by kernel_rfl)
  | 9, _ => exact (show (Instr.index 109 (wv cw) (ik 9)).run Tryd.prog W = .ok (.int .i64 (cw 9)) W by kernel_rfl)
  | 10, _ => exact (show (Instr.index 109 (wv cw) (ik 10)).run Tryd.prog W = .ok (.int .i64 (cw 10)) W by kernel_rfl)
  | 11, _ => exact (show (Instr.index 109 (wv cw) (ik 11)).run Tryd.prog W = .ok (.int .i64 (cw 11)) W by kernel_rfl)
  | 12, _ => exact (show (Instr.index 109 (wv cw) (ik 12)).run Tryd.prog W = .ok (.int .i64 (cw 12)) W by kernel_rfl)
  | 13, _ => exact (show (Instr.index 109 (wv cw) (ik 13)).run Tryd.prog W = .ok (.int .i64 (cw 13)) W by kernel_rfl)
  | 14, _ => exact (show (Instr.index 109 (wv cw) (ik 14)).run Tryd.prog W = .ok (.int .i64 (cw 14)) W by kernel_rfl)
  | 15, _ => exact (show (Instr.index 109 (wv cw) (ik 15)).run Tryd.prog W = .ok (.int .i64 (cw 15)) W by kernel_rfl)
  | 16, _ => exact (show (Instr.index 109 (wv cw) (ik 16)).run Tryd.prog W = .ok (.int .i64 (cw 16)) W by kernel_rfl)
  | 17, _ => exact (show (Instr.index 109 (wv cw) (ik 17)).run Tryd.prog W = .ok (.int .i64 (cw 17)) W by kernel_rfl)
  | 18, _ => exact (show (Instr.index 109 (wv cw) (ik 18)).run Tryd.prog W = .ok (.int .i64 (cw 18)) W by kernel_rfl)
  | 19, _ => exact (show (Instr.index 109 (wv cw) (ik 19)).run Tryd.prog W = .ok (.int .i64 (cw 19)) W by kernel_rfl)
  | 20, _ => exact (show (Instr.index 109 (wv cw) (ik 20)).run Tryd.prog W = .ok (.int .i64 (cw 20)) W by kernel_rfl)
  | 21, _ => exact (show (Instr.index 109 (wv cw) (ik 21)).run Tryd.prog W = .ok (.int .i64 (cw 21)) W by kernel_rfl)
  | 22, _ => exact (show (Instr.index 109 (wv cw) (ik 22)).run Tryd.prog W = .ok (.int .i64 (cw 22)) W by kernel_rfl)
  | 23, _ => exact (show (Instr.index 109 (wv cw) (ik 23)).run Tryd.prog W = .ok (.int .i64 (cw 23)) W by kernel_rfl)
  | k + 24, h => omega
theorem run_offer_c (a b : Value) (w : World) : (Instr.field 147 (.agg #[a, b]) 1).run Tryd.prog w = .ok b w := by kernel_rfl
theorem wpList_val {P : Program} {ops : Array Oper} {rest : List Oper} {o : Oper} {a : Act} {w w' : World} {Q : Exit → Act → World → Prop} {v : Value} (hg : o.guard = none) (h : (execOp a.eval o).run P w = .ok (.value v) w') (k : wpList P ops Q rest (a.put o.dst v) w') : wpList P ops Q (o :: rest) a w := by
  refine wpList_plain hg fun K hK => ?_
  unfold Oper.wp
  rw [h]
  exact hK _ _ k
/-- what best picks -/
def bstN (cw : Nat → Int) (A : B) : Nat := if A = .F then 0 else (ofr cw (usN cw 24) A).2

set_option maxRecDepth 100000 in
set_option maxHeartbeats 4000000 in
theorem bst_any (A : B) (hA : A.ok 0) (cw : Nat → Int) (hcw : ∀ j, -2147483648 ≤ cw j ∧ cw j ≤ 2147483648) (w : World) : Calls Tryd.prog 71 #[dval A, wv cw] w fun e w' => e = .returned (.tuple #[.int .u32 (bstN cw A : Int), .bool (!decide (A = .F))]) ∧ Below w.heap.size w w' := by
  have hus := usN_lt cw (k := 24) (Nat.le_refl _)
  have hF := fun W => (show Calls Tryd.prog 102 #[dval A, .agg #[.int .i64 1099511627776, .int .u32 0], .agg #[.int .i64 0, .int .u32 (usN cw 24 : Int)], .func (.func 103) #[pv cw] #[]] W fun e w' => e = .returned (.agg #[.int .i64 (ofr cw (usN cw 24) A).1, .int .u32 ((ofr cw (usN cw 24) A).2 : Int)]) ∧ Fr nob W w' from
    (foldO_any A hA (fun b => ((ofr cw (usN cw 24) b).1, ((ofr cw (usN cw 24) b).2 : Int))) (fun ft _ _ => ft = nob) (pv cw) (off_join A hA cw hcw hus) (1099511627776, 0) (0, (usN cw 24 : Int)) rfl rfl nob W rfl).mono (by
      rintro e w' ⟨ft', rfl, -, fr, -⟩
      exact ⟨rfl, fr⟩))
  have hE := Empty_any A
  have HV := Lib.hid (show bstN cw A = if A = .F then 0 else (ofr cw (usN cw 24) A).2 from rfl)
  have D0 := (Box2.new w (.int .u32 (place (li A) A : Int)) (.string ⟨(code (rows (li A))).toArray⟩) 31).kept ((Fr.refl nob _).alloc (.cells #[.int .i64 (cw 0), .int .i64 (cw 1), .int .i64 (cw 2), .int .i64 (cw 3), .int .i64 (cw 4), .int .i64 (cw 5), .int .i64 (cw 6), .int .i64 (cw 7), .int .i64 (cw 8), .int .i64 (cw 9), .int .i64 (cw 10), .int .i64 (cw 11), .int .i64 (cw 12), .int .i64 (cw 13), .int .i64 (cw 14), .int .i64 (cw 15), .int .i64 (cw 16), .int .i64 (cw 17), .int .i64 (cw 18), .int .i64 (cw 19), .int .i64 (cw 20), .int .i64 (cw 21), .int .i64 (cw 22), .int .i64 (cw 23)] 109)) (fun h => h)
  have box := heap_alloc_new (w.alloc (.cells #[.int .u32 (place (li A) A : Int), .string ⟨(code (rows (li A))).toArray⟩] 31)) (.cells #[.int .i64 (cw 0), .int .i64 (cw 1), .int .i64 (cw 2), .int .i64 (cw 3), .int .i64 (cw 4), .int .i64 (cw 5), .int .i64 (cw 6), .int .i64 (cw 7), .int .i64 (cw 8), .int .i64 (cw 9), .int .i64 (cw 10), .int .i64 (cw 11), .int .i64 (cw 12), .int .i64 (cw 13), .int .i64 (cw 14), .int .i64 (cw 15), .int .i64 (cw 16), .int .i64 (cw 17), .int .i64 (cw 18), .int .i64 (cw 19), .int .i64 (cw 20), .int .i64 (cw 21), .int .i64 (cw 22), .int .i64 (cw 23)] 109)
  simp only [World.size_alloc] at box
  have fr : Fr nob w ((w.alloc (.cells #[.int .u32 (place (li A) A : Int), .string ⟨(code (rows (li A))).toArray⟩] 31)).alloc (.cells #[.int .i64 (cw 0), .int .i64 (cw 1), .int .i64 (cw 2), .int .i64 (cw 3), .int .i64 (cw 4), .int .i64 (cw 5), .int .i64 (cw 6), .int .i64 (cw 7), .int .i64 (cw 8), .int .i64 (cw 9), .int .i64 (cw 10), .int .i64 (cw 11), .int .i64 (cw 12), .int .i64 (cw 13), .int .i64 (cw 14), .int .i64 (cw 15), .int .i64 (cw 16), .int .i64 (cw 17), .int .i64 (cw 18), .int .i64 (cw 19), .int .i64 (cw 20), .int .i64 (cw 21), .int .i64 (cw 22), .int .i64 (cw 23)] 109)) := ((Fr.refl nob w).alloc _).alloc _
  go_enter Tryd.func71, Tryd.ntmps71
  go_upto_region 1 with fail
  generalize (w.alloc (.cells #[.int .u32 (place (li A) A : Int), .string ⟨(code (rows (li A))).toArray⟩] 31)).alloc (.cells #[.int .i64 (cw 0), .int .i64 (cw 1), .int .i64 (cw 2), .int .i64 (cw 3), .int .i64 (cw 4), .int .i64 (cw 5), .int .i64 (cw 6), .int .i64 (cw 7), .int .i64 (cw 8), .int .i64 (cw 9), .int .i64 (cw 10), .int .i64 (cw 11), .int .i64 (cw 12), .int .i64 (cw 13), .int .i64 (cw 14), .int .i64 (cw 15), .int .i64 (cw 16), .int .i64 (cw 17), .int .i64 (cw 18), .int .i64 (cw 19), .int .i64 (cw 20), .int .i64 (cw 21), .int .i64 (cw 22), .int .i64 (cw 23)] 109) = W0 at *
  have a0 := D0.c0
  have a1 := D0.c1
  go_wp2_with fail
  refine (hE _).mono ?_
  rintro e w1 ⟨rfl, hb⟩
  have g1 := (Fr.refl nob W0).below hb
  replace D0 := D0.kept g1 (fun h => h)
  replace box := (g1.block (w.heap.size + 1) (Array.getElem?_eq_some_iff.1 box).1 (fun h => h)).trans box
  replace fr := fr.trans g1 (fun _ _ h => h)
  clear hb hE g1 a0 a1
  have a0 := D0.c0
  have a1 := D0.c1
  by_cases hA0 : A = .F
  · have hd : decide (A = .F) = true := by simp [hA0]
    rw [hd]
    have HD := Lib.hid hd
    have H0 := Lib.hid (show bstN cw A = 0 by rw [HV.out, if_pos hA0])
    clear hF hA0 hd
    go_wp2_with fail
    go_ret2
    exact ⟨by rw [H0.out, HD.out]; rfl, fr.to_below (Nat.le_refl _) (fun _ h => h.elim)⟩
  · have hd : decide (A = .F) = false := by simp [hA0]
    rw [hd]
    have HD := Lib.hid hd
    have HN := Lib.hid (show bstN cw A = (ofr cw (usN cw 24) A).2 by rw [HV.out, if_neg hA0])
    clear HV hd hA0
    have hra : w1.rangeAt (w.heap.size + 1) 0 [.int .i64 (cw 0), .int .i64 (cw 1), .int .i64 (cw 2), .int .i64 (cw 3), .int .i64 (cw 4), .int .i64 (cw 5), .int .i64 (cw 6), .int .i64 (cw 7), .int .i64 (cw 8), .int .i64 (cw 9), .int .i64 (cw 10), .int .i64 (cw 11), .int .i64 (cw 12), .int .i64 (cw 13), .int .i64 (cw 14), .int .i64 (cw 15), .int .i64 (cw 16), .int .i64 (cw 17), .int .i64 (cw 18), .int .i64 (cw 19), .int .i64 (cw 20), .int .i64 (cw 21), .int .i64 (cw 22), .int .i64 (cw 23)] := fun j v hv => by
      rw [Nat.zero_add, cell_of_row _ (w.heap.size + 1) j _ _ (0, 0) box]; simpa using hv
    have HI := Lib.hid (show (Tryd.prog.info? 109).map (·.size) = some ([.int .i64 (cw 0), .int .i64 (cw 1), .int .i64 (cw 2), .int .i64 (cw 3), .int .i64 (cw 4), .int .i64 (cw 5), .int .i64 (cw 6), .int .i64 (cw 7), .int .i64 (cw 8), .int .i64 (cw 9), .int .i64 (cw 10), .int .i64 (cw 11), .int .i64 (cw 12), .int .i64 (cw 13), .int .i64 (cw 14), .int .i64 (cw 15), .int .i64 (cw 16), .int .i64 (cw 17), .int .i64 (cw 18), .int .i64 (cw 19), .int .i64 (cw 20), .int .i64 (cw 21), .int .i64 (cw 22), .int .i64 (cw 23)] : List Value).length from info_w)
    go_upto_region 4 with fail
    refine wp_region_lit ?_
    refine wpList_load_mid rfl 109 (.tmp 3) rfl (w.heap.size + 1) 0 rfl [.int .i64 (cw 0), .int .i64 (cw 1), .int .i64 (cw 2), .int .i64 (cw 3), .int .i64 (cw 4), .int .i64 (cw 5), .int .i64 (cw 6), .int .i64 (cw 7), .int .i64 (cw 8), .int .i64 (cw 9), .int .i64 (cw 10), .int .i64 (cw 11), .int .i64 (cw 12), .int .i64 (cw 13), .int .i64 (cw 14), .int .i64 (cw 15), .int .i64 (cw 16), .int .i64 (cw 17), .int .i64 (cw 18), .int .i64 (cw 19), .int .i64 (cw 20), .int .i64 (cw 21), .int .i64 (cw 22), .int .i64 (cw 23)] _ hra under_w rfl HI.out ?_
    go_wp2_with fail
    have HBX := Lib.hid box
    have HD0 := Lib.hid D0
    have HFR := Lib.hid fr
    have HCW := Lib.hid hcw
    have HRA := Lib.hid hra
    clear box D0 fr hra a0 a1 hcw
    go_loop [6, 13] (fun uv kv => ∃ k : Nat, k ≤ 24 ∧ kv = ik k ∧ uv = .int .u32 (usN cw k : Int)) (fun _ kv => 24 - (intOf kv).toNat)
    case atStart => exact ⟨0, Nat.zero_le _, rfl, rfl⟩
    case round =>
      obtain ⟨k, hk, rfl, rfl⟩ := hrel
      by_cases hlt : k < 24
      · have hk1 : (k : Int) < 24 := by omega
        have hat := run_w cw hlt w1
        have HU := Lib.hid (show usN cw (k + 1) = if cw k < 0 then usN cw k ||| 2 ^ k else usN cw k from rfl)
        have hul := usN_lt cw hk
        by_cases hn : cw k < 0
        · have ho := or_u32 (usN cw k) k hul hlt
          rw [Nat.one_shiftLeft] at ho
          go_wp2_with fail
          refine ⟨⟨k + 1, by omega, by go_num, ?_⟩, by simp [intOf]; omega⟩
          rw [HU.out, if_pos hn, ← ho]
        · go_wp2_with fail
          refine ⟨⟨k + 1, by omega, by go_num, ?_⟩, by simp [intOf]; omega⟩
          rw [HU.out, if_neg hn]
      · obtain rfl : k = 24 := by omega
        have HIP := Lib.hid (show (Tryd.prog.info? 145).map (·.size) = some ([.int .i64 (cw 0), .int .i64 (cw 1), .int .i64 (cw 2), .int .i64 (cw 3), .int .i64 (cw 4), .int .i64 (cw 5), .int .i64 (cw 6), .int .i64 (cw 7), .int .i64 (cw 8), .int .i64 (cw 9), .int .i64 (cw 10), .int .i64 (cw 11), .int .i64 (cw 12), .int .i64 (cw 13), .int .i64 (cw 14), .int .i64 (cw 15), .int .i64 (cw 16), .int .i64 (cw 17), .int .i64 (cw 18), .int .i64 (cw 19), .int .i64 (cw 20), .int .i64 (cw 21), .int .i64 (cw 22), .int .i64 (cw 23)] : List Value).length by kernel_rfl)
        have HIQ := Lib.hid (show (Tryd.prog.info? 145).map (·.size) = some (#[.int .i64 (cw 0), .int .i64 (cw 1), .int .i64 (cw 2), .int .i64 (cw 3), .int .i64 (cw 4), .int .i64 (cw 5), .int .i64 (cw 6), .int .i64 (cw 7), .int .i64 (cw 8), .int .i64 (cw 9), .int .i64 (cw 10), .int .i64 (cw 11), .int .i64 (cw 12), .int .i64 (cw 13), .int .i64 (cw 14), .int .i64 (cw 15), .int .i64 (cw 16), .int .i64 (cw 17), .int .i64 (cw 18), .int .i64 (cw 19), .int .i64 (cw 20), .int .i64 (cw 21), .int .i64 (cw 22), .int .i64 (cw 23)] : Array Value).size by kernel_rfl)
        have HTH := Lib.hid (show (w1.alloc (.cells #[.int .i64 0, .int .i64 0, .int .i64 0, .int .i64 0, .int .i64 0, .int .i64 0, .int .i64 0, .int .i64 0, .int .i64 0, .int .i64 0, .int .i64 0, .int .i64 0, .int .i64 0, .int .i64 0, .int .i64 0, .int .i64 0, .int .i64 0, .int .i64 0, .int .i64 0, .int .i64 0, .int .i64 0, .int .i64 0, .int .i64 0, .int .i64 0] 145)).there w1.heap.size 0 (#[.int .i64 (cw 0), .int .i64 (cw 1), .int .i64 (cw 2), .int .i64 (cw 3), .int .i64 (cw 4), .int .i64 (cw 5), .int .i64 (cw 6), .int .i64 (cw 7), .int .i64 (cw 8), .int .i64 (cw 9), .int .i64 (cw 10), .int .i64 (cw 11), .int .i64 (cw 12), .int .i64 (cw 13), .int .i64 (cw 14), .int .i64 (cw 15), .int .i64 (cw 16), .int .i64 (cw 17), .int .i64 (cw 18), .int .i64 (cw 19), .int .i64 (cw 20), .int .i64 (cw 21), .int .i64 (cw 22), .int .i64 (cw 23)] : Array Value).size from there_new w1 #[.int .i64 0, .int .i64 0, .int .i64 0, .int .i64 0, .int .i64 0, .int .i64 0, .int .i64 0, .int .i64 0, .int .i64 0, .int .i64 0, .int .i64 0, .int .i64 0, .int .i64 0, .int .i64 0, .int .i64 0, .int .i64 0, .int .i64 0, .int .i64 0, .int .i64 0, .int .i64 0, .int .i64 0, .int .i64 0, .int .i64 0, .int .i64 0] 145)
        go_upto_region 10 with fail
        refine wp_region_lit ?_
        refine wpList_load_mid rfl 109 (.tmp 3) rfl (w.heap.size + 1) 0 rfl [.int .i64 (cw 0), .int .i64 (cw 1), .int .i64 (cw 2), .int .i64 (cw 3), .int .i64 (cw 4), .int .i64 (cw 5), .int .i64 (cw 6), .int .i64 (cw 7), .int .i64 (cw 8), .int .i64 (cw 9), .int .i64 (cw 10), .int .i64 (cw 11), .int .i64 (cw 12), .int .i64 (cw 13), .int .i64 (cw 14), .int .i64 (cw 15), .int .i64 (cw 16), .int .i64 (cw 17), .int .i64 (cw 18), .int .i64 (cw 19), .int .i64 (cw 20), .int .i64 (cw 21), .int .i64 (cw 22), .int .i64 (cw 23)] _ HRA.out under_w rfl HI.out ?_
        simp only [Act.put, List.setIfInBounds_toArray, List.set_cons_zero, List.set_cons_succ]
        refine wpList_val (v := .agg #[.int .i64 (cw 0), .int .i64 (cw 1), .int .i64 (cw 2), .int .i64 (cw 3), .int .i64 (cw 4), .int .i64 (cw 5), .int .i64 (cw 6), .int .i64 (cw 7), .int .i64 (cw 8), .int .i64 (cw 9), .int .i64 (cw 10), .int .i64 (cw 11), .int .i64 (cw 12), .int .i64 (cw 13), .int .i64 (cw 14), .int .i64 (cw 15), .int .i64 (cw 16), .int .i64 (cw 17), .int .i64 (cw 18), .int .i64 (cw 19), .int .i64 (cw 20), .int .i64 (cw 21), .int .i64 (cw 22), .int .i64 (cw 23)]) (w' := w1) rfl ?vb ?_
        case vb =>
          go_simp
          try rfl
        simp only [Act.put, List.setIfInBounds_toArray, List.set_cons_zero, List.set_cons_succ]
        refine wpList_val (v := .pointer (some ⟨w1.heap.size, 0, none⟩)) (w' := w1.alloc (.cells #[.int .i64 0, .int .i64 0, .int .i64 0, .int .i64 0, .int .i64 0, .int .i64 0, .int .i64 0, .int .i64 0, .int .i64 0, .int .i64 0, .int .i64 0, .int .i64 0, .int .i64 0, .int .i64 0, .int .i64 0, .int .i64 0, .int .i64 0, .int .i64 0, .int .i64 0, .int .i64 0, .int .i64 0, .int .i64 0, .int .i64 0, .int .i64 0] 145)) rfl ?va ?_
        case va =>
          go_simp
          try rfl
        simp only [Act.put, List.setIfInBounds_toArray, List.set_cons_zero, List.set_cons_succ]
        refine wpList_store_mid rfl 145 (.tmp 9) (.tmp 25) rfl w1.heap.size 0 #[.int .i64 (cw 0), .int .i64 (cw 1), .int .i64 (cw 2), .int .i64 (cw 3), .int .i64 (cw 4), .int .i64 (cw 5), .int .i64 (cw 6), .int .i64 (cw 7), .int .i64 (cw 8), .int .i64 (cw 9), .int .i64 (cw 10), .int .i64 (cw 11), .int .i64 (cw 12), .int .i64 (cw 13), .int .i64 (cw 14), .int .i64 (cw 15), .int .i64 (cw 16), .int .i64 (cw 17), .int .i64 (cw 18), .int .i64 (cw 19), .int .i64 (cw 20), .int .i64 (cw 21), .int .i64 (cw 22), .int .i64 (cw 23)] rfl rfl HTH.out HIQ.out (by simp [Value.oneCell']) ?_
        have fp : Fr nob w1 ((w1.alloc (.cells #[.int .i64 0, .int .i64 0, .int .i64 0, .int .i64 0, .int .i64 0, .int .i64 0, .int .i64 0, .int .i64 0, .int .i64 0, .int .i64 0, .int .i64 0, .int .i64 0, .int .i64 0, .int .i64 0, .int .i64 0, .int .i64 0, .int .i64 0, .int .i64 0, .int .i64 0, .int .i64 0, .int .i64 0, .int .i64 0, .int .i64 0, .int .i64 0] 145)).setCells w1.heap.size 0 [.int .i64 (cw 0), .int .i64 (cw 1), .int .i64 (cw 2), .int .i64 (cw 3), .int .i64 (cw 4), .int .i64 (cw 5), .int .i64 (cw 6), .int .i64 (cw 7), .int .i64 (cw 8), .int .i64 (cw 9), .int .i64 (cw 10), .int .i64 (cw 11), .int .i64 (cw 12), .int .i64 (cw 13), .int .i64 (cw 14), .int .i64 (cw 15), .int .i64 (cw 16), .int .i64 (cw 17), .int .i64 (cw 18), .int .i64 (cw 19), .int .i64 (cw 20), .int .i64 (cw 21), .int .i64 (cw 22), .int .i64 (cw 23)]) := ((Fr.refl nob w1).alloc _).trans (fr_setCells w1.heap.size [.int .i64 (cw 0), .int .i64 (cw 1), .int .i64 (cw 2), .int .i64 (cw 3), .int .i64 (cw 4), .int .i64 (cw 5), .int .i64 (cw 6), .int .i64 (cw 7), .int .i64 (cw 8), .int .i64 (cw 9), .int .i64 (cw 10), .int .i64 (cw 11), .int .i64 (cw 12), .int .i64 (cw 13), .int .i64 (cw 14), .int .i64 (cw 15), .int .i64 (cw 16), .int .i64 (cw 17), .int .i64 (cw 18), .int .i64 (cw 19), .int .i64 (cw 20), .int .i64 (cw 21), .int .i64 (cw 22), .int .i64 (cw 23)] 0 _) (fun j hj e => by exfalso; omega)
        have E0 := HD0.out.kept fp (fun h => h)
        have frp := HFR.out.trans fp (fun _ _ h => h)
        have DP := Lib.hid (World.rangeAt_setCells_same (w1.alloc (.cells #[.int .i64 0, .int .i64 0, .int .i64 0, .int .i64 0, .int .i64 0, .int .i64 0, .int .i64 0, .int .i64 0, .int .i64 0, .int .i64 0, .int .i64 0, .int .i64 0, .int .i64 0, .int .i64 0, .int .i64 0, .int .i64 0, .int .i64 0, .int .i64 0, .int .i64 0, .int .i64 0, .int .i64 0, .int .i64 0, .int .i64 0, .int .i64 0] 145)) w1.heap.size 0 [.int .i64 (cw 0), .int .i64 (cw 1), .int .i64 (cw 2), .int .i64 (cw 3), .int .i64 (cw 4), .int .i64 (cw 5), .int .i64 (cw 6), .int .i64 (cw 7), .int .i64 (cw 8), .int .i64 (cw 9), .int .i64 (cw 10), .int .i64 (cw 11), .int .i64 (cw 12), .int .i64 (cw 13), .int .i64 (cw 14), .int .i64 (cw 15), .int .i64 (cw 16), .int .i64 (cw 17), .int .i64 (cw 18), .int .i64 (cw 19), .int .i64 (cw 20), .int .i64 (cw 21), .int .i64 (cw 22), .int .i64 (cw 23)] HTH.out)
        simp only [Act.put]
        generalize (w1.alloc (.cells #[.int .i64 0, .int .i64 0, .int .i64 0, .int .i64 0, .int .i64 0, .int .i64 0, .int .i64 0, .int .i64 0, .int .i64 0, .int .i64 0, .int .i64 0, .int .i64 0, .int .i64 0, .int .i64 0, .int .i64 0, .int .i64 0, .int .i64 0, .int .i64 0, .int .i64 0, .int .i64 0, .int .i64 0, .int .i64 0, .int .i64 0, .int .i64 0] 145)).setCells w1.heap.size 0 [.int .i64 (cw 0), .int .i64 (cw 1), .int .i64 (cw 2), .int .i64 (cw 3), .int .i64 (cw 4), .int .i64 (cw 5), .int .i64 (cw 6), .int .i64 (cw 7), .int .i64 (cw 8), .int .i64 (cw 9), .int .i64 (cw 10), .int .i64 (cw 11), .int .i64 (cw 12), .int .i64 (cw 13), .int .i64 (cw 14), .int .i64 (cw 15), .int .i64 (cw 16), .int .i64 (cw 17), .int .i64 (cw 18), .int .i64 (cw 19), .int .i64 (cw 20), .int .i64 (cw 21), .int .i64 (cw 22), .int .i64 (cw 23)] = W2 at *
        go_upto_region 11 with fail
        have HRB := Lib.hid DP.out
        have a0 := E0.c0
        have a1 := E0.c1
        have hmf : ∀ (fn : Fn) (first cap : Array Value) (w : World), (Instr.makeFunc fn first cap).run Tryd.prog w = .ok (.func fn first cap) w := fun _ _ _ _ => rfl
        clear DP fp E0 HD0 HFR HRA HBX HCW hus HTH HIQ
        go_wp2_with (refine wpList_load_mid rfl 145 (.tmp 9) rfl w1.heap.size 0 rfl [.int .i64 (cw 0), .int .i64 (cw 1), .int .i64 (cw 2), .int .i64 (cw 3), .int .i64 (cw 4), .int .i64 (cw 5), .int .i64 (cw 6), .int .i64 (cw 7), .int .i64 (cw 8), .int .i64 (cw 9), .int .i64 (cw 10), .int .i64 (cw 11), .int .i64 (cw 12), .int .i64 (cw 13), .int .i64 (cw 14), .int .i64 (cw 15), .int .i64 (cw 16), .int .i64 (cw 17), .int .i64 (cw 18), .int .i64 (cw 19), .int .i64 (cw 20), .int .i64 (cw 21), .int .i64 (cw 22), .int .i64 (cw 23)] _ HRB.out Tryd.underlying145 rfl HIP.out ?_)
        refine (hF _).mono ?_
        rintro e w3 ⟨rfl, f3⟩
        have HF3 := Lib.hid (frp.trans f3 (fun _ _ h => h))
        have H0 := Lib.hid (show bstN cw A = (ofr cw (usN cw 24) A).2 from HN.out)
        clear hF a0 a1 f3 frp
        have hfd := run_offer_c (.int .i64 (ofr cw (usN cw 24) A).1) (.int .u32 ((ofr cw (usN cw 24) A).2 : Int))
        go_wp2_with fail
        refine bodyPost_ret (v := .tuple #[.int .u32 ((ofr cw (usN cw 24) A).2 : Int), .bool true]) (by simp [results, Tryd.results71, go_sem]) rfl ⟨by rw [H0.out, HD.out]; rfl, HF3.out.to_below (Nat.le_refl _) (fun _ h => h.elim)⟩
end Go.Proofs.YtiainlccodnlmaaDoor
