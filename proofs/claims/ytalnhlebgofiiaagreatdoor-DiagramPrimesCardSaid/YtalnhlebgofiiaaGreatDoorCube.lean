import Derived.Test.YtalnhlebgofiiaaGreatDoorHas
namespace Go.Proofs.YtalnhlebgofiiaaGreatDoor
open Go.RowKit
open Bd

def cubeB (on off : Nat) : B := if on &&& off &&& 16777215 = 0 then cubeP on off 24 else .F
theorem ok_cubeB (on off : Nat) : (cubeB on off).ok 0 := by
  unfold cubeB; split
  · exact ok_cubeP0 on off (Nat.le_refl _)
  · trivial

theorem and_u32 (a b : Nat) (ha : a < 2 ^ 32) (hb : b < 2 ^ 32) : bits BinOp.and IntKind.u32 (a : Int) (b : Int) = ((a &&& b : Nat) : Int) := (bits_nat .u32 32 (by decide) wraps_u32 a b ha hb).1

/-- the loop of Cube: behind k features -/
structure CubeSt (on off : Nat) (w0 : World) (wb mb : Nat) (v : Value) (k : Nat) (wr : World) : Prop where
  work : Work wr wb mb v (li (cubeP on off k))
  fr : Fr (fun j => w0.heap.size < j) w0 wr
  own : ∀ j, foot wb mb v j → w0.heap.size < j
  r0 : wr.cell? ⟨w0.heap.size, 0, none⟩ = some (.int .u32 0)
  r1 : wr.cell? ⟨w0.heap.size, 1, none⟩ = some (.string ⟨#[]⟩)
  f0 : wr.frozen? ⟨w0.heap.size, 0, none⟩ = false
  f1 : wr.frozen? ⟨w0.heap.size, 1, none⟩ = false

theorem CubeSt.next {on off : Nat} {w0 wr w' : World} {wb mb k i : Nat} {v v' : Value} {lo hi : B} (h : CubeSt on off w0 wb mb v k wr) (hW : Work w' wb mb v' (vis (Bd.mk i lo hi) (li (cubeP on off k)))) (fr : Fr (foot wb mb v) wr w') (src : ∀ g, v'.ownBlock = some g → v.ownBlock = some g ∨ wr.heap.size ≤ g)
    (he : vis (Bd.mk i lo hi) (li (cubeP on off k)) = li (cubeP on off (k + 1))) : CubeSt on off w0 wb mb v' (k + 1) w' := by
  obtain ⟨h1, h2, h3, h4, h5, h6, h7⟩ := h
  have n0 : ¬ foot wb mb v w0.heap.size := fun h => by have := h3 _ h; omega
  have l0 := lt_of_cell h4
  simp only at l0
  refine ⟨he ▸ hW, h2.trans fr (fun j hj h => ?_), ?_, fr.cell h4 n0, fr.cell h5 n0, (fr.frozen (p := ⟨w0.heap.size, 0, none⟩) l0 n0).trans h6, (fr.frozen (p := ⟨w0.heap.size, 1, none⟩) l0 n0).trans h7⟩
  · have := h3 j h; omega
  · rintro j (rfl | rfl | hj)
    · exact h3 _ (.inl rfl)
    · exact h3 _ (.inr (.inl rfl))
    · rcases src j hj with h | h
      · exact h3 _ (.inr (.inr h))
      · omega

theorem CubeSt.same {on off : Nat} {w0 wr : World} {wb mb k : Nat} {v : Value} (h : CubeSt on off w0 wb mb v k wr) (he : cubeP on off (k + 1) = cubeP on off k) : CubeSt on off w0 wb mb v (k + 1) wr := by
  obtain ⟨h1, h2, h3, h4, h5, h6, h7⟩ := h
  exact ⟨he ▸ h1, h2, h3, h4, h5, h6, h7⟩

set_option maxRecDepth 100000 in
set_option maxHeartbeats 1000000 in
theorem Cube_any (on off : Nat) (hon : on < 2 ^ 32) (hoff : off < 2 ^ 32) (w : World) : Calls Tryz.prog 24 #[.int .u32 (on : Int), .int .u32 (off : Int)] w fun e w' => e = .returned (dval (cubeB on off)) ∧ Below w.heap.size w w' := by
  have r0 : (w.alloc (.cells #[.int .u32 0, .string ⟨#[]⟩] 32)).cell? ⟨w.heap.size, 0, none⟩ = some (.int .u32 0) := World.cell?_alloc_at _ _ _ _ (by simp)
  have r1 : (w.alloc (.cells #[.int .u32 0, .string ⟨#[]⟩] 32)).cell? ⟨w.heap.size, 1, none⟩ = some (.string ⟨#[]⟩) := World.cell?_alloc_at _ _ _ _ (by simp)
  have f0 : (w.alloc (.cells #[.int .u32 0, .string ⟨#[]⟩] 32)).frozen? ⟨w.heap.size, 0, none⟩ = false := World.frozen?_alloc_at _ _ _ _ (by simp)
  have f1 : (w.alloc (.cells #[.int .u32 0, .string ⟨#[]⟩] 32)).frozen? ⟨w.heap.size, 1, none⟩ = false := World.frozen?_alloc_at _ _ _ _ (by simp)
  have fr : Fr nob w (w.alloc (.cells #[.int .u32 0, .string ⟨#[]⟩] 32)) := (Fr.refl nob w).alloc _
  have zW : (w.alloc (.cells #[.int .u32 0, .string ⟨#[]⟩] 32)).heap.size = w.heap.size + 1 := World.size_alloc _ _
  have ha : bits BinOp.and IntKind.u32 (bits BinOp.and IntKind.u32 (on : Int) (off : Int)) 16777215 = ((on &&& off &&& 16777215 : Nat) : Int) := by
    rw [and_u32 on off hon hoff]
    exact and_u32 (on &&& off) 16777215 (Nat.lt_of_le_of_lt Nat.and_le_left hon) (by decide)
  have HA := Lib.hid ha
  clear ha
  by_cases hc : on &&& off &&& 16777215 = 0
  · have hb : (bits BinOp.and IntKind.u32 (bits BinOp.and IntKind.u32 (on : Int) (off : Int)) 16777215 != 0) = false := by rw [HA.out, hc]; rfl
    have e : cubeB on off = cubeP on off 24 := if_pos hc
    rw [e]
    clear HA hc e
    go_enter Tryz.func24, Tryz.ntmps24
    go_wp2_with fail
    generalize w.alloc (.cells #[.int .u32 0, .string ⟨#[]⟩] 32) = W at *
    refine (newWork_any _).mono ?_
    rintro e w1 ⟨wb, mb, rfl, hW1, fr1, lwb, lmb⟩
    have z1 := fr1.size
    have S0 : CubeSt on off w wb mb (.slice none 0 0) 0 w1 := by
      refine ⟨hW1, (fr.trans fr1 (fun _ _ h => h)).mono (fun _ _ h => h.elim), ?_, fr1.cell r0 (fun h => h), fr1.cell r1 (fun h => h), (fr1.frozen (p := ⟨w.heap.size, 0, none⟩) (by simp; omega) (fun h => h)).trans f0, (fr1.frozen (p := ⟨w.heap.size, 1, none⟩) (by simp; omega) (fun h => h)).trans f1⟩
      rintro j (rfl | rfl | hj)
      · omega
      · omega
      · cases hj
    clear r0 r1 f0 f1 hW1 fr1 lwb lmb fr
    go_wp2_with fail
    go_loopw [6, 16] (fun pv kv wr => ∃ (k : Nat) (v : Value), k ≤ 24 ∧ kv = .int .i64 (k : Int) ∧ pv = .int .u32 (place (li (cubeP on off k)) (cubeP on off k) : Int) ∧ CubeSt on off w wb mb v k wr) (fun _ kv _ => 24 - (intOf kv).toNat)
    case atStart => exact ⟨0, _, Nat.zero_le _, rfl, rfl, S0⟩
    case round =>
      clear S0
      obtain ⟨k, v, hk, rfl, rfl, S⟩ := hrel
      by_cases hlt : k < 24
      · have e23 : ((23 : Int) - (k : Int)) = ((23 - k : Nat) : Int) := by omega
        have b1 := bit_u32 on (23 - k) hon
        have b2 := bit_u32 off (23 - k) hoff
        go_wp2_with fail
        · have hbit : on.testBit (23 - k) = true := by assumption
          have ek : cubeP on off (k + 1) = Bd.mk (23 - k) .F (cubeP on off k) := by rw [cubeP, if_pos hbit]
          have el := li_mk_hi (23 - k) (cubeP on off k)
          refine (node_any' wb mb (23 - k) v _ .F (cubeP on off k) wr S.work (by omega) (inn_F _) (inn_li _) (by rw [el, ← ek]; exact small_li (ok_cubeP0 on off (by omega))) 0 _ rfl rfl).mono ?_
          rintro e w2 ⟨v', rfl, hW2, fr2, src2⟩
          have S2 := S.next hW2 fr2 src2 (by rw [el, ek])
          rw [el, ← ek]
          clear S hW2 fr2 src2 b1 b2 e23
          go_wp2_with fail
          go_roundw
          case rel => exact ⟨k + 1, v', by omega, by go_num, by rw [ek], S2⟩
          case measure => simp [intOf]; omega
        · have hbit0 : on.testBit (23 - k) = false := by assumption
          have hbit : off.testBit (23 - k) = true := by assumption
          have ek : cubeP on off (k + 1) = Bd.mk (23 - k) (cubeP on off k) .F := by rw [cubeP, if_neg (by simp [hbit0]), if_pos hbit]
          have el := li_mk_lo (23 - k) (cubeP on off k)
          refine (node_any' wb mb (23 - k) v _ (cubeP on off k) .F wr S.work (by omega) (inn_li _) (inn_F _) (by rw [el, ← ek]; exact small_li (ok_cubeP0 on off (by omega))) _ 0 rfl rfl).mono ?_
          rintro e w2 ⟨v', rfl, hW2, fr2, src2⟩
          have S2 := S.next hW2 fr2 src2 (by rw [el, ek])
          rw [el, ← ek]
          clear S hW2 fr2 src2 b1 b2 e23
          go_wp2_with fail
          go_roundw
          case rel => exact ⟨k + 1, v', by omega, by go_num, by rw [ek], S2⟩
          case measure => simp [intOf]; omega
        · have hbit0 : on.testBit (23 - k) = false := by assumption
          have hbit : off.testBit (23 - k) = false := by assumption
          have ek : cubeP on off (k + 1) = cubeP on off k := by rw [cubeP, if_neg (by simp [hbit0]), if_neg (by simp [hbit])]
          refine ⟨⟨k + 1, v, by omega, by go_num, by rw [ek], S.same ek⟩, by simp [intOf]; omega⟩
      · obtain rfl : k = 24 := by omega
        go_wp2_with fail
        refine (set_any wb mb v _ (place (li (cubeP on off 24)) (cubeP on off 24)) _ S.work).mono ?_
        rintro e w3 ⟨rfl, hb3⟩
        have fr3 : Fr nob wr w3 := (Fr.refl nob wr).below hb3
        have l0 := lt_of_cell S.r0
        have r03 := fr3.cell S.r0 (fun h => h)
        have r13 := fr3.cell S.r1 (fun h => h)
        have f03 := (fr3.frozen (p := ⟨w.heap.size, 0, none⟩) l0 (fun h => h)).trans S.f0
        have f13 := (fr3.frozen (p := ⟨w.heap.size, 1, none⟩) l0 (fun h => h)).trans S.f1
        have frA := S.fr.trans fr3 (fun _ _ h => h.elim)
        clear S
        go_wp2_with fail
        refine bodyPost_ret (v := dval (cubeP on off 24)) (by simp [results, Tryz.results24, go_sem, r03, r13]) rfl ⟨rfl, ?_⟩
        exact ((((frA.mono (T := fun j => w.heap.size ≤ j) (fun _ _ h => Nat.le_of_lt h))).setCell (p := ⟨w.heap.size, 0, none⟩) (fun _ => Nat.le_refl _) _).setCell (p := ⟨w.heap.size, 1, none⟩) (fun _ => Nat.le_refl _) _).to_below (Nat.le_refl _) (fun _ h => h)
  · have hb : (bits BinOp.and IntKind.u32 (bits BinOp.and IntKind.u32 (on : Int) (off : Int)) 16777215 != 0) = true := by
      rw [HA.out]; simp; omega
    have e : cubeB on off = .F := if_neg hc
    rw [e]
    clear HA hc e
    go_enter Tryz.func24, Tryz.ntmps24
    go_wp2_with fail
    generalize w.alloc (.cells #[.int .u32 0, .string ⟨#[]⟩] 32) = W at *
    refine (False_any _).mono ?_
    rintro e w1 ⟨rfl, hb3⟩
    have fr3 : Fr nob W w1 := (Fr.refl nob W).below hb3
    have r03 := fr3.cell r0 (fun h => h)
    have r13 := fr3.cell r1 (fun h => h)
    have f03 := (fr3.frozen (p := ⟨w.heap.size, 0, none⟩) (lt_of_cell r0) (fun h => h)).trans f0
    have f13 := (fr3.frozen (p := ⟨w.heap.size, 1, none⟩) (lt_of_cell r1) (fun h => h)).trans f1
    have frA := fr.trans fr3 (fun _ _ h => h.elim)
    clear r0 r1 f0 f1
    go_wp2_with fail
    refine bodyPost_ret (v := dval .F) (by simp [results, Tryz.results24, go_sem, r03, r13]) rfl ⟨rfl, ?_⟩
    exact ((frA.set1 (Nat.le_refl _) _).set1 (Nat.le_refl _) _).to_below (Nat.le_refl _) (fun _ h => h.elim)
end Go.Proofs.YtalnhlebgofiiaaGreatDoor
namespace Go.Proofs.YtalnhlebgofiiaaGreatDoor
open Go.RowKit
open Bd

theorem ev_cubeP24 (on off : Nat) (c : Cfg) : (cubeP on off 24).ev c = true ↔ ∀ i, i < 24 → (on.testBit i = true → c i = true) ∧ (on.testBit i = false → off.testBit i = true → c i = false) := by
  rw [ev_cubeP, cubeEv, List.all_eq_true]
  constructor
  · intro h i hi
    have := h (23 - i) (List.mem_range.2 (by omega))
    rw [show 23 - (23 - i) = i by omega] at this
    refine ⟨fun h1 => by simpa [h1] using this, fun h1 h2 => by simpa [h1, h2] using this⟩
  · intro h j hj
    have := h (23 - j) (by omega)
    cases h1 : on.testBit (23 - j) with
    | true => simp; exact this.1 h1
    | false =>
      cases h2 : off.testBit (23 - j) with
      | true => simp; exact this.2 h1 h2
      | false => simp

set_option maxRecDepth 100000 in
set_option maxHeartbeats 1000000 in
theorem Var_yes (i : Nat) (hi : i < 24) (w : World) : Calls Tryz.prog 29 #[.int .i64 (i : Int)] w fun e w' => e = .returned (.tuple #[dval (cubeB (2 ^ i) 0), .int .i64 0]) ∧ Below w.heap.size w w' := by
  have r0 : (w.alloc (.cells #[.int .u32 0, .string ⟨#[]⟩] 32)).cell? ⟨w.heap.size, 0, none⟩ = some (.int .u32 0) := World.cell?_alloc_at _ _ _ _ (by simp)
  have r1 : (w.alloc (.cells #[.int .u32 0, .string ⟨#[]⟩] 32)).cell? ⟨w.heap.size, 1, none⟩ = some (.string ⟨#[]⟩) := World.cell?_alloc_at _ _ _ _ (by simp)
  have f0 : (w.alloc (.cells #[.int .u32 0, .string ⟨#[]⟩] 32)).frozen? ⟨w.heap.size, 0, none⟩ = false := World.frozen?_alloc_at _ _ _ _ (by simp)
  have f1 : (w.alloc (.cells #[.int .u32 0, .string ⟨#[]⟩] 32)).frozen? ⟨w.heap.size, 1, none⟩ = false := World.frozen?_alloc_at _ _ _ _ (by simp)
  have fr : Fr nob w (w.alloc (.cells #[.int .u32 0, .string ⟨#[]⟩] 32)) := (Fr.refl nob w).alloc _
  have hi' : (i : Int) < 24 := by omega
  have h2 : 2 ^ i < 2 ^ 24 := Nat.pow_lt_pow_right (by omega) hi
  have h3 : 2 ^ i < 2 ^ 32 := Nat.lt_of_lt_of_le h2 (by decide)
  go_enter Tryz.func29, Tryz.ntmps29
  go_wp2_with fail
  generalize w.alloc (.cells #[.int .u32 0, .string ⟨#[]⟩] 32) = W at *
  have e2 : ((2 : Int) ^ i % 4294967296) = ((2 ^ i : Nat) : Int) := by
    rw [show (2 : Int) ^ i = ((2 ^ i : Nat) : Int) by simp]
    generalize 2 ^ i = m at *
    omega
  rw [e2]
  refine (Cube_any (2 ^ i) 0 h3 (by decide) _).mono ?_
  rintro e w1 ⟨rfl, hb3⟩
  have fr3 : Fr nob W w1 := (Fr.refl nob W).below hb3
  have r03 := fr3.cell r0 (fun h => h)
  have r13 := fr3.cell r1 (fun h => h)
  have f03 := (fr3.frozen (p := ⟨w.heap.size, 0, none⟩) (lt_of_cell r0) (fun h => h)).trans f0
  have f13 := (fr3.frozen (p := ⟨w.heap.size, 1, none⟩) (lt_of_cell r1) (fun h => h)).trans f1
  have frA := fr.trans fr3 (fun _ _ h => h.elim)
  clear r0 r1 f0 f1 e2 h2 h3
  go_wp2_with fail
  refine bodyPost_ret (v := .tuple #[dval (cubeB (2 ^ i) 0), .int .i64 0]) (by simp [results, Tryz.results29, go_sem, r03, r13]) rfl ⟨rfl, ?_⟩
  exact ((frA.set1 (Nat.le_refl _) _).set1 (Nat.le_refl _) _).to_below (Nat.le_refl _) (fun _ h => h.elim)

set_option maxRecDepth 100000 in
set_option maxHeartbeats 1000000 in
theorem Var_no (i : Int) (hi : i < 0 ∨ 24 ≤ i) (w : World) : Calls Tryz.prog 29 #[.int .i64 i] w fun e w' => e = .returned (.tuple #[dval .F, .int .i64 3]) ∧ Below w.heap.size w w' := by
  have hb : (decide (i < 0) || decide (24 ≤ i)) = true := by simpa using hi
  rcases hi with h | h
  all_goals
    go_enter Tryz.func29, Tryz.ntmps29
    go_wp2
    refine bodyPost_ret (v := .tuple #[dval .F, .int .i64 3]) (by simp [results, Tryz.results29, go_sem, dval]; exact ⟨rfl, rfl⟩) rfl ⟨rfl, ?_⟩
    exact (Below.refl _ _).alloc (Nat.le_refl _) _
end Go.Proofs.YtalnhlebgofiiaaGreatDoor
