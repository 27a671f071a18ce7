import Derived.Test.YtaojojjdfdlgpaaGd
import Derived.Test.YtaojojjdfdlgpaaQf
import Derived.Laws.BitsLemmas
namespace Go.Proofs.Ytaojojjdfdlgpaa
open Go.RowKit Uq

/-! Solve -/
theorem belowR {w w' : World} {l : List (List Int)} {v : Value} (f : Fr nob w w') (h : RowsO w (fun b => b < w.heap.size) l v) : RowsO w' (fun b => b < w'.heap.size) l v :=
  h.kept f (fun _ hb _ => ⟨fun h => h, Nat.lt_of_lt_of_le hb f.size⟩)
theorem shl_m {i : Nat} (hi : i ≤ 24) : ((2 : Int) ^ i % 4294967296) = ((2 ^ i : Nat) : Int) := by
  have h2 : 2 ^ i ≤ 2 ^ 24 := Nat.pow_le_pow_right (by omega) hi
  rw [show (2 : Int) ^ i = ((2 ^ i : Nat) : Int) by simp]
  generalize 2 ^ i = m at *
  omega
theorem DedC.more {Z : Nat → Prop} {d : Nat} {C : List (List Int)} {w w1 : World} (h : DedC Z d C w) (f : Fr nob w w1) {T : Nat → Prop} (hT : ∀ k, T k → w.heap.size ≤ k ∧ k < w1.heap.size) : DedC (fun k => Z k ∨ T k) d C w1 := by
  obtain ⟨ids, s, sh, G, c, d1, dk, d2, d3, d4, d5⟩ := h
  exact ⟨ids, s, sh, G, c, d1, dk, d2, d3, d4, d5.more f hT⟩
/-- what Solve answers -/
def Ans (n : Int) (l : List (List Int)) (b : Bool) (m : Nat) (pv : Value) (w' : World) : Prop :=
  (chkP n l ≠ 0 → b = false ∧ m = 0 ∧ pv = .slice none 0 0) ∧
  (chkP n l = 0 → b = true → pv = .slice none 0 0 ∧ holdsP l m = true ∧ m < 2 ^ n.toNat ∧ ∀ m', holdsP l m' = true → m' < 2 ^ n.toNat → m ≤ m') ∧
  (chkP n l = 0 → b = false → m = 0 ∧ ∃ Q, Refut n.toNat l Q ∧ RowsO w' (fun b => b < w'.heap.size) (Q ++ [[]]) pv)
theorem cls_in {n : Nat} {l : List (List Int)} (h : chkP (n : Int) l = 0) : n ≤ 24 ∧ l.length ≤ 4096 ∧ ∀ c ∈ l, c.length ≤ 64 ∧ ∀ x ∈ c, Ltr x ∧ x.natAbs ≤ n := by
  unfold chkP at h
  split at h
  · cases h
  · rename_i h1
    split at h
    · cases h
    · rename_i h2
      have hb : clsB (n : Int) l = true := by
        cases hq : clsB (n : Int) l with
        | true => rfl
        | false => exact absurd (.inr hq) h2
      refine ⟨by omega, by omega, fun c hc => ?_⟩
      unfold clsB litsB litB at hb
      rw [List.all_eq_true] at hb
      have := hb c hc
      rw [Bool.and_eq_true, List.all_eq_true] at this
      refine ⟨by simpa using this.1, fun x hx => ?_⟩
      have h2 := this.2 x hx
      simp at h2
      unfold Ltr
      omega
set_option maxRecDepth 100000 in
set_option maxHeartbeats 4000000 in
theorem solve_err (l : List (List Int)) (n : Int) (v : Value) (w : World) (hwd : Wide l) (hv : RowsO w (fun b => b < w.heap.size) l v) (hk : chkP n l ≠ 0) :
    Calls Try.prog 41 #[.int .i64 n, v] w fun e w' => e = .returned (.tuple #[.agg #[.bool false, .int .u32 0, .slice none 0 0], .int .i64 (chkP n l)]) ∧ Fr nob w w' := by
  obtain ⟨a, cap, rfl⟩ := hv.form
  obtain ⟨K, hK⟩ : ∃ K, chkP n l = K := ⟨_, rfl⟩
  have A : Fr nob w (w.alloc (.cells #[.bool false, .int .u32 0, .slice none 0 0] 65)) := (Fr.refl nob w).alloc _
  have hC := chk_any l n _ _ _ hwd (belowR A hv)
  rw [hK] at hC hk ⊢
  have HBX := Lib.hid (Box3.new w (.bool false) (.int .u32 0) (.slice none 0 0) 65)
  have HA := Lib.hid A
  have q0 : (K != 0) = true := by simpa using hk
  clear hv hK A hk hwd
  go_enter Try.func41, Try.ntmps41
  go_wp2_with fail
  refine hC.mono ?_
  rintro e w' ⟨rfl, rfl⟩
  clear hC
  generalize w.alloc (.cells #[.bool false, .int .u32 0, .slice none 0 0] 65) = w1 at *
  have d0 := HBX.out.c0
  have d1 := HBX.out.c1
  have d2 := HBX.out.c2
  have df0 := HBX.out.fr 0
  have df1 := HBX.out.fr 1
  have df2 := HBX.out.fr 2
  go_wp2_with fail
  obtain ⟨X, FX⟩ := HBX.out.set (.bool false) (.int .u32 0) (.slice none 0 0)
  clear d0 d1 d2 df0 df1 df2
  generalize ((w1.setCell ⟨w.heap.size, 0, none⟩ (.bool false)).setCell ⟨w.heap.size, 1, none⟩ (.int .u32 0)).setCell ⟨w.heap.size, 2, none⟩ (.slice none 0 0) = w5 at *
  have x0 := X.c0
  have x1 := X.c1
  have x2 := X.c2
  refine bodyPost_ret (v := .tuple #[.agg #[.bool false, .int .u32 0, .slice none 0 0], .int .i64 K]) (by simp [results, Try.results41, go_sem, x0, x1, x2]) rfl ⟨rfl, ?_⟩
  exact HA.out.trans' FX (T := nob) (fun _ _ h => h) (fun k hk h => by have h1 : k = w.heap.size := h; omega)
theorem Box3.set1 {w : World} {g : Nat} {a b c : Value} (h : Box3 w g a b c) (y : Value) : Box3 (w.setCell ⟨g, 1, none⟩ y) g a y c := by
  refine ⟨?_, World.cell?_setCell_same' _ _ _ (by rw [h.c1]; rfl), ?_, fun o => (frozen_setCell _ _ _ _).trans (h.fr o)⟩
  · rw [World.cell?_setCell_other (h := by intro e; injection e with _ e2 _; exact absurd e2 (by decide))]; exact h.c0
  · rw [World.cell?_setCell_other (h := by intro e; injection e with _ e2 _; exact absurd e2 (by decide))]; exact h.c2
theorem wraps32 (n : Int) (h₀ : 0 ≤ n) (h₁ : n < 2 ^ 32) : IntKind.u32.wrap n = n := by rw [IntKind.wrap_u32]; omega
theorem or_u32 {a k : Nat} (hk : k < 24) (ha : a < 2 ^ 24) : bits BinOp.or IntKind.u32 (a : Int) ((2 ^ k : Nat) : Int) = ((a ||| 2 ^ k : Nat) : Int) := by
  have h2 : 2 ^ k < 2 ^ 24 := Nat.pow_lt_pow_right (by omega) hk
  exact (bits_nat .u32 32 (by decide) wraps32 a (2 ^ k) (by omega) (by omega)).2
set_option maxRecDepth 100000 in
set_option maxHeartbeats 4000000 in
theorem solve_ok (l : List (List Int)) (n : Nat) (v : Value) (w : World) (hwd : Wide l) (hv : RowsO w (fun b => b < w.heap.size) l v) (hk : chkP (n : Int) l = 0) (hn : n ≤ 12) :
    Calls Try.prog 41 #[.int .i64 (n : Int), v] w fun e w' => Fr nob w w' ∧ ∃ (b : Bool) (m : Nat) (pv : Value), e = .returned (.tuple #[.agg #[.bool b, .int .u32 (m : Int), pv], .int .i64 0]) ∧ Ans (n : Int) l b m pv w' := by
  obtain ⟨a, cap, rfl⟩ := hv.form
  obtain ⟨_, hl1, hl2⟩ := cls_in hk
  have A : Fr nob w (w.alloc (.cells #[.bool false, .int .u32 0, .slice none 0 0] 65)) := (Fr.refl nob w).alloc _
  have hC := chk_any l n _ _ _ hwd (belowR A hv)
  have hD := deduceC_dm l _ _ (belowR A hv) (fun c hc => ⟨by have := (hl2 c hc).1; omega, fun x hx => ((hl2 c hc).2 x hx).1⟩) (by omega)
  rw [hk] at hC
  have HBX := Lib.hid (Box3.new w (.bool false) (.int .u32 0) (.slice none 0 0) 65)
  have HA := Lib.hid A
  have HK := Lib.hid hk
  have HL1 := Lib.hid hl1
  have HL2 := Lib.hid hl2
  clear hv A hk hwd hl1 hl2
  go_enter Try.func41, Try.ntmps41
  go_wp2_with fail
  refine hC.mono ?_
  rintro e w' ⟨rfl, rfl⟩
  clear hC
  generalize w.alloc (.cells #[.bool false, .int .u32 0, .slice none 0 0] 65) = w1 at *
  go_wp2_with fail
  refine hD.mono ?_
  rintro e w2 ⟨rfl, hR, F2⟩
  have HF2 := Lib.hid (HA.out.trans F2 (fun _ _ h => h))
  have HB2 := Lib.hid (HBX.out.kept F2 (fun h => h))
  have hlt0 : w.heap.size < w1.heap.size := HBX.out.lt
  have hlt : w1.heap.size ≤ w2.heap.size := F2.size
  have hb := heap_alloc_new w2 (.cells #[.pointer (some ⟨w1.heap.size, 0, none⟩), .slice none 0 0] 122)
  have A3 : Fr nob w2 (w2.alloc (.cells #[.pointer (some ⟨w1.heap.size, 0, none⟩), .slice none 0 0] 122)) := (Fr.refl nob w2).alloc _
  have hDM := hR.more A3 (T := fun k => k = w2.heap.size) (fun k hk => ⟨by rw [hk]; exact Nat.le_refl _, by rw [hk]; simp⟩)
  have hS := search_any w1.heap.size w1.heap.size w2.heap.size n l _ hn hDM (fun c hc x hx => ((HL2.out c hc).2 x hx).1) (by have := HL1.out; omega) (by rw [Lib.cell_of_heap hb]; rfl) (by rw [Lib.cell_of_heap hb]; rfl) (by unfold World.frozen?; rw [hb]; rfl) hlt
  have HB3 := Lib.hid (HB2.out.kept A3 (fun h => h))
  have HF3 := Lib.hid (HF2.out.trans A3 (fun _ _ h => h))
  have HLT := Lib.hid (And.intro hlt0 hlt)
  have hsz3 : (w2.alloc (.cells #[.pointer (some ⟨w1.heap.size, 0, none⟩), .slice none 0 0] 122)).heap.size = w2.heap.size + 1 := by simp
  have HSZ3 := Lib.hid hsz3
  clear hD hR F2 HBX hlt0 hlt hb A3 HB2 HF2 hDM hsz3
  go_wp2_with fail
  refine hS.mono ?_
  rintro e w3 ⟨hres, F3⟩
  have HX3 := Lib.hid (HB3.out.kept F3 (fun e => e HLT.out.1))
  have HF4 : Hid (Fr nob w w3) := Lib.hid (HF3.out.trans' F3 (T := nob) (fun _ _ h => h) (fun k hk h => by
    have h2 := HLT.out.1
    have h3 : ¬ k < w1.heap.size := h
    omega))
  have hsz4 := F3.size
  rw [HSZ3.out] at hsz4
  have HSZ4 := Lib.hid hsz4
  clear hS F3 HB3 HF3 hsz4
  rcases hres with ⟨rfl, hY⟩ | ⟨rfl, hN⟩
  · obtain ⟨ids, P, s, sh, G, c, pv, hSea, hSet, hall, hdm, hs0⟩ := hY
    have hleast := hSea.least (by omega) (fun c hc x hx => (HL2.out c hc).2 x hx) hSet hall
    obtain ⟨M, hM⟩ : ∃ M : Nat → Nat, (fun k => modP s.holds k) = M := ⟨_, rfl⟩
    have hM0 : M 0 = 0 := by rw [← hM]; rfl
    have hMlt : ∀ k, k ≤ 12 → M k < 2 ^ 24 := fun k hk => by rw [← hM]; exact Nat.lt_of_lt_of_le modP_lt (Nat.pow_le_pow_right (by omega) (by omega))
    have hMs : ∀ k, M (k + 1) = if s.holds ((k + 1 : Nat) : Int) = true then M k ||| 2 ^ k else M k := fun k => by rw [← hM]; rfl
    have hMn : holdsP l (M n) = true ∧ M n < 2 ^ n ∧ ∀ m', holdsP l m' = true → m' < 2 ^ n → M n ≤ m' := by rw [← hM]; exact ⟨hleast.1, modP_lt, hleast.2⟩
    have A4 : Fr nob w3 (w3.alloc (.cells #[.bool true, .int .u32 0, .slice none 0 0] 65)) := (Fr.refl nob w3).alloc _
    have HT4 := Lib.hid (Box3.new w3 (.bool true) (.int .u32 0) (.slice none 0 0) 65)
    have HX4 := Lib.hid (HX3.out.kept A4 (fun h => h))
    have HS4 := Lib.hid (A4.cell hs0 (fun h => h))
    have HD4 := Lib.hid (hdm.nob A4)
    have HF5 := Lib.hid (HF4.out.trans A4 (fun _ _ h => h))
    have hd3 : w1.heap.size < w3.heap.size := lt_of_cell (hdm.hp.mem 0 (by decide)).1
    have hsb : w2.heap.size < w3.heap.size := lt_of_cell hs0
    have HN := Lib.hid (And.intro HLT.out.1 (And.intro hd3 hsb))
    have HM0 := Lib.hid hM0
    have HML := Lib.hid hMlt
    have HMS := Lib.hid hMs
    have HMN := Lib.hid hMn
    have HHD := Lib.hid hdm.sm.hd
    clear hSea hSet hall hdm hs0 hleast hM hM0 hMlt hMs hMn A4 HX3 HF4 hd3 hsb
    go_wp2_with fail
    generalize w3.alloc (.cells #[.bool true, .int .u32 0, .slice none 0 0] 65) = w4 at *
    go_loopg [28] n (fun m iv wr => ∃ k : Nat, k + m = n ∧ iv = .int .i64 (k : Int) ∧ Box3 wr w3.heap.size (.bool true) (.int .u32 (M k : Int)) (.slice none 0 0) ∧ Box3 wr w.heap.size (.bool false) (.int .u32 0) (.slice none 0 0) ∧ wr.cell? ⟨w2.heap.size, 0, none⟩ = some (.pointer (some ⟨w1.heap.size, 0, none⟩)) ∧ Mem wr w1.heap.size c ∧ Fr nob w wr)
    case atStart => exact ⟨0, by omega, rfl, by rw [HM0.out]; exact HT4.out, HX4.out, HS4.out, HD4.out.hp.mem, HF5.out⟩
    case round =>
      clear HT4 HX4 HS4 HD4 HF5
      obtain ⟨k, hkm, rfl, hT, hX, hs, hMm, hF⟩ := hrel
      have q5 : (0 : Int) ≤ (k : Int) := Int.natCast_nonneg _
      cases gk with
      | zero =>
        obtain rfl : k = n := by omega
        have HX := Lib.hid hX
        have HFr := Lib.hid hF
        have t0 := hT.c0
        have t1 := hT.c1
        have t2 := hT.c2
        have d0 := hX.c0
        have d1 := hX.c1
        have d2 := hX.c2
        have df0 := hX.fr 0
        have df1 := hX.fr 1
        have df2 := hX.fr 2
        obtain ⟨mv, hmv⟩ : ∃ mv, M k = mv := ⟨_, rfl⟩
        rw [hmv] at t1
        have HMV := Lib.hid hmv
        clear hT hX hs hMm hF hmv
        go_wp2_with fail
        obtain ⟨X, FX⟩ := HX.out.set (.bool true) (.int .u32 (mv : Int)) (.slice none 0 0)
        clear d0 d1 d2 df0 df1 df2 t0 t1 t2
        generalize ((wr.setCell ⟨w.heap.size, 0, none⟩ (.bool true)).setCell ⟨w.heap.size, 1, none⟩ (.int .u32 (mv : Int))).setCell ⟨w.heap.size, 2, none⟩ (.slice none 0 0) = w5 at *
        have x0 := X.c0
        have x1 := X.c1
        have x2 := X.c2
        refine bodyPost_ret (v := .tuple #[.agg #[.bool true, .int .u32 (mv : Int), .slice none 0 0], .int .i64 0]) (by simp [results, Try.results41, go_sem, x0, x1, x2]) rfl ⟨?_, true, mv, .slice none 0 0, rfl, ?_⟩
        · exact HFr.out.trans' FX (T := nob) (fun _ _ h => h) (fun k hk h => by have h1 : k = w.heap.size := h; omega)
        · refine ⟨fun e => absurd HK.out e, fun _ _ => ⟨rfl, ?_⟩, (fun _ e => by cases e)⟩
          have := HMN.out
          rw [HMV.out] at this
          exact this
      | succ m =>
        have q6 : (k : Int) < (n : Int) := by omega
        have q7 : (k : Int) ≤ 12 := by omega
        obtain ⟨p, hp⟩ : ∃ p, 25 + k = p := ⟨_, rfl⟩
        have hpl : ∀ w, Calls Try.prog 57 #[.int .i64 ((k : Int) + 1)] w fun e w' => e = .returned (.int .i64 (p : Int)) ∧ w' = w := fun w => (place_any ((k : Int) + 1) (by omega) w).mono (fun _ _ h => ⟨by rw [h.1, show (k : Int) + 1 + 24 = (p : Int) by omega], h.2.symm⟩)
        have p1 : (0 : Int) ≤ (p : Int) := Int.natCast_nonneg _
        have p2 : (p : Int) < 49 := by omega
        have cp := (hMm p (by omega)).1
        rw [HHD.out p (by omega), show (p : Int) - 24 = ((k + 1 : Nat) : Int) by omega] at cp
        have hMsk := HMS.out k
        have D : ∀ nq, Fr nob wr (wr.drewN nq) := fun nq => (Fr.refl nob wr).drewN nq
        have HTd := Lib.hid (fun nq => hT.kept (D nq) (fun h => h))
        have HXd := Lib.hid (fun nq => hX.kept (D nq) (fun h => h))
        have HSd := Lib.hid (fun nq => (D nq).cell hs (fun h => h))
        have HMd := Lib.hid (fun nq => hMm.kept (D nq) (fun h => h))
        have HFd := Lib.hid (fun nq => hF.trans (D nq) (fun _ _ h => h))
        clear hT hX hMm hF D hp
        cases hh : s.holds ((k + 1 : Nat) : Int) with
        | false =>
          rw [hh] at cp hMsk
          simp only [Bool.false_eq_true, if_false] at hMsk
          have HMK := Lib.hid hMsk
          clear hh hMsk
          go_wp2_with fail
          go_quiet (first | (go_at_call 57; exact Calls.quiet_of_same (hpl _)))
          all_goals (
            have HT5 := Lib.hid (HTd.out nq)
            have HX5 := Lib.hid (HXd.out nq)
            have HS5 := Lib.hid (HSd.out nq)
            have HM5 := Lib.hid (HMd.out nq)
            have HF5 := Lib.hid (HFd.out nq)
            clear cp hs HTd HXd HSd HMd HFd
            generalize wr.drewN nq = w5 at *
            go_wp2_with fail
            go_roundg m
            case measure => omega
            case rel => exact ⟨k + 1, by omega, by go_num, by rw [HMK.out]; exact HT5.out, HX5.out, HS5.out, HM5.out, HF5.out⟩)
        | true =>
          rw [hh] at cp hMsk
          simp only [if_true] at hMsk
          have HMK := Lib.hid hMsk
          clear hh hMsk
          go_wp2_with fail
          go_quiet (first | (go_at_call 57; exact Calls.quiet_of_same (hpl _)))
          all_goals (
            have hT5 := HTd.out nq
            have HX5 := Lib.hid (HXd.out nq)
            have HS5 := Lib.hid (HSd.out nq)
            have HM5 := Lib.hid (HMd.out nq)
            have HF5 := Lib.hid (HFd.out nq)
            clear cp hs HTd HXd HSd HMd HFd
            generalize wr.drewN nq = w5 at *
            have D2 : Fr nob w5 w5.drew := (Fr.refl nob w5).drew
            have T2 := hT5.kept D2 (fun h => h)
            have t1 := T2.c1
            have tf := T2.fr 1
            have HT5 := Lib.hid hT5
            obtain ⟨mv, hmv⟩ : ∃ mv, M k = mv := ⟨_, rfl⟩
            rw [hmv] at t1
            have HMV := Lib.hid hmv
            clear D2 T2 hT5 hmv
            go_wp2_with fail
            go_region
            have hbits : bits BinOp.or IntKind.u32 (mv : Int) ((2 : Int) ^ k % 4294967296) = (M (k + 1) : Int) := by
              rw [shl_m (by omega), HMK.out, HMV.out, or_u32 (by omega) (by rw [← HMV.out]; exact HML.out k (by omega))]
            rw [hbits]
            obtain ⟨U, hU⟩ : ∃ U : Value, Value.int .u32 (M (k + 1) : Int) = U := ⟨_, rfl⟩
            rw [hU]
            have S6 : Fr (fun k => k = w3.heap.size) w5 (w5.setCell ⟨w3.heap.size, 1, none⟩ U).drew := (fr_store w5 w3.heap.size 1 U).drew
            have hT6 : Box3 (w5.setCell ⟨w3.heap.size, 1, none⟩ U).drew w3.heap.size (.bool true) (.int .u32 (M (k + 1) : Int)) (.slice none 0 0) := by
              rw [hU]
              exact (HT5.out.set1 U).kept ((Fr.refl nob _).drew) (fun h => h)
            have HT6 := Lib.hid hT6
            obtain ⟨n1, n2, n3⟩ := HN.out
            have HX6 := Lib.hid (HX5.out.kept S6 (show ¬ w.heap.size = w3.heap.size by omega))
            have HS6 := Lib.hid (S6.cell HS5.out (show ¬ w2.heap.size = w3.heap.size by omega))
            have HM6 := Lib.hid (HM5.out.kept S6 (show ¬ w1.heap.size = w3.heap.size by omega))
            have HF6 := Lib.hid (HF5.out.trans' S6 (T := nob) (fun _ _ h => h) (fun k hk h => by have h1 : k = w3.heap.size := h; omega))
            clear t1 tf S6 hT6 n1 n2 n3 HT5 HX5 HS5 HM5 HF5 hbits hU
            generalize (w5.setCell ⟨w3.heap.size, 1, none⟩ U).drew = w6 at *
            go_wp2_with fail
            go_roundg m
            case measure => omega
            case rel => exact ⟨k + 1, by omega, by go_num, HT6.out, HX6.out, HS6.out, HM6.out, HF6.out⟩)
  · obtain ⟨Q, pv, hRef, hp1, hrows⟩ := hN
    obtain ⟨pa, pc, rfl⟩ := hrows.form
    have d0 := HX3.out.c0
    have d1 := HX3.out.c1
    have d2 := HX3.out.c2
    have df0 := HX3.out.fr 0
    have df1 := HX3.out.fr 1
    have df2 := HX3.out.fr 2
    have HREF := Lib.hid hRef
    obtain ⟨qn, hqn⟩ : ∃ qn, (Q ++ [[]]).length = qn := ⟨_, rfl⟩
    rw [hqn] at hp1 hrows
    have HROWS := Lib.hid hrows
    clear hRef hrows hqn
    go_wp2_with fail
    obtain ⟨X, FX⟩ := HX3.out.set (.bool false) (.int .u32 0) (.slice pa qn pc)
    clear d0 d1 d2 df0 df1 df2
    generalize ((w3.setCell ⟨w.heap.size, 0, none⟩ (.bool false)).setCell ⟨w.heap.size, 1, none⟩ (.int .u32 0)).setCell ⟨w.heap.size, 2, none⟩ (.slice pa qn pc) = w5 at *
    have x0 := X.c0
    have x1 := X.c1
    have x2 := X.c2
    refine bodyPost_ret (v := .tuple #[.agg #[.bool false, .int .u32 0, .slice pa qn pc], .int .i64 0]) (by simp [results, Try.results41, go_sem, x0, x1, x2]) rfl ⟨?_, false, 0, .slice pa qn pc, rfl, ?_⟩
    · exact HF4.out.trans' FX (T := nob) (fun _ _ h => h) (fun k hk h => by have h1 : k = w.heap.size := h; omega)
    · refine ⟨fun e => absurd HK.out e, (fun _ e => by cases e), fun _ _ => ⟨rfl, Q, HREF.out, ?_⟩⟩
      exact HROWS.out.kept FX (fun b hb hlt => ⟨fun e => by have h1 : b = w.heap.size := e; have h2 := hb.1; have h3 := HLT.out.1; omega, Nat.lt_of_lt_of_le hlt FX.size⟩)
theorem solve_any (l : List (List Int)) (n : Int) (v : Value) (w : World) (hwd : Wide l) (hv : RowsO w (fun b => b < w.heap.size) l v) (hn : chkP n l = 0 → n ≤ 12) :
    Calls Try.prog 41 #[.int .i64 n, v] w fun e w' => Fr nob w w' ∧ ∃ (b : Bool) (m : Nat) (pv : Value), e = .returned (.tuple #[.agg #[.bool b, .int .u32 (m : Int), pv], .int .i64 (chkP n l)]) ∧ Ans n l b m pv w' := by
  by_cases hk : chkP n l = 0
  · have h0 : 0 ≤ n := by
      unfold chkP at hk
      split at hk
      · cases hk
      · omega
    obtain ⟨N, rfl⟩ : ∃ N : Nat, n = (N : Int) := ⟨n.toNat, by omega⟩
    rw [hk]
    exact solve_ok l N v w hwd hv hk (by have := hn hk; omega)
  · refine (solve_err l n v w hwd hv hk).mono ?_
    rintro e w' ⟨rfl, f⟩
    exact ⟨f, false, 0, .slice none 0 0, rfl, fun _ => ⟨rfl, rfl, rfl⟩, fun h => absurd h hk, fun h => absurd h hk⟩
end Go.Proofs.Ytaojojjdfdlgpaa
