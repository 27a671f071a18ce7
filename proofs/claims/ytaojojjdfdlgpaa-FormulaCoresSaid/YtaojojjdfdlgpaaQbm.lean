import Derived.Test.YtaojojjdfdlgpaaQbk
import Derived.Test.YtaojojjdfdlgpaaQy
import Derived.Test.YtaojojjdfdlgpaaQbi
namespace Go.Proofs.Ytaojojjdfdlgpaa
open Go.RowKit

/-! Solve -/
set_option maxRecDepth 100000 in
set_option maxHeartbeats 2000000 in
theorem solve_no (a : Option Addr) (m cp : Nat) (N : Int) (w : World) (R : Nat → World → Prop)
    (hck : ∀ w0, Fr nob w w0 → Calls Try.prog 53 #[.int .i64 N, .slice a m cp] w0 fun e w' => e = .returned (.int .i64 0) ∧ w0 = w')
    (hde : ∀ w0, Fr nob w w0 → Calls Try.prog 55 #[.slice a m cp] w0 fun e w' => e = .returned (.pointer (some ⟨w0.heap.size, 0, none⟩)) ∧ R w0.heap.size w' ∧ Fr nob w0 w')
    (hse : ∀ d w1 sb w0, R d w1 → Fr nob w1 w0 → w1.heap.size ≤ sb → w0.cell? ⟨sb, 0, none⟩ = some (.pointer (some ⟨d, 0, none⟩)) → w0.cell? ⟨sb, 1, none⟩ = some (.slice none 0 0) → w0.frozen? ⟨sb, 1, none⟩ = false → Calls Try.prog 74 #[.pointer (some ⟨sb, 0, none⟩), .int .i64 N] w0 fun e w' => e = .returned (.bool false) ∧ (∃ a cp, w'.cell? ⟨sb, 1, none⟩ = some (.slice a 1 cp)) ∧ Fr (fun k => k = sb) w0 w') :
    Calls Try.prog 41 #[.int .i64 N, .slice a m cp] w fun e w' => (∃ a' cp', e = .returned (.tuple #[.agg #[.bool false, .int .u32 0, .slice a' 1 cp'], .int .i64 0])) ∧ Fr nob w w' := by
  have HDE := Lib.hid hde
  have HSE := Lib.hid hse
  have A : Fr nob w (w.alloc (.cells #[.bool false, .int .u32 0, .slice none 0 0] 65)) := (Fr.refl nob w).alloc _
  have hC := hck _ A
  have HBX := Lib.hid (Box3.new w (.bool false) (.int .u32 0) (.slice none 0 0) 65)
  have HA := Lib.hid A
  clear hde hse hck A
  go_enter Try.func41, Try.ntmps41
  go_wp2_with fail
  refine hC.mono ?_
  rintro e w' ⟨rfl, rfl⟩
  clear hC
  generalize w.alloc (.cells #[.bool false, .int .u32 0, .slice none 0 0] 65) = w1 at *
  have hD := HDE.out w1 HA.out
  go_wp2_with fail
  refine hD.mono ?_
  rintro e w2 ⟨rfl, hR, F2⟩
  have HR := Lib.hid hR
  have HF2 := Lib.hid (HA.out.trans F2 (fun _ _ h => h))
  have HB2 := Lib.hid (HBX.out.kept F2 (fun h => h))
  have hlt : w.heap.size < w2.heap.size := Nat.lt_of_lt_of_le HBX.out.lt F2.size
  have hne : ¬ w.heap.size = w2.heap.size := by omega
  have HNE := Lib.hid hne
  have hb := heap_alloc_new w2 (.cells #[.pointer (some ⟨w1.heap.size, 0, none⟩), .slice none 0 0] 122)
  have A3 : Fr nob w2 (w2.alloc (.cells #[.pointer (some ⟨w1.heap.size, 0, none⟩), .slice none 0 0] 122)) := (Fr.refl nob w2).alloc _
  have hS := HSE.out w1.heap.size w2 w2.heap.size _ HR.out A3 (Nat.le_refl _) (by rw [Lib.cell_of_heap hb]; rfl) (by rw [Lib.cell_of_heap hb]; rfl) (by unfold World.frozen?; rw [hb]; rfl)
  have HB3 := Lib.hid (HB2.out.kept A3 (fun h => h))
  have HF3 := Lib.hid (HF2.out.trans A3 (fun _ _ h => h))
  have hz2 := HF2.out.size
  have HZ2 := Lib.hid hz2
  clear hD hR F2 HBX hlt hne hb A3 HB2 HF2 HSE HDE hz2
  go_wp2_with fail
  refine hS.mono ?_
  rintro e w3 ⟨rfl, ⟨pa, pc, hp1⟩, F3⟩
  have X3 := HB3.out.kept F3 (fun e => HNE.out e)
  have d0 := X3.c0
  have d1 := X3.c1
  have d2 := X3.c2
  have df0 := X3.fr 0
  have df1 := X3.fr 1
  have df2 := X3.fr 2
  have HX3 := Lib.hid X3
  have HF4 : Hid (Fr nob w w3) := Lib.hid (HF3.out.trans' F3 (T := nob) (fun _ _ h => h) (fun k hk h => by
    have h1 : k = w2.heap.size := h
    have h2 := HZ2.out
    omega))
  clear hS X3 F3 HB3 HF3
  go_wp2_with fail
  obtain ⟨X, FX⟩ := HX3.out.set (.bool false) (.int .u32 0) (.slice pa 1 pc)
  clear d0 d1 d2 df0 df1 df2
  generalize ((w3.setCell ⟨w.heap.size, 0, none⟩ (.bool false)).setCell ⟨w.heap.size, 1, none⟩ (.int .u32 0)).setCell ⟨w.heap.size, 2, none⟩ (.slice pa 1 pc) = w5 at *
  have x0 := X.c0
  have x1 := X.c1
  have x2 := X.c2
  refine bodyPost_ret (v := .tuple #[.agg #[.bool false, .int .u32 0, .slice pa 1 pc], .int .i64 0]) (by simp [results, Try.results41, go_sem, x0, x1, x2]) rfl ⟨⟨pa, pc, rfl⟩, ?_⟩
  exact HF4.out.trans' FX (T := nob) (fun _ _ h => h) (fun k hk h => by have h1 : k = w.heap.size := h; omega)
end Go.Proofs.Ytaojojjdfdlgpaa
namespace Go.Proofs.Ytaojojjdfdlgpaa
open Go.RowKit

/-! Solve -/
set_option maxRecDepth 100000 in
set_option maxHeartbeats 2000000 in
theorem solve_two (a : Option Addr) (m cp : Nat) (w : World) (R : Nat → World → Prop)
    (hck : ∀ w0, Fr nob w w0 → Calls Try.prog 53 #[.int .i64 2, .slice a m cp] w0 fun e w' => e = .returned (.int .i64 0) ∧ w0 = w')
    (hde : ∀ w0, Fr nob w w0 → Calls Try.prog 55 #[.slice a m cp] w0 fun e w' => e = .returned (.pointer (some ⟨w0.heap.size, 0, none⟩)) ∧ R w0.heap.size w' ∧ Fr nob w0 w')
    (hse : ∀ d w1 sb w0, R d w1 → Fr nob w1 w0 → w1.heap.size ≤ sb → w0.cell? ⟨sb, 0, none⟩ = some (.pointer (some ⟨d, 0, none⟩)) → w0.cell? ⟨sb, 1, none⟩ = some (.slice none 0 0) → w0.frozen? ⟨sb, 1, none⟩ = false → Calls Try.prog 74 #[.pointer (some ⟨sb, 0, none⟩), .int .i64 2] w0 fun e w' => e = .returned (.bool true) ∧ Fr nob w0 w' ∧ ∃ c, Mem w' d c ∧ c 25 = .bool false ∧ c 26 = .bool true) :
    Calls Try.prog 41 #[.int .i64 2, .slice a m cp] w fun e w' => e = .returned (.tuple #[.agg #[.bool true, .int .u32 2, .slice none 0 0], .int .i64 0]) ∧ Fr nob w w' := by
  have HDE := Lib.hid hde
  have HSE := Lib.hid hse
  have A : Fr nob w (w.alloc (.cells #[.bool false, .int .u32 0, .slice none 0 0] 65)) := (Fr.refl nob w).alloc _
  have hC := hck _ A
  have HBX := Lib.hid (Box3.new w (.bool false) (.int .u32 0) (.slice none 0 0) 65)
  have HA := Lib.hid A
  clear hde hse hck A
  go_enter Try.func41, Try.ntmps41
  go_wp2_with fail
  refine hC.mono ?_
  rintro e w' ⟨rfl, rfl⟩
  clear hC
  generalize w.alloc (.cells #[.bool false, .int .u32 0, .slice none 0 0] 65) = w1 at *
  have hD := HDE.out w1 HA.out
  go_wp2_with fail
  refine hD.mono ?_
  rintro e w2 ⟨rfl, hR, F2⟩
  have HR := Lib.hid hR
  have HF2 := Lib.hid (HA.out.trans F2 (fun _ _ h => h))
  have HB2 := Lib.hid (HBX.out.kept F2 (fun h => h))
  have hlt : w.heap.size < w2.heap.size := Nat.lt_of_lt_of_le HBX.out.lt F2.size
  have hne : ¬ w.heap.size = w2.heap.size := by omega
  have HNE := Lib.hid hne
  have hb := heap_alloc_new w2 (.cells #[.pointer (some ⟨w1.heap.size, 0, none⟩), .slice none 0 0] 122)
  have A3 : Fr nob w2 (w2.alloc (.cells #[.pointer (some ⟨w1.heap.size, 0, none⟩), .slice none 0 0] 122)) := (Fr.refl nob w2).alloc _
  have hS := HSE.out w1.heap.size w2 w2.heap.size _ HR.out A3 (Nat.le_refl _) (by rw [Lib.cell_of_heap hb]; rfl) (by rw [Lib.cell_of_heap hb]; rfl) (by unfold World.frozen?; rw [hb]; rfl)
  have HB3 := Lib.hid (HB2.out.kept A3 (fun h => h))
  have HF3 := Lib.hid (HF2.out.trans A3 (fun _ _ h => h))
  have hz2 := HF2.out.size
  have HZ2 := Lib.hid hz2
  have HS0 := Lib.hid (show (w2.alloc (.cells #[.pointer (some ⟨w1.heap.size, 0, none⟩), .slice none 0 0] 122)).cell? ⟨w2.heap.size, 0, none⟩ = some (.pointer (some ⟨w1.heap.size, 0, none⟩)) by rw [Lib.cell_of_heap hb]; rfl)
  have HLT := Lib.hid hlt
  clear hD hR F2 HBX hlt hne hb A3 HB2 HF2 HSE HDE hz2
  go_wp2_with fail
  refine hS.mono ?_
  rintro e w3 ⟨rfl, F3, c, hM, h25, h26⟩
  have HBX3 := Lib.hid (HB3.out.kept F3 (fun h => h))
  have HF4 := Lib.hid (HF3.out.trans F3 (fun _ _ h => h))
  have HS3 := Lib.hid (F3.cell HS0.out (fun h => h))
  have HM3 := Lib.hid hM
  have hpl1 : ∀ w, Calls Try.prog 57 #[.int .i64 (IntKind.i64.wrap 1)] w fun e w' => e = .returned (.int .i64 25) ∧ w = w' := fun w => by
    rw [show IntKind.i64.wrap 1 = 1 by rw [IntKind.wrap_i64]; rfl]
    exact place_any 1 (by decide) w
  have hpl2 : ∀ w, Calls Try.prog 57 #[.int .i64 (IntKind.i64.wrap 2)] w fun e w' => e = .returned (.int .i64 26) ∧ w = w' := fun w => by
    rw [show IntKind.i64.wrap 2 = 2 by rw [IntKind.wrap_i64]; rfl]
    exact place_any 2 (by decide) w
  have A4 : Fr nob w3 (w3.alloc (.cells #[.bool true, .int .u32 0, .slice none 0 0] 65)) := (Fr.refl nob w3).alloc _
  have HT4 := Lib.hid (Box3.new w3 (.bool true) (.int .u32 0) (.slice none 0 0) 65)
  have HX4 := Lib.hid (HBX3.out.kept A4 (fun h => h))
  have HS4 := Lib.hid (A4.cell HS3.out (fun h => h))
  have HM4 := Lib.hid (HM3.out.kept A4 (fun h => h))
  have HF5 := Lib.hid (HF4.out.trans A4 (fun _ _ h => h))
  have hs3 : w.heap.size < w3.heap.size := by have h1 := HLT.out; have h2 := HF4.out.size; have h3 := lt_of_cell HS3.out; have h4 : w2.heap.size < w3.heap.size := h3; omega
  have hd3 : w1.heap.size < w3.heap.size := lt_of_cell (HM3.out 0 (by decide)).1
  have hsb : w2.heap.size < w3.heap.size := lt_of_cell HS3.out
  have HN := Lib.hid (And.intro hs3 (And.intro hd3 hsb))
  clear hS F3 hM A4 HB3 HF3 HBX3 HF4 HS3 HS0 HM3 hs3 hd3 hsb
  go_wp2_with fail
  generalize w3.alloc (.cells #[.bool true, .int .u32 0, .slice none 0 0] 65) = w4 at *
  go_loopg [28] 2 (fun m iv wr => ∃ k : Nat, k + m = 2 ∧ iv = .int .i64 (k : Int) ∧ Box3 wr w3.heap.size (.bool true) (.int .u32 (if k = 2 then 2 else 0)) (.slice none 0 0) ∧ Box3 wr w.heap.size (.bool false) (.int .u32 0) (.slice none 0 0) ∧ wr.cell? ⟨w2.heap.size, 0, none⟩ = some (.pointer (some ⟨w1.heap.size, 0, none⟩)) ∧ Mem wr w1.heap.size c ∧ Fr nob w wr)
  case atStart => exact ⟨0, rfl, rfl, HT4.out, HX4.out, HS4.out, HM4.out, HF5.out⟩
  case round =>
    clear HT4 HX4 HS4 HM4 HF5
    obtain ⟨k, hkm, rfl, hT, hX, hs, hM, hF⟩ := hrel
    have HT := Lib.hid hT
    have HX := Lib.hid hX
    have HS := Lib.hid hs
    have HMr := Lib.hid hM
    have HFr := Lib.hid hF
    have D : Fr nob wr wr.drew := (Fr.refl nob wr).drew
    have HTd := Lib.hid (hT.kept D (fun h => h))
    have HXd := Lib.hid (hX.kept D (fun h => h))
    have HSd := Lib.hid (D.cell hs (fun h => h))
    have HMd := Lib.hid (hM.kept D (fun h => h))
    have HFd := Lib.hid (hF.trans D (fun _ _ h => h))
    clear hT hX hs hM hF D
    rcases (show k = 0 ∨ k = 1 ∨ k = 2 by omega) with rfl | rfl | rfl
    · obtain ⟨gm, rfl⟩ : ∃ gm, gk = gm + 1 := ⟨gk - 1, by omega⟩
      have s0 := HSd.out
      have c0 := (HMd.out 25 (by decide)).1
      rw [h25] at c0
      clear HT HX HS HMr HFr
      go_wp2_with fail
      go_region_with (go_at_call 57; (with_reducible refine (hpl1 _).mono ?_); rintro e w' ⟨rfl, rfl⟩)
      all_goals (
        clear s0 c0
        generalize wr.drew = w5 at *
        go_wp2_with fail
        go_roundg gm
        case measure => omega
        case rel => exact ⟨1, by omega, by go_num, HTd.out, HXd.out, HSd.out, HMd.out, HFd.out⟩)
    · obtain ⟨gm, rfl⟩ : ∃ gm, gk = gm + 1 := ⟨gk - 1, by omega⟩
      have s0 := HSd.out
      have c0 := (HMd.out 26 (by decide)).1
      rw [h26] at c0
      clear HT HX HS HMr HFr
      go_wp2_with fail
      go_region_with (go_at_call 57; (with_reducible refine (hpl2 _).mono ?_); rintro e w' ⟨rfl, rfl⟩)
      all_goals (
        clear s0 c0
        generalize wr.drew = w5 at *
        have D2 : Fr nob w5 w5.drew := (Fr.refl nob w5).drew
        have T2 := HTd.out.kept D2 (fun h => h)
        have t1 := T2.c1
        have tf := T2.fr 1
        rw [if_neg (by decide)] at t1
        clear D2 T2
        go_wp2_with fail
        go_region
        have hbits : bits BinOp.or IntKind.u32 0 2 = 2 := by decide
        rw [hbits]
        have S6 : Fr (fun k => k = w3.heap.size) w5 (w5.setCell ⟨w3.heap.size, 1, none⟩ (.int .u32 2)).drew := (fr_store w5 w3.heap.size 1 (.int .u32 2)).drew
        have hT6 : Box3 (w5.setCell ⟨w3.heap.size, 1, none⟩ (.int .u32 2)).drew w3.heap.size (.bool true) (.int .u32 2) (.slice none 0 0) := by
          have h := HTd.out
          refine ⟨?_, ?_, ?_, fun o => ?_⟩
          · show (w5.setCell ⟨w3.heap.size, 1, none⟩ (.int .u32 2)).cell? _ = _
            rw [World.cell?_setCell_other (h := by intro e; injection e with _ e2 _; exact absurd e2 (by decide))]; exact h.c0
          · exact World.cell?_setCell_same' _ _ _ (by rw [h.c1]; rfl)
          · show (w5.setCell ⟨w3.heap.size, 1, none⟩ (.int .u32 2)).cell? _ = _
            rw [World.cell?_setCell_other (h := by intro e; injection e with _ e2 _; exact absurd e2 (by decide))]; exact h.c2
          · exact (frozen_setCell _ _ _ _).trans (h.fr o)
        have HT6 := Lib.hid hT6
        obtain ⟨n1, n2, n3⟩ := HN.out
        have HX6 := Lib.hid (HXd.out.kept S6 (show ¬ w.heap.size = w3.heap.size by omega))
        have HS6 := Lib.hid (S6.cell HSd.out (show ¬ w2.heap.size = w3.heap.size by omega))
        have HM6 := Lib.hid (HMd.out.kept S6 (show ¬ w1.heap.size = w3.heap.size by omega))
        have HF6 := Lib.hid (HFd.out.trans' S6 (T := nob) (fun _ _ h => h) (fun k hk h => by have h1 : k = w3.heap.size := h; omega))
        clear t1 tf S6 hT6 n1 n2 n3 HTd HXd HSd HMd HFd
        generalize (w5.setCell ⟨w3.heap.size, 1, none⟩ (.int .u32 2)).drew = w6 at *
        go_wp2_with fail
        go_roundg gm
        case measure => omega
        case rel => exact ⟨2, by omega, by go_num, HT6.out, HX6.out, HS6.out, HM6.out, HF6.out⟩)
    · obtain rfl : gk = 0 := by omega
      have t0 := HT.out.c0
      have t1 := HT.out.c1
      have t2 := HT.out.c2
      rw [if_pos rfl] at t1
      have d0 := HX.out.c0
      have d1 := HX.out.c1
      have d2 := HX.out.c2
      have df0 := HX.out.fr 0
      have df1 := HX.out.fr 1
      have df2 := HX.out.fr 2
      clear HTd HXd HSd HMd HFd HS HMr
      go_wp2_with fail
      obtain ⟨X, FX⟩ := HX.out.set (.bool true) (.int .u32 2) (.slice none 0 0)
      clear d0 d1 d2 df0 df1 df2 t0 t1 t2
      generalize ((wr.setCell ⟨w.heap.size, 0, none⟩ (.bool true)).setCell ⟨w.heap.size, 1, none⟩ (.int .u32 2)).setCell ⟨w.heap.size, 2, none⟩ (.slice none 0 0) = w5 at *
      have x0 := X.c0
      have x1 := X.c1
      have x2 := X.c2
      refine bodyPost_ret (v := .tuple #[.agg #[.bool true, .int .u32 2, .slice none 0 0], .int .i64 0]) (by simp [results, Try.results41, go_sem, x0, x1, x2]) rfl ⟨rfl, ?_⟩
      exact HFr.out.trans' FX (T := nob) (fun _ _ h => h) (fun k hk h => by have h1 : k = w.heap.size := h; omega)
end Go.Proofs.Ytaojojjdfdlgpaa
