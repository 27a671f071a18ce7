import Derived.Test.YtbiheajnmjbdoaaQbk
import Derived.Test.YtbiheajnmjbdoaaQy
import Derived.Test.YtbiheajnmjbdoaaQbh
import Derived.Test.YtbiheajnmjbdoaaQbi
namespace Go.Proofs.Ytbiheajnmjbdoaa
open Go.RowKit

/-! Solve -/
set_option maxRecDepth 100000 in
set_option maxHeartbeats 2000000 in
theorem solve_no (a : Option Addr) (m cp : Nat) (N : Int) (w : World) (R : Nat → World → Prop)
    (hck : ∀ w0, Fr nob w w0 → Calls Try.prog 54 #[.int .i64 N, .slice a m cp] w0 fun e w' => e = .returned (.int .i64 0) ∧ w0 = w')
    (hde : ∀ w0, Fr nob w w0 → Calls Try.prog 55 #[.slice a m cp] w0 fun e w' => e = .returned (.pointer (some ⟨w0.heap.size, 0, none⟩)) ∧ R w0.heap.size w' ∧ Fr nob w0 w')
    (hse : ∀ d w1 sb w0, R d w1 → Fr nob w1 w0 → w1.heap.size ≤ sb → w0.cell? ⟨sb, 0, none⟩ = some (.pointer (some ⟨d, 0, none⟩)) → w0.cell? ⟨sb, 1, none⟩ = some (.slice none 0 0) → w0.frozen? ⟨sb, 1, none⟩ = false → Calls Try.prog 56 #[.pointer (some ⟨sb, 0, none⟩), .int .i64 N] w0 fun e w' => e = .returned (.bool false) ∧ (∃ a cp, w'.cell? ⟨sb, 1, none⟩ = some (.slice a 1 cp)) ∧ Fr (fun k => k = sb) w0 w') :
    Calls Try.prog 31 #[.int .i64 N, .slice a m cp] w fun e w' => (∃ a' cp', e = .returned (.tuple #[.agg #[.bool false, .int .u32 0, .slice a' 1 cp'], .int .i64 0])) ∧ Fr nob w w' := by
  have HDE := Lib.hid hde
  have HSE := Lib.hid hse
  have A : Fr nob w (w.alloc (.cells #[.bool false, .int .u32 0, .slice none 0 0] 53)) := (Fr.refl nob w).alloc _
  have hC := hck _ A
  have HBX := Lib.hid (Box3.new w (.bool false) (.int .u32 0) (.slice none 0 0) 53)
  have HA := Lib.hid A
  clear hde hse hck A
  go_enter Try.func31, Try.ntmps31
  go_wp2_with fail
  refine hC.mono ?_
  rintro e w' ⟨rfl, rfl⟩
  clear hC
  generalize w.alloc (.cells #[.bool false, .int .u32 0, .slice none 0 0] 53) = w1 at *
  have hD := HDE.out w1 HA.out
  go_wp2_with fail
  refine hD.mono ?_
  rintro e w2 ⟨rfl, hR, F2⟩
  have HR := Lib.hid hR
  have HF2 := Lib.hid (HA.out.trans F2 (fun _ _ h => h))
  have HB2 := Lib.hid (HBX.out.kept F2 (fun h => h))
  have hlt : w.heap.size < w2.heap.size := Nat.lt_of_lt_of_le HBX.out.lt F2.size
  have hne : ¬ w.heap.size = w2.heap.size := by omega
  have HNE := Lib.hid hne
  have hb := heap_alloc_new w2 (.cells #[.pointer (some ⟨w1.heap.size, 0, none⟩), .slice none 0 0] 105)
  have A3 : Fr nob w2 (w2.alloc (.cells #[.pointer (some ⟨w1.heap.size, 0, none⟩), .slice none 0 0] 105)) := (Fr.refl nob w2).alloc _
  have hS := HSE.out w1.heap.size w2 w2.heap.size _ HR.out A3 (Nat.le_refl _) (by rw [Lib.cell_of_heap hb]; rfl) (by rw [Lib.cell_of_heap hb]; rfl) (by unfold World.frozen?; rw [hb]; rfl)
  have HB3 := Lib.hid (HB2.out.kept A3 (fun h => h))
  have HF3 := Lib.hid (HF2.out.trans A3 (fun _ _ h => h))
  have hz2 := HF2.out.size
  have HZ2 := Lib.hid hz2
  clear hD hR F2 HBX hlt hne hb A3 HB2 HF2 HSE HDE hz2
  go_wp2_with fail
  refine hS.mono ?_
  rintro e w3 ⟨rfl, ⟨pa, pc, hp1⟩, F3⟩
  have X3 := HB3.out.kept F3 (fun e => HNE.out e)
  have d0 := X3.c0
  have d1 := X3.c1
  have d2 := X3.c2
  have df0 := X3.fr 0
  have df1 := X3.fr 1
  have df2 := X3.fr 2
  have HX3 := Lib.hid X3
  have HF4 : Hid (Fr nob w w3) := Lib.hid (HF3.out.trans' F3 (T := nob) (fun _ _ h => h) (fun k hk h => by
    have h1 : k = w2.heap.size := h
    have h2 := HZ2.out
    omega))
  clear hS X3 F3 HB3 HF3
  go_wp2_with fail
  obtain ⟨X, FX⟩ := HX3.out.set (.bool false) (.int .u32 0) (.slice pa 1 pc)
  clear d0 d1 d2 df0 df1 df2
  generalize ((w3.setCell ⟨w.heap.size, 0, none⟩ (.bool false)).setCell ⟨w.heap.size, 1, none⟩ (.int .u32 0)).setCell ⟨w.heap.size, 2, none⟩ (.slice pa 1 pc) = w5 at *
  have x0 := X.c0
  have x1 := X.c1
  have x2 := X.c2
  refine bodyPost_ret (v := .tuple #[.agg #[.bool false, .int .u32 0, .slice pa 1 pc], .int .i64 0]) (by simp [results, Try.results31, go_sem, x0, x1, x2]) rfl ⟨⟨pa, pc, rfl⟩, ?_⟩
  exact HF4.out.trans' FX (T := nob) (fun _ _ h => h) (fun k hk h => by have h1 : k = w.heap.size := h; omega)
end Go.Proofs.Ytbiheajnmjbdoaa
