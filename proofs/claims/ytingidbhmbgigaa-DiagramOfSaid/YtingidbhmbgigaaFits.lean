import Derived.Test.YtingidbhmbgigaaLst
import Derived.Test.YtingidbhmbgigaaRuleB
import Derived.Laws.Cells
namespace Go.Proofs.Ytingidbhmbgigaa
open Go.RowKit
open Bd

theorem run_idx0 (a b : Int) (w : World) : (Instr.index 69 (.agg #[.int .i64 a, .int .i64 b]) (kk 0)).run Try.prog w = .ok (.int .i64 a) w := by kernel_rfl
theorem run_idx1 (a b : Int) (w : World) : (Instr.index 69 (.agg #[.int .i64 a, .int .i64 b]) (kk 1)).run Try.prog w = .ok (.int .i64 b) w := by kernel_rfl
theorem run_dec_var (a b c : Value) (w : World) : (Instr.field 26 (.agg #[a, b, c]) 0).run Try.prog w = .ok a w := by kernel_rfl

set_option maxRecDepth 100000 in
set_option maxHeartbeats 4000000 in
theorem fits_any (L : List Dec) (k : Nat) (hk : k < L.length) (hL : L.length ≤ 65536) (v : Value) (w : World) (hv : LRow w v L) : Calls Try.prog 18 #[.agg #[v], kk k] w fun e w' => e = .returned (.bool (fitsD L k L[k])) ∧ Below w.heap.size w w' := by
  have hfd := run_dec_var
  have hx0i := run_idx0
  have hx1i := run_idx1
  have hat : ∀ k2 (h2 : k2 < L.length) W, Fr nob w W → _ := fun k2 h2 W (h : Fr nob w W) => lat_any L k2 h2 hL v W (hv.kept h)
  obtain ⟨a, cap, rfl⟩ := hv.form
  have hd : L[k]? = some L[k] := by simp [hk]
  obtain ⟨b, o, rfl, d0, d1, d2⟩ := hv.at hd
  generalize hdd : L[k] = d at *
  obtain ⟨x, lo, hi⟩ := d
  simp only at d0 d1 d2
  clear hd hdd
  have q0 := one_cell w (.slice (some ⟨b, o, none⟩) L.length cap) 51
  have y0 := cell_alloc_l d0 (.cells #[.slice (some ⟨b, o, none⟩) L.length cap] 51)
  have y1 := cell_alloc_l d1 (.cells #[.slice (some ⟨b, o, none⟩) L.length cap] 51)
  have y2 := cell_alloc_l d2 (.cells #[.slice (some ⟨b, o, none⟩) L.length cap] 51)
  have c0 : ((w.alloc (.cells #[.slice (some ⟨b, o, none⟩) L.length cap] 51)).alloc (.cells #[.int .i64 x, .int .i64 lo, .int .i64 hi] 26)).cell? ⟨w.heap.size + 1, 0, none⟩ = some (.int .i64 x) := World.cell?_alloc_at _ _ _ _ (by simp)
  have c1 : ((w.alloc (.cells #[.slice (some ⟨b, o, none⟩) L.length cap] 51)).alloc (.cells #[.int .i64 x, .int .i64 lo, .int .i64 hi] 26)).cell? ⟨w.heap.size + 1, 1, none⟩ = some (.int .i64 lo) := World.cell?_alloc_at _ _ _ _ (by simp)
  have c2 : ((w.alloc (.cells #[.slice (some ⟨b, o, none⟩) L.length cap] 51)).alloc (.cells #[.int .i64 x, .int .i64 lo, .int .i64 hi] 26)).cell? ⟨w.heap.size + 1, 2, none⟩ = some (.int .i64 hi) := World.cell?_alloc_at _ _ _ _ (by simp)
  replace q0 := cell_alloc_l q0 (.cells #[.int .i64 x, .int .i64 lo, .int .i64 hi] 26)
  have frW : Fr nob w ((w.alloc (.cells #[.slice (some ⟨b, o, none⟩) L.length cap] 51)).alloc (.cells #[.int .i64 x, .int .i64 lo, .int .i64 hi] 26)) := ((Fr.refl nob w).alloc _).alloc _
  have HB : Below w.heap.size w ((w.alloc (.cells #[.slice (some ⟨b, o, none⟩) L.length cap] 51)).alloc (.cells #[.int .i64 x, .int .i64 lo, .int .i64 hi] 26)) := frW.to_below (Nat.le_refl _) (fun _ h => h.elim)
  have hk1 : (k : Int) < (L.length : Int) := by omega
  have q1 := one_cell w (.slice (some ⟨b, o, none⟩) L.length cap) 51
  by_cases hx0 : 0 ≤ x
  · by_cases hx1 : x < 24
    · go_enter Try.func18, Try.ntmps18
      go_wp2_with fail
      clear q1 y0 y1 y2 HB
      generalize ((w.alloc (.cells #[.slice (some ⟨b, o, none⟩) L.length cap] 51)).alloc (.cells #[.int .i64 x, .int .i64 lo, .int .i64 hi] 26)) = W2 at *
      go_loopw [26] (fun cv wr => ∃ c : Nat, c ≤ 2 ∧ cv = kk c ∧ (1 ≤ c → fitsC L k x lo = true) ∧ (2 ≤ c → fitsC L k x hi = true) ∧ Fr nob W2 wr) (fun cv _ => 2 - (intOf cv).toNat)
      case atStart => exact ⟨0, by omega, rfl, fun h => absurd h (by omega), fun h => absurd h (by omega), Fr.refl _ _⟩
      case round =>
        obtain ⟨c, hc, rfl, hlo, hhi, fwr⟩ := hrel
        replace q0 := fwr.cell' q0 (fun h => h)
        replace c0 := fwr.cell' c0 (fun h => h)
        replace c1 := fwr.cell' c1 (fun h => h)
        replace c2 := fwr.cell' c2 (fun h => h)
        obtain rfl | rfl | rfl : c = 0 ∨ c = 1 ∨ c = 2 := by omega
        · -- the child lo
          by_cases h0 : 0 ≤ lo
          · by_cases h1 : lo ≤ (k : Int) + 1
            · by_cases h2 : lo < 2
              · have hfc : fitsC L k x lo = true := by simp [fitsC, h0, h1, h2]
                have h2' : decide ((2 : Int) ≤ lo) = false := by simp; omega
                go_upto_region 9 with (fail)
                refine wp_region_grow' 10 49 (fun _ => #[]) [] (by kernel_rfl) (by kernel_rfl) rfl rfl (by intro T h; cases h) ?_
                simp only [List.take_succ_cons, List.take_zero]
                refine grow_step (v := ?p0nv0) rfl rfl ?p0na0 ?p0nb0
                case p0na0 =>
                  intro w' hw'
                  clear hw'
                  refine growAt_value ?_
                  go_simp
                  rfl
                simp only [Act.put, List.setIfInBounds_toArray, List.set_cons_zero, List.set_cons_succ]
                refine grow_step (v := ?p0nv1) rfl rfl ?p0na1 ?p0nb1
                case p0na1 =>
                  intro w' hw'
                  clear hw'
                  refine growAt_value ?_
                  go_simp
                  rfl
                simp only [Act.put, List.setIfInBounds_toArray, List.set_cons_zero, List.set_cons_succ]
                refine grow_step (v := ?p0nv2) rfl rfl ?p0na2 ?p0nb2
                case p0na2 =>
                  intro w' hw'
                  clear hw'
                  refine growAt_value ?_
                  go_simp
                  rfl
                simp only [Act.put, List.setIfInBounds_toArray, List.set_cons_zero, List.set_cons_succ]
                refine grow_skip rfl rfl ?_
                simp only [Act.put, List.setIfInBounds_toArray, List.set_cons_zero, List.set_cons_succ]
                refine grow_skip rfl rfl ?_
                simp only [Act.put, List.setIfInBounds_toArray, List.set_cons_zero, List.set_cons_succ]
                refine grow_skip rfl rfl ?_
                simp only [Act.put, List.setIfInBounds_toArray, List.set_cons_zero, List.set_cons_succ]
                refine grow_skip rfl rfl ?_
                simp only [Act.put, List.setIfInBounds_toArray, List.set_cons_zero, List.set_cons_succ]
                refine grow_skip rfl rfl ?_
                simp only [Act.put, List.setIfInBounds_toArray, List.set_cons_zero, List.set_cons_succ]
                refine grow_skip rfl rfl ?_
                simp only [Act.put, List.setIfInBounds_toArray, List.set_cons_zero, List.set_cons_succ]
                refine grow_skip rfl rfl ?_
                simp only [Act.put, List.setIfInBounds_toArray, List.set_cons_zero, List.set_cons_succ]
                refine grow_nil ?_
                intro w5 listed p5 _ _
                have FN := fwr.trans p5 (fun _ _ h => h)
                go_wp2_with fail
                refine ⟨⟨1, by omega, by go_num, fun _ => hfc, fun h => absurd h (by omega), FN⟩, by simp [intOf]⟩
              · have h2' : decide ((2 : Int) ≤ lo) = true := by simp; omega
                obtain ⟨k2, hk2⟩ : ∃ k2 : Nat, lo = ((k2 + 2 : Nat) : Int) := ⟨(lo - 2).toNat, by omega⟩
                have hlt2 : k2 < L.length := by omega
                have hget : (L.getD (lo - 2).toNat (0, 0, 0)).1 = L[k2].1 := by
                  have e : (lo - 2).toNat = k2 := by omega
                  rw [e, List.getD_eq_getElem?_getD, List.getElem?_eq_getElem hlt2]; rfl
                have hat2 : ∀ W, Fr nob w W → Calls Try.prog 36 #[.agg #[.slice (some ⟨b, o, none⟩) L.length cap], .int .i64 lo] W fun e w' => e = .returned (dv L[k2]) ∧ Below W.heap.size W w' := fun W h => by rw [hk2]; exact hat k2 hlt2 W h
                have hFC : fitsC L k x lo = decide (x < L[k2].1) := by unfold fitsC; rw [hget]; simp [h0, h1, h2]
                have HFC := Lib.hid hFC
                clear hFC hget
                have Hk2 := Lib.hid hk2
                clear hk2
                have fr0 := frW
                go_upto_region 9 with (fail)
                refine wp_region_grow' 10 49 (fun _ => #[]) [] (by kernel_rfl) (by kernel_rfl) rfl rfl (by intro T h; cases h) ?_
                simp only [List.take_succ_cons, List.take_zero]
                refine grow_step (v := ?p0yv0) rfl rfl ?p0ya0 ?p0yb0
                case p0ya0 =>
                  intro w' hw'
                  clear hw'
                  refine growAt_value ?_
                  go_simp
                  rfl
                simp only [Act.put, List.setIfInBounds_toArray, List.set_cons_zero, List.set_cons_succ]
                refine grow_step (v := ?p0yv1) rfl rfl ?p0ya1 ?p0yb1
                case p0ya1 =>
                  intro w' hw'
                  clear hw'
                  refine growAt_value ?_
                  go_simp
                  rfl
                simp only [Act.put, List.setIfInBounds_toArray, List.set_cons_zero, List.set_cons_succ]
                refine grow_step (v := ?p0yv2) rfl rfl ?p0ya2 ?p0yb2
                case p0ya2 =>
                  intro w' hw'
                  clear hw'
                  refine growAt_value ?_
                  go_simp
                  rfl
                simp only [Act.put, List.setIfInBounds_toArray, List.set_cons_zero, List.set_cons_succ]
                refine grow_step (v := ?p0yv3) rfl rfl ?p0ya3 ?p0yb3
                case p0ya3 =>
                  intro w' hw'
                  have yq0 := hw'.cell' q0 (fun h => h)
                  clear hw'
                  refine growAt_value ?_
                  go_simp
                  rfl
                simp only [Act.put, List.setIfInBounds_toArray, List.set_cons_zero, List.set_cons_succ]
                refine grow_step (v := ?p0yv4) rfl rfl ?p0ya4 ?p0yb4
                case p0ya4 =>
                  intro w' hw'
                  clear hw'
                  refine growAt_value ?_
                  go_simp
                  rfl
                simp only [Act.put, List.setIfInBounds_toArray, List.set_cons_zero, List.set_cons_succ]
                refine grow_step (v := dv L[k2]) rfl rfl ?p0ya5 ?p0yb5
                case p0ya5 =>
                  intro w' hw'
                  refine growAt_call ?_ ((hat2 w' ((fr0.trans fwr (fun _ _ h => h)).trans hw' (fun _ _ h => h))).mono fun e w'' ⟨he, hb⟩ => ⟨he, (Fr.refl nob _).below hb⟩)
                  go_simp
                simp only [Act.put, List.setIfInBounds_toArray, List.set_cons_zero, List.set_cons_succ]
                refine grow_step (v := ?p0yv6) rfl rfl ?p0ya6 ?p0yb6
                case p0ya6 =>
                  intro w' hw'
                  clear hw'
                  refine growAt_value ?_
                  go_simp
                  rfl
                simp only [Act.put, List.setIfInBounds_toArray, List.set_cons_zero, List.set_cons_succ]
                refine grow_step (v := ?p0yv7) rfl rfl ?p0ya7 ?p0yb7
                case p0ya7 =>
                  intro w' hw'
                  clear hw'
                  refine growAt_value ?_
                  go_simp
                  rfl
                simp only [Act.put, List.setIfInBounds_toArray, List.set_cons_zero, List.set_cons_succ]
                refine grow_step (v := ?p0yv8) rfl rfl ?p0ya8 ?p0yb8
                case p0ya8 =>
                  intro w' hw'
                  have yc0 := hw'.cell' c0 (fun h => h)
                  clear hw'
                  refine growAt_value ?_
                  go_simp
                  rfl
                simp only [Act.put, List.setIfInBounds_toArray, List.set_cons_zero, List.set_cons_succ]
                refine grow_step (v := ?p0yv9) rfl rfl ?p0ya9 ?p0yb9
                case p0ya9 =>
                  intro w' hw'
                  clear hw'
                  refine growAt_value ?_
                  go_simp
                  rfl
                simp only [Act.put, List.setIfInBounds_toArray, List.set_cons_zero, List.set_cons_succ]
                refine grow_nil ?_
                intro w5 listed p5 _ _
                have FN := fwr.trans p5 (fun _ _ h => h)
                by_cases h3 : x < L[k2].1
                · have h3' : ¬ L[k2].1 ≤ x := by omega
                  have hfc : fitsC L k x lo = true := by rw [HFC.out]; simp [h3]
                  go_wp2_with fail
                  refine ⟨⟨1, by omega, by go_num, fun _ => hfc, fun h => absurd h (by omega), FN⟩, by simp [intOf]⟩
                · have h3' : L[k2].1 ≤ x := by omega
                  have hfc : fitsC L k x lo = false := by rw [HFC.out]; simp [h3]
                  have HB := ((frW.trans FN (fun _ _ h => h))).to_below (Nat.le_refl _) (fun _ h => h.elim)
                  go_wp2_with fail
                  go_ret
                  exact ⟨by rw [show fitsD L k (x, lo, hi) = false by unfold fitsD; rw [hfc]; simp]; simp, HB⟩
            · have hfc : fitsC L k x lo = false := by simp [fitsC, h1]
              have HB := ((frW.trans fwr (fun _ _ h => h))).to_below (Nat.le_refl _) (fun _ h => h.elim)
              go_wp2_with fail
              go_ret
              exact ⟨by rw [show fitsD L k (x, lo, hi) = false by unfold fitsD; rw [hfc]; simp]; simp, HB⟩
          · have hfc : fitsC L k x lo = false := by simp [fitsC, h0]
            have HB := ((frW.trans fwr (fun _ _ h => h))).to_below (Nat.le_refl _) (fun _ h => h.elim)
            go_wp2_with fail
            go_ret
            exact ⟨by rw [show fitsD L k (x, lo, hi) = false by unfold fitsD; rw [hfc]; simp]; simp, HB⟩
        · -- the child hi
          by_cases h0 : 0 ≤ hi
          · by_cases h1 : hi ≤ (k : Int) + 1
            · by_cases h2 : hi < 2
              · have hfc : fitsC L k x hi = true := by simp [fitsC, h0, h1, h2]
                have h2' : decide ((2 : Int) ≤ hi) = false := by simp; omega
                go_upto_region 9 with (fail)
                refine wp_region_grow' 10 49 (fun _ => #[]) [] (by kernel_rfl) (by kernel_rfl) rfl rfl (by intro T h; cases h) ?_
                simp only [List.take_succ_cons, List.take_zero]
                refine grow_step (v := ?p1nv0) rfl rfl ?p1na0 ?p1nb0
                case p1na0 =>
                  intro w' hw'
                  clear hw'
                  refine growAt_value ?_
                  go_simp
                  rfl
                simp only [Act.put, List.setIfInBounds_toArray, List.set_cons_zero, List.set_cons_succ]
                refine grow_step (v := ?p1nv1) rfl rfl ?p1na1 ?p1nb1
                case p1na1 =>
                  intro w' hw'
                  clear hw'
                  refine growAt_value ?_
                  go_simp
                  rfl
                simp only [Act.put, List.setIfInBounds_toArray, List.set_cons_zero, List.set_cons_succ]
                refine grow_step (v := ?p1nv2) rfl rfl ?p1na2 ?p1nb2
                case p1na2 =>
                  intro w' hw'
                  clear hw'
                  refine growAt_value ?_
                  go_simp
                  rfl
                simp only [Act.put, List.setIfInBounds_toArray, List.set_cons_zero, List.set_cons_succ]
                refine grow_skip rfl rfl ?_
                simp only [Act.put, List.setIfInBounds_toArray, List.set_cons_zero, List.set_cons_succ]
                refine grow_skip rfl rfl ?_
                simp only [Act.put, List.setIfInBounds_toArray, List.set_cons_zero, List.set_cons_succ]
                refine grow_skip rfl rfl ?_
                simp only [Act.put, List.setIfInBounds_toArray, List.set_cons_zero, List.set_cons_succ]
                refine grow_skip rfl rfl ?_
                simp only [Act.put, List.setIfInBounds_toArray, List.set_cons_zero, List.set_cons_succ]
                refine grow_skip rfl rfl ?_
                simp only [Act.put, List.setIfInBounds_toArray, List.set_cons_zero, List.set_cons_succ]
                refine grow_skip rfl rfl ?_
                simp only [Act.put, List.setIfInBounds_toArray, List.set_cons_zero, List.set_cons_succ]
                refine grow_skip rfl rfl ?_
                simp only [Act.put, List.setIfInBounds_toArray, List.set_cons_zero, List.set_cons_succ]
                refine grow_nil ?_
                intro w5 listed p5 _ _
                have FN := fwr.trans p5 (fun _ _ h => h)
                go_wp2_with fail
                refine ⟨⟨2, by omega, by go_num, fun _ => hlo (by omega), fun _ => hfc, FN⟩, by simp [intOf]⟩
              · have h2' : decide ((2 : Int) ≤ hi) = true := by simp; omega
                obtain ⟨k2, hk2⟩ : ∃ k2 : Nat, hi = ((k2 + 2 : Nat) : Int) := ⟨(hi - 2).toNat, by omega⟩
                have hlt2 : k2 < L.length := by omega
                have hget : (L.getD (hi - 2).toNat (0, 0, 0)).1 = L[k2].1 := by
                  have e : (hi - 2).toNat = k2 := by omega
                  rw [e, List.getD_eq_getElem?_getD, List.getElem?_eq_getElem hlt2]; rfl
                have hat2 : ∀ W, Fr nob w W → Calls Try.prog 36 #[.agg #[.slice (some ⟨b, o, none⟩) L.length cap], .int .i64 hi] W fun e w' => e = .returned (dv L[k2]) ∧ Below W.heap.size W w' := fun W h => by rw [hk2]; exact hat k2 hlt2 W h
                have hFC : fitsC L k x hi = decide (x < L[k2].1) := by unfold fitsC; rw [hget]; simp [h0, h1, h2]
                have HFC := Lib.hid hFC
                clear hFC hget
                have Hk2 := Lib.hid hk2
                clear hk2
                have fr0 := frW
                go_upto_region 9 with (fail)
                refine wp_region_grow' 10 49 (fun _ => #[]) [] (by kernel_rfl) (by kernel_rfl) rfl rfl (by intro T h; cases h) ?_
                simp only [List.take_succ_cons, List.take_zero]
                refine grow_step (v := ?p1yv0) rfl rfl ?p1ya0 ?p1yb0
                case p1ya0 =>
                  intro w' hw'
                  clear hw'
                  refine growAt_value ?_
                  go_simp
                  rfl
                simp only [Act.put, List.setIfInBounds_toArray, List.set_cons_zero, List.set_cons_succ]
                refine grow_step (v := ?p1yv1) rfl rfl ?p1ya1 ?p1yb1
                case p1ya1 =>
                  intro w' hw'
                  clear hw'
                  refine growAt_value ?_
                  go_simp
                  rfl
                simp only [Act.put, List.setIfInBounds_toArray, List.set_cons_zero, List.set_cons_succ]
                refine grow_step (v := ?p1yv2) rfl rfl ?p1ya2 ?p1yb2
                case p1ya2 =>
                  intro w' hw'
                  clear hw'
                  refine growAt_value ?_
                  go_simp
                  rfl
                simp only [Act.put, List.setIfInBounds_toArray, List.set_cons_zero, List.set_cons_succ]
                refine grow_step (v := ?p1yv3) rfl rfl ?p1ya3 ?p1yb3
                case p1ya3 =>
                  intro w' hw'
                  have yq0 := hw'.cell' q0 (fun h => h)
                  clear hw'
                  refine growAt_value ?_
                  go_simp
                  rfl
                simp only [Act.put, List.setIfInBounds_toArray, List.set_cons_zero, List.set_cons_succ]
                refine grow_step (v := ?p1yv4) rfl rfl ?p1ya4 ?p1yb4
                case p1ya4 =>
                  intro w' hw'
                  clear hw'
                  refine growAt_value ?_
                  go_simp
                  rfl
                simp only [Act.put, List.setIfInBounds_toArray, List.set_cons_zero, List.set_cons_succ]
                refine grow_step (v := dv L[k2]) rfl rfl ?p1ya5 ?p1yb5
                case p1ya5 =>
                  intro w' hw'
                  refine growAt_call ?_ ((hat2 w' ((fr0.trans fwr (fun _ _ h => h)).trans hw' (fun _ _ h => h))).mono fun e w'' ⟨he, hb⟩ => ⟨he, (Fr.refl nob _).below hb⟩)
                  go_simp
                simp only [Act.put, List.setIfInBounds_toArray, List.set_cons_zero, List.set_cons_succ]
                refine grow_step (v := ?p1yv6) rfl rfl ?p1ya6 ?p1yb6
                case p1ya6 =>
                  intro w' hw'
                  clear hw'
                  refine growAt_value ?_
                  go_simp
                  rfl
                simp only [Act.put, List.setIfInBounds_toArray, List.set_cons_zero, List.set_cons_succ]
                refine grow_step (v := ?p1yv7) rfl rfl ?p1ya7 ?p1yb7
                case p1ya7 =>
                  intro w' hw'
                  clear hw'
                  refine growAt_value ?_
                  go_simp
                  rfl
                simp only [Act.put, List.setIfInBounds_toArray, List.set_cons_zero, List.set_cons_succ]
                refine grow_step (v := ?p1yv8) rfl rfl ?p1ya8 ?p1yb8
                case p1ya8 =>
                  intro w' hw'
                  have yc0 := hw'.cell' c0 (fun h => h)
                  clear hw'
                  refine growAt_value ?_
                  go_simp
                  rfl
                simp only [Act.put, List.setIfInBounds_toArray, List.set_cons_zero, List.set_cons_succ]
                refine grow_step (v := ?p1yv9) rfl rfl ?p1ya9 ?p1yb9
                case p1ya9 =>
                  intro w' hw'
                  clear hw'
                  refine growAt_value ?_
                  go_simp
                  rfl
                simp only [Act.put, List.setIfInBounds_toArray, List.set_cons_zero, List.set_cons_succ]
                refine grow_nil ?_
                intro w5 listed p5 _ _
                have FN := fwr.trans p5 (fun _ _ h => h)
                by_cases h3 : x < L[k2].1
                · have h3' : ¬ L[k2].1 ≤ x := by omega
                  have hfc : fitsC L k x hi = true := by rw [HFC.out]; simp [h3]
                  go_wp2_with fail
                  refine ⟨⟨2, by omega, by go_num, fun _ => hlo (by omega), fun _ => hfc, FN⟩, by simp [intOf]⟩
                · have h3' : L[k2].1 ≤ x := by omega
                  have hfc : fitsC L k x hi = false := by rw [HFC.out]; simp [h3]
                  have HB := ((frW.trans FN (fun _ _ h => h))).to_below (Nat.le_refl _) (fun _ h => h.elim)
                  go_wp2_with fail
                  go_ret
                  exact ⟨by rw [show fitsD L k (x, lo, hi) = false by unfold fitsD; rw [hfc]; simp]; simp, HB⟩
            · have hfc : fitsC L k x hi = false := by simp [fitsC, h1]
              have HB := ((frW.trans fwr (fun _ _ h => h))).to_below (Nat.le_refl _) (fun _ h => h.elim)
              go_wp2_with fail
              go_ret
              exact ⟨by rw [show fitsD L k (x, lo, hi) = false by unfold fitsD; rw [hfc]; simp]; simp, HB⟩
          · have hfc : fitsC L k x hi = false := by simp [fitsC, h0]
            have HB := ((frW.trans fwr (fun _ _ h => h))).to_below (Nat.le_refl _) (fun _ h => h.elim)
            go_wp2_with fail
            go_ret
            exact ⟨by rw [show fitsD L k (x, lo, hi) = false by unfold fitsD; rw [hfc]; simp]; simp, HB⟩
        · have HB := ((frW.trans fwr (fun _ _ h => h))).to_below (Nat.le_refl _) (fun _ h => h.elim)
          have e1 := hlo (by omega)
          have e2 := hhi (by omega)
          clear hlo hhi
          go_wp2_with fail
          go_ret
          exact ⟨by simp [fitsD, hx0, hx1, e1, e2], HB⟩
    · have hfD : fitsD L k (x, lo, hi) = false := by unfold fitsD; simp [hx1]
      have HFD := Lib.hid hfD
      clear hfD
      go_enter Try.func18, Try.ntmps18
      go_wp2_with fail
      go_ret
      exact ⟨by rw [HFD.out]; simp, HB⟩
  · have hfD : fitsD L k (x, lo, hi) = false := by unfold fitsD; simp [hx0]
    have HFD := Lib.hid hfD
    clear hfD
    go_enter Try.func18, Try.ntmps18
    go_wp2_with fail
    go_ret
    exact ⟨by rw [HFD.out]; simp, HB⟩
end Go.Proofs.Ytingidbhmbgigaa
