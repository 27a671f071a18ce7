import Derived.Test.YtalnhlebgofiiaaGreatDoorRPa
import Derived.Laws.AppendOwnNone
namespace Go.Proofs.YtalnhlebgofiiaaGreatDoor
open Go.RowKit
open Bd

/-! Sorted of the reference -/
def insR (x : Nat × Nat) (O : List (Nat × Nat)) : List (Nat × Nat) := O.takeWhile (fun y => befR y x) ++ x :: O.dropWhile (fun y => befR y x)
def sortR (l : List (Nat × Nat)) : List (Nat × Nat) := l.foldl (fun O x => insR x O) []
theorem sortR_snoc (l : List (Nat × Nat)) (x : Nat × Nat) : sortR (l ++ [x]) = insR x (sortR l) := by simp [sortR, List.foldl_append]
theorem insR_len (x : Nat × Nat) (O : List (Nat × Nat)) : (insR x O).length = O.length + 1 := by
  have h : (O.takeWhile fun y => befR y x).length + (O.dropWhile fun y => befR y x).length = O.length := by rw [← List.length_append, List.takeWhile_append_dropWhile]
  unfold insR
  rw [List.length_append, List.length_cons]
  omega
theorem sortR_len : ∀ (l : List (Nat × Nat)), (sortR l).length = l.length := fun l => by
  have key : ∀ (l O : List (Nat × Nat)), (l.foldl (fun O x => insR x O) O).length = O.length + l.length := by
    intro l
    induction l with
    | nil => intro O; simp
    | cons x l ih => intro O; rw [List.foldl_cons, ih, insR_len]; simp; omega
  have := key l []
  simpa [sortR] using this
theorem insR_mem {x y : Nat × Nat} {O : List (Nat × Nat)} : y ∈ insR x O ↔ y = x ∨ y ∈ O := by
  have h : y ∈ O ↔ y ∈ O.takeWhile (fun z => befR z x) ∨ y ∈ O.dropWhile (fun z => befR z x) := by
    rw [← List.mem_append, List.takeWhile_append_dropWhile]
  unfold insR
  rw [List.mem_append, List.mem_cons, h]
  constructor <;> (intro h'; rcases h' with h' | h' | h' <;> simp [h'])
theorem sortR_mem {y : Nat × Nat} {l : List (Nat × Nat)} : y ∈ sortR l ↔ y ∈ l := by
  have key : ∀ (l O : List (Nat × Nat)), y ∈ l.foldl (fun O x => insR x O) O ↔ y ∈ O ∨ y ∈ l := by
    intro l
    induction l with
    | nil => intro O; simp
    | cons x l ih =>
      intro O
      rw [List.foldl_cons, ih, insR_mem, List.mem_cons]
      constructor
      · intro h'; rcases h' with (h' | h') | h' <;> simp [h']
      · intro h'; rcases h' with h' | h' | h' <;> simp [h']
  have := key l []
  simpa [sortR] using this
theorem tw_take {p : Nat × Nat → Bool} : ∀ {O : List (Nat × Nat)} {j : Nat}, (∀ k y, k < j → O[k]? = some y → p y = true) → j ≤ O.length → (∀ y, O[j]? = some y → p y = false) → O.takeWhile p = O.take j ∧ O.dropWhile p = O.drop j
  | [], j, _, _, _ => by simp
  | a :: O, 0, _, _, h3 => by
    have := h3 a rfl
    simp [this]
  | a :: O, j + 1, h1, h2, h3 => by
    have ha := h1 0 a (by omega) rfl
    have ih := tw_take (p := p) (O := O) (j := j) (fun k y hk hy => h1 (k + 1) y (by omega) (by simpa using hy)) (by simpa using h2) (fun y hy => h3 y (by simpa using hy))
    simp [ha, ih.1, ih.2]
/-- the cells of a list of cubes -/
def pcells (L : List (Nat × Nat)) : List Value := L.flatMap fun x => [.int .u32 (x.1 : Int), .int .u32 (x.2 : Int)]
theorem pcells_append (A B' : List (Nat × Nat)) : pcells (A ++ B') = pcells A ++ pcells B' := by simp [pcells]
theorem pcells_length : ∀ (L : List (Nat × Nat)), (pcells L).length = L.length * 2
  | [] => rfl
  | x :: L => by
    have := pcells_length L
    show ([Value.int .u32 (x.1 : Int), .int .u32 (x.2 : Int)] ++ pcells L).length = _
    rw [List.length_append, this]; simp; omega
theorem pcells_at : ∀ {L : List (Nat × Nat)} {k : Nat} {x : Nat × Nat}, L[k]? = some x → (pcells L)[k * 2]? = some (.int .u32 (x.1 : Int)) ∧ (pcells L)[k * 2 + 1]? = some (.int .u32 (x.2 : Int))
  | [], _, _, h => by simp at h
  | d :: L, k, x, h => by
    have e : pcells (d :: L) = .int .u32 (d.1 : Int) :: .int .u32 (d.2 : Int) :: pcells L := rfl
    cases k with
    | zero => simp at h; subst h; simp [e]
    | succ k =>
      have ih := pcells_at (L := L) (k := k) (x := x) (by simpa using h)
      rw [e, show (k + 1) * 2 = k * 2 + 1 + 1 by omega]
      simpa using ih
/-- a list of cubes that was built: nil where nothing is in it -/
def PNew (w : World) (v : Value) (L : List (Nat × Nat)) : Prop := (L = [] ∧ v = .slice none 0 0) ∨ (L ≠ [] ∧ ∃ g cap, v = .slice (some ⟨g, 0, none⟩) L.length cap ∧ L.length ≤ cap ∧ ∀ j u, (pcells L)[j]? = some u → w.cell? ⟨g, j, none⟩ = some u)
theorem PNew.kept {w w' : World} {v : Value} {L : List (Nat × Nat)} (h : PNew w v L) (f : Fr nob w w') : PNew w' v L := by
  rcases h with h | ⟨h, g, cap, e, hc, hu⟩
  · exact .inl h
  · exact .inr ⟨h, g, cap, e, hc, fun j u hj => f.cell (hu j u hj) (fun h => h)⟩
theorem PNew.row {w : World} {v : Value} {L : List (Nat × Nat)} (h : PNew w v L) : PRow w v L := by
  rcases h with ⟨rfl, rfl⟩ | ⟨h, g, cap, rfl, hc, hu⟩
  · exact ⟨none, 0, rfl, fun k x hx => by simp at hx⟩
  · exact ⟨_, cap, rfl, fun k x hx => ⟨g, rfl, hu _ _ (pcells_at hx).1, hu _ _ (pcells_at hx).2⟩⟩
theorem PNew.of_own {w : World} {base : Nat} {T : TypeId} {v : Value} {L : List (Nat × Nat)} {n : Nat} (hn : n = L.length) (hL : L ≠ []) (h : w.ownsRow base T 2 v n (pcells L)) : PNew w v L := by
  subst hn
  refine .inr ⟨hL, ?_⟩
  rcases h.2 with ⟨_, h0⟩ | ⟨g, cap, cur, rfl, _, _, hle, _⟩
  · exact absurd (List.length_eq_zero_iff.1 h0) hL
  · refine ⟨g, cap, rfl, hle, fun j u hj => ?_⟩
    have := h.cells (g := g) rfl j u hj
    by_cases h0 : j = 0
    · subst h0; simpa [Addr.add] using this
    · simpa [Addr.add, h0] using this
theorem own_fr {w w0 w' : World} {base : Nat} {e : TypeId} {size k : Nat} {v : Value} {xs : List Value} (h : w0.ownsRow base e size v k xs) (gr : w0.grownBy w' v.ownBlock) (f : Fr (fun k => base ≤ k) w w0) : Fr (fun k => base ≤ k) w w' :=
  ⟨gr.os.trans f.os, gr.tape.trans f.tape, gr.output.trans f.output, Nat.le_trans f.size gr.size, fun j hj hS => (gr.block j (Nat.lt_of_lt_of_le hj f.size) (fun e => hS (h.lt j e.symm).1)).trans (f.block j hj hS)⟩
theorem pcells_one : ∀ (L : List (Nat × Nat)), ∀ u ∈ pcells L, u.oneCell' = true := fun L u hu => by
  obtain ⟨x, _, hx⟩ := List.mem_flatMap.1 hu
  simp at hx
  rcases hx with rfl | rfl <;> rfl
theorem pcells_take {L : List (Nat × Nat)} {j k : Nat} {u : Value} (h : (pcells (L.take j))[k]? = some u) : (pcells L)[k]? = some u := by
  have e : pcells L = pcells (L.take j) ++ pcells (L.drop j) := by rw [← pcells_append, List.take_append_drop]
  have hlt : k < (pcells (L.take j)).length := by
    rcases Nat.lt_or_ge k (pcells (L.take j)).length with h' | h'
    · exact h'
    · rw [List.getElem?_eq_none h'] at h; cases h
  rw [e, List.getElem?_append_left hlt]; exact h
theorem pcells_drop {L : List (Nat × Nat)} {j k : Nat} (hj : j ≤ L.length) {u : Value} (h : (pcells (L.drop j))[k]? = some u) : (pcells L)[j * 2 + k]? = some u := by
  have e : pcells L = pcells (L.take j) ++ pcells (L.drop j) := by rw [← pcells_append, List.take_append_drop]
  have hl : (pcells (L.take j)).length = j * 2 := by rw [pcells_length, List.length_take]; omega
  rw [e, List.getElem?_append_right (by omega), hl, show j * 2 + k - j * 2 = k by omega]; exact h
theorem info_cubeR : (Tryz.prog.info? 49).map (fun i => (i.zero, i.size, i.bytes)) = some (some (.agg #[.int .u32 0, .int .u32 0]), 2, 8) := by kernel_rfl

set_option maxRecDepth 100000 in
set_option maxHeartbeats 4000000 in
theorem RSorted_any (l : List (Nat × Nat)) (hl : l.length ≤ 531441) (hb : ∀ x ∈ l, x.1 < 2 ^ 32 ∧ x.2 < 2 ^ 32) (v : Value) (w : World) (hv : PRow w v l) : Calls Tryz.prog 55 #[v] w fun e w' => ∃ u, e = .returned u ∧ PRow w' u (sortR l) ∧ Below w.heap.size w w' := by
  obtain ⟨i0, hi0, hz0, hz1, hz2⟩ := info_parts info_cubeR
  have HV := Lib.hid hv
  have HB := Lib.hid hb
  obtain ⟨al, cl, rfl⟩ := hv.form
  clear hv hb
  go_enter Tryz.func55, Tryz.ntmps55
  go_wp2_with fail
  go_loopw [3, 4] (fun ov iv wr => ∃ i : Nat, i ≤ l.length ∧ iv = .int .i64 (i : Int) ∧ PNew wr ov (sortR (l.take i)) ∧ Fr nob w wr) (fun _ iv _ => l.length - (intOf iv).toNat)
  case atStart => exact ⟨0, Nat.zero_le _, rfl, .inl ⟨by simp [sortR], rfl⟩, Fr.refl _ _⟩
  case round =>
    obtain ⟨i, hi, rfl, hN, hF⟩ := hrel
    have HN := Lib.hid hN
    have HF := Lib.hid hF
    obtain ⟨ao, co, hov⟩ := hN.row.form
    subst hov
    clear hN hF
    by_cases hil : i < l.length
    · have d1 : decide ((i : Int) < (l.length : Int)) = true := by simp; omega
      have d1' : decide (i < l.length) = true := by simp; omega
      have hlen : (sortR (l.take i)).length = i := by rw [sortR_len, List.length_take]; omega
      have htk : sortR (l.take (i + 1)) = insR l[i] (sortR (l.take i)) := by rw [← sortR_snoc, List.take_add_one]; simp [hil]
      obtain ⟨x, hx⟩ : ∃ x, l[i] = x := ⟨_, rfl⟩
      have hxi : l[i]? = some x := by rw [List.getElem?_eq_getElem hil, hx]
      rw [hx] at htk
      have HT := Lib.hid htk
      have HLN := Lib.hid hlen
      clear htk hx
      obtain ⟨O, hO⟩ : ∃ O, sortR (l.take i) = O := ⟨_, rfl⟩
      rw [hO] at HN HT HLN hlen ⊢
      have HOe := Lib.hid hO
      have hO5 : O.length ≤ 531441 := by omega
      clear hO hlen
      obtain ⟨bl, hble, p0, p1⟩ := (HV.out.kept HF.out).at hxi
      subst hble
      obtain ⟨hx1, hx2⟩ := HB.out x (List.mem_of_getElem? hxi)
      have HPX := Lib.hid (And.intro p0 p1)
      clear p0 p1 hxi
      obtain ⟨wO, rfl⟩ : ∃ z, z = wr := ⟨_, rfl⟩
      go_wp2_with fail
      go_loopw [5] (fun jv wq => ∃ j : Nat, j ≤ O.length ∧ jv = .int .i64 (j : Int) ∧ (∀ k y, k < j → O[k]? = some y → befR y x = true) ∧ Fr nob wO wq) (fun jv _ => O.length - (intOf jv).toNat)
      case atStart => exact ⟨0, Nat.zero_le _, rfl, (fun k y h => absurd h (Nat.not_lt_zero _)), Fr.refl _ _⟩
      case round =>
        obtain ⟨j, hj, rfl, hall, hFq⟩ := hrel
        have HALL := Lib.hid hall
        have HFQ := Lib.hid hFq
        have p0 := hFq.cell HPX.out.1 (fun h => h)
        have p1 := hFq.cell HPX.out.2 (fun h => h)
        clear hall hFq
        by_cases hjl : j < O.length
        · have d2 : decide ((j : Int) < (O.length : Int)) = true := by simp; omega
          have d2' : decide (j < O.length) = true := by simp; omega
          obtain ⟨y, hy⟩ : ∃ y, O[j]? = some y := ⟨O[j], List.getElem?_eq_getElem hjl⟩
          obtain ⟨bo, hbe, q0, q1⟩ := (HN.out.row.kept HFQ.out).at hy
          subst hbe
          have HY := Lib.hid hy
          clear hy
          have hyb : y.1 < 2 ^ 32 ∧ y.2 < 2 ^ 32 := HB.out y (List.mem_of_mem_take (sortR_mem.1 (by rw [HOe.out]; exact List.mem_of_getElem? HY.out)))
          have hbe := before_any y.1 y.2 x.1 x.2 hyb.1 hyb.2 hx1 hx2
          cases hbb : befR (y.1, y.2) (x.1, x.2) with
          | true =>
            rw [hbb] at hbe
            have HBE := Lib.hid hbe
            have HBB := Lib.hid hbb
            clear hbe hbb hyb
            go_wp2_with fail
            refine wp_region_grow' 14 47 (fun _ => #[]) [] (by kernel_rfl) (by kernel_rfl) rfl rfl (by intro T h; cases h) ?_
            simp only [List.take_succ_cons, List.take_zero]
            refine grow_step (v := .int .i64 (j : Int)) rfl rfl ?s1 ?_
            case s1 =>
              intro w' hw'
              clear hw'
              refine growAt_value ?_
              go_simp
              try rfl
            simp only [Act.put, List.setIfInBounds_toArray, List.set_cons_zero, List.set_cons_succ]
            refine grow_step (v := .slice (some ⟨bo, 0, none⟩) O.length co) rfl rfl ?s2 ?_
            case s2 =>
              intro w' hw'
              clear hw'
              refine growAt_value ?_
              go_simp
              try rfl
            simp only [Act.put, List.setIfInBounds_toArray, List.set_cons_zero, List.set_cons_succ]
            refine grow_step (v := .int .i64 (O.length : Int)) rfl rfl ?s3 ?_
            case s3 =>
              intro w' hw'
              clear hw'
              refine growAt_value ?_
              go_simp
              try rfl
            simp only [Act.put, List.setIfInBounds_toArray, List.set_cons_zero, List.set_cons_succ]
            refine grow_step (v := .bool true) rfl rfl ?s4 ?_
            case s4 =>
              intro w' hw'
              clear hw'
              refine growAt_value ?_
              go_simp
              try rfl
            simp only [Act.put, List.setIfInBounds_toArray, List.set_cons_zero, List.set_cons_succ]
            refine grow_step (v := .bool true) rfl rfl ?s5 ?_
            case s5 =>
              intro w' hw'
              clear hw'
              refine growAt_value ?_
              go_simp
              try rfl
            simp only [Act.put, List.setIfInBounds_toArray, List.set_cons_zero, List.set_cons_succ]
            refine grow_step (v := .slice (some ⟨bo, 0, none⟩) O.length co) rfl rfl ?s6 ?_
            case s6 =>
              intro w' hw'
              clear hw'
              refine growAt_value ?_
              go_simp
              try rfl
            simp only [Act.put, List.setIfInBounds_toArray, List.set_cons_zero, List.set_cons_succ]
            refine grow_step (v := .int .i64 (j : Int)) rfl rfl ?s7 ?_
            case s7 =>
              intro w' hw'
              clear hw'
              refine growAt_value ?_
              go_simp
              try rfl
            simp only [Act.put, List.setIfInBounds_toArray, List.set_cons_zero, List.set_cons_succ]
            refine grow_step (v := .pointer (some ⟨bo, j * 2, none⟩)) rfl rfl ?s8 ?_
            case s8 =>
              intro w' hw'
              clear hw'
              refine growAt_value ?_
              go_simp
              try rfl
            simp only [Act.put, List.setIfInBounds_toArray, List.set_cons_zero, List.set_cons_succ]
            refine grow_step (v := .agg #[.int .u32 (y.1 : Int), .int .u32 (y.2 : Int)]) rfl rfl ?s9 ?_
            case s9 =>
              intro w' hw'
              have y0 := hw'.cell q0 (fun h => h)
              have y1 := hw'.cell q1 (fun h => h)
              clear hw'
              refine growAt_value ?_
              go_simp
              try rfl
            simp only [Act.put, List.setIfInBounds_toArray, List.set_cons_zero, List.set_cons_succ]
            refine grow_step (v := .slice (some ⟨bl, 0, none⟩) l.length cl) rfl rfl ?s10 ?_
            case s10 =>
              intro w' hw'
              clear hw'
              refine growAt_value ?_
              go_simp
              try rfl
            simp only [Act.put, List.setIfInBounds_toArray, List.set_cons_zero, List.set_cons_succ]
            refine grow_step (v := .int .i64 (i : Int)) rfl rfl ?s11 ?_
            case s11 =>
              intro w' hw'
              clear hw'
              refine growAt_value ?_
              go_simp
              try rfl
            simp only [Act.put, List.setIfInBounds_toArray, List.set_cons_zero, List.set_cons_succ]
            refine grow_step (v := .pointer (some ⟨bl, i * 2, none⟩)) rfl rfl ?s12 ?_
            case s12 =>
              intro w' hw'
              clear hw'
              refine growAt_value ?_
              go_simp
              try rfl
            simp only [Act.put, List.setIfInBounds_toArray, List.set_cons_zero, List.set_cons_succ]
            refine grow_step (v := .agg #[.int .u32 (x.1 : Int), .int .u32 (x.2 : Int)]) rfl rfl ?s13 ?_
            case s13 =>
              intro w' hw'
              have y0 := hw'.cell p0 (fun h => h)
              have y1 := hw'.cell p1 (fun h => h)
              clear hw'
              refine growAt_value ?_
              go_simp
              try rfl
            simp only [Act.put, List.setIfInBounds_toArray, List.set_cons_zero, List.set_cons_succ]
            refine grow_step (v := .bool true) rfl rfl ?s14 ?_
            case s14 =>
              intro w' hw'
              refine growAt_call ?_ ((HBE.out w').mono fun e w'' ⟨he, hb⟩ => ⟨he, (Fr.refl nob _).below hb⟩)
              clear hw'
              go_simp
            simp only [Act.put, List.setIfInBounds_toArray, List.set_cons_zero, List.set_cons_succ]
            refine grow_nil ?_
            rintro w8 listed fr8 - -
            have HF8 := Lib.hid (HFQ.out.trans fr8 (fun _ _ h => h))
            clear fr8 p0 p1 q0 q1 HFQ
            go_wp2_with fail
            go_roundw
            case rel => exact ⟨j + 1, by omega, by go_num, fun k z hk hz => by
              by_cases e : k = j
              · subst e
                have := HY.out
                rw [hz] at this
                obtain rfl : z = y := by simpa using this
                exact HBB.out
              · exact HALL.out k z (by omega) hz, HF8.out⟩
            case measure => simp [intOf]; omega
          | false =>
            rw [hbb] at hbe
            have HBE := Lib.hid hbe
            have HTW := Lib.hid (tw_take (p := fun z => befR z x) HALL.out hj (fun z hz => by
              have := HY.out
              rw [hz] at this
              obtain rfl : z = y := by simpa using this
              exact hbb))
            clear hbe hbb hyb
            go_wp2_with fail
            refine wp_region_grow' 14 47 (fun _ => #[]) [] (by kernel_rfl) (by kernel_rfl) rfl rfl (by intro T h; cases h) ?_
            simp only [List.take_succ_cons, List.take_zero]
            refine grow_step (v := .int .i64 (j : Int)) rfl rfl ?s15 ?_
            case s15 =>
              intro w' hw'
              clear hw'
              refine growAt_value ?_
              go_simp
              try rfl
            simp only [Act.put, List.setIfInBounds_toArray, List.set_cons_zero, List.set_cons_succ]
            refine grow_step (v := .slice (some ⟨bo, 0, none⟩) O.length co) rfl rfl ?s16 ?_
            case s16 =>
              intro w' hw'
              clear hw'
              refine growAt_value ?_
              go_simp
              try rfl
            simp only [Act.put, List.setIfInBounds_toArray, List.set_cons_zero, List.set_cons_succ]
            refine grow_step (v := .int .i64 (O.length : Int)) rfl rfl ?s17 ?_
            case s17 =>
              intro w' hw'
              clear hw'
              refine growAt_value ?_
              go_simp
              try rfl
            simp only [Act.put, List.setIfInBounds_toArray, List.set_cons_zero, List.set_cons_succ]
            refine grow_step (v := .bool true) rfl rfl ?s18 ?_
            case s18 =>
              intro w' hw'
              clear hw'
              refine growAt_value ?_
              go_simp
              try rfl
            simp only [Act.put, List.setIfInBounds_toArray, List.set_cons_zero, List.set_cons_succ]
            refine grow_step (v := .bool true) rfl rfl ?s19 ?_
            case s19 =>
              intro w' hw'
              clear hw'
              refine growAt_value ?_
              go_simp
              try rfl
            simp only [Act.put, List.setIfInBounds_toArray, List.set_cons_zero, List.set_cons_succ]
            refine grow_step (v := .slice (some ⟨bo, 0, none⟩) O.length co) rfl rfl ?s20 ?_
            case s20 =>
              intro w' hw'
              clear hw'
              refine growAt_value ?_
              go_simp
              try rfl
            simp only [Act.put, List.setIfInBounds_toArray, List.set_cons_zero, List.set_cons_succ]
            refine grow_step (v := .int .i64 (j : Int)) rfl rfl ?s21 ?_
            case s21 =>
              intro w' hw'
              clear hw'
              refine growAt_value ?_
              go_simp
              try rfl
            simp only [Act.put, List.setIfInBounds_toArray, List.set_cons_zero, List.set_cons_succ]
            refine grow_step (v := .pointer (some ⟨bo, j * 2, none⟩)) rfl rfl ?s22 ?_
            case s22 =>
              intro w' hw'
              clear hw'
              refine growAt_value ?_
              go_simp
              try rfl
            simp only [Act.put, List.setIfInBounds_toArray, List.set_cons_zero, List.set_cons_succ]
            refine grow_step (v := .agg #[.int .u32 (y.1 : Int), .int .u32 (y.2 : Int)]) rfl rfl ?s23 ?_
            case s23 =>
              intro w' hw'
              have y0 := hw'.cell q0 (fun h => h)
              have y1 := hw'.cell q1 (fun h => h)
              clear hw'
              refine growAt_value ?_
              go_simp
              try rfl
            simp only [Act.put, List.setIfInBounds_toArray, List.set_cons_zero, List.set_cons_succ]
            refine grow_step (v := .slice (some ⟨bl, 0, none⟩) l.length cl) rfl rfl ?s24 ?_
            case s24 =>
              intro w' hw'
              clear hw'
              refine growAt_value ?_
              go_simp
              try rfl
            simp only [Act.put, List.setIfInBounds_toArray, List.set_cons_zero, List.set_cons_succ]
            refine grow_step (v := .int .i64 (i : Int)) rfl rfl ?s25 ?_
            case s25 =>
              intro w' hw'
              clear hw'
              refine growAt_value ?_
              go_simp
              try rfl
            simp only [Act.put, List.setIfInBounds_toArray, List.set_cons_zero, List.set_cons_succ]
            refine grow_step (v := .pointer (some ⟨bl, i * 2, none⟩)) rfl rfl ?s26 ?_
            case s26 =>
              intro w' hw'
              clear hw'
              refine growAt_value ?_
              go_simp
              try rfl
            simp only [Act.put, List.setIfInBounds_toArray, List.set_cons_zero, List.set_cons_succ]
            refine grow_step (v := .agg #[.int .u32 (x.1 : Int), .int .u32 (x.2 : Int)]) rfl rfl ?s27 ?_
            case s27 =>
              intro w' hw'
              have y0 := hw'.cell p0 (fun h => h)
              have y1 := hw'.cell p1 (fun h => h)
              clear hw'
              refine growAt_value ?_
              go_simp
              try rfl
            simp only [Act.put, List.setIfInBounds_toArray, List.set_cons_zero, List.set_cons_succ]
            refine grow_step (v := .bool false) rfl rfl ?s28 ?_
            case s28 =>
              intro w' hw'
              refine growAt_call ?_ ((HBE.out w').mono fun e w'' ⟨he, hb⟩ => ⟨he, (Fr.refl nob _).below hb⟩)
              clear hw'
              go_simp
            simp only [Act.put, List.setIfInBounds_toArray, List.set_cons_zero, List.set_cons_succ]
            refine grow_nil ?_
            rintro w8 listed fr8 - -
            have HF8 := Lib.hid (HFQ.out.trans fr8 (fun _ _ h => h))
            clear fr8 p0 p1 q0 q1 HFQ
            generalize hwq : w8 = wq at *
            clear hwq
            have hnw := HN.out.kept HF8.out
            obtain ⟨g, hco, hcells⟩ : ∃ g, (some (⟨bo, 0, none⟩ : Addr) = some ⟨g, 0, none⟩ ∧ O.length ≤ co) ∧ ∀ k u, (pcells O)[k]? = some u → wq.cell? ⟨g, k, none⟩ = some u := by
              rcases hnw with ⟨rfl, h⟩ | ⟨_, g, cap, e, hc, hu⟩
              · simp at hjl
              · obtain ⟨e1, -, e2⟩ := (by simpa using e : bo = g ∧ True ∧ co = cap)
                exact ⟨g, ⟨by rw [e1], by omega⟩, hu⟩
            obtain ⟨hbg, hco⟩ := hco
            obtain rfl : bo = g := by simpa using hbg
            have hcj : ¬ (co = j) := by omega
            clear hnw hbg
            have hjc : (j : Int) ≤ (co : Int) := by omega
            have hjc' : j ≤ co := by omega
            have hj0 : (0 : Int) ≤ (j : Int) := by omega
            have HCE := Lib.hid hcells
            have HCJ := Lib.hid hcj
            clear hcells hcj hjl d2 d2'
            go_wp2_with (at_builtin; refine wpList_append_own _ rfl _ _ 45 rfl wq.heap.size 49 i0 (.agg #[.int .u32 0, .int .u32 0]) 2 8 Tryz.underlying45 hi0 hz0 hz1 hz2 rfl (by decide) _ 0 [] rfl (World.ownsRow_nil _ _ _ _) ⟨bo, 0, none⟩ j co (pcells (O.take j)) rfl ?na1 ?ca1 ?da1 ?ea1 ?fa1 ?ga1 ?_)
            case na1 => rw [pcells_length, List.length_take]; omega
            case ca1 =>
              intro q u hq
              have := HCE.out q u (pcells_take hq)
              by_cases h0 : q = 0
              · subst h0; simpa [Addr.add] using this
              · simpa [Addr.add, h0] using this
            case da1 => exact pcells_one _
            case ea1 => unfold maxLen; omega
            case fa1 => omega
            case ga1 => exact Nat.le_refl _
            intro v1 w1 own1 gr1 _
            have fA := own_fr (World.ownsRow_nil wq wq.heap.size 49 2) gr1 (Fr.refl _ wq)
            have lx0 := HF8.out.cell HPX.out.1 (fun h => h)
            have lx1 := HF8.out.cell HPX.out.2 (fun h => h)
            have hbl : bl < wq.heap.size := lt_of_cell lx0
            have p0 := fA.cell lx0 (show ¬ wq.heap.size ≤ bl by omega)
            have p1 := fA.cell lx1 (show ¬ wq.heap.size ≤ bl by omega)
            obtain ⟨d0, d1⟩ := two_cells' w1 (.int .u32 (x.1 : Int)) (.int .u32 (x.2 : Int)) 49
            have own1' := own1.alloc (.cells #[.int .u32 (x.1 : Int), .int .u32 (x.2 : Int)] 49)
            have HFA := Lib.hid (fA.alloc (.cells #[.int .u32 (x.1 : Int), .int .u32 (x.2 : Int)] 49))
            have hws : wq.heap.size ≤ (w1.alloc (.cells #[.int .u32 (x.1 : Int), .int .u32 (x.2 : Int)] 49)).heap.size := HFA.out.size
            clear own1 gr1 fA lx0 lx1
            go_wp2_with (at_builtin; refine wpList_append_own _ rfl _ _ 45 rfl wq.heap.size 49 i0 (.agg #[.int .u32 0, .int .u32 0]) 2 8 Tryz.underlying45 hi0 hz0 hz1 hz2 rfl (by decide) _ j (pcells (O.take j)) rfl own1' ⟨w1.heap.size, 0, none⟩ 1 1 [.int .u32 (x.1 : Int), .int .u32 (x.2 : Int)] rfl ?nb1 ?cb1 ?db1 ?eb1 ?fb1 ?gb1 ?_)
            case nb1 => rfl
            case cb1 =>
              intro q u hq
              match q, hq with
              | 0, h => simp at h; subst h; exact d0
              | 1, h => simp at h; subst h; exact d1
            case db1 => intro u hu; simp at hu; rcases hu with rfl | rfl <;> rfl
            case eb1 => unfold maxLen; omega
            case fb1 => omega
            case gb1 => exact hws
            intro v2 w2 own2 gr2 _
            have fB := own_fr own1' gr2 HFA.out
            have HFB := Lib.hid fB
            have hws2 : wq.heap.size ≤ w2.heap.size := fB.size
            clear p0 p1 d0 d1 own1' gr2 HFA hws fB
            have e1 : (j : Int) ≤ (O.length : Int) := by omega
            have e1' : j ≤ O.length := by omega
            have e2 : (O.length : Int) ≤ (co : Int) := by omega
            have e3 := HCJ.out
            go_wp2_with (at_builtin; refine wpList_append_own _ rfl _ _ 45 rfl wq.heap.size 49 i0 (.agg #[.int .u32 0, .int .u32 0]) 2 8 Tryz.underlying45 hi0 hz0 hz1 hz2 rfl (by decide) _ (j + 1) (pcells (O.take j) ++ [Value.int IntKind.u32 (x.1 : Int), Value.int IntKind.u32 (x.2 : Int)]) rfl own2 ⟨bo, j * 2, none⟩ (O.length - j) (co - j) (pcells (O.drop j)) rfl ?nc1 ?cc1 ?dc1 ?ec1 ?fc1 ?gc1 ?_)
            case nc1 => rw [pcells_length, List.length_drop]
            case cc1 =>
              intro q u hq
              have hc := HCE.out _ u (pcells_drop e1' hq)
              have hlt : bo < wq.heap.size := lt_of_cell hc
              have := HFB.out.cell hc (show ¬ wq.heap.size ≤ bo by omega)
              by_cases h0 : q = 0
              · subst h0; simpa [Addr.add] using this
              · simpa [Addr.add, h0] using this
            case dc1 => exact pcells_one _
            case ec1 => unfold maxLen; omega
            case fc1 => omega
            case gc1 => exact hws2
            intro v3 w3 own3 gr3 _
            have fC := own_fr own2 gr3 HFB.out
            have hR : sortR (l.take (i + 1)) = O.take j ++ x :: O.drop j := by rw [HT.out, insR, HTW.out.1, HTW.out.2]
            have hN3 : PNew w3 v3 (sortR (l.take (i + 1))) := by
              rw [hR]
              have e : pcells (O.take j ++ x :: O.drop j) = pcells (O.take j) ++ Value.int IntKind.u32 (x.1 : Int) :: Value.int IntKind.u32 (x.2 : Int) :: pcells (O.drop j) := by rw [pcells_append]; rfl
              exact PNew.of_own (n := j + 1 + (O.length - j)) (base := wq.heap.size) (T := 49) (by simp; omega) (by simp) (by rw [e]; exact own3)
            have hF3 : Fr nob w w3 := (HF.out.trans HF8.out (fun _ _ h => h)).trans ⟨fC.os, fC.tape, fC.output, fC.size, fun k hk _ => fC.block k hk (by show ¬ wq.heap.size ≤ k; omega)⟩ (fun _ _ h => h)
            clear own2 own3 gr3 fC HFB
            go_wp2_with fail
            go_roundw
            case rel => exact ⟨i + 1, by omega, by go_num, hN3, hF3⟩
            case measure => simp [intOf]; omega
        · have d2 : decide ((j : Int) < (O.length : Int)) = false := by simp; omega
          have d2' : decide (j < O.length) = false := by simp; omega
          have HTW := Lib.hid (tw_take (p := fun z => befR z x) HALL.out hj (fun z hz => by
            rw [List.getElem?_eq_none (by omega)] at hz; cases hz))
          go_wp2_with fail
          refine wp_region_grow' 14 47 (fun _ => #[]) [] (by kernel_rfl) (by kernel_rfl) rfl rfl (by intro T h; cases h) ?_
          simp only [List.take_succ_cons, List.take_zero]
          refine grow_step (v := .int .i64 (j : Int)) rfl rfl ?s29 ?_
          case s29 =>
            intro w' hw'
            clear hw'
            refine growAt_value ?_
            go_simp
            try rfl
          simp only [Act.put, List.setIfInBounds_toArray, List.set_cons_zero, List.set_cons_succ]
          refine grow_step (v := .slice ao O.length co) rfl rfl ?s30 ?_
          case s30 =>
            intro w' hw'
            clear hw'
            refine growAt_value ?_
            go_simp
            try rfl
          simp only [Act.put, List.setIfInBounds_toArray, List.set_cons_zero, List.set_cons_succ]
          refine grow_step (v := .int .i64 (O.length : Int)) rfl rfl ?s31 ?_
          case s31 =>
            intro w' hw'
            clear hw'
            refine growAt_value ?_
            go_simp
            try rfl
          simp only [Act.put, List.setIfInBounds_toArray, List.set_cons_zero, List.set_cons_succ]
          refine grow_step (v := .bool false) rfl rfl ?s32 ?_
          case s32 =>
            intro w' hw'
            clear hw'
            refine growAt_value ?_
            go_simp
            try rfl
          simp only [Act.put, List.setIfInBounds_toArray, List.set_cons_zero, List.set_cons_succ]
          refine grow_step (v := .bool false) rfl rfl ?s33 ?_
          case s33 =>
            intro w' hw'
            clear hw'
            refine growAt_value ?_
            go_simp
            try rfl
          simp only [Act.put, List.setIfInBounds_toArray, List.set_cons_zero, List.set_cons_succ]
          refine grow_skip rfl rfl ?_
          simp only [Act.put, List.setIfInBounds_toArray, List.set_cons_zero, List.set_cons_succ]
          refine grow_skip rfl rfl ?_
          simp only [Act.put, List.setIfInBounds_toArray, List.set_cons_zero, List.set_cons_succ]
          refine grow_skip rfl rfl ?_
          simp only [Act.put, List.setIfInBounds_toArray, List.set_cons_zero, List.set_cons_succ]
          refine grow_skip rfl rfl ?_
          simp only [Act.put, List.setIfInBounds_toArray, List.set_cons_zero, List.set_cons_succ]
          refine grow_skip rfl rfl ?_
          simp only [Act.put, List.setIfInBounds_toArray, List.set_cons_zero, List.set_cons_succ]
          refine grow_skip rfl rfl ?_
          simp only [Act.put, List.setIfInBounds_toArray, List.set_cons_zero, List.set_cons_succ]
          refine grow_skip rfl rfl ?_
          simp only [Act.put, List.setIfInBounds_toArray, List.set_cons_zero, List.set_cons_succ]
          refine grow_skip rfl rfl ?_
          simp only [Act.put, List.setIfInBounds_toArray, List.set_cons_zero, List.set_cons_succ]
          refine grow_skip rfl rfl ?_
          simp only [Act.put, List.setIfInBounds_toArray, List.set_cons_zero, List.set_cons_succ]
          refine grow_nil ?_
          rintro w8 listed fr8 - -
          have HF8 := Lib.hid (HFQ.out.trans fr8 (fun _ _ h => h))
          clear fr8 p0 p1 HFQ
          have hjO : j = O.length := by omega
          have HJO := Lib.hid hjO
          generalize hwq : w8 = wq at *
          clear hwq
          rcases HN.out.kept HF8.out with ⟨hO0, hv0⟩ | ⟨hne, bo, cap, hv0, hco, hcells⟩
          · have hl0 : O.length = 0 := by rw [hO0]; rfl
            have e1 : ao = none ∧ co = 0 := by simp at hv0; exact ⟨hv0.1, hv0.2.2⟩
            obtain ⟨rfl, rfl⟩ := e1
            obtain rfl : j = 0 := by omega
            have p0 := HF8.out.cell HPX.out.1 (fun h => h)
            have p1 := HF8.out.cell HPX.out.2 (fun h => h)
            obtain ⟨d0, d1⟩ := two_cells' wq (.int .u32 (x.1 : Int)) (.int .u32 (x.2 : Int)) 49
            have hws : wq.heap.size ≤ (wq.alloc (.cells #[.int .u32 (x.1 : Int), .int .u32 (x.2 : Int)] 49)).heap.size := ((Fr.refl nob wq).alloc _).size
            have HO0 := Lib.hid hO0
            clear hv0 hO0 d2 d2' hjl hjO HJO
            simp only [hl0]
            go_wp2_with (at_builtin; first | refine wpList_append_own_none rfl _ _ 45 rfl wq.heap.size 49 i0 2 Tryz.underlying45 hi0 _ 0 [] rfl (World.ownsRow_nil _ _ _ _) rfl ?_ | refine wpList_append_own _ rfl _ _ 45 rfl wq.heap.size 49 i0 (.agg #[.int .u32 0, .int .u32 0]) 2 8 Tryz.underlying45 hi0 hz0 hz1 hz2 rfl (by decide) _ 0 [] rfl (World.ownsRow_nil _ _ _ _) ⟨wq.heap.size, 0, none⟩ 1 1 [Value.int IntKind.u32 (x.1 : Int), Value.int IntKind.u32 (x.2 : Int)] rfl ?nz ?cz ?dz ?ez ?fz ?gz ?_)
            case nz => rfl
            case cz =>
              intro q u hq
              match q, hq with
              | 0, h => simp at h; subst h; exact d0
              | 1, h => simp at h; subst h; exact d1
            case dz => intro u hu; simp at hu; rcases hu with rfl | rfl <;> rfl
            case ez => unfold maxLen; omega
            case fz => omega
            case gz => exact hws
            intro v2 w2 own2 gr2 _
            have fB := own_fr (World.ownsRow_nil _ wq.heap.size 49 2) gr2 ((Fr.refl (fun k => wq.heap.size ≤ k) wq).alloc _)
            have hR : sortR (l.take (i + 1)) = [x] := by rw [HT.out, HO0.out]; rfl
            have hN3 : PNew w2 v2 (sortR (l.take (i + 1))) := by
              rw [hR]
              exact PNew.of_own (n := 1) (base := wq.heap.size) (T := 49) rfl (by simp) (by first | exact own2 | (simpa using own2))
            have hF3 : Fr nob w w2 := (HF.out.trans HF8.out (fun _ _ h => h)).trans ⟨fB.os, fB.tape, fB.output, fB.size, fun k hk _ => fB.block k hk (by show ¬ wq.heap.size ≤ k; omega)⟩ (fun _ _ h => h)
            clear fB gr2 p0 p1 d0 d1
            go_wp2_with (at_builtin; refine wpList_append_own_none rfl _ _ 45 rfl wq.heap.size 49 i0 2 Tryz.underlying45 hi0 _ 1 [Value.int IntKind.u32 (x.1 : Int), Value.int IntKind.u32 (x.2 : Int)] rfl own2 rfl ?_)
            go_roundw
            case rel => exact ⟨i + 1, by omega, by go_num, hN3, hF3⟩
            case measure => simp [intOf]; omega
          · obtain ⟨e1, -, e2⟩ := (by simpa using hv0 : ao = some ⟨bo, 0, none⟩ ∧ True ∧ co = cap)
            subst e1
            subst e2
            clear hv0
            by_cases hcj : co = j
            · clear hjO
              have hjc : (j : Int) ≤ (co : Int) := by omega
              have hjc' : j ≤ co := by omega
              have hj0 : (0 : Int) ≤ (j : Int) := by omega
              have HCE := Lib.hid hcells
              have HCJ := Lib.hid hcj
              clear hcells hcj hjl d2 d2'
              go_wp2_with (at_builtin; refine wpList_append_own _ rfl _ _ 45 rfl wq.heap.size 49 i0 (.agg #[.int .u32 0, .int .u32 0]) 2 8 Tryz.underlying45 hi0 hz0 hz1 hz2 rfl (by decide) _ 0 [] rfl (World.ownsRow_nil _ _ _ _) ⟨bo, 0, none⟩ j co (pcells (O.take j)) rfl ?na3 ?ca3 ?da3 ?ea3 ?fa3 ?ga3 ?_)
              case na3 => rw [pcells_length, List.length_take]; omega
              case ca3 =>
                intro q u hq
                have := HCE.out q u (pcells_take hq)
                by_cases h0 : q = 0
                · subst h0; simpa [Addr.add] using this
                · simpa [Addr.add, h0] using this
              case da3 => exact pcells_one _
              case ea3 => unfold maxLen; omega
              case fa3 => omega
              case ga3 => exact Nat.le_refl _
              intro v1 w1 own1 gr1 _
              have fA := own_fr (World.ownsRow_nil wq wq.heap.size 49 2) gr1 (Fr.refl _ wq)
              have lx0 := HF8.out.cell HPX.out.1 (fun h => h)
              have lx1 := HF8.out.cell HPX.out.2 (fun h => h)
              have hbl : bl < wq.heap.size := lt_of_cell lx0
              have p0 := fA.cell lx0 (show ¬ wq.heap.size ≤ bl by omega)
              have p1 := fA.cell lx1 (show ¬ wq.heap.size ≤ bl by omega)
              obtain ⟨d0, d1⟩ := two_cells' w1 (.int .u32 (x.1 : Int)) (.int .u32 (x.2 : Int)) 49
              have own1' := own1.alloc (.cells #[.int .u32 (x.1 : Int), .int .u32 (x.2 : Int)] 49)
              have HFA := Lib.hid (fA.alloc (.cells #[.int .u32 (x.1 : Int), .int .u32 (x.2 : Int)] 49))
              have hws : wq.heap.size ≤ (w1.alloc (.cells #[.int .u32 (x.1 : Int), .int .u32 (x.2 : Int)] 49)).heap.size := HFA.out.size
              clear own1 gr1 fA lx0 lx1
              go_wp2_with (at_builtin; refine wpList_append_own _ rfl _ _ 45 rfl wq.heap.size 49 i0 (.agg #[.int .u32 0, .int .u32 0]) 2 8 Tryz.underlying45 hi0 hz0 hz1 hz2 rfl (by decide) _ j (pcells (O.take j)) rfl own1' ⟨w1.heap.size, 0, none⟩ 1 1 [.int .u32 (x.1 : Int), .int .u32 (x.2 : Int)] rfl ?nb3 ?cb3 ?db3 ?eb3 ?fb3 ?gb3 ?_)
              case nb3 => rfl
              case cb3 =>
                intro q u hq
                match q, hq with
                | 0, h => simp at h; subst h; exact d0
                | 1, h => simp at h; subst h; exact d1
              case db3 => intro u hu; simp at hu; rcases hu with rfl | rfl <;> rfl
              case eb3 => unfold maxLen; omega
              case fb3 => omega
              case gb3 => exact hws
              intro v2 w2 own2 gr2 _
              have fB := own_fr own1' gr2 HFA.out
              have HFB := Lib.hid fB
              have hws2 : wq.heap.size ≤ w2.heap.size := fB.size
              clear p0 p1 d0 d1 own1' gr2 HFA hws fB
              have e1 : (j : Int) ≤ (O.length : Int) := by omega
              have e1' : j ≤ O.length := by omega
              have e2 : (O.length : Int) ≤ (co : Int) := by omega
              have e3 := HCJ.out
              go_wp2_with (at_builtin; refine wpList_append_own _ rfl _ _ 45 rfl wq.heap.size 49 i0 (.agg #[.int .u32 0, .int .u32 0]) 2 8 Tryz.underlying45 hi0 hz0 hz1 hz2 rfl (by decide) _ (j + 1) (pcells (O.take j) ++ [Value.int IntKind.u32 (x.1 : Int), Value.int IntKind.u32 (x.2 : Int)]) rfl own2 ⟨bo, 0, none⟩ (O.length - j) 0 (pcells (O.drop j)) rfl ?nc3 ?cc3 ?dc3 ?ec3 ?fc3 ?gc3 ?_)
              case nc3 => rw [pcells_length, List.length_drop]
              case cc3 =>
                intro q u hq
                rw [List.drop_eq_nil_of_le (Nat.le_of_eq HJO.out.symm)] at hq; simp [pcells] at hq
              case dc3 => exact pcells_one _
              case ec3 => unfold maxLen; omega
              case fc3 => omega
              case gc3 => exact hws2
              intro v3 w3 own3 gr3 _
              have fC := own_fr own2 gr3 HFB.out
              have hR : sortR (l.take (i + 1)) = O.take j ++ x :: O.drop j := by rw [HT.out, insR, HTW.out.1, HTW.out.2]
              have hN3 : PNew w3 v3 (sortR (l.take (i + 1))) := by
                rw [hR]
                have e : pcells (O.take j ++ x :: O.drop j) = pcells (O.take j) ++ Value.int IntKind.u32 (x.1 : Int) :: Value.int IntKind.u32 (x.2 : Int) :: pcells (O.drop j) := by rw [pcells_append]; rfl
                exact PNew.of_own (n := j + 1 + (O.length - j)) (base := wq.heap.size) (T := 49) (by simp; omega) (by simp) (by rw [e]; exact own3)
              have hF3 : Fr nob w w3 := (HF.out.trans HF8.out (fun _ _ h => h)).trans ⟨fC.os, fC.tape, fC.output, fC.size, fun k hk _ => fC.block k hk (by show ¬ wq.heap.size ≤ k; omega)⟩ (fun _ _ h => h)
              clear own2 own3 gr3 fC HFB
              go_wp2_with fail
              go_roundw
              case rel => exact ⟨i + 1, by omega, by go_num, hN3, hF3⟩
              case measure => simp [intOf]; omega
            · clear hjO
              have hjc : (j : Int) ≤ (co : Int) := by omega
              have hjc' : j ≤ co := by omega
              have hj0 : (0 : Int) ≤ (j : Int) := by omega
              have HCE := Lib.hid hcells
              have HCJ := Lib.hid hcj
              clear hcells hcj hjl d2 d2'
              go_wp2_with (at_builtin; refine wpList_append_own _ rfl _ _ 45 rfl wq.heap.size 49 i0 (.agg #[.int .u32 0, .int .u32 0]) 2 8 Tryz.underlying45 hi0 hz0 hz1 hz2 rfl (by decide) _ 0 [] rfl (World.ownsRow_nil _ _ _ _) ⟨bo, 0, none⟩ j co (pcells (O.take j)) rfl ?na2 ?ca2 ?da2 ?ea2 ?fa2 ?ga2 ?_)
              case na2 => rw [pcells_length, List.length_take]; omega
              case ca2 =>
                intro q u hq
                have := HCE.out q u (pcells_take hq)
                by_cases h0 : q = 0
                · subst h0; simpa [Addr.add] using this
                · simpa [Addr.add, h0] using this
              case da2 => exact pcells_one _
              case ea2 => unfold maxLen; omega
              case fa2 => omega
              case ga2 => exact Nat.le_refl _
              intro v1 w1 own1 gr1 _
              have fA := own_fr (World.ownsRow_nil wq wq.heap.size 49 2) gr1 (Fr.refl _ wq)
              have lx0 := HF8.out.cell HPX.out.1 (fun h => h)
              have lx1 := HF8.out.cell HPX.out.2 (fun h => h)
              have hbl : bl < wq.heap.size := lt_of_cell lx0
              have p0 := fA.cell lx0 (show ¬ wq.heap.size ≤ bl by omega)
              have p1 := fA.cell lx1 (show ¬ wq.heap.size ≤ bl by omega)
              obtain ⟨d0, d1⟩ := two_cells' w1 (.int .u32 (x.1 : Int)) (.int .u32 (x.2 : Int)) 49
              have own1' := own1.alloc (.cells #[.int .u32 (x.1 : Int), .int .u32 (x.2 : Int)] 49)
              have HFA := Lib.hid (fA.alloc (.cells #[.int .u32 (x.1 : Int), .int .u32 (x.2 : Int)] 49))
              have hws : wq.heap.size ≤ (w1.alloc (.cells #[.int .u32 (x.1 : Int), .int .u32 (x.2 : Int)] 49)).heap.size := HFA.out.size
              clear own1 gr1 fA lx0 lx1
              go_wp2_with (at_builtin; refine wpList_append_own _ rfl _ _ 45 rfl wq.heap.size 49 i0 (.agg #[.int .u32 0, .int .u32 0]) 2 8 Tryz.underlying45 hi0 hz0 hz1 hz2 rfl (by decide) _ j (pcells (O.take j)) rfl own1' ⟨w1.heap.size, 0, none⟩ 1 1 [.int .u32 (x.1 : Int), .int .u32 (x.2 : Int)] rfl ?nb2 ?cb2 ?db2 ?eb2 ?fb2 ?gb2 ?_)
              case nb2 => rfl
              case cb2 =>
                intro q u hq
                match q, hq with
                | 0, h => simp at h; subst h; exact d0
                | 1, h => simp at h; subst h; exact d1
              case db2 => intro u hu; simp at hu; rcases hu with rfl | rfl <;> rfl
              case eb2 => unfold maxLen; omega
              case fb2 => omega
              case gb2 => exact hws
              intro v2 w2 own2 gr2 _
              have fB := own_fr own1' gr2 HFA.out
              have HFB := Lib.hid fB
              have hws2 : wq.heap.size ≤ w2.heap.size := fB.size
              clear p0 p1 d0 d1 own1' gr2 HFA hws fB
              have e1 : (j : Int) ≤ (O.length : Int) := by omega
              have e1' : j ≤ O.length := by omega
              have e2 : (O.length : Int) ≤ (co : Int) := by omega
              have e3 := HCJ.out
              go_wp2_with (at_builtin; refine wpList_append_own _ rfl _ _ 45 rfl wq.heap.size 49 i0 (.agg #[.int .u32 0, .int .u32 0]) 2 8 Tryz.underlying45 hi0 hz0 hz1 hz2 rfl (by decide) _ (j + 1) (pcells (O.take j) ++ [Value.int IntKind.u32 (x.1 : Int), Value.int IntKind.u32 (x.2 : Int)]) rfl own2 ⟨bo, j * 2, none⟩ (O.length - j) (co - j) (pcells (O.drop j)) rfl ?nc2 ?cc2 ?dc2 ?ec2 ?fc2 ?gc2 ?_)
              case nc2 => rw [pcells_length, List.length_drop]
              case cc2 =>
                intro q u hq
                have hc := HCE.out _ u (pcells_drop e1' hq)
                have hlt : bo < wq.heap.size := lt_of_cell hc
                have := HFB.out.cell hc (show ¬ wq.heap.size ≤ bo by omega)
                by_cases h0 : q = 0
                · subst h0; simpa [Addr.add] using this
                · simpa [Addr.add, h0] using this
              case dc2 => exact pcells_one _
              case ec2 => unfold maxLen; omega
              case fc2 => omega
              case gc2 => exact hws2
              intro v3 w3 own3 gr3 _
              have fC := own_fr own2 gr3 HFB.out
              have hR : sortR (l.take (i + 1)) = O.take j ++ x :: O.drop j := by rw [HT.out, insR, HTW.out.1, HTW.out.2]
              have hN3 : PNew w3 v3 (sortR (l.take (i + 1))) := by
                rw [hR]
                have e : pcells (O.take j ++ x :: O.drop j) = pcells (O.take j) ++ Value.int IntKind.u32 (x.1 : Int) :: Value.int IntKind.u32 (x.2 : Int) :: pcells (O.drop j) := by rw [pcells_append]; rfl
                exact PNew.of_own (n := j + 1 + (O.length - j)) (base := wq.heap.size) (T := 49) (by simp; omega) (by simp) (by rw [e]; exact own3)
              have hF3 : Fr nob w w3 := (HF.out.trans HF8.out (fun _ _ h => h)).trans ⟨fC.os, fC.tape, fC.output, fC.size, fun k hk _ => fC.block k hk (by show ¬ wq.heap.size ≤ k; omega)⟩ (fun _ _ h => h)
              clear own2 own3 gr3 fC HFB
              go_wp2_with fail
              go_roundw
              case rel => exact ⟨i + 1, by omega, by go_num, hN3, hF3⟩
              case measure => simp [intOf]; omega
    · have d1 : decide ((i : Int) < (l.length : Int)) = false := by simp; omega
      have d1' : decide (i < l.length) = false := by simp; omega
      obtain rfl : i = l.length := by omega
      go_wp2_with fail
      go_ret
      exact ⟨_, rfl, by have := HN.out.row; first | exact (by simpa using this) | exact this, HF.out.to_below (Nat.le_refl _) (fun _ h => h.elim)⟩
end Go.Proofs.YtalnhlebgofiiaaGreatDoor
