import Derived.Test.YtbiheajnmjbdoaaQe1
import Derived.Test.YtbiheajnmjbdoaaQd3
import Derived.Test.YtbiheajnmjbdoaaQe5
namespace Go.Proofs.Ytbiheajnmjbdoaa
open Go.RowKit

/-! sizes of what is put together -/
structure Mod (t : Tr) : Prop where
  len : (preP t).length ≤ 1000000
  nms : ∀ u ∈ preP t, (nmT2 u).length ≤ 100
theorem Mild.mod {t : Tr} (h : Mild t) : Mod t := ⟨by have := h.len; omega, h.nms⟩
mutual
theorem tame_of2 : ∀ {t : Tr}, (preP t).length ≤ 1000000 → (∀ u ∈ preP t, (nmT2 u).length ≤ 100) → tame t = true ∧ wide t = true
  | .mk op nm kids, h1, h2 => by
    rw [preP] at h1 h2
    rw [List.length_cons] at h1
    have hk := kids_le (kids := kids)
    have hn : nm.length ≤ 100 := h2 _ List.mem_cons_self
    have ih := tame_of2L (ts := kids) (by omega) fun u hu => h2 u (List.mem_cons_of_mem _ hu)
    constructor
    · rw [tame, Bool.and_eq_true, Bool.and_eq_true, decide_eq_true_iff, decide_eq_true_iff]
      exact ⟨⟨by omega, by omega⟩, ih.1⟩
    · rw [wide, Bool.and_eq_true, Bool.and_eq_true, decide_eq_true_iff, decide_eq_true_iff]
      exact ⟨⟨by omega, by omega⟩, ih.2⟩
theorem tame_of2L : ∀ {ts : List Tr}, (preL ts).length ≤ 1000000 → (∀ u ∈ preL ts, (nmT2 u).length ≤ 100) → tameL ts = true ∧ wideL ts = true
  | [], _, _ => by rw [tameL, wideL]; exact ⟨rfl, rfl⟩
  | t :: ts, h1, h2 => by
    rw [preL] at h1 h2
    rw [List.length_append] at h1
    have a := tame_of2 (t := t) (by omega) fun u hu => h2 u (List.mem_append_left _ hu)
    have b := tame_of2L (ts := ts) (by omega) fun u hu => h2 u (List.mem_append_right _ hu)
    rw [tameL, wideL, Bool.and_eq_true, Bool.and_eq_true]
    exact ⟨⟨a.1, b.1⟩, a.2, b.2⟩
end
theorem Mod.tame {t : Tr} (h : Mod t) : tame t = true := (tame_of2 h.len h.nms).1
theorem Mod.wide {t : Tr} (h : Mod t) : wide t = true := (tame_of2 h.len h.nms).2
mutual
theorem rep_len {s : List UInt8} {tb : Tr} : ∀ {t : Tr}, (preP (repP s tb t)).length ≤ (preP t).length * (preP tb).length
  | .mk op nm kids => by
    have hp := preP_pos tb
    rw [repP]
    split
    · rw [preP, List.length_cons, Nat.add_mul, Nat.one_mul]; omega
    · have ih := repL_len (s := s) (tb := tb) (ts := kids)
      rw [preP, preP, List.length_cons, List.length_cons, Nat.add_mul, Nat.one_mul]
      omega
theorem repL_len {s : List UInt8} {tb : Tr} : ∀ {ts : List Tr}, (preL (repL s tb ts)).length ≤ (preL ts).length * (preP tb).length
  | [] => by rw [repL, preL]; simp
  | t :: ts => by
    have a := rep_len (s := s) (tb := tb) (t := t)
    have b := repL_len (s := s) (tb := tb) (ts := ts)
    rw [repL, preL, preL, List.length_append, List.length_append, Nat.add_mul]
    omega
end
mutual
theorem rep_nms {s : List UInt8} {tb : Tr} (hb : ∀ u ∈ preP tb, (nmT2 u).length ≤ 100) : ∀ {t : Tr}, (∀ u ∈ preP t, (nmT2 u).length ≤ 100) → ∀ u ∈ preP (repP s tb t), (nmT2 u).length ≤ 100
  | .mk op nm kids, h, u, hu => by
    rw [repP] at hu
    rw [preP] at h
    split at hu
    · exact hb u hu
    · rw [preP] at hu
      rcases List.mem_cons.1 hu with rfl | hu
      · exact h (.mk op nm kids) List.mem_cons_self
      · exact repL_nms hb (fun x hx => h x (List.mem_cons_of_mem _ hx)) u hu
theorem repL_nms {s : List UInt8} {tb : Tr} (hb : ∀ u ∈ preP tb, (nmT2 u).length ≤ 100) : ∀ {ts : List Tr}, (∀ u ∈ preL ts, (nmT2 u).length ≤ 100) → ∀ u ∈ preL (repL s tb ts), (nmT2 u).length ≤ 100
  | [], _, u, hu => by rw [repL, preL] at hu; cases hu
  | t :: ts, h, u, hu => by
    rw [repL, preL] at hu
    rw [preL] at h
    rcases List.mem_append.1 hu with hu | hu
    · exact rep_nms hb (fun x hx => h x (List.mem_append_left _ hx)) u hu
    · exact repL_nms hb (fun x hx => h x (List.mem_append_right _ hx)) u hu
end
theorem rep_mod {s : List UInt8} {t tb : Tr} (ht : Mild t) (hb : Mild tb) (h : (preP t).length ≤ 100 ∨ (preP tb).length ≤ 100) : Mod (repP s tb t) := by
  refine ⟨?_, rep_nms hb.nms ht.nms⟩
  have h1 := rep_len (s := s) (tb := tb) (t := t)
  have h2 := ht.len
  have h3 := hb.len
  have h4 : (preP t).length * (preP tb).length ≤ 120000 := by
    rcases h with h | h
    · calc (preP t).length * (preP tb).length ≤ 100 * 1200 := Nat.mul_le_mul h h3
        _ ≤ 120000 := by decide
    · calc (preP t).length * (preP tb).length ≤ 1200 * 100 := Nat.mul_le_mul h2 h
        _ ≤ 120000 := by decide
  omega
/-- the error and the tree of Replace -/
def rvP (s : List UInt8) (t tb : Tr) : Nat × Tr :=
  if validB t = false ∨ validB tb = false then (2, zeroT) else if nameB s = false then (6, zeroT) else if validB (repP s tb t) = false then (5, zeroT) else (0, repP s tb t)
theorem zero_trS (w : World) (lo hi : Nat) : TrS w zeroT lo hi (.agg #[.int .u8 0, .string ⟨#[]⟩, .slice none 0 0]) := by
  unfold zeroT
  rw [TrS]
  exact ⟨none, 0, rfl, fun h => absurd rfl h⟩
def RvPost (w : World) (r : Nat × Tr) (e : Ending) (w' : World) : Prop := ∃ v', e = .returned (.tuple #[v', .int .i64 (r.1 : Int)]) ∧ TrS w' r.2 w.heap.size w'.heap.size v' ∧ Fr nob w w'
set_option maxRecDepth 20000 in
set_option maxHeartbeats 8000000 in
theorem replace_any (s : List UInt8) (t tb : Tr) (v vb : Value) (S : Nat → Prop) (w : World) (hs : s.length ≤ 9223372036854775807) (ht : Mod t) (htb : Mod tb) (hr : Mod (repP s tb t)) (hS : ∀ b, S b → b < w.heap.size) (hT : TrO w S t v) (hTb : TrO w S tb vb) :
    Calls Try.prog 26 #[v, .string (txt s), vb] w (RvPost w (rvP s t tb)) := by
  obtain ⟨op, nm, a, nk, cp, rfl⟩ := hT.form
  obtain ⟨ob, nmb, ab, nb, cb, rfl⟩ := hTb.form
  obtain ⟨W1, hW1⟩ : ∃ W1, ((w.alloc (.cells #[.int .u8 (op : Int), .string (txt nm), .slice a nk cp] 25)).alloc (.cells #[.int .u8 (ob : Int), .string (txt nmb), .slice ab nb cb] 25)).alloc (.cells #[.int .u8 0, .string ⟨#[]⟩, .slice none 0 0] 25) = W1 := ⟨_, rfl⟩
  have A1 : Fr nob w W1 := by rw [← hW1]; exact (((Fr.refl nob w).alloc _).alloc _).alloc _
  have hbx : Box3 W1 w.heap.size (.int .u8 (op : Int)) (.string (txt nm)) (.slice a nk cp) := by
    rw [← hW1]; exact (Box3.new w _ _ _ _).kept (((Fr.refl nob _).alloc _).alloc _) (fun h => h)
  have hby : Box3 W1 (w.heap.size + 1) (.int .u8 (ob : Int)) (.string (txt nmb)) (.slice ab nb cb) := by
    have h := (Box3.new (w.alloc (.cells #[.int .u8 (op : Int), .string (txt nm), .slice a nk cp] 25)) (.int .u8 (ob : Int)) (.string (txt nmb)) (.slice ab nb cb) 25).kept ((Fr.refl nob _).alloc (.cells #[.int .u8 0, .string ⟨#[]⟩, .slice none 0 0] 25)) (fun h => h)
    rw [hW1, World.size_alloc] at h; exact h
  have hbz : Box3 W1 (w.heap.size + 2) (.int .u8 0) (.string ⟨#[]⟩) (.slice none 0 0) := by
    have h := Box3.new ((w.alloc (.cells #[.int .u8 (op : Int), .string (txt nm), .slice a nk cp] 25)).alloc (.cells #[.int .u8 (ob : Int), .string (txt nmb), .slice ab nb cb] 25)) (.int .u8 0) (.string ⟨#[]⟩) (.slice none 0 0) 25
    rw [hW1, World.size_alloc, World.size_alloc] at h; exact h
  have hz1 : W1.heap.size = w.heap.size + 3 := by rw [← hW1]; simp
  have HS := Lib.hid hS
  have HMT := Lib.hid ht
  have HMB := Lib.hid htb
  have HMR := Lib.hid hr
  have HT := Lib.hid hT
  have HTB := Lib.hid hTb
  have HBX := Lib.hid hbx
  have HBY := Lib.hid hby
  have HBZ := Lib.hid hbz
  have HF1 := Lib.hid A1
  have HZ1 := Lib.hid hz1
  have hV := valid_any t _ S W1 ht.tame (hT.kept A1 (fun b h _ => ⟨fun h => h, h⟩))
  obtain ⟨R, hR⟩ : ∃ R, rvP s t tb = R := ⟨_, rfl⟩
  rw [hR]
  unfold rvP at hR
  have HR := Lib.hid hR
  have ⟨b0, b1, b2, _⟩ := hbx
  clear hS hT hTb A1 hbx hby hbz hz1 ht htb hr hR
  go_enter Try.func26, Try.ntmps26
  go_upto_region 1 with fail
  (try rw [hW1])
  clear hW1
  cases hv1 : validB t with
  | false =>
    rw [hv1] at hV
    obtain rfl : (2, zeroT) = R := by rw [← HR.out, if_pos (.inl hv1)]
    clear hv1
    go_wp2_with fail
    refine hV.mono ?_
    rintro e w2 ⟨rfl, F2⟩
    have HF2 := Lib.hid (HF1.out.trans F2 (fun _ _ h => h))
    have HBZ2 := Lib.hid (HBZ.out.kept F2 (fun h => h))
    clear F2 hV b0 b1 b2
    have ⟨d0, d1, d2, df⟩ := HBZ2.out
    have df0 := df 0
    have df1 := df 1
    have df2 := df 2
    clear df
    go_wp2_with fail
    obtain ⟨X, FX⟩ := HBZ2.out.set (.int .u8 0) (.string ⟨#[]⟩) (.slice none 0 0)
    have F7 := HF2.out.trans' (T := nob) FX (fun _ _ h => h) (fun j hj h => by have e : j = w.heap.size + 2 := h; omega)
    have x0 := X.c0
    have x1 := X.c1
    have x2 := X.c2
    have T7 : TrS (((w2.setCell ⟨w.heap.size + 2, 0, none⟩ (.int .u8 0)).setCell ⟨w.heap.size + 2, 1, none⟩ (.string ⟨#[]⟩)).setCell ⟨w.heap.size + 2, 2, none⟩ (.slice none 0 0)) zeroT w.heap.size (((w2.setCell ⟨w.heap.size + 2, 0, none⟩ (.int .u8 0)).setCell ⟨w.heap.size + 2, 1, none⟩ (.string ⟨#[]⟩)).setCell ⟨w.heap.size + 2, 2, none⟩ (.slice none 0 0)).heap.size (.agg #[.int .u8 0, .string ⟨#[]⟩, .slice none 0 0]) := zero_trS _ _ _
    clear d0 d1 d2 df0 df1 df2 X FX
    generalize ((w2.setCell ⟨w.heap.size + 2, 0, none⟩ (.int .u8 0)).setCell ⟨w.heap.size + 2, 1, none⟩ (.string ⟨#[]⟩)).setCell ⟨w.heap.size + 2, 2, none⟩ (.slice none 0 0) = w7 at *
    exact bodyPost_ret (v := .tuple #[.agg #[.int .u8 0, .string ⟨#[]⟩, .slice none 0 0], .int .i64 2]) (by simp [results, Try.results26, go_sem, x0, x1, x2]) rfl ⟨_, rfl, T7, F7⟩
  | true =>
    rw [hv1] at hV
    have HV1 := Lib.hid hv1
    clear hv1
    go_wp2_with fail
    refine hV.mono ?_
    rintro e w2 ⟨rfl, F2⟩
    have F2' := HF1.out.trans F2 (fun _ _ h => h)
    have HF2 := Lib.hid F2'
    have HBX2 := Lib.hid (HBX.out.kept F2 (fun h => h))
    have HBY2 := Lib.hid (HBY.out.kept F2 (fun h => h))
    have HBZ2 := Lib.hid (HBZ.out.kept F2 (fun h => h))
    have hVb := valid_any tb _ S w2 HMB.out.tame (HTB.out.kept F2' (fun b h _ => ⟨fun h => h, h⟩))
    have ⟨y0, y1, y2, _⟩ := HBY2.out
    clear F2 F2' hV b0 b1 b2 HBX HBY HBZ HF1
    cases hv2 : validB tb with
    | false =>
      rw [hv2] at hVb
      obtain rfl : (2, zeroT) = R := by rw [← HR.out, if_pos (.inr hv2)]
      clear hv2
      go_wp2_with fail
      refine hVb.mono ?_
      rintro e w3 ⟨rfl, F3⟩
      have HF3 := Lib.hid (HF2.out.trans F3 (fun _ _ h => h))
      have HBZ3 := Lib.hid (HBZ2.out.kept F3 (fun h => h))
      clear F3 hVb y0 y1 y2
      have ⟨d0, d1, d2, df⟩ := HBZ3.out
      have df0 := df 0
      have df1 := df 1
      have df2 := df 2
      clear df
      go_wp2_with fail
      obtain ⟨X, FX⟩ := HBZ3.out.set (.int .u8 0) (.string ⟨#[]⟩) (.slice none 0 0)
      have F7 := HF3.out.trans' (T := nob) FX (fun _ _ h => h) (fun j hj h => by have e : j = w.heap.size + 2 := h; omega)
      have x0 := X.c0
      have x1 := X.c1
      have x2 := X.c2
      have T7 : TrS (((w3.setCell ⟨w.heap.size + 2, 0, none⟩ (.int .u8 0)).setCell ⟨w.heap.size + 2, 1, none⟩ (.string ⟨#[]⟩)).setCell ⟨w.heap.size + 2, 2, none⟩ (.slice none 0 0)) zeroT w.heap.size (((w3.setCell ⟨w.heap.size + 2, 0, none⟩ (.int .u8 0)).setCell ⟨w.heap.size + 2, 1, none⟩ (.string ⟨#[]⟩)).setCell ⟨w.heap.size + 2, 2, none⟩ (.slice none 0 0)).heap.size (.agg #[.int .u8 0, .string ⟨#[]⟩, .slice none 0 0]) := zero_trS _ _ _
      clear d0 d1 d2 df0 df1 df2 X FX
      generalize ((w3.setCell ⟨w.heap.size + 2, 0, none⟩ (.int .u8 0)).setCell ⟨w.heap.size + 2, 1, none⟩ (.string ⟨#[]⟩)).setCell ⟨w.heap.size + 2, 2, none⟩ (.slice none 0 0) = w7 at *
      exact bodyPost_ret (v := .tuple #[.agg #[.int .u8 0, .string ⟨#[]⟩, .slice none 0 0], .int .i64 2]) (by simp [results, Try.results26, go_sem, x0, x1, x2]) rfl ⟨_, rfl, T7, F7⟩
    | true =>
      rw [hv2] at hVb
      rw [if_neg (show ¬ (validB t = false ∨ validB tb = false) by rw [HV1.out, hv2]; rintro (h | h) <;> cases h)] at HR
      clear hv2
      go_wp2_with fail
      refine hVb.mono ?_
      rintro e w3 ⟨rfl, F3⟩
      have HF3 := Lib.hid (HF2.out.trans F3 (fun _ _ h => h))
      have HBX3 := Lib.hid (HBX2.out.kept F3 (fun h => h))
      have HBY3 := Lib.hid (HBY2.out.kept F3 (fun h => h))
      have HBZ3 := Lib.hid (HBZ2.out.kept F3 (fun h => h))
      have hN := fun w => isName_any (txt s) (by simp; omega) w
      simp only [txt_data] at hN
      clear F3 hVb y0 y1 y2 HF2 HBX2 HBY2 HBZ2
      cases hv3 : nameB s with
      | false =>
        rw [hv3] at hN
        obtain rfl : (6, zeroT) = R := by rw [← HR.out, if_pos hv3]
        clear hv3
        have ⟨d0, d1, d2, df⟩ := HBZ3.out
        have df0 := df 0
        have df1 := df 1
        have df2 := df 2
        clear df
        go_wp2_with (go_at_call 50; refine (hN _).mono ?_; rintro e w' ⟨rfl, rfl⟩)
        obtain ⟨X, FX⟩ := HBZ3.out.set (.int .u8 0) (.string ⟨#[]⟩) (.slice none 0 0)
        have F7 := HF3.out.trans' (T := nob) FX (fun _ _ h => h) (fun j hj h => by have e : j = w.heap.size + 2 := h; omega)
        have x0 := X.c0
        have x1 := X.c1
        have x2 := X.c2
        have T7 : TrS (((w3.setCell ⟨w.heap.size + 2, 0, none⟩ (.int .u8 0)).setCell ⟨w.heap.size + 2, 1, none⟩ (.string ⟨#[]⟩)).setCell ⟨w.heap.size + 2, 2, none⟩ (.slice none 0 0)) zeroT w.heap.size (((w3.setCell ⟨w.heap.size + 2, 0, none⟩ (.int .u8 0)).setCell ⟨w.heap.size + 2, 1, none⟩ (.string ⟨#[]⟩)).setCell ⟨w.heap.size + 2, 2, none⟩ (.slice none 0 0)).heap.size (.agg #[.int .u8 0, .string ⟨#[]⟩, .slice none 0 0]) := zero_trS _ _ _
        clear d0 d1 d2 df0 df1 df2 X FX
        generalize ((w3.setCell ⟨w.heap.size + 2, 0, none⟩ (.int .u8 0)).setCell ⟨w.heap.size + 2, 1, none⟩ (.string ⟨#[]⟩)).setCell ⟨w.heap.size + 2, 2, none⟩ (.slice none 0 0) = w7 at *
        exact bodyPost_ret (v := .tuple #[.agg #[.int .u8 0, .string ⟨#[]⟩, .slice none 0 0], .int .i64 6]) (by simp [results, Try.results26, go_sem, x0, x1, x2]) rfl ⟨_, rfl, T7, F7⟩
      | true =>
        rw [hv3] at hN
        rw [hv3, if_neg (show ¬ (true = false) by decide)] at HR
        clear hv3
        go_upto_region 5 with (go_at_call 50; refine (hN _).mono ?_; rintro e w' ⟨rfl, rfl⟩)
        have ⟨b0, b1, b2, _⟩ := HBX3.out
        have ⟨y0, y1, y2, _⟩ := HBY3.out
        have hz3 := HF3.out.size
        have hC := rep_any s tb _ t (Nat.lt_succ_self _) _ _ S w3 HMT.out.wide HMT.out.len (fun b h => by have := HS.out b h; omega) (HT.out.kept HF3.out (fun b h _ => ⟨fun h => h, h⟩)) (HTB.out.kept HF3.out (fun b h _ => ⟨fun h => h, h⟩))
        clear hz3
        go_wp2_with fail
        refine hC.mono ?_
        rintro e w4 ⟨v4, rfl, hT4, F4⟩
        obtain ⟨o4, nm4, a4, n4, c4, hform⟩ := hT4.form
        subst hform
        have A5 : Fr nob w4 (w4.alloc (.cells #[.int .u8 (o4 : Int), .string (txt nm4), .slice a4 n4 c4] 25)) := (Fr.refl nob w4).alloc _
        have HG5 := Lib.hid (Box3.new w4 (.int .u8 (o4 : Int)) (.string (txt nm4)) (.slice a4 n4 c4) 25)
        have HF5 := Lib.hid ((HF3.out.trans F4 (fun _ _ h => h)).trans A5 (fun _ _ h => h))
        have HBZ5 := Lib.hid ((HBZ3.out.kept F4 (fun h => h)).kept A5 (fun h => h))
        have hS4 : ∀ b, (S b ∨ w3.heap.size ≤ b) → b < w4.heap.size → (fun b => b < w4.heap.size) b := fun b _ h => h
        have hT5 := hT4.kept (T := fun b => b < w4.heap.size) A5 (fun b _ h' => ⟨fun h => h, h'⟩)
        have HT5 := Lib.hid hT5
        have HZ5 : Hid (w.heap.size + 3 ≤ w4.heap.size ∧ w4.heap.size < (w4.alloc (.cells #[.int .u8 (o4 : Int), .string (txt nm4), .slice a4 n4 c4] 25)).heap.size) := Lib.hid ⟨by have h1 := F4.size; have h2 := HBZ3.out.lt; omega, by simp⟩
        clear hC hT4 F4 A5 hS4 b0 b1 b2 y0 y1 y2 HBX3 HBY3 HBZ3 HF3
        go_upto_region 6 with fail
        generalize w4.alloc (.cells #[.int .u8 (o4 : Int), .string (txt nm4), .slice a4 n4 c4] 25) = w5 at *
        have hVr := valid_any _ _ _ w5 HMR.out.tame hT5
        have ⟨k0, k1, k2, _⟩ := HG5.out
        clear hT5
        cases hv4 : validB (repP s tb t) with
        | false =>
          rw [hv4] at hVr
          obtain rfl : (5, zeroT) = R := by rw [← HR.out, if_pos hv4]
          clear hv4
          go_wp2_with fail
          refine hVr.mono ?_
          rintro e w6 ⟨rfl, F6⟩
          have HF6 := Lib.hid (HF5.out.trans F6 (fun _ _ h => h))
          have HBZ6 := Lib.hid (HBZ5.out.kept F6 (fun h => h))
          clear F6 hVr k0 k1 k2
          have ⟨d0, d1, d2, df⟩ := HBZ6.out
          have df0 := df 0
          have df1 := df 1
          have df2 := df 2
          clear df
          go_wp2_with fail
          obtain ⟨X, FX⟩ := HBZ6.out.set (.int .u8 0) (.string ⟨#[]⟩) (.slice none 0 0)
          have F7 := HF6.out.trans' (T := nob) FX (fun _ _ h => h) (fun j hj h => by have e : j = w.heap.size + 2 := h; omega)
          have x0 := X.c0
          have x1 := X.c1
          have x2 := X.c2
          have T7 : TrS (((w6.setCell ⟨w.heap.size + 2, 0, none⟩ (.int .u8 0)).setCell ⟨w.heap.size + 2, 1, none⟩ (.string ⟨#[]⟩)).setCell ⟨w.heap.size + 2, 2, none⟩ (.slice none 0 0)) zeroT w.heap.size (((w6.setCell ⟨w.heap.size + 2, 0, none⟩ (.int .u8 0)).setCell ⟨w.heap.size + 2, 1, none⟩ (.string ⟨#[]⟩)).setCell ⟨w.heap.size + 2, 2, none⟩ (.slice none 0 0)).heap.size (.agg #[.int .u8 0, .string ⟨#[]⟩, .slice none 0 0]) := zero_trS _ _ _
          clear d0 d1 d2 df0 df1 df2 X FX
          generalize ((w6.setCell ⟨w.heap.size + 2, 0, none⟩ (.int .u8 0)).setCell ⟨w.heap.size + 2, 1, none⟩ (.string ⟨#[]⟩)).setCell ⟨w.heap.size + 2, 2, none⟩ (.slice none 0 0) = w7 at *
          exact bodyPost_ret (v := .tuple #[.agg #[.int .u8 0, .string ⟨#[]⟩, .slice none 0 0], .int .i64 5]) (by simp [results, Try.results26, go_sem, x0, x1, x2]) rfl ⟨_, rfl, T7, F7⟩
        | true =>
          rw [hv4] at hVr
          obtain rfl : (0, repP s tb t) = R := by rw [← HR.out, if_neg (by rw [hv4]; decide)]
          clear hv4
          go_upto_region 8 with (first | (go_at_call 22; refine hVr.mono ?_; rintro e w6 ⟨rfl, F6⟩) | fail)
          have HF6 := Lib.hid (HF5.out.trans F6 (fun _ _ h => h))
          have HBZ6 := Lib.hid (HBZ5.out.kept F6 (fun h => h))
          have hG6 := HG5.out.kept F6 (fun h => h)
          have ⟨l0, l1, l2, _⟩ := hG6
          have hz6 := F6.size
          have hFr := fresh_any _ (repP s tb t) (Nat.lt_succ_self _) _ (fun b => b < w4.heap.size) w6 HMR.out.wide HMR.out.len (fun b h => by have h1 := HZ5.out; have h2 : b < w4.heap.size := h; omega) (HT5.out.kept F6 (fun b h _ => ⟨fun h => h, h⟩))
          have HZ6 : Hid (w.heap.size + 3 ≤ w6.heap.size) := Lib.hid (by have h1 := HZ5.out; omega)
          clear F6 hVr k0 k1 k2 hG6 hz6 HG5 HT5
          go_wp2_with fail
          refine hFr.mono ?_
          rintro e w8 ⟨v8, rfl, hT8, F8⟩
          obtain ⟨o8, nm8, a8, n8, c8, hform⟩ := hT8.form
          subst hform
          have HF8 := Lib.hid (HF6.out.trans F8 (fun _ _ h => h))
          have HBZ8 := Lib.hid (HBZ6.out.kept F8 (fun h => h))
          have HT8 := Lib.hid hT8
          clear hFr hT8 F8 l0 l1 l2
          have ⟨d0, d1, d2, df⟩ := HBZ8.out
          have df0 := df 0
          have df1 := df 1
          have df2 := df 2
          clear df
          go_wp2_with fail
          obtain ⟨X, FX⟩ := HBZ8.out.set (.int .u8 (o8 : Int)) (.string (txt nm8)) (.slice a8 n8 c8)
          have F7 := HF8.out.trans' (T := nob) FX (fun _ _ h => h) (fun j hj h => by have e : j = w.heap.size + 2 := h; omega)
          have x0 := X.c0
          have x1 := X.c1
          have x2 := X.c2
          have T7 : TrS (((w8.setCell ⟨w.heap.size + 2, 0, none⟩ (.int .u8 (o8 : Int))).setCell ⟨w.heap.size + 2, 1, none⟩ (.string (txt nm8))).setCell ⟨w.heap.size + 2, 2, none⟩ (.slice a8 n8 c8)) (repP s tb t) w.heap.size (((w8.setCell ⟨w.heap.size + 2, 0, none⟩ (.int .u8 (o8 : Int))).setCell ⟨w.heap.size + 2, 1, none⟩ (.string (txt nm8))).setCell ⟨w.heap.size + 2, 2, none⟩ (.slice a8 n8 c8)).heap.size (.agg #[.int .u8 (o8 : Int), .string (txt nm8), .slice a8 n8 c8]) := HT8.out.kept FX (fun b (h : b = w.heap.size + 2) => by have := HZ6.out; omega) (by have := HZ6.out; omega) FX.size
          clear d0 d1 d2 df0 df1 df2 X FX
          generalize ((w8.setCell ⟨w.heap.size + 2, 0, none⟩ (.int .u8 (o8 : Int))).setCell ⟨w.heap.size + 2, 1, none⟩ (.string (txt nm8))).setCell ⟨w.heap.size + 2, 2, none⟩ (.slice a8 n8 c8) = w7 at *
          exact bodyPost_ret (v := .tuple #[.agg #[.int .u8 (o8 : Int), .string (txt nm8), .slice a8 n8 c8], .int .i64 0]) (by simp [results, Try.results26, go_sem, x0, x1, x2]) rfl ⟨_, rfl, T7, F7⟩
end Go.Proofs.Ytbiheajnmjbdoaa
namespace Go.Proofs.Ytbiheajnmjbdoaa
open Go.RowKit

/-! the reference's Replace -/
theorem rvalid_any (t : Tr) (v : Value) (S : Nat → Prop) (w : World) (hm : Mod t) (hS : ∀ b, S b → b < w.heap.size) (hT : TrO w S t v) : Calls Try.prog 17 #[v] w fun e w' => e = .returned (.bool (validB t)) ∧ Fr nob w w' := by
  rw [← refV_eq]
  exact refValid_any t v S w hm.wide hm.len hS hT
def RrPost (S : Nat → Prop) (w : World) (r : Nat × Tr) (e : Ending) (w' : World) : Prop := ∃ v', e = .returned (.tuple #[v', .int .i64 (r.1 : Int)]) ∧ TrO w' (fun b => S b ∨ w.heap.size ≤ b) r.2 v' ∧ Fr nob w w'
theorem zero_trO (w : World) (S : Nat → Prop) : TrO w S zeroT (.agg #[.int .u8 0, .string ⟨#[]⟩, .slice none 0 0]) := (zero_trV w S).toO
set_option maxRecDepth 20000 in
set_option maxHeartbeats 8000000 in
theorem rreplace_any (s : List UInt8) (t tb : Tr) (v vb : Value) (S : Nat → Prop) (w : World) (hs : s.length ≤ 9223372036854775807) (ht : Mod t) (htb : Mod tb) (hr : Mod (repP s tb t)) (hS : ∀ b, S b → b < w.heap.size) (hT : TrO w S t v) (hTb : TrO w S tb vb) :
    Calls Try.prog 27 #[v, .string (txt s), vb] w (RrPost S w (rvP s t tb)) := by
  obtain ⟨op, nm, a, nk, cp, rfl⟩ := hT.form
  obtain ⟨ob, nmb, ab, nb, cb, rfl⟩ := hTb.form
  obtain ⟨W1, hW1⟩ : ∃ W1, ((w.alloc (.cells #[.int .u8 (op : Int), .string (txt nm), .slice a nk cp] 25)).alloc (.cells #[.int .u8 (ob : Int), .string (txt nmb), .slice ab nb cb] 25)).alloc (.cells #[.int .u8 0, .string ⟨#[]⟩, .slice none 0 0] 25) = W1 := ⟨_, rfl⟩
  have A1 : Fr nob w W1 := by rw [← hW1]; exact (((Fr.refl nob w).alloc _).alloc _).alloc _
  have hbx : Box3 W1 w.heap.size (.int .u8 (op : Int)) (.string (txt nm)) (.slice a nk cp) := by
    rw [← hW1]; exact (Box3.new w _ _ _ _).kept (((Fr.refl nob _).alloc _).alloc _) (fun h => h)
  have hby : Box3 W1 (w.heap.size + 1) (.int .u8 (ob : Int)) (.string (txt nmb)) (.slice ab nb cb) := by
    have h := (Box3.new (w.alloc (.cells #[.int .u8 (op : Int), .string (txt nm), .slice a nk cp] 25)) (.int .u8 (ob : Int)) (.string (txt nmb)) (.slice ab nb cb) 25).kept ((Fr.refl nob _).alloc (.cells #[.int .u8 0, .string ⟨#[]⟩, .slice none 0 0] 25)) (fun h => h)
    rw [hW1, World.size_alloc] at h; exact h
  have hbz : Box3 W1 (w.heap.size + 2) (.int .u8 0) (.string ⟨#[]⟩) (.slice none 0 0) := by
    have h := Box3.new ((w.alloc (.cells #[.int .u8 (op : Int), .string (txt nm), .slice a nk cp] 25)).alloc (.cells #[.int .u8 (ob : Int), .string (txt nmb), .slice ab nb cb] 25)) (.int .u8 0) (.string ⟨#[]⟩) (.slice none 0 0) 25
    rw [hW1, World.size_alloc, World.size_alloc] at h; exact h
  have hz1 : W1.heap.size = w.heap.size + 3 := by rw [← hW1]; simp
  have HS := Lib.hid hS
  have HMT := Lib.hid ht
  have HMB := Lib.hid htb
  have HMR := Lib.hid hr
  have HT := Lib.hid hT
  have HTB := Lib.hid hTb
  have HBX := Lib.hid hbx
  have HBY := Lib.hid hby
  have HBZ := Lib.hid hbz
  have HF1 := Lib.hid A1
  have HZ1 := Lib.hid hz1
  have hV := rvalid_any t _ S W1 ht (fun b h => by have := hS b h; omega) (hT.kept A1 (fun b h _ => ⟨fun h => h, h⟩))
  obtain ⟨R, hR⟩ : ∃ R, rvP s t tb = R := ⟨_, rfl⟩
  rw [hR]
  unfold rvP at hR
  have HR := Lib.hid hR
  have ⟨b0, b1, b2, _⟩ := hbx
  clear hS hT hTb A1 hbx hby hbz hz1 ht htb hr hR
  go_enter Try.func27, Try.ntmps27
  go_upto_region 1 with fail
  (try rw [hW1])
  clear hW1
  cases hv1 : validB t with
  | false =>
    rw [hv1] at hV
    obtain rfl : (2, zeroT) = R := by rw [← HR.out, if_pos (.inl hv1)]
    clear hv1
    go_wp2_with fail
    refine hV.mono ?_
    rintro e w2 ⟨rfl, F2⟩
    have HF2 := Lib.hid (HF1.out.trans F2 (fun _ _ h => h))
    have HBZ2 := Lib.hid (HBZ.out.kept F2 (fun h => h))
    clear F2 hV b0 b1 b2
    have ⟨d0, d1, d2, df⟩ := HBZ2.out
    have df0 := df 0
    have df1 := df 1
    have df2 := df 2
    clear df
    go_wp2_with fail
    obtain ⟨X, FX⟩ := HBZ2.out.set (.int .u8 0) (.string ⟨#[]⟩) (.slice none 0 0)
    have F7 := HF2.out.trans' (T := nob) FX (fun _ _ h => h) (fun j hj h => by have e : j = w.heap.size + 2 := h; omega)
    have x0 := X.c0
    have x1 := X.c1
    have x2 := X.c2
    have T7 : TrO (((w2.setCell ⟨w.heap.size + 2, 0, none⟩ (.int .u8 0)).setCell ⟨w.heap.size + 2, 1, none⟩ (.string ⟨#[]⟩)).setCell ⟨w.heap.size + 2, 2, none⟩ (.slice none 0 0)) (fun b => S b ∨ w.heap.size ≤ b) zeroT (.agg #[.int .u8 0, .string ⟨#[]⟩, .slice none 0 0]) := zero_trO _ _
    clear d0 d1 d2 df0 df1 df2 X FX
    generalize ((w2.setCell ⟨w.heap.size + 2, 0, none⟩ (.int .u8 0)).setCell ⟨w.heap.size + 2, 1, none⟩ (.string ⟨#[]⟩)).setCell ⟨w.heap.size + 2, 2, none⟩ (.slice none 0 0) = w7 at *
    exact bodyPost_ret (v := .tuple #[.agg #[.int .u8 0, .string ⟨#[]⟩, .slice none 0 0], .int .i64 2]) (by simp [results, Try.results27, go_sem, x0, x1, x2]) rfl ⟨_, rfl, T7, F7⟩
  | true =>
    rw [hv1] at hV
    have HV1 := Lib.hid hv1
    clear hv1
    go_wp2_with fail
    refine hV.mono ?_
    rintro e w2 ⟨rfl, F2⟩
    have F2' := HF1.out.trans F2 (fun _ _ h => h)
    have HF2 := Lib.hid F2'
    have HBX2 := Lib.hid (HBX.out.kept F2 (fun h => h))
    have HBY2 := Lib.hid (HBY.out.kept F2 (fun h => h))
    have HBZ2 := Lib.hid (HBZ.out.kept F2 (fun h => h))
    have hVb := rvalid_any tb _ S w2 HMB.out (fun b h => by have := HS.out b h; have := F2'.size; omega) (HTB.out.kept F2' (fun b h _ => ⟨fun h => h, h⟩))
    have ⟨y0, y1, y2, _⟩ := HBY2.out
    clear F2 F2' hV b0 b1 b2 HBX HBY HBZ HF1
    cases hv2 : validB tb with
    | false =>
      rw [hv2] at hVb
      obtain rfl : (2, zeroT) = R := by rw [← HR.out, if_pos (.inr hv2)]
      clear hv2
      go_wp2_with fail
      refine hVb.mono ?_
      rintro e w3 ⟨rfl, F3⟩
      have HF3 := Lib.hid (HF2.out.trans F3 (fun _ _ h => h))
      have HBZ3 := Lib.hid (HBZ2.out.kept F3 (fun h => h))
      clear F3 hVb y0 y1 y2
      have ⟨d0, d1, d2, df⟩ := HBZ3.out
      have df0 := df 0
      have df1 := df 1
      have df2 := df 2
      clear df
      go_wp2_with fail
      obtain ⟨X, FX⟩ := HBZ3.out.set (.int .u8 0) (.string ⟨#[]⟩) (.slice none 0 0)
      have F7 := HF3.out.trans' (T := nob) FX (fun _ _ h => h) (fun j hj h => by have e : j = w.heap.size + 2 := h; omega)
      have x0 := X.c0
      have x1 := X.c1
      have x2 := X.c2
      have T7 : TrO (((w3.setCell ⟨w.heap.size + 2, 0, none⟩ (.int .u8 0)).setCell ⟨w.heap.size + 2, 1, none⟩ (.string ⟨#[]⟩)).setCell ⟨w.heap.size + 2, 2, none⟩ (.slice none 0 0)) (fun b => S b ∨ w.heap.size ≤ b) zeroT (.agg #[.int .u8 0, .string ⟨#[]⟩, .slice none 0 0]) := zero_trO _ _
      clear d0 d1 d2 df0 df1 df2 X FX
      generalize ((w3.setCell ⟨w.heap.size + 2, 0, none⟩ (.int .u8 0)).setCell ⟨w.heap.size + 2, 1, none⟩ (.string ⟨#[]⟩)).setCell ⟨w.heap.size + 2, 2, none⟩ (.slice none 0 0) = w7 at *
      exact bodyPost_ret (v := .tuple #[.agg #[.int .u8 0, .string ⟨#[]⟩, .slice none 0 0], .int .i64 2]) (by simp [results, Try.results27, go_sem, x0, x1, x2]) rfl ⟨_, rfl, T7, F7⟩
    | true =>
      rw [hv2] at hVb
      rw [if_neg (show ¬ (validB t = false ∨ validB tb = false) by rw [HV1.out, hv2]; rintro (h | h) <;> cases h)] at HR
      clear hv2
      go_wp2_with fail
      refine hVb.mono ?_
      rintro e w3 ⟨rfl, F3⟩
      have HF3 := Lib.hid (HF2.out.trans F3 (fun _ _ h => h))
      have HBX3 := Lib.hid (HBX2.out.kept F3 (fun h => h))
      have HBY3 := Lib.hid (HBY2.out.kept F3 (fun h => h))
      have HBZ3 := Lib.hid (HBZ2.out.kept F3 (fun h => h))
      have hN := fun w => refName_any (txt s) (by simp; omega) w
      simp only [txt_data] at hN
      clear F3 hVb y0 y1 y2 HF2 HBX2 HBY2 HBZ2
      cases hv3 : nameB s with
      | false =>
        rw [hv3] at hN
        obtain rfl : (6, zeroT) = R := by rw [← HR.out, if_pos hv3]
        clear hv3
        have ⟨d0, d1, d2, df⟩ := HBZ3.out
        have df0 := df 0
        have df1 := df 1
        have df2 := df 2
        clear df
        go_wp2_with (go_at_call 53; refine (hN _).mono ?_; rintro e w' ⟨rfl, rfl⟩)
        obtain ⟨X, FX⟩ := HBZ3.out.set (.int .u8 0) (.string ⟨#[]⟩) (.slice none 0 0)
        have F7 := HF3.out.trans' (T := nob) FX (fun _ _ h => h) (fun j hj h => by have e : j = w.heap.size + 2 := h; omega)
        have x0 := X.c0
        have x1 := X.c1
        have x2 := X.c2
        have T7 : TrO (((w3.setCell ⟨w.heap.size + 2, 0, none⟩ (.int .u8 0)).setCell ⟨w.heap.size + 2, 1, none⟩ (.string ⟨#[]⟩)).setCell ⟨w.heap.size + 2, 2, none⟩ (.slice none 0 0)) (fun b => S b ∨ w.heap.size ≤ b) zeroT (.agg #[.int .u8 0, .string ⟨#[]⟩, .slice none 0 0]) := zero_trO _ _
        clear d0 d1 d2 df0 df1 df2 X FX
        generalize ((w3.setCell ⟨w.heap.size + 2, 0, none⟩ (.int .u8 0)).setCell ⟨w.heap.size + 2, 1, none⟩ (.string ⟨#[]⟩)).setCell ⟨w.heap.size + 2, 2, none⟩ (.slice none 0 0) = w7 at *
        exact bodyPost_ret (v := .tuple #[.agg #[.int .u8 0, .string ⟨#[]⟩, .slice none 0 0], .int .i64 6]) (by simp [results, Try.results27, go_sem, x0, x1, x2]) rfl ⟨_, rfl, T7, F7⟩
      | true =>
        rw [hv3] at hN
        rw [hv3, if_neg (show ¬ (true = false) by decide)] at HR
        clear hv3
        go_upto_region 5 with (go_at_call 53; refine (hN _).mono ?_; rintro e w' ⟨rfl, rfl⟩)
        have ⟨b0, b1, b2, _⟩ := HBX3.out
        have ⟨y0, y1, y2, _⟩ := HBY3.out
        have hz3 := HF3.out.size
        have HZ3 : Hid (w.heap.size + 3 ≤ w3.heap.size) := Lib.hid (by have := HBZ3.out.lt; omega)
        have hC := rrp_any s tb _ t (Nat.lt_succ_self _) _ _ S w3 HMT.out.wide HMT.out.len (fun b h => by have := HS.out b h; omega) (HT.out.kept HF3.out (fun b h _ => ⟨fun h => h, h⟩)) (HTB.out.kept HF3.out (fun b h _ => ⟨fun h => h, h⟩))
        clear hz3
        go_wp2_with fail
        refine hC.mono ?_
        rintro e w4 ⟨v4, rfl, hT4, F4⟩
        obtain ⟨o4, nm4, a4, n4, c4, hform⟩ := hT4.form
        subst hform
        have A5 : Fr nob w4 (w4.alloc (.cells #[.int .u8 (o4 : Int), .string (txt nm4), .slice a4 n4 c4] 25)) := (Fr.refl nob w4).alloc _
        have HG5 := Lib.hid (Box3.new w4 (.int .u8 (o4 : Int)) (.string (txt nm4)) (.slice a4 n4 c4) 25)
        have HF5 := Lib.hid ((HF3.out.trans F4 (fun _ _ h => h)).trans A5 (fun _ _ h => h))
        have HBZ5 := Lib.hid ((HBZ3.out.kept F4 (fun h => h)).kept A5 (fun h => h))
        have hS4 : ∀ b, (S b ∨ w3.heap.size ≤ b) → b < w4.heap.size → (fun b => b < w4.heap.size) b := fun b _ h => h
        have hT5 := hT4.kept (T := fun b => b < w4.heap.size) A5 (fun b _ h' => ⟨fun h => h, h'⟩)
        have HTX5 := Lib.hid (hT4.kept (T := fun b => (S b ∨ w3.heap.size ≤ b)) A5 (fun b h _ => ⟨fun h => h, h⟩))
        have HT5 := Lib.hid hT5
        have HZ5 : Hid (w.heap.size + 3 ≤ w4.heap.size ∧ w4.heap.size < (w4.alloc (.cells #[.int .u8 (o4 : Int), .string (txt nm4), .slice a4 n4 c4] 25)).heap.size) := Lib.hid ⟨by have h1 := F4.size; have h2 := HBZ3.out.lt; omega, by simp⟩
        clear hC hT4 F4 A5 hS4 b0 b1 b2 y0 y1 y2 HBX3 HBY3 HBZ3 HF3
        go_upto_region 6 with fail
        generalize w4.alloc (.cells #[.int .u8 (o4 : Int), .string (txt nm4), .slice a4 n4 c4] 25) = w5 at *
        have hVr := rvalid_any _ _ _ w5 HMR.out (fun b h => by have h1 := HZ5.out; have h2 : b < w4.heap.size := h; omega) hT5
        have ⟨k0, k1, k2, _⟩ := HG5.out
        clear hT5
        cases hv4 : validB (repP s tb t) with
        | false =>
          rw [hv4] at hVr
          obtain rfl : (5, zeroT) = R := by rw [← HR.out, if_pos hv4]
          clear hv4
          go_wp2_with fail
          refine hVr.mono ?_
          rintro e w6 ⟨rfl, F6⟩
          have HF6 := Lib.hid (HF5.out.trans F6 (fun _ _ h => h))
          have HBZ6 := Lib.hid (HBZ5.out.kept F6 (fun h => h))
          clear F6 hVr k0 k1 k2
          have ⟨d0, d1, d2, df⟩ := HBZ6.out
          have df0 := df 0
          have df1 := df 1
          have df2 := df 2
          clear df
          go_wp2_with fail
          obtain ⟨X, FX⟩ := HBZ6.out.set (.int .u8 0) (.string ⟨#[]⟩) (.slice none 0 0)
          have F7 := HF6.out.trans' (T := nob) FX (fun _ _ h => h) (fun j hj h => by have e : j = w.heap.size + 2 := h; omega)
          have x0 := X.c0
          have x1 := X.c1
          have x2 := X.c2
          have T7 : TrO (((w6.setCell ⟨w.heap.size + 2, 0, none⟩ (.int .u8 0)).setCell ⟨w.heap.size + 2, 1, none⟩ (.string ⟨#[]⟩)).setCell ⟨w.heap.size + 2, 2, none⟩ (.slice none 0 0)) (fun b => S b ∨ w.heap.size ≤ b) zeroT (.agg #[.int .u8 0, .string ⟨#[]⟩, .slice none 0 0]) := zero_trO _ _
          clear d0 d1 d2 df0 df1 df2 X FX
          generalize ((w6.setCell ⟨w.heap.size + 2, 0, none⟩ (.int .u8 0)).setCell ⟨w.heap.size + 2, 1, none⟩ (.string ⟨#[]⟩)).setCell ⟨w.heap.size + 2, 2, none⟩ (.slice none 0 0) = w7 at *
          exact bodyPost_ret (v := .tuple #[.agg #[.int .u8 0, .string ⟨#[]⟩, .slice none 0 0], .int .i64 5]) (by simp [results, Try.results27, go_sem, x0, x1, x2]) rfl ⟨_, rfl, T7, F7⟩
        | true =>
          rw [hv4] at hVr
          obtain rfl : (0, repP s tb t) = R := by rw [← HR.out, if_neg (by rw [hv4]; decide)]
          clear hv4
          go_upto_region 8 with (first | (go_at_call 17; refine hVr.mono ?_; rintro e w6 ⟨rfl, F6⟩) | fail)
          have HF6 := Lib.hid (HF5.out.trans F6 (fun _ _ h => h))
          have HBZ6 := Lib.hid (HBZ5.out.kept F6 (fun h => h))
          have hG6 := HG5.out.kept F6 (fun h => h)
          have ⟨l0, l1, l2, _⟩ := hG6
          have HT6 := Lib.hid (HTX5.out.kept (T := fun b => S b ∨ w3.heap.size ≤ b) F6 (fun b h _ => ⟨fun h => h, h⟩))
          clear F6 hVr k0 k1 k2 hG6 HG5 HT5 HTX5
          have ⟨d0, d1, d2, df⟩ := HBZ6.out
          have df0 := df 0
          have df1 := df 1
          have df2 := df 2
          clear df
          go_wp2_with fail
          obtain ⟨X, FX⟩ := HBZ6.out.set (.int .u8 (o4 : Int)) (.string (txt nm4)) (.slice a4 n4 c4)
          have F7 := HF6.out.trans' (T := nob) FX (fun _ _ h => h) (fun j hj h => by have e : j = w.heap.size + 2 := h; omega)
          have x0 := X.c0
          have x1 := X.c1
          have x2 := X.c2
          have hz3 : w.heap.size + 3 ≤ w3.heap.size := HZ3.out
          have T7 := HT6.out.kept (T := fun b => S b ∨ w.heap.size ≤ b) FX (fun b h _ => ⟨show ¬ b = w.heap.size + 2 by rcases h with h1 | h1; have := HS.out b h1; omega; omega, by rcases h with h1 | h1; exact .inl h1; exact .inr (by omega)⟩)
          clear d0 d1 d2 df0 df1 df2 X FX l0 l1 l2
          generalize ((w6.setCell ⟨w.heap.size + 2, 0, none⟩ (.int .u8 (o4 : Int))).setCell ⟨w.heap.size + 2, 1, none⟩ (.string (txt nm4))).setCell ⟨w.heap.size + 2, 2, none⟩ (.slice a4 n4 c4) = w7 at *
          exact bodyPost_ret (v := .tuple #[.agg #[.int .u8 (o4 : Int), .string (txt nm4), .slice a4 n4 c4], .int .i64 0]) (by simp [results, Try.results27, go_sem, x0, x1, x2]) rfl ⟨_, rfl, T7, F7⟩
end Go.Proofs.Ytbiheajnmjbdoaa
