import Derived.Test.YtaojojjdfdlgpaaQbo
import Derived.Test.YtaojojjdfdlgpaaQab
namespace Go.Proofs.Ytaojojjdfdlgpaa
open Go.RowKit

/-! wakes -/
def s1 : ByteArray := ⟨#[97, 32, 38, 32, 98, 32, 38, 32, 40, 99, 32, 38, 32, 100, 41]⟩
def s3 : ByteArray := ⟨#[97, 32, 60, 61, 62, 32, 98, 32, 60, 61, 62, 32, 99]⟩
def nmT (c : UInt8) : Tr := .mk 3 [c] []
def t1 : Tr := .mk 5 [] [nmT 97, nmT 98, .mk 5 [] [nmT 99, nmT 100]]
def t2 : Tr := .mk 5 [] [.mk 6 [] [nmT 97, nmT 98], .mk 4 [] [nmT 99]]
theorem parse_s1 : parseP (TX s1) = (t1, 0, 0) := by kernel_rfl
theorem parse_s3 : parseP (TX s3) = (zeroT, 8, 4) := by kernel_rfl
theorem print_t2 : prP t2 0 = [40, 97, 32, 124, 32, 98, 41, 32, 38, 32, 33, 99] := by kernel_rfl
theorem valid_t2 : validB t2 = true := by kernel_rfl
def nmV (c : UInt8) : Value := .agg #[.int .u8 3, .string ⟨#[c]⟩, .slice none 0 0]
theorem name_any (s : ByteArray) (w : World) : Calls Try.prog 47 #[.string s] w fun e w' => e = .returned (.agg #[.int .u8 3, .string s, .slice none 0 0]) ∧ w' = w.alloc (.cells #[.int .u8 3, .string s, .slice none 0 0] 24) := by
  go_enter Try.func47, Try.ntmps47
  go_wp2_with fail
  exact bodyPost_ret (v := .agg #[.int .u8 3, .string s, .slice none 0 0]) (by simp [results, Try.results47, go_sem]) rfl ⟨rfl, rfl⟩
theorem wk_parse1 (w : World) : Calls Try.prog 45 #[.string s1] w fun e w' => (∃ nm a cp, e = .returned (.tuple #[.agg #[.int .u8 5, .string nm, .slice a 3 cp], .int .i64 0, .int .i64 0])) ∧ Fr nob w w' := by
  refine (parse_any s1 (by decide) (fun t j h => ?_) w).mono ?_
  · have h2 : wholeP (TX s1) = .ok (t1, 15) := by kernel_rfl
    rw [h2] at h
    cases h
    rfl
  · rintro e w' ⟨v, rfl, hT, F⟩
    rw [parse_s1] at hT ⊢
    unfold t1 at hT
    rw [TrV] at hT
    obtain ⟨a, cp, rfl, _⟩ := hT
    exact ⟨⟨_, _, _, rfl⟩, F⟩
theorem wk_parse3 (w : World) : Calls Try.prog 45 #[.string s3] w fun e w' => (∃ (o : Nat) (nm : ByteArray) (a : Option Addr) (n c : Nat), e = .returned (.tuple #[.agg #[.int .u8 (o : Int), .string nm, .slice a n c], .int .i64 8, .int .i64 4])) ∧ Fr nob w w' := by
  refine (parse_any s3 (by decide) (fun t j h => ?_) w).mono ?_
  · have h2 : wholeP (TX s3) = .bad 8 := by kernel_rfl
    rw [h2] at h
    cases h
  · rintro e w' ⟨v, rfl, hT, F⟩
    rw [parse_s3] at hT ⊢
    obtain ⟨_, _, _, _, _, rfl⟩ := hT.form
    exact ⟨⟨_, _, _, _, _, rfl⟩, F⟩
theorem heap_kept {W : World} {i : Nat} {o : Obj} (h : W.heap[i]? = some o) (o' : Obj) : (W.alloc o').heap[i]? = some o :=
  (((Fr.refl nob W).alloc o').block i (Array.getElem?_eq_some_iff.1 h).1 (fun h => h)).trans h
theorem t2_in (w : World) (n : Nat) (hn : w.heap.size = n) :
    TrV ((((((w.alloc (.cells #[.int .u8 3, .string ⟨#[97]⟩, .slice none 0 0] 24)).alloc (.cells #[.int .u8 3, .string ⟨#[98]⟩, .slice none 0 0] 24)).alloc
      (.cells #[.int .u8 3, .string ⟨#[97]⟩, .slice none 0 0, .int .u8 3, .string ⟨#[98]⟩, .slice none 0 0] 24)).alloc (.cells #[.int .u8 3, .string ⟨#[99]⟩, .slice none 0 0] 24)).alloc
      (.cells #[.int .u8 3, .string ⟨#[99]⟩, .slice none 0 0] 24)).alloc
      (.cells #[.int .u8 6, .string ⟨#[]⟩, .slice (some ⟨n + 1 + 1, 0, none⟩) 2 2, .int .u8 4, .string ⟨#[]⟩, .slice (some ⟨n + 1 + 1 + 1 + 1, 0, none⟩) 1 1] 24)) (fun b => b < n + 1 + 1 + 1 + 1 + 1 + 1) t2
      (.agg #[.int .u8 5, .string ⟨#[]⟩, .slice (some ⟨n + 1 + 1 + 1 + 1 + 1, 0, none⟩) 2 2]) := by
  subst hn
  have s2 : ((w.alloc (.cells #[.int .u8 3, .string ⟨#[97]⟩, .slice none 0 0] 24)).alloc (.cells #[.int .u8 3, .string ⟨#[98]⟩, .slice none 0 0] 24)).heap.size = w.heap.size + 1 + 1 := by simp
  generalize (w.alloc (.cells #[.int .u8 3, .string ⟨#[97]⟩, .slice none 0 0] 24)).alloc (.cells #[.int .u8 3, .string ⟨#[98]⟩, .slice none 0 0] 24) = w2 at s2 ⊢
  generalize w.heap.size + 1 + 1 = m at s2 ⊢
  subst s2
  have b1 := heap_alloc_new w2 (.cells #[.int .u8 3, .string ⟨#[97]⟩, .slice none 0 0, .int .u8 3, .string ⟨#[98]⟩, .slice none 0 0] 24)
  have s3 : ((w2.alloc (.cells #[.int .u8 3, .string ⟨#[97]⟩, .slice none 0 0, .int .u8 3, .string ⟨#[98]⟩, .slice none 0 0] 24)).alloc (.cells #[.int .u8 3, .string ⟨#[99]⟩, .slice none 0 0] 24)).heap.size = w2.heap.size + 1 + 1 := by simp
  have b2 := heap_kept b1 (.cells #[.int .u8 3, .string ⟨#[99]⟩, .slice none 0 0] 24)
  generalize (w2.alloc (.cells #[.int .u8 3, .string ⟨#[97]⟩, .slice none 0 0, .int .u8 3, .string ⟨#[98]⟩, .slice none 0 0] 24)).alloc (.cells #[.int .u8 3, .string ⟨#[99]⟩, .slice none 0 0] 24) = w4 at s3 b2 ⊢
  have c1 := heap_alloc_new w4 (.cells #[.int .u8 3, .string ⟨#[99]⟩, .slice none 0 0] 24)
  have b3 := heap_kept b2 (.cells #[.int .u8 3, .string ⟨#[99]⟩, .slice none 0 0] 24)
  have s5 : (w4.alloc (.cells #[.int .u8 3, .string ⟨#[99]⟩, .slice none 0 0] 24)).heap.size = w2.heap.size + 1 + 1 + 1 := by simp [s3]
  rw [s3] at c1
  generalize w4.alloc (.cells #[.int .u8 3, .string ⟨#[99]⟩, .slice none 0 0] 24) = w5 at *
  have d1 := heap_alloc_new w5 (.cells #[.int .u8 6, .string ⟨#[]⟩, .slice (some ⟨w2.heap.size, 0, none⟩) 2 2, .int .u8 4, .string ⟨#[]⟩, .slice (some ⟨w2.heap.size + 1 + 1, 0, none⟩) 1 1] 24)
  rw [s5] at d1
  have b4 := heap_kept b3 (.cells #[.int .u8 6, .string ⟨#[]⟩, .slice (some ⟨w2.heap.size, 0, none⟩) 2 2, .int .u8 4, .string ⟨#[]⟩, .slice (some ⟨w2.heap.size + 1 + 1, 0, none⟩) 1 1] 24)
  have c2 := heap_kept c1 (.cells #[.int .u8 6, .string ⟨#[]⟩, .slice (some ⟨w2.heap.size, 0, none⟩) 2 2, .int .u8 4, .string ⟨#[]⟩, .slice (some ⟨w2.heap.size + 1 + 1, 0, none⟩) 1 1] 24)
  generalize w5.alloc (.cells #[.int .u8 6, .string ⟨#[]⟩, .slice (some ⟨w2.heap.size, 0, none⟩) 2 2, .int .u8 4, .string ⟨#[]⟩, .slice (some ⟨w2.heap.size + 1 + 1, 0, none⟩) 1 1] 24) = w6 at *
  have nm : ∀ (c : UInt8) (S : Nat → Prop), TrV w6 S (nmT c) (.agg #[.int .u8 3, .string ⟨#[c]⟩, .slice none 0 0]) := fun c S => by
    unfold nmT; rw [TrV]; exact ⟨none, 0, rfl, fun h => absurd rfl h⟩
  unfold t2
  rw [TrV]
  refine ⟨_, _, rfl, fun _ => ⟨_, rfl, ⟨by omega, flg_of d1⟩, ?_⟩⟩
  rw [KidsV]
  refine ⟨⟨_, _, _, by rw [Lib.cell_of_heap d1]; rfl, by rw [Lib.cell_of_heap d1]; rfl, by rw [Lib.cell_of_heap d1]; rfl, ?_⟩, ?_⟩
  · rw [TrV]
    refine ⟨_, _, rfl, fun _ => ⟨_, rfl, ⟨by omega, flg_of b4⟩, ?_⟩⟩
    rw [KidsV, KidsV, KidsV]
    exact ⟨⟨_, _, _, by rw [Lib.cell_of_heap b4]; rfl, by rw [Lib.cell_of_heap b4]; rfl, by rw [Lib.cell_of_heap b4]; rfl, nm 97 _⟩, ⟨_, _, _, by rw [Lib.cell_of_heap b4]; rfl, by rw [Lib.cell_of_heap b4]; rfl, by rw [Lib.cell_of_heap b4]; rfl, nm 98 _⟩, trivial⟩
  · rw [KidsV, KidsV]
    refine ⟨⟨_, _, _, by rw [Lib.cell_of_heap d1]; rfl, by rw [Lib.cell_of_heap d1]; rfl, by rw [Lib.cell_of_heap d1]; rfl, ?_⟩, trivial⟩
    rw [TrV]
    refine ⟨_, _, rfl, fun _ => ⟨_, rfl, ⟨by omega, flg_of c2⟩, ?_⟩⟩
    rw [KidsV, KidsV]
    exact ⟨⟨_, _, _, by rw [Lib.cell_of_heap c2]; rfl, by rw [Lib.cell_of_heap c2]; rfl, by rw [Lib.cell_of_heap c2]; rfl, nm 99 _⟩, trivial⟩
theorem wk_print (v : Value) (w : World) (hT : TrV w (fun b => b < w.heap.size) t2 v) : Calls Try.prog 46 #[v] w fun e w' => e = .returned (.tuple #[.string ⟨#[40, 97, 32, 124, 32, 98, 41, 32, 38, 32, 33, 99]⟩, .int .i64 0]) ∧ Fr nob w w' := by
  refine (print_any t2 v w rfl (by rw [print_t2]; decide) hT.toO).mono ?_
  rintro e w' ⟨F, rfl⟩
  rw [if_pos valid_t2, print_t2]
  exact ⟨rfl, F⟩
theorem lits2 (w : World) (n : Nat) (hn : w.heap.size = n) (xs ys zs : Array Value) (T1 T2 : TypeId) :
    (((w.alloc (.cells xs T1)).alloc (.cells ys T1)).alloc (.cells zs T2)).heap[n]? = some (.cells xs T1) ∧ (((w.alloc (.cells xs T1)).alloc (.cells ys T1)).alloc (.cells zs T2)).heap[n + 1]? = some (.cells ys T1) ∧
    (((w.alloc (.cells xs T1)).alloc (.cells ys T1)).alloc (.cells zs T2)).heap[n + 1 + 1]? = some (.cells zs T2) ∧ Fr nob w (((w.alloc (.cells xs T1)).alloc (.cells ys T1)).alloc (.cells zs T2)) := by
  subst hn
  have s1 : (w.alloc (.cells xs T1)).heap.size = w.heap.size + 1 := by simp
  have s2 : ((w.alloc (.cells xs T1)).alloc (.cells ys T1)).heap.size = w.heap.size + 1 + 1 := by simp
  refine ⟨heap_kept (heap_kept (heap_alloc_new w _) _) _, ?_, ?_, (((Fr.refl nob w).alloc _).alloc _).alloc _⟩
  · rw [← s1]; exact heap_kept (heap_alloc_new _ _) _
  · rw [← s2]; exact heap_alloc_new _ _
set_option maxHeartbeats 2000000 in
set_option maxRecDepth 100000 in
theorem wakes_any (w : World) : Calls Try.prog 12 #[] w fun e w' => e = .returned (.bool true) ∧ Fr nob w w' := by
  have hn := name_any
  have h1 := Lib.hid wk_parse1
  have h3 := Lib.hid wk_parse3
  go_enter Try.func12, Try.ntmps12
  go_wp2_with fail
  refine (h1.out w).mono ?_
  rintro e w1 ⟨⟨nm, a, cp, rfl⟩, F1⟩
  have HF1 := Lib.hid F1
  clear F1
  go_wp2_with (go_at_call 47; refine (hn _ _).mono ?_; rintro e w' ⟨rfl, rfl⟩)
  have HB1 := Lib.hid (Box3.new w1 (.int .u8 5) (.string nm) (.slice a 3 cp) 24)
  have HF2 := Lib.hid (HF1.out.alloc (.cells #[.int .u8 5, .string nm, .slice a 3 cp] 24))
  have hT := t2_in (w1.alloc (.cells #[.int .u8 5, .string nm, .slice a 3 cp] 24)) (w1.heap.size + 1) (by simp)
  have hP := wk_print _ _ (hT.kept (Fr.refl nob _) (fun b _ hb => ⟨fun h => h, hb⟩))
  clear hT
  refine hP.mono ?_
  clear hP
  rintro e w2 ⟨rfl, F2⟩
  have A : Fr nob (w1.alloc (.cells #[.int .u8 5, .string nm, .slice a 3 cp] 24)) w2 := by
    refine Fr.trans ?_ F2 (fun _ _ h => h)
    exact ((((((Fr.refl nob _).alloc _).alloc _).alloc _).alloc _).alloc _).alloc _
  have HB2 := Lib.hid (HB1.out.kept A (fun h => h))
  have HF3 := Lib.hid (HF2.out.trans A (fun _ _ h => h))
  clear F2 A HB1 HF2 HF1 hn h1
  go_wp2_with fail
  refine (h3.out w2).mono ?_
  rintro e w3 ⟨⟨p1, p2, p3, p4, p5, rfl⟩, F3⟩
  have HB3 := Lib.hid (HB2.out.kept F3 (fun h => h))
  have HF4 := Lib.hid (HF3.out.trans F3 (fun _ _ h => h))
  clear F3 HB2 HF3 h3
  go_wp2_with fail
  have D : Fr nob w3 (w3.alloc (.cells #[.int .u8 (p1 : Int), .string p2, .slice p3 p4 p5] 24)) := (Fr.refl nob w3).alloc _
  have Ds : (w3.alloc (.cells #[.int .u8 (p1 : Int), .string p2, .slice p3 p4 p5] 24)).heap.size = w3.heap.size + 1 := by simp
  generalize w3.alloc (.cells #[.int .u8 (p1 : Int), .string p2, .slice p3 p4 p5] 24) = w4 at *
  obtain ⟨k1, k2, k3, F4⟩ := lits2 w4 (w3.heap.size + 1) Ds #[.int .i64 1, .int .i64 2] #[.int .i64 (-1)] #[.slice (some ⟨w3.heap.size + 1, 0, none⟩) 2 2, .slice (some ⟨w3.heap.size + 1 + 1, 0, none⟩) 1 1] 3 37
  have hS := solve_two_all _ 2 _ 2 _ 1 _ (by rw [Lib.cell_of_heap k3]; rfl) (by rw [Lib.cell_of_heap k3]; rfl) (by rw [Lib.cell_of_heap k1]; rfl) (by rw [Lib.cell_of_heap k1]; rfl) (by rw [Lib.cell_of_heap k2]; rfl)
  have F5 := D.trans F4 (fun _ _ h => h)
  have HB4 := Lib.hid (HB3.out.kept F5 (fun h => h))
  have HF5 := Lib.hid (HF4.out.trans F5 (fun _ _ h => h))
  clear k1 k2 k3 F4 F5 D Ds HB3 HF4
  refine hS.mono ?_
  clear hS
  rintro e w5 ⟨rfl, F6⟩
  have HB5 := Lib.hid (HB4.out.kept F6 (fun h => h))
  have HF6 := Lib.hid (HF5.out.trans F6 (fun _ _ h => h))
  clear F6 HB4 HF5
  go_wp2_with fail
  have D : Fr nob w5 (w5.alloc (.cells #[.bool true, .int .u32 2, .slice none 0 0] 65)) := (Fr.refl nob w5).alloc _
  have Ds : (w5.alloc (.cells #[.bool true, .int .u32 2, .slice none 0 0] 65)).heap.size = w5.heap.size + 1 := by simp
  have HX5 := Lib.hid (Box3.new w5 (.bool true) (.int .u32 2) (.slice none 0 0) 65)
  generalize w5.alloc (.cells #[.bool true, .int .u32 2, .slice none 0 0] 65) = w6 at *
  obtain ⟨k1, k2, k3, F4⟩ := lits2 w6 (w5.heap.size + 1) Ds #[.int .i64 1] #[.int .i64 (-1)] #[.slice (some ⟨w5.heap.size + 1, 0, none⟩) 1 1, .slice (some ⟨w5.heap.size + 1 + 1, 0, none⟩) 1 1] 3 37
  have hS := solve_no_all _ 2 _ 1 _ 1 _ (by rw [Lib.cell_of_heap k3]; rfl) (by rw [Lib.cell_of_heap k3]; rfl) (by rw [Lib.cell_of_heap k1]; rfl) (by rw [Lib.cell_of_heap k2]; rfl)
  have F5 := D.trans F4 (fun _ _ h => h)
  have HB6 := Lib.hid (HB5.out.kept F5 (fun h => h))
  have HF7 := Lib.hid (HF6.out.trans F5 (fun _ _ h => h))
  have HX6 := Lib.hid (HX5.out.kept F4 (fun h => h))
  clear k1 k2 k3 F4 F5 D Ds HB5 HF6 HX5
  refine hS.mono ?_
  clear hS
  rintro e w7 ⟨⟨a', cp', rfl⟩, F6⟩
  have HB7 := Lib.hid (HB6.out.kept F6 (fun h => h))
  have HF8 := Lib.hid (HF7.out.trans F6 (fun _ _ h => h))
  have HX7 := Lib.hid (HX6.out.kept F6 (fun h => h))
  clear F6 HB6 HF7 HX6
  have D : Fr nob w7 (w7.alloc (.cells #[.bool false, .int .u32 0, .slice a' 1 cp'] 65)) := (Fr.refl nob w7).alloc _
  have Y8 := Box3.new w7 (.bool false) (.int .u32 0) (.slice a' 1 cp') 65
  have B8 := HB7.out.kept D (fun h => h)
  have X8 := HX7.out.kept D (fun h => h)
  have HF9 := Lib.hid (HF8.out.trans D (fun _ _ h => h))
  clear HB7 HX7 HF8 D
  go_upto_region 6 with fail
  generalize w7.alloc (.cells #[.bool false, .int .u32 0, .slice a' 1 cp'] 65) = w8 at *
  have b0 := B8.c0
  have b2 := B8.c2
  have x0 := X8.c0
  have x1 := X8.c1
  have y0 := Y8.c0
  have y2 := Y8.c2
  clear B8 X8 Y8
  go_wp2_with fail
  go_ret
  exact ⟨rfl, HF9.out⟩
end Go.Proofs.Ytaojojjdfdlgpaa
