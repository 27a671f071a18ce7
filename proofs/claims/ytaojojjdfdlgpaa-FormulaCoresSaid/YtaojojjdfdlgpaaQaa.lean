import Derived.Test.YtaojojjdfdlgpaaQy
import Derived.Test.YtaojojjdfdlgpaaQz
import Derived.Deep.RegionWith
namespace Go.Proofs.Ytaojojjdfdlgpaa
open Go.RowKit

/-! Print -/
mutual
def prP : Tr → Nat → List UInt8
  | .mk op nm kids, level => if levP op < level then [40] ++ (sgnP op 0 ++ nm ++ prL op 0 kids) ++ [41] else sgnP op 0 ++ nm ++ prL op 0 kids
def prL : Nat → Nat → List Tr → List UInt8
  | _, _, [] => []
  | op, k, t :: ts => (if 0 < k then [32] ++ sgnP op k ++ [32] else []) ++ prP t (kidP op k) ++ prL op (k + 1) ts
end
def fvP (tb wb : Nat) : Value := .func (.func 79) #[] #[.pointer (some ⟨tb, 0, none⟩), .pointer (some ⟨wb, 0, none⟩)]
abbrev TW : TypeId := 137
theorem ok_kept {tb M : Nat} {w w' : World} {cs : Array Value} {T : TypeId} {fz : Nat × Nat} (h : Lib.OthersKept TU (some tb) w w') (hM : w.heap[M]? = some (.cells cs T fz)) (hne : M ≠ tb) (hT : T ≠ TU) : w'.heap[M]? = some (.cells cs T fz) :=
  h M _ hM (fun e => hne (Option.some.inj e)) (fun c f e => by cases e; exact hT rfl)
theorem strCells_txt (l : List UInt8) : Lib.strCells (txt l) = Lib.byteCells l := by simp [Lib.strCells, Lib.byteCells]
def PrC (t : Tr) : Prop := ∀ (v : Value) (S : Nat → Prop) (w : World) (acc : List UInt8) (level B tb wb : Nat), level ≤ 7 → acc.length + (prP t level).length ≤ 1000000000 → TrO w S t v → (∀ b, S b → b < B) → Lib.IsBuilder TB TU B tb (Lib.byteCells acc) w → w.heap[wb]? = some (.cells #[fvP tb wb] TW (0, 0)) → B ≤ w.heap.size → wb ≠ tb → tb < w.heap.size →
  Calls Try.prog 79 #[v, .int .i64 (level : Int), .pointer (some ⟨tb, 0, none⟩), .pointer (some ⟨wb, 0, none⟩)] w fun e w' => e = .returned (.tuple #[]) ∧ Lib.IsBuilder TB TU B tb (Lib.byteCells (acc ++ prP t level)) w' ∧ Below B w w' ∧ Lib.OthersKept TU (some tb) w w'
theorem isB_alloc {B tb : Nat} {bs : List Value} {w : World} (h : Lib.IsBuilder TB TU B tb bs w) (o : Obj) : Lib.IsBuilder TB TU B tb bs (w.alloc o) := by
  have key : ∀ p, Lib.BuilderAt TB TU B tb p bs w → Lib.BuilderAt TB TU B tb p bs (w.alloc o) := by
    rintro p ⟨hB, v, h1, h2, h3⟩
    have hlt : tb < w.heap.size := (Array.getElem?_eq_some_iff.1 h1).1
    exact ⟨hB, v, by rw [((Fr.refl nob w).alloc o).block tb hlt (fun h => h)]; exact h1, h2.alloc o, h3⟩
  rcases h with h | h
  · exact .inl (key _ h)
  · exact .inr (key _ h)
theorem isB_drew {B tb : Nat} {bs : List Value} {w : World} (h : Lib.IsBuilder TB TU B tb bs w) : Lib.IsBuilder TB TU B tb bs w.drew := h
theorem sgnP_le (op k : Nat) : (sgnP op k).length ≤ 3 := by
  unfold sgnP; repeat' split
  all_goals simp
theorem kidP_le (op k : Nat) : kidP op k ≤ 7 := by
  have h : levP op ≤ 6 := by
    unfold levP; repeat' split
    all_goals omega
  unfold kidP; repeat' split
  all_goals omega
set_option maxHeartbeats 4000000 in
theorem body_any (op : Nat) (nm : List UInt8) (kids : List Tr) (ih : ∀ t ∈ kids, PrC t) (a : Option Addr) (cp : Nat) (S : Nat → Prop) (w : World) (acc : List UInt8) (level B tb wb : Nat) (hlv : level ≤ levP op) (hlen : acc.length + (sgnP op 0 ++ nm ++ prL op 0 kids).length ≤ 1000000000)
    (hK : kids ≠ [] → ∃ b ob, a = some ⟨b, ob, none⟩ ∧ S b ∧ KidsO w S kids b ob 0) (hS : ∀ b, S b → b < B) (hI : Lib.IsBuilder TB TU B tb (Lib.byteCells acc) w) (hW : w.heap[wb]? = some (.cells #[fvP tb wb] TW (0, 0))) (hB : B ≤ w.heap.size) (hne : wb ≠ tb) (htb : tb < w.heap.size) (hkl : kids.length ≤ 1000000) :
    Calls Try.prog 79 #[.agg #[.int .u8 (op : Int), .string (txt nm), .slice a kids.length cp], .int .i64 (level : Int), .pointer (some ⟨tb, 0, none⟩), .pointer (some ⟨wb, 0, none⟩)] w fun e w' => e = .returned (.tuple #[]) ∧ Lib.IsBuilder TB TU B tb (Lib.byteCells (acc ++ (sgnP op 0 ++ nm ++ prL op 0 kids))) w' ∧ Below B w w' ∧ Lib.OthersKept TU (some tb) w w' := by
  have hbox := heap_alloc_new w (.cells #[.int .u8 (op : Int), .string (txt nm), .slice a kids.length cp] 24)
  have A : Fr nob w (w.alloc (.cells #[.int .u8 (op : Int), .string (txt nm), .slice a kids.length cp] 24)) := (Fr.refl nob w).alloc _
  have hI1 := isB_alloc hI (.cells #[.int .u8 (op : Int), .string (txt nm), .slice a kids.length cp] 24)
  have hwl : wb < w.heap.size := (Array.getElem?_eq_some_iff.1 hW).1
  have hW1 := (A.block wb hwl (fun h => h)).trans hW
  have hB1 : Below B w (w.alloc (.cells #[.int .u8 (op : Int), .string (txt nm), .slice a kids.length cp] 24)) := (Below.refl B w).alloc hB _
  have hO1 : Lib.OthersKept TU (some tb) w (w.alloc (.cells #[.int .u8 (op : Int), .string (txt nm), .slice a kids.length cp] 24)) := (Lib.OthersKept.refl _ _ w).alloc _
  have hll := levelOf_any op
  have hsg : ∀ w, Calls Try.prog 82 #[.int .u8 (op : Int), .int .i64 0] w fun e w' => e = .returned (.string (txt (sgnP op 0))) ∧ w = w' := sign_any op 0
  have g0 : (w.alloc (.cells #[.int .u8 (op : Int), .string (txt nm), .slice a kids.length cp] 24)).cell? ⟨w.heap.size, 0, none⟩ = some (.int .u8 (op : Int)) := by rw [Lib.cell_of_heap hbox]; rfl
  have q0 : decide ((levP op : Int) < (level : Int)) = false := by simp; omega
  have HK := Lib.hid hK
  have HS := Lib.hid hS
  have HIH := Lib.hid ih
  have HBX := Lib.hid hbox
  have HI1 := Lib.hid hI1
  have HW1 := Lib.hid hW1
  have HLEN := Lib.hid hlen
  have hz1 : w.heap.size < (w.alloc (.cells #[.int .u8 (op : Int), .string (txt nm), .slice a kids.length cp] 24)).heap.size := by simp
  have HB1 := Lib.hid hB1
  have HO1 := Lib.hid hO1
  obtain ⟨nk, hnk⟩ : ∃ nk, kids.length = nk := ⟨_, rfl⟩
  have HNK := Lib.hid hnk
  have hMt : w.heap.size ≠ tb := by omega
  rw [hnk] at hkl
  clear hbox A hI1 hW1 hB1 hO1 ih hK hS hI hW hlen hnk
  go_enter Try.func79, Try.ntmps79
  go_wp2_with fail
  refine (hll _).mono ?_
  rintro e w' ⟨rfl, rfl⟩
  go_wp2_with fail
  refine (hsg _).mono ?_
  rintro e w' ⟨rfl, rfl⟩
  go_wp2_with fail
  generalize w.alloc (.cells #[.int .u8 (op : Int), .string (txt nm), .slice a kids.length cp] 24) = w1 at *
  refine (writeString_any B tb _ _ w1 HI1.out (by rw [Lib.byteCells_length, txt_size]; have := HLEN.out; simp at this; omega) (by omega)).mono ?_
  rintro e w2 ⟨rfl, hI2, hb2, ho2⟩
  have hx2 := ok_kept ho2 HBX.out hMt (by decide)
  have g1 : w2.cell? ⟨w.heap.size, 1, none⟩ = some (.string (txt nm)) := by rw [Lib.cell_of_heap hx2]; rfl
  have HBX2 := Lib.hid hx2
  have HW2 := Lib.hid (ok_kept ho2 HW1.out hne (by decide))
  have HI2 := Lib.hid (Or.inr hI2 : Lib.IsBuilder TB TU B tb _ w2)
  have HB2 := Lib.hid (HB1.out.trans hb2)
  have HO2 := Lib.hid (HO1.out.trans ho2)
  have hz2 := hb2.size
  clear hI2 hb2 ho2 hx2 g0 HI1 HW1 HBX
  go_wp2_with fail
  refine (writeString_any B tb _ _ w2 HI2.out (by rw [List.length_append, Lib.byteCells_length, Lib.strCells_length, txt_size, txt_size]; have := HLEN.out; simp at this; omega) (by omega)).mono ?_
  rintro e w3 ⟨rfl, hI3, hb3, ho3⟩
  have hx3 := ok_kept ho3 HBX2.out hMt (by decide)
  have g2 : w3.cell? ⟨w.heap.size, 2, none⟩ = some (.slice a kids.length cp) := by rw [Lib.cell_of_heap hx3]; rfl
  have HBX3 := Lib.hid hx3
  have HW3 := Lib.hid (ok_kept ho3 HW2.out hne (by decide))
  have HI3 : Hid (Lib.IsBuilder TB TU B tb (Lib.byteCells (acc ++ (sgnP op 0 ++ nm))) w3) := Lib.hid (by
    have e : Lib.byteCells (acc ++ (sgnP op 0 ++ nm)) = Lib.byteCells acc ++ Lib.strCells (txt (sgnP op 0)) ++ Lib.strCells (txt nm) := by
      rw [strCells_txt, strCells_txt, Lib.byteCells_append, Lib.byteCells_append, List.append_assoc]
    rw [e]
    exact .inr hI3)
  have HB3 := Lib.hid (HB2.out.trans hb3)
  have HO3 := Lib.hid (HO2.out.trans ho3)
  have hz3 := hb3.size
  obtain ⟨ALL, hALL⟩ : ∃ ALL, acc ++ (sgnP op 0 ++ nm ++ prL op 0 kids) = ALL := ⟨_, rfl⟩
  have HA := Lib.hid hALL
  clear hI3 hb3 ho3 hx3 g1 HI2 HW2 HBX2 HB2 HO2 HB1 HO1
  go_wp2_with fail
  rw [HNK.out] at g2 ⊢
  go_loopg [28] nk (fun m iv wr => ∃ (k : Nat) (acc' : List UInt8), k + m = nk ∧ iv = .int .i64 (k : Int) ∧ acc' ++ prL op k (kids.drop k) = ALL ∧ Lib.IsBuilder TB TU B tb (Lib.byteCells acc') wr ∧ wr.heap[w.heap.size]? = some (.cells #[.int .u8 (op : Int), .string (txt nm), .slice a kids.length cp] 24 (0, 0)) ∧ wr.heap[wb]? = some (.cells #[fvP tb wb] TW (0, 0)) ∧ Below B w wr ∧ Lib.OthersKept TU (some tb) w wr)
  case atStart => exact ⟨0, acc ++ (sgnP op 0 ++ nm), by omega, rfl, by rw [← HA.out]; simp [List.append_assoc], HI3.out, HBX3.out, HW3.out, HB3.out, HO3.out⟩
  case round =>
    clear HI3 HBX3 HW3 HB3 HO3 g2
    obtain ⟨k, acc', hkm, rfl, hall, hI, hX, hW, hBl, hO⟩ := hrel
    have HALL := Lib.hid hall
    have HI := Lib.hid hI
    have HX := Lib.hid hX
    have HW := Lib.hid hW
    have HBl := Lib.hid hBl
    have HO := Lib.hid hO
    have hzr := hBl.size
    clear hall hI hX hW hBl hO
    cases gk with
    | zero =>
      obtain rfl : k = nk := by omega
      have hv : acc' = ALL := by rw [← HALL.out, List.drop_eq_nil_of_le (by rw [HNK.out]; exact Nat.le_refl _), prL]; simp
      have HV := Lib.hid hv
      clear hv
      go_wp2_with fail
      refine bodyPost_end (results_none rfl _ _ _) rfl ⟨rfl, ?_, HBl.out, HO.out⟩
      rw [HA.out, ← HV.out]
      exact HI.out
    | succ m =>
      have hk : k < kids.length := by rw [HNK.out]; omega
      have hkt : kids[k]? = some kids[k] := List.getElem?_eq_getElem hk
      have hmem : kids[k] ∈ kids := List.getElem_mem hk
      generalize kids[k] = t at hkt hmem
      obtain ⟨b, ob, rfl, hSb, hKV⟩ := HK.out (by intro e; rw [e] at hk; simp at hk)
      obtain ⟨x, y, z, e0, e1, e2, hT⟩ := hKV.at hkt
      rw [show 0 + k = k by omega] at e0 e1 e2
      have FB : Fr (fun i => B ≤ i) w wr := ⟨HBl.out.os, HBl.out.tape, HBl.out.output, HBl.out.size, fun i _ hn => HBl.out.block i (Nat.lt_of_not_ge hn)⟩
      have hbB := HS.out b hSb
      have hbs : ¬ B ≤ b := by omega
      replace e0 := FB.cell e0 hbs
      replace e1 := FB.cell e1 hbs
      replace e2 := FB.cell e2 hbs
      have hT1 := hT.kept (T := S) FB (fun b h _ => ⟨Nat.not_le_of_lt (HS.out b h), h⟩)
      obtain ⟨o, nm', a', ln', cp', hform⟩ := hT1.form
      obtain ⟨rfl, rfl, rfl⟩ : x = .int .u8 (o : Int) ∧ y = .string (txt nm') ∧ z = .slice a' ln' cp' := by simpa using hform
      have hstep : prL op k (kids.drop k) = (if 0 < k then [32] ++ sgnP op k ++ [32] else []) ++ prP t (kidP op k) ++ prL op (k + 1) (kids.drop (k + 1)) := by
        rw [show kids.drop k = t :: kids.drop (k + 1) from List.drop_eq_getElem?_toList_append.trans (by rw [hkt]; rfl), prL]
      have hkd : kidP op k ≤ 7 := kidP_le op k
      have hsgk : ∀ w, Calls Try.prog 82 #[.int .u8 (op : Int), .int .i64 (k : Int)] w fun e w' => e = .returned (.string (txt (sgnP op k))) ∧ w = w' := sign_any op k
      have hkid : ∀ w, Calls Try.prog 83 #[.int .u8 (op : Int), .int .i64 (k : Int)] w fun e w' => e = .returned (.int .i64 (kidP op k : Int)) ∧ w = w' := kidLevel_any op k
      have hbx := heap_alloc_new wr (.cells #[.int .u8 (o : Int), .string (txt nm'), .slice a' ln' cp'] 24)
      have A : Fr nob wr (wr.alloc (.cells #[.int .u8 (o : Int), .string (txt nm'), .slice a' ln' cp'] 24)) := (Fr.refl nob wr).alloc _
      have hwr : wb < wr.heap.size := (Array.getElem?_eq_some_iff.1 HW.out).1
      have hMr : w.heap.size < wr.heap.size := (Array.getElem?_eq_some_iff.1 HX.out).1
      have htr : tb < wr.heap.size := by omega
      have HI1 := Lib.hid (isB_alloc HI.out (.cells #[.int .u8 (o : Int), .string (txt nm'), .slice a' ln' cp'] 24))
      have HW1 := Lib.hid ((A.block wb hwr (fun h => h)).trans HW.out)
      have HX1 := Lib.hid ((A.block w.heap.size hMr (fun h => h)).trans HX.out)
      have HT1 := Lib.hid (hT1.kept (T := S) A (fun b h _ => ⟨fun h => h, h⟩))
      have HBX := Lib.hid hbx
      have HBl1 := Lib.hid (HBl.out.alloc (by omega) (.cells #[.int .u8 (o : Int), .string (txt nm'), .slice a' ln' cp'] 24))
      have HO1 := Lib.hid (HO.out.alloc (.cells #[.int .u8 (o : Int), .string (txt nm'), .slice a' ln' cp'] 24))
      have HFW := Lib.hid A
      have HST := Lib.hid hstep
      have HKT := Lib.hid hmem
      have hz1 : (wr.alloc (.cells #[.int .u8 (o : Int), .string (txt nm'), .slice a' ln' cp'] 24)).heap.size = wr.heap.size + 1 := by simp
      have q3 : (k : Int) < (nk : Int) := by omega
      have q4 : (0 : Int) ≤ (k : Int) := Int.natCast_nonneg _
      have g0 : (wr.alloc (.cells #[.int .u8 (o : Int), .string (txt nm'), .slice a' ln' cp'] 24)).cell? ⟨w.heap.size, 0, none⟩ = some (.int .u8 (op : Int)) := by rw [Lib.cell_of_heap HX1.out]; rfl
      clear hform hk hkt hmem hKV hT hT1 FB A hbx hstep HI HW HX HBl HO hll hsg q0 hbB hbs hALL
      rcases Nat.eq_zero_or_pos k with hk0 | hk0
      · have q5 : ¬ 0 < k := by omega
        have HK0 := Lib.hid hk0
        clear hk0
        go_wp2_with fail
        clear g0
        have HIX : Hid (Lib.IsBuilder TB TU B tb (Lib.byteCells (acc' ++ [])) _) := Lib.hid (by rw [List.append_nil]; exact HI1.out)
        have HWX := HW1
        have HXX := HX1
        have HTX := HT1
        have HBXX := HBX
        have HBlX := HBl1
        have HOX := HO1
        clear HI1 HW1 HX1 HT1 HBX HBl1 HO1 hsgk
        generalize wr.alloc (.cells #[.int .u8 (o : Int), .string (txt nm'), .slice a' ln' cp'] 24) = wx at *
        have hALLlen : ALL.length ≤ 1000000000 := by rw [← HA.out]; have := HLEN.out; rw [List.length_append]; exact this
        have hcut : acc' ++ [] ++ prP t (kidP op k) ++ prL op (k + 1) (kids.drop (k + 1)) = ALL := by rw [← HALL.out, HST.out]; simp [q5, List.append_assoc]
        have hcl : (acc' ++ []).length + (prP t (kidP op k)).length ≤ 1000000000 := by
          have h := congrArg List.length hcut
          rw [List.length_append, List.length_append] at h
          omega
        have c0 : wx.cell? ⟨wb, 0, none⟩ = some (fvP tb wb) := by rw [Lib.cell_of_heap HWX.out]; rfl
        have b0 : wx.cell? ⟨wr.heap.size, 0, none⟩ = some (.int .u8 (o : Int)) := by rw [Lib.cell_of_heap HBXX.out]; rfl
        have b1 : wx.cell? ⟨wr.heap.size, 1, none⟩ = some (.string (txt nm')) := by rw [Lib.cell_of_heap HBXX.out]; rfl
        have b2 : wx.cell? ⟨wr.heap.size, 2, none⟩ = some (.slice a' ln' cp') := by rw [Lib.cell_of_heap HBXX.out]; rfl
        have x0 : wx.cell? ⟨w.heap.size, 0, none⟩ = some (.int .u8 (op : Int)) := by rw [Lib.cell_of_heap HXX.out]; rfl
        have D : Fr nob wx wx.drew := (Fr.refl nob wx).drew
        have D0 : Hid (Below B wx wx.drew) := Lib.hid (Below.refl B wx).drew
        have O0 : Hid (Lib.OthersKept TU (some tb) wx wx.drew) := Lib.hid (Lib.OthersKept.refl _ _ wx)
        have hsx : B ≤ wx.heap.size := Nat.le_trans hB HBlX.out.size
        have htx : tb < wx.heap.size := Nat.lt_of_lt_of_le htb HBlX.out.size
        have hC := HIH.out t HKT.out _ S wx.drew (acc' ++ []) (kidP op k) B tb wb hkd hcl (HTX.out.kept (T := S) D (fun b h _ => ⟨fun h => h, h⟩)) HS.out (isB_drew HIX.out) HWX.out hsx hne htx
        have HCUT := Lib.hid hcut
        clear hcut hcl hALLlen D q5
        unfold fvP at c0
        go_region_with (first
          | (go_at_call 83; (with_reducible refine (hkid _).mono ?_); rintro e w' ⟨rfl, rfl⟩)
          | (go_at_call 79; (with_reducible refine hC.mono ?_); rintro e w4 ⟨rfl, hI4, hb4, ho4⟩))
        all_goals (
          have HI4 := Lib.hid hI4
          have HW4 := Lib.hid (ok_kept ho4 HWX.out hne (by decide))
          have HX4 := Lib.hid (ok_kept ho4 HXX.out hMt (by decide))
          have HB4 := Lib.hid (HBlX.out.trans (D0.out.trans hb4))
          have HO4 := Lib.hid (HOX.out.trans (O0.out.trans ho4))
          clear hI4 hb4 ho4
          go_wp2_with fail
          go_roundg m
          case measure => omega
          case rel => exact ⟨k + 1, _, by omega, by go_num, HCUT.out, HI4.out, HX4.out, HW4.out, HB4.out, HO4.out⟩)
      · have q5 : 0 < k := hk0
        have hs3 := sgnP_le op k
        have q6 : ¬ 9223372036854775807 < 1 + (sgnP op k).length := by omega
        have q7 : ¬ 9223372036854775807 < 1 + (sgnP op k).length + 1 := by omega
        have hwl1 : acc'.length + ([32] ++ sgnP op k ++ [32]).length ≤ 1000000000 := by
          have h := congrArg List.length HALL.out
          rw [HST.out, if_pos q5, ← HA.out] at h
          have := HLEN.out
          simp only [List.length_append] at h this ⊢
          omega
        have HWL := Lib.hid hwl1
        clear hk0 hs3 hwl1
        go_wp2_with fail
        refine (hsgk _).mono ?_
        rintro e w' ⟨rfl, rfl⟩
        go_wp2_with fail
        clear g0
        generalize wr.alloc (.cells #[.int .u8 (o : Int), .string (txt nm'), .slice a' ln' cp'] 24) = w1 at *
        rw [show (ByteArray.mk #[32] ++ txt (sgnP op k) ++ ByteArray.mk #[32]) = txt ([32] ++ sgnP op k ++ [32]) from txt_ext (by simp)]
        refine (writeString_any B tb _ _ w1 HI1.out (by rw [Lib.byteCells_length, txt_size]; have := HWL.out; simp at this ⊢; omega) (by omega)).mono ?_
        rintro e wx ⟨rfl, hIx, hbx, hox⟩
        have hIX : Lib.IsBuilder TB TU B tb (Lib.byteCells (acc' ++ ([32] ++ sgnP op k ++ [32]))) wx := by
          rw [Lib.byteCells_append, ← strCells_txt ([32] ++ sgnP op k ++ [32])]
          exact .inr hIx
        have HIX := Lib.hid hIX
        have HWX := Lib.hid (ok_kept hox HW1.out hne (by decide))
        have HXX := Lib.hid (ok_kept hox HX1.out hMt (by decide))
        have HTX := Lib.hid (HT1.out.kept (T := S) (S' := fun i => B ≤ i) ⟨hbx.os, hbx.tape, hbx.output, hbx.size, fun i _ hn => hbx.block i (Nat.lt_of_not_ge hn)⟩ (fun b h _ => ⟨Nat.not_le_of_lt (HS.out b h), h⟩))
        have HBXX := Lib.hid (ok_kept hox HBX.out (by omega) (by decide))
        have HBlX := Lib.hid (HBl1.out.trans hbx)
        have HOX := Lib.hid (HO1.out.trans hox)
        clear hIX hIx hbx hox HI1 HW1 HX1 HT1 HBX HBl1 HO1 hsgk hz1
        go_wp2_with fail
        have hALLlen : ALL.length ≤ 1000000000 := by rw [← HA.out]; have := HLEN.out; rw [List.length_append]; exact this
        have hcut : acc' ++ ([32] ++ sgnP op k ++ [32]) ++ prP t (kidP op k) ++ prL op (k + 1) (kids.drop (k + 1)) = ALL := by rw [← HALL.out, HST.out]; simp [q5, List.append_assoc]
        have hcl : (acc' ++ ([32] ++ sgnP op k ++ [32])).length + (prP t (kidP op k)).length ≤ 1000000000 := by
          have h := congrArg List.length hcut
          rw [List.length_append, List.length_append] at h
          omega
        have c0 : wx.cell? ⟨wb, 0, none⟩ = some (fvP tb wb) := by rw [Lib.cell_of_heap HWX.out]; rfl
        have b0 : wx.cell? ⟨wr.heap.size, 0, none⟩ = some (.int .u8 (o : Int)) := by rw [Lib.cell_of_heap HBXX.out]; rfl
        have b1 : wx.cell? ⟨wr.heap.size, 1, none⟩ = some (.string (txt nm')) := by rw [Lib.cell_of_heap HBXX.out]; rfl
        have b2 : wx.cell? ⟨wr.heap.size, 2, none⟩ = some (.slice a' ln' cp') := by rw [Lib.cell_of_heap HBXX.out]; rfl
        have x0 : wx.cell? ⟨w.heap.size, 0, none⟩ = some (.int .u8 (op : Int)) := by rw [Lib.cell_of_heap HXX.out]; rfl
        have D : Fr nob wx wx.drew := (Fr.refl nob wx).drew
        have D0 : Hid (Below B wx wx.drew) := Lib.hid (Below.refl B wx).drew
        have O0 : Hid (Lib.OthersKept TU (some tb) wx wx.drew) := Lib.hid (Lib.OthersKept.refl _ _ wx)
        have hsx : B ≤ wx.heap.size := Nat.le_trans hB HBlX.out.size
        have htx : tb < wx.heap.size := Nat.lt_of_lt_of_le htb HBlX.out.size
        have hC := HIH.out t HKT.out _ S wx.drew (acc' ++ ([32] ++ sgnP op k ++ [32])) (kidP op k) B tb wb hkd hcl (HTX.out.kept (T := S) D (fun b h _ => ⟨fun h => h, h⟩)) HS.out (isB_drew HIX.out) HWX.out hsx hne htx
        have HCUT := Lib.hid hcut
        clear hcut hcl hALLlen D q5 q6 q7
        unfold fvP at c0
        go_region_with (first
          | (go_at_call 83; (with_reducible refine (hkid _).mono ?_); rintro e w' ⟨rfl, rfl⟩)
          | (go_at_call 79; (with_reducible refine hC.mono ?_); rintro e w4 ⟨rfl, hI4, hb4, ho4⟩))
        all_goals (
          have HI4 := Lib.hid hI4
          have HW4 := Lib.hid (ok_kept ho4 HWX.out hne (by decide))
          have HX4 := Lib.hid (ok_kept ho4 HXX.out hMt (by decide))
          have HB4 := Lib.hid (HBlX.out.trans (D0.out.trans hb4))
          have HO4 := Lib.hid (HOX.out.trans (O0.out.trans ho4))
          clear hI4 hb4 ho4
          go_wp2_with fail
          go_roundg m
          case measure => omega
          case rel => exact ⟨k + 1, _, by omega, by go_num, HCUT.out, HI4.out, HX4.out, HW4.out, HB4.out, HO4.out⟩)
end Go.Proofs.Ytaojojjdfdlgpaa
