import Derived.Test.YtaojojjdfdlgpaaDoorWs
import Derived.Lib.LaidTab
namespace Go.Proofs.YtaojojjdfdlgpaaDoor
open Go.RowKit Go.Sort

/-! the program's Write -/
theorem powG : Tryd.prog.globalNamed "internal/strconv.uint64pow10" = some 0 := by kernel_rfl
abbrev Pow (w : World) : Prop := Lib.TabIs Tryd.prog w "internal/strconv.uint64pow10" .u64 Lib.pow10Tab
theorem Pow.kept {w w' : World} (h : Pow w) (hb : w'.heap[(0 : Nat)]? = w.heap[(0 : Nat)]?) : Pow w' := by
  unfold Pow Lib.TabIs World.var? at h ⊢
  rw [powG] at h ⊢
  simp only [Option.bind_some] at h ⊢
  rw [hb]
  exact h
theorem Pow.lt {w : World} (h : Pow w) : (0 : Nat) < w.heap.size := by
  unfold Pow Lib.TabIs World.var? at h
  rw [powG] at h
  simp only [Option.bind_some] at h
  rcases Nat.lt_or_ge (0 : Nat) w.heap.size with h1 | h1
  · exact h1
  · rw [Array.getElem?_eq_none h1] at h; cases h
theorem Pow.below {w w' : World} (h : Pow w) (hb : Below w.heap.size w w') : Pow w' := h.kept (hb.block _ h.lt)
theorem Pow.fr {w w' : World} (h : Pow w) (hb : Fr nob w w') : Pow w' := h.kept (hb.block _ h.lt (fun h => h))
theorem fr_grow (w : World) (k : Nat) (os : Array Obj) : Fr nob w (grow (w.drewN k) os) :=
  ⟨rfl, rfl, rfl, by show w.heap.size ≤ (w.heap ++ os).size; rw [Array.size_append]; omega, fun i hi _ => by show (w.heap ++ os)[i]? = _; rw [Array.getElem?_append_left hi]⟩
theorem isB_fr {B tb : Nat} {bs : List Value} {w w' : World} (h : Lib.IsBuilder TB TU B tb bs w) (f : Fr nob w w') : Lib.IsBuilder TB TU B tb bs w' := by
  have key : ∀ p, Lib.BuilderAt TB TU B tb p bs w → Lib.BuilderAt TB TU B tb p bs w' := by
    rintro p ⟨hB, v, h1, h2, h3⟩
    have hlt : tb < w.heap.size := (Array.getElem?_eq_some_iff.1 h1).1
    exact ⟨hB, v, (f.block tb hlt (fun h => h)).trans h1, f.row h2 (fun _ _ h => h), h3⟩
  rcases h with h | h
  · exact .inl (key _ h)
  · exact .inr (key _ h)
theorem fr_of_below {B : Nat} {w w' : World} (h : Below B w w') : Fr (fun i => B ≤ i) w w' := ⟨h.os, h.tape, h.output, h.size, fun i _ hn => h.block i (Nat.lt_of_not_ge hn)⟩
theorem write_itoa (n : Int) (h1 : -1000000000000 ≤ n) (h2 : n ≤ 1000000000000) (w : World) (hp : Pow w) :
    Calls Tryd.prog 16 #[.int .i64 n] w fun e w' => e = .returned (.string (txt (Lib.itoa n))) ∧ Fr nob w w' :=
  (Tryd.strconv_Itoa n (by omega) (by omega) w hp).mono fun e w' ⟨he, k, os, hw⟩ => ⟨he, by rw [hw]; exact fr_grow w k os⟩
def WrPost (n : Int) (l : List (List Int)) (w : World) (e : Ending) (w' : World) : Prop :=
  Fr nob w w' ∧ e = .returned (if chkP n l = 0 then .tuple #[.string (txt (writeP n l)), .int .i64 0] else .tuple #[.string ⟨#[]⟩, .int .i64 (chkP n l)])
set_option maxHeartbeats 4000000 in
theorem write_any (l : List (List Int)) (n : Int) (v : Value) (w : World) (hp : Pow w) (hwd : Wide l) (hm : chkP n l = 0 → Mods l) (h : RowsO w (fun b => b < w.heap.size) l v) :
    Calls Tryd.prog 6 #[.int .i64 n, v] w (WrPost n l w) := by
  have hC := chk_any l n v _ w hwd h
  obtain ⟨a, cap, rfl⟩ := h.form
  by_cases hk : chkP n l = 0
  · rw [hk] at hC
    have hm := hm hk
    have hn : 0 ≤ n ∧ n ≤ 24 := by
      unfold chkP at hk
      split at hk
      · omega
      · omega
    obtain ⟨n1, n2⟩ := hn
    obtain ⟨c, hc⟩ : ∃ c, l.length = c := ⟨_, rfl⟩
    have hlen : (writeP n l).length ≤ 100000000 := by
      unfold writeP headP
      have h1 := itoa_len n (by omega) (by omega)
      have h2 := itoa_len (l.length : Int) (by omega) (by have := hm.len; omega)
      have h3 := clausP_len hm.row
      have h4 := hm.len
      simp only [List.length_append, List.length_cons, List.length_nil]
      omega
    obtain ⟨ALL, hALL⟩ : ∃ ALL, writeP n l = ALL := ⟨_, rfl⟩
    have hpost : ∀ e w', Fr nob w w' → e = .returned (.tuple #[.string (txt ALL), .int .i64 0]) → WrPost n l w e w' := by
      intro e w' f he
      unfold WrPost
      rw [if_pos hk, hALL]
      exact ⟨f, he⟩
    have hlc := hm.len
    rw [hALL] at hlen
    unfold writeP headP at hALL
    rw [hc] at hlc h hALL hC ⊢
    have zn : (txt (Lib.itoa n)).size ≤ 14 := by rw [txt_size]; exact itoa_len n (by omega) (by omega)
    have zm : (txt (Lib.itoa (c : Int))).size ≤ 14 := by rw [txt_size]; exact itoa_len _ (by omega) (by omega)
    have A : Fr nob w (w.alloc (.cells #[.pointer none, .slice none 0 0] 48)) := (Fr.refl nob w).alloc _
    have HI := Lib.hid (Lib.fresh_isBuilder TB TU w)
    have cn := write_itoa n (by omega) (by omega) _ (hp.fr A)
    have HALL := Lib.hid hALL
    have HLEN := Lib.hid hlen
    have HH := Lib.hid h
    have HN := Lib.hid hc
    have HM := Lib.hid hm
    have HP := Lib.hid hp
    have HA := Lib.hid A
    have HPOST := Lib.hid hpost
    obtain ⟨s1, hs1⟩ : ∃ s1, txt (Lib.itoa n) = s1 := ⟨_, rfl⟩
    obtain ⟨s2, hs2⟩ : ∃ s2, txt (Lib.itoa (c : Int)) = s2 := ⟨_, rfl⟩
    have h0 : (⟨#[112, 32, 99, 110, 102, 32]⟩ : ByteArray) ++ s1 ++ ⟨#[32]⟩ ++ s2 ++ ⟨#[10]⟩ = txt ([112, 32, 99, 110, 102, 32] ++ Lib.itoa n ++ [32] ++ Lib.itoa (c : Int) ++ [10]) := by
      rw [← txt_app, ← txt_app, ← txt_app, ← txt_app, hs1, hs2]; rfl
    have HS0 := Lib.hid h0
    have HS2 := Lib.hid hs2
    rw [hs1] at cn zn
    rw [hs2] at zm
    clear hALL hlen h hc hm h0 hs1 hs2 A hpost hk hp hwd
    go_enter Tryd.func6, Tryd.ntmps6
    go_wp2_with fail
    refine hC.mono ?_
    rintro e w2 ⟨rfl, rfl⟩
    clear hC
    go_wp2_with fail
    refine cn.mono ?_
    rintro e w2 ⟨rfl, F2⟩
    have cm := write_itoa (c : Int) (by omega) (by omega) _ ((HP.out.fr HA.out).fr F2)
    rw [HS2.out] at cm
    have HI2 := Lib.hid (isB_fr HI.out F2)
    have HF2 := Lib.hid (HA.out.trans F2 (fun _ _ h => h))
    clear cn F2 HI HA
    go_wp2_with fail
    refine cm.mono ?_
    rintro e w3 ⟨rfl, F3⟩
    have HI3 := Lib.hid (isB_fr HI2.out F3)
    have HF3 := Lib.hid (HF2.out.trans F3 (fun _ _ h => h))
    clear cm F3 HI2 HF2
    go_wp2_with fail
    have hsz : (⟨#[112, 32, 99, 110, 102, 32]⟩ ++ s1 ++ ⟨#[32]⟩ ++ s2 ++ ⟨#[10]⟩ : ByteArray).size ≤ 100 := by
      simp only [ByteArray.size_append']
      show 6 + s1.size + 1 + s2.size + 1 ≤ 100
      omega
    have hz3 := HF3.out.size
    have hW := writeString_any w.heap.size w.heap.size [] (⟨#[112, 32, 99, 110, 102, 32]⟩ ++ s1 ++ ⟨#[32]⟩ ++ s2 ++ ⟨#[10]⟩) w3 HI3.out (by simp only [List.length_nil]; omega) hz3
    have HB3 := Lib.hid (HF3.out.to_below (B := w.heap.size) (Nat.le_refl _) (fun _ h => h.elim))
    refine hW.mono ?_
    rintro e w4 ⟨rfl, hI4, hb4, _⟩
    have HI4 : Hid (Lib.IsBuilder TB TU w.heap.size w.heap.size (Lib.byteCells ([112, 32, 99, 110, 102, 32] ++ Lib.itoa n ++ [32] ++ Lib.itoa (c : Int) ++ [10])) w4) := Lib.hid (by
      rw [HS0.out, strCells_txt, List.nil_append] at hI4
      exact .inr hI4)
    have HB4 := Lib.hid (HB3.out.trans hb4)
    clear hW hsz hI4 hb4 HI3 HF3 HB3 hz3
    go_wp2_with fail
    go_loopg [30] c (fun m iv wr => ∃ (k : Nat) (acc : List UInt8), k + m = c ∧ iv = .int .i64 (k : Int) ∧ acc ++ clausP (l.drop k) = ALL ∧ Lib.IsBuilder TB TU w.heap.size w.heap.size (Lib.byteCells acc) wr ∧ Below w.heap.size w wr)
    case atStart => exact ⟨0, _, by omega, rfl, by rw [List.drop_zero]; exact HALL.out, HI4.out, HB4.out⟩
    case round =>
      clear HI4 HB4
      obtain ⟨k, acc, hkm, rfl, hacc, hI, hB⟩ := hrel
      have HACC := Lib.hid hacc
      have HI := Lib.hid hI
      have HB := Lib.hid hB
      have q4 : (0 : Int) ≤ (k : Int) := Int.natCast_nonneg _
      clear hacc hI hB
      cases gk with
      | zero =>
        obtain rfl : k = c := by omega
        have hv : acc = ALL := by rw [← HACC.out, List.drop_eq_nil_of_le (by rw [HN.out]; exact Nat.le_refl _), clausP, List.append_nil]
        have HV := Lib.hid hv
        have hz := HB.out.size
        have hS := Tryd.Builder_String_any_k w.heap.size w.heap.size acc wr (Lib.IsBuilderF.of HI.out) hz
        clear hv
        go_wp2_with fail
        refine hS.mono ?_
        rintro e w5 ⟨rfl, _, hb5, _⟩
        have HB5 := Lib.hid (HB.out.trans hb5)
        clear hb5 hS
        go_wp2_with fail
        go_ret2
        refine HPOST.out _ _ ((Fr.refl nob w).below HB5.out) ?_
        rw [← HV.out]
        rfl
      | succ m =>
        have q3 : (k : Int) < (c : Int) := by omega
        have hk : k < l.length := by rw [HN.out]; omega
        have hkt : l[k]? = some l[k] := List.getElem?_eq_getElem hk
        have hmem : l[k] ∈ l := List.getElem_mem hk
        generalize l[k] = r at hkt hmem
        have hFB : Fr (fun i => w.heap.size ≤ i) w wr := fr_of_below HB.out
        obtain ⟨b, ob, rfl, hSb, a', cap', hcl0, hI0⟩ := HH.out.at hkt
        have hcl := hFB.cell hcl0 (Nat.not_le_of_lt hSb)
        obtain ⟨z, hz⟩ : ∃ z, r.length = z := ⟨_, rfl⟩
        have hzl := (HM.out.row r hmem).1
        rw [hz] at hcl hI0 hzl
        have HZ := Lib.hid hz
        have HI0 := Lib.hid hI0
        have HMR := Lib.hid (HM.out.row r hmem).2
        have h0 : acc ++ (litsP r ++ [48, 10] ++ clausP (l.drop (k + 1))) = ALL := by rw [← HACC.out, drop_at2 hkt, clausP]
        have H0 := Lib.hid h0
        clear hk hkt hmem hI0 hz h0 HACC hFB hcl0
        go_wp2_with fail
        go_loopg [36] z (fun m iv wr => ∃ (j : Nat) (acc : List UInt8), j + m = z ∧ iv = .int .i64 (j : Int) ∧ acc ++ (litsP (r.drop j) ++ [48, 10] ++ clausP (l.drop (k + 1))) = ALL ∧ Lib.IsBuilder TB TU w.heap.size w.heap.size (Lib.byteCells acc) wr ∧ Below w.heap.size w wr)
        case atStart => exact ⟨0, acc, by omega, rfl, by rw [List.drop_zero]; exact H0.out, HI.out, HB.out⟩
        case round =>
          clear H0 HI HB
          obtain ⟨j, acc2, hjm, rfl, hacc, hI, hB⟩ := hrel
          have hal : acc2.length + 100 ≤ 100000100 := by rw [← hacc, List.length_append] at HLEN; have := HLEN.out; omega
          have HACC := Lib.hid hacc
          have HI := Lib.hid hI
          have HB := Lib.hid hB
          have hzB := hB.size
          have q6 : (0 : Int) ≤ (j : Int) := Int.natCast_nonneg _
          clear hacc hI hB
          cases gk with
          | zero =>
            obtain rfl : j = z := by omega
            have hw : (acc2 ++ [48, 10]) ++ clausP (l.drop (k + 1)) = ALL := by
              have e : r.drop j = [] := List.drop_eq_nil_of_le (by rw [HZ.out]; exact Nat.le_refl _)
              rw [← HACC.out, e, litsP, List.nil_append, List.append_assoc]
            have HW := Lib.hid hw
            have hC := writeString_any w.heap.size w.heap.size (Lib.byteCells acc2) ⟨#[48, 10]⟩ wr HI.out (by rw [Lib.byteCells_length]; show acc2.length + 2 ≤ _; omega) hzB
            clear hw HACC
            go_wp2_with fail
            refine hC.mono ?_
            rintro e w5 ⟨rfl, hI5, hb5, _⟩
            have HI5 : Hid (Lib.IsBuilder TB TU w.heap.size w.heap.size (Lib.byteCells (acc2 ++ [48, 10])) w5) := Lib.hid (by
              rw [Lib.byteCells_append]; exact .inr hI5)
            have HB5 := Lib.hid (HB.out.trans hb5)
            clear hC hI5 hb5 hzB hal
            go_wp2_with fail
            go_roundg m
            case measure => omega
            case rel => exact ⟨k + 1, acc2 ++ [48, 10], by omega, by go_num, HW.out, HI5.out, HB5.out⟩
          | succ i =>
            have q5 : (j : Int) < (z : Int) := by omega
            have hj : j < r.length := by rw [HZ.out]; omega
            have hjt : r[j]? = some r[j] := List.getElem?_eq_getElem hj
            have hjm : r[j] ∈ r := List.getElem_mem hj
            generalize r[j] = x at hjt hjm
            obtain ⟨b2, ob2, rfl, hSb2, hcx0⟩ := HI0.out.at hjt
            have hcx := (fr_of_below HB.out).cell hcx0 (Nat.not_le_of_lt hSb2)
            obtain ⟨x1, x2⟩ := HMR.out x hjm
            have hC := write_itoa x x1 x2 wr (HP.out.below HB.out)
            have zx : (txt (Lib.itoa x)).size ≤ 14 := by rw [txt_size]; exact itoa_len x x1 x2
            have hw : (acc2 ++ (Lib.itoa x ++ [32])) ++ (litsP (r.drop (j + 1)) ++ [48, 10] ++ clausP (l.drop (k + 1))) = ALL := by
              rw [← HACC.out, drop_at2 hjt, litsP]; simp [List.append_assoc]
            have hv : txt (Lib.itoa x) ++ (⟨#[32]⟩ : ByteArray) = txt (Lib.itoa x ++ [32]) := by rw [← txt_app]; rfl
            have HW := Lib.hid hw
            generalize txt (Lib.itoa x) = sx at *
            have HV := Lib.hid hv
            clear hv hw HACC hj hjt hjm x1 x2 hcx0
            go_wp2_with fail
            refine hC.mono ?_
            rintro e w4 ⟨rfl, F4⟩
            have HI4 := Lib.hid (isB_fr HI.out F4)
            have HB4 := Lib.hid (HB.out.trans (F4.to_below (Nat.le_trans hzB (Nat.le_refl _)) (fun _ h => h.elim)))
            have hz4 := F4.size
            clear hC F4 HI HB hcx
            go_wp2_with fail
            have hS := writeString_any w.heap.size w.heap.size (Lib.byteCells acc2) (sx ++ ⟨#[32]⟩) w4 HI4.out (by rw [Lib.byteCells_length, ByteArray.size_append']; show acc2.length + (sx.size + 1) ≤ _; omega) (by omega)
            refine hS.mono ?_
            rintro e w5 ⟨rfl, hI5, hb5, _⟩
            have HI5 : Hid (Lib.IsBuilder TB TU w.heap.size w.heap.size (Lib.byteCells (acc2 ++ (Lib.itoa x ++ [32]))) w5) := Lib.hid (by
              rw [Lib.byteCells_append, ← strCells_txt (Lib.itoa x ++ [32]), ← HV.out]; exact .inr hI5)
            have HB5 := Lib.hid (HB4.out.trans hb5)
            clear hS hI5 hb5 hzB hz4 hal HI4 HB4
            go_wp2_with fail
            go_roundg i
            case measure => omega
            case rel => exact ⟨j + 1, acc2 ++ (Lib.itoa x ++ [32]), by omega, by go_num, HW.out, HI5.out, HB5.out⟩
  · have hpost : ∀ e w', Fr nob w w' → e = .returned (.tuple #[.string ⟨#[]⟩, .int .i64 (chkP n l)]) → WrPost n l w e w' := by
      intro e w' f he
      unfold WrPost
      rw [if_neg hk]
      exact ⟨f, he⟩
    have HPOST := Lib.hid hpost
    have q0 : (chkP n l != 0) = true := by simpa using hk
    generalize chkP n l = R at *
    clear hpost hp hm h hwd
    go_enter Tryd.func6, Tryd.ntmps6
    go_wp2_with fail
    refine hC.mono ?_
    rintro e w2 ⟨rfl, rfl⟩
    go_wp2_with fail
    go_ret2
    exact HPOST.out _ _ (Fr.refl _ _) rfl
end Go.Proofs.YtaojojjdfdlgpaaDoor
