import Derived.Test.YtaojojjdfdlgpaaDoorWr
namespace Go.Proofs.YtaojojjdfdlgpaaDoor
open Go.RowKit

/-! the reference's Write -/
def headP (n m : Int) : List UInt8 := [112, 32, 99, 110, 102, 32] ++ Lib.itoa n ++ [32] ++ Lib.itoa m ++ [10]
def litsP : List Int → List UInt8
  | [] => []
  | x :: t => Lib.itoa x ++ [32] ++ litsP t
def clausP : List (List Int) → List UInt8
  | [] => []
  | c :: l => litsP c ++ [48, 10] ++ clausP l
def writeP (n : Int) (l : List (List Int)) : List UInt8 := headP n l.length ++ clausP l
theorem itoa_len (n : Int) (h1 : -1000000000000 ≤ n) (h2 : n ≤ 1000000000000) : (Lib.itoa n).length ≤ 14 := by
  unfold Lib.itoa
  split
  · have := dig_le n.natAbs (by omega)
    simp; omega
  · have := dig_le n.toNat (by omega)
    omega
/-- numbers that are not too great -/
def Mod (l : List Int) : Prop := ∀ x ∈ l, -1000000000000 ≤ x ∧ x ≤ 1000000000000
theorem litsP_len : ∀ {l : List Int}, Mod l → (litsP l).length ≤ 15 * l.length
  | [], _ => Nat.le_refl _
  | x :: t, h => by
    have h1 := itoa_len x (h x (by simp)).1 (h x (by simp)).2
    have h2 := litsP_len (l := t) fun y hy => h y (by simp [hy])
    rw [litsP, List.length_append, List.length_append]
    simp only [List.length_cons, List.length_nil]
    omega
/-- clauses of a moderate size -/
structure Mods (l : List (List Int)) : Prop where
  len : l.length ≤ 4096
  row : ∀ r ∈ l, r.length ≤ 1000 ∧ Mod r
theorem clausP_len : ∀ {l : List (List Int)}, (∀ r ∈ l, r.length ≤ 1000 ∧ Mod r) → (clausP l).length ≤ 15002 * l.length
  | [], _ => Nat.le_refl _
  | c :: l, h => by
    have h1 := litsP_len (h c (by simp)).2
    have h3 := (h c (by simp)).1
    have h2 := clausP_len (l := l) fun y hy => h y (by simp [hy])
    rw [clausP, List.length_append, List.length_append]
    simp only [List.length_cons, List.length_nil]
    omega
theorem drop_at2 {α : Type} {l : List α} {k : Nat} {x : α} (h : l[k]? = some x) : l.drop k = x :: l.drop (k + 1) := by
  have hk := (List.getElem?_eq_some_iff.1 h).1
  rw [List.drop_eq_getElem_cons hk]
  congr 1
  exact (List.getElem?_eq_some_iff.1 h).2
set_option maxHeartbeats 2000000 in
theorem refWrite_any (l : List (List Int)) (n : Int) (hn : 0 ≤ n ∧ n ≤ 24) (v : Value) (S : Nat → Prop) (w : World) (hm : Mods l) (h : RowsO w S l v) :
    Calls Tryd.prog 9 #[.int .i64 n, v] w fun e w' => e = .returned (.string (txt (writeP n l))) ∧ w = w' := by
  obtain ⟨n1, n2⟩ := hn
  obtain ⟨a, cap, rfl⟩ := h.form
  obtain ⟨c, hc⟩ : ∃ c, l.length = c := ⟨_, rfl⟩
  have hlen : (writeP n l).length ≤ 100000000 := by
    unfold writeP headP
    have h1 := itoa_len n (by omega) (by omega)
    have h2 := itoa_len (l.length : Int) (by omega) (by have := hm.len; omega)
    have h3 := clausP_len hm.row
    have h4 := hm.len
    simp only [List.length_append, List.length_cons, List.length_nil]
    omega
  obtain ⟨ALL, hALL⟩ : ∃ ALL, writeP n l = ALL := ⟨_, rfl⟩
  have hlc := hm.len
  rw [hALL] at hlen ⊢
  unfold writeP headP at hALL
  rw [hc] at hlc h hALL ⊢
  have cn := fun w => itoa_any n (by omega) (by omega) w
  have cm := fun w => itoa_any (c : Int) (by omega) (by omega) w
  have zn : (txt (Lib.itoa n)).size ≤ 14 := by rw [txt_size]; exact itoa_len n (by omega) (by omega)
  have zm : (txt (Lib.itoa (c : Int))).size ≤ 14 := by rw [txt_size]; exact itoa_len _ (by omega) (by omega)
  have HALL := Lib.hid hALL
  have HLEN := Lib.hid hlen
  have HH := Lib.hid h
  have HN := Lib.hid hc
  have HM := Lib.hid hm
  have HC1 := Lib.hid cn
  have HC2 := Lib.hid cm
  obtain ⟨s1, hs1⟩ : ∃ s1, txt (Lib.itoa n) = s1 := ⟨_, rfl⟩
  obtain ⟨s2, hs2⟩ : ∃ s2, txt (Lib.itoa (c : Int)) = s2 := ⟨_, rfl⟩
  have h0 : (⟨#[112, 32, 99, 110, 102, 32]⟩ : ByteArray) ++ s1 ++ ⟨#[32]⟩ ++ s2 ++ ⟨#[10]⟩ = txt ([112, 32, 99, 110, 102, 32] ++ Lib.itoa n ++ [32] ++ Lib.itoa (c : Int) ++ [10]) := by
    rw [← txt_app, ← txt_app, ← txt_app, ← txt_app, hs1, hs2]; rfl
  have HS0 := Lib.hid h0
  rw [hs1] at HC1 zn
  rw [hs2] at HC2 zm
  clear hALL hlen h hc hm cn cm h0 hs1 hs2
  go_enter Tryd.func9, Tryd.ntmps9
  go_wp2_with fail
  refine (HC1.out _).mono ?_
  rintro e w2 ⟨rfl, rfl⟩
  go_wp2_with fail
  refine (HC2.out _).mono ?_
  rintro e w2 ⟨rfl, rfl⟩
  go_wp2_with fail
  go_loopg [5, 6] c (fun m sv iv wr => ∃ (k : Nat) (acc : List UInt8), k + m = c ∧ sv = .string (txt acc) ∧ iv = .int .i64 (k : Int) ∧ acc ++ clausP (l.drop k) = ALL ∧ w = wr)
  case atStart => exact ⟨0, _, by omega, by rw [← HS0.out], rfl, by rw [List.drop_zero]; exact HALL.out, rfl⟩
  case round =>
    obtain ⟨k, acc, hkm, rfl, rfl, hacc, rfl⟩ := hrel
    have HACC := Lib.hid hacc
    have hal : acc.length ≤ 100000000 := by rw [← hacc, List.length_append] at HLEN; have := HLEN.out; omega
    have zacc : (txt acc).size ≤ 100000000 := by rw [txt_size]; exact hal
    have q4 : (0 : Int) ≤ (k : Int) := Int.natCast_nonneg _
    clear hacc hal
    cases gk with
    | zero =>
      obtain rfl : k = c := by omega
      have hv : acc = ALL := by rw [← HACC.out, List.drop_eq_nil_of_le (by rw [HN.out]; exact Nat.le_refl _), clausP, List.append_nil]
      have HV := Lib.hid hv
      clear hv
      go_wp2_with fail
      go_ret
      rw [← HV.out]
      exact ⟨rfl, rfl⟩
    | succ m =>
      have q3 : (k : Int) < (c : Int) := by omega
      have hk : k < l.length := by rw [HN.out]; omega
      have hkt : l[k]? = some l[k] := List.getElem?_eq_getElem hk
      have hmem : l[k] ∈ l := List.getElem_mem hk
      generalize l[k] = r at hkt hmem
      obtain ⟨b, ob, rfl, hSb, a', cap', hcl, hI⟩ := HH.out.at hkt
      obtain ⟨z, hz⟩ : ∃ z, r.length = z := ⟨_, rfl⟩
      have hzl := (HM.out.row r hmem).1
      rw [hz] at hcl hI hzl
      have HZ := Lib.hid hz
      have HI := Lib.hid hI
      have HMR := Lib.hid (HM.out.row r hmem).2
      have h0 : acc ++ (litsP r ++ [48, 10] ++ clausP (l.drop (k + 1))) = ALL := by rw [← HACC.out, drop_at2 hkt, clausP]
      have H0 := Lib.hid h0
      clear hk hkt hmem hI hz h0 HACC
      go_wp2_with fail
      go_loopg [5, 7] z (fun m sv iv wr => ∃ (j : Nat) (acc : List UInt8), j + m = z ∧ sv = .string (txt acc) ∧ iv = .int .i64 (j : Int) ∧ acc ++ (litsP (r.drop j) ++ [48, 10] ++ clausP (l.drop (k + 1))) = ALL ∧ w = wr)
      case atStart => exact ⟨0, acc, by omega, rfl, rfl, by rw [List.drop_zero]; exact H0.out, rfl⟩
      case round =>
        clear H0 zacc
        obtain ⟨j, acc2, hjm, rfl, rfl, hacc, rfl⟩ := hrel
        have hal : acc2.length + 100 ≤ 100000100 := by rw [← hacc, List.length_append] at HLEN; have := HLEN.out; omega
        have zacc : (txt acc2).size ≤ 100000000 := by rw [txt_size]; omega
        have zal : acc2.length ≤ 100000000 := by omega
        have HACC := Lib.hid hacc
        have q6 : (0 : Int) ≤ (j : Int) := Int.natCast_nonneg _
        clear hacc hal
        cases gk with
        | zero =>
          obtain rfl : j = z := by omega
          have hv : txt acc2 ++ (⟨#[48, 10]⟩ : ByteArray) = txt (acc2 ++ [48, 10]) := txt_app acc2 [48, 10]
          have hw : (acc2 ++ [48, 10]) ++ clausP (l.drop (k + 1)) = ALL := by
            have e : r.drop j = [] := List.drop_eq_nil_of_le (by rw [HZ.out]; exact Nat.le_refl _)
            rw [← HACC.out, e, litsP, List.nil_append, List.append_assoc]
          have HV := Lib.hid hv
          have HW := Lib.hid hw
          clear hv hw HACC
          go_wp2_with fail
          go_roundg m
          case measure => omega
          case rel => exact ⟨k + 1, acc2 ++ [48, 10], by omega, by rw [← HV.out], by go_num, HW.out, rfl⟩
        | succ i =>
          have q5 : (j : Int) < (z : Int) := by omega
          have hj : j < r.length := by rw [HZ.out]; omega
          have hjt : r[j]? = some r[j] := List.getElem?_eq_getElem hj
          have hjm : r[j] ∈ r := List.getElem_mem hj
          generalize r[j] = x at hjt hjm
          obtain ⟨b2, ob2, rfl, hSb2, hcx⟩ := HI.out.at hjt
          obtain ⟨x1, x2⟩ := HMR.out x hjm
          have hC := fun w => itoa_any x x1 x2 w
          have zx : (txt (Lib.itoa x)).size ≤ 14 := by rw [txt_size]; exact itoa_len x x1 x2
          have hv : txt acc2 ++ txt (Lib.itoa x) ++ (⟨#[32]⟩ : ByteArray) = txt (acc2 ++ Lib.itoa x ++ [32]) := by rw [← txt_app, ← txt_app]; rfl
          have hw : (acc2 ++ Lib.itoa x ++ [32]) ++ (litsP (r.drop (j + 1)) ++ [48, 10] ++ clausP (l.drop (k + 1))) = ALL := by
            rw [← HACC.out, drop_at2 hjt, litsP]; simp [List.append_assoc]
          have HW := Lib.hid hw
          generalize txt (Lib.itoa x) = sx at *
          have HV := Lib.hid hv
          clear hv hw HACC hj hjt hjm x1 x2
          go_wp2_with fail
          refine (hC _).mono ?_
          rintro e w2 ⟨rfl, rfl⟩
          clear hC
          go_wp2_with fail
          go_roundg i
          case measure => omega
          case rel => exact ⟨j + 1, acc2 ++ Lib.itoa x ++ [32], by omega, by rw [← HV.out], by go_num, HW.out, rfl⟩
end Go.Proofs.YtaojojjdfdlgpaaDoor
