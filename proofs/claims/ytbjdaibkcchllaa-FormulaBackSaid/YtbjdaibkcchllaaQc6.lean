import Derived.Test.YtbjdaibkcchllaaQc5
import Derived.Test.YtbjdaibkcchllaaQr
import Derived.Deep.CutRange
namespace Go.Proofs.Ytbjdaibkcchllaa
open Go.RowKit

/-! the reference's Row: all nodes of a tree -/
mutual
def preP : Tr → List Tr
  | .mk op nm kids => .mk op nm kids :: preL kids
def preL : List Tr → List Tr
  | [] => []
  | t :: ts => preP t ++ preL ts
end
theorem preL_append : ∀ {ts us : List Tr}, preL (ts ++ us) = preL ts ++ preL us
  | [], us => by rw [preL]; rfl
  | t :: ts, us => by rw [List.cons_append, preL, preL, preL_append, List.append_assoc]
theorem preL_take {ts : List Tr} {k : Nat} {t : Tr} (h : ts[k]? = some t) : preL (ts.take (k + 1)) = preL (ts.take k) ++ preP t := by
  have hk := (List.getElem?_eq_some_iff.1 h)
  rw [List.take_succ_eq_append_getElem hk.1, preL_append, hk.2, preL, preL, List.append_nil]
theorem preP_pos (t : Tr) : 0 < (preP t).length := by
  cases t; rw [preP]; simp
theorem preL_mem : ∀ {ts : List Tr} {t : Tr}, t ∈ ts → (preP t).length ≤ (preL ts).length
  | a :: ts, t, h => by
    rw [preL, List.length_append]
    rcases List.mem_cons.1 h with rfl | h
    · omega
    · have := preL_mem h; omega
def RowL (w : World) (S : Nat → Prop) : List Tr → List Value → Prop
  | [], cs => cs = []
  | t :: ts, cs => ∃ (o : Nat) (nm : List UInt8) (a : Option Addr) (n c : Nat) (rest : List Value), cs = .int .u8 (o : Int) :: .string (txt nm) :: .slice a n c :: rest ∧ TrO w S t (.agg #[.int .u8 (o : Int), .string (txt nm), .slice a n c]) ∧ RowL w S ts rest
theorem RowL.kept {w w' : World} {S S' T : Nat → Prop} (f : Fr S' w w') (hS : ∀ b, S b → b < w.heap.size → ¬ S' b ∧ T b) : ∀ {ts : List Tr} {cs : List Value}, RowL w S ts cs → RowL w' T ts cs
  | [], _, h => h
  | _ :: _, _, ⟨o, nm, a, n, c, rest, hc, hT, hK⟩ => ⟨o, nm, a, n, c, rest, hc, hT.kept f hS, RowL.kept f hS hK⟩
theorem RowL.append {w : World} {S : Nat → Prop} {us : List Tr} {ds : List Value} (hU : RowL w S us ds) : ∀ {ts : List Tr} {cs : List Value}, RowL w S ts cs → RowL w S (ts ++ us) (cs ++ ds)
  | [], _, h => by cases h; exact hU
  | _ :: _, _, ⟨o, nm, a, n, c, rest, hc, hT, hK⟩ => by
    subst hc
    exact ⟨o, nm, a, n, c, rest ++ ds, rfl, hT, RowL.append hU hK⟩
theorem RowL.length {w : World} {S : Nat → Prop} : ∀ {ts : List Tr} {cs : List Value}, RowL w S ts cs → cs.length = ts.length * 3
  | [], _, h => by cases h; rfl
  | _ :: _, _, ⟨o, nm, a, n, c, rest, hc, hT, hK⟩ => by
    subst hc
    have := RowL.length hK
    simp only [List.length_cons, this]; omega
theorem RowL.one {w : World} {S : Nat → Prop} : ∀ {ts : List Tr} {cs : List Value}, RowL w S ts cs → ∀ u ∈ cs, u.oneCell' = true
  | [], _, h, u, hu => by cases h; cases hu
  | _ :: _, _, ⟨o, nm, a, n, c, rest, hc, hT, hK⟩, u, hu => by
    subst hc
    rcases List.mem_cons.1 hu with rfl | hu
    · rfl
    rcases List.mem_cons.1 hu with rfl | hu
    · rfl
    rcases List.mem_cons.1 hu with rfl | hu
    · rfl
    exact RowL.one hK u hu
theorem RowL.at {w : World} {S : Nat → Prop} : ∀ {ts : List Tr} {cs : List Value} {k : Nat} {t : Tr}, RowL w S ts cs → ts[k]? = some t → ∃ (o : Nat) (nm : List UInt8) (a : Option Addr) (n c : Nat), cs[k * 3]? = some (.int .u8 (o : Int)) ∧ cs[k * 3 + 1]? = some (.string (txt nm)) ∧ cs[k * 3 + 2]? = some (.slice a n c) ∧ TrO w S t (.agg #[.int .u8 (o : Int), .string (txt nm), .slice a n c])
  | a :: ts, cs, 0, t, ⟨o, nm, a', n, c, rest, hc, hT, hK⟩, h => by
    obtain rfl : a = t := by simpa using h
    subst hc
    exact ⟨o, nm, a', n, c, rfl, rfl, rfl, hT⟩
  | a :: ts, cs, k + 1, t, ⟨o, nm, a', n, c, rest, hc, hT, hK⟩, h => by
    subst hc
    obtain ⟨o', nm', a2, n', c', h0, h1, h2, h3⟩ := RowL.at hK (k := k) (t := t) (by simpa using h)
    rw [show (k + 1) * 3 = k * 3 + 3 by omega]
    exact ⟨o', nm', a2, n', c', by simpa using h0, by simpa using h1, by simpa using h2, h3⟩
theorem own_cells {w : World} {B K : Nat} {T : TypeId} {g n cp : Nat} {xs : List Value} (h : w.ownsRow B T K (.slice (some ⟨g, 0, none⟩) n cp) n xs) : ∀ (j : Nat) u, xs[j]? = some u → w.cell? ⟨g, j, none⟩ = some u := by
  intro j u hj
  rcases h.2 with ⟨h1, _⟩ | ⟨g', cap, cur, h1, h2, h3, h4, h5, h6, h7⟩
  · cases h1
  · cases h1
    rw [Lib.cell_of_heap h3]
    have h8 := congrArg (fun l => l[j]?) h7
    simp only [List.getElem?_take, hj] at h8
    split at h8
    · simpa using h8
    · cases h8
theorem add_base (g j : Nat) : ((⟨g, 0, none⟩ : Addr).add j) = ⟨g, j, none⟩ := by
  cases j <;> simp [Addr.add]
def RowPost (S : Nat → Prop) (t : Tr) (w : World) (e : Ending) (w' : World) : Prop :=
  ∃ g cap cells, e = .returned (.slice (some ⟨g, 0, none⟩) (preP t).length cap) ∧ (∀ (j : Nat) u, cells[j]? = some u → w'.cell? ⟨g, j, none⟩ = some u) ∧ RowL w' S (preP t) cells ∧ Fr nob w w'
def RowC2 (t : Tr) : Prop := ∀ (v : Value) (S : Nat → Prop) (w : World), wide t = true → (preP t).length ≤ 1000000 → (∀ b, S b → b < w.heap.size) → TrO w S t v →
  Calls Try.prog 25 #[v] w (RowPost S t w)
set_option maxHeartbeats 2000000 in
theorem row_one (op : Nat) (nm : List UInt8) (kids : List Tr) (ih : ∀ t ∈ kids, RowC2 t) : RowC2 (.mk op nm kids) := by
  intro v S w hwd hln hS hT
  have hT0 := hT
  rw [TrO] at hT
  obtain ⟨a, cp, rfl, hK⟩ := hT
  rw [wide, Bool.and_eq_true, Bool.and_eq_true, decide_eq_true_iff, decide_eq_true_iff] at hwd
  obtain ⟨⟨ht1, ht2⟩, htk⟩ := hwd
  obtain ⟨T0, hT0'⟩ : ∃ T0, Tr.mk op nm kids = T0 := ⟨_, rfl⟩
  have hpre : preP T0 = T0 :: preL kids := by rw [← hT0', preP]
  rw [hT0'] at hT0 hln ⊢
  rw [hpre] at hln
  have hle : ∀ t ∈ kids, (preP t).length ≤ 1000000 := fun t ht => by have := preL_mem ht; simp at hln; omega
  have hlk : ∀ k, (preL (kids.take k)).length ≤ (preL kids).length := fun k => by
    have h := congrArg List.length (preL_append (ts := kids.take k) (us := kids.drop k))
    rw [List.take_append_drop, List.length_append] at h
    omega
  have HPRE := Lib.hid hpre
  have HK := Lib.hid hK
  have HIH := Lib.hid ih
  have HTK := Lib.hid htk
  have HLE := Lib.hid hle
  have HLK := Lib.hid hlk
  have HS := Lib.hid hS
  have HLN := Lib.hid hln
  obtain ⟨nk, hnk⟩ : ∃ nk, kids.length = nk := ⟨_, rfl⟩
  rw [hnk] at ht2 hT0 ⊢
  have HNK := Lib.hid hnk
  have A1 : Fr nob w (w.alloc (.cells #[.int .u8 (op : Int), .string (txt nm), .slice a nk cp] 25)) := (Fr.refl nob w).alloc _
  have HBX := Lib.hid (Box3.new w (.int .u8 (op : Int)) (.string (txt nm)) (.slice a nk cp) 25)
  have HT1 := Lib.hid (hT0.kept (T := S) A1 (fun b h _ => ⟨fun h => h, h⟩))
  have HF1 := Lib.hid A1
  have hz1 : (w.alloc (.cells #[.int .u8 (op : Int), .string (txt nm), .slice a nk cp] 25)).heap.size = w.heap.size + 1 := by simp
  have HZ1 := Lib.hid hz1
  obtain ⟨i0, hi0, hi1, hi2, hi3⟩ := info_parts info_expr
  clear hK ih htk hnk hle hlk hln hS hT0 hT0' hpre A1 hz1
  go_enter Try.func25, Try.ntmps25
  go_upto_region 1 with fail
  generalize w.alloc (.cells #[.int .u8 (op : Int), .string (txt nm), .slice a nk cp] 25) = W1 at *
  have ⟨g0, g1, g2, _⟩ := HBX.out
  have A2 : Fr nob W1 (W1.alloc (.cells #[.int .u8 (op : Int), .string (txt nm), .slice a nk cp] 25)) := (Fr.refl nob W1).alloc _
  have HBX2 := Lib.hid (HBX.out.kept A2 (fun h => h))
  have HF2 := Lib.hid (HF1.out.trans A2 (fun _ _ h => h))
  have HT2 := Lib.hid (HT1.out.kept (T := S) A2 (fun b h _ => ⟨fun h => h, h⟩))
  have HO2 := Lib.hid (World.ownsRow_lit (base := w.heap.size + 1) (e := 25) (size := 3) W1 #[.int .u8 (op : Int), .string (txt nm), .slice a nk cp] 1 (by have := HZ1.out; omega) (by unfold maxLen; omega) rfl)
  have hz2 : W1.heap.size < (W1.alloc (.cells #[.int .u8 (op : Int), .string (txt nm), .slice a nk cp] 25)).heap.size := by simp
  have HZ2 := Lib.hid hz2
  clear A2 hz2
  go_wp2_with fail
  generalize W1.alloc (.cells #[.int .u8 (op : Int), .string (txt nm), .slice a nk cp] 25) = W2 at *
  rw [HZ1.out] at HO2 HZ2 ⊢
  clear g0 g1 g2
  go_loopg [3, 4] nk (fun m ov iv wr => ∃ (k n g cap : Nat) (cells : List Value), k + m = nk ∧ iv = .int .i64 (k : Int) ∧ ov = .slice (some ⟨g, 0, none⟩) n cap ∧ n = 1 + (preL (kids.take k)).length ∧ wr.ownsRow (w.heap.size + 1) 25 3 (.slice (some ⟨g, 0, none⟩) n cap) n cells ∧ w.heap.size + 1 ≤ g ∧ RowL wr S (T0 :: preL (kids.take k)) cells ∧ Box3 wr w.heap.size (.int .u8 (op : Int)) (.string (txt nm)) (.slice a nk cp) ∧ Fr nob w wr)
  case atStart =>
    refine ⟨0, 1, w.heap.size + 1, 1, _, by omega, rfl, rfl, by rw [List.take_zero, preL]; rfl, HO2.out, Nat.le_refl _, ?_, HBX2.out, HF2.out⟩
    rw [List.take_zero, preL]
    exact ⟨op, nm, a, nk, cp, [], rfl, HT2.out, rfl⟩
  case round =>
    clear HBX HF1 HBX2 HF2 HO2 HZ2 HT2 HT1
    obtain ⟨k, n, g, cap, cells, hkm, rfl, rfl, hn, hown, hg, hRL, hB, hF⟩ := hrel
    have HN := Lib.hid hn
    have HO := Lib.hid hown
    have HRL := Lib.hid hRL
    have HB := Lib.hid hB
    have HF := Lib.hid hF
    have r2 := hB.c2
    have q4 : (0 : Int) ≤ (k : Int) := Int.natCast_nonneg _
    clear hn hown hRL hB hF
    cases gk with
    | zero =>
      obtain rfl : k = nk := by omega
      have ek : kids.take k = kids := List.take_of_length_le (by rw [HNK.out]; exact Nat.le_refl _)
      rw [ek] at HN HRL
      have HE : Hid ((preP T0).length = n) := Lib.hid (by rw [HPRE.out, HN.out, List.length_cons]; omega)
      go_wp2_with fail
      go_ret
      rw [← HPRE.out] at HRL
      refine ⟨g, cap, cells, by rw [HE.out]; rfl, own_cells HO.out, HRL.out, HF.out⟩
    | succ m =>
      have q3 : (k : Int) < (nk : Int) := by omega
      have hk : k < kids.length := by rw [HNK.out]; omega
      have hkt : kids[k]? = some kids[k] := List.getElem?_eq_getElem hk
      have hmem : kids[k] ∈ kids := List.getElem_mem hk
      generalize kids[k] = t at hkt hmem
      obtain ⟨b, ob, rfl, hSb, hKV⟩ := HK.out (by intro e; rw [e] at hk; simp at hk)
      obtain ⟨x, y, z, e0, e1, e2, hT⟩ := hKV.at hkt
      rw [show 0 + k = k by omega] at e0 e1 e2
      replace e0 := HF.out.cell e0 (fun h => h)
      replace e1 := HF.out.cell e1 (fun h => h)
      replace e2 := HF.out.cell e2 (fun h => h)
      have hT1 := hT.kept (T := S) HF.out (fun b h _ => ⟨fun h => h, h⟩)
      obtain ⟨o, nm', a', ln', cp', hform⟩ := hT1.form
      obtain ⟨rfl, rfl, rfl⟩ : x = .int .u8 (o : Int) ∧ y = .string (txt nm') ∧ z = .slice a' ln' cp' := by simpa using hform
      have hszr := HF.out.size
      have hC := HIH.out t hmem _ S wr (wideL_at HTK.out hkt) (HLE.out t hmem) (fun b h => by have := HS.out b h; omega) hT1
      have htake := preL_take hkt
      have hl1 : 1 + (preL (kids.take (k + 1))).length ≤ 1000000 := by
        have h1 := HLK.out (k + 1)
        have h2 := HLN.out
        simp only [List.length_cons] at h2
        omega
      have HTA := Lib.hid htake
      have HL1 := Lib.hid hl1
      clear hk hkt hmem hKV hT hT1 hform hSb htake hl1 hszr
      go_wp2_with fail
      refine hC.mono ?_
      rintro e w3 ⟨g2, cap2, cells2, rfl, hc2, hRL2, F3⟩
      have HB3 := Lib.hid (HB.out.kept F3 (fun h => h))
      have HF3 := Lib.hid (HF.out.trans F3 (fun _ _ h => h))
      have own3 := F3.row HO.out (fun _ _ h => h)
      have HRL3 := Lib.hid (HRL.out.kept (T := S) F3 (fun b h _ => ⟨fun h => h, h⟩))
      have HRL2 := Lib.hid hRL2
      have HC2 := Lib.hid hc2
      have hn2 : (preL (kids.take (k + 1))).length = (preL (kids.take k)).length + (preP t).length := by rw [HTA.out, List.length_append]
      obtain ⟨m2, hm2⟩ : ∃ m2, (preP t).length = m2 := ⟨_, rfl⟩
      rw [hm2] at hn2 ⊢
      have HM2 := Lib.hid hm2
      have hnm : n + m2 ≤ 1000000 := by have h1 := HN.out; have h2 := HL1.out; omega
      have HN2 := Lib.hid hn2
      have hsz3 := HF3.out.size
      clear hC F3 r2 HB HF HO HRL hRL2 hc2 hm2 hn2 e0 e1 e2
      go_wp2_with (at_builtin; refine wpList_append_own_at _ rfl _ _ 23 rfl (w.heap.size + 1) 25 i0 (.agg #[.int .u8 0, .string ⟨#[]⟩, .slice none 0 0]) 3 48 Try.underlying23 hi0 hi1 hi2 hi3 rfl (by decide) (.slice (some ⟨g, 0, none⟩) n cap) n cells rfl own3 ⟨g2, 0, none⟩ m2 cap2 cells2 rfl ?c1 ?c2 ?c3 ?c4 ?c5 ?c6 ?_)
      case c1 => rw [HRL2.out.length, HM2.out]
      case c2 => intro j u hj; rw [add_base]; exact HC2.out j u hj
      case c3 => exact HRL2.out.one
      case c4 => unfold maxLen; omega
      case c5 => omega
      case c6 => have := HB3.out.lt; omega
      intro v6 w6 own6 gr6 _ hat
      obtain ⟨g', cap', rfl, hg'⟩ : ∃ g' cap', v6 = .slice (some ⟨g', 0, none⟩) (n + m2) cap' ∧ w.heap.size + 1 ≤ g' := by
        rcases own6.2 with ⟨rfl, h0⟩ | ⟨g', cap', cur, rfl, h1, h2, _⟩
        · have h1 := HN.out; omega
        · exact ⟨g', cap', rfl, h1⟩
      have F6 : Fr (fun k => k = g) w3 w6 := (Fr.refl (fun k => k = g) _).grown gr6 (fun k hk _ => by cases hk; rfl)
      have hSg : ∀ b, S b → ¬ b = g := fun b h => by have := HS.out b h; omega
      have HRL6 := Lib.hid (RowL.append (HRL2.out.kept (T := S) F6 (fun b h _ => ⟨hSg b h, h⟩)) (HRL3.out.kept (T := S) F6 (fun b h _ => ⟨hSg b h, h⟩)))
      have HB6 := Lib.hid (HB3.out.kept F6 (show ¬ w.heap.size = g by omega))
      have HF6 := Lib.hid (HF3.out.trans' (T := nob) F6 (fun _ _ h => h) (fun k hk h => by have e : k = g := h; omega))
      have HO6 := Lib.hid own6
      clear own3 own6 gr6 hat F6 HRL2 HRL3 HB3 HF3 hSg
      go_wp2_with fail
      go_roundg m
      case measure => omega
      case rel =>
        refine ⟨k + 1, n + m2, g', cap', _, by omega, by go_num, rfl, by have h1 := HN.out; have h2 := HN2.out; omega, HO6.out, hg', ?_, HB6.out, HF6.out⟩
        rw [HTA.out]
        exact HRL6.out
theorem row_any2 : ∀ (d : Nat) (t : Tr), SizeOf.sizeOf t < d → RowC2 t
  | 0, t, h => absurd h (Nat.not_lt_zero _)
  | d + 1, .mk op nm kids, h => row_one op nm kids fun t ht => row_any2 d t (by have := List.sizeOf_lt_of_mem ht; simp at h; omega)
end Go.Proofs.Ytbjdaibkcchllaa
