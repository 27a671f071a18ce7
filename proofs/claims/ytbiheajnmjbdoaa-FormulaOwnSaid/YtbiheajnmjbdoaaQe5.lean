import Derived.Test.YtbiheajnmjbdoaaQe1
import Derived.Deep.RegionLawGrows
namespace Go.Proofs.Ytbiheajnmjbdoaa
open Go.RowKit

/-! the reference's Replaced -/
def RrpC (s : List UInt8) (tb : Tr) (t : Tr) : Prop := ∀ (v vb : Value) (S : Nat → Prop) (w : World), wide t = true → (preP t).length ≤ 1000000 → (∀ b, S b → b < w.heap.size) → TrO w S t v → TrO w S tb vb →
  Calls Try.prog 28 #[v, .string (txt s), vb] w fun e w' => ∃ v', e = .returned v' ∧ TrO w' (fun b => S b ∨ w.heap.size ≤ b) (repP s tb t) v' ∧ Fr nob w w'
set_option maxRecDepth 20000 in
set_option maxHeartbeats 4000000 in
theorem rrp_one (s : List UInt8) (tb : Tr) (op : Nat) (nm : List UInt8) (kids : List Tr) (ih : ∀ t ∈ kids, RrpC s tb t) : RrpC s tb (.mk op nm kids) := by
  intro v vb S w hwd hln hS hT hTb
  rw [TrO] at hT
  obtain ⟨a, cp, rfl, hK⟩ := hT
  obtain ⟨ob, nmb, ab, nb, cb, rfl⟩ := hTb.form
  rw [wide, Bool.and_eq_true, Bool.and_eq_true, decide_eq_true_iff, decide_eq_true_iff] at hwd
  obtain ⟨⟨ht1, ht2⟩, htk⟩ := hwd
  have HK := Lib.hid hK
  have HIH := Lib.hid ih
  have HTK := Lib.hid htk
  rw [preP, List.length_cons] at hln
  have hle : ∀ t ∈ kids, (preP t).length ≤ 1000000 := fun t ht => by have := preL_mem ht; omega
  have hkl := kids_le (kids := kids)
  have hnk6 : kids.length ≤ 1000000 := by omega
  have HLE := Lib.hid hle
  have HS := Lib.hid hS
  obtain ⟨R, hR⟩ : ∃ R, repP s tb (.mk op nm kids) = R := ⟨_, rfl⟩
  rw [hR]
  rw [repP] at hR
  have HR := Lib.hid hR
  obtain ⟨nk, hnk⟩ : ∃ nk, kids.length = nk := ⟨_, rfl⟩
  rw [hnk] at hnk6 ⊢
  have HNK := Lib.hid hnk
  obtain ⟨i0, hi0, hi1, hi2, hi3⟩ := info_parts info_expr
  obtain ⟨W1, hW1⟩ : ∃ W1, ((w.alloc (.cells #[.int .u8 (op : Int), .string (txt nm), .slice a nk cp] 25)).alloc (.cells #[.int .u8 (ob : Int), .string (txt nmb), .slice ab nb cb] 25)).alloc (.cells #[.int .u8 0, .string ⟨#[]⟩, .slice none 0 0] 25) = W1 := ⟨_, rfl⟩
  have A1 : Fr nob w W1 := by rw [← hW1]; exact (((Fr.refl nob w).alloc _).alloc _).alloc _
  have hbx : Box3 W1 w.heap.size (.int .u8 (op : Int)) (.string (txt nm)) (.slice a nk cp) := by
    rw [← hW1]; exact (Box3.new w _ _ _ _).kept (((Fr.refl nob _).alloc _).alloc _) (fun h => h)
  have hby : Box3 W1 (w.heap.size + 1) (.int .u8 (ob : Int)) (.string (txt nmb)) (.slice ab nb cb) := by
    have h := (Box3.new (w.alloc (.cells #[.int .u8 (op : Int), .string (txt nm), .slice a nk cp] 25)) (.int .u8 (ob : Int)) (.string (txt nmb)) (.slice ab nb cb) 25).kept ((Fr.refl nob _).alloc (.cells #[.int .u8 0, .string ⟨#[]⟩, .slice none 0 0] 25)) (fun h => h)
    rw [hW1, World.size_alloc] at h; exact h
  have hbz : Box3 W1 (w.heap.size + 2) (.int .u8 0) (.string ⟨#[]⟩) (.slice none 0 0) := by
    have h := Box3.new ((w.alloc (.cells #[.int .u8 (op : Int), .string (txt nm), .slice a nk cp] 25)).alloc (.cells #[.int .u8 (ob : Int), .string (txt nmb), .slice ab nb cb] 25)) (.int .u8 0) (.string ⟨#[]⟩) (.slice none 0 0) 25
    rw [hW1, World.size_alloc, World.size_alloc] at h; exact h
  have hz1 : W1.heap.size = w.heap.size + 3 := by rw [← hW1]; simp
  have HBX := Lib.hid hbx
  have HBY := Lib.hid hby
  have HBZ := Lib.hid hbz
  have HF1 := Lib.hid A1
  have HZ1 := Lib.hid hz1
  have HTB := Lib.hid hTb
  have ⟨b0, b1, b2, _⟩ := hbx
  have ⟨y0, y1, y2, _⟩ := hby
  have ⟨d0, d1, d2, df⟩ := hbz
  have df0 := df 0
  have df1 := df 1
  have df2 := df 2
  clear df hK ih htk hle hS hR hnk A1 hbx hby hbz hz1 hTb hkl hln ht2
  go_enter Try.func28, Try.ntmps28
  go_upto_region 1 with fail
  (try rw [hW1])
  clear hW1
  by_cases hrep : op = 3 ∧ nm = s
  · obtain ⟨rfl, rfl⟩ := hrep
    have e6 : ((txt nm).toList == (txt nm).toList) = true := by simp
    have hv : tb = R := by rw [← HR.out, if_pos ⟨rfl, rfl⟩]
    subst hv
    go_wp2_with fail
    obtain ⟨X, FX⟩ := HBZ.out.set (.int .u8 (ob : Int)) (.string (txt nmb)) (.slice ab nb cb)
    have F7 := HF1.out.trans' (T := nob) FX (fun _ _ h => h) (fun j hj h => by have e : j = w.heap.size + 2 := h; omega)
    have T7 := HTB.out.kept (T := fun b => S b ∨ w.heap.size ≤ b) F7 (fun b h _ => ⟨fun h => h, .inl h⟩)
    have x0 := X.c0
    have x1 := X.c1
    have x2 := X.c2
    clear d0 d1 d2 df0 df1 df2 b0 b1 b2 y0 y1 y2 X FX
    generalize ((W1.setCell ⟨w.heap.size + 2, 0, none⟩ (.int .u8 (ob : Int))).setCell ⟨w.heap.size + 2, 1, none⟩ (.string (txt nmb))).setCell ⟨w.heap.size + 2, 2, none⟩ (.slice ab nb cb) = w7 at *
    exact bodyPost_ret (v := .agg #[.int .u8 (ob : Int), .string (txt nmb), .slice ab nb cb]) (by simp [results, Try.results28, go_sem, x0, x1, x2]) rfl ⟨_, rfl, T7, F7⟩
  · have hRv : R = .mk op nm (kids.map (repP s tb)) := by rw [← HR.out, if_neg hrep, repL_map]
    subst hRv
    have hpq : (((op : Int) == 3) = false) ∨ (((op : Int) == 3) = true ∧ ((txt nm).toList == (txt s).toList) = false) := by
      by_cases h3 : op = 3
      · right
        refine ⟨by simp only [beq_iff_eq]; omega, ?_⟩
        rw [txt_beq]
        simp only [beq_eq_false_iff_ne, ne_eq]
        exact fun h => hrep ⟨h3, h⟩
      · left; simp only [beq_eq_false_iff_ne, ne_eq]; omega
    clear hrep HR d0 d1 d2 df0 df1 df2
    rcases hpq with p0 | ⟨p0, p1⟩
    all_goals (
      go_upto_region 4 with fail
      clear p0 b0 b1 b2 y0 y1 y2
      have A2 : Fr nob W1 (W1.alloc (.cells #[.int .u8 (op : Int), .string (txt nm), .slice none 0 0] 25)) := (Fr.refl nob W1).alloc _
      have HBX2 := Lib.hid (HBX.out.kept A2 (fun h => h))
      have HBY2 := Lib.hid (HBY.out.kept A2 (fun h => h))
      have HBZ2 := Lib.hid (HBZ.out.kept A2 (fun h => h))
      have hbo := Box3.new W1 (.int .u8 (op : Int)) (.string (txt nm)) (.slice none 0 0) 25
      rw [HZ1.out] at hbo ⊢
      have HBO2 := Lib.hid hbo
      have HF2 := Lib.hid (HF1.out.trans A2 (fun _ _ h => h))
      have HZ2 : Hid ((W1.alloc (.cells #[.int .u8 (op : Int), .string (txt nm), .slice none 0 0] 25)).heap.size = w.heap.size + 4) := Lib.hid (by simp [HZ1.out])
      clear A2 hbo HBX HBY HBZ HF1 HZ1
      generalize W1.alloc (.cells #[.int .u8 (op : Int), .string (txt nm), .slice none 0 0] 25) = W2 at *
      go_wp2_with fail
      go_loopg [8] nk (fun m iv wr => ∃ (k : Nat) (kv : Value) (cells : List Value), k + m = nk ∧ iv = .int .i64 (k : Int) ∧ (∃ la lc, kv = .slice la k lc) ∧ wr.ownsRow (w.heap.size + 4) 25 3 kv k cells ∧ RowL wr (RS S (w.heap.size + 4) kv) ((kids.take k).map (repP s tb)) cells ∧ Box3 wr w.heap.size (.int .u8 (op : Int)) (.string (txt nm)) (.slice a nk cp) ∧ Box3 wr (w.heap.size + 1) (.int .u8 (ob : Int)) (.string (txt nmb)) (.slice ab nb cb) ∧ Box3 wr (w.heap.size + 2) (.int .u8 0) (.string ⟨#[]⟩) (.slice none 0 0) ∧ Box3 wr (w.heap.size + 3) (.int .u8 (op : Int)) (.string (txt nm)) kv ∧ w.heap.size + 4 ≤ wr.heap.size ∧ Fr nob w wr)
      case atStart => exact ⟨0, .slice none 0 0, [], by omega, rfl, ⟨none, 0, rfl⟩, World.ownsRow_nil _ _ _ _, by rw [List.take_zero]; rfl, HBX2.out, HBY2.out, HBZ2.out, HBO2.out, by rw [HZ2.out]; exact Nat.le_refl _, HF2.out⟩
      case round =>
        clear HBX2 HBY2 HBZ2 HBO2 HF2 HZ2
        obtain ⟨k, kv, cells, hkm, rfl, ⟨la, lc, rfl⟩, hown, hKL, hB, hBy, hBz, hBo, hsz, hF⟩ := hrel
        have HO := Lib.hid hown
        have HKL := Lib.hid hKL
        have HB := Lib.hid hB
        have HBy := Lib.hid hBy
        have HBz := Lib.hid hBz
        have HBo := Lib.hid hBo
        have HF := Lib.hid hF
        have HSZ := Lib.hid hsz
        have r2 := hB.c2
        have q4 : (0 : Int) ≤ (k : Int) := Int.natCast_nonneg _
        clear hown hKL hB hBy hBz hBo hF hsz
        cases gk with
        | zero =>
          obtain rfl : k = nk := by omega
          have ek : kids.take k = kids := List.take_of_length_le (by rw [HNK.out]; exact Nat.le_refl _)
          rw [ek] at HKL
          have ⟨b0, b1, b2, _⟩ := HBo.out
          have ⟨d0, d1, d2, df⟩ := HBz.out
          have df0 := df 0
          have df1 := df 1
          have df2 := df 2
          clear df
          go_wp2_with fail
          obtain ⟨X, FX⟩ := HBz.out.set (.int .u8 (op : Int)) (.string (txt nm)) (.slice la k lc)
          have own7 := FX.row HO.out (fun g hg (e : g = w.heap.size + 2) => by have := (HO.out.lt g hg).1; omega)
          have K7 := HKL.out.kept (T := fun b => S b ∨ w.heap.size ≤ b) FX (fun b h _ => ⟨show ¬ b = w.heap.size + 2 by rcases h.1 with h1 | h1; have := HS.out b h1; omega; omega, by rcases h.1 with h1 | h1; exact .inl h1; exact .inr (by omega)⟩)
          have F7 := HF.out.trans' (T := nob) FX (fun _ _ h => h) (fun j hj h => by have e : j = w.heap.size + 2 := h; omega)
          have x0 := X.c0
          have x1 := X.c1
          have x2 := X.c2
          clear d0 d1 d2 df0 df1 df2 b0 b1 b2 X FX r2
          generalize ((wr.setCell ⟨w.heap.size + 2, 0, none⟩ (.int .u8 (op : Int))).setCell ⟨w.heap.size + 2, 1, none⟩ (.string (txt nm))).setCell ⟨w.heap.size + 2, 2, none⟩ (.slice la k lc) = w7 at *
          refine bodyPost_ret (v := .agg #[.int .u8 (op : Int), .string (txt nm), .slice la k lc]) (by simp [results, Try.results28, go_sem, x0, x1, x2]) rfl ⟨_, rfl, ?_, F7⟩
          exact trO_row (by rw [List.length_map, HNK.out]) own7 K7 (fun b h => .inl (.inr (by omega)))
        | succ m =>
          have q3 : (k : Int) < (nk : Int) := by omega
          have hk : k < kids.length := by rw [HNK.out]; omega
          have hkt : kids[k]? = some kids[k] := List.getElem?_eq_getElem hk
          have hmem : kids[k] ∈ kids := List.getElem_mem hk
          have htake : kids.take (k + 1) = kids.take k ++ [kids[k]] := List.take_succ_eq_append_getElem hk
          generalize kids[k] = t at hkt hmem htake
          obtain ⟨b, bo, rfl, hSb, hKV⟩ := HK.out (by intro e; rw [e] at hk; simp at hk)
          obtain ⟨x, y, z, e0, e1, e2, hT⟩ := hKV.at hkt
          rw [show 0 + k = k by omega] at e0 e1 e2
          have D : Fr nob wr wr.drew := (Fr.refl nob wr).drew
          have FD := HF.out.trans D (fun _ _ h => h)
          replace e0 := FD.cell e0 (fun h => h)
          replace e1 := FD.cell e1 (fun h => h)
          replace e2 := FD.cell e2 (fun h => h)
          have hT1 := hT.kept (T := S) FD (fun b h _ => ⟨fun h => h, h⟩)
          have hTb1 := HTB.out.kept (T := S) FD (fun b h _ => ⟨fun h => h, h⟩)
          obtain ⟨o, nn, ka, kn, kc, hform⟩ := hT1.form
          obtain ⟨rfl, rfl, rfl⟩ : x = .int .u8 (o : Int) ∧ y = .string (txt nn) ∧ z = .slice ka kn kc := by simpa using hform
          have hsz0 := FD.size
          have hC := HIH.out t hmem _ _ S wr.drew (wideL_at HTK.out hkt) (HLE.out t hmem) (fun b h => by have := HS.out b h; omega) hT1 hTb1
          have HTA := Lib.hid htake
          have HBd := Lib.hid (HB.out.kept D (fun h => h))
          have HByd := Lib.hid (HBy.out.kept D (fun h => h))
          have HBzd := Lib.hid (HBz.out.kept D (fun h => h))
          have HBod := Lib.hid (HBo.out.kept D (fun h => h))
          have HOd := Lib.hid (D.row HO.out (fun _ _ h => h))
          have HKd := Lib.hid (HKL.out.kept (T := fun b => RS S (w.heap.size + 4) (.slice la k lc) b ∧ b < wr.heap.size) D (fun b h h' => ⟨fun h => h, h, h'⟩))
          have HFd := Lib.hid FD
          have rd2 := HBd.out.c2
          have sd2 := HBod.out.c2
          have yd0 := HByd.out.c0
          have yd1 := HByd.out.c1
          have yd2 := HByd.out.c2
          have HSZ2 : Hid (w.heap.size + 4 ≤ wr.drew.heap.size) := Lib.hid HSZ.out
          clear HSZ hk hkt hmem hKV hT hT1 hTb1 hform hSb htake D FD HB HBy HBz HBo HF HO HKL hsz0
          go_wp2_with fail
          clear r2
          have hc4 : k + 1 ≤ maxLen := by unfold maxLen; omega
          have hc5 : (k + 1) * 48 ≤ 140737488355328 := by omega
          have HC45 := Lib.hid (And.intro hc4 hc5)
          clear hc4 hc5
          go_region_law (first
            | (go_simp; go_at_call 28; (with_reducible refine hC.mono ?_); rintro e w3 ⟨v3, rfl, hT3, F3⟩
               obtain ⟨o3, nm3, a3, n3, c3, rfl⟩ := hT3.form
               have s3 := F3.cell sd2 (fun h => h)
               have A3 : Fr nob w3 (w3.alloc (.cells #[.int .u8 (o3 : Int), .string (txt nm3), .slice a3 n3 c3] 25)) := (Fr.refl nob w3).alloc _
               have s4 := A3.cell s3 (fun h => h)
               have HO4 := Lib.hid (A3.row (F3.row HOd.out (fun _ _ h => h)) (fun _ _ h => h))
               have HC6 : Hid (w.heap.size + 4 ≤ (w3.alloc (.cells #[.int .u8 (o3 : Int), .string (txt nm3), .slice a3 n3 c3] 25)).heap.size) := Lib.hid (Nat.le_trans HSZ2.out (F3.trans A3 (fun _ _ h => h)).size)
               have HF3 := Lib.hid F3
               have HT3 := Lib.hid hT3
               have HB24 := Lib.hid ((HBod.out.kept F3 (fun h => h)).kept A3 (fun h => h))
               clear hT3 A3 F3
               simp only [])
            | (refine step_append_own (by rfl) _ _ _ (by rfl) 25 i0 _ 3 48 Try.underlying23 hi0 hi1 hi2 hi3 rfl (by decide) (w.heap.size + 4) (.slice la k lc) k cells (by rfl) HO4.out ⟨w3.heap.size, 0, none⟩ 1 1 [.int .u8 (o3 : Int), .string (txt nm3), .slice a3 n3 c3] (by rfl) rfl (three_new w3 _ _ _ _) (three_one _ _ _ _ _) HC45.out.1 HC45.out.2 HC6.out ?_
               intro v6 w6 own6 gr6 hat
               have F6 : Fr (fun j => (Value.slice la k lc).ownBlock = some j) (w3.alloc (.cells #[.int .u8 (o3 : Int), .string (txt nm3), .slice a3 n3 c3] 25)) w6 := (Fr.refl _ _).grown gr6 (fun j hj _ => hj)
               have hB26 := HB24.out.kept F6 (fun h => by have := (HO4.out.lt _ h).1; omega)
               have s6 := hB26.c2
               have f6 := hB26.fr 2
               obtain ⟨g6, cap6, rfl, _⟩ := row_form (n := k) own6
               have HO6 := Lib.hid own6
               have HF6 := Lib.hid F6
               have HAT := Lib.hid hat
               have HB26 := Lib.hid hB26
               clear own6 gr6 hat F6 hB26))
          all_goals (
            have S7 := fr_store w6 (w.heap.size + 3) 2 (.slice (some ⟨g6, 0, none⟩) (k + 1) cap6)
            have hz0 : wr.heap.size ≤ w3.heap.size := HF3.out.size
            have hsz2 : w.heap.size + 4 ≤ wr.heap.size := HSZ2.out
            have A3 : Fr nob w3 (w3.alloc (.cells #[.int .u8 (o3 : Int), .string (txt nm3), .slice a3 n3 c3] 25)) := (Fr.refl nob w3).alloc _
            have hg6 : ∀ b, b < w3.heap.size → (∀ j, (Value.slice la k lc).ownBlock = some j → j ≠ b) → (Value.slice (some ⟨g6, 0, none⟩) (k + 1) cap6).ownBlock ≠ some b := by
              intro b hb hold e
              rcases HAT.out with h | h
              · rw [h] at e; exact hold b e rfl
              · rw [h] at e
                have e2 := Option.some.inj e
                (try rw [World.size_alloc] at e2)
                omega
            have holt : ∀ j, (Value.slice la k lc).ownBlock = some j → w.heap.size + 4 ≤ j ∧ j < wr.heap.size := fun j hj => HOd.out.lt j hj
            have hne : ∀ b j, (S b ∨ wr.heap.size ≤ b) → (Value.slice la k lc).ownBlock = some j → j ≠ b := fun b j hb hj e => by
              have h1 := holt j hj
              rcases hb with h2 | h2
              · have := HS.out b h2; omega
              · omega
            have nb3 : ∀ b, RS S (w.heap.size + 4) (.slice (some ⟨g6, 0, none⟩) (k + 1) cap6) b → ¬ b = w.heap.size + 3 := fun b h => by
              rcases h.1 with h1 | h1
              · have := HS.out b h1; omega
              · omega
            have K7 := (((HKd.out.kept (T := fun b => RS S (w.heap.size + 4) (.slice la k lc) b ∧ b < wr.heap.size) HF3.out (fun b h _ => ⟨fun h => h, h⟩)).kept (T := fun b => RS S (w.heap.size + 4) (.slice la k lc) b ∧ b < wr.heap.size) A3 (fun b h _ => ⟨fun h => h, h⟩)).kept (T := RS S (w.heap.size + 4) (.slice (some ⟨g6, 0, none⟩) (k + 1) cap6)) HF6.out (fun b h _ => ⟨h.1.2, h.1.1, hg6 b (by have := h.2; omega) (fun j hj e => h.1.2 (by rw [hj, e]))⟩)).kept (T := RS S (w.heap.size + 4) (.slice (some ⟨g6, 0, none⟩) (k + 1) cap6)) S7 (fun b h _ => ⟨nb3 b h, h⟩)
            have T7 := ((HT3.out.kept (T := fun b => (S b ∨ wr.heap.size ≤ b) ∧ b < w3.heap.size) A3 (fun b h h' => ⟨fun h => h, h, h'⟩)).kept (T := RS S (w.heap.size + 4) (.slice (some ⟨g6, 0, none⟩) (k + 1) cap6)) HF6.out (fun b h _ => ⟨fun e => hne b b h.1 e rfl, by rcases h.1 with h1 | h1; exact .inl h1; exact .inr (by omega), hg6 b h.2 (fun j hj => hne b j h.1 hj)⟩)).kept (T := RS S (w.heap.size + 4) (.slice (some ⟨g6, 0, none⟩) (k + 1) cap6)) S7 (fun b h _ => ⟨nb3 b h, h⟩)
            have HK7 := Lib.hid (RowL.append (RowL.form1 T7) K7)
            have G4 := HF3.out.trans A3 (fun _ _ h => h)
            have HB7 := Lib.hid (((HBd.out.kept G4 (fun h => h)).kept HF6.out (fun h => by have := (holt _ h).1; omega)).kept S7 (show ¬ w.heap.size = w.heap.size + 3 by omega))
            have HBy7 := Lib.hid (((HByd.out.kept G4 (fun h => h)).kept HF6.out (fun h => by have := (holt _ h).1; omega)).kept S7 (show ¬ w.heap.size + 1 = w.heap.size + 3 by omega))
            have HBz7 := Lib.hid (((HBzd.out.kept G4 (fun h => h)).kept HF6.out (fun h => by have := (holt _ h).1; omega)).kept S7 (show ¬ w.heap.size + 2 = w.heap.size + 3 by omega))
            have ⟨z0, z1, z2, zf⟩ := HB26.out
            have HBo7 : Hid (Box3 (w6.setCell ⟨w.heap.size + 3, 2, none⟩ (.slice (some ⟨g6, 0, none⟩) (k + 1) cap6)) (w.heap.size + 3) (.int .u8 (op : Int)) (.string (txt nm)) (.slice (some ⟨g6, 0, none⟩) (k + 1) cap6)) := Lib.hid
              ⟨by rw [World.cell?_setCell_other (h := by simp)]; exact z0, by rw [World.cell?_setCell_other (h := by simp)]; exact z1, World.cell?_setCell_same' _ _ _ (by rw [z2]; rfl), fun o => by rw [World.frozen?_setCell]; exact zf o⟩
            have HO7 := Lib.hid (S7.row HO6.out (fun g hg (e : g = w.heap.size + 3) => by have := (HO6.out.lt g hg).1; omega))
            have HF7 := Lib.hid (((HFd.out.trans G4 (fun _ _ h => h)).trans' (T := nob) HF6.out (fun _ _ h => h) (fun j hj h => by have := (holt j h).1; omega)).trans' (T := nob) S7 (fun _ _ h => h) (fun j hj h => by have e : j = w.heap.size + 3 := h; omega))
            have HZ7 : Hid (w.heap.size + 4 ≤ (w6.setCell ⟨w.heap.size + 3, 2, none⟩ (.slice (some ⟨g6, 0, none⟩) (k + 1) cap6)).heap.size) := Lib.hid (by have h1 := S7.size; have h2 := HF6.out.size; have h3 := HC6.out; omega)
            have HE7 : Hid ((kids.take (k + 1)).map (repP s tb) = (kids.take k).map (repP s tb) ++ [repP s tb t]) := Lib.hid (by rw [HTA.out, List.map_append]; rfl)
            clear S7 hz0 hsz2 A3 hg6 holt hne nb3 K7 T7 G4 z0 z1 z2 zf s3 s4 s6 f6 HO4 HC6 HF3 HT3 HB24 HO6 HF6 HAT HB26 HKd HOd HBd HByd HBzd HBod HFd rd2 sd2 yd0 yd1 yd2 e0 e1 e2 hC
            generalize w6.setCell ⟨w.heap.size + 3, 2, none⟩ (.slice (some ⟨g6, 0, none⟩) (k + 1) cap6) = w7 at *
            go_wp2_with fail
            go_roundg m
            case measure => omega
            case rel => exact ⟨k + 1, .slice (some ⟨g6, 0, none⟩) (k + 1) cap6, _, by omega, by go_num, ⟨_, _, rfl⟩, HO7.out, by rw [HE7.out]; exact HK7.out, HB7.out, HBy7.out, HBz7.out, HBo7.out, HZ7.out, HF7.out⟩))
theorem rrp_any (s : List UInt8) (tb : Tr) : ∀ (d : Nat) (t : Tr), SizeOf.sizeOf t < d → RrpC s tb t
  | 0, t, h => absurd h (Nat.not_lt_zero _)
  | d + 1, .mk op nm kids, h => rrp_one s tb op nm kids fun t ht => rrp_any s tb d t (by have := List.sizeOf_lt_of_mem ht; simp at h; omega)
end Go.Proofs.Ytbiheajnmjbdoaa
