import Derived.Test.YtbjdaibkcchllaaQc8
import Derived.Test.YtbjdaibkcchllaaQbn
import Derived.Deep.RegionWith
import Derived.Deep.RegionLawGrows
namespace Go.Proofs.Ytbjdaibkcchllaa
open Go.RowKit

/-! Copied -/
theorem step_append_own {P : Program} {ops : Array Oper} {o : Oper} {a : Act} {w : World} {K : Act → World → Prop} {Q : Exit → Act → World → Prop} {E : Prop}
    (hg : o.guard = none) (s x : Operand) (t : TypeId) (hop : o.op = Op.call { callee := Callee.builtin Builtin.append, args := #[s, x], argTypes := #[t, t] })
    (e : TypeId) (i : TypeInfo) (z : Value) (size bytes : Nat) (h1 : P.underlying t = some (.slice e)) (h2 : P.info? e = some i) (h3 : i.zero = some z) (h4 : i.size = size) (h5 : i.bytes = bytes) (h6 : z.cells.size = size) (h7 : 0 < size)
    (base : Nat) (v : Value) (n : Nat) (xs : List Value) (hs : a.eval s = v) (hown : w.ownsRow base e size v n xs)
    (ad : Addr) (m c : Nat) (news : List Value) (hx : a.eval x = .slice (some ad) m c) (hn : news.length = m * size) (hc : ∀ j u, news[j]? = some u → w.cell? (ad.add j) = some u) (h1c : ∀ u ∈ news, u.oneCell' = true)
    (b1 : n + m ≤ maxLen) (b2 : (n + m) * bytes ≤ 140737488355328) (hbase : base ≤ w.heap.size)
    (hK : ∀ v' w', w'.ownsRow base e size v' (n + m) (xs ++ news) → w.grownBy w' v.ownBlock → (v'.ownBlock = v.ownBlock ∨ v'.ownBlock = some w.heap.size) → K (a.put o.dst v') w') :
    if Region.wanted o (yielded ops a.tmps) = true then Oper.wp P o a w K Q else E := by
  have hw : Region.wanted o (yielded ops a.tmps) = true := by simp [Region.wanted, hg]
  rw [if_pos hw]
  obtain ⟨v', w', hrun, r1, r2, _, r3⟩ := run_append_own_at (P := P) w base t o.type e i z size bytes h1 h2 h3 h4 h5 h6 h7 v n xs hown ad m c news hn hc h1c b1 b2 hbase
  unfold Oper.wp
  simp [execOp, hop, resolve, invoke, builtin, hs, hx, hrun, Result.andThen]
  exact hK v' w' r1 r2 r3
theorem three_one (o : Nat) (nm : ByteArray) (a : Option Addr) (n c : Nat) : ∀ u ∈ [Value.int .u8 (o : Int), .string nm, .slice a n c], u.oneCell' = true := by
  intro u hu; simp at hu; rcases hu with rfl | rfl | rfl <;> rfl
def CopC (t : Tr) : Prop := ∀ (v : Value) (S : Nat → Prop) (w : World), wide t = true → (preP t).length ≤ 1000000 → (∀ b, S b → b < w.heap.size) → TrO w S t v →
  Calls Try.prog 17 #[v] w fun e w' => ∃ v', e = .returned v' ∧ TrV w' (fun b => w.heap.size ≤ b) t v' ∧ Fr nob w w'
/-- the blocks of finished kids -/
def KS (n : Nat) (kv : Value) (b : Nat) : Prop := n ≤ b ∧ kv.ownBlock ≠ some b
set_option maxRecDepth 20000 in
set_option maxHeartbeats 4000000 in
theorem cop_one (op : Nat) (nm : List UInt8) (kids : List Tr) (ih : ∀ t ∈ kids, CopC t) : CopC (.mk op nm kids) := by
  intro v S w hwd hln hS hT
  rw [TrO] at hT
  obtain ⟨a, cp, rfl, hK⟩ := hT
  rw [wide, Bool.and_eq_true, Bool.and_eq_true, decide_eq_true_iff, decide_eq_true_iff] at hwd
  obtain ⟨⟨ht1, ht2⟩, htk⟩ := hwd
  have HK := Lib.hid hK
  have HIH := Lib.hid ih
  have HTK := Lib.hid htk
  rw [preP, List.length_cons] at hln
  have hle : ∀ t ∈ kids, (preP t).length ≤ 1000000 := fun t ht => by have := preL_mem ht; omega
  have hkl := kids_le (kids := kids)
  have hnk6 : kids.length ≤ 1000000 := by omega
  have HLE := Lib.hid hle
  have HS := Lib.hid hS
  obtain ⟨nk, hnk⟩ : ∃ nk, kids.length = nk := ⟨_, rfl⟩
  rw [hnk] at hnk6 ⊢
  have HNK := Lib.hid hnk
  obtain ⟨i0, hi0, hi1, hi2, hi3⟩ := info_parts info_expr
  have A1 : Fr nob (w.alloc (.cells #[.int .u8 (op : Int), .string (txt nm), .slice a nk cp] 25)) ((w.alloc (.cells #[.int .u8 (op : Int), .string (txt nm), .slice a nk cp] 25)).alloc (.cells #[.int .u8 0, .string ⟨#[]⟩, .slice none 0 0] 25)) := (Fr.refl nob _).alloc _
  have HBX := Lib.hid ((Box3.new w (.int .u8 (op : Int)) (.string (txt nm)) (.slice a nk cp) 25).kept A1 (fun h => h))
  have hby := Box3.new (w.alloc (.cells #[.int .u8 (op : Int), .string (txt nm), .slice a nk cp] 25)) (.int .u8 0) (.string ⟨#[]⟩) (.slice none 0 0) 25
  simp only [World.size_alloc] at hby
  have HBY := Lib.hid hby
  have HF1 := Lib.hid (((Fr.refl nob w).alloc (.cells #[.int .u8 (op : Int), .string (txt nm), .slice a nk cp] 25)).alloc (.cells #[.int .u8 0, .string ⟨#[]⟩, .slice none 0 0] 25))
  have hz1 : ((w.alloc (.cells #[.int .u8 (op : Int), .string (txt nm), .slice a nk cp] 25)).alloc (.cells #[.int .u8 0, .string ⟨#[]⟩, .slice none 0 0] 25)).heap.size = w.heap.size + 2 := by simp
  have HZ1 := Lib.hid hz1
  clear hK ih htk hnk hS A1 hby hz1 hle hkl hln ht2
  go_enter Try.func17, Try.ntmps17
  go_upto_region 1 with fail
  generalize (w.alloc (.cells #[.int .u8 (op : Int), .string (txt nm), .slice a nk cp] 25)).alloc (.cells #[.int .u8 0, .string ⟨#[]⟩, .slice none 0 0] 25) = W1 at *
  have ⟨g0, g1, g2, _⟩ := HBX.out
  go_upto_region 2 with fail
  have A2 : Fr nob W1 (W1.alloc (.cells #[.int .u8 (op : Int), .string (txt nm), .slice none 0 0] 25)) := (Fr.refl nob W1).alloc _
  have HBX2 := Lib.hid (HBX.out.kept A2 (fun h => h))
  have HBY2 := Lib.hid (HBY.out.kept A2 (fun h => h))
  have hbz := Box3.new W1 (.int .u8 (op : Int)) (.string (txt nm)) (.slice none 0 0) 25
  rw [HZ1.out] at hbz ⊢
  have HBZ2 := Lib.hid hbz
  have HF2 := Lib.hid (HF1.out.trans A2 (fun _ _ h => h))
  have hz2 : (W1.alloc (.cells #[.int .u8 (op : Int), .string (txt nm), .slice none 0 0] 25)).heap.size = w.heap.size + 3 := by simp [HZ1.out]
  have HZ2 := Lib.hid hz2
  clear A2 hbz hz2 g0 g1 g2 HBX HBY HF1 HZ1
  generalize W1.alloc (.cells #[.int .u8 (op : Int), .string (txt nm), .slice none 0 0] 25) = W2 at *
  go_wp2_with fail
  go_loopg [4] nk (fun m iv wr => ∃ (k : Nat) (kv : Value) (cells : List Value), k + m = nk ∧ iv = .int .i64 (k : Int) ∧ (∃ la lc, kv = .slice la k lc) ∧ wr.ownsRow (w.heap.size + 3) 25 3 kv k cells ∧ KidsL wr (KS (w.heap.size + 3) kv) (kids.take k) cells ∧ Box3 wr w.heap.size (.int .u8 (op : Int)) (.string (txt nm)) (.slice a nk cp) ∧ Box3 wr (w.heap.size + 1) (.int .u8 0) (.string ⟨#[]⟩) (.slice none 0 0) ∧ Box3 wr (w.heap.size + 2) (.int .u8 (op : Int)) (.string (txt nm)) kv ∧ w.heap.size + 3 ≤ wr.heap.size ∧ Fr nob w wr)
  case atStart => exact ⟨0, .slice none 0 0, [], by omega, rfl, ⟨none, 0, rfl⟩, World.ownsRow_nil _ _ _ _, by rw [List.take_zero]; rfl, HBX2.out, HBY2.out, HBZ2.out, by rw [HZ2.out]; exact Nat.le_refl _, HF2.out⟩
  case round =>
    clear HBX2 HBY2 HBZ2 HF2 HZ2
    obtain ⟨k, kv, cells, hkm, rfl, ⟨la, lc, rfl⟩, hown, hKL, hB, hB1, hB2, hsz, hF⟩ := hrel
    have HO := Lib.hid hown
    have HKL := Lib.hid hKL
    have HB := Lib.hid hB
    have HB1 := Lib.hid hB1
    have HB2 := Lib.hid hB2
    have HF := Lib.hid hF
    have r2 := hB.c2
    have q4 : (0 : Int) ≤ (k : Int) := Int.natCast_nonneg _
    clear hown hKL hB hB1 hB2 hF
    cases gk with
    | zero =>
      obtain rfl : k = nk := by omega
      have ek : kids.take k = kids := List.take_of_length_le (by rw [HNK.out]; exact Nat.le_refl _)
      rw [ek] at HKL
      have ⟨b0, b1, b2, _⟩ := HB2.out
      have ⟨d0, d1, d2, df⟩ := HB1.out
      have df0 := df 0
      have df1 := df 1
      have df2 := df 2
      clear df
      go_wp2_with fail
      obtain ⟨X, FX⟩ := HB1.out.set (.int .u8 (op : Int)) (.string (txt nm)) (.slice la k lc)
      have own7 := FX.row HO.out (fun g hg (e : g = w.heap.size + 1) => by have := (HO.out.lt g hg).1; omega)
      have K7 := HKL.out.kept (T := fun b => w.heap.size ≤ b) FX (fun b h _ => ⟨show ¬ b = w.heap.size + 1 by have := h.1; omega, by have := h.1; omega⟩)
      have F7 := HF.out.trans' (T := nob) FX (fun _ _ h => h) (fun j hj h => by have e : j = w.heap.size + 1 := h; omega)
      have x0 := X.c0
      have x1 := X.c1
      have x2 := X.c2
      clear d0 d1 d2 df0 df1 df2 b0 b1 b2 X FX r2
      generalize ((wr.setCell ⟨w.heap.size + 1, 0, none⟩ (.int .u8 (op : Int))).setCell ⟨w.heap.size + 1, 1, none⟩ (.string (txt nm))).setCell ⟨w.heap.size + 1, 2, none⟩ (.slice la k lc) = w7 at *
      refine bodyPost_ret (v := .agg #[.int .u8 (op : Int), .string (txt nm), .slice la k lc]) (by simp [results, Try.results17, go_sem, x0, x1, x2]) rfl ⟨_, rfl, ?_, F7⟩
      rw [TrV]
      refine ⟨la, lc, by rw [HNK.out], fun hne => ?_⟩
      have hk1 : 0 < k := by rw [← HNK.out]; exact List.length_pos_iff.2 hne
      rcases own7.2 with ⟨h1, h2⟩ | ⟨g, cap, cur, h1, h2, h3, h4, h5, h6, h7⟩
      · omega
      · cases h1
        refine ⟨g, rfl, ⟨by omega, flg_of h3⟩, K7.toV fun j u hu => ?_⟩
        rw [show 0 * 3 + j = j by omega]
        exact own_cells own7 j u hu
    | succ m =>
      have q3 : (k : Int) < (nk : Int) := by omega
      have hk : k < kids.length := by rw [HNK.out]; omega
      have hkt : kids[k]? = some kids[k] := List.getElem?_eq_getElem hk
      have hmem : kids[k] ∈ kids := List.getElem_mem hk
      have htake : kids.take (k + 1) = kids.take k ++ [kids[k]] := List.take_succ_eq_append_getElem hk
      generalize kids[k] = t at hkt hmem htake
      obtain ⟨b, ob, rfl, hSb, hKV⟩ := HK.out (by intro e; rw [e] at hk; simp at hk)
      obtain ⟨x, y, z, e0, e1, e2, hT⟩ := hKV.at hkt
      rw [show 0 + k = k by omega] at e0 e1 e2
      have D : Fr nob wr wr.drew := (Fr.refl nob wr).drew
      have FD := HF.out.trans D (fun _ _ h => h)
      replace e0 := FD.cell e0 (fun h => h)
      replace e1 := FD.cell e1 (fun h => h)
      replace e2 := FD.cell e2 (fun h => h)
      have hT1 := hT.kept (T := S) FD (fun b h _ => ⟨fun h => h, h⟩)
      obtain ⟨o, nn, ka, kn, kc, hform⟩ := hT1.form
      obtain ⟨rfl, rfl, rfl⟩ : x = .int .u8 (o : Int) ∧ y = .string (txt nn) ∧ z = .slice ka kn kc := by simpa using hform
      have hsz0 := FD.size
      have hC := HIH.out t hmem _ S wr.drew (wideL_at HTK.out hkt) (HLE.out t hmem) (fun b h => by have := HS.out b h; omega) hT1
      have HTA := Lib.hid htake
      have HBd := Lib.hid (HB.out.kept D (fun h => h))
      have HB1d := Lib.hid (HB1.out.kept D (fun h => h))
      have HB2d := Lib.hid (HB2.out.kept D (fun h => h))
      have HOd := Lib.hid (D.row HO.out (fun _ _ h => h))
      have HKd := Lib.hid (HKL.out.kept (T := fun b => KS (w.heap.size + 3) (.slice la k lc) b ∧ b < wr.heap.size) D (fun b h h' => ⟨fun h => h, h, h'⟩))
      have HFd := Lib.hid FD
      have rd2 := HBd.out.c2
      have sd2 := HB2d.out.c2
      have HSZ2 : Hid (w.heap.size + 3 ≤ wr.drew.heap.size) := Lib.hid hsz
      clear hsz hk hkt hmem hKV hT hT1 hform hSb htake D FD HB HB1 HB2 HF HO HKL hsz0
      go_wp2_with fail
      clear r2
      have hc4 : k + 1 ≤ maxLen := by unfold maxLen; omega
      have hc5 : (k + 1) * 48 ≤ 140737488355328 := by omega
      have HC45 := Lib.hid (And.intro hc4 hc5)
      clear hc4 hc5
      go_region_law (first
        | (go_simp; go_at_call 17; (with_reducible refine hC.mono ?_); rintro e w3 ⟨v3, rfl, hT3, F3⟩
           obtain ⟨o3, nm3, a3, n3, c3, rfl⟩ := hT3.form
           have s3 := F3.cell sd2 (fun h => h)
           have A3 : Fr nob w3 (w3.alloc (.cells #[.int .u8 (o3 : Int), .string (txt nm3), .slice a3 n3 c3] 25)) := (Fr.refl nob w3).alloc _
           have s4 := A3.cell s3 (fun h => h)
           have HO4 := Lib.hid (A3.row (F3.row HOd.out (fun _ _ h => h)) (fun _ _ h => h))
           have HC6 : Hid (w.heap.size + 3 ≤ (w3.alloc (.cells #[.int .u8 (o3 : Int), .string (txt nm3), .slice a3 n3 c3] 25)).heap.size) := Lib.hid (Nat.le_trans HSZ2.out (F3.trans A3 (fun _ _ h => h)).size)
           have HF3 := Lib.hid F3
           have HT3 := Lib.hid hT3
           have HB24 := Lib.hid ((HB2d.out.kept F3 (fun h => h)).kept A3 (fun h => h))
           clear hT3 A3 F3
           simp only [])
        | (refine step_append_own (by rfl) _ _ _ (by rfl) 25 i0 _ 3 48 Try.underlying23 hi0 hi1 hi2 hi3 rfl (by decide) (w.heap.size + 3) (.slice la k lc) k cells (by rfl) HO4.out ⟨w3.heap.size, 0, none⟩ 1 1 [.int .u8 (o3 : Int), .string (txt nm3), .slice a3 n3 c3] (by rfl) rfl (three_new w3 _ _ _ _) (three_one _ _ _ _ _) HC45.out.1 HC45.out.2 HC6.out ?_
           intro v6 w6 own6 gr6 hat
           have F6 : Fr (fun j => (Value.slice la k lc).ownBlock = some j) (w3.alloc (.cells #[.int .u8 (o3 : Int), .string (txt nm3), .slice a3 n3 c3] 25)) w6 := (Fr.refl _ _).grown gr6 (fun j hj _ => hj)
           have hB26 := HB24.out.kept F6 (fun h => by have := (HO4.out.lt _ h).1; omega)
           have s6 := hB26.c2
           have f6 := hB26.fr 2
           obtain ⟨g6, cap6, rfl, _⟩ := row_form (n := k) own6
           have HO6 := Lib.hid own6
           have HF6 := Lib.hid F6
           have HAT := Lib.hid hat
           have HB26 := Lib.hid hB26
           clear own6 gr6 hat F6 hB26))
      all_goals (
        have S7 := fr_store w6 (w.heap.size + 2) 2 (.slice (some ⟨g6, 0, none⟩) (k + 1) cap6)
        have hz0 : wr.heap.size ≤ w3.heap.size := HF3.out.size
        have hsz2 : w.heap.size + 3 ≤ wr.heap.size := HSZ2.out
        have A3 : Fr nob w3 (w3.alloc (.cells #[.int .u8 (o3 : Int), .string (txt nm3), .slice a3 n3 c3] 25)) := (Fr.refl nob w3).alloc _
        have hg6 : ∀ b, b < w3.heap.size → (∀ j, (Value.slice la k lc).ownBlock = some j → j ≠ b) → (Value.slice (some ⟨g6, 0, none⟩) (k + 1) cap6).ownBlock ≠ some b := by
          intro b hb hold e
          rcases HAT.out with h | h
          · rw [h] at e; exact hold b e rfl
          · rw [h] at e
            have e2 := Option.some.inj e
            rw [World.size_alloc] at e2
            omega
        have holt : ∀ j, (Value.slice la k lc).ownBlock = some j → w.heap.size + 3 ≤ j ∧ j < wr.heap.size := fun j hj => HOd.out.lt j hj
        have K7 := (((HKd.out.kept (T := fun b => KS (w.heap.size + 3) (.slice la k lc) b ∧ b < wr.heap.size) HF3.out (fun b h _ => ⟨fun h => h, h⟩)).kept (T := fun b => KS (w.heap.size + 3) (.slice la k lc) b ∧ b < wr.heap.size) A3 (fun b h _ => ⟨fun h => h, h⟩)).kept (T := KS (w.heap.size + 3) (.slice (some ⟨g6, 0, none⟩) (k + 1) cap6)) HF6.out (fun b h _ => ⟨h.1.2, h.1.1, hg6 b (by have := h.2; omega) (fun j hj e => h.1.2 (by rw [hj, e]))⟩)).kept (T := KS (w.heap.size + 3) (.slice (some ⟨g6, 0, none⟩) (k + 1) cap6)) S7 (fun b h _ => ⟨show ¬ b = w.heap.size + 2 by have := h.1; omega, h⟩)
        have T7 := ((HT3.out.kept (T := fun b => wr.heap.size ≤ b ∧ b < w3.heap.size) A3 (fun b h h' => ⟨fun h => h, h, h'⟩)).kept (T := KS (w.heap.size + 3) (.slice (some ⟨g6, 0, none⟩) (k + 1) cap6)) HF6.out (fun b h _ => ⟨fun e => by have := (holt b e).2; have := h.1; omega, by have := h.1; omega, hg6 b h.2 (fun j hj e => by have := (holt j hj).2; have := h.1; omega)⟩)).kept (T := KS (w.heap.size + 3) (.slice (some ⟨g6, 0, none⟩) (k + 1) cap6)) S7 (fun b h _ => ⟨show ¬ b = w.heap.size + 2 by have := h.1; omega, h⟩)
        have HK7 := Lib.hid (K7.snoc T7)
        have G4 := HF3.out.trans A3 (fun _ _ h => h)
        have HB7 := Lib.hid (((HBd.out.kept G4 (fun h => h)).kept HF6.out (fun h => by have := (holt _ h).1; omega)).kept S7 (show ¬ w.heap.size = w.heap.size + 2 by omega))
        have HB17 := Lib.hid (((HB1d.out.kept G4 (fun h => h)).kept HF6.out (fun h => by have := (holt _ h).1; omega)).kept S7 (show ¬ w.heap.size + 1 = w.heap.size + 2 by omega))
        have ⟨z0, z1, z2, zf⟩ := HB26.out
        have HB27 : Hid (Box3 (w6.setCell ⟨w.heap.size + 2, 2, none⟩ (.slice (some ⟨g6, 0, none⟩) (k + 1) cap6)) (w.heap.size + 2) (.int .u8 (op : Int)) (.string (txt nm)) (.slice (some ⟨g6, 0, none⟩) (k + 1) cap6)) := Lib.hid
          ⟨by rw [World.cell?_setCell_other (h := by simp)]; exact z0, by rw [World.cell?_setCell_other (h := by simp)]; exact z1, World.cell?_setCell_same' _ _ _ (by rw [z2]; rfl), fun o => by rw [World.frozen?_setCell]; exact zf o⟩
        have HO7 := Lib.hid (S7.row HO6.out (fun g hg (e : g = w.heap.size + 2) => by have := (HO6.out.lt g hg).1; omega))
        have HF7 := Lib.hid (((HFd.out.trans G4 (fun _ _ h => h)).trans' (T := nob) HF6.out (fun _ _ h => h) (fun j hj h => by have := (holt j h).1; omega)).trans' (T := nob) S7 (fun _ _ h => h) (fun j hj h => by have e : j = w.heap.size + 2 := h; omega))
        have HZ7 : Hid (w.heap.size + 3 ≤ (w6.setCell ⟨w.heap.size + 2, 2, none⟩ (.slice (some ⟨g6, 0, none⟩) (k + 1) cap6)).heap.size) := Lib.hid (by have h1 := S7.size; have h2 := HF6.out.size; have h3 := HC6.out; omega)
        clear S7 hz0 hsz2 A3 hg6 holt K7 T7 G4 z0 z1 z2 zf s3 s4 s6 f6 HO4 HC6 HF3 HT3 HB24 HO6 HF6 HAT HB26 HKd HOd HBd HB1d HB2d HFd rd2 sd2 e0 e1 e2 hC
        generalize w6.setCell ⟨w.heap.size + 2, 2, none⟩ (.slice (some ⟨g6, 0, none⟩) (k + 1) cap6) = w7 at *
        go_wp2_with fail
        go_roundg m
        case measure => omega
        case rel => exact ⟨k + 1, .slice (some ⟨g6, 0, none⟩) (k + 1) cap6, _, by omega, by go_num, ⟨_, _, rfl⟩, HO7.out, by rw [HTA.out]; exact HK7.out, HB7.out, HB17.out, HB27.out, HZ7.out, HF7.out⟩)
theorem cop_any : ∀ (d : Nat) (t : Tr), SizeOf.sizeOf t < d → CopC t
  | 0, t, h => absurd h (Nat.not_lt_zero _)
  | d + 1, .mk op nm kids, h => cop_one op nm kids fun t ht => cop_any d t (by have := List.sizeOf_lt_of_mem ht; simp at h; omega)
end Go.Proofs.Ytbjdaibkcchllaa
