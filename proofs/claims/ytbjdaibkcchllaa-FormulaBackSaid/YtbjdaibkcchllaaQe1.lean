import Derived.Test.YtbjdaibkcchllaaQd2
namespace Go.Proofs.Ytbjdaibkcchllaa
open Go.RowKit

/-! replaced -/
mutual
def repP (s : List UInt8) (tb : Tr) : Tr → Tr
  | .mk op nm kids => if op = 3 ∧ nm = s then tb else .mk op nm (repL s tb kids)
def repL (s : List UInt8) (tb : Tr) : List Tr → List Tr
  | [] => []
  | t :: ts => repP s tb t :: repL s tb ts
end
theorem repL_map {s : List UInt8} {tb : Tr} : ∀ {ts : List Tr}, repL s tb ts = ts.map (repP s tb)
  | [] => by rw [repL]; rfl
  | t :: ts => by rw [repL, repL_map]; rfl
/-- blocks of finished kids: old ones, or new ones, and not that of the list -/
def RS (S : Nat → Prop) (n : Nat) (kv : Value) (b : Nat) : Prop := (S b ∨ n ≤ b) ∧ kv.ownBlock ≠ some b
theorem RowL.form1 {w : World} {S : Nat → Prop} {t : Tr} {o : Nat} {nm : List UInt8} {a : Option Addr} {n c : Nat} (h : TrO w S t (.agg #[.int .u8 (o : Int), .string (txt nm), .slice a n c])) : RowL w S [t] [.int .u8 (o : Int), .string (txt nm), .slice a n c] := ⟨o, nm, a, n, c, [], rfl, h, rfl⟩
theorem kidsO_of2 {w : World} {S : Nat → Prop} {b ob : Nat} : ∀ {ts : List Tr} {i : Nat}, (∀ (k : Nat) t, ts[k]? = some t → ∃ x y z, w.cell? ⟨b, ob + (i + k) * 3, none⟩ = some x ∧ w.cell? ⟨b, ob + (i + k) * 3 + 1, none⟩ = some y ∧ w.cell? ⟨b, ob + (i + k) * 3 + 2, none⟩ = some z ∧ TrO w S t (.agg #[x, y, z])) → KidsO w S ts b ob i
  | [], _, _ => by rw [KidsO]; trivial
  | t :: ts, i, h => by
    rw [KidsO]
    refine ⟨h 0 t rfl, kidsO_of2 fun k u hu => ?_⟩
    have := h (k + 1) u (by simpa using hu)
    rwa [show i + (k + 1) = i + 1 + k by omega] at this
theorem trO_row {w : World} {S : Nat → Prop} {B op k cap : Nat} {nm : List UInt8} {la : Option Addr} {ts : List Tr} {cells : List Value} (hk : ts.length = k) (hown : w.ownsRow B 25 3 (.slice la k cap) k cells) (hR : RowL w S ts cells) (hS : ∀ b, B ≤ b → S b ∨ (Value.slice la k cap).ownBlock ≠ some b) :
    TrO w S (.mk op nm ts) (.agg #[.int .u8 (op : Int), .string (txt nm), .slice la k cap]) := by
  rw [TrO]
  refine ⟨la, cap, by rw [hk], fun hne => ?_⟩
  have hk1 : 0 < k := by rw [← hk]; exact List.length_pos_iff.2 hne
  have own2 := hown
  rcases hown.2 with ⟨h1, h2⟩ | ⟨g, cap', cur, h1, h2, h3, h4, h5, h6, h7⟩
  · omega
  · cases h1
    refine ⟨g, 0, rfl, ?_, kidsO_of2 fun j u hu => ?_⟩
    · rcases hS g h2 with h | h
      · exact h
      · exact absurd rfl h
    · obtain ⟨o, nm', a, n, c, e0, e1, e2, hT⟩ := hR.at hu
      rw [show 0 + (0 + j) * 3 = j * 3 by omega]
      exact ⟨_, _, _, own_cells own2 _ _ e0, own_cells own2 _ _ e1, own_cells own2 _ _ e2, hT⟩
def RepC (s : List UInt8) (tb : Tr) (t : Tr) : Prop := ∀ (v vb : Value) (S : Nat → Prop) (w : World), wide t = true → (preP t).length ≤ 1000000 → (∀ b, S b → b < w.heap.size) → TrO w S t v → TrO w S tb vb →
  Calls Try.prog 61 #[v, .string (txt s), vb] w fun e w' => ∃ v', e = .returned v' ∧ TrO w' (fun b => S b ∨ w.heap.size ≤ b) (repP s tb t) v' ∧ Fr nob w w'
set_option maxRecDepth 20000 in
set_option maxHeartbeats 4000000 in
theorem rep_one (s : List UInt8) (tb : Tr) (op : Nat) (nm : List UInt8) (kids : List Tr) (ih : ∀ t ∈ kids, RepC s tb t) : RepC s tb (.mk op nm kids) := by
  intro v vb S w hwd hln hS hT hTb
  rw [TrO] at hT
  obtain ⟨a, cp, rfl, hK⟩ := hT
  obtain ⟨ob, nmb, ab, nb, cb, rfl⟩ := hTb.form
  rw [wide, Bool.and_eq_true, Bool.and_eq_true, decide_eq_true_iff, decide_eq_true_iff] at hwd
  obtain ⟨⟨ht1, ht2⟩, htk⟩ := hwd
  have HK := Lib.hid hK
  have HIH := Lib.hid ih
  have HTK := Lib.hid htk
  rw [preP, List.length_cons] at hln
  have hle : ∀ t ∈ kids, (preP t).length ≤ 1000000 := fun t ht => by have := preL_mem ht; omega
  have hkl := kids_le (kids := kids)
  have hnk6 : kids.length ≤ 1000000 := by omega
  have HLE := Lib.hid hle
  have HS := Lib.hid hS
  obtain ⟨R, hR⟩ : ∃ R, repP s tb (.mk op nm kids) = R := ⟨_, rfl⟩
  rw [hR]
  rw [repP] at hR
  have HR := Lib.hid hR
  obtain ⟨nk, hnk⟩ : ∃ nk, kids.length = nk := ⟨_, rfl⟩
  rw [hnk] at hnk6 ⊢
  have HNK := Lib.hid hnk
  obtain ⟨i0, hi0, hi1, hi2, hi3⟩ := info_parts info_expr
  obtain ⟨W1, hW1⟩ : ∃ W1, ((w.alloc (.cells #[.int .u8 (op : Int), .string (txt nm), .slice a nk cp] 25)).alloc (.cells #[.int .u8 (ob : Int), .string (txt nmb), .slice ab nb cb] 25)).alloc (.cells #[.int .u8 0, .string ⟨#[]⟩, .slice none 0 0] 25) = W1 := ⟨_, rfl⟩
  have A1 : Fr nob w W1 := by rw [← hW1]; exact (((Fr.refl nob w).alloc _).alloc _).alloc _
  have hbx : Box3 W1 w.heap.size (.int .u8 (op : Int)) (.string (txt nm)) (.slice a nk cp) := by
    rw [← hW1]; exact (Box3.new w _ _ _ _).kept (((Fr.refl nob _).alloc _).alloc _) (fun h => h)
  have hby : Box3 W1 (w.heap.size + 1) (.int .u8 (ob : Int)) (.string (txt nmb)) (.slice ab nb cb) := by
    have h := (Box3.new (w.alloc (.cells #[.int .u8 (op : Int), .string (txt nm), .slice a nk cp] 25)) (.int .u8 (ob : Int)) (.string (txt nmb)) (.slice ab nb cb) 25).kept ((Fr.refl nob _).alloc (.cells #[.int .u8 0, .string ⟨#[]⟩, .slice none 0 0] 25)) (fun h => h)
    rw [hW1, World.size_alloc] at h; exact h
  have hbz : Box3 W1 (w.heap.size + 2) (.int .u8 0) (.string ⟨#[]⟩) (.slice none 0 0) := by
    have h := Box3.new ((w.alloc (.cells #[.int .u8 (op : Int), .string (txt nm), .slice a nk cp] 25)).alloc (.cells #[.int .u8 (ob : Int), .string (txt nmb), .slice ab nb cb] 25)) (.int .u8 0) (.string ⟨#[]⟩) (.slice none 0 0) 25
    rw [hW1, World.size_alloc, World.size_alloc] at h; exact h
  have hz1 : W1.heap.size = w.heap.size + 3 := by rw [← hW1]; simp
  have HBX := Lib.hid hbx
  have HBY := Lib.hid hby
  have HBZ := Lib.hid hbz
  have HF1 := Lib.hid A1
  have HZ1 := Lib.hid hz1
  have HTB := Lib.hid hTb
  have ⟨b0, b1, b2, _⟩ := hbx
  have ⟨y0, y1, y2, _⟩ := hby
  have ⟨d0, d1, d2, df⟩ := hbz
  have df0 := df 0
  have df1 := df 1
  have df2 := df 2
  clear df hK ih htk hle hS hR hnk A1 hbx hby hbz hz1 hTb hkl hln ht2
  go_enter Try.func61, Try.ntmps61
  go_upto_region 1 with fail
  (try rw [hW1])
  clear hW1
  by_cases hrep : op = 3 ∧ nm = s
  · obtain ⟨rfl, rfl⟩ := hrep
    have e6 : ((txt nm).toList == (txt nm).toList) = true := by simp
    have hv : tb = R := by rw [← HR.out, if_pos ⟨rfl, rfl⟩]
    subst hv
    go_wp2_with fail
    obtain ⟨X, FX⟩ := HBZ.out.set (.int .u8 (ob : Int)) (.string (txt nmb)) (.slice ab nb cb)
    have F7 := HF1.out.trans' (T := nob) FX (fun _ _ h => h) (fun j hj h => by have e : j = w.heap.size + 2 := h; omega)
    have T7 := HTB.out.kept (T := fun b => S b ∨ w.heap.size ≤ b) F7 (fun b h _ => ⟨fun h => h, .inl h⟩)
    have x0 := X.c0
    have x1 := X.c1
    have x2 := X.c2
    clear d0 d1 d2 df0 df1 df2 b0 b1 b2 y0 y1 y2 X FX
    generalize ((W1.setCell ⟨w.heap.size + 2, 0, none⟩ (.int .u8 (ob : Int))).setCell ⟨w.heap.size + 2, 1, none⟩ (.string (txt nmb))).setCell ⟨w.heap.size + 2, 2, none⟩ (.slice ab nb cb) = w7 at *
    exact bodyPost_ret (v := .agg #[.int .u8 (ob : Int), .string (txt nmb), .slice ab nb cb]) (by simp [results, Try.results61, go_sem, x0, x1, x2]) rfl ⟨_, rfl, T7, F7⟩
  · have hRv : R = .mk op nm (kids.map (repP s tb)) := by rw [← HR.out, if_neg hrep, repL_map]
    subst hRv
    have hpq : (((op : Int) == 3) = false) ∨ (((op : Int) == 3) = true ∧ ((txt nm).toList == (txt s).toList) = false) := by
      by_cases h3 : op = 3
      · right
        refine ⟨by simp only [beq_iff_eq]; omega, ?_⟩
        rw [txt_beq]
        simp only [beq_eq_false_iff_ne, ne_eq]
        exact fun h => hrep ⟨h3, h⟩
      · left; simp only [beq_eq_false_iff_ne, ne_eq]; omega
    clear hrep HR d0 d1 d2 df0 df1 df2
    rcases hpq with p0 | ⟨p0, p1⟩
    all_goals (
      go_wp2_with fail
      clear p0 b0 b1 b2 y0 y1 y2
      go_loopg [7, 23] nk (fun m kv iv wr => ∃ (k : Nat) (cells : List Value), k + m = nk ∧ iv = .int .i64 (k : Int) ∧ (∃ la lc, kv = .slice la k lc) ∧ wr.ownsRow (w.heap.size + 3) 25 3 kv k cells ∧ RowL wr (RS S (w.heap.size + 3) kv) ((kids.take k).map (repP s tb)) cells ∧ Box3 wr w.heap.size (.int .u8 (op : Int)) (.string (txt nm)) (.slice a nk cp) ∧ Box3 wr (w.heap.size + 1) (.int .u8 (ob : Int)) (.string (txt nmb)) (.slice ab nb cb) ∧ Box3 wr (w.heap.size + 2) (.int .u8 0) (.string ⟨#[]⟩) (.slice none 0 0) ∧ w.heap.size + 3 ≤ wr.heap.size ∧ Fr nob w wr)
      case atStart => exact ⟨0, [], by omega, rfl, ⟨none, 0, rfl⟩, World.ownsRow_nil _ _ _ _, by rw [List.take_zero]; rfl, HBX.out, HBY.out, HBZ.out, by rw [HZ1.out]; exact Nat.le_refl _, HF1.out⟩
      case round =>
        clear HBX HBY HBZ HF1 HZ1
        obtain ⟨k, cells, hkm, rfl, ⟨la, lc, rfl⟩, hown, hKL, hB, hBy, hBz, hsz, hF⟩ := hrel
        have HO := Lib.hid hown
        have HKL := Lib.hid hKL
        have HB := Lib.hid hB
        have HBy := Lib.hid hBy
        have HBz := Lib.hid hBz
        have HF := Lib.hid hF
        have HSZ := Lib.hid hsz
        have q4 : (0 : Int) ≤ (k : Int) := Int.natCast_nonneg _
        clear hown hKL hB hBy hBz hF hsz
        cases gk with
        | zero =>
          obtain rfl : k = nk := by omega
          have ek : kids.take k = kids := List.take_of_length_le (by rw [HNK.out]; exact Nat.le_refl _)
          rw [ek] at HKL
          have ⟨b0, b1, b2, bf⟩ := HB.out
          have bf2 := bf 2
          have ⟨d0, d1, d2, df⟩ := HBz.out
          have df0 := df 0
          have df1 := df 1
          have df2 := df 2
          clear df bf
          go_upto_region 10 with fail
          have S5 := fr_store wr w.heap.size 2 (.slice la k lc)
          have hB5 : Box3 (wr.setCell ⟨w.heap.size, 2, none⟩ (.slice la k lc)) w.heap.size (.int .u8 (op : Int)) (.string (txt nm)) (.slice la k lc) :=
            ⟨by rw [World.cell?_setCell_other (h := by simp)]; exact b0, by rw [World.cell?_setCell_other (h := by simp)]; exact b1, World.cell?_setCell_same' _ _ _ (by rw [b2]; rfl), fun o => by rw [World.frozen?_setCell]; exact HB.out.fr o⟩
          have hz5 := HBz.out.kept S5 (show ¬ w.heap.size + 2 = w.heap.size by omega)
          have HO5 := Lib.hid (S5.row HO.out (fun g hg (e : g = w.heap.size) => by have := (HO.out.lt g hg).1; omega))
          have HK5 := Lib.hid (HKL.out.kept (T := RS S (w.heap.size + 3) (.slice la k lc)) S5 (fun b h _ => ⟨show ¬ b = w.heap.size by rcases h.1 with h1 | h1; have := HS.out b h1; omega; omega, h⟩))
          have HF5 := Lib.hid (HF.out.trans' (T := nob) S5 (fun _ _ h => h) (fun j hj h => by have e : j = w.heap.size := h; omega))
          clear b0 b1 b2 bf2 d0 d1 d2 df0 df1 df2 S5
          generalize wr.setCell ⟨w.heap.size, 2, none⟩ (.slice la k lc) = w5 at *
          have ⟨b0, b1, b2, _⟩ := hB5
          have ⟨d0, d1, d2, df⟩ := hz5
          have df0 := df 0
          have df1 := df 1
          have df2 := df 2
          have HZ5 := Lib.hid hz5
          clear df hB5 hz5 HO HKL HB HBy HBz HF HSZ
          go_wp2_with fail
          obtain ⟨X, FX⟩ := HZ5.out.set (.int .u8 (op : Int)) (.string (txt nm)) (.slice la k lc)
          have own7 := FX.row HO5.out (fun g hg (e : g = w.heap.size + 2) => by have := (HO5.out.lt g hg).1; omega)
          have K7 := HK5.out.kept (T := fun b => S b ∨ w.heap.size ≤ b) FX (fun b h _ => ⟨show ¬ b = w.heap.size + 2 by rcases h.1 with h1 | h1; have := HS.out b h1; omega; omega, by rcases h.1 with h1 | h1; exact .inl h1; exact .inr (by omega)⟩)
          have F7 := HF5.out.trans' (T := nob) FX (fun _ _ h => h) (fun j hj h => by have e : j = w.heap.size + 2 := h; omega)
          have x0 := X.c0
          have x1 := X.c1
          have x2 := X.c2
          clear d0 d1 d2 df0 df1 df2 b0 b1 b2 X FX
          generalize ((w5.setCell ⟨w.heap.size + 2, 0, none⟩ (.int .u8 (op : Int))).setCell ⟨w.heap.size + 2, 1, none⟩ (.string (txt nm))).setCell ⟨w.heap.size + 2, 2, none⟩ (.slice la k lc) = w7 at *
          refine bodyPost_ret (v := .agg #[.int .u8 (op : Int), .string (txt nm), .slice la k lc]) (by simp [results, Try.results61, go_sem, x0, x1, x2]) rfl ⟨_, rfl, ?_, F7⟩
          exact trO_row (by rw [List.length_map, HNK.out]) own7 K7 (fun b h => .inl (.inr (by omega)))
        | succ m =>
          have q3 : (k : Int) < (nk : Int) := by omega
          have hk : k < kids.length := by rw [HNK.out]; omega
          have hkt : kids[k]? = some kids[k] := List.getElem?_eq_getElem hk
          have hmem : kids[k] ∈ kids := List.getElem_mem hk
          have htake : kids.take (k + 1) = kids.take k ++ [kids[k]] := List.take_succ_eq_append_getElem hk
          generalize kids[k] = t at hkt hmem htake
          obtain ⟨b, bo, rfl, hSb, hKV⟩ := HK.out (by intro e; rw [e] at hk; simp at hk)
          obtain ⟨x, y, z, e0, e1, e2, hT⟩ := hKV.at hkt
          rw [show 0 + k = k by omega] at e0 e1 e2
          replace e0 := HF.out.cell e0 (fun h => h)
          replace e1 := HF.out.cell e1 (fun h => h)
          replace e2 := HF.out.cell e2 (fun h => h)
          obtain ⟨o, nn, ka, kn, kc, hform⟩ := hT.form
          obtain ⟨rfl, rfl, rfl⟩ : x = .int .u8 (o : Int) ∧ y = .string (txt nn) ∧ z = .slice ka kn kc := by simpa using hform
          have A : Fr nob wr (wr.alloc (.cells #[.int .u8 (o : Int), .string (txt nn), .slice ka kn kc] 25)) := (Fr.refl nob wr).alloc _
          have FA := HF.out.trans A (fun _ _ h => h)
          have hT1 := hT.kept (T := S) FA (fun b h _ => ⟨fun h => h, h⟩)
          have hTb1 := HTB.out.kept (T := S) FA (fun b h _ => ⟨fun h => h, h⟩)
          have hszA := FA.size
          have hC := HIH.out t hmem _ _ S (wr.alloc (.cells #[.int .u8 (o : Int), .string (txt nn), .slice ka kn kc] 25)) (wideL_at HTK.out hkt) (HLE.out t hmem) (fun b h => by have := HS.out b h; omega) hT1 hTb1
          have HTA := Lib.hid htake
          have HBk := Lib.hid (Box3.new wr (.int .u8 (o : Int)) (.string (txt nn)) (.slice ka kn kc) 25)
          have HB1 := Lib.hid (HB.out.kept A (fun h => h))
          have HBy1 := Lib.hid (HBy.out.kept A (fun h => h))
          have HBz1 := Lib.hid (HBz.out.kept A (fun h => h))
          have HO1 := Lib.hid (A.row HO.out (fun _ _ h => h))
          have HK1 := Lib.hid (HKL.out.kept (T := fun b => RS S (w.heap.size + 3) (.slice la k lc) b ∧ b < wr.heap.size) A (fun b h h' => ⟨fun h => h, h, h'⟩))
          have HF1 := Lib.hid FA
          have HSZ1 : Hid (w.heap.size + 3 ≤ wr.heap.size ∧ wr.heap.size < (wr.alloc (.cells #[.int .u8 (o : Int), .string (txt nn), .slice ka kn kc] 25)).heap.size) := Lib.hid ⟨HSZ.out, by simp⟩
          clear hk hkt hmem hKV hT hT1 hTb1 hform hSb htake A FA HB HBy HBz HF HO HKL hszA HSZ
          go_upto_region 7 with fail
          clear e0 e1 e2
          generalize wr.alloc (.cells #[.int .u8 (o : Int), .string (txt nn), .slice ka kn kc] 25) = w2 at *
          have ⟨k0, k1, k2, _⟩ := HBk.out
          have ⟨y0, y1, y2, _⟩ := HBy1.out
          go_wp2_with fail
          refine hC.mono ?_
          rintro e w3 ⟨v3, rfl, hT3, F3⟩
          obtain ⟨o3, nm3, a3, n3, c3, hform⟩ := hT3.form
          subst hform
          have A3 : Fr nob w3 (w3.alloc (.cells #[.int .u8 (o3 : Int), .string (txt nm3), .slice a3 n3 c3] 25)) := (Fr.refl nob w3).alloc _
          have G3 := F3.trans A3 (fun _ _ h => h)
          have own4 := G3.row HO1.out (fun _ _ h => h)
          have hc6 : w.heap.size + 3 ≤ (w3.alloc (.cells #[.int .u8 (o3 : Int), .string (txt nm3), .slice a3 n3 c3] 25)).heap.size := by have h1 := HSZ1.out; have h2 := G3.size; omega
          have HT3 := Lib.hid (hT3.kept (T := fun b => (S b ∨ w2.heap.size ≤ b) ∧ b < w3.heap.size) A3 (fun b h h' => ⟨fun h => h, h, h'⟩))
          have HK4 := Lib.hid (HK1.out.kept (T := fun b => RS S (w.heap.size + 3) (.slice la k lc) b ∧ b < wr.heap.size) G3 (fun b h _ => ⟨fun h => h, h⟩))
          have HB4 := Lib.hid (HB1.out.kept G3 (fun h => h))
          have HBy4 := Lib.hid (HBy1.out.kept G3 (fun h => h))
          have HBz4 := Lib.hid (HBz1.out.kept G3 (fun h => h))
          have HF4 := Lib.hid (HF1.out.trans G3 (fun _ _ h => h))
          have HC6 := Lib.hid hc6
          have HZ3 := Lib.hid F3.size
          have holt : ∀ j, (Value.slice la k lc).ownBlock = some j → w.heap.size + 3 ≤ j ∧ j < w2.heap.size := fun j hj => HO1.out.lt j hj
          have HOLT := Lib.hid holt
          clear hC hT3 F3 A3 G3 HK1 HB1 HBy1 HBz1 HF1 HO1 HBk k0 k1 k2 y0 y1 y2 hc6 holt
          go_wp2_with (at_builtin; refine wpList_append_own_at _ rfl _ _ 23 rfl (w.heap.size + 3) 25 i0 (.agg #[.int .u8 0, .string ⟨#[]⟩, .slice none 0 0]) 3 48 Try.underlying23 hi0 hi1 hi2 hi3 rfl (by decide) (.slice la k lc) k cells rfl own4 ⟨w3.heap.size, 0, none⟩ 1 1 [.int .u8 (o3 : Int), .string (txt nm3), .slice a3 n3 c3] rfl ?c1 ?c2 ?c3 ?c4 ?c5 ?c6 ?_)
          case c1 => rfl
          case c2 => exact three_new w3 _ _ _ _
          case c3 => exact three_one _ _ _ _ _
          case c4 => unfold maxLen; omega
          case c5 => omega
          case c6 => exact HC6.out
          intro v6 w6 own6 gr6 _ hat
          obtain ⟨g6, cap6, rfl, _⟩ := row_form (n := k) own6
          have F6 : Fr (fun j => (Value.slice la k lc).ownBlock = some j) (w3.alloc (.cells #[.int .u8 (o3 : Int), .string (txt nm3), .slice a3 n3 c3] 25)) w6 := (Fr.refl _ _).grown gr6 (fun j hj _ => hj)
          have hz3 := HZ3.out
          have hsz1 := HSZ1.out
          have hg6 : ∀ b, b < w3.heap.size → (∀ j, (Value.slice la k lc).ownBlock = some j → j ≠ b) → (Value.slice (some ⟨g6, 0, none⟩) (k + 1) cap6).ownBlock ≠ some b := by
            intro b hb hold e
            rcases hat with h | h
            · rw [h] at e; exact hold b e rfl
            · rw [h] at e
              have e2 := Option.some.inj e
              (try rw [World.size_alloc] at e2)
              omega
          have K6 := HK4.out.kept (T := RS S (w.heap.size + 3) (.slice (some ⟨g6, 0, none⟩) (k + 1) cap6)) F6 (fun b h _ => ⟨h.1.2, h.1.1, hg6 b (by have := h.2; omega) (fun j hj e => h.1.2 (by rw [hj, e]))⟩)
          have hne : ∀ b j, (S b ∨ w2.heap.size ≤ b) → (Value.slice la k lc).ownBlock = some j → j ≠ b := fun b j hb hj e => by
            have h1 := HOLT.out j hj
            rcases hb with h2 | h2
            · have := HS.out b h2; omega
            · omega
          have T6 := HT3.out.kept (T := RS S (w.heap.size + 3) (.slice (some ⟨g6, 0, none⟩) (k + 1) cap6)) F6 (fun b h _ => ⟨fun e => hne b b h.1 e rfl, by rcases h.1 with h1 | h1; exact .inl h1; exact .inr (by omega), hg6 b h.2 (fun j hj => hne b j h.1 hj)⟩)
          have HK6 := Lib.hid (RowL.append (RowL.form1 T6) K6)
          have HB6 := Lib.hid (HB4.out.kept F6 (fun h => by have := (HOLT.out _ h).1; omega))
          have HBy6 := Lib.hid (HBy4.out.kept F6 (fun h => by have := (HOLT.out _ h).1; omega))
          have HBz6 := Lib.hid (HBz4.out.kept F6 (fun h => by have := (HOLT.out _ h).1; omega))
          have HO6 := Lib.hid own6
          have HF6 := Lib.hid (HF4.out.trans' (T := nob) F6 (fun _ _ h => h) (fun j hj h => by have := (HOLT.out j h).1; omega))
          have HZ6 : Hid (w.heap.size + 3 ≤ w6.heap.size) := Lib.hid (Nat.le_trans HC6.out F6.size)
          have e7 : (kids.take (k + 1)).map (repP s tb) = (kids.take k).map (repP s tb) ++ [repP s tb t] := by rw [HTA.out, List.map_append]; rfl
          have HE7 := Lib.hid e7
          clear own4 own6 gr6 hat F6 hz3 hsz1 hg6 K6 hne T6 e7 HK4 HT3 HB4 HBy4 HBz4 HF4
          go_wp2_with fail
          go_roundg m
          case measure => omega
          case rel => exact ⟨k + 1, _, by omega, by go_num, ⟨_, _, rfl⟩, HO6.out, by rw [HE7.out]; exact HK6.out, HB6.out, HBy6.out, HBz6.out, HZ6.out, HF6.out⟩)
theorem rep_any (s : List UInt8) (tb : Tr) : ∀ (d : Nat) (t : Tr), SizeOf.sizeOf t < d → RepC s tb t
  | 0, t, h => absurd h (Nat.not_lt_zero _)
  | d + 1, .mk op nm kids, h => rep_one s tb op nm kids fun t ht => rep_any s tb d t (by have := List.sizeOf_lt_of_mem ht; simp at h; omega)
end Go.Proofs.Ytbjdaibkcchllaa
namespace Go.Proofs.Ytbjdaibkcchllaa
open Go.RowKit

/-! trees whose lists lie apart from one another -/
mutual
/-- the value v is the tree; its lists lie in blocks from lo to hi, each kid's in a stretch of its own -/
def TrS (w : World) : Tr → Nat → Nat → Value → Prop
  | .mk op name kids, lo, hi, v => ∃ a cap, v = .agg #[.int .u8 (op : Int), .string (txt name), .slice a kids.length cap] ∧ (kids ≠ [] → ∃ g, a = some ⟨g, 0, none⟩ ∧ lo ≤ g ∧ g < hi ∧ (∃ cs, w.heap[g]? = some (.cells cs 25 (0, 0))) ∧ KidsS w g kids lo hi 0)
def KidsS (w : World) (g : Nat) : List Tr → Nat → Nat → Nat → Prop
  | [], _, _, _ => True
  | t :: ts, lo, hi, i => ∃ x y z l m, w.cell? ⟨g, i * 3, none⟩ = some x ∧ w.cell? ⟨g, i * 3 + 1, none⟩ = some y ∧ w.cell? ⟨g, i * 3 + 2, none⟩ = some z ∧ lo ≤ l ∧ l ≤ m ∧ m ≤ hi ∧ (g < l ∨ m ≤ g) ∧ TrS w t l m (.agg #[x, y, z]) ∧ KidsS w g ts m hi (i + 1)
end
mutual
theorem TrS.toV {w : World} : ∀ {t : Tr} {lo hi : Nat} {v : Value}, TrS w t lo hi v → TrV w (fun b => lo ≤ b ∧ b < hi) t v
  | .mk op name kids, lo, hi, v, h => by
    rw [TrS] at h
    rw [TrV]
    obtain ⟨a, cap, rfl, hk⟩ := h
    refine ⟨a, cap, rfl, fun hne => ?_⟩
    obtain ⟨g, rfl, h1, h2, ⟨cs, hcs⟩, hK⟩ := hk hne
    exact ⟨g, rfl, ⟨⟨h1, h2⟩, flg_of hcs⟩, KidsS.toV (Nat.le_refl _) hK⟩
theorem KidsS.toV {w : World} {g : Nat} : ∀ {ts : List Tr} {lo0 lo hi i : Nat}, lo0 ≤ lo → KidsS w g ts lo hi i → KidsV w (fun b => lo0 ≤ b ∧ b < hi) ts g i
  | [], _, _, _, _, _, _ => by rw [KidsV]; trivial
  | t :: ts, lo0, lo, hi, i, h0, h => by
    rw [KidsS] at h
    rw [KidsV]
    obtain ⟨x, y, z, l, m, e0, e1, e2, h1, h2, h3, _, hT, hK⟩ := h
    exact ⟨⟨x, y, z, e0, e1, e2, (TrS.toV hT).kept (Fr.refl nob w) (fun b hb _ => ⟨fun h => h, by omega, by omega⟩)⟩, KidsS.toV (by omega) hK⟩
end
mutual
theorem TrS.kept {w w' : World} {S' : Nat → Prop} (f : Fr S' w w') : ∀ {t : Tr} {lo hi lo' hi' : Nat} {v : Value}, (∀ b, S' b → b < lo ∨ hi ≤ b) → lo' ≤ lo → hi ≤ hi' → TrS w t lo hi v → TrS w' t lo' hi' v
  | .mk op name kids, lo, hi, lo', hi', v, hS, h1, h2, h => by
    rw [TrS] at h ⊢
    obtain ⟨a, cap, rfl, hk⟩ := h
    refine ⟨a, cap, rfl, fun hne => ?_⟩
    obtain ⟨g, rfl, h3, h4, ⟨cs, hcs⟩, hK⟩ := hk hne
    exact ⟨g, rfl, by omega, by omega, ⟨cs, (f.block g (Array.getElem?_eq_some_iff.1 hcs).1 (fun h => by have := hS g h; omega)).trans hcs⟩, KidsS.kept f (fun h => by have := hS g h; omega) hS h1 h2 hK⟩
theorem KidsS.kept {w w' : World} {S' : Nat → Prop} (f : Fr S' w w') {g : Nat} (hg : ¬ S' g) : ∀ {ts : List Tr} {lo hi lo' hi' i : Nat}, (∀ b, S' b → b < lo ∨ hi ≤ b) → lo' ≤ lo → hi ≤ hi' → KidsS w g ts lo hi i → KidsS w' g ts lo' hi' i
  | [], _, _, _, _, _, _, _, _, _ => by rw [KidsS]; trivial
  | t :: ts, lo, hi, lo', hi', i, hS, h1, h2, h => by
    rw [KidsS] at h ⊢
    obtain ⟨x, y, z, l, m, e0, e1, e2, h3, h4, h5, h6, hT, hK⟩ := h
    exact ⟨x, y, z, l, m, f.cell' e0 hg, f.cell' e1 hg, f.cell' e2 hg, by omega, h4, by omega, h6, TrS.kept f (fun b hb => by have := hS b hb; omega) (Nat.le_refl _) (Nat.le_refl _) hT, KidsS.kept f hg (fun b hb => by have := hS b hb; omega) (Nat.le_refl _) h2 hK⟩
end
theorem TrS.form {w : World} {t : Tr} {lo hi : Nat} {v : Value} (h : TrS w t lo hi v) : ∃ (o : Nat) (nm : List UInt8) (a : Option Addr) (n c : Nat), v = .agg #[.int .u8 (o : Int), .string (txt nm), .slice a n c] := h.toV.form
/-- finished kids, in the cells of a list kv that grows -/
def RowS (w : World) (kv : Value) : List Tr → Nat → Nat → List Value → Prop
  | [], lo, hi, cs => cs = [] ∧ lo ≤ hi
  | t :: ts, lo, hi, cs => ∃ x y z rest l m, cs = x :: y :: z :: rest ∧ lo ≤ l ∧ l ≤ m ∧ (∀ g, kv.ownBlock = some g → g < l ∨ m ≤ g) ∧ TrS w t l m (.agg #[x, y, z]) ∧ RowS w kv ts m hi rest
theorem RowS.le {w : World} {kv : Value} : ∀ {ts : List Tr} {lo hi : Nat} {cs : List Value}, RowS w kv ts lo hi cs → lo ≤ hi
  | [], _, _, _, h => h.2
  | _ :: _, _, _, _, ⟨_, _, _, _, _, _, _, h1, h2, _, _, h⟩ => by have := RowS.le h; omega
theorem RowS.kept {w w' : World} {S' : Nat → Prop} {kv : Value} (f : Fr S' w w') : ∀ {ts : List Tr} {lo hi hi' : Nat} {cs : List Value}, (∀ b, S' b → b < lo ∨ hi ≤ b ∨ kv.ownBlock = some b) → hi ≤ hi' → RowS w kv ts lo hi cs → RowS w' kv ts lo hi' cs
  | [], _, _, _, _, _, h2, h => ⟨h.1, by have := h.2; omega⟩
  | _ :: _, lo, hi, hi', _, hS, h2, ⟨x, y, z, rest, l, m, hc, h3, h4, h5, hT, hK⟩ =>
    ⟨x, y, z, rest, l, m, hc, h3, h4, h5, hT.kept f (fun b hb => by
      have hle := RowS.le hK
      rcases hS b hb with h | h | h
      · omega
      · omega
      · exact h5 b h) (Nat.le_refl _) (Nat.le_refl _), RowS.kept f (fun b hb => by
      rcases hS b hb with h | h | h
      · left; omega
      · exact .inr (.inl h)
      · exact .inr (.inr h)) h2 hK⟩
theorem RowS.own {w : World} {kv kv' : Value} : ∀ {ts : List Tr} {lo hi : Nat} {cs : List Value}, (∀ g, kv'.ownBlock = some g → kv.ownBlock = some g ∨ hi ≤ g) → RowS w kv ts lo hi cs → RowS w kv' ts lo hi cs
  | [], _, _, _, _, h => h
  | _ :: _, lo, hi, _, hg, ⟨x, y, z, rest, l, m, hc, h3, h4, h5, hT, hK⟩ =>
    ⟨x, y, z, rest, l, m, hc, h3, h4, fun g h => by
      have hle := RowS.le hK
      rcases hg g h with h1 | h1
      · exact h5 g h1
      · right; omega, hT, RowS.own hg hK⟩
theorem RowS.snoc {w : World} {kv : Value} {t : Tr} {x y z : Value} : ∀ {ts : List Tr} {lo hi hi2 : Nat} {cs : List Value}, hi ≤ hi2 → (∀ g, kv.ownBlock = some g → g < hi ∨ hi2 ≤ g) → TrS w t hi hi2 (.agg #[x, y, z]) → RowS w kv ts lo hi cs → RowS w kv (ts ++ [t]) lo hi2 (cs ++ [x, y, z])
  | [], lo, hi, hi2, _, h1, hg, hT, h => by
    obtain ⟨rfl, h2⟩ := h
    exact ⟨x, y, z, [], hi, hi2, rfl, h2, h1, hg, hT, rfl, Nat.le_refl _⟩
  | _ :: _, lo, hi, hi2, _, h1, hg, hT, ⟨x', y', z', rest, l, m, hc, h3, h4, h5, hT', hK⟩ => by
    subst hc
    exact ⟨x', y', z', rest ++ [x, y, z], l, m, rfl, h3, h4, h5, hT', RowS.snoc h1 hg hT hK⟩
theorem RowS.kids {w : World} {g n cap : Nat} : ∀ {ts : List Tr} {lo hi hi' i : Nat} {cs : List Value}, hi ≤ hi' → (∀ (k : Nat) u, cs[k]? = some u → w.cell? ⟨g, i * 3 + k, none⟩ = some u) → RowS w (.slice (some ⟨g, 0, none⟩) n cap) ts lo hi cs → KidsS w g ts lo hi' i
  | [], _, _, _, _, _, _, _, _ => by rw [KidsS]; trivial
  | _ :: _, lo, hi, hi', i, _, h2, hc, ⟨x, y, z, rest, l, m, he, h3, h4, h5, hT, hK⟩ => by
    subst he
    rw [KidsS]
    have hle := RowS.le hK
    refine ⟨x, y, z, l, m, hc 0 x rfl, hc 1 y rfl, hc 2 z rfl, h3, h4, by omega, h5 g rfl, hT, RowS.kids h2 (fun k u hu => ?_) hK⟩
    have := hc (k + 3) u (by simpa using hu)
    rwa [show i * 3 + (k + 3) = (i + 1) * 3 + k by omega] at this
theorem trS_row {w : World} {B op k cap lo hi hi' lo' : Nat} {nm : List UInt8} {la : Option Addr} {ts : List Tr} {cells : List Value} (hk : ts.length = k) (hown : w.ownsRow B 25 3 (.slice la k cap) k cells) (hR : RowS w (.slice la k cap) ts lo hi cells) (hB : lo' ≤ B) (hlo : lo' ≤ lo) (hh : hi ≤ hi') (hsz : w.heap.size ≤ hi') :
    TrS w (.mk op nm ts) lo' hi' (.agg #[.int .u8 (op : Int), .string (txt nm), .slice la k cap]) := by
  rw [TrS]
  refine ⟨la, cap, by rw [hk], fun hne => ?_⟩
  have hk1 : 0 < k := by rw [← hk]; exact List.length_pos_iff.2 hne
  have own2 := hown
  rcases hown.2 with ⟨h1, h2⟩ | ⟨g, cap', cur, h1, h2, h3, h4, h5, h6, h7⟩
  · omega
  · cases h1
    have hlt := (own2.lt g rfl).2
    refine ⟨g, rfl, by omega, by omega, ⟨cur, h3⟩, KidsS.kept (Fr.refl nob w) (fun h => h) (fun b h => h.elim) hlo (Nat.le_refl _) (RowS.kids hh (fun j u hu => ?_) hR)⟩
    rw [show 0 * 3 + j = j by omega]
    exact own_cells own2 j u hu
end Go.Proofs.Ytbjdaibkcchllaa
namespace Go.Proofs.Ytbjdaibkcchllaa
open Go.RowKit

/-! fresh -/
def FrC (t : Tr) : Prop := ∀ (v : Value) (S : Nat → Prop) (w : World), wide t = true → (preP t).length ≤ 1000000 → (∀ b, S b → b < w.heap.size) → TrO w S t v →
  Calls Try.prog 62 #[v] w fun e w' => ∃ v', e = .returned v' ∧ TrS w' t w.heap.size w'.heap.size v' ∧ Fr nob w w'
set_option maxRecDepth 20000 in
set_option maxHeartbeats 4000000 in
theorem fr_one (op : Nat) (nm : List UInt8) (kids : List Tr) (ih : ∀ t ∈ kids, FrC t) : FrC (.mk op nm kids) := by
  intro v S w hwd hln hS hT
  rw [TrO] at hT
  obtain ⟨a, cp, rfl, hK⟩ := hT
  rw [wide, Bool.and_eq_true, Bool.and_eq_true, decide_eq_true_iff, decide_eq_true_iff] at hwd
  obtain ⟨⟨ht1, ht2⟩, htk⟩ := hwd
  have HK := Lib.hid hK
  have HIH := Lib.hid ih
  have HTK := Lib.hid htk
  rw [preP, List.length_cons] at hln
  have hle : ∀ t ∈ kids, (preP t).length ≤ 1000000 := fun t ht => by have := preL_mem ht; omega
  have hkl := kids_le (kids := kids)
  have hnk6 : kids.length ≤ 1000000 := by omega
  have HLE := Lib.hid hle
  have HS := Lib.hid hS
  obtain ⟨nk, hnk⟩ : ∃ nk, kids.length = nk := ⟨_, rfl⟩
  rw [hnk] at hnk6 ⊢
  have HNK := Lib.hid hnk
  obtain ⟨i0, hi0, hi1, hi2, hi3⟩ := info_parts info_expr
  obtain ⟨W1, hW1⟩ : ∃ W1, (w.alloc (.cells #[.int .u8 (op : Int), .string (txt nm), .slice a nk cp] 25)).alloc (.cells #[.int .u8 0, .string ⟨#[]⟩, .slice none 0 0] 25) = W1 := ⟨_, rfl⟩
  have A1 : Fr nob w W1 := by rw [← hW1]; exact ((Fr.refl nob w).alloc _).alloc _
  have hbx : Box3 W1 w.heap.size (.int .u8 (op : Int)) (.string (txt nm)) (.slice a nk cp) := by
    rw [← hW1]; exact (Box3.new w _ _ _ _).kept ((Fr.refl nob _).alloc _) (fun h => h)
  have hbz : Box3 W1 (w.heap.size + 1) (.int .u8 0) (.string ⟨#[]⟩) (.slice none 0 0) := by
    have h := Box3.new (w.alloc (.cells #[.int .u8 (op : Int), .string (txt nm), .slice a nk cp] 25)) (.int .u8 0) (.string ⟨#[]⟩) (.slice none 0 0) 25
    rw [hW1, World.size_alloc] at h; exact h
  have hz1 : W1.heap.size = w.heap.size + 2 := by rw [← hW1]; simp
  have HBX := Lib.hid hbx
  have HBZ := Lib.hid hbz
  have HF1 := Lib.hid A1
  have HZ1 := Lib.hid hz1
  have ⟨b0, b1, b2, _⟩ := hbx
  clear hK ih htk hle hS hnk A1 hbx hbz hz1 hkl hln ht2
  go_enter Try.func62, Try.ntmps62
  go_upto_region 1 with fail
  (try rw [hW1])
  clear hW1
  go_wp2_with fail
  clear b0 b1 b2
  go_loopg [3, 9] nk (fun m kv iv wr => ∃ (k : Nat) (cells : List Value), k + m = nk ∧ iv = .int .i64 (k : Int) ∧ (∃ la lc, kv = .slice la k lc) ∧ wr.ownsRow (w.heap.size + 2) 25 3 kv k cells ∧ RowS wr kv (kids.take k) (w.heap.size + 2) wr.heap.size cells ∧ Box3 wr w.heap.size (.int .u8 (op : Int)) (.string (txt nm)) (.slice a nk cp) ∧ Box3 wr (w.heap.size + 1) (.int .u8 0) (.string ⟨#[]⟩) (.slice none 0 0) ∧ w.heap.size + 2 ≤ wr.heap.size ∧ Fr nob w wr)
  case atStart => exact ⟨0, [], by omega, rfl, ⟨none, 0, rfl⟩, World.ownsRow_nil _ _ _ _, by rw [List.take_zero, HZ1.out]; exact ⟨rfl, Nat.le_refl _⟩, HBX.out, HBZ.out, by rw [HZ1.out]; exact Nat.le_refl _, HF1.out⟩
  case round =>
    clear HBX HBZ HF1 HZ1
    obtain ⟨k, cells, hkm, rfl, ⟨la, lc, rfl⟩, hown, hKL, hB, hBz, hsz, hF⟩ := hrel
    have HO := Lib.hid hown
    have HKL := Lib.hid hKL
    have HB := Lib.hid hB
    have HBz := Lib.hid hBz
    have HF := Lib.hid hF
    have HSZ := Lib.hid hsz
    have q4 : (0 : Int) ≤ (k : Int) := Int.natCast_nonneg _
    clear hown hKL hB hBz hF hsz
    cases gk with
    | zero =>
      obtain rfl : k = nk := by omega
      have ek : kids.take k = kids := List.take_of_length_le (by rw [HNK.out]; exact Nat.le_refl _)
      rw [ek] at HKL
      have ⟨b0, b1, b2, bf⟩ := HB.out
      have bf2 := bf 2
      have ⟨d0, d1, d2, df⟩ := HBz.out
      have df0 := df 0
      have df1 := df 1
      have df2 := df 2
      clear df bf
      go_upto_region 8 with fail
      have S5 := fr_store wr w.heap.size 2 (.slice la k lc)
      have hB5 : Box3 (wr.setCell ⟨w.heap.size, 2, none⟩ (.slice la k lc)) w.heap.size (.int .u8 (op : Int)) (.string (txt nm)) (.slice la k lc) :=
        ⟨by rw [World.cell?_setCell_other (h := by simp)]; exact b0, by rw [World.cell?_setCell_other (h := by simp)]; exact b1, World.cell?_setCell_same' _ _ _ (by rw [b2]; rfl), fun o => by rw [World.frozen?_setCell]; exact HB.out.fr o⟩
      have hz5 := HBz.out.kept S5 (show ¬ w.heap.size + 1 = w.heap.size by omega)
      have HO5 := Lib.hid (S5.row HO.out (fun g hg (e : g = w.heap.size) => by have := (HO.out.lt g hg).1; omega))
      have HK5 := Lib.hid (HKL.out.kept (hi' := wr.heap.size) S5 (fun b (h : b = w.heap.size) => .inl (by omega)) (Nat.le_refl _))
      have HF5 := Lib.hid (HF.out.trans' (T := nob) S5 (fun _ _ h => h) (fun j hj h => by have e : j = w.heap.size := h; omega))
      have HZ5 := Lib.hid S5.size
      clear b0 b1 b2 bf2 d0 d1 d2 df0 df1 df2 S5
      generalize wr.setCell ⟨w.heap.size, 2, none⟩ (.slice la k lc) = w5 at *
      have ⟨b0, b1, b2, _⟩ := hB5
      have ⟨d0, d1, d2, df⟩ := hz5
      have df0 := df 0
      have df1 := df 1
      have df2 := df 2
      have HBz5 := Lib.hid hz5
      clear df hB5 hz5 HO HKL HB HBz HF
      go_wp2_with fail
      obtain ⟨X, FX⟩ := HBz5.out.set (.int .u8 (op : Int)) (.string (txt nm)) (.slice la k lc)
      have own7 := FX.row HO5.out (fun g hg (e : g = w.heap.size + 1) => by have := (HO5.out.lt g hg).1; omega)
      have K7 := HK5.out.kept (hi' := wr.heap.size) FX (fun b (h : b = w.heap.size + 1) => .inl (by omega)) (Nat.le_refl _)
      have F7 := HF5.out.trans' (T := nob) FX (fun _ _ h => h) (fun j hj h => by have e : j = w.heap.size + 1 := h; omega)
      have hz7 := FX.size
      have HZ7 := Lib.hid (Nat.le_trans HZ5.out hz7)
      have x0 := X.c0
      have x1 := X.c1
      have x2 := X.c2
      clear d0 d1 d2 df0 df1 df2 b0 b1 b2 X FX hz7
      generalize ((w5.setCell ⟨w.heap.size + 1, 0, none⟩ (.int .u8 (op : Int))).setCell ⟨w.heap.size + 1, 1, none⟩ (.string (txt nm))).setCell ⟨w.heap.size + 1, 2, none⟩ (.slice la k lc) = w7 at *
      refine bodyPost_ret (v := .agg #[.int .u8 (op : Int), .string (txt nm), .slice la k lc]) (by simp [results, Try.results62, go_sem, x0, x1, x2]) rfl ⟨_, rfl, ?_, F7⟩
      exact trS_row HNK.out own7 K7 (by omega) (by omega) HZ7.out (Nat.le_refl _)
    | succ m =>
      have q3 : (k : Int) < (nk : Int) := by omega
      have hk : k < kids.length := by rw [HNK.out]; omega
      have hkt : kids[k]? = some kids[k] := List.getElem?_eq_getElem hk
      have hmem : kids[k] ∈ kids := List.getElem_mem hk
      have htake : kids.take (k + 1) = kids.take k ++ [kids[k]] := List.take_succ_eq_append_getElem hk
      generalize kids[k] = t at hkt hmem htake
      obtain ⟨b, bo, rfl, hSb, hKV⟩ := HK.out (by intro e; rw [e] at hk; simp at hk)
      obtain ⟨x, y, z, e0, e1, e2, hT⟩ := hKV.at hkt
      rw [show 0 + k = k by omega] at e0 e1 e2
      replace e0 := HF.out.cell e0 (fun h => h)
      replace e1 := HF.out.cell e1 (fun h => h)
      replace e2 := HF.out.cell e2 (fun h => h)
      obtain ⟨o, nn, ka, kn, kc, hform⟩ := hT.form
      obtain ⟨rfl, rfl, rfl⟩ : x = .int .u8 (o : Int) ∧ y = .string (txt nn) ∧ z = .slice ka kn kc := by simpa using hform
      have A : Fr nob wr (wr.alloc (.cells #[.int .u8 (o : Int), .string (txt nn), .slice ka kn kc] 25)) := (Fr.refl nob wr).alloc _
      have FA := HF.out.trans A (fun _ _ h => h)
      have hT1 := hT.kept (T := S) FA (fun b h _ => ⟨fun h => h, h⟩)
      have hszA := FA.size
      have hC := HIH.out t hmem _ S (wr.alloc (.cells #[.int .u8 (o : Int), .string (txt nn), .slice ka kn kc] 25)) (wideL_at HTK.out hkt) (HLE.out t hmem) (fun b h => by have := HS.out b h; omega) hT1
      have HTA := Lib.hid htake
      have HBk := Lib.hid (Box3.new wr (.int .u8 (o : Int)) (.string (txt nn)) (.slice ka kn kc) 25)
      have HB1 := Lib.hid (HB.out.kept A (fun h => h))
      have HBz1 := Lib.hid (HBz.out.kept A (fun h => h))
      have HO1 := Lib.hid (A.row HO.out (fun _ _ h => h))
      have HK1 := Lib.hid (HKL.out.kept (hi' := (wr.alloc (.cells #[.int .u8 (o : Int), .string (txt nn), .slice ka kn kc] 25)).heap.size) A (fun b h => h.elim) A.size)
      have HF1 := Lib.hid FA
      have HSZ1 : Hid (w.heap.size + 2 ≤ (wr.alloc (.cells #[.int .u8 (o : Int), .string (txt nn), .slice ka kn kc] 25)).heap.size) := Lib.hid (Nat.le_trans HSZ.out A.size)
      clear hk hkt hmem hKV hT hT1 hform hSb htake A FA HB HBz HF HO HKL hszA HSZ
      go_upto_region 5 with fail
      clear e0 e1 e2
      generalize wr.alloc (.cells #[.int .u8 (o : Int), .string (txt nn), .slice ka kn kc] 25) = w2 at *
      have ⟨k0, k1, k2, _⟩ := HBk.out
      go_wp2_with fail
      refine hC.mono ?_
      rintro e w3 ⟨v3, rfl, hT3, F3⟩
      obtain ⟨o3, nm3, a3, n3, c3, hform⟩ := hT3.form
      subst hform
      have A3 : Fr nob w3 (w3.alloc (.cells #[.int .u8 (o3 : Int), .string (txt nm3), .slice a3 n3 c3] 25)) := (Fr.refl nob w3).alloc _
      have G3 := F3.trans A3 (fun _ _ h => h)
      have own4 := G3.row HO1.out (fun _ _ h => h)
      have hc6 : w.heap.size + 2 ≤ (w3.alloc (.cells #[.int .u8 (o3 : Int), .string (txt nm3), .slice a3 n3 c3] 25)).heap.size := Nat.le_trans HSZ1.out G3.size
      have holt : ∀ j, (Value.slice la k lc).ownBlock = some j → w.heap.size + 2 ≤ j ∧ j < w2.heap.size := fun j hj => HO1.out.lt j hj
      have HK4 := Lib.hid (((HK1.out.kept (hi' := w2.heap.size) F3 (fun b h => h.elim) (Nat.le_refl _)).snoc F3.size (fun g hg => .inl (holt g hg).2) hT3).kept (hi' := w3.heap.size) A3 (fun b h => h.elim) (Nat.le_refl _))
      have HB4 := Lib.hid (HB1.out.kept G3 (fun h => h))
      have HBz4 := Lib.hid (HBz1.out.kept G3 (fun h => h))
      have HF4 := Lib.hid (HF1.out.trans G3 (fun _ _ h => h))
      have HC6 := Lib.hid hc6
      have HOLT := Lib.hid holt
      clear hC hT3 F3 A3 G3 HK1 HB1 HBz1 HF1 HO1 HBk k0 k1 k2 hc6 holt
      go_wp2_with (at_builtin; refine wpList_append_own_at _ rfl _ _ 23 rfl (w.heap.size + 2) 25 i0 (.agg #[.int .u8 0, .string ⟨#[]⟩, .slice none 0 0]) 3 48 Try.underlying23 hi0 hi1 hi2 hi3 rfl (by decide) (.slice la k lc) k cells rfl own4 ⟨w3.heap.size, 0, none⟩ 1 1 [.int .u8 (o3 : Int), .string (txt nm3), .slice a3 n3 c3] rfl ?c1 ?c2 ?c3 ?c4 ?c5 ?c6 ?_)
      case c1 => rfl
      case c2 => exact three_new w3 _ _ _ _
      case c3 => exact three_one _ _ _ _ _
      case c4 => unfold maxLen; omega
      case c5 => omega
      case c6 => exact HC6.out
      intro v6 w6 own6 gr6 _ hat
      obtain ⟨g6, cap6, rfl, _⟩ := row_form (n := k) own6
      have F6 : Fr (fun j => (Value.slice la k lc).ownBlock = some j) (w3.alloc (.cells #[.int .u8 (o3 : Int), .string (txt nm3), .slice a3 n3 c3] 25)) w6 := (Fr.refl _ _).grown gr6 (fun j hj _ => hj)
      have hz6 : w3.heap.size ≤ w6.heap.size := Nat.le_trans (by simp) F6.size
      have K6 := RowS.kept (hi' := w6.heap.size) (Fr.refl nob w6) (fun b h => h.elim) hz6 (RowS.own (kv' := .slice (some ⟨g6, 0, none⟩) (k + 1) cap6) (fun g hg => by
        rcases hat with h | h
        · exact .inl (by rw [← h]; exact hg)
        · right
          rw [h] at hg
          have e2 := Option.some.inj hg
          (try rw [World.size_alloc] at e2)
          omega) (HK4.out.kept (hi' := w3.heap.size) F6 (fun b h => .inr (.inr h)) (Nat.le_refl _)))
      have HK6 := Lib.hid K6
      have HB6 := Lib.hid (HB4.out.kept F6 (fun h => by have := (HOLT.out _ h).1; omega))
      have HBz6 := Lib.hid (HBz4.out.kept F6 (fun h => by have := (HOLT.out _ h).1; omega))
      have HO6 := Lib.hid own6
      have HF6 := Lib.hid (HF4.out.trans' (T := nob) F6 (fun _ _ h => h) (fun j hj h => by have := (HOLT.out j h).1; omega))
      have HZ6 : Hid (w.heap.size + 2 ≤ w6.heap.size) := Lib.hid (Nat.le_trans HC6.out F6.size)
      clear own4 own6 gr6 hat F6 K6 HK4 HB4 HBz4 HF4 hz6
      go_wp2_with fail
      go_roundg m
      case measure => omega
      case rel => exact ⟨k + 1, _, by omega, by go_num, ⟨_, _, rfl⟩, HO6.out, by rw [HTA.out]; exact HK6.out, HB6.out, HBz6.out, HZ6.out, HF6.out⟩
theorem fresh_any : ∀ (d : Nat) (t : Tr), SizeOf.sizeOf t < d → FrC t
  | 0, t, h => absurd h (Nat.not_lt_zero _)
  | d + 1, .mk op nm kids, h => fr_one op nm kids fun t ht => fresh_any d t (by have := List.sizeOf_lt_of_mem ht; simp at h; omega)
end Go.Proofs.Ytbjdaibkcchllaa
