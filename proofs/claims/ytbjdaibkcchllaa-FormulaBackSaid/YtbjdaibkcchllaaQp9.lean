import Derived.Test.YtbjdaibkcchllaaQp6
import Derived.Deep.CutRange
/- A frame with boxes, tables and a list that grows. -/
namespace Go.Proofs.Ytbjdaibkcchllaa
open Go.RowKit

def RZ (w0 w : World) (bs : List Bx) (kv : Value) (b : Nat) : Prop := Zn w0 w bs b ∧ kv.ownBlock ≠ some b
/-- the frame of row: its boxes; the tables in gt and gt + 1; the list kv of the trees ts -/
structure RowSt (w0 w : World) (S : Nat → Prop) (L : List (Nat × List UInt8)) (v : Value) (bs : List Bx) (gt k : Nat) (kv : Value) (cells : List Value) (ts : List Tr) (us : List (Tr × Value)) : Prop where
  st : St w0 w S L v bs []
  op : w.cell? ⟨gt, k, none⟩ = some (.int .u8 (opR k : Int))
  sg : w.cell? ⟨gt + 1, k, none⟩ = some (.string (txt (sgR k)))
  gt0 : w0.heap.size ≤ gt
  off : ∀ (j : Nat) y, bs[j]? = some y → y.1 ≠ gt ∧ y.1 ≠ gt + 1 ∧ kv.ownBlock ≠ some y.1
  goff : kv.ownBlock ≠ some gt ∧ kv.ownBlock ≠ some (gt + 1)
  own : w.ownsRow w0.heap.size 25 3 kv ts.length cells
  rows : RowL w (RZ w0 w bs kv) ts cells
  tree : ∀ (j : Nat) x, us[j]? = some x → TrO w (RZ w0 w bs kv) x.1 x.2
theorem RowSt.call {w0 w w' : World} {S : Nat → Prop} {L : List (Nat × List UInt8)} {v kv : Value} {bs : List Bx} {gt k : Nat} {cells : List Value} {ts : List Tr} {us : List (Tr × Value)} (H : RowSt w0 w S L v bs gt k kv cells ts us) (F : Fr nob w w') : RowSt w0 w' S L v bs gt k kv cells ts us :=
  have z : ∀ b, RZ w0 w bs kv b → b < w.heap.size → ¬ nob b ∧ RZ w0 w' bs kv b := fun _ hb _ => ⟨fun h => h, ⟨hb.1.1, Nat.lt_of_lt_of_le hb.1.2.1 F.size, hb.1.2.2⟩, hb.2⟩
  ⟨H.st.call F, F.cell H.op (fun h => h), F.cell H.sg (fun h => h), H.gt0, H.off, H.goff, F.row H.own (fun _ _ h => h), H.rows.kept F z, fun j x h => (H.tree j x h).kept F z⟩
theorem RowSt.alloc {w0 w : World} {S : Nat → Prop} {L : List (Nat × List UInt8)} {v kv : Value} {bs : List Bx} {gt k : Nat} {cells : List Value} {ts : List Tr} {us : List (Tr × Value)} (H : RowSt w0 w S L v bs gt k kv cells ts us) (x y z : Value) (T : TypeId) :
    RowSt w0 (w.alloc (.cells #[x, y, z] T)) S L v ((w.heap.size, x, y, z) :: bs) gt k kv cells ts us := by
  have F : Fr nob w (w.alloc (.cells #[x, y, z] T)) := (Fr.refl nob w).alloc _
  have H' := H.call F
  have z : ∀ b, RZ w0 w bs kv b → b < w.heap.size → ¬ nob b ∧ RZ w0 (w.alloc (.cells #[x, y, z] T)) ((w.heap.size, x, y, z) :: bs) kv b := fun b hb hlt => ⟨fun h => h, ⟨hb.1.1, Nat.lt_of_lt_of_le hb.1.2.1 F.size, fun j u hu => by
    cases j with
    | zero =>
      obtain rfl := Option.some.inj hu
      exact fun e => by have e2 : w.heap.size = b := e; omega
    | succ j => exact hb.1.2.2 j u (by simpa using hu)⟩, hb.2⟩
  refine ⟨H.st.alloc x y _ T, H'.op, H'.sg, H.gt0, fun j u hu => ?_, H.goff, H'.own, H.rows.kept F z, fun j u hu => (H.tree j u hu).kept F z⟩
  cases j with
  | zero =>
    obtain rfl := Option.some.inj hu
    have h1 : gt < w.heap.size := lt_of_cell H.op
    have h2 : gt + 1 < w.heap.size := lt_of_cell H.sg
    exact ⟨fun e => by have e2 : w.heap.size = gt := e; omega, fun e => by have e2 : w.heap.size = gt + 1 := e; omega, fun e => Nat.lt_irrefl _ (H.own.lt _ e).2⟩
  | succ j => exact H.off j u (by simpa using hu)
theorem RowSt.upd {w0 w w' : World} {S : Nat → Prop} {L : List (Nat × List UInt8)} {v kv : Value} {bs : List Bx} {gt k : Nat} {cells : List Value} {ts : List Tr} {us : List (Tr × Value)} (H : RowSt w0 w S L v bs gt k kv cells ts us) (i : Nat) {g : Nat} {x y z x' y' z' : Value} (hi : bs[i]? = some (g, x, y, z)) (X : Box3 w' g x' y' z') (F : Fr (fun k => k = g) w w') :
    RowSt w0 w' S L v (bs.set i (g, x', y', z')) gt k kv cells ts us := by
  have ho := H.off i _ hi
  have hil : i < bs.length := (List.getElem?_eq_some_iff.1 hi).1
  have hfst : ∀ (j : Nat) u, (bs.set i (g, x', y', z'))[j]? = some u → ∃ u', bs[j]? = some u' ∧ u'.1 = u.1 := by
    intro j u h
    rw [List.getElem?_set] at h
    by_cases e : i = j
    · subst e
      rw [if_pos rfl, if_pos hil] at h
      obtain rfl := Option.some.inj h
      exact ⟨_, hi, rfl⟩
    · rw [if_neg e] at h
      exact ⟨u, h, rfl⟩
  have zz : ∀ b, RZ w0 w bs kv b → b < w.heap.size → ¬ (b = g) ∧ RZ w0 w' (bs.set i (g, x', y', z')) kv b := fun b hb _ => ⟨fun e => hb.1.2.2 i _ hi (Eq.symm e), ⟨hb.1.1, Nat.lt_of_lt_of_le hb.1.2.1 F.size, fun j u hu => by
    obtain ⟨u', h1, h2⟩ := hfst j u hu
    rw [← h2]; exact hb.1.2.2 j u' h1⟩, hb.2⟩
  refine ⟨H.st.upd i hi X F, F.cell H.op (fun e => ho.1 (Eq.symm e)), F.cell H.sg (fun e => ho.2.1 (Eq.symm e)), H.gt0, fun j u hu => ?_, H.goff, F.row H.own (fun q hq (e : q = g) => ho.2.2 (by rw [hq, e])), H.rows.kept F zz, fun j u hu => (H.tree j u hu).kept F zz⟩
  obtain ⟨u', h1, h2⟩ := hfst j u hu
  rw [← h2]; exact H.off j u' h1
theorem RowSt.set {w0 w : World} {S : Nat → Prop} {L : List (Nat × List UInt8)} {v kv : Value} {bs : List Bx} {gt k : Nat} {cells : List Value} {ts : List Tr} {us : List (Tr × Value)} (H : RowSt w0 w S L v bs gt k kv cells ts us) (i : Nat) {g : Nat} {x y z : Value} (hi : bs[i]? = some (g, x, y, z)) (x' y' z' : Value) :
    RowSt w0 (((w.setCell ⟨g, 0, none⟩ x').setCell ⟨g, 1, none⟩ y').setCell ⟨g, 2, none⟩ z') S L v (bs.set i (g, x', y', z')) gt k kv cells ts us := by
  obtain ⟨hg, hb⟩ := H.st.box i _ hi
  obtain ⟨X, F⟩ := hb.set x' y' z'
  exact H.upd i hi X F
theorem RowSt.drew {w0 w : World} {S : Nat → Prop} {L : List (Nat × List UInt8)} {v kv : Value} {bs : List Bx} {gt k : Nat} {cells : List Value} {ts : List Tr} {us : List (Tr × Value)} (H : RowSt w0 w S L v bs gt k kv cells ts us) : RowSt w0 w.drew S L v bs gt k kv cells ts us := H.call (Fr.refl nob w).drew
theorem RowSt.at {w0 w : World} {S : Nat → Prop} {L : List (Nat × List UInt8)} {v kv : Value} {bs : List Bx} {gt k : Nat} {cells : List Value} {ts : List Tr} {us : List (Tr × Value)} (H : RowSt w0 w S L v bs gt k kv cells ts us) (j : Nat) {g : Nat} {x y z : Value} (h : bs[j]? = some (g, x, y, z)) : Box3 w g x y z := (H.st.box j _ h).2
theorem RowSt.ret {w0 w w' : World} {S : Nat → Prop} {L : List (Nat × List UInt8)} {v kv : Value} {bs : List Bx} {gt k : Nat} {cells : List Value} {ts : List Tr} {us : List (Tr × Value)} (H : RowSt w0 w S L v bs gt k kv cells ts us) (F : Fr nob w w') {t : Tr} {u : Value} (hT : TrO w' (fun b => w.heap.size ≤ b ∧ b < w'.heap.size) t u) : RowSt w0 w' S L v bs gt k kv cells ts ((t, u) :: us) :=
  have H' := H.call F
  have hT2 := hT.kept (T := RZ w0 w' bs kv) (Fr.refl nob w') (fun b hb _ => ⟨fun h => h, ⟨Nat.le_trans H.st.fr.size hb.1, hb.2, fun j y hy e => by have := (H.st.box j y hy).2.lt; have := hb.1; omega⟩, fun e => by have := (H.own.lt _ e).2; have := hb.1; omega⟩)
  ⟨H'.st, H'.op, H'.sg, H'.gt0, H'.off, H'.goff, H'.own, H'.rows, fun j x h => by
    cases j with
    | zero => obtain rfl := Option.some.inj h; exact hT2
    | succ j => exact H'.tree j x (by simpa using h)⟩
/-- the first box is forgotten, and the trees that do not stand in the list -/
theorem RowSt.drop {w0 w : World} {S : Nat → Prop} {L : List (Nat × List UInt8)} {v kv : Value} {u : Bx} {bs : List Bx} {gt k : Nat} {cells : List Value} {ts : List Tr} {us : List (Tr × Value)} (H : RowSt w0 w S L v (u :: bs) gt k kv cells ts us) : RowSt w0 w S L v bs gt k kv cells ts [] := by
  have hz : ∀ b, RZ w0 w (u :: bs) kv b → b < w.heap.size → ¬ nob b ∧ RZ w0 w bs kv b := fun b hb _ => ⟨fun h => h, ⟨hb.1.1, hb.1.2.1, fun j y hy => hb.1.2.2 (j + 1) y (by simpa using hy)⟩, hb.2⟩
  refine ⟨⟨H.st.fr, fun j x h => H.st.box (j + 1) x (by simpa using h), fun i j x y hij h h' => H.st.apart (i + 1) (j + 1) x y (by omega) (by simpa using h) (by simpa using h'), fun j x h => by simp at h, H.st.tok, H.st.low⟩, H.op, H.sg, H.gt0, fun j y hy => H.off (j + 1) y (by simpa using hy), H.goff, H.own, H.rows.kept (Fr.refl nob w) hz, fun j x h => by simp at h⟩
theorem RowSt.append {w0 w w' : World} {S : Nat → Prop} {L : List (Nat × List UInt8)} {v kv kv' : Value} {bs : List Bx} {gt k : Nat} {cells : List Value} {ts : List Tr} {t : Tr} {o : Nat} {nm : List UInt8} {a : Option Addr} {n c : Nat} {us : List (Tr × Value)}
    (H : RowSt w0 w S L v bs gt k kv cells ts ((t, .agg #[.int .u8 (o : Int), .string (txt nm), .slice a n c]) :: us))
    (own : w'.ownsRow w0.heap.size 25 3 kv' (ts.length + 1) (cells ++ [.int .u8 (o : Int), .string (txt nm), .slice a n c])) (gr : w.grownBy w' kv.ownBlock) (hat : kv'.ownBlock = kv.ownBlock ∨ kv'.ownBlock = some w.heap.size) :
    RowSt w0 w' S L v bs gt k kv' (cells ++ [.int .u8 (o : Int), .string (txt nm), .slice a n c]) (ts ++ [t]) [] := by
  have F : Fr (fun j => kv.ownBlock = some j) w w' := (Fr.refl _ _).grown gr (fun j hj _ => hj)
  have h1 : gt < w.heap.size := lt_of_cell H.op
  have h2 : gt + 1 < w.heap.size := lt_of_cell H.sg
  have hne : ∀ b, b < w.heap.size → kv.ownBlock ≠ some b → kv'.ownBlock ≠ some b := fun b hb h => by
    rcases hat with e | e
    · rw [e]; exact h
    · rw [e]; intro e2; have := Option.some.inj e2; omega
  have hz : ∀ b, RZ w0 w bs kv b → b < w.heap.size → ¬ (kv.ownBlock = some b) ∧ RZ w0 w' bs kv' b := fun b hb hlt => ⟨hb.2, ⟨hb.1.1, Nat.lt_of_lt_of_le hb.1.2.1 F.size, hb.1.2.2⟩, hne b hlt hb.2⟩
  refine ⟨⟨H.st.fr.trans' (T := nob) F (fun _ _ h => h) (fun j hj h => by have := (H.own.lt j h).1; omega), fun j x hx => ⟨(H.st.box j x hx).1, (H.st.box j x hx).2.kept F (H.off j x hx).2.2⟩, H.st.apart, fun j x h => by simp at h, H.st.tok.kept F (fun b hb _ => ⟨fun h => by have := (H.own.lt b h).1; have := H.st.low b hb; omega, hb⟩), H.st.low⟩,
    F.cell H.op H.goff.1, F.cell H.sg H.goff.2, H.gt0, fun j y hy => ⟨(H.off j y hy).1, (H.off j y hy).2.1, hne _ (H.st.box j y hy).2.lt (H.off j y hy).2.2⟩, ⟨hne _ h1 H.goff.1, hne _ h2 H.goff.2⟩, by rw [List.length_append, List.length_singleton]; exact own, ?_, fun j x h => by simp at h⟩
  exact RowL.append (RowL.form1 ((H.tree 0 _ rfl).kept F hz)) (H.rows.kept F hz)
theorem RowSt.start {w0 w : World} {S : Nat → Prop} {L : List (Nat × List UInt8)} {v : Value} {bs : List Bx} {gt k : Nat} {t : Tr} {o : Nat} {nm : List UInt8} {a : Option Addr} {n c : Nat} {ts : List (Tr × Value)} (H : St w0 w S L v bs ((t, .agg #[.int .u8 (o : Int), .string (txt nm), .slice a n c]) :: ts))
    (op : w.cell? ⟨gt, k, none⟩ = some (.int .u8 (opR k : Int))) (sg : w.cell? ⟨gt + 1, k, none⟩ = some (.string (txt (sgR k)))) (gt0 : w0.heap.size ≤ gt) (off : ∀ (j : Nat) y, bs[j]? = some y → y.1 ≠ gt ∧ y.1 ≠ gt + 1) :
    RowSt w0 (w.alloc (.cells #[.int .u8 (o : Int), .string (txt nm), .slice a n c] 25)) S L v bs gt k (.slice (some ⟨w.heap.size, 0, none⟩) 1 1) [.int .u8 (o : Int), .string (txt nm), .slice a n c] [t] [] := by
  have F : Fr nob w (w.alloc (.cells #[.int .u8 (o : Int), .string (txt nm), .slice a n c] 25)) := (Fr.refl nob w).alloc _
  have H' := H.call F
  have h1 : gt < w.heap.size := lt_of_cell op
  have h2 : gt + 1 < w.heap.size := lt_of_cell sg
  have hne : ∀ b, b < w.heap.size → (Value.slice (some ⟨w.heap.size, 0, none⟩) 1 1).ownBlock ≠ some b := fun b hb e => by
    have e2 : w.heap.size = b := Option.some.inj e
    omega
  refine ⟨⟨H'.fr, H'.box, H'.apart, fun j x h => by simp at h, H'.tok, H'.low⟩, F.cell op (fun h => h), F.cell sg (fun h => h), gt0, fun j y hy => ⟨(off j y hy).1, (off j y hy).2, hne _ (H.box j y hy).2.lt⟩, ⟨hne _ h1, hne _ h2⟩, World.ownsRow_lit (base := w0.heap.size) (e := 25) (size := 3) w #[.int .u8 (o : Int), .string (txt nm), .slice a n c] 1 H.fr.size (by unfold maxLen; omega) rfl, ?_, fun j x h => by simp at h⟩
  exact RowL.form1 ((H.tree 0 _ rfl).kept F (fun b hb hlt => ⟨fun h => h, ⟨hb.1, Nat.lt_of_lt_of_le hb.2.1 F.size, hb.2.2⟩, hne b hlt⟩))
end Go.Proofs.Ytbjdaibkcchllaa
/- The reference's reader: row. -/
namespace Go.Proofs.Ytbjdaibkcchllaa
open Go.RowKit

theorem row_bd {L : List (Nat × List UInt8)} {n k i : Nat} {b : Bool} {x : Tr × Nat × Bool} (h : rowR L n k i b = some x) (h1 : 1 ≤ k) (h4 : k ≤ 4) (hn : 10 * (L.length - i) + 1 + k ≤ n) (hi : i ≤ L.length) : i ≤ x.2.1 ∧ x.2.1 ≤ L.length := by
  obtain ⟨y, hy, h1, h2⟩ := (enough L n).2.1 k i b h1 h4 hn
  rw [h] at hy
  obtain rfl := Option.some.inj hy
  exact ⟨h1, by omega⟩
set_option maxRecDepth 20000 in
set_option maxHeartbeats 8000000 in
theorem rd_row (L : List (Nat × List UInt8)) (hLL : L.length ≤ 1000000) (n : Nat) (hn6 : n ≤ 100000000) (ihL : LeastR L n) (ihR : ∀ m, m ≤ n → RowC4 L m) : RowC4 L (n + 1) := by
  intro k i b v S w x hk1 hk4 hx hn hi hS hT
  rw [rowR] at hx
  have hT0 := hT
  obtain ⟨a, cp, rfl, _⟩ := hT0
  obtain ⟨nl, hnl⟩ : ∃ nl, L.length = nl := ⟨_, rfl⟩
  rw [hnl] at hT ⊢
  obtain ⟨W1, hW1⟩ : ∃ W1, ((w.alloc (.cells #[.slice a nl cp, .int .i64 (i : Int), .bool b] 76)).alloc (.cells #[.int .u8 0, .string ⟨#[]⟩, .slice none 0 0] 25)).alloc (.cells #[.slice none 0 0, .int .i64 0, .bool false] 76) = W1 := ⟨_, rfl⟩
  have H1 := (((St.start hT hS).alloc (.slice a nl cp) (.int .i64 (i : Int)) (.bool b) 76).alloc (.int .u8 0) (.string ⟨#[]⟩) (.slice none 0 0) 25).alloc (.slice none 0 0) (.int .i64 0) (.bool false) 76
  rw [hW1, World.size_alloc, World.size_alloc] at H1
  have hz1 : W1.heap.size = w.heap.size + 1 + 1 + 1 := by rw [← hW1]; simp
  by_cases hk : k = 1
  · subst hk
    rw [if_pos rfl] at hx
    have hI := ihL i b _ S W1 x hx (by omega) hi H1.lt H1.tok
    unfold RdPost rdV at hI
    have HH1 := Lib.hid H1
    have ⟨b0, b1, b2, _⟩ := H1.at 2 rfl
    clear hx hi hn ihL ihR hS hLL hT H1 hnl hk1 hk4 hz1
    unfold rdV
    go_enter Try.func100, Try.ntmps100
    go_upto_region 1 with fail
    (try rw [hW1])
    clear hW1
    go_wp2_with fail
    refine hI.mono ?_
    rintro e w2 ⟨v2, rfl, hT2, F2⟩
    obtain ⟨o2, nm2, a2, n2, c2, rfl⟩ := hT2.form
    obtain ⟨t1, j1, f1⟩ := x
    dsimp only at hT2
    have H2 := HH1.out.ret F2 hT2
    clear HH1 hI F2 hT2 b0 b1 b2
    have ⟨y0, y1, y2, yf⟩ := (H2).at 1 rfl
    have yf0 := yf 0
    have yf1 := yf 1
    have yf2 := yf 2
    clear yf
    have ⟨z0, z1, z2, zf⟩ := (H2).at 0 rfl
    have zf0 := zf 0
    have zf1 := zf 1
    have zf2 := zf 2
    clear zf
    have HW := (H2.set 1 rfl (.int .u8 (o2 : Int)) (.string (txt nm2)) (.slice a2 n2 c2)).set 0 rfl (.slice a nl cp) (.int .i64 (j1 : Int)) (.bool f1)
    have HHW := Lib.hid HW
    clear H2 HW
    go_wp2_with fail
    have HW := HHW.out
    clear HHW y0 y1 y2 yf0 yf1 yf2 z0 z1 z2 zf0 zf1 zf2
    generalize ((((((w2.setCell ⟨w.heap.size + 1, 0, none⟩ (.int .u8 (o2 : Int))).setCell ⟨w.heap.size + 1, 1, none⟩ (.string (txt nm2))).setCell ⟨w.heap.size + 1, 2, none⟩ (.slice a2 n2 c2)).setCell ⟨w.heap.size + 1 + 1, 0, none⟩ (.slice a nl cp)).setCell ⟨w.heap.size + 1 + 1, 1, none⟩ (.int .i64 (j1 : Int))).setCell ⟨w.heap.size + 1 + 1, 2, none⟩ (.bool f1)) = w9 at *
    have ⟨rx0, rx1, rx2, rxf⟩ := (HW).at 1 rfl
    clear rxf
    have ⟨ry0, ry1, ry2, ryf⟩ := (HW).at 0 rfl
    clear ryf
    have hdone := HW.done 0 rfl
    have hfr := HW.fr
    clear HW
    exact bodyPost_ret (v := .tuple #[.agg #[.int .u8 (o2 : Int), .string (txt nm2), .slice a2 n2 c2], .agg #[.slice a nl cp, .int .i64 (j1 : Int), .bool f1]]) (by simp [results, Try.results100, go_sem, rx0, rx1, rx2, ry0, ry1, ry2]) rfl ⟨_, rfl, hdone, hfr⟩
  rw [if_neg hk] at hx
  obtain ⟨x1, hx1, hx2⟩ := Option.bind_eq_some_iff.1 hx
  clear hx
  have hb1 := row_bd hx1 (by omega) (by omega) (by omega) hi
  have qk : ((k : Int) == 1) = false := by simp; omega
  have hkk : ((k - 1 : Nat) : Int) = (k : Int) - 1 := by omega
  have HH1 := Lib.hid H1
  have HB1 := Lib.hid hb1
  have HX1 := Lib.hid hx1
  have HX2 := Lib.hid hx2
  have HI := Lib.hid hi
  have HNN := Lib.hid hn
  have HIR := Lib.hid ihR
  have HLL := Lib.hid hLL
  have HKK := Lib.hid hkk
  have HZ1 := Lib.hid hz1
  have HN6 := Lib.hid hn6
  clear hx1 hx2 hb1 hi hn ihL ihR hS hLL hT H1 hnl hkk hz1 hn6
  unfold rdV
  go_enter Try.func100, Try.ntmps100
  go_upto_region 1 with fail
  (try rw [hW1])
  clear hW1
  go_upto_region 5 with fail
  have hk3 : k = 2 ∨ k = 3 ∨ k = 4 := by omega
  have hop : ((W1.alloc (.cells #[.int .u8 0, .int .u8 0, .int .u8 5, .int .u8 7, .int .u8 6] 5)).alloc (.cells #[.string ⟨#[]⟩, .string ⟨#[]⟩, .string ⟨#[38]⟩, .string ⟨#[94]⟩, .string ⟨#[124]⟩] 9)).cell? ⟨W1.heap.size, k, none⟩ = some (.int .u8 (opR k : Int)) := by
    have h0 : (W1.alloc (.cells #[.int .u8 0, .int .u8 0, .int .u8 5, .int .u8 7, .int .u8 6] 5)).cell? ⟨W1.heap.size, k, none⟩ = some (.int .u8 (opR k : Int)) := (World.cell?_alloc_at _ _ _ _ rfl).trans (by rcases hk3 with rfl | rfl | rfl <;> rfl)
    exact ((Fr.refl nob _).alloc _).cell h0 (fun h => h)
  have hsg : ((W1.alloc (.cells #[.int .u8 0, .int .u8 0, .int .u8 5, .int .u8 7, .int .u8 6] 5)).alloc (.cells #[.string ⟨#[]⟩, .string ⟨#[]⟩, .string ⟨#[38]⟩, .string ⟨#[94]⟩, .string ⟨#[124]⟩] 9)).cell? ⟨W1.heap.size + 1, k, none⟩ = some (.string (txt (sgR k))) := by
    have h0 := World.cell?_alloc_at (w := W1.alloc (.cells #[.int .u8 0, .int .u8 0, .int .u8 5, .int .u8 7, .int .u8 6] 5)) #[.string ⟨#[]⟩, .string ⟨#[]⟩, .string ⟨#[38]⟩, .string ⟨#[94]⟩, .string ⟨#[124]⟩] 9 (W1.heap.size + 1) k (by simp)
    exact h0.trans (by rcases hk3 with rfl | rfl | rfl <;> rfl)
  have FA : Fr nob W1 ((W1.alloc (.cells #[.int .u8 0, .int .u8 0, .int .u8 5, .int .u8 7, .int .u8 6] 5)).alloc (.cells #[.string ⟨#[]⟩, .string ⟨#[]⟩, .string ⟨#[38]⟩, .string ⟨#[94]⟩, .string ⟨#[124]⟩] 9)) := ((Fr.refl nob W1).alloc _).alloc _
  have H5 := HH1.out.call FA
  generalize (W1.alloc (.cells #[.int .u8 0, .int .u8 0, .int .u8 5, .int .u8 7, .int .u8 6] 5)).alloc (.cells #[.string ⟨#[]⟩, .string ⟨#[]⟩, .string ⟨#[38]⟩, .string ⟨#[94]⟩, .string ⟨#[124]⟩] 9) = W5 at *
  rw [HZ1.out] at hop hsg ⊢
  have HK3 := Lib.hid hk3
  have HOP := Lib.hid hop
  have HSG := Lib.hid hsg
  have hR := HIR.out n (Nat.le_refl _) (k - 1) i b _ S W5 x1 (by omega) (by omega) HX1.out (by have h1 := HNN.out; omega) HI.out H5.lt H5.tok
  unfold RdPost rdV at hR
  rw [HKK.out] at hR
  have ⟨b0, b1, b2, _⟩ := H5.at 2 rfl
  have HH5 := Lib.hid H5
  have q9 : (2 : Int) ≤ (k : Int) := by omega
  have q8 : (k : Int) ≤ 4 := by omega
  clear hk3 hop hsg FA H5 HH1
  go_wp2_with fail
  refine hR.mono ?_
  rintro e w6 ⟨v6, rfl, hT6, F6⟩
  obtain ⟨o6, nm6, a6, n6, c6, rfl⟩ := hT6.form
  obtain ⟨t1, j1, f1⟩ := x1
  dsimp only at hT6
  have HOP6 := Lib.hid (F6.cell HOP.out (fun h => h))
  have HSG6 := Lib.hid (F6.cell HSG.out (fun h => h))
  have HG6 : Hid (w.heap.size + 1 + 1 + 1 + 1 < w6.heap.size) := Lib.hid (lt_of_cell HSG6.out)
  have HA := (HH5.out.ret F6 hT6).alloc (.int .u8 (o6 : Int)) (.string (txt nm6)) (.slice a6 n6 c6) 25
  have ⟨sx0, sx1, sx2, sxf⟩ := (HA).at 3 rfl
  have sxf0 := sxf 0
  have sxf1 := sxf 1
  have sxf2 := sxf 2
  clear sxf
  have HHS := Lib.hid (HA.set 3 rfl (.slice a nl cp) (.int .i64 (j1 : Int)) (.bool f1))
  have FB : Fr (fun k => k = w.heap.size) w6 (((((w6.alloc (.cells #[.int .u8 (o6 : Int), .string (txt nm6), .slice a6 n6 c6] 25)).setCell ⟨w.heap.size, 0, none⟩ (.slice a nl cp)).setCell ⟨w.heap.size, 1, none⟩ (.int .i64 (j1 : Int))).setCell ⟨w.heap.size, 2, none⟩ (.bool f1))) := ((Fr.refl _ w6).alloc _).trans ((HA.at 3 rfl).set (.slice a nl cp) (.int .i64 (j1 : Int)) (.bool f1)).2 (fun _ _ h => h)
  have HOP7 := Lib.hid (FB.cell HOP6.out (show ¬ w.heap.size + 1 + 1 + 1 = w.heap.size by omega))
  have HSG7 := Lib.hid (FB.cell HSG6.out (show ¬ w.heap.size + 1 + 1 + 1 + 1 = w.heap.size by omega))
  clear FB HOP6 HSG6 HOP HSG
  clear HA HH5 hR b0 b1 b2 hT6 F6
  go_upto_region 6 with fail
  generalize ((((w6.alloc (.cells #[.int .u8 (o6 : Int), .string (txt nm6), .slice a6 n6 c6] 25)).setCell ⟨w.heap.size, 0, none⟩ (.slice a nl cp)).setCell ⟨w.heap.size, 1, none⟩ (.int .i64 (j1 : Int))).setCell ⟨w.heap.size, 2, none⟩ (.bool f1)) = w7 at *
  clear sx0 sx1 sx2 sxf0 sxf1 sxf2
  have HH8 := Lib.hid (RowSt.start HHS.out HOP7.out HSG7.out (by omega) (fun j y hy => by
    match j, hy with
    | 0, hy => obtain rfl := Option.some.inj hy; have h1 := HG6.out; exact ⟨by show ¬ w6.heap.size = w.heap.size + 1 + 1 + 1; omega, by show ¬ w6.heap.size = w.heap.size + 1 + 1 + 1 + 1; omega⟩
    | 1, hy => obtain rfl := Option.some.inj hy; exact ⟨by show ¬ w.heap.size + 1 + 1 = w.heap.size + 1 + 1 + 1; omega, by show ¬ w.heap.size + 1 + 1 = w.heap.size + 1 + 1 + 1 + 1; omega⟩
    | 2, hy => obtain rfl := Option.some.inj hy; exact ⟨by show ¬ w.heap.size + 1 = w.heap.size + 1 + 1 + 1; omega, by show ¬ w.heap.size + 1 = w.heap.size + 1 + 1 + 1 + 1; omega⟩
    | 3, hy => obtain rfl := Option.some.inj hy; exact ⟨by show ¬ w.heap.size = w.heap.size + 1 + 1 + 1; omega, by show ¬ w.heap.size = w.heap.size + 1 + 1 + 1 + 1; omega⟩
    | j + 4, hy => simp at hy))
  have ⟨b0, b1, b2, _⟩ := HHS.out.at 0 rfl
  clear HHS HOP7 HSG7
  go_wp2_with fail
  generalize w7.alloc (.cells #[.int .u8 (o6 : Int), .string (txt nm6), .slice a6 n6 c6] 25) = w8 at *
  clear b0 b1 b2
  have HBL := Lib.hid (show i ≤ j1 ∧ j1 ≤ L.length from HB1.out)
  have HXL : Hid (moreR L n k [t1] j1 f1 = some x) := Lib.hid HX2.out
  clear HB1 HX1 HX2
  obtain ⟨i0, hi0, hi1, hi2, hi3⟩ := info_parts info_expr
  go_loopg [9] n (fun m lv wr => ∃ (ts : List Tr) (cells : List Value) (g cap o8 : Nat) (nm8 : List UInt8) (a8 : Option Addr) (n8 c8 j : Nat) (f : Bool), lv = .slice (some ⟨g, 0, none⟩) ts.length cap ∧ moreR L m k ts j f = some x ∧ (i ≤ j ∧ j ≤ L.length) ∧ 10 * (L.length - j) + 1 ≤ m ∧ 1 ≤ ts.length ∧ ts.length + m ≤ n + 1 ∧ RowSt w wr S L (.slice a nl cp) [(w6.heap.size, .int .u8 (o8 : Int), .string (txt nm8), .slice a8 n8 c8), (w.heap.size + 1 + 1, .slice none 0 0, .int .i64 0, .bool false), (w.heap.size + 1, .int .u8 0, .string ⟨#[]⟩, .slice none 0 0), (w.heap.size, .slice a nl cp, .int .i64 (j : Int), .bool f)] (w.heap.size + 1 + 1 + 1) k (.slice (some ⟨g, 0, none⟩) ts.length cap) cells ts [])
  case atStart => exact ⟨[t1], _, w7.heap.size, 1, o6, nm6, a6, n6, c6, j1, f1, rfl, HXL.out, HBL.out, by have h1 := HNN.out; have h2 := HBL.out; omega, by simp, by simp; omega, HH8.out⟩
  case round =>
    clear HH8 HXL HBL
    obtain ⟨ts, cells, g, cap, o8, nm8, a8, n8, c8, j, f, rfl, hx, hij, hfu, hl1, hln, hR⟩ := hrel
    cases gk with
    | zero => rw [moreR] at hx; cases hx
    | succ m =>
      rw [moreR] at hx
      have HX := Lib.hid hx
      have HIJ := Lib.hid hij
      have HFU := Lib.hid hfu
      have HL1 := Lib.hid hl1
      have HLN := Lib.hid hln
      have HHR := Lib.hid hR
      have hj6 : j ≤ 1000000 := by have h1 := HLL.out; omega
      have HJ6 := Lib.hid hj6
      obtain ⟨cnt, hcnt⟩ : ∃ cnt, ts.length = cnt := ⟨_, rfl⟩
      rw [hcnt] at HHR HL1 HLN ⊢
      have HCNT := Lib.hid hcnt
      clear hx hij hfu hl1 hln hR hcnt hj6
      obtain ⟨c, hc⟩ : ∃ c, skipP L (sgR k) j f = c := ⟨_, rfl⟩
      obtain ⟨j2, hj2⟩ : ∃ j2, (if c = true then j + 1 else j) = j2 := ⟨_, rfl⟩
      have hB : ∀ W : World, TokL W S L (.slice a nl cp) → Calls Try.prog 83 #[.agg #[.slice a nl cp, .int .i64 (j : Int), .bool f], .string (txt (sgR k))] W fun e w' => e = .returned (.tuple #[.agg #[.slice a nl cp, .int .i64 (j2 : Int), .bool f], .bool c]) ∧ Fr nob W w' := fun W hW => by
        have h := skip_any (sgR k) L j f _ S W (by have := HJ6.out; omega) hW
        rw [hc, hj2] at h
        exact h
      have HCC := Lib.hid hc
      have HJ2 := Lib.hid hj2
      clear hc hj2
      have s0 : wr.drew.cell? ⟨w.heap.size + 1 + 1 + 1 + 1, k, none⟩ = some (.string (txt (sgR k))) := HHR.out.drew.sg
      have s1 : (wr.alloc (.cells #[.slice none 0 0, .int .i64 0, .bool false] 76)).drew.cell? ⟨w.heap.size + 1 + 1 + 1 + 1, k, none⟩ = some (.string (txt (sgR k))) := (HHR.out.alloc _ _ _ _).drew.sg
      have s2 : wr.cell? ⟨w.heap.size + 1 + 1 + 1 + 1, k, none⟩ = some (.string (txt (sgR k))) := HHR.out.sg
      have s3 : (wr.alloc (.cells #[.slice none 0 0, .int .i64 0, .bool false] 76)).cell? ⟨w.heap.size + 1 + 1 + 1 + 1, k, none⟩ = some (.string (txt (sgR k))) := (HHR.out.alloc _ _ _ _).sg
      have ⟨p0, p1, p2, _⟩ := HHR.out.at 3 rfl
      have ⟨r0, r1, r2, _⟩ := HHR.out.drew.at 3 rfl
      have ⟨u0, u1, u2, _⟩ := (HHR.out.alloc (.slice none 0 0) (.int .i64 0) (.bool false) 76).at 4 rfl
      have ⟨x0, x1, x2, _⟩ := (HHR.out.alloc (.slice none 0 0) (.int .i64 0) (.bool false) 76).drew.at 4 rfl
      go_upto_region 7 with fail
      go_cut [10, 11] from 29 to 50 (fun p q wx => ∃ g10 : Nat, p = .pointer (some ⟨g10, 0, none⟩) ∧ q = .bool c ∧ RowSt w wx S L (.slice a nl cp) [(g10, .slice a nl cp, .int .i64 (j2 : Int), .bool f), (w6.heap.size, .int .u8 (o8 : Int), .string (txt nm8), .slice a8 n8 c8), (w.heap.size + 1 + 1, .slice none 0 0, .int .i64 0, .bool false), (w.heap.size + 1, .int .u8 0, .string ⟨#[]⟩, .slice none 0 0), (w.heap.size, .slice a nl cp, .int .i64 (j : Int), .bool f)] (w.heap.size + 1 + 1 + 1) k (.slice (some ⟨g, 0, none⟩) cnt cap) cells ts [])
      case first =>
        go_region_with (first
          | (go_at_call 83
             (first
               | (with_reducible refine (hB _ HHR.out.drew.st.tok).mono ?_)
               | (with_reducible refine (hB _ (HHR.out.alloc _ _ _ _).drew.st.tok).mono ?_))
             rintro e w20 ⟨rfl, F20⟩
             (first
               | (have HD := HHR.out.drew.call F20)
               | (have HD := (HHR.out.alloc (.slice none 0 0) (.int .i64 0) (.bool false) 76).drew.call F20))
             have ⟨m0, m1, m2, mf⟩ := HD.at 0 rfl
             have mf0 := mf 0
             have mf1 := mf 1
             have mf2 := mf 2
             have HHD := Lib.hid HD
             clear HD mf))
        all_goals (
          go_wp2_with fail
          go_meet
          (first
            | exact ⟨_, rfl, rfl, HHD.out.set 0 rfl _ _ _⟩
            | exact ⟨_, rfl, rfl, HHD.out.alloc _ _ _ _⟩
            | exact ⟨_, rfl, rfl, (HHD.out.alloc (.slice none 0 0) (.int .i64 0) (.bool false) 76).set 0 rfl _ _ _⟩))
      case rest =>
        clear s0 s1 s2 s3 p0 p1 p2 r0 r1 r2 u0 u1 u2 x0 x1 x2 hB HHR
        obtain ⟨g10, rfl, rfl, hR⟩ := hcut
        have HHR := Lib.hid hR
        clear hR
        cases c with
        | false =>
          have hx := HX.out
          rw [HCC.out, if_neg (by decide)] at hx
          have hxx := Option.some.inj hx
          obtain rfl : j = j2 := by have h := HJ2.out; rw [if_neg (by decide)] at h; exact h
          have hgo : ∀ b, g = b → (Value.slice (some ⟨g, 0, none⟩) cnt cap).ownBlock = some b := fun b h => by rw [← h]; rfl
          have hgY : ¬ g = w.heap.size + 1 := fun h => (HHR.out.off 3 _ rfl).2.2 (hgo _ h)
          have hgZ : ¬ g = w.heap.size + 1 + 1 := fun h => (HHR.out.off 2 _ rfl).2.2 (hgo _ h)
          have own0 := HHR.out.own
          rw [HCNT.out] at own0
          have hgw := own0.lt g rfl
          have HGW := Lib.hid hgw
          clear hgw hgo hx
          have HXX := Lib.hid hxx
          clear hxx
          by_cases hc1 : cnt = 1
          · subst hc1
            obtain ⟨t, rfl⟩ : ∃ t, ts = [t] := List.length_eq_one_iff.1 HCNT.out
            obtain rfl : (t, j, f) = x := HXX.out
            obtain ⟨o30, nm30, a30, n30, c30, e0, e1, e2, hT30⟩ := HHR.out.rows.at (k := 0) rfl
            have k0 := own_cells own0 _ _ e0
            have k1 := own_cells own0 _ _ e1
            have k2 := own_cells own0 _ _ e2
            have H := HHR.out.st.add (hT30.kept (T := Zn w wc _) (Fr.refl nob wc) (fun b hb _ => ⟨fun h => h, hb.1⟩))
            have HKC := Lib.hid (And.intro k0 (And.intro k1 k2))
            clear own0 e0 e1 e2 hT30 HHR k0 k1 k2
            go_upto_region 12 with fail
            have k0 : wc.cell? ⟨g, 0, none⟩ = _ := HKC.out.1
            have k1 : wc.cell? ⟨g, 1, none⟩ = _ := HKC.out.2.1
            have k2 : wc.cell? ⟨g, 2, none⟩ = _ := HKC.out.2.2
            have kd0 : wc.drew.cell? ⟨g, 0, none⟩ = _ := ((Fr.refl nob wc).drew).cell k0 (fun h => h)
            have kd1 : wc.drew.cell? ⟨g, 1, none⟩ = _ := ((Fr.refl nob wc).drew).cell k1 (fun h => h)
            have kd2 : wc.drew.cell? ⟨g, 2, none⟩ = _ := ((Fr.refl nob wc).drew).cell k2 (fun h => h)
            clear HKC
            have ⟨p00, p01, p02, p0f⟩ := (H).at 4 rfl
            clear p0f
            have ⟨p10, p11, p12, p1f⟩ := (H).at 3 rfl
            have p1f0 := p1f 0
            have p1f1 := p1f 1
            have p1f2 := p1f 2
            clear p1f
            have ⟨p20, p21, p22, p2f⟩ := (H).at 2 rfl
            have p2f0 := p2f 0
            have p2f1 := p2f 1
            have p2f2 := p2f 2
            clear p2f
            have ⟨q00, q01, q02, q0f⟩ := (H.drew).at 4 rfl
            clear q0f
            have ⟨q10, q11, q12, q1f⟩ := (H.drew).at 3 rfl
            have q1f0 := q1f 0
            have q1f1 := q1f 1
            have q1f2 := q1f 2
            clear q1f
            have ⟨q20, q21, q22, q2f⟩ := (H.drew).at 2 rfl
            have q2f0 := q2f 0
            have q2f1 := q2f 1
            have q2f2 := q2f 2
            clear q2f
            have lt0 : w.heap.size < w.heap.size + 1 := H.apart 3 4 _ _ (by decide) rfl rfl
            have ne00 : ¬ w.heap.size + 1 = w.heap.size := by omega
            have en00 : ¬ w.heap.size = w.heap.size + 1 := by omega
            clear lt0
            have lt1 : w.heap.size < w.heap.size + 1 + 1 := H.apart 2 4 _ _ (by decide) rfl rfl
            have ne10 : ¬ w.heap.size + 1 + 1 = w.heap.size := by omega
            have en10 : ¬ w.heap.size = w.heap.size + 1 + 1 := by omega
            clear lt1
            have lt2 : w.heap.size + 1 < w.heap.size + 1 + 1 := H.apart 2 3 _ _ (by decide) rfl rfl
            have ne20 : ¬ w.heap.size + 1 + 1 = w.heap.size + 1 := by omega
            have en20 : ¬ w.heap.size + 1 = w.heap.size + 1 + 1 := by omega
            have ne21 : ¬ w.heap.size + 1 = w.heap.size := by omega
            have en21 : ¬ w.heap.size = w.heap.size + 1 := by omega
            clear lt2
            go_region
            clear p00 p01 p02 p10 p11 p12 p1f0 p1f1 p1f2 p20 p21 p22 p2f0 p2f1 p2f2 q00 q01 q02 q10 q11 q12 q1f0 q1f1 q1f2 q20 q21 q22 q2f0 q2f1 q2f2 ne00 en00 ne10 en10 ne20 en20 ne21 en21 k0 k1 k2 kd0 kd1 kd2
            have HW := ((H.set 3 rfl (.int .u8 (o30 : Int)) (.string (txt nm30)) (.slice a30 n30 c30)).set 2 rfl (.slice a nl cp) (.int .i64 (j : Int)) (.bool f)).drew
            generalize ((((((wc.setCell ⟨w.heap.size + 1, 0, none⟩ (.int .u8 (o30 : Int))).setCell ⟨w.heap.size + 1, 1, none⟩ (.string (txt nm30))).setCell ⟨w.heap.size + 1, 2, none⟩ (.slice a30 n30 c30)).setCell ⟨w.heap.size + 1 + 1, 0, none⟩ (.slice a nl cp)).setCell ⟨w.heap.size + 1 + 1, 1, none⟩ (.int .i64 (j : Int))).setCell ⟨w.heap.size + 1 + 1, 2, none⟩ (.bool f)) = w99 at *
            have ⟨rx0, rx1, rx2, rxf⟩ := (HW).at 3 rfl
            clear rxf
            have ⟨ry0, ry1, ry2, ryf⟩ := (HW).at 2 rfl
            clear ryf
            have hdone := HW.done 0 rfl
            have hfr := HW.fr
            clear HW
            go_wp2_with fail
            exact bodyPost_ret (v := .tuple #[.agg #[.int .u8 (o30 : Int), .string (txt nm30), .slice a30 n30 c30], .agg #[.slice a nl cp, .int .i64 (j : Int), .bool f]]) (by simp [results, Try.results100, go_sem, rx0, rx1, rx2, ry0, ry1, ry2]) rfl ⟨_, rfl, hdone, hfr⟩
          · have qc : ((cnt : Int) == 1) = false := by simp; omega
            have h2 : 2 ≤ ts.length := by have h1 := HL1.out; rw [HCNT.out]; omega
            have hxx := HXX.out
            rw [wrapR_two h2] at hxx
            subst hxx
            have hT30 : TrO wc (Zn w wc _) (.mk (opR k) [] ts) (.agg #[.int .u8 (opR k : Int), .string (txt []), .slice (some ⟨g, 0, none⟩) cnt cap]) := trO_row HCNT.out own0 (HHR.out.rows.kept (T := Zn w wc _) (Fr.refl nob wc) (fun b hb _ => ⟨fun h => h, hb.1⟩)) (fun b hb => by
              by_cases hgb : g = b
              · subst hgb
                exact .inl ⟨hb, HGW.out.2, fun jj y hy e => (HHR.out.off jj y hy).2.2 (by rw [e]; rfl)⟩
              · exact .inr (fun e => hgb (Option.some.inj e)))
            have H := HHR.out.st.add hT30
            have hopc := HHR.out.op
            have hopd := HHR.out.drew.op
            have HOPC := Lib.hid (And.intro hopc hopd)
            clear own0 hT30 HHR h2 hopc hopd
            go_upto_region 13 with fail
            have k0 := HOPC.out.1
            have kd0 := HOPC.out.2
            clear HOPC
            have ⟨p00, p01, p02, p0f⟩ := (H).at 4 rfl
            clear p0f
            have ⟨p10, p11, p12, p1f⟩ := (H).at 3 rfl
            have p1f0 := p1f 0
            have p1f1 := p1f 1
            have p1f2 := p1f 2
            clear p1f
            have ⟨p20, p21, p22, p2f⟩ := (H).at 2 rfl
            have p2f0 := p2f 0
            have p2f1 := p2f 1
            have p2f2 := p2f 2
            clear p2f
            have ⟨q00, q01, q02, q0f⟩ := (H.drew).at 4 rfl
            clear q0f
            have ⟨q10, q11, q12, q1f⟩ := (H.drew).at 3 rfl
            have q1f0 := q1f 0
            have q1f1 := q1f 1
            have q1f2 := q1f 2
            clear q1f
            have ⟨q20, q21, q22, q2f⟩ := (H.drew).at 2 rfl
            have q2f0 := q2f 0
            have q2f1 := q2f 1
            have q2f2 := q2f 2
            clear q2f
            have lt0 : w.heap.size < w.heap.size + 1 := H.apart 3 4 _ _ (by decide) rfl rfl
            have ne00 : ¬ w.heap.size + 1 = w.heap.size := by omega
            have en00 : ¬ w.heap.size = w.heap.size + 1 := by omega
            clear lt0
            have lt1 : w.heap.size < w.heap.size + 1 + 1 := H.apart 2 4 _ _ (by decide) rfl rfl
            have ne10 : ¬ w.heap.size + 1 + 1 = w.heap.size := by omega
            have en10 : ¬ w.heap.size = w.heap.size + 1 + 1 := by omega
            clear lt1
            have lt2 : w.heap.size + 1 < w.heap.size + 1 + 1 := H.apart 2 3 _ _ (by decide) rfl rfl
            have ne20 : ¬ w.heap.size + 1 + 1 = w.heap.size + 1 := by omega
            have en20 : ¬ w.heap.size + 1 = w.heap.size + 1 + 1 := by omega
            have ne21 : ¬ w.heap.size + 1 = w.heap.size := by omega
            have en21 : ¬ w.heap.size = w.heap.size + 1 := by omega
            clear lt2
            go_region
            clear p00 p01 p02 p10 p11 p12 p1f0 p1f1 p1f2 p20 p21 p22 p2f0 p2f1 p2f2 q00 q01 q02 q10 q11 q12 q1f0 q1f1 q1f2 q20 q21 q22 q2f0 q2f1 q2f2 ne00 en00 ne10 en10 ne20 en20 ne21 en21 k0 kd0
            have HW := ((H.set 3 rfl (.int .u8 (opR k : Int)) (.string ⟨#[]⟩) (.slice (some ⟨g, 0, none⟩) cnt cap)).set 2 rfl (.slice a nl cp) (.int .i64 (j : Int)) (.bool f)).drew
            generalize ((((((wc.setCell ⟨w.heap.size + 1, 0, none⟩ (.int .u8 (opR k : Int))).setCell ⟨w.heap.size + 1, 1, none⟩ (.string ⟨#[]⟩)).setCell ⟨w.heap.size + 1, 2, none⟩ (.slice (some ⟨g, 0, none⟩) cnt cap)).setCell ⟨w.heap.size + 1 + 1, 0, none⟩ (.slice a nl cp)).setCell ⟨w.heap.size + 1 + 1, 1, none⟩ (.int .i64 (j : Int))).setCell ⟨w.heap.size + 1 + 1, 2, none⟩ (.bool f)) = w99 at *
            have ⟨rx0, rx1, rx2, rxf⟩ := (HW).at 3 rfl
            clear rxf
            have ⟨ry0, ry1, ry2, ryf⟩ := (HW).at 2 rfl
            clear ryf
            have hdone := HW.done 0 rfl
            have hfr := HW.fr
            clear HW
            go_wp2_with fail
            exact bodyPost_ret (v := .tuple #[.agg #[.int .u8 (opR k : Int), .string ⟨#[]⟩, .slice (some ⟨g, 0, none⟩) cnt cap], .agg #[.slice a nl cp, .int .i64 (j : Int), .bool f]]) (by simp [results, Try.results100, go_sem, rx0, rx1, rx2, ry0, ry1, ry2]) rfl ⟨_, rfl, hdone, hfr⟩
        | true =>
          have hsk := HCC.out
          have hlt : j < L.length := skip_lt (sgR_ne k) hsk
          have hx := HX.out
          rw [hsk, if_pos rfl] at hx
          obtain ⟨y, hy, hx2⟩ := Option.bind_eq_some_iff.1 hx
          obtain rfl : j + 1 = j2 := by have h := HJ2.out; rw [if_pos rfl] at h; exact h
          have hfu : 10 * (L.length - (j + 1)) + 1 + (k - 1) ≤ m := by have h1 := HFU.out; omega
          have hmn : m ≤ n := by have h1 := HLN.out; have h2 := HL1.out; omega
          have hby := row_bd hy (by omega) (by omega) hfu (by omega)
          have hRw := HIR.out m hmn (k - 1) (j + 1) f _ S wc y (by omega) (by omega) hy hfu (by omega) HHR.out.st.lt HHR.out.st.tok
          unfold RdPost rdV at hRw
          rw [HKK.out, show ((j + 1 : Nat) : Int) = (j : Int) + 1 from rfl] at hRw
          rw [show ((j + 1 : Nat) : Int) = (j : Int) + 1 from rfl] at HHR
          have HY := Lib.hid (And.intro hx2 (And.intro hby hlt))
          have ⟨b0, b1, b2, _⟩ := HHR.out.at 0 rfl
          clear hsk hlt hx hy hx2 hfu hmn hby HCC HJ2 HX
          go_upto_region 9 with fail
          go_wp2_with fail
          refine hRw.mono ?_
          rintro e w21 ⟨v21, rfl, hT21, F21⟩
          obtain ⟨o21, nm21, a21, n21, c21, rfl⟩ := hT21.form
          obtain ⟨t21, j21, f21⟩ := y
          dsimp only at hT21
          have HA := HHR.out.ret F21 hT21
          have ⟨sx0, sx1, sx2, sxf⟩ := (HA).at 1 rfl
          have sxf0 := sxf 0
          have sxf1 := sxf 1
          have sxf2 := sxf 2
          clear sxf
          have ⟨su0, su1, su2, suf⟩ := (HA).at 4 rfl
          have suf0 := suf 0
          have suf1 := suf 1
          have suf2 := suf 2
          clear suf
          have hg6 := HG6.out
          have ne1 : ¬ w6.heap.size = w.heap.size := by omega
          have ne2 : ¬ w.heap.size = w6.heap.size := by omega
          clear hg6
          have HHS := Lib.hid ((HA.set 1 rfl (.int .u8 (o21 : Int)) (.string (txt nm21)) (.slice a21 n21 c21)).set 4 rfl (.slice a nl cp) (.int .i64 (j21 : Int)) (.bool f21))
          clear HA HHR hRw F21 hT21 b0 b1 b2
          go_upto_region 10 with fail
          generalize ((((((w21.setCell ⟨w6.heap.size, 0, none⟩ (.int .u8 (o21 : Int))).setCell ⟨w6.heap.size, 1, none⟩ (.string (txt nm21))).setCell ⟨w6.heap.size, 2, none⟩ (.slice a21 n21 c21)).setCell ⟨w.heap.size, 0, none⟩ (.slice a nl cp)).setCell ⟨w.heap.size, 1, none⟩ (.int .i64 (j21 : Int))).setCell ⟨w.heap.size, 2, none⟩ (.bool f21)) = w22 at *
          clear sx0 sx1 sx2 sxf0 sxf1 sxf2 su0 su1 su2 suf0 suf1 suf2 ne1 ne2
          have ⟨b0, b1, b2, _⟩ := HHS.out.at 1 rfl
          have HH23 := Lib.hid (HHS.out.call ((Fr.refl nob w22).alloc (.cells #[.int .u8 (o21 : Int), .string (txt nm21), .slice a21 n21 c21] 25)))
          have own23 := HH23.out.own
          rw [HCNT.out] at own23
          have hc4 : cnt + 1 ≤ maxLen := by have h1 := HLN.out; have h2 := HN6.out; unfold maxLen; omega
          have hc5 : (cnt + 1) * 48 ≤ 140737488355328 := by have h1 := HLN.out; have h2 := HN6.out; omega
          have hc6 := HH23.out.st.fr.size
          have HC456 := Lib.hid (And.intro hc4 (And.intro hc5 hc6))
          clear hc4 hc5 hc6 HHS
          go_wp2_with (at_builtin; refine wpList_append_own_at _ rfl _ _ 23 rfl w.heap.size 25 i0 (.agg #[.int .u8 0, .string ⟨#[]⟩, .slice none 0 0]) 3 48 Try.underlying23 hi0 hi1 hi2 hi3 rfl (by decide) (.slice (some ⟨g, 0, none⟩) cnt cap) cnt cells rfl own23 ⟨w22.heap.size, 0, none⟩ 1 1 [.int .u8 (o21 : Int), .string (txt nm21), .slice a21 n21 c21] rfl ?c1 ?c2 ?c3 ?c4 ?c5 ?c6 ?_)
          case c1 => rfl
          case c2 => exact three_new w22 _ _ _ _
          case c3 => exact three_one _ _ _ _ _
          case c4 => exact HC456.out.1
          case c5 => exact HC456.out.2.1
          case c6 => exact HC456.out.2.2
          intro v24 w24 own24 gr24 _ hat
          obtain ⟨g24, cap24, rfl, _⟩ := row_form (n := cnt) own24
          rw [← HCNT.out] at own24
          have HH25 := Lib.hid (HH23.out.append own24 gr24 (by rw [HCNT.out, World.size_alloc]; exact hat)).drop
          clear own23 own24 gr24 hat HH23 b0 b1 b2
          go_wp2_with fail
          go_roundg m
          case measure => omega
          case rel =>
            have hlen : (ts ++ [t21]).length = cnt + 1 := by rw [List.length_append, HCNT.out]; rfl
            refine ⟨ts ++ [t21], cells ++ [.int .u8 (o21 : Int), .string (txt nm21), .slice a21 n21 c21], g24, cap24, o21, nm21, a21, n21, c21, j21, f21, by rw [hlen], HY.out.1, ⟨by have h1 := HIJ.out.1; have h2 : j + 1 ≤ j21 := HY.out.2.1.1; omega, HY.out.2.1.2⟩, by have h1 := HFU.out; have h2 : j + 1 ≤ j21 := HY.out.2.1.1; have h3 := HY.out.2.2; omega, by omega, by have h1 := HLN.out; omega, ?_⟩
            rw [hlen]
            have h := HH25.out
            rw [HCNT.out] at h
            exact h
end Go.Proofs.Ytbjdaibkcchllaa
