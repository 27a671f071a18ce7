import Derived.Test.YtbjdaibkcchllaaQd2
import Derived.Test.YtbjdaibkcchllaaQc4
/- The reference's reader of tokens: word, skip, bad. -/
namespace Go.Proofs.Ytbjdaibkcchllaa
open Go.RowKit

/-- the value is the list of the tokens L, in a block of S -/
def TokL (w : World) (S : Nat → Prop) (L : List (Nat × List UInt8)) (v : Value) : Prop :=
  ∃ a cp, v = .slice a L.length cp ∧ (L ≠ [] → ∃ g, a = some ⟨g, 0, none⟩ ∧ S g ∧ ∀ (k : Nat) t, L[k]? = some t → w.cell? ⟨g, k * 2, none⟩ = some (.int .i64 (t.1 : Int)) ∧ w.cell? ⟨g, k * 2 + 1, none⟩ = some (.string (txt t.2)))
theorem TokL.kept {w w' : World} {S S' T : Nat → Prop} {L : List (Nat × List UInt8)} {v : Value} (h : TokL w S L v) (f : Fr S' w w') (hS : ∀ b, S b → b < w.heap.size → ¬ S' b ∧ T b) : TokL w' T L v := by
  obtain ⟨a, cp, rfl, hk⟩ := h
  refine ⟨a, cp, rfl, fun hne => ?_⟩
  obtain ⟨g, rfl, hg, hc⟩ := hk hne
  have hlt : g < w.heap.size := by
    obtain ⟨t, ts, rfl⟩ := List.exists_cons_of_ne_nil hne
    exact lt_of_cell (hc 0 t rfl).1
  exact ⟨g, rfl, (hS g hg hlt).2, fun k t hkt => ⟨f.cell' (hc k t hkt).1 (hS g hg hlt).1, f.cell' (hc k t hkt).2 (hS g hg hlt).1⟩⟩
def wordP (L : List (Nat × List UInt8)) (i : Nat) (b : Bool) : List UInt8 := if b = true then [] else ((L[i]?).map Prod.snd).getD []
abbrev rdV (v : Value) (i : Nat) (b : Bool) : Value := .agg #[v, .int .i64 (i : Int), .bool b]
set_option maxRecDepth 20000 in
set_option maxHeartbeats 2000000 in
theorem word_any (L : List (Nat × List UInt8)) (i : Nat) (b : Bool) (v : Value) (S : Nat → Prop) (w : World) (hT : TokL w S L v) :
    Calls Try.prog 101 #[rdV v i b] w fun e w' => e = .returned (.string (txt (wordP L i b))) ∧ Fr nob w w' := by
  obtain ⟨a, cp, rfl, hk⟩ := hT
  obtain ⟨n, hn⟩ : ∃ n, L.length = n := ⟨_, rfl⟩
  rw [hn]
  obtain ⟨W1, hW1⟩ : ∃ W1, w.alloc (.cells #[.slice a n cp, .int .i64 (i : Int), .bool b] 76) = W1 := ⟨_, rfl⟩
  have A1 : Fr nob w W1 := by rw [← hW1]; exact (Fr.refl nob w).alloc _
  have hbx : Box3 W1 w.heap.size (.slice a n cp) (.int .i64 (i : Int)) (.bool b) := by rw [← hW1]; exact Box3.new w _ _ _ _
  have ⟨b0, b1, b2, _⟩ := hbx
  have HF := Lib.hid A1
  have HK := Lib.hid hk
  have HN := Lib.hid hn
  clear hk hn A1 hbx
  go_enter Try.func101, Try.ntmps101
  go_upto_region 1 with fail
  (try rw [hW1])
  clear hW1
  cases b with
  | true =>
    go_wp2_with fail
    go_ret
    exact ⟨rfl, HF.out⟩
  | false =>
    rcases Nat.lt_or_ge i n with hi | hi
    · have q1 : ¬ (n : Int) ≤ (i : Int) := by omega
      have q2 : (0 : Int) ≤ (i : Int) := Int.natCast_nonneg _
      have q3 : (i : Int) < (n : Int) := by omega
      obtain ⟨t, ht⟩ : ∃ t, L[i]? = some t := ⟨L[i]'(by rw [HN.out]; exact hi), List.getElem?_eq_getElem _⟩
      obtain ⟨g, rfl, _, hc⟩ := HK.out (by intro e; rw [e] at ht; simp at ht)
      have c1 := HF.out.cell (hc i t ht).2 (fun h => h)
      have hw : wordP L i false = t.2 := by simp [wordP, ht]
      have HWP := Lib.hid hw
      clear hc ht hw
      go_wp2_with fail
      go_ret
      exact ⟨by rw [HWP.out]; rfl, HF.out⟩
    · have q1 : (n : Int) ≤ (i : Int) := by omega
      have hw : wordP L i false = [] := by simp [wordP, List.getElem?_eq_none (show L.length ≤ i by rw [HN.out]; exact hi)]
      have HWP := Lib.hid hw
      clear hw
      go_wp2_with fail
      go_ret
      exact ⟨by rw [HWP.out]; rfl, HF.out⟩
set_option maxRecDepth 20000 in
set_option maxHeartbeats 2000000 in
theorem bad_any (i : Nat) (b : Bool) (v : Value) (hv : ∃ a n c, v = .slice a n c) (w : World) :
    Calls Try.prog 84 #[rdV v i b] w fun e w' => e = .returned (rdV v i true) ∧ Fr nob w w' := by
  obtain ⟨a, n, cp, rfl⟩ := hv
  obtain ⟨W1, hW1⟩ : ∃ W1, (w.alloc (.cells #[.slice a n cp, .int .i64 (i : Int), .bool b] 76)).alloc (.cells #[.slice none 0 0, .int .i64 0, .bool false] 76) = W1 := ⟨_, rfl⟩
  have A1 : Fr nob w W1 := by rw [← hW1]; exact ((Fr.refl nob w).alloc _).alloc _
  have hbx : Box3 W1 w.heap.size (.slice a n cp) (.int .i64 (i : Int)) (.bool b) := by
    rw [← hW1]; exact (Box3.new w _ _ _ _).kept ((Fr.refl nob _).alloc _) (fun h => h)
  have hby : Box3 W1 (w.heap.size + 1) (.slice none 0 0) (.int .i64 0) (.bool false) := by
    have h := Box3.new (w.alloc (.cells #[.slice a n cp, .int .i64 (i : Int), .bool b] 76)) (.slice none 0 0) (.int .i64 0) (.bool false) 76
    rw [hW1, World.size_alloc] at h; exact h
  have ⟨b0, b1, b2, bf⟩ := hbx
  have ⟨d0, d1, d2, df⟩ := hby
  have bf2 := bf 2
  have df0 := df 0
  have df1 := df 1
  have df2 := df 2
  have HF := Lib.hid A1
  have HBY := Lib.hid hby
  clear A1 hbx hby bf df
  go_enter Try.func84, Try.ntmps84
  go_upto_region 1 with fail
  (try rw [hW1])
  clear hW1
  go_wp2_with fail
  have S5 := fr_store W1 w.heap.size 2 (.bool true)
  have hz5 := HBY.out.kept S5 (show ¬ w.heap.size + 1 = w.heap.size by omega)
  obtain ⟨X, FX⟩ := hz5.set (.slice a n cp) (.int .i64 (i : Int)) (.bool true)
  have F := (HF.out.trans' (T := nob) S5 (fun _ _ h => h) (fun j hj h => by have e : j = w.heap.size := h; omega)).trans' (T := nob) FX (fun _ _ h => h) (fun j hj h => by have e : j = w.heap.size + 1 := h; omega)
  have x0 := X.c0
  have x1 := X.c1
  have x2 := X.c2
  clear b0 b1 b2 bf2 d0 d1 d2 df0 df1 df2 S5 hz5 X FX HF HBY
  generalize (((W1.setCell ⟨w.heap.size, 2, none⟩ (.bool true)).setCell ⟨w.heap.size + 1, 0, none⟩ (.slice a n cp)).setCell ⟨w.heap.size + 1, 1, none⟩ (.int .i64 (i : Int))).setCell ⟨w.heap.size + 1, 2, none⟩ (.bool true) = w7 at *
  exact bodyPost_ret (v := rdV (.slice a n cp) i true) (by simp [results, Try.results84, go_sem, x0, x1, x2]) rfl ⟨rfl, F⟩
/-- the sign s stands there -/
def skipP (L : List (Nat × List UInt8)) (s : List UInt8) (i : Nat) (b : Bool) : Bool := wordP L i b == s
set_option maxRecDepth 20000 in
set_option maxHeartbeats 2000000 in
theorem skip_any (s : List UInt8) (L : List (Nat × List UInt8)) (i : Nat) (b : Bool) (v : Value) (S : Nat → Prop) (w : World) (hi : i ≤ 9223372036854775806) (hT : TokL w S L v) :
    Calls Try.prog 83 #[rdV v i b, .string (txt s)] w fun e w' => e = .returned (.tuple #[rdV v (if skipP L s i b = true then i + 1 else i) b, .bool (skipP L s i b)]) ∧ Fr nob w w' := by
  have hT0 := hT
  obtain ⟨a, cp, rfl, _⟩ := hT0
  obtain ⟨n, hn⟩ : ∃ n, L.length = n := ⟨_, rfl⟩
  rw [hn] at hT ⊢
  obtain ⟨j, hj⟩ : ∃ j, (if skipP L s i b = true then i + 1 else i) = j := ⟨_, rfl⟩
  rw [hj]
  have HJ := Lib.hid hj
  clear hj
  obtain ⟨W1, hW1⟩ : ∃ W1, (w.alloc (.cells #[.slice a n cp, .int .i64 (i : Int), .bool b] 76)).alloc (.cells #[.slice none 0 0, .int .i64 0, .bool false] 76) = W1 := ⟨_, rfl⟩
  have A1 : Fr nob w W1 := by rw [← hW1]; exact ((Fr.refl nob w).alloc _).alloc _
  have hbx : Box3 W1 w.heap.size (.slice a n cp) (.int .i64 (i : Int)) (.bool b) := by
    rw [← hW1]; exact (Box3.new w _ _ _ _).kept ((Fr.refl nob _).alloc _) (fun h => h)
  have hby : Box3 W1 (w.heap.size + 1) (.slice none 0 0) (.int .i64 0) (.bool false) := by
    have h := Box3.new (w.alloc (.cells #[.slice a n cp, .int .i64 (i : Int), .bool b] 76)) (.slice none 0 0) (.int .i64 0) (.bool false) 76
    rw [hW1, World.size_alloc] at h; exact h
  have hC := word_any L i b _ S W1 (hT.kept A1 (fun b h _ => ⟨fun h => h, h⟩))
  have ⟨b0, b1, b2, _⟩ := hbx
  have HF := Lib.hid A1
  have HBX := Lib.hid hbx
  have HBY := Lib.hid hby
  clear A1 hbx hby hT hn
  go_enter Try.func83, Try.ntmps83
  go_upto_region 1 with fail
  (try rw [hW1])
  clear hW1
  go_wp2_with fail
  with_reducible refine hC.mono ?_
  rintro e w2 ⟨rfl, F2⟩
  have HB2 := Lib.hid (HBX.out.kept F2 (fun h => h))
  have HY2 := Lib.hid (HBY.out.kept F2 (fun h => h))
  have HF2 := Lib.hid (HF.out.trans F2 (fun _ _ h => h))
  clear b0 b1 b2 F2 hC HBX HBY HF
  have ⟨b0, b1, b2, bf⟩ := HB2.out
  have ⟨d0, d1, d2, df⟩ := HY2.out
  have bf1 := bf 1
  have df0 := df 0
  have df1 := df 1
  have df2 := df 2
  clear bf df
  cases hs : skipP L s i b with
  | true =>
    obtain rfl : i + 1 = j := by rw [← HJ.out, if_pos hs]
    have hq : ((txt (wordP L i b)).toList == (txt s).toList) = true := by rw [txt_beq]; exact hs
    go_wp2_with fail
    have S5 := fr_store w2 w.heap.size 1 (.int .i64 ((i : Int) + 1))
    have hz5 := HY2.out.kept S5 (show ¬ w.heap.size + 1 = w.heap.size by omega)
    obtain ⟨X, FX⟩ := hz5.set (.slice a n cp) (.int .i64 ((i : Int) + 1)) (.bool b)
    have F := (HF2.out.trans' (T := nob) S5 (fun _ _ h => h) (fun j hj h => by have e : j = w.heap.size := h; omega)).trans' (T := nob) FX (fun _ _ h => h) (fun j hj h => by have e : j = w.heap.size + 1 := h; omega)
    have x0 := X.c0
    have x1 := X.c1
    have x2 := X.c2
    clear b0 b1 b2 bf1 d0 d1 d2 df0 df1 df2 S5 hz5 X FX HF2 HB2 HY2 hq
    generalize (((w2.setCell ⟨w.heap.size, 1, none⟩ (.int .i64 ((i : Int) + 1))).setCell ⟨w.heap.size + 1, 0, none⟩ (.slice a n cp)).setCell ⟨w.heap.size + 1, 1, none⟩ (.int .i64 ((i : Int) + 1))).setCell ⟨w.heap.size + 1, 2, none⟩ (.bool b) = w7 at *
    exact bodyPost_ret (v := .tuple #[rdV (.slice a n cp) (i + 1) b, .bool true]) (by simp [results, Try.results83, go_sem, x0, x1, x2]) rfl ⟨by rw [hs], F⟩
  | false =>
    obtain rfl : i = j := by rw [← HJ.out, if_neg (by rw [hs]; decide)]
    have hq : ((txt (wordP L i b)).toList == (txt s).toList) = false := by rw [txt_beq]; exact hs
    go_wp2_with fail
    obtain ⟨X, FX⟩ := HY2.out.set (.slice a n cp) (.int .i64 (i : Int)) (.bool b)
    have F := HF2.out.trans' (T := nob) FX (fun _ _ h => h) (fun j hj h => by have e : j = w.heap.size + 1 := h; omega)
    have x0 := X.c0
    have x1 := X.c1
    have x2 := X.c2
    clear b0 b1 b2 bf1 d0 d1 d2 df0 df1 df2 X FX HF2 HB2 HY2 hq
    generalize ((w2.setCell ⟨w.heap.size + 1, 0, none⟩ (.slice a n cp)).setCell ⟨w.heap.size + 1, 1, none⟩ (.int .i64 (i : Int))).setCell ⟨w.heap.size + 1, 2, none⟩ (.bool b) = w7 at *
    exact bodyPost_ret (v := .tuple #[rdV (.slice a n cp) i b, .bool false]) (by simp [results, Try.results83, go_sem, x0, x1, x2]) rfl ⟨by rw [hs], F⟩
end Go.Proofs.Ytbjdaibkcchllaa
/- The reference's reader as functions: what least, row, implies and choice answer; so much fuel is enough. -/
namespace Go.Proofs.Ytbjdaibkcchllaa
open Go.RowKit

abbrev RdR := Option (Tr × Nat × Bool)
def opR (n : Nat) : Nat := if n = 2 then 5 else if n = 3 then 7 else 6
def sgR (n : Nat) : List UInt8 := if n = 2 then [38] else if n = 3 then [94] else [124]
def wrapR (k : Nat) : List Tr → Tr
  | [t] => t
  | ts => .mk (opR k) [] ts
mutual
def leastR (L : List (Nat × List UInt8)) : Nat → Nat → Bool → RdR
  | 0, _, _ => none
  | n + 1, i, b =>
    if wordP L i b = [] then some (.mk 0 [] [], i, true)
    else if wordP L i b = [33] then (leastR L n (i + 1) b).map fun x => (.mk 4 [] [x.1], x.2)
    else if wordP L i b = [40] then (choiceR L n (i + 1) b).map fun x => if skipP L [41] x.2.1 x.2.2 = true then (x.1, x.2.1 + 1, x.2.2) else (x.1, x.2.1, true)
    else if wordP L i b = [48] then some (.mk 1 [] [], i + 1, b)
    else if wordP L i b = [49] then some (.mk 2 [] [], i + 1, b)
    else if nameB (wordP L i b) = true then some (.mk 3 (wordP L i b) [], i + 1, b)
    else some (.mk 0 [] [], i, true)
/-- a row of level k (4, 3, 2), or what is below (1) -/
def rowR (L : List (Nat × List UInt8)) : Nat → Nat → Nat → Bool → RdR
  | 0, _, _, _ => none
  | n + 1, k, i, b => if k = 1 then leastR L n i b else (rowR L n (k - 1) i b).bind fun x => moreR L n k [x.1] x.2.1 x.2.2
/-- the rest of a row: ts is there -/
def moreR (L : List (Nat × List UInt8)) : Nat → Nat → List Tr → Nat → Bool → RdR
  | 0, _, _, _, _ => none
  | n + 1, k, ts, i, b => if skipP L (sgR k) i b = true then (rowR L n (k - 1) (i + 1) b).bind fun x => moreR L n k (ts ++ [x.1]) x.2.1 x.2.2
    else some (wrapR k ts, i, b)
def impliesR (L : List (Nat × List UInt8)) : Nat → Nat → Bool → RdR
  | 0, _, _ => none
  | n + 1, i, b => (rowR L n 4 i b).bind fun x => if skipP L [61, 62] x.2.1 x.2.2 = true then (impliesR L n (x.2.1 + 1) x.2.2).map fun y => (.mk 8 [] [x.1, y.1], y.2) else some x
def sameR (L : List (Nat × List UInt8)) : Nat → Tr × Nat × Bool → RdR
  | 0, _ => none
  | n + 1, x => if skipP L [60, 61, 62] x.2.1 x.2.2 = true then (impliesR L n (x.2.1 + 1) x.2.2).map fun y => (.mk 9 [] [x.1, y.1], y.2) else some x
def choiceR (L : List (Nat × List UInt8)) : Nat → Nat → Bool → RdR
  | 0, _, _ => none
  | n + 1, i, b => (impliesR L n i b).bind fun x => (sameR L n x).bind fun a =>
    if skipP L [63] a.2.1 a.2.2 = true then (choiceR L n (a.2.1 + 1) a.2.2).bind fun y =>
      if skipP L [58] y.2.1 y.2.2 = true then (choiceR L n (y.2.1 + 1) y.2.2).map fun z => (.mk 10 [] [a.1, y.1, z.1], z.2)
      else some (a.1, y.2.1, true)
    else some a
end
theorem skip_lt {L : List (Nat × List UInt8)} {s : List UInt8} {i : Nat} {b : Bool} (hs : s ≠ []) (h : skipP L s i b = true) : i < L.length := by
  unfold skipP at h
  rw [beq_iff_eq] at h
  rcases Nat.lt_or_ge i L.length with hi | hi
  · exact hi
  · exfalso
    apply hs
    rw [← h]
    cases b <;> simp [wordP, List.getElem?_eq_none hi]
theorem word_lt {L : List (Nat × List UInt8)} {i : Nat} {b : Bool} (h : wordP L i b ≠ []) : i < L.length := by
  rcases Nat.lt_or_ge i L.length with hi | hi
  · exact hi
  · exfalso
    apply h
    cases b <;> simp [wordP, List.getElem?_eq_none hi]
theorem sgR_ne (k : Nat) : sgR k ≠ [] := by
  unfold sgR
  repeat' split
  all_goals decide
/-- so much fuel is enough; no reader goes back, or beyond the end -/
def Enough (L : List (Nat × List UInt8)) (n : Nat) : Prop :=
  (∀ i b, 10 * (L.length - i) + 1 ≤ n → ∃ x, leastR L n i b = some x ∧ (i ≤ x.2.1 ∧ x.2.1 ≤ max i L.length)) ∧
  (∀ k i b, 1 ≤ k → k ≤ 4 → 10 * (L.length - i) + 1 + k ≤ n → ∃ x, rowR L n k i b = some x ∧ (i ≤ x.2.1 ∧ x.2.1 ≤ max i L.length)) ∧
  (∀ k ts i b, 2 ≤ k → k ≤ 4 → 10 * (L.length - i) + 1 ≤ n → ∃ x, moreR L n k ts i b = some x ∧ (i ≤ x.2.1 ∧ x.2.1 ≤ max i L.length)) ∧
  (∀ i b, 10 * (L.length - i) + 6 ≤ n → ∃ x, impliesR L n i b = some x ∧ (i ≤ x.2.1 ∧ x.2.1 ≤ max i L.length)) ∧
  (∀ x, 10 * (L.length - x.2.1) + 1 ≤ n → ∃ y, sameR L n x = some y ∧ (x.2.1 ≤ y.2.1 ∧ y.2.1 ≤ max x.2.1 L.length)) ∧
  (∀ i b, 10 * (L.length - i) + 7 ≤ n → ∃ x, choiceR L n i b = some x ∧ (i ≤ x.2.1 ∧ x.2.1 ≤ max i L.length))
theorem enough (L : List (Nat × List UInt8)) : ∀ n, Enough L n
  | 0 => ⟨fun i b h => by omega, fun k i b _ _ h => by omega, fun k ts i b _ _ h => by omega, fun i b h => by omega, fun x h => by omega, fun i b h => by omega⟩
  | n + 1 => by
    obtain ⟨h1, h2, h3, h4, h5, h6⟩ := enough L n
    refine ⟨fun i b h => ?_, fun k i b hk1 hk4 h => ?_, fun k ts i b hk2 hk4 h => ?_, fun i b h => ?_, fun x h => ?_, fun i b h => ?_⟩
    · rw [leastR]
      by_cases e0 : wordP L i b = []
      · rw [if_pos e0]; exact ⟨_, rfl, by dsimp only; omega⟩
      have hlt := word_lt e0
      rw [if_neg e0]
      split
      · obtain ⟨x, hx, hi⟩ := h1 (i + 1) b (by omega)
        rw [hx]; exact ⟨_, rfl, by dsimp only; omega⟩
      split
      · obtain ⟨x, hx, hi⟩ := h6 (i + 1) b (by omega)
        rw [hx]
        refine ⟨_, rfl, ?_⟩
        dsimp only
        split
        · rename_i hs
          have hlt2 := skip_lt (by decide) hs
          dsimp only; omega
        · dsimp only; omega
      split
      · exact ⟨_, rfl, by dsimp only; omega⟩
      split
      · exact ⟨_, rfl, by dsimp only; omega⟩
      split
      · exact ⟨_, rfl, by dsimp only; omega⟩
      · exact ⟨_, rfl, by dsimp only; omega⟩
    · rw [rowR]
      split
      · exact h1 i b (by omega)
      · obtain ⟨x, hx, hi⟩ := h2 (k - 1) i b (by omega) (by omega) (by omega)
        obtain ⟨y, hy, hj⟩ := h3 k [x.1] x.2.1 x.2.2 (by omega) hk4 (by omega)
        rw [hx]; exact ⟨y, hy, by omega⟩
    · rw [moreR]
      split
      · rename_i hs
        have hlt := skip_lt (sgR_ne k) hs
        obtain ⟨x, hx, hi⟩ := h2 (k - 1) (i + 1) b (by omega) (by omega) (by omega)
        obtain ⟨y, hy, hj⟩ := h3 k (ts ++ [x.1]) x.2.1 x.2.2 hk2 hk4 (by omega)
        rw [hx]; exact ⟨y, hy, by omega⟩
      · exact ⟨_, rfl, by dsimp only; omega⟩
    · rw [impliesR]
      obtain ⟨x, hx, hi⟩ := h2 4 i b (by omega) (by omega) (by omega)
      rw [hx]
      show ∃ y, (if skipP L [61, 62] x.2.1 x.2.2 = true then (impliesR L n (x.2.1 + 1) x.2.2).map fun y => ((.mk 8 [] [x.1, y.1], y.2) : Tr × Nat × Bool) else some x) = some y ∧ (i ≤ y.2.1 ∧ y.2.1 ≤ max i L.length)
      split
      · rename_i hs
        have hlt := skip_lt (by decide) hs
        obtain ⟨y, hy, hj⟩ := h4 (x.2.1 + 1) x.2.2 (by omega)
        rw [hy]; exact ⟨_, rfl, by dsimp only; omega⟩
      · exact ⟨_, rfl, hi⟩
    · rw [sameR]
      split
      · rename_i hs
        have hlt := skip_lt (by decide) hs
        obtain ⟨y, hy, hj⟩ := h4 (x.2.1 + 1) x.2.2 (by omega)
        rw [hy]; exact ⟨_, rfl, by dsimp only; omega⟩
      · exact ⟨_, rfl, by omega⟩
    · rw [choiceR]
      obtain ⟨x, hx, hi⟩ := h4 i b (by omega)
      obtain ⟨a, ha, hj⟩ := h5 x (by omega)
      rw [hx, Option.bind_some, ha, Option.bind_some]
      split
      · rename_i hs
        have hlt := skip_lt (by decide) hs
        obtain ⟨y, hy, hk⟩ := h6 (a.2.1 + 1) a.2.2 (by omega)
        rw [hy, Option.bind_some]
        split
        · rename_i hs2
          have hlt2 := skip_lt (by decide) hs2
          obtain ⟨z, hz, hl⟩ := h6 (y.2.1 + 1) y.2.2 (by omega)
          rw [hz]; exact ⟨_, rfl, by dsimp only; omega⟩
        · exact ⟨_, rfl, by dsimp only; omega⟩
      · exact ⟨_, rfl, by omega⟩
end Go.Proofs.Ytbjdaibkcchllaa
