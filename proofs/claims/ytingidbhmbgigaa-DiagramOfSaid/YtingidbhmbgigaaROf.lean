import Derived.Test.YtingidbhmbgigaaOf
import Derived.Test.YtingidbhmbgigaaRefI
import Derived.Test.YtingidbhmbgigaaBoth
namespace Go.Proofs.Ytingidbhmbgigaa
open Go.RowKit
open Bd

theorem fitsC_take {L : List Dec} {m k : Nat} (hk : k ≤ m) (x c : Int) : fitsC (L.take m) k x c = fitsC L k x c := by
  unfold fitsC
  by_cases h : c ≤ (k : Int) + 1
  · by_cases h2 : c < 2
    · simp [h, h2]
    · have : (c - 2).toNat < m := by omega
      rw [List.getD_eq_getElem?_getD, List.getD_eq_getElem?_getD, List.getElem?_take, if_pos this]
  · simp [h]
theorem fitsD_take {L : List Dec} {m k : Nat} (hk : k ≤ m) (d : Dec) : fitsD (L.take m) k d = fitsD L k d := by
  unfold fitsD; rw [fitsC_take hk, fitsC_take hk]

/-- either all elements fit, or there is a first one that does not -/
theorem first_bad (L : List Dec) : ∃ m, m ≤ L.length ∧ validL (L.take m) ∧ ∀ h : m < L.length, fitsD L m L[m] = false := by
  have key : ∀ n, n ≤ L.length → (∀ k (h : k < L.length), k < n → fitsD L k L[k] = true) ∨ ∃ m, m < n ∧ (∀ k (h : k < L.length), k < m → fitsD L k L[k] = true) ∧ ∀ h : m < L.length, fitsD L m L[m] = false := by
    intro n
    induction n with
    | zero => intro _; exact .inl (fun k h hk => absurd hk (Nat.not_lt_zero _))
    | succ n ih =>
      intro hn
      rcases ih (by omega) with h | ⟨m, h1, h2, h3⟩
      · cases hf : fitsD L n (L[n]'(by omega)) with
        | true => exact .inl (fun k hk hkn => if e : k = n then (by subst e; exact hf) else h k hk (by omega))
        | false => exact .inr ⟨n, by omega, h, fun _ => hf⟩
      · exact .inr ⟨m, by omega, h2, h3⟩
  have take : ∀ m, (∀ k (h : k < L.length), k < m → fitsD L k L[k] = true) → validL (L.take m) := by
    intro m h k hk
    rw [List.length_take] at hk
    rw [fitsD_take (by omega), List.getElem_take]
    exact h k (by omega) (by omega)
  rcases key L.length (Nat.le_refl _) with h | ⟨m, h1, h2, h3⟩
  · exact ⟨L.length, Nat.le_refl _, take _ h, fun h => absurd h (Nat.lt_irrefl _)⟩
  · exact ⟨m, Nat.le_of_lt h1, take _ h2, h3⟩

def flat (cs : List (Value × Value)) : List Value := cs.flatMap fun c => [c.1, c.2]
theorem flat_length (cs : List (Value × Value)) : (flat cs).length = 2 * cs.length := by
  unfold flat; rw [Bd.length_flat _ _ 2 (by intro; rfl)]; omega
theorem flat_snoc (cs : List (Value × Value)) (c : Value × Value) : flat (cs ++ [c]) = flat cs ++ [c.1, c.2] := by simp [flat]
theorem flat_at {cs : List (Value × Value)} {p : Nat} (h : p < cs.length) : (flat cs)[p * 2]? = some cs[p].1 ∧ (flat cs)[p * 2 + 1]? = some cs[p].2 := by
  induction cs generalizing p with
  | nil => simp at h
  | cons c cs ih =>
    have e : flat (c :: cs) = c.1 :: c.2 :: flat cs := rfl
    cases p with
    | zero => simp [e]
    | succ p =>
      have := ih (p := p) (by simpa using h)
      rw [e, show (p + 1) * 2 = p * 2 + 1 + 1 by omega]
      simpa using this

theorem SRow.off {w w' : World} {v : Value} {l : List Value} {g : Nat} {x : Option Addr} {y z : Nat} (h : SRow w v l) (hl : ∀ u, l[0]? = some u → ∀ x y z, u ≠ .slice x y z) (hg : w.cell? ⟨g, 0, none⟩ = some (.slice x y z)) (fr : Fr (fun k => k = g) w w') : SRow w' v l := by
  obtain ⟨a, cap, rfl, hc⟩ := h
  refine ⟨a, cap, rfl, fun j u hj => ?_⟩
  obtain ⟨g', h1, h2⟩ := hc j u hj
  refine ⟨g', h1, fr.cell' h2 ?_⟩
  rintro rfl
  have hlt : 0 < l.length := by have := (List.getElem?_eq_some_iff.1 hj).1; omega
  obtain ⟨g2, e1, e2⟩ := hc 0 l[0] (by simp [hlt])
  rw [h1] at e1
  cases e1
  rw [hg] at e2
  exact hl _ (List.getElem?_eq_getElem hlt) _ _ _ (Option.some.inj e2).symm
theorem LRow.var {w : World} {b o n cap : Nat} {L : List Dec} (h : LRow w (.slice (some ⟨b, o, none⟩) n cap) L) {c : Nat} (h2 : 2 ≤ c) (hc : c < L.length + 2) : w.cell? ⟨b, o + (c - 2) * 3, none⟩ = some (.int .i64 (lAt L c).1) := by
  have hk : c - 2 < L.length := by omega
  obtain ⟨b', o', e, h0, _⟩ := h.at (k := c - 2) (d := L[c - 2]) (by simp [hk])
  cases e
  have e2 : lAt L c = L[c - 2] := by have := lAt_eq hk; rwa [show c - 2 + 2 = c by omega] at this
  rw [h0, e2]
theorem RSet.off {w w' : World} {v : Value} {V : List Nat} {f : Cfg → Bool} {g : Nat} {x : Option Addr} {y z : Nat} (h : RSet w v V f) (hg : w.cell? ⟨g, 0, none⟩ = some (.slice x y z)) (fr : Fr (fun k => k = g) w w') : RSet w' v V f := by
  obtain ⟨h1, h2, sv, st, h3, h4, h5⟩ := h
  refine ⟨h1, h2, sv, st, h3, h4.off (fun u hu => ?_) hg fr, h5.off (fun u hu => ?_) hg fr⟩
  · rw [List.getElem?_map] at hu
    cases hv : V[0]? with
    | none => rw [hv] at hu; cases hu
    | some n => rw [hv] at hu; cases hu; intro _ _ _ e; cases e
  · rw [List.getElem?_map] at hu
    cases hv : (tab V f)[0]? with
    | none => rw [hv] at hu; cases hu
    | some n => rw [hv] at hu; cases hu; intro _ _ _ e; cases e

/-- the sets that were made so far -/
def Sets (L : List Dec) (cs : List (Value × Value)) (w : World) : Prop := ∀ p (h : p < cs.length), ∃ V, RSet w (.agg #[cs[p].1, cs[p].2]) V (semL L p).ev
theorem Sets.kept {L : List Dec} {cs : List (Value × Value)} {w w' : World} (h : Sets L cs w) (f : Fr nob w w') : Sets L cs w' := fun p hp => let ⟨V, hV⟩ := h p hp; ⟨V, hV.kept f⟩

theorem Sets.next {L : List Dec} {cs : List (Value × Value)} {w w' : World} {g n cap : Nat} {T : TypeId} {x y : Value} {V : List Nat} (hs : Sets L cs w) (hform : ∀ p (h : p < cs.length), ∃ q n c u m d, cs[p] = (.slice q n c, .slice u m d)) (h0 : 0 < cs.length) (row : w.ownsRow 0 T 2 (.slice (some ⟨g, 0, none⟩) n cap) n (flat cs)) (fr : Fr (fun k => k = g) w w') (hnew : RSet w (.agg #[x, y]) V (semL L cs.length).ev) : Sets L (cs ++ [(x, y)]) w' := by
  have hl : (flat cs).length = n * 2 := row.1
  rw [flat_length] at hl
  obtain ⟨q, n', c, u, m', d, e⟩ := hform 0 h0
  have hc : w.cell? ⟨g, 0, none⟩ = some (.slice q n' c) := by
    rw [row.cellAt 0 (by omega)]
    have := (flat_at h0).1
    rw [Nat.zero_mul] at this
    rw [this, e]
  intro p hp
  by_cases hpc : p < cs.length
  · obtain ⟨V', hV'⟩ := hs p hpc
    rw [List.getElem_append_left hpc]
    exact ⟨V', hV'.off hc fr⟩
  · obtain rfl : p = cs.length := by simp at hp; omega
    refine ⟨V, ?_⟩
    simp only [List.getElem_concat_length]
    exact hnew.off hc fr

theorem cube_one (i : Nat) (hi : i < 24) (c : Cfg) : cubeF (2 ^ i) 0 c = c i := by
  rw [Bool.eq_iff_iff, cubeF_iff]
  constructor
  · intro h; exact (h i hi).1 (by rw [Nat.testBit_two_pow]; simp)
  · intro h j hj
    rw [Nat.testBit_two_pow]
    refine ⟨fun e => ?_, by simp⟩
    have : i = j := by simpa using e
    rw [← this]; exact h
theorem info_set : (Try.prog.info? 37).map (fun i => (i.zero, i.size, i.bytes)) = some (some (.agg #[.slice none 0 0, .slice none 0 0]), 2, 48) := by kernel_rfl

theorem pow_u32 {i : Nat} (hi : i < 24) : ((2 : Int) ^ i % 4294967296) = ((2 ^ i : Nat) : Int) := by
  have h2 : 2 ^ i < 2 ^ 24 := Nat.pow_lt_pow_right (by omega) hi
  rw [show (2 : Int) ^ i = ((2 ^ i : Nat) : Int) by simp]
  generalize 2 ^ i = m at *
  omega

/-- what the document's Of says of a list of whose elements the first m fit -/
def OfPost (L : List Dec) (m : Nat) (r : Int) (w : World) (e : Ending) (w' : World) : Prop :=
  ∃ v' V f err, e = .returned (.tuple #[v', .int .i64 err]) ∧ RSet w' v' V f ∧ Below w.heap.size w w' ∧
      (m < L.length → err = 4 ∧ ∀ c, f c = false) ∧ (m = L.length → (r < 0 ∨ (L.length : Int) + 1 < r) → err = 3 ∧ ∀ c, f c = false) ∧
      (m = L.length → 0 ≤ r → r ≤ (L.length : Int) + 1 → err = 0 ∧ ∀ c, f c = (semL L r.toNat).ev c)
theorem OfPost.intro {L : List Dec} {m : Nat} {r : Int} {w w' : World} {v' : Value} {V : List Nat} {f : Cfg → Bool} {err : Int} (h2 : RSet w' v' V f) (h3 : Below w.heap.size w w') (h4 : m < L.length → err = 4 ∧ ∀ c, f c = false) (h5 : m = L.length → (r < 0 ∨ (L.length : Int) + 1 < r) → err = 3 ∧ ∀ c, f c = false)
    (h6 : m = L.length → 0 ≤ r → r ≤ (L.length : Int) + 1 → err = 0 ∧ ∀ c, f c = (semL L r.toNat).ev c) : OfPost L m r w (.returned (.tuple #[v', .int .i64 err])) w' := ⟨v', V, f, err, rfl, h2, h3, h4, h5, h6⟩

theorem shl_u32 {i : Nat} (hi : i < 24) : IntKind.u32.wrap (2 ^ min (IntKind.u64.wrap (i : Int)).toNat 32) = ((2 ^ i : Nat) : Int) := by
  have e : (IntKind.u64.wrap (i : Int)).toNat = i := by rw [IntKind.wrap_u64]; omega
  rw [e, Nat.min_eq_left (by omega), IntKind.wrap_u32, pow_u32 hi]

set_option maxRecDepth 100000 in
set_option maxHeartbeats 4000000 in
theorem ROf_any (L : List Dec) (m : Nat) (hm : m ≤ L.length) (hval : validL (L.take m)) (hbad : ∀ h : m < L.length, fitsD L m L[m] = false) (hL : L.length ≤ 65536) (r : Int) (v : Value) (w : World) (hv : LRow w v L) :
    Calls Try.prog 7 #[v, .int .i64 r] w (OfPost L m r w) := by
  obtain ⟨i0, hi0, hz0, hz1, hz2⟩ := info_parts info_set
  obtain ⟨a, cap, rfl⟩ := hv.form
  obtain ⟨r0, r1⟩ := two_cells' w (.slice none 0 0) (.slice none 0 0) 37
  have fr : Fr nob w (w.alloc (.cells #[.slice none 0 0, .slice none 0 0] 37)) := (Fr.refl nob w).alloc _
  have fz : ∀ o, (w.alloc (.cells #[.slice none 0 0, .slice none 0 0] 37)).frozen? ⟨w.heap.size, o, none⟩ = false := fun o => World.frozen?_alloc_at _ _ _ _ (by simp)
  go_enter Try.func7, Try.ntmps7
  go_wp2_with fail
  generalize w.alloc (.cells #[.slice none 0 0, .slice none 0 0] 37) = W0 at *
  refine (Const_any false W0).mono ?_
  rintro e w1 ⟨v1, rfl, hs1, hb1⟩
  obtain ⟨qa, na, ca, ua, ma, da, rfl⟩ := hs1.form
  have f1 := (Fr.refl nob W0).below hb1
  clear hb1
  go_wp2_with fail
  refine (Const_any true w1).mono ?_
  rintro e w2 ⟨v2, rfl, hs2, hb2⟩
  obtain ⟨qb, nb, cb, ub, mb, db, rfl⟩ := hs2.form
  have f2 := (Fr.refl nob w1).below hb2
  have hrow := World.ownsRow_lit (base := 0) (e := 37) (size := 2) w2 #[.slice qa na ca, .slice ua ma da, .slice qb nb cb, .slice ub mb db] 2 (Nat.zero_le _) (by decide) rfl
  have hcs : Sets (L.take m) [(.slice qa na ca, .slice ua ma da), (.slice qb nb cb, .slice ub mb db)] w2 := by
    intro p hp
    match p, hp with
    | 0, _ => exact ⟨[], (hs1.kept f2).congr (fun c => by simp [semL, semK, B.ev])⟩
    | 1, _ => exact ⟨[], hs2.congr (fun c => by simp [semL, semK, B.ev])⟩
  clear hb2
  have hB2 : Below w.heap.size w (w2.alloc (.cells #[.slice qa na ca, .slice ua ma da, .slice qb nb cb, .slice ub mb db] 37)) := (((fr.trans f1 (fun _ _ h => h)).trans f2 (fun _ _ h => h)).alloc _).to_below (Nat.le_refl _) (fun _ h => h.elim)
  have f3 : Fr nob w2 (w2.alloc (.cells #[.slice qa na ca, .slice ua ma da, .slice qb nb cb, .slice ub mb db] 37)) := (Fr.refl nob w2).alloc _
  have lW : w.heap.size < W0.heap.size := lt_of_cell r0
  have lg : w.heap.size < w2.heap.size := by have := f1.size; have := f2.size; omega
  have f03 := (f1.trans f2 (fun _ _ h => h)).trans f3 (fun _ _ h => h)
  replace r0 := f03.cell' r0 (fun h => h)
  replace r1 := f03.cell' r1 (fun h => h)
  have fz0 := (f03.frozen (p := ⟨w.heap.size, 0, none⟩) lW (fun h => h)).trans (fz 0)
  have fz1 := (f03.frozen (p := ⟨w.heap.size, 1, none⟩) lW (fun h => h)).trans (fz 1)
  replace hcs := hcs.kept f3
  have lW3 : w.heap.size < (w2.alloc (.cells #[.slice qa na ca, .slice ua ma da, .slice qb nb cb, .slice ub mb db] 37)).heap.size := by simp; omega
  clear fz f03 f1 f2 f3 hs1 hs2 fr
  go_wp2_with fail
  generalize (w2.alloc (.cells #[.slice qa na ca, .slice ua ma da, .slice qb nb cb, .slice ub mb db] 37)) = W3 at *
  go_loopw [6, 7] (fun sv kv wr => ∃ (k g cap' : Nat) (cs : List (Value × Value)), k ≤ m ∧ kv = ik k ∧ sv = .slice (some ⟨g, 0, none⟩) (k + 2) cap' ∧ cs.length = k + 2 ∧ (∀ p (h : p < cs.length), ∃ q n c u m d, cs[p] = (.slice q n c, .slice u m d)) ∧
      wr.ownsRow 0 37 2 (.slice (some ⟨g, 0, none⟩) (k + 2) cap') (k + 2) (flat cs) ∧ Sets (L.take m) cs wr ∧ w2.heap.size ≤ g ∧ Fr (fun j => w2.heap.size ≤ j) W3 wr) (fun _ kv _ => m - (intOf kv).toNat)
  case atStart =>
    refine ⟨0, w2.heap.size, 2, [(.slice qa na ca, .slice ua ma da), (.slice qb nb cb, .slice ub mb db)], Nat.zero_le _, rfl, rfl, rfl, ?_, hrow, hcs, Nat.le_refl _, Fr.refl _ _⟩
    intro p hp
    match p, hp with
    | 0, _ => exact ⟨_, _, _, _, _, _, rfl⟩
    | 1, _ => exact ⟨_, _, _, _, _, _, rfl⟩
  case round =>
    obtain ⟨k, g, cap', cs, hk, rfl, rfl, hcl, hform, hrw, hsets, hg, fwr⟩ := hrel
    clear hrow hcs
    have hB : Below w.heap.size w wr := hB2.trans (fwr.to_below (B := w.heap.size) hB2.size (fun j h => by omega))
    replace r0 := fwr.cell' r0 (by omega)
    replace r1 := fwr.cell' r1 (by omega)
    by_cases hlt : k < m
    · have hkl : k < L.length := by omega
      have hd : L[k]? = some L[k] := by simp [hkl]
      obtain ⟨b, o, rfl, d0, d1, d2⟩ := (hv.below hB).at hd
      have hfd := hval k (by rw [List.length_take]; omega)
      rw [fitsD_take (by omega), List.getElem_take, fitsD_iff] at hfd
      have hle : lAt (L.take m) (k + 2) = L[k] := by rw [lAt_eq (by rw [List.length_take]; omega), List.getElem_take]
      have hstep := semL_step hval (p := k + 2) (by omega) (by rw [List.length_take]; omega)
      rw [hle] at hstep
      generalize L[k] = d at *
      obtain ⟨x, lo, hi⟩ := d
      obtain ⟨hx0, hx1, hlo, hhi⟩ := hfd
      obtain ⟨lo0, lo1, lo2⟩ := fitsC_iff.1 hlo
      obtain ⟨hi0', hi1, hi2⟩ := fitsC_iff.1 hhi
      simp only at *
      obtain ⟨xn, rfl⟩ : ∃ n : Nat, x = n := ⟨x.toNat, by omega⟩
      obtain ⟨ln, rfl⟩ : ∃ n : Nat, lo = n := ⟨lo.toNat, by omega⟩
      obtain ⟨hn, rfl⟩ : ∃ n : Nat, hi = n := ⟨hi.toNat, by omega⟩
      simp only [Int.toNat_natCast] at *
      clear hlo hhi hle hd
      have hvr := hv.below hB
      have f4 : Fr nob wr (wr.alloc (.cells #[.int .i64 (xn : Int), .int .i64 (ln : Int), .int .i64 (hn : Int)] 26)) := (Fr.refl nob wr).alloc _
      have x0 : (wr.alloc (.cells #[.int .i64 (xn : Int), .int .i64 (ln : Int), .int .i64 (hn : Int)] 26)).cell? ⟨wr.heap.size, 0, none⟩ = some (.int .i64 (xn : Int)) := World.cell?_alloc_at _ _ _ _ (by simp)
      have x1 : (wr.alloc (.cells #[.int .i64 (xn : Int), .int .i64 (ln : Int), .int .i64 (hn : Int)] 26)).cell? ⟨wr.heap.size, 1, none⟩ = some (.int .i64 (ln : Int)) := World.cell?_alloc_at _ _ _ _ (by simp)
      have x2 : (wr.alloc (.cells #[.int .i64 (xn : Int), .int .i64 (ln : Int), .int .i64 (hn : Int)] 26)).cell? ⟨wr.heap.size, 2, none⟩ = some (.int .i64 (hn : Int)) := World.cell?_alloc_at _ _ _ _ (by simp)
      have hkk : (k : Int) < (L.length : Int) := by omega
      have hlow : (ln < 2 ∧ decide ((1 : Int) < (ln : Int)) = false) ∨ (2 ≤ ln ∧ decide ((1 : Int) < (ln : Int)) = true ∧ (0 : Int) ≤ (ln : Int) - 2 ∧ (ln : Int) - 2 < (L.length : Int) ∧ ∃ y : Int, (xn : Int) < y ∧ wr.cell? ⟨b, o + (ln - 2) * 3, none⟩ = some (.int .i64 y)) := by
        by_cases h : ln < 2
        · exact .inl ⟨h, by simp; omega⟩
        · exact .inr ⟨by omega, by simp; omega, by omega, by omega, _, lo2 (by omega), hvr.var (by omega) (by omega)⟩
      have hhigh : (hn < 2 ∧ decide ((1 : Int) < (hn : Int)) = false) ∨ (2 ≤ hn ∧ decide ((1 : Int) < (hn : Int)) = true ∧ (0 : Int) ≤ (hn : Int) - 2 ∧ (hn : Int) - 2 < (L.length : Int) ∧ ∃ y : Int, (xn : Int) < y ∧ wr.cell? ⟨b, o + (hn - 2) * 3, none⟩ = some (.int .i64 y)) := by
        by_cases h : hn < 2
        · exact .inl ⟨h, by simp; omega⟩
        · exact .inr ⟨by omega, by simp; omega, by omega, by omega, _, hi2 (by omega), hvr.var (by omega) (by omega)⟩
      clear lo2 hi2 hvr
      go_wp2_with fail
      have f5 : Fr nob wr (wr.alloc (.cells #[.int .i64 (xn : Int), .int .i64 (ln : Int), .int .i64 (hn : Int)] 26)) := f4
      generalize wr.alloc (.cells #[.int .i64 (xn : Int), .int .i64 (ln : Int), .int .i64 (hn : Int)] 26) = W6 at *
      rcases hlow with ⟨hl1, hl2⟩ | ⟨hl1, hl2, hl3, hl4, yl, hl5, hl6⟩
      · rcases hhigh with ⟨hh1, hh2⟩ | ⟨hh1, hh2, hh3, hh4, yh, hh5, hh6⟩
        · go_quiet (fail)
          go_wp2_with fail
          have hcube : ∀ W, Calls Try.prog 23 #[.int .u32 (IntKind.u32.wrap (2 ^ min (IntKind.u64.wrap (xn : Int)).toNat 32)), .int .u32 0] W fun e w' => ∃ v', e = .returned v' ∧ RSet w' v' (featL (2 ^ xn ||| 0)) (cubeF (2 ^ xn) 0) ∧ Below W.heap.size W w' := fun W => by
            rw [shl_u32 (by omega)]; exact RCube_any (2 ^ xn) 0 (Nat.pow_lt_pow_right (by omega) (by omega)) (by decide) W
          have f7 : Fr nob wr (W6.drewN nq) := f5.drewN nq
          have row7 := f7.row hrw (fun _ _ h => h)
          have sets7 := hsets.kept f7
          replace x0 : (W6.drewN nq).cell? ⟨wr.heap.size, 0, none⟩ = some (.int .i64 (xn : Int)) := x0
          replace x1 : (W6.drewN nq).cell? ⟨wr.heap.size, 1, none⟩ = some (.int .i64 (ln : Int)) := x1
          replace x2 : (W6.drewN nq).cell? ⟨wr.heap.size, 2, none⟩ = some (.int .i64 (hn : Int)) := x2
          have lgr : g < wr.heap.size := (hrw.lt g rfl).2
          have hnl : hn < cs.length := by omega
          have lnl : ln < cs.length := by omega
          obtain ⟨fh1, fh2⟩ := flat_at hnl
          obtain ⟨fl1, fl2⟩ := flat_at lnl
          have sh1 := (row7.cellAt (hn * 2) (by omega)).trans fh1
          have sh2 := (row7.cellAt (hn * 2 + 1) (by omega)).trans fh2
          have sl1 := (row7.cellAt (ln * 2) (by omega)).trans fl1
          have sl2 := (row7.cellAt (ln * 2 + 1) (by omega)).trans fl2
          obtain ⟨VH, hH⟩ := sets7 hn hnl
          obtain ⟨VL, hLo⟩ := sets7 ln lnl
          have hn0 : (0 : Int) ≤ (hn : Int) := Int.natCast_nonneg _
          have ln0 : (0 : Int) ≤ (ln : Int) := Int.natCast_nonneg _
          have hn3 : (hn : Int) < (k : Int) + 2 := by omega
          have ln3 : (ln : Int) < (k : Int) + 2 := by omega
          have hn4 : (hn : Int) < ((k + 2 : Nat) : Int) := by omega
          have ln4 : (ln : Int) < ((k + 2 : Nat) : Int) := by omega
          have xn0 : (0 : Int) ≤ (xn : Int) := Int.natCast_nonneg _
          have Hstep := Lib.hid hstep
          have hHk : ∀ W, Fr nob (W6.drewN nq) W → RSet W (.agg #[cs[hn].1, cs[hn].2]) VH (semL (L.take m) hn).ev := fun W h => hH.kept h
          have hLk : ∀ W, Fr nob (W6.drewN nq) W → RSet W (.agg #[cs[ln].1, cs[ln].2]) VL (semL (L.take m) ln).ev := fun W h => hLo.kept h
          generalize cs[hn].1 = sA at *
          generalize cs[hn].2 = sB at *
          generalize cs[ln].1 = sC at *
          generalize cs[ln].2 = sD at *
          clear hbad hval hv hB2 hB hH hLo sets7 fh1 fh2 fl1 fl2 hstep d0 d1 d2 hx0 hx1 lo0 lo1 hi0' hi1 f4
          generalize W6.drewN nq = W7 at *
          have F : Fr nob W7 W7.drew := (Fr.refl nob W7).drew
          go_region_held3 (fun w' => (w'.cell? ⟨wr.heap.size, 0, none⟩ = some (.int .i64 (xn : Int)) ∧ w'.cell? ⟨wr.heap.size, 1, none⟩ = some (.int .i64 (ln : Int)) ∧ w'.cell? ⟨wr.heap.size, 2, none⟩ = some (.int .i64 (hn : Int))) ∧
              w'.cell? ⟨g, hn * 2, none⟩ = some sA ∧ w'.cell? ⟨g, hn * 2 + 1, none⟩ = some sB ∧ w'.cell? ⟨g, ln * 2, none⟩ = some sC ∧ w'.cell? ⟨g, ln * 2 + 1, none⟩ = some sD)
            (first
              | exact ⟨⟨F.cell' x0 (fun h => h), F.cell' x1 (fun h => h), F.cell' x2 (fun h => h)⟩, F.cell' sh1 (fun h => h), F.cell' sh2 (fun h => h), F.cell' sl1 (fun h => h), F.cell' sl2 (fun h => h)⟩
                        | assumption
              | (go_keep; done))
            (first
              | (go_at_call 23
                 (with_reducible refine (hcube _).mono ?_)
                 rintro e w8 ⟨v8, rfl, hs8, hb8⟩
                 have f8 := (Fr.refl nob _).below hb8
                 replace F := F.trans f8 (fun _ _ h => h)
                 have h8 := fun W (h : Fr nob w8 W) => hs8.kept h
                 clear hb8 f8 hs8)
              | (go_at_call 22
                 (with_reducible refine (RIte_any (featL (2 ^ xn ||| 0)) VH VL (cubeF (2 ^ xn) 0) (semL (L.take m) hn).ev (semL (L.take m) ln).ev v8 (.agg #[sA, sB]) (.agg #[sC, sD]) _ (h8 _ (Fr.refl nob _)) (hHk _ F) (hLk _ F)).mono ?_)
                 rintro e w9 ⟨v9, X9, rfl, hs9, hb9⟩
                 obtain ⟨q9, n9, c9, u9, m9, d9, rfl⟩ := hs9.form
                 have f9 := (Fr.refl nob _).below hb9
                 replace F := F.trans f9 (fun _ _ h => h)
                 clear hb9 f9)
              | (refine step_append_both (by rfl) _ _ _ (by rfl) 37 i0 (.agg #[.slice none 0 0, .slice none 0 0]) 2 48 Try.underlying56 hi0 hz0 hz1 hz2 rfl (by omega) g (k + 2) cap' (flat cs) (by rfl) ((F.row row7 (fun _ _ h => h)).alloc _) ⟨w9.heap.size, 0, none⟩ 1 1 [.slice q9 n9 c9, .slice u9 m9 d9] (by rfl) (by rfl) (World.news_of_block (cs := #[.slice q9 n9 c9, .slice u9 m9 d9]) (t := 37) (fr := (0, 0)) (heap_alloc_new w9 _)) (by simp [Value.oneCell']) (by omega) (by unfold maxLen; omega) (by omega) ?_
                 intro g' cap2 w10 row10 fr10 at10 keep10
                 have y0 := fr10.cell' (cell_alloc_l (F.cell' x0 (fun h => h)) _) (by omega)
                 have y1 := fr10.cell' (cell_alloc_l (F.cell' x1 (fun h => h)) _) (by omega)
                 have y2 := fr10.cell' (cell_alloc_l (F.cell' x2 (fun h => h)) _) (by omega)
                 have y3 := (keep10 _ (by omega)).trans (cell_alloc_l (F.cell' sh1 (fun h => h)) _)
                 have y4 := (keep10 _ (by omega)).trans (cell_alloc_l (F.cell' sh2 (fun h => h)) _)
                 have y5 := (keep10 _ (by omega)).trans (cell_alloc_l (F.cell' sl1 (fun h => h)) _)
                 have y6 := (keep10 _ (by omega)).trans (cell_alloc_l (F.cell' sl2 (fun h => h)) _)
                 have yS := And.intro (And.intro y0 (And.intro y1 y2)) (And.intro y3 (And.intro y4 (And.intro y5 y6)))))
          have hnx : cs.length = k + 2 := hcl
          have rowA := (F.row row7 (fun _ _ h => h)).alloc (.cells #[.slice q9 n9 c9, .slice u9 m9 d9] 37)
          have setsA : Sets (L.take m) cs (w9.alloc (.cells #[.slice q9 n9 c9, .slice u9 m9 d9] 37)) := ((hsets.kept f7).kept F).kept ((Fr.refl nob w9).alloc _)
          have hnew : RSet (w9.alloc (.cells #[.slice q9 n9 c9, .slice u9 m9 d9] 37)) (.agg #[.slice q9 n9 c9, .slice u9 m9 d9]) X9 (semL (L.take m) cs.length).ev := by
            refine (hs9.kept ((Fr.refl nob w9).alloc _)).congr (fun c => ?_)
            rw [hnx, Hstep.out, ev_mk, cube_one xn (by omega)]
          have hSn := setsA.next hform (by omega) rowA fr10 hnew
          have hFn : Fr (fun j => w2.heap.size ≤ j) W3 w10 := (((fwr.trans f7 (fun _ _ h => h.elim)).trans F (fun _ _ h => h.elim)).alloc _).trans fr10 (fun j hj e => by omega)
          have hgn : w2.heap.size ≤ g' := by
            have z1 := fwr.size
            have z2 := f7.size
            have z3 := F.size
            rcases at10 with e | e
            · omega
            · simp only [World.size_alloc] at e; omega
          have hfn : ∀ p (h : p < (cs ++ [((Value.slice q9 n9 c9 : Value), (Value.slice u9 m9 d9 : Value))]).length), ∃ q n c u m d, (cs ++ [((Value.slice q9 n9 c9 : Value), (Value.slice u9 m9 d9 : Value))])[p] = (Value.slice q n c, Value.slice u m d) := by
            intro p hp
            by_cases hpc : p < cs.length
            · rw [List.getElem_append_left hpc]; exact hform p hpc
            · obtain rfl : p = cs.length := by simp at hp; omega
              exact ⟨_, _, _, _, _, _, by simp; exact ⟨⟨rfl, rfl, rfl⟩, rfl, rfl, rfl⟩⟩
          have hrn : w10.ownsRow 0 37 2 (.slice (some ⟨g', 0, none⟩) (k + 2 + 1) cap2) (k + 2 + 1) (flat (cs ++ [(.slice q9 n9 c9, .slice u9 m9 d9)])) := by rw [flat_snoc]; exact row10
          clear rowA setsA hnew row10 fr10 at10 keep10 y0 y1 y2 y3 y4 y5 y6 yS hs9 F hcube row7 x0 x1 x2 sh1 sh2 sl1 sl2 h8 hHk hLk
          go_wp2_with fail
          go_roundw
          case rel => exact ⟨k + 1, g', cap2, _, by omega, by go_num, rfl, by simp; omega, hfn, hrn, hSn, hgn, hFn⟩
          case measure => simp [intOf]; omega
        · replace hh6 := f5.cell' hh6 (fun h => h)
          have hh7 : ¬ yh ≤ (xn : Int) := by omega
          go_quiet (fail)
          go_wp2_with fail
          have hcube : ∀ W, Calls Try.prog 23 #[.int .u32 (IntKind.u32.wrap (2 ^ min (IntKind.u64.wrap (xn : Int)).toNat 32)), .int .u32 0] W fun e w' => ∃ v', e = .returned v' ∧ RSet w' v' (featL (2 ^ xn ||| 0)) (cubeF (2 ^ xn) 0) ∧ Below W.heap.size W w' := fun W => by
            rw [shl_u32 (by omega)]; exact RCube_any (2 ^ xn) 0 (Nat.pow_lt_pow_right (by omega) (by omega)) (by decide) W
          have f7 : Fr nob wr (W6.drewN nq) := f5.drewN nq
          have row7 := f7.row hrw (fun _ _ h => h)
          have sets7 := hsets.kept f7
          replace x0 : (W6.drewN nq).cell? ⟨wr.heap.size, 0, none⟩ = some (.int .i64 (xn : Int)) := x0
          replace x1 : (W6.drewN nq).cell? ⟨wr.heap.size, 1, none⟩ = some (.int .i64 (ln : Int)) := x1
          replace x2 : (W6.drewN nq).cell? ⟨wr.heap.size, 2, none⟩ = some (.int .i64 (hn : Int)) := x2
          have lgr : g < wr.heap.size := (hrw.lt g rfl).2
          have hnl : hn < cs.length := by omega
          have lnl : ln < cs.length := by omega
          obtain ⟨fh1, fh2⟩ := flat_at hnl
          obtain ⟨fl1, fl2⟩ := flat_at lnl
          have sh1 := (row7.cellAt (hn * 2) (by omega)).trans fh1
          have sh2 := (row7.cellAt (hn * 2 + 1) (by omega)).trans fh2
          have sl1 := (row7.cellAt (ln * 2) (by omega)).trans fl1
          have sl2 := (row7.cellAt (ln * 2 + 1) (by omega)).trans fl2
          obtain ⟨VH, hH⟩ := sets7 hn hnl
          obtain ⟨VL, hLo⟩ := sets7 ln lnl
          have hn0 : (0 : Int) ≤ (hn : Int) := Int.natCast_nonneg _
          have ln0 : (0 : Int) ≤ (ln : Int) := Int.natCast_nonneg _
          have hn3 : (hn : Int) < (k : Int) + 2 := by omega
          have ln3 : (ln : Int) < (k : Int) + 2 := by omega
          have hn4 : (hn : Int) < ((k + 2 : Nat) : Int) := by omega
          have ln4 : (ln : Int) < ((k + 2 : Nat) : Int) := by omega
          have xn0 : (0 : Int) ≤ (xn : Int) := Int.natCast_nonneg _
          have Hstep := Lib.hid hstep
          have hHk : ∀ W, Fr nob (W6.drewN nq) W → RSet W (.agg #[cs[hn].1, cs[hn].2]) VH (semL (L.take m) hn).ev := fun W h => hH.kept h
          have hLk : ∀ W, Fr nob (W6.drewN nq) W → RSet W (.agg #[cs[ln].1, cs[ln].2]) VL (semL (L.take m) ln).ev := fun W h => hLo.kept h
          generalize cs[hn].1 = sA at *
          generalize cs[hn].2 = sB at *
          generalize cs[ln].1 = sC at *
          generalize cs[ln].2 = sD at *
          clear hbad hval hv hB2 hB hH hLo sets7 fh1 fh2 fl1 fl2 hstep d0 d1 d2 hx0 hx1 lo0 lo1 hi0' hi1 f4
          generalize W6.drewN nq = W7 at *
          have F : Fr nob W7 W7.drew := (Fr.refl nob W7).drew
          go_region_held3 (fun w' => (w'.cell? ⟨wr.heap.size, 0, none⟩ = some (.int .i64 (xn : Int)) ∧ w'.cell? ⟨wr.heap.size, 1, none⟩ = some (.int .i64 (ln : Int)) ∧ w'.cell? ⟨wr.heap.size, 2, none⟩ = some (.int .i64 (hn : Int))) ∧
              w'.cell? ⟨g, hn * 2, none⟩ = some sA ∧ w'.cell? ⟨g, hn * 2 + 1, none⟩ = some sB ∧ w'.cell? ⟨g, ln * 2, none⟩ = some sC ∧ w'.cell? ⟨g, ln * 2 + 1, none⟩ = some sD)
            (first
              | exact ⟨⟨F.cell' x0 (fun h => h), F.cell' x1 (fun h => h), F.cell' x2 (fun h => h)⟩, F.cell' sh1 (fun h => h), F.cell' sh2 (fun h => h), F.cell' sl1 (fun h => h), F.cell' sl2 (fun h => h)⟩
                        | assumption
              | (go_keep; done))
            (first
              | (go_at_call 23
                 (with_reducible refine (hcube _).mono ?_)
                 rintro e w8 ⟨v8, rfl, hs8, hb8⟩
                 have f8 := (Fr.refl nob _).below hb8
                 replace F := F.trans f8 (fun _ _ h => h)
                 have h8 := fun W (h : Fr nob w8 W) => hs8.kept h
                 clear hb8 f8 hs8)
              | (go_at_call 22
                 (with_reducible refine (RIte_any (featL (2 ^ xn ||| 0)) VH VL (cubeF (2 ^ xn) 0) (semL (L.take m) hn).ev (semL (L.take m) ln).ev v8 (.agg #[sA, sB]) (.agg #[sC, sD]) _ (h8 _ (Fr.refl nob _)) (hHk _ F) (hLk _ F)).mono ?_)
                 rintro e w9 ⟨v9, X9, rfl, hs9, hb9⟩
                 obtain ⟨q9, n9, c9, u9, m9, d9, rfl⟩ := hs9.form
                 have f9 := (Fr.refl nob _).below hb9
                 replace F := F.trans f9 (fun _ _ h => h)
                 clear hb9 f9)
              | (refine step_append_both (by rfl) _ _ _ (by rfl) 37 i0 (.agg #[.slice none 0 0, .slice none 0 0]) 2 48 Try.underlying56 hi0 hz0 hz1 hz2 rfl (by omega) g (k + 2) cap' (flat cs) (by rfl) ((F.row row7 (fun _ _ h => h)).alloc _) ⟨w9.heap.size, 0, none⟩ 1 1 [.slice q9 n9 c9, .slice u9 m9 d9] (by rfl) (by rfl) (World.news_of_block (cs := #[.slice q9 n9 c9, .slice u9 m9 d9]) (t := 37) (fr := (0, 0)) (heap_alloc_new w9 _)) (by simp [Value.oneCell']) (by omega) (by unfold maxLen; omega) (by omega) ?_
                 intro g' cap2 w10 row10 fr10 at10 keep10
                 have y0 := fr10.cell' (cell_alloc_l (F.cell' x0 (fun h => h)) _) (by omega)
                 have y1 := fr10.cell' (cell_alloc_l (F.cell' x1 (fun h => h)) _) (by omega)
                 have y2 := fr10.cell' (cell_alloc_l (F.cell' x2 (fun h => h)) _) (by omega)
                 have y3 := (keep10 _ (by omega)).trans (cell_alloc_l (F.cell' sh1 (fun h => h)) _)
                 have y4 := (keep10 _ (by omega)).trans (cell_alloc_l (F.cell' sh2 (fun h => h)) _)
                 have y5 := (keep10 _ (by omega)).trans (cell_alloc_l (F.cell' sl1 (fun h => h)) _)
                 have y6 := (keep10 _ (by omega)).trans (cell_alloc_l (F.cell' sl2 (fun h => h)) _)
                 have yS := And.intro (And.intro y0 (And.intro y1 y2)) (And.intro y3 (And.intro y4 (And.intro y5 y6)))))
          have hnx : cs.length = k + 2 := hcl
          have rowA := (F.row row7 (fun _ _ h => h)).alloc (.cells #[.slice q9 n9 c9, .slice u9 m9 d9] 37)
          have setsA : Sets (L.take m) cs (w9.alloc (.cells #[.slice q9 n9 c9, .slice u9 m9 d9] 37)) := ((hsets.kept f7).kept F).kept ((Fr.refl nob w9).alloc _)
          have hnew : RSet (w9.alloc (.cells #[.slice q9 n9 c9, .slice u9 m9 d9] 37)) (.agg #[.slice q9 n9 c9, .slice u9 m9 d9]) X9 (semL (L.take m) cs.length).ev := by
            refine (hs9.kept ((Fr.refl nob w9).alloc _)).congr (fun c => ?_)
            rw [hnx, Hstep.out, ev_mk, cube_one xn (by omega)]
          have hSn := setsA.next hform (by omega) rowA fr10 hnew
          have hFn : Fr (fun j => w2.heap.size ≤ j) W3 w10 := (((fwr.trans f7 (fun _ _ h => h.elim)).trans F (fun _ _ h => h.elim)).alloc _).trans fr10 (fun j hj e => by omega)
          have hgn : w2.heap.size ≤ g' := by
            have z1 := fwr.size
            have z2 := f7.size
            have z3 := F.size
            rcases at10 with e | e
            · omega
            · simp only [World.size_alloc] at e; omega
          have hfn : ∀ p (h : p < (cs ++ [((Value.slice q9 n9 c9 : Value), (Value.slice u9 m9 d9 : Value))]).length), ∃ q n c u m d, (cs ++ [((Value.slice q9 n9 c9 : Value), (Value.slice u9 m9 d9 : Value))])[p] = (Value.slice q n c, Value.slice u m d) := by
            intro p hp
            by_cases hpc : p < cs.length
            · rw [List.getElem_append_left hpc]; exact hform p hpc
            · obtain rfl : p = cs.length := by simp at hp; omega
              exact ⟨_, _, _, _, _, _, by simp; exact ⟨⟨rfl, rfl, rfl⟩, rfl, rfl, rfl⟩⟩
          have hrn : w10.ownsRow 0 37 2 (.slice (some ⟨g', 0, none⟩) (k + 2 + 1) cap2) (k + 2 + 1) (flat (cs ++ [(.slice q9 n9 c9, .slice u9 m9 d9)])) := by rw [flat_snoc]; exact row10
          clear rowA setsA hnew row10 fr10 at10 keep10 y0 y1 y2 y3 y4 y5 y6 yS hs9 F hcube row7 x0 x1 x2 sh1 sh2 sl1 sl2 h8 hHk hLk
          go_wp2_with fail
          go_roundw
          case rel => exact ⟨k + 1, g', cap2, _, by omega, by go_num, rfl, by simp; omega, hfn, hrn, hSn, hgn, hFn⟩
          case measure => simp [intOf]; omega
      · replace hl6 := f5.cell' hl6 (fun h => h)
        have hl7 : ¬ yl ≤ (xn : Int) := by omega
        rcases hhigh with ⟨hh1, hh2⟩ | ⟨hh1, hh2, hh3, hh4, yh, hh5, hh6⟩
        · go_quiet (fail)
          go_wp2_with fail
          have hcube : ∀ W, Calls Try.prog 23 #[.int .u32 (IntKind.u32.wrap (2 ^ min (IntKind.u64.wrap (xn : Int)).toNat 32)), .int .u32 0] W fun e w' => ∃ v', e = .returned v' ∧ RSet w' v' (featL (2 ^ xn ||| 0)) (cubeF (2 ^ xn) 0) ∧ Below W.heap.size W w' := fun W => by
            rw [shl_u32 (by omega)]; exact RCube_any (2 ^ xn) 0 (Nat.pow_lt_pow_right (by omega) (by omega)) (by decide) W
          have f7 : Fr nob wr (W6.drewN nq) := f5.drewN nq
          have row7 := f7.row hrw (fun _ _ h => h)
          have sets7 := hsets.kept f7
          replace x0 : (W6.drewN nq).cell? ⟨wr.heap.size, 0, none⟩ = some (.int .i64 (xn : Int)) := x0
          replace x1 : (W6.drewN nq).cell? ⟨wr.heap.size, 1, none⟩ = some (.int .i64 (ln : Int)) := x1
          replace x2 : (W6.drewN nq).cell? ⟨wr.heap.size, 2, none⟩ = some (.int .i64 (hn : Int)) := x2
          have lgr : g < wr.heap.size := (hrw.lt g rfl).2
          have hnl : hn < cs.length := by omega
          have lnl : ln < cs.length := by omega
          obtain ⟨fh1, fh2⟩ := flat_at hnl
          obtain ⟨fl1, fl2⟩ := flat_at lnl
          have sh1 := (row7.cellAt (hn * 2) (by omega)).trans fh1
          have sh2 := (row7.cellAt (hn * 2 + 1) (by omega)).trans fh2
          have sl1 := (row7.cellAt (ln * 2) (by omega)).trans fl1
          have sl2 := (row7.cellAt (ln * 2 + 1) (by omega)).trans fl2
          obtain ⟨VH, hH⟩ := sets7 hn hnl
          obtain ⟨VL, hLo⟩ := sets7 ln lnl
          have hn0 : (0 : Int) ≤ (hn : Int) := Int.natCast_nonneg _
          have ln0 : (0 : Int) ≤ (ln : Int) := Int.natCast_nonneg _
          have hn3 : (hn : Int) < (k : Int) + 2 := by omega
          have ln3 : (ln : Int) < (k : Int) + 2 := by omega
          have hn4 : (hn : Int) < ((k + 2 : Nat) : Int) := by omega
          have ln4 : (ln : Int) < ((k + 2 : Nat) : Int) := by omega
          have xn0 : (0 : Int) ≤ (xn : Int) := Int.natCast_nonneg _
          have Hstep := Lib.hid hstep
          have hHk : ∀ W, Fr nob (W6.drewN nq) W → RSet W (.agg #[cs[hn].1, cs[hn].2]) VH (semL (L.take m) hn).ev := fun W h => hH.kept h
          have hLk : ∀ W, Fr nob (W6.drewN nq) W → RSet W (.agg #[cs[ln].1, cs[ln].2]) VL (semL (L.take m) ln).ev := fun W h => hLo.kept h
          generalize cs[hn].1 = sA at *
          generalize cs[hn].2 = sB at *
          generalize cs[ln].1 = sC at *
          generalize cs[ln].2 = sD at *
          clear hbad hval hv hB2 hB hH hLo sets7 fh1 fh2 fl1 fl2 hstep d0 d1 d2 hx0 hx1 lo0 lo1 hi0' hi1 f4
          generalize W6.drewN nq = W7 at *
          have F : Fr nob W7 W7.drew := (Fr.refl nob W7).drew
          go_region_held3 (fun w' => (w'.cell? ⟨wr.heap.size, 0, none⟩ = some (.int .i64 (xn : Int)) ∧ w'.cell? ⟨wr.heap.size, 1, none⟩ = some (.int .i64 (ln : Int)) ∧ w'.cell? ⟨wr.heap.size, 2, none⟩ = some (.int .i64 (hn : Int))) ∧
              w'.cell? ⟨g, hn * 2, none⟩ = some sA ∧ w'.cell? ⟨g, hn * 2 + 1, none⟩ = some sB ∧ w'.cell? ⟨g, ln * 2, none⟩ = some sC ∧ w'.cell? ⟨g, ln * 2 + 1, none⟩ = some sD)
            (first
              | exact ⟨⟨F.cell' x0 (fun h => h), F.cell' x1 (fun h => h), F.cell' x2 (fun h => h)⟩, F.cell' sh1 (fun h => h), F.cell' sh2 (fun h => h), F.cell' sl1 (fun h => h), F.cell' sl2 (fun h => h)⟩
                        | assumption
              | (go_keep; done))
            (first
              | (go_at_call 23
                 (with_reducible refine (hcube _).mono ?_)
                 rintro e w8 ⟨v8, rfl, hs8, hb8⟩
                 have f8 := (Fr.refl nob _).below hb8
                 replace F := F.trans f8 (fun _ _ h => h)
                 have h8 := fun W (h : Fr nob w8 W) => hs8.kept h
                 clear hb8 f8 hs8)
              | (go_at_call 22
                 (with_reducible refine (RIte_any (featL (2 ^ xn ||| 0)) VH VL (cubeF (2 ^ xn) 0) (semL (L.take m) hn).ev (semL (L.take m) ln).ev v8 (.agg #[sA, sB]) (.agg #[sC, sD]) _ (h8 _ (Fr.refl nob _)) (hHk _ F) (hLk _ F)).mono ?_)
                 rintro e w9 ⟨v9, X9, rfl, hs9, hb9⟩
                 obtain ⟨q9, n9, c9, u9, m9, d9, rfl⟩ := hs9.form
                 have f9 := (Fr.refl nob _).below hb9
                 replace F := F.trans f9 (fun _ _ h => h)
                 clear hb9 f9)
              | (refine step_append_both (by rfl) _ _ _ (by rfl) 37 i0 (.agg #[.slice none 0 0, .slice none 0 0]) 2 48 Try.underlying56 hi0 hz0 hz1 hz2 rfl (by omega) g (k + 2) cap' (flat cs) (by rfl) ((F.row row7 (fun _ _ h => h)).alloc _) ⟨w9.heap.size, 0, none⟩ 1 1 [.slice q9 n9 c9, .slice u9 m9 d9] (by rfl) (by rfl) (World.news_of_block (cs := #[.slice q9 n9 c9, .slice u9 m9 d9]) (t := 37) (fr := (0, 0)) (heap_alloc_new w9 _)) (by simp [Value.oneCell']) (by omega) (by unfold maxLen; omega) (by omega) ?_
                 intro g' cap2 w10 row10 fr10 at10 keep10
                 have y0 := fr10.cell' (cell_alloc_l (F.cell' x0 (fun h => h)) _) (by omega)
                 have y1 := fr10.cell' (cell_alloc_l (F.cell' x1 (fun h => h)) _) (by omega)
                 have y2 := fr10.cell' (cell_alloc_l (F.cell' x2 (fun h => h)) _) (by omega)
                 have y3 := (keep10 _ (by omega)).trans (cell_alloc_l (F.cell' sh1 (fun h => h)) _)
                 have y4 := (keep10 _ (by omega)).trans (cell_alloc_l (F.cell' sh2 (fun h => h)) _)
                 have y5 := (keep10 _ (by omega)).trans (cell_alloc_l (F.cell' sl1 (fun h => h)) _)
                 have y6 := (keep10 _ (by omega)).trans (cell_alloc_l (F.cell' sl2 (fun h => h)) _)
                 have yS := And.intro (And.intro y0 (And.intro y1 y2)) (And.intro y3 (And.intro y4 (And.intro y5 y6)))))
          have hnx : cs.length = k + 2 := hcl
          have rowA := (F.row row7 (fun _ _ h => h)).alloc (.cells #[.slice q9 n9 c9, .slice u9 m9 d9] 37)
          have setsA : Sets (L.take m) cs (w9.alloc (.cells #[.slice q9 n9 c9, .slice u9 m9 d9] 37)) := ((hsets.kept f7).kept F).kept ((Fr.refl nob w9).alloc _)
          have hnew : RSet (w9.alloc (.cells #[.slice q9 n9 c9, .slice u9 m9 d9] 37)) (.agg #[.slice q9 n9 c9, .slice u9 m9 d9]) X9 (semL (L.take m) cs.length).ev := by
            refine (hs9.kept ((Fr.refl nob w9).alloc _)).congr (fun c => ?_)
            rw [hnx, Hstep.out, ev_mk, cube_one xn (by omega)]
          have hSn := setsA.next hform (by omega) rowA fr10 hnew
          have hFn : Fr (fun j => w2.heap.size ≤ j) W3 w10 := (((fwr.trans f7 (fun _ _ h => h.elim)).trans F (fun _ _ h => h.elim)).alloc _).trans fr10 (fun j hj e => by omega)
          have hgn : w2.heap.size ≤ g' := by
            have z1 := fwr.size
            have z2 := f7.size
            have z3 := F.size
            rcases at10 with e | e
            · omega
            · simp only [World.size_alloc] at e; omega
          have hfn : ∀ p (h : p < (cs ++ [((Value.slice q9 n9 c9 : Value), (Value.slice u9 m9 d9 : Value))]).length), ∃ q n c u m d, (cs ++ [((Value.slice q9 n9 c9 : Value), (Value.slice u9 m9 d9 : Value))])[p] = (Value.slice q n c, Value.slice u m d) := by
            intro p hp
            by_cases hpc : p < cs.length
            · rw [List.getElem_append_left hpc]; exact hform p hpc
            · obtain rfl : p = cs.length := by simp at hp; omega
              exact ⟨_, _, _, _, _, _, by simp; exact ⟨⟨rfl, rfl, rfl⟩, rfl, rfl, rfl⟩⟩
          have hrn : w10.ownsRow 0 37 2 (.slice (some ⟨g', 0, none⟩) (k + 2 + 1) cap2) (k + 2 + 1) (flat (cs ++ [(.slice q9 n9 c9, .slice u9 m9 d9)])) := by rw [flat_snoc]; exact row10
          clear rowA setsA hnew row10 fr10 at10 keep10 y0 y1 y2 y3 y4 y5 y6 yS hs9 F hcube row7 x0 x1 x2 sh1 sh2 sl1 sl2 h8 hHk hLk
          go_wp2_with fail
          go_roundw
          case rel => exact ⟨k + 1, g', cap2, _, by omega, by go_num, rfl, by simp; omega, hfn, hrn, hSn, hgn, hFn⟩
          case measure => simp [intOf]; omega
        · replace hh6 := f5.cell' hh6 (fun h => h)
          have hh7 : ¬ yh ≤ (xn : Int) := by omega
          go_quiet (fail)
          go_wp2_with fail
          have hcube : ∀ W, Calls Try.prog 23 #[.int .u32 (IntKind.u32.wrap (2 ^ min (IntKind.u64.wrap (xn : Int)).toNat 32)), .int .u32 0] W fun e w' => ∃ v', e = .returned v' ∧ RSet w' v' (featL (2 ^ xn ||| 0)) (cubeF (2 ^ xn) 0) ∧ Below W.heap.size W w' := fun W => by
            rw [shl_u32 (by omega)]; exact RCube_any (2 ^ xn) 0 (Nat.pow_lt_pow_right (by omega) (by omega)) (by decide) W
          have f7 : Fr nob wr (W6.drewN nq) := f5.drewN nq
          have row7 := f7.row hrw (fun _ _ h => h)
          have sets7 := hsets.kept f7
          replace x0 : (W6.drewN nq).cell? ⟨wr.heap.size, 0, none⟩ = some (.int .i64 (xn : Int)) := x0
          replace x1 : (W6.drewN nq).cell? ⟨wr.heap.size, 1, none⟩ = some (.int .i64 (ln : Int)) := x1
          replace x2 : (W6.drewN nq).cell? ⟨wr.heap.size, 2, none⟩ = some (.int .i64 (hn : Int)) := x2
          have lgr : g < wr.heap.size := (hrw.lt g rfl).2
          have hnl : hn < cs.length := by omega
          have lnl : ln < cs.length := by omega
          obtain ⟨fh1, fh2⟩ := flat_at hnl
          obtain ⟨fl1, fl2⟩ := flat_at lnl
          have sh1 := (row7.cellAt (hn * 2) (by omega)).trans fh1
          have sh2 := (row7.cellAt (hn * 2 + 1) (by omega)).trans fh2
          have sl1 := (row7.cellAt (ln * 2) (by omega)).trans fl1
          have sl2 := (row7.cellAt (ln * 2 + 1) (by omega)).trans fl2
          obtain ⟨VH, hH⟩ := sets7 hn hnl
          obtain ⟨VL, hLo⟩ := sets7 ln lnl
          have hn0 : (0 : Int) ≤ (hn : Int) := Int.natCast_nonneg _
          have ln0 : (0 : Int) ≤ (ln : Int) := Int.natCast_nonneg _
          have hn3 : (hn : Int) < (k : Int) + 2 := by omega
          have ln3 : (ln : Int) < (k : Int) + 2 := by omega
          have hn4 : (hn : Int) < ((k + 2 : Nat) : Int) := by omega
          have ln4 : (ln : Int) < ((k + 2 : Nat) : Int) := by omega
          have xn0 : (0 : Int) ≤ (xn : Int) := Int.natCast_nonneg _
          have Hstep := Lib.hid hstep
          have hHk : ∀ W, Fr nob (W6.drewN nq) W → RSet W (.agg #[cs[hn].1, cs[hn].2]) VH (semL (L.take m) hn).ev := fun W h => hH.kept h
          have hLk : ∀ W, Fr nob (W6.drewN nq) W → RSet W (.agg #[cs[ln].1, cs[ln].2]) VL (semL (L.take m) ln).ev := fun W h => hLo.kept h
          generalize cs[hn].1 = sA at *
          generalize cs[hn].2 = sB at *
          generalize cs[ln].1 = sC at *
          generalize cs[ln].2 = sD at *
          clear hbad hval hv hB2 hB hH hLo sets7 fh1 fh2 fl1 fl2 hstep d0 d1 d2 hx0 hx1 lo0 lo1 hi0' hi1 f4
          generalize W6.drewN nq = W7 at *
          have F : Fr nob W7 W7.drew := (Fr.refl nob W7).drew
          go_region_held3 (fun w' => (w'.cell? ⟨wr.heap.size, 0, none⟩ = some (.int .i64 (xn : Int)) ∧ w'.cell? ⟨wr.heap.size, 1, none⟩ = some (.int .i64 (ln : Int)) ∧ w'.cell? ⟨wr.heap.size, 2, none⟩ = some (.int .i64 (hn : Int))) ∧
              w'.cell? ⟨g, hn * 2, none⟩ = some sA ∧ w'.cell? ⟨g, hn * 2 + 1, none⟩ = some sB ∧ w'.cell? ⟨g, ln * 2, none⟩ = some sC ∧ w'.cell? ⟨g, ln * 2 + 1, none⟩ = some sD)
            (first
              | exact ⟨⟨F.cell' x0 (fun h => h), F.cell' x1 (fun h => h), F.cell' x2 (fun h => h)⟩, F.cell' sh1 (fun h => h), F.cell' sh2 (fun h => h), F.cell' sl1 (fun h => h), F.cell' sl2 (fun h => h)⟩
                        | assumption
              | (go_keep; done))
            (first
              | (go_at_call 23
                 (with_reducible refine (hcube _).mono ?_)
                 rintro e w8 ⟨v8, rfl, hs8, hb8⟩
                 have f8 := (Fr.refl nob _).below hb8
                 replace F := F.trans f8 (fun _ _ h => h)
                 have h8 := fun W (h : Fr nob w8 W) => hs8.kept h
                 clear hb8 f8 hs8)
              | (go_at_call 22
                 (with_reducible refine (RIte_any (featL (2 ^ xn ||| 0)) VH VL (cubeF (2 ^ xn) 0) (semL (L.take m) hn).ev (semL (L.take m) ln).ev v8 (.agg #[sA, sB]) (.agg #[sC, sD]) _ (h8 _ (Fr.refl nob _)) (hHk _ F) (hLk _ F)).mono ?_)
                 rintro e w9 ⟨v9, X9, rfl, hs9, hb9⟩
                 obtain ⟨q9, n9, c9, u9, m9, d9, rfl⟩ := hs9.form
                 have f9 := (Fr.refl nob _).below hb9
                 replace F := F.trans f9 (fun _ _ h => h)
                 clear hb9 f9)
              | (refine step_append_both (by rfl) _ _ _ (by rfl) 37 i0 (.agg #[.slice none 0 0, .slice none 0 0]) 2 48 Try.underlying56 hi0 hz0 hz1 hz2 rfl (by omega) g (k + 2) cap' (flat cs) (by rfl) ((F.row row7 (fun _ _ h => h)).alloc _) ⟨w9.heap.size, 0, none⟩ 1 1 [.slice q9 n9 c9, .slice u9 m9 d9] (by rfl) (by rfl) (World.news_of_block (cs := #[.slice q9 n9 c9, .slice u9 m9 d9]) (t := 37) (fr := (0, 0)) (heap_alloc_new w9 _)) (by simp [Value.oneCell']) (by omega) (by unfold maxLen; omega) (by omega) ?_
                 intro g' cap2 w10 row10 fr10 at10 keep10
                 have y0 := fr10.cell' (cell_alloc_l (F.cell' x0 (fun h => h)) _) (by omega)
                 have y1 := fr10.cell' (cell_alloc_l (F.cell' x1 (fun h => h)) _) (by omega)
                 have y2 := fr10.cell' (cell_alloc_l (F.cell' x2 (fun h => h)) _) (by omega)
                 have y3 := (keep10 _ (by omega)).trans (cell_alloc_l (F.cell' sh1 (fun h => h)) _)
                 have y4 := (keep10 _ (by omega)).trans (cell_alloc_l (F.cell' sh2 (fun h => h)) _)
                 have y5 := (keep10 _ (by omega)).trans (cell_alloc_l (F.cell' sl1 (fun h => h)) _)
                 have y6 := (keep10 _ (by omega)).trans (cell_alloc_l (F.cell' sl2 (fun h => h)) _)
                 have yS := And.intro (And.intro y0 (And.intro y1 y2)) (And.intro y3 (And.intro y4 (And.intro y5 y6)))))
          have hnx : cs.length = k + 2 := hcl
          have rowA := (F.row row7 (fun _ _ h => h)).alloc (.cells #[.slice q9 n9 c9, .slice u9 m9 d9] 37)
          have setsA : Sets (L.take m) cs (w9.alloc (.cells #[.slice q9 n9 c9, .slice u9 m9 d9] 37)) := ((hsets.kept f7).kept F).kept ((Fr.refl nob w9).alloc _)
          have hnew : RSet (w9.alloc (.cells #[.slice q9 n9 c9, .slice u9 m9 d9] 37)) (.agg #[.slice q9 n9 c9, .slice u9 m9 d9]) X9 (semL (L.take m) cs.length).ev := by
            refine (hs9.kept ((Fr.refl nob w9).alloc _)).congr (fun c => ?_)
            rw [hnx, Hstep.out, ev_mk, cube_one xn (by omega)]
          have hSn := setsA.next hform (by omega) rowA fr10 hnew
          have hFn : Fr (fun j => w2.heap.size ≤ j) W3 w10 := (((fwr.trans f7 (fun _ _ h => h.elim)).trans F (fun _ _ h => h.elim)).alloc _).trans fr10 (fun j hj e => by omega)
          have hgn : w2.heap.size ≤ g' := by
            have z1 := fwr.size
            have z2 := f7.size
            have z3 := F.size
            rcases at10 with e | e
            · omega
            · simp only [World.size_alloc] at e; omega
          have hfn : ∀ p (h : p < (cs ++ [((Value.slice q9 n9 c9 : Value), (Value.slice u9 m9 d9 : Value))]).length), ∃ q n c u m d, (cs ++ [((Value.slice q9 n9 c9 : Value), (Value.slice u9 m9 d9 : Value))])[p] = (Value.slice q n c, Value.slice u m d) := by
            intro p hp
            by_cases hpc : p < cs.length
            · rw [List.getElem_append_left hpc]; exact hform p hpc
            · obtain rfl : p = cs.length := by simp at hp; omega
              exact ⟨_, _, _, _, _, _, by simp; exact ⟨⟨rfl, rfl, rfl⟩, rfl, rfl, rfl⟩⟩
          have hrn : w10.ownsRow 0 37 2 (.slice (some ⟨g', 0, none⟩) (k + 2 + 1) cap2) (k + 2 + 1) (flat (cs ++ [(.slice q9 n9 c9, .slice u9 m9 d9)])) := by rw [flat_snoc]; exact row10
          clear rowA setsA hnew row10 fr10 at10 keep10 y0 y1 y2 y3 y4 y5 y6 yS hs9 F hcube row7 x0 x1 x2 sh1 sh2 sl1 sl2 h8 hHk hLk
          go_wp2_with fail
          go_roundw
          case rel => exact ⟨k + 1, g', cap2, _, by omega, by go_num, rfl, by simp; omega, hfn, hrn, hSn, hgn, hFn⟩
          case measure => simp [intOf]; omega
    · obtain rfl : k = m := by omega
      have l0 : w.heap.size < wr.heap.size := lt_of_cell r0
      have fzr0 := (fwr.frozen (p := ⟨w.heap.size, 0, none⟩) lW3 (by simp; omega)).trans fz0
      have fzr1 := (fwr.frozen (p := ⟨w.heap.size, 1, none⟩) lW3 (by simp; omega)).trans fz1
      by_cases hml : k < L.length
      · have hb := hbad hml
        have hd : L[k]? = some L[k] := by simp [hml]
        obtain ⟨b, o, rfl, d0, d1, d2⟩ := (hv.below hB).at hd
        have hvr := hv.below hB
        generalize L[k] = d at *
        obtain ⟨x, lo, hi⟩ := d
        have hkk : (k : Int) < (L.length : Int) := by omega
        have f4 : Fr nob wr (wr.alloc (.cells #[.int .i64 x, .int .i64 lo, .int .i64 hi] 26)) := (Fr.refl nob wr).alloc _
        have x0 : (wr.alloc (.cells #[.int .i64 x, .int .i64 lo, .int .i64 hi] 26)).cell? ⟨wr.heap.size, 0, none⟩ = some (.int .i64 x) := World.cell?_alloc_at _ _ _ _ (by simp)
        have x1 : (wr.alloc (.cells #[.int .i64 x, .int .i64 lo, .int .i64 hi] 26)).cell? ⟨wr.heap.size, 1, none⟩ = some (.int .i64 lo) := World.cell?_alloc_at _ _ _ _ (by simp)
        have x2 : (wr.alloc (.cells #[.int .i64 x, .int .i64 lo, .int .i64 hi] 26)).cell? ⟨wr.heap.size, 2, none⟩ = some (.int .i64 hi) := World.cell?_alloc_at _ _ _ _ (by simp)
        clear hd hsets hform hrw hcl hg
        by_cases a1 : x < 0
        · clear hb hvr
          go_wp2_with fail
          refine (Const_any false _).mono ?_
          rintro e wq ⟨vq, rfl, hsq, hbq⟩
          obtain ⟨q7, n7, c7, u7, m7, d7, rfl⟩ := hsq.form
          have fq := (f4).below hbq
          have s0 := fq.cell' r0 (fun h => h)
          have s1 := fq.cell' r1 (fun h => h)
          have sf0 := (fq.frozen (p := ⟨w.heap.size, 0, none⟩) l0 (fun h => h)).trans fzr0
          have sf1 := (fq.frozen (p := ⟨w.heap.size, 1, none⟩) l0 (fun h => h)).trans fzr1
          have hBq := hB.trans (fq.to_below hB.size (fun _ h => h.elim))
          have hst := hsq.stored s0 (.slice q7 n7 c7) (.slice u7 m7 d7)
          clear hbq hsq fq r0 r1
          go_wp2_with fail
          refine bodyPost_ret (v := .tuple #[.agg #[.slice q7 n7 c7, .slice u7 m7 d7], .int .i64 4]) (by simp [results, Try.results7, go_sem, s0, s1]) rfl (OfPost.intro hst ((hBq.setCell (p := ⟨w.heap.size, 0, none⟩) (Nat.le_refl _) _).setCell (p := ⟨w.heap.size, 1, none⟩) (Nat.le_refl _) _) (fun _ => ⟨rfl, fun _ => rfl⟩) (fun h => absurd h (by omega)) (fun h => absurd h (by omega)))
        by_cases a2 : 23 < x
        · clear hb hvr
          go_wp2_with fail
          refine (Const_any false _).mono ?_
          rintro e wq ⟨vq, rfl, hsq, hbq⟩
          obtain ⟨q7, n7, c7, u7, m7, d7, rfl⟩ := hsq.form
          have fq := (f4).below hbq
          have s0 := fq.cell' r0 (fun h => h)
          have s1 := fq.cell' r1 (fun h => h)
          have sf0 := (fq.frozen (p := ⟨w.heap.size, 0, none⟩) l0 (fun h => h)).trans fzr0
          have sf1 := (fq.frozen (p := ⟨w.heap.size, 1, none⟩) l0 (fun h => h)).trans fzr1
          have hBq := hB.trans (fq.to_below hB.size (fun _ h => h.elim))
          have hst := hsq.stored s0 (.slice q7 n7 c7) (.slice u7 m7 d7)
          clear hbq hsq fq r0 r1
          go_wp2_with fail
          refine bodyPost_ret (v := .tuple #[.agg #[.slice q7 n7 c7, .slice u7 m7 d7], .int .i64 4]) (by simp [results, Try.results7, go_sem, s0, s1]) rfl (OfPost.intro hst ((hBq.setCell (p := ⟨w.heap.size, 0, none⟩) (Nat.le_refl _) _).setCell (p := ⟨w.heap.size, 1, none⟩) (Nat.le_refl _) _) (fun _ => ⟨rfl, fun _ => rfl⟩) (fun h => absurd h (by omega)) (fun h => absurd h (by omega)))
        by_cases a3 : lo < 0
        · clear hb hvr
          go_wp2_with fail
          refine (Const_any false _).mono ?_
          rintro e wq ⟨vq, rfl, hsq, hbq⟩
          obtain ⟨q7, n7, c7, u7, m7, d7, rfl⟩ := hsq.form
          have fq := (f4).below hbq
          have s0 := fq.cell' r0 (fun h => h)
          have s1 := fq.cell' r1 (fun h => h)
          have sf0 := (fq.frozen (p := ⟨w.heap.size, 0, none⟩) l0 (fun h => h)).trans fzr0
          have sf1 := (fq.frozen (p := ⟨w.heap.size, 1, none⟩) l0 (fun h => h)).trans fzr1
          have hBq := hB.trans (fq.to_below hB.size (fun _ h => h.elim))
          have hst := hsq.stored s0 (.slice q7 n7 c7) (.slice u7 m7 d7)
          clear hbq hsq fq r0 r1
          go_wp2_with fail
          refine bodyPost_ret (v := .tuple #[.agg #[.slice q7 n7 c7, .slice u7 m7 d7], .int .i64 4]) (by simp [results, Try.results7, go_sem, s0, s1]) rfl (OfPost.intro hst ((hBq.setCell (p := ⟨w.heap.size, 0, none⟩) (Nat.le_refl _) _).setCell (p := ⟨w.heap.size, 1, none⟩) (Nat.le_refl _) _) (fun _ => ⟨rfl, fun _ => rfl⟩) (fun h => absurd h (by omega)) (fun h => absurd h (by omega)))
        by_cases a4 : (k : Int) + 1 < lo
        · clear hb hvr
          go_wp2_with fail
          refine (Const_any false _).mono ?_
          rintro e wq ⟨vq, rfl, hsq, hbq⟩
          obtain ⟨q7, n7, c7, u7, m7, d7, rfl⟩ := hsq.form
          have fq := (f4).below hbq
          have s0 := fq.cell' r0 (fun h => h)
          have s1 := fq.cell' r1 (fun h => h)
          have sf0 := (fq.frozen (p := ⟨w.heap.size, 0, none⟩) l0 (fun h => h)).trans fzr0
          have sf1 := (fq.frozen (p := ⟨w.heap.size, 1, none⟩) l0 (fun h => h)).trans fzr1
          have hBq := hB.trans (fq.to_below hB.size (fun _ h => h.elim))
          have hst := hsq.stored s0 (.slice q7 n7 c7) (.slice u7 m7 d7)
          clear hbq hsq fq r0 r1
          go_wp2_with fail
          refine bodyPost_ret (v := .tuple #[.agg #[.slice q7 n7 c7, .slice u7 m7 d7], .int .i64 4]) (by simp [results, Try.results7, go_sem, s0, s1]) rfl (OfPost.intro hst ((hBq.setCell (p := ⟨w.heap.size, 0, none⟩) (Nat.le_refl _) _).setCell (p := ⟨w.heap.size, 1, none⟩) (Nat.le_refl _) _) (fun _ => ⟨rfl, fun _ => rfl⟩) (fun h => absurd h (by omega)) (fun h => absurd h (by omega)))
        by_cases a5 : hi < 0
        · clear hb hvr
          go_wp2_with fail
          refine (Const_any false _).mono ?_
          rintro e wq ⟨vq, rfl, hsq, hbq⟩
          obtain ⟨q7, n7, c7, u7, m7, d7, rfl⟩ := hsq.form
          have fq := (f4).below hbq
          have s0 := fq.cell' r0 (fun h => h)
          have s1 := fq.cell' r1 (fun h => h)
          have sf0 := (fq.frozen (p := ⟨w.heap.size, 0, none⟩) l0 (fun h => h)).trans fzr0
          have sf1 := (fq.frozen (p := ⟨w.heap.size, 1, none⟩) l0 (fun h => h)).trans fzr1
          have hBq := hB.trans (fq.to_below hB.size (fun _ h => h.elim))
          have hst := hsq.stored s0 (.slice q7 n7 c7) (.slice u7 m7 d7)
          clear hbq hsq fq r0 r1
          go_wp2_with fail
          refine bodyPost_ret (v := .tuple #[.agg #[.slice q7 n7 c7, .slice u7 m7 d7], .int .i64 4]) (by simp [results, Try.results7, go_sem, s0, s1]) rfl (OfPost.intro hst ((hBq.setCell (p := ⟨w.heap.size, 0, none⟩) (Nat.le_refl _) _).setCell (p := ⟨w.heap.size, 1, none⟩) (Nat.le_refl _) _) (fun _ => ⟨rfl, fun _ => rfl⟩) (fun h => absurd h (by omega)) (fun h => absurd h (by omega)))
        by_cases a6 : (k : Int) + 1 < hi
        · clear hb hvr
          go_wp2_with fail
          refine (Const_any false _).mono ?_
          rintro e wq ⟨vq, rfl, hsq, hbq⟩
          obtain ⟨q7, n7, c7, u7, m7, d7, rfl⟩ := hsq.form
          have fq := (f4).below hbq
          have s0 := fq.cell' r0 (fun h => h)
          have s1 := fq.cell' r1 (fun h => h)
          have sf0 := (fq.frozen (p := ⟨w.heap.size, 0, none⟩) l0 (fun h => h)).trans fzr0
          have sf1 := (fq.frozen (p := ⟨w.heap.size, 1, none⟩) l0 (fun h => h)).trans fzr1
          have hBq := hB.trans (fq.to_below hB.size (fun _ h => h.elim))
          have hst := hsq.stored s0 (.slice q7 n7 c7) (.slice u7 m7 d7)
          clear hbq hsq fq r0 r1
          go_wp2_with fail
          refine bodyPost_ret (v := .tuple #[.agg #[.slice q7 n7 c7, .slice u7 m7 d7], .int .i64 4]) (by simp [results, Try.results7, go_sem, s0, s1]) rfl (OfPost.intro hst ((hBq.setCell (p := ⟨w.heap.size, 0, none⟩) (Nat.le_refl _) _).setCell (p := ⟨w.heap.size, 1, none⟩) (Nat.le_refl _) _) (fun _ => ⟨rfl, fun _ => rfl⟩) (fun h => absurd h (by omega)) (fun h => absurd h (by omega)))
        obtain ⟨xn, rfl⟩ : ∃ n : Nat, x = n := ⟨x.toNat, by omega⟩
        obtain ⟨ln, rfl⟩ : ∃ n : Nat, lo = n := ⟨lo.toNat, by omega⟩
        obtain ⟨hn, rfl⟩ : ∃ n : Nat, hi = n := ⟨hi.toNat, by omega⟩
        have hvL : 2 ≤ ln → wr.cell? ⟨b, o + (ln - 2) * 3, none⟩ = some (.int .i64 (lAt L ln).1) := fun h => hvr.var h (by omega)
        have hvH : 2 ≤ hn → wr.cell? ⟨b, o + (hn - 2) * 3, none⟩ = some (.int .i64 (lAt L hn).1) := fun h => hvr.var h (by omega)
        have hno : ¬ ((2 ≤ ln → (xn : Int) < (lAt L ln).1) ∧ (2 ≤ hn → (xn : Int) < (lAt L hn).1)) := by
          rintro ⟨h1, h2⟩
          have : fitsD L k ((xn : Int), (ln : Int), (hn : Int)) = true := fitsD_iff.2 ⟨by simp only; omega, by simp only; omega, fitsC_iff.2 ⟨by simp only; omega, by simp only; omega, fun h => h1 (by simp only at h; omega)⟩, fitsC_iff.2 ⟨by simp only; omega, by simp only; omega, fun h => h2 (by simp only at h; omega)⟩⟩
          rw [hb] at this; cases this
        generalize (lAt L ln).1 = vl at *
        generalize (lAt L hn).1 = vh at *
        clear hb hvr
        go_wp2_with fail
        have f5 : Fr nob wr (wr.alloc (.cells #[.int .i64 (xn : Int), .int .i64 (ln : Int), .int .i64 (hn : Int)] 26)) := f4
        generalize wr.alloc (.cells #[.int .i64 (xn : Int), .int .i64 (ln : Int), .int .i64 (hn : Int)] 26) = W6 at *
        by_cases b1 : 2 ≤ ln ∧ vl ≤ (xn : Int)
        · have hl6 := f5.cell' (hvL b1.1) (fun h => h)
          have hl2 : decide ((1 : Int) < (ln : Int)) = true := by simp; omega
          have hl3 : (0 : Int) ≤ (ln : Int) - 2 := by omega
          have hl4 : (ln : Int) - 2 < (L.length : Int) := by omega
          have hl7 : vl ≤ (xn : Int) := b1.2
          clear hno hvL hvH b1
          go_quiet (fail)
          go_wp2_with fail
          refine (Const_any false _).mono ?_
          rintro e wq ⟨vq, rfl, hsq, hbq⟩
          obtain ⟨q7, n7, c7, u7, m7, d7, rfl⟩ := hsq.form
          have fq := (f5.drewN nq).below hbq
          have s0 := fq.cell' r0 (fun h => h)
          have s1 := fq.cell' r1 (fun h => h)
          have sf0 := (fq.frozen (p := ⟨w.heap.size, 0, none⟩) l0 (fun h => h)).trans fzr0
          have sf1 := (fq.frozen (p := ⟨w.heap.size, 1, none⟩) l0 (fun h => h)).trans fzr1
          have hBq := hB.trans (fq.to_below hB.size (fun _ h => h.elim))
          have hst := hsq.stored s0 (.slice q7 n7 c7) (.slice u7 m7 d7)
          clear hbq hsq fq r0 r1
          go_wp2_with fail
          refine bodyPost_ret (v := .tuple #[.agg #[.slice q7 n7 c7, .slice u7 m7 d7], .int .i64 4]) (by simp [results, Try.results7, go_sem, s0, s1]) rfl (OfPost.intro hst ((hBq.setCell (p := ⟨w.heap.size, 0, none⟩) (Nat.le_refl _) _).setCell (p := ⟨w.heap.size, 1, none⟩) (Nat.le_refl _) _) (fun _ => ⟨rfl, fun _ => rfl⟩) (fun h => absurd h (by omega)) (fun h => absurd h (by omega)))
        · have hlow : (ln < 2 ∧ decide ((1 : Int) < (ln : Int)) = false) ∨ (2 ≤ ln ∧ decide ((1 : Int) < (ln : Int)) = true ∧ (0 : Int) ≤ (ln : Int) - 2 ∧ (ln : Int) - 2 < (L.length : Int) ∧ ¬ vl ≤ (xn : Int) ∧ W6.cell? ⟨b, o + (ln - 2) * 3, none⟩ = some (.int .i64 vl)) := by
            by_cases h : ln < 2
            · exact .inl ⟨h, by simp; omega⟩
            · exact .inr ⟨by omega, by simp; omega, by omega, by omega, fun hh => b1 ⟨by omega, hh⟩, f5.cell' (hvL (by omega)) (fun h => h)⟩
          have hh1 : 2 ≤ hn := Classical.byContradiction fun h => hno ⟨fun h2 => by have : ¬ vl ≤ (xn : Int) := fun hh => b1 ⟨h2, hh⟩; omega, fun h2 => absurd h2 h⟩
          have hh7 : vh ≤ (xn : Int) := Classical.byContradiction fun h => hno ⟨fun h2 => by have : ¬ vl ≤ (xn : Int) := fun hh => b1 ⟨h2, hh⟩; omega, fun _ => by omega⟩
          have hh6 := f5.cell' (hvH hh1) (fun h => h)
          have hh2 : decide ((1 : Int) < (hn : Int)) = true := by simp; omega
          have hh3 : (0 : Int) ≤ (hn : Int) - 2 := by omega
          have hh4 : (hn : Int) - 2 < (L.length : Int) := by omega
          clear hno hvL hvH b1
          rcases hlow with ⟨hl1, hl2⟩ | ⟨hl1, hl2, hl3, hl4, hl7, hl6⟩
          · go_quiet (fail)
            go_wp2_with fail
            refine (Const_any false _).mono ?_
            rintro e wq ⟨vq, rfl, hsq, hbq⟩
            obtain ⟨q7, n7, c7, u7, m7, d7, rfl⟩ := hsq.form
            have fq := (f5.drewN nq).below hbq
            have s0 := fq.cell' r0 (fun h => h)
            have s1 := fq.cell' r1 (fun h => h)
            have sf0 := (fq.frozen (p := ⟨w.heap.size, 0, none⟩) l0 (fun h => h)).trans fzr0
            have sf1 := (fq.frozen (p := ⟨w.heap.size, 1, none⟩) l0 (fun h => h)).trans fzr1
            have hBq := hB.trans (fq.to_below hB.size (fun _ h => h.elim))
            have hst := hsq.stored s0 (.slice q7 n7 c7) (.slice u7 m7 d7)
            clear hbq hsq fq r0 r1
            go_wp2_with fail
            refine bodyPost_ret (v := .tuple #[.agg #[.slice q7 n7 c7, .slice u7 m7 d7], .int .i64 4]) (by simp [results, Try.results7, go_sem, s0, s1]) rfl (OfPost.intro hst ((hBq.setCell (p := ⟨w.heap.size, 0, none⟩) (Nat.le_refl _) _).setCell (p := ⟨w.heap.size, 1, none⟩) (Nat.le_refl _) _) (fun _ => ⟨rfl, fun _ => rfl⟩) (fun h => absurd h (by omega)) (fun h => absurd h (by omega)))
          · go_quiet (fail)
            go_wp2_with fail
            refine (Const_any false _).mono ?_
            rintro e wq ⟨vq, rfl, hsq, hbq⟩
            obtain ⟨q7, n7, c7, u7, m7, d7, rfl⟩ := hsq.form
            have fq := (f5.drewN nq).below hbq
            have s0 := fq.cell' r0 (fun h => h)
            have s1 := fq.cell' r1 (fun h => h)
            have sf0 := (fq.frozen (p := ⟨w.heap.size, 0, none⟩) l0 (fun h => h)).trans fzr0
            have sf1 := (fq.frozen (p := ⟨w.heap.size, 1, none⟩) l0 (fun h => h)).trans fzr1
            have hBq := hB.trans (fq.to_below hB.size (fun _ h => h.elim))
            have hst := hsq.stored s0 (.slice q7 n7 c7) (.slice u7 m7 d7)
            clear hbq hsq fq r0 r1
            go_wp2_with fail
            refine bodyPost_ret (v := .tuple #[.agg #[.slice q7 n7 c7, .slice u7 m7 d7], .int .i64 4]) (by simp [results, Try.results7, go_sem, s0, s1]) rfl (OfPost.intro hst ((hBq.setCell (p := ⟨w.heap.size, 0, none⟩) (Nat.le_refl _) _).setCell (p := ⟨w.heap.size, 1, none⟩) (Nat.le_refl _) _) (fun _ => ⟨rfl, fun _ => rfl⟩) (fun h => absurd h (by omega)) (fun h => absurd h (by omega)))
      · have hkl : k = L.length := by omega
        clear hbad hml
        subst hkl
        by_cases hr0 : r < 0
        · go_wp2_with fail
          refine (Const_any false _).mono ?_
          rintro e wq ⟨vq, rfl, hsq, hbq⟩
          obtain ⟨q7, n7, c7, u7, m7, d7, rfl⟩ := hsq.form
          have fq := (Fr.refl nob wr).below hbq
          have s0 := fq.cell' r0 (fun h => h)
          have s1 := fq.cell' r1 (fun h => h)
          have sf0 := (fq.frozen (p := ⟨w.heap.size, 0, none⟩) l0 (fun h => h)).trans fzr0
          have sf1 := (fq.frozen (p := ⟨w.heap.size, 1, none⟩) l0 (fun h => h)).trans fzr1
          have hBq := hB.trans (fq.to_below hB.size (fun _ h => h.elim))
          have hst := hsq.stored s0 (.slice q7 n7 c7) (.slice u7 m7 d7)
          clear hbq hsq fq r0 r1
          go_wp2_with fail
          refine bodyPost_ret (v := .tuple #[.agg #[.slice q7 n7 c7, .slice u7 m7 d7], .int .i64 3]) (by simp [results, Try.results7, go_sem, s0, s1]) rfl (OfPost.intro hst ((hBq.setCell (p := ⟨w.heap.size, 0, none⟩) (Nat.le_refl _) _).setCell (p := ⟨w.heap.size, 1, none⟩) (Nat.le_refl _) _) (fun h => absurd h (by omega)) (fun _ _ => ⟨rfl, fun _ => rfl⟩) (fun _ h h' => by omega))
        · by_cases hr1 : (L.length : Int) + 1 < r
          · go_wp2_with fail
            refine (Const_any false _).mono ?_
            rintro e wq ⟨vq, rfl, hsq, hbq⟩
            obtain ⟨q7, n7, c7, u7, m7, d7, rfl⟩ := hsq.form
            have fq := (Fr.refl nob wr).below hbq
            have s0 := fq.cell' r0 (fun h => h)
            have s1 := fq.cell' r1 (fun h => h)
            have sf0 := (fq.frozen (p := ⟨w.heap.size, 0, none⟩) l0 (fun h => h)).trans fzr0
            have sf1 := (fq.frozen (p := ⟨w.heap.size, 1, none⟩) l0 (fun h => h)).trans fzr1
            have hBq := hB.trans (fq.to_below hB.size (fun _ h => h.elim))
            have hst := hsq.stored s0 (.slice q7 n7 c7) (.slice u7 m7 d7)
            clear hbq hsq fq r0 r1
            go_wp2_with fail
            refine bodyPost_ret (v := .tuple #[.agg #[.slice q7 n7 c7, .slice u7 m7 d7], .int .i64 3]) (by simp [results, Try.results7, go_sem, s0, s1]) rfl (OfPost.intro hst ((hBq.setCell (p := ⟨w.heap.size, 0, none⟩) (Nat.le_refl _) _).setCell (p := ⟨w.heap.size, 1, none⟩) (Nat.le_refl _) _) (fun h => absurd h (by omega)) (fun _ _ => ⟨rfl, fun _ => rfl⟩) (fun _ h h' => by omega))
          · obtain ⟨rn, rfl⟩ : ∃ n : Nat, r = n := ⟨r.toNat, by omega⟩
            have hrn : rn < cs.length := by omega
            obtain ⟨fh1, fh2⟩ := flat_at hrn
            have sh1 := (hrw.cellAt (rn * 2) (by omega)).trans fh1
            have sh2 := (hrw.cellAt (rn * 2 + 1) (by omega)).trans fh2
            obtain ⟨VR, hR⟩ := hsets rn hrn
            obtain ⟨q7, n7, c7, u7, m7, d7, e7⟩ := hform rn hrn
            rw [e7] at sh1 sh2 hR
            simp only at sh1 sh2 hR
            have hst := hR.stored r0 (.slice q7 n7 c7) (.slice u7 m7 d7)
            have hr2 : (rn : Int) < (L.length : Int) + 2 := by omega
            have hr3 : (rn : Int) < ((L.length + 2 : Nat) : Int) := by omega
            clear hsets hform hrw fh1 fh2 hR e7
            go_wp2_with fail
            refine bodyPost_ret (v := .tuple #[.agg #[.slice q7 n7 c7, .slice u7 m7 d7], .int .i64 0]) (by simp [results, Try.results7, go_sem, r0, r1]) rfl (OfPost.intro hst ((hB.setCell (p := ⟨w.heap.size, 0, none⟩) (Nat.le_refl _) _).setCell (p := ⟨w.heap.size, 1, none⟩) (Nat.le_refl _) _) (fun h => absurd h (by omega)) (fun _ h => absurd h (by omega)) (fun _ _ _ => ⟨rfl, fun c => by rw [List.take_length]; rfl⟩))
end Go.Proofs.Ytingidbhmbgigaa
