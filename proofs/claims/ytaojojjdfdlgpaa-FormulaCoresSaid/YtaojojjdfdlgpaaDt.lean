import Derived.Test.YtaojojjdfdlgpaaDr
namespace Go.Proofs.Ytaojojjdfdlgpaa
open Go.RowKit Uq

/-! slices.Contains; a new clause; add -/
theorem index_any2 (a : Option Addr) (xs : List Int) (cp : Nat) (x : Int) (w : World) (hn : xs.length ≤ 1000000) (ha : xs ≠ [] → ∃ g, a = some ⟨g, 0, none⟩ ∧ ∀ (j : Nat) (y : Int), xs[j]? = some y → w.cell? ⟨g, j, none⟩ = some (.int .i64 y)) (hx : x ∈ xs) :
    Calls Try.prog 117 #[.slice a xs.length cp, .int .i64 x] w fun e w' => (∃ i : Nat, e = .returned (.int .i64 (i : Int))) ∧ w = w' := by
  obtain ⟨n, hnl⟩ : ∃ n, xs.length = n := ⟨_, rfl⟩
  rw [hnl] at hn ⊢
  have HN := Lib.hid hnl
  have HA := Lib.hid ha
  have HX := Lib.hid hx
  clear ha hx hnl
  go_enter Try.func117, Try.ntmps117
  go_wp2_with fail
  go_loopg [8] n (fun m iv wr => ∃ k : Nat, k + m = n ∧ iv = .int .i64 (k : Int) ∧ x ∈ xs.drop k ∧ w = wr)
  case atStart => exact ⟨0, by omega, rfl, by rw [List.drop_zero]; exact HX.out, rfl⟩
  case round =>
    obtain ⟨k, hkm, rfl, hd, rfl⟩ := hrel
    have HD := Lib.hid hd
    clear hd
    cases gk with
    | zero =>
      obtain rfl : k = n := by omega
      exfalso
      have h := HD.out
      rw [List.drop_eq_nil_of_le (by rw [HN.out]; exact Nat.le_refl _)] at h
      simp at h
    | succ m =>
      have hk : k < xs.length := by rw [HN.out]; omega
      have hkt : xs[k]? = some xs[k] := List.getElem?_eq_getElem hk
      have hmem : xs[k] ∈ xs := List.getElem_mem hk
      generalize xs[k] = y at hkt hmem
      obtain ⟨g, rfl, hg⟩ := HA.out (by intro e; rw [e] at hk; simp at hk)
      have c0 := hg k y hkt
      have q3 : (k : Int) < (n : Int) := by omega
      have q4 : (0 : Int) ≤ (k : Int) := Int.natCast_nonneg _
      have HKT := Lib.hid hkt
      clear hk hkt hmem hg
      by_cases e : x = y
      · have q0 : (x == y) = true := by simpa using e
        clear e
        go_wp2_with fail
        go_ret
        exact ⟨⟨k, rfl⟩, rfl⟩
      · have q0 : (x == y) = false := by simpa using e
        have hd2 : x ∈ xs.drop (k + 1) := by
          have h := HD.out
          rw [drop_at3 HKT.out] at h
          rcases List.mem_cons.1 h with h | h
          · exact absurd h e
          · exact h
        have HD2 := Lib.hid hd2
        clear e hd2
        go_wp2_with fail
        go_roundg m
        case measure => omega
        case rel => exact ⟨k + 1, by omega, by go_num, HD2.out, rfl⟩
theorem contains_yes (a : Option Addr) (xs : List Int) (cp : Nat) (x : Int) (w : World) (hn : xs.length ≤ 1000000) (ha : xs ≠ [] → ∃ g, a = some ⟨g, 0, none⟩ ∧ ∀ (j : Nat) (y : Int), xs[j]? = some y → w.cell? ⟨g, j, none⟩ = some (.int .i64 y)) (hx : x ∈ xs) :
    Calls Try.prog 91 #[.slice a xs.length cp, .int .i64 x] w fun e w' => e = .returned (.bool true) ∧ w = w' := by
  have h := index_any2 a xs cp x w hn ha hx
  clear ha hx
  go_enter Try.func91, Try.ntmps91
  go_wp2_with fail
  refine h.mono ?_
  rintro e w' ⟨⟨i, rfl⟩, rfl⟩
  have q0 : (0 : Int) ≤ (i : Int) := Int.natCast_nonneg _
  go_wp2_with fail
  go_ret
  exact ⟨rfl, rfl⟩
theorem contains_any (a : Option Addr) (xs : List Int) (cp : Nat) (x : Int) (w : World) (hn : xs.length ≤ 1000000) (ha : xs ≠ [] → ∃ g, a = some ⟨g, 0, none⟩ ∧ ∀ (j : Nat) (y : Int), xs[j]? = some y → w.cell? ⟨g, j, none⟩ = some (.int .i64 y)) :
    Calls Try.prog 91 #[.slice a xs.length cp, .int .i64 x] w fun e w' => e = .returned (.bool (decide (x ∈ xs))) ∧ w = w' := by
  by_cases h : x ∈ xs
  · rw [decide_eq_true h]; exact contains_yes a xs cp x w hn ha h
  · rw [decide_eq_false h]; exact contains_no a xs cp x w hn ha h
/-- a new clause -/
theorem Dm.addG {w : World} {Z : Nat → Prop} {d : Nat} {sh : Nat → Nat × Nat} {G : Nat → Prop} {s : DS} {c : Nat → Value} (h : Dm w Z 100 d sh G s c) {g cp : Nat} {l : List Int} (hg : ∀ i, 98 ≤ i → i ≤ 147 → (c i).ownBlock ≠ some g) (hgd : g ≠ d) (hgz : ¬ Z g) (hgG : ¬ G g) (hgl : g < w.heap.size) (hcb : CB w g (upF sh g (l.length, cp)) l) :
    Dm w Z 100 d (upF sh g (l.length, cp)) (fun k => G k ∨ k = g) { s with cl := upF s.cl g l } c := by
  have hsh : ∀ z, G z → upF sh g (l.length, cp) z = sh z := fun z hz => upF_other _ _ (fun e => hgG (e ▸ hz))
  have hcv : ∀ z, G z → clV (upF sh g (l.length, cp)) z = clV sh z := fun z hz => by unfold clV; rw [hsh z hz]
  have hrv : ∀ r : Option Nat, (∀ z, r = some z → G z) → refV (upF sh g (l.length, cp)) r = refV sh r := fun r hr => by
    cases r with
    | none => rfl
    | some z => exact hcv z (hr z rfl)
  have hrow : ∀ i, rowS (upF sh g (l.length, cp)) { s with cl := upF s.cl g l } i = rowS sh s i := fun i => by
    unfold rowS
    split
    · rfl
    · exact List.map_congr_left fun z hz => hcv z (h.sm.wG _ z hz)
  refine ⟨⟨h.hp.mem, h.hp.zlt, h.hp.zd, fun e => e.elim h.hp.gd (fun e => hgd e.symm), fun i h1 h2 h3 => by rw [hrow]; exact h.hp.rows i h1 h2 h3, fun z hz => ?_, fun i h1 h2 h3 b hb => ?_, h.hp.sep⟩, ⟨h.sm.hd, fun i hi => ?_, h.sm.nx, h.sm.kn, ?_, h.sm.bk, fun i z hz => .inl (h.sm.wG i z hz), fun i z hz => .inl (h.sm.rG i z hz), fun z hz => .inl (h.sm.cG z hz)⟩⟩
  · by_cases e : z = g
    · rw [e]
      dsimp only
      rw [upF_same]
      exact ⟨hcb, hgz, hgl⟩
    · rcases hz with hz | hz
      · obtain ⟨a1, a2, a3⟩ := h.hp.cls z hz
        dsimp only
        rw [upF_other s.cl _ e]
        exact ⟨⟨by rw [hsh z hz]; exact a1.len, a1.cell, a1.free, by rw [hsh z hz]; exact a1.cap⟩, a2, a3⟩
      · exact absurd hz e
  · obtain ⟨a1, a2, a3⟩ := h.hp.own i h1 h2 h3 b hb
    exact ⟨a1, a2, fun e => e.elim a3 (fun e => hg i h1 h2 (e ▸ hb))⟩
  · rw [hrv _ (fun z hz => h.sm.rG _ z hz)]; exact h.sm.rs i hi
  · rw [hrv _ (fun z hz => h.sm.cG z hz)]; exact h.sm.cf
theorem Dm.broken {w : World} {Z : Nat → Prop} {x d : Nat} {sh : Nat → Nat × Nat} {G : Nat → Prop} {s : DS} {c : Nat → Value} (h : Dm w Z x d sh G s c) (b : Bool) : Dm (w.setCell ⟨d, 151, none⟩ (.bool b)) Z x d sh G { s with broken := b } (upd c 151 (.bool b)) := by
  have u : ∀ j, j ≠ 151 → upd c 151 (.bool b) j = c j := fun j e => by unfold upd; rw [if_neg e]
  refine ⟨h.hp.set 151 (.inr (by decide)) _, ⟨fun i hi => ?_, fun i hi => ?_, ?_, ?_, ?_, ?_, h.sm.wG, h.sm.rG, h.sm.cG⟩⟩
  · rw [u i (by omega)]; exact h.sm.hd i hi
  · rw [u _ (by omega)]; exact h.sm.rs i hi
  · rw [u _ (by decide)]; exact h.sm.nx
  · rw [u _ (by decide)]; exact h.sm.kn
  · rw [u _ (by decide)]; exact h.sm.cf
  · unfold upd; rw [if_pos rfl]
theorem Dm.known {w : World} {Z : Nat → Prop} {x d : Nat} {sh : Nat → Nat × Nat} {G : Nat → Prop} {s : DS} {c : Nat → Value} (h : Dm w Z x d sh G s c) (k : Nat) : Dm (w.setCell ⟨d, 149, none⟩ (.int .i64 (k : Int))) Z x d sh G { s with known := k } (upd c 149 (.int .i64 (k : Int))) := by
  have u : ∀ j, j ≠ 149 → upd c 149 (.int .i64 (k : Int)) j = c j := fun j e => by unfold upd; rw [if_neg e]
  refine ⟨h.hp.set 149 (.inr (by decide)) _, ⟨fun i hi => ?_, fun i hi => ?_, ?_, ?_, ?_, ?_, h.sm.wG, h.sm.rG, h.sm.cG⟩⟩
  · rw [u i (by omega)]; exact h.sm.hd i hi
  · rw [u _ (by omega)]; exact h.sm.rs i hi
  · rw [u _ (by decide)]; exact h.sm.nx
  · unfold upd; rw [if_pos rfl]
  · rw [u _ (by decide)]; exact h.sm.cf
  · rw [u _ (by decide)]; exact h.sm.bk
end Go.Proofs.Ytaojojjdfdlgpaa
namespace Go.Proofs.Ytaojojjdfdlgpaa
open Go.RowKit Uq

/-! add -/
theorem cb_of_row {w : World} {B g n cp : Nat} {l : List Int} (sh : Nat → Nat × Nat) (h : w.ownsRow B 3 1 (.slice (some ⟨g, 0, none⟩) n cp) n (l.map fun y => .int .i64 y)) : CB w g (upF sh g (l.length, cp)) l ∧ B ≤ g ∧ g < w.heap.size := by
  have hn : n = l.length := by have := h.1; rw [List.length_map] at this; omega
  have hlt := h.lt g rfl
  rcases h.2 with ⟨h1, _⟩ | ⟨g', cap', cur, h1, h2, h3, h4, h5, h6, h7⟩
  · cases h1
  · cases h1
    refine ⟨⟨by rw [upF_same], fun j y hj => ?_, fun o => Lib.frozen_of_heap h3 o, by rw [upF_same]; show l.length ≤ cp; omega⟩, hlt.1, hlt.2⟩
    have hjl : j < n := by rw [hn]; exact (List.getElem?_eq_some_iff.1 hj).1
    rw [Lib.cell_of_heap h3]
    have h8 := congrArg (fun l => l[j]?) h7
    simp only [List.getElem?_take, List.getElem?_map, hj, Option.map_some, Nat.mul_one, if_pos hjl] at h8
    simpa using h8
theorem add_broken {s : DS} {c : List Int} {g : Nat} (h : s.broken = true) : addP s c g = s := by unfold addP; rw [if_pos h]
theorem add_nil {s : DS} {c : List Int} {g : Nat} (h : s.broken = false) (ho : openP s.holds c [] = []) : addP s c g = { s with broken := true } := by unfold addP; rw [if_neg (by rw [h]; decide), ho]
theorem add_one {s : DS} {c : List Int} {g : Nat} {x : Int} (h : s.broken = false) (ho : openP s.holds c [] = [x]) : addP s c g = unitP s x g := by unfold addP; rw [if_neg (by rw [h]; decide), ho]
theorem add_two {s : DS} {c : List Int} {g : Nat} {a b : Int} {t : List Int} (h : s.broken = false) (ho : openP s.holds c [] = a :: b :: t) : addP s c g = watP s a b t g := by unfold addP; rw [if_neg (by rw [h]; decide), ho]
theorem open_len {h : Int → Bool} : ∀ {c acc : List Int}, (openP h c acc).length ≤ acc.length + c.length
  | [], acc => by rw [openP]; simp
  | x :: t, acc => by
    rw [openP]
    split
    · have := open_len (h := h) (c := t) (acc := acc ++ [x]); simp at this ⊢; omega
    · have := open_len (h := h) (c := t) (acc := acc); simp; omega
/-- what add leaves -/
def AddPost (Z : Nat → Prop) (d : Nat) (sh : Nat → Nat × Nat) (G : Nat → Prop) (s : DS) (cs : List Int) (w w' : World) : Prop :=
  ∃ g sh' G' c', ¬ G g ∧ (∀ z, G z → G' z ∧ sh' z = sh z) ∧ (∀ z, G' z → G z ∨ z = g) ∧ (G' g → (sh' g).1 ≤ 1000) ∧ (s.broken = false → openP s.holds cs [] ≠ [] → G' g) ∧ Dm w' Z 100 d sh' G' (addP s cs g) c' ∧ Fr (fun k => ¬ Z k) w w'
theorem AddPost.of_new {Z : Nat → Prop} {d : Nat} {sh : Nat → Nat × Nat} {G : Nat → Prop} {s : DS} {cs : List Int} {w w' : World} {g n cp : Nat} {c' : Nat → Value} (hg : ¬ G g) (hn : n ≤ 1000) (h : Dm w' Z 100 d (upF sh g (n, cp)) (fun k => G k ∨ k = g) (addP s cs g) c') (f : Fr (fun k => ¬ Z k) w w') : AddPost Z d sh G s cs w w' :=
  ⟨g, _, _, c', hg, fun z hz => ⟨.inl hz, upF_other _ _ (fun e => hg (by rw [← e]; exact hz))⟩, fun _ h => h, fun _ => by rw [upF_same]; exact hn, fun _ _ => .inr rfl, h, f⟩
theorem AddPost.of_old {Z : Nat → Prop} {d : Nat} {sh : Nat → Nat × Nat} {G : Nat → Prop} {s : DS} {cs : List Int} {w w' : World} {c' : Nat → Value} {g : Nat} (hg : ¬ G g) (h0 : s.broken = true ∨ openP s.holds cs [] = []) (h : Dm w' Z 100 d sh G (addP s cs g) c') (f : Fr (fun k => ¬ Z k) w w') : AddPost Z d sh G s cs w w' :=
  ⟨g, sh, G, c', hg, fun _ hz => ⟨hz, rfl⟩, fun _ h => .inl h, fun h => absurd h hg, fun h1 h2 => h0.elim (fun e => by rw [h1] at e; cases e) (fun e => absurd e h2), h, f⟩
set_option maxRecDepth 100000 in
set_option maxHeartbeats 4000000 in
theorem add_dm (Z : Nat → Prop) (d : Nat) (sh : Nat → Nat × Nat) (G : Nat → Prop) (s : DS) (c : Nat → Value) (cs : List Int) (v : Value) (S : Nat → Prop) (w : World) (ids : List Nat) (h : Dm w Z 100 d sh G s c) (hM : Mid ids s) (hv : IntsO w S cs v) (hS : ∀ b, S b → Z b) (hcs : ∀ x ∈ cs, Ltr x) (hcl : cs.length ≤ 1000) (hG : ∀ g ∈ ids, G g) (hids : ids.length ≤ 100000) (hsh : ∀ g, G g → (sh g).1 ≤ 1000) :
    Calls Try.prog 64 #[.pointer (some ⟨d, 0, none⟩), v] w fun e w' => e = .returned (.tuple #[]) ∧ AddPost Z d sh G s cs w w' := by
  obtain ⟨a, cap, rfl⟩ := hv.form
  have hgn : ¬ G w.heap.size := fun e => Nat.lt_irrefl _ (h.hp.cls _ e).2.2
  have c0 := (h.hp.mem 151 (by decide)).1
  rw [h.sm.bk] at c0
  obtain ⟨N, hN⟩ : ∃ N, cs.length = N := ⟨_, rfl⟩
  obtain ⟨O, hO⟩ : ∃ O, openP s.holds cs [] = O := ⟨_, rfl⟩
  have hOl : O.length ≤ 1000 := by have := open_len (h := s.holds) (c := cs) (acc := []); rw [hO] at this; simp at this; omega
  have hOm : ∀ x ∈ O, Ltr x := fun x hx => by
    rw [← hO, openP_mem] at hx
    rcases hx with hx | hx
    · simp at hx
    · exact hcs x hx.1
  rw [hN] at hcl hv ⊢
  have HD := Lib.hid h
  have HM := Lib.hid hM
  have HN := Lib.hid hN
  have HO := Lib.hid hO
  have HV := Lib.hid hv
  have HS := Lib.hid hS
  have HC := Lib.hid hcs
  have HG := Lib.hid hG
  have HSH := Lib.hid hsh
  have HGN := Lib.hid hgn
  have HOL := Lib.hid hOl
  have HOM := Lib.hid hOm
  obtain ⟨br, hbr⟩ : ∃ br, s.broken = br := ⟨_, rfl⟩
  rw [hbr] at c0
  have HBR := Lib.hid hbr
  clear h hM hN hv hS hcs hG hsh hgn hO hOl hOm hbr
  go_enter Try.func64, Try.ntmps64
  cases br with
  | true =>
    go_wp2_with fail
    refine bodyPost_ret (results_none rfl _ _ _) rfl ⟨rfl, ?_⟩
    exact AddPost.of_old (g := w.heap.size) HGN.out (.inl HBR.out) (by rw [add_broken HBR.out]; exact HD.out) (Fr.refl _ _)
  | false =>
    go_wp2_with fail
    go_loopg [4, 13] N (fun m ov iv wr => ∃ (k : Nat) (acc : List Int), k + m = N ∧ iv = .int .i64 (k : Int) ∧ acc.length ≤ k ∧ wr.ownsRow w.heap.size 3 1 ov acc.length (acc.map fun y => .int .i64 y) ∧ openP s.holds (cs.drop k) acc = O ∧ Fr nob w wr)
    case atStart => exact ⟨0, [], by omega, rfl, Nat.le_refl _, World.ownsRow_nil _ _ _ _, by rw [List.drop_zero]; exact HO.out, Fr.refl _ _⟩
    case round =>
      obtain ⟨k, acc, hkm, rfl, hak, hown, hop, hF⟩ := hrel
      have HOW := Lib.hid hown
      have HOP := Lib.hid hop
      have HF := Lib.hid hF
      have q4 : (0 : Int) ≤ (k : Int) := Int.natCast_nonneg _
      clear hown hop hF c0
      cases gk with
      | zero =>
        obtain rfl : k = N := by omega
        have he := HOP.out
        rw [List.drop_eq_nil_of_le (by rw [HN.out]; exact Nat.le_refl _), openP] at he
        subst he
        have hD := HD.out.nob HF.out
        have HD2 := Lib.hid hD
        have HF2 := Lib.hid (nob_notZ (Z := Z) HF.out)
        obtain ⟨oa, ocp, hform, hcells⟩ := row_ints HOW.out
        cases acc with
        | nil =>
          have hform2 : u4 = .slice oa 0 ocp := hform
          clear hform
          subst hform2
          obtain ⟨c1, f1⟩ := hD.hp.mem 151 (by decide)
          have HB := Lib.hid (hD.broken true)
          have HF3 := Lib.hid (HF2.out.setCell (p := ⟨d, 151, none⟩) (fun _ => hD.hp.zd) (.bool true))
          generalize c 151 = u1 at c1
          clear hcells hD
          go_wp2_with fail
          refine bodyPost_ret (results_none rfl _ _ _) rfl ⟨rfl, ?_⟩
          exact AddPost.of_old (g := w.heap.size) HGN.out (.inr HO.out) (by rw [add_nil HBR.out HO.out]; exact HB.out) HF3.out
        | cons x t =>
          obtain ⟨g, rfl, hg⟩ := hcells (by simp)
          subst hform
          obtain ⟨hcb, hgB, hgl⟩ := cb_of_row sh HOW.out
          have hgG : ¬ G g := fun e => by have := (HD.out.hp.cls g e).2.2; omega
          have hgd : g ≠ d := fun e => by have := lt_of_cell (HD.out.hp.mem 0 (by decide)).1; rw [← e] at this; have h2 : g < w.heap.size := this; omega
          have hgz : ¬ Z g := fun e => by have := HD.out.hp.zlt g e; omega
          have hD3 := hD.addG (g := g) (cp := ocp) (l := x :: t) (fun i h1 h2 e => by have := ((HD.out.hp.rows i h1 h2 (by omega)).lt g e).2; omega) hgd hgz hgG hgl hcb
          have HD3 := Lib.hid hD3
          have HGG := Lib.hid hgG
          have HSH3 : Hid (∀ z, (G z ∨ z = g) → (upF sh g ((x :: t).length, ocp) z).1 ≤ 1000) := Lib.hid (fun z hz => by
            by_cases e : z = g
            · rw [e, upF_same]; exact HOL.out
            · rw [upF_other _ _ e]
              exact hz.elim (HSH.out z) (fun e2 => absurd e2 e))
          have hcv : clV (upF sh g ((x :: t).length, ocp)) g = .slice (some ⟨g, 0, none⟩) (x :: t).length ocp := by unfold clV; rw [upF_same]
          have HCV := Lib.hid hcv
          have hltx : Ltr x := HOM.out x (by simp)
          clear hcells hg hD hcb hgd hgz hgl hD3 hcv hgG
          cases t with
          | nil =>
            have hW := fun w => watch_short (.pointer (some ⟨d, 0, none⟩)) (some ⟨g, 0, none⟩) 1 ocp w (by decide)
            have hM3 : Mid ids { s with cl := upF s.cl g [x] } := ⟨⟨HM.out.tra.nodup, HM.out.tra.lits, HM.out.tra.cons, HM.out.tra.holds⟩, ⟨fun z hz => by
                rw [show ({ s with cl := upF s.cl g [x] } : DS).cl z = s.cl z from upF_other _ _ (fun e => HGG.out (e ▸ HG.out z hz))]; exact HM.out.wat.two z hz, HM.out.wat.nodup, fun y z => by
                rw [HM.out.wat.mem y z]
                constructor
                · rintro ⟨h1, h2⟩; exact ⟨h1, by rw [show ({ s with cl := upF s.cl g [x] } : DS).cl z = s.cl z from upF_other _ _ (fun e => HGG.out (e ▸ HG.out z h1))]; exact h2⟩
                · rintro ⟨h1, h2⟩; exact ⟨h1, by rw [show ({ s with cl := upF s.cl g [x] } : DS).cl z = s.cl z from upF_other _ _ (fun e => HGG.out (e ▸ HG.out z h1))] at h2; exact h2⟩⟩, HM.out.le⟩
            have hC := follows_dm Z d (upF sh g ([x].length, ocp)) (fun k => G k ∨ k = g) { s with cl := upF s.cl g [x] } c g x wr ids HD3.out hM3 (.inr rfl) ⟨[], upF_same _ _ _⟩ hltx (fun z hz => .inl (HG.out z hz)) (by omega) (fun z hz => by have := HSH3.out z hz; omega)
            rw [HCV.out] at hC
            have hC2 : Calls Try.prog 93 #[.pointer (some ⟨d, 0, none⟩), .slice (some ⟨g, 0, none⟩) 1 ocp] wr _ := hC
            clear hC hM3
            go_wp2_with fail
            refine (hW _).mono ?_
            rintro e w2 ⟨rfl, rfl⟩
            clear hW
            go_wp2_with fail
            refine hC2.mono ?_
            rintro e w3 ⟨rfl, c3, hD4, F4⟩
            have HD4 := Lib.hid hD4
            have HF4 := Lib.hid (HF2.out.trans F4 (fun _ _ h => h))
            have HEQ := Lib.hid (show addP s cs g = { (folP { s with cl := upF s.cl g [x] } x (some g)).2 with broken := !(folP { s with cl := upF s.cl g [x] } x (some g)).1, known := (folP { s with cl := upF s.cl g [x] } x (some g)).2.trail.length } from add_one HBR.out HO.out)
            generalize folP { s with cl := upF s.cl g [x] } x (some g) = r at *
            obtain ⟨c1, f1⟩ := hD4.hp.mem 151 (by decide)
            have hD5 := hD4.broken (!r.1)
            obtain ⟨ta, tcp, h147, _⟩ := hD5.trail (.inr rfl)
            have c7 := (hD5.hp.mem 147 (by decide)).1
            rw [h147] at c7
            obtain ⟨c9, f9⟩ := hD5.hp.mem 149 (by decide)
            have hD6 := hD5.known r.2.trail.length
            have HD6 := Lib.hid hD6
            have HF6 := Lib.hid ((HF4.out.setCell (p := ⟨d, 151, none⟩) (fun _ => hD4.hp.zd) (.bool (!r.1))).setCell (p := ⟨d, 149, none⟩) (fun _ => hD4.hp.zd) (.int .i64 (r.2.trail.length : Int)))
            generalize c3 151 = u1 at c1
            generalize upd c3 151 (.bool (!r.1)) 149 = u9 at c9
            change World.cell? _ _ = some (Value.slice ta r.2.trail.length tcp) at c7
            clear hC2 hD4 F4 hD5 hD6 h147 HF4 HF2
            go_wp2_with fail
            refine bodyPost_end (results_none rfl _ _ _) rfl ⟨rfl, ?_⟩
            exact AddPost.of_new (n := [x].length) (cp := ocp) HGG.out (Nat.le_trans (Nat.le_refl 1) (by decide)) (by rw [HEQ.out]; exact HD6.out) HF6.out
          | cons y t =>
            have hC := watch_dm Z d (upF sh g ((x :: y :: t).length, ocp)) (fun k => G k ∨ k = g) { s with cl := upF s.cl g (x :: y :: t) } c g x y t wr HD3.out (.inr rfl) (upF_same _ _ _) hltx (HOM.out y (by simp)) (by have := HSH3.out g (.inr rfl); omega) (fun i => by
              have h1 := nodup_leN (HM.out.wat.nodup i) (m := ids) fun z hz => ((HM.out.wat.mem i z).1 hz).1
              show (s.watched i).length ≤ _
              omega)
            rw [HCV.out] at hC
            have HEQ := Lib.hid (show addP s cs g = stepW (stepW { s with cl := upF s.cl g (x :: y :: t) } g x) g y from add_two HBR.out HO.out)
            have hol := HOL.out
            obtain ⟨L, hL⟩ : ∃ L, (x :: y :: t).length = L := ⟨_, rfl⟩
            have hL2 : 2 ≤ L := by rw [← hL]; simp only [List.length_cons]; omega
            rw [hL] at hC hol ⊢
            have q5 : ((L : Int) == 0) = false := by simp; omega
            have q6 : ((L : Int) == 1) = false := by simp; omega
            have HLL := Lib.hid hL
            clear hL
            go_wp2_with fail
            refine hC.mono ?_
            rintro e w3 ⟨rfl, c3, hD4, F4⟩
            have HD4 := Lib.hid hD4
            have HF4 := Lib.hid (HF2.out.trans F4 (fun _ _ h => h))
            clear hC hD4 F4
            go_wp2_with fail
            refine bodyPost_end (results_none rfl _ _ _) rfl ⟨rfl, ?_⟩
            exact AddPost.of_new (n := L) (cp := ocp) HGG.out hol (by rw [HEQ.out]; exact HD4.out) HF4.out
      | succ m =>
        have hk : k < cs.length := by rw [HN.out]; omega
        have hkt : cs[k]? = some cs[k] := List.getElem?_eq_getElem hk
        have hmem : cs[k] ∈ cs := List.getElem_mem hk
        generalize cs[k] = l at hkt hmem
        obtain ⟨b, ob, rfl, hSb, hlr0⟩ := HV.out.at hkt
        have hl := HC.out l hmem
        obtain ⟨q, hq, hq2⟩ := ltr_at hl.neg
        have hlr := HF.out.cell hlr0 (fun h => h)
        have hpl := fun w => place_any (-l) (by omega) w
        rw [hq, ← wrap_neg l (by unfold Ltr at hl; omega)] at hpl
        have hDr := HD.out.nob HF.out
        obtain ⟨hb, hhb⟩ : ∃ hb, s.holds (-l) = hb := ⟨_, rfl⟩
        have cq : wr.drew.cell? ⟨d, q, none⟩ = some (.bool hb) := by rw [← hhb, ← hDr.sm.at hq hq2]; exact (hDr.drew.hp.mem q (by omega)).1
        have hop2 := HOP.out
        rw [drop_at3 hkt, openP, hhb] at hop2
        have HOP2 := Lib.hid hop2
        have q1 : (0 : Int) ≤ (q : Int) := by omega
        have q2 : (q : Int) < 49 := by omega
        have q3 : (k : Int) < (N : Int) := by omega
        have hO2 := ((Fr.refl nob wr).drew).row HOW.out (fun _ _ h => h)
        have HO2 := Lib.hid hO2
        have HF2 := Lib.hid (HF.out.drew)
        clear hk hkt hmem hlr0 hl hq hDr hhb hop2
        cases hb with
        | true =>
          have hop3 := HOP2.out
          rw [if_neg (by rintro ⟨h, _⟩; cases h)] at hop3
          have HOP3 := Lib.hid hop3
          clear hop3 hO2
          go_wp2_with fail
          (first
            | go_region_with (go_at_call 57; (with_reducible refine (hpl _).mono ?_); rintro e w' ⟨rfl, rfl⟩)
            | fail)
          all_goals (
            clear cq
            generalize wr.drew = w2 at *
            go_wp2_with fail
            go_roundg m
            case measure => omega
            case rel => exact ⟨k + 1, acc, by omega, by go_num, by omega, HO2.out, HOP3.out, HF2.out⟩)
        | false =>
          obtain ⟨oa, ocp, hform, hcells⟩ := row_ints hO2
          subst hform
          have hCt := contains_any oa acc ocp l wr.drew (by omega) hcells
          obtain ⟨AL, hAL⟩ : ∃ AL, acc.length = AL := ⟨_, rfl⟩
          have HAL := Lib.hid hAL
          rw [hAL] at hCt hak HO2 hO2 ⊢
          obtain ⟨bc, hbc⟩ : ∃ bc, decide (l ∈ acc) = bc := ⟨_, rfl⟩
          rw [hbc] at hCt
          have HBC := Lib.hid hbc
          clear hO2 hcells hAL hbc
          go_wp2_with fail
          (first
            | go_region_with (first
              | (go_at_call 57; (with_reducible refine (hpl _).mono ?_); rintro e w' ⟨rfl, rfl⟩)
              | (go_at_call 91; (with_reducible refine hCt.mono ?_); rintro e w' ⟨rfl, rfl⟩))
            | fail)
          all_goals (
            clear cq hCt hpl
            generalize wr.drew = w2 at *
            cases bc with
            | true =>
              have hop3 := HOP2.out
              rw [if_neg (by rintro ⟨_, h⟩; exact h (of_decide_eq_true HBC.out))] at hop3
              have HOP3 := Lib.hid hop3
              have HO3 : Hid (w2.ownsRow w.heap.size 3 1 (.slice oa AL ocp) acc.length (acc.map fun y => .int .i64 y)) := Lib.hid (by rw [HAL.out]; exact HO2.out)
              clear hop3
              go_wp2_with fail
              go_roundg m
              case measure => omega
              case rel => exact ⟨k + 1, acc, by omega, by go_num, by rw [HAL.out]; omega, HO3.out, HOP3.out, HF2.out⟩
            | false =>
              have hop3 := HOP2.out
              rw [if_pos ⟨by trivial, of_decide_eq_false HBC.out⟩] at hop3
              have HOP3 := Lib.hid hop3
              obtain ⟨i0, hi0, hz0, hz1, hz2⟩ := info_parts info_int
              have hs2 := HF2.out.size
              clear hop3
              go_wp2_with (at_builtin; refine wpList_append_own_at _ rfl _ _ 37 rfl w.heap.size 3 i0 (.int .i64 0) 1 8 Try.underlying37 hi0 hz0 hz1 hz2 rfl (by decide) (.slice oa AL ocp) AL (acc.map fun y => .int .i64 y) rfl (HO2.out.alloc _) ⟨w2.heap.size, 0, none⟩ 1 1 [.int .i64 l] rfl ?c1 ?c2 ?c3 ?c4 ?c5 ?c6 ?_)
              case c1 => rfl
              case c2 => exact cell_one_new _ _ _
              case c3 => intro u hu; simp at hu; subst hu; rfl
              case c4 => unfold maxLen; omega
              case c5 => omega
              case c6 => simp; omega
              intro v3 w3 own3 gr3 _ hat
              have HO4 : Hid (w3.ownsRow w.heap.size 3 1 v3 (acc ++ [l]).length ((acc ++ [l]).map fun y => .int .i64 y)) := Lib.hid (by rw [List.map_append, List.length_append, HAL.out]; exact own3)
              have HF4 := Lib.hid ((HF2.out.alloc (.cells #[.int .i64 l] 3)).grown gr3 (fun j hj hlt => absurd (HO2.out.lt j hj).1 (by omega)))
              have hl4 : (acc ++ [l]).length ≤ k + 1 := by rw [List.length_append, HAL.out]; simp only [List.length_cons, List.length_nil]; omega
              have HL4 := Lib.hid hl4
              clear own3 gr3 hat hl4
              go_wp2_with fail
              go_roundg m
              case measure => omega
              case rel => exact ⟨k + 1, acc ++ [l], by omega, by go_num, HL4.out, HO4.out, HOP3.out, HF4.out⟩)
end Go.Proofs.Ytaojojjdfdlgpaa
