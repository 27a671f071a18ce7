import Derived.Test.YtaojojjdfdlgpaaDr
namespace Go.Proofs.Ytaojojjdfdlgpaa
open Go.RowKit Uq

/-! slices.Contains; a new clause; add -/
theorem index_any2 (a : Option Addr) (xs : List Int) (cp : Nat) (x : Int) (w : World) (hn : xs.length ≤ 1000000) (ha : xs ≠ [] → ∃ g, a = some ⟨g, 0, none⟩ ∧ ∀ (j : Nat) (y : Int), xs[j]? = some y → w.cell? ⟨g, j, none⟩ = some (.int .i64 y)) (hx : x ∈ xs) :
    Calls Try.prog 117 #[.slice a xs.length cp, .int .i64 x] w fun e w' => (∃ i : Nat, e = .returned (.int .i64 (i : Int))) ∧ w = w' := by
  obtain ⟨n, hnl⟩ : ∃ n, xs.length = n := ⟨_, rfl⟩
  rw [hnl] at hn ⊢
  have HN := Lib.hid hnl
  have HA := Lib.hid ha
  have HX := Lib.hid hx
  clear ha hx hnl
  go_enter Try.func117, Try.ntmps117
  go_wp2_with fail
  go_loopg [8] n (fun m iv wr => ∃ k : Nat, k + m = n ∧ iv = .int .i64 (k : Int) ∧ x ∈ xs.drop k ∧ w = wr)
  case atStart => exact ⟨0, by omega, rfl, by rw [List.drop_zero]; exact HX.out, rfl⟩
  case round =>
    obtain ⟨k, hkm, rfl, hd, rfl⟩ := hrel
    have HD := Lib.hid hd
    clear hd
    cases gk with
    | zero =>
      obtain rfl : k = n := by omega
      exfalso
      have h := HD.out
      rw [List.drop_eq_nil_of_le (by rw [HN.out]; exact Nat.le_refl _)] at h
      simp at h
    | succ m =>
      have hk : k < xs.length := by rw [HN.out]; omega
      have hkt : xs[k]? = some xs[k] := List.getElem?_eq_getElem hk
      have hmem : xs[k] ∈ xs := List.getElem_mem hk
      generalize xs[k] = y at hkt hmem
      obtain ⟨g, rfl, hg⟩ := HA.out (by intro e; rw [e] at hk; simp at hk)
      have c0 := hg k y hkt
      have q3 : (k : Int) < (n : Int) := by omega
      have q4 : (0 : Int) ≤ (k : Int) := Int.natCast_nonneg _
      have HKT := Lib.hid hkt
      clear hk hkt hmem hg
      by_cases e : x = y
      · have q0 : (x == y) = true := by simpa using e
        clear e
        go_wp2_with fail
        go_ret
        exact ⟨⟨k, rfl⟩, rfl⟩
      · have q0 : (x == y) = false := by simpa using e
        have hd2 : x ∈ xs.drop (k + 1) := by
          have h := HD.out
          rw [drop_at3 HKT.out] at h
          rcases List.mem_cons.1 h with h | h
          · exact absurd h e
          · exact h
        have HD2 := Lib.hid hd2
        clear e hd2
        go_wp2_with fail
        go_roundg m
        case measure => omega
        case rel => exact ⟨k + 1, by omega, by go_num, HD2.out, rfl⟩
theorem contains_yes (a : Option Addr) (xs : List Int) (cp : Nat) (x : Int) (w : World) (hn : xs.length ≤ 1000000) (ha : xs ≠ [] → ∃ g, a = some ⟨g, 0, none⟩ ∧ ∀ (j : Nat) (y : Int), xs[j]? = some y → w.cell? ⟨g, j, none⟩ = some (.int .i64 y)) (hx : x ∈ xs) :
    Calls Try.prog 91 #[.slice a xs.length cp, .int .i64 x] w fun e w' => e = .returned (.bool true) ∧ w = w' := by
  have h := index_any2 a xs cp x w hn ha hx
  clear ha hx
  go_enter Try.func91, Try.ntmps91
  go_wp2_with fail
  refine h.mono ?_
  rintro e w' ⟨⟨i, rfl⟩, rfl⟩
  have q0 : (0 : Int) ≤ (i : Int) := Int.natCast_nonneg _
  go_wp2_with fail
  go_ret
  exact ⟨rfl, rfl⟩
theorem contains_any (a : Option Addr) (xs : List Int) (cp : Nat) (x : Int) (w : World) (hn : xs.length ≤ 1000000) (ha : xs ≠ [] → ∃ g, a = some ⟨g, 0, none⟩ ∧ ∀ (j : Nat) (y : Int), xs[j]? = some y → w.cell? ⟨g, j, none⟩ = some (.int .i64 y)) :
    Calls Try.prog 91 #[.slice a xs.length cp, .int .i64 x] w fun e w' => e = .returned (.bool (decide (x ∈ xs))) ∧ w = w' := by
  by_cases h : x ∈ xs
  · rw [decide_eq_true h]; exact contains_yes a xs cp x w hn ha h
  · rw [decide_eq_false h]; exact contains_no a xs cp x w hn ha h
/-- a new clause -/
theorem Dm.addG {w : World} {Z : Nat → Prop} {d : Nat} {sh : Nat → Nat × Nat} {G : Nat → Prop} {s : DS} {c : Nat → Value} (h : Dm w Z 100 d sh G s c) {g cp : Nat} {l : List Int} (hg : ∀ i, 98 ≤ i → i ≤ 147 → (c i).ownBlock ≠ some g) (hgd : g ≠ d) (hgz : ¬ Z g) (hgG : ¬ G g) (hgl : g < w.heap.size) (hcb : CB w g (upF sh g (l.length, cp)) l) :
    Dm w Z 100 d (upF sh g (l.length, cp)) (fun k => G k ∨ k = g) { s with cl := upF s.cl g l } c := by
  have hsh : ∀ z, G z → upF sh g (l.length, cp) z = sh z := fun z hz => upF_other _ _ (fun e => hgG (e ▸ hz))
  have hcv : ∀ z, G z → clV (upF sh g (l.length, cp)) z = clV sh z := fun z hz => by unfold clV; rw [hsh z hz]
  have hrv : ∀ r : Option Nat, (∀ z, r = some z → G z) → refV (upF sh g (l.length, cp)) r = refV sh r := fun r hr => by
    cases r with
    | none => rfl
    | some z => exact hcv z (hr z rfl)
  have hrow : ∀ i, rowS (upF sh g (l.length, cp)) { s with cl := upF s.cl g l } i = rowS sh s i := fun i => by
    unfold rowS
    split
    · rfl
    · exact List.map_congr_left fun z hz => hcv z (h.sm.wG _ z hz)
  refine ⟨⟨h.hp.mem, h.hp.zlt, h.hp.zd, fun e => e.elim h.hp.gd (fun e => hgd e.symm), fun i h1 h2 h3 => by rw [hrow]; exact h.hp.rows i h1 h2 h3, fun z hz => ?_, fun i h1 h2 h3 b hb => ?_, h.hp.sep⟩, ⟨h.sm.hd, fun i hi => ?_, h.sm.nx, h.sm.kn, ?_, h.sm.bk, fun i z hz => .inl (h.sm.wG i z hz), fun i z hz => .inl (h.sm.rG i z hz), fun z hz => .inl (h.sm.cG z hz)⟩⟩
  · by_cases e : z = g
    · rw [e]
      dsimp only
      rw [upF_same]
      exact ⟨hcb, hgz, hgl⟩
    · rcases hz with hz | hz
      · obtain ⟨a1, a2, a3⟩ := h.hp.cls z hz
        dsimp only
        rw [upF_other s.cl _ e]
        exact ⟨⟨by rw [hsh z hz]; exact a1.len, a1.cell, a1.free, by rw [hsh z hz]; exact a1.cap⟩, a2, a3⟩
      · exact absurd hz e
  · obtain ⟨a1, a2, a3⟩ := h.hp.own i h1 h2 h3 b hb
    exact ⟨a1, a2, fun e => e.elim a3 (fun e => hg i h1 h2 (e ▸ hb))⟩
  · rw [hrv _ (fun z hz => h.sm.rG _ z hz)]; exact h.sm.rs i hi
  · rw [hrv _ (fun z hz => h.sm.cG z hz)]; exact h.sm.cf
theorem Dm.broken {w : World} {Z : Nat → Prop} {x d : Nat} {sh : Nat → Nat × Nat} {G : Nat → Prop} {s : DS} {c : Nat → Value} (h : Dm w Z x d sh G s c) (b : Bool) : Dm (w.setCell ⟨d, 151, none⟩ (.bool b)) Z x d sh G { s with broken := b } (upd c 151 (.bool b)) := by
  have u : ∀ j, j ≠ 151 → upd c 151 (.bool b) j = c j := fun j e => by unfold upd; rw [if_neg e]
  refine ⟨h.hp.set 151 (.inr (by decide)) _, ⟨fun i hi => ?_, fun i hi => ?_, ?_, ?_, ?_, ?_, h.sm.wG, h.sm.rG, h.sm.cG⟩⟩
  · rw [u i (by omega)]; exact h.sm.hd i hi
  · rw [u _ (by omega)]; exact h.sm.rs i hi
  · rw [u _ (by decide)]; exact h.sm.nx
  · rw [u _ (by decide)]; exact h.sm.kn
  · rw [u _ (by decide)]; exact h.sm.cf
  · unfold upd; rw [if_pos rfl]
theorem Dm.known {w : World} {Z : Nat → Prop} {x d : Nat} {sh : Nat → Nat × Nat} {G : Nat → Prop} {s : DS} {c : Nat → Value} (h : Dm w Z x d sh G s c) (k : Nat) : Dm (w.setCell ⟨d, 149, none⟩ (.int .i64 (k : Int))) Z x d sh G { s with known := k } (upd c 149 (.int .i64 (k : Int))) := by
  have u : ∀ j, j ≠ 149 → upd c 149 (.int .i64 (k : Int)) j = c j := fun j e => by unfold upd; rw [if_neg e]
  refine ⟨h.hp.set 149 (.inr (by decide)) _, ⟨fun i hi => ?_, fun i hi => ?_, ?_, ?_, ?_, ?_, h.sm.wG, h.sm.rG, h.sm.cG⟩⟩
  · rw [u i (by omega)]; exact h.sm.hd i hi
  · rw [u _ (by omega)]; exact h.sm.rs i hi
  · rw [u _ (by decide)]; exact h.sm.nx
  · unfold upd; rw [if_pos rfl]
  · rw [u _ (by decide)]; exact h.sm.cf
  · rw [u _ (by decide)]; exact h.sm.bk
end Go.Proofs.Ytaojojjdfdlgpaa
