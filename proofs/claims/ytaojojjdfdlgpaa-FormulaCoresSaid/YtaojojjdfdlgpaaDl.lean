import Derived.Test.YtaojojjdfdlgpaaDh
namespace Go.Proofs.Ytaojojjdfdlgpaa
open Go.RowKit Uq

/-! look -/
theorem Hp.memd {w w' : World} {Z : Nat → Prop} {x d : Nat} {sh : Nat → Nat × Nat} {G : Nat → Prop} {cl : Nat → List Int} {R : Nat → List Value} {c : Nat → Value} (h : Hp w Z x d sh G cl R c) (f : Fr (fun k => k = d) w w') (m : Mem w' d c) : Hp w' Z x d sh G cl R c := by
  refine ⟨m, fun k hk => Nat.lt_of_lt_of_le (h.zlt k hk) f.size, h.zd, h.gd, fun j h1 h2 h3 => ?_, fun g hg => ?_, h.own, h.sep⟩
  · exact f.row (h.rows j h1 h2 h3) fun b hb e => (h.own j h1 h2 h3 b hb).1 e
  · obtain ⟨a1, a2, a3⟩ := h.cls g hg
    exact ⟨a1.kept f (fun (e : g = d) => h.gd (e ▸ hg)) a3, a2, Nat.lt_of_lt_of_le a3 f.size⟩
/-- one row is taken out -/
theorem Dm.except {w : World} {Z : Nat → Prop} {d : Nat} {sh : Nat → Nat × Nat} {G : Nat → Prop} {s : DS} {c : Nat → Value} (h : Dm w Z 100 d sh G s c) {p b : Nat} (hp : p < 49) (hb : (c (98 + p)).ownBlock = some b) : Dm w (fun k => Z k ∨ k = b) p d sh G s c := by
  have ho := h.hp.own (98 + p) (by omega) (by omega) (by omega) b hb
  have hlt := ((h.hp.rows (98 + p) (by omega) (by omega) (by omega)).lt b hb).2
  refine ⟨⟨h.hp.mem, fun k hk => hk.elim (h.hp.zlt k) (fun e => by omega), fun e => e.elim h.hp.zd (fun e => ho.1 e.symm), h.hp.gd, fun i h1 h2 _ => h.hp.rows i h1 h2 (by omega), fun g hg => ?_, fun i h1 h2 h3 k hk => ?_, fun i j h1 h2 h3 h4 h5 _ _ => h.hp.sep i j h1 h2 h3 h4 h5 (by omega) (by omega)⟩, h.sm⟩
  · obtain ⟨a1, a2, a3⟩ := h.hp.cls g hg
    exact ⟨a1, fun e => e.elim a2 (fun e => ho.2.2 (e ▸ hg)), a3⟩
  · obtain ⟨a1, a2, a3⟩ := h.hp.own i h1 h2 (by omega) k hk
    exact ⟨a1, fun e => e.elim a2 (fun e => h.hp.sep i (98 + p) h1 h2 (by omega) (by omega) h3 (by omega) (by omega) k hk (e ▸ hb)), a3⟩
/-- and put back -/
theorem Dm.restore {w : World} {Z : Nat → Prop} {d : Nat} {sh : Nat → Nat × Nat} {G : Nat → Prop} {s : DS} {c : Nat → Value} {p b : Nat} {lit : Int} (h : Dm w (fun k => Z k ∨ k = b) p d sh G s c) (hp : lit + 24 = (p : Int)) (hp2 : p < 49) (hz : ¬ Z b) {v : Value} {kept : List Nat}
    (hr : w.ownsRow 0 37 1 v kept.length (kept.map (clV sh))) (hv : v.ownBlock = some b) (hk : ∀ g ∈ kept, G g) :
    Dm (w.setCell ⟨d, 98 + p, none⟩ v) Z 100 d sh G { s with watched := upF s.watched lit kept } (upd c (98 + p) v) := by
  have hbd : b ≠ d := fun e => h.hp.zd (.inr e.symm)
  have hbg : ¬ G b := fun e => (h.hp.cls b e).2.1 (.inr rfl)
  have f := fr_store w d (98 + p) v
  have up : upd c (98 + p) v (98 + p) = v := by unfold upd; rw [if_pos rfl]
  have u : ∀ j, j ≠ 98 + p → upd c (98 + p) v j = c j := fun j e => by unfold upd; rw [if_neg e]
  have hob : ∀ j, 98 ≤ j → j ≤ 147 → j ≠ 98 + p → ∀ k, (c j).ownBlock = some k → k ≠ b := fun j h1 h2 h3 k hk e => (h.hp.own j h1 h2 h3 k hk).2.1 (.inr e)
  refine ⟨⟨h.hp.mem.set _ _, fun k hk => Nat.lt_of_lt_of_le (h.hp.zlt k (.inl hk)) f.size, fun e => h.hp.zd (.inl e), h.hp.gd, fun i h1 h2 _ => ?_, fun g hg => ?_, fun i h1 h2 _ k hk => ?_, fun i j h1 h2 h3 h4 h5 _ _ k hk => ?_⟩, ⟨fun i hi => ?_, fun i hi => ?_, ?_, ?_, ?_, ?_, fun i g hg => ?_, h.sm.rG, h.sm.cG⟩⟩
  · by_cases e : i = 98 + p
    · subst e
      have hrow : rowS sh { s with watched := upF s.watched lit kept } (98 + p) = kept.map (clV sh) := by
        unfold rowS
        rw [if_neg (by omega), show (((98 + p : Nat) : Int) - 122) = lit by omega]
        dsimp only
        rw [upF_same]
      rw [hrow, up, List.length_map]
      have hty : TY (98 + p) = 37 := by unfold TY; rw [if_neg (by omega)]
      rw [hty]
      exact f.row hr fun k hk e => hbd (Option.some.inj (hv.symm.trans hk) ▸ e)
    · have hrow : rowS sh { s with watched := upF s.watched lit kept } i = rowS sh s i := by
        unfold rowS
        by_cases e2 : i = 147
        · rw [if_pos e2, if_pos e2]
        · rw [if_neg e2, if_neg e2]
          dsimp only
          rw [upF_other _ _ (by omega)]
      rw [hrow, u i e]
      exact f.row (h.hp.rows i h1 h2 e) fun k hk e2 => (h.hp.own i h1 h2 e k hk).1 e2
  · obtain ⟨a1, a2, a3⟩ := h.hp.cls g hg
    exact ⟨a1.kept f (fun (e : g = d) => h.hp.gd (e ▸ hg)) a3, fun e => a2 (.inl e), Nat.lt_of_lt_of_le a3 f.size⟩
  · by_cases e : i = 98 + p
    · subst e
      rw [up] at hk
      obtain rfl := Option.some.inj (hv.symm.trans hk)
      exact ⟨hbd, hz, hbg⟩
    · rw [u i e] at hk
      obtain ⟨a1, a2, a3⟩ := h.hp.own i h1 h2 e k hk
      exact ⟨a1, fun e => a2 (.inl e), a3⟩
  · by_cases e : i = 98 + p
    · subst e
      rw [up] at hk
      obtain rfl := Option.some.inj (hv.symm.trans hk)
      rw [u j (fun e => h5 e.symm)]
      exact fun e => hob j h3 h4 (fun e => h5 e.symm) _ e rfl
    · rw [u i e] at hk
      by_cases e2 : j = 98 + p
      · subst e2
        rw [up, hv]
        exact fun e3 => hob i h1 h2 e k hk (Option.some.inj e3).symm
      · rw [u j e2]
        exact h.hp.sep i j h1 h2 h3 h4 h5 e e2 k hk
  · rw [u i (by omega)]; exact h.sm.hd i hi
  · rw [u _ (by omega)]; exact h.sm.rs i hi
  · rw [u _ (by omega)]; exact h.sm.nx
  · rw [u _ (by omega)]; exact h.sm.kn
  · rw [u _ (by omega)]; exact h.sm.cf
  · rw [u _ (by omega)]; exact h.sm.bk
  · change g ∈ upF s.watched lit kept i at hg
    by_cases e : i = lit
    · rw [e, upF_same] at hg; exact hk g hg
    · rw [upF_other _ _ e] at hg; exact h.sm.wG i g hg
/-- the block of a list that is gone through: first what is kept, from k on what is still to be seen -/
structure Lst (w : World) (b cap k : Nat) (sh : Nat → Nat × Nat) (kept rest : List Nat) : Prop where
  cells : ∃ cur : Array Value, w.heap[b]? = some (.cells cur 37 (0, 0)) ∧ cur.size = cap ∧ (∀ (i : Nat) g, kept[i]? = some g → cur[i]? = some (clV sh g)) ∧ ∀ (i : Nat) g, rest[i]? = some g → cur[k + i]? = some (clV sh g)
  le : kept.length ≤ k
  fit : k + rest.length ≤ cap
theorem Lst.kept {w w' : World} {b cap k : Nat} {sh : Nat → Nat × Nat} {kept rest : List Nat} (h : Lst w b cap k sh kept rest) {S : Nat → Prop} (f : Fr S w w') (hS : ¬ S b) : Lst w' b cap k sh kept rest := by
  obtain ⟨cur, h1, h2, h3, h4⟩ := h.cells
  exact ⟨⟨cur, (f.block b (Array.getElem?_eq_some_iff.1 h1).1 hS).trans h1, h2, h3, h4⟩, h.le, h.fit⟩
theorem Lst.at {w : World} {b cap k : Nat} {sh : Nat → Nat × Nat} {kept rest : List Nat} {g : Nat} (h : Lst w b cap k sh kept (g :: rest)) : w.cell? ⟨b, k, none⟩ = some (clV sh g) := by
  obtain ⟨cur, h1, h2, h3, h4⟩ := h.cells
  rw [Lib.cell_of_heap h1]
  exact h4 0 g rfl
theorem Lst.row {w : World} {b cap k : Nat} {sh : Nat → Nat × Nat} {kept rest : List Nat} (h : Lst w b cap k sh kept rest) (hm : cap ≤ maxLen) : w.ownsRow 0 37 1 (.slice (some ⟨b, 0, none⟩) kept.length cap) kept.length (kept.map (clV sh)) := by
  obtain ⟨cur, h1, h2, h3, h4⟩ := h.cells
  have hl := h.le
  have hf := h.fit
  refine ⟨by simp, .inr ⟨b, cap, cur, rfl, Nat.zero_le _, h1, by omega, hm, by omega, ?_⟩⟩
  apply List.ext_getElem?
  intro i
  rw [Nat.mul_one, List.getElem?_take, List.getElem?_map]
  split
  · rename_i hi
    have hg : kept[i]? = some kept[i] := List.getElem?_eq_getElem hi
    rw [hg]
    have := h3 i _ hg
    simpa using this
  · rename_i hi
    rw [List.getElem?_eq_none (by omega)]; rfl
theorem Lst.skip {w : World} {b cap k : Nat} {sh : Nat → Nat × Nat} {kept rest : List Nat} {g : Nat} (h : Lst w b cap k sh kept (g :: rest)) : Lst w b cap (k + 1) sh kept rest := by
  obtain ⟨cur, h1, h2, h3, h4⟩ := h.cells
  refine ⟨⟨cur, h1, h2, h3, fun i z hz => ?_⟩, by have := h.le; omega, by have := h.fit; simp only [List.length_cons] at this; omega⟩
  have := h4 (i + 1) z (by simpa using hz)
  rw [show k + 1 + i = k + (i + 1) by omega]
  exact this
/-- append within the list's own block -/
theorem Lst.push {w : World} {b cap k : Nat} {sh : Nat → Nat × Nat} {kept rest : List Nat} (h : Lst w b cap k sh kept rest) {a : Addr} {m cc : Nat} {new : List Nat} (hm : new.length = m) (hc : ∀ (j : Nat) u, (new.map (clV sh))[j]? = some u → w.cell? (a.add j) = some u) (hfit : kept.length + m ≤ cap) (hle : kept.length + m ≤ k) (t ty : TypeId) (ht : Try.prog.underlying t = some (.slice 37)) :
    ∃ w', (Builtin.append_ #[t, t] ty #[.slice (some ⟨b, 0, none⟩) kept.length cap, .slice (some a) m cc]).run Try.prog w = .ok (.slice (some ⟨b, 0, none⟩) (kept.length + m) cap) w' ∧ Lst w' b cap k sh (kept ++ new) rest ∧ Fr (fun k => k = b) w w' := by
  obtain ⟨cur, h1, h2, h3, h4⟩ := h.cells
  obtain ⟨i0, hi0, hz0, hz1, hz2⟩ := info_parts info_ints
  have hl := h.le
  have hf := h.fit
  have hnl : (new.map (clV sh)).length = m * i0.size := by rw [List.length_map, hz1, Nat.mul_one]; exact hm
  have hr := run_append_room (P := Try.prog) w t ty 37 i0 ht hi0 b kept.length cap cur h1 a m cc (new.map (clV sh)) hnl hc (fun u hu => by obtain ⟨g, _, rfl⟩ := List.mem_map.1 hu; rfl) hfit (by rw [hz1, List.length_map]; omega)
  refine ⟨_, hr, ⟨⟨_, setRow_heap w b cur _ _ _ h1, ?_, fun i g hg => ?_, fun i g hg => ?_⟩, by rw [List.length_append, hm]; exact hle, hf⟩, ⟨rfl, rfl, rfl, by simp [World.setRow], fun k _ hk => setRow_other w b k _ hk⟩⟩
  · simp only [List.size_toArray, List.length_append, List.length_take, List.length_drop, Array.length_toList, List.length_map, hz1]
    omega
  · have hil : i < kept.length + m := by
      have := (List.getElem?_eq_some_iff.1 hg).1
      rw [List.length_append, hm] at this
      exact this
    rw [List.getElem?_toArray, hz1, Nat.mul_one]
    have htl : (cur.toList.take kept.length).length = kept.length := by have e : cur.toList.length = cur.size := Array.length_toList; rw [List.length_take]; omega
    by_cases hi : i < kept.length
    · rw [List.getElem?_append_left (by rw [List.length_append, htl]; omega), List.getElem?_append_left (by omega), List.getElem?_take, if_pos hi]
      rw [List.getElem?_append_left hi] at hg
      have := h3 i g hg
      simpa using this
    · rw [List.getElem?_append_left (by rw [List.length_append, htl, List.length_map]; omega), List.getElem?_append_right (by omega), htl, List.getElem?_map]
      rw [List.getElem?_append_right (by omega)] at hg
      rw [hg]; rfl
  · rw [List.getElem?_toArray, hz1, Nat.mul_one, List.length_map, hm]
    have htl : (cur.toList.take kept.length).length = kept.length := by have e : cur.toList.length = cur.size := Array.length_toList; rw [List.length_take]; omega
    rw [List.getElem?_append_right (by rw [List.length_append, htl, List.length_map]; omega), List.length_append, htl, List.length_map, hm, List.getElem?_drop]
    have := h4 i g hg
    rw [show kept.length + m + (k + i - (kept.length + m)) = k + i by omega]
    simpa using this
theorem Lst.end {w : World} {b cap k : Nat} {sh : Nat → Nat × Nat} {kept rest : List Nat} (h : Lst w b cap k sh kept rest) : Lst w b cap cap sh kept [] := by
  obtain ⟨cur, h1, h2, h3, h4⟩ := h.cells
  have hl := h.le
  have hf := h.fit
  exact ⟨⟨cur, h1, h2, h3, fun i g hg => by simp at hg⟩, by omega, by simp⟩
theorem Lst.src {w : World} {b cap k : Nat} {sh : Nat → Nat × Nat} {kept rest : List Nat} (h : Lst w b cap k sh kept rest) : ∀ (j : Nat) u, (rest.map (clV sh))[j]? = some u → w.cell? ((⟨b, k, none⟩ : Addr).add j) = some u := by
  intro j u hj
  obtain ⟨cur, h1, h2, h3, h4⟩ := h.cells
  rw [List.getElem?_map] at hj
  obtain ⟨g, hg, rfl⟩ := Option.map_eq_some_iff.1 hj
  have e : (⟨b, k, none⟩ : Addr).add j = ⟨b, k + j, none⟩ := by
    unfold Addr.add
    split
    · rename_i h; subst h; rfl
    · rfl
  rw [e, Lib.cell_of_heap h1]
  exact h4 j g hg
theorem Lst.of_row {w : World} {b n cap : Nat} {sh : Nat → Nat × Nat} {rest : List Nat} (h : w.ownsRow 0 37 1 (.slice (some ⟨b, 0, none⟩) n cap) n (rest.map (clV sh))) : Lst w b cap 0 sh [] rest ∧ cap ≤ maxLen ∧ n = rest.length := by
  have hn : n = rest.length := by have := h.1; rw [List.length_map] at this; omega
  rcases h.2 with ⟨h1, h2⟩ | ⟨g, cap', cur, h1, h2, h3, h4, h5, h6, h7⟩
  · cases h1
  · cases h1
    refine ⟨⟨⟨cur, h3, by omega, fun i g hg => by simp at hg, fun i g hg => ?_⟩, Nat.le_refl _, by omega⟩, h5, hn⟩
    have hil : i < n := by rw [hn]; exact (List.getElem?_eq_some_iff.1 hg).1
    have h8 := congrArg (fun l => l[i]?) h7
    simp only [List.getElem?_take, List.getElem?_map, hg, Option.map_some, Nat.mul_one, if_pos hil] at h8
    rw [Nat.zero_add]
    simpa using h8
theorem nodup_leN : ∀ {l m : List Nat}, l.Nodup → (∀ x ∈ l, x ∈ m) → l.length ≤ m.length
  | [], m, _, _ => Nat.zero_le _
  | a :: l, m, hn, hs => by
    have ha : a ∈ m := hs a (by simp)
    have h1 := nodup_leN (l := l) (m := m.erase a) (List.nodup_cons.1 hn).2 fun x hx => by
      have hne : x ≠ a := fun e => (List.nodup_cons.1 hn).1 (e ▸ hx)
      exact (List.mem_erase_of_ne hne).2 (hs x (by simp [hx]))
    rw [List.length_erase_of_mem ha] at h1
    have : 0 < m.length := List.length_pos_of_mem ha
    simp only [List.length_cons]
    omega
theorem look_mem {ids : List Nat} {s : DS} {lit : Int} {rest kept : List Nat} {T : List Int} (h : LookI ids s lit rest kept T) {i : Int} (hi : i ≠ lit) : (s.watched i).length ≤ ids.length := by
  have hn := h.wat.nodup i
  have hm := h.wat.mem i
  rw [upF_other _ _ hi] at hn hm
  exact nodup_leN hn fun x hx => ((hm x).1 hx).1
end Go.Proofs.Ytaojojjdfdlgpaa
