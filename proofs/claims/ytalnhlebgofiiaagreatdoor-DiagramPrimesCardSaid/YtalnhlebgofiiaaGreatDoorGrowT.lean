import Derived.Test.YtalnhlebgofiiaaGreatDoorWork
import Derived.Deep.RegionWith
import Derived.Laws.EntriesVeiled
namespace Go.Proofs.YtalnhlebgofiiaaGreatDoor
open Go.RowKit
open Bd

/-- a key of three places -/
abbrev tk (k : Nat × Nat × Nat) : Value := .agg #[.int .u32 (k.1 : Int), .int .u32 (k.2.1 : Int), .int .u32 (k.2.2 : Int)]
theorem tk_inj (a b : Nat × Nat × Nat) (h : tk a = tk b) : a = b := by
  obtain ⟨a1, a2, a3⟩ := a
  obtain ⟨b1, b2, b3⟩ := b
  simp only [Value.agg.injEq, Array.mk.injEq, List.cons.injEq, Value.int.injEq, true_and, and_true] at h
  obtain ⟨h1, h2, h3⟩ := h
  have e1 : a1 = b1 := by omega
  have e2 : a2 = b2 := by omega
  have e3 : a3 = b3 := by omega
  rw [e1, e2, e3]
theorem tkKeyed : Maps.Keyed Tryz.prog 153 := Maps.Keyed.of_law (deep_law_laid (m := 5) laidOut (by decide) (of_decide_eq_true (by kernel_rfl)) (by kernel_rfl) (by kernel_rfl))
theorem cells_trio : Tryz.prog.cellsOf 153 = 3 := by kernel_rfl
theorem key_trio : Tryz.prog.keyType 153 = true := by kernel_rfl
theorem tkKey {r : Nat × Nat × Nat} (h1 : r.1 < 4294967296) (h2 : r.2.1 < 4294967296) (h3 : r.2.2 < 4294967296) : ∃ l, keyOf Tryz.prog 153 (tk r) = some l := by
  have e1 := wf_u32 h1
  have e2 := wf_u32 h2
  have e3 := wf_u32 h3
  rw [← Option.isSome_iff_exists]
  obtain ⟨k, hk⟩ := types_pos
  unfold keyOf
  rw [Tryz.underlying153]
  simp only [key_trio, Value.formed, Tryz.underlying153, cells_trio, Value.cells, hk]
  simp only [Program.keyLits, Tryz.underlying153, cells_trio]
  simp [e1, e2, e3, cells_u32]

abbrev VT := VisPost 153 tk
abbrev GT {sem : (Nat × Nat × Nat) → B} := @Gr (Nat × Nat × Nat) 153 tk sem 133

section
variable (sem : (Nat × Nat × Nat) → B) (mu : (Nat × Nat × Nat) → Nat) (fv : Value) (w : World) (wb mb fb b1 b2 b3 b4 : Nat) (v : Value) (mf : (Nat × Nat × Nat) → Option Value) (R : List B) (ch : Value)

set_option maxRecDepth 100000 in
set_option maxHeartbeats 400000 in
/-- a leaf -/
theorem visitT_leaf (a b c la lb lc ha hd hc f : Nat) (hG : GT (sem := sem) (.func (.func 108) #[ch] #[]) w wb mb fb b1 b2 b3 b4 v mf R) (hf : f = 0 ∧ sem (a, b, c) = .F ∨ f = 1 ∧ sem (a, b, c) = .T)
    (hsp : ∀ w, Calls Tryz.prog 108 #[ch, tk (a, b, c)] w fun e w' => e = .returned (.tuple #[.int .i64 ((24 + f : Nat) : Int), tk (la, lb, lc), tk (ha, hd, hc)]) ∧ Below w.heap.size w w') :
    Calls Tryz.prog 133 #[tk (a, b, c), .pointer (some ⟨b1, 0, none⟩), .pointer (some ⟨b2, 0, none⟩), .pointer (some ⟨b3, 0, none⟩), .pointer (some ⟨b4, 0, none⟩)] w
      (VT sem mu 133 (.func (.func 108) #[ch] #[]) wb mb fb b1 b2 b3 b4 v mf R (a, b, c) w) := by
  have hc1 := hG.caps.c1
  have l1 := hG.caps.lt.1
  have hf0 : (0 : Int) ≤ (f : Int) := by omega
  have hf1 : (f : Int) ≤ 1 := by omega
  go_enter Tryz.func133, Tryz.ntmps133
  go_wp2_with fail
  refine (hsp _).mono ?_
  rintro e w1 ⟨rfl, hb⟩
  go_wp2_with fail
  have fr1 : Fr nob w w1 := ((Fr.refl nob w).alloc _).below hb
  go_ret
  refine ⟨v, mf, ?_, ?_, (((fr1.alloc _).alloc _).mono (fun _ _ h => h.elim)), fun g h => .inl h, fun _ => .inl rfl⟩
  · rcases hf with ⟨rfl, h⟩ | ⟨rfl, h⟩ <;> rw [h] <;> rfl
  · have : vis (sem (a, b, c)) R = R := by rcases hf with ⟨_, h⟩ | ⟨_, h⟩ <;> rw [h] <;> rfl
    rw [this]
    exact hG.keptNew ((fr1.alloc _).alloc _)

set_option maxRecDepth 100000 in
set_option maxHeartbeats 400000 in
/-- a key that is finished -/
theorem visitT_found (a b c la lb lc ha hd hc f : Nat) (p : Value) (hG : GT (sem := sem) (.func (.func 108) #[ch] #[]) w wb mb fb b1 b2 b3 b4 v mf R) (hf : f < 24) (hp : mf (a, b, c) = some p)
    (hk : a < 4294967296 ∧ b < 4294967296 ∧ c < 4294967296)
    (hsp : ∀ w, Calls Tryz.prog 108 #[ch, tk (a, b, c)] w fun e w' => e = .returned (.tuple #[.int .i64 (f : Int), tk (la, lb, lc), tk (ha, hd, hc)]) ∧ Below w.heap.size w w') :
    Calls Tryz.prog 133 #[tk (a, b, c), .pointer (some ⟨b1, 0, none⟩), .pointer (some ⟨b2, 0, none⟩), .pointer (some ⟨b3, 0, none⟩), .pointer (some ⟨b4, 0, none⟩)] w
      (VT sem mu 133 (.func (.func 108) #[ch] #[]) wb mb fb b1 b2 b3 b4 v mf R (a, b, c) w) := by
  have hc1 := hG.caps.c1
  have hc2 := hG.caps.c2
  obtain ⟨l1, l2, _, _⟩ := hG.caps.lt
  have hf1 : (f : Int) < 24 := by omega
  have hf0 : (0 : Int) ≤ (f : Int) := by omega
  have e5 := hG.fin.places _ _ hp
  go_enter Tryz.func133, Tryz.ntmps133
  go_wp2_with fail
  refine (hsp _).mono ?_
  rintro e w1 ⟨rfl, hb⟩
  have fr0 := (Fr.refl nob (w.alloc (.cells #[.int .u32 (a : Int), .int .u32 (b : Int), .int .u32 (c : Int)] 153))).below hb
  have k0 := fr0.cell (p := ⟨w.heap.size, 0, none⟩) (World.cell?_alloc_at _ _ _ _ rfl) (fun h => h)
  have k1 := fr0.cell (p := ⟨w.heap.size, 1, none⟩) (World.cell?_alloc_at _ _ _ _ rfl) (fun h => h)
  have k2 := fr0.cell (p := ⟨w.heap.size, 2, none⟩) (World.cell?_alloc_at _ _ _ _ rfl) (fun h => h)
  have fr1 : Fr nob w w1 := ((Fr.refl nob w).alloc _).below hb
  have fr12 := (((Fr.refl nob w1).alloc (.cells #[.int .u32 (la : Int), .int .u32 (lb : Int), .int .u32 (lc : Int)] 153)).alloc (.cells #[.int .u32 (ha : Int), .int .u32 (hd : Int), .int .u32 (hc : Int)] 153))
  have fr2 := fr1.trans fr12 (fun _ _ h => h)
  have hc22 := fr2.cell hc2 (fun h => h)
  have k02 := fr12.cell k0 (fun h => h)
  have k12 := fr12.cell k1 (fun h => h)
  have k22 := fr12.cell k2 (fun h => h)
  obtain ⟨l, hkey⟩ := tkKey (r := (a, b, c)) hk.1 hk.2.1 hk.2.2
  obtain ⟨nm, hm⟩ := hG.fin.map
  have hlook := (fr2.map hm (fun h => h)).lookup_yes tkKeyed tk_inj Tryz.underlying178 hkey hp
  dsimp only [tk] at hlook
  go_wp2_with fail
  go_ret
  refine ⟨v, mf, ?_, ?_, fr2.mono (fun _ _ h => h.elim), fun g h => .inl h, fun _ => .inl rfl⟩
  · rw [vis_inn e5.1, ← e5.2]; rfl
  · rw [vis_inn e5.1]
    exact hG.keptNew fr2

set_option maxRecDepth 100000 in
set_option maxHeartbeats 1000000 in
/-- a key that is new -/
theorem visitT_step (a b c la lb lc ha hd hc f : Nat) (hG : GT (sem := sem) (.func (.func 108) #[ch] #[]) w wb mb fb b1 b2 b3 b4 v mf R) (hf : f < 24) (hp : mf (a, b, c) = none)
    (hk : a < 4294967296 ∧ b < 4294967296 ∧ c < 4294967296) (hsem : sem (a, b, c) = mk f (sem (la, lb, lc)) (sem (ha, hd, hc))) (hml : mu (la, lb, lc) < mu (a, b, c)) (hmh : mu (ha, hd, hc) < mu (a, b, c)) (hs : small (vis (sem (a, b, c)) R))
    (hsp : ∀ w, Calls Tryz.prog 108 #[ch, tk (a, b, c)] w fun e w' => e = .returned (.tuple #[.int .i64 (f : Int), tk (la, lb, lc), tk (ha, hd, hc)]) ∧ Below w.heap.size w w')
    (ihl : ∀ w v mf R, GT (sem := sem) (.func (.func 108) #[ch] #[]) w wb mb fb b1 b2 b3 b4 v mf R → small (vis (sem (la, lb, lc)) R) →
      Calls Tryz.prog 133 #[tk (la, lb, lc), .pointer (some ⟨b1, 0, none⟩), .pointer (some ⟨b2, 0, none⟩), .pointer (some ⟨b3, 0, none⟩), .pointer (some ⟨b4, 0, none⟩)] w
        (VT sem mu 133 (.func (.func 108) #[ch] #[]) wb mb fb b1 b2 b3 b4 v mf R (la, lb, lc) w))
    (ihh : ∀ w v mf R, GT (sem := sem) (.func (.func 108) #[ch] #[]) w wb mb fb b1 b2 b3 b4 v mf R → small (vis (sem (ha, hd, hc)) R) →
      Calls Tryz.prog 133 #[tk (ha, hd, hc), .pointer (some ⟨b1, 0, none⟩), .pointer (some ⟨b2, 0, none⟩), .pointer (some ⟨b3, 0, none⟩), .pointer (some ⟨b4, 0, none⟩)] w
        (VT sem mu 133 (.func (.func 108) #[ch] #[]) wb mb fb b1 b2 b3 b4 v mf R (ha, hd, hc) w)) :
    Calls Tryz.prog 133 #[tk (a, b, c), .pointer (some ⟨b1, 0, none⟩), .pointer (some ⟨b2, 0, none⟩), .pointer (some ⟨b3, 0, none⟩), .pointer (some ⟨b4, 0, none⟩)] w
      (VT sem mu 133 (.func (.func 108) #[ch] #[]) wb mb fb b1 b2 b3 b4 v mf R (a, b, c) w) := by
  have hg := hG.work.good
  have nf : ∀ k, w.heap.size ≤ k → ¬ foot4 wb mb fb v k := by
    rintro k hk (h | h)
    · have := hG.work.foot_lt k h; omega
    · obtain ⟨n, hm⟩ := hG.fin.map; have := hm.lt; omega
  have hsl : small (vis (sem (la, lb, lc)) R) := small_suffix ((vis_suffix _ _).trans (suffix_mk hg)) (hsem ▸ hs)
  have hsh : small (vis (sem (ha, hd, hc)) (vis (sem (la, lb, lc)) R)) := small_suffix (suffix_mk hg) (hsem ▸ hs)
  have hsn : small (vis (mk f (sem (la, lb, lc)) (sem (ha, hd, hc))) (vis (sem (ha, hd, hc)) (vis (sem (la, lb, lc)) R))) := by rw [vis_vis_mk hg, ← hsem]; exact hs
  have Hsem := Lib.hid hsem
  have Hp := Lib.hid hp
  obtain ⟨l, hkey⟩ := tkKey (r := (a, b, c)) hk.1 hk.2.1 hk.2.2
  have zero : ∀ w, (zeroValue 23).run Tryz.prog w = .ok (.int .u32 0) w := fun _ => by kernel_rfl
  have hc1 := hG.caps.c1
  have hc2 := hG.caps.c2
  have hc3 := hG.caps.c3
  obtain ⟨l1, l2, l3, l4⟩ := hG.caps.lt
  have hf1 : (f : Int) < 24 := by omega
  have hf0 : (0 : Int) ≤ (f : Int) := by omega
  clear hsem hp hs hg
  go_enter Tryz.func133, Tryz.ntmps133
  go_wp2_with fail
  refine (hsp _).mono ?_
  rintro e w1 ⟨rfl, hb⟩
  have fr0 := (Fr.refl nob (w.alloc (.cells #[.int .u32 (a : Int), .int .u32 (b : Int), .int .u32 (c : Int)] 153))).below hb
  have k0 := fr0.cell (p := ⟨w.heap.size, 0, none⟩) (World.cell?_alloc_at _ _ _ _ rfl) (fun h => h)
  have k1 := fr0.cell (p := ⟨w.heap.size, 1, none⟩) (World.cell?_alloc_at _ _ _ _ rfl) (fun h => h)
  have k2 := fr0.cell (p := ⟨w.heap.size, 2, none⟩) (World.cell?_alloc_at _ _ _ _ rfl) (fun h => h)
  have fr1 : Fr nob w w1 := ((Fr.refl nob w).alloc _).below hb
  have z1 : w.heap.size < w1.heap.size := by have := hb.size; simp at this; omega
  have fr12 := (((Fr.refl nob w1).alloc (.cells #[.int .u32 (la : Int), .int .u32 (lb : Int), .int .u32 (lc : Int)] 153)).alloc (.cells #[.int .u32 (ha : Int), .int .u32 (hd : Int), .int .u32 (hc : Int)] 153))
  have fr2 := fr1.trans fr12 (fun _ _ h => h)
  have hc22 := fr2.cell hc2 (fun h => h)
  have hc32 := fr2.cell hc3 (fun h => h)
  have k02 := fr12.cell k0 (fun h => h)
  have k12 := fr12.cell k1 (fun h => h)
  have k22 := fr12.cell k2 (fun h => h)
  have h02 : ((w1.alloc (.cells #[.int .u32 (la : Int), .int .u32 (lb : Int), .int .u32 (lc : Int)] 153)).alloc (.cells #[.int .u32 (ha : Int), .int .u32 (hd : Int), .int .u32 (hc : Int)] 153)).cell? ⟨w1.heap.size + 1, 0, none⟩ = some (.int .u32 (ha : Int)) := World.cell?_alloc_at _ _ _ _ (by simp)
  have h12 : ((w1.alloc (.cells #[.int .u32 (la : Int), .int .u32 (lb : Int), .int .u32 (lc : Int)] 153)).alloc (.cells #[.int .u32 (ha : Int), .int .u32 (hd : Int), .int .u32 (hc : Int)] 153)).cell? ⟨w1.heap.size + 1, 1, none⟩ = some (.int .u32 (hd : Int)) := World.cell?_alloc_at _ _ _ _ (by simp)
  have h22 : ((w1.alloc (.cells #[.int .u32 (la : Int), .int .u32 (lb : Int), .int .u32 (lc : Int)] 153)).alloc (.cells #[.int .u32 (ha : Int), .int .u32 (hd : Int), .int .u32 (hc : Int)] 153)).cell? ⟨w1.heap.size + 1, 2, none⟩ = some (.int .u32 (hc : Int)) := World.cell?_alloc_at _ _ _ _ (by simp)
  obtain ⟨nm, hm⟩ := hG.fin.map
  have hlook := (fr2.map hm (fun h => h)).lookup_no tkKeyed tk_inj Tryz.underlying178 (zero _) hkey Hp.out
  dsimp only [tk] at hlook
  have hG2 := hG.keptNew fr2
  have z2 : ((w1.alloc (.cells #[.int .u32 (la : Int), .int .u32 (lb : Int), .int .u32 (lc : Int)] 153)).alloc (.cells #[.int .u32 (ha : Int), .int .u32 (hd : Int), .int .u32 (hc : Int)] 153)).heap.size = w1.heap.size + 1 + 1 := by simp
  clear k0 k1 k2 fr0 hb fr1 fr12
  go_wp2_with fail
  refine (ihl _ _ _ _ hG2 hsl).mono ?_
  rintro e w3 ⟨v3, mf3, rfl, hG3, fr3, src3, dom3⟩
  rw [z2] at src3
  have z3 := fr3.size
  rw [z2] at z3
  have k03 := fr3.cell k02 (nf _ (Nat.le_refl _))
  have k13 := fr3.cell k12 (nf _ (Nat.le_refl _))
  have k23 := fr3.cell k22 (nf _ (Nat.le_refl _))
  have h03 := fr3.cell h02 (nf _ (by simp; omega))
  have h13 := fr3.cell h12 (nf _ (by simp; omega))
  have h23 := fr3.cell h22 (nf _ (by simp; omega))
  have fr23 := fr2.trans' fr3 (T := foot4 wb mb fb v) (fun _ _ h => h.elim) (fun _ _ h => h)
  have c33 := hG3.caps.c3
  clear k02 k12 k22 h02 h12 h22 hlook hG2 fr2 fr3 z2 hc22 hc32
  go_wp2_with fail
  refine (ihh _ _ _ _ hG3 hsh).mono ?_
  rintro e w4 ⟨v4, mf4, rfl, hG4, fr4, src4, dom4⟩
  have nk3 := foot4_src src3 (Nat.lt_of_lt_of_le z1 (by omega)) (nf _ (Nat.le_refl _))
  have k04 := fr4.cell k03 nk3
  have k14 := fr4.cell k13 nk3
  have k24 := fr4.cell k23 nk3
  have fr24 := fr23.trans fr4 (fun k hk h => Classical.byContradiction fun h' => foot4_src src3 (by omega) h' h)
  have c44 := hG4.caps.c4
  have c24 := hG4.caps.c2
  clear k03 k13 k23 h03 h13 h23 c33
  go_wp2_with fail
  have hil : inn (vis (sem (ha, hd, hc)) (vis (sem (la, lb, lc)) R)) (sem (la, lb, lc)) := (inn_vis _ _).mono (mem_vis _ _)
  refine (node_any' wb mb f v4 _ (sem (la, lb, lc)) (sem (ha, hd, hc)) w4 hG4.work hf hil (inn_vis _ _) hsn _ _ (place_suffix hG4.work.good (vis_suffix _ _) (inn_vis _ _)).symm rfl).mono ?_
  rintro e w5 ⟨v5, rfl, hW5, fr5, src5⟩
  have lfb : fb < w4.heap.size := by obtain ⟨n, hm⟩ := hG4.fin.map; exact hm.lt
  have nk4 : ¬ foot wb mb v4 w.heap.size := foot_src src4 (by have := fr4.size; omega) (fun h => nk3 (.inl h))
  have k05 := fr5.cell k04 nk4
  have k15 := fr5.cell k14 nk4
  have k25 := fr5.cell k24 nk4
  have c25 := fr5.cell c24 (fun h => hG4.off.1.2.1 (.inl h))
  obtain ⟨n4, hm4⟩ := hG4.fin.map
  have hm5 := fr5.map hm4 hG4.off.2
  have hn : mf4 (a, b, c) = none := by
    rcases dom4 (a, b, c) with h | h
    · rw [h]
      rcases dom3 (a, b, c) with h | h
      · rw [h]; exact Hp.out
      · omega
    · omega
  have Hn := Lib.hid hn
  clear k04 k14 k24 c24 hn hm hm4
  go_wp2_with (at_mapUpdate; refine wpList_mapUpdate_new rfl _ _ _ rfl tkKeyed tk_inj Tryz.underlying178 rfl hm5 (a, b, c) _ rfl rfl hkey Hn.out ?_)
  intro w6 map6 gr6
  go_wp2_with fail
  go_ret
  have R45 := vis_vis_mk (i := f) (lo := sem (la, lb, lc)) (hi := sem (ha, hd, hc)) hG.work.good
  have F := grFinish hG4 hW5 fr5 src5 map6 gr6 Hsem.out
  have lfb5 : fb < w5.heap.size := hm5.lt
  refine ⟨v5, putAt mf4 (a, b, c) (.int .u32 (place (vis (mk f (sem (la, lb, lc)) (sem (ha, hd, hc))) (vis (sem (ha, hd, hc)) (vis (sem (la, lb, lc)) R))) (mk f (sem (la, lb, lc)) (sem (ha, hd, hc))) : Int)), ?_, ?_, ?_, ?_, ?_⟩
  · rw [Hsem.out, ← R45]; rfl
  · rw [Hsem.out, ← R45]; exact F
  · refine (fr24.trans fr5 (fun k hk h => Classical.byContradiction fun h' => ?_)).grown gr6 (fun k h _ => by cases h; exact .inr rfl)
    refine foot4_src (n := w.heap.size) (fun g hg => ?_) hk h' (.inl h)
    rcases src4 g hg with h1 | h1
    · exact (src3 g h1).imp id (by omega)
    · exact .inr (by omega)
  · intro g hg
    rcases src5 g hg with h1 | h1
    · rcases src4 g h1 with h1 | h1
      · exact (src3 g h1).imp id (by omega)
      · exact .inr (by omega)
    · have := fr4.size
      exact .inr (by omega)
  · intro k'
    unfold putAt
    split
    · rename_i e; subst e; exact .inr (Nat.le_refl _)
    · rcases dom4 k' with h | h
      · rcases dom3 k' with h' | h'
        · exact .inl (h.trans h')
        · exact .inr (by omega)
      · exact .inr (by omega)
end

/-- WHAT 'visit' DOES, for every key. -/
theorem visitT {sem : (Nat × Nat × Nat) → B} {val : (Nat × Nat × Nat) → Prop} {mu : (Nat × Nat × Nat) → Nat} {sp : (Nat × Nat × Nat) → Nat × (Nat × Nat × Nat) × (Nat × Nat × Nat)} (S : Spl sem val mu sp) (ch : Value)
    (hval : ∀ k, val k → k.1 < 4294967296 ∧ k.2.1 < 4294967296 ∧ k.2.2 < 4294967296)
    (hsp : ∀ k w, val k → Calls Tryz.prog 108 #[ch, tk k] w fun e w' => e = .returned (.tuple #[.int .i64 ((sp k).1 : Int), tk (sp k).2.1, tk (sp k).2.2]) ∧ Below w.heap.size w w') (wb mb fb b1 b2 b3 b4 : Nat) :
    ∀ (n : Nat) (k : Nat × Nat × Nat) (w : World) (v : Value) (mf : (Nat × Nat × Nat) → Option Value) (R : List B), mu k < n → val k → GT (sem := sem) (.func (.func 108) #[ch] #[]) w wb mb fb b1 b2 b3 b4 v mf R → small (vis (sem k) R) →
      Calls Tryz.prog 133 #[tk k, .pointer (some ⟨b1, 0, none⟩), .pointer (some ⟨b2, 0, none⟩), .pointer (some ⟨b3, 0, none⟩), .pointer (some ⟨b4, 0, none⟩)] w
        (VT sem mu 133 (.func (.func 108) #[ch] #[]) wb mb fb b1 b2 b3 b4 v mf R k w)
  | 0, _, _, _, _, _, h, _, _, _ => absurd h (Nat.not_lt_zero _)
  | n + 1, k, w, v, mf, R, hn, hv, hG, hs => by
    have hb := hval k hv
    have hl := S.leaf k hv
    have ht := S.step k hv
    have hsk := fun w => hsp k w hv
    rcases hspk : sp k with ⟨f, ⟨la, lb, lc⟩, ⟨ha, hd, hc⟩⟩
    rw [hspk] at hl ht
    simp only [hspk] at hsk
    obtain ⟨a, b, c⟩ := k
    by_cases hf : f < 24
    · obtain ⟨h1, h2, h3, h4, h5⟩ := ht hf
      cases hp : mf (a, b, c) with
      | some p => exact visitT_found sem mu w wb mb fb b1 b2 b3 b4 v mf R ch a b c la lb lc ha hd hc f p hG hf hp hb hsk
      | none =>
        exact visitT_step sem mu w wb mb fb b1 b2 b3 b4 v mf R ch a b c la lb lc ha hd hc f hG hf hp hb h1 h4 h5 hs hsk
          (fun w v mf R hG hs => visitT S ch hval hsp wb mb fb b1 b2 b3 b4 n _ w v mf R (Nat.lt_of_lt_of_le h4 (Nat.le_of_lt_succ hn)) h2 hG hs)
          (fun w v mf R hG hs => visitT S ch hval hsp wb mb fb b1 b2 b3 b4 n _ w v mf R (Nat.lt_of_lt_of_le h5 (Nat.le_of_lt_succ hn)) h3 hG hs)
    · have e : f = 24 ∨ f = 25 := by rcases hl (by simp; omega) with ⟨_, h⟩ | ⟨_, h⟩ <;> simp at h <;> omega
      rcases e with rfl | rfl
      · exact visitT_leaf sem mu w wb mb fb b1 b2 b3 b4 v mf R ch a b c la lb lc ha hd hc 0 hG (.inl ⟨rfl, by rcases hl (by simp) with ⟨h, _⟩ | ⟨_, h⟩; exact h; simp at h⟩) hsk
      · exact visitT_leaf sem mu w wb mb fb b1 b2 b3 b4 v mf R ch a b c la lb lc ha hd hc 1 hG (.inr ⟨rfl, by rcases hl (by simp) with ⟨_, h⟩ | ⟨h, _⟩; simp at h; exact h⟩) hsk

end Go.Proofs.YtalnhlebgofiiaaGreatDoor
namespace Go.Proofs.YtalnhlebgofiiaaGreatDoor
open Go.RowKit
open Bd

set_option maxRecDepth 100000 in
set_option maxHeartbeats 1000000 in
/-- 'grow' MAKES THE SET OF ITS KEY. -/
theorem growT_any {sem : (Nat × Nat × Nat) → B} {val : (Nat × Nat × Nat) → Prop} {mu : (Nat × Nat × Nat) → Nat} {sp : (Nat × Nat × Nat) → Nat × (Nat × Nat × Nat) × (Nat × Nat × Nat)} (S : Spl sem val mu sp) (ch : Value)
    (hval : ∀ k, val k → k.1 < 4294967296 ∧ k.2.1 < 4294967296 ∧ k.2.2 < 4294967296)
    (hsp : ∀ k w, val k → Calls Tryz.prog 108 #[ch, tk k] w fun e w' => e = .returned (.tuple #[.int .i64 ((sp k).1 : Int), tk (sp k).2.1, tk (sp k).2.2]) ∧ Below w.heap.size w w')
    (k : Nat × Nat × Nat) (w : World) (hv : val k) (hok : (sem k).ok 0) :
    Calls Tryz.prog 107 #[tk k, .func (.func 108) #[ch] #[]] w fun e w' => e = .returned (dval (sem k)) ∧ Below w.heap.size w w' := by
  have hmm := @run_makeMap Tryz.prog
  have hmf : ∀ (fn : Fn) (first cap : Array Value) (w : World), (Instr.makeFunc fn first cap).run Tryz.prog w = .ok (.func fn first cap) w := fun _ _ _ _ => rfl
  obtain ⟨a, b, c⟩ := k
  go_enter Tryz.func107, Tryz.ntmps107
  go_wp2_with fail
  refine (newWork_any _).mono ?_
  rintro e w1 ⟨wb, mb, rfl, hW1, fr1, lwb, lmb⟩
  go_wp2_with fail
  have k0 : w1.cell? ⟨w.heap.size, 0, none⟩ = some (.int .u32 (a : Int)) := fr1.cell (cell_alloc_l (cell_alloc_l (World.cell?_alloc_at _ _ _ _ rfl) _) _) (fun h => h)
  have k1 : w1.cell? ⟨w.heap.size, 1, none⟩ = some (.int .u32 (b : Int)) := fr1.cell (cell_alloc_l (cell_alloc_l (World.cell?_alloc_at _ _ _ _ rfl) _) _) (fun h => h)
  have k2 : w1.cell? ⟨w.heap.size, 2, none⟩ = some (.int .u32 (c : Int)) := fr1.cell (cell_alloc_l (cell_alloc_l (World.cell?_alloc_at _ _ _ _ rfl) _) _) (fun h => h)
  have d0 : w1.cell? ⟨w.heap.size + 1 + 1, 0, none⟩ = some (.int .u32 0) := fr1.cell (World.cell?_alloc_at _ _ _ _ (by simp)) (fun h => h)
  have d1 : w1.cell? ⟨w.heap.size + 1 + 1, 1, none⟩ = some (.string ⟨#[]⟩) := fr1.cell (World.cell?_alloc_at _ _ _ _ (by simp)) (fun h => h)
  have z1 : w.heap.size + 3 ≤ w1.heap.size := by have := fr1.size; simp at this; omega
  have df : w1.frozen? ⟨w.heap.size + 1 + 1, 0, none⟩ = false := (fr1.frozen (p := ⟨w.heap.size + 1 + 1, 0, none⟩) (by simp) (fun h => h)).trans (World.frozen?_alloc_at _ _ _ _ (by simp))
  have dg : w1.frozen? ⟨w.heap.size + 1 + 1, 1, none⟩ = false := (fr1.frozen (p := ⟨w.heap.size + 1 + 1, 1, none⟩) (by simp) (fun h => h)).trans (World.frozen?_alloc_at _ _ _ _ (by simp))
  have G := gr_start (kt := 153) (enc := tk) (sem := sem) (vf := 133) (T1 := 100) (T2 := 178) (T3 := 179) hW1 fr1 lwb lmb (b1 := w.heap.size + 1) (fv := .func (.func 108) #[ch] #[]) (cell_alloc_l (World.cell?_alloc_at _ _ _ _ (by simp)) _)
  have fr2 := fr_gw2 w1 wb (w.heap.size + 1) 133 100 178 179
  change Code.wp _ _ _ _ (gw2 w1 wb (w.heap.size + 1) 133 100 178 179)
  generalize gw2 w1 wb (w.heap.size + 1) 133 100 178 179 = W2 at *
  have frw : Fr nob w W2 := ((((Fr.refl nob w).alloc _).alloc _).alloc _).trans (fr1.trans fr2 (fun _ _ h => h)) (fun _ _ h => h)
  replace k0 := fr2.cell k0 (fun h => h)
  replace k1 := fr2.cell k1 (fun h => h)
  replace k2 := fr2.cell k2 (fun h => h)
  replace d0 := fr2.cell d0 (fun h => h)
  replace d1 := fr2.cell d1 (fun h => h)
  replace df := (fr2.frozen (p := ⟨w.heap.size + 1 + 1, 0, none⟩) (by simp; omega) (fun h => h)).trans df
  replace dg := (fr2.frozen (p := ⟨w.heap.size + 1 + 1, 1, none⟩) (by simp; omega) (fun h => h)).trans dg
  have c3 := G.caps.c3
  have c4 := G.caps.c4
  have hs := small_li hok
  simp only [World.size_alloc] at lwb lmb
  have nd : ∀ k, k < w.heap.size + 3 → ¬ foot4 wb mb (w1.heap.size + 1) (.slice none 0 0) k := by
    rintro k hk (h | h)
    · rcases h with h | h | h
      · omega
      · omega
      · cases h
    · omega
  have hvis := fun W' (h : Fr nob W2 W') => visitT S ch hval hsp wb mb (w1.heap.size + 1) (w.heap.size + 1) (w1.heap.size + 1 + 1) (w1.heap.size + 1 + 1 + 1) w1.heap.size _ (a, b, c) W' (.slice none 0 0) (fun _ => none) [] (Nat.lt_succ_self _) hv (G.keptNew h) hs
  clear hmm hmf hsp hval S hW1 fr1 fr2
  go_region_held3 (fun w' => w'.cell? ⟨w.heap.size, 0, none⟩ = some (.int .u32 (a : Int)) ∧ w'.cell? ⟨w.heap.size, 1, none⟩ = some (.int .u32 (b : Int)) ∧ w'.cell? ⟨w.heap.size, 2, none⟩ = some (.int .u32 (c : Int)) ∧
      w'.cell? ⟨w1.heap.size + 1 + 1 + 1, 0, none⟩ = some (.func (.func 133) #[] #[.pointer (some ⟨w.heap.size + 1, 0, none⟩), .pointer (some ⟨w1.heap.size + 1 + 1, 0, none⟩), .pointer (some ⟨w1.heap.size + 1 + 1 + 1, 0, none⟩), .pointer (some ⟨w1.heap.size, 0, none⟩)]) ∧
      w'.cell? ⟨w1.heap.size, 0, none⟩ = some (.pointer (some ⟨wb, 0, none⟩)))
    (first | go_keep | (go_split_ands; exact ⟨k03, k13, k23, c33, c43⟩) | (go_split_ands; exact ⟨k04, k14, k24, c34, c44⟩) | (go_split_ands; refine ⟨?_, ?_, ?_, ?_, ?_⟩ <;> (rw [World.cell?_setCell_other _ _ _ _ (by simp <;> omega), World.cell?_setCell_other _ _ _ _ (by simp <;> omega)]; assumption)))
    (first
      | (go_at_call 133
         refine (hvis _ ?_).mono ?_
         · exact (Fr.refl _ _).drew
         rintro e w3 ⟨v3, mf3, rfl, hG3, fr3, src3, _⟩
         have k03 := fr3.cell k0 (nd _ (by simp))
         have k13 := fr3.cell k1 (nd _ (by simp))
         have k23 := fr3.cell k2 (nd _ (by simp))
         have c33 := hG3.caps.c3
         have c43 := hG3.caps.c4)
      | (go_at_call 61
         refine (set_any wb mb v3 _ _ _ hG3.work).mono ?_
         rintro e w4 ⟨rfl, hb4⟩
         have fr4 := (Fr.refl nob w3).below hb4
         have k04 := fr4.cell k03 (fun h => h)
         have k14 := fr4.cell k13 (fun h => h)
         have k24 := fr4.cell k23 (fun h => h)
         have c34 := fr4.cell c33 (fun h => h)
         have c44 := fr4.cell c43 (fun h => h)
         have e04 := fr4.cell (fr3.cell d0 (nd _ (by simp))) (fun h => h)
         have e14 := fr4.cell (fr3.cell d1 (nd _ (by simp))) (fun h => h)
         have ef4 := (fr4.frozen (p := ⟨w.heap.size + 1 + 1, 0, none⟩) (by have := lt_of_cell (fr3.cell d0 (nd _ (by simp))); exact this) (fun h => h)).trans ((fr3.frozen (p := ⟨w.heap.size + 1 + 1, 0, none⟩) (lt_of_cell d0) (nd _ (by simp))).trans df)
         have ef5 := (fr4.frozen (p := ⟨w.heap.size + 1 + 1, 1, none⟩) (by have := lt_of_cell (fr3.cell d1 (nd _ (by simp))); exact this) (fun h => h)).trans ((fr3.frozen (p := ⟨w.heap.size + 1 + 1, 1, none⟩) (lt_of_cell d1) (nd _ (by simp))).trans dg)))
  go_wp2
  refine bodyPost_ret (v := dval (sem (a, b, c))) (by simp [results, Tryz.results107, go_sem, e04, e14, li]) rfl ⟨rfl, ?_⟩
  have nb : ∀ k, k < w.heap.size → ¬ foot4 wb mb (w1.heap.size + 1) (.slice none 0 0) k := fun k hk => nd k (by omega)
  exact ((((frw.drew.trans' fr3 (T := fun k => w.heap.size ≤ k) (fun _ _ h => h.elim) (fun k hk h => absurd h (nb k hk))).below hb4).setCell (p := ⟨w.heap.size + 1 + 1, 0, none⟩) (by simp <;> omega) _).setCell (p := ⟨w.heap.size + 1 + 1, 1, none⟩) (by simp <;> omega) _).to_below (Nat.le_refl _) (fun _ h => h)
end Go.Proofs.YtalnhlebgofiiaaGreatDoor
