import Derived.Test.YtaojojjdfdlgpaaDgA
import Derived.Deep.RegionWith
import Derived.Laws.EntriesVeiled
import Derived.StillTail
import Derived.Deep.Quiet
import Derived.Lib.EndianBits
namespace Go.Proofs.Ytaojojjdfdlgpaa.Dg
open Go.RowKit
open Bd

/-- a key of three places -/
abbrev tk (k : Nat × Nat × Nat) : Value := .agg #[.int .u32 (k.1 : Int), .int .u32 (k.2.1 : Int), .int .u32 (k.2.2 : Int)]
theorem tk_inj (a b : Nat × Nat × Nat) (h : tk a = tk b) : a = b := by
  obtain ⟨a1, a2, a3⟩ := a
  obtain ⟨b1, b2, b3⟩ := b
  simp only [Value.agg.injEq, Array.mk.injEq, List.cons.injEq, Value.int.injEq, true_and, and_true] at h
  obtain ⟨h1, h2, h3⟩ := h
  have e1 : a1 = b1 := by omega
  have e2 : a2 = b2 := by omega
  have e3 : a3 = b3 := by omega
  rw [e1, e2, e3]
theorem tkKeyed : Maps.Keyed Try.prog 159 := Maps.Keyed.of_law (deep_law_laid (m := 5) laidOut (by decide) (of_decide_eq_true (by kernel_rfl)) (by kernel_rfl) (by kernel_rfl))
theorem cells_trio : Try.prog.cellsOf 159 = 3 := by kernel_rfl
theorem key_trio : Try.prog.keyType 159 = true := by kernel_rfl
theorem tkKey {r : Nat × Nat × Nat} (h1 : r.1 < 4294967296) (h2 : r.2.1 < 4294967296) (h3 : r.2.2 < 4294967296) : ∃ l, keyOf Try.prog 159 (tk r) = some l := by
  have e1 := wf_u32 h1
  have e2 := wf_u32 h2
  have e3 := wf_u32 h3
  rw [← Option.isSome_iff_exists]
  obtain ⟨k, hk⟩ := types_pos
  unfold keyOf
  rw [Try.underlying159]
  simp only [key_trio, Value.formed, Try.underlying159, cells_trio, Value.cells, hk]
  simp only [Program.keyLits, Try.underlying159, cells_trio]
  simp [e1, e2, e3, cells_u32]

abbrev VT := VisPost 159 tk
abbrev GT {sem : (Nat × Nat × Nat) → B} := @Gr (Nat × Nat × Nat) 159 tk sem 119

section
variable (sem : (Nat × Nat × Nat) → B) (mu : (Nat × Nat × Nat) → Nat) (fv : Value) (w : World) (wb mb fb b1 b2 b3 b4 : Nat) (v : Value) (mf : (Nat × Nat × Nat) → Option Value) (R : List B) (ch : Value)

set_option maxRecDepth 100000 in
set_option maxHeartbeats 400000 in
/-- a leaf -/
theorem visitT_leaf (a b c la lb lc ha hd hc f : Nat) (hG : GT (sem := sem) (.func (.func 100) #[ch] #[]) w wb mb fb b1 b2 b3 b4 v mf R) (hf : f = 0 ∧ sem (a, b, c) = .F ∨ f = 1 ∧ sem (a, b, c) = .T)
    (hsp : ∀ w, Calls Try.prog 100 #[ch, tk (a, b, c)] w fun e w' => e = .returned (.tuple #[.int .i64 ((24 + f : Nat) : Int), tk (la, lb, lc), tk (ha, hd, hc)]) ∧ Below w.heap.size w w') :
    Calls Try.prog 119 #[tk (a, b, c), .pointer (some ⟨b1, 0, none⟩), .pointer (some ⟨b2, 0, none⟩), .pointer (some ⟨b3, 0, none⟩), .pointer (some ⟨b4, 0, none⟩)] w
      (VT sem mu 119 (.func (.func 100) #[ch] #[]) wb mb fb b1 b2 b3 b4 v mf R (a, b, c) w) := by
  have hc1 := hG.caps.c1
  have l1 := hG.caps.lt.1
  have hf0 : (0 : Int) ≤ (f : Int) := by omega
  have hf1 : (f : Int) ≤ 1 := by omega
  go_enter Try.func119, Try.ntmps119
  go_wp2_with fail
  refine (hsp _).mono ?_
  rintro e w1 ⟨rfl, hb⟩
  go_wp2_with fail
  have fr1 : Fr nob w w1 := ((Fr.refl nob w).alloc _).below hb
  go_ret
  refine ⟨v, mf, ?_, ?_, (((fr1.alloc _).alloc _).mono (fun _ _ h => h.elim)), fun g h => .inl h, fun _ => .inl rfl⟩
  · rcases hf with ⟨rfl, h⟩ | ⟨rfl, h⟩ <;> rw [h] <;> rfl
  · have : vis (sem (a, b, c)) R = R := by rcases hf with ⟨_, h⟩ | ⟨_, h⟩ <;> rw [h] <;> rfl
    rw [this]
    exact hG.keptNew ((fr1.alloc _).alloc _)

set_option maxRecDepth 100000 in
set_option maxHeartbeats 400000 in
/-- a key that is finished -/
theorem visitT_found (a b c la lb lc ha hd hc f : Nat) (p : Value) (hG : GT (sem := sem) (.func (.func 100) #[ch] #[]) w wb mb fb b1 b2 b3 b4 v mf R) (hf : f < 24) (hp : mf (a, b, c) = some p)
    (hk : a < 4294967296 ∧ b < 4294967296 ∧ c < 4294967296)
    (hsp : ∀ w, Calls Try.prog 100 #[ch, tk (a, b, c)] w fun e w' => e = .returned (.tuple #[.int .i64 (f : Int), tk (la, lb, lc), tk (ha, hd, hc)]) ∧ Below w.heap.size w w') :
    Calls Try.prog 119 #[tk (a, b, c), .pointer (some ⟨b1, 0, none⟩), .pointer (some ⟨b2, 0, none⟩), .pointer (some ⟨b3, 0, none⟩), .pointer (some ⟨b4, 0, none⟩)] w
      (VT sem mu 119 (.func (.func 100) #[ch] #[]) wb mb fb b1 b2 b3 b4 v mf R (a, b, c) w) := by
  have hc1 := hG.caps.c1
  have hc2 := hG.caps.c2
  obtain ⟨l1, l2, _, _⟩ := hG.caps.lt
  have hf1 : (f : Int) < 24 := by omega
  have hf0 : (0 : Int) ≤ (f : Int) := by omega
  have e5 := hG.fin.places _ _ hp
  go_enter Try.func119, Try.ntmps119
  go_wp2_with fail
  refine (hsp _).mono ?_
  rintro e w1 ⟨rfl, hb⟩
  have fr0 := (Fr.refl nob (w.alloc (.cells #[.int .u32 (a : Int), .int .u32 (b : Int), .int .u32 (c : Int)] 159))).below hb
  have k0 := fr0.cell (p := ⟨w.heap.size, 0, none⟩) (World.cell?_alloc_at _ _ _ _ rfl) (fun h => h)
  have k1 := fr0.cell (p := ⟨w.heap.size, 1, none⟩) (World.cell?_alloc_at _ _ _ _ rfl) (fun h => h)
  have k2 := fr0.cell (p := ⟨w.heap.size, 2, none⟩) (World.cell?_alloc_at _ _ _ _ rfl) (fun h => h)
  have fr1 : Fr nob w w1 := ((Fr.refl nob w).alloc _).below hb
  have fr12 := (((Fr.refl nob w1).alloc (.cells #[.int .u32 (la : Int), .int .u32 (lb : Int), .int .u32 (lc : Int)] 159)).alloc (.cells #[.int .u32 (ha : Int), .int .u32 (hd : Int), .int .u32 (hc : Int)] 159))
  have fr2 := fr1.trans fr12 (fun _ _ h => h)
  have hc22 := fr2.cell hc2 (fun h => h)
  have k02 := fr12.cell k0 (fun h => h)
  have k12 := fr12.cell k1 (fun h => h)
  have k22 := fr12.cell k2 (fun h => h)
  obtain ⟨l, hkey⟩ := tkKey (r := (a, b, c)) hk.1 hk.2.1 hk.2.2
  obtain ⟨nm, hm⟩ := hG.fin.map
  have hlook := (fr2.map hm (fun h => h)).lookup_yes tkKeyed tk_inj Try.underlying183 hkey hp
  dsimp only [tk] at hlook
  go_wp2_with fail
  go_ret
  refine ⟨v, mf, ?_, ?_, fr2.mono (fun _ _ h => h.elim), fun g h => .inl h, fun _ => .inl rfl⟩
  · rw [vis_inn e5.1, ← e5.2]; rfl
  · rw [vis_inn e5.1]
    exact hG.keptNew fr2

set_option maxRecDepth 100000 in
set_option maxHeartbeats 1000000 in
/-- a key that is new -/
theorem visitT_step (a b c la lb lc ha hd hc f : Nat) (hG : GT (sem := sem) (.func (.func 100) #[ch] #[]) w wb mb fb b1 b2 b3 b4 v mf R) (hf : f < 24) (hp : mf (a, b, c) = none)
    (hk : a < 4294967296 ∧ b < 4294967296 ∧ c < 4294967296) (hsem : sem (a, b, c) = mk f (sem (la, lb, lc)) (sem (ha, hd, hc))) (hml : mu (la, lb, lc) < mu (a, b, c)) (hmh : mu (ha, hd, hc) < mu (a, b, c)) (hs : small (vis (sem (a, b, c)) R))
    (hsp : ∀ w, Calls Try.prog 100 #[ch, tk (a, b, c)] w fun e w' => e = .returned (.tuple #[.int .i64 (f : Int), tk (la, lb, lc), tk (ha, hd, hc)]) ∧ Below w.heap.size w w')
    (ihl : ∀ w v mf R, GT (sem := sem) (.func (.func 100) #[ch] #[]) w wb mb fb b1 b2 b3 b4 v mf R → small (vis (sem (la, lb, lc)) R) →
      Calls Try.prog 119 #[tk (la, lb, lc), .pointer (some ⟨b1, 0, none⟩), .pointer (some ⟨b2, 0, none⟩), .pointer (some ⟨b3, 0, none⟩), .pointer (some ⟨b4, 0, none⟩)] w
        (VT sem mu 119 (.func (.func 100) #[ch] #[]) wb mb fb b1 b2 b3 b4 v mf R (la, lb, lc) w))
    (ihh : ∀ w v mf R, GT (sem := sem) (.func (.func 100) #[ch] #[]) w wb mb fb b1 b2 b3 b4 v mf R → small (vis (sem (ha, hd, hc)) R) →
      Calls Try.prog 119 #[tk (ha, hd, hc), .pointer (some ⟨b1, 0, none⟩), .pointer (some ⟨b2, 0, none⟩), .pointer (some ⟨b3, 0, none⟩), .pointer (some ⟨b4, 0, none⟩)] w
        (VT sem mu 119 (.func (.func 100) #[ch] #[]) wb mb fb b1 b2 b3 b4 v mf R (ha, hd, hc) w)) :
    Calls Try.prog 119 #[tk (a, b, c), .pointer (some ⟨b1, 0, none⟩), .pointer (some ⟨b2, 0, none⟩), .pointer (some ⟨b3, 0, none⟩), .pointer (some ⟨b4, 0, none⟩)] w
      (VT sem mu 119 (.func (.func 100) #[ch] #[]) wb mb fb b1 b2 b3 b4 v mf R (a, b, c) w) := by
  have hg := hG.work.good
  have nf : ∀ k, w.heap.size ≤ k → ¬ foot4 wb mb fb v k := by
    rintro k hk (h | h)
    · have := hG.work.foot_lt k h; omega
    · obtain ⟨n, hm⟩ := hG.fin.map; have := hm.lt; omega
  have hsl : small (vis (sem (la, lb, lc)) R) := small_suffix ((vis_suffix _ _).trans (suffix_mk hg)) (hsem ▸ hs)
  have hsh : small (vis (sem (ha, hd, hc)) (vis (sem (la, lb, lc)) R)) := small_suffix (suffix_mk hg) (hsem ▸ hs)
  have hsn : small (vis (mk f (sem (la, lb, lc)) (sem (ha, hd, hc))) (vis (sem (ha, hd, hc)) (vis (sem (la, lb, lc)) R))) := by rw [vis_vis_mk hg, ← hsem]; exact hs
  have Hsem := Lib.hid hsem
  have Hp := Lib.hid hp
  obtain ⟨l, hkey⟩ := tkKey (r := (a, b, c)) hk.1 hk.2.1 hk.2.2
  have zero : ∀ w, (zeroValue 49).run Try.prog w = .ok (.int .u32 0) w := fun _ => by kernel_rfl
  have hc1 := hG.caps.c1
  have hc2 := hG.caps.c2
  have hc3 := hG.caps.c3
  obtain ⟨l1, l2, l3, l4⟩ := hG.caps.lt
  have hf1 : (f : Int) < 24 := by omega
  have hf0 : (0 : Int) ≤ (f : Int) := by omega
  clear hsem hp hs hg
  go_enter Try.func119, Try.ntmps119
  go_wp2_with fail
  refine (hsp _).mono ?_
  rintro e w1 ⟨rfl, hb⟩
  have fr0 := (Fr.refl nob (w.alloc (.cells #[.int .u32 (a : Int), .int .u32 (b : Int), .int .u32 (c : Int)] 159))).below hb
  have k0 := fr0.cell (p := ⟨w.heap.size, 0, none⟩) (World.cell?_alloc_at _ _ _ _ rfl) (fun h => h)
  have k1 := fr0.cell (p := ⟨w.heap.size, 1, none⟩) (World.cell?_alloc_at _ _ _ _ rfl) (fun h => h)
  have k2 := fr0.cell (p := ⟨w.heap.size, 2, none⟩) (World.cell?_alloc_at _ _ _ _ rfl) (fun h => h)
  have fr1 : Fr nob w w1 := ((Fr.refl nob w).alloc _).below hb
  have z1 : w.heap.size < w1.heap.size := by have := hb.size; simp at this; omega
  have fr12 := (((Fr.refl nob w1).alloc (.cells #[.int .u32 (la : Int), .int .u32 (lb : Int), .int .u32 (lc : Int)] 159)).alloc (.cells #[.int .u32 (ha : Int), .int .u32 (hd : Int), .int .u32 (hc : Int)] 159))
  have fr2 := fr1.trans fr12 (fun _ _ h => h)
  have hc22 := fr2.cell hc2 (fun h => h)
  have hc32 := fr2.cell hc3 (fun h => h)
  have k02 := fr12.cell k0 (fun h => h)
  have k12 := fr12.cell k1 (fun h => h)
  have k22 := fr12.cell k2 (fun h => h)
  have h02 : ((w1.alloc (.cells #[.int .u32 (la : Int), .int .u32 (lb : Int), .int .u32 (lc : Int)] 159)).alloc (.cells #[.int .u32 (ha : Int), .int .u32 (hd : Int), .int .u32 (hc : Int)] 159)).cell? ⟨w1.heap.size + 1, 0, none⟩ = some (.int .u32 (ha : Int)) := World.cell?_alloc_at _ _ _ _ (by simp)
  have h12 : ((w1.alloc (.cells #[.int .u32 (la : Int), .int .u32 (lb : Int), .int .u32 (lc : Int)] 159)).alloc (.cells #[.int .u32 (ha : Int), .int .u32 (hd : Int), .int .u32 (hc : Int)] 159)).cell? ⟨w1.heap.size + 1, 1, none⟩ = some (.int .u32 (hd : Int)) := World.cell?_alloc_at _ _ _ _ (by simp)
  have h22 : ((w1.alloc (.cells #[.int .u32 (la : Int), .int .u32 (lb : Int), .int .u32 (lc : Int)] 159)).alloc (.cells #[.int .u32 (ha : Int), .int .u32 (hd : Int), .int .u32 (hc : Int)] 159)).cell? ⟨w1.heap.size + 1, 2, none⟩ = some (.int .u32 (hc : Int)) := World.cell?_alloc_at _ _ _ _ (by simp)
  obtain ⟨nm, hm⟩ := hG.fin.map
  have hlook := (fr2.map hm (fun h => h)).lookup_no tkKeyed tk_inj Try.underlying183 (zero _) hkey Hp.out
  dsimp only [tk] at hlook
  have hG2 := hG.keptNew fr2
  have z2 : ((w1.alloc (.cells #[.int .u32 (la : Int), .int .u32 (lb : Int), .int .u32 (lc : Int)] 159)).alloc (.cells #[.int .u32 (ha : Int), .int .u32 (hd : Int), .int .u32 (hc : Int)] 159)).heap.size = w1.heap.size + 1 + 1 := by simp
  clear k0 k1 k2 fr0 hb fr1 fr12
  go_wp2_with fail
  refine (ihl _ _ _ _ hG2 hsl).mono ?_
  rintro e w3 ⟨v3, mf3, rfl, hG3, fr3, src3, dom3⟩
  rw [z2] at src3
  have z3 := fr3.size
  rw [z2] at z3
  have k03 := fr3.cell k02 (nf _ (Nat.le_refl _))
  have k13 := fr3.cell k12 (nf _ (Nat.le_refl _))
  have k23 := fr3.cell k22 (nf _ (Nat.le_refl _))
  have h03 := fr3.cell h02 (nf _ (by simp; omega))
  have h13 := fr3.cell h12 (nf _ (by simp; omega))
  have h23 := fr3.cell h22 (nf _ (by simp; omega))
  have fr23 := fr2.trans' fr3 (T := foot4 wb mb fb v) (fun _ _ h => h.elim) (fun _ _ h => h)
  have c33 := hG3.caps.c3
  clear k02 k12 k22 h02 h12 h22 hlook hG2 fr2 fr3 z2 hc22 hc32
  go_wp2_with fail
  refine (ihh _ _ _ _ hG3 hsh).mono ?_
  rintro e w4 ⟨v4, mf4, rfl, hG4, fr4, src4, dom4⟩
  have nk3 := foot4_src src3 (Nat.lt_of_lt_of_le z1 (by omega)) (nf _ (Nat.le_refl _))
  have k04 := fr4.cell k03 nk3
  have k14 := fr4.cell k13 nk3
  have k24 := fr4.cell k23 nk3
  have fr24 := fr23.trans fr4 (fun k hk h => Classical.byContradiction fun h' => foot4_src src3 (by omega) h' h)
  have c44 := hG4.caps.c4
  have c24 := hG4.caps.c2
  clear k03 k13 k23 h03 h13 h23 c33
  go_wp2_with fail
  have hil : inn (vis (sem (ha, hd, hc)) (vis (sem (la, lb, lc)) R)) (sem (la, lb, lc)) := (inn_vis _ _).mono (mem_vis _ _)
  refine (node_any' wb mb f v4 _ (sem (la, lb, lc)) (sem (ha, hd, hc)) w4 hG4.work hf hil (inn_vis _ _) hsn _ _ (place_suffix hG4.work.good (vis_suffix _ _) (inn_vis _ _)).symm rfl).mono ?_
  rintro e w5 ⟨v5, rfl, hW5, fr5, src5⟩
  have lfb : fb < w4.heap.size := by obtain ⟨n, hm⟩ := hG4.fin.map; exact hm.lt
  have nk4 : ¬ foot wb mb v4 w.heap.size := foot_src src4 (by have := fr4.size; omega) (fun h => nk3 (.inl h))
  have k05 := fr5.cell k04 nk4
  have k15 := fr5.cell k14 nk4
  have k25 := fr5.cell k24 nk4
  have c25 := fr5.cell c24 (fun h => hG4.off.1.2.1 (.inl h))
  obtain ⟨n4, hm4⟩ := hG4.fin.map
  have hm5 := fr5.map hm4 hG4.off.2
  have hn : mf4 (a, b, c) = none := by
    rcases dom4 (a, b, c) with h | h
    · rw [h]
      rcases dom3 (a, b, c) with h | h
      · rw [h]; exact Hp.out
      · omega
    · omega
  have Hn := Lib.hid hn
  clear k04 k14 k24 c24 hn hm hm4
  go_wp2_with (at_mapUpdate; refine wpList_mapUpdate_new rfl _ _ _ rfl tkKeyed tk_inj Try.underlying183 rfl hm5 (a, b, c) _ rfl rfl hkey Hn.out ?_)
  intro w6 map6 gr6
  go_wp2_with fail
  go_ret
  have R45 := vis_vis_mk (i := f) (lo := sem (la, lb, lc)) (hi := sem (ha, hd, hc)) hG.work.good
  have F := grFinish hG4 hW5 fr5 src5 map6 gr6 Hsem.out
  have lfb5 : fb < w5.heap.size := hm5.lt
  refine ⟨v5, putAt mf4 (a, b, c) (.int .u32 (place (vis (mk f (sem (la, lb, lc)) (sem (ha, hd, hc))) (vis (sem (ha, hd, hc)) (vis (sem (la, lb, lc)) R))) (mk f (sem (la, lb, lc)) (sem (ha, hd, hc))) : Int)), ?_, ?_, ?_, ?_, ?_⟩
  · rw [Hsem.out, ← R45]; rfl
  · rw [Hsem.out, ← R45]; exact F
  · refine (fr24.trans fr5 (fun k hk h => Classical.byContradiction fun h' => ?_)).grown gr6 (fun k h _ => by cases h; exact .inr rfl)
    refine foot4_src (n := w.heap.size) (fun g hg => ?_) hk h' (.inl h)
    rcases src4 g hg with h1 | h1
    · exact (src3 g h1).imp id (by omega)
    · exact .inr (by omega)
  · intro g hg
    rcases src5 g hg with h1 | h1
    · rcases src4 g h1 with h1 | h1
      · exact (src3 g h1).imp id (by omega)
      · exact .inr (by omega)
    · have := fr4.size
      exact .inr (by omega)
  · intro k'
    unfold putAt
    split
    · rename_i e; subst e; exact .inr (Nat.le_refl _)
    · rcases dom4 k' with h | h
      · rcases dom3 k' with h' | h'
        · exact .inl (h.trans h')
        · exact .inr (by omega)
      · exact .inr (by omega)
end

/-- WHAT 'visit' DOES, for every key. -/
theorem visitT {sem : (Nat × Nat × Nat) → B} {val : (Nat × Nat × Nat) → Prop} {mu : (Nat × Nat × Nat) → Nat} {sp : (Nat × Nat × Nat) → Nat × (Nat × Nat × Nat) × (Nat × Nat × Nat)} (S : Spl sem val mu sp) (ch : Value)
    (hval : ∀ k, val k → k.1 < 4294967296 ∧ k.2.1 < 4294967296 ∧ k.2.2 < 4294967296)
    (hsp : ∀ k w, val k → Calls Try.prog 100 #[ch, tk k] w fun e w' => e = .returned (.tuple #[.int .i64 ((sp k).1 : Int), tk (sp k).2.1, tk (sp k).2.2]) ∧ Below w.heap.size w w') (wb mb fb b1 b2 b3 b4 : Nat) :
    ∀ (n : Nat) (k : Nat × Nat × Nat) (w : World) (v : Value) (mf : (Nat × Nat × Nat) → Option Value) (R : List B), mu k < n → val k → GT (sem := sem) (.func (.func 100) #[ch] #[]) w wb mb fb b1 b2 b3 b4 v mf R → small (vis (sem k) R) →
      Calls Try.prog 119 #[tk k, .pointer (some ⟨b1, 0, none⟩), .pointer (some ⟨b2, 0, none⟩), .pointer (some ⟨b3, 0, none⟩), .pointer (some ⟨b4, 0, none⟩)] w
        (VT sem mu 119 (.func (.func 100) #[ch] #[]) wb mb fb b1 b2 b3 b4 v mf R k w)
  | 0, _, _, _, _, _, h, _, _, _ => absurd h (Nat.not_lt_zero _)
  | n + 1, k, w, v, mf, R, hn, hv, hG, hs => by
    have hb := hval k hv
    have hl := S.leaf k hv
    have ht := S.step k hv
    have hsk := fun w => hsp k w hv
    rcases hspk : sp k with ⟨f, ⟨la, lb, lc⟩, ⟨ha, hd, hc⟩⟩
    rw [hspk] at hl ht
    simp only [hspk] at hsk
    obtain ⟨a, b, c⟩ := k
    by_cases hf : f < 24
    · obtain ⟨h1, h2, h3, h4, h5⟩ := ht hf
      cases hp : mf (a, b, c) with
      | some p => exact visitT_found sem mu w wb mb fb b1 b2 b3 b4 v mf R ch a b c la lb lc ha hd hc f p hG hf hp hb hsk
      | none =>
        exact visitT_step sem mu w wb mb fb b1 b2 b3 b4 v mf R ch a b c la lb lc ha hd hc f hG hf hp hb h1 h4 h5 hs hsk
          (fun w v mf R hG hs => visitT S ch hval hsp wb mb fb b1 b2 b3 b4 n _ w v mf R (Nat.lt_of_lt_of_le h4 (Nat.le_of_lt_succ hn)) h2 hG hs)
          (fun w v mf R hG hs => visitT S ch hval hsp wb mb fb b1 b2 b3 b4 n _ w v mf R (Nat.lt_of_lt_of_le h5 (Nat.le_of_lt_succ hn)) h3 hG hs)
    · have e : f = 24 ∨ f = 25 := by rcases hl (by simp; omega) with ⟨_, h⟩ | ⟨_, h⟩ <;> simp at h <;> omega
      rcases e with rfl | rfl
      · exact visitT_leaf sem mu w wb mb fb b1 b2 b3 b4 v mf R ch a b c la lb lc ha hd hc 0 hG (.inl ⟨rfl, by rcases hl (by simp) with ⟨h, _⟩ | ⟨_, h⟩; exact h; simp at h⟩) hsk
      · exact visitT_leaf sem mu w wb mb fb b1 b2 b3 b4 v mf R ch a b c la lb lc ha hd hc 1 hG (.inr ⟨rfl, by rcases hl (by simp) with ⟨_, h⟩ | ⟨h, _⟩; simp at h; exact h⟩) hsk

end Go.Proofs.Ytaojojjdfdlgpaa.Dg
namespace Go.Proofs.Ytaojojjdfdlgpaa.Dg
open Go.RowKit
open Bd

set_option maxRecDepth 100000 in
set_option maxHeartbeats 1000000 in
/-- 'grow' MAKES THE SET OF ITS KEY. -/
theorem growT_any {sem : (Nat × Nat × Nat) → B} {val : (Nat × Nat × Nat) → Prop} {mu : (Nat × Nat × Nat) → Nat} {sp : (Nat × Nat × Nat) → Nat × (Nat × Nat × Nat) × (Nat × Nat × Nat)} (S : Spl sem val mu sp) (ch : Value)
    (hval : ∀ k, val k → k.1 < 4294967296 ∧ k.2.1 < 4294967296 ∧ k.2.2 < 4294967296)
    (hsp : ∀ k w, val k → Calls Try.prog 100 #[ch, tk k] w fun e w' => e = .returned (.tuple #[.int .i64 ((sp k).1 : Int), tk (sp k).2.1, tk (sp k).2.2]) ∧ Below w.heap.size w w')
    (k : Nat × Nat × Nat) (w : World) (hv : val k) (hok : (sem k).ok 0) :
    Calls Try.prog 99 #[tk k, .func (.func 100) #[ch] #[]] w fun e w' => e = .returned (dval (sem k)) ∧ Below w.heap.size w w' := by
  have hmm := @run_makeMap Try.prog
  have hmf : ∀ (fn : Fn) (first cap : Array Value) (w : World), (Instr.makeFunc fn first cap).run Try.prog w = .ok (.func fn first cap) w := fun _ _ _ _ => rfl
  obtain ⟨a, b, c⟩ := k
  go_enter Try.func99, Try.ntmps99
  go_wp2_with fail
  refine (newWork_any _).mono ?_
  rintro e w1 ⟨wb, mb, rfl, hW1, fr1, lwb, lmb⟩
  go_wp2_with fail
  have k0 : w1.cell? ⟨w.heap.size, 0, none⟩ = some (.int .u32 (a : Int)) := fr1.cell (cell_alloc_l (cell_alloc_l (World.cell?_alloc_at _ _ _ _ rfl) _) _) (fun h => h)
  have k1 : w1.cell? ⟨w.heap.size, 1, none⟩ = some (.int .u32 (b : Int)) := fr1.cell (cell_alloc_l (cell_alloc_l (World.cell?_alloc_at _ _ _ _ rfl) _) _) (fun h => h)
  have k2 : w1.cell? ⟨w.heap.size, 2, none⟩ = some (.int .u32 (c : Int)) := fr1.cell (cell_alloc_l (cell_alloc_l (World.cell?_alloc_at _ _ _ _ rfl) _) _) (fun h => h)
  have d0 : w1.cell? ⟨w.heap.size + 1 + 1, 0, none⟩ = some (.int .u32 0) := fr1.cell (World.cell?_alloc_at _ _ _ _ (by simp)) (fun h => h)
  have d1 : w1.cell? ⟨w.heap.size + 1 + 1, 1, none⟩ = some (.string ⟨#[]⟩) := fr1.cell (World.cell?_alloc_at _ _ _ _ (by simp)) (fun h => h)
  have z1 : w.heap.size + 3 ≤ w1.heap.size := by have := fr1.size; simp at this; omega
  have df : w1.frozen? ⟨w.heap.size + 1 + 1, 0, none⟩ = false := (fr1.frozen (p := ⟨w.heap.size + 1 + 1, 0, none⟩) (by simp) (fun h => h)).trans (World.frozen?_alloc_at _ _ _ _ (by simp))
  have dg : w1.frozen? ⟨w.heap.size + 1 + 1, 1, none⟩ = false := (fr1.frozen (p := ⟨w.heap.size + 1 + 1, 1, none⟩) (by simp) (fun h => h)).trans (World.frozen?_alloc_at _ _ _ _ (by simp))
  have G := gr_start (kt := 159) (enc := tk) (sem := sem) (vf := 119) (T1 := 150) (T2 := 183) (T3 := 184) hW1 fr1 lwb lmb (b1 := w.heap.size + 1) (fv := .func (.func 100) #[ch] #[]) (cell_alloc_l (World.cell?_alloc_at _ _ _ _ (by simp)) _)
  have fr2 := fr_gw2 w1 wb (w.heap.size + 1) 119 150 183 184
  change Code.wp _ _ _ _ (gw2 w1 wb (w.heap.size + 1) 119 150 183 184)
  generalize gw2 w1 wb (w.heap.size + 1) 119 150 183 184 = W2 at *
  have frw : Fr nob w W2 := ((((Fr.refl nob w).alloc _).alloc _).alloc _).trans (fr1.trans fr2 (fun _ _ h => h)) (fun _ _ h => h)
  replace k0 := fr2.cell k0 (fun h => h)
  replace k1 := fr2.cell k1 (fun h => h)
  replace k2 := fr2.cell k2 (fun h => h)
  replace d0 := fr2.cell d0 (fun h => h)
  replace d1 := fr2.cell d1 (fun h => h)
  replace df := (fr2.frozen (p := ⟨w.heap.size + 1 + 1, 0, none⟩) (by simp; omega) (fun h => h)).trans df
  replace dg := (fr2.frozen (p := ⟨w.heap.size + 1 + 1, 1, none⟩) (by simp; omega) (fun h => h)).trans dg
  have c3 := G.caps.c3
  have c4 := G.caps.c4
  have hs := small_li hok
  simp only [World.size_alloc] at lwb lmb
  have nd : ∀ k, k < w.heap.size + 3 → ¬ foot4 wb mb (w1.heap.size + 1) (.slice none 0 0) k := by
    rintro k hk (h | h)
    · rcases h with h | h | h
      · omega
      · omega
      · cases h
    · omega
  have hvis := fun W' (h : Fr nob W2 W') => visitT S ch hval hsp wb mb (w1.heap.size + 1) (w.heap.size + 1) (w1.heap.size + 1 + 1) (w1.heap.size + 1 + 1 + 1) w1.heap.size _ (a, b, c) W' (.slice none 0 0) (fun _ => none) [] (Nat.lt_succ_self _) hv (G.keptNew h) hs
  clear hmm hmf hsp hval S hW1 fr1 fr2
  go_region_held3 (fun w' => w'.cell? ⟨w.heap.size, 0, none⟩ = some (.int .u32 (a : Int)) ∧ w'.cell? ⟨w.heap.size, 1, none⟩ = some (.int .u32 (b : Int)) ∧ w'.cell? ⟨w.heap.size, 2, none⟩ = some (.int .u32 (c : Int)) ∧
      w'.cell? ⟨w1.heap.size + 1 + 1 + 1, 0, none⟩ = some (.func (.func 119) #[] #[.pointer (some ⟨w.heap.size + 1, 0, none⟩), .pointer (some ⟨w1.heap.size + 1 + 1, 0, none⟩), .pointer (some ⟨w1.heap.size + 1 + 1 + 1, 0, none⟩), .pointer (some ⟨w1.heap.size, 0, none⟩)]) ∧
      w'.cell? ⟨w1.heap.size, 0, none⟩ = some (.pointer (some ⟨wb, 0, none⟩)))
    (first | go_keep | (go_split_ands; exact ⟨k03, k13, k23, c33, c43⟩) | (go_split_ands; exact ⟨k04, k14, k24, c34, c44⟩) | (go_split_ands; refine ⟨?_, ?_, ?_, ?_, ?_⟩ <;> (rw [World.cell?_setCell_other _ _ _ _ (by simp <;> omega), World.cell?_setCell_other _ _ _ _ (by simp <;> omega)]; assumption)))
    (first
      | (go_at_call 119
         refine (hvis _ ?_).mono ?_
         · exact (Fr.refl _ _).drew
         rintro e w3 ⟨v3, mf3, rfl, hG3, fr3, src3, _⟩
         have k03 := fr3.cell k0 (nd _ (by simp))
         have k13 := fr3.cell k1 (nd _ (by simp))
         have k23 := fr3.cell k2 (nd _ (by simp))
         have c33 := hG3.caps.c3
         have c43 := hG3.caps.c4)
      | (go_at_call 96
         refine (set_any wb mb v3 _ _ _ hG3.work).mono ?_
         rintro e w4 ⟨rfl, hb4⟩
         have fr4 := (Fr.refl nob w3).below hb4
         have k04 := fr4.cell k03 (fun h => h)
         have k14 := fr4.cell k13 (fun h => h)
         have k24 := fr4.cell k23 (fun h => h)
         have c34 := fr4.cell c33 (fun h => h)
         have c44 := fr4.cell c43 (fun h => h)
         have e04 := fr4.cell (fr3.cell d0 (nd _ (by simp))) (fun h => h)
         have e14 := fr4.cell (fr3.cell d1 (nd _ (by simp))) (fun h => h)
         have ef4 := (fr4.frozen (p := ⟨w.heap.size + 1 + 1, 0, none⟩) (by have := lt_of_cell (fr3.cell d0 (nd _ (by simp))); exact this) (fun h => h)).trans ((fr3.frozen (p := ⟨w.heap.size + 1 + 1, 0, none⟩) (lt_of_cell d0) (nd _ (by simp))).trans df)
         have ef5 := (fr4.frozen (p := ⟨w.heap.size + 1 + 1, 1, none⟩) (by have := lt_of_cell (fr3.cell d1 (nd _ (by simp))); exact this) (fun h => h)).trans ((fr3.frozen (p := ⟨w.heap.size + 1 + 1, 1, none⟩) (lt_of_cell d1) (nd _ (by simp))).trans dg)))
  go_wp2
  refine bodyPost_ret (v := dval (sem (a, b, c))) (by simp [results, Try.results99, go_sem, e04, e14, li]) rfl ⟨rfl, ?_⟩
  have nb : ∀ k, k < w.heap.size → ¬ foot4 wb mb (w1.heap.size + 1) (.slice none 0 0) k := fun k hk => nd k (by omega)
  exact ((((frw.drew.trans' fr3 (T := fun k => w.heap.size ≤ k) (fun _ _ h => h.elim) (fun k hk h => absurd h (nb k hk))).below hb4).setCell (p := ⟨w.heap.size + 1 + 1, 0, none⟩) (by simp <;> omega) _).setCell (p := ⟨w.heap.size + 1 + 1, 1, none⟩) (by simp <;> omega) _).to_below (Nat.le_refl _) (fun _ h => h)
end Go.Proofs.Ytaojojjdfdlgpaa.Dg

namespace Go.Proofs.Ytaojojjdfdlgpaa.Dg
open Go.RowKit

/-! A REGION THAT DRAWS ITS ORDER, whose operations but the last ones only make new memory (calls by their contracts, variables of its own), and whose last ones stand in a row: one walk of the text's order serves every order. -/
abbrev ptr (b : Nat) : Value := .pointer (some ⟨b, 0, none⟩)

def allocOf (o : Oper) : Option TypeId :=
  match o.op, o.dst, o.guard with
  | .alloc T, some _, none => some T
  | _, _, _ => none

theorem allocOf_spec {o : Oper} {T : TypeId} (h : allocOf o = some T) : o.op = .alloc T ∧ o.guard = none ∧ ∃ t, o.dst = some t := by
  unfold allocOf at h
  split at h
  · rename_i h1 h2 h3; cases h; exact ⟨h1, h3, _, h2⟩
  · cases h

def growUpon (P : Program) (w : World) (v : Value) : Result Next → Prop
  | .ok (.value u) w' => w' = w ∧ u = v
  | .ok .skip w' => w' = w ∧ v = undef
  | .ok (.enter f args) w' => w' = w ∧ Calls P f args w (fun e w'' => e = .returned v ∧ Fr nob w w'')
  | _ => False

def growAt (P : Program) (o : Oper) (a : Act) (w : World) (v : Value) : Prop := growUpon P w v ((execOp a.eval o).run P w)

def Yv (P : Program) (ops : Array Oper) (W0 : World) (o : Oper) (v : Value) (a : Act) : Prop :=
  (Region.wanted o (yielded ops a.tmps) = true ∧ ∀ w, Fr nob W0 w → growAt P o a w v) ∨ (Region.wanted o (yielded ops a.tmps) = false ∧ v = undef)

def gOp (P : Program) (ops : Array Oper) (W0 : World) (vals : Nat → Value) (i : Nat) (K : Act → Prop) (a : Act) : Prop :=
  match ops[i]? with
  | none => K a
  | some o => match allocOf o with
    | some _ => ∀ b, W0.heap.size ≤ b → K (a.put o.dst (ptr b))
    | none => Yv P ops W0 o (vals i) a ∧ K (a.put o.dst (vals i))

def wpAnyG (P : Program) (md : Region.Mode) (ops : Array Oper) (W0 : World) (vals : Nat → Value) (n : Nat) (L : Array Bool → Act → Prop) : Nat → Array Bool → Act → Prop
  | 0, listed, a => L listed a
  | f + 1, listed, a => Region.ready md ops listed ≠ [] ∧ ∀ i ∈ Region.ready md ops listed, i < n ∧ gOp P ops W0 vals i (wpAnyG P md ops W0 vals n L f (listed.setIfInBounds i true)) a

/-- what is known of the variables that the region has made -/
def Made (ops : Array Oper) (n : Nat) (W0 : World) (Z : TypeId → Array Value) (listed : Array Bool) (a : Act) (w : World) : Prop :=
  ∀ i o T t, i < n → ops[i]? = some o → allocOf o = some T → o.dst = some t → listed.getD i false = true →
    ∃ b, a.tmps[t]? = some (ptr b) ∧ W0.heap.size ≤ b ∧ w.heap[b]? = some (.cells (Z T) T) ∧
      ∀ j o' T' t', j < n → j ≠ i → ops[j]? = some o' → allocOf o' = some T' → listed.getD j false = true → o'.dst = some t' → a.tmps[t']? ≠ some (ptr b)

section
variable {P : Program} {ops : Array Oper} {md : Region.Mode} {W0 : World} {vals : Nat → Value}

theorem gOp_mono {i : Nat} {a : Act} {K K' : Act → Prop} (h : ∀ a, K a → K' a) (hh : gOp P ops W0 vals i K a) : gOp P ops W0 vals i K' a := by
  unfold gOp at *
  split
  · exact h _ (by simpa [*] using hh)
  · rename_i o ho
    simp only [ho] at hh
    split
    · rename_i hT; simp only [hT] at hh; exact fun b hb => h _ (hh b hb)
    · rename_i hT; simp only [hT] at hh; exact ⟨hh.1, h _ hh.2⟩

theorem Yv.of_same {o : Oper} {v : Value} {a a' : Act} (hy : Yv P ops W0 o v a) (he : execOp a'.eval o = execOp a.eval o)
    (hw : Region.wanted o (yielded ops a'.tmps) = Region.wanted o (yielded ops a.tmps)) : Yv P ops W0 o v a' := by
  unfold Yv growAt at *
  rw [he, hw]
  exact hy

theorem Yv.put {o : Oper} {v u : Value} {a : Act} {d : Option Tmp} (hs : ∀ cs b, o.op ≠ .select cs b) (h : ∀ x, d = some x → x ∉ o.looksAt ops) : Yv P ops W0 o v (a.put d u) ↔ Yv P ops W0 o v a :=
  ⟨fun hy => hy.of_same (execOp_put o hs a d u h).symm (wanted_put o a d u h).symm, fun hy => hy.of_same (execOp_put o hs a d u h) (wanted_put o a d u h)⟩

/-- Two operations apart from each other may change places. -/
theorem gOp_swap {i j : Nat} {oi oj : Oper} (hi : ops[i]? = some oi) (hj : ops[j]? = some oj) (hap : oi.apart ops oj = true) (hsi : ∀ cs b, oi.op ≠ .select cs b) (hsj : ∀ cs b, oj.op ≠ .select cs b)
    {K : Act → Prop} {a : Act} (h : gOp P ops W0 vals i (gOp P ops W0 vals j K) a) : gOp P ops W0 vals j (gOp P ops W0 vals i K) a := by
  obtain ⟨h1, h2, h3⟩ := Oper.apart_spec hap
  unfold gOp at *
  simp only [hi, hj] at *
  cases hTi : allocOf oi with
  | some Ti =>
    cases hTj : allocOf oj with
    | some Tj =>
      simp only [hTi, hTj] at h
      exact fun b hb b' hb' => by rw [← Act.put_comm a (ptr b') (ptr b) h2]; exact h b' hb' b hb
    | none =>
      simp only [hTi, hTj] at h
      refine ⟨(Yv.put hsj h1).1 (h _ (Nat.le_refl _)).1, fun b hb => ?_⟩
      rw [← Act.put_comm a (ptr b) (vals j) h2]
      exact (h b hb).2
  | none =>
    cases hTj : allocOf oj with
    | some Tj =>
      simp only [hTi, hTj] at h
      refine fun b hb => ⟨(Yv.put hsi h3).2 h.1, ?_⟩
      rw [← Act.put_comm a (vals i) (ptr b) h2]
      exact h.2 b hb
    | none =>
      simp only [hTi, hTj] at h
      obtain ⟨k1, k2, k3⟩ := h
      refine ⟨(Yv.put hsj h1).1 k2, (Yv.put hsi h3).2 k1, ?_⟩
      rw [← Act.put_comm a (vals i) (vals j) h2]
      exact k3

theorem gOp_some {i : Nat} {oi : Oper} (hi : ops[i]? = some oi) {K : Act → Prop} {a : Act} (h : gOp P ops W0 vals i K a) : ∃ a', K a' := by
  unfold gOp at h
  simp only [hi] at h
  cases hT : allocOf oi with
  | some T => simp only [hT] at h; exact ⟨_, h _ (Nat.le_refl _)⟩
  | none => simp only [hT] at h; exact ⟨_, h.2⟩

theorem wpAnyG_first {n i : Nat} {oi : Oper} {L : Array Bool → Act → Prop} (hi : ops[i]? = some oi) (hsel : ∀ (j : Nat) (o : Oper) cs b, ops[j]? = some o → o.op ≠ .select cs b)
    (hs : Region.sinkB md ops n = true) (hc : Region.chainB md ops n = true) (hn : n < ops.size) (hin : i < n)
    (hdone : ∀ listed a, L listed a → ∀ j ∈ Region.ready md ops listed, n ≤ j) :
    ∀ (f : Nat) (listed : Array Bool) (a : Act), HeadInv md ops n listed →
      (∀ j oj, ops[j]? = some oj → j ≠ i → listed.getD j true = false → (∀ e ∈ oj.after, Region.binds md e = true → e.on ≠ i) → oi.apart ops oj = true) →
      i ∈ Region.ready md ops listed →
      gOp P ops W0 vals i (wpAnyG P md ops W0 vals n L f (listed.setIfInBounds i true)) a → wpAnyG P md ops W0 vals n L (f + 1) listed a := by
  intro f
  induction f with
  | zero =>
    intro listed a inv _ hr H
    have hun := (mem_ready.1 hr).1
    refine ⟨fun h => (by rw [h] at hr; cases hr), fun j hj => ?_⟩
    have hjn : j < n := by
      rcases Nat.lt_or_ge j n with h | h
      · exact h
      · exact absurd hj (tail_waits hs hc hn inv _ i rfl hin hun j h)
    refine ⟨hjn, ?_⟩
    by_cases hji : j = i
    · subst hji; exact H
    · obtain ⟨a', ha'⟩ := gOp_some hi H
      have := hdone _ _ ha' j (ready_mono hj hji)
      omega
  | succ f ih =>
    intro listed a inv hfree hr H
    have hun := (mem_ready.1 hr).1
    refine ⟨fun h => (by rw [h] at hr; cases hr), fun j hj => ?_⟩
    have hjn : j < n := by
      rcases Nat.lt_or_ge j n with h | h
      · exact h
      · exact absurd hj (tail_waits hs hc hn inv _ i rfl hin hun j h)
    refine ⟨hjn, ?_⟩
    by_cases hji : j = i
    · subst hji; exact H
    · obtain ⟨hjun, oj, hoj, hall⟩ := mem_ready.1 hj
      have hnot : ∀ e ∈ oj.after, Region.binds md e = true → e.on ≠ i := fun e he hb heq => by
        have h1 := hall e he hb
        rw [heq, getD_both hun] at h1
        cases h1
      have h1 : gOp P ops W0 vals i (gOp P ops W0 vals j (wpAnyG P md ops W0 vals n L f ((listed.setIfInBounds i true).setIfInBounds j true))) a :=
        gOp_mono (fun a' h => (h.2 j (ready_mono hj hji)).2) H
      have h2 := gOp_swap hi hoj (hfree j oj hoj hji hjun hnot) (fun cs b => hsel i oi cs b hi) (fun cs b => hsel j oj cs b hoj) h1
      have hfree' : ∀ k ok, ops[k]? = some ok → k ≠ i → (listed.setIfInBounds j true).getD k true = false →
          (∀ e ∈ ok.after, Region.binds md e = true → e.on ≠ i) → oi.apart ops ok = true := fun k ok hk hki hun hno => by
        refine hfree k ok hk hki ?_ hno
        by_cases hjk : j = k
        · subst hjk; exact hjun
        · rw [getD_set_ne true hjk] at hun; exact hun
      refine gOp_mono (fun a' h3 => ih (listed.setIfInBounds j true) a' (inv.set hj hjn) hfree' (ready_mono hr (Ne.symm hji)) ?_) h2
      rw [Array.setIfInBounds_comm _ _ hji]
      exact h3

/-- The walk of the text's order, with what each operation yields. -/
def wpGrowV (P : Program) (ops : Array Oper) (W0 : World) (vals : Nat → Value) (Q : Act → Prop) : List Oper → Nat → Act → Prop
  | [], _, a => Q a
  | o :: rest, k, a => match allocOf o with
    | some _ => ∀ b, W0.heap.size ≤ b → wpGrowV P ops W0 vals Q rest (k + 1) (a.put o.dst (ptr b))
    | none => Yv P ops W0 o (vals k) a ∧ wpGrowV P ops W0 vals Q rest (k + 1) (a.put o.dst (vals k))

def wpGrow (P : Program) (ops : Array Oper) (W0 : World) (Q : Act → Prop) : List Oper → Act → Prop
  | [], a => Q a
  | o :: rest, a => match allocOf o with
    | some _ => ∀ b, W0.heap.size ≤ b → wpGrow P ops W0 Q rest (a.put o.dst (ptr b))
    | none => ∃ v, Yv P ops W0 o v a ∧ wpGrow P ops W0 Q rest (a.put o.dst v)

/-- behind the first variable that is made only such ones stand -/
def allocsLast : List Oper → Bool
  | [] => true
  | o :: rest => if (allocOf o).isSome then rest.all (fun o => (allocOf o).isSome) else allocsLast rest

theorem growV_allocs {Q : Act → Prop} : ∀ (l : List Oper) (k : Nat) (a : Act), (l.all fun o => (allocOf o).isSome) = true → wpGrow P ops W0 Q l a → wpGrowV P ops W0 vals Q l k a
  | [], _, _, _, h => h
  | o :: l, k, a, hl, h => by
    simp only [List.all_cons, Bool.and_eq_true] at hl
    unfold wpGrow at h
    unfold wpGrowV
    cases hT : allocOf o with
    | none => rw [hT] at hl; cases hl.1
    | some T =>
      simp only [hT] at h ⊢
      exact fun b hb => growV_allocs l (k + 1) _ hl.2 (h b hb)

theorem growV_vals {Q : Act → Prop} {vals vals' : Nat → Value} : ∀ (l : List Oper) (k : Nat) (a : Act), (∀ j, k ≤ j → vals j = vals' j) → wpGrowV P ops W0 vals Q l k a → wpGrowV P ops W0 vals' Q l k a
  | [], _, _, _, h => h
  | o :: l, k, a, hv, h => by
    unfold wpGrowV at *
    cases hT : allocOf o with
    | some T => simp only [hT] at h ⊢; exact fun b hb => growV_vals l (k + 1) _ (fun j hj => hv j (by omega)) (h b hb)
    | none =>
      simp only [hT] at h ⊢
      rw [← hv k (Nat.le_refl _)]
      exact ⟨h.1, growV_vals l (k + 1) _ (fun j hj => hv j (by omega)) h.2⟩

theorem growV_of {Q : Act → Prop} : ∀ (l : List Oper) (k : Nat) (a : Act), allocsLast l = true → wpGrow P ops W0 Q l a → ∃ vals, wpGrowV P ops W0 vals Q l k a
  | [], _, _, _, h => ⟨fun _ => undef, h⟩
  | o :: l, k, a, hl, h => by
    cases hT : allocOf o with
    | some T =>
      refine ⟨fun _ => undef, growV_allocs (o :: l) k a ?_ h⟩
      unfold allocsLast at hl
      simp only [hT, Option.isSome_some, if_true] at hl
      simp only [List.all_cons, hT, Option.isSome_some, Bool.true_and]
      exact hl
    | none =>
      unfold wpGrow at h
      simp only [hT] at h
      obtain ⟨v, hy, hK⟩ := h
      unfold allocsLast at hl
      simp only [hT, Option.isSome_none, Bool.false_eq_true, if_false] at hl
      obtain ⟨vals, hv⟩ := growV_of l (k + 1) _ hl hK
      refine ⟨fun j => if j = k then v else vals j, ?_⟩
      unfold wpGrowV
      simp only [hT, if_true]
      exact ⟨hy, growV_vals l (k + 1) _ (fun j hj => by rw [if_neg (by omega)]) hv⟩

theorem wpAnyG_lex {n g : Nat} {Lq : Act → Prop} (hsel : Region.noSelect ops = true) (hs : Region.sinkB md ops n = true) (hc : Region.chainB md ops n = true) (hn : n < ops.size) :
    ∀ (l : List Oper) (k : Nat) (listed : Array Bool) (a : Act), (∀ j, j < l.length → l[j]? = ops[k + j]?) → k + l.length = n → HeadInv md ops n listed →
    Region.lexHead md ops g l.length k listed = true → wpGrowV P ops W0 vals Lq l k a →
    wpAnyG P md ops W0 vals n (fun listed' a' => (Region.seqB md ops g n listed' = true ∧ ∀ i, i < n → listed.getD i false = true ∨ k ≤ i → listed'.getD i false = true) ∧ Lq a') l.length listed a
  | [], k, listed, a, _, hk, inv, hB, h => by
    have : k = n := by simpa using hk
    subst this
    exact ⟨⟨by simpa [Region.lexHead] using hB, fun i hi h => h.resolve_right (by omega)⟩, h⟩
  | o :: l, k, listed, a, hl, hk, inv, hB, h => by
    have h0 : ops[k]? = some o := by simpa using (hl 0 (by simp)).symm
    simp only [List.length_cons, Region.lexHead, Bool.and_eq_true] at hB
    obtain ⟨⟨hr, hf⟩, hB'⟩ := hB
    have hkn : k < n := by simp only [List.length_cons] at hk; omega
    have hr' : k ∈ Region.ready md ops listed := by simpa using hr
    have hst : gOp P ops W0 vals k (wpGrowV P ops W0 vals Lq l (k + 1)) a := by unfold gOp; simp only [h0]; exact h
    have hks : k < listed.size := by rw [inv.size]; omega
    refine wpAnyG_first h0 (Region.noSelect_spec hsel) hs hc hn hkn (fun listed' a' hL => seqB_ready hL.1.1) l.length listed a inv (Region.free_spec h0 hf) hr' (gOp_mono (fun a' h' => ?_) hst)
    have := wpAnyG_lex (g := g) hsel hs hc hn l (k + 1) (listed.setIfInBounds k true) a' (fun j hj => by have := hl (j + 1) (by simp; omega); simpa [Nat.add_assoc, Nat.add_comm 1 j] using this) (by simp only [List.length_cons] at hk; omega) (inv.set hr' hkn) hB' h'
    refine wpAnyG_mono ?_ l.length _ _ this
    rintro listed' a'' ⟨⟨e1, e2⟩, e3⟩
    refine ⟨⟨e1, fun i hi hh => e2 i hi ?_⟩, e3⟩
    by_cases hik : i = k
    · subst hik; exact .inl (by simp [hks])
    · rcases hh with hh | hh
      · exact .inl (getD_set_true hh)
      · exact .inr (by omega)
  where
  wpAnyG_mono {n : Nat} {L L' : Array Bool → Act → Prop} (h : ∀ listed a, L listed a → L' listed a) : ∀ (f : Nat) (listed : Array Bool) (a : Act), wpAnyG P md ops W0 vals n L f listed a → wpAnyG P md ops W0 vals n L' f listed a
    | 0, _, _, hh => h _ _ hh
    | f + 1, _, _, hh => ⟨hh.1, fun i hi => ⟨(hh.2 i hi).1, gOp_mono (fun a' h' => wpAnyG_mono h f _ a' h') (hh.2 i hi).2⟩⟩
end
end Go.Proofs.Ytaojojjdfdlgpaa.Dg
namespace Go.Proofs.Ytaojojjdfdlgpaa.Dg
open Go.RowKit

section
variable {P : Program} {ops : Array Oper} {md : Region.Mode} {W0 : World} {vals : Nat → Value} {Z : TypeId → Array Value}

/-- the new variables' slots are written by nothing else -/
def ownSlots (ops : Array Oper) (n : Nat) : Prop :=
  ∀ i o T t j o', i < n → ops[i]? = some o → allocOf o = some T → o.dst = some t → ops[j]? = some o' → j < n → j ≠ i → o'.dst ≠ some t

theorem put_get_ne {a : Act} {d : Option Tmp} {v : Value} {t : Tmp} (h : d ≠ some t) : (a.put d v).tmps[t]? = a.tmps[t]? := by
  cases d with
  | none => rfl
  | some x =>
    have hx : x ≠ t := fun e => h (by rw [e])
    simp [Act.put, Array.getElem?_setIfInBounds_ne hx]

theorem put_size {a : Act} {d : Option Tmp} {v : Value} : (a.put d v).tmps.size = a.tmps.size := by
  cases d <;> simp [Act.put]

theorem Made.next {n i : Nat} {oi : Oper} {listed : Array Bool} {a : Act} {w w' : World} {v : Value} (hJ : Made ops n W0 Z listed a w) (hi : ops[i]? = some oi) (hin : i < n) (hT : allocOf oi = none) (hown : ownSlots ops n) (fr : Fr nob w w') :
    Made ops n W0 Z (listed.setIfInBounds i true) (a.put oi.dst v) w' := by
  intro k o T t hk ho hTo ht hl
  have hki : k ≠ i := by rintro rfl; rw [ho] at hi; cases hi; rw [hT] at hTo; cases hTo
  rw [getD_set_ne false (Ne.symm hki)] at hl
  obtain ⟨b, h1, h2, h3, h4⟩ := hJ k o T t hk ho hTo ht hl
  have hne := hown k o T t i oi hk ho hTo ht hi hin (Ne.symm hki)
  refine ⟨b, (put_get_ne hne).trans h1, h2, (fr.block b (Array.getElem?_eq_some_iff.1 h3).1 (fun h => h)).trans h3, ?_⟩
  intro j o' T' t' hj hjk ho' hTo' hl' ht'
  have hji : j ≠ i := by rintro rfl; rw [ho'] at hi; cases hi; rw [hT] at hTo'; cases hTo'
  rw [getD_set_ne false (Ne.symm hji)] at hl'
  have hne' := hown j o' T' t' i oi hj ho' hTo' ht' hi hin (Ne.symm hji)
  rw [put_get_ne hne']
  exact h4 j o' T' t' hj hjk ho' hTo' hl' ht'

theorem Made.new {n i : Nat} {oi : Oper} {Ti : TypeId} {ti : Tmp} {listed : Array Bool} {a : Act} {w : World} (hJ : Made ops n W0 Z listed a w) (hi : ops[i]? = some oi) (hin : i < n) (hT : allocOf oi = some Ti) (hd : oi.dst = some ti) (hsz : ti < a.tmps.size)
    (hown : ownSlots ops n) (fr : Fr nob W0 w) : Made ops n W0 Z (listed.setIfInBounds i true) (a.put oi.dst (ptr w.heap.size)) (w.alloc (.cells (Z Ti) Ti)) := by
  have hnew : (a.put oi.dst (ptr w.heap.size)).tmps[ti]? = some (ptr w.heap.size) := by
    rw [hd]; simp [Act.put, hsz]
  intro k o T t hk ho hTo ht hl
  by_cases hki : k = i
  · subst hki
    have e : o = oi := Option.some.inj (ho.symm.trans hi)
    rw [e] at hTo ht
    rw [hT] at hTo; cases hTo
    rw [hd] at ht; cases ht
    refine ⟨w.heap.size, hnew, fr.size, heap_alloc_new w _, ?_⟩
    intro j o' T' t' hj hjk ho' hTo' hl' ht'
    rw [getD_set_ne false (Ne.symm hjk)] at hl'
    obtain ⟨b', h1, _, h3, _⟩ := hJ j o' T' t' hj ho' hTo' ht' hl'
    have hne' := hown j o' T' t' k oi hj ho' hTo' ht' hi hin (Ne.symm hjk)
    rw [put_get_ne hne', h1]
    intro e
    simp at e
    have := (Array.getElem?_eq_some_iff.1 h3).1
    omega
  · rw [getD_set_ne false (Ne.symm hki)] at hl
    obtain ⟨b, h1, h2, h3, h4⟩ := hJ k o T t hk ho hTo ht hl
    have hne := hown k o T t i oi hk ho hTo ht hi hin (Ne.symm hki)
    have hb := (Array.getElem?_eq_some_iff.1 h3).1
    refine ⟨b, (put_get_ne hne).trans h1, h2, (Below.heap_alloc w _ b hb).trans h3, ?_⟩
    intro j o' T' t' hj hjk ho' hTo' hl' ht'
    by_cases hji : j = i
    · subst hji
      have e : o' = oi := Option.some.inj (ho'.symm.trans hi)
      rw [e, hd] at ht'; cases ht'
      rw [hnew]
      intro e
      simp at e
    · rw [getD_set_ne false (Ne.symm hji)] at hl'
      have hne' := hown j o' T' t' i oi hj ho' hTo' ht' hi hin (Ne.symm hji)
      rw [put_get_ne hne']
      exact h4 j o' T' t' hj hjk ho' hTo' hl' ht'

theorem wpAny_of_G {n g : Nat} {L : Array Bool → Act → Prop} {Q' : Exit → Act → World → Prop}
    (hZ : ∀ i o T, i < n → ops[i]? = some o → allocOf o = some T → ∀ (ρ : Operand → Value) w, (execOp ρ o).run P w = .ok (.value (ptr w.heap.size)) (w.alloc (.cells (Z T) T)))
    (hown : ownSlots ops n) (sz : Nat) (hslots : ∀ i o t, i < n → ops[i]? = some o → o.dst = some t → t < sz)
    (hL : ∀ listed a w, Fr nob W0 w → Made ops n W0 Z listed a w → L listed a → wpAny P md ops Q' g listed a w) :
    ∀ (f : Nat) (listed : Array Bool) (a : Act) (w : World), Fr nob W0 w → Made ops n W0 Z listed a w → a.tmps.size = sz → wpAnyG P md ops W0 vals n L f listed a → wpAny P md ops Q' (f + g) listed a w
  | 0, listed, a, w, fr, hJ, _, h => by rw [Nat.zero_add]; exact hL _ _ _ fr hJ h
  | f + 1, listed, a, w, fr, hJ, hsz, h => by
    rw [show f + 1 + g = (f + g) + 1 by omega]
    refine ⟨fun h0 => absurd h0 h.1, fun i hi => ?_⟩
    obtain ⟨hin, hg⟩ := h.2 i hi
    obtain ⟨_, o, ho, _⟩ := mem_ready.1 hi
    unfold gOp at hg
    unfold wpOp
    simp only [ho] at hg ⊢
    cases hT : allocOf o with
    | some T =>
      simp only [hT] at hg
      obtain ⟨hop, hgd, t, ht⟩ := allocOf_spec hT
      rw [if_pos (by simp [Region.wanted, hgd])]
      left
      unfold Oper.wp
      rw [hZ i o T hin ho hT]
      exact wpAny_of_G hZ hown sz hslots hL f _ _ _ (fr.alloc _) (hJ.new ho hin hT ht (by rw [hsz]; exact hslots i o t hin ho ht) hown fr) (by rw [put_size]; exact hsz) (hg w.heap.size fr.size)
    | none =>
      simp only [hT] at hg
      obtain ⟨hy, hK⟩ := hg
      rcases hy with ⟨hw, hv⟩ | ⟨hw, hv⟩
      · rw [if_pos hw]
        left
        have h3 := hv w fr
        unfold growAt at h3
        unfold Oper.wp
        generalize (execOp a.eval o).run P w = r at *
        cases r with
        | ok nx w' =>
          cases nx <;> simp only [growUpon] at h3 <;> simp only [Oper.upon]
          case value u =>
            obtain ⟨e1, e2⟩ := h3
            rw [e1, e2]
            exact wpAny_of_G hZ hown sz hslots hL f _ _ _ fr (hJ.next ho hin hT hown (Fr.refl _ _)) (by rw [put_size]; exact hsz) hK
          case skip =>
            obtain ⟨e1, e2⟩ := h3
            rw [e1, ← e2]
            exact wpAny_of_G hZ hown sz hslots hL f _ _ _ fr (hJ.next ho hin hT hown (Fr.refl _ _)) (by rw [put_size]; exact hsz) hK
          case enter fi args =>
            obtain ⟨e1, hc⟩ := h3
            rw [e1]
            exact hc.mono fun e w'' ⟨he, hw''⟩ => by
              subst he
              exact wpAny_of_G hZ hown sz hslots hL f _ _ _ (fr.trans hw'' (fun _ _ h => h)) (hJ.next ho hin hT hown hw'') (by rw [put_size]; exact hsz) hK
        | halt x w' => simp only [growUpon] at h3
      · rw [if_neg (by rw [hw]; exact Bool.false_ne_true), ← hv]
        exact wpAny_of_G hZ hown sz hslots hL f _ _ _ fr (hJ.next ho hin hT hown (Fr.refl _ _)) (by rw [put_size]; exact hsz) hK

/-! the conditions, by computation -/
def ownSlotsB (ops : Array Oper) (n : Nat) : Bool :=
  (List.range n).all fun i => match ops[i]? with
    | some o => !(allocOf o).isSome || (List.range n).all fun j => j == i || (match ops[j]? with | some o' => o'.dst != o.dst | none => true)
    | none => true

theorem ownSlots_of {n : Nat} (h : ownSlotsB ops n = true) : ownSlots ops n := by
  intro i o T t j o' hi ho hT ht ho' hj hji e
  have h1 := List.all_eq_true.1 h i (List.mem_range.2 hi)
  simp only [ho, hT, Option.isSome_some, Bool.not_true, Bool.false_or] at h1
  have h2 := List.all_eq_true.1 h1 j (List.mem_range.2 hj)
  simp only [ho', Bool.or_eq_true, beq_iff_eq] at h2
  rcases h2 with h2 | h2
  · exact hji h2
  · rw [e, ht] at h2; simp at h2

def slotsB (ops : Array Oper) (n sz : Nat) : Bool :=
  (List.range n).all fun i => match ops[i]? with
    | some o => (match o.dst with | some t => decide (t < sz) | none => true)
    | none => true

theorem slots_of {n sz : Nat} (h : slotsB ops n sz = true) : ∀ i o t, i < n → ops[i]? = some o → o.dst = some t → t < sz := by
  intro i o t hi ho ht
  have h1 := List.all_eq_true.1 h i (List.mem_range.2 hi)
  simpa [ho, ht] using h1

def growB (l : List Oper) (n sz : Nat) : Bool :=
  Region.lexTailB .any l.toArray n && ownSlotsB l.toArray n && slotsB l.toArray n sz && allocsLast (l.take n)

/-- **THE RULE.** -/
theorem wp_region_grow {id : Nat} {Q : Exit → Act → World → Prop} {a : Act} {w : World} {l : List Oper} (n sz : Nat) (Z : TypeId → Array Value) (hm : P.follows .mixedOrders = true) (hB : growB l n sz = true) (hsz : a.tmps.size = sz)
    (hZ : ∀ i o T, i < n → l[i]? = some o → allocOf o = some T → ∀ (ρ : Operand → Value) w, (execOp ρ o).run P w = .ok (.value (ptr w.heap.size)) (w.alloc (.cells (Z T) T)))
    (h : wpGrow P l.toArray w (fun a' => ∀ w' listed, Fr nob w w' → (∀ i, i < n → listed.getD i false = true) → Made l.toArray n w Z listed a' w' → wpList P l.toArray Q (l.drop n) a' w') (l.take n) a) :
    (Code.region id l.toArray true).wp P Q a w := by
  simp only [growB, Bool.and_eq_true] at hB
  obtain ⟨⟨⟨hlt, hown⟩, hsl⟩, hal⟩ := hB
  simp only [Region.lexTailB, Bool.and_eq_true, decide_eq_true_eq] at hlt
  obtain ⟨⟨⟨⟨hsel, hn⟩, hs⟩, hc⟩, hlex⟩ := hlt
  have hn' : n < l.length := by simpa using hn
  have htl : (l.take n).length = n := by simp; omega
  have hdl : (l.drop n).length = l.toArray.size - n := by simp
  have inv0 : HeadInv .any l.toArray n (Array.replicate l.toArray.size false) :=
    ⟨by simp, fun j oj _ hl => (by rw [getD_replicate_false] at hl; cases hl), fun t _ ht => getD_in (by simpa using ht) (getD_replicate_false _ _)⟩
  obtain ⟨vals, hV⟩ := growV_of (l.take n) 0 a hal h
  have H := wpAnyG_lex (md := .any) (g := l.toArray.size - n) hsel hs hc hn (l.take n) 0 _ a (fun j hj => by
    have hj' : j < n := by rw [htl] at hj; exact hj
    simp [hj']) (by simpa using htl) inv0 (by rw [htl]; exact hlex) hV
  refine wp_region_any hm ?_
  have fr0 : Fr nob w { w with drawn := w.drawn + 1 } := ⟨rfl, rfl, rfl, Nat.le_refl _, fun _ _ _ => rfl⟩
  have := wpAny_of_G (Q' := Q) (g := l.toArray.size - n) (Z := Z) (fun i o T hi ho hT => hZ i o T hi (by simpa using ho) hT) (ownSlots_of hown) sz (slots_of hsl) (fun listed a' w' fr hJ hL => by
    have := wpAny_of_seq (md := .any) (Q' := Q) (l.drop n) n listed a' w' (fun j => by simp [List.getElem?_drop]) (by rw [hdl]; exact hL.1.1) (hL.2 w' listed fr (fun i hi => hL.1.2 i hi (.inr (Nat.zero_le _))) hJ)
    rwa [hdl] at this) _ _ _ _ fr0 (by intro i o T t _ _ _ _ hl; rw [getD_replicate_false] at hl; cases hl) hsz H
  rw [htl, show n + (l.toArray.size - n) = l.toArray.size by omega] at this
  exact this

def allocTypes (l : List Oper) : List TypeId := l.filterMap allocOf

/-- THE RULE, the types of the variables that it makes at hand. -/
theorem wp_region_grow' {id : Nat} {Q : Exit → Act → World → Prop} {a : Act} {w : World} {l : List Oper} (n sz : Nat) (Z : TypeId → Array Value) (ts : List TypeId) (hm : P.follows .mixedOrders = true) (hB : growB l n sz = true) (hsz : a.tmps.size = sz)
    (hts : allocTypes (l.take n) = ts) (hZ : ∀ T, T ∈ ts → ∀ w, (Instr.alloc T true (.tuple #[])).run P w = .ok (ptr w.heap.size) (w.alloc (.cells (Z T) T)))
    (h : wpGrow P l.toArray w (fun a' => ∀ w' listed, Fr nob w w' → (∀ i, i < n → listed.getD i false = true) → Made l.toArray n w Z listed a' w' → wpList P l.toArray Q (l.drop n) a' w') (l.take n) a) :
    (Code.region id l.toArray true).wp P Q a w := by
  refine wp_region_grow n sz Z hm hB hsz (fun i o T hi ho hT ρ w => ?_) h
  have hmem : T ∈ ts := by
    rw [← hts]
    refine List.mem_filterMap.2 ⟨o, List.mem_of_getElem? (i := i) ?_, hT⟩
    rw [List.getElem?_take, if_pos hi]; exact ho
  obtain ⟨hop, _, _⟩ := allocOf_spec hT
  unfold execOp
  rw [hop]
  simp [hZ T hmem w, Result.andThen]

theorem grow_step {Q : Act → Prop} {o : Oper} {rest : List Oper} {a : Act} {v : Value} (hT : allocOf o = none) (hw : Region.wanted o (yielded ops a.tmps) = true) (hv : ∀ w, Fr nob W0 w → growAt P o a w v) (hK : wpGrow P ops W0 Q rest (a.put o.dst v)) : wpGrow P ops W0 Q (o :: rest) a := by
  unfold wpGrow
  simp only [hT]
  exact ⟨v, .inl ⟨hw, hv⟩, hK⟩

theorem grow_skip {Q : Act → Prop} {o : Oper} {rest : List Oper} {a : Act} (hT : allocOf o = none) (hw : Region.wanted o (yielded ops a.tmps) = false) (hK : wpGrow P ops W0 Q rest (a.put o.dst undef)) : wpGrow P ops W0 Q (o :: rest) a := by
  unfold wpGrow
  simp only [hT]
  exact ⟨undef, .inr ⟨hw, rfl⟩, hK⟩

theorem grow_alloc {Q : Act → Prop} {o : Oper} {rest : List Oper} {a : Act} {T : TypeId} (hT : allocOf o = some T) (hK : ∀ b, W0.heap.size ≤ b → wpGrow P ops W0 Q rest (a.put o.dst (ptr b))) : wpGrow P ops W0 Q (o :: rest) a := by
  unfold wpGrow
  simp only [hT]
  exact hK

theorem grow_nil {Q : Act → Prop} {a : Act} (h : Q a) : wpGrow P ops W0 Q [] a := h

theorem growAt_value {o : Oper} {a : Act} {w : World} {v : Value} (h : (execOp a.eval o).run P w = .ok (.value v) w) : growAt P o a w v := by
  unfold growAt; rw [h]; exact ⟨rfl, rfl⟩

theorem growAt_call {o : Oper} {a : Act} {w : World} {v : Value} {f : FuncId} {args : Array Value} (h : (execOp a.eval o).run P w = .ok (.enter f args) w) (hc : Calls P f args w fun e w' => e = .returned v ∧ Fr nob w w') : growAt P o a w v := by
  unfold growAt; rw [h]; exact ⟨rfl, hc⟩
end
end Go.Proofs.Ytaojojjdfdlgpaa.Dg
namespace Go.Proofs.Ytaojojjdfdlgpaa.Dg
open Go.RowKit

/-! The rule's condition for a great region, checked step by step: each step over a list that is written out. -/
theorem growB_of {l : List Oper} {n sz : Nat} (h1 : Region.noSelect l.toArray = true) (h2 : decide (n < l.toArray.size) = true) (h3 : Region.sinkB .any l.toArray n = true) (h4 : Region.chainB .any l.toArray n = true)
    (h5 : Region.lexHead .any l.toArray (l.toArray.size - n) n 0 (Array.replicate l.toArray.size false) = true) (h6 : ownSlotsB l.toArray n = true) (h7 : slotsB l.toArray n sz = true) (h8 : allocsLast (l.take n) = true) : growB l n sz = true := by
  unfold growB Region.lexTailB
  rw [h1, h2, h3, h4, h5, h6, h7, h8]; rfl
theorem lexHead_start {md : Region.Mode} {ops : Array Oper} {g f k : Nat} {listed l' : Array Bool} (hl : listed = l') (h : Region.lexHead md ops g f k l' = true) : Region.lexHead md ops g f k listed = true := by rw [hl]; exact h
theorem lexHead_cons {md : Region.Mode} {ops : Array Oper} {g f k : Nat} {listed l' : Array Bool} (h : ((Region.ready md ops listed).contains k && Region.free md ops listed k) = true) (hl : listed.setIfInBounds k true = l') (h' : Region.lexHead md ops g f (k + 1) l' = true) : Region.lexHead md ops g (f + 1) k listed = true := by
  rw [Region.lexHead, h, hl, h']; rfl
end Go.Proofs.Ytaojojjdfdlgpaa.Dg

namespace Go.Proofs.Ytaojojjdfdlgpaa.Dg
open Go.RowKit
open Bd

theorem join3 (a b c : Nat) (ha : a < 256) (hb : b < 256) (hc : c < 256) :
    bits BinOp.or IntKind.u32 (bits BinOp.or IntKind.u32 ((a : Int) % 4294967296) ((b : Int) % 4294967296 * 256 % 4294967296)) ((c : Int) % 4294967296 * 65536 % 4294967296) = ((a + 256 * b + 65536 * c : Nat) : Int) := by
  have e1 : (a : Int) % 4294967296 = a := by omega
  have e2 : (b : Int) % 4294967296 * 256 % 4294967296 = 256 * b := by omega
  have e3 : (c : Int) % 4294967296 * 65536 % 4294967296 = 65536 * c := by omega
  have h1 := u32_or8 (a : Int) (256 * (b : Int)) (by omega) (by omega) (by omega) (by omega) (by omega)
  have h2 := u32_or16 ((a : Int) + 256 * b) (65536 * (c : Int)) (by omega) (by omega) (by omega) (by omega) (by omega)
  rw [e1, e2, e3, h1, h2]
  omega

/-- the number that a string's first three bytes write -/
def rp (s : ByteArray) : Nat := (s.data.toList.getD 0 0).toNat + 256 * (s.data.toList.getD 1 0).toNat + 65536 * (s.data.toList.getD 2 0).toNat

theorem rp_b3 {s : ByteArray} {p : Nat} (hp : p < 16777216) (hs : s.data.toList.take 3 = b3 p) : rp s = p := by
  have h : ∀ i, i < 3 → s.data.toList.getD i 0 = (b3 p).getD i 0 := fun i hi => by
    rw [← hs, List.getD, List.getD, List.getElem?_take, if_pos hi]
  unfold rp
  rw [h 0 (by omega), h 1 (by omega), h 2 (by omega)]
  exact b3_val hp

set_option maxRecDepth 100000 in
set_option maxHeartbeats 400000 in
theorem readPlace_any (s : ByteArray) (w : World) (hsz : 3 ≤ s.size) (hm : s.size ≤ maxLen) :
    Calls Try.prog 108 #[.string s] w fun e w' => e = .returned (.int .u32 (rp s : Int)) ∧ ∃ n, w' = w.drewN n := by
  unfold maxLen at hm
  have h0 : 0 < s.size := by omega
  have h1 : 1 < s.size := by omega
  have h2 : 2 < s.size := by omega
  have hj := join3 s[0].toNat s[1].toNat s[2].toNat s[0].toNat_lt s[1].toNat_lt s[2].toNat_lt
  have hv : s[0].toNat + 256 * s[1].toNat + 65536 * s[2].toNat = rp s := by
    have e : ∀ i (h : i < s.size), s.data.toList.getD i 0 = s[i] := fun i h => by
      rw [List.getD, List.getElem?_eq_getElem (by simpa using h)]; simp; rfl
    unfold rp
    rw [e 0 h0, e 1 h1, e 2 h2]
  rw [hv] at hj
  have Hj := Lib.hid hj
  clear hj hv
  have i0 : (0 : Int) < (s.size : Int) := by omega
  have i1 : (1 : Int) < (s.size : Int) := by omega
  have i2 : (2 : Int) < (s.size : Int) := by omega
  go_enter Try.func108, Try.ntmps108
  go_wp2
  go_quiet (fail)
  go_wp2
  go_ret
  refine ⟨?_, _, rfl⟩
  rw [← Hj.out]
  rfl

theorem rows_ext {s : ByteArray} {rs : List (Nat × Nat × Nat)} {k : Nat} {r : Nat × Nat × Nat} (hs : s.data.toList = code rs) (hk : rs[k]? = some r) : ((s.extract (k * 7) (7 * rs.length)).extract 0 7).data.toList = rowCode r := by
  have hkl : k < rs.length := (List.getElem?_eq_some_iff.1 hk).1
  have e1 : (s.extract (k * 7) (7 * rs.length)).data.toList = ((code rs).drop (k * 7)).take (7 * rs.length - k * 7) := by
    rw [ByteArray.data_extract, Array.toList_extract, hs, List.extract_eq_take_drop]
  rw [ByteArray.data_extract, Array.toList_extract, List.extract_eq_take_drop, e1]
  apply List.ext_getElem?
  intro j
  simp only [List.getElem?_take, List.getElem?_drop, Nat.zero_add, Nat.sub_zero]
  by_cases hj : j < 7
  · rw [if_pos (by omega), if_pos (by omega), ← code_at hk j hj]
    congr 1; omega
  · rw [if_neg (by omega), List.getElem?_eq_none (by rw [rowCode_length]; omega)]

theorem row_parts {T : ByteArray} {r : Nat × Nat × Nat} (hT : T.data.toList = rowCode r) (hr : r.1 < 256 ∧ r.2.1 < 16777216 ∧ r.2.2 < 16777216) (_hTs : T.size = 7) (h0 : 0 < T.size) : T[0].toNat = r.1 ∧ rp (T.extract 1 7) = r.2.1 ∧ rp (T.extract 4 7) = r.2.2 := by
  have e0 : T[0] = UInt8.ofNat r.1 := by
    have h : T.data.toList[0]? = some (UInt8.ofNat r.1) := by rw [hT]; rfl
    rw [List.getElem?_eq_getElem (by simpa using h0)] at h
    simp at h
    exact h
  have e : ∀ a, (T.extract a 7).data.toList = (rowCode r).drop a := fun a => by
    rw [ByteArray.data_extract, Array.toList_extract, hT, List.extract_eq_take_drop, List.take_of_length_le (by simp [rowCode_length])]
  refine ⟨?_, rp_b3 hr.2.1 ?_, rp_b3 hr.2.2 ?_⟩
  · rw [e0]; simp only [UInt8.toNat_ofNat']; omega
  · rw [e]; rfl
  · rw [e]; rfl

set_option maxRecDepth 100000 in
set_option maxHeartbeats 400000 in
theorem at_small (d : Value) (p : Nat) (q : Nat) (s : ByteArray) (w : World) (hd : d = .agg #[.int .u32 (q : Int), .string s]) (hp : p < 2) :
    Calls Try.prog 75 #[d, .int .u32 (p : Int)] w fun e w' => e = .returned (nk (24, p, p)) ∧ Below w.heap.size w w' := by
  subst hd
  have hp' : (p : Int) < 2 := by omega
  go_enter Try.func75, Try.ntmps75
  go_wp2
  refine bodyPost_ret (v := nk (24, p, p)) (by simp [results, Try.results75, go_sem, nk]) rfl ⟨rfl, ((Below.refl _ _).alloc (Nat.le_refl _) _).alloc (by simp) _⟩

set_option maxRecDepth 100000 in
set_option maxHeartbeats 400000 in
theorem at_row (d : Value) (k : Nat) (q : Nat) (s : ByteArray) (rs : List (Nat × Nat × Nat)) (r : Nat × Nat × Nat) (w : World) (hd : d = .agg #[.int .u32 (q : Int), .string s]) (hs : s.data.toList = code rs) (hk : rs[k]? = some r) (hn : rs.length < 2097152)
    (hr : r.1 < 256 ∧ r.2.1 < 16777216 ∧ r.2.2 < 16777216) :
    Calls Try.prog 75 #[d, .int .u32 ((k + 2 : Nat) : Int)] w fun e w' => e = .returned (nk r) ∧ Below w.heap.size w w' := by
  subst hd
  have hkl : k < rs.length := (List.getElem?_eq_some_iff.1 hk).1
  have hsz : s.size = 7 * rs.length := by rw [← code_length, ← hs]; simp
  go_enter Try.func75, Try.ntmps75
  go_wp2
  have hT := rows_ext hs hk
  generalize (s.extract (k * 7) (7 * rs.length)).extract 0 7 = T at *
  have hTs : T.size = 7 := by have := congrArg List.length hT; simpa [rowCode_length] using this
  have hT0 : 0 < T.size := by omega
  have iT0 : (0 : Int) < (T.size : Int) := by omega
  have hr' := Lib.hid hr
  have HT := Lib.hid hT
  clear hT hr hs hk
  go_region_with (go_at_call 108; refine (readPlace_any _ _ ?_ ?_).mono ?_; (simp; omega); (unfold maxLen; simp; omega); rintro e w' ⟨rfl, n', rfl⟩)
  all_goals go_wp2
  all_goals
    refine bodyPost_ret (v := .agg #[.int .u8 (T[0].toNat : Int), .int .u32 (rp (T.extract 1 7) : Int), .int .u32 (rp (T.extract 4 7) : Int)]) (by simp [results, Try.results75, go_sem]) rfl ⟨?_, ?_⟩
    · obtain ⟨q1, q2, q3⟩ := row_parts HT.out hr'.out hTs hT0
      rw [q1, q2, q3]; rfl
    · exact (((((((Fr.refl nob w).alloc _).alloc _).drewN _).setCell (p := ⟨w.heap.size + 1, 0, none⟩) (fun h => absurd h (by simp)) _).setCell (p := ⟨w.heap.size + 1, 1, none⟩) (fun h => absurd h (by simp)) _).setCell (p := ⟨w.heap.size + 1, 2, none⟩) (fun h => absurd h (by simp)) _).to_below (Nat.le_refl _) (fun _ h => h.elim)
end Go.Proofs.Ytaojojjdfdlgpaa.Dg
namespace Go.Proofs.Ytaojojjdfdlgpaa.Dg
open Go.RowKit
open Bd

/-- whether the chosen set is empty or full whatever else is fixed -/
def decidedN (k : Nat × Nat × Nat) : Nat × Bool :=
  if k.1 = 1 ∨ k.2.1 = k.2.2 then (k.2.1, decide (k.2.1 < 2)) else if k.1 = 0 then (k.2.2, decide (k.2.2 < 2)) else (0, false)
def plainN (k : Nat × Nat × Nat) : Nat × Nat × Nat :=
  if k.1 = 0 then (0, 0, k.2.2) else if k.1 = 1 then (1, k.2.1, 0) else k

theorem run_neq_nat (a b : Nat) : ((a : Int) == (b : Int)) = decide (a = b) := by
  by_cases h : a = b
  · simp [h]
  · have : ¬ ((a : Int) = (b : Int)) := by omega
    simp [h, this]

set_option maxRecDepth 100000 in
set_option maxHeartbeats 400000 in
theorem decided_any (a b c : Nat) (w : World) : Calls Try.prog 120 #[tk (a, b, c)] w fun e w' => e = .returned (.tuple #[.int .u32 ((decidedN (a, b, c)).1 : Int), .bool (decidedN (a, b, c)).2]) ∧ Below w.heap.size w w' := by
  have fin : ∀ n, Below w.heap.size w ((w.alloc (.cells #[.int .u32 (a : Int), .int .u32 (b : Int), .int .u32 (c : Int)] 159)).drewN n) := fun n => (((Fr.refl nob w).alloc _).drewN n).to_below (Nat.le_refl _) (fun _ h => h.elim)
  by_cases h1 : a = 1
  · subst h1
    have e : decidedN (1, b, c) = (b, decide (b < 2)) := by simp [decidedN]
    rw [e]
    go_enter Try.func120, Try.ntmps120
    go_wp2
    go_quiet (fail)
    go_wp2
    go_ret2
    exact ⟨by simp; omega, fin _⟩
  have n1 : ((a : Int) == 1) = false := by simp; omega
  by_cases h2 : b = c
  · subst h2
    have e : decidedN (a, b, b) = (b, decide (b < 2)) := by simp [decidedN]
    rw [e]
    go_enter Try.func120, Try.ntmps120
    go_wp2
    go_quiet (fail)
    go_wp2
    go_ret2
    exact ⟨by simp; omega, fin _⟩
  have n2 : ((b : Int) == (c : Int)) = false := by simp; omega
  by_cases h3 : a = 0
  · subst h3
    have e : decidedN (0, b, c) = (c, decide (c < 2)) := by simp [decidedN, h2]
    rw [e]
    clear n1
    go_enter Try.func120, Try.ntmps120
    go_wp2
    go_quiet (fail)
    go_wp2
    go_ret2
    exact ⟨by simp; omega, fin _⟩
  · have n3 : ((a : Int) == 0) = false := by simp; omega
    have e : decidedN (a, b, c) = (0, false) := by simp [decidedN, h1, h2, h3]
    rw [e]
    go_enter Try.func120, Try.ntmps120
    go_wp2
    go_ret2
    exact ⟨rfl, fin 0⟩

set_option maxRecDepth 100000 in
set_option maxHeartbeats 400000 in
theorem plain_any (a b c : Nat) (w : World) : Calls Try.prog 121 #[tk (a, b, c)] w fun e w' => e = .returned (tk (plainN (a, b, c))) ∧ Below w.heap.size w w' := by
  by_cases h0 : a = 0
  · subst h0
    have e : plainN (0, b, c) = (0, 0, c) := by simp [plainN]
    rw [e]
    go_enter Try.func121, Try.ntmps121
    go_wp2
    refine bodyPost_ret (v := tk (0, 0, c)) (by simp [results, Try.results121, go_sem]) rfl ⟨rfl, ?_⟩
    exact ((Below.refl _ _).alloc (Nat.le_refl _) _).alloc (by simp) _
  have n0 : ((a : Int) == 0) = false := by simp; omega
  by_cases h1 : a = 1
  · subst h1
    have e : plainN (1, b, c) = (1, b, 0) := by simp [plainN]
    rw [e]
    clear n0
    go_enter Try.func121, Try.ntmps121
    go_wp2
    refine bodyPost_ret (v := tk (1, b, 0)) (by simp [results, Try.results121, go_sem]) rfl ⟨rfl, ?_⟩
    exact ((Below.refl _ _).alloc (Nat.le_refl _) _).alloc (by simp) _
  · have n1 : ((a : Int) == 1) = false := by simp; omega
    have e : plainN (a, b, c) = (a, b, c) := by simp [plainN, h0, h1]
    rw [e]
    go_enter Try.func121, Try.ntmps121
    go_wp2
    refine bodyPost_ret (v := tk (a, b, c)) (by simp [results, Try.results121, go_sem]) rfl ⟨rfl, ?_⟩
    exact ((Below.refl _ _).alloc (Nat.le_refl _) _).alloc (by simp) _
end Go.Proofs.Ytaojojjdfdlgpaa.Dg

