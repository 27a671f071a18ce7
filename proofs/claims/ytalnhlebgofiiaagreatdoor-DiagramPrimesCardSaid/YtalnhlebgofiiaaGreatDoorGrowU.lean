import Derived.Test.YtalnhlebgofiiaaGreatDoorWork
import Derived.Deep.RegionWith
import Derived.Deep.RegionHeld3
import Derived.Laws.EntriesVeiled
namespace Go.Proofs.YtalnhlebgofiiaaGreatDoor
open Go.RowKit
open Bd

/-- a key of one place -/
abbrev uk (k : Nat) : Value := .int .u32 (k : Int)
theorem uk_inj (a b : Nat) (h : uk a = uk b) : a = b := by
  simp only [Value.int.injEq, true_and] at h
  omega
theorem ukKeyed : Maps.Keyed Tryz.prog 23 := Maps.int_keyed Tryz.underlying23
theorem ukKey {k : Nat} (h : k < 4294967296) : ∃ l, keyOf Tryz.prog 23 (uk k) = some l := ⟨_, Maps.keyOf_int_mk Tryz.underlying23 (wf_u32 h)⟩

abbrev VU := VisPost 23 uk
abbrev GU {sem : Nat → B} := @Gr Nat 23 uk sem 137

section
variable (sem : Nat → B) (mu : Nat → Nat) (w : World) (wb mb fb b1 b2 b3 b4 : Nat) (v : Value) (mf : Nat → Option Value) (R : List B) (ch : Value)

set_option maxRecDepth 100000 in
set_option maxHeartbeats 400000 in
/-- a leaf -/
theorem visitU_leaf (a l h f : Nat) (hG : GU (sem := sem) (.func (.func 112) #[ch] #[]) w wb mb fb b1 b2 b3 b4 v mf R) (hf : f = 0 ∧ sem a = .F ∨ f = 1 ∧ sem a = .T)
    (hsp : ∀ w, Calls Tryz.prog 112 #[ch, uk a] w fun e w' => e = .returned (.tuple #[.int .i64 ((24 + f : Nat) : Int), uk l, uk h]) ∧ Below w.heap.size w w') :
    Calls Tryz.prog 137 #[uk a, .pointer (some ⟨b1, 0, none⟩), .pointer (some ⟨b2, 0, none⟩), .pointer (some ⟨b3, 0, none⟩), .pointer (some ⟨b4, 0, none⟩)] w
      (VU sem mu 137 (.func (.func 112) #[ch] #[]) wb mb fb b1 b2 b3 b4 v mf R a w) := by
  have hc1 := hG.caps.c1
  have hf0 : (0 : Int) ≤ (f : Int) := by omega
  have hf1 : (f : Int) ≤ 1 := by omega
  go_enter Tryz.func137, Tryz.ntmps137
  go_wp2_with fail
  refine (hsp _).mono ?_
  rintro e w1 ⟨rfl, hb⟩
  have fr1 : Fr nob w w1 := (Fr.refl nob w).below hb
  go_wp2_with fail
  go_ret
  refine ⟨v, mf, ?_, ?_, fr1.mono (fun _ _ h => h.elim), fun g h => .inl h, fun _ => .inl rfl⟩
  · rcases hf with ⟨rfl, h⟩ | ⟨rfl, h⟩ <;> rw [h] <;> rfl
  · have : vis (sem a) R = R := by rcases hf with ⟨_, h⟩ | ⟨_, h⟩ <;> rw [h] <;> rfl
    rw [this]
    exact hG.keptNew fr1

set_option maxRecDepth 100000 in
set_option maxHeartbeats 400000 in
/-- a key that is finished -/
theorem visitU_found (a l h f : Nat) (p : Value) (hG : GU (sem := sem) (.func (.func 112) #[ch] #[]) w wb mb fb b1 b2 b3 b4 v mf R) (hf : f < 24) (hp : mf a = some p) (hk : a < 4294967296)
    (hsp : ∀ w, Calls Tryz.prog 112 #[ch, uk a] w fun e w' => e = .returned (.tuple #[.int .i64 (f : Int), uk l, uk h]) ∧ Below w.heap.size w w') :
    Calls Tryz.prog 137 #[uk a, .pointer (some ⟨b1, 0, none⟩), .pointer (some ⟨b2, 0, none⟩), .pointer (some ⟨b3, 0, none⟩), .pointer (some ⟨b4, 0, none⟩)] w
      (VU sem mu 137 (.func (.func 112) #[ch] #[]) wb mb fb b1 b2 b3 b4 v mf R a w) := by
  have hc1 := hG.caps.c1
  have hc2 := hG.caps.c2
  have hf1 : (f : Int) < 24 := by omega
  have hf0 : (0 : Int) ≤ (f : Int) := by omega
  have e5 := hG.fin.places _ _ hp
  go_enter Tryz.func137, Tryz.ntmps137
  go_wp2_with fail
  refine (hsp _).mono ?_
  rintro e w1 ⟨rfl, hb⟩
  have fr1 : Fr nob w w1 := (Fr.refl nob w).below hb
  have hc22 := fr1.cell hc2 (fun h => h)
  obtain ⟨lk, hkey⟩ := ukKey hk
  obtain ⟨nm, hm⟩ := hG.fin.map
  have hlook := (fr1.map hm (fun h => h)).lookup_yes ukKeyed uk_inj Tryz.underlying183 hkey hp
  dsimp only [uk] at hlook
  go_wp2_with fail
  go_ret
  refine ⟨v, mf, ?_, ?_, fr1.mono (fun _ _ h => h.elim), fun g h => .inl h, fun _ => .inl rfl⟩
  · rw [vis_inn e5.1, ← e5.2]; rfl
  · rw [vis_inn e5.1]
    exact hG.keptNew fr1

set_option maxRecDepth 100000 in
set_option maxHeartbeats 1000000 in
/-- a key that is new -/
theorem visitU_step (a l h f : Nat) (hG : GU (sem := sem) (.func (.func 112) #[ch] #[]) w wb mb fb b1 b2 b3 b4 v mf R) (hf : f < 24) (hp : mf a = none) (hk : a < 4294967296)
    (hsem : sem a = mk f (sem l) (sem h)) (hml : mu l < mu a) (hmh : mu h < mu a) (hs : small (vis (sem a) R))
    (hsp : ∀ w, Calls Tryz.prog 112 #[ch, uk a] w fun e w' => e = .returned (.tuple #[.int .i64 (f : Int), uk l, uk h]) ∧ Below w.heap.size w w')
    (ihl : ∀ w v mf R, GU (sem := sem) (.func (.func 112) #[ch] #[]) w wb mb fb b1 b2 b3 b4 v mf R → small (vis (sem l) R) →
      Calls Tryz.prog 137 #[uk l, .pointer (some ⟨b1, 0, none⟩), .pointer (some ⟨b2, 0, none⟩), .pointer (some ⟨b3, 0, none⟩), .pointer (some ⟨b4, 0, none⟩)] w
        (VU sem mu 137 (.func (.func 112) #[ch] #[]) wb mb fb b1 b2 b3 b4 v mf R l w))
    (ihh : ∀ w v mf R, GU (sem := sem) (.func (.func 112) #[ch] #[]) w wb mb fb b1 b2 b3 b4 v mf R → small (vis (sem h) R) →
      Calls Tryz.prog 137 #[uk h, .pointer (some ⟨b1, 0, none⟩), .pointer (some ⟨b2, 0, none⟩), .pointer (some ⟨b3, 0, none⟩), .pointer (some ⟨b4, 0, none⟩)] w
        (VU sem mu 137 (.func (.func 112) #[ch] #[]) wb mb fb b1 b2 b3 b4 v mf R h w)) :
    Calls Tryz.prog 137 #[uk a, .pointer (some ⟨b1, 0, none⟩), .pointer (some ⟨b2, 0, none⟩), .pointer (some ⟨b3, 0, none⟩), .pointer (some ⟨b4, 0, none⟩)] w
      (VU sem mu 137 (.func (.func 112) #[ch] #[]) wb mb fb b1 b2 b3 b4 v mf R a w) := by
  have hg := hG.work.good
  have hsl : small (vis (sem l) R) := small_suffix ((vis_suffix _ _).trans (suffix_mk hg)) (hsem ▸ hs)
  have hsh : small (vis (sem h) (vis (sem l) R)) := small_suffix (suffix_mk hg) (hsem ▸ hs)
  have hsn : small (vis (mk f (sem l) (sem h)) (vis (sem h) (vis (sem l) R))) := by rw [vis_vis_mk hg, ← hsem]; exact hs
  have Hsem := Lib.hid hsem
  have Hp := Lib.hid hp
  obtain ⟨lk, hkey⟩ := ukKey hk
  have zero : ∀ w, (zeroValue 23).run Tryz.prog w = .ok (.int .u32 0) w := fun _ => by kernel_rfl
  have hc1 := hG.caps.c1
  have hc2 := hG.caps.c2
  have hc3 := hG.caps.c3
  have hf1 : (f : Int) < 24 := by omega
  have hf0 : (0 : Int) ≤ (f : Int) := by omega
  clear hsem hp hs hg
  go_enter Tryz.func137, Tryz.ntmps137
  go_wp2_with fail
  refine (hsp _).mono ?_
  rintro e w1 ⟨rfl, hb⟩
  have fr1 : Fr nob w w1 := (Fr.refl nob w).below hb
  have hc22 := fr1.cell hc2 (fun h => h)
  have hc32 := fr1.cell hc3 (fun h => h)
  obtain ⟨nm, hm⟩ := hG.fin.map
  have hlook := (fr1.map hm (fun h => h)).lookup_no ukKeyed uk_inj Tryz.underlying183 (zero _) hkey Hp.out
  dsimp only [uk] at hlook
  have hG2 := hG.keptNew fr1
  clear hb
  go_wp2_with fail
  refine (ihl _ _ _ _ hG2 hsl).mono ?_
  rintro e w3 ⟨v3, mf3, rfl, hG3, fr3, src3, dom3⟩
  have z3 := fr3.size
  have fr23 := fr1.trans' fr3 (T := foot4 wb mb fb v) (fun _ _ h => h.elim) (fun _ _ h => h)
  have c33 := hG3.caps.c3
  have z1 := fr1.size
  clear hlook hG2 fr1 fr3 hc22 hc32
  go_wp2_with fail
  refine (ihh _ _ _ _ hG3 hsh).mono ?_
  rintro e w4 ⟨v4, mf4, rfl, hG4, fr4, src4, dom4⟩
  have fr24 := fr23.trans fr4 (fun k hk h => Classical.byContradiction fun h' => foot4_src src3 (by omega) h' h)
  have c44 := hG4.caps.c4
  have c24 := hG4.caps.c2
  clear c33
  go_wp2_with fail
  have hil : inn (vis (sem h) (vis (sem l) R)) (sem l) := (inn_vis _ _).mono (mem_vis _ _)
  refine (node_any' wb mb f v4 _ (sem l) (sem h) w4 hG4.work hf hil (inn_vis _ _) hsn _ _ (place_suffix hG4.work.good (vis_suffix _ _) (inn_vis _ _)).symm rfl).mono ?_
  rintro e w5 ⟨v5, rfl, hW5, fr5, src5⟩
  have lfb : fb < w4.heap.size := by obtain ⟨n, hm⟩ := hG4.fin.map; exact hm.lt
  have c25 := fr5.cell c24 (fun h => hG4.off.1.2.1 (.inl h))
  obtain ⟨n4, hm4⟩ := hG4.fin.map
  have hm5 := fr5.map hm4 hG4.off.2
  have hn : mf4 a = none := by
    rcases dom4 a with h | h
    · rw [h]
      rcases dom3 a with h | h
      · rw [h]; exact Hp.out
      · omega
    · omega
  have Hn := Lib.hid hn
  clear c24 hn hm hm4
  go_wp2_with (at_mapUpdate; refine wpList_mapUpdate_new rfl _ _ _ rfl ukKeyed uk_inj Tryz.underlying183 rfl hm5 a _ rfl rfl hkey Hn.out ?_)
  intro w6 map6 gr6
  go_wp2_with fail
  go_ret
  have R45 := vis_vis_mk (i := f) (lo := sem l) (hi := sem h) hG.work.good
  have F := grFinish hG4 hW5 fr5 src5 map6 gr6 Hsem.out
  refine ⟨v5, putAt mf4 a (.int .u32 (place (vis (mk f (sem l) (sem h)) (vis (sem h) (vis (sem l) R))) (mk f (sem l) (sem h)) : Int)), ?_, ?_, ?_, ?_, ?_⟩
  · rw [Hsem.out, ← R45]; rfl
  · rw [Hsem.out, ← R45]; exact F
  · refine (fr24.trans fr5 (fun k hk h => Classical.byContradiction fun h' => ?_)).grown gr6 (fun k h _ => by cases h; exact .inr rfl)
    refine foot4_src (n := w.heap.size) (fun g hg => ?_) hk h' (.inl h)
    rcases src4 g hg with h1 | h1
    · exact (src3 g h1).imp id (by omega)
    · exact .inr (by omega)
  · intro g hg
    rcases src5 g hg with h1 | h1
    · rcases src4 g h1 with h1 | h1
      · exact (src3 g h1).imp id (by omega)
      · exact .inr (by omega)
    · have := fr4.size
      exact .inr (by omega)
  · intro k'
    unfold putAt
    split
    · rename_i e; subst e; exact .inr (Nat.le_refl _)
    · rcases dom4 k' with h | h
      · rcases dom3 k' with h' | h'
        · exact .inl (h.trans h')
        · exact .inr (by omega)
      · exact .inr (by omega)
end

/-- WHAT 'visit' DOES, for every key. -/
theorem visitU {sem : Nat → B} {val : Nat → Prop} {mu : Nat → Nat} {sp : Nat → Nat × Nat × Nat} (S : Spl sem val mu sp) (ch : Value) (hval : ∀ k, val k → k < 4294967296)
    (hsp : ∀ k w, val k → Calls Tryz.prog 112 #[ch, uk k] w fun e w' => e = .returned (.tuple #[.int .i64 ((sp k).1 : Int), uk (sp k).2.1, uk (sp k).2.2]) ∧ Below w.heap.size w w') (wb mb fb b1 b2 b3 b4 : Nat) :
    ∀ (n : Nat) (k : Nat) (w : World) (v : Value) (mf : Nat → Option Value) (R : List B), mu k < n → val k → GU (sem := sem) (.func (.func 112) #[ch] #[]) w wb mb fb b1 b2 b3 b4 v mf R → small (vis (sem k) R) →
      Calls Tryz.prog 137 #[uk k, .pointer (some ⟨b1, 0, none⟩), .pointer (some ⟨b2, 0, none⟩), .pointer (some ⟨b3, 0, none⟩), .pointer (some ⟨b4, 0, none⟩)] w
        (VU sem mu 137 (.func (.func 112) #[ch] #[]) wb mb fb b1 b2 b3 b4 v mf R k w)
  | 0, _, _, _, _, _, h, _, _, _ => absurd h (Nat.not_lt_zero _)
  | n + 1, k, w, v, mf, R, hn, hv, hG, hs => by
    have hb := hval k hv
    have hl := S.leaf k hv
    have ht := S.step k hv
    have hsk := fun w => hsp k w hv
    rcases hspk : sp k with ⟨f, l, h⟩
    rw [hspk] at hl ht
    simp only [hspk] at hsk
    by_cases hf : f < 24
    · obtain ⟨h1, h2, h3, h4, h5⟩ := ht hf
      cases hp : mf k with
      | some p => exact visitU_found sem mu w wb mb fb b1 b2 b3 b4 v mf R ch k l h f p hG hf hp hb hsk
      | none =>
        exact visitU_step sem mu w wb mb fb b1 b2 b3 b4 v mf R ch k l h f hG hf hp hb h1 h4 h5 hs hsk
          (fun w v mf R hG hs => visitU S ch hval hsp wb mb fb b1 b2 b3 b4 n _ w v mf R (Nat.lt_of_lt_of_le h4 (Nat.le_of_lt_succ hn)) h2 hG hs)
          (fun w v mf R hG hs => visitU S ch hval hsp wb mb fb b1 b2 b3 b4 n _ w v mf R (Nat.lt_of_lt_of_le h5 (Nat.le_of_lt_succ hn)) h3 hG hs)
    · have e : f = 24 ∨ f = 25 := by rcases hl (by simp; omega) with ⟨_, h⟩ | ⟨_, h⟩ <;> simp at h <;> omega
      rcases e with rfl | rfl
      · exact visitU_leaf sem mu w wb mb fb b1 b2 b3 b4 v mf R ch k l h 0 hG (.inl ⟨rfl, by rcases hl (by simp) with ⟨h, _⟩ | ⟨_, h⟩; exact h; simp at h⟩) hsk
      · exact visitU_leaf sem mu w wb mb fb b1 b2 b3 b4 v mf R ch k l h 1 hG (.inr ⟨rfl, by rcases hl (by simp) with ⟨_, h⟩ | ⟨h, _⟩; simp at h; exact h⟩) hsk
end Go.Proofs.YtalnhlebgofiiaaGreatDoor
namespace Go.Proofs.YtalnhlebgofiiaaGreatDoor
open Go.RowKit
open Bd

set_option maxRecDepth 100000 in
set_option maxHeartbeats 1000000 in
/-- 'grow' MAKES THE SET OF ITS KEY. -/
theorem growU_any {sem : Nat → B} {val : Nat → Prop} {mu : Nat → Nat} {sp : Nat → Nat × Nat × Nat} (S : Spl sem val mu sp) (ch : Value) (hval : ∀ k, val k → k < 4294967296)
    (hsp : ∀ k w, val k → Calls Tryz.prog 112 #[ch, uk k] w fun e w' => e = .returned (.tuple #[.int .i64 ((sp k).1 : Int), uk (sp k).2.1, uk (sp k).2.2]) ∧ Below w.heap.size w w')
    (k : Nat) (w : World) (hv : val k) (hok : (sem k).ok 0) :
    Calls Tryz.prog 111 #[uk k, .func (.func 112) #[ch] #[]] w fun e w' => e = .returned (dval (sem k)) ∧ Below w.heap.size w w' := by
  have hmm := @run_makeMap Tryz.prog
  have hmf : ∀ (fn : Fn) (first cap : Array Value) (w : World), (Instr.makeFunc fn first cap).run Tryz.prog w = .ok (.func fn first cap) w := fun _ _ _ _ => rfl
  go_enter Tryz.func111, Tryz.ntmps111
  go_wp2_with fail
  refine (newWork_any _).mono ?_
  rintro e w1 ⟨wb, mb, rfl, hW1, fr1, lwb, lmb⟩
  go_wp2_with fail
  have d0 : w1.cell? ⟨w.heap.size + 1, 0, none⟩ = some (.int .u32 0) := fr1.cell (World.cell?_alloc_at _ _ _ _ (by simp)) (fun h => h)
  have d1 : w1.cell? ⟨w.heap.size + 1, 1, none⟩ = some (.string ⟨#[]⟩) := fr1.cell (World.cell?_alloc_at _ _ _ _ (by simp)) (fun h => h)
  have z1 : w.heap.size + 2 ≤ w1.heap.size := by have := fr1.size; simp at this; omega
  have df : w1.frozen? ⟨w.heap.size + 1, 0, none⟩ = false := (fr1.frozen (p := ⟨w.heap.size + 1, 0, none⟩) (by simp) (fun h => h)).trans (World.frozen?_alloc_at _ _ _ _ (by simp))
  have dg : w1.frozen? ⟨w.heap.size + 1, 1, none⟩ = false := (fr1.frozen (p := ⟨w.heap.size + 1, 1, none⟩) (by simp) (fun h => h)).trans (World.frozen?_alloc_at _ _ _ _ (by simp))
  have G := gr_start (kt := 23) (enc := uk) (sem := sem) (vf := 137) (T1 := 100) (T2 := 183) (T3 := 184) hW1 fr1 lwb lmb (b1 := w.heap.size) (fv := .func (.func 112) #[ch] #[]) (cell_alloc_l (World.cell?_alloc_at _ _ _ _ rfl) _)
  have fr2 := fr_gw2 w1 wb w.heap.size 137 100 183 184
  change Code.wp _ _ _ _ (gw2 w1 wb w.heap.size 137 100 183 184)
  generalize gw2 w1 wb w.heap.size 137 100 183 184 = W2 at *
  have frw : Fr nob w W2 := (((Fr.refl nob w).alloc _).alloc _).trans (fr1.trans fr2 (fun _ _ h => h)) (fun _ _ h => h)
  replace d0 := fr2.cell d0 (fun h => h)
  replace d1 := fr2.cell d1 (fun h => h)
  replace df := (fr2.frozen (p := ⟨w.heap.size + 1, 0, none⟩) (by simp; omega) (fun h => h)).trans df
  replace dg := (fr2.frozen (p := ⟨w.heap.size + 1, 1, none⟩) (by simp; omega) (fun h => h)).trans dg
  have c3 := G.caps.c3
  have c4 := G.caps.c4
  have hs := small_li hok
  simp only [World.size_alloc] at lwb lmb
  have nd : ∀ k, k < w.heap.size + 2 → ¬ foot4 wb mb (w1.heap.size + 1) (.slice none 0 0) k := by
    rintro k hk (h | h)
    · rcases h with h | h | h
      · omega
      · omega
      · cases h
    · omega
  have hvis := fun W' (h : Fr nob W2 W') => visitU S ch hval hsp wb mb (w1.heap.size + 1) w.heap.size (w1.heap.size + 1 + 1) (w1.heap.size + 1 + 1 + 1) w1.heap.size _ k W' (.slice none 0 0) (fun _ => none) [] (Nat.lt_succ_self _) hv (G.keptNew h) hs
  clear hmm hmf hsp hval S hW1 fr1 fr2
  go_region_held3 (fun w' => w'.cell? ⟨w1.heap.size + 1 + 1 + 1, 0, none⟩ = some (.func (.func 137) #[] #[.pointer (some ⟨w.heap.size, 0, none⟩), .pointer (some ⟨w1.heap.size + 1 + 1, 0, none⟩), .pointer (some ⟨w1.heap.size + 1 + 1 + 1, 0, none⟩), .pointer (some ⟨w1.heap.size, 0, none⟩)]) ∧
      w'.cell? ⟨w1.heap.size, 0, none⟩ = some (.pointer (some ⟨wb, 0, none⟩)))
    (first | go_keep | (go_split_ands; exact ⟨c33, c43⟩) | (go_split_ands; exact ⟨c34, c44⟩) | (go_split_ands; refine ⟨?_, ?_⟩ <;> (rw [World.cell?_setCell_other _ _ _ _ (by simp <;> omega), World.cell?_setCell_other _ _ _ _ (by simp <;> omega)]; assumption)))
    (first
      | (go_at_call 137
         refine (hvis _ ?_).mono ?_
         · exact (Fr.refl _ _).drew
         rintro e w3 ⟨v3, mf3, rfl, hG3, fr3, src3, _⟩
         have c33 := hG3.caps.c3
         have c43 := hG3.caps.c4)
      | (go_at_call 61
         refine (set_any wb mb v3 _ _ _ hG3.work).mono ?_
         rintro e w4 ⟨rfl, hb4⟩
         have fr4 := (Fr.refl nob w3).below hb4
         have c34 := fr4.cell c33 (fun h => h)
         have c44 := fr4.cell c43 (fun h => h)
         have e04 := fr4.cell (fr3.cell d0 (nd _ (by simp))) (fun h => h)
         have e14 := fr4.cell (fr3.cell d1 (nd _ (by simp))) (fun h => h)
         have ef4 := (fr4.frozen (p := ⟨w.heap.size + 1, 0, none⟩) (by have := lt_of_cell (fr3.cell d0 (nd _ (by simp))); exact this) (fun h => h)).trans ((fr3.frozen (p := ⟨w.heap.size + 1, 0, none⟩) (lt_of_cell d0) (nd _ (by simp))).trans df)
         have ef5 := (fr4.frozen (p := ⟨w.heap.size + 1, 1, none⟩) (by have := lt_of_cell (fr3.cell d1 (nd _ (by simp))); exact this) (fun h => h)).trans ((fr3.frozen (p := ⟨w.heap.size + 1, 1, none⟩) (lt_of_cell d1) (nd _ (by simp))).trans dg)))
  go_wp2
  refine bodyPost_ret (v := dval (sem k)) (by simp [results, Tryz.results111, go_sem, e04, e14, li]) rfl ⟨rfl, ?_⟩
  have nb : ∀ k, k < w.heap.size → ¬ foot4 wb mb (w1.heap.size + 1) (.slice none 0 0) k := fun k hk => nd k (by omega)
  exact ((((frw.drew.trans' fr3 (T := fun k => w.heap.size ≤ k) (fun _ _ h => h.elim) (fun k hk h => absurd h (nb k hk))).below hb4).setCell (p := ⟨w.heap.size + 1, 0, none⟩) (by simp <;> omega) _).setCell (p := ⟨w.heap.size + 1, 1, none⟩) (by simp <;> omega) _).to_below (Nat.le_refl _) (fun _ h => h)
end Go.Proofs.YtalnhlebgofiiaaGreatDoor
