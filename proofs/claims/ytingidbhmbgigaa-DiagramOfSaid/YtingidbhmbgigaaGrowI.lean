import Derived.Test.YtingidbhmbgigaaSet
import Derived.Deep.RegionWith
import Derived.Deep.RegionHeld3
import Derived.Laws.EntriesVeiled
namespace Go.Proofs.Ytingidbhmbgigaa
open Go.RowKit
open Bd

/-- a key of one place -/
abbrev kk (k : Nat) : Value := .int .i64 (k : Int)
theorem ik_inj (a b : Nat) (h : kk a = kk b) : a = b := by
  simp only [Value.int.injEq, true_and] at h
  omega
theorem wf_i64n {n : Nat} (h : n < 4294967296) : (Lit.int .i64 (n : Int)).wf = true := by
  have h1 : IntKind.i64.min = -9223372036854775808 := rfl
  have h2 : IntKind.i64.max = 9223372036854775807 := rfl
  simp only [Lit.wf, Bool.and_eq_true, decide_eq_true_eq]; omega
theorem ikKeyed : Maps.Keyed Try.prog 3 := Maps.int_keyed Try.underlying3
theorem ikKey {k : Nat} (h : k < 4294967296) : ∃ l, keyOf Try.prog 3 (kk k) = some l := ⟨_, Maps.keyOf_int_mk Try.underlying3 (wf_i64n h)⟩

abbrev VI := VisPost 3 kk
abbrev GI {sem : Nat → B} := @Gr Nat 3 kk sem 38

section
variable (sem : Nat → B) (mu : Nat → Nat) (w : World) (wb mb fb b1 b2 b3 b4 : Nat) (v : Value) (mf : Nat → Option Value) (R : List B) (ch : Value)

set_option maxRecDepth 100000 in
set_option maxHeartbeats 400000 in
/-- a leaf -/
theorem visitI_leaf (a l h f : Nat) (hG : GI (sem := sem) (.func (.func 20) #[ch] #[]) w wb mb fb b1 b2 b3 b4 v mf R) (hf : f = 0 ∧ sem a = .F ∨ f = 1 ∧ sem a = .T)
    (hsp : ∀ W, Fr nob w W → Calls Try.prog 20 #[ch, kk a] W fun e w' => e = .returned (.tuple #[.int .i64 ((24 + f : Nat) : Int), kk l, kk h]) ∧ Below W.heap.size W w') :
    Calls Try.prog 38 #[kk a, .pointer (some ⟨b1, 0, none⟩), .pointer (some ⟨b2, 0, none⟩), .pointer (some ⟨b3, 0, none⟩), .pointer (some ⟨b4, 0, none⟩)] w
      (VI sem mu 38 (.func (.func 20) #[ch] #[]) wb mb fb b1 b2 b3 b4 v mf R a w) := by
  have hc1 := hG.caps.c1
  have hf0 : (0 : Int) ≤ (f : Int) := by omega
  have hf1 : (f : Int) ≤ 1 := by omega
  go_enter Try.func38, Try.ntmps38
  go_wp2_with fail
  refine (hsp _ (by first | exact Fr.refl nob w | exact (Fr.refl nob w).drew)).mono ?_
  rintro e w1 ⟨rfl, hb⟩
  have fr1 : Fr nob w w1 := (Fr.refl nob w).below hb
  go_wp2_with fail
  go_ret
  refine ⟨v, mf, ?_, ?_, fr1.mono (fun _ _ h => h.elim), fun g h => .inl h, fun _ => .inl rfl⟩
  · rcases hf with ⟨rfl, h⟩ | ⟨rfl, h⟩ <;> rw [h] <;> rfl
  · have : vis (sem a) R = R := by rcases hf with ⟨_, h⟩ | ⟨_, h⟩ <;> rw [h] <;> rfl
    rw [this]
    exact hG.keptNew fr1

set_option maxRecDepth 100000 in
set_option maxHeartbeats 400000 in
/-- a key that is finished -/
theorem visitI_found (a l h f : Nat) (p : Value) (hG : GI (sem := sem) (.func (.func 20) #[ch] #[]) w wb mb fb b1 b2 b3 b4 v mf R) (hf : f < 24) (hp : mf a = some p) (hk : a < 4294967296)
    (hsp : ∀ W, Fr nob w W → Calls Try.prog 20 #[ch, kk a] W fun e w' => e = .returned (.tuple #[.int .i64 (f : Int), kk l, kk h]) ∧ Below W.heap.size W w') :
    Calls Try.prog 38 #[kk a, .pointer (some ⟨b1, 0, none⟩), .pointer (some ⟨b2, 0, none⟩), .pointer (some ⟨b3, 0, none⟩), .pointer (some ⟨b4, 0, none⟩)] w
      (VI sem mu 38 (.func (.func 20) #[ch] #[]) wb mb fb b1 b2 b3 b4 v mf R a w) := by
  have hc1 := hG.caps.c1
  have hc2 := hG.caps.c2
  have hf1 : (f : Int) < 24 := by omega
  have hf0 : (0 : Int) ≤ (f : Int) := by omega
  have e5 := hG.fin.places _ _ hp
  go_enter Try.func38, Try.ntmps38
  go_wp2_with fail
  refine (hsp _ (by first | exact Fr.refl nob w | exact (Fr.refl nob w).drew)).mono ?_
  rintro e w1 ⟨rfl, hb⟩
  have fr1 : Fr nob w w1 := (Fr.refl nob w).below hb
  have hc22 := fr1.cell hc2 (fun h => h)
  obtain ⟨lk, hkey⟩ := ikKey hk
  obtain ⟨nm, hm⟩ := hG.fin.map
  have hlook := (fr1.map hm (fun h => h)).lookup_yes ikKeyed ik_inj Try.underlying73 hkey hp
  dsimp only [kk] at hlook
  go_wp2_with fail
  go_ret
  refine ⟨v, mf, ?_, ?_, fr1.mono (fun _ _ h => h.elim), fun g h => .inl h, fun _ => .inl rfl⟩
  · rw [vis_inn e5.1, ← e5.2]; rfl
  · rw [vis_inn e5.1]
    exact hG.keptNew fr1

set_option maxRecDepth 100000 in
set_option maxHeartbeats 1000000 in
/-- a key that is new -/
theorem visitI_step (w0 : World) (hB0 : Below w0.heap.size w0 w) (hF0 : ∀ k, foot4 wb mb fb v k → w0.heap.size ≤ k) (a l h f : Nat) (hG : GI (sem := sem) (.func (.func 20) #[ch] #[]) w wb mb fb b1 b2 b3 b4 v mf R) (hf : f < 24) (hp : mf a = none) (hk : a < 4294967296)
    (hsem : sem a = mk f (sem l) (sem h)) (hml : mu l < mu a) (hmh : mu h < mu a) (hs : small (vis (sem a) R))
    (hsp : ∀ W, Fr nob w W → Calls Try.prog 20 #[ch, kk a] W fun e w' => e = .returned (.tuple #[.int .i64 (f : Int), kk l, kk h]) ∧ Below W.heap.size W w')
    (ihl : ∀ w v mf R, GI (sem := sem) (.func (.func 20) #[ch] #[]) w wb mb fb b1 b2 b3 b4 v mf R → small (vis (sem l) R) → Below w0.heap.size w0 w → (∀ k, foot4 wb mb fb v k → w0.heap.size ≤ k) →
      Calls Try.prog 38 #[kk l, .pointer (some ⟨b1, 0, none⟩), .pointer (some ⟨b2, 0, none⟩), .pointer (some ⟨b3, 0, none⟩), .pointer (some ⟨b4, 0, none⟩)] w
        (VI sem mu 38 (.func (.func 20) #[ch] #[]) wb mb fb b1 b2 b3 b4 v mf R l w))
    (ihh : ∀ w v mf R, GI (sem := sem) (.func (.func 20) #[ch] #[]) w wb mb fb b1 b2 b3 b4 v mf R → small (vis (sem h) R) → Below w0.heap.size w0 w → (∀ k, foot4 wb mb fb v k → w0.heap.size ≤ k) →
      Calls Try.prog 38 #[kk h, .pointer (some ⟨b1, 0, none⟩), .pointer (some ⟨b2, 0, none⟩), .pointer (some ⟨b3, 0, none⟩), .pointer (some ⟨b4, 0, none⟩)] w
        (VI sem mu 38 (.func (.func 20) #[ch] #[]) wb mb fb b1 b2 b3 b4 v mf R h w)) :
    Calls Try.prog 38 #[kk a, .pointer (some ⟨b1, 0, none⟩), .pointer (some ⟨b2, 0, none⟩), .pointer (some ⟨b3, 0, none⟩), .pointer (some ⟨b4, 0, none⟩)] w
      (VI sem mu 38 (.func (.func 20) #[ch] #[]) wb mb fb b1 b2 b3 b4 v mf R a w) := by
  have hg := hG.work.good
  have hsl : small (vis (sem l) R) := small_suffix ((vis_suffix _ _).trans (suffix_mk hg)) (hsem ▸ hs)
  have hsh : small (vis (sem h) (vis (sem l) R)) := small_suffix (suffix_mk hg) (hsem ▸ hs)
  have hsn : small (vis (mk f (sem l) (sem h)) (vis (sem h) (vis (sem l) R))) := by rw [vis_vis_mk hg, ← hsem]; exact hs
  have Hsem := Lib.hid hsem
  have Hp := Lib.hid hp
  obtain ⟨lk, hkey⟩ := ikKey hk
  have zero : ∀ w, (zeroValue 24).run Try.prog w = .ok (.int .u32 0) w := fun _ => by kernel_rfl
  have hc1 := hG.caps.c1
  have hc2 := hG.caps.c2
  have hc3 := hG.caps.c3
  have hf1 : (f : Int) < 24 := by omega
  have hf0 : (0 : Int) ≤ (f : Int) := by omega
  clear hsem hp hs hg
  go_enter Try.func38, Try.ntmps38
  go_wp2_with fail
  refine (hsp _ (by first | exact Fr.refl nob w | exact (Fr.refl nob w).drew)).mono ?_
  rintro e w1 ⟨rfl, hb⟩
  have fr1 : Fr nob w w1 := (Fr.refl nob w).below hb
  have hc22 := fr1.cell hc2 (fun h => h)
  have hc32 := fr1.cell hc3 (fun h => h)
  obtain ⟨nm, hm⟩ := hG.fin.map
  have hlook := (fr1.map hm (fun h => h)).lookup_no ikKeyed ik_inj Try.underlying73 (zero _) hkey Hp.out
  dsimp only [kk] at hlook
  have hG2 := hG.keptNew fr1
  clear hb
  go_wp2_with fail
  have hB1 : Below w0.heap.size w0 w1 := hB0.trans (fr1.to_below hB0.size (fun _ h => h.elim))
  refine (ihl _ _ _ _ hG2 hsl hB1 hF0).mono ?_
  rintro e w3 ⟨v3, mf3, rfl, hG3, fr3, src3, dom3⟩
  have z3 := fr3.size
  have fr23 := fr1.trans' fr3 (T := foot4 wb mb fb v) (fun _ _ h => h.elim) (fun _ _ h => h)
  have c33 := hG3.caps.c3
  have z1 := fr1.size
  clear hlook hG2 fr1 fr3 hc22 hc32
  go_wp2_with fail
  have hB3 : Below w0.heap.size w0 w3 := hB0.trans (fr23.to_below hB0.size hF0)
  have hF3 : ∀ k, foot4 wb mb fb v3 k → w0.heap.size ≤ k := by
    rintro k ((h | h | h) | h)
    · exact hF0 k (.inl (.inl h))
    · exact hF0 k (.inl (.inr (.inl h)))
    · rcases src3 k h with h' | h'
      · exact hF0 k (.inl (.inr (.inr h')))
      · have := hB1.size; omega
    · exact hF0 k (.inr h)
  refine (ihh _ _ _ _ hG3 hsh hB3 hF3).mono ?_
  rintro e w4 ⟨v4, mf4, rfl, hG4, fr4, src4, dom4⟩
  have fr24 := fr23.trans fr4 (fun k hk h => Classical.byContradiction fun h' => foot4_src src3 (by omega) h' h)
  have c44 := hG4.caps.c4
  have c24 := hG4.caps.c2
  clear c33
  go_wp2_with fail
  have hil : inn (vis (sem h) (vis (sem l) R)) (sem l) := (inn_vis _ _).mono (mem_vis _ _)
  refine (node_any' wb mb f v4 _ (sem l) (sem h) w4 hG4.work hf hil (inn_vis _ _) hsn _ _ (place_suffix hG4.work.good (vis_suffix _ _) (inn_vis _ _)).symm rfl).mono ?_
  rintro e w5 ⟨v5, rfl, hW5, fr5, src5⟩
  have lfb : fb < w4.heap.size := by obtain ⟨n, hm⟩ := hG4.fin.map; exact hm.lt
  have c25 := fr5.cell c24 (fun h => hG4.off.1.2.1 (.inl h))
  obtain ⟨n4, hm4⟩ := hG4.fin.map
  have hm5 := fr5.map hm4 hG4.off.2
  have hn : mf4 a = none := by
    rcases dom4 a with h | h
    · rw [h]
      rcases dom3 a with h | h
      · rw [h]; exact Hp.out
      · omega
    · omega
  have Hn := Lib.hid hn
  clear c24 hn hm hm4
  go_wp2_with (at_mapUpdate; refine wpList_mapUpdate_new rfl _ _ _ rfl ikKeyed ik_inj Try.underlying73 rfl hm5 a _ rfl rfl hkey Hn.out ?_)
  intro w6 map6 gr6
  go_wp2_with fail
  go_ret
  have R45 := vis_vis_mk (i := f) (lo := sem l) (hi := sem h) hG.work.good
  have F := grFinish hG4 hW5 fr5 src5 map6 gr6 Hsem.out
  refine ⟨v5, putAt mf4 a (.int .u32 (place (vis (mk f (sem l) (sem h)) (vis (sem h) (vis (sem l) R))) (mk f (sem l) (sem h)) : Int)), ?_, ?_, ?_, ?_, ?_⟩
  · rw [Hsem.out, ← R45]; rfl
  · rw [Hsem.out, ← R45]; exact F
  · refine (fr24.trans fr5 (fun k hk h => Classical.byContradiction fun h' => ?_)).grown gr6 (fun k h _ => by cases h; exact .inr rfl)
    refine foot4_src (n := w.heap.size) (fun g hg => ?_) hk h' (.inl h)
    rcases src4 g hg with h1 | h1
    · exact (src3 g h1).imp id (by omega)
    · exact .inr (by omega)
  · intro g hg
    rcases src5 g hg with h1 | h1
    · rcases src4 g h1 with h1 | h1
      · exact (src3 g h1).imp id (by omega)
      · exact .inr (by omega)
    · have := fr4.size
      exact .inr (by omega)
  · intro k'
    unfold putAt
    split
    · rename_i e; subst e; exact .inr (Nat.le_refl _)
    · rcases dom4 k' with h | h
      · rcases dom3 k' with h' | h'
        · exact .inl (h.trans h')
        · exact .inr (by omega)
      · exact .inr (by omega)
end

/-- WHAT 'visit' DOES, for every key. -/
theorem visitI {sem : Nat → B} {val : Nat → Prop} {mu : Nat → Nat} {sp : Nat → Nat × Nat × Nat} (S : Spl sem val mu sp) (ch : Value) (hval : ∀ k, val k → k < 4294967296)
    (w0 : World) (hsp : ∀ k w, val k → Below w0.heap.size w0 w → Calls Try.prog 20 #[ch, kk k] w fun e w' => e = .returned (.tuple #[.int .i64 ((sp k).1 : Int), kk (sp k).2.1, kk (sp k).2.2]) ∧ Below w.heap.size w w') (wb mb fb b1 b2 b3 b4 : Nat) :
    ∀ (n : Nat) (k : Nat) (w : World) (v : Value) (mf : Nat → Option Value) (R : List B), mu k < n → val k → GI (sem := sem) (.func (.func 20) #[ch] #[]) w wb mb fb b1 b2 b3 b4 v mf R → small (vis (sem k) R) → Below w0.heap.size w0 w → (∀ k, foot4 wb mb fb v k → w0.heap.size ≤ k) →
      Calls Try.prog 38 #[kk k, .pointer (some ⟨b1, 0, none⟩), .pointer (some ⟨b2, 0, none⟩), .pointer (some ⟨b3, 0, none⟩), .pointer (some ⟨b4, 0, none⟩)] w
        (VI sem mu 38 (.func (.func 20) #[ch] #[]) wb mb fb b1 b2 b3 b4 v mf R k w)
  | 0, _, _, _, _, _, h, _, _, _, _, _ => absurd h (Nat.not_lt_zero _)
  | n + 1, k, w, v, mf, R, hn, hv, hG, hs, hB0, hF0 => by
    have hb := hval k hv
    have hl := S.leaf k hv
    have ht := S.step k hv
    have hsk := fun W (h : Fr nob w W) => hsp k W hv (hB0.trans (h.to_below hB0.size (fun _ h => h.elim)))
    rcases hspk : sp k with ⟨f, l, h⟩
    rw [hspk] at hl ht
    simp only [hspk] at hsk
    by_cases hf : f < 24
    · obtain ⟨h1, h2, h3, h4, h5⟩ := ht hf
      cases hp : mf k with
      | some p => exact visitI_found sem mu w wb mb fb b1 b2 b3 b4 v mf R ch k l h f p hG hf hp hb hsk
      | none =>
        exact visitI_step sem mu w wb mb fb b1 b2 b3 b4 v mf R ch w0 hB0 hF0 k l h f hG hf hp hb h1 h4 h5 hs hsk
          (fun w v mf R hG hs hB hF => visitI S ch hval w0 hsp wb mb fb b1 b2 b3 b4 n _ w v mf R (Nat.lt_of_lt_of_le h4 (Nat.le_of_lt_succ hn)) h2 hG hs hB hF)
          (fun w v mf R hG hs hB hF => visitI S ch hval w0 hsp wb mb fb b1 b2 b3 b4 n _ w v mf R (Nat.lt_of_lt_of_le h5 (Nat.le_of_lt_succ hn)) h3 hG hs hB hF)
    · have e : f = 24 ∨ f = 25 := by rcases hl (by simp; omega) with ⟨_, h⟩ | ⟨_, h⟩ <;> simp at h <;> omega
      rcases e with rfl | rfl
      · exact visitI_leaf sem mu w wb mb fb b1 b2 b3 b4 v mf R ch k l h 0 hG (.inl ⟨rfl, by rcases hl (by simp) with ⟨h, _⟩ | ⟨_, h⟩; exact h; simp at h⟩) hsk
      · exact visitI_leaf sem mu w wb mb fb b1 b2 b3 b4 v mf R ch k l h 1 hG (.inr ⟨rfl, by rcases hl (by simp) with ⟨_, h⟩ | ⟨h, _⟩; simp at h; exact h⟩) hsk
end Go.Proofs.Ytingidbhmbgigaa
