import Derived.Test.YtalnhlebgofiiaaGreatDoorTab
import Derived.Test.YtalnhlebgofiiaaGreatDoorStep
namespace Go.Proofs.YtalnhlebgofiiaaGreatDoor
open Go.RowKit
open Bd

/-- a slice that reads as a list -/
def SRow (w : World) (v : Value) (l : List Value) : Prop := ∃ (a : Option Addr) (cap : Nat), v = .slice a l.length cap ∧ ∀ j u, l[j]? = some u → ∃ g, a = some ⟨g, 0, none⟩ ∧ w.cell? ⟨g, j, none⟩ = some u
theorem SRow.kept {w w' : World} {v : Value} {l : List Value} (h : SRow w v l) (fr : Fr nob w w') : SRow w' v l := by
  obtain ⟨a, cap, rfl, hc⟩ := h
  exact ⟨a, cap, rfl, fun j u hj => let ⟨g, h1, h2⟩ := hc j u hj; ⟨g, h1, fr.cell h2 (fun h => h)⟩⟩
theorem SRow.of_own {w : World} {base : Nat} {e : TypeId} {v : Value} {n : Nat} {l : List Value} (h : w.ownsRow base e 1 v n l) : SRow w v l := by
  have hl : l.length = n := by have := h.1; omega
  rcases h.2 with ⟨rfl, h0⟩ | ⟨g, cap, cur, rfl, _⟩
  · have e0 : l = [] := List.length_eq_zero_iff.1 (by omega)
    subst e0
    exact ⟨none, 0, rfl, fun j u hj => by simp at hj⟩
  · refine ⟨some ⟨g, 0, none⟩, cap, by rw [hl], fun j u hj => ⟨g, rfl, ?_⟩⟩
    have hlt := (List.getElem?_eq_some_iff.1 hj).1
    rw [h.cellAt j (by omega)]; exact hj
theorem SRow.nil (w : World) : SRow w (.slice none 0 0) [] := ⟨none, 0, rfl, fun j u hj => by simp at hj⟩

abbrev ik (n : Nat) : Value := .int .i64 (n : Int)
theorem SRow.at {w : World} {a : Option Addr} {n cap : Nat} {l : List Value} (h : SRow w (.slice a n cap) l) {j : Nat} {u : Value} (hj : l[j]? = some u) : ∃ g, a = some ⟨g, 0, none⟩ ∧ w.cell? ⟨g, j, none⟩ = some u := by
  obtain ⟨a', cap', e, hc⟩ := h
  cases e
  exact hc j u hj
theorem SRow.form {w : World} {v : Value} {l : List Value} (h : SRow w v l) : ∃ a cap, v = .slice a l.length cap := by
  obtain ⟨a, cap, e, _⟩ := h; exact ⟨a, cap, e⟩

theorem bit_mod (c i : Nat) : (((c / 2 ^ i : Nat) : Int) % 2 == 1) = c.testBit i := by
  rw [show (2 : Int) = ((2 : Nat) : Int) from rfl, ← Int.natCast_emod, Nat.testBit_eq_decide_div_mod_eq]
  rw [show (1 : Int) = ((1 : Nat) : Int) from rfl]
  exact beq_dec _ _

set_option maxRecDepth 100000 in
set_option maxHeartbeats 400000 in
theorem selected_any (c i : Nat) (_hc : c < 2 ^ 32) (hi : i < 24) (w : World) : Calls Tryz.prog 93 #[.int .u32 (c : Int), ik i] w fun e w' => e = .returned (.bool (c.testBit i)) ∧ w = w' := by
  have hi' : (i : Int) < 24 := by omega
  have hb := bit_mod c i
  have ht : ((c : Int) / 2 ^ i).tmod 2 = ((c / 2 ^ i : Nat) : Int) % 2 := by
    rw [show (2 : Int) ^ i = ((2 ^ i : Nat) : Int) by simp, ← Int.natCast_ediv, Int.tmod_eq_emod_of_nonneg (Int.natCast_nonneg _)]
  have HB := Lib.hid hb
  have HT := Lib.hid ht
  clear hb ht
  go_enter Tryz.func93, Tryz.ntmps93
  go_wp2
  go_ret
  refine ⟨?_, rfl⟩
  rw [← HB.out, ← HT.out]
  rfl

theorem rising_len {V : List Nat} (hV : rising V) : V.length ≤ 24 := by
  have := nodup_le (M := List.range 24) (hV.1.imp (fun h e => by omega)) (fun x hx => List.mem_range.2 (hV.2 x hx))
  simpa using this
theorem rising_take {V : List Nat} (hV : rising V) (j : Nat) : rising (V.take j) := ⟨hV.1.sublist (List.take_sublist _ _), fun v hv => hV.2 v (List.mem_of_mem_take hv)⟩

theorem add_pow (c v : Nat) (hc : c < 16777216) (hv : v < 24) : ((c : Int) + 2 ^ v % 4294967296) % 4294967296 = ((c + 2 ^ v : Nat) : Int) := by
  have hp : 2 ^ v < 2 ^ 24 := Nat.pow_lt_pow_right (by omega) hv
  rw [show (2 : Int) ^ v = ((2 ^ v : Nat) : Int) by simp]
  generalize 2 ^ v = p at *
  omega

set_option maxRecDepth 100000 in
set_option maxHeartbeats 1000000 in
theorem Config_any (V : List Nat) (hV : rising V) (k : Nat) (hk : k < 2 ^ 62) (sv : Value) (w : World) (hs : SRow w sv (V.map ik)) : Calls Tryz.prog 53 #[sv, ik k] w fun e w' => e = .returned (.int .u32 (cfgN V k : Int)) ∧ w = w' := by
  obtain ⟨a, cap, rfl⟩ := hs.form
  rw [List.length_map] at *
  have hl := rising_len hV
  go_enter Tryz.func53, Tryz.ntmps53
  go_wp2_with fail
  go_loop [1, 5, 6] (fun kv cv jv => ∃ j q c : Nat, j ≤ V.length ∧ jv = ik j ∧ kv = ik q ∧ cv = .int .u32 (c : Int) ∧ q = k / 2 ^ j ∧ c = cfgN (V.take j) k) (fun _ _ jv => V.length - (intOf jv).toNat)
  case atStart => exact ⟨0, k, 0, Nat.zero_le _, rfl, rfl, rfl, by simp, rfl⟩
  case round =>
    obtain ⟨j, q, c, hj, rfl, rfl, rfl, hq, hc0⟩ := hrel
    have Hq := Lib.hid hq
    have Hc := Lib.hid hc0
    have hqk : q < 4611686018427387904 := by rw [hq]; exact Nat.lt_of_le_of_lt (Nat.div_le_self _ _) hk
    have hc24 : c < 16777216 := by rw [hc0]; exact cfgN_lt (rising_take hV j) k
    clear hq hc0
    by_cases hlt : j < V.length
    · have hc : (V.map ik)[j]? = some (ik V[j]) := by simp [hlt]
      obtain ⟨g, rfl, hcell⟩ := hs.at hc
      have hv24 : V[j] < 24 := hV.2 _ (List.getElem_mem hlt)
      have hp : 2 ^ V[j] < 2 ^ 24 := Nat.pow_lt_pow_right (by omega) hv24
      have HT := Lib.hid (cfgN_take V k j hlt)
      have hD : q / 2 = k / 2 ^ (j + 1) := by rw [Hq.out, Nat.div_div_eq_div_mul, Nat.pow_succ]
      have HD := Lib.hid hD
      have hm : ((q : Int) % 2 == 1) = decide (q % 2 = 1) := by
        rw [show (2 : Int) = ((2 : Nat) : Int) from rfl, ← Int.natCast_emod, show (1 : Int) = ((1 : Nat) : Int) from rfl]; exact beq_dec _ _
      clear hD
      by_cases hb : q % 2 = 1
      · have hm' : ((q : Int) % 2 == 1) = true := by rw [hm]; simp [hb]
        clear hm
        go_wp2_with fail
        refine ⟨⟨j + 1, q / 2, cfgN (V.take (j + 1)) k, by omega, by go_num, by simp, ?_, HD.out, rfl⟩, by simp [intOf]; omega⟩
        rw [HT.out, ← Hq.out, ← Hc.out, if_pos hb, add_pow c _ hc24 hv24]
      · have hm' : ((q : Int) % 2 == 1) = false := by rw [hm]; simp [hb]
        clear hm
        go_wp2_with fail
        refine ⟨⟨j + 1, q / 2, c, by omega, by go_num, by simp, rfl, HD.out, ?_⟩, by simp [intOf]; omega⟩
        rw [HT.out, ← Hq.out, ← Hc.out, if_neg hb]; rfl
    · obtain rfl : j = V.length := by omega
      go_wp2_with fail
      go_ret
      exact ⟨by rw [Hc.out, List.take_length]; rfl, rfl⟩

set_option maxRecDepth 100000 in
set_option maxHeartbeats 1000000 in
theorem Number_any (V : List Nat) (hV : ∀ v ∈ V, v < 24) (hl : V.length < 4611686018427387904) (sv : Value) (w : World) (hs : SRow w sv (V.map ik)) : Calls Tryz.prog 90 #[sv] w fun e w' => e = .returned (.int .u32 (numN V : Int)) ∧ w = w' := by
  obtain ⟨a, cap, rfl⟩ := hs.form
  rw [List.length_map] at *
  go_enter Tryz.func90, Tryz.ntmps90
  go_wp2_with fail
  go_loop [3, 4] (fun cv jv => ∃ j c : Nat, j ≤ V.length ∧ jv = ik j ∧ cv = .int .u32 (c : Int) ∧ c = numN (V.take j)) (fun _ jv => V.length - (intOf jv).toNat)
  case atStart => exact ⟨0, 0, Nat.zero_le _, rfl, rfl, rfl⟩
  case round =>
    obtain ⟨j, c, hj, rfl, rfl, hc0⟩ := hrel
    have Hc := Lib.hid hc0
    have hc24 : c < 2 ^ 24 := by rw [hc0]; exact numN_lt (fun v hv => hV v (List.mem_of_mem_take hv))
    clear hc0
    by_cases hlt : j < V.length
    · have hc : (V.map ik)[j]? = some (ik V[j]) := by simp [hlt]
      obtain ⟨g, rfl, hcell⟩ := hs.at hc
      have hv24 : V[j] < 24 := hV _ (List.getElem_mem hlt)
      have HT := Lib.hid (numN_take V j hlt)
      have ho := or_u32 c V[j] hc24 hv24
      rw [Nat.one_shiftLeft] at ho
      have HO := Lib.hid ho
      clear ho
      go_wp2_with fail
      refine ⟨⟨j + 1, numN (V.take (j + 1)), by omega, by go_num, ?_, rfl⟩, by simp [intOf]; omega⟩
      rw [HT.out, ← Hc.out, ← HO.out]
    · obtain rfl : j = V.length := by omega
      go_wp2_with fail
      go_ret
      exact ⟨by rw [Hc.out, List.take_length]; rfl, rfl⟩

/-- a set of the reference, as a value of the program -/
def RSet (w : World) (v : Value) (V : List Nat) (f : Cfg → Bool) : Prop := rising V ∧ onV V f ∧ ∃ sv st, v = .agg #[sv, st] ∧ SRow w sv (V.map ik) ∧ SRow w st ((tab V f).map .bool)
theorem RSet.kept {w w' : World} {v : Value} {V : List Nat} {f : Cfg → Bool} (h : RSet w v V f) (fr : Fr nob w w') : RSet w' v V f := by
  obtain ⟨h1, h2, sv, st, h3, h4, h5⟩ := h
  exact ⟨h1, h2, sv, st, h3, h4.kept fr, h5.kept fr⟩

theorem two_cells' (w : World) (a b : Value) (T : TypeId) : (w.alloc (.cells #[a, b] T)).cell? ⟨w.heap.size, 0, none⟩ = some a ∧ (w.alloc (.cells #[a, b] T)).cell? ⟨w.heap.size, 1, none⟩ = some b := ⟨World.cell?_alloc_at _ _ _ _ (by simp), World.cell?_alloc_at _ _ _ _ (by simp)⟩

set_option maxRecDepth 100000 in
set_option maxHeartbeats 1000000 in
theorem RHas_any (V : List Nat) (f : Cfg → Bool) (c : Nat) (hc : c < 2 ^ 32) (v : Value) (w : World) (hs : RSet w v V f) : Calls Tryz.prog 116 #[v, .int .u32 (c : Int)] w fun e w' => e = .returned (.bool (f (bitsOf c))) ∧ Below w.heap.size w w' := by
  obtain ⟨hV, hf, sv, st, rfl, h1, h2⟩ := hs
  obtain ⟨a, cap, rfl⟩ := h1.form
  obtain ⟨a2, cap2, rfl⟩ := h2.form
  simp only [List.length_map, tab_length] at *
  have hl := rising_len hV
  have hpow : 2 ^ V.length ≤ 2 ^ 24 := Nat.pow_le_pow_right (by omega) hl
  have hpow' : 2 ^ V.length ≤ 16777216 := hpow
  obtain ⟨b0, b1⟩ := two_cells' w (.slice a V.length cap) (.slice a2 (2 ^ V.length) cap2) 36
  have fr : Fr nob w (w.alloc (.cells #[.slice a V.length cap, .slice a2 (2 ^ V.length) cap2] 36)) := (Fr.refl nob w).alloc _
  go_enter Tryz.func116, Tryz.ntmps116
  go_wp2_with fail
  generalize w.alloc (.cells #[.slice a V.length cap, .slice a2 (2 ^ V.length) cap2] 36) = W at *
  have h1' := h1.kept fr
  have h2' := h2.kept fr
  go_loop [5, 6, 7] (fun kv pv jv => ∃ j k p : Nat, j ≤ V.length ∧ jv = ik j ∧ kv = ik k ∧ pv = ik p ∧ k = idxN (V.take j) c ∧ p = 2 ^ j) (fun _ _ jv => V.length - (intOf jv).toNat)
  case atStart => exact ⟨0, 0, 1, Nat.zero_le _, rfl, rfl, rfl, rfl, rfl⟩
  case round =>
    obtain ⟨j, k, p, hj, rfl, rfl, rfl, hk0, hp0⟩ := hrel
    have Hk := Lib.hid hk0
    have Hp := Lib.hid hp0
    have hk1 : k < 2 ^ V.length := by
      rw [hk0]
      exact Nat.lt_of_lt_of_le (idxN_lt _ _) (Nat.pow_le_pow_right (by omega) (by rw [List.length_take]; omega))
    have hp1 : p ≤ 2 ^ V.length := by rw [hp0]; exact Nat.pow_le_pow_right (by omega) hj
    have hk2 : k < 16777216 := by omega
    have hp2 : p ≤ 16777216 := by omega
    clear hk0 hp0
    by_cases hlt : j < V.length
    · have hcc : (V.map ik)[j]? = some (ik V[j]) := by simp [hlt]
      obtain ⟨g, rfl, hcell⟩ := h1'.at hcc
      have hv24 : V[j] < 24 := hV.2 _ (List.getElem_mem hlt)
      have HT := Lib.hid (idxN_take V c j hlt)
      clear hk1 hp1 hpow hpow'
      cases hb : c.testBit V[j] with
      | true =>
        go_wp2_with fail
        refine (selected_any c V[j] hc hv24 _).mono ?_
        rintro e w1 ⟨rfl, rfl⟩
        have HB := Lib.hid hb
        rw [hb]
        clear hb
        go_wp2_with fail
        refine ⟨⟨j + 1, k + p, 2 * p, by omega, by go_num, by go_num, by go_num, ?_, ?_⟩, by simp [intOf]; omega⟩
        · rw [HT.out, HB.out, ← Hk.out, if_pos rfl, ← Hp.out]
        · rw [Nat.pow_succ, ← Hp.out]; omega
      | false =>
        go_wp2_with fail
        refine (selected_any c V[j] hc hv24 _).mono ?_
        rintro e w1 ⟨rfl, rfl⟩
        have HB := Lib.hid hb
        rw [hb]
        clear hb
        go_wp2_with fail
        refine ⟨⟨j + 1, k, 2 * p, by omega, by go_num, by go_num, by go_num, ?_, ?_⟩, by simp [intOf]; omega⟩
        · rw [HT.out, HB.out, ← Hk.out]; rfl
        · rw [Nat.pow_succ, ← Hp.out]; omega
    · obtain rfl : j = V.length := by omega
      have hk3 : k = idxN V c := by rw [Hk.out, List.take_length]
      have hcc : ((tab V f).map Value.bool)[k]? = some (.bool (f (bitsOf c))) := by rw [hk3, List.getElem?_map, tab_idx hV.1 hf]; rfl
      obtain ⟨g, rfl, hcell⟩ := h2'.at hcc
      have hk4 : (k : Int) < ((2 ^ V.length : Nat) : Int) := by omega
      clear hk3
      go_wp2_with fail
      go_ret
      exact ⟨rfl, fr.to_below (Nat.le_refl _) (fun _ h => h.elim)⟩

/-- how many are true -/
def many (l : List Bool) : Nat := l.countP id
theorem many_take (l : List Bool) (j : Nat) (h : j < l.length) : many (l.take (j + 1)) = many (l.take j) + if l[j] then 1 else 0 := by
  rw [List.take_succ_eq_append_getElem h, many, List.countP_append]; simp [many, List.countP_cons]
theorem many_le (l : List Bool) : many l ≤ l.length := List.countP_le_length
theorem many_zero (l : List Bool) : many l = 0 ↔ ∀ x ∈ l, x = false := by simp [many, List.countP_eq_zero]

set_option maxRecDepth 100000 in
set_option maxHeartbeats 1000000 in
theorem Many_any (V : List Nat) (f : Cfg → Bool) (v : Value) (w : World) (hs : RSet w v V f) : Calls Tryz.prog 132 #[v] w fun e w' => e = .returned (ik (many (tab V f))) ∧ Below w.heap.size w w' := by
  obtain ⟨hV, hf, sv, st, rfl, h1, h2⟩ := hs
  obtain ⟨a, cap, rfl⟩ := h1.form
  obtain ⟨a2, cap2, rfl⟩ := h2.form
  have hl := rising_len hV
  have hpow : 2 ^ V.length ≤ 2 ^ 24 := Nat.pow_le_pow_right (by omega) hl
  have htl := tab_length V f
  generalize tab V f = T at *
  simp only [List.length_map] at *
  have hT : T.length ≤ 16777216 := by rw [htl]; exact hpow
  clear htl hpow hf
  obtain ⟨b0, b1⟩ := two_cells' w (.slice a V.length cap) (.slice a2 T.length cap2) 36
  have fr : Fr nob w (w.alloc (.cells #[.slice a V.length cap, .slice a2 T.length cap2] 36)) := (Fr.refl nob w).alloc _
  go_enter Tryz.func132, Tryz.ntmps132
  go_wp2_with fail
  generalize w.alloc (.cells #[.slice a V.length cap, .slice a2 T.length cap2] 36) = W at *
  have h2' := h2.kept fr
  go_loop [3, 4] (fun nv jv => ∃ j n : Nat, j ≤ T.length ∧ jv = ik j ∧ nv = ik n ∧ n = many (T.take j)) (fun _ jv => T.length - (intOf jv).toNat)
  case atStart => exact ⟨0, 0, Nat.zero_le _, rfl, rfl, rfl⟩
  case round =>
    obtain ⟨j, n, hj, rfl, rfl, hn0⟩ := hrel
    have Hn := Lib.hid hn0
    have hn1 : n ≤ 16777216 := by
      have := many_le (T.take j)
      rw [← hn0, List.length_take] at this; omega
    clear hn0
    by_cases hlt : j < T.length
    · have hcc : (T.map Value.bool)[j]? = some (.bool T[j]) := by simp [hlt]
      obtain ⟨g, rfl, hcell⟩ := h2'.at hcc
      have HT := Lib.hid (many_take T j hlt)
      cases hb : T[j] with
      | true =>
        rw [hb] at hcell
        have HB := Lib.hid hb
        clear hb hcc
        go_wp2_with fail
        refine ⟨⟨j + 1, n + 1, by omega, by go_num, by go_num, ?_⟩, by simp [intOf]; omega⟩
        rw [HT.out, HB.out, ← Hn.out, if_pos rfl]
      | false =>
        rw [hb] at hcell
        have HB := Lib.hid hb
        clear hb hcc
        go_wp2_with fail
        refine ⟨⟨j + 1, n, by omega, by go_num, by go_num, ?_⟩, by simp [intOf]; omega⟩
        rw [HT.out, HB.out, ← Hn.out]; rfl
    · obtain rfl : j = T.length := by omega
      go_wp2_with fail
      go_ret
      exact ⟨by rw [Hn.out, List.take_length]; rfl, fr.to_below (Nat.le_refl _) (fun _ h => h.elim)⟩

end Go.Proofs.YtalnhlebgofiiaaGreatDoor
namespace Go.Proofs.YtalnhlebgofiiaaGreatDoor
open Go.RowKit
open Bd

set_option maxRecDepth 100000 in
set_option maxHeartbeats 1000000 in
theorem REmpty_any (V : List Nat) (f : Cfg → Bool) (v : Value) (w : World) (hs : RSet w v V f) : Calls Tryz.prog 103 #[v] w fun e w' => e = .returned (.bool (decide (many (tab V f) = 0))) ∧ Below w.heap.size w w' := by
  have hm := fun W (h : Fr nob w W) => Many_any V f v W (hs.kept h)
  generalize many (tab V f) = m at *
  obtain ⟨hV, hf, sv, st, rfl, h1, h2⟩ := hs
  obtain ⟨b0, b1⟩ := two_cells' w sv st 36
  have fr : Fr nob w (w.alloc (.cells #[sv, st] 36)) := (Fr.refl nob w).alloc _
  obtain ⟨a, cap, e1⟩ := h1.form
  obtain ⟨a2, cap2, e2⟩ := h2.form
  generalize (List.map ik V).length = n1 at e1
  generalize (List.map Value.bool (tab V f)).length = n2 at e2
  clear h1 h2 hf
  subst e1 e2
  go_enter Tryz.func103, Tryz.ntmps103
  go_wp2_with fail
  refine (hm _ fr).mono ?_
  rintro e w1 ⟨rfl, hb⟩
  go_wp2_with fail
  go_ret
  exact ⟨by have h := run_neq_nat m 0; simpa using h, (fr.below hb).to_below (Nat.le_refl _) (fun _ h => h.elim)⟩

theorem empty_dec {V : List Nat} {f : Cfg → Bool} (hV : rising V) (hf : onV V f) : many (tab V f) = 0 ↔ ∀ c, f c = false := by
  rw [many_zero]; exact all_tab hV hf

theorem info_int : (Tryz.prog.info? 3).map (fun i => (i.zero, i.size, i.bytes)) = some (some (.int .i64 0), 1, 8) := by kernel_rfl
theorem info_bool : (Tryz.prog.info? 4).map (fun i => (i.zero, i.size, i.bytes)) = some (some (.bool false), 1, 1) := by kernel_rfl

set_option maxRecDepth 100000 in
set_option maxHeartbeats 1000000 in
theorem Features_any (f : Nat) (hf : f < 2 ^ 32) (w : World) : Calls Tryz.prog 21 #[.int .u32 (f : Int)] w fun e w' => ∃ v, e = .returned v ∧ SRow w' v ((featL f).map ik) ∧ Below w.heap.size w w' := by
  obtain ⟨i0, hi0, hz0, hz1, hz2⟩ := info_parts info_int
  go_enter Tryz.func21, Tryz.ntmps21
  go_wp2_with fail
  go_loopw [0, 3, 4] (fun fv ov iv wr => ∃ k q : Nat, k ≤ 24 ∧ iv = ik k ∧ fv = .int .u32 (q : Int) ∧ q = f / 2 ^ k ∧ wr.ownsRow w.heap.size 3 1 ov (featK f k).length ((featK f k).map ik) ∧ Below w.heap.size w wr) (fun _ _ iv _ => 24 - (intOf iv).toNat)
  case atStart => exact ⟨0, f, Nat.zero_le _, rfl, rfl, by simp, World.ownsRow_nil _ _ _ _, Below.refl _ _⟩
  case round =>
    obtain ⟨k, q, hk, rfl, rfl, hq, hown, hB⟩ := hrel
    have Hq := Lib.hid hq
    have hq32 : q < 4294967296 := by rw [hq]; exact Nat.lt_of_le_of_lt (Nat.div_le_self _ _) hf
    clear hq
    by_cases hlt : k < 24
    · have hm : ((q : Int) % 2 == 1) = decide (q % 2 = 1) := by
        rw [show (2 : Int) = ((2 : Nat) : Int) from rfl, ← Int.natCast_emod, show (1 : Int) = ((1 : Nat) : Int) from rfl]; exact beq_dec _ _
      have hbit : f.testBit k = decide (q % 2 = 1) := by rw [Hq.out, Nat.testBit_eq_decide_div_mod_eq]
      have HD := Lib.hid (show q / 2 = f / 2 ^ (k + 1) by rw [Hq.out, Nat.div_div_eq_div_mul, Nat.pow_succ])
      have HS := Lib.hid (featK_succ f k)
      have hlen : (featK f k).length ≤ 24 := by
        have := List.length_filter_le f.testBit (List.range k)
        rw [List.length_range] at this; exact Nat.le_trans this (by omega)
      by_cases hb : q % 2 = 1
      · have hm' : ((q : Int) % 2 == 1) = true := by rw [hm]; simp [hb]
        have HB := Lib.hid (hbit.trans (decide_eq_true hb))
        clear hm hbit hb
        go_wp2_with (at_builtin; refine wpList_append_own _ rfl _ _ 33 rfl w.heap.size 3 i0 (.int .i64 0) 1 8 Tryz.underlying33 hi0 hz0 hz1 hz2 rfl (by decide) _ _ _ rfl (hown.alloc _) ⟨wr.heap.size, 0, none⟩ 1 1 [ik k] rfl rfl ?c1 ?c2 ?c3 ?c4 ?c5 ?_)
        case c1 => exact one_news _ _ _
        case c2 => simp [Value.oneCell']
        case c3 => unfold maxLen; omega
        case c4 => omega
        case c5 => have := hB.size; simp; omega
        intro v' w1 hown' hgrow _
        have e1 : featK f (k + 1) = featK f k ++ [k] := by rw [HS.out, if_pos HB.out]
        have row' : w1.ownsRow w.heap.size 3 1 v' (featK f (k + 1)).length ((featK f (k + 1)).map ik) := by
          rw [e1, List.map_append, List.length_append]; exact hown'
        have hB' : Below w.heap.size w w1 := (hB.alloc hB.size _).grown hgrow (by have := hB.size; simp; omega) (fun j hj => (hown.lt j hj).1)
        clear hown hown' hgrow hB e1
        go_wp2_with fail
        refine ⟨⟨k + 1, q / 2, by omega, by go_num, by go_num, HD.out, row', hB'⟩, by simp [intOf]; omega⟩
      · have hm' : ((q : Int) % 2 == 1) = false := by rw [hm]; simp [hb]
        have HB := Lib.hid (hbit.trans (decide_eq_false hb))
        clear hm hbit hb
        go_wp2_with fail
        have e1 : featK f (k + 1) = featK f k := by rw [HS.out, HB.out]; simp
        refine ⟨⟨k + 1, q / 2, by omega, by go_num, by go_num, HD.out, by rw [e1]; exact hown, hB⟩, by simp [intOf]; omega⟩
    · obtain rfl : k = 24 := by omega
      go_wp2_with fail
      go_ret
      exact ⟨_, rfl, SRow.of_own hown, hB⟩
end Go.Proofs.YtalnhlebgofiiaaGreatDoor
namespace Go.Proofs.YtalnhlebgofiiaaGreatDoor
open Go.RowKit
open Bd

theorem fr_store1 (w : World) (b o : Nat) (v : Value) : w.grownBy (w.setCell ⟨b, o, none⟩ v) (some b) := ⟨rfl, rfl, rfl, by simp [World.setCell], fun k _ hk => Below.heap_setCell w ⟨b, o, none⟩ v k (fun e => hk (by simp [e]))⟩

set_option maxRecDepth 100000 in
set_option maxHeartbeats 1000000 in
theorem Blank_any (n : Nat) (hn : n ≤ 24) (a : Option Addr) (cap : Nat) (w : World) : Calls Tryz.prog 114 #[.slice a n cap] w fun e w' => ∃ g, e = .returned (.agg #[.slice a n cap, .slice (some ⟨g, 0, none⟩) (2 ^ n) (2 ^ n)]) ∧
    w'.ownsRow w.heap.size 4 1 (.slice (some ⟨g, 0, none⟩) (2 ^ n) (2 ^ n)) (2 ^ n) (List.replicate (2 ^ n) (.bool false)) ∧ Below w.heap.size w w' := by
  obtain ⟨i0, hi0, hz0, hz1, hz2⟩ := info_parts info_bool
  have hp : 2 ^ n ≤ 16777216 := Nat.pow_le_pow_right (by omega) hn
  go_enter Tryz.func114, Tryz.ntmps114
  have hL : wrap64 ((2 : Int) ^ n) = ((2 ^ n : Nat) : Int) := by
    rw [show (2 : Int) ^ n = ((2 ^ n : Nat) : Int) by simp]
    unfold wrap64
    generalize 2 ^ n = p at *
    omega
  have HL := Lib.hid hL
  clear hL
  go_wp2_with (at_make; refine wpList_make_full _ rfl _ _ 34 rfl w.heap.size 4 i0 (.bool false) 1 Tryz.underlying34 hi0 hz0 hz1 .i64 .i64 _ _ (2 ^ n) rfl rfl ?c1 ?c2 ?c3 ?c4 ?c5 ?_)
  case c1 => exact HL.out
  case c2 => exact HL.out
  case c3 => rw [hz2]; omega
  case c4 => unfold maxLen; omega
  case c5 => simp
  intro w1 row1 gr1
  rw [toList_madeCells_one] at row1
  have r0 : w1.cell? ⟨w.heap.size, 0, none⟩ = some (.slice none 0 0) := gr1.cell (World.cell?_alloc_at _ _ _ _ (by simp)) (by simp)
  have r1 : w1.cell? ⟨w.heap.size, 1, none⟩ = some (.slice none 0 0) := gr1.cell (World.cell?_alloc_at _ _ _ _ (by simp)) (by simp)
  have fr1 : Fr nob w w1 := ((Fr.refl nob w).alloc _).grown gr1 (fun k h => by cases h)
  have f0 : w1.frozen? ⟨w.heap.size, 0, none⟩ = false := (((Fr.refl nob _).grown gr1 (fun k h => by cases h)).frozen (p := ⟨w.heap.size, 0, none⟩) (by simp) (fun h => h)).trans (World.frozen?_alloc_at _ _ _ _ (by simp))
  have f1 : w1.frozen? ⟨w.heap.size, 1, none⟩ = false := (((Fr.refl nob _).grown gr1 (fun k h => by cases h)).frozen (p := ⟨w.heap.size, 1, none⟩) (by simp) (fun h => h)).trans (World.frozen?_alloc_at _ _ _ _ (by simp))
  clear gr1
  go_wp2_with fail
  refine bodyPost_ret (v := .agg #[.slice a n cap, .slice (some ⟨w.heap.size + 1, 0, none⟩) (2 ^ n) (2 ^ n)]) (by simp [results, Tryz.results114, go_sem, r0, r1]) rfl ⟨w.heap.size + 1, rfl, ?_, ?_⟩
  · exact (row1.kept (fr_store1 w1 w.heap.size 0 _) (.inr (by simp [Value.ownBlock]))).kept (fr_store1 _ w.heap.size 1 _) (.inr (by simp [Value.ownBlock]))
  · exact ((fr1.set1 (Nat.le_refl _) _).set1 (Nat.le_refl _) _).to_below (Nat.le_refl _) (fun _ h => h.elim)

theorem Blank_len (n m : Nat) (hn : n ≤ 24) (hm : m = 2 ^ n) (a : Option Addr) (cap : Nat) (w : World) : Calls Tryz.prog 114 #[.slice a n cap] w fun e w' => ∃ g, e = .returned (.agg #[.slice a n cap, .slice (some ⟨g, 0, none⟩) m m]) ∧
    w'.ownsRow w.heap.size 4 1 (.slice (some ⟨g, 0, none⟩) m m) m (List.replicate m (.bool false)) ∧ Below w.heap.size w w' := by
  subst hm
  exact Blank_any n hn a cap w

set_option maxRecDepth 100000 in
set_option maxHeartbeats 400000 in
theorem Join_any (V W : List Nat) (hV : rising V) (hW : rising W) (a b : Value) (w : World) (h1 : SRow w a (V.map ik)) (h2 : SRow w b (W.map ik)) : Calls Tryz.prog 140 #[a, b] w fun e w' => ∃ v, e = .returned v ∧ SRow w' v ((joinL V W).map ik) ∧ Below w.heap.size w w' := by
  have l1 := rising_len hV
  have l2 := rising_len hW
  have n1 := numN_lt hV.2
  have n2 := numN_lt hW.2
  have hor : bits BinOp.or IntKind.u32 (numN V : Int) (numN W : Int) = ((numN V ||| numN W : Nat) : Int) := (bits_nat .u32 32 (by decide) wraps_u32 _ _ (by omega) (by omega)).2
  have HO := Lib.hid hor
  clear hor
  go_enter Tryz.func140, Tryz.ntmps140
  go_wp2_with fail
  refine (Number_any V hV.2 (by omega) a _ h1).mono ?_
  rintro e w1 ⟨rfl, rfl⟩
  go_wp2_with fail
  refine (Number_any W hW.2 (by omega) b _ h2).mono ?_
  rintro e w1 ⟨rfl, rfl⟩
  go_wp2_with fail
  rw [HO.out]
  refine (Features_any _ (Nat.lt_of_lt_of_le (Nat.or_lt_two_pow n1 n2) (by decide)) _).mono ?_
  rintro e w1 ⟨v, rfl, hs, hb⟩
  go_wp2_with fail
  go_ret
  exact ⟨v, rfl, hs, hb⟩

set_option maxRecDepth 100000 in
set_option maxHeartbeats 400000 in
theorem Const_any (b : Bool) (w : World) : Calls Tryz.prog 35 #[.bool b] w fun e w' => ∃ v, e = .returned v ∧ RSet w' v [] (fun _ => b) ∧ Below w.heap.size w w' := by
  go_enter Tryz.func35, Tryz.ntmps35
  go_wp2_with fail
  obtain ⟨c0, c1⟩ := two_cells' w (.slice none 0 0) (.slice (some ⟨w.heap.size + 1, 0, none⟩) 1 1) 36
  have c0' := cell_alloc_l c0 (.cells #[.bool b] 4)
  have c1' := cell_alloc_l c1 (.cells #[.bool b] 4)
  refine bodyPost_ret (v := .agg #[.slice none 0 0, .slice (some ⟨w.heap.size + 1, 0, none⟩) 1 1]) (by simp [results, Tryz.results35, go_sem, c0', c1']) rfl ⟨_, rfl, ⟨⟨List.Pairwise.nil, by simp⟩, fun _ _ _ => rfl, _, _, rfl, SRow.nil _, ?_⟩, ((Below.refl _ _).alloc (Nat.le_refl _) _).alloc (by simp) _⟩
  refine ⟨some ⟨w.heap.size + 1, 0, none⟩, 1, by simp [tab], fun j u hj => ⟨w.heap.size + 1, rfl, ?_⟩⟩
  have e : (tab [] fun _ => b).map Value.bool = [.bool b] := by simp [tab]
  rw [e] at hj
  match j, hj with
  | 0, hj => simp at hj; subst hj; exact World.cell?_alloc_at _ _ _ _ (by simp)
end Go.Proofs.YtalnhlebgofiiaaGreatDoor
