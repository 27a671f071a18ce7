import Derived.Test.YtalnhlebgofiiaaGreatDoorRefJ
import Derived.Test.YtalnhlebgofiiaaGreatDoorRefM
import Derived.Test.YtalnhlebgofiiaaGreatDoorRuleG
import Derived.Test.YtalnhlebgofiiaaGreatDoorMake
namespace Go.Proofs.YtalnhlebgofiiaaGreatDoor
open Go.RowKit Go.Shelf
open Bd

/-! what the document's trees are: each of the reference's functions is a tree's -/
theorem bt_ev (m : Nat) (lo hi : Int) (c : Cfg) : btF (featL m) lo hi c = (costB (cwM (ints (featL m))) lo hi 24 0).ev c := by
  rw [ev_costB _ _ _ (Nat.le_refl _), Int.zero_add, costN_sum]
  have key : ∀ n, n ≤ 24 → sumC (cwM (ints (featL m))) c n = (((featL m).filter (· < n)).countP c : Int) := by
    intro n hn
    induction n with
    | zero =>
      have : (featL m).filter (· < 0) = [] := by simp
      rw [this]; rfl
    | succ n ih =>
      show sumC _ c n + _ = _
      rw [ih (by omega)]
      have hc : cwM (ints (featL m)) n = if n ∈ featL m then 1 else 0 := by
        unfold cwM
        have : ((n : Int) ∈ ints (featL m)) ↔ n ∈ featL m := by
          unfold ints
          rw [List.mem_map]
          exact ⟨fun ⟨a, ha, e⟩ => by have : a = n := by omega
                                      subst this; exact ha, fun h => ⟨n, h, rfl⟩⟩
        simp only [this]
      have hs : ∀ V : List Nat, V.Pairwise (· < ·) → ((V.filter (· < n + 1)).countP c : Int) = ((V.filter (· < n)).countP c : Int) + (if n ∈ V then (if c n then 1 else 0) else 0) := by
        intro V hV
        induction V with
        | nil => simp
        | cons x V ihV =>
          have hx := (List.pairwise_cons.1 hV).1
          have ih2 := ihV (List.pairwise_cons.1 hV).2
          by_cases h1 : x < n
          · have h2 : x < n + 1 := by omega
            have hne : ¬ n = x := by omega
            simp only [List.filter_cons, h1, h2, decide_true, if_true, List.countP_cons, List.mem_cons, hne, false_or]
            push_cast
            omega
          · by_cases h2 : x = n
            · subst h2
              have hno : x ∉ V := fun h => absurd (hx x h) (Nat.lt_irrefl _)
              rw [if_neg hno] at ih2
              simp only [List.filter_cons, Nat.lt_irrefl, Nat.lt_succ_self, decide_true, decide_false, if_true, List.countP_cons, List.mem_cons, true_or, Bool.false_eq_true, if_false]
              push_cast
              split <;> omega
            · have h3 : ¬ x < n + 1 := by omega
              have hno : n ∉ V := fun h => by have := hx n h; omega
              have hne : ¬ n = x := by omega
              rw [if_neg hno] at ih2
              simp only [List.filter_cons, h1, h3, decide_false, Bool.false_eq_true, if_false, List.mem_cons, hne, false_or, if_neg hno]
              exact ih2
      rw [hs _ (rising_featL m).1, hc]
      by_cases e1 : n ∈ featL m <;> by_cases e2 : c n = true <;> simp [e1, e2]
  rw [key 24 (Nat.le_refl _)]
  have hall : (featL m).filter (· < 24) = featL m := List.filter_eq_self.2 fun x hx => by simpa using (rising_featL m).2 x hx
  rw [hall]
  rfl
theorem with_ev {A : B} (hA : A.ok 0) (i : Int) (on : Bool) (c : Cfg) : (if 0 ≤ i ∧ i < 24 then A.ev (up c i.toNat on) else A.ev c) = (withI A i on).ev c := by
  unfold withI
  split
  · rw [ev_withB hA]
  · rfl
theorem ch_ev {A : B} (hA : A.ok 0) {V : List Nat} (hV : rising V) (hf : onV V A.ev) (m : Nat) (c : Cfg) : chF V A.ev m false c = (exL (ints (featL m)) A).ev c :=
  bool_ext (by rw [ch_any hV hf, ← ev_exM hA m c])
theorem ch_ev' {A : B} (hA : A.ok 0) {V : List Nat} (hV : rising V) (hf : onV V A.ev) (m : Nat) (c : Cfg) : chF V A.ev m true c = (faL (ints (featL m)) A).ev c :=
  bool_ext (by rw [ch_all hV hf, ← ev_faM hA m c])

/-- what Said makes, as a tree -/
def SaidPost (rb : B) (re : Int) (w : World) (e : Ending) (w' : World) : Prop := ∃ v V, e = .returned (.tuple #[v, .int .i64 re]) ∧ RSet w' v V rb.ev ∧ Below w.heap.size w w'
theorem SaidPost.intro {rb : B} {re : Int} {w w' : World} {v : Value} {V : List Nat} (h1 : RSet w' v V rb.ev) (h2 : Below w.heap.size w w') : SaidPost rb re w (.returned (.tuple #[v, .int .i64 re])) w' := ⟨v, V, rfl, h1, h2⟩
/-- the result is laid behind a call -/
theorem said_end {w wc w4 : World} {g : Nat} {V : List Nat} {f : Cfg → Bool} {qa qt : Option Addr} {n1 ca n3 ct : Nat} (frw : Fr nob w wc) (rb : Box2 wc g (.slice none 0 0) (.slice none 0 0)) (hb : Below wc.heap.size wc w4) (hg : w.heap.size ≤ g) (hs : RSet w4 (.agg #[.slice qa n1 ca, .slice qt n3 ct]) V f) :
    Box2 ((w4.setCell ⟨g, 0, none⟩ (.slice qa n1 ca)).setCell ⟨g, 1, none⟩ (.slice qt n3 ct)) g (.slice qa n1 ca) (.slice qt n3 ct) ∧ RSet ((w4.setCell ⟨g, 0, none⟩ (.slice qa n1 ca)).setCell ⟨g, 1, none⟩ (.slice qt n3 ct)) (.agg #[.slice qa n1 ca, .slice qt n3 ct]) V f ∧ Below w.heap.size w ((w4.setCell ⟨g, 0, none⟩ (.slice qa n1 ca)).setCell ⟨g, 1, none⟩ (.slice qt n3 ct)) := by
  have b4 := rb.kept ((Fr.refl nob wc).below hb) (fun h => h)
  exact ⟨(b4.set _ _).1, said_set hs b4.c0, (((frw.below hb).set1 hg _).set1 hg _).to_below (Nat.le_refl _) (fun _ h => h.elim)⟩
theorem lin_none {l : List Int} {rel : Nat} {bound : Int} (h : linE l rel = 2) : linB l rel bound = .F := by
  unfold linE at h
  unfold linB
  cases hw : wOk l with
  | false => simp
  | true =>
    rw [hw, if_pos rfl] at h
    split at h
    · cases h
    · rename_i hn
      rw [if_pos rfl, if_neg (by omega), if_neg (by omega), if_neg (by omega)]
theorem lin_some {l : List Int} {rel : Nat} (h : ¬ linE l rel = 2) : wOk l = true ∧ (rel = 1 ∨ rel = 2 ∨ rel = 3) ∧ linE l rel = 0 := by
  unfold linE at h ⊢
  cases hw : wOk l with
  | false => rw [hw] at h; simp at h
  | true =>
    rw [hw, if_pos rfl] at h
    rw [if_pos rfl]
    split at h
    · rename_i hr; rw [if_pos hr]; exact ⟨rfl, hr, rfl⟩
    · exact absurd rfl h

/-- the variable of a loop over sets -/
structure LpSt (b : B) (wc : World) (g : Nat) (W : World) : Prop where
  fr : Fr nob wc W
  hg : wc.heap.size ≤ g
  st : ∃ q n c u m d V, Box2 W g (.slice q n c) (.slice u m d) ∧ RSet W (.agg #[.slice q n c, .slice u m d]) V b.ev
theorem LpSt.kept {b : B} {wc W W' : World} {g : Nat} (h : LpSt b wc g W) (fr : Fr nob W W') : LpSt b wc g W' := by
  obtain ⟨h1, h2, q, n, c, u, m, d, V, h3, h4⟩ := h
  exact ⟨h1.trans fr (fun _ _ h => h), h2, q, n, c, u, m, d, V, h3.kept fr (fun h => h), h4.kept fr⟩
theorem LpSt.store {b b' : B} {wc W : World} {g : Nat} {q u : Option Addr} {n c m d : Nat} {V : List Nat} (h : LpSt b wc g W) (hs : RSet W (.agg #[.slice q n c, .slice u m d]) V b'.ev) : LpSt b' wc g ((W.setCell ⟨g, 0, none⟩ (.slice q n c)).setCell ⟨g, 1, none⟩ (.slice u m d)) := by
  obtain ⟨h1, h2, q', n', c', u', m', d', V', h3, h4⟩ := h
  have f : Fr (fun k => k = g) W ((W.setCell ⟨g, 0, none⟩ (.slice q n c)).setCell ⟨g, 1, none⟩ (.slice u m d)) := (fr_store W g 0 _).trans (fr_store _ g 1 _) (fun _ _ h => h)
  exact ⟨(h1.set1 h2 _).set1 h2 _, h2, q, n, c, u, m, d, V, (h3.set _ _).1, hs.off h3.c0 f⟩
theorem cells_new (w : World) (cs : Array Value) (T : TypeId) (j : Nat) : (w.alloc (.cells cs T)).cell? ⟨w.heap.size, j, none⟩ = cs[j]? := by
  rw [cell_of_row _ _ j cs T (0, 0) (heap_alloc_new w _)]
/-- memory for a tree's set can be made -/
theorem set_there (w : World) {b : B} (hb : b.ok 0) : ∃ q n c u m d w', Fr nob w w' ∧ RSet w' (.agg #[.slice q n c, .slice u m d]) (featL 16777215) b.ev := by
  refine ⟨some ⟨w.heap.size, 0, none⟩, ((featL 16777215).map ik).length, 0, some ⟨w.heap.size + 1, 0, none⟩, ((tab (featL 16777215) b.ev).map Value.bool).length, 0, (w.alloc (.cells ((featL 16777215).map ik).toArray 3)).alloc (.cells ((tab (featL 16777215) b.ev).map Value.bool).toArray 4), ((Fr.refl nob w).alloc _).alloc _, rising_featL _, ?_, _, _, rfl, ?_, ?_⟩
  · intro c d h
    exact ev_agree hb fun j _ hj => h j (mem_featL.2 ⟨hj, by rw [show 16777215 = 2 ^ 24 - 1 by decide, Nat.testBit_two_pow_sub_one]; simpa using hj⟩)
  · refine ⟨some ⟨w.heap.size, 0, none⟩, _, rfl, fun j x hj => ⟨w.heap.size, rfl, ?_⟩⟩
    refine cell_alloc_l ?_ _
    rw [cells_new]
    simpa using hj
  · refine ⟨some ⟨w.heap.size + 1, 0, none⟩, _, rfl, fun j x hj => ⟨w.heap.size + 1, rfl, ?_⟩⟩
    rw [show w.heap.size + 1 = (w.alloc (.cells ((featL 16777215).map ik).toArray 3)).heap.size by simp, cells_new]
    simpa using hj

set_option maxRecDepth 100000 in
set_option maxHeartbeats 8000000 in
/-- SAID: what an operation of a script makes, by the document. -/
theorem said_in (x : OpD) (hx : x.Fits) (lv sv : Value) (s : List B) (hs : 0 < s.length) (hs2 : s.length ≤ 65536) (hok : ∀ y ∈ s, y.ok 0) (hll : x.l.length ≤ 1048576) (w : World) (hrow : TRow w sv s) (hil : IRow w lv x.l) (rb : B) (re : Int) (hrb : opB x s = rb) (hre : opE x = re) :
    Calls Tryz.prog 37 #[opv x lv, sv] w (SaidPost rb re w) := by
  obtain ⟨gs, cap, rfl⟩ := hrow.form
  obtain ⟨al, capl, rfl, hl0, hlc⟩ := hil
  have hil' : IRow w (.slice al x.l.length capl) x.l := ⟨al, capl, rfl, hl0, hlc⟩
  clear hl0 hlc
  go_enter Tryz.func37, Tryz.ntmps37
  go_upto_region 1 with fail
  have box := heap_alloc_new w (.cells (opc x (.slice al x.l.length capl)).toArray 60)
  have box2 := ((Fr.refl nob _).alloc (.cells #[.slice none 0 0, .slice none 0 0] 36)).block w.heap.size (by simp) (fun h => h) |>.trans box
  have rb0 := Box2.of_heap (heap_alloc_new (w.alloc (.cells (opc x (.slice al x.l.length capl)).toArray 60)) (.cells #[.slice none 0 0, .slice none 0 0] 36))
  simp only [World.size_alloc] at rb0
  have fr0 : Fr nob w ((w.alloc (.cells (opc x (.slice al x.l.length capl)).toArray 60)).alloc (.cells #[.slice none 0 0, .slice none 0 0] 36)) := ((Fr.refl nob w).alloc _).alloc _
  generalize ((w.alloc (.cells (opc x (.slice al x.l.length capl)).toArray 60)).alloc (.cells #[.slice none 0 0, .slice none 0 0] 36)) = W at *
  have hk : ∀ j u, (opc x (.slice al x.l.length capl))[j]? = some u → W.cell? ⟨w.heap.size, j, none⟩ = some u := fun j u h => by rw [cell_of_row W w.heap.size j _ _ (0, 0) box2]; simpa using h
  have k2 := hk 2 _ rfl
  have k3 := hk 3 _ rfl
  have k4 := hk 4 _ rfl
  obtain ⟨ia, hia⟩ : ∃ ia, ia = x.a % s.length := ⟨_, rfl⟩
  obtain ⟨ib, hib⟩ : ∃ ib, ib = x.b % s.length := ⟨_, rfl⟩
  obtain ⟨ic, hic⟩ : ∃ ic, ic = x.c % s.length := ⟨_, rfl⟩
  have la : ia < s.length := by rw [hia]; exact Nat.mod_lt _ hs
  have lb : ib < s.length := by rw [hib]; exact Nat.mod_lt _ hs
  have lc : ic < s.length := by rw [hic]; exact Nat.mod_lt _ hs
  have hma := tmod_nat x.a s.length
  have hmb := tmod_nat x.b s.length
  have hmc := tmod_nat x.c s.length
  rw [← hia] at hma
  rw [← hib] at hmb
  rw [← hic] at hmc
  have HMa := Lib.hid hma
  have HMb := Lib.hid hmb
  have HMc := Lib.hid hmc
  have HLa := Lib.hid (show (ia : Int) < (s.length : Int) by omega)
  have HLb := Lib.hid (show (ib : Int) < (s.length : Int) by omega)
  have HLc := Lib.hid (show (ic : Int) < (s.length : Int) by omega)
  have HN0 := Lib.hid (show ((s.length : Int) == 0) = false by simp only [beq_eq_false_iff_ne]; omega)
  have HNE := Lib.hid (show ¬ s = [] by intro e; rw [e] at hs; simp at hs)
  have HWa := Lib.hid (show IntKind.i64.wrap (x.a : Int) = (x.a : Int) by have := hx.a; rw [IntKind.wrap_i64]; omega)
  have HWb := Lib.hid (show IntKind.i64.wrap (x.b : Int) = (x.b : Int) by have := hx.b; rw [IntKind.wrap_i64]; omega)
  have HWc := Lib.hid (show IntKind.i64.wrap (x.c : Int) = (x.c : Int) by have := hx.c; rw [IntKind.wrap_i64]; omega)
  have hrow2 := hrow.kept fr0
  obtain ⟨qA, nA, cA, tA, mA, dA, VA, da0, da1, hsA⟩ := hrow2.at la
  obtain ⟨qB, nB, cB, tB, mB, dB, VB, db0, db1, hsB⟩ := hrow2.at lb
  obtain ⟨qC, nC, cC, tC, mC, dC, VC, dc0, dc1, hsC⟩ := hrow2.at lc
  unfold opB at hrb
  rw [← hia, ← hib, ← hic] at hrb
  have okA := ok_getD hok ia
  have okB := ok_getD hok ib
  have okC := ok_getD hok ic
  obtain ⟨A, hA⟩ : ∃ A, A = s.getD ia .F := ⟨_, rfl⟩
  obtain ⟨B1, hB1⟩ : ∃ B1, B1 = s.getD ib .F := ⟨_, rfl⟩
  obtain ⟨C, hC⟩ : ∃ C, C = s.getD ic .F := ⟨_, rfl⟩
  rw [← hA] at hrb okA hsA
  rw [← hB1] at hrb okB hsB
  rw [← hC] at hrb okC hsC
  have HRB := Lib.hid hrb
  have HRE := Lib.hid hre
  have HROW := Lib.hid hrow2
  have HK := Lib.hid hk
  have HIL := Lib.hid (hil'.kept fr0 (fun _ _ h => h))
  have HOK := Lib.hid hok
  have HX := Lib.hid hx
  clear hrb hre hrow2 hk hok hA hB1 hC hia hib hic hma hmb hmc hil' hrow box box2 la lb lc hx
  have HFR0 := Lib.hid fr0
  have HSA := Lib.hid hsA
  have HSB := Lib.hid hsB
  have HSC := Lib.hid hsC
  clear hsA hsB hsC
  have rbl := rb0.lt
  have gl : gs < W.heap.size := lt_of_cell da0
  have wl : w.heap.size < W.heap.size := lt_of_cell k2
  clear fr0
  go_cut [6, 7, 8] (fun s6 s7 s8 wx => ∃ g6 g7 g8, s6 = .pointer (some ⟨g6, 0, none⟩) ∧ s7 = .pointer (some ⟨g7, 0, none⟩) ∧ s8 = .pointer (some ⟨g8, 0, none⟩) ∧ Fr nob W wx ∧ Box2 wx g6 (.slice qA nA cA) (.slice tA mA dA) ∧ Box2 wx g7 (.slice qB nB cB) (.slice tB mB dB) ∧ Box2 wx g8 (.slice qC nC cC) (.slice tC mC dC))
  case first =>
    have y1 := HMa.out
    have y2 := HMb.out
    have y3 := HMc.out
    have y4 := HLa.out
    have y5 := HLb.out
    have y6 := HLc.out
    have y7 := HN0.out
    have y8 := HNE.out
    have y9 := HWa.out
    have y10 := HWb.out
    have y11 := HWc.out
    have u1 : (0 : Int) ≤ (ia : Int) := Int.natCast_nonneg _
    have u2 : (0 : Int) ≤ (ib : Int) := Int.natCast_nonneg _
    have u3 : (0 : Int) ≤ (ic : Int) := Int.natCast_nonneg _
    have keepS : ∀ w', Fr nob W w' → (w'.cell? ⟨w.heap.size, 2, none⟩ = some (.int .u8 (x.a : Int)) ∧ w'.cell? ⟨w.heap.size, 3, none⟩ = some (.int .u8 (x.b : Int)) ∧ w'.cell? ⟨w.heap.size, 4, none⟩ = some (.int .u8 (x.c : Int)) ∧
        w'.cell? ⟨gs, ia * 2, none⟩ = some (.slice qA nA cA) ∧ w'.cell? ⟨gs, ia * 2 + 1, none⟩ = some (.slice tA mA dA) ∧ w'.cell? ⟨gs, ib * 2, none⟩ = some (.slice qB nB cB) ∧ w'.cell? ⟨gs, ib * 2 + 1, none⟩ = some (.slice tB mB dB) ∧
        w'.cell? ⟨gs, ic * 2, none⟩ = some (.slice qC nC cC) ∧ w'.cell? ⟨gs, ic * 2 + 1, none⟩ = some (.slice tC mC dC)) := fun w' f => ⟨f.cell k2 (fun h => h), f.cell k3 (fun h => h), f.cell k4 (fun h => h), f.cell da0 (fun h => h), f.cell da1 (fun h => h), f.cell db0 (fun h => h), f.cell db1 (fun h => h), f.cell dc0 (fun h => h), f.cell dc1 (fun h => h)⟩
    clear rb0 rbl okA okB okC HSA HSB HSC
    go_region_held3? (fun w' => w'.cell? ⟨w.heap.size, 2, none⟩ = some (.int .u8 (x.a : Int)) ∧ w'.cell? ⟨w.heap.size, 3, none⟩ = some (.int .u8 (x.b : Int)) ∧ w'.cell? ⟨w.heap.size, 4, none⟩ = some (.int .u8 (x.c : Int)) ∧
        w'.cell? ⟨gs, ia * 2, none⟩ = some (.slice qA nA cA) ∧ w'.cell? ⟨gs, ia * 2 + 1, none⟩ = some (.slice tA mA dA) ∧ w'.cell? ⟨gs, ib * 2, none⟩ = some (.slice qB nB cB) ∧ w'.cell? ⟨gs, ib * 2 + 1, none⟩ = some (.slice tB mB dB) ∧
        w'.cell? ⟨gs, ic * 2, none⟩ = some (.slice qC nC cC) ∧ w'.cell? ⟨gs, ic * 2 + 1, none⟩ = some (.slice tC mC dC))
      (first | exact keepS _ (Fr.refl nob W) | exact keepS _ (Fr.refl nob W).drew | exact keepS _ ((Fr.refl nob W).alloc _) | exact keepS _ ((Fr.refl nob W).alloc _).drew | exact keepS _ (((Fr.refl nob W).alloc _).alloc _) | exact keepS _ (((Fr.refl nob W).alloc _).alloc _).drew | exact keepS _ ((((Fr.refl nob W).alloc _).alloc _).alloc _) | exact keepS _ ((((Fr.refl nob W).alloc _).alloc _).alloc _).drew | go_keep)
      (first | fail)
    all_goals (go_wp2_with fail)
    all_goals go_meet
    all_goals first
      | exact ⟨_, _, _, rfl, rfl, rfl, (((Fr.refl nob W).alloc _).alloc _).alloc _ |>.drew, (box3 W _ _ _ _ _ _ _).1, (box3 W _ _ _ _ _ _ _).2.1, (box3 W _ _ _ _ _ _ _).2.2⟩
      | exact ⟨_, _, _, rfl, rfl, rfl, (((Fr.refl nob W).alloc _).alloc _).alloc _ |>.drew, (box3 W _ _ _ _ _ _ _).1, (box3 W _ _ _ _ _ _ _).2.2, (box3 W _ _ _ _ _ _ _).2.1⟩
      | exact ⟨_, _, _, rfl, rfl, rfl, (((Fr.refl nob W).alloc _).alloc _).alloc _ |>.drew, (box3 W _ _ _ _ _ _ _).2.1, (box3 W _ _ _ _ _ _ _).1, (box3 W _ _ _ _ _ _ _).2.2⟩
      | exact ⟨_, _, _, rfl, rfl, rfl, (((Fr.refl nob W).alloc _).alloc _).alloc _ |>.drew, (box3 W _ _ _ _ _ _ _).2.1, (box3 W _ _ _ _ _ _ _).2.2, (box3 W _ _ _ _ _ _ _).1⟩
      | exact ⟨_, _, _, rfl, rfl, rfl, (((Fr.refl nob W).alloc _).alloc _).alloc _ |>.drew, (box3 W _ _ _ _ _ _ _).2.2, (box3 W _ _ _ _ _ _ _).1, (box3 W _ _ _ _ _ _ _).2.1⟩
      | exact ⟨_, _, _, rfl, rfl, rfl, (((Fr.refl nob W).alloc _).alloc _).alloc _ |>.drew, (box3 W _ _ _ _ _ _ _).2.2, (box3 W _ _ _ _ _ _ _).2.1, (box3 W _ _ _ _ _ _ _).1⟩
  case rest =>
    obtain ⟨g6, g7, g8, rfl, rfl, rfl, frx, b6, b7, b8⟩ := hcut
    have hk := fun j u h => frx.cell (HK.out j u h) (fun h => h)
    have q0 := hk 0 _ rfl
    have q1 := hk 1 _ rfl
    have q5 := hk 5 _ rfl
    have q6 := hk 6 _ rfl
    have q7 := hk 7 _ rfl
    have q8 := hk 8 _ rfl
    have q9 := hk 9 _ rfl
    have q10 := hk 10 _ rfl
    have q11 := hk 11 _ rfl
    have rbx := rb0.kept frx (fun h => h)
    have frw := HFR0.out.trans frx (fun _ _ h => h)
    have SA := HSA.out.kept frx
    have SB := HSB.out.kept frx
    have SC := HSC.out.kept frx
    have ⟨a0, a1, _⟩ := b6
    have ⟨c0, c1, _⟩ := b7
    have ⟨d0, d1, _⟩ := b8
    have ⟨r0, r1, rf⟩ := rbx
    have rf0 := rf 0
    have rf1 := rf 1
    clear rf rb0 k2 k3 k4 da0 da1 db0 db1 dc0 dc1 hk
    have hX := HX.out
    clear b6 b7 b8
    have hcases : x.d = 1 ∨ x.d = 2 ∨ x.d = 3 ∨ x.d = 4 ∨ x.d = 5 ∨ x.d = 6 ∨ x.d = 7 ∨ x.d = 8 ∨ x.d = 9 ∨ x.d = 10 ∨ x.d = 11 ∨ x.d = 12 ∨ x.d = 13 ∨ x.d = 14 ∨ x.d = 15 ∨ ¬ (x.d = 1 ∨ x.d = 2 ∨ x.d = 3 ∨ x.d = 4 ∨ x.d = 5 ∨ x.d = 6 ∨ x.d = 7 ∨ x.d = 8 ∨ x.d = 9 ∨ x.d = 10 ∨ x.d = 11 ∨ x.d = 12 ∨ x.d = 13 ∨ x.d = 14 ∨ x.d = 15) := by omega
    rcases hcases with hd | hd | hd | hd | hd | hd | hd | hd | hd | hd | hd | hd | hd | hd | hd | hd
    · clear q1 q5 q6 q7 q8 q9 q10 q11 a0 a1 c0 c1 d0 d1
      rw [hd] at q0
      have E1 := Lib.hid (show rb = .T by rw [← HRB.out, hd]; rfl)
      have E2 := Lib.hid (show re = 0 by rw [← HRE.out]; simp [opE, hd])
      go_wp2_with fail
      refine (Const_any true wc).mono ?_
      rintro e w4 ⟨v4, rfl, hs4, hb4⟩
      have H4 := Lib.hid (RSet.congr (h := (.T : B).ev) hs4 (fun c => rfl))
      obtain ⟨qa, n1, ca, qt, n3, ct, rfl⟩ := hs4.form
      have ⟨s0, s1, sf⟩ := rbx.kept ((Fr.refl nob wc).below hb4) (fun h => h)
      have sf0 := sf 0
      have sf1 := sf 1
      obtain ⟨⟨z0, z1, _⟩, hsZ, HB⟩ := said_end frw rbx hb4 (Nat.le_succ _) H4.out
      have HZ := Lib.hid hsZ
      have HBB := Lib.hid HB
      clear sf r0 r1 rf0 rf1 HB rbx hsZ hs4
      go_wp2_with fail
      refine bodyPost_ret (v := .tuple #[.agg #[.slice qa n1 ca, .slice qt n3 ct], .int .i64 0]) (by simp [results, Tryz.results37, go_sem, z0, z1]) rfl ?_
      rw [E1.out, E2.out]
      exact SaidPost.intro HZ.out HBB.out
    · clear q1 q6 q7 q8 q9 q10 q11 a0 a1 c0 c1 d0 d1
      rw [hd] at q0
      have E0 : rb = if 0 ≤ x.i ∧ x.i < 24 then cubeB (2 ^ x.i.toNat) 0 else .F := by rw [← HRB.out, hd]; rfl
      have E3 : re = if 0 ≤ x.i ∧ x.i < 24 then 0 else 3 := by rw [← HRE.out]; simp [opE, hd]
      by_cases hi : 0 ≤ x.i ∧ x.i < 24
      · have E1 := Lib.hid (E0.trans (if_pos hi))
        have E2 := Lib.hid (E3.trans (if_pos hi))
        clear E0 E3
        have h0 : ¬ x.i < 0 := by omega
        have h1 : ¬ 23 < x.i := by omega
        have hi24 : x.i.toNat < 24 := by omega
        have HC := Lib.hid (RCube_any (2 ^ x.i.toNat) 0 (Nat.lt_of_lt_of_le (Nat.pow_lt_pow_right (by omega) hi24) (by decide)) (by decide) wc)
        have HP := Lib.hid (pow_u32 hi24)
        have HI := Lib.hid hi
        clear hi
        go_wp2_with fail
        have e64 : (IntKind.u64.wrap x.i).toNat = x.i.toNat := by have := HI.out; rw [IntKind.wrap_u64]; omega
        rw [HP.out]
        refine HC.out.mono ?_
        rintro e w4 ⟨v4, rfl, hs4, hb4⟩
        have H4 := Lib.hid (RSet.congr (h := (cubeB (2 ^ x.i.toNat) 0 : B).ev) hs4 (fun c => cube_ev _ _ c))
        obtain ⟨qa, n1, ca, qt, n3, ct, rfl⟩ := hs4.form
        have ⟨s0, s1, sf⟩ := rbx.kept ((Fr.refl nob wc).below hb4) (fun h => h)
        have sf0 := sf 0
        have sf1 := sf 1
        obtain ⟨⟨z0, z1, _⟩, hsZ, HB⟩ := said_end frw rbx hb4 (Nat.le_succ _) H4.out
        have HZ := Lib.hid hsZ
        have HBB := Lib.hid HB
        clear sf r0 r1 rf0 rf1 HB rbx hsZ hs4
        go_wp2_with fail
        refine bodyPost_ret (v := .tuple #[.agg #[.slice qa n1 ca, .slice qt n3 ct], .int .i64 0]) (by simp [results, Tryz.results37, go_sem, z0, z1]) rfl ?_
        rw [E1.out, E2.out]
        exact SaidPost.intro HZ.out HBB.out
      · have E1 := Lib.hid (E0.trans (if_neg hi))
        have E2 := Lib.hid (E3.trans (if_neg hi))
        clear E0 E3
        have ho : x.i < 0 ∨ (¬ x.i < 0 ∧ 23 < x.i) := by omega
        clear hi
        rcases ho with h0 | ⟨h0, h1⟩
        · go_wp2_with fail
          refine (Const_any false wc).mono ?_
          rintro e w4 ⟨v4, rfl, hs4, hb4⟩
          have H4 := Lib.hid (RSet.congr (h := (.F : B).ev) hs4 (fun c => rfl))
          obtain ⟨qa, n1, ca, qt, n3, ct, rfl⟩ := hs4.form
          have ⟨s0, s1, sf⟩ := rbx.kept ((Fr.refl nob wc).below hb4) (fun h => h)
          have sf0 := sf 0
          have sf1 := sf 1
          obtain ⟨⟨z0, z1, _⟩, hsZ, HB⟩ := said_end frw rbx hb4 (Nat.le_succ _) H4.out
          have HZ := Lib.hid hsZ
          have HBB := Lib.hid HB
          clear sf r0 r1 rf0 rf1 HB rbx hsZ hs4
          go_wp2_with fail
          refine bodyPost_ret (v := .tuple #[.agg #[.slice qa n1 ca, .slice qt n3 ct], .int .i64 3]) (by simp [results, Tryz.results37, go_sem, z0, z1]) rfl ?_
          rw [E1.out, E2.out]
          exact SaidPost.intro HZ.out HBB.out
        · go_wp2_with fail
          refine (Const_any false wc).mono ?_
          rintro e w4 ⟨v4, rfl, hs4, hb4⟩
          have H4 := Lib.hid (RSet.congr (h := (.F : B).ev) hs4 (fun c => rfl))
          obtain ⟨qa, n1, ca, qt, n3, ct, rfl⟩ := hs4.form
          have ⟨s0, s1, sf⟩ := rbx.kept ((Fr.refl nob wc).below hb4) (fun h => h)
          have sf0 := sf 0
          have sf1 := sf 1
          obtain ⟨⟨z0, z1, _⟩, hsZ, HB⟩ := said_end frw rbx hb4 (Nat.le_succ _) H4.out
          have HZ := Lib.hid hsZ
          have HBB := Lib.hid HB
          clear sf r0 r1 rf0 rf1 HB rbx hsZ hs4
          go_wp2_with fail
          refine bodyPost_ret (v := .tuple #[.agg #[.slice qa n1 ca, .slice qt n3 ct], .int .i64 3]) (by simp [results, Tryz.results37, go_sem, z0, z1]) rfl ?_
          rw [E1.out, E2.out]
          exact SaidPost.intro HZ.out HBB.out
    · clear q1 q5 q6 q7 q10 q11 a0 a1 c0 c1 d0 d1
      rw [hd] at q0
      have E1 := Lib.hid (show rb = cubeB x.f x.g by rw [← HRB.out, hd]; rfl)
      have E2 := Lib.hid (show re = 0 by rw [← HRE.out]; simp [opE, hd])
      go_wp2_with fail
      refine (RCube_any x.f x.g hX.f hX.g wc).mono ?_
      rintro e w4 ⟨v4, rfl, hs4, hb4⟩
      have H4 := Lib.hid (RSet.congr (h := (cubeB x.f x.g : B).ev) hs4 (fun c => cube_ev _ _ c))
      obtain ⟨qa, n1, ca, qt, n3, ct, rfl⟩ := hs4.form
      have ⟨s0, s1, sf⟩ := rbx.kept ((Fr.refl nob wc).below hb4) (fun h => h)
      have sf0 := sf 0
      have sf1 := sf 1
      obtain ⟨⟨z0, z1, _⟩, hsZ, HB⟩ := said_end frw rbx hb4 (Nat.le_succ _) H4.out
      have HZ := Lib.hid hsZ
      have HBB := Lib.hid HB
      clear sf r0 r1 rf0 rf1 HB rbx hsZ hs4
      go_wp2_with fail
      refine bodyPost_ret (v := .tuple #[.agg #[.slice qa n1 ca, .slice qt n3 ct], .int .i64 0]) (by simp [results, Tryz.results37, go_sem, z0, z1]) rfl ?_
      rw [E1.out, E2.out]
      exact SaidPost.intro HZ.out HBB.out
    · clear q1 q5 q6 q7 q8 q9 q10 q11 c0 c1 d0 d1
      rw [hd] at q0
      have E1 := Lib.hid (show rb = A.neg by rw [← HRB.out, hd]; rfl)
      have E2 := Lib.hid (show re = 0 by rw [← HRE.out]; simp [opE, hd])
      go_wp2_with fail
      refine (RNot_any VA A.ev _ wc SA).mono ?_
      rintro e w4 ⟨v4, rfl, hs4, hb4⟩
      have H4 := Lib.hid (RSet.congr (h := (A.neg : B).ev) hs4 (fun c => (ev_neg A c).symm))
      obtain ⟨qa, n1, ca, qt, n3, ct, rfl⟩ := hs4.form
      have ⟨s0, s1, sf⟩ := rbx.kept ((Fr.refl nob wc).below hb4) (fun h => h)
      have sf0 := sf 0
      have sf1 := sf 1
      obtain ⟨⟨z0, z1, _⟩, hsZ, HB⟩ := said_end frw rbx hb4 (Nat.le_succ _) H4.out
      have HZ := Lib.hid hsZ
      have HBB := Lib.hid HB
      clear sf r0 r1 rf0 rf1 HB rbx hsZ hs4
      go_wp2_with fail
      refine bodyPost_ret (v := .tuple #[.agg #[.slice qa n1 ca, .slice qt n3 ct], .int .i64 0]) (by simp [results, Tryz.results37, go_sem, z0, z1]) rfl ?_
      rw [E1.out, E2.out]
      exact SaidPost.intro HZ.out HBB.out
    · clear q1 q5 q6 q7 q8 q9 q10 q11 d0 d1
      rw [hd] at q0
      have E1 := Lib.hid (show rb = ite A B1 .F by rw [← HRB.out, hd]; rfl)
      have E2 := Lib.hid (show re = 0 by rw [← HRE.out]; simp [opE, hd])
      go_wp2_with fail
      refine (RAnd_any VA VB A.ev B1.ev _ _ wc SA SB).mono ?_
      rintro e w4 ⟨v4, rfl, hs4, hb4⟩
      have H4 := Lib.hid (RSet.congr (h := (ite A B1 .F : B).ev) hs4 (fun c => by rw [ev_ite okA okB ok_F0]; cases A.ev c <;> cases B1.ev c <;> rfl))
      obtain ⟨qa, n1, ca, qt, n3, ct, rfl⟩ := hs4.form
      have ⟨s0, s1, sf⟩ := rbx.kept ((Fr.refl nob wc).below hb4) (fun h => h)
      have sf0 := sf 0
      have sf1 := sf 1
      obtain ⟨⟨z0, z1, _⟩, hsZ, HB⟩ := said_end frw rbx hb4 (Nat.le_succ _) H4.out
      have HZ := Lib.hid hsZ
      have HBB := Lib.hid HB
      clear sf r0 r1 rf0 rf1 HB rbx hsZ hs4
      go_wp2_with fail
      refine bodyPost_ret (v := .tuple #[.agg #[.slice qa n1 ca, .slice qt n3 ct], .int .i64 0]) (by simp [results, Tryz.results37, go_sem, z0, z1]) rfl ?_
      rw [E1.out, E2.out]
      exact SaidPost.intro HZ.out HBB.out
    · clear q1 q5 q6 q7 q8 q9 q10 q11 d0 d1
      rw [hd] at q0
      have E1 := Lib.hid (show rb = ite A .T B1 by rw [← HRB.out, hd]; rfl)
      have E2 := Lib.hid (show re = 0 by rw [← HRE.out]; simp [opE, hd])
      go_wp2_with fail
      refine (ROr_any VA VB A.ev B1.ev _ _ wc SA SB).mono ?_
      rintro e w4 ⟨v4, rfl, hs4, hb4⟩
      have H4 := Lib.hid (RSet.congr (h := (ite A .T B1 : B).ev) hs4 (fun c => by rw [ev_ite okA ok_T0 okB]; cases A.ev c <;> cases B1.ev c <;> rfl))
      obtain ⟨qa, n1, ca, qt, n3, ct, rfl⟩ := hs4.form
      have ⟨s0, s1, sf⟩ := rbx.kept ((Fr.refl nob wc).below hb4) (fun h => h)
      have sf0 := sf 0
      have sf1 := sf 1
      obtain ⟨⟨z0, z1, _⟩, hsZ, HB⟩ := said_end frw rbx hb4 (Nat.le_succ _) H4.out
      have HZ := Lib.hid hsZ
      have HBB := Lib.hid HB
      clear sf r0 r1 rf0 rf1 HB rbx hsZ hs4
      go_wp2_with fail
      refine bodyPost_ret (v := .tuple #[.agg #[.slice qa n1 ca, .slice qt n3 ct], .int .i64 0]) (by simp [results, Tryz.results37, go_sem, z0, z1]) rfl ?_
      rw [E1.out, E2.out]
      exact SaidPost.intro HZ.out HBB.out
    · clear q1 q5 q6 q7 q8 q9 q10 q11 d0 d1
      rw [hd] at q0
      have E1 := Lib.hid (show rb = ite A B1.neg B1 by rw [← HRB.out, hd]; rfl)
      have E2 := Lib.hid (show re = 0 by rw [← HRE.out]; simp [opE, hd])
      go_wp2_with fail
      refine (RXor_any VA VB A.ev B1.ev _ _ wc SA SB).mono ?_
      rintro e w4 ⟨v4, rfl, hs4, hb4⟩
      have H4 := Lib.hid (RSet.congr (h := (ite A B1.neg B1 : B).ev) hs4 (fun c => by rw [ev_ite okA (ok_neg okB) okB, ev_neg]; cases A.ev c <;> cases B1.ev c <;> rfl))
      obtain ⟨qa, n1, ca, qt, n3, ct, rfl⟩ := hs4.form
      have ⟨s0, s1, sf⟩ := rbx.kept ((Fr.refl nob wc).below hb4) (fun h => h)
      have sf0 := sf 0
      have sf1 := sf 1
      obtain ⟨⟨z0, z1, _⟩, hsZ, HB⟩ := said_end frw rbx hb4 (Nat.le_succ _) H4.out
      have HZ := Lib.hid hsZ
      have HBB := Lib.hid HB
      clear sf r0 r1 rf0 rf1 HB rbx hsZ hs4
      go_wp2_with fail
      refine bodyPost_ret (v := .tuple #[.agg #[.slice qa n1 ca, .slice qt n3 ct], .int .i64 0]) (by simp [results, Tryz.results37, go_sem, z0, z1]) rfl ?_
      rw [E1.out, E2.out]
      exact SaidPost.intro HZ.out HBB.out
    · clear q1 q5 q6 q7 q8 q9 q10 q11
      rw [hd] at q0
      have E1 := Lib.hid (show rb = ite A B1 C by rw [← HRB.out, hd]; rfl)
      have E2 := Lib.hid (show re = 0 by rw [← HRE.out]; simp [opE, hd])
      go_wp2_with fail
      refine (RIte_any VA VB VC A.ev B1.ev C.ev _ _ _ wc SA SB SC).mono ?_
      rintro e w4 ⟨v4, X4, rfl, hs4, hb4⟩
      have H4 := Lib.hid (RSet.congr (h := (ite A B1 C : B).ev) hs4 (fun c => (ev_ite okA okB okC c).symm))
      obtain ⟨qa, n1, ca, qt, n3, ct, rfl⟩ := hs4.form
      have ⟨s0, s1, sf⟩ := rbx.kept ((Fr.refl nob wc).below hb4) (fun h => h)
      have sf0 := sf 0
      have sf1 := sf 1
      obtain ⟨⟨z0, z1, _⟩, hsZ, HB⟩ := said_end frw rbx hb4 (Nat.le_succ _) H4.out
      have HZ := Lib.hid hsZ
      have HBB := Lib.hid HB
      clear sf r0 r1 rf0 rf1 HB rbx hsZ hs4
      go_wp2_with fail
      refine bodyPost_ret (v := .tuple #[.agg #[.slice qa n1 ca, .slice qt n3 ct], .int .i64 0]) (by simp [results, Tryz.results37, go_sem, z0, z1]) rfl ?_
      rw [E1.out, E2.out]
      exact SaidPost.intro HZ.out HBB.out
    · clear q1 q6 q8 q9 q10 q11 c0 c1 d0 d1
      rw [hd] at q0
      have E1 := Lib.hid (show rb = withI A x.i x.on by rw [← HRB.out, hd]; rfl)
      have E2 := Lib.hid (show re = 0 by rw [← HRE.out]; simp [opE, hd])
      go_wp2_with fail
      refine (RWith_any VA A.ev x.i x.on _ wc SA).mono ?_
      rintro e w4 ⟨v4, rfl, hs4, hb4⟩
      have H4 := Lib.hid (RSet.congr (h := (withI A x.i x.on : B).ev) hs4 (fun c => with_ev okA _ _ c))
      obtain ⟨qa, n1, ca, qt, n3, ct, rfl⟩ := hs4.form
      have ⟨s0, s1, sf⟩ := rbx.kept ((Fr.refl nob wc).below hb4) (fun h => h)
      have sf0 := sf 0
      have sf1 := sf 1
      obtain ⟨⟨z0, z1, _⟩, hsZ, HB⟩ := said_end frw rbx hb4 (Nat.le_succ _) H4.out
      have HZ := Lib.hid hsZ
      have HBB := Lib.hid HB
      clear sf r0 r1 rf0 rf1 HB rbx hsZ hs4
      go_wp2_with fail
      refine bodyPost_ret (v := .tuple #[.agg #[.slice qa n1 ca, .slice qt n3 ct], .int .i64 0]) (by simp [results, Tryz.results37, go_sem, z0, z1]) rfl ?_
      rw [E1.out, E2.out]
      exact SaidPost.intro HZ.out HBB.out
    · clear q1 q5 q6 q7 q9 q10 q11 c0 c1 d0 d1
      rw [hd] at q0
      have E1 := Lib.hid (show rb = exL (ints (featL x.f)) A by rw [← HRB.out, hd]; rfl)
      have E2 := Lib.hid (show re = 0 by rw [← HRE.out]; simp [opE, hd])
      go_wp2_with fail
      refine (RChanged_any VA A.ev x.f hX.f false _ wc SA).mono ?_
      rintro e w4 ⟨v4, rfl, hs4, hb4⟩
      have H4 := Lib.hid (RSet.congr (h := (exL (ints (featL x.f)) A : B).ev) hs4 (fun c => ch_ev okA SA.1 SA.2.1 _ c))
      obtain ⟨qa, n1, ca, qt, n3, ct, rfl⟩ := hs4.form
      have ⟨s0, s1, sf⟩ := rbx.kept ((Fr.refl nob wc).below hb4) (fun h => h)
      have sf0 := sf 0
      have sf1 := sf 1
      obtain ⟨⟨z0, z1, _⟩, hsZ, HB⟩ := said_end frw rbx hb4 (Nat.le_succ _) H4.out
      have HZ := Lib.hid hsZ
      have HBB := Lib.hid HB
      clear sf r0 r1 rf0 rf1 HB rbx hsZ hs4
      go_wp2_with fail
      refine bodyPost_ret (v := .tuple #[.agg #[.slice qa n1 ca, .slice qt n3 ct], .int .i64 0]) (by simp [results, Tryz.results37, go_sem, z0, z1]) rfl ?_
      rw [E1.out, E2.out]
      exact SaidPost.intro HZ.out HBB.out
    · clear q1 q5 q6 q7 q9 q10 q11 c0 c1 d0 d1
      rw [hd] at q0
      have E1 := Lib.hid (show rb = faL (ints (featL x.f)) A by rw [← HRB.out, hd]; rfl)
      have E2 := Lib.hid (show re = 0 by rw [← HRE.out]; simp [opE, hd])
      go_wp2_with fail
      refine (RChanged_any VA A.ev x.f hX.f true _ wc SA).mono ?_
      rintro e w4 ⟨v4, rfl, hs4, hb4⟩
      have H4 := Lib.hid (RSet.congr (h := (faL (ints (featL x.f)) A : B).ev) hs4 (fun c => ch_ev' okA SA.1 SA.2.1 _ c))
      obtain ⟨qa, n1, ca, qt, n3, ct, rfl⟩ := hs4.form
      have ⟨s0, s1, sf⟩ := rbx.kept ((Fr.refl nob wc).below hb4) (fun h => h)
      have sf0 := sf 0
      have sf1 := sf 1
      obtain ⟨⟨z0, z1, _⟩, hsZ, HB⟩ := said_end frw rbx hb4 (Nat.le_succ _) H4.out
      have HZ := Lib.hid hsZ
      have HBB := Lib.hid HB
      clear sf r0 r1 rf0 rf1 HB rbx hsZ hs4
      go_wp2_with fail
      refine bodyPost_ret (v := .tuple #[.agg #[.slice qa n1 ca, .slice qt n3 ct], .int .i64 0]) (by simp [results, Tryz.results37, go_sem, z0, z1]) rfl ?_
      rw [E1.out, E2.out]
      exact SaidPost.intro HZ.out HBB.out
    · clear q1 q7 q9 q10 q11 a0 a1 c0 c1 d0 d1
      rw [hd] at q0
      have E1 := Lib.hid (show rb = costB (cwM (ints (featL x.f))) x.i x.j 24 0 by rw [← HRB.out, hd]; rfl)
      have E2 := Lib.hid (show re = 0 by rw [← HRE.out]; simp [opE, hd])
      go_wp2_with fail
      refine (RBetween_any x.f hX.f x.i x.j wc).mono ?_
      rintro e w4 ⟨v4, rfl, hs4, hb4⟩
      have H4 := Lib.hid (RSet.congr (h := (costB (cwM (ints (featL x.f))) x.i x.j 24 0 : B).ev) hs4 (fun c => bt_ev _ _ _ c))
      obtain ⟨qa, n1, ca, qt, n3, ct, rfl⟩ := hs4.form
      have ⟨s0, s1, sf⟩ := rbx.kept ((Fr.refl nob wc).below hb4) (fun h => h)
      have sf0 := sf 0
      have sf1 := sf 1
      obtain ⟨⟨z0, z1, _⟩, hsZ, HB⟩ := said_end frw rbx hb4 (Nat.le_succ _) H4.out
      have HZ := Lib.hid hsZ
      have HBB := Lib.hid HB
      clear sf r0 r1 rf0 rf1 HB rbx hsZ hs4
      go_wp2_with fail
      refine bodyPost_ret (v := .tuple #[.agg #[.slice qa n1 ca, .slice qt n3 ct], .int .i64 0]) (by simp [results, Tryz.results37, go_sem, z0, z1]) rfl ?_
      rw [E1.out, E2.out]
      exact SaidPost.intro HZ.out HBB.out
    · clear q5 q6 q7 q8 q9 a0 a1 c0 c1 d0 d1
      rw [hd] at q0
      have E1 := Lib.hid (show rb = linB x.l x.rel x.bound by rw [← HRB.out, hd]; rfl)
      have E3 : re = linE x.l x.rel := by rw [← HRE.out]; simp [opE, hd]
      have HIx := HIL.out.kept frx (fun _ _ h => h)
      by_cases hlin : linE x.l x.rel = 2
      · have E2 := Lib.hid (E3.trans hlin)
        have HL := Lib.hid (RLinear_no x.l x.rel x.bound hlin (by omega) (.slice al x.l.length capl) wc HIx)
        have HB0 := Lib.hid (lin_none (bound := x.bound) hlin)
        clear E3 hlin HIx
        go_wp2_with fail
        refine HL.out.mono ?_
        rintro e w4 ⟨v4, rfl, hs4, hb4⟩
        have H4 := Lib.hid (RSet.congr (h := (linB x.l x.rel x.bound : B).ev) hs4 (fun c => by rw [HB0.out]; rfl))
        obtain ⟨qa, n1, ca, qt, n3, ct, rfl⟩ := hs4.form
        have ⟨s0, s1, sf⟩ := rbx.kept ((Fr.refl nob wc).below hb4) (fun h => h)
        have sf0 := sf 0
        have sf1 := sf 1
        obtain ⟨⟨z0, z1, _⟩, hsZ, HB⟩ := said_end frw rbx hb4 (Nat.le_succ _) H4.out
        have HZ := Lib.hid hsZ
        have HBB := Lib.hid HB
        clear sf r0 r1 rf0 rf1 HB rbx hsZ hs4
        go_wp2_with fail
        refine bodyPost_ret (v := .tuple #[.agg #[.slice qa n1 ca, .slice qt n3 ct], .int .i64 2]) (by simp [results, Tryz.results37, go_sem, z0, z1]) rfl ?_
        rw [E1.out, E2.out]
        exact SaidPost.intro HZ.out HBB.out
      · obtain ⟨hw, hr, h0⟩ := lin_some hlin
        have E2 := Lib.hid (E3.trans h0)
        have HL := Lib.hid (RLinear_yes x.l x.rel hr x.bound hw (.slice al x.l.length capl) wc HIx)
        have HEV := Lib.hid (fun c => linF_ev hw hr x.bound c)
        clear E3 hlin HIx hw hr h0
        go_wp2_with fail
        refine HL.out.mono ?_
        rintro e w4 ⟨v4, rfl, hs4, hb4⟩
        have H4 := Lib.hid (RSet.congr (h := (linB x.l x.rel x.bound : B).ev) hs4 (fun c => HEV.out c))
        obtain ⟨qa, n1, ca, qt, n3, ct, rfl⟩ := hs4.form
        have ⟨s0, s1, sf⟩ := rbx.kept ((Fr.refl nob wc).below hb4) (fun h => h)
        have sf0 := sf 0
        have sf1 := sf 1
        obtain ⟨⟨z0, z1, _⟩, hsZ, HB⟩ := said_end frw rbx hb4 (Nat.le_succ _) H4.out
        have HZ := Lib.hid hsZ
        have HBB := Lib.hid HB
        clear sf r0 r1 rf0 rf1 HB rbx hsZ hs4
        go_wp2_with fail
        refine bodyPost_ret (v := .tuple #[.agg #[.slice qa n1 ca, .slice qt n3 ct], .int .i64 0]) (by simp [results, Tryz.results37, go_sem, z0, z1]) rfl ?_
        rw [E1.out, E2.out]
        exact SaidPost.intro HZ.out HBB.out
    · clear q1 q5 q6 q7 q8 q9 q10 q11 a0 a1 c0 c1 d0 d1
      rw [hd] at q0
      have E1 := Lib.hid (show rb = andL s by rw [← HRB.out, hd]; rfl)
      have E2 := Lib.hid (show re = 0 by rw [← HRE.out]; simp [opE, hd])
      have HTR := Lib.hid (HROW.out.kept frx)
      go_wp2_with fail
      refine (Const_any true wc).mono ?_
      rintro e w4 ⟨v4, rfl, hs4, hb4⟩
      obtain ⟨qa, n1, ca, qt, n3, ct, rfl⟩ := hs4.form
      have ⟨s0, s1, sf⟩ := rbx.kept ((Fr.refl nob wc).below hb4) (fun h => h)
      have f4 := (Fr.refl nob wc).below hb4
      have l4 := f4.size
      have rb4 := rbx.kept f4 (fun h => h)
      have LS0 : LpSt .T wc w4.heap.size (w4.alloc (.cells #[.slice qa n1 ca, .slice qt n3 ct] 36)) := ⟨f4.alloc _, f4.size, _, _, _, _, _, _, _, Box2.new w4 _ _ _, (hs4.kept ((Fr.refl nob w4).alloc _)).congr (fun c => rfl)⟩
      have rb5 := rb4.kept ((Fr.refl nob w4).alloc (.cells #[.slice qa n1 ca, .slice qt n3 ct] 36)) (fun h => h)
      have HRBX := Lib.hid rbx
      clear hs4 hb4 s0 s1 sf rb4 rbx r0 r1 rf0 rf1 f4
      go_wp2_with fail
      generalize w4.alloc (.cells #[.slice qa n1 ca, .slice qt n3 ct] 36) = W5 at *
      generalize w4.heap.size = gg at *
      have HRB5 := Lib.hid (rb5.lt)
      go_loopw [10] (fun iv wr => ∃ n : Nat, n ≤ s.length ∧ iv = ik n ∧ LpSt (andL (s.take n)) wc gg wr) (fun iv _ => s.length - (intOf iv).toNat)
      case atStart => exact ⟨0, Nat.zero_le _, rfl, LS0⟩
      case round =>
        clear LS0
        obtain ⟨n, hn, rfl, S⟩ := hrel
        have ⟨Sfr, Sg, qX, nX, cX, tX, mX, dX, VX, bX, hsX⟩ := S
        have ⟨x0, x1, xf⟩ := bX
        have q0' := Sfr.cell q0 (fun h => h)
        by_cases hlt : n < s.length
        · have hlt' : (n : Int) < (s.length : Int) := by omega
          have hn0 : (0 : Int) ≤ (n : Int) := Int.natCast_nonneg _
          obtain ⟨qY, nY, cY, tY, mY, dY, VY, y0, y1, hsY⟩ := (HTR.out.kept Sfr).at hlt
          have hget : s.getD n .F = s[n] := by simp [hlt]
          have hoy : (s.getD n .F).ok 0 := ok_getD HOK.out n
          have htk : s.take (n + 1) = s.take n ++ [s.getD n .F] := by rw [hget]; exact List.take_succ_eq_append_getElem hlt
          obtain ⟨NX, hNX⟩ : ∃ X, X = andL (s.take (n + 1)) := ⟨_, rfl⟩
          have HEV := Lib.hid (fun c => (show jnB 0 ((andL (s.take n)).ev c) ((s.getD n .F).ev c) = NX.ev c from by
            rw [hNX, htk, andL_snoc, ev_ite (ok_andL _) hoy ok_F0]
            cases (andL (s.take n)).ev c <;> cases (s.getD n .F).ev c <;> rfl))
          have hbig : NX.ok 0 := by rw [hNX]; exact ok_andL _
          have HNX := Lib.hid hNX
          generalize andL (s.take n) = PX at *
          generalize s.getD n .F = YX at *
          clear hget htk hoy hNX
          go_upto_region 38 with fail
          refine G.wp_region 6 161 (fun k => k == 5) (fun _ v w => ∃ q n c u m d V, v = .agg #[.slice q n c, .slice u m d] ∧ RSet w v V NX.ev) (fun i => List.getD [Value.agg #[.slice qX nX cX, .slice tX mX dX], Value.slice (some ⟨gs, 0, none⟩) s.length cap, ik n, Value.pointer (some ⟨gs, n * 2, none⟩), Value.agg #[.slice qY nY cY, .slice tY mY dY], undef] i undef) (by kernel_rfl) (by kernel_rfl) rfl
            (fun _ _ _ _ ⟨q, n, c, u, m, d, V, e, h⟩ f => ⟨q, n, c, u, m, d, V, e, h.kept f⟩) ?hexA ?_
          case hexA =>
            intro k _
            obtain ⟨q, n, c, u, m, d, w', f', h⟩ := set_there wr hbig
            exact ⟨_, w', f', ⟨q, n, c, u, m, d, _, rfl, h⟩, fun g hg => by cases hg⟩
          simp only [List.take_succ_cons, List.take_zero]
          refine G.step (Value.agg #[.slice qX nX cX, .slice tX mX dX]) rfl rfl rfl ?s0A ?n0A
          case s0A =>
            intro w' hw' hh
            have z0 := hw'.cell' x0 (fun h => h)
            have z1 := hw'.cell' x1 (fun h => h)
            clear hw' hh
            refine G.upon_value ?_
            go_simp
            try rfl
          simp only [Act.put, List.setIfInBounds_toArray, List.set_cons_zero, List.set_cons_succ]
          refine G.step (Value.slice (some ⟨gs, 0, none⟩) s.length cap) rfl rfl rfl ?s1A ?n1A
          case s1A =>
            intro w' hw' hh
            clear hw' hh
            refine G.upon_value ?_
            go_simp
            try rfl
          simp only [Act.put, List.setIfInBounds_toArray, List.set_cons_zero, List.set_cons_succ]
          refine G.step (ik n) rfl rfl rfl ?s2A ?n2A
          case s2A =>
            intro w' hw' hh
            clear hw' hh
            refine G.upon_value ?_
            go_simp
            try rfl
          simp only [Act.put, List.setIfInBounds_toArray, List.set_cons_zero, List.set_cons_succ]
          refine G.step (Value.pointer (some ⟨gs, n * 2, none⟩)) rfl rfl rfl ?s3A ?n3A
          case s3A =>
            intro w' hw' hh
            clear hw' hh
            refine G.upon_value ?_
            go_simp
            try rfl
          simp only [Act.put, List.setIfInBounds_toArray, List.set_cons_zero, List.set_cons_succ]
          refine G.step (Value.agg #[.slice qY nY cY, .slice tY mY dY]) rfl rfl rfl ?s4A ?n4A
          case s4A =>
            intro w' hw' hh
            have z0 := hw'.cell' y0 (fun h => h)
            have z1 := hw'.cell' y1 (fun h => h)
            clear hw' hh
            refine G.upon_value ?_
            go_simp
            try rfl
          simp only [Act.put, List.setIfInBounds_toArray, List.set_cons_zero, List.set_cons_succ]
          refine G.new rfl rfl ?s5A ?n5A
          case s5A =>
            intro w' hw' hh
            clear hh
            refine G.new_call ?_ ((RAnd_any VX VY PX.ev YX.ev _ _ w' (hsX.kept hw') (hsY.kept hw')).mono fun e w'' ⟨v', he, hs', hb'⟩ => ?_)
            · clear hw'
              go_simp
            · obtain ⟨q, n, c, u, m, d, rfl⟩ := hs'.form
              exact ⟨_, he, ⟨q, n, c, u, m, d, _, rfl, hs'.congr (fun c => HEV.out c)⟩, (Fr.refl nob _).below hb', fun g hg => (by cases hg), fun g hg => (by cases hg)⟩
          rintro v5 ⟨wv, -, ⟨q5, n5, c5, u5, m5, d5, V5, rfl, -⟩, -⟩
          simp only [Act.put, List.setIfInBounds_toArray, List.set_cons_zero, List.set_cons_succ]
          refine G.nil ?_
          rintro w8 listed fr8 hall hmade
          obtain ⟨v8, hv8, ⟨q8, n8, c8, u8, m8, d8, V8, e8, hs8⟩, -⟩ := hmade 5 _ _ (by decide) rfl rfl rfl (hall 5 (by decide))
          obtain rfl : v8 = Value.agg #[.slice q5 n5 c5, .slice u5 m5 d5] := by simpa using hv8.symm
          have S8 := S.kept fr8
          have ⟨z0, z1, zf⟩ := bX.kept fr8 (fun h => h)
          have zf0 := zf 0
          have zf1 := zf 1
          have SN := Lib.hid (S8.store hs8)
          clear hv8 e8 hmade hall S S8 hsX hsY Sfr x0 x1 xf y0 y1 bX zf fr8
          go_wp2_with fail
          go_roundw
          case rel => exact ⟨n + 1, hlt, rfl, by rw [← HNX.out]; exact SN.out⟩
          case measure => simp only [intOf]; omega
        · obtain rfl : n = s.length := by omega
          rw [List.take_length] at hsX
          have rbw := HRBX.out.kept Sfr (fun h => h)
          have ⟨t0, t1, tf⟩ := rbw
          have tf0 := tf 0
          have tf1 := tf 1
          obtain ⟨⟨z0, z1, _⟩, hsZ, HB⟩ := said_end (frw.trans Sfr (fun _ _ h => h)) rbw (Below.refl _ _) (Nat.le_succ _) hsX
          have HZ := Lib.hid hsZ
          have HBB := Lib.hid HB
          clear tf rbw HB hsZ hsX S Sfr xf
          go_wp2_with fail
          refine bodyPost_ret (v := .tuple #[.agg #[.slice qX nX cX, .slice tX mX dX], .int .i64 0]) (by simp [results, Tryz.results37, go_sem, z0, z1]) rfl ?_
          rw [E1.out, E2.out]
          exact SaidPost.intro HZ.out HBB.out
    · clear q1 q5 q6 q7 q8 q9 q10 q11 a0 a1 c0 c1 d0 d1
      rw [hd] at q0
      have E1 := Lib.hid (show rb = orL s by rw [← HRB.out, hd]; rfl)
      have E2 := Lib.hid (show re = 0 by rw [← HRE.out]; simp [opE, hd])
      have HTR := Lib.hid (HROW.out.kept frx)
      go_wp2_with fail
      refine (Const_any false wc).mono ?_
      rintro e w4 ⟨v4, rfl, hs4, hb4⟩
      obtain ⟨qa, n1, ca, qt, n3, ct, rfl⟩ := hs4.form
      have ⟨s0, s1, sf⟩ := rbx.kept ((Fr.refl nob wc).below hb4) (fun h => h)
      have f4 := (Fr.refl nob wc).below hb4
      have l4 := f4.size
      have rb4 := rbx.kept f4 (fun h => h)
      have LS0 : LpSt .F wc w4.heap.size (w4.alloc (.cells #[.slice qa n1 ca, .slice qt n3 ct] 36)) := ⟨f4.alloc _, f4.size, _, _, _, _, _, _, _, Box2.new w4 _ _ _, (hs4.kept ((Fr.refl nob w4).alloc _)).congr (fun c => rfl)⟩
      have rb5 := rb4.kept ((Fr.refl nob w4).alloc (.cells #[.slice qa n1 ca, .slice qt n3 ct] 36)) (fun h => h)
      have HRBX := Lib.hid rbx
      clear hs4 hb4 s0 s1 sf rb4 rbx r0 r1 rf0 rf1 f4
      go_wp2_with fail
      generalize w4.alloc (.cells #[.slice qa n1 ca, .slice qt n3 ct] 36) = W5 at *
      generalize w4.heap.size = gg at *
      have HRB5 := Lib.hid (rb5.lt)
      go_loopw [10] (fun iv wr => ∃ n : Nat, n ≤ s.length ∧ iv = ik n ∧ LpSt (orL (s.take n)) wc gg wr) (fun iv _ => s.length - (intOf iv).toNat)
      case atStart => exact ⟨0, Nat.zero_le _, rfl, LS0⟩
      case round =>
        clear LS0
        obtain ⟨n, hn, rfl, S⟩ := hrel
        have ⟨Sfr, Sg, qX, nX, cX, tX, mX, dX, VX, bX, hsX⟩ := S
        have ⟨x0, x1, xf⟩ := bX
        have q0' := Sfr.cell q0 (fun h => h)
        by_cases hlt : n < s.length
        · have hlt' : (n : Int) < (s.length : Int) := by omega
          have hn0 : (0 : Int) ≤ (n : Int) := Int.natCast_nonneg _
          obtain ⟨qY, nY, cY, tY, mY, dY, VY, y0, y1, hsY⟩ := (HTR.out.kept Sfr).at hlt
          have hget : s.getD n .F = s[n] := by simp [hlt]
          have hoy : (s.getD n .F).ok 0 := ok_getD HOK.out n
          have htk : s.take (n + 1) = s.take n ++ [s.getD n .F] := by rw [hget]; exact List.take_succ_eq_append_getElem hlt
          obtain ⟨NX, hNX⟩ : ∃ X, X = orL (s.take (n + 1)) := ⟨_, rfl⟩
          have HEV := Lib.hid (fun c => (show jnB 1 ((orL (s.take n)).ev c) ((s.getD n .F).ev c) = NX.ev c from by
            rw [hNX, htk, orL_snoc, ev_ite (ok_orL _) ok_T0 hoy]
            cases (orL (s.take n)).ev c <;> cases (s.getD n .F).ev c <;> rfl))
          have hbig : NX.ok 0 := by rw [hNX]; exact ok_orL _
          have HNX := Lib.hid hNX
          generalize orL (s.take n) = PX at *
          generalize s.getD n .F = YX at *
          clear hget htk hoy hNX
          go_upto_region 39 with fail
          refine G.wp_region 6 161 (fun k => k == 5) (fun _ v w => ∃ q n c u m d V, v = .agg #[.slice q n c, .slice u m d] ∧ RSet w v V NX.ev) (fun i => List.getD [Value.agg #[.slice qX nX cX, .slice tX mX dX], Value.slice (some ⟨gs, 0, none⟩) s.length cap, ik n, Value.pointer (some ⟨gs, n * 2, none⟩), Value.agg #[.slice qY nY cY, .slice tY mY dY], undef] i undef) (by kernel_rfl) (by kernel_rfl) rfl
            (fun _ _ _ _ ⟨q, n, c, u, m, d, V, e, h⟩ f => ⟨q, n, c, u, m, d, V, e, h.kept f⟩) ?hexO ?_
          case hexO =>
            intro k _
            obtain ⟨q, n, c, u, m, d, w', f', h⟩ := set_there wr hbig
            exact ⟨_, w', f', ⟨q, n, c, u, m, d, _, rfl, h⟩, fun g hg => by cases hg⟩
          simp only [List.take_succ_cons, List.take_zero]
          refine G.step (Value.agg #[.slice qX nX cX, .slice tX mX dX]) rfl rfl rfl ?s0O ?n0O
          case s0O =>
            intro w' hw' hh
            have z0 := hw'.cell' x0 (fun h => h)
            have z1 := hw'.cell' x1 (fun h => h)
            clear hw' hh
            refine G.upon_value ?_
            go_simp
            try rfl
          simp only [Act.put, List.setIfInBounds_toArray, List.set_cons_zero, List.set_cons_succ]
          refine G.step (Value.slice (some ⟨gs, 0, none⟩) s.length cap) rfl rfl rfl ?s1O ?n1O
          case s1O =>
            intro w' hw' hh
            clear hw' hh
            refine G.upon_value ?_
            go_simp
            try rfl
          simp only [Act.put, List.setIfInBounds_toArray, List.set_cons_zero, List.set_cons_succ]
          refine G.step (ik n) rfl rfl rfl ?s2O ?n2O
          case s2O =>
            intro w' hw' hh
            clear hw' hh
            refine G.upon_value ?_
            go_simp
            try rfl
          simp only [Act.put, List.setIfInBounds_toArray, List.set_cons_zero, List.set_cons_succ]
          refine G.step (Value.pointer (some ⟨gs, n * 2, none⟩)) rfl rfl rfl ?s3O ?n3O
          case s3O =>
            intro w' hw' hh
            clear hw' hh
            refine G.upon_value ?_
            go_simp
            try rfl
          simp only [Act.put, List.setIfInBounds_toArray, List.set_cons_zero, List.set_cons_succ]
          refine G.step (Value.agg #[.slice qY nY cY, .slice tY mY dY]) rfl rfl rfl ?s4O ?n4O
          case s4O =>
            intro w' hw' hh
            have z0 := hw'.cell' y0 (fun h => h)
            have z1 := hw'.cell' y1 (fun h => h)
            clear hw' hh
            refine G.upon_value ?_
            go_simp
            try rfl
          simp only [Act.put, List.setIfInBounds_toArray, List.set_cons_zero, List.set_cons_succ]
          refine G.new rfl rfl ?s5O ?n5O
          case s5O =>
            intro w' hw' hh
            clear hh
            refine G.new_call ?_ ((ROr_any VX VY PX.ev YX.ev _ _ w' (hsX.kept hw') (hsY.kept hw')).mono fun e w'' ⟨v', he, hs', hb'⟩ => ?_)
            · clear hw'
              go_simp
            · obtain ⟨q, n, c, u, m, d, rfl⟩ := hs'.form
              exact ⟨_, he, ⟨q, n, c, u, m, d, _, rfl, hs'.congr (fun c => HEV.out c)⟩, (Fr.refl nob _).below hb', fun g hg => (by cases hg), fun g hg => (by cases hg)⟩
          rintro v5 ⟨wv, -, ⟨q5, n5, c5, u5, m5, d5, V5, rfl, -⟩, -⟩
          simp only [Act.put, List.setIfInBounds_toArray, List.set_cons_zero, List.set_cons_succ]
          refine G.nil ?_
          rintro w8 listed fr8 hall hmade
          obtain ⟨v8, hv8, ⟨q8, n8, c8, u8, m8, d8, V8, e8, hs8⟩, -⟩ := hmade 5 _ _ (by decide) rfl rfl rfl (hall 5 (by decide))
          obtain rfl : v8 = Value.agg #[.slice q5 n5 c5, .slice u5 m5 d5] := by simpa using hv8.symm
          have S8 := S.kept fr8
          have ⟨z0, z1, zf⟩ := bX.kept fr8 (fun h => h)
          have zf0 := zf 0
          have zf1 := zf 1
          have SN := Lib.hid (S8.store hs8)
          clear hv8 e8 hmade hall S S8 hsX hsY Sfr x0 x1 xf y0 y1 bX zf fr8
          go_wp2_with fail
          go_roundw
          case rel => exact ⟨n + 1, hlt, rfl, by rw [← HNX.out]; exact SN.out⟩
          case measure => simp only [intOf]; omega
        · obtain rfl : n = s.length := by omega
          rw [List.take_length] at hsX
          have rbw := HRBX.out.kept Sfr (fun h => h)
          have ⟨t0, t1, tf⟩ := rbw
          have tf0 := tf 0
          have tf1 := tf 1
          obtain ⟨⟨z0, z1, _⟩, hsZ, HB⟩ := said_end (frw.trans Sfr (fun _ _ h => h)) rbw (Below.refl _ _) (Nat.le_succ _) hsX
          have HZ := Lib.hid hsZ
          have HBB := Lib.hid HB
          clear tf rbw HB hsZ hsX S Sfr xf
          go_wp2_with fail
          refine bodyPost_ret (v := .tuple #[.agg #[.slice qX nX cX, .slice tX mX dX], .int .i64 0]) (by simp [results, Tryz.results37, go_sem, z0, z1]) rfl ?_
          rw [E1.out, E2.out]
          exact SaidPost.intro HZ.out HBB.out
    · clear q1 q5 q6 q7 q8 q9 q10 q11 a0 a1 c0 c1 d0 d1
      have n1 : ((x.d : Int) == 1) = false := by simp only [beq_eq_false_iff_ne]; omega
      have n2 : ((x.d : Int) == 2) = false := by simp only [beq_eq_false_iff_ne]; omega
      have n3 : ((x.d : Int) == 3) = false := by simp only [beq_eq_false_iff_ne]; omega
      have n4 : ((x.d : Int) == 4) = false := by simp only [beq_eq_false_iff_ne]; omega
      have n5 : ((x.d : Int) == 5) = false := by simp only [beq_eq_false_iff_ne]; omega
      have n6 : ((x.d : Int) == 6) = false := by simp only [beq_eq_false_iff_ne]; omega
      have n7 : ((x.d : Int) == 7) = false := by simp only [beq_eq_false_iff_ne]; omega
      have n8 : ((x.d : Int) == 8) = false := by simp only [beq_eq_false_iff_ne]; omega
      have n9 : ((x.d : Int) == 9) = false := by simp only [beq_eq_false_iff_ne]; omega
      have n10 : ((x.d : Int) == 10) = false := by simp only [beq_eq_false_iff_ne]; omega
      have n11 : ((x.d : Int) == 11) = false := by simp only [beq_eq_false_iff_ne]; omega
      have n12 : ((x.d : Int) == 12) = false := by simp only [beq_eq_false_iff_ne]; omega
      have n13 : ((x.d : Int) == 13) = false := by simp only [beq_eq_false_iff_ne]; omega
      have n14 : ((x.d : Int) == 14) = false := by simp only [beq_eq_false_iff_ne]; omega
      have n15 : ((x.d : Int) == 15) = false := by simp only [beq_eq_false_iff_ne]; omega
      have E1 := Lib.hid (show rb = .F by rw [← HRB.out]; exact opS_else hd)
      have E2 := Lib.hid (show re = 0 by rw [← HRE.out]; unfold opE; rw [if_neg (by omega), if_neg (by omega)])
      go_wp2_with fail
      refine (Const_any false wc).mono ?_
      rintro e w4 ⟨v4, rfl, hs4, hb4⟩
      have H4 := Lib.hid (RSet.congr (h := (.F : B).ev) hs4 (fun c => rfl))
      obtain ⟨qa, n1, ca, qt, n3, ct, rfl⟩ := hs4.form
      have ⟨s0, s1, sf⟩ := rbx.kept ((Fr.refl nob wc).below hb4) (fun h => h)
      have sf0 := sf 0
      have sf1 := sf 1
      obtain ⟨⟨z0, z1, _⟩, hsZ, HB⟩ := said_end frw rbx hb4 (Nat.le_succ _) H4.out
      have HZ := Lib.hid hsZ
      have HBB := Lib.hid HB
      clear sf r0 r1 rf0 rf1 HB rbx hsZ hs4
      go_wp2_with fail
      refine bodyPost_ret (v := .tuple #[.agg #[.slice qa n1 ca, .slice qt n3 ct], .int .i64 0]) (by simp [results, Tryz.results37, go_sem, z0, z1]) rfl ?_
      rw [E1.out, E2.out]
      exact SaidPost.intro HZ.out HBB.out
theorem said_any (x : OpD) (hx : x.Fits) (lv sv : Value) (s : List B) (hs : 0 < s.length) (hs2 : s.length ≤ 65536) (hok : ∀ y ∈ s, y.ok 0) (hll : x.l.length ≤ 1048576) (w : World) (hrow : TRow w sv s) (hil : IRow w lv x.l) :
    Calls Tryz.prog 37 #[opv x lv, sv] w (SaidPost (opB x s) (opE x) w) := said_in x hx lv sv s hs hs2 hok hll w hrow hil _ _ rfl rfl
end Go.Proofs.YtalnhlebgofiiaaGreatDoor
namespace Go.Proofs.YtalnhlebgofiiaaGreatDoor
open Go.RowKit Go.Shelf
open Bd

/-- a row is kept where a block is written whose first cell is nothing of a row's -/
theorem SRow.apart {w w' : World} {v : Value} {l : List Value} {g : Nat} {u0 : Value} (h : SRow w v l) (hl : ∀ u, l[0]? = some u → u ≠ u0) (hg : w.cell? ⟨g, 0, none⟩ = some u0) (fr : Fr (fun k => k = g) w w') : SRow w' v l := by
  obtain ⟨a, cap, rfl, hc⟩ := h
  refine ⟨a, cap, rfl, fun j u hj => ?_⟩
  obtain ⟨g', h1, h2⟩ := hc j u hj
  refine ⟨g', h1, fr.cell' h2 ?_⟩
  rintro rfl
  have hlt : 0 < l.length := by have := (List.getElem?_eq_some_iff.1 hj).1; omega
  obtain ⟨g2, e1, e2⟩ := hc 0 l[0] (by simp [hlt])
  rw [h1] at e1
  cases e1
  rw [hg] at e2
  exact hl _ (List.getElem?_eq_getElem hlt) (Option.some.inj e2).symm
theorem RSet.apart {w w' : World} {v : Value} {V : List Nat} {f : Cfg → Bool} {g : Nat} {u0 : Value} (h : RSet w v V f) (h1 : ∀ n, u0 ≠ .int .i64 n) (h2 : ∀ b, u0 ≠ .bool b) (hg : w.cell? ⟨g, 0, none⟩ = some u0) (fr : Fr (fun k => k = g) w w') : RSet w' v V f := by
  obtain ⟨k1, k2, sv, st, k3, k4, k5⟩ := h
  refine ⟨k1, k2, sv, st, k3, k4.apart (fun u hu => ?_) hg fr, k5.apart (fun u hu => ?_) hg fr⟩
  · rw [List.getElem?_map] at hu
    cases hv : V[0]? with
    | none => rw [hv] at hu; cases hu
    | some n => rw [hv] at hu; cases hu; exact (h1 _).symm
  · rw [List.getElem?_map] at hu
    cases hv : (tab V f)[0]? with
    | none => rw [hv] at hu; cases hu
    | some n => rw [hv] at hu; cases hu; exact (h2 _).symm

/-- the sets of both scripts, as they grow -/
structure BothSt (s t : List B) (w : World) (sv tv : Value) (wr : World) : Prop where
  fr : Fr nob w wr
  rowS : wr.ownsRow w.heap.size 32 2 sv s.length (s.flatMap dc)
  rowT : ∃ cs : List (Value × Value), cs.length = t.length ∧ (∀ p (h : p < cs.length), ∃ q n c u m d, cs[p] = (.slice q n c, .slice u m d)) ∧ (∀ p (h : p < cs.length), ∃ V, RSet wr (.agg #[cs[p].1, cs[p].2]) V (t.getD p .F).ev) ∧ wr.ownsRow w.heap.size 36 2 tv t.length (flatV cs)
theorem BothSt.kept {s t : List B} {w wr w' : World} {sv tv : Value} (h : BothSt s t w sv tv wr) (f : Fr nob wr w') : BothSt s t w sv tv w' := by
  obtain ⟨h1, h2, cs, h3, h4, h5, h6⟩ := h
  exact ⟨h1.trans f (fun _ _ h => h), f.row h2 (fun _ _ h => h), cs, h3, h4, fun p hp => let ⟨V, hV⟩ := h5 p hp; ⟨V, hV.kept f⟩, f.row h6 (fun _ _ h => h)⟩
theorem BothSt.tRow {s t : List B} {w wr : World} {sv tv : Value} (h : BothSt s t w sv tv wr) (h0 : 0 < t.length) : TRow wr tv t := by
  obtain ⟨h1, h2, cs, h3, h4, h5, h6⟩ := h
  rcases h6.2 with ⟨_, hn⟩ | ⟨g, cap, cur, rfl, _⟩
  · omega
  · refine ⟨g, cap, cs, rfl, h3, h4, h5, fun j u hj => ?_⟩
    have hl : (flatV cs).length = t.length * 2 := h6.1
    have hj2 : j < (flatV cs).length := (List.getElem?_eq_some_iff.1 hj).1
    rw [h6.cellAt j (by omega)]; exact hj
/-- one more set of the program's -/
theorem BothSt.addS {s t : List B} {b : B} {w wr w8 : World} {sv tv sv' : Value} (h : BothSt s t w sv tv wr) (h0 : 0 < s.length) (gr : wr.grownBy w8 sv.ownBlock) (row : w8.ownsRow w.heap.size 32 2 sv' (s ++ [b]).length ((s ++ [b]).flatMap dc)) : BothSt (s ++ [b]) t w sv' tv w8 := by
  obtain ⟨h1, h2, cs, h3, h4, h5, h6⟩ := h
  have hr := h2
  rcases h2.2 with ⟨_, hn⟩ | ⟨g, cap, cur, rfl, hb, hg, _⟩
  · omega
  have c0 : wr.cell? ⟨g, 0, none⟩ = some (.int .u32 (place (li s[0]) s[0] : Int)) := by
    rw [hr.cellAt 0 (by omega)]
    exact (dflat_at (L := s) (k := 0) (by simp [h0])).1
  have f : Fr (fun k => k = g) wr w8 := (Fr.refl _ wr).grown gr (fun k hk _ => by cases hk; rfl)
  refine ⟨h1.grown gr (fun k hk hlt => absurd hlt (by cases hk; exact Nat.not_lt.2 hb)), row, cs, h3, h4, fun p hp => let ⟨V, hV⟩ := h5 p hp; ⟨V, hV.apart (fun n e => by cases e) (fun b e => by cases e) c0 f⟩, f.row h6 (fun k hk e => ?_)⟩
  subst e
  rcases h6.2 with ⟨rfl, _⟩ | ⟨g', cap', cur', rfl, _, hg', _⟩
  · cases hk
  · cases hk
    rw [hg] at hg'
    have := Option.some.inj hg'
    simp only [Obj.cells.injEq] at this
    exact absurd this.2.1 (by decide)
theorem BothSt.keepS {s t : List B} {w wr w8 : World} {sv tv : Value} (h : BothSt s t w sv tv wr) (h0 : 0 < s.length) (gr : wr.grownBy w8 sv.ownBlock) {v : Value} {V : List Nat} {f : Cfg → Bool} (hs : RSet wr v V f) : RSet w8 v V f := by
  obtain ⟨h1, h2, -⟩ := h
  have hr := h2
  rcases h2.2 with ⟨_, hn⟩ | ⟨g, cap, cur, rfl, hb, hg, _⟩
  · omega
  have c0 : wr.cell? ⟨g, 0, none⟩ = some (.int .u32 (place (li s[0]) s[0] : Int)) := by
    rw [hr.cellAt 0 (by omega)]
    exact (dflat_at (L := s) (k := 0) (by simp [h0])).1
  have f : Fr (fun k => k = g) wr w8 := (Fr.refl _ wr).grown gr (fun k hk _ => by cases hk; rfl)
  exact hs.apart (fun n e => by cases e) (fun b e => by cases e) c0 f
theorem grown_cell {w w8 : World} {row : Option Nat} (gr : w.grownBy w8 row) {b o : Nat} {u : Value} (hc : w.cell? ⟨b, o, none⟩ = some u) (hb : ∀ k, row = some k → k < b) : w8.cell? ⟨b, o, none⟩ = some u :=
  (Fr.grown (S := fun k => row = some k) (Fr.refl _ w) gr (fun _ hk _ => hk)).cell' hc (fun h => absurd (hb _ h) (Nat.lt_irrefl _))
/-- one more set of the document's -/
theorem BothSt.addT {s t : List B} {b : B} {w wr w8 : World} {sv tv tv' : Value} {q u : Option Addr} {n c m d : Nat} {V : List Nat} (h : BothSt s t w sv tv wr) (h0 : 0 < t.length) (gr : wr.grownBy w8 tv.ownBlock) (hs : RSet wr (.agg #[.slice q n c, .slice u m d]) V b.ev) {cs : List (Value × Value)}
    (h3 : cs.length = t.length) (h4 : ∀ p (h : p < cs.length), ∃ q n c u m d, cs[p] = (.slice q n c, .slice u m d)) (h5 : ∀ p (h : p < cs.length), ∃ V, RSet wr (.agg #[cs[p].1, cs[p].2]) V (t.getD p .F).ev) (h6 : wr.ownsRow w.heap.size 36 2 tv t.length (flatV cs))
    (row' : w8.ownsRow w.heap.size 36 2 tv' (t.length + 1) (flatV cs ++ [.slice q n c, .slice u m d])) : BothSt s (t ++ [b]) w sv tv' w8 := by
  obtain ⟨h1, h2, -⟩ := h
  have hr := h6
  rcases h6.2 with ⟨_, hn⟩ | ⟨g, cap, cur, rfl, hb, hg, _⟩
  · omega
  obtain ⟨q0, n0, c0, u0, m0, d0, e0⟩ := h4 0 (by omega)
  have c0 : wr.cell? ⟨g, 0, none⟩ = some (.slice q0 n0 c0) := by
    rw [hr.cellAt 0 (by omega)]
    have := (flatV_at (cs := cs) (p := 0) (by omega)).1
    rw [Nat.zero_mul] at this
    rw [this, e0]
  have f : Fr (fun k => k = g) wr w8 := (Fr.refl _ wr).grown gr (fun k hk _ => by cases hk; rfl)
  refine ⟨h1.grown gr (fun k hk hlt => absurd hlt (by cases hk; exact Nat.not_lt.2 hb)), f.row h2 (fun k hk e => ?_), cs ++ [(.slice q n c, .slice u m d)], by simp [h3], fun p hp => ?_, fun p hp => ?_, ?_⟩
  · subst e
    rcases h2.2 with ⟨rfl, _⟩ | ⟨g', cap', cur', rfl, _, hg', _⟩
    · cases hk
    · cases hk
      rw [hg] at hg'
      have := Option.some.inj hg'
      simp only [Obj.cells.injEq] at this
      exact absurd this.2.1 (by decide)
  · by_cases hpc : p < cs.length
    · rw [List.getElem_append_left hpc]; exact h4 p hpc
    · obtain rfl : p = cs.length := by simp at hp; omega
      simp only [List.getElem_concat_length]
      exact ⟨_, _, _, _, _, _, rfl⟩
  · by_cases hpc : p < cs.length
    · rw [List.getElem_append_left hpc]
      obtain ⟨V', hV'⟩ := h5 p hpc
      refine ⟨V', ?_⟩
      have e : (t ++ [b]).getD p .F = t.getD p .F := by
        rw [List.getD_eq_getElem?_getD, List.getD_eq_getElem?_getD, List.getElem?_append_left (by omega)]
      rw [e]
      exact hV'.off c0 f
    · obtain rfl : p = cs.length := by simp at hp; omega
      refine ⟨V, ?_⟩
      have e : (t ++ [b]).getD cs.length .F = b := by rw [h3]; simp
      simp only [List.getElem_concat_length]
      rw [e]
      exact hs.off c0 f
  · rw [flatV_snoc, List.length_append]; exact row'

set_option maxRecDepth 100000 in
set_option maxHeartbeats 4000000 in
/-- BOTH: the sets of a script, in both ways; their errors are the same. -/
theorem Both_any (L : List OpD) (hL : L.length ≤ 65535) (hx : ∀ x ∈ L, x.Fits ∧ x.l.length ≤ 1048576) (v : Value) (w : World) (hv : ORow w v L) (hg : 0 < w.heap.size) (hT : Tab32 w) :
    Calls Tryz.prog 8 #[v] w fun e w' => ∃ sv tv, e = .returned (.tuple #[sv, tv, .bool true]) ∧ DRow w' sv (scr L) ∧ TRow w' tv (scr L) ∧ Below w.heap.size w w' := by
  obtain ⟨a, cap, rfl⟩ := hv.form
  obtain ⟨i0, hi0, hz0, hz1, hz2⟩ := info_parts info_D
  obtain ⟨i1, hi1, hy0, hy1, hy2⟩ := info_parts info_set
  obtain ⟨dO, hdO, hrO⟩ := Option.map_eq_some_iff.1 under_op
  have HT := Lib.hid hT
  clear hT
  have row0 := World.ownsRow_lit (base := w.heap.size) (e := 32) (size := 2) w #[.int .u32 0, .string ⟨#[]⟩] 1 (Nat.le_refl _) (by unfold maxLen; omega) rfl
  have fr0 : Fr nob w (w.alloc (.cells #[.int .u32 0, .string ⟨#[]⟩] 32)) := (Fr.refl nob w).alloc _
  go_enter Tryz.func8, Tryz.ntmps8
  go_wp2_with fail
  refine (Const_any false _).mono ?_
  rintro e w1 ⟨v1, rfl, hs1, hb1⟩
  have f1 := (Fr.refl nob _).below hb1
  obtain ⟨q1, n1, c1, u1, m1, d1, rfl⟩ := hs1.form
  have fa := (Fr.refl nob w1).alloc (.cells #[.slice q1 n1 c1, .slice u1 m1 d1] 36)
  have B0 : BothSt (scr []) (scr []) w (.slice (some ⟨w.heap.size, 0, none⟩) 1 1) (.slice (some ⟨w1.heap.size, 0, none⟩) 1 1) (w1.alloc (.cells #[.slice q1 n1 c1, .slice u1 m1 d1] 36)) := by
    refine ⟨(fr0.trans f1 (fun _ _ h => h)).alloc _, fa.row (f1.row row0 (fun _ _ h => h)) (fun _ _ h => h), [(.slice q1 n1 c1, .slice u1 m1 d1)], rfl, ?_, ?_, ?_⟩
    · intro p hp
      obtain rfl : p = 0 := by simp at hp; omega
      exact ⟨_, _, _, _, _, _, rfl⟩
    · intro p hp
      obtain rfl : p = 0 := by simp at hp; omega
      exact ⟨_, (hs1.kept fa).congr (fun c => rfl)⟩
    · exact World.ownsRow_lit w1 #[.slice q1 n1 c1, .slice u1 m1 d1] 1 (Nat.le_trans fr0.size f1.size) (by unfold maxLen; omega) rfl
  clear hs1 hb1 row0 fr0 f1 fa
  go_wp2_with fail
  go_loopw [5, 6, 7, 8] (fun sv tv ov iv wr => ∃ n : Nat, n ≤ L.length ∧ iv = .int .i64 (n : Int) ∧ ov = .bool true ∧ BothSt (scr (L.take n)) (scr (L.take n)) w sv tv wr) (fun _ _ _ iv _ => L.length - (intOf iv).toNat)
  case atStart => exact ⟨0, Nat.zero_le _, rfl, rfl, B0⟩
  case round =>
    clear B0
    obtain ⟨n, hn, rfl, rfl, S⟩ := hrel
    have frk := S.fr
    by_cases hlt : n < L.length
    · have hd : L[n]? = some L[n] := by simp [hlt]
      have ht : L.take (n + 1) = L.take n ++ [L[n]] := by rw [List.take_add_one, hd]; rfl
      have hm := hx _ (List.getElem_mem hlt)
      have hnext : scr (L.take (n + 1)) = scr (L.take n) ++ [opB L[n] (scr (L.take n))] := by rw [ht, scr_snoc]
      have hlen : (scr (L.take n)).length = n + 1 := by rw [scr_len, List.length_take]; omega
      have hok := ok_scr (L.take n)
      have HN := Lib.hid hnext
      clear hnext ht
      obtain ⟨g, o, lv, rfl, hr, hi⟩ := (hv.kept frk).at hd
      generalize L[n] = x at *
      generalize scr (L.take n) = s at *
      have hs0 : 0 < s.length := by omega
      have hs1 : s.length ≤ 65536 := by omega
      obtain ⟨rb, hrb⟩ : ∃ rb, opB x s = rb := ⟨_, rfl⟩
      obtain ⟨re, hre⟩ : ∃ re, opE x = re := ⟨_, rfl⟩
      have hcall := Lib.hid fun W (f : Fr nob wr W) => one_in x hm.1 lv _ s hs0 hs1 hok hm.2 W ((dRow_of S.rowS).kept f) (hi.kept f (fun _ _ h => h)) (Nat.lt_of_lt_of_le hg (Nat.le_trans frk.size f.size)) (HT.out.below ((frk.trans f (fun _ _ h => h)).to_below (B := w.heap.size) (Nat.le_refl _) (fun _ h => h.elim)) hg) rb re hrb hre
      have hcall2 := Lib.hid fun W (f : Fr nob wr W) => said_in x hm.1 lv _ s hs0 hs1 hok hm.2 W ((S.tRow hs0).kept f) (hi.kept f (fun _ _ h => h)) rb re hrb hre
      have HRB := Lib.hid hrb
      have HLEN := Lib.hid hlen
      have HR := Lib.hid hr
      have HS := Lib.hid S
      clear hrb hre hok hlen hi hd hr S
      have hlt' : (n : Int) < (L.length : Int) := by omega
      go_upto_region 7 with fail
      refine wp_region_lit ?_
      go_wp2_with (refine wpList_load_mid rfl 60 (.tmp 26) rfl g (o + n * 12) rfl (opc x lv) _ HR.out hdO hrO info_op ?_)
      refine (hcall.out wr (Fr.refl _ _)).mono ?_
      clear hcall
      rintro e w2 ⟨rfl, hb2⟩
      have f2 := (Fr.refl nob wr).below hb2
      have f3 := f2.alloc (.cells #[.int .u32 (place (li rb) rb : Int), .string ⟨(code (rows (li rb))).toArray⟩] 32)
      obtain ⟨d0, d1⟩ := two_cells' w2 (.int .u32 (place (li rb) rb : Int)) (.string ⟨(code (rows (li rb))).toArray⟩) 32
      have HR2 := Lib.hid (range_kept HR.out f3 (fun h => h))
      clear hb2 HR f2
      go_upto_region 8 with fail
      refine wp_region_lit ?_
      generalize w2.alloc (.cells #[.int .u32 (place (li rb) rb : Int), .string ⟨(code (rows (li rb))).toArray⟩] 32) = W2 at *
      go_wp2_with (refine wpList_load_mid rfl 60 (.tmp 35) rfl g (o + n * 12) rfl (opc x lv) _ HR2.out hdO hrO info_op ?_)
      refine (hcall2.out _ f3).mono ?_
      clear hcall2 HR2
      rintro e w4 h4
      obtain ⟨v4, V4, rfl, hs4, hb4⟩ := h4
      obtain ⟨q4, n4, c4, u4, m4, d4, rfl⟩ := hs4.form
      have f4 := (Fr.refl nob W2).below hb4
      have fw := f3.trans f4 (fun _ _ h => h)
      have own := fun k hk => Nat.lt_of_lt_of_le ((HS.out.rowS).lt k hk).2 fw.size
      have f6 := (fw.alloc (.cells #[.slice q4 n4 c4, .slice u4 m4 d4] 36)).alloc (.cells #[.int .u32 (place (li rb) rb : Int), .string ⟨(code (rows (li rb))).toArray⟩] 32)
      have SW := HS.out.kept f6
      replace d0 := cell_alloc_l (f4.cell' d0 (fun h => h)) (.cells #[.slice q4 n4 c4, .slice u4 m4 d4] 36)
      replace d1 := cell_alloc_l (f4.cell' d1 (fun h => h)) (.cells #[.slice q4 n4 c4, .slice u4 m4 d4] 36)
      obtain ⟨e0, e1⟩ := two_cells' w4 (.slice q4 n4 c4) (.slice u4 m4 d4) 36
      replace e0 := cell_alloc_l e0 (.cells #[.int .u32 (place (li rb) rb : Int), .string ⟨(code (rows (li rb))).toArray⟩] 32)
      replace e1 := cell_alloc_l e1 (.cells #[.int .u32 (place (li rb) rb : Int), .string ⟨(code (rows (li rb))).toArray⟩] 32)
      obtain ⟨k0, k1⟩ := two_cells' (w4.alloc (.cells #[.slice q4 n4 c4, .slice u4 m4 d4] 36)) (.int .u32 (place (li rb) rb : Int)) (.string ⟨(code (rows (li rb))).toArray⟩) 32
      simp only [World.size_alloc] at k0 k1
      have hs6 := hs4.kept ((Fr.refl nob w4).alloc (.cells #[.slice q4 n4 c4, .slice u4 m4 d4] 36) |>.alloc (.cells #[.int .u32 (place (li rb) rb : Int), .string ⟨(code (rows (li rb))).toArray⟩] 32))
      have hz6 := f6.size
      have hzw := SW.fr.size
      clear hs4 hb4 f3 fw f4
      go_wp2_with (at_builtin; refine wpList_append_own _ rfl _ _ 27 rfl w.heap.size 32 i0 (.agg #[.int .u32 0, .string ⟨#[]⟩]) 2 24 Tryz.underlying27 hi0 hz0 hz1 hz2 rfl (by decide) _ s.length (s.flatMap dc) rfl SW.rowS ⟨w4.heap.size + 1, 0, none⟩ 1 1 (dc rb) rfl ?c1 ?c2 ?c3 ?c4 ?c5 ?c6 ?_)
      case c1 => rfl
      case c2 =>
        intro j u hj
        match j, hj with
        | 0, h => simp at h; subst h; exact k0
        | 1, h => simp at h; subst h; exact k1
      case c3 => intro u hu; simp at hu; rcases hu with rfl | rfl <;> rfl
      case c4 => unfold maxLen; omega
      case c5 => omega
      case c6 => exact hzw
      intro vo w8 row8 gr8 _
      have S8 := SW.addS (b := rb) hs0 gr8 (by rw [List.length_append, List.flatMap_append, List.flatMap_singleton]; exact row8)
      have hs8 := SW.keepS hs0 gr8 hs6
      have ee0 := grown_cell gr8 e0 own
      have ee1 := grown_cell gr8 e1 own
      have f9 := (Fr.refl nob w8).alloc (.cells #[.slice q4 n4 c4, .slice u4 m4 d4] 36)
      have S9 := S8.kept f9
      have hs9 := hs8.kept f9
      obtain ⟨cs, h3, h4, h5, h6⟩ := S9.rowT
      obtain ⟨k0, k1⟩ := two_cells' w8 (.slice q4 n4 c4) (.slice u4 m4 d4) 36
      have hz9 := S9.fr.size
      clear gr8 row8 SW S8 hs8 hs6 e0 e1 d0 d1 f6 f9
      go_wp2_with (at_builtin; refine wpList_append_own _ rfl _ _ 28 rfl w.heap.size 36 i1 (.agg #[.slice none 0 0, .slice none 0 0]) 2 48 Tryz.underlying28 hi1 hy0 hy1 hy2 rfl (by decide) _ s.length (flatV cs) rfl h6 ⟨w8.heap.size, 0, none⟩ 1 1 [.slice q4 n4 c4, .slice u4 m4 d4] rfl ?c7 ?c8 ?c9 ?c10 ?c11 ?c12 ?_)
      case c7 => rfl
      case c8 =>
        intro j u hj
        match j, hj with
        | 0, h => simp at h; subst h; exact k0
        | 1, h => simp at h; subst h; exact k1
      case c9 => intro u hu; simp at hu; rcases hu with rfl | rfl <;> rfl
      case c10 => unfold maxLen; omega
      case c11 => omega
      case c12 => exact hz9
      intro vt w10 row10 gr10 _
      have S10 := Lib.hid (S9.addT (b := rb) hs0 gr10 hs9 h3 h4 h5 h6 row10)
      clear gr10 row10 S9 hs9 h4 h5 h6 ee0 ee1 k0 k1
      go_wp2_with fail
      refine ⟨⟨n + 1, hlt, by simp, rfl, ?_⟩, by simp [intOf]; omega⟩
      rw [HN.out, HRB.out]
      exact S10.out
    · obtain rfl : n = L.length := by omega
      rw [List.take_length] at S
      have HD := Lib.hid (dRow_of S.rowS)
      have HTR := Lib.hid (S.tRow (by rw [scr_len]; omega))
      have HB := Lib.hid (frk.to_below (B := w.heap.size) (Nat.le_refl _) (fun _ h => h.elim))
      clear S frk
      go_wp2_with fail
      exact bodyPost_ret (v := .tuple #[u5, u6, .bool true]) (by simp [results, Tryz.results8, go_sem]) rfl ⟨_, _, rfl, HD.out, HTR.out, HB.out⟩
end Go.Proofs.YtalnhlebgofiiaaGreatDoor
namespace Go.Proofs.YtalnhlebgofiiaaGreatDoor
open Go.RowKit Go.Shelf
open Bd

theorem or_lt {a b : Nat} (ha : a < 4294967296) (hb : b < 4294967296) : bits BinOp.or IntKind.u32 (a : Int) (b : Int) = ((a ||| b : Nat) : Int) ∧ a ||| b < 4294967296 :=
  ⟨(bits_nat .u32 32 (by decide) wraps_u32 a b ha hb).2, Nat.or_lt_two_pow (n := 32) ha hb⟩
theorem or_pow {a i : Nat} (ha : a < 4294967296) (hi : i < 24) : ∃ f : Nat, bits BinOp.or IntKind.u32 (a : Int) (2 ^ i % 4294967296) = (f : Int) ∧ f < 4294967296 := by
  have h2 : 2 ^ i < 2 ^ 24 := Nat.pow_lt_pow_right (by omega) hi
  have h := or_lt ha (b := 2 ^ i) (by omega)
  exact ⟨_, by rw [pow_u32 hi]; exact h.1, h.2⟩

set_option maxRecDepth 100000 in
set_option maxHeartbeats 8000000 in
/-- MENTIONED: it returns; and if it says so, the script and its lists are short. -/
theorem Mentioned_any (L : List OpD) (hx : ∀ x ∈ L, x.Fits) (v : Value) (w : World) (hv : ORow w v L) :
    Calls Tryz.prog 6 #[v] w fun e w' => ∃ b : Bool, e = .returned (.bool b) ∧ (b = true → L.length ≤ 12 ∧ ∀ x ∈ L, x.l.length ≤ 40) ∧ Below w.heap.size w w' := by
  obtain ⟨a, cap, rfl⟩ := hv.form
  obtain ⟨dO, hdO, hrO⟩ := Option.map_eq_some_iff.1 under_op
  go_enter Tryz.func6, Tryz.ntmps6
  by_cases hlong : 12 < L.length
  · have hlong' : (12 : Int) < (L.length : Int) := by omega
    go_wp2_with fail
    go_ret
    exact ⟨false, rfl, (fun h => by cases h), Below.refl _ _⟩
  have hlong' : ¬ (12 : Int) < (L.length : Int) := by omega
  go_wp2_with fail
  go_loopw [3, 4] (fun fv iv wr => ∃ n f : Nat, n ≤ L.length ∧ iv = .int .i64 (n : Int) ∧ fv = .int .u32 (f : Int) ∧ f < 4294967296 ∧ Fr nob w wr ∧ ∀ x ∈ L.take n, x.l.length ≤ 40) (fun _ iv _ => L.length - (intOf iv).toNat)
  case atStart => exact ⟨0, 0, Nat.zero_le _, rfl, rfl, by decide, Fr.refl _ _, fun x h => by simp at h⟩
  case round =>
    obtain ⟨n, f, hn, rfl, rfl, hf, frk, hall⟩ := hrel
    by_cases hlt : n < L.length
    · have hlt' : (n : Int) < (L.length : Int) := by omega
      have hd : L[n]? = some L[n] := by simp [hlt]
      have ht : L.take (n + 1) = L.take n ++ [L[n]] := by rw [List.take_add_one, hd]; rfl
      have hm := hx _ (List.getElem_mem hlt)
      obtain ⟨g, o, lv, rfl, hr, hi⟩ := (hv.kept frk).at hd
      have HALL := Lib.hid hall
      have HTK := Lib.hid ht
      generalize L[n] = x at *
      obtain ⟨al, capl, rfl⟩ := hi.form
      have HR := Lib.hid hr
      clear hr hall hd ht
      go_upto_region 7 with fail
      refine wp_region_lit ?_
      go_upto_region 8 with (refine wpList_load_mid rfl 60 (.tmp 18) rfl g (o + n * 12) rfl (opc x (.slice al x.l.length capl)) _ HR.out hdO hrO info_op ?_)
      have box := heap_alloc_new wr (.cells (opc x (.slice al x.l.length capl)).toArray 60)
      have fA : Fr nob wr (wr.alloc (.cells (opc x (.slice al x.l.length capl)).toArray 60)) := (Fr.refl nob wr).alloc _
      have hi2 := Lib.hid (hi.kept fA (fun _ _ h => h))
      have frA := frk.trans fA (fun _ _ h => h)
      generalize wr.alloc (.cells (opc x (.slice al x.l.length capl)).toArray 60) = W at *
      have hk : ∀ j u, (opc x (.slice al x.l.length capl))[j]? = some u → W.cell? ⟨wr.heap.size, j, none⟩ = some u := fun j u h => by rw [cell_of_row W wr.heap.size j _ _ (0, 0) box]; simpa using h
      have q0 := hk 0 _ rfl
      have q5 := hk 5 _ rfl
      have q8 := hk 8 _ rfl
      have q9 := hk 9 _ rfl
      have q10 := hk 10 _ rfl
      have HFR := Lib.hid frA
      have hX := hm
      have hB : Below w.heap.size w W := frA.to_below (Nat.le_refl _) (fun _ h => h.elim)
      have HB := Lib.hid hB
      clear hk box fA frA frk hi HR hm hB
      have hcases : (x.d = 2 ∧ 0 ≤ x.i ∧ x.i < 24) ∨ (x.d = 2 ∧ x.i < 0) ∨ (x.d = 2 ∧ ¬ x.i < 0 ∧ ¬ x.i < 24) ∨ x.d = 3 ∨ x.d = 12 ∨ x.d = 13 ∨ ¬ (x.d = 2 ∨ x.d = 3 ∨ x.d = 12 ∨ x.d = 13) := by omega
      rcases hcases with ⟨hd, h0, h1⟩ | ⟨hd, h0⟩ | ⟨hd, h0, h1⟩ | hd | hd | hd | hd
      · clear q8 q9
        rw [hd] at q0
        have hi24 : x.i.toNat < 24 := by omega
        obtain ⟨f1, e1, hf1⟩ := or_pow hf hi24
        have E1 := Lib.hid e1
        clear e1
        by_cases h40 : 40 < x.l.length
        · have h40' : (40 : Int) < (x.l.length : Int) := by omega
          go_wp2_with fail
          go_ret
          first | exact ⟨false, rfl, (fun h => by cases h), HB.out⟩ | exact .inl ⟨rfl, HB.out⟩
        · have h40' : ¬ (40 : Int) < (x.l.length : Int) := by omega
          go_wp2_with fail
          go_loop [3, 6] (fun fv kv => ∃ f2 m : Nat, fv = .int .u32 (f2 : Int) ∧ f2 < 4294967296 ∧ kv = ik m ∧ m ≤ x.l.length) (fun _ kv => x.l.length - (intOf kv).toNat)
          case atStart => exact ⟨f1, 0, by rw [← E1.out], hf1, rfl, Nat.zero_le _⟩
          case round =>
            obtain ⟨f2, m, rfl, hf2, rfl, hm2⟩ := hrel
            by_cases c1 : m < x.l.length
            · have c1' : (m : Int) < (x.l.length : Int) := by omega
              by_cases c2 : m < 24
              · have c2' : (m : Int) < 24 := by omega
                go_wp2_with fail
                refine ⟨⟨n + 1, f2, hlt, by simp, rfl, hf2, HFR.out, ?_⟩, by simp [intOf]; omega⟩
                rw [HTK.out]
                intro y hy
                rcases List.mem_append.1 hy with hy | hy
                · exact HALL.out y hy
                · rw [List.mem_singleton.1 hy]; omega
              · have c2' : ¬ (m : Int) < 24 := by omega
                go_wp2_with fail
                refine ⟨⟨n + 1, f2, hlt, by simp, rfl, hf2, HFR.out, ?_⟩, by simp [intOf]; omega⟩
                rw [HTK.out]
                intro y hy
                rcases List.mem_append.1 hy with hy | hy
                · exact HALL.out y hy
                · rw [List.mem_singleton.1 hy]; omega
            · have c1' : ¬ (m : Int) < (x.l.length : Int) := by omega
              go_wp2_with fail
              refine ⟨⟨n + 1, f2, hlt, by simp, rfl, hf2, HFR.out, ?_⟩, by simp [intOf]; omega⟩
              rw [HTK.out]
              intro y hy
              rcases List.mem_append.1 hy with hy | hy
              · exact HALL.out y hy
              · rw [List.mem_singleton.1 hy]; omega
      · clear q8 q9
        rw [hd] at q0
        have h0' : ¬ 0 ≤ x.i := by omega
        by_cases h40 : 40 < x.l.length
        · have h40' : (40 : Int) < (x.l.length : Int) := by omega
          go_wp2_with fail
          go_ret
          first | exact ⟨false, rfl, (fun h => by cases h), HB.out⟩ | exact .inl ⟨rfl, HB.out⟩
        · have h40' : ¬ (40 : Int) < (x.l.length : Int) := by omega
          go_wp2_with fail
          go_loop [3, 6] (fun fv kv => ∃ f2 m : Nat, fv = .int .u32 (f2 : Int) ∧ f2 < 4294967296 ∧ kv = ik m ∧ m ≤ x.l.length) (fun _ kv => x.l.length - (intOf kv).toNat)
          case atStart => exact ⟨f, 0, rfl, hf, rfl, Nat.zero_le _⟩
          case round =>
            obtain ⟨f2, m, rfl, hf2, rfl, hm2⟩ := hrel
            by_cases c1 : m < x.l.length
            · have c1' : (m : Int) < (x.l.length : Int) := by omega
              by_cases c2 : m < 24
              · have c2' : (m : Int) < 24 := by omega
                go_wp2_with fail
                refine ⟨⟨n + 1, f2, hlt, by simp, rfl, hf2, HFR.out, ?_⟩, by simp [intOf]; omega⟩
                rw [HTK.out]
                intro y hy
                rcases List.mem_append.1 hy with hy | hy
                · exact HALL.out y hy
                · rw [List.mem_singleton.1 hy]; omega
              · have c2' : ¬ (m : Int) < 24 := by omega
                go_wp2_with fail
                refine ⟨⟨n + 1, f2, hlt, by simp, rfl, hf2, HFR.out, ?_⟩, by simp [intOf]; omega⟩
                rw [HTK.out]
                intro y hy
                rcases List.mem_append.1 hy with hy | hy
                · exact HALL.out y hy
                · rw [List.mem_singleton.1 hy]; omega
            · have c1' : ¬ (m : Int) < (x.l.length : Int) := by omega
              go_wp2_with fail
              refine ⟨⟨n + 1, f2, hlt, by simp, rfl, hf2, HFR.out, ?_⟩, by simp [intOf]; omega⟩
              rw [HTK.out]
              intro y hy
              rcases List.mem_append.1 hy with hy | hy
              · exact HALL.out y hy
              · rw [List.mem_singleton.1 hy]; omega
      · clear q8 q9
        rw [hd] at q0
        have h0' : 0 ≤ x.i := by omega
        by_cases h40 : 40 < x.l.length
        · have h40' : (40 : Int) < (x.l.length : Int) := by omega
          go_wp2_with fail
          go_ret
          first | exact ⟨false, rfl, (fun h => by cases h), HB.out⟩ | exact .inl ⟨rfl, HB.out⟩
        · have h40' : ¬ (40 : Int) < (x.l.length : Int) := by omega
          go_wp2_with fail
          go_loop [3, 6] (fun fv kv => ∃ f2 m : Nat, fv = .int .u32 (f2 : Int) ∧ f2 < 4294967296 ∧ kv = ik m ∧ m ≤ x.l.length) (fun _ kv => x.l.length - (intOf kv).toNat)
          case atStart => exact ⟨f, 0, rfl, hf, rfl, Nat.zero_le _⟩
          case round =>
            obtain ⟨f2, m, rfl, hf2, rfl, hm2⟩ := hrel
            by_cases c1 : m < x.l.length
            · have c1' : (m : Int) < (x.l.length : Int) := by omega
              by_cases c2 : m < 24
              · have c2' : (m : Int) < 24 := by omega
                go_wp2_with fail
                refine ⟨⟨n + 1, f2, hlt, by simp, rfl, hf2, HFR.out, ?_⟩, by simp [intOf]; omega⟩
                rw [HTK.out]
                intro y hy
                rcases List.mem_append.1 hy with hy | hy
                · exact HALL.out y hy
                · rw [List.mem_singleton.1 hy]; omega
              · have c2' : ¬ (m : Int) < 24 := by omega
                go_wp2_with fail
                refine ⟨⟨n + 1, f2, hlt, by simp, rfl, hf2, HFR.out, ?_⟩, by simp [intOf]; omega⟩
                rw [HTK.out]
                intro y hy
                rcases List.mem_append.1 hy with hy | hy
                · exact HALL.out y hy
                · rw [List.mem_singleton.1 hy]; omega
            · have c1' : ¬ (m : Int) < (x.l.length : Int) := by omega
              go_wp2_with fail
              refine ⟨⟨n + 1, f2, hlt, by simp, rfl, hf2, HFR.out, ?_⟩, by simp [intOf]; omega⟩
              rw [HTK.out]
              intro y hy
              rcases List.mem_append.1 hy with hy | hy
              · exact HALL.out y hy
              · rw [List.mem_singleton.1 hy]; omega
      · clear q5
        rw [hd] at q0
        have e1 := or_lt hf hX.f
        have e2 := or_lt e1.2 hX.g
        have E1 := Lib.hid e1.1
        have E2 := Lib.hid e2.1
        have hf1 := e2.2
        clear e1 e2
        by_cases h40 : 40 < x.l.length
        · have h40' : (40 : Int) < (x.l.length : Int) := by omega
          go_wp2_with fail
          go_ret
          first | exact ⟨false, rfl, (fun h => by cases h), HB.out⟩ | exact .inl ⟨rfl, HB.out⟩
        · have h40' : ¬ (40 : Int) < (x.l.length : Int) := by omega
          go_wp2_with fail
          go_loop [3, 6] (fun fv kv => ∃ f2 m : Nat, fv = .int .u32 (f2 : Int) ∧ f2 < 4294967296 ∧ kv = ik m ∧ m ≤ x.l.length) (fun _ kv => x.l.length - (intOf kv).toNat)
          case atStart => exact ⟨_, 0, by rw [E1.out, E2.out], hf1, rfl, Nat.zero_le _⟩
          case round =>
            obtain ⟨f2, m, rfl, hf2, rfl, hm2⟩ := hrel
            by_cases c1 : m < x.l.length
            · have c1' : (m : Int) < (x.l.length : Int) := by omega
              by_cases c2 : m < 24
              · have c2' : (m : Int) < 24 := by omega
                go_wp2_with fail
                refine ⟨⟨n + 1, f2, hlt, by simp, rfl, hf2, HFR.out, ?_⟩, by simp [intOf]; omega⟩
                rw [HTK.out]
                intro y hy
                rcases List.mem_append.1 hy with hy | hy
                · exact HALL.out y hy
                · rw [List.mem_singleton.1 hy]; omega
              · have c2' : ¬ (m : Int) < 24 := by omega
                go_wp2_with fail
                refine ⟨⟨n + 1, f2, hlt, by simp, rfl, hf2, HFR.out, ?_⟩, by simp [intOf]; omega⟩
                rw [HTK.out]
                intro y hy
                rcases List.mem_append.1 hy with hy | hy
                · exact HALL.out y hy
                · rw [List.mem_singleton.1 hy]; omega
            · have c1' : ¬ (m : Int) < (x.l.length : Int) := by omega
              go_wp2_with fail
              refine ⟨⟨n + 1, f2, hlt, by simp, rfl, hf2, HFR.out, ?_⟩, by simp [intOf]; omega⟩
              rw [HTK.out]
              intro y hy
              rcases List.mem_append.1 hy with hy | hy
              · exact HALL.out y hy
              · rw [List.mem_singleton.1 hy]; omega
      · clear q5 q9
        rw [hd] at q0
        have e1 := or_lt hf hX.f
        have E1 := Lib.hid e1.1
        have hf1 := e1.2
        clear e1
        by_cases h40 : 40 < x.l.length
        · have h40' : (40 : Int) < (x.l.length : Int) := by omega
          go_wp2_with fail
          go_ret
          first | exact ⟨false, rfl, (fun h => by cases h), HB.out⟩ | exact .inl ⟨rfl, HB.out⟩
        · have h40' : ¬ (40 : Int) < (x.l.length : Int) := by omega
          go_wp2_with fail
          go_loop [3, 6] (fun fv kv => ∃ f2 m : Nat, fv = .int .u32 (f2 : Int) ∧ f2 < 4294967296 ∧ kv = ik m ∧ m ≤ x.l.length) (fun _ kv => x.l.length - (intOf kv).toNat)
          case atStart => exact ⟨_, 0, by rw [E1.out], hf1, rfl, Nat.zero_le _⟩
          case round =>
            obtain ⟨f2, m, rfl, hf2, rfl, hm2⟩ := hrel
            by_cases c1 : m < x.l.length
            · have c1' : (m : Int) < (x.l.length : Int) := by omega
              by_cases c2 : m < 24
              · have c2' : (m : Int) < 24 := by omega
                go_wp2_with fail
                refine ⟨⟨n + 1, f2, hlt, by simp, rfl, hf2, HFR.out, ?_⟩, by simp [intOf]; omega⟩
                rw [HTK.out]
                intro y hy
                rcases List.mem_append.1 hy with hy | hy
                · exact HALL.out y hy
                · rw [List.mem_singleton.1 hy]; omega
              · have c2' : ¬ (m : Int) < 24 := by omega
                go_wp2_with fail
                refine ⟨⟨n + 1, f2, hlt, by simp, rfl, hf2, HFR.out, ?_⟩, by simp [intOf]; omega⟩
                rw [HTK.out]
                intro y hy
                rcases List.mem_append.1 hy with hy | hy
                · exact HALL.out y hy
                · rw [List.mem_singleton.1 hy]; omega
            · have c1' : ¬ (m : Int) < (x.l.length : Int) := by omega
              go_wp2_with fail
              refine ⟨⟨n + 1, f2, hlt, by simp, rfl, hf2, HFR.out, ?_⟩, by simp [intOf]; omega⟩
              rw [HTK.out]
              intro y hy
              rcases List.mem_append.1 hy with hy | hy
              · exact HALL.out y hy
              · rw [List.mem_singleton.1 hy]; omega
      · clear q5 q8 q9
        rw [hd] at q0
        by_cases h40 : 40 < x.l.length
        · have h40' : (40 : Int) < (x.l.length : Int) := by omega
          go_wp2_with fail
          go_ret
          first | exact ⟨false, rfl, (fun h => by cases h), HB.out⟩ | exact .inl ⟨rfl, HB.out⟩
        · have h40' : ¬ (40 : Int) < (x.l.length : Int) := by omega
          go_wp2_with fail
          go_loop [3, 6] (fun fv kv => ∃ f2 m : Nat, fv = .int .u32 (f2 : Int) ∧ f2 < 4294967296 ∧ kv = ik m ∧ m ≤ x.l.length) (fun _ kv => x.l.length - (intOf kv).toNat)
          case atStart => exact ⟨f, 0, rfl, hf, rfl, Nat.zero_le _⟩
          case round =>
            obtain ⟨f2, m, rfl, hf2, rfl, hm2⟩ := hrel
            by_cases c1 : m < x.l.length
            · have c1' : (m : Int) < (x.l.length : Int) := by omega
              by_cases c2 : m < 24
              · have c2' : (m : Int) < 24 := by omega
                obtain ⟨ad, rfl, hcell⟩ := hi2.out.at (show x.l[m]? = some x.l[m] by simp [c1])
                generalize x.l[m] = xm at *
                by_cases hz : xm = 0
                · subst hz
                  go_wp2_with fail
                  refine ⟨⟨f2, m + 1, rfl, hf2, by go_num, c1⟩, by simp [intOf]; omega⟩
                · obtain ⟨f3, e3, hf3⟩ := or_pow hf2 c2
                  have E3 := Lib.hid e3
                  clear e3
                  go_wp2_with fail
                  refine ⟨⟨f3, m + 1, by rw [← E3.out], hf3, by go_num, c1⟩, by simp [intOf]; omega⟩
              · have c2' : ¬ (m : Int) < 24 := by omega
                go_wp2_with fail
                refine ⟨⟨n + 1, f2, hlt, by simp, rfl, hf2, HFR.out, ?_⟩, by simp [intOf]; omega⟩
                rw [HTK.out]
                intro y hy
                rcases List.mem_append.1 hy with hy | hy
                · exact HALL.out y hy
                · rw [List.mem_singleton.1 hy]; omega
            · have c1' : ¬ (m : Int) < (x.l.length : Int) := by omega
              go_wp2_with fail
              refine ⟨⟨n + 1, f2, hlt, by simp, rfl, hf2, HFR.out, ?_⟩, by simp [intOf]; omega⟩
              rw [HTK.out]
              intro y hy
              rcases List.mem_append.1 hy with hy | hy
              · exact HALL.out y hy
              · rw [List.mem_singleton.1 hy]; omega
      · clear q5 q8 q9
        have n2 : ((x.d : Int) == 2) = false := by simp only [beq_eq_false_iff_ne]; omega
        have n3 : ((x.d : Int) == 3) = false := by simp only [beq_eq_false_iff_ne]; omega
        have n12 : ((x.d : Int) == 12) = false := by simp only [beq_eq_false_iff_ne]; omega
        have n13 : ((x.d : Int) == 13) = false := by simp only [beq_eq_false_iff_ne]; omega
        by_cases h40 : 40 < x.l.length
        · have h40' : (40 : Int) < (x.l.length : Int) := by omega
          go_wp2_with fail
          go_ret
          first | exact ⟨false, rfl, (fun h => by cases h), HB.out⟩ | exact .inl ⟨rfl, HB.out⟩
        · have h40' : ¬ (40 : Int) < (x.l.length : Int) := by omega
          go_wp2_with fail
          go_loop [3, 6] (fun fv kv => ∃ f2 m : Nat, fv = .int .u32 (f2 : Int) ∧ f2 < 4294967296 ∧ kv = ik m ∧ m ≤ x.l.length) (fun _ kv => x.l.length - (intOf kv).toNat)
          case atStart => exact ⟨f, 0, rfl, hf, rfl, Nat.zero_le _⟩
          case round =>
            obtain ⟨f2, m, rfl, hf2, rfl, hm2⟩ := hrel
            by_cases c1 : m < x.l.length
            · have c1' : (m : Int) < (x.l.length : Int) := by omega
              by_cases c2 : m < 24
              · have c2' : (m : Int) < 24 := by omega
                go_wp2_with fail
                refine ⟨⟨n + 1, f2, hlt, by simp, rfl, hf2, HFR.out, ?_⟩, by simp [intOf]; omega⟩
                rw [HTK.out]
                intro y hy
                rcases List.mem_append.1 hy with hy | hy
                · exact HALL.out y hy
                · rw [List.mem_singleton.1 hy]; omega
              · have c2' : ¬ (m : Int) < 24 := by omega
                go_wp2_with fail
                refine ⟨⟨n + 1, f2, hlt, by simp, rfl, hf2, HFR.out, ?_⟩, by simp [intOf]; omega⟩
                rw [HTK.out]
                intro y hy
                rcases List.mem_append.1 hy with hy | hy
                · exact HALL.out y hy
                · rw [List.mem_singleton.1 hy]; omega
            · have c1' : ¬ (m : Int) < (x.l.length : Int) := by omega
              go_wp2_with fail
              refine ⟨⟨n + 1, f2, hlt, by simp, rfl, hf2, HFR.out, ?_⟩, by simp [intOf]; omega⟩
              rw [HTK.out]
              intro y hy
              rcases List.mem_append.1 hy with hy | hy
              · exact HALL.out y hy
              · rw [List.mem_singleton.1 hy]; omega
    · obtain rfl : n = L.length := by omega
      rw [List.take_length] at hall
      have HALL := Lib.hid hall
      have hfe := Features_any f hf wr
      have hlen : (featL f).length ≤ 24 := rising_len (rising_featL f)
      have HL := Lib.hid hlong
      have hwr := frk
      clear hall hlong hv hx
      go_wp2_with fail
      refine hfe.mono ?_
      clear hfe
      rintro e w5 ⟨v5, rfl, hs5, hb5⟩
      obtain ⟨q5, c5, rfl⟩ := hs5.form
      rw [List.length_map]
      have HB := Lib.hid ((hwr.below hb5).to_below (B := w.heap.size) (Nat.le_refl _) (fun _ h => h.elim))
      clear hs5 hb5 hwr frk
      go_wp2_with fail
      go_ret
      exact ⟨_, rfl, fun _ => ⟨Nat.not_lt.1 HL.out, HALL.out⟩, HB.out⟩
end Go.Proofs.YtalnhlebgofiiaaGreatDoor
