import Derived.Test.YtaojojjdfdlgpaaDn
namespace Go.Proofs.Ytaojojjdfdlgpaa
open Go.RowKit Uq

/-! handOn -/
theorem hand_holds {s : DS} {g : Nat} {lit a : Int} {t : List Int} (hn : normP (s.cl g) lit = a :: lit :: t) (h : s.holds a = true) : handP s g lit = (false, { s with cl := upF s.cl g (a :: lit :: t) }) := by
  unfold handP; rw [hn]; simp only; rw [if_pos h]
theorem oth_none {h : Int → Bool} : ∀ {t : List Int}, (∀ x ∈ t, h (-x) = true) → othP h t = none
  | [], _ => rfl
  | y :: t, e => by rw [othP, if_neg (by rw [e y (by simp)]; decide), oth_none fun x hx => e x (by simp [hx])]; rfl
theorem oth_some {h : Int → Bool} : ∀ {t : List Int} {j : Nat} {y : Int}, (∀ (i : Nat) z, i < j → t[i]? = some z → h (-z) = true) → t[j]? = some y → h (-y) = false → othP h t = some j
  | [], j, y, _, hy, _ => by simp at hy
  | z :: t, 0, y, _, hy, hf => by
    simp at hy
    subst hy
    rw [othP, if_pos hf]
  | z :: t, j + 1, y, hb, hy, hf => by
    rw [othP, if_neg (by rw [hb 0 z (by omega) rfl]; decide), oth_some (j := j) (y := y) (fun i u hi hu => hb (i + 1) u (by omega) (by simpa using hu)) (by simpa using hy) hf]
    rfl
theorem hand_none {s : DS} {g : Nat} {lit a : Int} {t : List Int} (hn : normP (s.cl g) lit = a :: lit :: t) (h : s.holds a = false) (ho : othP s.holds t = none) : handP s g lit = (false, { s with cl := upF s.cl g (a :: lit :: t) }) := by
  unfold handP; rw [hn]; simp only; rw [if_neg (by rw [h]; decide), ho]
theorem hand_some {s : DS} {g : Nat} {lit a y : Int} {t : List Int} {j : Nat} (hn : normP (s.cl g) lit = a :: lit :: t) (h : s.holds a = false) (ho : othP s.holds t = some j) (hy : t[j]? = some y) :
    handP s g lit = (true, { s with cl := upF s.cl g (a :: y :: t.set j lit), watched := upF s.watched y (s.watched y ++ [g]) }) := by
  unfold handP; rw [hn]; simp only; rw [if_neg (by rw [h]; decide), ho]
  have : t.getD j 0 = y := by rw [List.getD_eq_getElem?_getD, hy]; rfl
  simp only [this]
theorem Sm.cl {sh : Nat → Nat × Nat} {G : Nat → Prop} {s : DS} {c : Nat → Value} (h : Sm sh G s c) (cl : Nat → List Int) : Sm sh G { s with cl := cl } c := ⟨h.hd, h.rs, h.nx, h.kn, h.cf, h.bk, h.wG, h.rG, h.cG⟩
theorem rowS_cl (sh : Nat → Nat × Nat) (s : DS) (cl : Nat → List Int) : rowS sh { s with cl := cl } = rowS sh s := rfl
/-- a clause is written anew, with the same length -/
theorem Dm.clause {w w' : World} {Z : Nat → Prop} {x d : Nat} {sh : Nat → Nat × Nat} {G : Nat → Prop} {s : DS} {c : Nat → Value} (h : Dm w Z x d sh G s c) {g : Nat} (hg : G g) (f : Fr (fun k => k = g) w w') {l : List Int} (hc : CB w' g sh l) : Dm w' Z x d sh G { s with cl := upF s.cl g l } c :=
  ⟨h.hp.clause hg f hc, h.sm.cl _⟩
theorem Dm.same {w : World} {Z : Nat → Prop} {x d : Nat} {sh : Nat → Nat × Nat} {G : Nat → Prop} {s : DS} {c : Nat → Value} (h : Dm w Z x d sh G s c) (g : Nat) : Dm w Z x d sh G { s with cl := upF s.cl g (s.cl g) } c := by
  have e : upF s.cl g (s.cl g) = s.cl := by
    funext k
    unfold upF
    split
    · rename_i e; rw [e]
    · rfl
  rw [e]
  exact h
theorem CB.set1 {w : World} {g : Nat} {sh : Nat → Nat × Nat} {l : List Int} (h : CB w g sh l) (j : Nat) (y : Int) : CB (w.setCell ⟨g, j, none⟩ (.int .i64 y)) g sh (l.set j y) := by
  refine ⟨by rw [List.length_set]; exact h.len, fun i z hi => ?_, fun o => (frozen_setCell _ _ _ _).trans (h.free o), h.cap⟩
  rw [List.getElem?_set] at hi
  split at hi
  · rename_i e
    subst e
    split at hi
    · rename_i hl
      cases hi
      exact World.cell?_setCell_same' _ _ _ (by rw [h.cell j l[j] (List.getElem?_eq_getElem hl)]; rfl)
    · cases hi
  · rename_i e
    rw [World.cell?_setCell_other (h := by intro e2; injection e2 with _ e3 _; exact e e3)]
    exact h.cell i z hi
theorem step_append_own2 {P : Program} {ops : Array Oper} {o : Oper} {a : Act} {w : World} {K : Act → World → Prop} {Q : Exit → Act → World → Prop} {E : Prop}
    (hg : o.guard = none) (s x : Operand) (t : TypeId) (hop : o.op = Op.call { callee := Callee.builtin Builtin.append, args := #[s, x], argTypes := #[t, t] })
    (e : TypeId) (i : TypeInfo) (z : Value) (size bytes : Nat) (h1 : P.underlying t = some (.slice e)) (h2 : P.info? e = some i) (h3 : i.zero = some z) (h4 : i.size = size) (h5 : i.bytes = bytes) (h6 : z.cells.size = size) (h7 : 0 < size)
    (base : Nat) (v : Value) (n : Nat) (xs : List Value) (hs : a.eval s = v) (hown : w.ownsRow base e size v n xs)
    (ad : Addr) (m c : Nat) (news : List Value) (hx : a.eval x = .slice (some ad) m c) (hn : news.length = m * size) (hc : ∀ j u, news[j]? = some u → w.cell? (ad.add j) = some u) (h1c : ∀ u ∈ news, u.oneCell' = true)
    (b1 : n + m ≤ maxLen) (b2 : (n + m) * bytes ≤ 140737488355328) (hbase : base ≤ w.heap.size)
    (hK : ∀ v' w', w'.ownsRow base e size v' (n + m) (xs ++ news) → w.grownBy w' v.ownBlock → (v'.ownBlock = v.ownBlock ∨ v'.ownBlock = some w.heap.size) → K (a.put o.dst v') w') :
    if Region.wanted o (yielded ops a.tmps) = true then Oper.wp P o a w K Q else E := by
  have hw : Region.wanted o (yielded ops a.tmps) = true := by simp [Region.wanted, hg]
  rw [if_pos hw]
  obtain ⟨v', w', hrun, r1, r2, _, r3⟩ := run_append_own_at (P := P) w base t o.type e i z size bytes h1 h2 h3 h4 h5 h6 h7 v n xs hown ad m c news hn hc h1c b1 b2 hbase
  unfold Oper.wp
  simp [execOp, hop, resolve, invoke, builtin, hs, hx, hrun, Result.andThen]
  exact hK v' w' r1 r2 r3
theorem own_fr (w : World) (o : Obj) (w5 : World) (tv : Value) (h : (w.drew.alloc o).grownBy w5 tv.ownBlock) : Fr (fun k => tv.ownBlock = some k) w.drew w5 :=
  (((Fr.refl nob w.drew).alloc o).mono (T := fun k => tv.ownBlock = some k) (fun _ _ h => h.elim)).grown h (fun _ hk _ => hk)
theorem hand_dm {w : World} {Z : Nat → Prop} {x d : Nat} {sh : Nat → Nat × Nat} {G : Nat → Prop} {s : DS} {c : Nat → Value} {cl : Nat → List Int} {g : Nat} {y : Int} {py : Nat} {v : Value}
    (h : Hp w Z x d sh G cl (fun j => if j = 98 + py then (s.watched y ++ [g]).map (clV sh) else rowS sh { s with cl := cl } j) (upd c (98 + py) v)) (k : Sm sh G { s with cl := cl } c) (hg : G g) (hy : y + 24 = (py : Int)) (hpy : py < 49) :
    Dm w Z x d sh G { s with cl := cl, watched := upF s.watched y (s.watched y ++ [g]) } (upd c (98 + py) v) := by
  have u : ∀ j, j < 98 ∨ 147 < j → upd c (98 + py) v j = c j := fun j e1 => by unfold upd; rw [if_neg (by omega)]
  refine ⟨h.congr (fun _ _ => rfl) fun i i1 i2 _ => ?_, ⟨fun i hi => ?_, fun i hi => ?_, ?_, ?_, ?_, ?_, fun i z hz => ?_, k.rG, k.cG⟩⟩
  · unfold rowS
    by_cases e : i = 147
    · rw [if_pos e, if_neg (by omega), if_pos e]
    · rw [if_neg e]
      by_cases e2 : i = 98 + py
      · rw [if_pos e2, show ((i : Int) - 122) = y by omega]
        dsimp only
        rw [upF_same]
      · rw [if_neg e2, if_neg e]
        dsimp only
        rw [upF_other _ _ (by omega)]
  · rw [u i (by omega)]; exact k.hd i hi
  · rw [u _ (by omega)]; exact k.rs i hi
  · rw [u _ (by omega)]; exact k.nx
  · rw [u _ (by omega)]; exact k.kn
  · rw [u _ (by omega)]; exact k.cf
  · rw [u _ (by omega)]; exact k.bk
  · change z ∈ upF s.watched y (s.watched y ++ [g]) i at hz
    by_cases e : i = y
    · rw [e, upF_same] at hz
      rcases List.mem_append.1 hz with hz | hz
      · exact k.wG y z hz
      · simp at hz; rw [hz]; exact hg
    · rw [upF_other _ _ e] at hz
      exact k.wG i z hz
set_option maxRecDepth 100000 in
set_option maxHeartbeats 4000000 in
theorem handOn_dm (Z : Nat → Prop) (x d : Nat) (sh : Nat → Nat × Nat) (G : Nat → Prop) (s : DS) (c : Nat → Value) (g : Nat) (lit : Int) (w : World) (h : Dm w Z x d sh G s c) (hx : (x : Int) = lit + 24) (hg : G g) (htr : Tra s) (h2 : Two (s.cl g)) (hwa : wa (s.cl g) lit) (hf : -lit ∈ s.trail) (hb : ∀ i, i ≠ lit → (s.watched i).length ≤ 1000000) (hlen : (s.cl g).length ≤ 1000000) :
    Calls Try.prog 129 #[.pointer (some ⟨d, 0, none⟩), clV sh g, .int .i64 lit] w fun e w' => e = .returned (.bool (handP s g lit).1) ∧ ∃ c', Dm w' Z x d sh G (handP s g lit).2 c' ∧ c' (98 + x) = c (98 + x) ∧ Fr (fun k => ¬ Z k) w w' := by
  obtain ⟨a, t, hn, hal⟩ := norm_form h2 hwa
  have hperm := norm_perm (s.cl g) lit
  rw [hn] at hperm
  have hlits : ∀ y ∈ a :: lit :: t, Ltr y := fun y hy => h2.2.2 y (hperm.mem_iff.1 hy)
  have hl2 : (s.cl g).length = t.length + 2 := by rw [← hperm.length_eq]; rfl
  obtain ⟨hcb, hgz, hgl⟩ := h.hp.cls g hg
  obtain ⟨n, cp, hsh⟩ : ∃ n cp, sh g = (n, cp) := ⟨_, _, rfl⟩
  have hnl : n = t.length + 2 := by have := hcb.len; rw [hsh] at this; omega
  have hcap : n ≤ cp := by have := hcb.cap; rw [hsh] at this; exact this
  have hcv : clV sh g = .slice (some ⟨g, 0, none⟩) n cp := by unfold clV; rw [hsh]
  rw [hcv]
  have hgd : g ≠ d := fun e => h.hp.gd (e ▸ hg)
  obtain ⟨pa, hpa, hpa2⟩ := ltr_at (hlits a (by simp))
  have hcase : s.cl g = lit :: a :: t ∨ s.cl g = a :: lit :: t := by
    obtain ⟨p, q, v, hp⟩ := h2.form
    rw [hp] at hn ⊢
    by_cases e : p = lit
    · rw [normP, if_pos e] at hn
      simp only [List.cons.injEq] at hn
      exact .inl (by rw [e, hn.1, hn.2.2])
    · rw [normP, if_neg e] at hn
      exact .inr hn
  have HD := Lib.hid h
  have HN := Lib.hid hn
  have HL := Lib.hid hlits
  have HX := Lib.hid hx
  have HCB := Lib.hid hcb
  have HSH := Lib.hid hsh
  have HFT := Lib.hid hf
  have HTR := Lib.hid htr
  have HB := Lib.hid hb
  have HLEN := Lib.hid hlen
  have HL2 := Lib.hid hl2
  have hpl := fun w => place_any a (by omega) w
  rw [hpa] at hpl
  have HPA := Lib.hid hpa
  have HNL := Lib.hid hnl
  have q1 : (0 : Int) ≤ (pa : Int) := by omega
  have q2 : (pa : Int) < 49 := by omega
  have q3 : (0 : Int) < (n : Int) := by omega
  have q4 : (1 : Int) < (n : Int) := by omega
  have q5 : 0 < n := by omega
  have q6 : 1 < n := by omega
  clear h hn hlits hx hcb hsh hf htr hb hlen hl2 hperm h2 hwa hpa hcv
  have hnl6 : n ≤ 1000000 := by have h1 := HL2.out; have h2 := HLEN.out; omega
  clear hnl
  go_enter Try.func129, Try.ntmps129
  rcases hcase with hcl | hcl
  · rw [hcl] at HCB
    have e0 : w.cell? ⟨g, 0, none⟩ = some (.int .i64 lit) := HCB.out.cell 0 lit rfl
    have e1 : w.cell? ⟨g, 1, none⟩ = some (.int .i64 a) := HCB.out.cell 1 a rfl
    have f0 : w.frozen? ⟨g, 0, none⟩ = false := HCB.out.free 0
    have f1 : w.frozen? ⟨g, 1, none⟩ = false := HCB.out.free 1
    go_wp2_with fail
    have d0 : w.drew.cell? ⟨g, 0, none⟩ = some (.int .i64 lit) := e0
    have d1 : w.drew.cell? ⟨g, 1, none⟩ = some (.int .i64 a) := e1
    have z0 : w.drew.frozen? ⟨g, 0, none⟩ = false := HCB.out.free 0
    have z1 : w.drew.frozen? ⟨g, 1, none⟩ = false := HCB.out.free 1
    go_region
    have S1 : Fr (fun k => k = g) w ((w.setCell ⟨g, 0, none⟩ (.int .i64 a)).setCell ⟨g, 1, none⟩ (.int .i64 lit)) := (fr_store w g 0 (.int .i64 a)).trans (fr_store _ g 1 (.int .i64 lit)) (fun _ _ h => h)
    have C1 : CB ((w.setCell ⟨g, 0, none⟩ (.int .i64 a)).setCell ⟨g, 1, none⟩ (.int .i64 lit)) g sh (a :: lit :: t) := (HCB.out.set1 0 a).set1 1 lit
    have HD1 : Hid (Dm ((w.setCell ⟨g, 0, none⟩ (.int .i64 a)).setCell ⟨g, 1, none⟩ (.int .i64 lit)).drew Z x d sh G { s with cl := upF s.cl g (a :: lit :: t) } c) := Lib.hid ((HD.out.clause hg S1 C1).drew)
    have HF1 := Lib.hid ((S1.notZ (Z := Z) (fun k (e : k = g) => by rw [e]; exact hgz)).drew)
    clear e0 e1 f0 f1 d0 d1 z0 z1 S1 C1 HCB HD
    generalize ((w.setCell ⟨g, 0, none⟩ (.int .i64 a)).setCell ⟨g, 1, none⟩ (.int .i64 lit)).drew = w1 at *
    --A--
    go_wp2_with fail
    have D1 := HD1.out.drew
    have c0 : w1.drew.cell? ⟨d, pa, none⟩ = some (.bool (s.holds a)) := by rw [← HD1.out.sm.at HPA.out hpa2]; exact (D1.hp.mem pa (by omega)).1
    have e0 : w1.drew.cell? ⟨g, 0, none⟩ = some (.int .i64 a) := by
      have hc : CB w1.drew g sh (upF s.cl g (a :: lit :: t) g) := (D1.hp.cls g hg).1
      rw [upF_same] at hc
      exact hc.cell 0 a rfl
    have HD2 := Lib.hid D1
    have HF2 := Lib.hid (HF1.out.drew)
    clear D1 HD1 HF1
    obtain ⟨ha, hha⟩ : ∃ ha, s.holds a = ha := ⟨_, rfl⟩
    rw [hha] at c0
    have HHA := Lib.hid hha
    clear hha
    go_region_with (go_at_call 57; (with_reducible refine (hpl _).mono ?_); rintro e w' ⟨rfl, rfl⟩)
    clear c0 e0
    generalize w1.drew = w2 at *
    cases ha with
    | true =>
      have HE := Lib.hid (hand_holds HN.out HHA.out)
      go_wp2_with fail
      go_ret
      rw [HE.out]
      exact ⟨rfl, c, HD2.out, rfl, HF2.out⟩
    | false =>
      go_wp2_with fail
      go_loopg [7] t.length (fun m iv wr => ∃ k : Nat, 2 ≤ k ∧ k + m = n ∧ iv = .int .i64 (k : Int) ∧ (∀ (i : Nat) z, i + 2 < k → t[i]? = some z → s.holds (-z) = true) ∧ Dm wr Z x d sh G { s with cl := upF s.cl g (a :: lit :: t) } c ∧ Fr (fun k => ¬ Z k) w wr)
      case atStart => exact ⟨2, Nat.le_refl _, by rw [HNL.out]; omega, rfl, fun i z h => absurd h (by omega), HD2.out, HF2.out⟩
      case round =>
        clear HD2 HF2
        obtain ⟨k, hk2, hkm, rfl, hbef, hD, hF⟩ := hrel
        have HBEF := Lib.hid hbef
        have HD := Lib.hid hD
        have HF := Lib.hid hF
        have q7 : (0 : Int) ≤ (k : Int) := Int.natCast_nonneg _
        clear hbef hD hF
        cases gk with
        | zero =>
          obtain rfl : k = n := by omega
          have ho : othP s.holds t = none := oth_none fun z hz => by
            obtain ⟨i, hi, hiz⟩ := List.mem_iff_getElem.1 hz
            exact HBEF.out i z (by rw [HNL.out]; omega) (by rw [← hiz]; exact List.getElem?_eq_getElem hi)
          have HE := Lib.hid (hand_none HN.out HHA.out ho)
          clear ho
          go_wp2_with fail
          go_ret
          rw [HE.out]
          exact ⟨rfl, c, HD.out, rfl, HF.out⟩
        | succ m =>
          have hj : k - 2 < t.length := by have := HNL.out; omega
          have hjt : t[k - 2]? = some t[k - 2] := List.getElem?_eq_getElem hj
          have hmem : t[k - 2] ∈ t := List.getElem_mem hj
          generalize t[k - 2] = y at hjt hmem
          have hly := HL.out y (by simp [hmem])
          obtain ⟨py, hpy, hpy2⟩ := ltr_at hly
          obtain ⟨qy, hqy, hqy2⟩ := ltr_at hly.neg
          have q8 : (k : Int) < (n : Int) := by omega
          have hcbr : CB wr g sh (upF s.cl g (a :: lit :: t) g) := (HD.out.hp.cls g hg).1
          rw [upF_same] at hcbr
          have ey : wr.cell? ⟨g, k, none⟩ = some (.int .i64 y) := hcbr.cell k y (by
            obtain ⟨i, rfl⟩ : ∃ i, k = i + 2 := ⟨k - 2, by omega⟩
            exact hjt)
          have hpq := fun w => place_any (-y) (by omega) w
          rw [hqy, ← wrap_neg y (by unfold Ltr at hly; omega)] at hpq
          have D1 := HD.out.drew
          obtain ⟨hy, hhy⟩ : ∃ hy, s.holds (-y) = hy := ⟨_, rfl⟩
          have c0 : wr.drew.cell? ⟨d, qy, none⟩ = some (.bool hy) := by
            rw [← hhy, ← HD.out.sm.at hqy hqy2]; exact (D1.hp.mem qy (by omega)).1
          have HHY := Lib.hid hhy
          have HD1 := Lib.hid D1
          have HF1 := Lib.hid (HF.out.drew)
          have HJT := Lib.hid hjt
          have HPY := Lib.hid hpy
          have HLY := Lib.hid hly
          have q9 : (0 : Int) ≤ (qy : Int) := by omega
          have q10 : (qy : Int) < 49 := by omega
          clear D1 hhy hqy hpy hcbr HD HF hj hjt hmem hly
          go_wp2_with fail
          go_region_with (go_at_call 57; (with_reducible refine (hpq _).mono ?_); rintro e w' ⟨rfl, rfl⟩)
          clear c0 ey hpq
          generalize wr.drew = w3 at *
          cases hy with
          | true =>
            have hb2 : ∀ (i : Nat) z, i + 2 < k + 1 → t[i]? = some z → s.holds (-z) = true := by
              intro i z hi hz
              by_cases e : i + 2 = k
              · have e2 : i = k - 2 := by omega
                rw [e2, HJT.out] at hz
                cases hz
                exact HHY.out
              · exact HBEF.out i z (by omega) hz
            have HB2 := Lib.hid hb2
            clear hb2
            go_wp2_with fail
            go_roundg m
            case measure => omega
            case rel => exact ⟨k + 1, by omega, by omega, by go_num, HB2.out, HD1.out, HF1.out⟩
          | false =>
            have hne : y ≠ lit := fun e => by
              have := (HTR.out.holds _).2 HFT.out
              rw [← e, HHY.out] at this
              cases this
            have hpx : py ≠ x := fun e => hne (by have h1 := HX.out; have h2 := HPY.out; omega)
            have ho : othP s.holds t = some (k - 2) := oth_some (fun i z hi hz => HBEF.out i z (by omega) hz) HJT.out HHY.out
            have HE := Lib.hid (hand_some HN.out HHA.out ho HJT.out)
            have hcb3 : CB w3 g sh (upF s.cl g (a :: lit :: t) g) := (HD1.out.hp.cls g hg).1
            rw [upF_same] at hcb3
            have e1 : w3.cell? ⟨g, 1, none⟩ = some (.int .i64 lit) := hcb3.cell 1 lit rfl
            have f1 : w3.frozen? ⟨g, 1, none⟩ = false := hcb3.free 1
            have hcb4 := hcb3.set1 1 y
            have e2 : (w3.setCell ⟨g, 1, none⟩ (.int .i64 y)).cell? ⟨g, k, none⟩ = some (.int .i64 y) := hcb4.cell k y (by
              obtain ⟨i, rfl⟩ : ∃ i, k = i + 2 := ⟨k - 2, by omega⟩
              exact HJT.out)
            have f2 : (w3.setCell ⟨g, 1, none⟩ (.int .i64 y)).frozen? ⟨g, k, none⟩ = false := hcb4.free k
            have hcb5 := hcb4.set1 k lit
            have el : (((a :: lit :: t).set 1 y).set k lit) = a :: y :: t.set (k - 2) lit := by
              obtain ⟨i, rfl⟩ : ∃ i, k = i + 2 := ⟨k - 2, by omega⟩
              rfl
            rw [el] at hcb5
            have S5 : Fr (fun k => k = g) w3 ((w3.setCell ⟨g, 1, none⟩ (.int .i64 y)).setCell ⟨g, k, none⟩ (.int .i64 lit)) := (fr_store w3 g 1 (.int .i64 y)).trans (fr_store _ g k (.int .i64 lit)) (fun _ _ h => h)
            have hD5 := HD1.out.clause hg S5 hcb5
            have eu : upF (upF s.cl g (a :: lit :: t)) g (a :: y :: t.set (k - 2) lit) = upF s.cl g (a :: y :: t.set (k - 2) lit) := by
              funext z; unfold upF; split <;> rfl
            have hD6 : Dm ((w3.setCell ⟨g, 1, none⟩ (.int .i64 y)).setCell ⟨g, k, none⟩ (.int .i64 lit)) Z x d sh G { s with cl := upF s.cl g (a :: y :: t.set (k - 2) lit) } c := by
              rw [← eu]; exact hD5
            have HD6 := Lib.hid hD6
            have HF6 := Lib.hid (HF1.out.trans (S5.notZ (Z := Z) (fun k (e : k = g) => by rw [e]; exact hgz)) (fun _ _ h => h))
            have HNE := Lib.hid hne
            have HPX := Lib.hid hpx
            have h24 := HPY.out
            have hpl2 := fun w => place_any y (by omega) w
            rw [h24] at hpl2
            have q11 : (0 : Int) ≤ (py : Int) := by omega
            have q12 : (py : Int) < 49 := by omega
            have q13 : k < n := by omega
            clear h24 hne hpx ho hcb3 hcb4 hcb5 el S5 hD5 eu hD6 HD1 HF1
            go_upto_region 11 with fail
            clear e1 f1 e2 f2
            generalize (w3.setCell ⟨g, 1, none⟩ (.int .i64 y)).setCell ⟨g, k, none⟩ (.int .i64 lit) = w4 at *
            have D6 := HD6.out.drew
            obtain ⟨tv, htv⟩ : ∃ tv, c (98 + py) = tv := ⟨_, rfl⟩
            have hty : TY (98 + py) = 37 := by unfold TY; rw [if_neg (by omega)]
            have hrw : rowS sh { s with cl := upF s.cl g (a :: y :: t.set (k - 2) lit) } (98 + py) = (s.watched y).map (clV sh) := by
              unfold rowS; rw [if_neg (by omega)]
              have h2 := HPY.out
              rw [show (((98 + py : Nat) : Int) - 122) = y by omega]
            have hrow := D6.hp.rows (98 + py) (by omega) (by omega) (by have := HPX.out; omega)
            rw [hrw, hty, htv, List.length_map] at hrow
            have c0 : w4.drew.cell? ⟨d, 98 + py, none⟩ = some tv := by rw [← htv]; exact (D6.hp.mem (98 + py) (by omega)).1
            obtain ⟨N, hN⟩ : ∃ N, (s.watched y).length = N := ⟨_, rfl⟩
            rw [hN] at hrow
            have hNb := HB.out y HNE.out
            rw [hN] at hNb
            have hc0 := Lib.hid c0
            have c1 := cell_alloc_l c0 (.cells #[.slice (some ⟨g, 0, none⟩) n cp] 37)
            have c2 : (w4.alloc (.cells #[.slice (some ⟨g, 0, none⟩) n cp] 37)).drew.cell? ⟨d, 98 + py, none⟩ = some tv := cell_alloc_l (W := w4) c0 (.cells #[.slice (some ⟨g, 0, none⟩) n cp] 37)
            have HRW := Lib.hid hrow
            have HTV := Lib.hid htv
            have HTY := Lib.hid hty
            have HRS := Lib.hid hrw
            have HN2 := Lib.hid hN
            have HNB := Lib.hid (And.intro (show N + 1 ≤ maxLen by unfold maxLen; omega) (show (N + 1) * 24 ≤ 140737488355328 by omega))
            obtain ⟨i0, hi0, hz0, hz1, hz2⟩ := info_parts info_ints
            have HD7 := Lib.hid D6
            clear D6 hrow htv hty hrw hN hNb HD6
            go_region_law (first
              | (go_simp; go_at_call 57; (with_reducible refine (hpl2 _).mono ?_); rintro e w' ⟨rfl, rfl⟩; simp only [])
              | (refine step_append_own2 (by rfl) _ _ _ (by rfl) 37 i0 _ 1 24 Try.underlying36 hi0 hz0 hz1 hz2 rfl (by decide) 0 tv N ((s.watched y).map (clV sh)) (by rfl) (HRW.out.alloc _) ⟨w4.heap.size, 0, none⟩ 1 1 [.slice (some ⟨g, 0, none⟩) n cp] (by rfl) rfl (cell_one_new _ _ _) (by simp [Value.oneCell']) HNB.out.1 HNB.out.2 (Nat.zero_le _) ?_
                 intro v' w5 own5 gr5 hat
                 have hat2 : v'.ownBlock = tv.ownBlock ∨ v'.ownBlock = some (w4.heap.size + 1) := by
                   rcases hat with h | h
                   · exact .inl h
                   · refine .inr (h.trans ?_)
                     congr 1
                     simp
                 have G5 : Fr (fun k => tv.ownBlock = some k) w4.drew w5 := own_fr w4 (.cells #[.slice (some ⟨g, 0, none⟩) n cp] 37) w5 tv gr5
                 have hown := HD7.out.hp.own (98 + py) (by omega) (by omega) (by have := HPX.out; omega)
                 rw [HTV.out] at hown
                 have M5 := HD7.out.hp.mem.kept G5 (fun e => (hown d e).1 rfl)
                 have c5 : w5.cell? ⟨d, 98 + py, none⟩ = some tv := by rw [← HTV.out]; exact (M5 (98 + py) (by omega)).1
                 have f5 := (M5 (98 + py) (by omega)).2
                 obtain ⟨g', cap', rfl⟩ : ∃ g' cap', v' = .slice (some ⟨g', 0, none⟩) (N + 1) cap' := by
                   rcases own5.2 with ⟨rfl, h0⟩ | ⟨g', cap', cur, rfl, h1, h2, _⟩
                   · simp at h0
                   · exact ⟨g', cap', rfl⟩
                 have HO5 := Lib.hid own5
                 have HG5 := Lib.hid G5
                 have HAT := Lib.hid hat2
                 clear own5 G5 M5 gr5 hown hat hat2))
            all_goals (
              have hR := HD7.out.hp.row (i := 98 + py) (by omega) (by omega) (by have := HPX.out; omega) (w5 := w5) (v' := .slice (some ⟨g', 0, none⟩) (N + 1) cap') (new := (s.watched y ++ [g]).map (clV sh)) (by rw [HTV.out]; exact HG5.out) (by
                rw [HTY.out, List.length_map, List.length_append, HN2.out, List.map_append]
                have e : clV sh g = .slice (some ⟨g, 0, none⟩) n cp := by unfold clV; rw [HSH.out]
                simp only [List.map_cons, List.map_nil, e]
                exact HO5.out) (by
                rw [HTV.out]
                rcases HAT.out with h | h
                · exact .inl h
                · refine .inr fun b hb => ?_
                  rw [h] at hb
                  have h1 := Option.some.inj hb
                  have h2 : w4.drew.heap.size = w4.heap.size := rfl
                  omega)
              have HR := Lib.hid hR
              have HF8 := Lib.hid (((HF6.out.drew).trans HG5.out (fun k _ e => (HD7.out.hp.own (98 + py) (by omega) (by omega) (by have := HPX.out; omega) k (by rw [HTV.out]; exact e)).2.1)).setCell (p := ⟨d, 98 + py, none⟩) (fun _ => HD7.out.hp.zd) (.slice (some ⟨g', 0, none⟩) (N + 1) cap'))
              have HS7 := Lib.hid HD7.out.sm
              clear hR c0 c1 c2 c5 f5 HD7 HG5 HO5 HF6
              generalize w5.setCell ⟨d, 98 + py, none⟩ (.slice (some ⟨g', 0, none⟩) (N + 1) cap') = w6 at *
              go_wp2_with fail
              go_ret
              rw [HE.out]
              exact ⟨rfl, _, hand_dm HR.out HS7.out hg HPY.out hpy2, by unfold upd; rw [if_neg (by have := HPX.out; omega)], HF8.out⟩)
  · rw [hcl] at HCB
    have e0 : w.cell? ⟨g, 0, none⟩ = some (.int .i64 a) := HCB.out.cell 0 a rfl
    have q0 : (a == lit) = false := by simpa using hal
    have hd1 := HD.out.same g
    rw [hcl] at hd1
    have HD1 := Lib.hid hd1
    have HF1 := Lib.hid (Fr.refl (fun k => ¬ Z k) w)
    clear HCB HD hd1
    --B--
    go_wp2_with fail
    clear e0
    have D1 := HD1.out.drew
    have c0 : w.drew.cell? ⟨d, pa, none⟩ = some (.bool (s.holds a)) := by rw [← HD1.out.sm.at HPA.out hpa2]; exact (D1.hp.mem pa (by omega)).1
    have e0 : w.drew.cell? ⟨g, 0, none⟩ = some (.int .i64 a) := by
      have hc : CB w.drew g sh (upF s.cl g (a :: lit :: t) g) := (D1.hp.cls g hg).1
      rw [upF_same] at hc
      exact hc.cell 0 a rfl
    have HD2 := Lib.hid D1
    have HF2 := Lib.hid (HF1.out.drew)
    clear D1 HD1 HF1
    obtain ⟨ha, hha⟩ : ∃ ha, s.holds a = ha := ⟨_, rfl⟩
    rw [hha] at c0
    have HHA := Lib.hid hha
    clear hha
    go_region_with (go_at_call 57; (with_reducible refine (hpl _).mono ?_); rintro e w' ⟨rfl, rfl⟩)
    clear c0 e0
    generalize w.drew = w2 at *
    cases ha with
    | true =>
      have HE := Lib.hid (hand_holds HN.out HHA.out)
      go_wp2_with fail
      go_ret
      rw [HE.out]
      exact ⟨rfl, c, HD2.out, rfl, HF2.out⟩
    | false =>
      go_wp2_with fail
      go_loopg [7] t.length (fun m iv wr => ∃ k : Nat, 2 ≤ k ∧ k + m = n ∧ iv = .int .i64 (k : Int) ∧ (∀ (i : Nat) z, i + 2 < k → t[i]? = some z → s.holds (-z) = true) ∧ Dm wr Z x d sh G { s with cl := upF s.cl g (a :: lit :: t) } c ∧ Fr (fun k => ¬ Z k) w wr)
      case atStart => exact ⟨2, Nat.le_refl _, by rw [HNL.out]; omega, rfl, fun i z h => absurd h (by omega), HD2.out, HF2.out⟩
      case round =>
        clear HD2 HF2
        obtain ⟨k, hk2, hkm, rfl, hbef, hD, hF⟩ := hrel
        have HBEF := Lib.hid hbef
        have HD := Lib.hid hD
        have HF := Lib.hid hF
        have q7 : (0 : Int) ≤ (k : Int) := Int.natCast_nonneg _
        clear hbef hD hF
        cases gk with
        | zero =>
          obtain rfl : k = n := by omega
          have ho : othP s.holds t = none := oth_none fun z hz => by
            obtain ⟨i, hi, hiz⟩ := List.mem_iff_getElem.1 hz
            exact HBEF.out i z (by rw [HNL.out]; omega) (by rw [← hiz]; exact List.getElem?_eq_getElem hi)
          have HE := Lib.hid (hand_none HN.out HHA.out ho)
          clear ho
          go_wp2_with fail
          go_ret
          rw [HE.out]
          exact ⟨rfl, c, HD.out, rfl, HF.out⟩
        | succ m =>
          have hj : k - 2 < t.length := by have := HNL.out; omega
          have hjt : t[k - 2]? = some t[k - 2] := List.getElem?_eq_getElem hj
          have hmem : t[k - 2] ∈ t := List.getElem_mem hj
          generalize t[k - 2] = y at hjt hmem
          have hly := HL.out y (by simp [hmem])
          obtain ⟨py, hpy, hpy2⟩ := ltr_at hly
          obtain ⟨qy, hqy, hqy2⟩ := ltr_at hly.neg
          have q8 : (k : Int) < (n : Int) := by omega
          have hcbr : CB wr g sh (upF s.cl g (a :: lit :: t) g) := (HD.out.hp.cls g hg).1
          rw [upF_same] at hcbr
          have ey : wr.cell? ⟨g, k, none⟩ = some (.int .i64 y) := hcbr.cell k y (by
            obtain ⟨i, rfl⟩ : ∃ i, k = i + 2 := ⟨k - 2, by omega⟩
            exact hjt)
          have hpq := fun w => place_any (-y) (by omega) w
          rw [hqy, ← wrap_neg y (by unfold Ltr at hly; omega)] at hpq
          have D1 := HD.out.drew
          obtain ⟨hy, hhy⟩ : ∃ hy, s.holds (-y) = hy := ⟨_, rfl⟩
          have c0 : wr.drew.cell? ⟨d, qy, none⟩ = some (.bool hy) := by
            rw [← hhy, ← HD.out.sm.at hqy hqy2]; exact (D1.hp.mem qy (by omega)).1
          have HHY := Lib.hid hhy
          have HD1 := Lib.hid D1
          have HF1 := Lib.hid (HF.out.drew)
          have HJT := Lib.hid hjt
          have HPY := Lib.hid hpy
          have HLY := Lib.hid hly
          have q9 : (0 : Int) ≤ (qy : Int) := by omega
          have q10 : (qy : Int) < 49 := by omega
          clear D1 hhy hqy hpy hcbr HD HF hj hjt hmem hly
          go_wp2_with fail
          go_region_with (go_at_call 57; (with_reducible refine (hpq _).mono ?_); rintro e w' ⟨rfl, rfl⟩)
          clear c0 ey hpq
          generalize wr.drew = w3 at *
          cases hy with
          | true =>
            have hb2 : ∀ (i : Nat) z, i + 2 < k + 1 → t[i]? = some z → s.holds (-z) = true := by
              intro i z hi hz
              by_cases e : i + 2 = k
              · have e2 : i = k - 2 := by omega
                rw [e2, HJT.out] at hz
                cases hz
                exact HHY.out
              · exact HBEF.out i z (by omega) hz
            have HB2 := Lib.hid hb2
            clear hb2
            go_wp2_with fail
            go_roundg m
            case measure => omega
            case rel => exact ⟨k + 1, by omega, by omega, by go_num, HB2.out, HD1.out, HF1.out⟩
          | false =>
            have hne : y ≠ lit := fun e => by
              have := (HTR.out.holds _).2 HFT.out
              rw [← e, HHY.out] at this
              cases this
            have hpx : py ≠ x := fun e => hne (by have h1 := HX.out; have h2 := HPY.out; omega)
            have ho : othP s.holds t = some (k - 2) := oth_some (fun i z hi hz => HBEF.out i z (by omega) hz) HJT.out HHY.out
            have HE := Lib.hid (hand_some HN.out HHA.out ho HJT.out)
            have hcb3 : CB w3 g sh (upF s.cl g (a :: lit :: t) g) := (HD1.out.hp.cls g hg).1
            rw [upF_same] at hcb3
            have e1 : w3.cell? ⟨g, 1, none⟩ = some (.int .i64 lit) := hcb3.cell 1 lit rfl
            have f1 : w3.frozen? ⟨g, 1, none⟩ = false := hcb3.free 1
            have hcb4 := hcb3.set1 1 y
            have e2 : (w3.setCell ⟨g, 1, none⟩ (.int .i64 y)).cell? ⟨g, k, none⟩ = some (.int .i64 y) := hcb4.cell k y (by
              obtain ⟨i, rfl⟩ : ∃ i, k = i + 2 := ⟨k - 2, by omega⟩
              exact HJT.out)
            have f2 : (w3.setCell ⟨g, 1, none⟩ (.int .i64 y)).frozen? ⟨g, k, none⟩ = false := hcb4.free k
            have hcb5 := hcb4.set1 k lit
            have el : (((a :: lit :: t).set 1 y).set k lit) = a :: y :: t.set (k - 2) lit := by
              obtain ⟨i, rfl⟩ : ∃ i, k = i + 2 := ⟨k - 2, by omega⟩
              rfl
            rw [el] at hcb5
            have S5 : Fr (fun k => k = g) w3 ((w3.setCell ⟨g, 1, none⟩ (.int .i64 y)).setCell ⟨g, k, none⟩ (.int .i64 lit)) := (fr_store w3 g 1 (.int .i64 y)).trans (fr_store _ g k (.int .i64 lit)) (fun _ _ h => h)
            have hD5 := HD1.out.clause hg S5 hcb5
            have eu : upF (upF s.cl g (a :: lit :: t)) g (a :: y :: t.set (k - 2) lit) = upF s.cl g (a :: y :: t.set (k - 2) lit) := by
              funext z; unfold upF; split <;> rfl
            have hD6 : Dm ((w3.setCell ⟨g, 1, none⟩ (.int .i64 y)).setCell ⟨g, k, none⟩ (.int .i64 lit)) Z x d sh G { s with cl := upF s.cl g (a :: y :: t.set (k - 2) lit) } c := by
              rw [← eu]; exact hD5
            have HD6 := Lib.hid hD6
            have HF6 := Lib.hid (HF1.out.trans (S5.notZ (Z := Z) (fun k (e : k = g) => by rw [e]; exact hgz)) (fun _ _ h => h))
            have HNE := Lib.hid hne
            have HPX := Lib.hid hpx
            have h24 := HPY.out
            have hpl2 := fun w => place_any y (by omega) w
            rw [h24] at hpl2
            have q11 : (0 : Int) ≤ (py : Int) := by omega
            have q12 : (py : Int) < 49 := by omega
            have q13 : k < n := by omega
            clear h24 hne hpx ho hcb3 hcb4 hcb5 el S5 hD5 eu hD6 HD1 HF1
            go_upto_region 11 with fail
            clear e1 f1 e2 f2
            generalize (w3.setCell ⟨g, 1, none⟩ (.int .i64 y)).setCell ⟨g, k, none⟩ (.int .i64 lit) = w4 at *
            have D6 := HD6.out.drew
            obtain ⟨tv, htv⟩ : ∃ tv, c (98 + py) = tv := ⟨_, rfl⟩
            have hty : TY (98 + py) = 37 := by unfold TY; rw [if_neg (by omega)]
            have hrw : rowS sh { s with cl := upF s.cl g (a :: y :: t.set (k - 2) lit) } (98 + py) = (s.watched y).map (clV sh) := by
              unfold rowS; rw [if_neg (by omega)]
              have h2 := HPY.out
              rw [show (((98 + py : Nat) : Int) - 122) = y by omega]
            have hrow := D6.hp.rows (98 + py) (by omega) (by omega) (by have := HPX.out; omega)
            rw [hrw, hty, htv, List.length_map] at hrow
            have c0 : w4.drew.cell? ⟨d, 98 + py, none⟩ = some tv := by rw [← htv]; exact (D6.hp.mem (98 + py) (by omega)).1
            obtain ⟨N, hN⟩ : ∃ N, (s.watched y).length = N := ⟨_, rfl⟩
            rw [hN] at hrow
            have hNb := HB.out y HNE.out
            rw [hN] at hNb
            have hc0 := Lib.hid c0
            have c1 := cell_alloc_l c0 (.cells #[.slice (some ⟨g, 0, none⟩) n cp] 37)
            have c2 : (w4.alloc (.cells #[.slice (some ⟨g, 0, none⟩) n cp] 37)).drew.cell? ⟨d, 98 + py, none⟩ = some tv := cell_alloc_l (W := w4) c0 (.cells #[.slice (some ⟨g, 0, none⟩) n cp] 37)
            have HRW := Lib.hid hrow
            have HTV := Lib.hid htv
            have HTY := Lib.hid hty
            have HRS := Lib.hid hrw
            have HN2 := Lib.hid hN
            have HNB := Lib.hid (And.intro (show N + 1 ≤ maxLen by unfold maxLen; omega) (show (N + 1) * 24 ≤ 140737488355328 by omega))
            obtain ⟨i0, hi0, hz0, hz1, hz2⟩ := info_parts info_ints
            have HD7 := Lib.hid D6
            clear D6 hrow htv hty hrw hN hNb HD6
            go_region_law (first
              | (go_simp; go_at_call 57; (with_reducible refine (hpl2 _).mono ?_); rintro e w' ⟨rfl, rfl⟩; simp only [])
              | (refine step_append_own2 (by rfl) _ _ _ (by rfl) 37 i0 _ 1 24 Try.underlying36 hi0 hz0 hz1 hz2 rfl (by decide) 0 tv N ((s.watched y).map (clV sh)) (by rfl) (HRW.out.alloc _) ⟨w4.heap.size, 0, none⟩ 1 1 [.slice (some ⟨g, 0, none⟩) n cp] (by rfl) rfl (cell_one_new _ _ _) (by simp [Value.oneCell']) HNB.out.1 HNB.out.2 (Nat.zero_le _) ?_
                 intro v' w5 own5 gr5 hat
                 have hat2 : v'.ownBlock = tv.ownBlock ∨ v'.ownBlock = some (w4.heap.size + 1) := by
                   rcases hat with h | h
                   · exact .inl h
                   · refine .inr (h.trans ?_)
                     congr 1
                     simp
                 have G5 : Fr (fun k => tv.ownBlock = some k) w4.drew w5 := own_fr w4 (.cells #[.slice (some ⟨g, 0, none⟩) n cp] 37) w5 tv gr5
                 have hown := HD7.out.hp.own (98 + py) (by omega) (by omega) (by have := HPX.out; omega)
                 rw [HTV.out] at hown
                 have M5 := HD7.out.hp.mem.kept G5 (fun e => (hown d e).1 rfl)
                 have c5 : w5.cell? ⟨d, 98 + py, none⟩ = some tv := by rw [← HTV.out]; exact (M5 (98 + py) (by omega)).1
                 have f5 := (M5 (98 + py) (by omega)).2
                 obtain ⟨g', cap', rfl⟩ : ∃ g' cap', v' = .slice (some ⟨g', 0, none⟩) (N + 1) cap' := by
                   rcases own5.2 with ⟨rfl, h0⟩ | ⟨g', cap', cur, rfl, h1, h2, _⟩
                   · simp at h0
                   · exact ⟨g', cap', rfl⟩
                 have HO5 := Lib.hid own5
                 have HG5 := Lib.hid G5
                 have HAT := Lib.hid hat2
                 clear own5 G5 M5 gr5 hown hat hat2))
            all_goals (
              have hR := HD7.out.hp.row (i := 98 + py) (by omega) (by omega) (by have := HPX.out; omega) (w5 := w5) (v' := .slice (some ⟨g', 0, none⟩) (N + 1) cap') (new := (s.watched y ++ [g]).map (clV sh)) (by rw [HTV.out]; exact HG5.out) (by
                rw [HTY.out, List.length_map, List.length_append, HN2.out, List.map_append]
                have e : clV sh g = .slice (some ⟨g, 0, none⟩) n cp := by unfold clV; rw [HSH.out]
                simp only [List.map_cons, List.map_nil, e]
                exact HO5.out) (by
                rw [HTV.out]
                rcases HAT.out with h | h
                · exact .inl h
                · refine .inr fun b hb => ?_
                  rw [h] at hb
                  have h1 := Option.some.inj hb
                  have h2 : w4.drew.heap.size = w4.heap.size := rfl
                  omega)
              have HR := Lib.hid hR
              have HF8 := Lib.hid (((HF6.out.drew).trans HG5.out (fun k _ e => (HD7.out.hp.own (98 + py) (by omega) (by omega) (by have := HPX.out; omega) k (by rw [HTV.out]; exact e)).2.1)).setCell (p := ⟨d, 98 + py, none⟩) (fun _ => HD7.out.hp.zd) (.slice (some ⟨g', 0, none⟩) (N + 1) cap'))
              have HS7 := Lib.hid HD7.out.sm
              clear hR c0 c1 c2 c5 f5 HD7 HG5 HO5 HF6
              generalize w5.setCell ⟨d, 98 + py, none⟩ (.slice (some ⟨g', 0, none⟩) (N + 1) cap') = w6 at *
              go_wp2_with fail
              go_ret
              rw [HE.out]
              exact ⟨rfl, _, hand_dm HR.out HS7.out hg HPY.out hpy2, by unfold upd; rw [if_neg (by have := HPX.out; omega)], HF8.out⟩)
end Go.Proofs.Ytaojojjdfdlgpaa
