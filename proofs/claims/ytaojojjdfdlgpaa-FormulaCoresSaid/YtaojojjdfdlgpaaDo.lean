import Derived.Test.YtaojojjdfdlgpaaDl
import Derived.Test.YtaojojjdfdlgpaaRr
namespace Go.Proofs.Ytaojojjdfdlgpaa
open Go.RowKit Uq

/-! look: the walk -/
theorem step_append_run2 {P : Program} {ops : Array Oper} {o : Oper} {a : Act} {w : World} {K : Act → World → Prop} {Q : Exit → Act → World → Prop} {E : Prop}
    (hg : o.guard = none) (s x : Operand) (t : TypeId) (hop : o.op = Op.call { callee := Callee.builtin Builtin.append, args := #[s, x], argTypes := #[t, t] }) (v u : Value) (hs : a.eval s = v) (hx : a.eval x = u) {v' : Value} {w' : World}
    (hr : (Builtin.append_ #[t, t] o.type #[v, u]).run P w = .ok v' w') (hK : K (a.put o.dst v') w') :
    if Region.wanted o (yielded ops a.tmps) = true then Oper.wp P o a w K Q else E := by
  have hw : Region.wanted o (yielded ops a.tmps) = true := by simp [Region.wanted, hg]
  rw [if_pos hw]
  unfold Oper.wp
  simp [execOp, hop, resolve, invoke, builtin, hs, hx, hr, Result.andThen]
  exact hK
theorem upF_self {β : Type} (f : Int → β) (i : Int) (v : β) (h : f i = v) : upF f i v = f := by
  funext k; unfold upF; split
  · rename_i e; rw [e, h]
  · rfl
set_option maxRecDepth 100000 in
set_option maxHeartbeats 4000000 in
theorem look_blk (Z : Nat → Prop) (d : Nat) (sh : Nat → Nat × Nat) (G : Nat → Prop) (s : DS) (c : Nat → Value) (lit : Int) (p b n cap : Nat) (w : World) (ids : List Nat) (h : Dm w Z 100 d sh G s c) (hp : lit + 24 = (p : Int)) (hp2 : p < 49) (hI : LookI ids s lit (s.watched lit) [] []) (hG : ∀ g ∈ ids, G g) (hids : ids.length ≤ 1000000) (hsh : ∀ g, G g → (sh g).1 ≤ 1000000)
    (hc : c (98 + p) = .slice (some ⟨b, 0, none⟩) n cap) :
    Calls Try.prog 116 #[.pointer (some ⟨d, 0, none⟩), .int .i64 lit] w fun e w' => e = .returned (.bool (lookP lit (s.watched lit) [] s).1) ∧ ∃ c', Dm w' Z 100 d sh G (lookP lit (s.watched lit) [] s).2 c' ∧ Fr (fun k => ¬ Z k) w w' := by
  have hpl := fun w => place_any lit (by omega) w
  rw [hp] at hpl
  obtain ⟨R, hR⟩ : ∃ R, lookP lit (s.watched lit) [] s = R := ⟨_, rfl⟩
  rw [hR]
  have hob : (c (98 + p)).ownBlock = some b := by rw [hc]; rfl
  have hown := h.hp.own (98 + p) (by omega) (by omega) (by omega) b hob
  have hrow := h.hp.rows (98 + p) (by omega) (by omega) (by omega)
  have hrs : rowS sh s (98 + p) = (s.watched lit).map (clV sh) := by
    unfold rowS
    rw [if_neg (by omega), show (((98 + p : Nat) : Int) - 122) = lit by omega]
  rw [hrs, hc, show TY (98 + p) = 37 by unfold TY; rw [if_neg (by omega)]] at hrow
  have hnn : n = (s.watched lit).length := by
    rcases hrow.2 with ⟨h1, _⟩ | ⟨g, cap', cur, h1, _⟩
    · cases h1
    · simp only [Value.slice.injEq] at h1
      rw [h1.2.1, List.length_map]
  rw [List.length_map, ← hnn] at hrow
  obtain ⟨hL, hcm, hnx⟩ := Lst.of_row hrow
  have hX := h.except hp2 hob
  have c0 : w.drew.cell? ⟨d, 98 + p, none⟩ = some (.slice (some ⟨b, 0, none⟩) n cap) := by rw [← hc]; exact (h.drew.hp.mem (98 + p) (by omega)).1
  have HX1 := Lib.hid hX.drew
  have HL1 := Lib.hid (hL.kept ((Fr.refl nob w).drew) (fun h => h))
  have HF1 := Lib.hid (nob_notZ (Z := Z) ((Fr.refl nob w).drew))
  have HI := Lib.hid hI
  have HR := Lib.hid hR
  have HC := Lib.hid hc
  have HG := Lib.hid hG
  have HP := Lib.hid hp
  have HNN := Lib.hid hnn
  have HZB := Lib.hid hown.2.1
  have q1 : (0 : Int) ≤ (p : Int) := by omega
  have q2 : (p : Int) < 49 := by omega
  have q3 : (0 : Int) ≤ (cap : Int) := Int.natCast_nonneg _
  have HZD := Lib.hid h.hp.zd
  have hnle : n ≤ cap := by have h1 := hL.fit; rw [← hnn] at h1; omega
  have HNC := Lib.hid hnle
  have hn6 : n ≤ 1000000 := by
    have h1 := hI.wat.nodup lit
    have h2 := hI.wat.mem lit
    rw [upF_same, List.nil_append] at h1 h2
    have := nodup_leN h1 fun x hx => ((h2 x).1 hx).1
    omega
  clear h hR hob hown hrow hrs hnn hL hX hI hc hG hp hnle hnx
  go_enter Try.func116, Try.ntmps116
  go_wp2_with fail
  go_region_with (go_at_call 57; (with_reducible refine (hpl _).mono ?_); rintro e w' ⟨rfl, rfl⟩)
  clear c0
  generalize w.drew = w1 at *
  go_wp2_with fail
  go_loopg [6, 20] n (fun m kv iv wr => ∃ (k : Nat) (kept rest : List Nat) (s' : DS) (c' : Nat → Value), k + m = n ∧ iv = .int .i64 (k : Int) ∧ kv = .slice (some ⟨b, 0, none⟩) kept.length cap ∧ m = rest.length ∧ LookI ids s' lit rest kept [] ∧ lookP lit rest kept s' = R ∧ Dm wr (fun k => Z k ∨ k = b) p d sh G s' c' ∧ c' (98 + p) = .slice (some ⟨b, 0, none⟩) n cap ∧ Lst wr b cap k sh kept rest ∧ (∀ g ∈ kept, G g) ∧ Fr (fun k => ¬ Z k) w wr)
  case atStart => exact ⟨0, [], s.watched lit, s, c, by omega, rfl, rfl, HNN.out, HI.out, HR.out, HX1.out, HC.out, HL1.out, by simp, HF1.out⟩
  case round =>
    clear HX1 HL1 HF1 HI HR HC
    obtain ⟨k, kept, rest, s', c', hkm, rfl, rfl, hml, hI, hR, hD, hc, hL, hKG, hF⟩ := hrel
    have HI := Lib.hid hI
    have HR := Lib.hid hR
    have HD := Lib.hid hD
    have HC := Lib.hid hc
    have HL := Lib.hid hL
    have HKG := Lib.hid hKG
    have HF := Lib.hid hF
    have HML := Lib.hid hml
    have hkl := hL.le
    have q4 : (0 : Int) ≤ (k : Int) := Int.natCast_nonneg _
    clear hI hR hD hc hL hKG hF hml
    cases gk with
    | zero =>
      obtain rfl : rest = [] := List.eq_nil_of_length_eq_zero HML.out.symm
      obtain ⟨c1, f1⟩ := HD.out.drew.hp.mem (98 + p) (by omega)
      rw [HC.out] at c1
      have hrow := HL.out.row hcm
      have hRS := HD.out.restore HP.out hp2 HZB.out hrow rfl HKG.out
      have HRS := Lib.hid hRS.drew
      have hE := HR.out
      rw [lookP] at hE
      have HE := Lib.hid hE
      have HF2 := Lib.hid ((HF.out.setCell (p := ⟨d, 98 + p, none⟩) (fun _ => HZD.out) (.slice (some ⟨b, 0, none⟩) kept.length cap)).drew)
      obtain ⟨KL, hKL⟩ : ∃ KL, kept.length = KL := ⟨_, rfl⟩
      rw [hKL] at HRS HF2 hkl ⊢
      clear hrow hRS hE HR HD HL HF hKL
      go_wp2_with fail
      go_region_with (go_at_call 57; (with_reducible refine (hpl _).mono ?_); rintro e w' ⟨rfl, rfl⟩)
      clear c1 f1
      generalize (wr.setCell ⟨d, 98 + p, none⟩ (.slice (some ⟨b, 0, none⟩) KL cap)).drew = w2 at *
      go_wp2_with fail
      go_ret
      rw [← HE.out]
      exact ⟨rfl, _, HRS.out, HF2.out⟩
    | succ m =>
      obtain ⟨g, rest', rfl⟩ : ∃ g rest', rest = g :: rest' := by
        cases rest with
        | nil => have := HML.out; simp at this
        | cons g rest' => exact ⟨g, rest', rfl⟩
      have hcell := HL.out.at
      have hhead := HI.out.head
      have hGg := HG.out g hhead.1
      obtain ⟨ng, cg, hshg⟩ : ∃ ng cg, sh g = (ng, cg) := ⟨_, _, rfl⟩
      have hcv : clV sh g = .slice (some ⟨g, 0, none⟩) ng cg := by unfold clV; rw [hshg]
      have hlen : (s'.cl g).length ≤ 1000000 := by
        have h1 := (HD.out.hp.cls g hGg).1.len
        have h2 := hsh g hGg
        omega
      have hC := handOn_dm (fun k => Z k ∨ k = b) p d sh G s' c' g lit wr HD.out (by have := HP.out; omega) hGg HI.out.tra hhead.2.1 hhead.2.2 HI.out.neg (fun i hi => Nat.le_trans (look_mem HI.out hi) hids) hlen
      have q5 : (k : Int) < (n : Int) := by omega
      rw [hcv] at hcell hC
      have HCV := Lib.hid hcv
      have HSG := Lib.hid hshg
      have HHD := Lib.hid hhead
      clear hcv hshg hlen hhead
      go_wp2_with fail
      refine hC.mono ?_
      rintro e w2 ⟨rfl, c2, hD2, hc2, F2⟩
      have HL2 := Lib.hid (HL.out.kept F2 (fun h => h (.inr rfl)))
      have HD2 := Lib.hid hD2
      have HC2 := Lib.hid (hc2.trans HC.out)
      have HF2 := Lib.hid (HF.out.trans F2 (fun _ _ h e => h (.inl e)))
      clear hC hD2 hc2 F2 HD HL HF HC hcell
      cases hok : (handP s' g lit).1 with
      | true =>
        have hI2 := HI.out.yes hok
        have hR2 : lookP lit rest' kept (handP s' g lit).2 = R := by
          have h := HR.out
          rw [lookP, if_pos hok] at h
          exact h
        have HI2 := Lib.hid hI2
        have HR2 := Lib.hid hR2
        have HL3 := Lib.hid HL2.out.skip
        clear hI2 hR2 hok
        go_wp2_with fail
        go_roundg m
        case measure => omega
        case rel => exact ⟨k + 1, kept, rest', _, c2, by omega, by go_num, rfl, by have := HML.out; simp only [List.length_cons] at this; omega, HI2.out, HR2.out, HD2.out, HC2.out, HL3.out, HKG.out, HF2.out⟩
      | false =>
        obtain ⟨a, t, hcl, hla, _, _, hyes, hno⟩ := HI.out.no hok
        have hR2 := HR.out
        rw [lookP, if_neg (by rw [hok]; decide), hcl, List.headD_cons] at hR2
        have HR2 := Lib.hid hR2
        have HYES := Lib.hid hyes
        have HNO := Lib.hid hno
        have HCL := Lib.hid hcl
        have hfit := HL2.out.fit
        have A2 : Fr nob w2 (w2.alloc (.cells #[.slice (some ⟨g, 0, none⟩) ng cg] 37)) := (Fr.refl nob w2).alloc _
        obtain ⟨w3, hrun, hL3, F3⟩ := (HL2.out.skip.kept A2 (fun h => h)).push (a := ⟨w2.heap.size, 0, none⟩) (m := 1) (cc := 1) (new := [g]) rfl (by
          rw [List.map_cons, List.map_nil, HCV.out]
          exact cell_one_new _ _ _) (by simp only [List.length_cons] at hfit; omega) (by omega) 36 36 Try.underlying36
        have HD3 := Lib.hid ((HD2.out.nob A2).kept F3 (fun k _ (e : k = b) => .inr e))
        have HF3 := Lib.hid ((HF2.out.trans A2 (fun _ _ h => h.elim)).trans F3 (fun k _ (e : k = b) => by rw [e]; exact HZB.out))
        have HL3 := Lib.hid hL3
        have hcb : CB w3 g sh ((handP s' g lit).2.cl g) := (HD3.out.hp.cls g hGg).1
        rw [hcl] at hcb
        have e0 : w3.cell? ⟨g, 0, none⟩ = some (.int .i64 a) := hcb.cell 0 a rfl
        have q6 : (0 : Int) < (ng : Int) := by have := hcb.len; rw [HSG.out] at this; simp only [List.length_cons] at this; omega
        have hN := note_dm (fun k => Z k ∨ k = b) p d sh G (handP s' g lit).2 c2 a (some g) w3 hla (fun z hz => by cases hz; exact hGg) HD3.out (.inl hp2) (Nat.le_trans (lits_le (by rw [(hand_all HI.out.tra HHD.out.2.1 HHD.out.2.2).trail]; exact HI.out.tra.nodup) (by rw [(hand_all HI.out.tra HHD.out.2.1 HHD.out.2.2).trail]; exact HI.out.tra.lits)) (by decide))
        rw [show refV sh (some g) = .slice (some ⟨g, 0, none⟩) ng cg from HCV.out] at hN
        clear hR2 hyes hno hcl A2 hL3 F3 hcb HD2 HF2 HL2 hok hfit
        go_wp2_with (at_builtin; refine wpList_append_run2 _ rfl _ _ 36 rfl _ _ rfl rfl hrun ?_)
        refine hN.mono ?_
        rintro e w4 ⟨rfl, c4, hD4, hc4, F4⟩
        have HL4 := Lib.hid (HL3.out.kept F4 (fun h => h (.inr rfl)))
        have HD4 := Lib.hid hD4
        have HC4 := Lib.hid (hc4.trans HC2.out)
        have HF4 := Lib.hid (HF3.out.trans F4 (fun _ _ h e => h (.inl e)))
        have HKG4 : Hid (∀ z ∈ kept ++ [g], G z) := Lib.hid (fun z hz => by
          rcases List.mem_append.1 hz with hz | hz
          · exact HKG.out z hz
          · simp at hz; rw [hz]; exact hGg)
        have hkl4 : (kept ++ [g]).length = kept.length + 1 := by simp
        have HKL4 := Lib.hid hkl4
        clear hN hD4 hc4 F4 HD3 HF3 HL3 HC2 hrun e0 hkl4
        cases hok2 : (noteP (handP s' g lit).2 a (some g)).1 with
        | true =>
          have HI4 := Lib.hid (HYES.out hok2)
          have hR4 : lookP lit rest' (kept ++ [g]) (noteP (handP s' g lit).2 a (some g)).2 = R := by
            have h := HR2.out
            rw [if_pos hok2] at h
            exact h
          have HR4 := Lib.hid hR4
          clear hR4 hok2
          go_wp2_with fail
          go_roundg m
          case measure => omega
          case rel => exact ⟨k + 1, kept ++ [g], rest', _, c4, by omega, by go_num, by rw [HKL4.out], by have := HML.out; simp only [List.length_cons] at this; omega, HI4.out, HR4.out, HD4.out, HC4.out, HL4.out, HKG4.out, HF4.out⟩
        | false =>
          have hE := HR2.out
          rw [if_neg (by rw [hok2]; decide)] at hE
          have HE := Lib.hid hE
          have hfit := HL4.out.fit
          have hml := HML.out
          simp only [List.length_cons] at hml
          have hk1 : k + 1 ≤ n := by omega
          have hw1 : IntKind.i64.wrap ((k : Int) + 1) = ((k + 1 : Nat) : Int) := by rw [IntKind.wrap_i64]; omega
          have hsrc : ∃ ad : Addr, (if cap = k + 1 then some (⟨b, 0, none⟩ : Addr) else some ⟨b, k + 1, none⟩) = some ad ∧ ∀ (j : Nat) u, (rest'.map (clV sh))[j]? = some u → w4.drew.cell? (ad.add j) = some u := by
            by_cases e : cap = k + 1
            · refine ⟨_, by rw [if_pos e], fun j u hj => ?_⟩
              have : rest' = [] := List.eq_nil_of_length_eq_zero (by have := HNC.out; omega)
              rw [this] at hj
              simp at hj
            · exact ⟨_, by rw [if_neg e], fun j u hj => HL4.out.src j u hj⟩
          obtain ⟨ad, had, hsrc⟩ := hsrc
          obtain ⟨w5, hrun, hL5, F5⟩ := (HL4.out.end.kept ((Fr.refl nob w4).drew) (fun h => h)).push (a := ad) (m := rest'.length) (cc := cap - (k + 1)) (new := rest') rfl hsrc (by rw [HKL4.out]; omega) (by rw [HKL4.out]; omega) 36 36 Try.underlying36
          rw [HKL4.out, ← had, show rest'.length = n - (k + 1) by omega] at hrun
          obtain ⟨K1, hK1⟩ : ∃ K1, k + 1 = K1 := ⟨_, rfl⟩
          rw [hK1] at hw1 hk1 hrun
          have q9 : (0 : Int) ≤ (K1 : Int) := Int.natCast_nonneg _
          have q7 : (K1 : Int) ≤ (n : Int) := by omega
          have q8 : (n : Int) ≤ (cap : Int) := by have := HNC.out; omega
          have hD5 := HD4.out.drew.kept F5 (fun k _ (e : k = b) => .inr e)
          have hrow := hL5.row hcm
          have HROW := Lib.hid hrow
          have HF5 := Lib.hid (F5)
          obtain ⟨c5, f5⟩ := hD5.hp.mem (98 + p) (by omega)
          rw [HC4.out] at c5
          have hlen5 : (kept ++ [g] ++ rest').length = kept.length + 1 + (n - K1) := by rw [List.length_append, HKL4.out]; omega
          rw [hlen5] at hrow
          have hKG5 : ∀ z ∈ kept ++ [g] ++ rest', G z := fun z hz => by
            rcases List.mem_append.1 hz with hz | hz
            · exact HKG4.out z hz
            · have h1 := (HI.out.wat.mem lit z).1 (by rw [upF_same]; simp [hz])
              exact HG.out z h1.1
          have hRS := hD5.restore (kept := kept ++ [g] ++ rest') HP.out hp2 HZB.out (v := .slice (some ⟨b, 0, none⟩) (kept.length + 1 + (n - K1)) cap) (by rw [hlen5]; exact hrow) rfl hKG5
          rw [show kept ++ [g] ++ rest' = kept ++ g :: rest' by simp] at hRS
          have HRS := Lib.hid hRS
          have HF6 := Lib.hid (((HF4.out.drew).trans F5 (fun k _ (e : k = b) => by rw [e]; exact HZB.out)).setCell (p := ⟨d, 98 + p, none⟩) (fun _ => HZD.out) (.slice (some ⟨b, 0, none⟩) (kept.length + 1 + (n - K1)) cap))
          have HFIT := Lib.hid hlen5
          clear hD5 hrow F5 hL5 hRS hlen5 hKG5 hsrc had hml hfit hK1 hE
          go_upto_region 9 with fail
          go_region_law (first
            | (go_simp; go_at_call 57; (with_reducible refine (hpl _).mono ?_); rintro e w' ⟨rfl, rfl⟩; simp only [])
            | (refine step_append_run2 (by rfl) _ _ 36 (by rfl) _ _ (by rfl) (by rfl) hrun ?_))
          all_goals (
            clear c5 f5 hrun
            generalize (if cap = K1 then some (⟨b, 0, none⟩ : Addr) else some ⟨b, K1, none⟩) = AD
            generalize w5.setCell ⟨d, 98 + p, none⟩ (.slice (some ⟨b, 0, none⟩) (kept.length + 1 + (n - K1)) cap) = w6 at *
            go_wp2_with fail
            go_ret
            rw [← HE.out]
            exact ⟨rfl, _, HRS.out, HF6.out⟩)
theorem look_dm (Z : Nat → Prop) (d : Nat) (sh : Nat → Nat × Nat) (G : Nat → Prop) (s : DS) (c : Nat → Value) (lit : Int) (w : World) (ids : List Nat) (h : Dm w Z 100 d sh G s c) (hl : Ltr lit) (hI : LookI ids s lit (s.watched lit) [] []) (hG : ∀ g ∈ ids, G g) (hids : ids.length ≤ 1000000) (hsh : ∀ g, G g → (sh g).1 ≤ 1000000) :
    Calls Try.prog 116 #[.pointer (some ⟨d, 0, none⟩), .int .i64 lit] w fun e w' => e = .returned (.bool (lookP lit (s.watched lit) [] s).1) ∧ ∃ c', Dm w' Z 100 d sh G (lookP lit (s.watched lit) [] s).2 c' ∧ Fr (fun k => ¬ Z k) w w' := by
  obtain ⟨p, hp, hp2⟩ := ltr_at hl
  have hrow := h.hp.rows (98 + p) (by omega) (by omega) (by omega)
  have hrs : rowS sh s (98 + p) = (s.watched lit).map (clV sh) := by
    unfold rowS
    rw [if_neg (by omega), show (((98 + p : Nat) : Int) - 122) = lit by omega]
  rw [hrs] at hrow
  rcases hrow.2 with ⟨h1, h2⟩ | ⟨b, cap, cur, h1, _⟩
  · have hnil : s.watched lit = [] := List.eq_nil_of_length_eq_zero (by rw [List.length_map] at h2; exact h2)
    have he : lookP lit (s.watched lit) [] s = (true, s) := by
      rw [hnil, lookP, upF_self _ _ _ hnil]
    rw [he]
    refine (look_nil d c lit p w hp hp2 h.hp.mem h1).mono fun e w' ⟨e1, hM, F⟩ => ⟨e1, c, ⟨h.hp.memd F hM, h.sm⟩, F.notZ fun k (e : k = d) => by rw [e]; exact h.hp.zd⟩
  · exact look_blk Z d sh G s c lit p b _ cap w ids h hp hp2 hI hG hids hsh h1
end Go.Proofs.Ytaojojjdfdlgpaa
