import Derived.Test.YtaojojjdfdlgpaaQbe
namespace Go.Proofs.Ytaojojjdfdlgpaa
open Go.RowKit

/-! look: one clause is watched, of which the other literal then follows -/
theorem row_cut {w : World} {B : Nat} {T : TypeId} {g1 cp1 : Nat} {xs : List Value} (h : w.ownsRow B T 1 (.slice (some ⟨g1, 0, none⟩) 1 cp1) 1 xs) : w.ownsRow B T 1 (.slice (some ⟨g1, 0, none⟩) 0 cp1) 0 [] := by
  refine ⟨rfl, .inr ?_⟩
  rcases h.2 with ⟨h1, _⟩ | ⟨g, cap, cur, h1, h2, h3, h4, h5, h6, _⟩
  · cases h1
  · cases h1
    exact ⟨g1, cp1, cur, rfl, h2, h3, Nat.zero_le _, h5, h6, by simp⟩
theorem row_cell {w : World} {B : Nat} {T : TypeId} {g1 cp1 : Nat} {x : Value} (h : w.ownsRow B T 1 (.slice (some ⟨g1, 0, none⟩) 1 cp1) 1 [x]) : w.cell? ⟨g1, 0, none⟩ = some x ∧ 1 ≤ cp1 := by
  rcases h.2 with ⟨h1, _⟩ | ⟨g, cap, cur, h1, h2, h3, h4, h5, h6, h7⟩
  · cases h1
  · cases h1
    refine ⟨?_, h4⟩
    rw [Lib.cell_of_heap h3]
    have : cur.toList[0]? = some x := by
      have := congrArg (fun l => l[0]?) h7
      simpa [List.getElem?_take] using this
    simpa using this
set_option maxRecDepth 100000 in
set_option maxHeartbeats 2000000 in
theorem look_one (B B1 d g g1 cp cp1 : Nat) (c : Nat → Value) (l y : Int) (p py qy n : Nat) (xs : List Value) (w : World) (hp : l + 24 = (p : Int)) (hp2 : p < 49) (hy : y + 24 = (py : Int)) (hy2 : py < 49) (hq : -y + 24 = (qy : Int)) (hq2 : qy < 49)
    (hM : Mem w d c) (hw : c (98 + p) = .slice (some ⟨g1, 0, none⟩) 1 cp1) (hrow : w.ownsRow B1 37 1 (.slice (some ⟨g1, 0, none⟩) 1 cp1) 1 [.slice (some ⟨g, 0, none⟩) 2 cp])
    (h0 : w.cell? ⟨g, 0, none⟩ = some (.int .i64 l)) (h1 : w.cell? ⟨g, 1, none⟩ = some (.int .i64 y)) (f0 : w.frozen? ⟨g, 0, none⟩ = false) (f1 : w.frozen? ⟨g, 1, none⟩ = false)
    (hcy : c py = .bool false) (hcq : c qy = .bool false) (hB : B ≤ w.heap.size) (hB1 : B1 ≤ w.heap.size) (hown : w.ownsRow B 3 1 (c 147) n xs) (hn : n ≤ 1000000) (hod : (c 147).ownBlock ≠ some d) (hog : (c 147).ownBlock ≠ some g) (hog1 : (c 147).ownBlock ≠ some g1)
    (hgd : g ≠ d) (hg1d : g1 ≠ d) (hgg : g ≠ g1) :
    Calls Try.prog 116 #[.pointer (some ⟨d, 0, none⟩), .int .i64 l] w fun e w' => e = .returned (.bool true) ∧ ∃ v' vk, Mem w' d (upd (upd (upd (upd c py (.bool true)) (49 + py) (.slice (some ⟨g, 0, none⟩) 2 cp)) 147 v') (98 + p) vk) ∧ w'.ownsRow B 3 1 v' (n + 1) (xs ++ [.int .i64 y]) ∧ v'.ownBlock ≠ some d ∧ Fr (fun k => k = d ∨ k = g ∨ k = g1 ∨ (c 147).ownBlock = some k) w w' := by
  have hpl := fun w => place_any l (by omega) w
  rw [hp] at hpl
  have M1 : Mem w.drew d c := hM.kept ((Fr.refl nob w).drew) (fun h => h)
  have c0 : w.drew.cell? ⟨d, 98 + p, none⟩ = some (.slice (some ⟨g1, 0, none⟩) 1 cp1) := by rw [← hw]; exact (M1 (98 + p) (by omega)).1
  have q1 : (0 : Int) ≤ (p : Int) := by omega
  have q2 : (p : Int) < 49 := by omega
  have hdw : d < w.heap.size := lt_of_cell (hM 0 (by decide)).1
  have D : Fr nob w w.drew := (Fr.refl nob w).drew
  have HR1 := Lib.hid (D.row hrow (fun _ _ h => h))
  have HO1 := Lib.hid (D.row hown (fun _ _ h => h))
  have H01 : Hid (w.drew.cell? ⟨g, 0, none⟩ = some (.int .i64 l)) := Lib.hid h0
  have H11 : Hid (w.drew.cell? ⟨g, 1, none⟩ = some (.int .i64 y)) := Lib.hid h1
  have F01 : Hid (w.drew.frozen? ⟨g, 0, none⟩ = false) := Lib.hid f0
  have F11 : Hid (w.drew.frozen? ⟨g, 1, none⟩ = false) := Lib.hid f1
  have HM1 := Lib.hid M1
  have HD := Lib.hid D
  have HY := Lib.hid hy
  have HQ := Lib.hid hq
  have HCP := Lib.hid (row_cell hrow).2
  have qcp : (0 : Int) ≤ (cp1 : Int) := Int.natCast_nonneg _
  clear hM M1 hp D hrow hown h0 h1 f0 f1 hy hq
  go_enter Try.func116, Try.ntmps116
  go_wp2_with fail
  go_region_with (go_at_call 57; (with_reducible refine (hpl _).mono ?_); rintro e w' ⟨rfl, rfl⟩)
  clear c0
  have hsz1 : w.drew.heap.size = w.heap.size := rfl
  generalize w.drew = w1 at *
  go_wp2_with fail
  go_loopg [6, 20] 1 (fun m kv iv wr => (m = 1 ∧ kv = .slice (some ⟨g1, 0, none⟩) 0 cp1 ∧ iv = .int .i64 0 ∧ w1 = wr) ∨ (m = 0 ∧ iv = .int .i64 1 ∧ (∃ gk ck, kv = .slice (some ⟨gk, 0, none⟩) 1 ck) ∧ ∃ v', Mem wr d (upd (upd (upd c py (.bool true)) (49 + py) (.slice (some ⟨g, 0, none⟩) 2 cp)) 147 v') ∧ wr.ownsRow B 3 1 v' (n + 1) (xs ++ [.int .i64 y]) ∧ v'.ownBlock ≠ some d ∧ Fr (fun k => k = d ∨ k = g ∨ k = g1 ∨ (c 147).ownBlock = some k) w wr))
  case atStart => exact .inl ⟨rfl, rfl, rfl, rfl⟩
  case round =>
    rcases hrel with ⟨rfl, rfl, rfl, rfl⟩ | ⟨rfl, rfl, ⟨gk, ck, rfl⟩, v', hM, hO, hvd, hF⟩
    · have hcl := (row_cell HR1.out).1
      have hH := handOn_swap d g cp c l y py w1 HM1.out HY.out hy2 hcy hgd H01.out H11.out F01.out F11.out
      go_wp2_with fail
      refine hH.mono ?_
      rintro e w2 ⟨rfl, hy0, F2⟩
      have HY0 := Lib.hid hy0
      have HF2 := Lib.hid F2
      have HM2 := Lib.hid (HM1.out.kept F2 (fun e => hgd e.symm))
      have HR2 := Lib.hid (F2.row HR1.out (fun k hk e => hgg (by rw [← e]; exact (Option.some.inj hk).symm)))
      have HO2 := Lib.hid (F2.row HO1.out (fun k hk e => hog (by rw [hk, e])))
      have hs2 := F2.size
      obtain ⟨i0, hi0, hz0, hz1, hz2⟩ := info_parts info_ints
      clear hH hcl F2 hy0
      go_wp2_with (at_builtin; refine wpList_append_own_at _ rfl _ _ 36 rfl B1 37 i0 (.slice none 0 0) 1 24 Try.underlying36 hi0 hz0 hz1 hz2 rfl (by decide) (.slice (some ⟨g1, 0, none⟩) 0 cp1) 0 [] rfl ((row_cut HR2.out).alloc _) ⟨w2.heap.size, 0, none⟩ 1 1 [.slice (some ⟨g, 0, none⟩) 2 cp] rfl ?c1 ?c2 ?c3 ?c4 ?c5 ?c6 ?_)
      case c1 => rfl
      case c2 => exact cell_one_new _ _ _
      case c3 => intro u hu; simp at hu; subst hu; rfl
      case c4 => unfold maxLen; decide
      case c5 => decide
      case c6 => simp; omega
      intro v3 w3 own3 gr3 _ hat
      have G3 : Fr (fun k => k = g1) w2 w3 := (((Fr.refl nob w2).alloc (.cells #[.slice (some ⟨g, 0, none⟩) 2 cp] 37)).mono (T := fun k => k = g1) (fun _ _ h => h.elim)).trans ((Fr.refl (fun k => k = g1) _).grown gr3 (fun k hk _ => by have h3 : g1 = k := Option.some.inj hk; exact h3.symm)) (fun _ _ h => h)
      obtain ⟨gk, ck, rfl⟩ : ∃ gk ck, v3 = .slice (some ⟨gk, 0, none⟩) 1 ck := by
        rcases own3.2 with ⟨rfl, h0⟩ | ⟨g', cap', cur, rfl, h1, h2, _⟩
        · simp at h0
        · exact ⟨g', cap', rfl⟩
      have e0 := G3.cell HY0.out (show ¬ g = g1 from hgg)
      have hM3 := HM2.out.kept G3 (fun e => hg1d e.symm)
      have hO3 := G3.row HO2.out (fun k hk e => hog1 (by rw [hk, e]))
      have hs3 := G3.size
      have hN := note_new B d c y py qy n xs (.slice (some ⟨g, 0, none⟩) 2 cp) w3 ⟨_, _, _, rfl⟩ HY.out hy2 HQ.out hq2 hM3 hcy hcq (by omega) hO3 hn hod (by omega)
      have HF3 := Lib.hid ((((HD.out.mono (T := fun k => k = d ∨ k = g ∨ k = g1 ∨ (c 147).ownBlock = some k) (fun _ _ h => h.elim)).trans HF2.out (fun _ _ h => .inr (.inl h))).trans G3 (fun _ _ h => .inr (.inr (.inl h)))))
      clear own3 gr3 hat G3 hM3 hO3 HF2 HM2 HR2 HO2 HY0
      go_wp2_with fail
      refine hN.mono ?_
      rintro e w4 ⟨rfl, v', hM4, hO4, hvd4, F4⟩
      have HM4 := Lib.hid hM4
      have HO4 := Lib.hid hO4
      have HV4 := Lib.hid hvd4
      have HF4 := Lib.hid (HF3.out.trans F4 (fun _ _ h => h.elim .inl (fun h => .inr (.inr (.inr h)))))
      clear hM4 hO4 hvd4 F4 hN e0
      go_wp2_with fail
      go_roundg 0
      case measure => omega
      case rel => exact .inr ⟨rfl, by go_num, ⟨gk, ck, rfl⟩, v', HM4.out, HO4.out, HV4.out, HF4.out⟩
    · have M2 := hM.kept ((Fr.refl nob wr).drew) (fun h => h)
      obtain ⟨c1, f1⟩ := M2 (98 + p) (by omega)
      rw [show upd (upd (upd c py (.bool true)) (49 + py) (.slice (some ⟨g, 0, none⟩) 2 cp)) 147 v' (98 + p) = .slice (some ⟨g1, 0, none⟩) 1 cp1 by
        unfold upd; rw [if_neg (by omega), if_neg (by omega), if_neg (by omega)]; exact hw] at c1
      have HM2 : Hid (Mem (wr.setCell ⟨d, 98 + p, none⟩ (.slice (some ⟨gk, 0, none⟩) 1 ck)).drew d _) := Lib.hid ((hM.set (98 + p) (.slice (some ⟨gk, 0, none⟩) 1 ck)).kept ((Fr.refl nob _).drew) (fun h => h))
      have S2 := fr_store wr d (98 + p) (.slice (some ⟨gk, 0, none⟩) 1 ck)
      have HO2 : Hid ((wr.setCell ⟨d, 98 + p, none⟩ (.slice (some ⟨gk, 0, none⟩) 1 ck)).drew.ownsRow B 3 1 v' (n + 1) (xs ++ [.int .i64 y])) := Lib.hid (((Fr.refl nob _).drew).row (S2.row hO (fun k hk e => hvd (by rw [hk, e]))) (fun _ _ h => h))
      have HF2 := Lib.hid ((hF.trans S2 (fun _ _ h => .inl h)).drew)
      have HVD := Lib.hid hvd
      clear hM hO hF M2 S2 hvd HR1 HO1 H01 H11 F01 F11 HM1 HD
      go_wp2_with fail
      go_region_with (go_at_call 57; (with_reducible refine (hpl _).mono ?_); rintro e w' ⟨rfl, rfl⟩)
      clear c1 f1
      generalize (wr.setCell ⟨d, 98 + p, none⟩ (.slice (some ⟨gk, 0, none⟩) 1 ck)).drew = w2 at *
      go_wp2_with fail
      go_ret
      exact ⟨rfl, v', _, HM2.out, HO2.out, HVD.out, HF2.out⟩
end Go.Proofs.Ytaojojjdfdlgpaa
