import Derived.Test.YtaojojjdfdlgpaaQt
import Derived.RegionTactic
import Derived.StillTailTactics
import Derived.Deep.LoopGhost
import Derived.Deep.RegionHeld3
namespace Go.Proofs.Ytaojojjdfdlgpaa
open Go.RowKit

/-! the parser's steps -/
/-- the parser's own block: the text, where the token begins, the token -/
structure PSt (w : World) (p : Nat) (s : ByteArray) (i : Nat) (t : List UInt8) : Prop where
  c0 : w.cell? ⟨p, 0, none⟩ = some (.string s)
  c1 : w.cell? ⟨p, 1, none⟩ = some (.int .i64 (i : Int))
  c2 : w.cell? ⟨p, 2, none⟩ = some (.string (txt t))
  f1 : w.frozen? ⟨p, 1, none⟩ = false
  f2 : w.frozen? ⟨p, 2, none⟩ = false
/-- how many blanks a text begins with -/
def blanks : List UInt8 → Nat
  | [] => 0
  | c :: l => if c = 32 then blanks l + 1 else 0
theorem blanks_drop {s : List UInt8} {j m : Nat} (h : blanks (s.drop j) = m + 1) : ∃ hj : j < s.length, s[j] = 32 ∧ blanks (s.drop (j + 1)) = m := by
  rcases Nat.lt_or_ge j s.length with hj | hj
  · rw [List.drop_eq_getElem_cons hj, blanks] at h
    split at h
    · exact ⟨hj, by assumption, by omega⟩
    · omega
  · rw [List.drop_eq_nil_of_le hj, blanks] at h; omega
theorem blanks_none {s : List UInt8} {j : Nat} (h : blanks (s.drop j) = 0) (hj : j < s.length) : s[j] ≠ 32 := by
  rw [List.drop_eq_getElem_cons hj, blanks] at h
  split at h
  · omega
  · assumption
theorem blanks_le : ∀ l : List UInt8, blanks l ≤ l.length
  | [] => Nat.le_refl _
  | c :: l => by
    have := blanks_le l
    unfold blanks
    split <;> simp <;> omega
/-- where the next token begins, or where none can -/
def nextP (s : List UInt8) (j : Nat) : Except Nat Nat :=
  let k := j + blanks (s.drop j)
  if firstTok (s.drop k) = [] ∧ k < s.length then .error k else .ok k
theorem nextP_ok {s : List UInt8} {J j : Nat} (h : J + blanks (s.drop J) = j) (h2 : ¬ (firstTok (s.drop j) = [] ∧ j < s.length)) : nextP s J = .ok j := by
  subst h
  simp only [nextP, if_neg h2]
theorem nextP_err {s : List UInt8} {J j : Nat} (h : J + blanks (s.drop J) = j) (h2 : firstTok (s.drop j) = [] ∧ j < s.length) : nextP s J = .error j := by
  subst h
  simp only [nextP, if_pos h2]
/-- what panics -/
def wrongV (k : Nat) : Value := .iface 128 (.int .i64 (k : Int))
def NextPost (s : ByteArray) (p j : Nat) (w : World) (e : Ending) (w' : World) : Prop :=
  Fr (fun k => k = p) w w' ∧ ((∃ k, nextP s.data.toList j = .ok k ∧ e = .returned (.tuple #[]) ∧ PSt w' p s k (firstTok (s.data.toList.drop k))) ∨ ∃ k, nextP s.data.toList j = .error k ∧ e = .panicked [{ v := wrongV k, recovered := false }])

set_option maxHeartbeats 2000000 in
theorem next_any (s : ByteArray) (p i : Nat) (t : List UInt8) (w : World) (h : PSt w p s i t) (hi : i + t.length ≤ s.size) (hs : s.size ≤ 9223372036854775807) :
    Calls Try.prog 110 #[.pointer (some ⟨p, 0, none⟩)] w (NextPost s p (i + t.length) w) := by
  obtain ⟨c0, c1, c2, f1, f2⟩ := h
  have hl : (txt t).size = t.length := txt_size t
  go_enter Try.func110, Try.ntmps110
  go_wp2
  go_region
  have F0 : Fr (fun k => k = p) w (w.setCell ⟨p, 1, none⟩ (.int .i64 ((i : Int) + (t.length : Int)))).drew := (fr_store w p 1 _).drew
  have d0 : (w.setCell ⟨p, 1, none⟩ (.int .i64 ((i : Int) + (t.length : Int)))).drew.cell? ⟨p, 0, none⟩ = some (.string s) := by go_simp
  have d1 : (w.setCell ⟨p, 1, none⟩ (.int .i64 ((i : Int) + (t.length : Int)))).drew.cell? ⟨p, 1, none⟩ = some (.int .i64 ((i + t.length : Nat) : Int)) := by go_simp
  have d2 : (w.setCell ⟨p, 1, none⟩ (.int .i64 ((i : Int) + (t.length : Int)))).drew.cell? ⟨p, 2, none⟩ = some (.string (txt t)) := by go_simp
  have e1 : (w.setCell ⟨p, 1, none⟩ (.int .i64 ((i : Int) + (t.length : Int)))).drew.frozen? ⟨p, 1, none⟩ = false := by go_simp
  have e2 : (w.setCell ⟨p, 1, none⟩ (.int .i64 ((i : Int) + (t.length : Int)))).drew.frozen? ⟨p, 2, none⟩ = false := by go_simp
  generalize (w.setCell ⟨p, 1, none⟩ (.int .i64 ((i : Int) + (t.length : Int)))).drew = w1 at *
  clear c0 c1 c2 f1 f2 hl
  have hsz : s.data.toList.length = s.size := by simp
  obtain ⟨J, hJ⟩ : ∃ J, i + t.length = J := ⟨_, rfl⟩
  rw [hJ] at d1 hi
  have HJ := Lib.hid hJ
  obtain ⟨m0, hm0⟩ : ∃ m, blanks (s.data.toList.drop J) = m := ⟨_, rfl⟩
  have HM := Lib.hid hm0
  have HSZ := Lib.hid hsz
  clear hJ hm0 hsz
  go_wp2
  go_loopg [] m0 (fun m wr => ∃ j, j + m = J + m0 ∧ j ≤ s.size ∧ blanks (s.data.toList.drop j) = m ∧ PSt wr p s j t ∧ Fr (fun k => k = p) w wr)
  case atStart => exact ⟨J, rfl, hi, HM.out, ⟨d0, d1, d2, e1, e2⟩, F0⟩
  case round =>
    clear d0 d1 d2 e1 e2 F0
    obtain ⟨j, hj, hjs, hb, ⟨d0, d1, d2, e1, e2⟩, F⟩ := hrel
    have HF := Lib.hid F
    clear F
    cases gk with
    | succ m =>
      obtain ⟨hjl, h32, hb'⟩ := blanks_drop hb
      have hlt : j < s.size := by rw [← HSZ.out]; exact hjl
      have h32' : s[j] = 32 := h32
      have HB := Lib.hid hb'
      have q1 : decide ((j : Int) < (s.size : Int)) = true := by simpa using hlt
      have q2 : ((s[j].toNat : Int) == 32) = true := by rw [h32']; rfl
      have q3 : (0 : Int) ≤ (j : Int) := Int.natCast_nonneg _
      have q4 : (j : Int) < (s.size : Int) := by omega
      have HJM := Lib.hid hj
      clear hb hb' h32 h32' hj hjl
      go_wp2
      go_quiet (fail)
      clear q1 q2
      go_wp2
      go_roundg m
      case measure => omega
      case rel =>
        have hj := HJM.out
        refine ⟨j + 1, by omega, by omega, HB.out, ⟨by go_simp, by go_simp, by go_simp, by go_simp, by go_simp⟩, (HF.out.drewN _).setCell (p := ⟨p, 1, none⟩) (fun _ => rfl) _⟩
    | zero =>
      have hjE : j = J + m0 := by omega
      have HE := Lib.hid hjE
      have HB := Lib.hid hb
      have q3 : (0 : Int) ≤ (j : Int) := Int.natCast_nonneg _
      have q5 : (j : Int) ≤ (s.size : Int) := by omega
      have hT := firstToken_any (s.extract j s.size) (by simp; omega)
      rw [ext_data, List.take_of_length_le (by rw [HSZ.out]; exact Nat.le_refl _)] at hT
      clear hjE hj
      by_cases hlt : j < s.size
      case' pos =>
        have q1 : decide ((j : Int) < (s.size : Int)) = true := by simpa using hlt
        have q4 : (j : Int) < (s.size : Int) := by omega
        have q2 : ((s[j].toNat : Int) == 32) = false := by
          have := blanks_none HB.out (by rw [HSZ.out]; exact hlt)
          simp only [beq_eq_false_iff_ne, ne_eq]
          intro h
          refine this (UInt8.toNat_inj.1 ?_)
          show s[j].toNat = 32
          omega
        clear hb
        go_wp2
        go_quiet (fail)
        clear q1 q2
        go_wp2
      case' neg =>
        have q1 : decide ((j : Int) < (s.size : Int)) = false := by simpa using hlt
        have q4 : (s.size : Int) ≤ (j : Int) := by omega
        clear hb
        go_wp2
        go_quiet (fail)
        clear q1
        go_wp2
      all_goals
        have G0 := HF.out.drewN nq
        have g0 : (wr.drewN nq).cell? ⟨p, 0, none⟩ = some (.string s) := by go_simp
        have g1 : (wr.drewN nq).cell? ⟨p, 1, none⟩ = some (.int .i64 (j : Int)) := by go_simp
        have g2 : (wr.drewN nq).cell? ⟨p, 2, none⟩ = some (.string (txt t)) := by go_simp
        have k1 : (wr.drewN nq).frozen? ⟨p, 1, none⟩ = false := by go_simp
        have k2 : (wr.drewN nq).frozen? ⟨p, 2, none⟩ = false := by go_simp
        have HG0 := Lib.hid G0
        clear d0 d1 d2 e1 e2 HF G0
        generalize wr.drewN nq = w2 at *
        go_region_held3 (fun w' => w'.cell? ⟨p, 0, none⟩ = some (.string s) ∧ w'.cell? ⟨p, 1, none⟩ = some (.int .i64 (j : Int)))
          (first | (go_keep; done) | exact ⟨g0, g1⟩ | exact ⟨by go_simp, by go_simp⟩)
          (first | (go_at_call 123; (with_reducible refine (hT _).mono ?_); rintro e w' ⟨rfl, rfl⟩))
        rename_i hHeld
        clear hHeld
        generalize hTK : firstTok (s.data.toList.drop j) = tk at *
        have HTK := Lib.hid hTK
        have F3 := Lib.hid ((HG0.out.setCell (p := ⟨p, 2, none⟩) (fun _ => rfl) (.string (txt tk))).drew)
        have d0 : (w2.setCell ⟨p, 2, none⟩ (.string (txt tk))).drew.cell? ⟨p, 0, none⟩ = some (.string s) := by go_simp
        have d1 : (w2.setCell ⟨p, 2, none⟩ (.string (txt tk))).drew.cell? ⟨p, 1, none⟩ = some (.int .i64 (j : Int)) := by go_simp
        have d2 : (w2.setCell ⟨p, 2, none⟩ (.string (txt tk))).drew.cell? ⟨p, 2, none⟩ = some (.string (txt tk)) := by go_simp
        have e1 : (w2.setCell ⟨p, 2, none⟩ (.string (txt tk))).drew.frozen? ⟨p, 1, none⟩ = false := by go_simp
        have e2 : (w2.setCell ⟨p, 2, none⟩ (.string (txt tk))).drew.frozen? ⟨p, 2, none⟩ = false := by go_simp
        clear g0 g1 g2 k1 k2 HG0 hTK hT
        generalize (w2.setCell ⟨p, 2, none⟩ (.string (txt tk))).drew = w3 at *
        by_cases hte : tk = []
        · subst hte
          have q6 : (txt []).toList.isEmpty = true := by rw [ByteArray.toList_eq]; rfl
          have q7 : (txt []).toList = [] := by rw [ByteArray.toList_eq]; rfl
          first
          | have q8 : decide ((j : Int) < (s.size : Int)) = true := by simpa using hlt
            go_wp2
            go_quiet (fail)
            go_wp2
            refine ⟨rfl, F3.out.drewN _, .inr ⟨j, ?_, rfl⟩⟩
            rw [HJ.out]
            exact nextP_err (by rw [HM.out]; exact HE.out.symm) ⟨HTK.out, by rw [HSZ.out]; exact hlt⟩
          | have q8 : decide ((j : Int) < (s.size : Int)) = false := by simpa using hlt
            go_wp2
            go_quiet (fail)
            go_wp2
            refine bodyPost_end (results_none rfl _ _ _) rfl ⟨F3.out.drewN _, .inl ⟨j, ?_, rfl, ⟨by go_simp, by go_simp, by rw [HTK.out]; go_simp, by go_simp, by go_simp⟩⟩⟩
            rw [HJ.out]
            exact nextP_ok (by rw [HM.out]; exact HE.out.symm) (fun h => hlt (by rw [← HSZ.out]; exact h.2))
        · have q6 : (txt tk).toList.isEmpty = false := by rw [ByteArray.toList_eq, txt_data]; simpa using hte
          have q7 : ¬ (txt tk).toList = [] := by rw [ByteArray.toList_eq, txt_data]; exact hte
          go_wp2
          go_quiet (fail)
          go_wp2
          refine bodyPost_end (results_none rfl _ _ _) rfl ⟨F3.out.drewN _, .inl ⟨j, ?_, rfl, ⟨by go_simp, by go_simp, by rw [HTK.out]; go_simp, by go_simp, by go_simp⟩⟩⟩
          rw [HJ.out]
          exact nextP_ok (by rw [HM.out]; exact HE.out.symm) (fun h => hte (by rw [← HTK.out]; exact h.1))
end Go.Proofs.Ytaojojjdfdlgpaa
