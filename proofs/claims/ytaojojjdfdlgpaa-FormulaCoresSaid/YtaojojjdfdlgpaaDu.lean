import Derived.Test.YtaojojjdfdlgpaaDt
import Derived.Test.YtaojojjdfdlgpaaQbi
namespace Go.Proofs.Ytaojojjdfdlgpaa
open Go.RowKit Uq

/-! deduceFrom -/
def s0 : DS := ⟨fun _ => false, fun _ => none, fun _ => [], fun _ => [], [], 0, 0, none, false⟩
set_option maxRecDepth 100000 in
theorem zc_low (i : Nat) (h : i < 49) : zc i = .bool false := by
  unfold zc zeroA
  rw [Array.getD_eq_getD_getElem?, List.getElem?_toArray, List.getElem?_append_left (by simp; omega), List.getElem?_append_left (by simpa using h), List.getElem?_replicate, if_pos h]
  rfl
set_option maxRecDepth 100000 in
theorem zc_mid (i : Nat) (h1 : 49 ≤ i) (h2 : i < 148) : zc i = .slice none 0 0 := by
  unfold zc zeroA
  by_cases e : i = 147
  · subst e; rfl
  · rw [Array.getD_eq_getD_getElem?, List.getElem?_toArray, List.getElem?_append_left (by simp; omega), List.getElem?_append_right (by simpa using h1), List.getElem?_replicate, if_pos (by simp; omega)]
    rfl
theorem lev0 : Lev [] [] s0 :=
  ⟨⟨⟨by simp [s0], by simp [s0], by simp [s0], by simp [s0]⟩, ⟨by simp, by simp [s0], by simp [s0]⟩, by simp [s0]⟩, rfl, fun _ => ⟨rfl, fun g hg => by simp at hg, by simp⟩, fun K _ => ⟨by simp [s0], fun g hg => by simp at hg, fun e => by cases e⟩⟩
set_option maxRecDepth 100000 in
theorem dm0 {w : World} {Z : Nat → Prop} {d : Nat} {sh : Nat → Nat × Nat} (hM : Mem w d zc) (hz : ∀ k, Z k → k < w.heap.size) (hd : ¬ Z d) : Dm w Z 100 d sh (fun _ => False) s0 zc := by
  have hrow : ∀ i, rowS sh s0 i = [] := fun i => by unfold rowS; split <;> rfl
  refine ⟨⟨hM, hz, hd, fun h => h, fun i h1 h2 _ => ?_, fun g hg => hg.elim, fun i h1 h2 _ b hb => ?_, fun i j h1 h2 h3 h4 _ _ _ b hb => ?_⟩, ⟨fun i hi => zc_low i hi, fun i hi => zc_mid _ (by omega) (by omega), rfl, rfl, rfl, rfl, fun i g hg => by simp [s0] at hg, fun i g hg => by simp [s0] at hg, fun g hg => by simp [s0] at hg⟩⟩
  · rw [hrow, zc_mid i (by omega) (by omega)]; exact World.ownsRow_nil _ _ _ _
  · rw [zc_mid i (by omega) (by omega)] at hb; cases hb
  · rw [zc_mid i (by omega) (by omega)] at hb; cases hb
/-- what deduceFrom leaves -/
def Ded (Z : Nat → Prop) (d : Nat) (C : List (List Int)) (w : World) : Prop :=
  ∃ ids s sh G c, Lev C ids s ∧ (∀ g ∈ ids, G g) ∧ ids.length ≤ C.length ∧ (∀ g, G g → (sh g).1 ≤ 1000) ∧ Dm w Z 100 d sh G s c
theorem Ded.add {Z : Nat → Prop} {d : Nat} {C : List (List Int)} {cs : List Int} {w w' : World} {ids : List Nat} {s : DS} {sh : Nat → Nat × Nat} {G : Nat → Prop} (hL : Lev C ids s) (hG : ∀ g ∈ ids, G g) (hl : ids.length ≤ C.length) (hsh : ∀ g, G g → (sh g).1 ≤ 1000) (hc : ∀ x ∈ cs, Ltr x) (h : AddPost Z d sh G s cs w w') : Ded Z d (C ++ [cs]) w' := by
  obtain ⟨g, sh', G', c', a1, a2, a3, a4, a5, a6, _⟩ := h
  obtain ⟨ids', b1, b2⟩ := add_all hL (c := cs) (g := g) (fun e => a1 (hG g e)) hc
  refine ⟨ids', _, sh', G', c', b1, fun z hz => ?_, ?_, fun z hz => ?_, a6⟩
  · rcases b2 with e | ⟨e, e2, a, b, t, e3⟩
    · rw [e] at hz; exact (a2 z (hG z hz)).1
    · rw [e] at hz
      rcases List.mem_append.1 hz with hz | hz
      · exact (a2 z (hG z hz)).1
      · simp at hz; rw [hz]; exact a5 e2 (by rw [e3]; simp)
  · rw [List.length_append]
    rcases b2 with e | ⟨e, _⟩
    · rw [e]; omega
    · rw [e, List.length_append]; simp; omega
  · by_cases e : G z
    · rw [(a2 z e).2]; exact hsh z e
    · rcases a3 z hz with h1 | h1
      · exact absurd h1 e
      · rw [h1] at hz ⊢; exact a4 hz
set_option maxRecDepth 100000 in
set_option maxHeartbeats 2000000 in
theorem deduce_dm (l : List (List Int)) (v : Value) (w : World) (hv : RowsO w (fun b => b < w.heap.size) l v) (hl : ∀ c ∈ l, c.length ≤ 1000 ∧ ∀ x ∈ c, Ltr x) (hn : l.length ≤ 5000) :
    Calls Try.prog 55 #[v] w fun e w' => e = .returned (.pointer (some ⟨w.heap.size, 0, none⟩)) ∧ Ded (fun b => b < w.heap.size) w.heap.size l w' ∧ Fr nob w w' := by
  obtain ⟨a, cap, rfl⟩ := hv.form
  obtain ⟨N, hN⟩ : ∃ N, l.length = N := ⟨_, rfl⟩
  rw [hN] at hn hv ⊢
  have HN := Lib.hid hN
  have HV := Lib.hid hv
  have HL := Lib.hid hl
  clear hN hv hl
  go_enter Try.func55, Try.ntmps55
  go_wp2_with fail
  go_loopg [8] N (fun m iv wr => ∃ k : Nat, k + m = N ∧ iv = .int .i64 (k : Int) ∧ Ded (fun b => b < w.heap.size) w.heap.size (l.take k) wr ∧ Fr (fun k => ¬ k < w.heap.size) w wr)
  case atStart => exact ⟨0, by omega, rfl, by
    rw [List.take_zero]
    exact ⟨[], s0, fun _ => (0, 0), fun _ => False, zc, lev0, by simp, Nat.le_refl _, fun _ h => h.elim, dm0 (Mem.of_alloc w _ _ rfl) (fun k hk => by simp; omega) (Nat.lt_irrefl _)⟩, nob_notZ ((Fr.refl nob w).alloc _)⟩
  case round =>
    obtain ⟨k, hkm, rfl, hD, hF⟩ := hrel
    have HD := Lib.hid hD
    have HF := Lib.hid hF
    have q4 : (0 : Int) ≤ (k : Int) := Int.natCast_nonneg _
    clear hD hF
    cases gk with
    | zero =>
      obtain rfl : k = N := by omega
      go_wp2_with fail
      go_ret
      have h := HD.out
      rw [List.take_of_length_le (by rw [HN.out]; exact Nat.le_refl _)] at h
      exact ⟨rfl, h, HF.out.mono fun i hi hn => absurd hi hn⟩
    | succ m =>
      have q3 : (k : Int) < (N : Int) := by omega
      have hk : k < l.length := by rw [HN.out]; omega
      have hkt : l[k]? = some l[k] := List.getElem?_eq_getElem hk
      have hmem : l[k] ∈ l := List.getElem_mem hk
      have htake : l.take (k + 1) = l.take k ++ [l[k]] := List.take_succ_eq_append_getElem hk
      generalize l[k] = cs at hkt hmem htake
      obtain ⟨b, ob, rfl, hSb, a', cap', hcl0, hI0⟩ := HV.out.at hkt
      have hcl := HF.out.cell hcl0 (fun e => e hSb)
      have hI := hI0.kept (T := fun b => b < w.heap.size) HF.out (fun b hb _ => ⟨fun e => e hb, hb⟩)
      obtain ⟨hc1, hc2⟩ := HL.out cs hmem
      obtain ⟨ids, s, sh, G, c, d1, d2, d3, d4, d5⟩ := HD.out
      have hids : ids.length ≤ 5000 := Nat.le_trans d3 (by rw [List.length_take, HN.out]; omega)
      have hC := add_dm _ _ sh G s c cs _ _ wr ids d5 d1.mid hI (fun _ h => h) hc2 hc1 d2 (by omega) d4
      have HT := Lib.hid htake
      have H1 := Lib.hid d1
      have H2 := Lib.hid d2
      have H3 := Lib.hid d3
      have H4 := Lib.hid d4
      have HC2 := Lib.hid hc2
      obtain ⟨Z, hz⟩ : ∃ Z, cs.length = Z := ⟨_, rfl⟩
      rw [hz] at hcl hC
      clear hk hkt hmem htake hcl0 hI0 hI hc1 hc2 d1 d2 d3 d4 d5 hids hz HD
      go_wp2_with fail
      refine hC.mono ?_
      rintro e w2 ⟨rfl, hP⟩
      have hF2 : Fr (fun k => ¬ k < w.heap.size) wr w2 := by
        obtain ⟨_, _, _, _, _, _, _, _, _, _, f⟩ := hP
        exact f
      have HF2 := Lib.hid (HF.out.trans hF2 (fun _ _ h => h))
      have HD2 : Hid (Ded (fun b => b < w.heap.size) w.heap.size (l.take (k + 1)) w2) := Lib.hid (by rw [HT.out]; exact Ded.add H1.out H2.out H3.out H4.out HC2.out hP)
      clear hC hP hF2 hcl HF
      go_wp2_with fail
      go_roundg m
      case measure => omega
      case rel => exact ⟨k + 1, by omega, by go_num, HD2.out, HF2.out⟩
end Go.Proofs.Ytaojojjdfdlgpaa
