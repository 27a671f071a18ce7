/- The law FormulaRefutes returns true for every number and every two lists of lists of numbers, and leaves them as they were: no condition. -/
import Derived.Test.YtaojojjdfdlgpaaRows
import Derived.Test.YtaojojjdfdlgpaaChecked
import Derived.Test.YtaojojjdfdlgpaaOpR
import Derived.Test.YtaojojjdfdlgpaaHb
import Derived.WalkKit
import Derived.ProofKit
import Derived.OpenShut
import Derived.ChangeMaps5
namespace Go.Proofs.Ytaojojjdfdlgpaa
open Go.ChangeShapes Go.ChangeMaps Go.WideShapes Go.ChangeAt Go.RowKit Go.WideElems Go.Deep

theorem nob_below {w w' : World} (h : Fr nob w w') : Below w.heap.size w w' := h.to_below (Nat.le_refl _) (fun _ h => h.elim)
theorem refsOwn : ownKnob Try.prog.godebug = none := by kernel_rfl
theorem refsLaid : laidOutB Try.prog = true := by kernel_rfl
theorem rows_cap {H : Type} {enc : TypeId × Value → H} {w : World} {base : Nat} {held : Bool} {fuel : Nat} {cs : List Value} {x : DataW H × List MemPlace} (h : DataW.trod enc Try.prog w base (fun _ => true) held fuel 36 cs = some x) :
    ∃ a n c, cs = [.slice a n c] ∧ n ≤ c := by
  rcases open_int_rows Try.underlying36 Try.underlying37 Try.underlying3 intsSize1 intSize1 h with ⟨hc, _⟩ | ⟨a, len, cap, A, L, C, Z, hc, _, hl, hm, _, hr⟩
  · exact ⟨none, 0, 0, hc, Nat.le_refl _⟩
  · exact ⟨_, _, _, hc, hl⟩
set_option maxRecDepth 100000 in
theorem refsLifted (os : Os) (started : os.Started) (H : Type) (enc : TypeId × Value → H) :
    ReturnsInHanded {} Try.checked os 9 .any (Rows.formulaRefutesSpec.pre6 enc Try.prog Try.f9 Rows.formulaRefutesRow.domain false) (Rows.formulaRefutesSpec.post enc Try.prog Try.f9 false true false false) := by
  refine returnsInHanded_of_change (C := Try.checked) refsOwn started (by kernel_rfl) Try.func9
    (ChangeSpec.witness6 (enc := enc) (C := Try.checked) false ⟨#[], #[.int .i64 0, .slice none 0 0, .slice none 0 0], []⟩ 8 (by kernel_rfl) (by kernel_rfl) (by kernel_rfl) (by kernel_rfl)) ?_
  intro W base args ds gs before hval0 hW _ _
  have hval : ∀ (j : Nat) t v, Try.f9.params[j]? = some t → args[j]? = some v → Value.okWide Try.prog W .any base t v := hval0
  have hW' := hW
  obtain ⟨p, q, hA0, hV, rfl, _, _⟩ := hW
  have hA : DataW.TrodAll enc Try.prog W 0 (fun _ => true) true Try.f9.params.toList args.toList ds p := hA0
  rw [Try.params9] at hA hval
  obtain ⟨v0, v1, v2, d0, d1, d2, p0, p1, p2, rfl, rfl, rfl, h0, h1, h2⟩ := trodAll_three hA
  obtain ⟨rfl, rfl⟩ := trodVars_none hV
  obtain ⟨n, rfl, rfl, rfl, w0⟩ := open_int Try.underlying3 (hval 0 3 v0 rfl rfl) h0
  obtain ⟨a1, len1, cap1, rfl⟩ := okWide_slice Try.underlying36 (hval 1 36 v1 rfl rfl)
  obtain ⟨a2, len2, cap2, rfl⟩ := okWide_slice Try.underlying36 (hval 2 36 v2 rfl rfl)
  have h1k := h1
  have h2k := h2
  obtain ⟨fuel1, hf1⟩ := h1
  obtain ⟨fuel2, hf2⟩ := h2
  clear hA0 hval0
  simp only [List.append_nil] at hW'
  have hlt1 : ∀ x ∈ p1, x.block < W.heap.size := fun x hx => by simpa using hW'.lt x (by simp [hx])
  have hlt2 : ∀ x ∈ p2, x.block < W.heap.size := fun x hx => by simpa using hW'.lt x (by simp [hx])
  obtain ⟨l, v, hc, hrow, hwd⟩ := open_rows hf1
  obtain rfl : Value.slice a1 len1 cap1 = v := by simpa [Value.cells] using hc
  obtain ⟨p, vp, hcp, hrowp, hwdp⟩ := open_rows hf2
  obtain rfl : Value.slice a2 len2 cap2 = vp := by simpa [Value.cells] using hcp
  obtain ⟨ra, rn, rc, hrc, hrl⟩ := rows_cap hf1
  obtain ⟨fa, fc, hform⟩ := hrow.form
  have hcap : ∃ a c, Value.slice a1 len1 cap1 = .slice a l.length c ∧ l.length ≤ c := by
    have e1 : Value.slice a1 len1 cap1 = .slice ra rn rc := by
      rw [hc] at hrc
      exact List.head_eq_of_cons_eq hrc
    rw [hform] at e1
    cases e1
    exact ⟨_, _, hform, hrl⟩
  refine (refs_any l p n _ _ W hwd hwdp hrow hrowp hcap).mono fun e W' ⟨he, hF⟩ => ?_
  have hB := nob_below hF
  subst he
  refine ⟨_, rfl, _, _, _, [], [] ++ p1 ++ p2, [], hW', ?_, ?_, rfl, hB.frame _, fun h => by cases h⟩
  · exact trodAll_mk1 (shut_bool Try.underlying4 _)
  · exact trodAll_mk3 (shut_int Try.underlying3 w0) (Below.trod refsLaid (by kernel_rfl) (of_decide_eq_true (by kernel_rfl)) h1k hB hlt1) (Below.trod refsLaid (by kernel_rfl) (of_decide_eq_true (by kernel_rfl)) h2k hB hlt2)

/-- the law holds of every input -/
theorem formulaRefutes_holds : Rows.FormulaRefutesSaid :=
  OpenClaim.holds_of_wide 9 Try.f9 rfl rfl rfl rfl rfl rfl rfl ⟨rfl, rfl, rfl, rfl, rfl⟩ rfl rfl rfl rfl rfl (by kernel_rfl) Try.func9 (by kernel_rfl)
    (of_decide_eq_true (by kernel_rfl)) (by unfold Func.isWrapper; first | (rw [if_pos (by decide +kernel)]; kernel_rfl) | (rw [if_neg (by decide +kernel)]; exact ⟨rfl, rfl⟩))
    (fun os started H enc _ => refsLifted os started H enc)
#print axioms formulaRefutes_holds
end Go.Proofs.Ytaojojjdfdlgpaa
