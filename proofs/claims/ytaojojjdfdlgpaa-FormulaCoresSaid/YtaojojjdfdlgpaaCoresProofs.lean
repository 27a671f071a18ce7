/- The law FormulaCores returns true for every number and every list of lists of numbers, and leaves it as it was: no condition. -/
import Derived.Test.YtaojojjdfdlgpaaRows
import Derived.Test.YtaojojjdfdlgpaaChecked
import Derived.Test.YtaojojjdfdlgpaaOpR
import Derived.Test.YtaojojjdfdlgpaaHe
import Derived.WalkKit
import Derived.ProofKit
import Derived.OpenShut
import Derived.ChangeMaps5
namespace Go.Proofs.Ytaojojjdfdlgpaa
open Go.ChangeShapes Go.ChangeMaps Go.WideShapes Go.ChangeAt Go.RowKit Go.WideElems Go.Deep

theorem nob_below {w w' : World} (h : Fr nob w w') : Below w.heap.size w w' := h.to_below (Nat.le_refl _) (fun _ h => h.elim)
theorem coresOwn : ownKnob Try.prog.godebug = none := by kernel_rfl
theorem coresLaid : laidOutB Try.prog = true := by kernel_rfl
set_option maxRecDepth 100000 in
theorem coresLifted (os : Os) (started : os.Started) (H : Type) (enc : TypeId × Value → H) :
    ReturnsInHanded {} Try.checked os 7 .any (Rows.formulaCoresSpec.pre6 enc Try.prog Try.f7 Rows.formulaCoresRow.domain false) (Rows.formulaCoresSpec.post enc Try.prog Try.f7 false true false false) := by
  refine returnsInHanded_of_change (C := Try.checked) coresOwn started (by kernel_rfl) Try.func7
    (ChangeSpec.witness6 (enc := enc) (C := Try.checked) false ⟨#[], #[.int .i64 0, .slice none 0 0], []⟩ 8 (by kernel_rfl) (by kernel_rfl) (by kernel_rfl) (by kernel_rfl)) ?_
  intro W base args ds gs before hval0 hW _ _
  have hval : ∀ (j : Nat) t v, Try.f7.params[j]? = some t → args[j]? = some v → Value.okWide Try.prog W .any base t v := hval0
  have hW' := hW
  obtain ⟨p, q, hA0, hV, rfl, _, _⟩ := hW
  have hA : DataW.TrodAll enc Try.prog W 0 (fun _ => true) true Try.f7.params.toList args.toList ds p := hA0
  rw [Try.params7] at hA hval
  obtain ⟨v0, v1, d0, d1, p0, p1, rfl, rfl, rfl, h0, h1⟩ := trodAll_two hA
  obtain ⟨rfl, rfl⟩ := trodVars_none hV
  obtain ⟨n, rfl, rfl, rfl, w0⟩ := open_int Try.underlying3 (hval 0 3 v0 rfl rfl) h0
  obtain ⟨a1, len1, cap1, rfl⟩ := okWide_slice Try.underlying36 (hval 1 36 v1 rfl rfl)
  have h1k := h1
  obtain ⟨fuel1, hf1⟩ := h1
  clear hA0 hval0
  simp only [List.append_nil] at hW'
  have hlt1 : ∀ x ∈ p1, x.block < W.heap.size := fun x hx => by simpa using hW'.lt x (by simp [hx])
  obtain ⟨l, v, hc, hrow, hwd⟩ := open_rows hf1
  obtain rfl : Value.slice a1 len1 cap1 = v := by simpa [Value.cells] using hc
  refine (cores_any l n _ W hwd hrow).mono fun e W' ⟨he, hF⟩ => ?_
  have hB := nob_below hF
  subst he
  refine ⟨_, rfl, _, _, _, [], [] ++ p1, [], hW', ?_, ?_, rfl, hB.frame _, fun h => by cases h⟩
  · exact trodAll_mk1 (shut_bool Try.underlying4 _)
  · exact trodAll_mk2 (shut_int Try.underlying3 w0) (Below.trod coresLaid (by kernel_rfl) (of_decide_eq_true (by kernel_rfl)) h1k hB hlt1)

/-- the law holds of every input -/
theorem formulaCores_holds : Rows.FormulaCoresSaid :=
  OpenClaim.holds_of_wide 7 Try.f7 rfl rfl rfl rfl rfl rfl rfl ⟨rfl, rfl, rfl, rfl, rfl⟩ rfl rfl rfl rfl rfl (by kernel_rfl) Try.func7 (by kernel_rfl)
    (of_decide_eq_true (by kernel_rfl)) (by unfold Func.isWrapper; first | (rw [if_pos (by decide +kernel)]; kernel_rfl) | (rw [if_neg (by decide +kernel)]; exact ⟨rfl, rfl⟩))
    (fun os started H enc _ => coresLifted os started H enc)
#print axioms formulaCores_holds
end Go.Proofs.Ytaojojjdfdlgpaa
