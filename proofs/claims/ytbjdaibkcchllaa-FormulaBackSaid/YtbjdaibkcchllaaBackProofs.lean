/- The law FormulaBack returns true for every tree of formulas, and leaves its input as it was: no condition. -/
import Derived.Test.YtbjdaibkcchllaaRows
import Derived.Test.YtbjdaibkcchllaaChecked
import Derived.Test.YtbjdaibkcchllaaOpT
import Derived.Test.YtbjdaibkcchllaaQq7
import Derived.WalkKit
import Derived.ProofKit
import Derived.OpenShut
import Derived.ChangeMaps5
namespace Go.Proofs.Ytbjdaibkcchllaa
open Go.ChangeShapes Go.ChangeMaps Go.WideShapes Go.ChangeAt Go.RowKit Go.WideElems

theorem nob_below {w w' : World} (h : Fr nob w w') : Below w.heap.size w w' := h.to_below (Nat.le_refl _) (fun _ h => h.elim)
theorem backOwn : ownKnob Try.prog.godebug = none := by kernel_rfl
theorem backLaid : laidOutB Try.prog = true := by kernel_rfl

set_option maxRecDepth 100000 in
theorem backLifted (os : Os) (started : os.Started) (H : Type) (enc : TypeId × Value → H) :
    ReturnsInHanded {} Try.checked os 9 .any (Rows.formulaBackSpec.pre6 enc Try.prog Try.f9 Rows.formulaBackRow.domain false) (Rows.formulaBackSpec.post enc Try.prog Try.f9 false true false false) := by
  refine returnsInHanded_of_change (C := Try.checked) backOwn started (by kernel_rfl) Try.func9
    (ChangeSpec.witness6 (enc := enc) (C := Try.checked) false ⟨#[], #[.agg #[.int .u8 0, .string ⟨#[]⟩, .slice none 0 0]], []⟩ 8 (by kernel_rfl) (by kernel_rfl) (by kernel_rfl) (by kernel_rfl)) ?_
  intro W base args ds gs before hval0 hW _ _
  have hval : ∀ (j : Nat) t v, Try.f9.params[j]? = some t → args[j]? = some v → Value.okWide Try.prog W .any base t v := hval0
  have hW' := hW
  obtain ⟨p, q, hA0, hV, rfl, hnf, _⟩ := hW
  have hA : DataW.TrodAll enc Try.prog W 0 (fun _ => true) true Try.f9.params.toList args.toList ds p := hA0
  rw [Try.params9] at hA hval
  obtain ⟨v0, d0, rfl, rfl, h0⟩ := trodAll_one hA
  obtain ⟨rfl, rfl⟩ := trodVars_none hV
  have h0k := h0
  have hfs := exprFields
  split at hfs
  · rename_i fs hst
    obtain ⟨cs, rfl, _⟩ := okWide_struct hst (hval 0 25 v0 rfl rfl)
    obtain ⟨fuel, hf⟩ := h0
    obtain ⟨t, hwd, o, nm, a, ln, cp, hcs, hT⟩ := open_treeN fuel hf (fun b off hm => hnf b off (List.mem_append_left _ hm))
    obtain rfl : cs = #[.int .u8 (o : Int), .string (txt nm), .slice a ln cp] := by
      apply Array.toList_inj.1
      simpa [Value.cells] using hcs
    clear hA0 hval0
    simp only [List.append_nil] at hW'
    have hlt : ∀ x ∈ p, x.block < W.heap.size := fun x hx => by simpa using hW'.lt x hx
    refine (back_any t _ W hwd hT).mono fun e W' ⟨he, hF⟩ => ?_
    have hB := nob_below hF
    subst he
    refine ⟨_, rfl, _, _, _, [], p, [], hW', ?_, ?_, rfl, ?_, fun h => by cases h⟩
    · exact trodAll_mk1 (shut_bool Try.underlying4 _)
    · exact trodAll_mk1 (Below.trod backLaid (by kernel_rfl) (of_decide_eq_true (by kernel_rfl)) h0k hB hlt)
    · exact hB.frame _
  · cases hfs

/-- the law holds of every input -/
theorem formulaBack_holds : Rows.FormulaBackSaid :=
  OpenClaim.holds_of_wide 9 Try.f9 rfl rfl rfl rfl rfl rfl rfl ⟨rfl, rfl, rfl, rfl, rfl⟩ rfl rfl rfl rfl rfl (by kernel_rfl) Try.func9 (by kernel_rfl)
    (of_decide_eq_true (by kernel_rfl)) (by unfold Func.isWrapper; first | (rw [if_pos (by decide +kernel)]; kernel_rfl) | (rw [if_neg (by decide +kernel)]; exact ⟨rfl, rfl⟩))
    (fun os started H enc _ => backLifted os started H enc)
#print axioms formulaBack_holds
end Go.Proofs.Ytbjdaibkcchllaa
