/- The law FormulaOwn returns true for every two trees of formulas, and leaves its input as it was: no condition. -/
import Derived.Test.YtbiheajnmjbdoaaRows
import Derived.Test.YtbiheajnmjbdoaaChecked
import Derived.Test.YtbiheajnmjbdoaaOpT
import Derived.Test.YtbiheajnmjbdoaaQe7
import Derived.WalkKit
import Derived.ProofKit
import Derived.OpenShut
import Derived.ChangeMaps5
namespace Go.Proofs.Ytbiheajnmjbdoaa
open Go.ChangeShapes Go.ChangeMaps Go.WideShapes Go.ChangeAt Go.RowKit Go.WideElems

theorem nob_below {w w' : World} (h : Fr nob w w') : Below w.heap.size w w' := h.to_below (Nat.le_refl _) (fun _ h => h.elim)
theorem ownOwn : ownKnob Try.prog.godebug = none := by kernel_rfl
theorem ownLaid : laidOutB Try.prog = true := by kernel_rfl

set_option maxRecDepth 100000 in
theorem ownLifted (os : Os) (started : os.Started) (H : Type) (enc : TypeId × Value → H) :
    ReturnsInHanded {} Try.checked os 8 .any (Rows.formulaOwnSpec.pre6 enc Try.prog Try.f8 Rows.formulaOwnRow.domain false) (Rows.formulaOwnSpec.post enc Try.prog Try.f8 false true false false) := by
  refine returnsInHanded_of_change (C := Try.checked) ownOwn started (by kernel_rfl) Try.func8
    (ChangeSpec.witness6 (enc := enc) (C := Try.checked) false ⟨#[], #[.agg #[.int .u8 0, .string ⟨#[]⟩, .slice none 0 0], .agg #[.int .u8 0, .string ⟨#[]⟩, .slice none 0 0]], []⟩ 8 (by kernel_rfl) (by kernel_rfl) (by kernel_rfl) (by kernel_rfl)) ?_
  intro W base args ds gs before hval0 hW _ _
  have hval : ∀ (j : Nat) t v, Try.f8.params[j]? = some t → args[j]? = some v → Value.okWide Try.prog W .any base t v := hval0
  have hW' := hW
  obtain ⟨p, q, hA0, hV, rfl, _, _⟩ := hW
  have hA : DataW.TrodAll enc Try.prog W 0 (fun _ => true) true Try.f8.params.toList args.toList ds p := hA0
  rw [Try.params8] at hA hval
  obtain ⟨v0, v2, d0, d2, p0, p2, rfl, rfl, rfl, h0, h2⟩ := trodAll_two hA
  obtain ⟨rfl, rfl⟩ := trodVars_none hV
  have h0k := h0
  have h2k := h2
  have hfs := exprFields
  split at hfs
  · rename_i fs hst
    obtain ⟨cs, rfl, _⟩ := okWide_struct hst (hval 0 25 v0 rfl rfl)
    obtain ⟨cs2, rfl, _⟩ := okWide_struct hst (hval 1 25 v2 rfl rfl)
    obtain ⟨fuel, hf⟩ := h0
    obtain ⟨fuel2, hf2⟩ := h2
    obtain ⟨t, hwd, o, nm, a, ln, cp, hcs, hT⟩ := open_tree fuel hf
    obtain ⟨t2, hwd2, o2, nm2, a2, ln2, cp2, hcs2, hT2⟩ := open_tree fuel2 hf2
    obtain rfl : cs = #[.int .u8 (o : Int), .string (txt nm), .slice a ln cp] := by
      apply Array.toList_inj.1
      simpa [Value.cells] using hcs
    obtain rfl : cs2 = #[.int .u8 (o2 : Int), .string (txt nm2), .slice a2 ln2 cp2] := by
      apply Array.toList_inj.1
      simpa [Value.cells] using hcs2
    clear hA0 hval0
    simp only [List.append_nil] at hW'
    have hlt : ∀ x ∈ p0 ++ p2, x.block < W.heap.size := fun x hx => by simpa using hW'.lt x (by simpa using hx)
    refine (owns_any t t2 _ _ W hwd hwd2 hT hT2).mono fun e W' ⟨he, hF⟩ => ?_
    have hB := nob_below hF
    subst he
    refine ⟨_, rfl, _, _, _, [], p0 ++ p2, [], hW', ?_, ?_, rfl, hB.frame _, fun h => by cases h⟩
    · exact trodAll_mk1 (shut_bool Try.underlying4 _)
    · have all := trodAll_mk2 (Below.trod ownLaid (by kernel_rfl) (of_decide_eq_true (by kernel_rfl)) h0k hB (fun x hx => hlt x (by simp [hx]))) (Below.trod ownLaid (by kernel_rfl) (of_decide_eq_true (by kernel_rfl)) h2k hB (fun x hx => hlt x (by simp [hx])))
      first | exact all | simpa only [List.nil_append, List.append_nil, List.append_assoc] using all
  · cases hfs

/-- the law holds of every input -/
theorem formulaOwn_holds : Rows.FormulaOwnSaid :=
  OpenClaim.holds_of_wide 8 Try.f8 rfl rfl rfl rfl rfl rfl rfl ⟨rfl, rfl, rfl, rfl, rfl⟩ rfl rfl rfl rfl rfl (by kernel_rfl) Try.func8 (by kernel_rfl)
    (of_decide_eq_true (by kernel_rfl)) (by unfold Func.isWrapper; first | (rw [if_pos (by decide +kernel)]; kernel_rfl) | (rw [if_neg (by decide +kernel)]; exact ⟨rfl, rfl⟩))
    (fun os started H enc _ => ownLifted os started H enc)
#print axioms formulaOwn_holds
end Go.Proofs.Ytbiheajnmjbdoaa
