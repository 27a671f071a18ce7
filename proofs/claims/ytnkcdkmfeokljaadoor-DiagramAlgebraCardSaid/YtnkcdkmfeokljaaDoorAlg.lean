import Derived.Test.YtnkcdkmfeokljaaDoorFixes
import Derived.Test.YtnkcdkmfeokljaaDoorRuleG
import Derived.Great.BuildSlice
namespace Go.Proofs.YtnkcdkmfeokljaaDoor
open Go.RowKit Go.Shelf
open Bd

noncomputable def algVals (A B1 C OBC R1 AB AC BC R2 OAB OAC NAB NA NB XAB ANB BNA XAA ONA IT CNA CB R3 OCB R4 : B) (wb mb : Bool) : Nat → Value := fun i => List.getD [dval A, dval B1, dval C, dval OBC, dval R1, dval A, dval B1, dval AB, dval A, dval C, dval AC, dval R1, Value.bool true, Value.bool true, dval A, dval B1, dval C, dval BC, dval R2, dval A, dval B1, dval OAB, dval A, dval C, dval OAC, dval R2, Value.bool true, Value.bool true, Value.bool true, dval A, dval B1, dval AB, dval NAB, dval A, dval NA, dval B1, dval NB, dval NAB, Value.bool true, Value.bool true, Value.bool true, dval A, dval NA, dval A, dval A, Value.bool true, Value.bool true, Value.bool true, dval A, dval B1, dval XAB, dval A, dval B1, dval NB, dval ANB, dval B1, dval A, dval NA, dval BNA, dval XAB, Value.bool true, Value.bool true, Value.bool true, dval A, dval A, dval XAA, Value.bool true, Value.bool true, Value.bool true, dval A, dval A, dval NA, dval ONA, Value.bool true, Value.bool true, Value.bool true, dval A, dval B1, dval AB, dval B1, dval A, dval AB, Value.bool true, Value.bool true, Value.bool true, dval A, dval B1, dval C, dval IT, dval A, dval B1, dval AB, dval C, dval A, dval NA, dval CNA, dval IT, Value.bool true, Value.bool true, Value.bool true, dval A, dval B1, dval C, undef, dval R3, dval C, dval B1, dval CB, dval A, dval R3, Value.bool true, Value.bool true, Value.bool true, dval A, dval B1, dval C, undef, dval R4, dval C, dval B1, dval OCB, dval A, dval R4, Value.bool true, Value.bool true, Value.bool true, dval A, dval B1, Value.bool wb, dval A, dval B1, dval OAB, dval B1, Value.bool wb, Value.bool true, Value.bool true, Value.bool true, dval A, dval B1, Value.bool mb, dval A, dval B1, dval NB, Value.bool (!mb), Value.bool mb, Value.bool true, Value.bool true, Value.bool true, Value.bool true, Value.bool true] i undef

/-- the region's operations as numbers (tools/rows.lean.txt prints them): where each writes, where it looks, what it waits for -/
def algRows : List G.Row := [
  (18, [4], []), (19, [5], []), (20, [6], []), (21, [19, 20], [1, 2]), (22, [18, 21], [0, 3, 3]), (23, [4], []), (24, [5], []), (25, [23, 24], [5, 6, 4]),
  (26, [4], []), (27, [6], []), (28, [26, 27], [8, 9, 7]), (29, [25, 28], [7, 10, 10]), (30, [22, 29], [4, 11, 11]), (31, [30], [12, 12]), (32, [4, 31], [13]), (33, [5, 31], [13]),
  (34, [6, 31], [13]), (35, [33, 34, 31], [15, 16, 13, 13]), (36, [32, 35, 31], [14, 17, 17, 13]), (37, [4, 31], [13]), (38, [5, 31], [13]), (39, [37, 38, 31], [19, 20, 18, 13]), (40, [4, 31], [13]), (41, [6, 31], [13]),
  (42, [40, 41, 31], [22, 23, 21, 13]), (43, [39, 42, 31], [21, 24, 24, 13]), (44, [36, 43, 31], [18, 25, 25, 13]), (45, [31, 44], [13, 26]), (46, [45], [27, 26]), (47, [4, 46], [28]), (48, [5, 46], [28]), (49, [47, 48, 46], [29, 30, 28, 28]),
  (50, [49, 46], [31, 31, 28]), (51, [4, 46], [28]), (52, [51, 46], [33, 32, 28]), (53, [5, 46], [28]), (54, [53, 46], [35, 34, 28]), (55, [52, 54, 46], [34, 36, 36, 28]), (56, [50, 55, 46], [32, 37, 37, 28]), (57, [46, 56], [28, 38]),
  (58, [57], [39, 38]), (59, [4, 58], [40]), (60, [59, 58], [41, 40, 40]), (61, [60, 58], [42, 42, 40]), (62, [4, 58], [40]), (63, [61, 62, 58], [43, 44, 43, 40]), (64, [58, 63], [40, 45]), (65, [64], [46, 45]),
  (66, [4, 65], [47]), (67, [5, 65], [47]), (68, [66, 67, 65], [48, 49, 47, 47]), (69, [4, 65], [47]), (70, [5, 65], [47]), (71, [70, 65], [52, 50, 47]), (72, [69, 71, 65], [51, 53, 53, 47]), (73, [5, 65], [47]),
  (74, [4, 65], [47]), (75, [74, 65], [56, 54, 47]), (76, [73, 75, 65], [55, 57, 57, 47]), (77, [72, 76, 65], [54, 58, 58, 47]), (78, [68, 77, 65], [50, 59, 59, 47]), (79, [65, 78], [47, 60]), (80, [79], [61, 60]), (81, [4, 80], [62]),
  (82, [4, 80], [62]), (83, [81, 82, 80], [63, 64, 62, 62]), (84, [83, 80], [65, 65, 62]), (85, [80, 84], [62, 66]), (86, [85], [67, 66]), (87, [4, 86], [68]), (88, [4, 86], [68]), (89, [88, 86], [70, 68, 68]),
  (90, [87, 89, 86], [69, 71, 71, 68]), (91, [90, 86], [72, 72, 68]), (92, [86, 91], [68, 73]), (93, [92], [74, 73]), (94, [4, 93], [75]), (95, [5, 93], [75]), (96, [94, 95, 93], [76, 77, 75, 75]), (97, [5, 93], [75]),
  (98, [4, 93], [75]), (99, [97, 98, 93], [79, 80, 78, 75]), (100, [96, 99, 93], [78, 81, 81, 75]), (101, [93, 100], [75, 82]), (102, [101], [83, 82]), (103, [4, 102], [84]), (104, [5, 102], [84]), (105, [6, 102], [84]),
  (106, [103, 104, 105, 102], [85, 86, 87, 84, 84]), (107, [4, 102], [84]), (108, [5, 102], [84]), (109, [107, 108, 102], [89, 90, 88, 84]), (110, [6, 102], [84]), (111, [4, 102], [84]), (112, [111, 102], [93, 91, 84]), (113, [110, 112, 102], [92, 94, 94, 84]),
  (114, [109, 113, 102], [91, 95, 95, 84]), (115, [106, 114, 102], [88, 96, 96, 84]), (116, [102, 115], [84, 97]), (117, [116], [98, 97]), (118, [4, 117], [99]), (119, [5, 117], [99]), (120, [6, 117], [99]), (121, [118, 119, 120, 117], [100, 101, 102, 99]),
  (122, [121, 117], [103, 99, 99]), (123, [6, 117], [99]), (124, [5, 117], [99]), (125, [123, 124, 117], [105, 106, 104, 99]), (126, [4, 117], [99]), (127, [125, 126, 117], [107, 108, 107, 99]), (128, [122, 127, 117], [104, 109, 109, 99]), (129, [117, 128], [99, 110]),
  (130, [129], [111, 110]), (131, [4, 130], [112]), (132, [5, 130], [112]), (133, [6, 130], [112]), (134, [131, 132, 133, 130], [113, 114, 115, 112]), (135, [134, 130], [116, 112, 112]), (136, [6, 130], [112]), (137, [5, 130], [112]),
  (138, [136, 137, 130], [118, 119, 117, 112]), (139, [4, 130], [112]), (140, [138, 139, 130], [120, 121, 120, 112]), (141, [135, 140, 130], [117, 122, 122, 112]), (142, [130, 141], [112, 123]), (143, [142], [124, 123]), (144, [4, 143], [125]), (145, [5, 143], [125]),
  (146, [144, 145, 143], [126, 127, 125, 125]), (147, [4, 143], [125]), (148, [5, 143], [125]), (149, [147, 148, 143], [129, 130, 128, 125]), (150, [5, 143], [125]), (151, [149, 150, 143], [131, 132, 131, 125]), (152, [146, 151, 143], [128, 133, 125]), (153, [143, 152], [125, 134]),
  (154, [153], [135, 133]), (155, [4, 154], [136]), (156, [5, 154], [136]), (157, [155, 156, 154], [137, 138, 136, 136]), (158, [4, 154], [136]), (159, [5, 154], [136]), (160, [159, 154], [141, 139, 136]), (161, [158, 160, 154], [140, 142, 142, 136]),
  (162, [161, 154], [143, 136]), (163, [157, 162, 154], [139, 144, 136]), (164, [154, 163], [136, 145]), (165, [164], [146, 143]), (166, [165], [147, 147]), (167, [165, 166], [147, 148]), (3, [167], [149, 148, 0, 1, 2, 3, 4, 5, 6, 7, 8, 9, 10, 11, 12, 13, 14, 15, 16, 17, 18, 19, 20, 21, 22, 23, 24, 25, 26, 27, 28, 29, 30, 31, 32, 33, 34, 35, 36, 37, 38, 39, 40, 41, 42, 43, 44, 45, 46, 47, 48, 49, 50, 51, 52, 53, 54, 55, 56, 57, 58, 59, 60, 61, 62, 63, 64, 65, 66, 67, 68, 69, 70, 71, 72, 73, 74, 75, 76, 77, 78, 79, 80, 81, 82, 83, 84, 85, 86, 87, 88, 89, 90, 91, 92, 93, 94, 95, 96, 97, 98, 99, 100, 101, 102, 103, 104, 105, 106, 107, 108, 109, 110, 111, 112, 113, 114, 115, 116, 117, 118, 119, 120, 121, 122, 123, 124, 125, 126, 127, 128, 129, 130, 131, 132, 133, 134, 135, 136, 137, 138, 139, 140, 141, 142, 143, 144, 145, 146, 147, 148, 149])]
theorem algChk : G.chkR 150 0 algRows = true := by kernel_rfl
theorem algLow : G.lowR 0 algRows = true := by kernel_rfl
theorem algCov : G.coverR 150 algRows = true := by kernel_rfl

theorem dRow_new (A B1 C : B) (w : World) : DRow (w.alloc (.cells ([A, B1, C].flatMap dc).toArray 26)) (.slice (some ⟨w.heap.size, 0, none⟩) 3 3) [A, B1, C] := by
  refine ⟨_, 3, rfl, fun k y hk => ⟨w.heap.size, rfl, ?_, ?_⟩⟩
  all_goals
    match k, hk with
    | 0, hk => cases hk; exact World.cell?_alloc_at _ _ _ _ (by simp)
    | 1, hk => cases hk; exact World.cell?_alloc_at _ _ _ _ (by simp)
    | 2, hk => cases hk; exact World.cell?_alloc_at _ _ _ _ (by simp)
    | k + 3, hk => simp at hk
theorem slice3_new (A B1 C : B) (w : World) (x : Sem Next) (h : x.run Tryd.prog w = .ok (.value (.slice (some ⟨w.heap.size, 0, none⟩) 3 3)) (w.alloc (.cells ([A, B1, C].flatMap dc).toArray 26))) : G.newUpon Tryd.prog w (fun v w' => DRow w' v [A, B1, C]) (x.run Tryd.prog w) :=
  G.new_alloc h rfl (dRow_new A B1 C w)

set_option maxRecDepth 100000 in
set_option maxHeartbeats 8000000 in
theorem alg_in (A B1 C OBC R1 AB AC BC R2 OAB OAC NAB NA NB XAB ANB BNA XAA ONA IT CNA CB R3 OCB R4 : B) (wb mb : Bool) (oR1 : R1.ok 0) (oR2 : R2.ok 0) (oNAB : NAB.ok 0) (oA : A.ok 0) (oXAB : XAB.ok 0) (oAB : AB.ok 0) (oIT : IT.ok 0) (oR3 : R3.ok 0) (oR4 : R4.ok 0) (v : Value) (w : World)
    (c3 : Calls Tryd.prog 19 #[v] w fun e w' => e = .returned (.tuple #[dval A, dval B1, dval C, .bool true]) ∧ Below w.heap.size w w')
    (cOBC : ∀ w, Calls Tryd.prog 22 #[dval B1, dval C] w fun e w' => e = .returned (dval OBC) ∧ Below w.heap.size w w')
    (cR1 : ∀ w, Calls Tryd.prog 21 #[dval A, dval OBC] w fun e w' => e = .returned (dval R1) ∧ Below w.heap.size w w')
    (cAB : ∀ w, Calls Tryd.prog 21 #[dval A, dval B1] w fun e w' => e = .returned (dval AB) ∧ Below w.heap.size w w')
    (cAC : ∀ w, Calls Tryd.prog 21 #[dval A, dval C] w fun e w' => e = .returned (dval AC) ∧ Below w.heap.size w w')
    (cR1b : ∀ w, Calls Tryd.prog 22 #[dval AB, dval AC] w fun e w' => e = .returned (dval R1) ∧ Below w.heap.size w w')
    (cBC : ∀ w, Calls Tryd.prog 21 #[dval B1, dval C] w fun e w' => e = .returned (dval BC) ∧ Below w.heap.size w w')
    (cR2 : ∀ w, Calls Tryd.prog 22 #[dval A, dval BC] w fun e w' => e = .returned (dval R2) ∧ Below w.heap.size w w')
    (cOAB : ∀ w, Calls Tryd.prog 22 #[dval A, dval B1] w fun e w' => e = .returned (dval OAB) ∧ Below w.heap.size w w')
    (cOAC : ∀ w, Calls Tryd.prog 22 #[dval A, dval C] w fun e w' => e = .returned (dval OAC) ∧ Below w.heap.size w w')
    (cR2b : ∀ w, Calls Tryd.prog 21 #[dval OAB, dval OAC] w fun e w' => e = .returned (dval R2) ∧ Below w.heap.size w w')
    (cNAB : ∀ w, Calls Tryd.prog 16 #[dval AB] w fun e w' => e = .returned (dval NAB) ∧ Below w.heap.size w w')
    (cNA : ∀ w, Calls Tryd.prog 16 #[dval A] w fun e w' => e = .returned (dval NA) ∧ Below w.heap.size w w')
    (cNB : ∀ w, Calls Tryd.prog 16 #[dval B1] w fun e w' => e = .returned (dval NB) ∧ Below w.heap.size w w')
    (cNABb : ∀ w, Calls Tryd.prog 22 #[dval NA, dval NB] w fun e w' => e = .returned (dval NAB) ∧ Below w.heap.size w w')
    (cNNA : ∀ w, Calls Tryd.prog 16 #[dval NA] w fun e w' => e = .returned (dval A) ∧ Below w.heap.size w w')
    (cXAB : ∀ w, Calls Tryd.prog 23 #[dval A, dval B1] w fun e w' => e = .returned (dval XAB) ∧ Below w.heap.size w w')
    (cANB : ∀ w, Calls Tryd.prog 21 #[dval A, dval NB] w fun e w' => e = .returned (dval ANB) ∧ Below w.heap.size w w')
    (cBNA : ∀ w, Calls Tryd.prog 21 #[dval B1, dval NA] w fun e w' => e = .returned (dval BNA) ∧ Below w.heap.size w w')
    (cXABb : ∀ w, Calls Tryd.prog 22 #[dval ANB, dval BNA] w fun e w' => e = .returned (dval XAB) ∧ Below w.heap.size w w')
    (cXAA : ∀ w, Calls Tryd.prog 23 #[dval A, dval A] w fun e w' => e = .returned (dval XAA) ∧ Below w.heap.size w w')
    (cEM : ∀ w, Calls Tryd.prog 24 #[dval XAA] w fun e w' => e = .returned (.bool true) ∧ Below w.heap.size w w')
    (cONA : ∀ w, Calls Tryd.prog 22 #[dval A, dval NA] w fun e w' => e = .returned (dval ONA) ∧ Below w.heap.size w w')
    (cFU : ∀ w, Calls Tryd.prog 25 #[dval ONA] w fun e w' => e = .returned (.bool true) ∧ Below w.heap.size w w')
    (cBA : ∀ w, Calls Tryd.prog 21 #[dval B1, dval A] w fun e w' => e = .returned (dval AB) ∧ Below w.heap.size w w')
    (cIT : ∀ w, Calls Tryd.prog 26 #[dval A, dval B1, dval C] w fun e w' => e = .returned (dval IT) ∧ Below w.heap.size w w')
    (cCNA : ∀ w, Calls Tryd.prog 21 #[dval C, dval NA] w fun e w' => e = .returned (dval CNA) ∧ Below w.heap.size w w')
    (cITb : ∀ w, Calls Tryd.prog 22 #[dval AB, dval CNA] w fun e w' => e = .returned (dval IT) ∧ Below w.heap.size w w')
    (cCB : ∀ w, Calls Tryd.prog 21 #[dval C, dval B1] w fun e w' => e = .returned (dval CB) ∧ Below w.heap.size w w')
    (cR3b : ∀ w, Calls Tryd.prog 21 #[dval CB, dval A] w fun e w' => e = .returned (dval R3) ∧ Below w.heap.size w w')
    (cOCB : ∀ w, Calls Tryd.prog 22 #[dval C, dval B1] w fun e w' => e = .returned (dval OCB) ∧ Below w.heap.size w w')
    (cR4b : ∀ w, Calls Tryd.prog 22 #[dval OCB, dval A] w fun e w' => e = .returned (dval R4) ∧ Below w.heap.size w w')
    (cWI : ∀ w, Calls Tryd.prog 29 #[dval A, dval B1] w fun e w' => e = .returned (.bool wb) ∧ Below w.heap.size w w')
    (cSA : ∀ w, Calls Tryd.prog 30 #[dval OAB, dval B1] w fun e w' => e = .returned (.bool wb) ∧ Below w.heap.size w w')
    (cME : ∀ w, Calls Tryd.prog 31 #[dval A, dval B1] w fun e w' => e = .returned (.bool mb) ∧ Below w.heap.size w w')
    (cWN : ∀ w, Calls Tryd.prog 29 #[dval A, dval NB] w fun e w' => e = .returned (.bool (!mb)) ∧ Below w.heap.size w w')
    (cR3 : ∀ w v, DRow w v [A, B1, C] → Calls Tryd.prog 27 #[v] w fun e w' => e = .returned (dval R3) ∧ Below w.heap.size w w')
    (cR4 : ∀ w v, DRow w v [A, B1, C] → Calls Tryd.prog 28 #[v] w fun e w' => e = .returned (dval R4) ∧ Below w.heap.size w w') :
    Calls Tryd.prog 4 #[v] w fun e w' => e = .returned (.bool true) ∧ Below w.heap.size w w' := by
  go_enter Tryd.func4, Tryd.ntmps4
  go_wp2_with fail
  refine c3.mono ?_
  rintro e w1 ⟨rfl, hb1⟩
  have fr1 := (Fr.refl nob w).below hb1
  clear hb1 c3
  have fW := ((fr1.alloc (.cells #[.int .u32 (place (li A) A : Int), .string ⟨(code (rows (li A))).toArray⟩] 26)).alloc (.cells #[.int .u32 (place (li B1) B1 : Int), .string ⟨(code (rows (li B1))).toArray⟩] 26)).alloc (.cells #[.int .u32 (place (li C) C : Int), .string ⟨(code (rows (li C))).toArray⟩] 26)
  obtain ⟨⟨a0, a1, _⟩, ⟨b0, b1, _⟩, ⟨c0, c1, _⟩⟩ := three_boxes w1 (.int .u32 (place (li A) A : Int)) (.string ⟨(code (rows (li A))).toArray⟩) (.int .u32 (place (li B1) B1 : Int)) (.string ⟨(code (rows (li B1))).toArray⟩) (.int .u32 (place (li C) C : Int)) (.string ⟨(code (rows (li C))).toArray⟩) 26
  go_upto_region 4 with fail
  generalize ((w1.alloc (.cells #[.int .u32 (place (li A) A : Int), .string ⟨(code (rows (li A))).toArray⟩] 26)).alloc (.cells #[.int .u32 (place (li B1) B1 : Int), .string ⟨(code (rows (li B1))).toArray⟩] 26)).alloc (.cells #[.int .u32 (place (li C) C : Int), .string ⟨(code (rows (li C))).toArray⟩] 26) = W at *
  refine G.wp_region 150 167 (fun k => k == 103 || k == 116) (fun _ v w => DRow w v [A, B1, C]) (algVals A B1 C OBC R1 AB AC BC R2 OAB OAC NAB NA NB XAB ANB BNA XAA ONA IT CNA CB R3 OCB R4 wb mb) (by kernel_rfl) (G.growB_rows algRows (by kernel_rfl) (by kernel_rfl) (by kernel_rfl) (by kernel_rfl) (by kernel_rfl) (by kernel_rfl) algChk algLow algCov) rfl (fun _ _ _ _ h f => h.kept f) ?hex ?_
  case hex =>
    intro k _
    exact ⟨.slice (some ⟨W.heap.size, 0, none⟩) 3 3, _, (Fr.refl nob W).alloc _, dRow_new A B1 C W, fun g hg => by cases hg; exact Nat.le_refl _⟩
  refine G.alone ?_
  intro OPS TAIL hOPS hTAIL
  simp only [List.append_eq, List.cons_append, List.nil_append, List.take_succ_cons, List.take_zero]
  obtain ⟨o103, ho103, hd103⟩ : ∃ o, OPS[103]? = some o ∧ o.dst = some 120 := ⟨_, by rw [hOPS]; rfl, rfl⟩
  obtain ⟨o116, ho116, hd116⟩ : ∃ o, OPS[116]? = some o ∧ o.dst = some 133 := ⟨_, by rw [hOPS]; rfl, rfl⟩
  have HO := Lib.hid hOPS
  have HT := Lib.hid hTAIL
  clear hOPS hTAIL
  refine G.step (dval A) rfl rfl (by first | rfl | (rw [HO.out]; rfl)) ?s0 ?n0
  case s0 =>
    intro w' hw' hh
    have q0 := hw'.cell a0 (fun h => h)
    have q1 := hw'.cell a1 (fun h => h)
    clear hw' hh
    refine G.upon_value ?_
    go_simp
    try rfl
  simp only [Act.put, List.setIfInBounds_toArray, List.set_cons_zero, List.set_cons_succ]
  refine G.step (dval B1) rfl rfl (by first | rfl | (rw [HO.out]; rfl)) ?s1 ?n1
  case s1 =>
    intro w' hw' hh
    have q0 := hw'.cell b0 (fun h => h)
    have q1 := hw'.cell b1 (fun h => h)
    clear hw' hh
    refine G.upon_value ?_
    go_simp
    try rfl
  simp only [Act.put, List.setIfInBounds_toArray, List.set_cons_zero, List.set_cons_succ]
  refine G.step (dval C) rfl rfl (by first | rfl | (rw [HO.out]; rfl)) ?s2 ?n2
  case s2 =>
    intro w' hw' hh
    have q0 := hw'.cell c0 (fun h => h)
    have q1 := hw'.cell c1 (fun h => h)
    clear hw' hh
    refine G.upon_value ?_
    go_simp
    try rfl
  simp only [Act.put, List.setIfInBounds_toArray, List.set_cons_zero, List.set_cons_succ]
  refine G.step (dval OBC) rfl rfl (by first | rfl | (rw [HO.out]; rfl)) ?s3 ?n3
  case s3 =>
    intro w' hw' hh
    refine G.upon_call ?_ ((cOBC w').mono fun e w'' ⟨he, hb⟩ => ⟨he, (Fr.refl nob _).below hb⟩)
    clear hw' hh
    go_simp
  simp only [Act.put, List.setIfInBounds_toArray, List.set_cons_zero, List.set_cons_succ]
  refine G.step (dval R1) rfl rfl (by first | rfl | (rw [HO.out]; rfl)) ?s4 ?n4
  case s4 =>
    intro w' hw' hh
    refine G.upon_call ?_ ((cR1 w').mono fun e w'' ⟨he, hb⟩ => ⟨he, (Fr.refl nob _).below hb⟩)
    clear hw' hh
    go_simp
  simp only [Act.put, List.setIfInBounds_toArray, List.set_cons_zero, List.set_cons_succ]
  refine G.step (dval A) rfl rfl (by first | rfl | (rw [HO.out]; rfl)) ?s5 ?n5
  case s5 =>
    intro w' hw' hh
    have q0 := hw'.cell a0 (fun h => h)
    have q1 := hw'.cell a1 (fun h => h)
    clear hw' hh
    refine G.upon_value ?_
    go_simp
    try rfl
  simp only [Act.put, List.setIfInBounds_toArray, List.set_cons_zero, List.set_cons_succ]
  refine G.step (dval B1) rfl rfl (by first | rfl | (rw [HO.out]; rfl)) ?s6 ?n6
  case s6 =>
    intro w' hw' hh
    have q0 := hw'.cell b0 (fun h => h)
    have q1 := hw'.cell b1 (fun h => h)
    clear hw' hh
    refine G.upon_value ?_
    go_simp
    try rfl
  simp only [Act.put, List.setIfInBounds_toArray, List.set_cons_zero, List.set_cons_succ]
  refine G.step (dval AB) rfl rfl (by first | rfl | (rw [HO.out]; rfl)) ?s7 ?n7
  case s7 =>
    intro w' hw' hh
    refine G.upon_call ?_ ((cAB w').mono fun e w'' ⟨he, hb⟩ => ⟨he, (Fr.refl nob _).below hb⟩)
    clear hw' hh
    go_simp
  simp only [Act.put, List.setIfInBounds_toArray, List.set_cons_zero, List.set_cons_succ]
  refine G.step (dval A) rfl rfl (by first | rfl | (rw [HO.out]; rfl)) ?s8 ?n8
  case s8 =>
    intro w' hw' hh
    have q0 := hw'.cell a0 (fun h => h)
    have q1 := hw'.cell a1 (fun h => h)
    clear hw' hh
    refine G.upon_value ?_
    go_simp
    try rfl
  simp only [Act.put, List.setIfInBounds_toArray, List.set_cons_zero, List.set_cons_succ]
  refine G.step (dval C) rfl rfl (by first | rfl | (rw [HO.out]; rfl)) ?s9 ?n9
  case s9 =>
    intro w' hw' hh
    have q0 := hw'.cell c0 (fun h => h)
    have q1 := hw'.cell c1 (fun h => h)
    clear hw' hh
    refine G.upon_value ?_
    go_simp
    try rfl
  simp only [Act.put, List.setIfInBounds_toArray, List.set_cons_zero, List.set_cons_succ]
  refine G.step (dval AC) rfl rfl (by first | rfl | (rw [HO.out]; rfl)) ?s10 ?n10
  case s10 =>
    intro w' hw' hh
    refine G.upon_call ?_ ((cAC w').mono fun e w'' ⟨he, hb⟩ => ⟨he, (Fr.refl nob _).below hb⟩)
    clear hw' hh
    go_simp
  simp only [Act.put, List.setIfInBounds_toArray, List.set_cons_zero, List.set_cons_succ]
  refine G.step (dval R1) rfl rfl (by first | rfl | (rw [HO.out]; rfl)) ?s11 ?n11
  case s11 =>
    intro w' hw' hh
    refine G.upon_call ?_ ((cR1b w').mono fun e w'' ⟨he, hb⟩ => ⟨he, (Fr.refl nob _).below hb⟩)
    clear hw' hh
    go_simp
  simp only [Act.put, List.setIfInBounds_toArray, List.set_cons_zero, List.set_cons_succ]
  refine G.step (Value.bool true) rfl rfl (by first | rfl | (rw [HO.out]; rfl)) ?s12 ?n12
  case s12 =>
    intro w' hw' hh
    refine G.upon_call ?_ ((equal_any R1 oR1 w').mono fun e w'' ⟨he, hb⟩ => ⟨he, (Fr.refl nob _).below hb⟩)
    clear hw' hh
    go_simp
  simp only [Act.put, List.setIfInBounds_toArray, List.set_cons_zero, List.set_cons_succ]
  refine G.step (Value.bool true) rfl rfl (by first | rfl | (rw [HO.out]; rfl)) ?s13 ?n13
  case s13 =>
    intro w' hw' hh
    clear hw' hh
    refine G.upon_value ?_
    go_simp
    try rfl
  simp only [Act.put, List.setIfInBounds_toArray, List.set_cons_zero, List.set_cons_succ]
  refine G.step (dval A) rfl rfl (by first | rfl | (rw [HO.out]; rfl)) ?s14 ?n14
  case s14 =>
    intro w' hw' hh
    have q0 := hw'.cell a0 (fun h => h)
    have q1 := hw'.cell a1 (fun h => h)
    clear hw' hh
    refine G.upon_value ?_
    go_simp
    try rfl
  simp only [Act.put, List.setIfInBounds_toArray, List.set_cons_zero, List.set_cons_succ]
  refine G.step (dval B1) rfl rfl (by first | rfl | (rw [HO.out]; rfl)) ?s15 ?n15
  case s15 =>
    intro w' hw' hh
    have q0 := hw'.cell b0 (fun h => h)
    have q1 := hw'.cell b1 (fun h => h)
    clear hw' hh
    refine G.upon_value ?_
    go_simp
    try rfl
  simp only [Act.put, List.setIfInBounds_toArray, List.set_cons_zero, List.set_cons_succ]
  refine G.step (dval C) rfl rfl (by first | rfl | (rw [HO.out]; rfl)) ?s16 ?n16
  case s16 =>
    intro w' hw' hh
    have q0 := hw'.cell c0 (fun h => h)
    have q1 := hw'.cell c1 (fun h => h)
    clear hw' hh
    refine G.upon_value ?_
    go_simp
    try rfl
  simp only [Act.put, List.setIfInBounds_toArray, List.set_cons_zero, List.set_cons_succ]
  refine G.step (dval BC) rfl rfl (by first | rfl | (rw [HO.out]; rfl)) ?s17 ?n17
  case s17 =>
    intro w' hw' hh
    refine G.upon_call ?_ ((cBC w').mono fun e w'' ⟨he, hb⟩ => ⟨he, (Fr.refl nob _).below hb⟩)
    clear hw' hh
    go_simp
  simp only [Act.put, List.setIfInBounds_toArray, List.set_cons_zero, List.set_cons_succ]
  refine G.step (dval R2) rfl rfl (by first | rfl | (rw [HO.out]; rfl)) ?s18 ?n18
  case s18 =>
    intro w' hw' hh
    refine G.upon_call ?_ ((cR2 w').mono fun e w'' ⟨he, hb⟩ => ⟨he, (Fr.refl nob _).below hb⟩)
    clear hw' hh
    go_simp
  simp only [Act.put, List.setIfInBounds_toArray, List.set_cons_zero, List.set_cons_succ]
  refine G.step (dval A) rfl rfl (by first | rfl | (rw [HO.out]; rfl)) ?s19 ?n19
  case s19 =>
    intro w' hw' hh
    have q0 := hw'.cell a0 (fun h => h)
    have q1 := hw'.cell a1 (fun h => h)
    clear hw' hh
    refine G.upon_value ?_
    go_simp
    try rfl
  simp only [Act.put, List.setIfInBounds_toArray, List.set_cons_zero, List.set_cons_succ]
  refine G.step (dval B1) rfl rfl (by first | rfl | (rw [HO.out]; rfl)) ?s20 ?n20
  case s20 =>
    intro w' hw' hh
    have q0 := hw'.cell b0 (fun h => h)
    have q1 := hw'.cell b1 (fun h => h)
    clear hw' hh
    refine G.upon_value ?_
    go_simp
    try rfl
  simp only [Act.put, List.setIfInBounds_toArray, List.set_cons_zero, List.set_cons_succ]
  refine G.step (dval OAB) rfl rfl (by first | rfl | (rw [HO.out]; rfl)) ?s21 ?n21
  case s21 =>
    intro w' hw' hh
    refine G.upon_call ?_ ((cOAB w').mono fun e w'' ⟨he, hb⟩ => ⟨he, (Fr.refl nob _).below hb⟩)
    clear hw' hh
    go_simp
  simp only [Act.put, List.setIfInBounds_toArray, List.set_cons_zero, List.set_cons_succ]
  refine G.step (dval A) rfl rfl (by first | rfl | (rw [HO.out]; rfl)) ?s22 ?n22
  case s22 =>
    intro w' hw' hh
    have q0 := hw'.cell a0 (fun h => h)
    have q1 := hw'.cell a1 (fun h => h)
    clear hw' hh
    refine G.upon_value ?_
    go_simp
    try rfl
  simp only [Act.put, List.setIfInBounds_toArray, List.set_cons_zero, List.set_cons_succ]
  refine G.step (dval C) rfl rfl (by first | rfl | (rw [HO.out]; rfl)) ?s23 ?n23
  case s23 =>
    intro w' hw' hh
    have q0 := hw'.cell c0 (fun h => h)
    have q1 := hw'.cell c1 (fun h => h)
    clear hw' hh
    refine G.upon_value ?_
    go_simp
    try rfl
  simp only [Act.put, List.setIfInBounds_toArray, List.set_cons_zero, List.set_cons_succ]
  refine G.step (dval OAC) rfl rfl (by first | rfl | (rw [HO.out]; rfl)) ?s24 ?n24
  case s24 =>
    intro w' hw' hh
    refine G.upon_call ?_ ((cOAC w').mono fun e w'' ⟨he, hb⟩ => ⟨he, (Fr.refl nob _).below hb⟩)
    clear hw' hh
    go_simp
  simp only [Act.put, List.setIfInBounds_toArray, List.set_cons_zero, List.set_cons_succ]
  refine G.step (dval R2) rfl rfl (by first | rfl | (rw [HO.out]; rfl)) ?s25 ?n25
  case s25 =>
    intro w' hw' hh
    refine G.upon_call ?_ ((cR2b w').mono fun e w'' ⟨he, hb⟩ => ⟨he, (Fr.refl nob _).below hb⟩)
    clear hw' hh
    go_simp
  simp only [Act.put, List.setIfInBounds_toArray, List.set_cons_zero, List.set_cons_succ]
  refine G.step (Value.bool true) rfl rfl (by first | rfl | (rw [HO.out]; rfl)) ?s26 ?n26
  case s26 =>
    intro w' hw' hh
    refine G.upon_call ?_ ((equal_any R2 oR2 w').mono fun e w'' ⟨he, hb⟩ => ⟨he, (Fr.refl nob _).below hb⟩)
    clear hw' hh
    go_simp
  simp only [Act.put, List.setIfInBounds_toArray, List.set_cons_zero, List.set_cons_succ]
  refine G.step (Value.bool true) rfl rfl (by first | rfl | (rw [HO.out]; rfl)) ?s27 ?n27
  case s27 =>
    intro w' hw' hh
    clear hw' hh
    refine G.upon_value ?_
    go_simp
    try rfl
  simp only [Act.put, List.setIfInBounds_toArray, List.set_cons_zero, List.set_cons_succ]
  refine G.step (Value.bool true) rfl rfl (by first | rfl | (rw [HO.out]; rfl)) ?s28 ?n28
  case s28 =>
    intro w' hw' hh
    clear hw' hh
    refine G.upon_value ?_
    go_simp
    try rfl
  simp only [Act.put, List.setIfInBounds_toArray, List.set_cons_zero, List.set_cons_succ]
  refine G.step (dval A) rfl rfl (by first | rfl | (rw [HO.out]; rfl)) ?s29 ?n29
  case s29 =>
    intro w' hw' hh
    have q0 := hw'.cell a0 (fun h => h)
    have q1 := hw'.cell a1 (fun h => h)
    clear hw' hh
    refine G.upon_value ?_
    go_simp
    try rfl
  simp only [Act.put, List.setIfInBounds_toArray, List.set_cons_zero, List.set_cons_succ]
  refine G.step (dval B1) rfl rfl (by first | rfl | (rw [HO.out]; rfl)) ?s30 ?n30
  case s30 =>
    intro w' hw' hh
    have q0 := hw'.cell b0 (fun h => h)
    have q1 := hw'.cell b1 (fun h => h)
    clear hw' hh
    refine G.upon_value ?_
    go_simp
    try rfl
  simp only [Act.put, List.setIfInBounds_toArray, List.set_cons_zero, List.set_cons_succ]
  refine G.step (dval AB) rfl rfl (by first | rfl | (rw [HO.out]; rfl)) ?s31 ?n31
  case s31 =>
    intro w' hw' hh
    refine G.upon_call ?_ ((cAB w').mono fun e w'' ⟨he, hb⟩ => ⟨he, (Fr.refl nob _).below hb⟩)
    clear hw' hh
    go_simp
  simp only [Act.put, List.setIfInBounds_toArray, List.set_cons_zero, List.set_cons_succ]
  refine G.step (dval NAB) rfl rfl (by first | rfl | (rw [HO.out]; rfl)) ?s32 ?n32
  case s32 =>
    intro w' hw' hh
    refine G.upon_call ?_ ((cNAB w').mono fun e w'' ⟨he, hb⟩ => ⟨he, (Fr.refl nob _).below hb⟩)
    clear hw' hh
    go_simp
  simp only [Act.put, List.setIfInBounds_toArray, List.set_cons_zero, List.set_cons_succ]
  refine G.step (dval A) rfl rfl (by first | rfl | (rw [HO.out]; rfl)) ?s33 ?n33
  case s33 =>
    intro w' hw' hh
    have q0 := hw'.cell a0 (fun h => h)
    have q1 := hw'.cell a1 (fun h => h)
    clear hw' hh
    refine G.upon_value ?_
    go_simp
    try rfl
  simp only [Act.put, List.setIfInBounds_toArray, List.set_cons_zero, List.set_cons_succ]
  refine G.step (dval NA) rfl rfl (by first | rfl | (rw [HO.out]; rfl)) ?s34 ?n34
  case s34 =>
    intro w' hw' hh
    refine G.upon_call ?_ ((cNA w').mono fun e w'' ⟨he, hb⟩ => ⟨he, (Fr.refl nob _).below hb⟩)
    clear hw' hh
    go_simp
  simp only [Act.put, List.setIfInBounds_toArray, List.set_cons_zero, List.set_cons_succ]
  refine G.step (dval B1) rfl rfl (by first | rfl | (rw [HO.out]; rfl)) ?s35 ?n35
  case s35 =>
    intro w' hw' hh
    have q0 := hw'.cell b0 (fun h => h)
    have q1 := hw'.cell b1 (fun h => h)
    clear hw' hh
    refine G.upon_value ?_
    go_simp
    try rfl
  simp only [Act.put, List.setIfInBounds_toArray, List.set_cons_zero, List.set_cons_succ]
  refine G.step (dval NB) rfl rfl (by first | rfl | (rw [HO.out]; rfl)) ?s36 ?n36
  case s36 =>
    intro w' hw' hh
    refine G.upon_call ?_ ((cNB w').mono fun e w'' ⟨he, hb⟩ => ⟨he, (Fr.refl nob _).below hb⟩)
    clear hw' hh
    go_simp
  simp only [Act.put, List.setIfInBounds_toArray, List.set_cons_zero, List.set_cons_succ]
  refine G.step (dval NAB) rfl rfl (by first | rfl | (rw [HO.out]; rfl)) ?s37 ?n37
  case s37 =>
    intro w' hw' hh
    refine G.upon_call ?_ ((cNABb w').mono fun e w'' ⟨he, hb⟩ => ⟨he, (Fr.refl nob _).below hb⟩)
    clear hw' hh
    go_simp
  simp only [Act.put, List.setIfInBounds_toArray, List.set_cons_zero, List.set_cons_succ]
  refine G.step (Value.bool true) rfl rfl (by first | rfl | (rw [HO.out]; rfl)) ?s38 ?n38
  case s38 =>
    intro w' hw' hh
    refine G.upon_call ?_ ((equal_any NAB oNAB w').mono fun e w'' ⟨he, hb⟩ => ⟨he, (Fr.refl nob _).below hb⟩)
    clear hw' hh
    go_simp
  simp only [Act.put, List.setIfInBounds_toArray, List.set_cons_zero, List.set_cons_succ]
  refine G.step (Value.bool true) rfl rfl (by first | rfl | (rw [HO.out]; rfl)) ?s39 ?n39
  case s39 =>
    intro w' hw' hh
    clear hw' hh
    refine G.upon_value ?_
    go_simp
    try rfl
  simp only [Act.put, List.setIfInBounds_toArray, List.set_cons_zero, List.set_cons_succ]
  refine G.step (Value.bool true) rfl rfl (by first | rfl | (rw [HO.out]; rfl)) ?s40 ?n40
  case s40 =>
    intro w' hw' hh
    clear hw' hh
    refine G.upon_value ?_
    go_simp
    try rfl
  simp only [Act.put, List.setIfInBounds_toArray, List.set_cons_zero, List.set_cons_succ]
  refine G.step (dval A) rfl rfl (by first | rfl | (rw [HO.out]; rfl)) ?s41 ?n41
  case s41 =>
    intro w' hw' hh
    have q0 := hw'.cell a0 (fun h => h)
    have q1 := hw'.cell a1 (fun h => h)
    clear hw' hh
    refine G.upon_value ?_
    go_simp
    try rfl
  simp only [Act.put, List.setIfInBounds_toArray, List.set_cons_zero, List.set_cons_succ]
  refine G.step (dval NA) rfl rfl (by first | rfl | (rw [HO.out]; rfl)) ?s42 ?n42
  case s42 =>
    intro w' hw' hh
    refine G.upon_call ?_ ((cNA w').mono fun e w'' ⟨he, hb⟩ => ⟨he, (Fr.refl nob _).below hb⟩)
    clear hw' hh
    go_simp
  simp only [Act.put, List.setIfInBounds_toArray, List.set_cons_zero, List.set_cons_succ]
  refine G.step (dval A) rfl rfl (by first | rfl | (rw [HO.out]; rfl)) ?s43 ?n43
  case s43 =>
    intro w' hw' hh
    refine G.upon_call ?_ ((cNNA w').mono fun e w'' ⟨he, hb⟩ => ⟨he, (Fr.refl nob _).below hb⟩)
    clear hw' hh
    go_simp
  simp only [Act.put, List.setIfInBounds_toArray, List.set_cons_zero, List.set_cons_succ]
  refine G.step (dval A) rfl rfl (by first | rfl | (rw [HO.out]; rfl)) ?s44 ?n44
  case s44 =>
    intro w' hw' hh
    have q0 := hw'.cell a0 (fun h => h)
    have q1 := hw'.cell a1 (fun h => h)
    clear hw' hh
    refine G.upon_value ?_
    go_simp
    try rfl
  simp only [Act.put, List.setIfInBounds_toArray, List.set_cons_zero, List.set_cons_succ]
  refine G.step (Value.bool true) rfl rfl (by first | rfl | (rw [HO.out]; rfl)) ?s45 ?n45
  case s45 =>
    intro w' hw' hh
    refine G.upon_call ?_ ((equal_any A oA w').mono fun e w'' ⟨he, hb⟩ => ⟨he, (Fr.refl nob _).below hb⟩)
    clear hw' hh
    go_simp
  simp only [Act.put, List.setIfInBounds_toArray, List.set_cons_zero, List.set_cons_succ]
  refine G.step (Value.bool true) rfl rfl (by first | rfl | (rw [HO.out]; rfl)) ?s46 ?n46
  case s46 =>
    intro w' hw' hh
    clear hw' hh
    refine G.upon_value ?_
    go_simp
    try rfl
  simp only [Act.put, List.setIfInBounds_toArray, List.set_cons_zero, List.set_cons_succ]
  refine G.step (Value.bool true) rfl rfl (by first | rfl | (rw [HO.out]; rfl)) ?s47 ?n47
  case s47 =>
    intro w' hw' hh
    clear hw' hh
    refine G.upon_value ?_
    go_simp
    try rfl
  simp only [Act.put, List.setIfInBounds_toArray, List.set_cons_zero, List.set_cons_succ]
  refine G.step (dval A) rfl rfl (by first | rfl | (rw [HO.out]; rfl)) ?s48 ?n48
  case s48 =>
    intro w' hw' hh
    have q0 := hw'.cell a0 (fun h => h)
    have q1 := hw'.cell a1 (fun h => h)
    clear hw' hh
    refine G.upon_value ?_
    go_simp
    try rfl
  simp only [Act.put, List.setIfInBounds_toArray, List.set_cons_zero, List.set_cons_succ]
  refine G.step (dval B1) rfl rfl (by first | rfl | (rw [HO.out]; rfl)) ?s49 ?n49
  case s49 =>
    intro w' hw' hh
    have q0 := hw'.cell b0 (fun h => h)
    have q1 := hw'.cell b1 (fun h => h)
    clear hw' hh
    refine G.upon_value ?_
    go_simp
    try rfl
  simp only [Act.put, List.setIfInBounds_toArray, List.set_cons_zero, List.set_cons_succ]
  refine G.step (dval XAB) rfl rfl (by first | rfl | (rw [HO.out]; rfl)) ?s50 ?n50
  case s50 =>
    intro w' hw' hh
    refine G.upon_call ?_ ((cXAB w').mono fun e w'' ⟨he, hb⟩ => ⟨he, (Fr.refl nob _).below hb⟩)
    clear hw' hh
    go_simp
  simp only [Act.put, List.setIfInBounds_toArray, List.set_cons_zero, List.set_cons_succ]
  refine G.step (dval A) rfl rfl (by first | rfl | (rw [HO.out]; rfl)) ?s51 ?n51
  case s51 =>
    intro w' hw' hh
    have q0 := hw'.cell a0 (fun h => h)
    have q1 := hw'.cell a1 (fun h => h)
    clear hw' hh
    refine G.upon_value ?_
    go_simp
    try rfl
  simp only [Act.put, List.setIfInBounds_toArray, List.set_cons_zero, List.set_cons_succ]
  refine G.step (dval B1) rfl rfl (by first | rfl | (rw [HO.out]; rfl)) ?s52 ?n52
  case s52 =>
    intro w' hw' hh
    have q0 := hw'.cell b0 (fun h => h)
    have q1 := hw'.cell b1 (fun h => h)
    clear hw' hh
    refine G.upon_value ?_
    go_simp
    try rfl
  simp only [Act.put, List.setIfInBounds_toArray, List.set_cons_zero, List.set_cons_succ]
  refine G.step (dval NB) rfl rfl (by first | rfl | (rw [HO.out]; rfl)) ?s53 ?n53
  case s53 =>
    intro w' hw' hh
    refine G.upon_call ?_ ((cNB w').mono fun e w'' ⟨he, hb⟩ => ⟨he, (Fr.refl nob _).below hb⟩)
    clear hw' hh
    go_simp
  simp only [Act.put, List.setIfInBounds_toArray, List.set_cons_zero, List.set_cons_succ]
  refine G.step (dval ANB) rfl rfl (by first | rfl | (rw [HO.out]; rfl)) ?s54 ?n54
  case s54 =>
    intro w' hw' hh
    refine G.upon_call ?_ ((cANB w').mono fun e w'' ⟨he, hb⟩ => ⟨he, (Fr.refl nob _).below hb⟩)
    clear hw' hh
    go_simp
  simp only [Act.put, List.setIfInBounds_toArray, List.set_cons_zero, List.set_cons_succ]
  refine G.step (dval B1) rfl rfl (by first | rfl | (rw [HO.out]; rfl)) ?s55 ?n55
  case s55 =>
    intro w' hw' hh
    have q0 := hw'.cell b0 (fun h => h)
    have q1 := hw'.cell b1 (fun h => h)
    clear hw' hh
    refine G.upon_value ?_
    go_simp
    try rfl
  simp only [Act.put, List.setIfInBounds_toArray, List.set_cons_zero, List.set_cons_succ]
  refine G.step (dval A) rfl rfl (by first | rfl | (rw [HO.out]; rfl)) ?s56 ?n56
  case s56 =>
    intro w' hw' hh
    have q0 := hw'.cell a0 (fun h => h)
    have q1 := hw'.cell a1 (fun h => h)
    clear hw' hh
    refine G.upon_value ?_
    go_simp
    try rfl
  simp only [Act.put, List.setIfInBounds_toArray, List.set_cons_zero, List.set_cons_succ]
  refine G.step (dval NA) rfl rfl (by first | rfl | (rw [HO.out]; rfl)) ?s57 ?n57
  case s57 =>
    intro w' hw' hh
    refine G.upon_call ?_ ((cNA w').mono fun e w'' ⟨he, hb⟩ => ⟨he, (Fr.refl nob _).below hb⟩)
    clear hw' hh
    go_simp
  simp only [Act.put, List.setIfInBounds_toArray, List.set_cons_zero, List.set_cons_succ]
  refine G.step (dval BNA) rfl rfl (by first | rfl | (rw [HO.out]; rfl)) ?s58 ?n58
  case s58 =>
    intro w' hw' hh
    refine G.upon_call ?_ ((cBNA w').mono fun e w'' ⟨he, hb⟩ => ⟨he, (Fr.refl nob _).below hb⟩)
    clear hw' hh
    go_simp
  simp only [Act.put, List.setIfInBounds_toArray, List.set_cons_zero, List.set_cons_succ]
  refine G.step (dval XAB) rfl rfl (by first | rfl | (rw [HO.out]; rfl)) ?s59 ?n59
  case s59 =>
    intro w' hw' hh
    refine G.upon_call ?_ ((cXABb w').mono fun e w'' ⟨he, hb⟩ => ⟨he, (Fr.refl nob _).below hb⟩)
    clear hw' hh
    go_simp
  simp only [Act.put, List.setIfInBounds_toArray, List.set_cons_zero, List.set_cons_succ]
  refine G.step (Value.bool true) rfl rfl (by first | rfl | (rw [HO.out]; rfl)) ?s60 ?n60
  case s60 =>
    intro w' hw' hh
    refine G.upon_call ?_ ((equal_any XAB oXAB w').mono fun e w'' ⟨he, hb⟩ => ⟨he, (Fr.refl nob _).below hb⟩)
    clear hw' hh
    go_simp
  simp only [Act.put, List.setIfInBounds_toArray, List.set_cons_zero, List.set_cons_succ]
  refine G.step (Value.bool true) rfl rfl (by first | rfl | (rw [HO.out]; rfl)) ?s61 ?n61
  case s61 =>
    intro w' hw' hh
    clear hw' hh
    refine G.upon_value ?_
    go_simp
    try rfl
  simp only [Act.put, List.setIfInBounds_toArray, List.set_cons_zero, List.set_cons_succ]
  refine G.step (Value.bool true) rfl rfl (by first | rfl | (rw [HO.out]; rfl)) ?s62 ?n62
  case s62 =>
    intro w' hw' hh
    clear hw' hh
    refine G.upon_value ?_
    go_simp
    try rfl
  simp only [Act.put, List.setIfInBounds_toArray, List.set_cons_zero, List.set_cons_succ]
  refine G.step (dval A) rfl rfl (by first | rfl | (rw [HO.out]; rfl)) ?s63 ?n63
  case s63 =>
    intro w' hw' hh
    have q0 := hw'.cell a0 (fun h => h)
    have q1 := hw'.cell a1 (fun h => h)
    clear hw' hh
    refine G.upon_value ?_
    go_simp
    try rfl
  simp only [Act.put, List.setIfInBounds_toArray, List.set_cons_zero, List.set_cons_succ]
  refine G.step (dval A) rfl rfl (by first | rfl | (rw [HO.out]; rfl)) ?s64 ?n64
  case s64 =>
    intro w' hw' hh
    have q0 := hw'.cell a0 (fun h => h)
    have q1 := hw'.cell a1 (fun h => h)
    clear hw' hh
    refine G.upon_value ?_
    go_simp
    try rfl
  simp only [Act.put, List.setIfInBounds_toArray, List.set_cons_zero, List.set_cons_succ]
  refine G.step (dval XAA) rfl rfl (by first | rfl | (rw [HO.out]; rfl)) ?s65 ?n65
  case s65 =>
    intro w' hw' hh
    refine G.upon_call ?_ ((cXAA w').mono fun e w'' ⟨he, hb⟩ => ⟨he, (Fr.refl nob _).below hb⟩)
    clear hw' hh
    go_simp
  simp only [Act.put, List.setIfInBounds_toArray, List.set_cons_zero, List.set_cons_succ]
  refine G.step (Value.bool true) rfl rfl (by first | rfl | (rw [HO.out]; rfl)) ?s66 ?n66
  case s66 =>
    intro w' hw' hh
    refine G.upon_call ?_ ((cEM w').mono fun e w'' ⟨he, hb⟩ => ⟨he, (Fr.refl nob _).below hb⟩)
    clear hw' hh
    go_simp
  simp only [Act.put, List.setIfInBounds_toArray, List.set_cons_zero, List.set_cons_succ]
  refine G.step (Value.bool true) rfl rfl (by first | rfl | (rw [HO.out]; rfl)) ?s67 ?n67
  case s67 =>
    intro w' hw' hh
    clear hw' hh
    refine G.upon_value ?_
    go_simp
    try rfl
  simp only [Act.put, List.setIfInBounds_toArray, List.set_cons_zero, List.set_cons_succ]
  refine G.step (Value.bool true) rfl rfl (by first | rfl | (rw [HO.out]; rfl)) ?s68 ?n68
  case s68 =>
    intro w' hw' hh
    clear hw' hh
    refine G.upon_value ?_
    go_simp
    try rfl
  simp only [Act.put, List.setIfInBounds_toArray, List.set_cons_zero, List.set_cons_succ]
  refine G.step (dval A) rfl rfl (by first | rfl | (rw [HO.out]; rfl)) ?s69 ?n69
  case s69 =>
    intro w' hw' hh
    have q0 := hw'.cell a0 (fun h => h)
    have q1 := hw'.cell a1 (fun h => h)
    clear hw' hh
    refine G.upon_value ?_
    go_simp
    try rfl
  simp only [Act.put, List.setIfInBounds_toArray, List.set_cons_zero, List.set_cons_succ]
  refine G.step (dval A) rfl rfl (by first | rfl | (rw [HO.out]; rfl)) ?s70 ?n70
  case s70 =>
    intro w' hw' hh
    have q0 := hw'.cell a0 (fun h => h)
    have q1 := hw'.cell a1 (fun h => h)
    clear hw' hh
    refine G.upon_value ?_
    go_simp
    try rfl
  simp only [Act.put, List.setIfInBounds_toArray, List.set_cons_zero, List.set_cons_succ]
  refine G.step (dval NA) rfl rfl (by first | rfl | (rw [HO.out]; rfl)) ?s71 ?n71
  case s71 =>
    intro w' hw' hh
    refine G.upon_call ?_ ((cNA w').mono fun e w'' ⟨he, hb⟩ => ⟨he, (Fr.refl nob _).below hb⟩)
    clear hw' hh
    go_simp
  simp only [Act.put, List.setIfInBounds_toArray, List.set_cons_zero, List.set_cons_succ]
  refine G.step (dval ONA) rfl rfl (by first | rfl | (rw [HO.out]; rfl)) ?s72 ?n72
  case s72 =>
    intro w' hw' hh
    refine G.upon_call ?_ ((cONA w').mono fun e w'' ⟨he, hb⟩ => ⟨he, (Fr.refl nob _).below hb⟩)
    clear hw' hh
    go_simp
  simp only [Act.put, List.setIfInBounds_toArray, List.set_cons_zero, List.set_cons_succ]
  refine G.step (Value.bool true) rfl rfl (by first | rfl | (rw [HO.out]; rfl)) ?s73 ?n73
  case s73 =>
    intro w' hw' hh
    refine G.upon_call ?_ ((cFU w').mono fun e w'' ⟨he, hb⟩ => ⟨he, (Fr.refl nob _).below hb⟩)
    clear hw' hh
    go_simp
  simp only [Act.put, List.setIfInBounds_toArray, List.set_cons_zero, List.set_cons_succ]
  refine G.step (Value.bool true) rfl rfl (by first | rfl | (rw [HO.out]; rfl)) ?s74 ?n74
  case s74 =>
    intro w' hw' hh
    clear hw' hh
    refine G.upon_value ?_
    go_simp
    try rfl
  simp only [Act.put, List.setIfInBounds_toArray, List.set_cons_zero, List.set_cons_succ]
  refine G.step (Value.bool true) rfl rfl (by first | rfl | (rw [HO.out]; rfl)) ?s75 ?n75
  case s75 =>
    intro w' hw' hh
    clear hw' hh
    refine G.upon_value ?_
    go_simp
    try rfl
  simp only [Act.put, List.setIfInBounds_toArray, List.set_cons_zero, List.set_cons_succ]
  refine G.step (dval A) rfl rfl (by first | rfl | (rw [HO.out]; rfl)) ?s76 ?n76
  case s76 =>
    intro w' hw' hh
    have q0 := hw'.cell a0 (fun h => h)
    have q1 := hw'.cell a1 (fun h => h)
    clear hw' hh
    refine G.upon_value ?_
    go_simp
    try rfl
  simp only [Act.put, List.setIfInBounds_toArray, List.set_cons_zero, List.set_cons_succ]
  refine G.step (dval B1) rfl rfl (by first | rfl | (rw [HO.out]; rfl)) ?s77 ?n77
  case s77 =>
    intro w' hw' hh
    have q0 := hw'.cell b0 (fun h => h)
    have q1 := hw'.cell b1 (fun h => h)
    clear hw' hh
    refine G.upon_value ?_
    go_simp
    try rfl
  simp only [Act.put, List.setIfInBounds_toArray, List.set_cons_zero, List.set_cons_succ]
  refine G.step (dval AB) rfl rfl (by first | rfl | (rw [HO.out]; rfl)) ?s78 ?n78
  case s78 =>
    intro w' hw' hh
    refine G.upon_call ?_ ((cAB w').mono fun e w'' ⟨he, hb⟩ => ⟨he, (Fr.refl nob _).below hb⟩)
    clear hw' hh
    go_simp
  simp only [Act.put, List.setIfInBounds_toArray, List.set_cons_zero, List.set_cons_succ]
  refine G.step (dval B1) rfl rfl (by first | rfl | (rw [HO.out]; rfl)) ?s79 ?n79
  case s79 =>
    intro w' hw' hh
    have q0 := hw'.cell b0 (fun h => h)
    have q1 := hw'.cell b1 (fun h => h)
    clear hw' hh
    refine G.upon_value ?_
    go_simp
    try rfl
  simp only [Act.put, List.setIfInBounds_toArray, List.set_cons_zero, List.set_cons_succ]
  refine G.step (dval A) rfl rfl (by first | rfl | (rw [HO.out]; rfl)) ?s80 ?n80
  case s80 =>
    intro w' hw' hh
    have q0 := hw'.cell a0 (fun h => h)
    have q1 := hw'.cell a1 (fun h => h)
    clear hw' hh
    refine G.upon_value ?_
    go_simp
    try rfl
  simp only [Act.put, List.setIfInBounds_toArray, List.set_cons_zero, List.set_cons_succ]
  refine G.step (dval AB) rfl rfl (by first | rfl | (rw [HO.out]; rfl)) ?s81 ?n81
  case s81 =>
    intro w' hw' hh
    refine G.upon_call ?_ ((cBA w').mono fun e w'' ⟨he, hb⟩ => ⟨he, (Fr.refl nob _).below hb⟩)
    clear hw' hh
    go_simp
  simp only [Act.put, List.setIfInBounds_toArray, List.set_cons_zero, List.set_cons_succ]
  refine G.step (Value.bool true) rfl rfl (by first | rfl | (rw [HO.out]; rfl)) ?s82 ?n82
  case s82 =>
    intro w' hw' hh
    refine G.upon_call ?_ ((equal_any AB oAB w').mono fun e w'' ⟨he, hb⟩ => ⟨he, (Fr.refl nob _).below hb⟩)
    clear hw' hh
    go_simp
  simp only [Act.put, List.setIfInBounds_toArray, List.set_cons_zero, List.set_cons_succ]
  refine G.step (Value.bool true) rfl rfl (by first | rfl | (rw [HO.out]; rfl)) ?s83 ?n83
  case s83 =>
    intro w' hw' hh
    clear hw' hh
    refine G.upon_value ?_
    go_simp
    try rfl
  simp only [Act.put, List.setIfInBounds_toArray, List.set_cons_zero, List.set_cons_succ]
  refine G.step (Value.bool true) rfl rfl (by first | rfl | (rw [HO.out]; rfl)) ?s84 ?n84
  case s84 =>
    intro w' hw' hh
    clear hw' hh
    refine G.upon_value ?_
    go_simp
    try rfl
  simp only [Act.put, List.setIfInBounds_toArray, List.set_cons_zero, List.set_cons_succ]
  refine G.step (dval A) rfl rfl (by first | rfl | (rw [HO.out]; rfl)) ?s85 ?n85
  case s85 =>
    intro w' hw' hh
    have q0 := hw'.cell a0 (fun h => h)
    have q1 := hw'.cell a1 (fun h => h)
    clear hw' hh
    refine G.upon_value ?_
    go_simp
    try rfl
  simp only [Act.put, List.setIfInBounds_toArray, List.set_cons_zero, List.set_cons_succ]
  refine G.step (dval B1) rfl rfl (by first | rfl | (rw [HO.out]; rfl)) ?s86 ?n86
  case s86 =>
    intro w' hw' hh
    have q0 := hw'.cell b0 (fun h => h)
    have q1 := hw'.cell b1 (fun h => h)
    clear hw' hh
    refine G.upon_value ?_
    go_simp
    try rfl
  simp only [Act.put, List.setIfInBounds_toArray, List.set_cons_zero, List.set_cons_succ]
  refine G.step (dval C) rfl rfl (by first | rfl | (rw [HO.out]; rfl)) ?s87 ?n87
  case s87 =>
    intro w' hw' hh
    have q0 := hw'.cell c0 (fun h => h)
    have q1 := hw'.cell c1 (fun h => h)
    clear hw' hh
    refine G.upon_value ?_
    go_simp
    try rfl
  simp only [Act.put, List.setIfInBounds_toArray, List.set_cons_zero, List.set_cons_succ]
  refine G.step (dval IT) rfl rfl (by first | rfl | (rw [HO.out]; rfl)) ?s88 ?n88
  case s88 =>
    intro w' hw' hh
    refine G.upon_call ?_ ((cIT w').mono fun e w'' ⟨he, hb⟩ => ⟨he, (Fr.refl nob _).below hb⟩)
    clear hw' hh
    go_simp
  simp only [Act.put, List.setIfInBounds_toArray, List.set_cons_zero, List.set_cons_succ]
  refine G.step (dval A) rfl rfl (by first | rfl | (rw [HO.out]; rfl)) ?s89 ?n89
  case s89 =>
    intro w' hw' hh
    have q0 := hw'.cell a0 (fun h => h)
    have q1 := hw'.cell a1 (fun h => h)
    clear hw' hh
    refine G.upon_value ?_
    go_simp
    try rfl
  simp only [Act.put, List.setIfInBounds_toArray, List.set_cons_zero, List.set_cons_succ]
  refine G.step (dval B1) rfl rfl (by first | rfl | (rw [HO.out]; rfl)) ?s90 ?n90
  case s90 =>
    intro w' hw' hh
    have q0 := hw'.cell b0 (fun h => h)
    have q1 := hw'.cell b1 (fun h => h)
    clear hw' hh
    refine G.upon_value ?_
    go_simp
    try rfl
  simp only [Act.put, List.setIfInBounds_toArray, List.set_cons_zero, List.set_cons_succ]
  refine G.step (dval AB) rfl rfl (by first | rfl | (rw [HO.out]; rfl)) ?s91 ?n91
  case s91 =>
    intro w' hw' hh
    refine G.upon_call ?_ ((cAB w').mono fun e w'' ⟨he, hb⟩ => ⟨he, (Fr.refl nob _).below hb⟩)
    clear hw' hh
    go_simp
  simp only [Act.put, List.setIfInBounds_toArray, List.set_cons_zero, List.set_cons_succ]
  refine G.step (dval C) rfl rfl (by first | rfl | (rw [HO.out]; rfl)) ?s92 ?n92
  case s92 =>
    intro w' hw' hh
    have q0 := hw'.cell c0 (fun h => h)
    have q1 := hw'.cell c1 (fun h => h)
    clear hw' hh
    refine G.upon_value ?_
    go_simp
    try rfl
  simp only [Act.put, List.setIfInBounds_toArray, List.set_cons_zero, List.set_cons_succ]
  refine G.step (dval A) rfl rfl (by first | rfl | (rw [HO.out]; rfl)) ?s93 ?n93
  case s93 =>
    intro w' hw' hh
    have q0 := hw'.cell a0 (fun h => h)
    have q1 := hw'.cell a1 (fun h => h)
    clear hw' hh
    refine G.upon_value ?_
    go_simp
    try rfl
  simp only [Act.put, List.setIfInBounds_toArray, List.set_cons_zero, List.set_cons_succ]
  refine G.step (dval NA) rfl rfl (by first | rfl | (rw [HO.out]; rfl)) ?s94 ?n94
  case s94 =>
    intro w' hw' hh
    refine G.upon_call ?_ ((cNA w').mono fun e w'' ⟨he, hb⟩ => ⟨he, (Fr.refl nob _).below hb⟩)
    clear hw' hh
    go_simp
  simp only [Act.put, List.setIfInBounds_toArray, List.set_cons_zero, List.set_cons_succ]
  refine G.step (dval CNA) rfl rfl (by first | rfl | (rw [HO.out]; rfl)) ?s95 ?n95
  case s95 =>
    intro w' hw' hh
    refine G.upon_call ?_ ((cCNA w').mono fun e w'' ⟨he, hb⟩ => ⟨he, (Fr.refl nob _).below hb⟩)
    clear hw' hh
    go_simp
  simp only [Act.put, List.setIfInBounds_toArray, List.set_cons_zero, List.set_cons_succ]
  refine G.step (dval IT) rfl rfl (by first | rfl | (rw [HO.out]; rfl)) ?s96 ?n96
  case s96 =>
    intro w' hw' hh
    refine G.upon_call ?_ ((cITb w').mono fun e w'' ⟨he, hb⟩ => ⟨he, (Fr.refl nob _).below hb⟩)
    clear hw' hh
    go_simp
  simp only [Act.put, List.setIfInBounds_toArray, List.set_cons_zero, List.set_cons_succ]
  refine G.step (Value.bool true) rfl rfl (by first | rfl | (rw [HO.out]; rfl)) ?s97 ?n97
  case s97 =>
    intro w' hw' hh
    refine G.upon_call ?_ ((equal_any IT oIT w').mono fun e w'' ⟨he, hb⟩ => ⟨he, (Fr.refl nob _).below hb⟩)
    clear hw' hh
    go_simp
  simp only [Act.put, List.setIfInBounds_toArray, List.set_cons_zero, List.set_cons_succ]
  refine G.step (Value.bool true) rfl rfl (by first | rfl | (rw [HO.out]; rfl)) ?s98 ?n98
  case s98 =>
    intro w' hw' hh
    clear hw' hh
    refine G.upon_value ?_
    go_simp
    try rfl
  simp only [Act.put, List.setIfInBounds_toArray, List.set_cons_zero, List.set_cons_succ]
  refine G.step (Value.bool true) rfl rfl (by first | rfl | (rw [HO.out]; rfl)) ?s99 ?n99
  case s99 =>
    intro w' hw' hh
    clear hw' hh
    refine G.upon_value ?_
    go_simp
    try rfl
  simp only [Act.put, List.setIfInBounds_toArray, List.set_cons_zero, List.set_cons_succ]
  refine G.step (dval A) rfl rfl (by first | rfl | (rw [HO.out]; rfl)) ?s100 ?n100
  case s100 =>
    intro w' hw' hh
    have q0 := hw'.cell a0 (fun h => h)
    have q1 := hw'.cell a1 (fun h => h)
    clear hw' hh
    refine G.upon_value ?_
    go_simp
    try rfl
  simp only [Act.put, List.setIfInBounds_toArray, List.set_cons_zero, List.set_cons_succ]
  refine G.step (dval B1) rfl rfl (by first | rfl | (rw [HO.out]; rfl)) ?s101 ?n101
  case s101 =>
    intro w' hw' hh
    have q0 := hw'.cell b0 (fun h => h)
    have q1 := hw'.cell b1 (fun h => h)
    clear hw' hh
    refine G.upon_value ?_
    go_simp
    try rfl
  simp only [Act.put, List.setIfInBounds_toArray, List.set_cons_zero, List.set_cons_succ]
  refine G.step (dval C) rfl rfl (by first | rfl | (rw [HO.out]; rfl)) ?s102 ?n102
  case s102 =>
    intro w' hw' hh
    have q0 := hw'.cell c0 (fun h => h)
    have q1 := hw'.cell c1 (fun h => h)
    clear hw' hh
    refine G.upon_value ?_
    go_simp
    try rfl
  simp only [Act.put, List.setIfInBounds_toArray, List.set_cons_zero, List.set_cons_succ]
  refine G.new rfl (by first | rfl | (rw [HO.out]; rfl)) ?s103 ?n103
  case s103 =>
    intro w' hw' hh
    clear hw' hh
    exact slice3_new A B1 C w' _ (by go_simp)
  rintro sv103 -
  simp only [Act.put, List.setIfInBounds_toArray, List.set_cons_zero, List.set_cons_succ]
  refine G.step (dval R3) rfl rfl (by first | rfl | (rw [HO.out]; rfl)) ?s104 ?n104
  case s104 =>
    intro w' hw' hh
    have hd : DRow w' sv103 [A, B1, C] := hh 103 o103 120 sv103 (by decide) rfl (by first | kernel_rfl | decide | simp [Region.binds]) ho103 hd103 (List.mem_append_left _ (by decide)) rfl
    refine G.upon_call ?_ ((cR3 w' sv103 hd).mono fun e w'' ⟨he, hb⟩ => ⟨he, (Fr.refl nob _).below hb⟩)
    clear hw' hh hd
    go_simp
  simp only [Act.put, List.setIfInBounds_toArray, List.set_cons_zero, List.set_cons_succ]
  refine G.step (dval C) rfl rfl (by first | rfl | (rw [HO.out]; rfl)) ?s105 ?n105
  case s105 =>
    intro w' hw' hh
    have q0 := hw'.cell c0 (fun h => h)
    have q1 := hw'.cell c1 (fun h => h)
    clear hw' hh
    refine G.upon_value ?_
    go_simp
    try rfl
  simp only [Act.put, List.setIfInBounds_toArray, List.set_cons_zero, List.set_cons_succ]
  refine G.step (dval B1) rfl rfl (by first | rfl | (rw [HO.out]; rfl)) ?s106 ?n106
  case s106 =>
    intro w' hw' hh
    have q0 := hw'.cell b0 (fun h => h)
    have q1 := hw'.cell b1 (fun h => h)
    clear hw' hh
    refine G.upon_value ?_
    go_simp
    try rfl
  simp only [Act.put, List.setIfInBounds_toArray, List.set_cons_zero, List.set_cons_succ]
  refine G.step (dval CB) rfl rfl (by first | rfl | (rw [HO.out]; rfl)) ?s107 ?n107
  case s107 =>
    intro w' hw' hh
    refine G.upon_call ?_ ((cCB w').mono fun e w'' ⟨he, hb⟩ => ⟨he, (Fr.refl nob _).below hb⟩)
    clear hw' hh
    go_simp
  simp only [Act.put, List.setIfInBounds_toArray, List.set_cons_zero, List.set_cons_succ]
  refine G.step (dval A) rfl rfl (by first | rfl | (rw [HO.out]; rfl)) ?s108 ?n108
  case s108 =>
    intro w' hw' hh
    have q0 := hw'.cell a0 (fun h => h)
    have q1 := hw'.cell a1 (fun h => h)
    clear hw' hh
    refine G.upon_value ?_
    go_simp
    try rfl
  simp only [Act.put, List.setIfInBounds_toArray, List.set_cons_zero, List.set_cons_succ]
  refine G.step (dval R3) rfl rfl (by first | rfl | (rw [HO.out]; rfl)) ?s109 ?n109
  case s109 =>
    intro w' hw' hh
    refine G.upon_call ?_ ((cR3b w').mono fun e w'' ⟨he, hb⟩ => ⟨he, (Fr.refl nob _).below hb⟩)
    clear hw' hh
    go_simp
  simp only [Act.put, List.setIfInBounds_toArray, List.set_cons_zero, List.set_cons_succ]
  refine G.step (Value.bool true) rfl rfl (by first | rfl | (rw [HO.out]; rfl)) ?s110 ?n110
  case s110 =>
    intro w' hw' hh
    refine G.upon_call ?_ ((equal_any R3 oR3 w').mono fun e w'' ⟨he, hb⟩ => ⟨he, (Fr.refl nob _).below hb⟩)
    clear hw' hh
    go_simp
  simp only [Act.put, List.setIfInBounds_toArray, List.set_cons_zero, List.set_cons_succ]
  refine G.step (Value.bool true) rfl rfl (by first | rfl | (rw [HO.out]; rfl)) ?s111 ?n111
  case s111 =>
    intro w' hw' hh
    clear hw' hh
    refine G.upon_value ?_
    go_simp
    try rfl
  simp only [Act.put, List.setIfInBounds_toArray, List.set_cons_zero, List.set_cons_succ]
  refine G.step (Value.bool true) rfl rfl (by first | rfl | (rw [HO.out]; rfl)) ?s112 ?n112
  case s112 =>
    intro w' hw' hh
    clear hw' hh
    refine G.upon_value ?_
    go_simp
    try rfl
  simp only [Act.put, List.setIfInBounds_toArray, List.set_cons_zero, List.set_cons_succ]
  refine G.step (dval A) rfl rfl (by first | rfl | (rw [HO.out]; rfl)) ?s113 ?n113
  case s113 =>
    intro w' hw' hh
    have q0 := hw'.cell a0 (fun h => h)
    have q1 := hw'.cell a1 (fun h => h)
    clear hw' hh
    refine G.upon_value ?_
    go_simp
    try rfl
  simp only [Act.put, List.setIfInBounds_toArray, List.set_cons_zero, List.set_cons_succ]
  refine G.step (dval B1) rfl rfl (by first | rfl | (rw [HO.out]; rfl)) ?s114 ?n114
  case s114 =>
    intro w' hw' hh
    have q0 := hw'.cell b0 (fun h => h)
    have q1 := hw'.cell b1 (fun h => h)
    clear hw' hh
    refine G.upon_value ?_
    go_simp
    try rfl
  simp only [Act.put, List.setIfInBounds_toArray, List.set_cons_zero, List.set_cons_succ]
  refine G.step (dval C) rfl rfl (by first | rfl | (rw [HO.out]; rfl)) ?s115 ?n115
  case s115 =>
    intro w' hw' hh
    have q0 := hw'.cell c0 (fun h => h)
    have q1 := hw'.cell c1 (fun h => h)
    clear hw' hh
    refine G.upon_value ?_
    go_simp
    try rfl
  simp only [Act.put, List.setIfInBounds_toArray, List.set_cons_zero, List.set_cons_succ]
  refine G.new rfl (by first | rfl | (rw [HO.out]; rfl)) ?s116 ?n116
  case s116 =>
    intro w' hw' hh
    clear hw' hh
    exact slice3_new A B1 C w' _ (by go_simp)
  rintro sv116 -
  simp only [Act.put, List.setIfInBounds_toArray, List.set_cons_zero, List.set_cons_succ]
  refine G.step (dval R4) rfl rfl (by first | rfl | (rw [HO.out]; rfl)) ?s117 ?n117
  case s117 =>
    intro w' hw' hh
    have hd : DRow w' sv116 [A, B1, C] := hh 116 o116 133 sv116 (by decide) rfl (by first | kernel_rfl | decide | simp [Region.binds]) ho116 hd116 (List.mem_append_left _ (by decide)) rfl
    refine G.upon_call ?_ ((cR4 w' sv116 hd).mono fun e w'' ⟨he, hb⟩ => ⟨he, (Fr.refl nob _).below hb⟩)
    clear hw' hh hd
    go_simp
  simp only [Act.put, List.setIfInBounds_toArray, List.set_cons_zero, List.set_cons_succ]
  refine G.step (dval C) rfl rfl (by first | rfl | (rw [HO.out]; rfl)) ?s118 ?n118
  case s118 =>
    intro w' hw' hh
    have q0 := hw'.cell c0 (fun h => h)
    have q1 := hw'.cell c1 (fun h => h)
    clear hw' hh
    refine G.upon_value ?_
    go_simp
    try rfl
  simp only [Act.put, List.setIfInBounds_toArray, List.set_cons_zero, List.set_cons_succ]
  refine G.step (dval B1) rfl rfl (by first | rfl | (rw [HO.out]; rfl)) ?s119 ?n119
  case s119 =>
    intro w' hw' hh
    have q0 := hw'.cell b0 (fun h => h)
    have q1 := hw'.cell b1 (fun h => h)
    clear hw' hh
    refine G.upon_value ?_
    go_simp
    try rfl
  simp only [Act.put, List.setIfInBounds_toArray, List.set_cons_zero, List.set_cons_succ]
  refine G.step (dval OCB) rfl rfl (by first | rfl | (rw [HO.out]; rfl)) ?s120 ?n120
  case s120 =>
    intro w' hw' hh
    refine G.upon_call ?_ ((cOCB w').mono fun e w'' ⟨he, hb⟩ => ⟨he, (Fr.refl nob _).below hb⟩)
    clear hw' hh
    go_simp
  simp only [Act.put, List.setIfInBounds_toArray, List.set_cons_zero, List.set_cons_succ]
  refine G.step (dval A) rfl rfl (by first | rfl | (rw [HO.out]; rfl)) ?s121 ?n121
  case s121 =>
    intro w' hw' hh
    have q0 := hw'.cell a0 (fun h => h)
    have q1 := hw'.cell a1 (fun h => h)
    clear hw' hh
    refine G.upon_value ?_
    go_simp
    try rfl
  simp only [Act.put, List.setIfInBounds_toArray, List.set_cons_zero, List.set_cons_succ]
  refine G.step (dval R4) rfl rfl (by first | rfl | (rw [HO.out]; rfl)) ?s122 ?n122
  case s122 =>
    intro w' hw' hh
    refine G.upon_call ?_ ((cR4b w').mono fun e w'' ⟨he, hb⟩ => ⟨he, (Fr.refl nob _).below hb⟩)
    clear hw' hh
    go_simp
  simp only [Act.put, List.setIfInBounds_toArray, List.set_cons_zero, List.set_cons_succ]
  refine G.step (Value.bool true) rfl rfl (by first | rfl | (rw [HO.out]; rfl)) ?s123 ?n123
  case s123 =>
    intro w' hw' hh
    refine G.upon_call ?_ ((equal_any R4 oR4 w').mono fun e w'' ⟨he, hb⟩ => ⟨he, (Fr.refl nob _).below hb⟩)
    clear hw' hh
    go_simp
  simp only [Act.put, List.setIfInBounds_toArray, List.set_cons_zero, List.set_cons_succ]
  refine G.step (Value.bool true) rfl rfl (by first | rfl | (rw [HO.out]; rfl)) ?s124 ?n124
  case s124 =>
    intro w' hw' hh
    clear hw' hh
    refine G.upon_value ?_
    go_simp
    try rfl
  simp only [Act.put, List.setIfInBounds_toArray, List.set_cons_zero, List.set_cons_succ]
  refine G.step (Value.bool true) rfl rfl (by first | rfl | (rw [HO.out]; rfl)) ?s125 ?n125
  case s125 =>
    intro w' hw' hh
    clear hw' hh
    refine G.upon_value ?_
    go_simp
    try rfl
  simp only [Act.put, List.setIfInBounds_toArray, List.set_cons_zero, List.set_cons_succ]
  refine G.step (dval A) rfl rfl (by first | rfl | (rw [HO.out]; rfl)) ?s126 ?n126
  case s126 =>
    intro w' hw' hh
    have q0 := hw'.cell a0 (fun h => h)
    have q1 := hw'.cell a1 (fun h => h)
    clear hw' hh
    refine G.upon_value ?_
    go_simp
    try rfl
  simp only [Act.put, List.setIfInBounds_toArray, List.set_cons_zero, List.set_cons_succ]
  refine G.step (dval B1) rfl rfl (by first | rfl | (rw [HO.out]; rfl)) ?s127 ?n127
  case s127 =>
    intro w' hw' hh
    have q0 := hw'.cell b0 (fun h => h)
    have q1 := hw'.cell b1 (fun h => h)
    clear hw' hh
    refine G.upon_value ?_
    go_simp
    try rfl
  simp only [Act.put, List.setIfInBounds_toArray, List.set_cons_zero, List.set_cons_succ]
  refine G.step (Value.bool wb) rfl rfl (by first | rfl | (rw [HO.out]; rfl)) ?s128 ?n128
  case s128 =>
    intro w' hw' hh
    refine G.upon_call ?_ ((cWI w').mono fun e w'' ⟨he, hb⟩ => ⟨he, (Fr.refl nob _).below hb⟩)
    clear hw' hh
    go_simp
  simp only [Act.put, List.setIfInBounds_toArray, List.set_cons_zero, List.set_cons_succ]
  refine G.step (dval A) rfl rfl (by first | rfl | (rw [HO.out]; rfl)) ?s129 ?n129
  case s129 =>
    intro w' hw' hh
    have q0 := hw'.cell a0 (fun h => h)
    have q1 := hw'.cell a1 (fun h => h)
    clear hw' hh
    refine G.upon_value ?_
    go_simp
    try rfl
  simp only [Act.put, List.setIfInBounds_toArray, List.set_cons_zero, List.set_cons_succ]
  refine G.step (dval B1) rfl rfl (by first | rfl | (rw [HO.out]; rfl)) ?s130 ?n130
  case s130 =>
    intro w' hw' hh
    have q0 := hw'.cell b0 (fun h => h)
    have q1 := hw'.cell b1 (fun h => h)
    clear hw' hh
    refine G.upon_value ?_
    go_simp
    try rfl
  simp only [Act.put, List.setIfInBounds_toArray, List.set_cons_zero, List.set_cons_succ]
  refine G.step (dval OAB) rfl rfl (by first | rfl | (rw [HO.out]; rfl)) ?s131 ?n131
  case s131 =>
    intro w' hw' hh
    refine G.upon_call ?_ ((cOAB w').mono fun e w'' ⟨he, hb⟩ => ⟨he, (Fr.refl nob _).below hb⟩)
    clear hw' hh
    go_simp
  simp only [Act.put, List.setIfInBounds_toArray, List.set_cons_zero, List.set_cons_succ]
  refine G.step (dval B1) rfl rfl (by first | rfl | (rw [HO.out]; rfl)) ?s132 ?n132
  case s132 =>
    intro w' hw' hh
    have q0 := hw'.cell b0 (fun h => h)
    have q1 := hw'.cell b1 (fun h => h)
    clear hw' hh
    refine G.upon_value ?_
    go_simp
    try rfl
  simp only [Act.put, List.setIfInBounds_toArray, List.set_cons_zero, List.set_cons_succ]
  refine G.step (Value.bool wb) rfl rfl (by first | rfl | (rw [HO.out]; rfl)) ?s133 ?n133
  case s133 =>
    intro w' hw' hh
    refine G.upon_call ?_ ((cSA w').mono fun e w'' ⟨he, hb⟩ => ⟨he, (Fr.refl nob _).below hb⟩)
    clear hw' hh
    go_simp
  simp only [Act.put, List.setIfInBounds_toArray, List.set_cons_zero, List.set_cons_succ]
  refine G.step (Value.bool true) rfl rfl (by first | rfl | (rw [HO.out]; rfl)) ?s134 ?n134
  case s134 =>
    intro w' hw' hh
    clear hw' hh
    refine G.upon_value ?_
    go_simp
    try rfl
  simp only [Act.put, List.setIfInBounds_toArray, List.set_cons_zero, List.set_cons_succ]
  refine G.step (Value.bool true) rfl rfl (by first | rfl | (rw [HO.out]; rfl)) ?s135 ?n135
  case s135 =>
    intro w' hw' hh
    clear hw' hh
    refine G.upon_value ?_
    go_simp
    try rfl
  simp only [Act.put, List.setIfInBounds_toArray, List.set_cons_zero, List.set_cons_succ]
  refine G.step (Value.bool true) rfl rfl (by first | rfl | (rw [HO.out]; rfl)) ?s136 ?n136
  case s136 =>
    intro w' hw' hh
    clear hw' hh
    refine G.upon_value ?_
    go_simp
    try rfl
  simp only [Act.put, List.setIfInBounds_toArray, List.set_cons_zero, List.set_cons_succ]
  refine G.step (dval A) rfl rfl (by first | rfl | (rw [HO.out]; rfl)) ?s137 ?n137
  case s137 =>
    intro w' hw' hh
    have q0 := hw'.cell a0 (fun h => h)
    have q1 := hw'.cell a1 (fun h => h)
    clear hw' hh
    refine G.upon_value ?_
    go_simp
    try rfl
  simp only [Act.put, List.setIfInBounds_toArray, List.set_cons_zero, List.set_cons_succ]
  refine G.step (dval B1) rfl rfl (by first | rfl | (rw [HO.out]; rfl)) ?s138 ?n138
  case s138 =>
    intro w' hw' hh
    have q0 := hw'.cell b0 (fun h => h)
    have q1 := hw'.cell b1 (fun h => h)
    clear hw' hh
    refine G.upon_value ?_
    go_simp
    try rfl
  simp only [Act.put, List.setIfInBounds_toArray, List.set_cons_zero, List.set_cons_succ]
  refine G.step (Value.bool mb) rfl rfl (by first | rfl | (rw [HO.out]; rfl)) ?s139 ?n139
  case s139 =>
    intro w' hw' hh
    refine G.upon_call ?_ ((cME w').mono fun e w'' ⟨he, hb⟩ => ⟨he, (Fr.refl nob _).below hb⟩)
    clear hw' hh
    go_simp
  simp only [Act.put, List.setIfInBounds_toArray, List.set_cons_zero, List.set_cons_succ]
  refine G.step (dval A) rfl rfl (by first | rfl | (rw [HO.out]; rfl)) ?s140 ?n140
  case s140 =>
    intro w' hw' hh
    have q0 := hw'.cell a0 (fun h => h)
    have q1 := hw'.cell a1 (fun h => h)
    clear hw' hh
    refine G.upon_value ?_
    go_simp
    try rfl
  simp only [Act.put, List.setIfInBounds_toArray, List.set_cons_zero, List.set_cons_succ]
  refine G.step (dval B1) rfl rfl (by first | rfl | (rw [HO.out]; rfl)) ?s141 ?n141
  case s141 =>
    intro w' hw' hh
    have q0 := hw'.cell b0 (fun h => h)
    have q1 := hw'.cell b1 (fun h => h)
    clear hw' hh
    refine G.upon_value ?_
    go_simp
    try rfl
  simp only [Act.put, List.setIfInBounds_toArray, List.set_cons_zero, List.set_cons_succ]
  refine G.step (dval NB) rfl rfl (by first | rfl | (rw [HO.out]; rfl)) ?s142 ?n142
  case s142 =>
    intro w' hw' hh
    refine G.upon_call ?_ ((cNB w').mono fun e w'' ⟨he, hb⟩ => ⟨he, (Fr.refl nob _).below hb⟩)
    clear hw' hh
    go_simp
  simp only [Act.put, List.setIfInBounds_toArray, List.set_cons_zero, List.set_cons_succ]
  refine G.step (Value.bool (!mb)) rfl rfl (by first | rfl | (rw [HO.out]; rfl)) ?s143 ?n143
  case s143 =>
    intro w' hw' hh
    refine G.upon_call ?_ ((cWN w').mono fun e w'' ⟨he, hb⟩ => ⟨he, (Fr.refl nob _).below hb⟩)
    clear hw' hh
    go_simp
  simp only [Act.put, List.setIfInBounds_toArray, List.set_cons_zero, List.set_cons_succ]
  refine G.step (Value.bool mb) rfl rfl (by first | rfl | (rw [HO.out]; rfl)) ?s144 ?n144
  case s144 =>
    intro w' hw' hh
    clear hw' hh
    refine G.upon_value ?_
    go_simp
    try rfl
  simp only [Act.put, List.setIfInBounds_toArray, List.set_cons_zero, List.set_cons_succ]
  refine G.step (Value.bool true) rfl rfl (by first | rfl | (rw [HO.out]; rfl)) ?s145 ?n145
  case s145 =>
    intro w' hw' hh
    clear hw' hh
    refine G.upon_value ?_
    go_simp
    try rfl
  simp only [Act.put, List.setIfInBounds_toArray, List.set_cons_zero, List.set_cons_succ]
  refine G.step (Value.bool true) rfl rfl (by first | rfl | (rw [HO.out]; rfl)) ?s146 ?n146
  case s146 =>
    intro w' hw' hh
    clear hw' hh
    refine G.upon_value ?_
    go_simp
    try rfl
  simp only [Act.put, List.setIfInBounds_toArray, List.set_cons_zero, List.set_cons_succ]
  refine G.step (Value.bool true) rfl rfl (by first | rfl | (rw [HO.out]; rfl)) ?s147 ?n147
  case s147 =>
    intro w' hw' hh
    clear hw' hh
    refine G.upon_value ?_
    go_simp
    try rfl
  simp only [Act.put, List.setIfInBounds_toArray, List.set_cons_zero, List.set_cons_succ]
  refine G.step (Value.bool true) rfl rfl (by first | rfl | (rw [HO.out]; rfl)) ?s148 ?n148
  case s148 =>
    intro w' hw' hh
    refine G.upon_call ?_ ((wakes_any w').mono fun e w'' ⟨he, hb⟩ => ⟨he, (Fr.refl nob _).below hb⟩)
    clear hw' hh
    go_simp
  simp only [Act.put, List.setIfInBounds_toArray, List.set_cons_zero, List.set_cons_succ]
  refine G.step (Value.bool true) rfl rfl (by first | rfl | (rw [HO.out]; rfl)) ?s149 ?n149
  case s149 =>
    intro w' hw' hh
    clear hw' hh
    refine G.upon_value ?_
    go_simp
    try rfl
  simp only [Act.put, List.setIfInBounds_toArray, List.set_cons_zero, List.set_cons_succ]
  refine G.nil ?_
  rintro w8 listed fr8 - -
  rw [HO.out, HT.out]
  simp only [List.append_eq, List.cons_append, List.nil_append, List.drop_succ_cons, List.drop_zero]
  have FE := Lib.hid ((fW.trans fr8 (fun _ _ h => h)).to_below (Nat.le_refl _) (fun _ h => h.elim))
  clear a0 a1 b0 b1 c0 c1 fr8 fW
  go_wp2_with fail
  exact bodyPost_ret (v := .bool true) (by simp [results, Tryd.results4, go_sem]) rfl ⟨rfl, FE.out⟩
end Go.Proofs.YtnkcdkmfeokljaaDoor
