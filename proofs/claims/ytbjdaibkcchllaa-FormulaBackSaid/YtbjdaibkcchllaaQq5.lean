/- A map whose keys are pairs of pointers, and whose values are all true: what is asked of it is answered, whatever the answer. -/
import Derived.Test.YtbjdaibkcchllaaQo
import Derived.LaidEqlPtr
import Derived.Test.YtbjdaibkcchllaaQc6
import Derived.BigQuiet
import Derived.Test.YtbjdaibkcchllaaQd2
import Derived.Maps.OwnRows
namespace Go.Proofs.Ytbjdaibkcchllaa
open Go.RowKit
open Go.ChangeMaps Go.MapKept

/-- an address whose cell is there and is not frozen -/
structure Lie (w : World) (a : Addr) : Prop where
  cells : ∃ c t f, w.heap[a.block]? = some (.cells c t f)
  free : w.frozen? a = false
theorem Lie.drewN {w : World} {a : Addr} (h : Lie w a) (n : Nat) : Lie (w.drewN n) a := ⟨h.cells, h.free⟩
theorem drewN_drewN (w : World) (n m : Nat) : (w.drewN n).drewN m = w.drewN (n + m) := by simp [World.drewN, Nat.add_assoc]
theorem sameAddr_ans (P : Program) (w : World) {a b : Addr} (ha : Lie w a) (hb : Lie w b) : ∃ c n, (sameAddr a b).run P w = .ok c (w.drewN n) := by
  obtain ⟨ca, ta, fa, hca⟩ := ha.cells
  obtain ⟨cb, tb, fb, hcb⟩ := hb.cells
  by_cases hbl : a.block = b.block
  · exact ⟨_, 0, by simp [sameAddr, hbl]; exact ⟨rfl, rfl⟩⟩
  · obtain ⟨m, hm⟩ : ∃ m, (mayBeOne a b).run P w = .ok m w := by simp [mayBeOne, stringish, ha.free, hb.free, World.shape?, hca, hcb]
    cases m with
    | false => exact ⟨false, 0, by simp [sameAddr, hbl, ha.free, noView, viewAt, World.shape?, hca, hcb, hm]; (first | exact ⟨rfl, rfl⟩ | rfl)⟩
    | true =>
      by_cases hq : (Question.extern "sameAddr.stringBytes" 2).forced = true
      · exact ⟨_, 0, by simp [sameAddr, hbl, ha.free, noView, viewAt, World.shape?, hca, hcb, hm, hq]; exact ⟨rfl, rfl⟩⟩
      · exact ⟨_, 1, by simp [sameAddr, hbl, ha.free, noView, viewAt, World.shape?, hca, hcb, hm, hq]; exact ⟨rfl, rfl⟩⟩
theorem ptrUnder : Try.prog.underlying 96 = some (.pointer 25) := by kernel_rfl
theorem exprInfo : (Try.prog.info? 25).map (fun i => i.size) = some 3 := by kernel_rfl
theorem ptr_ans (d : Nat) (w : World) {a b : Addr} (ha : Lie w a) (hb : Lie w b) : ∃ c n, (Op.equalIn (d + 1) 96 (.pointer (some a)) (.pointer (some b))).run Try.prog w = .ok c (w.drewN n) := by
  obtain ⟨c, n, h⟩ := sameAddr_ans Try.prog w ha hb
  obtain ⟨j, hj, hs⟩ := Option.map_eq_some_iff.1 exprInfo
  refine ⟨c, n, ?_⟩
  simp [Op.equalIn, run_underlying ptrUnder, sizeOf, typeInfo, hj, hs, h]
theorem pairFields : (match Try.prog.underlying 109 with
    | some (.struct fs) => fs.toList.map fun f => (f.name != "_", f.type, f.offset)
    | _ => []) = [(true, 96, 0), (true, 96, 1)] := by kernel_rfl
def keyV (p : Addr × Addr) : Value := .agg #[.pointer (some p.1), .pointer (some p.2)]
theorem pairUnder : ∃ fa fb : Field, Try.prog.underlying 109 = some (.struct #[fa, fb]) ∧ (fa.name != "_") = true ∧ fa.type = 96 ∧ fa.offset = 0 ∧ (fb.name != "_") = true ∧ fb.type = 96 ∧ fb.offset = 1 := by
  have h := pairFields
  split at h
  · rename_i fs hst
    have hl : fs.toList.length = 2 := by rw [← List.length_map (f := fun f : Field => (f.name != "_", f.type, f.offset)), h]; rfl
    match hf : fs.toList, hl with
    | [fa, fb], _ =>
      rw [hf] at h
      simp only [List.map_cons, List.map_nil, List.cons.injEq, Prod.mk.injEq, and_true] at h
      refine ⟨fa, fb, ?_, h.1.1, h.1.2.1, h.1.2.2, h.2.1, h.2.2.1, h.2.2.2⟩
      rw [hst, show fs = #[fa, fb] from Array.toList_inj.1 hf]
  · cases h
theorem pairIn_ans (d : Nat) (w : World) {p q : Addr × Addr} (h1 : Lie w p.1) (h2 : Lie w p.2) (h3 : Lie w q.1) (h4 : Lie w q.2) : ∃ c n, (Op.equalIn (d + 1 + 1) 109 (keyV p) (keyV q)).run Try.prog w = .ok c (w.drewN n) := by
  obtain ⟨fa, fb, hst, na, ta, oa, nb, tb, ob⟩ := pairUnder
  obtain ⟨c, n, e1⟩ := ptr_ans d w h1 h3
  obtain ⟨c2, n2, e2⟩ := ptr_ans d (w.drewN n) (h2.drewN n) (h4.drewN n)
  have na' : ¬ fa.name = "_" := by simpa using na
  have nb' : ¬ fb.name = "_" := by simpa using nb
  rw [Op.equalIn]
  cases c with
  | false =>
    refine ⟨false, n, ?_⟩
    simp [run_underlying hst, keyV, na', ta, oa, part, e1]
  | true =>
    refine ⟨c2, n + n2, ?_⟩
    cases c2 <;> simp [run_underlying hst, keyV, na', ta, oa, nb', tb, ob, part, e1, e2]
theorem pair_ans (w : World) {p q : Addr × Addr} (h1 : Lie w p.1) (h2 : Lie w p.2) (h3 : Lie w q.1) (h4 : Lie w q.2) : ∃ c n, (Op.equal 109 (keyV p) (keyV q)).run Try.prog w = .ok c (w.drewN n) := pairIn_ans 9998 w h1 h2 h3 h4
/-- an entry of the map -/
def Ent (N : Nat) (w : World) (e : MapEntry) : Prop := e.val = .bool true ∧ ∃ p, e.key = keyV p ∧ (Lie w p.1 ∧ Lie w p.2) ∧ p.1.block < N ∧ p.2.block < N
theorem Ent.drewN {N : Nat} {w : World} {e : MapEntry} (h : Ent N w e) (n : Nat) : Ent N (w.drewN n) e := by
  obtain ⟨h1, p, h2, ⟨h3, h4⟩, h5⟩ := h
  exact ⟨h1, p, h2, ⟨h3.drewN n, h4.drewN n⟩, h5⟩
theorem ask_ans {N : Nat} {p : Addr × Addr} : ∀ (es : List MapEntry) (i : Nat) (w : World), Lie w p.1 → Lie w p.2 → (∀ e ∈ es, Ent N w e) → ∃ r n, (Instr.findAsking 109 (keyV p) es i).run Try.prog w = .ok r (w.drewN n) ∧ ∀ j v, r = some (j, v) → v = .bool true
  | [], i, w, _, _, _ => ⟨none, 0, rfl, fun j v h => by cases h⟩
  | e :: es, i, w, h1, h2, h => by
    obtain ⟨hv, q, hk, ⟨h3, h4⟩, _⟩ := h e List.mem_cons_self
    obtain ⟨c, n, hc⟩ := pair_ans w h1 h2 h3 h4
    cases c with
    | true => exact ⟨some (i, e.val), n, by simp [Instr.findAsking, hk, hc], fun j v h => by cases h; exact hv⟩
    | false =>
      obtain ⟨r, m, hr, hr2⟩ := ask_ans es (i + 1) (w.drewN n) (h1.drewN n) (h2.drewN n) (fun e he => (h e (List.mem_cons_of_mem _ he)).drewN n)
      exact ⟨r, n + m, by simp [Instr.findAsking, hk, hc, hr], hr2⟩
theorem find_ans {N : Nat} {p : Addr × Addr} {es : List MapEntry} {w : World} (h1 : Lie w p.1) (h2 : Lie w p.2) (h : ∀ e ∈ es, Ent N w e) : ∃ r n, (Instr.findKey 109 (keyV p) es).run Try.prog w = .ok r (w.drewN n) ∧ ∀ j v, r = some (j, v) → v = .bool true := by
  obtain ⟨fa, fb, hst, _⟩ := pairUnder
  cases es with
  | nil => exact ⟨none, 0, by simp [Instr.findKey, run_underlying hst, Instr.findNow]; rfl, fun j v h => by cases h⟩
  | cons e es =>
    obtain ⟨r, n, hr, hr2⟩ := ask_ans (e :: es) 0 w h1 h2 h
    obtain ⟨hv, q, hk, _⟩ := h e List.mem_cons_self
    refine ⟨r, n, ?_, hr2⟩
    simp [Instr.findKey, run_underlying hst, Instr.findNow, Instr.sameNow, hk, keyV]
    simpa [keyV] using hr
theorem check_key (em : Bool) (d : Nat) (p : Addr × Addr) (w : World) : (Instr.checkKey em (d + 1 + 1) 109 (keyV p)).run Try.prog w = .ok () w := by
  obtain ⟨fa, fb, hst, na, ta, oa, nb, tb, ob⟩ := pairUnder
  have na' : ¬ fa.name = "_" := by simpa using na
  have nb' : ¬ fb.name = "_" := by simpa using nb
  rw [Instr.checkKey]
  simp [run_underlying hst, keyV, na', ta, oa, nb', tb, ob, part, Instr.checkKey, run_underlying ptrUnder]
/-- the block b is a map of such entries -/
def BMap (N : Nat) (w : World) (b : Nat) : Prop := ∃ es clock, w.heap[b]? = some (.map es clock) ∧ ∀ e ∈ es.toList, Ent N w e
theorem mapUnder : Try.prog.underlying 107 = some (.map 109 4) := by kernel_rfl
theorem lookup_ans {N : Nat} {w : World} {b : Nat} (h : BMap N w b) {p : Addr × Addr} (h1 : Lie w p.1) (h2 : Lie w p.2) : ∃ c n, (Instr.lookup 107 (.map (some b)) (keyV p) false).run Try.prog w = .ok (.bool c) (w.drewN n) := by
  obtain ⟨es, clock, hb, he⟩ := h
  obtain ⟨r, n, hr, hr2⟩ := find_ans h1 h2 he
  have hck := check_key es.isEmpty 9998 p w
  cases r with
  | none => exact ⟨false, n, by simp [Instr.lookup, run_underlying mapUnder, MapKept.run_getObj_map hb, hck, hr, Result.andThen]⟩
  | some x =>
    obtain ⟨j, v⟩ := x
    obtain rfl := hr2 j v rfl
    exact ⟨true, n, by simp [Instr.lookup, run_underlying mapUnder, MapKept.run_getObj_map hb, hck, hr, Result.andThen]⟩
theorem stays_ans (w : World) (old new : Value) : ∃ v n, (Instr.keyThatStays old new).run Try.prog w = .ok v (w.drewN n) ∧ (v = old ∨ v = new) := by
  by_cases hs : Instr.sameBits 10000 old new = true
  · exact ⟨new, 0, by simp only [Instr.keyThatStays]; rw [if_pos hs]; rfl, .inr rfl⟩
  · by_cases hq : (Question.extern "map.whichKeyStays" 2).forced = true
    · exact ⟨_, 0, by simp only [Instr.keyThatStays]; rw [if_neg hs]; simp [hq]; rfl, .inr rfl⟩
    · by_cases hz : (Question.extern "map.whichKeyStays" 2).cut (w.tape w.drawn (Question.extern "map.whichKeyStays" 2)) = 0
      · exact ⟨new, 1, by simp only [Instr.keyThatStays]; rw [if_neg hs]; simp [hq, hz]; rfl, .inr rfl⟩
      · exact ⟨old, 1, by simp only [Instr.keyThatStays]; rw [if_neg hs]; simp [hq, hz]; rfl, .inl rfl⟩
theorem BMap.lt {N : Nat} {w : World} {b : Nat} (h : BMap N w b) : b < w.heap.size := by
  obtain ⟨es, clock, hb, _⟩ := h
  exact (Array.getElem?_eq_some_iff.1 hb).1
theorem Lie.kept {S : Nat → Prop} {w w' : World} {a : Addr} (h : Lie w a) (f : Fr S w w') (hS : ¬ S a.block) : Lie w' a := by
  obtain ⟨c, t, fz, hc⟩ := h.cells
  have hlt := (Array.getElem?_eq_some_iff.1 hc).1
  exact ⟨⟨c, t, fz, (f.block _ hlt hS).trans hc⟩, (f.frozen hlt hS).trans h.free⟩
theorem Ent.kept {N : Nat} {S : Nat → Prop} {w w' : World} {e : MapEntry} (h : Ent N w e) (f : Fr S w w') (hS : ∀ b, b < N → ¬ S b) : Ent N w' e := by
  obtain ⟨h1, p, h2, ⟨h3, h4⟩, h5, h6⟩ := h
  exact ⟨h1, p, h2, ⟨h3.kept f (hS _ h5), h4.kept f (hS _ h6)⟩, h5, h6⟩
theorem BMap.kept {N : Nat} {S : Nat → Prop} {w w' : World} {b : Nat} (h : BMap N w b) (f : Fr S w w') (hb : ¬ S b) (hS : ∀ b, b < N → ¬ S b) : BMap N w' b := by
  have hlt := h.lt
  obtain ⟨es, clock, hm, he⟩ := h
  exact ⟨es, clock, (f.block _ hlt hb).trans hm, fun e h => (he e h).kept f hS⟩
theorem update_ans {N : Nat} {w : World} {b : Nat} (h : BMap N w b) (hbN : N ≤ b) {p : Addr × Addr} (h1 : Lie w p.1) (h2 : Lie w p.2) (h5 : p.1.block < N) (h6 : p.2.block < N) : ∃ w', (Instr.mapUpdate 107 (.map (some b)) (keyV p) (.bool true)).run Try.prog w = .ok () w' ∧ BMap N w' b ∧ Fr (fun k => k = b) w w' := by
  obtain ⟨es, clock, hb, he⟩ := h
  obtain ⟨r, n, hr, hr2⟩ := find_ans h1 h2 he
  have hck := check_key false 9998 p w
  have hbn : ∀ m, (w.drewN m).heap[b]? = some (.map es clock) := fun m => hb
  have key : ∀ (m : Nat) (es' : Array MapEntry) (cl : Nat), (∀ e ∈ es'.toList, Ent N w e) → BMap N (setBlock (w.drewN m) b (.map es' cl)) b ∧ Fr (fun k => k = b) w (setBlock (w.drewN m) b (.map es' cl)) := by
    intro m es' cl hes
    have hF : Fr (fun k => k = b) w (setBlock (w.drewN m) b (.map es' cl)) := ⟨rfl, rfl, rfl, by simp [setBlock], fun i _ hi => heap_setBlock_other (hbn m) _ (fun e => hi (by rw [e]))⟩
    exact ⟨⟨es', cl, heap_setBlock_same (hbn m) _, fun e he' => (hes e he').kept hF (fun b' hb' e => by have e2 : b' = b := e; omega)⟩, hF⟩
  cases r with
  | none =>
    refine ⟨_, ?_, key n (es.push ⟨keyV p, .bool true, clock⟩) (clock + 1) ?_⟩
    · simp only [Instr.mapUpdate]; simp [run_underlying mapUnder, MapKept.run_getObj_map hb, hck, hr, MapKept.run_setObj_map _ (hbn n), Result.andThen]; rfl
    · intro e he'
      simp at he'
      rcases he' with he' | rfl
      · exact he e (by simpa using he')
      · exact ⟨rfl, p, rfl, ⟨h1, h2⟩, h5, h6⟩
  | some x =>
    obtain ⟨i, v⟩ := x
    obtain ⟨kv, m, hk, hkv⟩ := stays_ans (w.drewN n) (((es[i]?).map (·.key)).getD (keyV p)) (keyV p)
    rw [drewN_drewN] at hk
    refine ⟨_, ?_, key (n + m) (es.modify i fun e => { e with key := kv, val := .bool true }) clock ?_⟩
    · simp only [Instr.mapUpdate]; simp [run_underlying mapUnder, MapKept.run_getObj_map hb, hck, hr, hk, MapKept.run_setObj_map _ (hbn (n + m)), Result.andThen]; rfl
    · intro e he'
      rw [Array.toList_modify] at he'
      obtain ⟨j, hj⟩ := List.mem_iff_getElem?.1 he'
      rw [List.getElem?_modify] at hj
      obtain ⟨e0, h0, h9⟩ := Option.map_eq_some_iff.1 hj
      have hm0 : e0 ∈ es.toList := List.mem_of_getElem? h0
      by_cases hij : i = j
      · rw [if_pos hij] at h9
        subst h9
        refine ⟨rfl, ?_⟩
        show ∃ q, kv = keyV q ∧ _
        rcases hkv with hkv | hkv
        · have h0' : es[i]? = some e0 := by rw [hij]; simpa using h0
          rw [h0'] at hkv
          obtain ⟨_, q, hq⟩ := he e0 hm0
          exact ⟨q, hkv.trans hq.1, hq.2⟩
        · exact ⟨p, hkv, ⟨h1, h2⟩, h5, h6⟩
      · rw [if_neg hij] at h9
        subst h9
        exact he e0 hm0
theorem wpList_ask {ops : Array Oper} {rest : List Oper} {o : Oper} {a : Act} {w : World} {Q : Exit → Act → World → Prop} (hg : o.guard = none) (mm x : Operand) (hop : o.op = Op.lookup 107 mm x false)
    {N b : Nat} {p : Addr × Addr} (hm : a.eval mm = .map (some b)) (hx : a.eval x = keyV p) (hB : BMap N w b) (h1 : Lie w p.1) (h2 : Lie w p.2)
    (hK : ∀ c n, wpList Try.prog ops Q rest (a.put o.dst (.bool c)) (w.drewN n)) : wpList Try.prog ops Q (o :: rest) a w := by
  refine wpList_plain hg fun K' hK' => ?_
  obtain ⟨c, n, hrun⟩ := lookup_ans hB h1 h2
  unfold Oper.wp
  simp [execOp, hop, hm, hx, hrun, Result.andThen]
  exact hK' _ _ (hK c n)
theorem wpList_tell {ops : Array Oper} {rest : List Oper} {o : Oper} {a : Act} {w : World} {Q : Exit → Act → World → Prop} (hg : o.guard = none) (mm x v : Operand) (hop : o.op = Op.mapUpdate 107 mm x v)
    {N b : Nat} {p : Addr × Addr} (hm : a.eval mm = .map (some b)) (hx : a.eval x = keyV p) (hv : a.eval v = .bool true) (hB : BMap N w b) (hbN : N ≤ b) (h1 : Lie w p.1) (h2 : Lie w p.2) (h5 : p.1.block < N) (h6 : p.2.block < N)
    (hK : ∀ w', BMap N w' b → Fr (fun k => k = b) w w' → wpList Try.prog ops Q rest (a.put o.dst undef) w') : wpList Try.prog ops Q (o :: rest) a w := by
  refine wpList_plain hg fun K' hK' => ?_
  obtain ⟨w', hrun, r1, r2⟩ := update_ans hB hbN h1 h2 h5 h6
  unfold Oper.wp
  simp [execOp, hop, hm, hx, hv, hrun, Result.andThen]
  exact hK' _ _ (hK w' r1 r2)
theorem BMap.made (N : Nat) (w : World) : BMap N (w.alloc (.map #[] 0)) w.heap.size := ⟨#[], 0, (MapKept.heap_alloc w _).1, by simp⟩
end Go.Proofs.Ytbjdaibkcchllaa
namespace Go.Proofs.Ytbjdaibkcchllaa
open Go.RowKit

mutual
/-- as TrO; no node of it is frozen -/
def TrN (w : World) (S : Nat → Prop) : Tr → Value → Prop
  | .mk op name kids, v => ∃ a cap, v = .agg #[.int .u8 (op : Int), .string (txt name), .slice a kids.length cap] ∧ (kids ≠ [] → ∃ b ob, a = some ⟨b, ob, none⟩ ∧ S b ∧ KidsN w S kids b ob 0)
def KidsN (w : World) (S : Nat → Prop) : List Tr → Nat → Nat → Nat → Prop
  | [], _, _, _ => True
  | t :: ts, b, ob, i => (w.frozen? ⟨b, ob + i * 3, none⟩ = false ∧ ∃ x y z, w.cell? ⟨b, ob + i * 3, none⟩ = some x ∧ w.cell? ⟨b, ob + i * 3 + 1, none⟩ = some y ∧ w.cell? ⟨b, ob + i * 3 + 2, none⟩ = some z ∧ TrN w S t (.agg #[x, y, z])) ∧ KidsN w S ts b ob (i + 1)
end
mutual
theorem TrN.kept {w w' : World} {S S' T : Nat → Prop} (f : Fr S' w w') (hS : ∀ b, S b → b < w.heap.size → ¬ S' b ∧ T b) : ∀ {t : Tr} {v : Value}, TrN w S t v → TrN w' T t v
  | .mk op name kids, v, h => by
    rw [TrN] at h ⊢
    obtain ⟨a, cap, rfl, hk⟩ := h
    refine ⟨a, cap, rfl, fun hne => ?_⟩
    obtain ⟨b, ob, rfl, hb, hK⟩ := hk hne
    have hlt : b < w.heap.size := by
      cases kids with
      | nil => exact absurd rfl hne
      | cons t ts =>
        rw [KidsN] at hK
        obtain ⟨⟨_, x, y, z, h0, _⟩, _⟩ := hK
        exact lt_of_cell h0
    exact ⟨b, ob, rfl, (hS b hb hlt).2, KidsN.kept f hS hb hlt hK⟩
theorem KidsN.kept {w w' : World} {S S' T : Nat → Prop} (f : Fr S' w w') (hS : ∀ b, S b → b < w.heap.size → ¬ S' b ∧ T b) : ∀ {ts : List Tr} {b ob i : Nat}, S b → b < w.heap.size → KidsN w S ts b ob i → KidsN w' T ts b ob i
  | [], _, _, _, _, _, _ => by rw [KidsN]; trivial
  | t :: ts, b, ob, i, hb, hlt, h => by
    rw [KidsN] at h ⊢
    obtain ⟨⟨hf, x, y, z, h0, h1, h2, hT⟩, hK⟩ := h
    exact ⟨⟨(f.frozen (p := ⟨b, ob + i * 3, none⟩) hlt (hS b hb hlt).1).trans hf, x, y, z, f.cell h0 (hS b hb hlt).1, f.cell h1 (hS b hb hlt).1, f.cell h2 (hS b hb hlt).1, TrN.kept f hS hT⟩, KidsN.kept f hS hb hlt hK⟩
end
mutual
theorem TrN.of {w : World} {S : Nat → Prop} (hS : ∀ b, S b → Flg w b) : ∀ {t : Tr} {v : Value}, TrO w S t v → TrN w S t v
  | .mk op name kids, v, h => by
    rw [TrO] at h
    rw [TrN]
    obtain ⟨a, cap, rfl, hk⟩ := h
    refine ⟨a, cap, rfl, fun hne => ?_⟩
    obtain ⟨b, ob, rfl, hb, hK⟩ := hk hne
    exact ⟨b, ob, rfl, hb, KidsN.of hS hb hK⟩
theorem KidsN.of {w : World} {S : Nat → Prop} (hS : ∀ b, S b → Flg w b) : ∀ {ts : List Tr} {b ob i : Nat}, S b → KidsO w S ts b ob i → KidsN w S ts b ob i
  | [], _, _, _, _, _ => by rw [KidsN]; trivial
  | t :: ts, b, ob, i, hb, h => by
    rw [KidsO] at h
    rw [KidsN]
    obtain ⟨⟨x, y, z, h0, h1, h2, hT⟩, hK⟩ := h
    exact ⟨⟨hS b hb _, x, y, z, h0, h1, h2, TrN.of hS hT⟩, KidsN.of hS hb hK⟩
end
mutual
theorem TrN.toO {w : World} {S : Nat → Prop} : ∀ {t : Tr} {v : Value}, TrN w S t v → TrO w S t v
  | .mk op name kids, v, h => by
    rw [TrN] at h
    rw [TrO]
    obtain ⟨a, cap, rfl, hk⟩ := h
    refine ⟨a, cap, rfl, fun hne => ?_⟩
    obtain ⟨b, ob, rfl, hb, hK⟩ := hk hne
    exact ⟨b, ob, rfl, hb, KidsN.toO hK⟩
theorem KidsN.toO {w : World} {S : Nat → Prop} : ∀ {ts : List Tr} {b ob i : Nat}, KidsN w S ts b ob i → KidsO w S ts b ob i
  | [], _, _, _, _ => by rw [KidsO]; trivial
  | t :: ts, b, ob, i, h => by
    rw [KidsN] at h
    rw [KidsO]
    obtain ⟨⟨_, x, y, z, h0, h1, h2, hT⟩, hK⟩ := h
    exact ⟨⟨x, y, z, h0, h1, h2, TrN.toO hT⟩, KidsN.toO hK⟩
end
theorem KidsN.at {w : World} {S : Nat → Prop} {b ob : Nat} : ∀ {ts : List Tr} {i k : Nat} {t : Tr}, KidsN w S ts b ob i → ts[k]? = some t → w.frozen? ⟨b, ob + (i + k) * 3, none⟩ = false ∧ ∃ x y z, w.cell? ⟨b, ob + (i + k) * 3, none⟩ = some x ∧ w.cell? ⟨b, ob + (i + k) * 3 + 1, none⟩ = some y ∧ w.cell? ⟨b, ob + (i + k) * 3 + 2, none⟩ = some z ∧ TrN w S t (.agg #[x, y, z])
  | a :: ts, i, 0, t, h, hk => by
    obtain rfl : a = t := by simpa using hk
    rw [KidsN] at h
    exact h.1
  | a :: ts, i, k + 1, t, h, hk => by
    rw [KidsN] at h
    have ih := KidsN.at (k := k) h.2 (by simpa using hk)
    rwa [show i + 1 + k = i + (k + 1) by omega] at ih
/-- the tree t stands at the address -/
def NodeN (w : World) (S : Nat → Prop) (t : Tr) (p : Addr) : Prop := ∃ b o, p = ⟨b, o, none⟩ ∧ S b ∧ w.frozen? ⟨b, o, none⟩ = false ∧ ∃ x y z, w.cell? ⟨b, o, none⟩ = some x ∧ w.cell? ⟨b, o + 1, none⟩ = some y ∧ w.cell? ⟨b, o + 2, none⟩ = some z ∧ TrN w S t (.agg #[x, y, z])
theorem NodeN.kept {w w' : World} {S S' : Nat → Prop} {t : Tr} {p : Addr} (h : NodeN w S t p) (f : Fr S' w w') (hS : ∀ b, S b → ¬ S' b) : NodeN w' S t p := by
  obtain ⟨b, o, rfl, hb, hf, x, y, z, h0, h1, h2, hT⟩ := h
  exact ⟨b, o, rfl, hb, (f.frozen (p := ⟨b, o, none⟩) (lt_of_cell h0) (hS b hb)).trans hf, x, y, z, f.cell h0 (hS b hb), f.cell h1 (hS b hb), f.cell h2 (hS b hb), hT.kept f (fun b hb _ => ⟨hS b hb, hb⟩)⟩
theorem cells_of {w : World} {a : Addr} {v : Value} (h : w.cell? a = some v) : ∃ c t f, w.heap[a.block]? = some (.cells c t f) := by
  unfold World.cell? at h
  split at h
  · rename_i hb; exact ⟨_, _, _, hb⟩
  · cases h
theorem NodeN.lie {w : World} {S : Nat → Prop} {t : Tr} {p : Addr} (h : NodeN w S t p) : Lie w p := by
  obtain ⟨b, o, rfl, _, hf, x, y, z, h0, _⟩ := h
  exact ⟨cells_of h0, hf⟩
set_option maxRecDepth 20000 in
set_option maxHeartbeats 4000000 in
theorem alike_any (pb po qb qo o n cp cq : Nat) (nm : List UInt8) (a a' : Option Addr) (w : World)
    (p0 : w.cell? ⟨pb, po, none⟩ = some (.int .u8 (o : Int))) (p1 : w.cell? ⟨pb, po + 1, none⟩ = some (.string (txt nm))) (p2 : w.cell? ⟨pb, po + 2, none⟩ = some (.slice a n cp))
    (q0 : w.cell? ⟨qb, qo, none⟩ = some (.int .u8 (o : Int))) (q1 : w.cell? ⟨qb, qo + 1, none⟩ = some (.string (txt nm))) (q2 : w.cell? ⟨qb, qo + 2, none⟩ = some (.slice a' n cq)) :
    Calls Try.prog 59 #[.agg #[.pointer (some ⟨pb, po, none⟩), .pointer (some ⟨qb, qo, none⟩)]] w fun e w' => e = .returned (.bool true) ∧ Fr nob w w' := by
  have A1 : Fr nob w (w.alloc (.cells #[.pointer (some ⟨pb, po, none⟩), .pointer (some ⟨qb, qo, none⟩)] 109)) := (Fr.refl nob w).alloc _
  have k0 : (w.alloc (.cells #[.pointer (some ⟨pb, po, none⟩), .pointer (some ⟨qb, qo, none⟩)] 109)).cell? ⟨w.heap.size, 0, none⟩ = some (.pointer (some ⟨pb, po, none⟩)) := World.cell?_alloc_at _ _ _ _ rfl
  have k1 : (w.alloc (.cells #[.pointer (some ⟨pb, po, none⟩), .pointer (some ⟨qb, qo, none⟩)] 109)).cell? ⟨w.heap.size, 1, none⟩ = some (.pointer (some ⟨qb, qo, none⟩)) := World.cell?_alloc_at _ _ _ _ rfl
  have r0 := A1.cell p0 (fun h => h)
  have r1 := A1.cell p1 (fun h => h)
  have r2 := A1.cell p2 (fun h => h)
  have s0 := A1.cell q0 (fun h => h)
  have s1 := A1.cell q1 (fun h => h)
  have s2 := A1.cell q2 (fun h => h)
  have HF := Lib.hid A1
  clear p0 p1 p2 q0 q1 q2 A1
  have e1 : ((o : Int) == (o : Int)) = true := by simp
  have e2 : ((txt nm).toList == (txt nm).toList) = true := by simp
  have e3 : ((n : Int) == (n : Int)) = true := by simp
  go_enter Try.func59, Try.ntmps59
  go_upto_region 1 with fail
  generalize w.alloc (.cells #[.pointer (some ⟨pb, po, none⟩), .pointer (some ⟨qb, qo, none⟩)] 109) = w1 at *
  go_quiet (fail)
  go_wp2_with fail
  go_ret
  exact ⟨rfl, HF.out.trans ((Fr.refl nob w1).drewN _) (fun _ _ h => h)⟩
end Go.Proofs.Ytbjdaibkcchllaa
namespace Go.Proofs.Ytbjdaibkcchllaa
open Go.RowKit
open Go.ChangeMaps Go.MapKept

/-- an entry: a tree, and two places where it stands -/
abbrev En := Tr × Addr × Addr
def stC (st : List En) : List Value := st.flatMap fun e => [.pointer (some e.2.1), .pointer (some e.2.2)]
def msS (st : List En) : Nat := (st.map fun e => (preP e.1).length).sum
theorem stC_snoc (st : List En) (e : En) : stC (st ++ [e]) = stC st ++ [.pointer (some e.2.1), .pointer (some e.2.2)] := by simp [stC]
theorem stC_len (st : List En) : (stC st).length = st.length * 2 := by
  induction st with
  | nil => rfl
  | cons e st ih => simp only [stC, List.flatMap_cons, List.length_append, List.length_cons, List.length_nil] at ih ⊢; omega
theorem msS_snoc (st : List En) (e : En) : msS (st ++ [e]) = msS st + (preP e.1).length := by simp [msS]
theorem len_ms (st : List En) : st.length ≤ msS st := by
  induction st with
  | nil => exact Nat.le_refl _
  | cons e st ih =>
    have h := preP_pos e.1
    simp only [msS, List.map_cons, List.sum_cons, List.length_cons] at ih ⊢
    omega
structure SmSt (N : Nat) (w0 wr : World) (kv : Value) (st : List En) : Prop where
  fr : Fr nob w0 wr
  low : w0.heap.size ≤ N
  map : BMap N wr N
  own : wr.ownsRow (N + 1) 109 2 kv st.length (stC st)
  node : ∀ e ∈ st, NodeN wr (fun b => b < N) e.1 e.2.1 ∧ NodeN wr (fun b => b < N) e.1 e.2.2
theorem SmSt.big {N : Nat} {w0 wr : World} {kv : Value} {st : List En} (h : SmSt N w0 wr kv st) : N + 1 ≤ wr.heap.size := h.map.lt
theorem SmSt.keep {N : Nat} {w0 wr w' : World} {kv : Value} {st : List En} {S' : Nat → Prop} (h : SmSt N w0 wr kv st) (F : Fr S' wr w') (hS : ∀ b, b ≤ N → ¬ S' b) (hR : ∀ g, kv.ownBlock = some g → ¬ S' g) : SmSt N w0 w' kv st :=
  ⟨h.fr.trans' (T := nob) F (fun _ _ h => h) (fun j hj e => absurd e (hS j (by have := h.low; omega))), h.low, h.map.kept F (hS N (Nat.le_refl _)) (fun b hb => hS b (by omega)), F.row h.own hR, fun e he => ⟨(h.node e he).1.kept F (fun b hb => hS b (Nat.le_of_lt hb)), (h.node e he).2.kept F (fun b hb => hS b (Nat.le_of_lt hb))⟩⟩
theorem SmSt.call {N : Nat} {w0 wr w' : World} {kv : Value} {st : List En} (h : SmSt N w0 wr kv st) (F : Fr nob wr w') : SmSt N w0 w' kv st := h.keep F (fun _ _ h => h) (fun _ _ h => h)
theorem SmSt.upd {N : Nat} {w0 wr w' : World} {kv : Value} {st : List En} (h : SmSt N w0 wr kv st) (F : Fr (fun k => k = N) wr w') (hB : BMap N w' N) : SmSt N w0 w' kv st :=
  ⟨h.fr.trans' (T := nob) F (fun _ _ h => h) (fun j hj e => by have e2 : j = N := e; have := h.low; omega), h.low, hB, F.row h.own (fun g hg e => by have e2 : g = N := e; have := (h.own.lt g hg).1; omega), fun e he => ⟨(h.node e he).1.kept F (fun b hb e => by have e2 : b = N := e; omega), (h.node e he).2.kept F (fun b hb e => by have e2 : b = N := e; omega)⟩⟩
theorem SmSt.push {N : Nat} {w0 wr w' : World} {kv kv' : Value} {st : List En} {e : En} (h : SmSt N w0 wr kv st) (F : Fr (fun j => kv.ownBlock = some j) wr w') (ho : w'.ownsRow (N + 1) 109 2 kv' (st.length + 1) (stC st ++ [.pointer (some e.2.1), .pointer (some e.2.2)]))
    (h1 : NodeN wr (fun b => b < N) e.1 e.2.1) (h2 : NodeN wr (fun b => b < N) e.1 e.2.2) : SmSt N w0 w' kv' (st ++ [e]) := by
  have hlo : ∀ b, b ≤ N → ¬ kv.ownBlock = some b := fun b hb e => by have := (h.own.lt b e).1; omega
  refine ⟨h.fr.trans' (T := nob) F (fun _ _ h => h) (fun j hj e => absurd e (hlo j (by have := h.low; omega))), h.low, h.map.kept F (hlo N (Nat.le_refl _)) (fun b hb => hlo b (by omega)), ?_, fun x hx => ?_⟩
  · rw [stC_snoc, List.length_append]; exact ho
  · rcases List.mem_append.1 hx with hx | hx
    · exact ⟨(h.node x hx).1.kept F (fun b hb => hlo b (Nat.le_of_lt hb)), (h.node x hx).2.kept F (fun b hb => hlo b (Nat.le_of_lt hb))⟩
    · obtain rfl := List.mem_singleton.1 hx
      exact ⟨h1.kept F (fun b hb => hlo b (Nat.le_of_lt hb)), h2.kept F (fun b hb => hlo b (Nat.le_of_lt hb))⟩
theorem pop_own {w : World} {base : Nat} {e : TypeId} {size g cap n : Nat} {xs last : List Value} (hx : xs.length = n * size)
    (h : w.ownsRow base e size (.slice (some ⟨g, 0, none⟩) (n + 1) cap) (n + 1) (xs ++ last)) : w.ownsRow base e size (.slice (some ⟨g, 0, none⟩) n cap) n xs := by
  obtain ⟨_, h2⟩ := h
  rcases h2 with ⟨h0, _⟩ | ⟨g', cap', cur, hv, hg, hh, hn, hcap, hsz, htake⟩
  · cases h0
  · cases hv
    refine ⟨hx, .inr ⟨g, cap, cur, rfl, hg, hh, by omega, hcap, hsz, ?_⟩⟩
    have h3 : (cur.toList.take ((n + 1) * size)).take (n * size) = (xs ++ last).take (n * size) := by rw [htake]
    rw [List.take_take, Nat.min_eq_left (Nat.mul_le_mul_right _ (by omega))] at h3
    rw [h3, ← hx, List.take_left]
theorem SmSt.pop {N : Nat} {w0 wr : World} {g cap : Nat} {st : List En} {e : En} (h : SmSt N w0 wr (.slice (some ⟨g, 0, none⟩) (st.length + 1) cap) (st ++ [e])) : SmSt N w0 wr (.slice (some ⟨g, 0, none⟩) st.length cap) st := by
  have ho := h.own
  rw [stC_snoc, List.length_append] at ho
  exact ⟨h.fr, h.low, h.map, pop_own (stC_len st) ho, fun x hx => h.node x (List.mem_append_left _ hx)⟩
theorem SmSt.last {N : Nat} {w0 wr : World} {g n cap : Nat} {st : List En} {e : En} (h : SmSt N w0 wr (.slice (some ⟨g, 0, none⟩) n cap) (st ++ [e])) : wr.cell? ⟨g, st.length * 2, none⟩ = some (.pointer (some e.2.1)) ∧ wr.cell? ⟨g, st.length * 2 + 1, none⟩ = some (.pointer (some e.2.2)) := by
  have ho := h.own
  obtain rfl : n = (st ++ [e]).length := by
    rcases ho.2 with ⟨h0, _⟩ | ⟨g', cap', cur, hv, _⟩
    · cases h0
    · simp at hv; simp; omega
  have hc := own_cells ho
  rw [stC_snoc] at hc
  exact ⟨hc _ _ (by rw [← stC_len, List.getElem?_append_right (Nat.le_refl _)]; simp), hc _ _ (by rw [← stC_len, List.getElem?_append_right (by omega)]; simp)⟩
/-- a tree's kids where it stands -/
theorem NodeN.form {w : World} {S : Nat → Prop} {op : Nat} {nm : List UInt8} {kids : List Tr} {p : Addr} (h : NodeN w S (.mk op nm kids) p) :
    ∃ b o a cap, p = ⟨b, o, none⟩ ∧ S b ∧ w.cell? ⟨b, o, none⟩ = some (.int .u8 (op : Int)) ∧ w.cell? ⟨b, o + 1, none⟩ = some (.string (txt nm)) ∧ w.cell? ⟨b, o + 2, none⟩ = some (.slice a kids.length cap) ∧ (kids ≠ [] → ∃ kb ob, a = some ⟨kb, ob, none⟩ ∧ ∀ k t, kids[k]? = some t → NodeN w S t ⟨kb, ob + k * 3, none⟩) := by
  obtain ⟨b, o, rfl, hb, hf, x, y, z, h0, h1, h2, hT⟩ := h
  rw [TrN] at hT
  obtain ⟨a, cap, hv, hK⟩ := hT
  obtain ⟨rfl, rfl, rfl⟩ : x = .int .u8 (op : Int) ∧ y = .string (txt nm) ∧ z = .slice a kids.length cap := by simpa using hv
  refine ⟨b, o, a, cap, rfl, hb, h0, h1, h2, fun hne => ?_⟩
  obtain ⟨kb, ob, rfl, hkb, hKN⟩ := hK hne
  refine ⟨kb, ob, rfl, fun k t hk => ?_⟩
  obtain ⟨hfz, x, y, z, g0, g1, g2, hT⟩ := hKN.at hk
  rw [show 0 + k = k by omega] at hfz g0 g1 g2
  exact ⟨kb, ob + k * 3, rfl, hkb, hfz, x, y, z, g0, g1, g2, hT⟩
theorem NodeN.root {w w' : World} {S : Nat → Prop} {N : Nat} {op : Nat} {nm : List UInt8} {a : Option Addr} {n cap b : Nat} {t : Tr} (hT : TrN w S t (.agg #[.int .u8 (op : Int), .string (txt nm), .slice a n cap])) (F : Fr nob w w') (hS : ∀ b, S b → b < w.heap.size) (hN : w.heap.size ≤ N) (hb : b < N) (hB : Box3 w' b (.int .u8 (op : Int)) (.string (txt nm)) (.slice a n cap)) : NodeN w' (fun b => b < N) t ⟨b, 0, none⟩ :=
  ⟨b, 0, rfl, hb, hB.fr 0, _, _, _, hB.c0, hB.c1, hB.c2, hT.kept F (fun b h _ => ⟨fun h => h, Nat.lt_of_lt_of_le (hS b h) hN⟩)⟩
end Go.Proofs.Ytbjdaibkcchllaa
namespace Go.Proofs.Ytbjdaibkcchllaa
open Go.RowKit
open Go.ChangeMaps Go.MapKept

theorem pairInfo : (Try.prog.info? 109).map (fun i => (i.size, i.bytes, i.zero.map fun z => z.cells.size)) = some (2, 16, some 2) := by kernel_rfl
theorem pair_parts : ∃ i z, Try.prog.info? 109 = some i ∧ i.zero = some z ∧ i.size = 2 ∧ i.bytes = 16 ∧ z.cells.size = 2 := by
  obtain ⟨i, hi, he⟩ := Option.map_eq_some_iff.1 pairInfo
  simp only [Prod.mk.injEq] at he
  obtain ⟨z, hz, hz2⟩ := Option.map_eq_some_iff.1 he.2.2
  exact ⟨i, z, hi, hz, he.1, he.2.1, hz2⟩
theorem pairs_new (w : World) (a b : Value) (t : TypeId) : ∀ j u, [a, b][j]? = some u → (w.alloc (.cells #[a, b] t)).cell? ((⟨w.heap.size, 0, none⟩ : Addr).add j) = some u := by
  intro j u hj
  match j, hj with
  | 0, hj => simp at hj; subst hj; simp [Addr.add]
  | 1, hj => simp at hj; subst hj; simp [Addr.add]
  | j + 2, hj => simp at hj
set_option maxRecDepth 20000 in
set_option maxHeartbeats 4000000 in
theorem alike_trees (op : Nat) (nm : List UInt8) (kids : List Tr) (v v' : Value) (S S' : Nat → Prop) (w : World) (hS : ∀ b, S b → b < w.heap.size) (hS' : ∀ b, S' b → b < w.heap.size) (hln : (preP (.mk op nm kids)).length ≤ 1000000) (hT : TrN w S (.mk op nm kids) v) (hT' : TrN w S' (.mk op nm kids) v') :
    Calls Try.prog 27 #[v, v'] w fun e w' => e = .returned (.bool true) ∧ Fr nob w w' := by
  obtain ⟨a, cp, rfl, _⟩ : ∃ a cp, v = .agg #[.int .u8 (op : Int), .string (txt nm), .slice a kids.length cp] ∧ True := by
    have h := hT; rw [TrN] at h; obtain ⟨a, cp, h, _⟩ := h; exact ⟨a, cp, h, trivial⟩
  obtain ⟨a', cp', rfl, _⟩ : ∃ a cp, v' = .agg #[.int .u8 (op : Int), .string (txt nm), .slice a kids.length cp] ∧ True := by
    have h := hT'; rw [TrN] at h; obtain ⟨a, cp, h, _⟩ := h; exact ⟨a, cp, h, trivial⟩
  obtain ⟨t, ht⟩ : ∃ t, Tr.mk op nm kids = t := ⟨_, rfl⟩
  rw [ht] at hT hT' hln
  generalize kids.length = nk at *
  clear ht
  have hbx := Box3.new w (.int .u8 (op : Int)) (.string (txt nm)) (.slice a nk cp) 25
  obtain ⟨W1, hW1⟩ : ∃ W1, ((w.alloc (.cells #[.int .u8 (op : Int), .string (txt nm), .slice a nk cp] 25)).alloc (.cells #[.int .u8 (op : Int), .string (txt nm), .slice a' nk cp'] 25)) = W1 := ⟨_, rfl⟩
  have A1 : Fr nob w W1 := by rw [← hW1]; exact ((Fr.refl nob w).alloc _).alloc _
  have hba : Box3 W1 w.heap.size (.int .u8 (op : Int)) (.string (txt nm)) (.slice a nk cp) := by
    rw [← hW1]; exact (Box3.new w _ _ _ _).kept ((Fr.refl nob _).alloc _) (fun h => h)
  have hbb : Box3 W1 (w.heap.size + 1) (.int .u8 (op : Int)) (.string (txt nm)) (.slice a' nk cp') := by
    have h := Box3.new (w.alloc (.cells #[.int .u8 (op : Int), .string (txt nm), .slice a nk cp] 25)) (.int .u8 (op : Int)) (.string (txt nm)) (.slice a' nk cp') 25
    rw [hW1, World.size_alloc] at h; exact h
  have hz1 : W1.heap.size = w.heap.size + 2 := by rw [← hW1]; simp
  have hn1 := NodeN.root (N := w.heap.size + 2) hT A1 hS (by omega) (by omega) hba
  have hn2 := NodeN.root (N := w.heap.size + 2) hT' A1 hS' (by omega) (by omega) hbb
  obtain ⟨W2, hW2⟩ : ∃ W2, W1.alloc (.map #[] 0) = W2 := ⟨_, rfl⟩
  have A2 : Fr nob W1 W2 := by rw [← hW2]; exact (Fr.refl nob W1).alloc _
  have hm2 : BMap (w.heap.size + 2) W2 (w.heap.size + 2) := by
    have h := BMap.made (w.heap.size + 2) W1; rw [hz1, hW2] at h; exact h
  have hz2 : W2.heap.size = w.heap.size + 3 := by rw [← hW2]; simp [hz1]
  obtain ⟨W3, hW3⟩ : ∃ W3, W2.alloc (.cells #[.pointer (some ⟨w.heap.size, 0, none⟩), .pointer (some ⟨w.heap.size + 1, 0, none⟩)] 109) = W3 := ⟨_, rfl⟩
  have A3 : Fr nob W2 W3 := by rw [← hW3]; exact (Fr.refl nob W2).alloc _
  have ho3 : W3.ownsRow (w.heap.size + 3) 109 2 (.slice (some ⟨w.heap.size + 3, 0, none⟩) 1 1) 1 [.pointer (some ⟨w.heap.size, 0, none⟩), .pointer (some ⟨w.heap.size + 1, 0, none⟩)] := by
    have h := World.ownsRow_lit (base := w.heap.size + 3) (e := 109) (size := 2) W2 #[.pointer (some ⟨w.heap.size, 0, none⟩), .pointer (some ⟨w.heap.size + 1, 0, none⟩)] 1 (by omega) (by unfold maxLen; omega) rfl
    rw [hz2, hW3] at h
    exact h
  have H3 : SmSt (w.heap.size + 2) w W3 (.slice (some ⟨w.heap.size + 3, 0, none⟩) 1 1) [(t, ⟨w.heap.size, 0, none⟩, ⟨w.heap.size + 1, 0, none⟩)] :=
    ⟨A1.trans (A2.trans A3 (fun _ _ h => h)) (fun _ _ h => h), by omega, hm2.kept A3 (fun h => h) (fun _ _ h => h), ho3, fun e he => by
      obtain rfl := List.mem_singleton.1 he
      exact ⟨(hn1.kept A2 (fun _ _ h => h)).kept A3 (fun _ _ h => h), (hn2.kept A2 (fun _ _ h => h)).kept A3 (fun _ _ h => h)⟩⟩
  have hmm := @run_makeMap Try.prog
  have HH3 := Lib.hid H3
  have HLN := Lib.hid hln
  have hms : msS [(t, (⟨w.heap.size, 0, none⟩ : Addr), (⟨w.heap.size + 1, 0, none⟩ : Addr))] = (preP t).length := by simp [msS]
  have HMS := Lib.hid hms
  have HZ1 := Lib.hid hz1
  have HZ2 := Lib.hid hz2
  clear hbx A1 hba hbb hn1 hn2 A2 hm2 A3 ho3 H3 hln hms hT hT' hS hS' hz1 hz2
  go_enter Try.func27, Try.ntmps27
  go_upto_region 1 with fail
  (try rw [hW1])
  clear hW1
  go_upto_region 2 with fail
  (try rw [HZ1.out])
  (try rw [hW2])
  clear hW2 hmm HZ1
  go_upto_region 3 with fail
  (try rw [HZ2.out])
  (try rw [hW3])
  clear hW3 HZ2
  go_wp2_with fail
  go_loopg [6] (preP t).length (fun m kv wr => ∃ st : List En, msS st = m ∧ m ≤ 1000000 ∧ (∃ la lc, kv = .slice la st.length lc) ∧ SmSt (w.heap.size + 2) w wr kv st)
  case atStart => exact ⟨_, HMS.out, HLN.out, ⟨_, _, rfl⟩, HH3.out⟩
  case round =>
    clear HH3 HMS HLN
    obtain ⟨st, rfl, hm6, ⟨la, lc, rfl⟩, hSt⟩ := hrel
    have hlm := len_ms st
    rcases List.eq_nil_or_concat st with rfl | ⟨st, e, rfl⟩
    · have hF := hSt.fr
      clear hSt hlm hm6
      simp only [List.length_nil] at *
      go_wp2_with fail
      go_ret
      exact ⟨rfl, hF⟩
    · obtain ⟨t1, P, Q⟩ := e
      obtain ⟨op1, nm1, kids1⟩ := t1
      try rw [List.concat_eq_append] at *
      have hl1 : (st ++ [((.mk op1 nm1 kids1 : Tr), P, Q)]).length = st.length + 1 := by simp
      rw [hl1] at hlm hSt ⊢
      have ho := hSt.own
      rw [hl1] at ho
      clear hl1
      have hms := msS_snoc st ((.mk op1 nm1 kids1 : Tr), P, Q)
      rw [preP, List.length_cons] at hms
      rw [hms] at hlm hm6
      obtain ⟨g, cp1, hv, hg⟩ := row_form ho
      obtain ⟨rfl, rfl⟩ : la = some ⟨g, 0, none⟩ ∧ lc = cp1 := by simpa using hv
      have ⟨c0, c1⟩ := hSt.last
      have ⟨n1, n2⟩ := hSt.node _ (List.mem_append_right _ (List.mem_singleton.2 rfl))
      dsimp only at n1 n2
      obtain ⟨pb, po, rfl, hpb⟩ : ∃ b o, P = ⟨b, o, none⟩ ∧ b < w.heap.size + 2 := by
        have h := n1
        obtain ⟨b, o, h, hb, _⟩ := h
        exact ⟨b, o, h, hb⟩
      obtain ⟨qb, qo, rfl, hqb⟩ : ∃ b o, Q = ⟨b, o, none⟩ ∧ b < w.heap.size + 2 := by
        have h := n2
        obtain ⟨b, o, h, hb, _⟩ := h
        exact ⟨b, o, h, hb⟩
      have HSt := Lib.hid hSt.pop
      have HN1 := Lib.hid n1
      have HN2 := Lib.hid n2
      have HM6 := Lib.hid hm6
      have HMS := Lib.hid hms
      have hn6 : st.length ≤ 1000000 := by omega
      have hcap : st.length + 1 ≤ lc := by
        rcases ho.2 with ⟨h0, _⟩ | ⟨g', cap', cur, hv', _, _, h5, _⟩
        · cases h0
        · cases hv'; exact h5
      have hgz := (ho.lt g rfl).2
      clear ho hSt n1 n2 hm6 hms hlm hv hg
      obtain ⟨n, hn⟩ : ∃ n, st.length = n := ⟨_, rfl⟩
      rw [hn] at c0 c1 ⊢
      rw [hn] at HSt hn6 hcap
      have q4 : (0 : Int) ≤ (n : Int) := Int.natCast_nonneg _
      have HNN := Lib.hid hn
      clear hn
      dsimp only at c0 c1
      go_upto_region 5 with fail
      have A2 : Fr nob wr (wr.alloc (.cells #[.pointer (some ⟨pb, po, none⟩), .pointer (some ⟨qb, qo, none⟩)] 109)) := (Fr.refl nob wr).alloc _
      have k0 : (wr.alloc (.cells #[.pointer (some ⟨pb, po, none⟩), .pointer (some ⟨qb, qo, none⟩)] 109)).cell? ⟨wr.heap.size, 0, none⟩ = some (.pointer (some ⟨pb, po, none⟩)) := World.cell?_alloc_at _ _ _ _ rfl
      have k1 : (wr.alloc (.cells #[.pointer (some ⟨pb, po, none⟩), .pointer (some ⟨qb, qo, none⟩)] 109)).cell? ⟨wr.heap.size, 1, none⟩ = some (.pointer (some ⟨qb, qo, none⟩)) := World.cell?_alloc_at _ _ _ _ rfl
      have hz2 : (wr.alloc (.cells #[.pointer (some ⟨pb, po, none⟩), .pointer (some ⟨qb, qo, none⟩)] 109)).heap.size = wr.heap.size + 1 := by simp
      have hS2 := HSt.out.call A2
      have hB := hS2.map
      have n1 := HN1.out.kept A2 (fun _ _ h => h)
      have n2 := HN2.out.kept A2 (fun _ _ h => h)
      have hl1 := n1.lie
      have hl2 := n2.lie
      have HS2 := Lib.hid hS2
      have HN21 := Lib.hid n1
      have HN22 := Lib.hid n2
      have hNb : w.heap.size + 3 ≤ wr.heap.size := HSt.out.big
      have HZ := Lib.hid (And.intro hz2 (And.intro hgz hNb))
      clear c0 c1 A2 HSt HN1 HN2 hS2 n1 n2 hz2 hgz hNb
      generalize wr.alloc (.cells #[.pointer (some ⟨pb, po, none⟩), .pointer (some ⟨qb, qo, none⟩)] 109) = w2 at *
      generalize wr.heap.size = b7 at *
      clear wr
      go_upto_region 6 with fail
      clear hcap
      go_upto_region 8 with (first
        | (refine wpList_ask (p := (⟨pb, po, none⟩, ⟨qb, qo, none⟩)) rfl _ _ rfl rfl rfl hB hl1 hl2 ?_
           intro c nd
           have D : Fr nob w2 (w2.drewN nd) := (Fr.refl nob w2).drewN nd
           have k30 := D.cell k0 (fun h => h)
           have k31 := D.cell k1 (fun h => h)
           have hB3 := hB.kept D (fun h => h) (fun _ _ h => h)
           have hl31 := hl1.kept D (fun h => h)
           have hl32 := hl2.kept D (fun h => h)
           have HS3 := Lib.hid (HS2.out.call D)
           have HN31 := Lib.hid (HN21.out.kept D (fun _ _ h => h))
           have HN32 := Lib.hid (HN22.out.kept D (fun _ _ h => h))
           have hsz3 := D.size
           clear D HS2 HN21 HN22 hB hl1 hl2 k0 k1
           generalize w2.drewN nd = w3 at *
           cases c)
        | (at_mapUpdate
           refine wpList_tell (p := (⟨pb, po, none⟩, ⟨qb, qo, none⟩)) rfl _ _ _ rfl rfl rfl rfl hB3 (Nat.le_refl _) hl31 hl32 hpb hqb ?_
           intro w4 hB4 F4
           have hlt : w.heap.size + 2 < b7 := HZ.out.2.2
           have k40 := F4.cell k30 (show ¬ b7 = w.heap.size + 2 by omega)
           have k41 := F4.cell k31 (show ¬ b7 = w.heap.size + 2 by omega)
           have HS4 := Lib.hid (HS3.out.upd F4 hB4)
           have HN41 := Lib.hid (HN31.out.kept F4 (fun b hb e => by have e2 : b = w.heap.size + 2 := e; omega))
           have HN42 := Lib.hid (HN32.out.kept F4 (fun b hb e => by have e2 : b = w.heap.size + 2 := e; omega))
           have hsz4 := F4.size
           clear F4 hB3 hl31 hl32 hB4 HS3 HN31 HN32 k30 k31 hlt))
      · obtain ⟨pb', po', a1, cp1, hP, _, p0, p1, p2, _⟩ := HN41.out.form
        cases hP
        obtain ⟨qb', qo', a2, cq1, hQ, _, q0, q1, q2, _⟩ := HN42.out.form
        cases hQ
        have hal := alike_any pb po qb qo op1 kids1.length cp1 cq1 nm1 a1 a2 w4 p0 p1 p2 q0 q1 q2
        obtain ⟨nk1, hnk1⟩ : ∃ m, kids1.length = m := ⟨_, rfl⟩
        have hk6 : nk1 ≤ 1000000 := by
          have h1 := kids_le (kids := kids1)
          have h2 := HM6.out
          omega
        rw [hnk1] at p2 q2
        have HNK := Lib.hid hnk1
        clear hnk1 q0 q1 p0 p1
        go_wp2_with fail
        refine hal.mono ?_
        rintro e w5 ⟨rfl, F5⟩
        have k50 := F5.cell k40 (fun h => h)
        have k51 := F5.cell k41 (fun h => h)
        have p52 := F5.cell p2 (fun h => h)
        have HS5 := Lib.hid (HS4.out.call F5)
        have HN51 := Lib.hid (HN41.out.kept F5 (fun _ _ h => h))
        have HN52 := Lib.hid (HN42.out.kept F5 (fun _ _ h => h))
        have hz5 := F5.size
        have hb5 : b7 < w5.heap.size := by have := HZ.out.1; omega
        have HB5 := Lib.hid hb5
        clear F5 hal p2 q2 k40 k41 HS4 HN41 HN42 hsz3 hsz4 hz5 hb5
        go_wp2_with fail
        have hgb : g ≠ b7 := by have := HZ.out.2.1; omega
        go_loopg [6, 40] nk1 (fun m kv iv wr2 => ∃ (k : Nat) (st2 : List En), k + m = nk1 ∧ iv = .int .i64 (k : Int) ∧ msS st2 = msS st + (preL (kids1.take k)).length ∧ (∃ la lc, kv = .slice la st2.length lc) ∧ kv.ownBlock ≠ some b7 ∧ b7 < wr2.heap.size ∧ SmSt (w.heap.size + 2) w wr2 kv st2 ∧ wr2.cell? ⟨b7, 0, none⟩ = some (.pointer (some ⟨pb, po, none⟩)) ∧ wr2.cell? ⟨b7, 1, none⟩ = some (.pointer (some ⟨qb, qo, none⟩)) ∧ NodeN wr2 (fun b => b < w.heap.size + 2) (.mk op1 nm1 kids1) ⟨pb, po, none⟩ ∧ NodeN wr2 (fun b => b < w.heap.size + 2) (.mk op1 nm1 kids1) ⟨qb, qo, none⟩)
        case atStart => exact ⟨0, st, by omega, rfl, by rw [List.take_zero]; rfl, ⟨_, _, by rw [HNN.out]⟩, fun h => hgb (Option.some.inj h), HB5.out, HS5.out, k50, k51, HN51.out, HN52.out⟩
        case round =>
          clear k50 k51 p52 HB5 HS5 HN51 HN52 hgb
          obtain ⟨k, st2, hkm, rfl, hm2, ⟨la, lc2, rfl⟩, hob, hb7, hS2, k60, k61, hN1, hN2⟩ := hrel
          have q5 : (0 : Int) ≤ (k : Int) := Int.natCast_nonneg _
          cases gk with
          | zero =>
            obtain rfl : k = nk1 := by omega
            rw [List.take_of_length_le (by rw [HNK.out]; exact Nat.le_refl _)] at hm2
            clear hob hb7 k60 k61 hN1 hN2
            have HS6 := Lib.hid hS2
            have HM2 := Lib.hid hm2
            clear hS2 hm2
            go_wp2_with fail
            go_roundg (msS st2)
            case measure => rw [HMS.out, HM2.out]; omega
            case rel => exact ⟨st2, rfl, by have := HM6.out; have := HM2.out; omega, ⟨_, _, rfl⟩, HS6.out⟩
          | succ m =>
            have q3 : (k : Int) < (nk1 : Int) := by omega
            have hk : k < kids1.length := by rw [HNK.out]; omega
            have hkt : kids1[k]? = some kids1[k] := List.getElem?_eq_getElem hk
            generalize kids1[k] = t2 at hkt
            have htake := preL_take hkt
            have hne : kids1 ≠ [] := by intro e; rw [e] at hk; simp at hk
            have hpl : (preL (kids1.take k)).length ≤ (preL kids1).length := by
              have h := congrArg List.length (preL_append (ts := kids1.take k) (us := kids1.drop k))
              rw [List.take_append_drop, List.length_append] at h
              omega
            have hl2 := len_ms st2
            obtain ⟨pb', po', a3, cp3, hP, _, p0, p1, p2, hK1⟩ := hN1.form
            cases hP
            obtain ⟨qb', qo', a4, cq4, hQ, _, q0, q1, q2, hK2⟩ := hN2.form
            cases hQ
            obtain ⟨kb, ob, rfl, hj1⟩ := hK1 hne
            obtain ⟨kb2, ob2, rfl, hj2⟩ := hK2 hne
            have nk2 := hj1 k t2 hkt
            have nk3 := hj2 k t2 hkt
            rw [HNK.out] at p2 q2
            have D : Fr nob wr wr.drew := (Fr.refl nob wr).drew
            have hsd := D.size
            have HKM := Lib.hid hkm
            have HM2 := Lib.hid hm2
            have HTK := Lib.hid htake
            have HSd := Lib.hid (hS2.call D)
            have HN1d := Lib.hid (hN1.kept D (fun _ _ h => h))
            have HN2d := Lib.hid (hN2.kept D (fun _ _ h => h))
            have HK1d := Lib.hid (nk2.kept D (fun _ _ h => h))
            have HK2d := Lib.hid (nk3.kept D (fun _ _ h => h))
            replace p2 := D.cell p2 (fun h => h)
            replace q2 := D.cell q2 (fun h => h)
            replace k60 := D.cell k60 (fun h => h)
            replace k61 := D.cell k61 (fun h => h)
            have hln6 : st2.length ≤ 1000000 := by have := HM6.out; omega
            have HOB := Lib.hid hob
            have hb7d : b7 < wr.drew.heap.size := by omega
            have HB7 := Lib.hid hb7d
            obtain ⟨i0, z0, hi0, hi1, hi2, hi3, hi4⟩ := pair_parts
            clear hkm hm2 hob hb7 hS2 hN1 hN2 hk hkt htake hne hpl hl2 p0 p1 q0 q1 hK1 hK2 hj1 hj2 nk2 nk3 D hsd hb7d
            go_upto_region 13 with fail
            have A3 : Fr nob wr.drew (wr.drew.alloc (.cells #[.pointer (some ⟨kb, ob + k * 3, none⟩), .pointer (some ⟨kb2, ob2 + k * 3, none⟩)] 109)) := (Fr.refl nob wr.drew).alloc _
            have HSW := Lib.hid (HSd.out.call A3)
            have hz3 : (wr.drew.alloc (.cells #[.pointer (some ⟨kb, ob + k * 3, none⟩), .pointer (some ⟨kb2, ob2 + k * 3, none⟩)] 109)).heap.size = wr.drew.heap.size + 1 := by simp
            have HZ3 := Lib.hid hz3
            have hc4 : st2.length + 1 ≤ maxLen := by unfold maxLen; omega
            have hc5 : (st2.length + 1) * 16 ≤ 140737488355328 := by omega
            have HC45 := Lib.hid (And.intro hc4 hc5)
            have K1W := Lib.hid (HK1d.out.kept A3 (fun _ _ h => h))
            have K2W := Lib.hid (HK2d.out.kept A3 (fun _ _ h => h))
            have N1W := Lib.hid (HN1d.out.kept A3 (fun _ _ h => h))
            have N2W := Lib.hid (HN2d.out.kept A3 (fun _ _ h => h))
            have HK70 := Lib.hid (A3.cell k60 (fun h => h))
            have HK71 := Lib.hid (A3.cell k61 (fun h => h))
            clear A3 hz3 hc4 hc5
            go_region_law (first
              | (refine step_append_own (by rfl) _ _ _ (by rfl) 109 i0 z0 2 16 Try.underlying110 hi0 hi1 hi2 hi3 hi4 (by decide) (w.heap.size + 2 + 1) (.slice la st2.length lc2) st2.length (stC st2) (by rfl) HSW.out.own ⟨wr.drew.heap.size, 0, none⟩ 1 1 [.pointer (some ⟨kb, ob + k * 3, none⟩), .pointer (some ⟨kb2, ob2 + k * 3, none⟩)] (by rfl) rfl (pairs_new wr.drew _ _ _) (by intro u hu; simp at hu; rcases hu with rfl | rfl <;> rfl) HC45.out.1 HC45.out.2 HSW.out.big ?_
                 intro v6 w6 own6 gr6 hat
                 have F6 : Fr (fun j => (Value.slice la st2.length lc2).ownBlock = some j) (wr.drew.alloc (.cells #[.pointer (some ⟨kb, ob + k * 3, none⟩), .pointer (some ⟨kb2, ob2 + k * 3, none⟩)] 109)) w6 := (Fr.refl _ _).grown gr6 (fun j hj _ => hj)
                 have hlo : ∀ b, b < w.heap.size + 2 → ¬ (Value.slice la st2.length lc2).ownBlock = some b := fun b hb e => by have := (HSW.out.own.lt b e).1; omega
                 have k70 := F6.cell HK70.out (fun e => HOB.out e)
                 have k71 := F6.cell HK71.out (fun e => HOB.out e)
                 have HS7 := Lib.hid (HSW.out.push (e := (t2, ⟨kb, ob + k * 3, none⟩, ⟨kb2, ob2 + k * 3, none⟩)) F6 own6 K1W.out K2W.out)
                 have N71 := Lib.hid (N1W.out.kept F6 hlo)
                 have N72 := Lib.hid (N2W.out.kept F6 hlo)
                 obtain ⟨g6, cap6, rfl, _⟩ := row_form (n := st2.length) own6
                 have hz6 := F6.size
                 have hb6 : b7 < w6.heap.size := by have h1 := HB7.out; have h2 := HZ3.out; omega
                 have hob6 : (Value.slice (some ⟨g6, 0, none⟩) (st2.length + 1) cap6).ownBlock ≠ some b7 := by
                   intro e
                   rcases hat with h | h
                   · rw [h] at e; exact HOB.out e
                   · rw [h] at e
                     have e2 : (wr.alloc (.cells #[.pointer (some ⟨kb, ob + k * 3, none⟩), .pointer (some ⟨kb2, ob2 + k * 3, none⟩)] 109)).heap.size = b7 := Option.some.inj e
                     rw [World.size_alloc] at e2
                     have h1 : b7 < wr.heap.size := HB7.out
                     omega
                 have HB8 := Lib.hid hb6
                 have HOB8 := Lib.hid hob6
                 clear own6 gr6 hat F6 hlo hz6 hb6 hob6))
            all_goals (
              clear p2 q2 k60 k61 HSd HN1d HN2d HK1d HK2d HOB HB7 HSW HZ3 HC45 K1W K2W N1W N2W HK70 HK71
              go_wp2_with fail
              go_roundg m
              case measure => omega
              case rel => exact ⟨k + 1, _, by have := HKM.out; omega, by go_num, by rw [msS_snoc, HM2.out, HTK.out, List.length_append]; exact Nat.add_assoc _ _ _, ⟨_, _, by rw [List.length_append, List.length_singleton]⟩, HOB8.out, HB8.out, HS7.out, k70, k71, N71.out, N72.out⟩)
      · clear k30 k31 hB3 hl31 hl32 HN31 HN32
        go_roundg (msS st)
        case measure => rw [HMS.out]; omega
        case rel => exact ⟨st, rfl, by have := HM6.out; omega, ⟨_, _, by rw [HNN.out]⟩, HS3.out⟩
end Go.Proofs.Ytbjdaibkcchllaa
