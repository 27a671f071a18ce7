import Derived.Test.YtaojojjdfdlgpaaQaa
import Derived.Laws.EntriesVeiled
namespace Go.Proofs.Ytaojojjdfdlgpaa
open Go.RowKit

/-! Print: the whole -/
mutual
/-- lists that are not too long to be counted -/
def small : Tr → Bool
  | .mk _ _ kids => decide (kids.length ≤ 1000000) && smallL kids
def smallL : List Tr → Bool
  | [] => true
  | t :: ts => small t && smallL ts
end
theorem smallL_mem : ∀ {ts : List Tr} {t : Tr}, smallL ts = true → t ∈ ts → small t = true
  | a :: ts, t, h, hm => by
    rw [smallL, Bool.and_eq_true] at h
    rcases List.mem_cons.1 hm with rfl | hm
    · exact h.1
    · exact smallL_mem h.2 hm
mutual
theorem fitP_small : ∀ {t : Tr} {c l : Nat}, c ≤ 1000 → (fitP t c l).1 = true → small t = true ∧ c + 1 ≤ (fitP t c l).2
  | .mk op nm kids, c, l, hc, h => by
    rw [fitP] at h ⊢
    split at h
    · cases h
    · rename_i hn
      rw [if_neg hn]
      have h1 := fitL_small (c := c + 1) (l := l + 1) (ts := kids) (by omega) h
      have h2 := (fitL_le (ts := kids) (c := c + 1) (l := l + 1) (by omega)).2 h
      refine ⟨?_, by omega⟩
      rw [small, h1.1, Bool.and_true]
      simp; omega
theorem fitL_small : ∀ {ts : List Tr} {c l : Nat}, c ≤ 1000 → (fitL ts c l).1 = true → smallL ts = true ∧ c + ts.length ≤ (fitL ts c l).2
  | [], c, l, hc, h => by rw [fitL]; exact ⟨rfl, Nat.le_refl _⟩
  | t :: ts, c, l, hc, h => by
    rw [fitL] at h ⊢
    split at h
    · rename_i h2
      rw [if_pos h2]
      have a := fitP_small hc h2
      have b := fitL_small ((fitP_le (t := t) (l := l) hc).2 h2) h
      rw [smallL, a.1, b.1]
      exact ⟨rfl, by simp only [List.length_cons]; omega⟩
    · cases h
end
theorem valid_small {t : Tr} (h : validB t = true) : small t = true := (fitP_small (by omega) h).1
theorem paren_any (op : Nat) (nm : List UInt8) (kids : List Tr) (a : Option Addr) (cp : Nat) (S : Nat → Prop) (w : World) (acc : List UInt8) (level B tb wb : Nat) (hlv : levP op < level)
    (hbody : ∀ (w : World) (acc : List UInt8), acc.length + (sgnP op 0 ++ nm ++ prL op 0 kids).length ≤ 1000000000 → (kids ≠ [] → ∃ b ob, a = some ⟨b, ob, none⟩ ∧ S b ∧ KidsO w S kids b ob 0) → Lib.IsBuilder TB TU B tb (Lib.byteCells acc) w → w.heap[wb]? = some (.cells #[fvP tb wb] TW (0, 0)) → B ≤ w.heap.size → tb < w.heap.size →
      Calls Try.prog 79 #[.agg #[.int .u8 (op : Int), .string (txt nm), .slice a kids.length cp], .int .i64 0, .pointer (some ⟨tb, 0, none⟩), .pointer (some ⟨wb, 0, none⟩)] w fun e w' => e = .returned (.tuple #[]) ∧ Lib.IsBuilder TB TU B tb (Lib.byteCells (acc ++ (sgnP op 0 ++ nm ++ prL op 0 kids))) w' ∧ Below B w w' ∧ Lib.OthersKept TU (some tb) w w')
    (hlen : acc.length + ([40] ++ (sgnP op 0 ++ nm ++ prL op 0 kids) ++ [41]).length ≤ 1000000000)
    (hK : kids ≠ [] → ∃ b ob, a = some ⟨b, ob, none⟩ ∧ S b ∧ KidsO w S kids b ob 0) (hS : ∀ b, S b → b < B) (hI : Lib.IsBuilder TB TU B tb (Lib.byteCells acc) w) (hW : w.heap[wb]? = some (.cells #[fvP tb wb] TW (0, 0))) (hB : B ≤ w.heap.size) (hne : wb ≠ tb) (htb : tb < w.heap.size) :
    Calls Try.prog 79 #[.agg #[.int .u8 (op : Int), .string (txt nm), .slice a kids.length cp], .int .i64 (level : Int), .pointer (some ⟨tb, 0, none⟩), .pointer (some ⟨wb, 0, none⟩)] w fun e w' => e = .returned (.tuple #[]) ∧ Lib.IsBuilder TB TU B tb (Lib.byteCells (acc ++ ([40] ++ (sgnP op 0 ++ nm ++ prL op 0 kids) ++ [41]))) w' ∧ Below B w w' ∧ Lib.OthersKept TU (some tb) w w' := by
  have hbox := heap_alloc_new w (.cells #[.int .u8 (op : Int), .string (txt nm), .slice a kids.length cp] 24)
  have A : Fr nob w (w.alloc (.cells #[.int .u8 (op : Int), .string (txt nm), .slice a kids.length cp] 24)) := (Fr.refl nob w).alloc _
  have hI1 := isB_alloc hI (.cells #[.int .u8 (op : Int), .string (txt nm), .slice a kids.length cp] 24)
  have hwl : wb < w.heap.size := (Array.getElem?_eq_some_iff.1 hW).1
  have hW1 := (A.block wb hwl (fun h => h)).trans hW
  have hB1 : Below B w (w.alloc (.cells #[.int .u8 (op : Int), .string (txt nm), .slice a kids.length cp] 24)) := (Below.refl B w).alloc hB _
  have hO1 : Lib.OthersKept TU (some tb) w (w.alloc (.cells #[.int .u8 (op : Int), .string (txt nm), .slice a kids.length cp] 24)) := (Lib.OthersKept.refl _ _ w).alloc _
  have hll := levelOf_any op
  have g0 : (w.alloc (.cells #[.int .u8 (op : Int), .string (txt nm), .slice a kids.length cp] 24)).cell? ⟨w.heap.size, 0, none⟩ = some (.int .u8 (op : Int)) := by rw [Lib.cell_of_heap hbox]; rfl
  have q0 : decide ((levP op : Int) < (level : Int)) = true := by simp; omega
  have HK := Lib.hid hK
  have HS := Lib.hid hS
  have HIH := Lib.hid hbody
  have HBX := Lib.hid hbox
  have HI1 := Lib.hid hI1
  have HW1 := Lib.hid hW1
  have HLEN := Lib.hid hlen
  have hz1 : w.heap.size < (w.alloc (.cells #[.int .u8 (op : Int), .string (txt nm), .slice a kids.length cp] 24)).heap.size := by simp
  have HB1 := Lib.hid hB1
  have HO1 := Lib.hid hO1
  obtain ⟨OUT, hout⟩ : ∃ OUT, sgnP op 0 ++ nm ++ prL op 0 kids = OUT := ⟨_, rfl⟩
  have HOUT := Lib.hid hout
  obtain ⟨nk, hnk⟩ : ∃ nk, kids.length = nk := ⟨_, rfl⟩
  have HNK := Lib.hid hnk
  have hMt : w.heap.size ≠ tb := by omega
  clear hbox A hI1 hW1 hB1 hO1 hbody hK hS hI hW hlen hnk hout
  go_enter Try.func79, Try.ntmps79
  go_wp2_with fail
  refine (hll _).mono ?_
  rintro e w' ⟨rfl, rfl⟩
  go_wp2_with fail
  generalize w.alloc (.cells #[.int .u8 (op : Int), .string (txt nm), .slice a kids.length cp] 24) = w1 at *
  refine (writeString_any B tb _ _ w1 HI1.out (by rw [Lib.byteCells_length]; have := HLEN.out; rw [HOUT.out] at this; simp at this; show acc.length + 1 ≤ _; omega) (by omega)).mono ?_
  rintro e w2 ⟨rfl, hI2, hb2, ho2⟩
  have HBX2 := Lib.hid (ok_kept ho2 HBX.out hMt (by decide))
  have HW2 := Lib.hid (ok_kept ho2 HW1.out hne (by decide))
  have HI2 : Hid (Lib.IsBuilder TB TU B tb (Lib.byteCells (acc ++ [40])) w2) := Lib.hid (by rw [Lib.byteCells_append]; exact .inr hI2)
  have HB2 := Lib.hid (HB1.out.trans hb2)
  have HO2 := Lib.hid (HO1.out.trans ho2)
  have hz2 := hb2.size
  have FB : Fr (fun i => B ≤ i) w w2 := ⟨HB2.out.os, HB2.out.tape, HB2.out.output, HB2.out.size, fun i _ hn => HB2.out.block i (Nat.lt_of_not_ge hn)⟩
  have c0 : w2.cell? ⟨wb, 0, none⟩ = some (fvP tb wb) := by rw [Lib.cell_of_heap HW2.out]; rfl
  have b0 : w2.cell? ⟨w.heap.size, 0, none⟩ = some (.int .u8 (op : Int)) := by rw [Lib.cell_of_heap HBX2.out]; rfl
  have b1 : w2.cell? ⟨w.heap.size, 1, none⟩ = some (.string (txt nm)) := by rw [Lib.cell_of_heap HBX2.out]; rfl
  have b2 : w2.cell? ⟨w.heap.size, 2, none⟩ = some (.slice a kids.length cp) := by rw [Lib.cell_of_heap HBX2.out]; rfl
  have hC := HIH.out w2 (acc ++ [40]) (by have := HLEN.out; simp only [List.length_append, List.length_cons, List.length_nil] at this ⊢; omega)
    (fun hne => by
      obtain ⟨b, ob, rfl, hb, hKV⟩ := HK.out hne
      have hlt : b < w.heap.size := Nat.lt_of_lt_of_le (HS.out b hb) hB
      exact ⟨b, ob, rfl, hb, hKV.kept (T := S) FB (fun b h _ => ⟨Nat.not_le_of_lt (HS.out b h), h⟩) hb hlt⟩)
    HI2.out HW2.out (by omega) (by omega)
  clear hI2 hb2 ho2 FB g0 HI1 HW1 HBX HB1 HO1
  unfold fvP at c0
  go_wp2_with fail
  refine hC.mono ?_
  rintro e w3 ⟨rfl, hI3, hb3, ho3⟩
  have HB3 := Lib.hid (HB2.out.trans hb3)
  have HO3 := Lib.hid (HO2.out.trans ho3)
  have HI3 := Lib.hid hI3
  have hz3 := hb3.size
  clear hI3 hb3 ho3 hC c0 b0 b1 b2 HBX2 HW2 HI2 HB2 HO2
  go_wp2_with fail
  refine (writeString_any B tb _ _ w3 HI3.out (by rw [Lib.byteCells_length]; have := HLEN.out; simp only [List.length_append, List.length_cons, List.length_nil] at this ⊢; show _ + 1 ≤ _; omega) (by omega)).mono ?_
  rintro e w4 ⟨rfl, hI4, hb4, ho4⟩
  have HB4 := Lib.hid (HB3.out.trans hb4)
  have HO4 := Lib.hid (HO3.out.trans ho4)
  have HI4 := Lib.hid hI4
  clear hI4 hb4 ho4
  go_wp2_with fail
  refine bodyPost_ret (results_none rfl _ _ _) rfl ?_
  refine ⟨rfl, .inr ?_, HB4.out, HO4.out⟩
  have e : Lib.byteCells (acc ++ ([40] ++ (sgnP op 0 ++ nm ++ prL op 0 kids) ++ [41])) = Lib.byteCells (acc ++ [40] ++ (sgnP op 0 ++ nm ++ prL op 0 kids)) ++ Lib.byteCells [41] := by
    rw [← Lib.byteCells_append, ← List.append_assoc, ← List.append_assoc]
  exact e ▸ HI4.out
theorem prC_any : ∀ (d : Nat) (t : Tr), SizeOf.sizeOf t < d → small t = true → PrC t := by
  intro d
  induction d with
  | zero => intro t h; exact absurd h (Nat.not_lt_zero _)
  | succ d ih =>
    intro t hd hs v S w acc level B tb wb hlv hlen hT hS hI hW hB hne htb
    obtain ⟨op, nm, kids⟩ := t
    rw [TrO] at hT
    obtain ⟨a, cp, rfl, hK⟩ := hT
    rw [small, Bool.and_eq_true] at hs
    have hkl : kids.length ≤ 1000000 := by simpa using hs.1
    have hkids : ∀ t ∈ kids, PrC t := fun t ht => ih t (by have := List.sizeOf_lt_of_mem ht; simp at hd; omega) (smallL_mem hs.2 ht)
    rw [prP] at hlen ⊢
    by_cases hl : levP op < level
    · rw [if_pos hl] at hlen ⊢
      refine paren_any op nm kids a cp S w acc level B tb wb hl ?_ hlen hK hS hI hW hB hne htb
      intro w acc hlen hK hI hW hB htb
      exact body_any op nm kids hkids a cp S w acc 0 B tb wb (Nat.zero_le _) hlen hK hS hI hW hB hne htb hkl
    · rw [if_neg hl] at hlen ⊢
      exact body_any op nm kids hkids a cp S w acc level B tb wb (by omega) hlen hK hS hI hW hB hne htb hkl
def PrintPost (b : Bool) (t : Tr) (w : World) (e : Ending) (w' : World) : Prop :=
  Fr nob w w' ∧ e = .returned (if b = true then .tuple #[.string (txt (prP t 0)), .int .i64 0] else .tuple #[.string ⟨#[]⟩, .int .i64 2])
set_option maxHeartbeats 2000000 in
theorem print_any (t : Tr) (v : Value) (w : World) (htm : tame t = true) (hlen : (prP t 0).length ≤ 1000000000) (hT : TrO w (fun b => b < w.heap.size) t v) :
    Calls Try.prog 46 #[v] w (PrintPost (validB t) t w) := by
  obtain ⟨op, nm, a, ln, cp, hform⟩ := hT.form
  subst hform
  have hmf : ∀ (fn : Fn) (first cap : Array Value) (w : World), (Instr.makeFunc fn first cap).run Try.prog w = .ok (.func fn first cap) w := fun _ _ _ _ => rfl
  have A : Fr nob w (w.alloc (.cells #[.int .u8 (op : Int), .string (txt nm), .slice a ln cp] 24)) := (Fr.refl nob w).alloc _
  have hT1 := hT.kept (T := fun b => b < w.heap.size) A (fun b h _ => ⟨fun h => h, h⟩)
  have hva := valid_any t _ _ _ htm hT1
  have hx := Box3.new w (.int .u8 (op : Int)) (.string (txt nm)) (.slice a ln cp) 24
  obtain ⟨vb, hvb⟩ : ∃ vb, validB t = vb := ⟨_, rfl⟩
  rw [hvb]
  rw [hvb] at hva
  have HVB := Lib.hid hvb
  have HT1 := Lib.hid hT1
  have HA1 := Lib.hid A
  have HLEN := Lib.hid hlen
  clear hlen hT hT1 A hvb htm
  go_enter Try.func46, Try.ntmps46
  go_wp2_with fail
  refine hva.mono ?_
  rintro e w2 ⟨rfl, F2⟩
  have HF2 := Lib.hid (HA1.out.trans F2 (fun _ _ h => h))
  have HT2 := Lib.hid (HT1.out.kept (T := fun b => b < w.heap.size) F2 (fun b h _ => ⟨fun h => h, h⟩))
  have F2' := F2
  clear F2 hva
  cases vb with
  | false =>
    go_wp2_with fail
    go_ret2
    exact ⟨HF2.out, rfl⟩
  | true =>
    have hz2 : (w2.alloc (.cells #[.pointer none, .slice none 0 0] 136)).heap.size = w2.heap.size + 1 := by simp
    have hb1 : ((w2.alloc (.cells #[.pointer none, .slice none 0 0] 136)).alloc (.cells #[(.func (.func 79) #[] #[.pointer (some ⟨w2.heap.size, 0, none⟩), .pointer (some ⟨w2.heap.size + 1, 0, none⟩)])] 137)).heap[w2.heap.size + 1]? = some (.cells #[(.func (.func 79) #[] #[.pointer (some ⟨w2.heap.size, 0, none⟩), .pointer (some ⟨w2.heap.size + 1, 0, none⟩)])] 137 (0, 0)) := by
      have h := heap_alloc_new (w2.alloc (.cells #[.pointer none, .slice none 0 0] 136)) (.cells #[(.func (.func 79) #[] #[.pointer (some ⟨w2.heap.size, 0, none⟩), .pointer (some ⟨w2.heap.size + 1, 0, none⟩)])] 137)
      rw [hz2] at h
      exact h
    have A1 : Fr nob w2 ((w2.alloc (.cells #[.pointer none, .slice none 0 0] 136)).alloc (.cells #[(.func (.func 79) #[] #[.pointer (some ⟨w2.heap.size, 0, none⟩), .pointer (some ⟨w2.heap.size + 1, 0, none⟩)])] 137)) := ((Fr.refl nob w2).alloc _).alloc _
    have hI : Lib.IsBuilder TB TU w2.heap.size w2.heap.size (Lib.byteCells []) ((w2.alloc (.cells #[.pointer none, .slice none 0 0] 136)).alloc (.cells #[(.func (.func 79) #[] #[.pointer (some ⟨w2.heap.size, 0, none⟩), .pointer (some ⟨w2.heap.size + 1, 0, none⟩)])] 137)) := isB_alloc (Lib.fresh_isBuilder TB TU w2) _
    have hsz : ((w2.alloc (.cells #[.pointer none, .slice none 0 0] 136)).alloc (.cells #[(.func (.func 79) #[] #[.pointer (some ⟨w2.heap.size, 0, none⟩), .pointer (some ⟨w2.heap.size + 1, 0, none⟩)])] 137)).heap.size = w2.heap.size + 2 := by simp
    have HI := Lib.hid hI
    have HW := Lib.hid hb1
    have HA2 := Lib.hid A1
    have HX2 := Lib.hid (hx.kept F2' (fun h => h))
    clear hI hb1 A1 hz2
    go_upto_region 6 with fail
    generalize ((w2.alloc (.cells #[.pointer none, .slice none 0 0] 136)).alloc (.cells #[(.func (.func 79) #[] #[.pointer (some ⟨w2.heap.size, 0, none⟩), .pointer (some ⟨w2.heap.size + 1, 0, none⟩)])] 137)) = W at *
    have c0 : W.cell? ⟨w2.heap.size + 1, 0, none⟩ = some (.func (.func 79) #[] #[.pointer (some ⟨w2.heap.size, 0, none⟩), .pointer (some ⟨w2.heap.size + 1, 0, none⟩)]) := by rw [Lib.cell_of_heap HW.out]; rfl
    have HB := Lib.hid (HX2.out.kept HA2.out (fun h => h))
    have b0 := HB.out.c0
    have b1 := HB.out.c1
    have b2 := HB.out.c2
    have hC := prC_any (SizeOf.sizeOf t + 1) t (Nat.lt_succ_self _) (valid_small HVB.out) _ (fun b => b < w2.heap.size) W [] 0 w2.heap.size w2.heap.size (w2.heap.size + 1) (by omega) (by have := HLEN.out; simpa using this) (HT2.out.kept (T := fun b => b < w2.heap.size) HA2.out (fun b h h2 => ⟨fun h => h, h2⟩)) (fun b h => h) HI.out HW.out (by omega) (by omega) (by omega)
    have HF3 := Lib.hid (HF2.out.trans HA2.out (fun _ _ h => h))
    go_wp2_with fail
    refine hC.mono ?_
    rintro e w3 ⟨rfl, hI3, hb3, ho3⟩
    have HB3 := Lib.hid hb3
    have HI3 := Lib.hid hI3
    have hz3 := hb3.size
    clear hI3 hb3 ho3 hC c0 b0 b1 b2 HB HX2 HW HI
    go_wp2_with fail
    refine (Try.Builder_String_any_k w2.heap.size w2.heap.size (prP t 0) w3 (Lib.IsBuilderF.of HI3.out) (by omega)).mono ?_
    rintro e w4 ⟨rfl, hI4, hb4, ho4⟩
    have HB4 := Lib.hid hb4
    clear hI4 hb4 ho4
    go_wp2_with fail
    go_ret2
    exact ⟨HF2.out.below ((HA2.out.to_below (Nat.le_refl _) (fun _ h => h.elim)).trans (HB3.out.trans HB4.out)), rfl⟩
end Go.Proofs.Ytaojojjdfdlgpaa
