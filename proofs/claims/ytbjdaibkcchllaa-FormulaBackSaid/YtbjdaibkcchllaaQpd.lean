import Derived.Test.YtbjdaibkcchllaaQp4
import Derived.Test.YtbjdaibkcchllaaQd3
import Derived.Test.YtbjdaibkcchllaaQp7
import Derived.Test.YtbjdaibkcchllaaQp9
import Derived.Test.YtbjdaibkcchllaaQpb
import Derived.Test.YtbjdaibkcchllaaQbp
/- How large a tree the reference's reader makes. -/
namespace Go.Proofs.Ytbjdaibkcchllaa
open Go.RowKit

structure Mdl (t : Tr) : Prop where
  len : (preP t).length ≤ 1000000
  nms : ∀ u ∈ preP t, (nmT2 u).length ≤ 100
mutual
theorem tame_of3 : ∀ {t : Tr}, (preP t).length ≤ 1000000 → (∀ u ∈ preP t, (nmT2 u).length ≤ 100) → tame t = true ∧ wide t = true
  | .mk op nm kids, h1, h2 => by
    rw [preP] at h1 h2
    rw [List.length_cons] at h1
    have hk := kids_le (kids := kids)
    have hn : nm.length ≤ 100 := h2 _ List.mem_cons_self
    have ih := tame_of3L (ts := kids) (by omega) fun u hu => h2 u (List.mem_cons_of_mem _ hu)
    constructor
    · rw [tame, Bool.and_eq_true, Bool.and_eq_true, decide_eq_true_iff, decide_eq_true_iff]
      exact ⟨⟨by omega, by omega⟩, ih.1⟩
    · rw [wide, Bool.and_eq_true, Bool.and_eq_true, decide_eq_true_iff, decide_eq_true_iff]
      exact ⟨⟨by omega, by omega⟩, ih.2⟩
theorem tame_of3L : ∀ {ts : List Tr}, (preL ts).length ≤ 1000000 → (∀ u ∈ preL ts, (nmT2 u).length ≤ 100) → tameL ts = true ∧ wideL ts = true
  | [], _, _ => by rw [tameL, wideL]; exact ⟨rfl, rfl⟩
  | t :: ts, h1, h2 => by
    rw [preL] at h1 h2
    rw [List.length_append] at h1
    have a := tame_of3 (t := t) (by omega) fun u hu => h2 u (List.mem_append_left _ hu)
    have b := tame_of3L (ts := ts) (by omega) fun u hu => h2 u (List.mem_append_right _ hu)
    rw [tameL, wideL, Bool.and_eq_true, Bool.and_eq_true]
    exact ⟨⟨a.1, b.1⟩, a.2, b.2⟩
end
theorem Mdl.tame {t : Tr} (h : Mdl t) : tame t = true := (tame_of3 h.len h.nms).1
theorem Mdl.wide {t : Tr} (h : Mdl t) : wide t = true := (tame_of3 h.len h.nms).2
/-- the nodes' names are short -/
def Nms (t : Tr) : Prop := ∀ u ∈ preP t, (nmT2 u).length ≤ 100
def NmsL (ts : List Tr) : Prop := ∀ u ∈ preL ts, (nmT2 u).length ≤ 100
theorem nms_mk {op : Nat} {nm : List UInt8} {ts : List Tr} (hn : nm.length ≤ 100) (h : NmsL ts) : Nms (.mk op nm ts) := by
  intro u hu
  rw [preP] at hu
  rcases List.mem_cons.1 hu with rfl | hu
  · exact hn
  · exact h u hu
theorem nms_nil : NmsL [] := fun u hu => by rw [preL] at hu; cases hu
theorem nms_cons {t : Tr} {ts : List Tr} (h1 : Nms t) (h2 : NmsL ts) : NmsL (t :: ts) := fun u hu => by
  rw [preL] at hu
  rcases List.mem_append.1 hu with hu | hu
  · exact h1 u hu
  · exact h2 u hu
theorem nms_snoc {t : Tr} : ∀ {ts : List Tr}, NmsL ts → Nms t → NmsL (ts ++ [t])
  | [], _, h => nms_cons h nms_nil
  | a :: ts, h, h2 => nms_cons (fun u hu => h u (by rw [preL]; exact List.mem_append_left _ hu)) (nms_snoc (fun u hu => h u (by rw [preL]; exact List.mem_append_right _ hu)) h2)
theorem nms_wrap {k : Nat} : ∀ {ts : List Tr}, NmsL ts → Nms (wrapR k ts)
  | [], h => nms_mk (by simp) h
  | [t], h => fun u hu => h u (by rw [preL, preL, List.append_nil]; exact hu)
  | a :: b :: ts, h => nms_mk (by simp) h
theorem preL_snoc (ts : List Tr) (t : Tr) : (preL (ts ++ [t])).length = (preL ts).length + (preP t).length := by
  rw [preL_append, List.length_append, preL, preL, List.append_nil]
theorem wrap_len {k : Nat} : ∀ {ts : List Tr}, (preL ts).length ≤ (preP (wrapR k ts)).length ∧ (preP (wrapR k ts)).length ≤ (preL ts).length + 1
  | [] => by
    show (preL []).length ≤ (preP (.mk (opR k) [] [])).length ∧ (preP (.mk (opR k) [] [])).length ≤ (preL []).length + 1
    rw [preP, preL]; simp
  | [t] => by
    have e : (preL [t]).length = (preP t).length := by rw [preL, preL, List.append_nil]
    rw [e]; exact ⟨Nat.le_refl _, Nat.le_succ _⟩
  | a :: b :: ts => by
    show (preL (a :: b :: ts)).length ≤ (preP (.mk (opR k) [] (a :: b :: ts))).length ∧ (preP (.mk (opR k) [] (a :: b :: ts))).length ≤ (preL (a :: b :: ts)).length + 1
    rw [preP, List.length_cons]; exact ⟨Nat.le_succ _, Nat.le_refl _⟩
theorem skip_flag {L : List (Nat × List UInt8)} {s : List UInt8} {i : Nat} {b : Bool} (hs : s ≠ []) (h : skipP L s i b = true) : b = false := by
  cases b with
  | false => rfl
  | true => rw [skip_dead hs rfl] at h; cases h
def Ok (i : Nat) (x : Tr × Nat × Bool) : Prop := (preP x.1).length + i ≤ x.2.1 + x.2.2.toNat ∧ Nms x.1
structure Siz (L : List (Nat × List UInt8)) (n : Nat) : Prop where
  least : ∀ i b x, leastR L n i b = some x → Ok i x
  row : ∀ k i b x, rowR L n k i b = some x → Ok i x
  more : ∀ k ts i b x, ts ≠ [] → NmsL ts → moreR L n k ts i b = some x → (preP x.1).length + i + b.toNat ≤ (preP (wrapR k ts)).length + x.2.1 + x.2.2.toNat ∧ Nms x.1
  imp : ∀ i b x, impliesR L n i b = some x → Ok i x
  same : ∀ i y x, Ok i y → sameR L n y = some x → Ok i x
  choice : ∀ i b x, choiceR L n i b = some x → Ok i x
theorem leaf_len (op : Nat) (nm : List UInt8) : (preP (.mk op nm [])).length = 1 := by rw [preP, preL]; rfl
theorem siz_all (L : List (Nat × List UInt8)) : ∀ n, Siz L n
  | 0 => ⟨fun i b x h => (by rw [leastR] at h; cases h), fun k i b x h => (by rw [rowR] at h; cases h), fun k ts i b x _ _ h => (by rw [moreR] at h; cases h), fun i b x h => (by rw [impliesR] at h; cases h), fun i y x _ h => (by rw [sameR] at h; cases h), fun i b x h => (by rw [choiceR] at h; cases h)⟩
  | n + 1 => by
    have ih := siz_all L n
    refine ⟨fun i b x h => ?_, fun k i b x h => ?_, fun k ts i b x hne hnm h => ?_, fun i b x h => ?_, fun i y x hy h => ?_, fun i b x h => ?_⟩
    · rw [leastR] at h
      have zero : Ok i (.mk 0 [] [], i, true) := ⟨by rw [leaf_len]; show 1 + i ≤ i + 1; omega, nms_mk (by simp) nms_nil⟩
      split at h
      · rw [← Option.some.inj h]; exact zero
      split at h
      · obtain ⟨y, hy, rfl⟩ := Option.map_eq_some_iff.1 h
        obtain ⟨h1, h2⟩ := ih.least _ _ _ hy
        refine ⟨?_, nms_mk (by simp) (nms_cons h2 nms_nil)⟩
        show (preP (.mk 4 [] [y.1])).length + i ≤ y.2.1 + y.2.2.toNat
        rw [preP, preL, preL, List.append_nil, List.length_cons]; omega
      split at h
      · obtain ⟨y, hy, hx⟩ := Option.map_eq_some_iff.1 h
        obtain ⟨h1, h2⟩ := ih.choice _ _ _ hy
        split at hx
        · rw [← hx]; exact ⟨by show (preP y.1).length + i ≤ y.2.1 + 1 + y.2.2.toNat; omega, h2⟩
        · rw [← hx]
          refine ⟨?_, h2⟩
          show (preP y.1).length + i ≤ y.2.1 + 1
          have : y.2.2.toNat ≤ 1 := by cases y.2.2 <;> decide
          omega
      split at h
      · rw [← Option.some.inj h]; exact ⟨by rw [leaf_len]; show 1 + i ≤ i + 1 + b.toNat; omega, nms_mk (by simp) nms_nil⟩
      split at h
      · rw [← Option.some.inj h]; exact ⟨by rw [leaf_len]; show 1 + i ≤ i + 1 + b.toNat; omega, nms_mk (by simp) nms_nil⟩
      split at h
      · rename_i hn
        rw [← Option.some.inj h]
        refine ⟨by rw [leaf_len]; show 1 + i ≤ i + 1 + b.toNat; omega, nms_mk ?_ nms_nil⟩
        unfold nameB at hn
        simp only [Bool.and_eq_true, decide_eq_true_iff] at hn
        omega
      · rw [← Option.some.inj h]; exact zero
    · rw [rowR] at h
      split at h
      · exact ih.least _ _ _ h
      · obtain ⟨y, hy, h2⟩ := Option.bind_eq_some_iff.1 h
        obtain ⟨a1, a2⟩ := ih.row _ _ _ _ hy
        obtain ⟨b1, b2⟩ := ih.more _ _ _ _ _ (by simp) (nms_cons a2 nms_nil) h2
        refine ⟨?_, b2⟩
        have e : (preP (wrapR k [y.1])).length = (preP y.1).length := rfl
        omega
    · rw [moreR] at h
      split at h
      · rename_i hs
        have hb := skip_flag (sgR_ne k) hs
        subst hb
        obtain ⟨y, hy, h2⟩ := Option.bind_eq_some_iff.1 h
        obtain ⟨a1, a2⟩ := ih.row _ _ _ _ hy
        obtain ⟨b1, b2⟩ := ih.more _ _ _ _ _ (by simp) (nms_snoc hnm a2) h2
        refine ⟨?_, b2⟩
        have e1 := (wrap_len (k := k) (ts := ts ++ [y.1])).2
        have e2 := (wrap_len (k := k) (ts := ts)).1
        rw [preL_snoc] at e1
        show (preP x.1).length + i + 0 ≤ _
        omega
      · rw [← Option.some.inj h]
        exact ⟨Nat.le_refl _ , nms_wrap hnm⟩
    · rw [impliesR] at h
      obtain ⟨y, hy, h2⟩ := Option.bind_eq_some_iff.1 h
      obtain ⟨a1, a2⟩ := ih.row _ _ _ _ hy
      split at h2
      · rename_i hs
        have hf := skip_flag (by decide) hs
        obtain ⟨z, hz, rfl⟩ := Option.map_eq_some_iff.1 h2
        obtain ⟨b1, b2⟩ := ih.imp _ _ _ hz
        rw [hf] at a1
        refine ⟨?_, nms_mk (by simp) (nms_cons a2 (nms_cons b2 nms_nil))⟩
        show (preP (.mk 8 [] [y.1, z.1])).length + i ≤ z.2.1 + z.2.2.toNat
        rw [preP, preL, preL, preL, List.append_nil, List.length_cons, List.length_append]
        have a1' : (preP y.1).length + i ≤ y.2.1 + 0 := a1
        omega
      · rw [← Option.some.inj h2]; exact ⟨a1, a2⟩
    · obtain ⟨a1, a2⟩ := hy
      rw [sameR] at h
      split at h
      · rename_i hs
        have hf := skip_flag (by decide) hs
        obtain ⟨z, hz, rfl⟩ := Option.map_eq_some_iff.1 h
        obtain ⟨b1, b2⟩ := ih.imp _ _ _ hz
        rw [hf] at a1
        refine ⟨?_, nms_mk (by simp) (nms_cons a2 (nms_cons b2 nms_nil))⟩
        show (preP (.mk 9 [] [y.1, z.1])).length + i ≤ z.2.1 + z.2.2.toNat
        rw [preP, preL, preL, preL, List.append_nil, List.length_cons, List.length_append]
        have a1' : (preP y.1).length + i ≤ y.2.1 + 0 := a1
        omega
      · rw [← Option.some.inj h]; exact ⟨a1, a2⟩
    · rw [choiceR] at h
      obtain ⟨y, hy, h2⟩ := Option.bind_eq_some_iff.1 h
      obtain ⟨a, ha, h3⟩ := Option.bind_eq_some_iff.1 h2
      obtain ⟨a1, a2⟩ := ih.same _ _ _ (ih.imp _ _ _ hy) ha
      split at h3
      · rename_i hs
        have hf := skip_flag (by decide) hs
        rw [hf] at a1
        have a1' : (preP a.1).length + i ≤ a.2.1 + 0 := a1
        obtain ⟨z, hz, h4⟩ := Option.bind_eq_some_iff.1 h3
        obtain ⟨c1, c2⟩ := ih.choice _ _ _ hz
        have hzf : z.2.2.toNat ≤ 1 := by cases z.2.2 <;> decide
        have hz0 : 0 < (preP z.1).length := by cases z.1; rw [preP]; simp
        split at h4
        · rename_i hs2
          have hf2 := skip_flag (by decide) hs2
          rw [hf2] at c1
          have c1' : (preP z.1).length + (a.2.1 + 1) ≤ z.2.1 + 0 := c1
          obtain ⟨u, hu, rfl⟩ := Option.map_eq_some_iff.1 h4
          obtain ⟨d1, d2⟩ := ih.choice _ _ _ hu
          refine ⟨?_, nms_mk (by simp) (nms_cons a2 (nms_cons c2 (nms_cons d2 nms_nil)))⟩
          show (preP (.mk 10 [] [a.1, z.1, u.1])).length + i ≤ u.2.1 + u.2.2.toNat
          rw [preP, preL, preL, preL, preL, List.append_nil, List.length_cons, List.length_append, List.length_append]
          omega
        · rw [← Option.some.inj h4]
          refine ⟨?_, a2⟩
          show (preP a.1).length + i ≤ z.2.1 + 1
          omega
      · rw [← Option.some.inj h3]; exact ⟨a1, a2⟩
end Go.Proofs.Ytbjdaibkcchllaa
/- The reference's reader whole, and its Parse. -/
namespace Go.Proofs.Ytbjdaibkcchllaa
open Go.RowKit

structure RdAll (L : List (Nat × List UInt8)) (n : Nat) : Prop where
  least : LeastR L n
  row : RowC4 L n
  imp : ImpC L n
  choice : ChoiceR L n
theorem rd_zero (L : List (Nat × List UInt8)) : RdAll L 0 := by
  refine ⟨?_, ?_, ?_, ?_⟩
  · intro i b v S w x h; rw [leastR] at h; cases h
  · intro k i b v S w x _ _ h; rw [rowR] at h; cases h
  · intro i b v S w x h; rw [impliesR] at h; cases h
  · intro i b v S w x h; rw [choiceR] at h; cases h
theorem rd_all (L : List (Nat × List UInt8)) (hLL : L.length ≤ 1000000) (hW : ∀ i b, (wordP L i b).length ≤ 1000000) : ∀ n, n ≤ 100000000 → ∀ m, m ≤ n → RdAll L m
  | 0, _, m, hm => by
    obtain rfl : m = 0 := by omega
    exact rd_zero L
  | n + 1, hn, m, hm => by
    have ih := rd_all L hLL hW n (by omega)
    by_cases h : m ≤ n
    · exact ih m h
    · obtain rfl : m = n + 1 := by omega
      have i := ih n (Nat.le_refl _)
      exact ⟨rd_least L hLL hW n i.least i.choice, rd_row L hLL n (by omega) i.least (fun m hm => (ih m hm).row), imp_one L hLL n i.row i.imp, rd_choice L hLL n (fun m hm => (ih m hm).imp) i.choice⟩
theorem toks_len (s : List UInt8) : ∀ n i, i ≤ s.length → (toksP s n i).1.length ≤ s.length - i + 1
  | 0, i, _ => by rw [toksP]; simp
  | n + 1, i, hi => by
    rw [toksP]
    by_cases h1 : i < s.length
    · rw [if_pos h1]
      split
      · have := toks_len s n (i + 1) (by omega); omega
      split
      · simp
      · rename_i h3
        have hl := refTok_len (s.drop i)
        rw [List.length_drop] at hl
        have hp := List.length_pos_iff.2 h3
        have := toks_len s n (i + (refTok (s.drop i)).length) (by omega)
        rw [List.length_cons]; omega
    · rw [if_neg h1]; simp
theorem toks_word (s : List UInt8) : ∀ n i, ∀ t ∈ (toksP s n i).1, t.2.length ≤ s.length
  | 0, i, t, h => by rw [toksP] at h; cases h
  | n + 1, i, t, h => by
    rw [toksP] at h
    split at h
    · split at h
      · exact toks_word s n _ t h
      split at h
      · cases h
      · rcases List.mem_cons.1 h with rfl | h
        · have hl := refTok_len (s.drop i)
          rw [List.length_drop] at hl
          show (refTok (s.drop i)).length ≤ s.length
          omega
        · exact toks_word s n _ t h
    · obtain rfl := List.mem_singleton.1 h
      exact Nat.zero_le _
theorem word_len {s : List UInt8} {n i : Nat} (k : Nat) (b : Bool) : (wordP (toksP s n i).1 k b).length ≤ s.length := by
  unfold wordP
  split
  · exact Nat.zero_le _
  · cases h : (toksP s n i).1[k]? with
    | none => exact Nat.zero_le _
    | some t => exact toks_word s n i t (List.mem_of_getElem? h)
def RpPost (w : World) (r : Tr × Nat × Nat) (e : Ending) (w' : World) : Prop :=
  ∃ v, e = .returned (.tuple #[v, .int .i64 (r.2.1 : Int), .int .i64 (r.2.2 : Int)]) ∧ TrO w' (fun b => w.heap.size ≤ b) r.1 v ∧ Fr nob w w'
theorem zero_trO2 (w : World) (S : Nat → Prop) : TrO w S zeroT (.agg #[.int .u8 0, .string ⟨#[]⟩, .slice none 0 0]) := (zero_trV w S).toO
set_option maxRecDepth 20000 in
set_option maxHeartbeats 8000000 in
theorem refParse_any (s : ByteArray) (hs : s.size ≤ 65536) (w : World) : Calls Try.prog 14 #[.string s] w (RpPost w (parseP (TX s))) := by
  have hsl : (TX s).length = s.size := by simp
  have hout : ∀ i, i ≤ (TX s).length → formF (TX s) (12 * (TX s).length + 2) 0 i ≠ .out := fun i hi => form_out (by rw [hsl] at hi; exact hi)
  have hTk := tokens_any s hs (w.alloc (.cells #[.int .u8 0, .string ⟨#[]⟩, .slice none 0 0] 25))
  unfold TokPost at hTk
  rw [← hsl] at hTk
  have hlen := toks_len (TX s) ((TX s).length + 1) 0 (Nat.zero_le _)
  have hwrd := fun k b => word_len (s := TX s) (n := (TX s).length + 1) (i := 0) k b
  have hans := fun n x => same_answer (s := TX s) (by rw [hsl]; exact hs) (n := n) (x := x)
  generalize toksP (TX s) ((TX s).length + 1) 0 = TT at *
  obtain ⟨L, B⟩ := TT
  dsimp only at hTk hlen hwrd hans
  rw [hsl] at hlen
  have hL6 : L.length ≤ 1000000 := by omega
  obtain ⟨x, hx, _, hxj⟩ := (enough L (10 * L.length + 7)).2.2.2.2.2 0 false (by omega)
  have hpp := hans _ x hx hout
  rw [hpp]
  have hsz := (siz_all L (10 * L.length + 7)).choice 0 false x hx
  have hmd : Mdl x.1 := ⟨by have h1 := hsz.1; have h2 : x.2.2.toNat ≤ 1 := by cases x.2.2 <;> decide
                            omega, hsz.2⟩
  have hRA := (rd_all L hL6 (fun i b => by have := hwrd i b; rw [hsl] at this; omega) (10 * L.length + 7) (by omega) _ (Nat.le_refl _)).choice
  obtain ⟨r, hr⟩ : ∃ r, rparseP (TX s) x L B = r := ⟨_, rfl⟩
  rw [hr]
  unfold rparseP at hr
  rw [hsl] at hr
  have HR := Lib.hid hr
  have HMD := Lib.hid hmd
  have HRA := Lib.hid hRA
  have HXJ := Lib.hid hxj
  have HX := Lib.hid hx
  have HL6 := Lib.hid hL6
  have HB0 := Lib.hid (Box3.new w (.int .u8 0) (.string ⟨#[]⟩) (.slice none 0 0) 25)
  have HF0 := Lib.hid ((Fr.refl nob w).alloc (.cells #[.int .u8 0, .string ⟨#[]⟩, .slice none 0 0] 25))
  have hz1 : (w.alloc (.cells #[.int .u8 0, .string ⟨#[]⟩, .slice none 0 0] 25)).heap.size = w.heap.size + 1 := by simp
  have HZ1 := Lib.hid hz1
  have qs : decide ((65536 : Int) < (s.size : Int)) = false := by simp; omega
  clear hr hmd hRA hxj hx hL6 hz1 hout hlen hwrd hans hpp hsz hsl
  go_enter Try.func14, Try.ntmps14
  go_wp2_with fail
  generalize w.alloc (.cells #[.int .u8 0, .string ⟨#[]⟩, .slice none 0 0] 25) = W1 at *
  refine hTk.mono ?_
  rintro e w2 ⟨v, rfl, hT, F2⟩
  have hT0 := hT
  obtain ⟨a, cp, rfl, hk⟩ := hT0
  obtain ⟨nl, hnl⟩ : ∃ nl, L.length = nl := ⟨_, rfl⟩
  have hs2 := F2.size
  have hCh : Calls Try.prog 45 #[.agg #[.slice a nl cp, .int .i64 0, .bool false]] w2 (RdPost w2 (.slice a nl cp) x) := by
    rw [← hnl]
    exact HRA.out 0 false _ _ w2 x HX.out (by omega) (Nat.zero_le _) (fun b h => h.2) hT
  unfold RdPost at hCh
  rw [hnl] at hT ⊢
  have HT2 := Lib.hid hT
  have HF2 := Lib.hid (HF0.out.trans F2 (fun _ _ h => h))
  have HB2 := Lib.hid (HB0.out.kept F2 (fun h => h))
  have HNL := Lib.hid hnl
  have HSZ : Hid (w.heap.size < W1.heap.size ∧ W1.heap.size ≤ w2.heap.size) := Lib.hid ⟨by rw [HZ1.out]; omega, hs2⟩
  clear hT hk hnl hs2 F2 HB0 HF0 hTk
  go_wp2_with fail
  refine hCh.mono ?_
  rintro e w3 ⟨v3, rfl, hT3, F3⟩
  obtain ⟨o3, nm3, a3, n3, c3, rfl⟩ := hT3.form
  obtain ⟨t, j, f⟩ := x
  have A4 : Fr nob w3 ((w3.alloc (.cells #[.int .u8 (o3 : Int), .string (txt nm3), .slice a3 n3 c3] 25)).alloc (.cells #[.slice a nl cp, .int .i64 (j : Int), .bool f] 76)) := ((Fr.refl nob w3).alloc _).alloc _
  have G4 := F3.trans A4 (fun _ _ h => h)
  have hE := (Box3.new w3 (.int .u8 (o3 : Int)) (.string (txt nm3)) (.slice a3 n3 c3) 25).kept ((Fr.refl nob _).alloc (.cells #[.slice a nl cp, .int .i64 (j : Int), .bool f] 76)) (fun h => h)
  have hR := Box3.new (w3.alloc (.cells #[.int .u8 (o3 : Int), .string (txt nm3), .slice a3 n3 c3] 25)) (.slice a nl cp) (.int .i64 (j : Int)) (.bool f) 76
  rw [World.size_alloc] at hR
  have HE5 := Lib.hid hE
  have HR5 := Lib.hid hR
  have HB5 := Lib.hid (HB2.out.kept G4 (fun h => h))
  have HF5 := Lib.hid (HF2.out.trans G4 (fun _ _ h => h))
  have HT5 := Lib.hid (HT2.out.kept (T := fun b => W1.heap.size ≤ b ∧ b < w2.heap.size) G4 (fun b h _ => ⟨fun h => h, h⟩))
  have HU5 := Lib.hid (hT3.kept (T := fun b => w2.heap.size ≤ b ∧ b < w3.heap.size) A4 (fun b h _ => ⟨fun h => h, h⟩))
  have HSZ3 : Hid (w.heap.size < w3.heap.size) := Lib.hid (by have h1 := HSZ.out; have h2 := F3.size; omega)
  clear hCh hT3 F3 A4 G4 hE hR HB2 HF2 HT2
  go_upto_region 5 with fail
  generalize (w3.alloc (.cells #[.int .u8 (o3 : Int), .string (txt nm3), .slice a3 n3 c3] 25)).alloc (.cells #[.slice a nl cp, .int .i64 (j : Int), .bool f] 76) = w5 at *
  have hr := HR.out
  (try dsimp only at hr)
  have q0 : (0 : Int) ≤ (j : Int) := Int.natCast_nonneg _
  have ⟨k0, k1, k2, _⟩ := HR5.out
  by_cases hjl : j < L.length
  · have hjn : j < nl := by rw [← HNL.out]; exact hjl
    have q1 : (j : Int) < (nl : Int) := by omega
    obtain ⟨tk, htk⟩ : ∃ tk, L[j]? = some tk := ⟨L[j], List.getElem?_eq_getElem hjl⟩
    have hT5 := HT5.out
    rw [← HNL.out] at hT5
    obtain ⟨a', cp', hv, hk⟩ := hT5
    obtain ⟨g, hga, hgS, hc⟩ := hk (by intro e; rw [e] at hjl; simp at hjl)
    obtain ⟨rfl, _, _⟩ : a = a' ∧ L.length = L.length ∧ cp = cp' := by simpa using hv
    subst hga
    obtain ⟨c0, c1⟩ := hc j tk htk
    have hwd : wordP L j false = tk.2 := by simp [wordP, htk]
    have hps : posT L 0 j = tk.1 := by simp [posT, htk]
    have HCC := Lib.hid (And.intro c0 c1)
    have HNE : Hid (¬ w3.heap.size + 1 = w.heap.size ∧ ¬ w.heap.size = w3.heap.size + 1 ∧ ¬ g = w.heap.size ∧ ¬ w.heap.size = g ∧ ¬ w3.heap.size = w.heap.size ∧ ¬ w.heap.size = w3.heap.size) := Lib.hid (by have h1 := HSZ3.out; have h2 := HSZ.out; have h3 := hgS.1; omega)
    have HWD := Lib.hid hwd
    rw [hps, hwd] at hr
    by_cases hft : f = true ∨ tk.2 ≠ []
    · rw [if_pos ⟨hjl, hft⟩] at hr
      subst hr
      cases f with
      | true =>
        clear hjl hjn htk hv hk hgS hc hwd hps hft c0
        go_upto_region 6 with fail
        clear c1 k0 k1 k2
        have D : Fr nob w5 w5.drew := (Fr.refl nob w5).drew
        have HB6 := Lib.hid (HB5.out.kept D (fun h => h))
        have ⟨d0, d1, d2, df⟩ := HB5.out
        have df0 := df 0
        have df1 := df 1
        have df2 := df 2
        have ⟨g0, g1, g2, gf⟩ := HB6.out
        have gf0 := gf 0
        have gf1 := gf 1
        have gf2 := gf 2
        have ⟨k0, k1, k2, _⟩ := HR5.out
        have ⟨l0, l1, l2, _⟩ := HR5.out.kept D (fun h => h)
        have m0 := HCC.out.1
        have m1 := D.cell HCC.out.1 (fun h => h)
        have nn1 := HNE.out.1
        have nn2 := HNE.out.2.1
        have nn3 := HNE.out.2.2.1
        have nn4 := HNE.out.2.2.2.1
        have nn5 := HNE.out.2.2.2.2.1
        have nn6 := HNE.out.2.2.2.2.2
        clear df gf D
        go_region
        clear d0 d1 d2 df0 df1 df2 g0 g1 g2 gf0 gf1 gf2 k0 k1 k2 l0 l1 l2 m0 m1 nn1 nn2 nn3 nn4 nn5 nn6
        obtain ⟨X, FX⟩ := HB5.out.set (.int .u8 0) (.string ⟨#[]⟩) (.slice none 0 0)
        have hFF := HF5.out.trans' (T := nob) FX (fun _ _ h => h) (fun q hq h => by have e : q = w.heap.size := h; omega)
        generalize (((w5.setCell ⟨w.heap.size, 0, none⟩ (.int .u8 0)).setCell ⟨w.heap.size, 1, none⟩ (.string ⟨#[]⟩)).setCell ⟨w.heap.size, 2, none⟩ (.slice none 0 0)) = w9 at *
        replace hFF := hFF.drew
        replace X := X.kept ((Fr.refl nob w9).drew) (fun h => h)
        go_wp2_with fail
        have x0 := X.c0
        have x1 := X.c1
        have x2 := X.c2
        exact bodyPost_ret (v := .tuple #[.agg #[.int .u8 0, .string ⟨#[]⟩, .slice none 0 0], .int .i64 (tk.1 : Int), .int .i64 4]) (by simp [results, Try.results14, go_sem, x0, x1, x2]) rfl ⟨_, rfl, zero_trO2 w9.drew _, hFF⟩
      | false =>
        have hne : tk.2 ≠ [] := hft.resolve_left (by decide)
        have qw : (txt tk.2).toList.isEmpty = false := by
          rw [tlist]
          cases h : tk.2 with
          | nil => exact absurd h hne
          | cons a l => rfl
        have qw2 : ¬ (txt tk.2).toList = [] := by rw [tlist]; exact hne
        clear hjl hjn htk hv hk hgS hc hwd hps hft c0 hne
        go_upto_region 6 with fail
        clear c1 k0 k1 k2
        have D : Fr nob w5 w5.drew := (Fr.refl nob w5).drew
        have HB6 := Lib.hid (HB5.out.kept D (fun h => h))
        have ⟨d0, d1, d2, df⟩ := HB5.out
        have df0 := df 0
        have df1 := df 1
        have df2 := df 2
        have ⟨g0, g1, g2, gf⟩ := HB6.out
        have gf0 := gf 0
        have gf1 := gf 1
        have gf2 := gf 2
        have ⟨k0, k1, k2, _⟩ := HR5.out
        have ⟨l0, l1, l2, _⟩ := HR5.out.kept D (fun h => h)
        have m0 := HCC.out.1
        have m1 := D.cell HCC.out.1 (fun h => h)
        have nn1 := HNE.out.1
        have nn2 := HNE.out.2.1
        have nn3 := HNE.out.2.2.1
        have nn4 := HNE.out.2.2.2.1
        have nn5 := HNE.out.2.2.2.2.1
        have nn6 := HNE.out.2.2.2.2.2
        clear df gf D
        go_region
        clear d0 d1 d2 df0 df1 df2 g0 g1 g2 gf0 gf1 gf2 k0 k1 k2 l0 l1 l2 m0 m1 nn1 nn2 nn3 nn4 nn5 nn6
        obtain ⟨X, FX⟩ := HB5.out.set (.int .u8 0) (.string ⟨#[]⟩) (.slice none 0 0)
        have hFF := HF5.out.trans' (T := nob) FX (fun _ _ h => h) (fun q hq h => by have e : q = w.heap.size := h; omega)
        generalize (((w5.setCell ⟨w.heap.size, 0, none⟩ (.int .u8 0)).setCell ⟨w.heap.size, 1, none⟩ (.string ⟨#[]⟩)).setCell ⟨w.heap.size, 2, none⟩ (.slice none 0 0)) = w9 at *
        replace hFF := hFF.drew
        replace X := X.kept ((Fr.refl nob w9).drew) (fun h => h)
        go_wp2_with fail
        have x0 := X.c0
        have x1 := X.c1
        have x2 := X.c2
        exact bodyPost_ret (v := .tuple #[.agg #[.int .u8 0, .string ⟨#[]⟩, .slice none 0 0], .int .i64 (tk.1 : Int), .int .i64 4]) (by simp [results, Try.results14, go_sem, x0, x1, x2]) rfl ⟨_, rfl, zero_trO2 w9.drew _, hFF⟩
    · rw [if_neg (fun h => hft h.2)] at hr
      have hf : f = false := by cases f with | true => exact absurd (.inl rfl) hft | false => rfl
      subst hf
      have hw0 : tk.2 = [] := by
        cases h : tk.2 with
        | nil => rfl
        | cons a l => exact absurd (.inr (by rw [h]; simp)) hft
      have qw : (txt tk.2).toList.isEmpty = true := by rw [tlist, hw0]; rfl
      have qw2 : (txt tk.2).toList = [] := by rw [tlist]; exact hw0
      have HRR := Lib.hid hr
      clear hjl hjn htk hv hk hgS hc hwd hps hft c0 hw0 hr
      go_upto_region 7 with fail
      clear c1 k0 k1 k2
      cases B with
      | some k =>
        have hr := HRR.out
        (try dsimp only at hr)
        subst hr
        have qk : endB (some k) = (k : Int) := rfl
        rw [qk]
        have qk0 : (0 : Int) ≤ (k : Int) := Int.natCast_nonneg _
        have ⟨d0, d1, d2, df⟩ := HB5.out
        have df0 := df 0
        have df1 := df 1
        have df2 := df 2
        clear df
        obtain ⟨X, FX⟩ := HB5.out.set (.int .u8 0) (.string ⟨#[]⟩) (.slice none 0 0)
        have hFF := HF5.out.trans' (T := nob) FX (fun _ _ h => h) (fun q hq h => by have e : q = w.heap.size := h; omega)
        go_wp2_with fail
        generalize (((w5.setCell ⟨w.heap.size, 0, none⟩ (.int .u8 0)).setCell ⟨w.heap.size, 1, none⟩ (.string ⟨#[]⟩)).setCell ⟨w.heap.size, 2, none⟩ (.slice none 0 0)) = w9 at *
        have x0 := X.c0
        have x1 := X.c1
        have x2 := X.c2
        exact bodyPost_ret (v := .tuple #[.agg #[.int .u8 0, .string ⟨#[]⟩, .slice none 0 0], .int .i64 (k : Int), .int .i64 4]) (by simp [results, Try.results14, go_sem, x0, x1, x2]) rfl ⟨_, rfl, zero_trO2 w9 _, hFF⟩
      | none =>
        have hr := HRR.out
        (try dsimp only at hr)
        have qk : endB none = -1 := rfl
        rw [qk]
        have hV := refValid_any t _ _ w5 HMD.out.wide HMD.out.len (fun b h => by have h1 := HE5.out.lt; have h2 := h.2; omega) HU5.out
        rw [refV_eq] at hV
        have ⟨k0, k1, k2, _⟩ := HE5.out
        go_wp2_with fail
        refine hV.mono ?_
        rintro e w6 ⟨rfl, F6⟩
        have HB6 := Lib.hid (HB5.out.kept F6 (fun h => h))
        have HE6 := Lib.hid (HE5.out.kept F6 (fun h => h))
        have HF6 := Lib.hid (HF5.out.trans F6 (fun _ _ h => h))
        have HU6 := Lib.hid (HU5.out.kept (T := fun b => w2.heap.size ≤ b ∧ b < w3.heap.size) F6 (fun b h _ => ⟨fun h => h, h⟩))
        clear hV F6 k0 k1 k2 HB5 HE5 HU5 HF5
        have ⟨d0, d1, d2, df⟩ := HB6.out
        have df0 := df 0
        have df1 := df 1
        have df2 := df 2
        have ⟨k0, k1, k2, _⟩ := HE6.out
        clear df
        cases hvb : validB t with
        | true =>
          rw [if_pos hvb] at hr
          subst hr
          clear hvb
          obtain ⟨X, FX⟩ := HB6.out.set (.int .u8 (o3 : Int)) (.string (txt nm3)) (.slice a3 n3 c3)
          have hFF := HF6.out.trans' (T := nob) FX (fun _ _ h => h) (fun q hq h => by have e : q = w.heap.size := h; omega)
          go_wp2_with fail
          generalize (((w6.setCell ⟨w.heap.size, 0, none⟩ (.int .u8 (o3 : Int))).setCell ⟨w.heap.size, 1, none⟩ (.string (txt nm3))).setCell ⟨w.heap.size, 2, none⟩ (.slice a3 n3 c3)) = w9 at *
          have x0 := X.c0
          have x1 := X.c1
          have x2 := X.c2
          have hTZ : TrO w9 (fun b => w.heap.size ≤ b) t _ := HU6.out.kept FX (fun b h _ => ⟨show ¬ b = w.heap.size by have h1 := HSZ.out; have h2 := h.1; omega, by have h1 := HSZ.out; have h2 := h.1; omega⟩)
          exact bodyPost_ret (v := .tuple #[.agg #[.int .u8 (o3 : Int), .string (txt nm3), .slice a3 n3 c3], .int .i64 0, .int .i64 0]) (by simp [results, Try.results14, go_sem, x0, x1, x2]) rfl ⟨_, rfl, hTZ, hFF⟩
        | false =>
          rw [if_neg (by rw [hvb]; decide)] at hr
          subst hr
          clear hvb
          obtain ⟨X, FX⟩ := HB6.out.set (.int .u8 0) (.string ⟨#[]⟩) (.slice none 0 0)
          have hFF := HF6.out.trans' (T := nob) FX (fun _ _ h => h) (fun q hq h => by have e : q = w.heap.size := h; omega)
          go_wp2_with fail
          generalize (((w6.setCell ⟨w.heap.size, 0, none⟩ (.int .u8 0)).setCell ⟨w.heap.size, 1, none⟩ (.string ⟨#[]⟩)).setCell ⟨w.heap.size, 2, none⟩ (.slice none 0 0)) = w9 at *
          have x0 := X.c0
          have x1 := X.c1
          have x2 := X.c2
          exact bodyPost_ret (v := .tuple #[.agg #[.int .u8 0, .string ⟨#[]⟩, .slice none 0 0], .int .i64 (s.size : Int), .int .i64 5]) (by simp [results, Try.results14, go_sem, x0, x1, x2]) rfl ⟨_, rfl, zero_trO2 w9 _, hFF⟩
  · have hjn : ¬ j < nl := by rw [← HNL.out]; exact hjl
    have q1 : ¬ (j : Int) < (nl : Int) := by omega
    rw [if_neg (fun h => hjl h.1)] at hr
    have HRR := Lib.hid hr
    clear hjl hjn hr
    go_upto_region 7 with fail
    clear k0 k1 k2
    cases B with
    | some k =>
      have hr := HRR.out
      (try dsimp only at hr)
      subst hr
      have qk : endB (some k) = (k : Int) := rfl
      rw [qk]
      have qk0 : (0 : Int) ≤ (k : Int) := Int.natCast_nonneg _
      have ⟨d0, d1, d2, df⟩ := HB5.out
      have df0 := df 0
      have df1 := df 1
      have df2 := df 2
      clear df
      obtain ⟨X, FX⟩ := HB5.out.set (.int .u8 0) (.string ⟨#[]⟩) (.slice none 0 0)
      have hFF := HF5.out.trans' (T := nob) FX (fun _ _ h => h) (fun q hq h => by have e : q = w.heap.size := h; omega)
      go_wp2_with fail
      generalize (((w5.setCell ⟨w.heap.size, 0, none⟩ (.int .u8 0)).setCell ⟨w.heap.size, 1, none⟩ (.string ⟨#[]⟩)).setCell ⟨w.heap.size, 2, none⟩ (.slice none 0 0)) = w9 at *
      have x0 := X.c0
      have x1 := X.c1
      have x2 := X.c2
      exact bodyPost_ret (v := .tuple #[.agg #[.int .u8 0, .string ⟨#[]⟩, .slice none 0 0], .int .i64 (k : Int), .int .i64 4]) (by simp [results, Try.results14, go_sem, x0, x1, x2]) rfl ⟨_, rfl, zero_trO2 w9 _, hFF⟩
    | none =>
      have hr := HRR.out
      (try dsimp only at hr)
      have qk : endB none = -1 := rfl
      rw [qk]
      have hV := refValid_any t _ _ w5 HMD.out.wide HMD.out.len (fun b h => by have h1 := HE5.out.lt; have h2 := h.2; omega) HU5.out
      rw [refV_eq] at hV
      have ⟨k0, k1, k2, _⟩ := HE5.out
      go_wp2_with fail
      refine hV.mono ?_
      rintro e w6 ⟨rfl, F6⟩
      have HB6 := Lib.hid (HB5.out.kept F6 (fun h => h))
      have HE6 := Lib.hid (HE5.out.kept F6 (fun h => h))
      have HF6 := Lib.hid (HF5.out.trans F6 (fun _ _ h => h))
      have HU6 := Lib.hid (HU5.out.kept (T := fun b => w2.heap.size ≤ b ∧ b < w3.heap.size) F6 (fun b h _ => ⟨fun h => h, h⟩))
      clear hV F6 k0 k1 k2 HB5 HE5 HU5 HF5
      have ⟨d0, d1, d2, df⟩ := HB6.out
      have df0 := df 0
      have df1 := df 1
      have df2 := df 2
      have ⟨k0, k1, k2, _⟩ := HE6.out
      clear df
      cases hvb : validB t with
      | true =>
        rw [if_pos hvb] at hr
        subst hr
        clear hvb
        obtain ⟨X, FX⟩ := HB6.out.set (.int .u8 (o3 : Int)) (.string (txt nm3)) (.slice a3 n3 c3)
        have hFF := HF6.out.trans' (T := nob) FX (fun _ _ h => h) (fun q hq h => by have e : q = w.heap.size := h; omega)
        go_wp2_with fail
        generalize (((w6.setCell ⟨w.heap.size, 0, none⟩ (.int .u8 (o3 : Int))).setCell ⟨w.heap.size, 1, none⟩ (.string (txt nm3))).setCell ⟨w.heap.size, 2, none⟩ (.slice a3 n3 c3)) = w9 at *
        have x0 := X.c0
        have x1 := X.c1
        have x2 := X.c2
        have hTZ : TrO w9 (fun b => w.heap.size ≤ b) t _ := HU6.out.kept FX (fun b h _ => ⟨show ¬ b = w.heap.size by have h1 := HSZ.out; have h2 := h.1; omega, by have h1 := HSZ.out; have h2 := h.1; omega⟩)
        exact bodyPost_ret (v := .tuple #[.agg #[.int .u8 (o3 : Int), .string (txt nm3), .slice a3 n3 c3], .int .i64 0, .int .i64 0]) (by simp [results, Try.results14, go_sem, x0, x1, x2]) rfl ⟨_, rfl, hTZ, hFF⟩
      | false =>
        rw [if_neg (by rw [hvb]; decide)] at hr
        subst hr
        clear hvb
        obtain ⟨X, FX⟩ := HB6.out.set (.int .u8 0) (.string ⟨#[]⟩) (.slice none 0 0)
        have hFF := HF6.out.trans' (T := nob) FX (fun _ _ h => h) (fun q hq h => by have e : q = w.heap.size := h; omega)
        go_wp2_with fail
        generalize (((w6.setCell ⟨w.heap.size, 0, none⟩ (.int .u8 0)).setCell ⟨w.heap.size, 1, none⟩ (.string ⟨#[]⟩)).setCell ⟨w.heap.size, 2, none⟩ (.slice none 0 0)) = w9 at *
        have x0 := X.c0
        have x1 := X.c1
        have x2 := X.c2
        exact bodyPost_ret (v := .tuple #[.agg #[.int .u8 0, .string ⟨#[]⟩, .slice none 0 0], .int .i64 (s.size : Int), .int .i64 5]) (by simp [results, Try.results14, go_sem, x0, x1, x2]) rfl ⟨_, rfl, zero_trO2 w9 _, hFF⟩
end Go.Proofs.Ytbjdaibkcchllaa
/- FormulaParses: the walk of the law itself. -/
namespace Go.Proofs.Ytbjdaibkcchllaa
open Go.RowKit

theorem choice_mdl {s : List UInt8} (hs : s.length ≤ 65536) : ∃ n x, choiceR (toksP s (s.length + 1) 0).1 n 0 false = some x ∧ Mdl x.1 := by
  have hlen := toks_len s (s.length + 1) 0 (Nat.zero_le _)
  obtain ⟨x, hx, _, hxj⟩ := (enough (toksP s (s.length + 1) 0).1 (10 * (toksP s (s.length + 1) 0).1.length + 7)).2.2.2.2.2 0 false (by omega)
  have hsz := (siz_all (toksP s (s.length + 1) 0).1 (10 * (toksP s (s.length + 1) 0).1.length + 7)).choice 0 false x hx
  refine ⟨_, x, hx, ?_, hsz.2⟩
  have h1 := hsz.1
  have h2 : x.2.2.toNat ≤ 1 := by cases x.2.2 <;> decide
  omega
theorem whole_mdl {s : List UInt8} (hs : s.length ≤ 65536) (hout : ∀ i, i ≤ s.length → formF s (12 * s.length + 2) 0 i ≠ .out) {t : Tr} {j : Nat} (h : wholeP s = .ok (t, j)) : Mdl t := by
  obtain ⟨n, x, hx, hm⟩ := choice_mdl hs
  have h1 := step_first s (s.length + 1) 0 (Nat.zero_le _) (by omega)
  have h2 := toks_all s (s.length + 1) 0 ((toksP s (s.length + 1) 0).2.getD 0) (Nat.zero_le _) (by omega) (fun k hk => by rw [hk]; rfl)
  have h3 := toks_end s (s.length + 1) 0 (Nat.zero_le _) (by omega)
  generalize toksP s (s.length + 1) 0 = TT at *
  obtain ⟨L, B⟩ := TT
  dsimp only at h1 h2 h3 hx
  unfold wholeP at h
  cases L with
  | nil =>
    obtain ⟨k, rfl, hk⟩ := h1
    rw [hk] at h; cases h
  | cons tk L =>
    dsimp only at h1
    have hp : posT (tk :: L) (B.getD 0) 0 = tk.1 := rfl
    have hle : tk.1 ≤ s.length := by
      have := h3.1 0 (by simp)
      by_cases hw : wordP (tk :: L) 0 false = []
      · have h := (this.2 hw).1; exact Nat.le_of_eq h
      · have h := this.1 hw; exact Nat.le_of_lt h
    rw [h1, Res.bind_ok] at h
    have he := (eqv_all h2 (12 * s.length + 2)).form 0 0 n x (by simp [Lvl]) (by simp) (by rw [hp]; exact hout _ hle) hx
    rw [hp] at he
    rw [he] at h
    by_cases ha : Alive (tk :: L) x.2.2 x.2.1
    · rw [outG_alive ha, Res.bind_ok] at h
      dsimp only at h
      split at h
      · cases h
      · have e := Res.ok.inj h
        have e2 : x.1 = t := congrArg Prod.fst e
        rw [← e2]; exact hm
    · rw [outG_dead ha] at h; cases h
theorem parse_mdl {s : List UInt8} (hs : s.length ≤ 65536) (hout : ∀ i, i ≤ s.length → formF s (12 * s.length + 2) 0 i ≠ .out) : Mdl (parseP s).1 := by
  have hz : Mdl zeroT := ⟨by unfold zeroT; rw [preP, preL]; simp, nms_mk (by simp) nms_nil⟩
  unfold parseP
  rw [if_neg (by omega)]
  cases h : wholeP s with
  | out => exact hz
  | bad k => exact hz
  | ok x =>
    dsimp only
    split
    · exact whole_mdl hs hout (t := x.1) (j := x.2) h
    · exact hz
set_option maxRecDepth 20000 in
set_option maxHeartbeats 4000000 in
theorem parses_any (s : ByteArray) (hs : s.size ≤ 9223372036854775807) (w : World) : Calls Try.prog 3 #[.string s] w fun e w' => e = .returned (.bool true) ∧ Fr nob w w' := by
  have HW := Lib.hid wakes_any
  go_enter Try.func3, Try.ntmps3
  by_cases h0 : 3000 < s.size
  · have q0 : decide ((3000 : Int) < (s.size : Int)) = true := by simp; omega
    go_wp2_with (go_at_call 12; refine (HW.out _).mono ?_; rintro e w' ⟨rfl, F⟩)
    go_ret
    exact ⟨rfl, F⟩
  have q0 : decide ((3000 : Int) < (s.size : Int)) = false := by simp; omega
  have hs6 : s.size ≤ 65536 := by omega
  have hsl : (TX s).length = s.size := by simp
  have hout : ∀ i, i ≤ (TX s).length → formF (TX s) (12 * (TX s).length + 2) 0 i ≠ .out := fun i hi => form_out (by rw [hsl] at hi; exact hi)
  have hM := parse_mdl (by rw [hsl]; exact hs6) hout
  have hP := parse_any s hs6 (fun t j h => (whole_mdl (by rw [hsl]; exact hs6) hout h).tame)
  have hR := refParse_any s hs6
  generalize parseP (TX s) = r at *
  obtain ⟨t, at_, er⟩ := r
  have HM := Lib.hid hM
  have HR := Lib.hid hR
  have HP := hP w
  unfold ParsePost at HP
  clear hP hR hM hout hsl hs6 h0 hs
  go_wp2_with fail
  refine HP.mono ?_
  rintro e w2 ⟨v2, rfl, hT2, F2⟩
  obtain ⟨o2, nm2, a2, n2, c2, rfl⟩ := hT2.form
  (try dsimp only at hT2)
  have A3 : Fr nob w2 (w2.alloc (.cells #[.int .u8 (o2 : Int), .string (txt nm2), .slice a2 n2 c2] 25)) := (Fr.refl nob w2).alloc _
  have HB3 := Lib.hid (Box3.new w2 (.int .u8 (o2 : Int)) (.string (txt nm2)) (.slice a2 n2 c2) 25)
  have HT3 := Lib.hid (hT2.toO.kept (T := fun b => w.heap.size ≤ b ∧ b < w2.heap.size) A3 (fun b h h' => ⟨fun h => h, h, h'⟩))
  have HF3 := Lib.hid (F2.trans A3 (fun _ _ h => h))
  have hRR := HR.out (w2.alloc (.cells #[.int .u8 (o2 : Int), .string (txt nm2), .slice a2 n2 c2] 25))
  unfold RpPost at hRR
  clear F2 A3 hT2 HP HR
  go_upto_region 4 with fail
  generalize w2.alloc (.cells #[.int .u8 (o2 : Int), .string (txt nm2), .slice a2 n2 c2] 25) = w3 at *
  go_wp2_with fail
  refine hRR.mono ?_
  rintro e w4 ⟨v4, rfl, hT4, F4⟩
  obtain ⟨o4, nm4, a4, n4, c4, rfl⟩ := hT4.form
  (try dsimp only at hT4)
  have A5 : Fr nob w4 (w4.alloc (.cells #[.int .u8 (o4 : Int), .string (txt nm4), .slice a4 n4 c4] 25)) := (Fr.refl nob w4).alloc _
  have G5 := F4.trans A5 (fun _ _ h => h)
  have HB5 := Lib.hid (HB3.out.kept G5 (fun h => h))
  have HC5 := Lib.hid (Box3.new w4 (.int .u8 (o4 : Int)) (.string (txt nm4)) (.slice a4 n4 c4) 25)
  have hT5 := HT3.out.kept (T := fun b => w.heap.size ≤ b ∧ b < w2.heap.size) G5 (fun b h _ => ⟨fun h => h, h⟩)
  have hU5 := hT4.kept (T := fun b => w3.heap.size ≤ b) A5 (fun b h _ => ⟨fun h => h, h⟩)
  have HF5 := Lib.hid (HF3.out.trans G5 (fun _ _ h => h))
  have hS := same_any _ t (Nat.lt_succ_self _) t _ _ _ _ _ HM.out.wide HM.out.wide hT5 hU5
  rw [sameP_refl] at hS
  clear hRR hT4 F4 A5 G5 HB3 HT3 HF3 hT5 hU5
  go_upto_region 5 with fail
  generalize w4.alloc (.cells #[.int .u8 (o4 : Int), .string (txt nm4), .slice a4 n4 c4] 25) = w5 at *
  have ⟨b0, b1, b2, _⟩ := HB5.out
  have ⟨d0, d1, d2, _⟩ := HC5.out
  go_wp2_with (first
    | (go_at_call 15; with_reducible refine hS.mono ?_; rintro e w8 ⟨rfl, F8⟩
       have HF8 := Lib.hid (HF5.out.trans F8 (fun _ _ h => h))
       clear F8)
    | (go_at_call 12; refine (HW.out _).mono ?_; rintro e w9 ⟨rfl, F9⟩
       have HF9 := Lib.hid (HF8.out.trans F9 (fun _ _ h => h))
       clear F9)
    | fail)
  go_ret
  exact ⟨rfl, HF9.out⟩
end Go.Proofs.Ytbjdaibkcchllaa
