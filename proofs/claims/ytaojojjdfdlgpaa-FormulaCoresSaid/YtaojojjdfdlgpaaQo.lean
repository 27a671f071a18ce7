import Derived.Test.YtaojojjdfdlgpaaQn
namespace Go.Proofs.Ytaojojjdfdlgpaa
open Go.RowKit

/-! accept, expect -/
theorem accept_no (s : ByteArray) (p i : Nat) (t t' : List UInt8) (w : World) (h : PSt w p s i t) (hne : t ≠ t') :
    Calls Try.prog 131 #[.pointer (some ⟨p, 0, none⟩), .string (txt t')] w fun e w' => e = .returned (.bool false) ∧ w = w' := by
  obtain ⟨c0, c1, c2, f1, f2⟩ := h
  have q : ((txt t).toList == (txt t').toList) = false := by
    rw [ByteArray.toList_eq, ByteArray.toList_eq, txt_data, txt_data]; simpa using hne
  clear hne
  go_enter Try.func131, Try.ntmps131
  go_wp2_with fail
  go_ret
  exact ⟨rfl, rfl⟩
def AccPost (s : ByteArray) (p j : Nat) (w : World) (e : Ending) (w' : World) : Prop :=
  Fr (fun k => k = p) w w' ∧ ((∃ k, nextP s.data.toList j = .ok k ∧ e = .returned (.bool true) ∧ PSt w' p s k (firstTok (s.data.toList.drop k))) ∨ ∃ k, nextP s.data.toList j = .error k ∧ e = .panicked [{ v := wrongV k, recovered := false }])
theorem accept_yes (s : ByteArray) (p i : Nat) (t : List UInt8) (w : World) (h : PSt w p s i t) (hi : i + t.length ≤ s.size) (hs : s.size ≤ 9223372036854775807) :
    Calls Try.prog 131 #[.pointer (some ⟨p, 0, none⟩), .string (txt t)] w (AccPost s p (i + t.length) w) := by
  have hn := next_any s p i t w h hi hs
  obtain ⟨c0, c1, c2, f1, f2⟩ := h
  go_enter Try.func131, Try.ntmps131
  go_wp2_with fail
  refine hn.mono ?_
  rintro e w' ⟨F, ⟨k, hk, rfl, hP⟩ | ⟨k, hk, rfl⟩⟩
  · go_wp2_with fail
    go_ret
    exact ⟨F, .inl ⟨k, hk, rfl, hP⟩⟩
  · go_wp2_with fail
    exact ⟨rfl, F, .inr ⟨k, hk, rfl⟩⟩
def ExpPost (s : ByteArray) (p j : Nat) (w : World) (e : Ending) (w' : World) : Prop :=
  Fr (fun k => k = p) w w' ∧ ((∃ k, nextP s.data.toList j = .ok k ∧ e = .returned (.tuple #[]) ∧ PSt w' p s k (firstTok (s.data.toList.drop k))) ∨ ∃ k, nextP s.data.toList j = .error k ∧ e = .panicked [{ v := wrongV k, recovered := false }])
theorem expect_yes (s : ByteArray) (p i : Nat) (t : List UInt8) (w : World) (h : PSt w p s i t) (hi : i + t.length ≤ s.size) (hs : s.size ≤ 9223372036854775807) :
    Calls Try.prog 133 #[.pointer (some ⟨p, 0, none⟩), .string (txt t)] w (ExpPost s p (i + t.length) w) := by
  have hn := accept_yes s p i t w h hi hs
  clear h
  go_enter Try.func133, Try.ntmps133
  go_wp2_with fail
  refine hn.mono ?_
  rintro e w' ⟨F, ⟨k, hk, rfl, hP⟩ | ⟨k, hk, rfl⟩⟩
  · go_wp2_with fail
    exact bodyPost_end (results_none rfl _ _ _) rfl ⟨F, .inl ⟨k, hk, rfl, hP⟩⟩
  · go_wp2_with fail
    exact ⟨rfl, F, .inr ⟨k, hk, rfl⟩⟩
theorem expect_no (s : ByteArray) (p i : Nat) (t t' : List UInt8) (w : World) (h : PSt w p s i t) (hne : t ≠ t') :
    Calls Try.prog 133 #[.pointer (some ⟨p, 0, none⟩), .string (txt t')] w fun e w' => e = .panicked [{ v := wrongV i, recovered := false }] ∧ w = w' := by
  have hn := accept_no s p i t t' w h hne
  obtain ⟨c0, c1, c2, f1, f2⟩ := h
  clear hne
  go_enter Try.func133, Try.ntmps133
  go_wp2_with fail
  refine hn.mono ?_
  rintro e w' ⟨rfl, rfl⟩
  go_wp2_with fail
  exact ⟨rfl, rfl, rfl⟩

/-! trees -/
inductive Tr where
  | mk (op : Nat) (name : List UInt8) (kids : List Tr)
/-- nothing of the block is frozen -/
def Flg (w : World) (b : Nat) : Prop := ∀ o, w.frozen? ⟨b, o, none⟩ = false
theorem Flg.kept {S : Nat → Prop} {w w' : World} {b : Nat} (h : Flg w b) (f : Fr S w w') (hlt : b < w.heap.size) (hS : ¬ S b) : Flg w' b := fun o => (f.frozen (p := ⟨b, o, none⟩) hlt hS).trans (h o)
theorem flg_of {w : World} {g : Nat} {cs : Array Value} {T : TypeId} (h : w.heap[g]? = some (.cells cs T (0, 0))) : Flg w g := fun o => by unfold World.frozen?; simp [h]
theorem flg_new (w : World) (cs : Array Value) (T : TypeId) : Flg (w.alloc (.cells cs T)) w.heap.size := flg_of (MapKept.heap_alloc w _).1
mutual
/-- the value v is the tree, all of whose lists lie in blocks of S, of which nothing is frozen -/
def TrV (w : World) (S : Nat → Prop) : Tr → Value → Prop
  | .mk op name kids, v => ∃ a cap, v = .agg #[.int .u8 (op : Int), .string (txt name), .slice a kids.length cap] ∧ (kids ≠ [] → ∃ b, a = some ⟨b, 0, none⟩ ∧ (S b ∧ Flg w b) ∧ KidsV w S kids b 0)
def KidsV (w : World) (S : Nat → Prop) : List Tr → Nat → Nat → Prop
  | [], _, _ => True
  | t :: ts, b, i => (∃ x y z, w.cell? ⟨b, i * 3, none⟩ = some x ∧ w.cell? ⟨b, i * 3 + 1, none⟩ = some y ∧ w.cell? ⟨b, i * 3 + 2, none⟩ = some z ∧ TrV w S t (.agg #[x, y, z])) ∧ KidsV w S ts b (i + 1)
end
mutual
theorem TrV.kept {w w' : World} {S S' T : Nat → Prop} (f : Fr S' w w') (hS : ∀ b, S b → b < w.heap.size → ¬ S' b ∧ T b) : ∀ {t : Tr} {v : Value}, TrV w S t v → TrV w' T t v
  | .mk op name kids, v, h => by
    rw [TrV] at h ⊢
    obtain ⟨a, cap, rfl, hk⟩ := h
    refine ⟨a, cap, rfl, fun hne => ?_⟩
    obtain ⟨b, rfl, hb, hK⟩ := hk hne
    have hlt : b < w.heap.size := by
      cases kids with
      | nil => exact absurd rfl hne
      | cons t ts =>
        rw [KidsV] at hK
        obtain ⟨⟨x, y, z, h0, _⟩, _⟩ := hK
        exact lt_of_cell h0
    exact ⟨b, rfl, ⟨(hS b hb.1 hlt).2, hb.2.kept f hlt (hS b hb.1 hlt).1⟩, KidsV.kept f hS hb.1 hlt hK⟩
theorem KidsV.kept {w w' : World} {S S' T : Nat → Prop} (f : Fr S' w w') (hS : ∀ b, S b → b < w.heap.size → ¬ S' b ∧ T b) : ∀ {ts : List Tr} {b i : Nat}, S b → b < w.heap.size → KidsV w S ts b i → KidsV w' T ts b i
  | [], _, _, _, _, _ => by rw [KidsV]; trivial
  | t :: ts, b, i, hb, hlt, h => by
    rw [KidsV] at h ⊢
    obtain ⟨⟨x, y, z, h0, h1, h2, hT⟩, hK⟩ := h
    exact ⟨⟨x, y, z, f.cell h0 (hS b hb hlt).1, f.cell h1 (hS b hb hlt).1, f.cell h2 (hS b hb hlt).1, TrV.kept f hS hT⟩, KidsV.kept f hS hb hlt hK⟩
end
end Go.Proofs.Ytaojojjdfdlgpaa
