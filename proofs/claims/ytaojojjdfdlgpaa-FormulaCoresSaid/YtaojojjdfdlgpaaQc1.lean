import Derived.Test.YtaojojjdfdlgpaaQf
import Derived.Deep.CutRange
namespace Go.Proofs.Ytaojojjdfdlgpaa
open Go.RowKit

/-! trees whose lists lie anywhere in their blocks -/
mutual
/-- the value v is the tree, all of whose lists lie in blocks of S -/
def TrO (w : World) (S : Nat → Prop) : Tr → Value → Prop
  | .mk op name kids, v => ∃ a cap, v = .agg #[.int .u8 (op : Int), .string (txt name), .slice a kids.length cap] ∧ (kids ≠ [] → ∃ b ob, a = some ⟨b, ob, none⟩ ∧ S b ∧ KidsO w S kids b ob 0)
def KidsO (w : World) (S : Nat → Prop) : List Tr → Nat → Nat → Nat → Prop
  | [], _, _, _ => True
  | t :: ts, b, ob, i => (∃ x y z, w.cell? ⟨b, ob + i * 3, none⟩ = some x ∧ w.cell? ⟨b, ob + i * 3 + 1, none⟩ = some y ∧ w.cell? ⟨b, ob + i * 3 + 2, none⟩ = some z ∧ TrO w S t (.agg #[x, y, z])) ∧ KidsO w S ts b ob (i + 1)
end
mutual
theorem TrO.kept {w w' : World} {S S' T : Nat → Prop} (f : Fr S' w w') (hS : ∀ b, S b → b < w.heap.size → ¬ S' b ∧ T b) : ∀ {t : Tr} {v : Value}, TrO w S t v → TrO w' T t v
  | .mk op name kids, v, h => by
    rw [TrO] at h ⊢
    obtain ⟨a, cap, rfl, hk⟩ := h
    refine ⟨a, cap, rfl, fun hne => ?_⟩
    obtain ⟨b, ob, rfl, hb, hK⟩ := hk hne
    have hlt : b < w.heap.size := by
      cases kids with
      | nil => exact absurd rfl hne
      | cons t ts =>
        rw [KidsO] at hK
        obtain ⟨⟨x, y, z, h0, _⟩, _⟩ := hK
        exact lt_of_cell h0
    exact ⟨b, ob, rfl, (hS b hb hlt).2, KidsO.kept f hS hb hlt hK⟩
theorem KidsO.kept {w w' : World} {S S' T : Nat → Prop} (f : Fr S' w w') (hS : ∀ b, S b → b < w.heap.size → ¬ S' b ∧ T b) : ∀ {ts : List Tr} {b ob i : Nat}, S b → b < w.heap.size → KidsO w S ts b ob i → KidsO w' T ts b ob i
  | [], _, _, _, _, _, _ => by rw [KidsO]; trivial
  | t :: ts, b, ob, i, hb, hlt, h => by
    rw [KidsO] at h ⊢
    obtain ⟨⟨x, y, z, h0, h1, h2, hT⟩, hK⟩ := h
    exact ⟨⟨x, y, z, f.cell h0 (hS b hb hlt).1, f.cell h1 (hS b hb hlt).1, f.cell h2 (hS b hb hlt).1, TrO.kept f hS hT⟩, KidsO.kept f hS hb hlt hK⟩
end
mutual
theorem TrV.toO {w : World} {S : Nat → Prop} : ∀ {t : Tr} {v : Value}, TrV w S t v → TrO w S t v
  | .mk op name kids, v, h => by
    rw [TrV] at h
    rw [TrO]
    obtain ⟨a, cap, rfl, hk⟩ := h
    refine ⟨a, cap, rfl, fun hne => ?_⟩
    obtain ⟨b, rfl, hb, hK⟩ := hk hne
    exact ⟨b, 0, rfl, hb.1, KidsV.toO hK⟩
theorem KidsV.toO {w : World} {S : Nat → Prop} : ∀ {ts : List Tr} {b i : Nat}, KidsV w S ts b i → KidsO w S ts b 0 i
  | [], _, _, _ => by rw [KidsO]; trivial
  | t :: ts, b, i, h => by
    rw [KidsV] at h
    rw [KidsO]
    obtain ⟨⟨x, y, z, h0, h1, h2, hT⟩, hK⟩ := h
    rw [Nat.zero_add]
    exact ⟨⟨x, y, z, h0, h1, h2, TrV.toO hT⟩, KidsV.toO hK⟩
end
mutual
theorem TrV.toZ {w : World} {S : Nat → Prop} : ∀ {t : Tr} {v : Value}, TrV w S t v → TrO w (fun b => S b ∧ Flg w b) t v
  | .mk op name kids, v, h => by
    rw [TrV] at h
    rw [TrO]
    obtain ⟨a, cap, rfl, hk⟩ := h
    refine ⟨a, cap, rfl, fun hne => ?_⟩
    obtain ⟨b, rfl, hb, hK⟩ := hk hne
    exact ⟨b, 0, rfl, hb, KidsV.toZ hK⟩
theorem KidsV.toZ {w : World} {S : Nat → Prop} : ∀ {ts : List Tr} {b i : Nat}, KidsV w S ts b i → KidsO w (fun b => S b ∧ Flg w b) ts b 0 i
  | [], _, _, _ => by rw [KidsO]; trivial
  | t :: ts, b, i, h => by
    rw [KidsV] at h
    rw [KidsO]
    obtain ⟨⟨x, y, z, h0, h1, h2, hT⟩, hK⟩ := h
    rw [Nat.zero_add]
    exact ⟨⟨x, y, z, h0, h1, h2, TrV.toZ hT⟩, KidsV.toZ hK⟩
end
theorem TrO.form {w : World} {S : Nat → Prop} {t : Tr} {v : Value} (h : TrO w S t v) : ∃ (o : Nat) (nm : List UInt8) (a : Option Addr) (n c : Nat), v = .agg #[.int .u8 (o : Int), .string (txt nm), .slice a n c] := by
  cases t with
  | mk op name kids =>
    rw [TrO] at h
    obtain ⟨a, cap, rfl, _⟩ := h
    exact ⟨op, name, a, _, cap, rfl⟩
theorem KidsO.at {w : World} {S : Nat → Prop} {b ob : Nat} : ∀ {ts : List Tr} {i k : Nat} {t : Tr}, KidsO w S ts b ob i → ts[k]? = some t → ∃ x y z, w.cell? ⟨b, ob + (i + k) * 3, none⟩ = some x ∧ w.cell? ⟨b, ob + (i + k) * 3 + 1, none⟩ = some y ∧ w.cell? ⟨b, ob + (i + k) * 3 + 2, none⟩ = some z ∧ TrO w S t (.agg #[x, y, z])
  | a :: ts, i, 0, t, h, hk => by
    obtain rfl : a = t := by simpa using hk
    rw [KidsO] at h
    exact h.1
  | a :: ts, i, k + 1, t, h, hk => by
    rw [KidsO] at h
    have := KidsO.at h.2 (k := k) (t := t) (by simpa using hk)
    rwa [show i + 1 + k = i + (k + 1) by omega] at this
end Go.Proofs.Ytaojojjdfdlgpaa
