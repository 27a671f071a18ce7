import Derived.Test.YtfhjpldlhhgcnaaDoorProg
import Derived.Test.YtfhjpldlhhgcnaaDoorBddMore
import Derived.Test.YtfhjpldlhhgcnaaDoorMap
import Derived.WalkKit
import Derived.Test.YtfhjpldlhhgcnaaDoorFr
import Derived.Lib.Hide
import Derived.Test.YtfhjpldlhhgcnaaDoorFr
import Derived.WalkSpells
import Derived.WalkLawsBesides
import Derived.Deep.AppendLies
import Derived.Deep.RegionHeld3
namespace Go.Proofs.YtfhjpldlhhgcnaaDoor
open Go.RowKit

/-- the cells of bytes -/
def bs (l : List UInt8) : List Value := l.map fun x => .int .u8 (x.toNat : Int)
theorem bs_append (l m : List UInt8) : bs (l ++ m) = bs l ++ bs m := by simp [bs]
theorem bs_b3 {p : Nat} (hp : p < 16777216) : bs (Bd.b3 p) = [.int .u8 ((p : Int) % 256), .int .u8 ((p : Int) / 256 % 256), .int .u8 ((p : Int) / 65536)] := by
  have h1 : ((UInt8.ofNat p).toNat : Int) = (p : Int) % 256 := by simp [UInt8.toNat_ofNat']
  have h2 : ((UInt8.ofNat (p / 256)).toNat : Int) = (p : Int) / 256 % 256 := by simp [UInt8.toNat_ofNat']
  have h3 : ((UInt8.ofNat (p / 65536)).toNat : Int) = (p : Int) / 65536 := by simp only [UInt8.toNat_ofNat']; omega
  simp only [bs, Bd.b3, List.map_cons, List.map_nil, h1, h2, h3]

theorem info_u8 : (Tryd.prog.info? 5).map (fun i => (i.zero, i.size, i.bytes)) = some (some (.int .u8 0), 1, 1) := by kernel_rfl

set_option maxRecDepth 100000 in
set_option maxHeartbeats 400000 in
theorem appendPlace_any (n : Nat) (v : Value) (l : List UInt8) (p : Nat) (w : World) (hp : p < 16777216) (hown : w.ownsRow 0 5 1 v n (bs l)) (hn : n < 33554432) :
    Calls Tryd.prog 110 #[v, .int .u32 (p : Int)] w fun e w' =>
      ∃ g cap, e = .returned (.slice (some ⟨g, 0, none⟩) (n + 3) cap) ∧ w'.ownsRow 0 5 1 (.slice (some ⟨g, 0, none⟩) (n + 3) cap) (n + 3) (bs (l ++ Bd.b3 p)) ∧ w.grownBy w' v.ownBlock ∧ (v.ownBlock = some g ∨ w.heap.size ≤ g) := by
  obtain ⟨i0, hi, hz0, hz1, hz2⟩ := info_parts info_u8
  have hq := bs_b3 hp
  have HQ : Hid (bs (l ++ Bd.b3 p) = bs l ++ [.int .u8 ((p : Int) % 256), .int .u8 ((p : Int) / 256 % 256), .int .u8 ((p : Int) / 65536)]) := Lib.hid (by rw [bs_append, hq])
  clear hq
  go_enter Tryd.func110, Tryd.ntmps110
  go_wp2_with (at_builtin; refine wpList_append_lies _ rfl _ _ 154 rfl 0 5 i0 (.int .u8 0) 1 1 Tryd.underlying154 hi hz0 hz1 hz2 rfl (by decide) _ _ _ rfl (hown.alloc _) ⟨w.heap.size, 0, none⟩ 3 3 [.int .u8 ((p : Int) % 256), .int .u8 ((p : Int) / 256 % 256), .int .u8 ((p : Int) / 65536)] rfl rfl ?c1 ?c2 (by decide) ?c3 ?c4 (Nat.zero_le _) (w.heap.size + 1) (by simp) ?_)
  case c1 =>
    intro j u h
    match j, h with
    | 0, h => simp at h; subst h; simp [Addr.add]
    | 1, h => simp at h; subst h; simp [Addr.add]
    | 2, h => simp at h; subst h; simp [Addr.add]
  case c2 => simp [Value.oneCell']
  case c3 => unfold maxLen; omega
  case c4 => omega
  intro g cap w1 hown' hgrow hat _
  go_wp2
  go_ret
  exact ⟨g, cap, rfl, HQ.out ▸ hown', ⟨hgrow.os, hgrow.tape, hgrow.output, Nat.le_trans (by simp) hgrow.size, fun k hk hne => (hgrow.block k (by simp; omega) hne).trans (Below.heap_alloc w _ k hk)⟩, hat.imp id (by omega)⟩
end Go.Proofs.YtfhjpldlhhgcnaaDoor
