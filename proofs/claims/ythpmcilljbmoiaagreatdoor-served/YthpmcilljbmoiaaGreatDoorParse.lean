import Derived.Test.YthpmcilljbmoiaaGreatDoorReqGet
namespace Go.Proofs.YthpmcilljbmoiaaGreatDoor
open Go.RowKit

set_option maxRecDepth 100000 in
set_option maxHeartbeats 400000 in
theorem parse_of (iv : Value) (s z : ByteArray) (T : TypeId) (v : Value) (w : World) (h : Bs w 5 iv s) (hz : z.size = 0)
    (HR : Hid (∀ w rb, Rd w rb s → Calls Tryz.prog 177 #[.pointer (some ⟨rb, 0, none⟩)] w
      fun r w' => r = .returned (.iface T v) ∧ Rd w' rb z ∧ Kept (fun k => k = rb) w w')) :
    Calls Tryz.prog 129 #[iv] w
      fun r w' => r = .returned (.tuple #[.iface T v, .bool true]) ∧ Below w.heap.size w w' := by
  obtain ⟨a, c, rfl, hc⟩ := h.shape
  have hA := Below.alloc (Below.refl w.heap.size w) (Nat.le_refl _) (.cells #[.slice a s.size c, .bool false] 293)
  have hr : Rd (w.alloc (.cells #[.slice a s.size c, .bool false] 293)) w.heap.size s := ⟨_, Blk.new _ _ _, h.below hA⟩
  have HC := hide (HR.out _ _ hr)
  clear HR hr
  go_enter Tryz.func129, Tryz.ntmps129
  go_wp2_with (go_at_call 177; refine HC.out.mono ?_; rintro e w1 ⟨rfl, ⟨rv, hb, hz1⟩, hk1⟩; obtain ⟨a1, c1, rfl, _⟩ := hz1.shape; rw [hz] at hb; have c0 : w1.cell? ⟨w.heap.size, 0, none⟩ = some (.slice a1 0 c1) := hb.cell 0; have c1 : w1.cell? ⟨w.heap.size, 1, none⟩ = some (.bool false) := hb.cell 1)
  go_ret2
  exact ⟨rfl, hA.trans (hk1.toBelow (fun k hk e => by omega) (by simp))⟩
end Go.Proofs.YthpmcilljbmoiaaGreatDoor
