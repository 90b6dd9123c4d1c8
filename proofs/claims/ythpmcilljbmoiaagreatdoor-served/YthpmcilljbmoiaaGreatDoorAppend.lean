import Derived.Test.YthpmcilljbmoiaaGreatDoorProg
import Derived.Test.YthpmcilljbmoiaaGreatDoorBs
import Derived.WalkKit
import Derived.WalkSmall
import Derived.WalkLawsBesides
import Derived.OwnWalk
namespace Go.Proofs.YthpmcilljbmoiaaGreatDoor
open Go.RowKit

theorem infoU8 : (Tryz.prog.info? 5).map (fun i => (i.zero, i.size, i.bytes)) = some (some (.int .u8 0), 1, 1) := by kernel_rfl
set_option maxRecDepth 100000 in
set_option maxHeartbeats 400000 in
theorem append1_any (v : Value) (s : ByteArray) (n : Nat) (w : World) (hn : n < 256) (hs : s.size ≤ 50000) (hv : Bs w 5 v s) :
    Calls Tryz.prog 112 #[v, .int .i64 n, .int .i64 1] w
      fun r w' => ∃ v', r = .returned v' ∧ Bs w' 5 v' (s ++ b8 (n)) ∧ Kept (fun k => v.ownBlock = some k) w w' ∧ Home w v v' := by
  go_enter Tryz.func112, Tryz.ntmps112
  go_wp2
  refine wp_loop_rounds 2 ?_
  rw [rounds_succ]
  go_wp2_with (at_builtin; refine wpList_append_byte w _ rfl (.tmp 15) (.tmp 20) 126 rfl 5 Tryz.underlying126 infoU8 v _ rfl hv rfl (n) ?_ ?_ ?_ ?_)
  · omega
  · omega
  · omega
  intro v1 w1 b1 k1 h1
  go_wp2
  rw [rounds_succ]
  go_wp2
  go_ret
  exact ⟨_, rfl, b1, k1, h1⟩
set_option maxRecDepth 100000 in
set_option maxHeartbeats 400000 in
theorem append2_any (v : Value) (s : ByteArray) (n : Nat) (w : World) (hn : n < 65536) (hs : s.size ≤ 50000) (hv : Bs w 5 v s) :
    Calls Tryz.prog 112 #[v, .int .i64 n, .int .i64 2] w
      fun r w' => ∃ v', r = .returned v' ∧ Bs w' 5 v' (s ++ b8 (n / 256) ++ b8 (n % 256)) ∧ Kept (fun k => v.ownBlock = some k) w w' ∧ Home w v v' := by
  go_enter Tryz.func112, Tryz.ntmps112
  go_wp2
  refine wp_loop_rounds 3 ?_
  rw [rounds_succ]
  go_wp2_with (at_builtin; refine wpList_append_byte w _ rfl (.tmp 15) (.tmp 20) 126 rfl 5 Tryz.underlying126 infoU8 v _ rfl hv rfl (n / 256) ?_ ?_ ?_ ?_)
  · omega
  · omega
  · omega
  intro v1 w1 b1 k1 h1
  go_wp2
  rw [rounds_succ]
  go_wp2_with (at_builtin; refine wpList_append_byte w1 _ rfl (.tmp 15) (.tmp 20) 126 rfl 5 Tryz.underlying126 infoU8 v1 _ rfl b1 rfl (n % 256) ?_ ?_ ?_ ?_)
  · omega
  · omega
  · rw [ByteArray.size_append, b8_size]; omega
  intro v2 w2 b2 k2 h2
  go_wp2
  rw [rounds_succ]
  go_wp2
  go_ret
  exact ⟨_, rfl, b2, k1.next k2 h1.old, h1.trans k1.size h2⟩
end Go.Proofs.YthpmcilljbmoiaaGreatDoor
