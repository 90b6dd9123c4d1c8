import Derived.Test.YthpmcilljbmoiaaGreatDoorPick
namespace Go.Proofs.YthpmcilljbmoiaaGreatDoor
open Go.RowKit

theorem bmk1 (w : World) : (Instr.makeSlice 126 (.int .i64 1) (.int .i64 1)).run Tryz.prog w = .ok (.slice (some ⟨w.heap.size, 0, none⟩) 1 1) (w.alloc (.cells #[.int .u8 0] 5)) := by kernel_rfl
theorem bmk2 (w : World) : (Instr.makeSlice 126 (.int .i64 2) (.int .i64 2)).run Tryz.prog w = .ok (.slice (some ⟨w.heap.size, 0, none⟩) 2 2) (w.alloc (.cells #[.int .u8 0, .int .u8 0] 5)) := by kernel_rfl
theorem bmk4 (w : World) : (Instr.makeSlice 126 (.int .i64 4) (.int .i64 4)).run Tryz.prog w = .ok (.slice (some ⟨w.heap.size, 0, none⟩) 4 4) (w.alloc (.cells #[.int .u8 0, .int .u8 0, .int .u8 0, .int .u8 0] 5)) := by kernel_rfl

theorem bs_lit (w : World) (s : ByteArray) (cs : Array Value) (n : Nat) (hn : s.size = n) (hcs : cs.toList = byteCells s) (hm : n ≤ 1000) : Bs (w.alloc (.cells cs 5)) 5 (.slice (some ⟨w.heap.size, 0, none⟩) n n) s := by
  subst hn
  have hl : cs.size = s.size := by rw [← byteCells_length s, ← hcs, Array.length_toList]
  refine .inr ⟨w.heap.size, 0, s.size, cs, rfl, Blk.new _ _ _, Nat.le_refl _, by unfold maxLen; omega, by omega, by rw [byteCells_length, Nat.mul_one], fun j hj => ?_⟩
  rw [Nat.zero_add, ← hcs]
  simp
theorem b8_cells (k : Nat) (z : Int) (hz : z = (k : Int)) (hk : k < 256) : byteCells (b8 k) = [.int .u8 z] := by
  subst hz
  simp [byteCells, b8, UInt8.toNat_ofNat_of_lt' hk]
def key4 (v : Nat) : ByteArray := b8 0 ++ b8 0 ++ b8 0 ++ b8 v

set_option maxRecDepth 100000 in
set_option maxHeartbeats 400000 in
theorem bytes1 (v : Nat) (w : World) (hv : v < 256) :
    Calls Tryz.prog 28 #[.int .i64 v, .int .i64 1] w
      fun r w' => r = .returned (.string (b8 v)) ∧ Below w.heap.size w w' := by
  have hmk := bmk1
  have hcv := (bs_lit w (b8 v) #[.int .u8 ((v : Int) % 256)] 1 rfl (by rw [b8_cells v ((v : Int) % 256) (by omega) hv]) (by decide)).str (dst := 9) Tryz.underlying126 Tryz.underlying5 Tryz.underlying9
  have hA := Below.alloc (Below.refl w.heap.size w) (Nat.le_refl _) (.cells #[.int .u8 ((v : Int) % 256)] 5)
  generalize b8 v = S at *
  go_enter Tryz.func28, Tryz.ntmps28
  go_wp2
  refine wp_loop_rounds 2 ?_
  rw [rounds_succ]
  go_wp2
  rw [rounds_succ]
  go_wp2
  go_ret
  exact ⟨rfl, hA⟩
set_option maxRecDepth 100000 in
set_option maxHeartbeats 400000 in
theorem bytes2 (v : Nat) (w : World) (hv : v < 65536) :
    Calls Tryz.prog 28 #[.int .i64 v, .int .i64 2] w
      fun r w' => r = .returned (.string (b8 (v / 256) ++ b8 (v % 256))) ∧ Below w.heap.size w w' := by
  have hmk := bmk2
  have hcv := (bs_lit w (b8 (v / 256) ++ b8 (v % 256)) #[.int .u8 ((v : Int) / 256 % 256), .int .u8 ((v : Int) % 256)] 2 (two_size _ _) (by rw [byteCells_app, b8_cells (v / 256) ((v : Int) / 256 % 256) (by omega) (by omega), b8_cells (v % 256) ((v : Int) % 256) (by omega) (by omega)]; rfl) (by decide)).str (dst := 9) Tryz.underlying126 Tryz.underlying5 Tryz.underlying9
  have hA := Below.alloc (Below.refl w.heap.size w) (Nat.le_refl _) (.cells #[.int .u8 ((v : Int) / 256 % 256), .int .u8 ((v : Int) % 256)] 5)
  generalize b8 (v / 256) ++ b8 (v % 256) = S at *
  go_enter Tryz.func28, Tryz.ntmps28
  go_wp2
  refine wp_loop_rounds 3 ?_
  rw [rounds_succ]
  go_wp2
  rw [rounds_succ]
  go_wp2
  rw [rounds_succ]
  go_wp2
  go_ret
  exact ⟨rfl, hA⟩
set_option maxRecDepth 100000 in
set_option maxHeartbeats 400000 in
theorem bytes4 (v : Nat) (w : World) (hv : v < 256) :
    Calls Tryz.prog 28 #[.int .i64 v, .int .i64 4] w
      fun r w' => r = .returned (.string (key4 v)) ∧ Below w.heap.size w w' := by
  have hmk := bmk4
  have hcv := (bs_lit w (key4 v) #[.int .u8 ((v : Int) / 256 / 256 / 256 % 256), .int .u8 ((v : Int) / 256 / 256 % 256), .int .u8 ((v : Int) / 256 % 256), .int .u8 ((v : Int) % 256)] 4 (by simp only [key4, ByteArray.size_append, b8_size]) (by rw [key4, byteCells_app, byteCells_app, byteCells_app, b8_cells v ((v : Int) % 256) (by omega) (by omega), b8_cells 0 0 rfl (by omega)]; simp; omega) (by decide)).str (dst := 9) Tryz.underlying126 Tryz.underlying5 Tryz.underlying9
  have hA := Below.alloc (Below.refl w.heap.size w) (Nat.le_refl _) (.cells #[.int .u8 ((v : Int) / 256 / 256 / 256 % 256), .int .u8 ((v : Int) / 256 / 256 % 256), .int .u8 ((v : Int) / 256 % 256), .int .u8 ((v : Int) % 256)] 5)
  generalize key4 v = S at *
  go_enter Tryz.func28, Tryz.ntmps28
  go_wp2
  refine wp_loop_rounds 5 ?_
  rw [rounds_succ]
  go_wp2
  rw [rounds_succ]
  go_wp2
  rw [rounds_succ]
  go_wp2
  rw [rounds_succ]
  go_wp2
  rw [rounds_succ]
  go_wp2
  go_ret
  exact ⟨rfl, hA⟩
end Go.Proofs.YthpmcilljbmoiaaGreatDoor
