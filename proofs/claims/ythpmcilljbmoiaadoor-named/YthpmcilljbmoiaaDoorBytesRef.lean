import Derived.Test.YthpmcilljbmoiaaDoorNameOf
namespace Go.Proofs.YthpmcilljbmoiaaDoor
open Go.RowKit

def zero2 : Array Value := c8 (List.replicate 2 0)
theorem make2 (w : World) : (Instr.makeSlice 90 (.int .i64 2) (.int .i64 2)).run Tryd.prog w = .ok (.slice (some ⟨w.heap.size, 0, none⟩) 2 2) (w.alloc (.cells zero2 5)) := by kernel_rfl

set_option maxRecDepth 100000 in
set_option maxHeartbeats 1000000 in
theorem bytes2_any (n : Nat) (w : World) (hn : n ≤ 120) :
    Calls Tryd.prog 38 #[.int .i64 n, .int .i64 2] w
      fun r w' => r = .returned (.string (strOf (be 2 n))) ∧ Below w.heap.size w w' := by
  have hmk := make2
  have HP : Hid (putc zero2 0 2 n = c8 (be 2 n)) := by
    show putc zero2 0 2 n = _
    have := putc_be 0 2 n (List.replicate 2 0) (by simp)
    rw [zero2, this]
    simp
  go_enter Tryd.func38, Tryd.ntmps38
  go_wp2_with fail
  go_loopw [0, 6] (fun v iv wr => ∃ (k z : Nat) (A : Array Value), k ≤ 2 ∧ z ≤ 120 ∧ v = .int .i64 z ∧ iv = .int .i64 ((k : Int) - 1) ∧ A.size = 2 ∧ Blk wr w.heap.size 5 A ∧ Hid (putc A 0 k z = putc zero2 0 2 n) ∧ Below w.heap.size w wr)
    (fun _ iv _ => (intOf iv + 1).toNat)
  case atStart => exact ⟨2, n, zero2, by omega, hn, rfl, rfl, by decide, Blk.new _ _ _, rfl, (Below.refl _ _).alloc (Nat.le_refl _) _⟩
  case round =>
    clear hmk
    obtain ⟨k, z, A, hk, hz, rfl, rfl, hA, xa, HQ, hbel⟩ := hrel
    cases k with
    | zero =>
      have xf : Blk wr w.heap.size 5 (c8 (be 2 n)) := by
        have h1 := HQ.out
        rw [HP.out] at h1
        simp only [putc] at h1
        rw [← h1]; exact xa
      have hcv := toStr wr w.heap.size 2 5 (be 2 n) 2 (be_len _ _).symm xf (be_lt _ _)
      go_wp2
      go_ret
      exact ⟨rfl, hbel⟩
    | succ k =>
      rw [show ((k + 1 : Nat) : Int) - 1 = (k : Int) by omega]
      have c1 : wr.cell? ⟨w.heap.size, k, none⟩ = some (A.getD k undef) := by rw [xa.cell]; simp [show k < A.size by omega]
      have f1 := xa.frozen k
      have n1 := xa.set k (.int .u8 ((z % 256 : Nat) : Int))
      have HQ2 : Hid (putc (A.setIfInBounds k (.int .u8 ((z % 256 : Nat) : Int))) 0 k (z / 256) = putc zero2 0 2 n) := by
        have h1 := HQ.out
        simp only [putc, Nat.zero_add] at h1
        exact h1
      rw [show ((z % 256 : Nat) : Int) = (z : Int) % 256 by omega] at n1 HQ2
      go_wp2
      go_roundw
      case rel => exact ⟨k, z / 256, _, by omega, by omega, congrArg (Value.int .i64) (by omega), by go_num, by simp [hA], n1, HQ2, hbel.setCell (Nat.le_refl _) _⟩
      case measure => simp [intOf]
end Go.Proofs.YthpmcilljbmoiaaDoor
