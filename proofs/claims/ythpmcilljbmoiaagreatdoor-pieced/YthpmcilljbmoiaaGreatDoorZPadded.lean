import Derived.Test.YthpmcilljbmoiaaGreatDoorZ16
import Derived.Lib.BufferWrite
import Derived.Deep.OwnRows
import Derived.Deep.WholeRow
namespace Go.Proofs.YthpmcilljbmoiaaGreatDoor
open Go.RowKit Go.Lib

/-- a text's bytes -/
def nats (s : ByteArray) : List Nat := s.data.toList.map fun b => b.toNat
theorem nats_len (s : ByteArray) : (nats s).length = s.size := by simp [nats]
theorem nats_lt (s : ByteArray) (i : Nat) : (nats s).getD i 0 < 256 := by
  simp only [nats, List.getD_eq_getElem?_getD, List.getElem?_map]
  cases s.data.toList[i]? with
  | none => decide
  | some b => exact b.toNat_lt
theorem copied (s : ByteArray) (z : Nat) : (List.take 0 (madeCells #[Value.int .u8 0] z).toList ++ byteCells s.data.toList ++ List.drop (0 + s.size) (madeCells #[Value.int .u8 0] z).toList).toArray = c8 (nats s ++ List.replicate (z - s.size) 0) := by
  rw [toList_madeCells_one]
  simp [c8, nats, byteCells]
theorem infoByte : (Tryz.prog.info? 5).map (fun i => (i.zero, i.size, i.bytes)) = some (some (.int .u8 0), 1, 1) := by kernel_rfl
theorem infoByte1 : (Tryz.prog.info? 5).map (·.size) = some 1 := by kernel_rfl

set_option maxRecDepth 100000 in
set_option maxHeartbeats 400000 in
theorem padded_any (s : ByteArray) (w : World) (hs : s.size ≤ 120) :
    Calls Tryz.prog 155 #[.string s] w
      fun r w' => r = .returned (.slice (some ⟨w.heap.size, 0, none⟩) (rows s.size) (rows s.size)) ∧ Blk w' w.heap.size 5 (c8 (pad (nats s))) ∧ Below w.heap.size w w' := by
  have er : ((s.size : Int) + 1 + 8 + 64 - 1) / 64 * 64 = ((rows s.size : Nat) : Int) := by unfold rows; omega
  have hR1 : s.size + 9 ≤ rows s.size := by unfold rows; omega
  have hR2 : rows s.size ≤ 192 := by unfold rows; omega
  have HF := hide (pad_made (nats s))
  rw [nats_len] at HF
  generalize rows s.size = R at *
  have hmk := run_make_row' (P := Tryz.prog) 126 5 (.int .u8 0) 1 Tryz.underlying126 infoByte rfl .i64 .i64 R (by omega) (by omega)
  have hcp : ∀ ty, (Builtin.copy_ #[126, 9] ty #[.slice (some ⟨w.heap.size, 0, none⟩) R R, .string s]).run Tryz.prog (w.alloc (.cells (madeCells #[Value.int .u8 0] R) 5)) = .ok (goInt s.size) (w.alloc (.cells (c8 (nats s ++ List.replicate (R - s.size) 0)) 5)) := fun ty => by
    rw [run_copy_row_string (w.alloc (.cells (madeCells #[Value.int .u8 0] R) 5)) 126 9 ty 5 w.heap.size 0 R R s (madeCells #[Value.int .u8 0] R) 5 Tryz.underlying126 infoByte1 (Blk.new _ _ _) (by omega) (by rw [size_madeCells]; omega), copied, World.setRow_alloc_new]
  have hc0 : (c8 (nats s ++ List.replicate (R - s.size) 0))[s.size]? = some (.int .u8 0) := by
    rw [c8_get _ _ (by simp [nats_len]; omega), ← nats_len s]
    simp [show 0 < R - (nats s).length by rw [nats_len]; omega]
  have hsz : ((c8 (nats s ++ List.replicate (R - s.size) 0)).setIfInBounds s.size (.int .u8 128)).size = R := by
    simp [c8_size, nats_len]; omega
  have HSZ := hide hsz
  clear hsz
  go_enter Tryz.func155, Tryz.ntmps155
  go_wp2_with fail
  refine (putNumber_int _ _ _ _ _ 5 _ _ (by omega) (by omega) (by omega) (by rw [HSZ.out]; omega) (Blk.new _ _ _)).mono ?_
  rintro e w1 ⟨rfl, b1, ho⟩
  rw [show R - (R - 8) = 8 by omega, show ((s.size : Int) * 8).toNat = 8 * s.size by omega, HF.out] at b1
  have hbel := Below.only ((Below.refl w.heap.size w).alloc (Nat.le_refl _) _) ho (Nat.le_refl _)
  clear hc0 hcp hmk ho
  go_wp2
  go_ret
  exact ⟨rfl, b1, hbel⟩
end Go.Proofs.YthpmcilljbmoiaaGreatDoor
