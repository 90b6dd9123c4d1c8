import Derived.Test.YthpmcilljbmoiaaGreatDoorAppend
import Derived.Laws.MakeOwn
import Derived.Laws.OwnMore
import Derived.Test.YthpmcilljbmoiaaGreatDoorConn
namespace Go.Proofs.YthpmcilljbmoiaaGreatDoor
open Go.RowKit

/-- n times the byte c -/
def rept (c n : Nat) : ByteArray := ⟨Array.replicate n (UInt8.ofNat c)⟩
theorem rept_size (c n : Nat) : (rept c n).size = n := by simp [rept, ByteArray.size]
theorem rept_cells (c n : Nat) (hc : c < 256) : byteCells (rept c n) = List.replicate n (.int .u8 (c : Int)) := by
  simp [rept, byteCells, UInt8.toNat_ofNat_of_lt' hc]
/-- i bytes are written -/
def rowAt (c n i : Nat) : Array Value := (List.replicate i (Value.int .u8 (c : Int)) ++ List.replicate (n - i) (Value.int .u8 0)).toArray
theorem rowAt_get (c n i : Nat) (hi : i < n) : (rowAt c n i)[i]? = some (.int .u8 0) := by
  simp only [rowAt, List.getElem?_toArray]
  rw [List.getElem?_append_right (by simp), List.length_replicate, Nat.sub_self, List.getElem?_replicate, if_pos (by omega)]
theorem rowAt_set (c n i : Nat) (hi : i < n) : (rowAt c n i).setIfInBounds i (.int .u8 (c : Int)) = rowAt c n (i + 1) := by
  apply Array.ext'
  simp only [rowAt, Array.toList_setIfInBounds]
  rw [List.set_append_right _ _ (by simp), List.length_replicate, Nat.sub_self]
  obtain ⟨m, hm⟩ : ∃ m, n - i = m + 1 := ⟨n - i - 1, by omega⟩
  rw [hm, show n - (i + 1) = m by omega, List.replicate_succ, List.set_cons_zero, List.replicate_succ' (n := i), List.append_assoc]
  rfl
theorem mkBytes (w : World) (n : Nat) (hn : n ≤ 1000) : (Instr.makeSlice 126 (.int .i64 n) (.int .i64 n)).run Tryz.prog w = .ok (.slice (some ⟨w.heap.size, 0, none⟩) n n) (w.alloc (.cells (rowAt 0 n 0) 5)) := by
  obtain ⟨i, hi, hz, hs, hb⟩ := info_parts infoU8
  have := run_makeSlice (P := Tryz.prog) w 126 5 i (.int .u8 0) Tryz.underlying126 hi hz .i64 .i64 n n (by omega) (Int.le_refl _) (by rw [hs]; omega) (by rw [hb]; omega) (by omega)
  rw [this]
  have e : madeCells (Value.int .u8 0).cells ((n : Int).toNat * i.size) = rowAt 0 n 0 := by
    apply Array.ext'
    rw [hs, Nat.mul_one, Int.toNat_natCast]
    have := toList_madeCells_one (.int .u8 0) n
    simp only [Value.cells, rowAt, List.replicate_zero, List.nil_append, Nat.sub_zero] at this ⊢
    exact this
  rw [e]
  simp

set_option maxRecDepth 100000 in
set_option maxHeartbeats 1000000 in
theorem fill_any (n c : Nat) (w : World) (hn : n ≤ 100) (hc : c < 256) :
    Calls Tryz.prog 34 #[.int .i64 n, .int .u8 c] w fun r w' => r = .returned (.string (rept c n)) ∧ Below w.heap.size w w' := by
  have hmk := mkBytes w n (by omega)
  go_enter Tryz.func34, Tryz.ntmps34
  go_wp2
  have hB0 : Blk (w.alloc (.cells (rowAt 0 n 0) 5)) w.heap.size 5 (rowAt c n 0) := by
    have : rowAt 0 n 0 = rowAt c n 0 := by simp [rowAt]
    rw [this]; exact Blk.new _ _ _
  have hA0 := Below.alloc (Below.refl w.heap.size w) (Nat.le_refl _) (.cells (rowAt 0 n 0) 5)
  clear hmk
  generalize w.alloc (.cells (rowAt 0 n 0) 5) = W0 at *
  go_loopw [6] (fun iv wr => ∃ i : Nat, i ≤ n ∧ iv = .int .i64 i ∧ Blk wr w.heap.size 5 (rowAt c n i) ∧ Below w.heap.size w wr) (fun iv _ => n - (intOf iv).toNat)
  case atStart => exact ⟨0, by omega, rfl, hB0, hA0⟩
  case round =>
    clear hB0 hA0
    obtain ⟨i, hi, rfl, hB, hA⟩ := hrel
    by_cases hin : i < n
    · have c0 : wr.cell? ⟨w.heap.size, i, none⟩ = some (.int .u8 0) := by rw [hB.cell, rowAt_get c n i hin]
      have f0 := hB.frozen i
      have h1 : (i : Int) < (n : Int) := by omega
      have h2 : (0 : Int) ≤ (i : Int) := by omega
      have hB1 := hB.set i (.int .u8 (c : Int))
      rw [rowAt_set c n i hin] at hB1
      have hA1 := hA.setCell (p := ⟨w.heap.size, i, none⟩) (Nat.le_refl _) (.int .u8 (c : Int))
      go_wp2
      exact ⟨⟨i + 1, by omega, by simp, hB1, hA1⟩, by simp [intOf]; omega⟩
    · obtain rfl : i = n := by omega
      have hbs : Bs wr 5 (.slice (some ⟨w.heap.size, 0, none⟩) i i) (rept c i) := by
        refine .inr ⟨w.heap.size, 0, i, rowAt c i i, by rw [rept_size], hB, by rw [rept_size]; omega, by unfold maxLen; omega, ?_, by rw [rept_cells c i hc, rept_size]; simp, fun j hj => ?_⟩
        · simp [rowAt]
        · rw [rept_cells c i hc]; simp [rowAt, Array.getElem?_replicate, List.getElem?_replicate]
      have hcv := hbs.str (dst := 9) Tryz.underlying126 Tryz.underlying5 Tryz.underlying9
      go_wp2
      go_ret
      exact ⟨rfl, hA⟩
end Go.Proofs.YthpmcilljbmoiaaGreatDoor
namespace Go.Proofs.YthpmcilljbmoiaaGreatDoor
open Go.RowKit
/-- which of m things the raw number z speaks of -/
def pickN (z : Int) (m : Nat) : Nat := (if z < 0 then -(z + 1) else z).toNat % m

set_option maxRecDepth 100000 in
theorem pick_any (z : Int) (m : Nat) (w : World) (hm0 : 0 < m) (hm : m ≤ 100) (hz1 : -9223372036854775808 ≤ z) (hz2 : z ≤ 9223372036854775807) :
    Calls Tryz.prog 18 #[.int .i64 z, .int .i64 m] w fun r w' => r = .returned (.int .i64 (pickN z m : Nat)) ∧ w = w' := by
  have hm1 : ¬ ((m : Int) = 0) := by omega
  by_cases hz : z < 0
  · obtain ⟨y, hy, hy2⟩ : ∃ y : Nat, -(z + 1) = (y : Int) ∧ y ≤ 9223372036854775807 := ⟨(-(z + 1)).toNat, by omega, by omega⟩
    have hp : pickN z m = y % m := by unfold pickN; rw [if_pos hz, hy]; rfl
    rw [hp]
    clear hp
    go_enter Tryz.func18, Tryz.ntmps18
    go_wp2
    go_ret
    exact ⟨by first | rfl | (rw [Int.natCast_emod]; rfl), rfl⟩
  · obtain ⟨y, rfl⟩ : ∃ y : Nat, z = (y : Int) := ⟨z.toNat, by omega⟩
    have hp : pickN (y : Int) m = y % m := by unfold pickN; rw [if_neg hz]; rfl
    rw [hp]
    clear hp
    go_enter Tryz.func18, Tryz.ntmps18
    go_wp2
    go_ret
    exact ⟨by first | rfl | (rw [Int.natCast_emod]; rfl), rfl⟩
end Go.Proofs.YthpmcilljbmoiaaGreatDoor
