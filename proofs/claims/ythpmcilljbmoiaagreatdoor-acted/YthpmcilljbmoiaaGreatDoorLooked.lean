import Derived.Test.YthpmcilljbmoiaaGreatDoorState
import Derived.Test.YthpmcilljbmoiaaGreatDoorResCell
namespace Go.Proofs.YthpmcilljbmoiaaGreatDoor
open Go.RowKit

variable {base : Nat} {w w' : World} {cb db kb sb : Nat} {shv cvv av wv gv wk : Value} {id : Int} {acts : List (ByteArray × ByteArray)} {s going : ByteArray}

set_option maxRecDepth 100000 in
theorem held_any (sb : Nat) (w : World) (k : Int) (h : w.cell? ⟨sb, 2, none⟩ = some (.int .i64 k)) : Calls Tryz.prog 51 #[.pointer (some ⟨sb, 1, none⟩)] w fun r w' => r = .returned (.int .i64 k) ∧ w = w' := by
  go_enter Tryz.func51, Tryz.ntmps51
  go_wp2
  go_ret
  exact ⟨rfl, rfl⟩
set_option maxRecDepth 100000 in
theorem countL_any (db : Nat) (w : World) (h : w.cell? ⟨db, 2, none⟩ = some (.slice none 0 0)) : Calls Tryz.prog 52 #[.pointer (some ⟨db, 2, none⟩)] w fun r w' => r = .returned (.int .i64 0) ∧ w = w' := by
  go_enter Tryz.func52, Tryz.ntmps52
  go_wp2
  go_ret
  exact ⟨rfl, rfl⟩
set_option maxRecDepth 100000 in
theorem countA_any (db n c : Nat) (a : Option Addr) (w : World) (h : w.cell? ⟨db, 4, none⟩ = some (.slice a n c)) : Calls Tryz.prog 53 #[.pointer (some ⟨db, 4, none⟩)] w fun r w' => r = .returned (.int .i64 n) ∧ w = w' := by
  go_enter Tryz.func53, Tryz.ntmps53
  go_wp2
  go_ret
  exact ⟨rfl, rfl⟩
theorem infoView : (Tryz.prog.info? 45).map (·.size) = some 5 := by kernel_rfl
theorem lmk1 (w : World) : (Instr.makeSlice 30 (.int .i64 1) (.int .i64 1)).run Tryz.prog w = .ok (.slice (some ⟨w.heap.size, 0, none⟩) 1 1) (w.alloc (.cells #[.int .i64 0] 3)) := by kernel_rfl

set_option maxRecDepth 100000 in
set_option maxHeartbeats 2000000 in
theorem look_sta (h : Sta base w cb db kb sb shv cvv av wv gv wk id acts s going) :
    Calls Tryz.prog 20 #[.pointer (some ⟨db, 0, none⟩)] w
      fun r w' => r = .returned (.agg #[.int .i64 0, .int .i64 0, .int .i64 acts.length, .int .i64 1, .slice (some ⟨w.heap.size + 1, 0, none⟩) 1 1]) ∧ Below w.heap.size w w' := by
  obtain ⟨b, off, cap, rfl, hu⟩ := Rw.one h.sh
  obtain ⟨a, c, rfl, _⟩ := h.ac.shape
  obtain ⟨b2, off2, cap2, rfl, hu2⟩ := Rw.one h.cv
  have hlb : b < w.heap.size := Rw.lt h.sh rfl
  have c0 : w.cell? ⟨db, 0, none⟩ = some (.slice (some ⟨b, off, none⟩) 1 cap) := h.de.cell 0
  have c1 : w.cell? ⟨db, 1, none⟩ = some (.slice (some ⟨b2, off2, none⟩) 1 cap2) := h.de.cell 1
  have c2 : w.cell? ⟨db, 2, none⟩ = some (.slice none 0 0) := h.de.cell 2
  have c4 : w.cell? ⟨db, 4, none⟩ = some (.slice a acts.length c) := h.de.cell 4
  have c5 : w.cell? ⟨db, 5, none⟩ = some (.int .i64 0) := h.de.cell 5
  have s2 : w.cell? ⟨sb, 2, none⟩ = some (.int .i64 0) := h.sd.cell 2
  have l1 := h.de.lt
  have l2 := h.sd.lt
  have hmk := lmk1
  clear h
  go_enter Tryz.func20, Tryz.ntmps20
  go_wp2
  refine wp_loop_rounds 2 ?_
  rw [rounds_succ]
  go_wp2
  rw [rounds_succ]
  go_wp2
  have hbl : Below w.heap.size w ((w.alloc (.cells #[.int .i64 0, .int .i64 0, .int .i64 0, .int .i64 0, .slice none 0 0] 45)).alloc (.cells #[.int .i64 0] 3)) := ((Below.refl _ _).alloc (Nat.le_refl _) _).alloc (by simp) _
  have hr : Blk ((w.alloc (.cells #[.int .i64 0, .int .i64 0, .int .i64 0, .int .i64 0, .slice none 0 0] 45)).alloc (.cells #[.int .i64 0] 3)) w.heap.size 45 #[.int .i64 0, .int .i64 0, .int .i64 0, .int .i64 0, .slice none 0 0] := (Blk.new _ _ _).alloc _
  generalize (w.alloc (.cells #[.int .i64 0, .int .i64 0, .int .i64 0, .int .i64 0, .slice none 0 0] 45)).alloc (.cells #[.int .i64 0] 3) = W at *
  have k1 : W.cell? ⟨db, 1, none⟩ = some (.slice (some ⟨b2, off2, none⟩) 1 cap2) := (hbl.cell l1).trans c1
  have k2 : W.cell? ⟨db, 2, none⟩ = some (.slice none 0 0) := (hbl.cell l1).trans c2
  have k4 : W.cell? ⟨db, 4, none⟩ = some (.slice a acts.length c) := (hbl.cell l1).trans c4
  have k5 : W.cell? ⟨db, 5, none⟩ = some (.int .i64 0) := (hbl.cell l1).trans c5
  have r0 : W.cell? ⟨w.heap.size, 0, none⟩ = some (.int .i64 0) := hr.cell 0
  have r1 : W.cell? ⟨w.heap.size, 1, none⟩ = some (.int .i64 0) := hr.cell 1
  have r2 : W.cell? ⟨w.heap.size, 2, none⟩ = some (.int .i64 0) := hr.cell 2
  have r3 : W.cell? ⟨w.heap.size, 3, none⟩ = some (.int .i64 0) := hr.cell 3
  have r4 : W.cell? ⟨w.heap.size, 4, none⟩ = some (.slice none 0 0) := hr.cell 4
  have q0 := hr.frozen 0
  have q1 := hr.frozen 1
  have q2 := hr.frozen 2
  have q3 := hr.frozen 3
  have q4 := hr.frozen 4
  have HL := hide (countL_any db (World.drew W) k2)
  have HA := hide (countA_any db acts.length c a (World.drew W) k4)
  clear hmk c0 c1 c2 c4 c5 s2 hu hu2
  go_region_with (first | (go_at_call 52; refine HL.out.mono ?_; rintro e w1 ⟨rfl, rfl⟩) | (go_at_call 53; refine HA.out.mono ?_; rintro e w1 ⟨rfl, rfl⟩))
  all_goals
    go_wp2
    refine bodyPost_ret (v := .agg #[.int .i64 0, .int .i64 0, .int .i64 acts.length, .int .i64 1, .slice (some ⟨w.heap.size + 1, 0, none⟩) 1 1]) ?_ rfl ⟨rfl, ?_⟩
    · have hf := (((((hr.set 0 (.int .i64 0)).set 1 (.int .i64 0)).set 2 (.int .i64 acts.length)).set 3 (.int .i64 1)).set 4 (.slice (some ⟨w.heap.size + 1, 0, none⟩) 1 1)).drew
      simp at hf
      exact results_cell1 rfl _ _ _ w.heap.size _ rfl (run_loadVar_row _ w.heap.size 45 45 _ (0, 0) _ hf Tryz.underlying45 rfl infoView)
    · exact (((((hbl.setCell (Nat.le_refl _) _).setCell (Nat.le_refl _) _).setCell (Nat.le_refl _) _).setCell (Nat.le_refl _) _).setCell (Nat.le_refl _) _).drew
end Go.Proofs.YthpmcilljbmoiaaGreatDoor
