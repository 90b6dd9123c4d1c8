import Derived.Test.YthpmcilljbmoiaaGreatDoorConn
namespace Go.Proofs.YthpmcilljbmoiaaGreatDoor
open Go.RowKit

/-- a reader that has not failed, and what is left -/
def Rd (w : World) (rb : Nat) (s : ByteArray) : Prop := ∃ rv, Blk w rb 293 #[rv, .bool false] ∧ Bs w 5 rv s
theorem Rd.below {w w' : World} {rb : Nat} {s : ByteArray} (h : Rd w rb s) (hk : Below w.heap.size w w') : Rd w' rb s := by
  obtain ⟨rv, h1, h2⟩ := h
  exact ⟨rv, h1.below hk h1.lt, h2.below hk⟩
theorem Rd.lt {w : World} {rb : Nat} {s : ByteArray} (h : Rd w rb s) : rb < w.heap.size := by
  obtain ⟨rv, h1, h2⟩ := h
  exact h1.lt

set_option maxRecDepth 100000 in
set_option maxHeartbeats 400000 in
theorem take_ok (rb : Nat) (s : ByteArray) (n : Nat) (w : World) (h : Rd w rb s) (hn : n ≤ s.size) (_hs : s.size ≤ 6000) :
    Calls Tryz.prog 219 #[.pointer (some ⟨rb, 0, none⟩), .int .i64 n] w
      fun r w' => r = .returned (.string (s.extract 0 n)) ∧ Rd w' rb (s.extract n s.size) ∧ Kept (fun k => k = rb) w w' := by
  obtain ⟨rv, hB, hr⟩ := h
  obtain ⟨a, c, rfl, hc⟩ := hr.shape
  have c0 : w.cell? ⟨rb, 0, none⟩ = _ := hB.cell 0
  have c1 : w.cell? ⟨rb, 1, none⟩ = _ := hB.cell 1
  have f0 := hB.frozen 0
  simp at c0 c1
  obtain ⟨q1, _⟩ := Bs.cut rfl hr 0 n c (by omega) (by omega) (by omega) (by omega)
  obtain ⟨q5, q6⟩ := Bs.cut rfl hr n s.size c (by omega) (by omega) hc (by omega)
  have l1 : ∀ w, (Instr.slice 126 (.slice a s.size c) none (some (.int .i64 n)) none).run Tryz.prog w = .ok (sliced a 0 n c 1) w := fun w => by
    rw [run_slice_h w _ _ _ _ Tryz.underlying126 _ _ (by omega) (by omega)]; first | rfl | (simp; rfl)
  have l3 : ∀ w, (Instr.slice 126 (.slice a s.size c) (some (.int .i64 n)) none none).run Tryz.prog w = .ok (sliced a n s.size c 1) w := fun w => by
    rw [run_slice_l w _ _ _ _ Tryz.underlying126 _ _ (by omega) (by omega)]; first | rfl | (simp; rfl)
  have hcv := q1.str (dst := 9) Tryz.underlying126 Tryz.underlying5 Tryz.underlying9
  have hlt : ¬ ((s.size : Int) < (n : Int)) := by omega
  generalize s.extract 0 n = E2 at *
  generalize s.extract n s.size = E4 at *
  generalize sliced a 0 n c 1 = V1 at *
  generalize sliced a n s.size c 1 = V3 at *
  have hne5 := bs_ne_cn q5 hB (by decide)
  obtain ⟨a5, c5, rfl, _⟩ := q5.shape
  generalize hn4 : E4.size = n4 at *
  go_enter Tryz.func219, Tryz.ntmps219
  go_wp2
  go_ret
  have hk : Kept (fun k => k = rb) w (w.setCell ⟨rb, 0, none⟩ (.slice a5 n4 c5)) := (Kept.refl _ _).set _ _ (fun _ => rfl)
  exact ⟨rfl, ⟨_, by simpa using hB.set 0 (.slice a5 n4 c5), q5.kept hk (fun k hkk e => by subst e; exact hne5 hkk)⟩, hk⟩

theorem size_first (s : ByteArray) (n : Nat) (h : n ≤ s.size) : (s.extract 0 n).size = n := by rw [ByteArray.size_extract]; omega

set_option maxRecDepth 100000 in
set_option maxHeartbeats 400000 in
theorem number_ok (rb : Nat) (s : ByteArray) (n : Nat) (w : World) (h : Rd w rb s) (hn : n ≤ s.size) (hs : s.size ≤ 6000) (hn3 : n = 1 ∨ n = 2 ∨ n = 4) :
    Calls Tryz.prog 215 #[.pointer (some ⟨rb, 0, none⟩), .int .i64 n] w
      fun r w' => r = .returned (.int .i64 (num (s.extract 0 n))) ∧ Rd w' rb (s.extract n s.size) ∧ Kept (fun k => k = rb) w w' := by
  have HC := hide (take_ok rb s n w h hn hs)
  have HN : ∀ w, Calls Tryz.prog 176 #[.string (s.extract 0 n)] w fun r w' => r = .returned (.int .i64 (num (s.extract 0 n))) ∧ w = w' := by
    have hsz := size_first s n hn
    intro w
    rcases hn3 with rfl | rfl | rfl
    · exact numOf1 _ w hsz
    · exact numOf2 _ w hsz
    · exact numOf4 _ w hsz
  have HN := hide HN
  clear hn3
  go_enter Tryz.func215, Tryz.ntmps215
  go_wp2_with (first | (go_at_call 219; refine HC.out.mono ?_; rintro e w1 ⟨rfl, hr1, hk1⟩) | (go_at_call 176; refine (HN.out _).mono ?_; rintro e w2 ⟨rfl, rfl⟩))
  go_ret
  exact ⟨rfl, hr1, hk1⟩

set_option maxRecDepth 100000 in
set_option maxHeartbeats 400000 in
theorem within_ok (rb : Nat) (s : ByteArray) (lo hi : Nat) (w : World) (h : Rd w rb s) (hn : 1 ≤ s.size) (hs : s.size ≤ 6000) (h1 : lo ≤ num (s.extract 0 1)) (h2 : num (s.extract 0 1) ≤ hi) :
    Calls Tryz.prog 216 #[.pointer (some ⟨rb, 0, none⟩), .int .i64 lo, .int .i64 hi] w
      fun r w' => r = .returned (.int .i64 (num (s.extract 0 1))) ∧ Rd w' rb (s.extract 1 s.size) ∧ Kept (fun k => k = rb) w w' := by
  have HC := hide (number_ok rb s 1 w h hn hs (.inl rfl))
  have i1 : ¬ ((num (s.extract 0 1) : Int) < lo) := by omega
  have i2 : ¬ ((hi : Int) < num (s.extract 0 1)) := by omega
  go_enter Tryz.func216, Tryz.ntmps216
  go_wp2_with (go_at_call 215; refine HC.out.mono ?_; rintro e w1 ⟨rfl, hr1, hk1⟩)
  go_ret
  exact ⟨rfl, hr1, hk1⟩
end Go.Proofs.YthpmcilljbmoiaaGreatDoor
