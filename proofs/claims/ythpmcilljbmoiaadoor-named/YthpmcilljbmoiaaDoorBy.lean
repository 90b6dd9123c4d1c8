import Derived.Test.YthpmcilljbmoiaaDoorChecked
import Derived.Test.YthpmcilljbmoiaaDoorWord
import Derived.Test.YthpmcilljbmoiaaDoorBlk
import Derived.WalkSpells
import Derived.WalkLawsBesides
namespace Go.Proofs.YthpmcilljbmoiaaDoor
open Go.RowKit Word

theorem by_walk (x : Nat) (n : Nat) (hx : x < 4294967296) (hn : n ≤ 32) : (bits .or .u64 ((x : Int) * 4294967296) (x : Int) / 2 ^ n) % 4294967296 = ((rr n x : Nat) : Int) := by
  rw [or_word x hx, ← rr_ref n x hn hx]
  simp
theorem by_tmod (x : Nat) (n : Nat) (hx : x < 4294967296) (hn : n ≤ 32) : (bits .or .u64 ((x : Int) * 4294967296) (x : Int) / 2 ^ n).tmod 4294967296 = ((rr n x : Nat) : Int) := by
  rw [Int.tmod_eq_emod_of_nonneg (by rw [or_word x hx]; exact Int.ediv_nonneg (by omega) (Int.pow_nonneg (by decide))), by_walk x n hx hn]
theorem ret_u64 {a b : Int} (h : a = b) : Ending.returned (.int .u64 a) = .returned (.int .u64 b) := by rw [h]
set_option maxHeartbeats 400000 in
theorem by_any (x : Nat) (m : Int) (w : World) (hx : x < 4294967296) (hm : 0 ≤ m) (hm' : m ≤ 32) :
    Calls Tryd.prog 78 #[.int .u64 x, .int .u64 m] w fun e w' => e = .returned (.int .u64 (rr m.toNat x : Nat)) ∧ w' = w := by
  obtain ⟨n, rfl⟩ := Int.eq_ofNat_of_zero_le hm
  rw [Int.toNat_natCast]
  have HW := hide (by_tmod x n hx (by omega))
  have HX := hide hx
  have hx1 : (x : Int) ≤ 4294967295 := by omega
  clear hx
  go_enter Tryd.func78, Tryd.ntmps78
  go_wp2
  go_ret
  exact ⟨ret_u64 HW.out, rfl⟩
end Go.Proofs.YthpmcilljbmoiaaDoor
