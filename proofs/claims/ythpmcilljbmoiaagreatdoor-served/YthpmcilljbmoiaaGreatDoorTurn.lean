import Derived.Test.YthpmcilljbmoiaaGreatDoorChecked
import Derived.Test.YthpmcilljbmoiaaGreatDoorWord
import Derived.WalkKit
import Derived.WalkSpells
import Derived.WalkLawsBesides
namespace Go.Proofs.YthpmcilljbmoiaaGreatDoor
open Go.RowKit Word

theorem ret_int {k : IntKind} {a b : Int} (h : a = b) : Ending.returned (.int k a) = .returned (.int k b) := by rw [h]

set_option maxHeartbeats 400000 in
theorem right_any (x : Nat) (m : Int) (w : World) (hx : x < 4294967296) (hm : 1 ≤ m) (hm' : m ≤ 31) :
    Calls Tryz.prog 231 #[.int .u32 x, .int .i64 m] w fun e w' => e = .returned (.int .u32 (rr m.toNat x : Nat)) ∧ w' = w := by
  obtain ⟨n, rfl⟩ := Int.eq_ofNat_of_zero_le (show 0 ≤ m by omega)
  rw [Int.toNat_natCast]
  obtain ⟨k, hk⟩ : ∃ k, k = 32 - n := ⟨_, rfl⟩
  have hc := turn_count n (by omega) (by omega)
  rw [← hk] at hc
  have hk1 : 1 ≤ k := by omega
  have hk2 : k ≤ 31 := by omega
  have HR : Hid (bits .or .u32 ((x : Int) * 2 ^ k % 4294967296) ((x : Int) / 2 ^ (32 - k)) = ((rr n x : Nat) : Int)) := by
    have := rr_walk k x (by omega) hx
    rwa [show 32 - k = n by omega] at this ⊢
  clear hk
  go_enter Tryz.func231, Tryz.ntmps231
  go_wp2
  go_ret
  exact ⟨ret_int HR.out, rfl⟩

set_option maxHeartbeats 400000 in
theorem smallOne_any (x : Nat) (w : World) (hx : x < 4294967296) :
    Calls Tryz.prog 207 #[.int .u32 x] w fun e w' => e = .returned (.int .u32 (s1 x : Nat)) ∧ w' = w := by
  go_enter Tryz.func207, Tryz.ntmps207
  go_wp2_with (go_at_call 231; refine (right_any _ _ _ hx (by omega) (by omega)).mono ?_; rintro e w' ⟨rfl, rfl⟩)
  go_ret
  exact ⟨ret_int (s1_walk x hx), rfl⟩

set_option maxHeartbeats 400000 in
theorem smallNought_any (x : Nat) (w : World) (hx : x < 4294967296) :
    Calls Tryz.prog 208 #[.int .u32 x] w fun e w' => e = .returned (.int .u32 (s0 x : Nat)) ∧ w' = w := by
  go_enter Tryz.func208, Tryz.ntmps208
  go_wp2_with (go_at_call 231; refine (right_any _ _ _ hx (by omega) (by omega)).mono ?_; rintro e w' ⟨rfl, rfl⟩)
  go_ret
  exact ⟨ret_int (s0_walk x hx), rfl⟩

set_option maxHeartbeats 400000 in
theorem bigOne_any (x : Nat) (w : World) (hx : x < 4294967296) :
    Calls Tryz.prog 229 #[.int .u32 x] w fun e w' => e = .returned (.int .u32 (S1 x : Nat)) ∧ w' = w := by
  go_enter Tryz.func229, Tryz.ntmps229
  go_wp2_with (go_at_call 231; refine (right_any _ _ _ hx (by omega) (by omega)).mono ?_; rintro e w' ⟨rfl, rfl⟩)
  go_ret
  exact ⟨ret_int (S1_walk x hx), rfl⟩

set_option maxHeartbeats 400000 in
theorem bigNought_any (x : Nat) (w : World) (hx : x < 4294967296) :
    Calls Tryz.prog 230 #[.int .u32 x] w fun e w' => e = .returned (.int .u32 (S0 x : Nat)) ∧ w' = w := by
  go_enter Tryz.func230, Tryz.ntmps230
  go_wp2_with (go_at_call 231; refine (right_any _ _ _ hx (by omega) (by omega)).mono ?_; rintro e w' ⟨rfl, rfl⟩)
  go_ret
  exact ⟨ret_int (S0_walk x hx), rfl⟩

end Go.Proofs.YthpmcilljbmoiaaGreatDoor
