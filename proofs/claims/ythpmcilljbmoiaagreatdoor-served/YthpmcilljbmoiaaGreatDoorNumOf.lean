import Derived.Test.YthpmcilljbmoiaaGreatDoorAppend
import Derived.Laws.Bits64
import Derived.Laws.BitsLemmas
namespace Go.Proofs.YthpmcilljbmoiaaGreatDoor
open Go.RowKit

theorem orn64 (a b : Nat) (ha : a < 9223372036854775808) (hb : b < 9223372036854775808) : bits .or .i64 (a : Int) (b : Int) = ((a ||| b : Nat) : Int) := by
  have hx : a ||| b < 2 ^ 63 := Nat.or_lt_two_pow (by omega) (by omega)
  show IntKind.i64.wrap ((BitVec.ofInt 64 (a : Int) ||| BitVec.ofInt 64 (b : Int)).toNat : Int) = _
  have h1 : ∀ x : Nat, x < 9223372036854775808 → (BitVec.ofInt 64 (x : Int)).toNat = x := fun x hx => by
    rw [BitVec.toNat_ofInt]; omega
  rw [BitVec.toNat_or, h1 a ha, h1 b hb, IntKind.wrap_i64]
  omega
theorem shlor (x b : Nat) (hx : x < 16777216) (hb : b < 256) : bits .or .i64 ((x : Int) * 256) (b : Int) = ((x * 256 + b : Nat) : Int) := by
  rw [show (x : Int) * 256 = ((x * 256 : Nat) : Int) by omega, orn64 _ _ (by omega) (by omega), Nat.mul_comm]
  exact congrArg _ (Nat.two_pow_add_eq_or_of_lt (i := 8) hb x).symm

/-- the number that bytes tell -/
def num (s : ByteArray) : Nat := s.data.toList.foldl (fun n b => n * 256 + b.toNat) 0
theorem w64 (x : Int) (h0 : 0 ≤ x) (h1 : x < 9223372036854775808) : wrap64 x = x := by
  unfold wrap64; omega
theorem w8 (x : UInt8) : wrap64 (x.toNat : Int) = (x.toNat : Int) := by
  have := x.toNat_lt
  exact w64 _ (by omega) (by omega)
theorem or0 (x : UInt8) : bits .or .i64 0 (wrap64 (x.toNat : Int)) = (x.toNat : Int) := by
  have := x.toNat_lt
  rw [w8]
  have := orn64 0 x.toNat (by omega) (by omega)
  simpa using this
theorem orw (a : Nat) (x : UInt8) (ha : a < 16777216) : bits .or .i64 (wrap64 ((a : Int) * 256)) (wrap64 (x.toNat : Int)) = ((a * 256 + x.toNat : Nat) : Int) := by
  have := x.toNat_lt
  rw [w8, w64 _ (by omega) (by omega), shlor a x.toNat ha (by omega)]
theorem num1 (s : ByteArray) (hs : s.size = 1) : (num s : Int) = (s[0].toNat : Int) := by
  obtain ⟨⟨l⟩⟩ := s
  match l, hs with
  | [x], _ => simp [num]; rfl
theorem num2 (s : ByteArray) (hs : s.size = 2) : (num s : Int) = ((s[0].toNat * 256 + s[1].toNat : Nat) : Int) := by
  obtain ⟨⟨l⟩⟩ := s
  match l, hs with
  | [x, y], _ => simp [num]; rfl
theorem num4 (s : ByteArray) (hs : s.size = 4) : (num s : Int) = ((((s[0].toNat * 256 + s[1].toNat) * 256 + s[2].toNat) * 256 + s[3].toNat : Nat) : Int) := by
  obtain ⟨⟨l⟩⟩ := s
  match l, hs with
  | [x, y, z, u], _ => simp [num]; rfl

set_option maxRecDepth 100000 in
set_option maxHeartbeats 400000 in
theorem numOf1 (s : ByteArray) (w : World) (hs : s.size = 1) :
    Calls Tryz.prog 176 #[.string s] w
      fun r w' => r = .returned (.int .i64 (num s)) ∧ w = w' := by
  go_enter Tryz.func176, Tryz.ntmps176
  go_wp2
  refine wp_loop_rounds 2 ?_
  rw [rounds_succ]
  go_wp2
  rw [rounds_succ]
  go_wp2
  go_ret
  refine ⟨?_, rfl⟩
  show Ending.returned (Value.int .i64 (bits .or .i64 0 (wrap64 (s[0].toNat : Int)))) = _
  have b0 := (s[0]).toNat_lt
  rw [or0, num1 s hs]
set_option maxRecDepth 100000 in
set_option maxHeartbeats 400000 in
theorem numOf2 (s : ByteArray) (w : World) (hs : s.size = 2) :
    Calls Tryz.prog 176 #[.string s] w
      fun r w' => r = .returned (.int .i64 (num s)) ∧ w = w' := by
  go_enter Tryz.func176, Tryz.ntmps176
  go_wp2
  refine wp_loop_rounds 3 ?_
  rw [rounds_succ]
  go_wp2
  rw [rounds_succ]
  go_wp2
  rw [rounds_succ]
  go_wp2
  go_ret
  refine ⟨?_, rfl⟩
  show Ending.returned (Value.int .i64 (bits .or .i64 (wrap64 ((bits .or .i64 0 (wrap64 (s[0].toNat : Int))) * 256)) (wrap64 (s[1].toNat : Int)))) = _
  have b0 := (s[0]).toNat_lt
  have b1 := (s[1]).toNat_lt
  rw [or0, orw (s[0].toNat) s[1] (by omega), num2 s hs]
set_option maxRecDepth 100000 in
set_option maxHeartbeats 400000 in
theorem numOf4 (s : ByteArray) (w : World) (hs : s.size = 4) :
    Calls Tryz.prog 176 #[.string s] w
      fun r w' => r = .returned (.int .i64 (num s)) ∧ w = w' := by
  go_enter Tryz.func176, Tryz.ntmps176
  go_wp2
  refine wp_loop_rounds 5 ?_
  rw [rounds_succ]
  go_wp2
  rw [rounds_succ]
  go_wp2
  rw [rounds_succ]
  go_wp2
  rw [rounds_succ]
  go_wp2
  rw [rounds_succ]
  go_wp2
  go_ret
  refine ⟨?_, rfl⟩
  show Ending.returned (Value.int .i64 (bits .or .i64 (wrap64 ((bits .or .i64 (wrap64 ((bits .or .i64 (wrap64 ((bits .or .i64 0 (wrap64 (s[0].toNat : Int))) * 256)) (wrap64 (s[1].toNat : Int))) * 256)) (wrap64 (s[2].toNat : Int))) * 256)) (wrap64 (s[3].toNat : Int)))) = _
  have b0 := (s[0]).toNat_lt
  have b1 := (s[1]).toNat_lt
  have b2 := (s[2]).toNat_lt
  have b3 := (s[3]).toNat_lt
  rw [or0, orw (s[0].toNat) s[1] (by omega), orw ((s[0].toNat) * 256 + s[1].toNat) s[2] (by omega), orw (((s[0].toNat) * 256 + s[1].toNat) * 256 + s[2].toNat) s[3] (by omega), num4 s hs]
end Go.Proofs.YthpmcilljbmoiaaGreatDoor
