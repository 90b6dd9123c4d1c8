import Derived.Test.YthpmcilljbmoiaaGreatDoorReader
namespace Go.Proofs.YthpmcilljbmoiaaGreatDoor
open Go.RowKit

theorem extract_left (x y : ByteArray) (n : Nat) (hn : n = x.size) : (x ++ y).extract 0 n = x := by
  subst hn
  apply ByteArray.ext
  apply Array.ext'
  rw [extract_list]
  simp
theorem extract_right (x y : ByteArray) (n m : Nat) (hn : n = x.size) (hm : m = x.size + y.size) : (x ++ y).extract n m = y := by
  subst hn hm
  apply ByteArray.ext
  apply Array.ext'
  rw [extract_list]
  simp
  exact List.take_of_length_le (Nat.le_of_eq rfl)
theorem take_pre (rb : Nat) (x y : ByteArray) (n : Nat) (w : World) (h : Rd w rb (x ++ y)) (hn : n = x.size) (hs : x.size + y.size ≤ 6000) :
    Calls Tryz.prog 219 #[.pointer (some ⟨rb, 0, none⟩), .int .i64 n] w
      fun r w' => r = .returned (.string x) ∧ Rd w' rb y ∧ Kept (fun k => k = rb) w w' := by
  have := take_ok rb (x ++ y) n w h (by rw [ByteArray.size_append]; omega) (by rw [ByteArray.size_append]; exact hs)
  rwa [extract_left x y n hn, extract_right x y n _ hn ByteArray.size_append] at this
theorem number_pre (rb : Nat) (x y : ByteArray) (n : Nat) (w : World) (h : Rd w rb (x ++ y)) (hn : n = x.size) (hs : x.size + y.size ≤ 6000) (hn3 : n = 1 ∨ n = 2 ∨ n = 4) :
    Calls Tryz.prog 215 #[.pointer (some ⟨rb, 0, none⟩), .int .i64 n] w
      fun r w' => r = .returned (.int .i64 (num x)) ∧ Rd w' rb y ∧ Kept (fun k => k = rb) w w' := by
  have := number_ok rb (x ++ y) n w h (by rw [ByteArray.size_append]; omega) (by rw [ByteArray.size_append]; exact hs) hn3
  rwa [extract_left x y n hn, extract_right x y n _ hn ByteArray.size_append] at this
theorem within_pre (rb : Nat) (x y : ByteArray) (lo hi : Nat) (w : World) (h : Rd w rb (x ++ y)) (hn : x.size = 1) (hs : y.size ≤ 5000) (h1 : lo ≤ num x) (h2 : num x ≤ hi) :
    Calls Tryz.prog 216 #[.pointer (some ⟨rb, 0, none⟩), .int .i64 lo, .int .i64 hi] w
      fun r w' => r = .returned (.int .i64 (num x)) ∧ Rd w' rb y ∧ Kept (fun k => k = rb) w w' := by
  have := within_ok rb (x ++ y) lo hi w h (by rw [ByteArray.size_append]; omega) (by rw [ByteArray.size_append]; omega) (by rw [extract_left x y 1 hn.symm]; exact h1) (by rw [extract_left x y 1 hn.symm]; exact h2)
  rwa [extract_left x y 1 hn.symm, extract_right x y 1 _ hn.symm ByteArray.size_append] at this
theorem number1 (rb : Nat) (x y : ByteArray) (w : World) (h : Rd w rb (x ++ y)) (hn : x.size = 1) (hs : y.size ≤ 5000) :
    Calls Tryz.prog 215 #[.pointer (some ⟨rb, 0, none⟩), .int .i64 1] w
      fun r w' => r = .returned (.int .i64 (num x)) ∧ Rd w' rb y ∧ Kept (fun k => k = rb) w w' := number_pre rb x y 1 w h hn.symm (by omega) (.inl rfl)
theorem number2 (rb : Nat) (x y : ByteArray) (w : World) (h : Rd w rb (x ++ y)) (hn : x.size = 2) (hs : y.size ≤ 5000) :
    Calls Tryz.prog 215 #[.pointer (some ⟨rb, 0, none⟩), .int .i64 2] w
      fun r w' => r = .returned (.int .i64 (num x)) ∧ Rd w' rb y ∧ Kept (fun k => k = rb) w w' := number_pre rb x y 2 w h hn.symm (by omega) (.inr (.inl rfl))
theorem number4 (rb : Nat) (x y : ByteArray) (w : World) (h : Rd w rb (x ++ y)) (hn : x.size = 4) (hs : y.size ≤ 5000) :
    Calls Tryz.prog 215 #[.pointer (some ⟨rb, 0, none⟩), .int .i64 4] w
      fun r w' => r = .returned (.int .i64 (num x)) ∧ Rd w' rb y ∧ Kept (fun k => k = rb) w w' := number_pre rb x y 4 w h hn.symm (by omega) (.inr (.inr rfl))
theorem take4 (rb : Nat) (x y : ByteArray) (w : World) (h : Rd w rb (x ++ y)) (hn : x.size = 4) (hs : y.size ≤ 5000) :
    Calls Tryz.prog 219 #[.pointer (some ⟨rb, 0, none⟩), .int .i64 4] w
      fun r w' => r = .returned (.string x) ∧ Rd w' rb y ∧ Kept (fun k => k = rb) w w' := take_pre rb x y 4 w h hn.symm (by omega)
theorem within50 (rb : Nat) (x y : ByteArray) (w : World) (h : Rd w rb (x ++ y)) (hn : x.size = 1) (hs : y.size ≤ 5000) (h2 : num x ≤ 50) :
    Calls Tryz.prog 216 #[.pointer (some ⟨rb, 0, none⟩), .int .i64 0, .int .i64 50] w
      fun r w' => r = .returned (.int .i64 (num x)) ∧ Rd w' rb y ∧ Kept (fun k => k = rb) w w' := within_pre rb x y 0 50 w h hn hs (by omega) h2
end Go.Proofs.YthpmcilljbmoiaaGreatDoor
