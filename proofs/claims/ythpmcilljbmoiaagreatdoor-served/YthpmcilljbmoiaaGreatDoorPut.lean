import Derived.Test.YthpmcilljbmoiaaGreatDoorChecked
import Derived.Test.YthpmcilljbmoiaaGreatDoorBlk
import Derived.WalkSpells
import Derived.WalkLawsBesides
namespace Go.Proofs.YthpmcilljbmoiaaGreatDoor
open Go.RowKit

/-- n bytes of a number, the lowest last, into cells from a place on -/
def putc (cs : Array Value) (off : Nat) : Nat → Nat → Array Value
  | 0, _ => cs
  | n + 1, x => putc (cs.setIfInBounds (off + n) (.int .u8 ((x % 256 : Nat) : Int))) off n (x / 256)

set_option maxHeartbeats 1000000 in
theorem putNumber_any (b off n cap x : Nat) (t : TypeId) (cs : Array Value) (w : World) (hx : x < 18446744073709551616) (hn : n ≤ 64) (hs : off + n ≤ cs.size) (hb : Blk w b t cs) :
    Calls Tryz.prog 158 #[.slice (some ⟨b, off, none⟩) n cap, .int .u64 x] w
      fun r w' => r = .returned (.tuple #[]) ∧ Blk w' b t (putc cs off n x) ∧ Only b w w' := by
  go_enter Tryz.func158, Tryz.ntmps158
  go_wp2_with fail
  go_loopw [1, 4] (fun y i wr => ∃ (k z : Nat) (A : Array Value), k ≤ n ∧ z < 18446744073709551616 ∧ i = .int .i64 ((k : Int) - 1) ∧ y = .int .u64 z ∧ A.size = cs.size ∧ Blk wr b t A ∧ Hid (putc A off k z = putc cs off n x) ∧ Only b w wr)
     (fun _ i _ => (intOf i + 1).toNat)
  case atStart => exact ⟨n, x, cs, by omega, hx, rfl, rfl, rfl, hb, rfl, Only.refl _ _⟩
  case round =>
    obtain ⟨k, z, A, hk, hz, rfl, rfl, hA, b1, HP, ho⟩ := hrel
    cases k with
    | zero =>
      go_wp2
      go_end0
      exact ⟨rfl, by rw [← HP.out]; exact b1, ho⟩
    | succ k =>
      have c1 : wr.cell? ⟨b, off + k, none⟩ = some (A.getD (off + k) undef) := by
        rw [b1.cell]; simp [show off + k < A.size by omega]
      have f1 := b1.frozen (off + k)
      have e1 : ((k + 1 : Nat) : Int) - 1 = (k : Int) := by omega
      rw [e1]
      clear e1
      go_wp2
      refine ⟨⟨k, z / 256, A.setIfInBounds (off + k) (.int .u8 ((z % 256 : Nat) : Int)), by omega, by omega, rfl, congrArg (Value.int .u64) (by omega), by simp [hA], ?_, HP, ?_⟩, by simp [intOf]⟩
      · rw [show ((z : Int) % 256) = ((z % 256 : Nat) : Int) by omega]
        exact b1.set _ _
      · exact ho.set _ _

theorem putNumber_int (b off n cap : Nat) (y : Int) (t : TypeId) (cs : Array Value) (w : World) (h0 : 0 ≤ y) (hy : y < 18446744073709551616) (hn : n ≤ 64) (hs : off + n ≤ cs.size) (hb : Blk w b t cs) :
    Calls Tryz.prog 158 #[.slice (some ⟨b, off, none⟩) n cap, .int .u64 y] w
      fun r w' => r = .returned (.tuple #[]) ∧ Blk w' b t (putc cs off n y.toNat) ∧ Only b w w' := by
  obtain ⟨x, rfl⟩ := Int.eq_ofNat_of_zero_le h0
  exact putNumber_any b off n cap x t cs w (by omega) hn hs hb

/-- bytes as cells -/
def c8 (l : List Nat) : Array Value := (l.map fun (n : Nat) => Value.int .u8 n).toArray
theorem c8_get (l : List Nat) (i : Nat) (h : i < l.length) : (c8 l)[i]? = some (.int .u8 (l.getD i 0 : Nat)) := by
  simp [c8, h]
theorem c8_set (l : List Nat) (i x : Nat) : (c8 l).setIfInBounds i (.int .u8 (x : Nat)) = c8 (l.set i x) := by
  simp [c8, List.map_set]
theorem c8_size (l : List Nat) : (c8 l).size = l.length := by simp [c8]
theorem c8_one (l : List Nat) : (c8 l).all (·.oneCell') = true := by
  rw [Array.all_eq_true_iff_forall_mem]
  intro v hv
  simp only [c8, List.mem_toArray, List.mem_map] at hv
  obtain ⟨n, _, rfl⟩ := hv
  rfl
/-- a number in n bytes, the highest first -/
def be : Nat → Nat → List Nat
  | 0, _ => []
  | n + 1, x => be n (x / 256) ++ [x % 256]
theorem be_len : ∀ n x, (be n x).length = n
  | 0, _ => rfl
  | n + 1, x => by simp [be, be_len n]
theorem be_lt : ∀ n x, ∀ y ∈ be n x, y < 256
  | 0, _, y, h => by cases h
  | n + 1, x, y, h => by
    simp only [be, List.mem_append, List.mem_singleton] at h
    rcases h with h | h
    · exact be_lt n _ y h
    · omega
theorem putc_be (off : Nat) : ∀ (n x : Nat) (m : List Nat), off + n ≤ m.length → putc (c8 m) off n x = c8 (m.take off ++ be n x ++ m.drop (off + n))
  | 0, x, m, _ => by simp [putc, be]
  | n + 1, x, m, h => by
    rw [putc, c8_set, putc_be off n _ _ (by rw [List.length_set]; omega)]
    congr 1
    rw [List.take_set_of_le (by omega), be]
    have e : (m.set (off + n) (x % 256)).drop (off + n) = x % 256 :: m.drop (off + (n + 1)) := by
      rw [List.drop_set, if_neg (by omega), show off + n - (off + n) = 0 by omega]
      rw [List.drop_eq_getElem_cons (show off + n < m.length by omega), List.set_cons_zero]
      rfl
    rw [e]
    simp
def rows (n : Nat) : Nat := (n + 72) / 64 * 64
/-- a text with what makes whole blocks of it -/
def pad (l : List Nat) : List Nat := l ++ 128 :: (List.replicate (rows l.length - 9 - l.length) 0 ++ be 8 (8 * l.length))
theorem pad_len (l : List Nat) : (pad l).length = rows l.length := by
  simp [pad, be_len, rows]; omega
theorem pad_lt (l : List Nat) (h : ∀ i, l.getD i 0 < 256) (i : Nat) : (pad l).getD i 0 < 256 := by
  by_cases hi : i < (pad l).length
  · have hm : (pad l)[i] ∈ pad l := List.getElem_mem hi
    rw [List.getD_eq_getElem?_getD, List.getElem?_eq_getElem hi]
    simp only [Option.getD_some]
    generalize (pad l)[i] = y at hm
    simp only [pad, List.mem_append, List.mem_cons, List.mem_replicate] at hm
    rcases hm with hm | rfl | hm | hm
    · obtain ⟨k, hk, rfl⟩ := List.mem_iff_getElem.1 hm
      have := h k
      rwa [List.getD_eq_getElem?_getD, List.getElem?_eq_getElem hk] at this
    · decide
    · omega
    · exact be_lt _ _ y hm
  · rw [List.getD_eq_getElem?_getD, List.getElem?_eq_none (by omega)]; decide
theorem pad_made (l : List Nat) : putc ((c8 (l ++ List.replicate (rows l.length - l.length) 0)).setIfInBounds l.length (.int .u8 128)) (rows l.length - 8) 8 (8 * l.length) = c8 (pad l) := by
  have hr : l.length + 9 ≤ rows l.length := by unfold rows; omega
  have e0 := c8_set (l ++ List.replicate (rows l.length - l.length) 0) l.length 128
  rw [show ((128 : Nat) : Int) = 128 from rfl] at e0
  rw [e0, putc_be _ _ _ _ (by simp; omega)]
  congr 1
  obtain ⟨z, hz⟩ : ∃ z, rows l.length = l.length + 9 + z := ⟨rows l.length - l.length - 9, by omega⟩
  unfold pad
  rw [hz, show l.length + 9 + z - l.length = z + 8 + 1 by omega, List.replicate_succ, List.set_append_right _ _ (Nat.le_refl _), Nat.sub_self, List.set_cons_zero]
  rw [show l.length + 9 + z - 8 = l.length + (z + 1) by omega, show l.length + (z + 1) + 8 = l.length + (z + 9) by omega, List.take_length_add_append, List.drop_length_add_append]
  rw [show l.length + 9 + z - 9 - l.length = z by omega]
  simp [List.take_replicate]
end Go.Proofs.YthpmcilljbmoiaaGreatDoor
