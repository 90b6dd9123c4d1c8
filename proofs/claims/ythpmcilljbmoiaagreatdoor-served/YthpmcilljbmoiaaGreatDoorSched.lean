import Derived.Test.YthpmcilljbmoiaaGreatDoorWord
namespace Go.Proofs.YthpmcilljbmoiaaGreatDoor.Word
open Go

theorem getD_out (l : List Nat) (i : Nat) (h : l.length ≤ i) : l.getD i 0 = 0 := by
  rw [List.getD_eq_getElem?_getD, List.getElem?_eq_none h]; rfl
/-- the number of the first n bytes from 4 j on -/
def acc (m : List Nat) (j : Nat) : Nat → Nat
  | 0 => 0
  | n + 1 => acc m j n * 256 + m.getD (4 * j + n) 0
theorem acc_lt (m : List Nat) (hm : ∀ i, m.getD i 0 < 256) (j : Nat) : ∀ n, acc m j n < 256 ^ n
  | 0 => by simp [acc]
  | n + 1 => by
    have h := acc_lt m hm j n
    have := hm (4 * j + n)
    have e : 256 ^ (n + 1) = 256 ^ n * 256 := Nat.pow_succ ..
    simp only [acc]
    omega
theorem acc_lt4 (m : List Nat) (hm : ∀ i, m.getD i 0 < 256) (j n : Nat) (hn : n ≤ 4) : acc m j n < 4294967296 :=
  Nat.lt_of_lt_of_le (acc_lt m hm j n) (by have := Nat.pow_le_pow_right (show 0 < 256 by decide) hn; omega)
theorem acc_lt3 (m : List Nat) (hm : ∀ i, m.getD i 0 < 256) (j n : Nat) (hn : n ≤ 3) : acc m j n < 16777216 :=
  Nat.lt_of_lt_of_le (acc_lt m hm j n) (by have := Nat.pow_le_pow_right (show 0 < 256 by decide) hn; omega)
/-- the words while the first i bytes are in -/
def fillW (m : List Nat) (i : Nat) : List Nat := (List.range 64).map fun j => acc m j (min 4 (i - 4 * j))
theorem fillW_len (m : List Nat) (i : Nat) : (fillW m i).length = 64 := by simp [fillW]
theorem fillW_get (m : List Nat) (i j : Nat) (h : j < 64) : (fillW m i).getD j 0 = acc m j (min 4 (i - 4 * j)) := by
  simp [fillW, h]
theorem fillW_at (m : List Nat) (i : Nat) (h : i < 64) : (fillW m i).getD (i / 4) 0 = acc m (i / 4) (i % 4) := by
  rw [fillW_get m i _ (by omega), show min 4 (i - 4 * (i / 4)) = i % 4 by omega]
theorem fillW_set (m : List Nat) (i : Nat) (_h : i < 64) : (fillW m i).set (i / 4) (acc m (i / 4) (i % 4) * 256 + m.getD i 0) = fillW m (i + 1) := by
  apply List.ext_getElem
  · simp [fillW]
  · intro n h1 h2
    have hn : n < 64 := by simpa [fillW] using h1
    rw [List.getElem_set]
    by_cases e : i / 4 = n
    · subst e
      rw [if_pos rfl]
      simp only [fillW, List.getElem_map, List.getElem_range]
      rw [show min 4 (i + 1 - 4 * (i / 4)) = i % 4 + 1 by omega]
      simp only [acc]
      rw [show 4 * (i / 4) + i % 4 = i by omega]
    · rw [if_neg e]
      simp only [fillW, List.getElem_map, List.getElem_range]
      rw [show min 4 (i + 1 - 4 * n) = min 4 (i - 4 * n) by omega]
theorem fillW_zero (m : List Nat) : fillW m 0 = List.replicate 64 0 := by
  apply List.ext_getElem
  · simp [fillW]
  · intro n h1 h2
    simp only [fillW, List.getElem_map, List.getElem_range, List.getElem_replicate]
    rw [show min 4 (0 - 4 * n) = 0 by omega]
    rfl
theorem shl_or (x b : Nat) (hx : x < 16777216) (hb : b < 256) : bits .or .u32 ((x : Int) * 256 % 4294967296) (b : Int) = ((x * 256 + b : Nat) : Int) := by
  rw [show ((x : Int) * 256 % 4294967296) = ((x * 256 : Nat) : Int) by omega, or32 _ _ (by omega) (by omega), Nat.mul_comm]
  exact congrArg _ (Nat.two_pow_add_eq_or_of_lt (i := 8) hb x).symm
theorem shl_or2 (x b : Nat) (hx : x < 16777216) (hb : b < 256) : bits .or .u32 ((x : Int) * 256) (b : Int) = ((x * 256 + b : Nat) : Int) := by
  have := shl_or x b hx hb
  rwa [show ((x : Int) * 256 % 4294967296) = (x : Int) * 256 by omega] at this
theorem wrap_sub (t k : Nat) (h : k ≤ t) (h' : t ≤ 64) : IntKind.i64.wrap ((t : Int) - (k : Int)) = ((t - k : Nat) : Int) := by
  rw [IntKind.wrap_i64]; omega
theorem nxt_walk (a b c d : Nat) : IntKind.u32.wrap (IntKind.u32.wrap (IntKind.u32.wrap ((a : Int) + (b : Int)) + (c : Int)) + (d : Int)) = (((a + b + c + d) % 4294967296 : Nat) : Int) := by
  rw [IntKind.wrap_u32, IntKind.wrap_u32, IntKind.wrap_u32]; omega
def nxt (l : List Nat) : Nat := (s1 (l.getD (l.length - 2) 0) + l.getD (l.length - 7) 0 + s0 (l.getD (l.length - 15) 0) + l.getD (l.length - 16) 0) % 4294967296
def grow (l : List Nat) : Nat → List Nat
  | 0 => l
  | k + 1 => grow l k ++ [nxt (grow l k)]
theorem grow_len (l : List Nat) : ∀ k, (grow l k).length = l.length + k
  | 0 => rfl
  | k + 1 => by simp [grow, grow_len l k]; omega
theorem nxt_lt (l : List Nat) : nxt l < 4294967296 := Nat.mod_lt _ (by decide)
theorem getD_append_last (l : List Nat) (x i : Nat) : (l ++ [x]).getD i 0 = l.getD i 0 ∨ (l ++ [x]).getD i 0 = x := by
  by_cases h : i < l.length
  · left; simp [h, List.getElem?_append_left h]
  · by_cases e : i = l.length
    · right; subst e; simp
    · left
      rw [getD_out _ _ (by simp; omega), getD_out _ _ (by omega)]
theorem grow_lt (l : List Nat) (hl : ∀ i, l.getD i 0 < 4294967296) : ∀ k i, (grow l k).getD i 0 < 4294967296
  | 0, i => hl i
  | k + 1, i => by
    simp only [grow]
    rcases getD_append_last (grow l k) (nxt (grow l k)) i with h | h <;> rw [h]
    · exact grow_lt l hl k i
    · exact nxt_lt _
/-- the first sixteen words of a block -/
def first (m : List Nat) : List Nat := (List.range 16).map fun j => acc m j 4
theorem first_len (m : List Nat) : (first m).length = 16 := by simp [first]
theorem first_lt (m : List Nat) (hm : ∀ i, m.getD i 0 < 256) (i : Nat) : (first m).getD i 0 < 4294967296 := by
  by_cases h : i < 16
  · simp only [first, List.getD_eq_getElem?_getD, List.getElem?_map, List.getElem?_range h]
    exact acc_lt4 m hm i 4 (by decide)
  · rw [getD_out _ _ (by simp [first]; omega)]; decide
theorem fillW_all (m : List Nat) : fillW m 64 = first m ++ List.replicate 48 0 := by
  apply List.ext_getElem
  · simp [fillW, first]
  · intro n h1 h2
    have hn : n < 64 := by simpa [fillW] using h1
    simp only [fillW, List.getElem_map, List.getElem_range]
    by_cases h : n < 16
    · rw [List.getElem_append_left (by simp [first]; omega)]
      simp only [first, List.getElem_map, List.getElem_range]
      rw [show min 4 (64 - 4 * n) = 4 by omega]
    · rw [List.getElem_append_right (by simp [first]; omega)]
      rw [show min 4 (64 - 4 * n) = 0 by omega]
      simp only [acc, List.getElem_replicate]
/-- all 64 words of a block -/
def sched (m : List Nat) : List Nat := grow (first m) 48
theorem sched_len (m : List Nat) : (sched m).length = 64 := by rw [sched, grow_len, first_len]
theorem sched_lt (m : List Nat) (hm : ∀ i, m.getD i 0 < 256) (i : Nat) : (sched m).getD i 0 < 4294967296 := grow_lt _ (first_lt m hm) _ _
/-- while t words stand -/
def upTo (m : List Nat) (t : Nat) : List Nat := grow (first m) (t - 16) ++ List.replicate (64 - t) 0
theorem upTo_len (m : List Nat) (t : Nat) (h : 16 ≤ t) (h' : t ≤ 64) : (upTo m t).length = 64 := by
  simp [upTo, grow_len, first_len]; omega
theorem upTo_start (m : List Nat) : fillW m 64 = upTo m 16 := by rw [fillW_all]; rfl
theorem upTo_end (m : List Nat) : upTo m 64 = sched m := by simp [upTo, sched]
theorem upTo_get (m : List Nat) (t i : Nat) (h : 16 ≤ t) (hi : i < t) : (upTo m t).getD i 0 = (grow (first m) (t - 16)).getD i 0 := by
  have : i < (grow (first m) (t - 16)).length := by rw [grow_len, first_len]; omega
  simp [upTo, List.getElem?_append_left this]
theorem upTo_set (m : List Nat) (t : Nat) (h : 16 ≤ t) (ht : t < 64) : (upTo m t).set t (nxt (grow (first m) (t - 16))) = upTo m (t + 1) := by
  have hl : (grow (first m) (t - 16)).length = t := by rw [grow_len, first_len]; omega
  unfold upTo
  rw [show t + 1 - 16 = (t - 16) + 1 by omega]
  simp only [grow]
  rw [List.set_append_right _ _ (by omega), hl, show t - t = 0 by omega]
  obtain ⟨z, hz⟩ : ∃ z, 64 - t = z + 1 := ⟨64 - t - 1, by omega⟩
  rw [hz, show 64 - (t + 1) = z by omega, List.replicate_succ, List.set_cons_zero, List.append_assoc]
  rfl
end Go.Proofs.YthpmcilljbmoiaaGreatDoor.Word
