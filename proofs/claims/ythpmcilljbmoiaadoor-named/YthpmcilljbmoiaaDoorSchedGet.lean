import Derived.Test.YthpmcilljbmoiaaDoorSched
namespace Go.Proofs.YthpmcilljbmoiaaDoor.Word
open Go

theorem grow_prefix (l : List Nat) (k : Nat) : ∀ j, ∃ r, grow l (k + j) = grow l k ++ r
  | 0 => ⟨[], by simp⟩
  | j + 1 => by
    obtain ⟨r, hr⟩ := grow_prefix l k j
    refine ⟨r ++ [nxt (grow l (k + j))], ?_⟩
    rw [← List.append_assoc, ← hr]
    rfl
theorem grow_get (l : List Nat) (k n i : Nat) (hk : k ≤ n) (hi : i < l.length + k) : (grow l n).getD i 0 = (grow l k).getD i 0 := by
  obtain ⟨r, hr⟩ := grow_prefix l k (n - k)
  rw [show k + (n - k) = n by omega] at hr
  rw [hr, List.getD_eq_getElem?_getD, List.getElem?_append_left (by rw [grow_len]; exact hi), ← List.getD_eq_getElem?_getD]
theorem grow_succ (l : List Nat) (k : Nat) : grow l (k + 1) = grow l k ++ [nxt (grow l k)] := by rw [grow]
theorem getD_last (l : List Nat) (x n : Nat) (h : l.length = n) : (l ++ [x]).getD n 0 = x := by
  subst h
  simp
theorem nxt_at (l : List Nat) (n : Nat) (h : l.length = n) : nxt l = (s1 (l.getD (n - 2) 0) + l.getD (n - 7) 0 + s0 (l.getD (n - 15) 0) + l.getD (n - 16) 0) % 4294967296 := by
  subst h
  rw [nxt]
theorem four_sum (a b c d : Nat) : (a + b + c + d) % 4294967296 = (c + a + b + d) % 4294967296 := by
  rw [show a + b + c + d = c + a + b + d by omega]
theorem sched_lo (m : List Nat) (t : Nat) (h : t < 16) : (sched m).getD t 0 = acc m t 4 := by
  rw [sched, grow_get (first m) 0 48 t (by omega) (by rw [first_len]; omega)]
  simp [grow, first, h]
theorem sched_hi (m : List Nat) (t : Nat) (h : 16 ≤ t) (h' : t < 64) :
    (sched m).getD t 0 = (s0 ((sched m).getD (t - 15) 0) + s1 ((sched m).getD (t - 2) 0) + (sched m).getD (t - 7) 0 + (sched m).getD (t - 16) 0) % 4294967296 := by
  obtain ⟨k, rfl⟩ : ∃ k, t = 16 + k := ⟨t - 16, by omega⟩
  have hl : (grow (first m) k).length = 16 + k := by rw [grow_len, first_len]
  have e : ∀ i, i < 16 + k → (sched m).getD i 0 = (grow (first m) k).getD i 0 := fun i hi => grow_get (first m) k 48 i (by omega) (by rw [first_len]; omega)
  rw [e (16 + k - 15) (by omega), e (16 + k - 2) (by omega), e (16 + k - 7) (by omega), e (16 + k - 16) (by omega)]
  rw [sched, grow_get (first m) (k + 1) 48 (16 + k) (by omega) (by rw [first_len]; omega)]
  rw [grow_succ, getD_last _ _ _ hl]
  rw [nxt_at _ _ hl, four_sum]
theorem acc4 (m : List Nat) (t : Nat) : acc m t 4 = ((m.getD (4 * t) 0 * 256 + m.getD (4 * t + 1) 0) * 256 + m.getD (4 * t + 2) 0) * 256 + m.getD (4 * t + 3) 0 := by
  simp [acc]
theorem xor64 (a b : Nat) (ha : a < 4294967296) (hb : b < 4294967296) : bits .xor .u64 (a : Int) (b : Int) = ((a ^^^ b : Nat) : Int) := bits_xor_u64_nat a b (by omega) (by omega)
theorem x3_64 (a b c : Nat) (ha : a < 4294967296) (hb : b < 4294967296) (hc : c < 4294967296) :
    bits .xor .u64 (bits .xor .u64 (a : Int) (b : Int)) (c : Int) = ((a ^^^ b ^^^ c : Nat) : Int) := by
  rw [xor64 _ _ ha hb, xor64 _ _ (xlt ha hb) hc]
theorem s0_64 (x : Nat) (h : x < 4294967296) : bits .xor .u64 (bits .xor .u64 (rr 7 x : Nat) (rr 18 x : Nat)) ((x : Int) / 8) = ((s0 x : Nat) : Int) := by
  rw [show ((x : Int) / 8) = ((x / 8 : Nat) : Int) by omega]
  exact x3_64 _ _ _ (rr_lt _ _ (by decide) h) (rr_lt _ _ (by decide) h) (by omega)
theorem s1_64 (x : Nat) (h : x < 4294967296) : bits .xor .u64 (bits .xor .u64 (rr 17 x : Nat) (rr 19 x : Nat)) ((x : Int) / 1024) = ((s1 x : Nat) : Int) := by
  rw [show ((x : Int) / 1024) = ((x / 1024 : Nat) : Int) by omega]
  exact x3_64 _ _ _ (rr_lt _ _ (by decide) h) (rr_lt _ _ (by decide) h) (by omega)
theorem S0_64 (x : Nat) (h : x < 4294967296) : bits .xor .u64 (bits .xor .u64 (rr 2 x : Nat) (rr 13 x : Nat)) ((rr 22 x : Nat) : Int) = ((S0 x : Nat) : Int) :=
  x3_64 _ _ _ (rr_lt _ _ (by decide) h) (rr_lt _ _ (by decide) h) (rr_lt _ _ (by decide) h)
theorem S1_64 (x : Nat) (h : x < 4294967296) : bits .xor .u64 (bits .xor .u64 (rr 6 x : Nat) (rr 11 x : Nat)) ((rr 25 x : Nat) : Int) = ((S1 x : Nat) : Int) :=
  x3_64 _ _ _ (rr_lt _ _ (by decide) h) (rr_lt _ _ (by decide) h) (rr_lt _ _ (by decide) h)
theorem pick_64 (e f g : Nat) (he : e < 4294967296) (hf : f < 4294967296) (hg : g < 4294967296) :
    bits .or .u64 (bits .and .u64 (e : Int) (f : Int)) (bits .and .u64 (4294967295 - (e : Int)) (g : Int)) = ((ch e f g : Nat) : Int) := by
  rw [show (4294967295 - (e : Int)) = ((4294967296 - 1 - e : Nat) : Int) by omega, not_sub e he, and64 _ _ (by omega) (by omega), and64 _ _ (by have := xlt (a := 4294967295) (by decide) he; omega) (by omega)]
  have h1 := and_lt (b := f) he
  have h2 := and_lt (a := 4294967295 ^^^ e) (b := g) (xlt (by decide) he)
  rw [or64 _ _ (by omega) (by omega)]
  rcases ch_or e f g with h | h
  · rw [h]
  · exact absurd he h
theorem two_64 (a b c : Nat) (ha : a < 4294967296) (hb : b < 4294967296) (hc : c < 4294967296) :
    bits .or .u64 (bits .or .u64 (bits .and .u64 (a : Int) (b : Int)) (bits .and .u64 (a : Int) (c : Int))) (bits .and .u64 (b : Int) (c : Int)) = ((maj a b c : Nat) : Int) := by
  have h1 := and_lt (b := b) ha
  have h2 := and_lt (b := c) ha
  have h3 := and_lt (b := c) hb
  have h4 : (a &&& b) ||| (a &&& c) < 2 ^ 32 := Nat.or_lt_two_pow (by omega) (by omega)
  rw [and64 _ _ (by omega) (by omega), and64 _ _ (by omega) (by omega), and64 _ _ (by omega) (by omega), or64 _ _ (by omega) (by omega), or64 _ _ (by omega) (by omega), maj_or]
end Go.Proofs.YthpmcilljbmoiaaDoor.Word
