import Derived.Laws.Entries
import Derived.Laws.BitsLemmas
import Derived.Laws.Bits64
import Derived.Test.YthpmcilljbmoiaaGreatDoorChecked
import Derived.WalkKit
import Derived.WalkSpells
import Derived.WalkLawsBesides
import Derived.Deep.QuietTactic
import Derived.BigQuiet
namespace Go.Proofs.YthpmcilljbmoiaaGreatDoor.Word
open Go

/-- x turned right by n bits -/
def rr (n x : Nat) : Nat := x % 2 ^ n * 2 ^ (32 - n) + x / 2 ^ n

theorem pow_split (n : Nat) (h : n ≤ 32) : 2 ^ n * 2 ^ (32 - n) = 4294967296 := by
  rw [← Nat.pow_add, Nat.add_sub_cancel' h]

theorem rr_lt (n x : Nat) (h : n ≤ 32) (hx : x < 4294967296) : rr n x < 4294967296 := by
  have hp := pow_split n h
  have h1 : x % 2 ^ n < 2 ^ n := Nat.mod_lt _ (Nat.two_pow_pos n)
  have h2 : x / 2 ^ n < 2 ^ (32 - n) := by
    rw [Nat.div_lt_iff_lt_mul (Nat.two_pow_pos n), Nat.mul_comm, hp]; exact hx
  have h3 : (x % 2 ^ n + 1) * 2 ^ (32 - n) ≤ 2 ^ n * 2 ^ (32 - n) := Nat.mul_le_mul_right _ h1
  rw [Nat.add_mul, hp] at h3
  unfold rr
  omega

theorem wrap_u32_nat (a : Nat) : IntKind.u32.wrap (a : Int) = ((a % 4294967296 : Nat) : Int) := by
  rw [IntKind.wrap_u32]; omega
theorem wraps_u32 (n : Int) (h₀ : 0 ≤ n) (h₁ : n < 2 ^ 32) : IntKind.u32.wrap n = n := by rw [IntKind.wrap_u32]; omega
theorem wraps_u64 (n : Int) (h₀ : 0 ≤ n) (h₁ : n < 2 ^ 64) : IntKind.u64.wrap n = n := by rw [IntKind.wrap_u64]; omega

theorem or32 (a b : Nat) (ha : a < 4294967296) (hb : b < 4294967296) : bits .or .u32 (a : Int) (b : Int) = ((a ||| b : Nat) : Int) := by
  have hx : a ||| b < 2 ^ 32 := Nat.or_lt_two_pow (by omega) (by omega)
  have h1 : (BitVec.ofInt 32 (a : Int)).toNat = a := by rw [BitVec.ofInt_natCast, BitVec.toNat_ofNat]; exact Nat.mod_eq_of_lt (by omega)
  have h2 : (BitVec.ofInt 32 (b : Int)).toNat = b := by rw [BitVec.ofInt_natCast, BitVec.toNat_ofNat]; exact Nat.mod_eq_of_lt (by omega)
  show IntKind.u32.wrap ((BitVec.ofInt 32 (a : Int) ||| BitVec.ofInt 32 (b : Int)).toNat : Int) = _
  rw [BitVec.toNat_or, h1, h2, wrap_u32_nat, Nat.mod_eq_of_lt (by omega)]
theorem and32 (a b : Nat) (ha : a < 4294967296) (hb : b < 4294967296) : bits .and .u32 (a : Int) (b : Int) = ((a &&& b : Nat) : Int) := by
  have hx : a &&& b < 2 ^ 32 := Nat.and_lt_two_pow _ (by omega)
  have h1 : (BitVec.ofInt 32 (a : Int)).toNat = a := by rw [BitVec.ofInt_natCast, BitVec.toNat_ofNat]; exact Nat.mod_eq_of_lt (by omega)
  have h2 : (BitVec.ofInt 32 (b : Int)).toNat = b := by rw [BitVec.ofInt_natCast, BitVec.toNat_ofNat]; exact Nat.mod_eq_of_lt (by omega)
  show IntKind.u32.wrap ((BitVec.ofInt 32 (a : Int) &&& BitVec.ofInt 32 (b : Int)).toNat : Int) = _
  rw [BitVec.toNat_and, h1, h2, wrap_u32_nat, Nat.mod_eq_of_lt (by omega)]
theorem xor32 (a b : Nat) (ha : a < 4294967296) (hb : b < 4294967296) : bits .xor .u32 (a : Int) (b : Int) = ((a ^^^ b : Nat) : Int) := by
  have hx : a ^^^ b < 2 ^ 32 := Nat.xor_lt_two_pow (by omega) (by omega)
  have h1 : (BitVec.ofInt 32 (a : Int)).toNat = a := by rw [BitVec.ofInt_natCast, BitVec.toNat_ofNat]; exact Nat.mod_eq_of_lt (by omega)
  have h2 : (BitVec.ofInt 32 (b : Int)).toNat = b := by rw [BitVec.ofInt_natCast, BitVec.toNat_ofNat]; exact Nat.mod_eq_of_lt (by omega)
  show IntKind.u32.wrap ((BitVec.ofInt 32 (a : Int) ^^^ BitVec.ofInt 32 (b : Int)).toNat : Int) = _
  rw [BitVec.toNat_xor, h1, h2, wrap_u32_nat, Nat.mod_eq_of_lt (by omega)]
theorem or64 (a b : Nat) (ha : a < 18446744073709551616) (hb : b < 18446744073709551616) : bits .or .u64 (a : Int) (b : Int) = ((a ||| b : Nat) : Int) := by
  have hx : a ||| b < 2 ^ 64 := Nat.or_lt_two_pow (by omega) (by omega)
  have h1 : (BitVec.ofInt 64 (a : Int)).toNat = a := by rw [BitVec.ofInt_natCast, BitVec.toNat_ofNat]; exact Nat.mod_eq_of_lt (by omega)
  have h2 : (BitVec.ofInt 64 (b : Int)).toNat = b := by rw [BitVec.ofInt_natCast, BitVec.toNat_ofNat]; exact Nat.mod_eq_of_lt (by omega)
  show IntKind.u64.wrap ((BitVec.ofInt 64 (a : Int) ||| BitVec.ofInt 64 (b : Int)).toNat : Int) = _
  rw [BitVec.toNat_or, h1, h2, wraps_u64 _ (by omega) (by omega)]
theorem and64 (a b : Nat) (ha : a < 18446744073709551616) (hb : b < 18446744073709551616) : bits .and .u64 (a : Int) (b : Int) = ((a &&& b : Nat) : Int) := by
  have hx : a &&& b < 2 ^ 64 := Nat.and_lt_two_pow _ (by omega)
  have h1 : (BitVec.ofInt 64 (a : Int)).toNat = a := by rw [BitVec.ofInt_natCast, BitVec.toNat_ofNat]; exact Nat.mod_eq_of_lt (by omega)
  have h2 : (BitVec.ofInt 64 (b : Int)).toNat = b := by rw [BitVec.ofInt_natCast, BitVec.toNat_ofNat]; exact Nat.mod_eq_of_lt (by omega)
  show IntKind.u64.wrap ((BitVec.ofInt 64 (a : Int) &&& BitVec.ofInt 64 (b : Int)).toNat : Int) = _
  rw [BitVec.toNat_and, h1, h2, wraps_u64 _ (by omega) (by omega)]

theorem rr_or (n x : Nat) (h : n ≤ 32) (hx : x < 4294967296) : x * 2 ^ (32 - n) % 4294967296 ||| x / 2 ^ n = rr n x := by
  have hp := pow_split n h
  have h2 : x / 2 ^ n < 2 ^ (32 - n) := by
    rw [Nat.div_lt_iff_lt_mul (Nat.two_pow_pos n), Nat.mul_comm, hp]; exact hx
  have e : x * 2 ^ (32 - n) % 4294967296 = 2 ^ (32 - n) * (x % 2 ^ n) := by
    rw [← hp, Nat.mul_comm (2 ^ n), Nat.mul_comm x, Nat.mul_mod_mul_left]
  rw [e, ← Nat.two_pow_add_eq_or_of_lt h2]
  unfold rr
  rw [Nat.mul_comm]

/-- the program's turning -/
theorem rr_code (n x : Nat) (h : n ≤ 32) (hx : x < 4294967296) :
    bits .or .u32 (IntKind.u32.wrap ((x : Int) * 2 ^ (32 - n))) ((x : Int) / 2 ^ n) = ((rr n x : Nat) : Int) := by
  have e1 : ((x : Int) * 2 ^ (32 - n)) = ((x * 2 ^ (32 - n) : Nat) : Int) := by simp
  have e2 : ((x : Int) / 2 ^ n) = ((x / 2 ^ n : Nat) : Int) := by simp
  have l : x / 2 ^ n < 4294967296 := Nat.lt_of_le_of_lt (Nat.div_le_self _ _) hx
  rw [e1, e2, wrap_u32_nat, or32 _ _ (Nat.mod_lt _ (by decide)) l, rr_or n x h hx]

theorem rr_walk (k x : Nat) (h : k ≤ 32) (hx : x < 4294967296) :
    bits .or .u32 ((x : Int) * 2 ^ k % 4294967296) ((x : Int) / 2 ^ (32 - k)) = ((rr (32 - k) x : Nat) : Int) := by
  have := rr_code (32 - k) x (by omega) hx
  rw [show 32 - (32 - k) = k by omega, IntKind.wrap_u32] at this
  exact this

/-- the reference's turning -/
theorem rr_ref (n x : Nat) (h : n ≤ 32) (hx : x < 4294967296) : (x * 4294967296 + x) / 2 ^ n % 4294967296 = rr n x := by
  have hp := pow_split n h
  have hl := rr_lt n x h hx
  have e0 : x * 4294967296 = 2 ^ n * (x * 2 ^ (32 - n)) := by
    rw [← hp, Nat.mul_left_comm]
  have e1 : (x * 4294967296 + x) / 2 ^ n = x * 2 ^ (32 - n) + x / 2 ^ n := by
    rw [e0, Nat.mul_add_div (Nat.two_pow_pos n)]
  have e2 : x * 2 ^ (32 - n) = x / 2 ^ n * 4294967296 + x % 2 ^ n * 2 ^ (32 - n) := by
    conv => lhs; rw [← Nat.div_add_mod x (2 ^ n)]
    rw [Nat.add_mul, Nat.mul_assoc, Nat.mul_comm (2 ^ n) (_ * _), Nat.mul_assoc, Nat.mul_comm (2 ^ (32 - n)), hp]
  rw [e1, e2, Nat.add_assoc]
  show (x / 2 ^ n * 4294967296 + rr n x) % 4294967296 = _
  rw [Nat.mul_comm, Nat.mul_add_mod]
  exact Nat.mod_eq_of_lt hl

theorem or_word (x : Nat) (hx : x < 4294967296) : bits .or .u64 ((x : Int) * 4294967296) (x : Int) = ((x * 4294967296 + x : Nat) : Int) := by
  have e : ((x : Int) * 4294967296) = ((x * 4294967296 : Nat) : Int) := by simp
  rw [e, or64 _ _ (by omega) (by omega), Nat.mul_comm]
  exact congrArg _ (Nat.two_pow_add_eq_or_of_lt (i := 32) hx x).symm

def s0 (x : Nat) : Nat := rr 7 x ^^^ rr 18 x ^^^ x / 8
def s1 (x : Nat) : Nat := rr 17 x ^^^ rr 19 x ^^^ x / 1024
def S0 (x : Nat) : Nat := rr 2 x ^^^ rr 13 x ^^^ rr 22 x
def S1 (x : Nat) : Nat := rr 6 x ^^^ rr 11 x ^^^ rr 25 x
def ch (e f g : Nat) : Nat := (e &&& f) ^^^ ((4294967295 ^^^ e) &&& g)
def maj (a b c : Nat) : Nat := (a &&& b) ^^^ (a &&& c) ^^^ (b &&& c)

theorem xlt {a b : Nat} (ha : a < 4294967296) (hb : b < 4294967296) : a ^^^ b < 4294967296 := Nat.xor_lt_two_pow (n := 32) ha hb
theorem s0_lt {x : Nat} (h : x < 4294967296) : s0 x < 4294967296 := xlt (xlt (rr_lt _ _ (by decide) h) (rr_lt _ _ (by decide) h)) (by omega)
theorem s1_lt {x : Nat} (h : x < 4294967296) : s1 x < 4294967296 := xlt (xlt (rr_lt _ _ (by decide) h) (rr_lt _ _ (by decide) h)) (by omega)
theorem S0_lt {x : Nat} (h : x < 4294967296) : S0 x < 4294967296 := xlt (xlt (rr_lt _ _ (by decide) h) (rr_lt _ _ (by decide) h)) (rr_lt _ _ (by decide) h)
theorem S1_lt {x : Nat} (h : x < 4294967296) : S1 x < 4294967296 := xlt (xlt (rr_lt _ _ (by decide) h) (rr_lt _ _ (by decide) h)) (rr_lt _ _ (by decide) h)
theorem and_lt {a b : Nat} (ha : a < 4294967296) : a &&& b < 4294967296 := Nat.lt_of_le_of_lt Nat.and_le_left ha
theorem ch_lt {e f g : Nat} (he : e < 4294967296) : ch e f g < 4294967296 := xlt (and_lt he) (and_lt (xlt (by decide) he))
theorem maj_lt {a b c : Nat} (ha : a < 4294967296) (hb : b < 4294967296) : maj a b c < 4294967296 := xlt (xlt (and_lt ha) (and_lt ha)) (and_lt hb)

theorem not_sub (e : Nat) (h : e < 4294967296) : 4294967296 - 1 - e = 4294967295 ^^^ e := by
  apply Nat.eq_of_testBit_eq
  intro i
  have h1 := Nat.testBit_two_pow_sub_succ (n := 32) h i
  have h2 := Nat.testBit_two_pow_sub_one 32 i
  rw [Nat.testBit_xor, show (4294967295 : Nat) = 2 ^ 32 - 1 by decide, h2, show 4294967296 - 1 - e = 2 ^ 32 - (e + 1) by omega, h1]
  by_cases hi : i < 32
  · simp [hi]
  · have : e.testBit i = false := Nat.testBit_lt_two_pow (Nat.lt_of_lt_of_le h (Nat.pow_le_pow_right (show 0 < 2 by decide) (by omega : 32 ≤ i)))
    simp [hi, this]
theorem ch_or (e f g : Nat) : (e &&& f) ||| ((4294967295 ^^^ e) &&& g) = ch e f g ∨ ¬ e < 4294967296 := by
  by_cases h : e < 4294967296
  · left
    unfold ch
    apply Nat.eq_of_testBit_eq
    intro i
    have h2 := Nat.testBit_two_pow_sub_one 32 i
    simp only [Nat.testBit_xor, Nat.testBit_or, Nat.testBit_and, show (4294967295 : Nat) = 2 ^ 32 - 1 by decide, h2]
    by_cases hi : i < 32
    · simp only [hi, decide_true]
      cases e.testBit i <;> cases f.testBit i <;> cases g.testBit i <;> rfl
    · have : e.testBit i = false := Nat.testBit_lt_two_pow (Nat.lt_of_lt_of_le h (Nat.pow_le_pow_right (show 0 < 2 by decide) (by omega : 32 ≤ i)))
      simp [hi, this]
  · right; exact h
theorem maj_or (a b c : Nat) : (a &&& b) ||| (a &&& c) ||| (b &&& c) = maj a b c := by
  unfold maj
  apply Nat.eq_of_testBit_eq
  intro i
  simp only [Nat.testBit_xor, Nat.testBit_or, Nat.testBit_and]
  cases a.testBit i <;> cases b.testBit i <;> cases c.testBit i <;> rfl

theorem turn_count (n : Nat) (h : 1 ≤ n) (h' : n ≤ 31) : bits .and .u64 (IntKind.u64.wrap (-(n : Int))) 31 = ((32 - n : Nat) : Int) := by
  have key : ∀ k : Fin 32, 1 ≤ k.val → bits .and .u64 (IntKind.u64.wrap (-(k.val : Int))) 31 = ((32 - k.val : Nat) : Int) := by decide +kernel
  exact key ⟨n, by omega⟩ h
theorem x3_walk (a b c : Nat) (ha : a < 4294967296) (hb : b < 4294967296) (hc : c < 4294967296) :
    bits .xor .u32 (bits .xor .u32 (a : Int) (b : Int)) (c : Int) = ((a ^^^ b ^^^ c : Nat) : Int) := by
  rw [xor32 _ _ ha hb, xor32 _ _ (xlt ha hb) hc]
theorem s0_walk (x : Nat) (h : x < 4294967296) : bits .xor .u32 (bits .xor .u32 (rr 7 x : Nat) (rr 18 x : Nat)) ((x : Int) / 8) = ((s0 x : Nat) : Int) := by
  rw [show ((x : Int) / 8) = ((x / 8 : Nat) : Int) by omega]
  exact x3_walk _ _ _ (rr_lt _ _ (by decide) h) (rr_lt _ _ (by decide) h) (by omega)
theorem s1_walk (x : Nat) (h : x < 4294967296) : bits .xor .u32 (bits .xor .u32 (rr 17 x : Nat) (rr 19 x : Nat)) ((x : Int) / 1024) = ((s1 x : Nat) : Int) := by
  rw [show ((x : Int) / 1024) = ((x / 1024 : Nat) : Int) by omega]
  exact x3_walk _ _ _ (rr_lt _ _ (by decide) h) (rr_lt _ _ (by decide) h) (by omega)
theorem S0_walk (x : Nat) (h : x < 4294967296) : bits .xor .u32 (bits .xor .u32 (rr 2 x : Nat) (rr 13 x : Nat)) ((rr 22 x : Nat) : Int) = ((S0 x : Nat) : Int) :=
  x3_walk _ _ _ (rr_lt _ _ (by decide) h) (rr_lt _ _ (by decide) h) (rr_lt _ _ (by decide) h)
theorem S1_walk (x : Nat) (h : x < 4294967296) : bits .xor .u32 (bits .xor .u32 (rr 6 x : Nat) (rr 11 x : Nat)) ((rr 25 x : Nat) : Int) = ((S1 x : Nat) : Int) :=
  x3_walk _ _ _ (rr_lt _ _ (by decide) h) (rr_lt _ _ (by decide) h) (rr_lt _ _ (by decide) h)

theorem ch_walk (e f g : Nat) (he : e < 4294967296) (hf : f < 4294967296) (hg : g < 4294967296) :
    bits .xor .u32 (bits .and .u32 (e : Int) (f : Int)) (bits .and .u32 (bits .xor .u32 IntKind.u32.max (e : Int)) (g : Int)) = ((ch e f g : Nat) : Int) := by
  rw [show IntKind.u32.max = ((4294967295 : Nat) : Int) from rfl, xor32 _ _ (by decide) he, and32 _ _ he hf, and32 _ _ (xlt (by decide) he) hg, xor32 _ _ (and_lt he) (and_lt (xlt (by decide) he))]
  rfl
theorem maj_walk (a b c : Nat) (ha : a < 4294967296) (hb : b < 4294967296) (hc : c < 4294967296) :
    bits .xor .u32 (bits .xor .u32 (bits .and .u32 (a : Int) (b : Int)) (bits .and .u32 (a : Int) (c : Int))) (bits .and .u32 (b : Int) (c : Int)) = ((maj a b c : Nat) : Int) := by
  rw [and32 _ _ ha hb, and32 _ _ ha hc, and32 _ _ hb hc]
  exact x3_walk _ _ _ (and_lt ha) (and_lt ha) (and_lt hb)

/-- eight words -/
structure St where
  a : Nat
  b : Nat
  c : Nat
  d : Nat
  e : Nat
  f : Nat
  g : Nat
  h : Nat
def St.ok (s : St) : Prop := s.a < 4294967296 ∧ s.b < 4294967296 ∧ s.c < 4294967296 ∧ s.d < 4294967296 ∧ s.e < 4294967296 ∧ s.f < 4294967296 ∧ s.g < 4294967296 ∧ s.h < 4294967296
def St.words (s : St) : List Nat := [s.a, s.b, s.c, s.d, s.e, s.f, s.g, s.h]
theorem words_lt (s : St) (h : s.ok) (i : Nat) : s.words.getD i 0 < 4294967296 := by
  obtain ⟨h1, h2, h3, h4, h5, h6, h7, h8⟩ := h
  match i with
  | 0 => exact h1
  | 1 => exact h2
  | 2 => exact h3
  | 3 => exact h4
  | 4 => exact h5
  | 5 => exact h6
  | 6 => exact h7
  | 7 => exact h8
  | n + 8 => simp [St.words]
/-- one round: x is the constant and the word together -/
def round (s : St) (x : Nat) : St :=
  { a := (s.h + S1 s.e + ch s.e s.f s.g + x + (S0 s.a + maj s.a s.b s.c)) % 4294967296, b := s.a, c := s.b, d := s.c,
    e := (s.d + (s.h + S1 s.e + ch s.e s.f s.g + x)) % 4294967296, f := s.e, g := s.f, h := s.g }
theorem round_ok (s : St) (x : Nat) (h : s.ok) : (round s x).ok := by
  obtain ⟨h1, h2, h3, h4, h5, h6, h7, h8⟩ := h
  exact ⟨Nat.mod_lt _ (by decide), h1, h2, h3, Nat.mod_lt _ (by decide), h5, h6, h7⟩

def add (s t : St) : St :=
  ⟨(s.a + t.a) % 4294967296, (s.b + t.b) % 4294967296, (s.c + t.c) % 4294967296, (s.d + t.d) % 4294967296, (s.e + t.e) % 4294967296, (s.f + t.f) % 4294967296, (s.g + t.g) % 4294967296, (s.h + t.h) % 4294967296⟩
theorem add_ok (s t : St) : (add s t).ok :=
  ⟨Nat.mod_lt _ (by decide), Nat.mod_lt _ (by decide), Nat.mod_lt _ (by decide), Nat.mod_lt _ (by decide), Nat.mod_lt _ (by decide), Nat.mod_lt _ (by decide), Nat.mod_lt _ (by decide), Nat.mod_lt _ (by decide)⟩
/-- so many rounds: K the constants, W the words of the block -/
def rnds (K W : List Nat) (s : St) : Nat → St
  | 0 => s
  | t + 1 => round (rnds K W s t) ((K.getD t 0 + W.getD t 0) % 4294967296)
theorem rnds_ok (K W : List Nat) (s : St) (h : s.ok) : ∀ t, (rnds K W s t).ok
  | 0 => h
  | t + 1 => round_ok _ _ (rnds_ok K W s h t)
def block (K W : List Nat) (s : St) : St := add (rnds K W s 64) s
theorem block_ok (K W : List Nat) (s : St) : (block K W s).ok := add_ok _ _
end Go.Proofs.YthpmcilljbmoiaaGreatDoor.Word
namespace Go.Proofs.YthpmcilljbmoiaaGreatDoor
open Go.RowKit Word

theorem ret_int {k : IntKind} {a b : Int} (h : a = b) : Ending.returned (.int k a) = .returned (.int k b) := by rw [h]

set_option maxHeartbeats 400000 in
theorem right_any (x : Nat) (m : Int) (w : World) (hx : x < 4294967296) (hm : 1 ≤ m) (hm' : m ≤ 31) :
    Calls Tryz.prog 231 #[.int .u32 x, .int .i64 m] w fun e w' => e = .returned (.int .u32 (rr m.toNat x : Nat)) ∧ w' = w := by
  obtain ⟨n, rfl⟩ := Int.eq_ofNat_of_zero_le (show 0 ≤ m by omega)
  rw [Int.toNat_natCast]
  obtain ⟨k, hk⟩ : ∃ k, k = 32 - n := ⟨_, rfl⟩
  have hc := turn_count n (by omega) (by omega)
  rw [← hk] at hc
  have hk1 : 1 ≤ k := by omega
  have hk2 : k ≤ 31 := by omega
  have HR : Hid (bits .or .u32 ((x : Int) * 2 ^ k % 4294967296) ((x : Int) / 2 ^ (32 - k)) = ((rr n x : Nat) : Int)) := by
    have := rr_walk k x (by omega) hx
    rwa [show 32 - k = n by omega] at this ⊢
  clear hk
  go_enter Tryz.func231, Tryz.ntmps231
  go_wp2
  go_ret
  exact ⟨ret_int HR.out, rfl⟩

set_option maxHeartbeats 400000 in
theorem smallOne_any (x : Nat) (w : World) (hx : x < 4294967296) :
    Calls Tryz.prog 207 #[.int .u32 x] w fun e w' => e = .returned (.int .u32 (s1 x : Nat)) ∧ w' = w := by
  go_enter Tryz.func207, Tryz.ntmps207
  go_wp2_with (go_at_call 231; refine (right_any _ _ _ hx (by omega) (by omega)).mono ?_; rintro e w' ⟨rfl, rfl⟩)
  go_ret
  exact ⟨ret_int (s1_walk x hx), rfl⟩

set_option maxHeartbeats 400000 in
theorem smallNought_any (x : Nat) (w : World) (hx : x < 4294967296) :
    Calls Tryz.prog 208 #[.int .u32 x] w fun e w' => e = .returned (.int .u32 (s0 x : Nat)) ∧ w' = w := by
  go_enter Tryz.func208, Tryz.ntmps208
  go_wp2_with (go_at_call 231; refine (right_any _ _ _ hx (by omega) (by omega)).mono ?_; rintro e w' ⟨rfl, rfl⟩)
  go_ret
  exact ⟨ret_int (s0_walk x hx), rfl⟩

set_option maxHeartbeats 400000 in
theorem bigOne_any (x : Nat) (w : World) (hx : x < 4294967296) :
    Calls Tryz.prog 229 #[.int .u32 x] w fun e w' => e = .returned (.int .u32 (S1 x : Nat)) ∧ w' = w := by
  go_enter Tryz.func229, Tryz.ntmps229
  go_wp2_with (go_at_call 231; refine (right_any _ _ _ hx (by omega) (by omega)).mono ?_; rintro e w' ⟨rfl, rfl⟩)
  go_ret
  exact ⟨ret_int (S1_walk x hx), rfl⟩

set_option maxHeartbeats 400000 in
theorem bigNought_any (x : Nat) (w : World) (hx : x < 4294967296) :
    Calls Tryz.prog 230 #[.int .u32 x] w fun e w' => e = .returned (.int .u32 (S0 x : Nat)) ∧ w' = w := by
  go_enter Tryz.func230, Tryz.ntmps230
  go_wp2_with (go_at_call 231; refine (right_any _ _ _ hx (by omega) (by omega)).mono ?_; rintro e w' ⟨rfl, rfl⟩)
  go_ret
  exact ⟨ret_int (S0_walk x hx), rfl⟩

end Go.Proofs.YthpmcilljbmoiaaGreatDoor
namespace Go.Proofs.YthpmcilljbmoiaaGreatDoor
open Go.RowKit Word

/-- words as cells -/
def c32 (l : List Nat) : Array Value := (l.map fun (n : Nat) => Value.int .u32 n).toArray

theorem c32_get (l : List Nat) (i : Nat) (h : i < l.length) : (c32 l)[i]? = some (.int .u32 (l.getD i 0 : Nat)) := by
  simp [c32, h]

set_option maxHeartbeats 1000000 in
theorem round_any (a b c d e f g k x : Nat) (w : World) (ha : a < 4294967296) (hb : b < 4294967296) (hc : c < 4294967296) (_hd : d < 4294967296) (he : e < 4294967296) (hf : f < 4294967296) (hg : g < 4294967296) (_hh : k < 4294967296) (_hx : x < 4294967296) :
    Calls Tryz.prog 206 #[.agg #[.int .u32 a, .int .u32 b, .int .u32 c, .int .u32 d, .int .u32 e, .int .u32 f, .int .u32 g, .int .u32 k], .int .u32 x] w
      fun r w' => r = .returned (.agg (c32 (round ⟨a, b, c, d, e, f, g, k⟩ x).words)) ∧ Below w.heap.size w w' := by
  have H1 := ch_walk e f g he hf hg
  have H2 := maj_walk a b c ha hb hc
  go_enter Tryz.func206, Tryz.ntmps206
  go_wp2_with fail
  go_quiet (fail)
  go_wp2_with (first | (go_at_call 229; refine (bigOne_any _ _ he).mono ?_; rintro e w' ⟨rfl, rfl⟩) | (go_at_call 230; refine (bigNought_any _ _ ha).mono ?_; rintro e w' ⟨rfl, rfl⟩))
  refine bodyPost_ret (v := .agg (c32 (round ⟨a, b, c, d, e, f, g, k⟩ x).words)) (by simp [results, Tryz.results206, go_sem, c32, round, St.words]) rfl ⟨rfl, ?_⟩
  iterate 8 refine Below.setCell ?_ (by simp) _
  refine below_drewN ?_ _
  exact ((Below.refl _ _).alloc (Nat.le_refl _) _).alloc (by simp) _
theorem round_st (s : St) (y : Int) (w : World) (hs : s.ok) (h0 : 0 ≤ y) (hy : y < 4294967296) :
    Calls Tryz.prog 206 #[.agg #[.int .u32 (s.a : Nat), .int .u32 (s.b : Nat), .int .u32 (s.c : Nat), .int .u32 (s.d : Nat), .int .u32 (s.e : Nat), .int .u32 (s.f : Nat), .int .u32 (s.g : Nat), .int .u32 (s.h : Nat)], .int .u32 y] w
      fun r w' => r = .returned (.agg #[.int .u32 ((round s y.toNat).a : Nat), .int .u32 ((round s y.toNat).b : Nat), .int .u32 ((round s y.toNat).c : Nat), .int .u32 ((round s y.toNat).d : Nat), .int .u32 ((round s y.toNat).e : Nat), .int .u32 ((round s y.toNat).f : Nat), .int .u32 ((round s y.toNat).g : Nat), .int .u32 ((round s y.toNat).h : Nat)]) ∧ Below w.heap.size w w' := by
  obtain ⟨x, rfl⟩ := Int.eq_ofNat_of_zero_le h0
  obtain ⟨h1, h2, h3, h4, h5, h6, h7, h8⟩ := hs
  exact round_any s.a s.b s.c s.d s.e s.f s.g s.h x w h1 h2 h3 h4 h5 h6 h7 h8 (by omega)
theorem round_ww (s : St) (a b : Nat) (w : World) (hs : s.ok) :
    Calls Tryz.prog 206 #[.agg #[.int .u32 (s.a : Nat), .int .u32 (s.b : Nat), .int .u32 (s.c : Nat), .int .u32 (s.d : Nat), .int .u32 (s.e : Nat), .int .u32 (s.f : Nat), .int .u32 (s.g : Nat), .int .u32 (s.h : Nat)], .int .u32 (IntKind.u32.wrap ((a : Int) + (b : Int)))] w
      fun r w' => r = .returned (.agg #[.int .u32 ((round s ((a + b) % 4294967296)).a : Nat), .int .u32 ((round s ((a + b) % 4294967296)).b : Nat), .int .u32 ((round s ((a + b) % 4294967296)).c : Nat), .int .u32 ((round s ((a + b) % 4294967296)).d : Nat), .int .u32 ((round s ((a + b) % 4294967296)).e : Nat), .int .u32 ((round s ((a + b) % 4294967296)).f : Nat), .int .u32 ((round s ((a + b) % 4294967296)).g : Nat), .int .u32 ((round s ((a + b) % 4294967296)).h : Nat)]) ∧ Below w.heap.size w w' := by
  have := round_st s ((a + b) % 4294967296 : Nat) w hs (by omega) (by omega)
  rw [Int.toNat_natCast] at this
  rw [show ((a : Int) + (b : Int)) = ((a + b : Nat) : Int) by omega, wrap_u32_nat]
  exact this
end Go.Proofs.YthpmcilljbmoiaaGreatDoor
