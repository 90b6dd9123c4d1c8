import Derived.Test.YthpmcilljbmoiaaGreatDoorTurn
import Derived.Deep.QuietTactic
import Derived.BigQuiet
namespace Go.Proofs.YthpmcilljbmoiaaGreatDoor
open Go.RowKit Word

/-- words as cells -/
def c32 (l : List Nat) : Array Value := (l.map fun (n : Nat) => Value.int .u32 n).toArray

theorem c32_get (l : List Nat) (i : Nat) (h : i < l.length) : (c32 l)[i]? = some (.int .u32 (l.getD i 0 : Nat)) := by
  simp [c32, h]

set_option maxHeartbeats 1000000 in
theorem round_any (a b c d e f g k x : Nat) (w : World) (ha : a < 4294967296) (hb : b < 4294967296) (hc : c < 4294967296) (_hd : d < 4294967296) (he : e < 4294967296) (hf : f < 4294967296) (hg : g < 4294967296) (_hh : k < 4294967296) (_hx : x < 4294967296) :
    Calls Tryz.prog 206 #[.agg #[.int .u32 a, .int .u32 b, .int .u32 c, .int .u32 d, .int .u32 e, .int .u32 f, .int .u32 g, .int .u32 k], .int .u32 x] w
      fun r w' => r = .returned (.agg (c32 (round ⟨a, b, c, d, e, f, g, k⟩ x).words)) ∧ Below w.heap.size w w' := by
  have H1 := ch_walk e f g he hf hg
  have H2 := maj_walk a b c ha hb hc
  go_enter Tryz.func206, Tryz.ntmps206
  go_wp2_with fail
  go_quiet (fail)
  go_wp2_with (first | (go_at_call 229; refine (bigOne_any _ _ he).mono ?_; rintro e w' ⟨rfl, rfl⟩) | (go_at_call 230; refine (bigNought_any _ _ ha).mono ?_; rintro e w' ⟨rfl, rfl⟩))
  refine bodyPost_ret (v := .agg (c32 (round ⟨a, b, c, d, e, f, g, k⟩ x).words)) (by simp [results, Tryz.results206, go_sem, c32, round, St.words]) rfl ⟨rfl, ?_⟩
  iterate 8 refine Below.setCell ?_ (by simp) _
  refine below_drewN ?_ _
  exact ((Below.refl _ _).alloc (Nat.le_refl _) _).alloc (by simp) _
theorem round_st (s : St) (y : Int) (w : World) (hs : s.ok) (h0 : 0 ≤ y) (hy : y < 4294967296) :
    Calls Tryz.prog 206 #[.agg #[.int .u32 (s.a : Nat), .int .u32 (s.b : Nat), .int .u32 (s.c : Nat), .int .u32 (s.d : Nat), .int .u32 (s.e : Nat), .int .u32 (s.f : Nat), .int .u32 (s.g : Nat), .int .u32 (s.h : Nat)], .int .u32 y] w
      fun r w' => r = .returned (.agg #[.int .u32 ((round s y.toNat).a : Nat), .int .u32 ((round s y.toNat).b : Nat), .int .u32 ((round s y.toNat).c : Nat), .int .u32 ((round s y.toNat).d : Nat), .int .u32 ((round s y.toNat).e : Nat), .int .u32 ((round s y.toNat).f : Nat), .int .u32 ((round s y.toNat).g : Nat), .int .u32 ((round s y.toNat).h : Nat)]) ∧ Below w.heap.size w w' := by
  obtain ⟨x, rfl⟩ := Int.eq_ofNat_of_zero_le h0
  obtain ⟨h1, h2, h3, h4, h5, h6, h7, h8⟩ := hs
  exact round_any s.a s.b s.c s.d s.e s.f s.g s.h x w h1 h2 h3 h4 h5 h6 h7 h8 (by omega)
theorem round_ww (s : St) (a b : Nat) (w : World) (hs : s.ok) :
    Calls Tryz.prog 206 #[.agg #[.int .u32 (s.a : Nat), .int .u32 (s.b : Nat), .int .u32 (s.c : Nat), .int .u32 (s.d : Nat), .int .u32 (s.e : Nat), .int .u32 (s.f : Nat), .int .u32 (s.g : Nat), .int .u32 (s.h : Nat)], .int .u32 (IntKind.u32.wrap ((a : Int) + (b : Int)))] w
      fun r w' => r = .returned (.agg #[.int .u32 ((round s ((a + b) % 4294967296)).a : Nat), .int .u32 ((round s ((a + b) % 4294967296)).b : Nat), .int .u32 ((round s ((a + b) % 4294967296)).c : Nat), .int .u32 ((round s ((a + b) % 4294967296)).d : Nat), .int .u32 ((round s ((a + b) % 4294967296)).e : Nat), .int .u32 ((round s ((a + b) % 4294967296)).f : Nat), .int .u32 ((round s ((a + b) % 4294967296)).g : Nat), .int .u32 ((round s ((a + b) % 4294967296)).h : Nat)]) ∧ Below w.heap.size w w' := by
  have := round_st s ((a + b) % 4294967296 : Nat) w hs (by omega) (by omega)
  rw [Int.toNat_natCast] at this
  rw [show ((a : Int) + (b : Int)) = ((a + b : Nat) : Int) by omega, wrap_u32_nat]
  exact this
end Go.Proofs.YthpmcilljbmoiaaGreatDoor
