import Derived.Test.YthpmcilljbmoiaaGreatDoorReqRead
import Derived.Test.YthpmcilljbmoiaaGreatDoorItems
import Derived.Deep.QuietTactic
import Derived.BigQuiet
namespace Go.Proofs.YthpmcilljbmoiaaGreatDoor
open Go.RowKit

set_option maxRecDepth 100000 in
set_option maxHeartbeats 400000 in
theorem find_empty (sb : Nat) (nm : ByteArray) (w : World) (h : w.cell? ⟨sb, 0, none⟩ = some (.slice none 0 0)) :
    Calls Tryz.prog 167 #[.pointer (some ⟨sb, 0, none⟩), .string nm] w fun r w' => r = .returned (.int .i64 (-1)) ∧ w = w' := by
  go_enter Tryz.func167, Tryz.ntmps167
  go_wp2
  refine wp_loop_rounds 1 ?_
  rw [rounds_succ]
  go_wp2
  go_ret
  exact ⟨rfl, rfl⟩
set_option maxRecDepth 100000 in
set_option maxHeartbeats 400000 in
theorem shardRead_empty (sb : Nat) (nm : ByteArray) (w : World) (h : w.cell? ⟨sb, 0, none⟩ = some (.slice none 0 0)) :
    Calls Tryz.prog 187 #[.pointer (some ⟨sb, 0, none⟩), .string nm] w fun r w' => r = .returned (.tuple #[.string ⟨#[]⟩, .bool false]) ∧ w = w' := by
  have HF := hide (find_empty sb nm w h)
  go_enter Tryz.func187, Tryz.ntmps187
  go_wp2_with (go_at_call 167; refine HF.out.mono ?_; rintro e w1 ⟨rfl, rfl⟩)
  go_ret2
  exact ⟨rfl, rfl⟩
set_option maxRecDepth 100000 in
set_option maxHeartbeats 400000 in
theorem shard_no (nm : ByteArray) (m : Nat) (w : World) (h : 2 < nm.size) (hm : 0 < m) (hm8 : m ≤ 8) :
    Calls Tryz.prog 85 #[.string nm, .int .i64 m] w fun r w' => r = .returned (.int .i64 ((nm[2].toNat % m : Nat) : Int)) ∧ w = w' := by
  have hi : (2 : Int) < (nm.size : Int) := by omega
  have hb := (nm[2]).toNat_lt
  have hm0 : ¬ ((m : Int) = 0) := by omega
  go_enter Tryz.func85, Tryz.ntmps85
  go_wp2
  go_ret
  exact ⟨by rw [Int.natCast_emod]; rfl, rfl⟩

/-- a depot's shards: m pointers -/
structure Shs (w : World) (db b off m cap : Nat) (sh : Nat → Nat) : Prop where
  sl : w.cell? ⟨db, 0, none⟩ = some (.slice (some ⟨b, off, none⟩) m cap)
  at_ : ∀ k, k < m → w.cell? ⟨b, off + k, none⟩ = some (.pointer (some ⟨sh k, 0, none⟩))
  em : ∀ k, k < m → w.cell? ⟨sh k, 0, none⟩ = some (.slice none 0 0)
  m0 : 0 < m
  m8 : m ≤ 8

set_option maxRecDepth 100000 in
set_option maxHeartbeats 1000000 in
theorem shardOf_any (db b off m cap : Nat) (sh : Nat → Nat) (nm : ByteArray) (w : World) (h : Shs w db b off m cap sh) (hn : 2 < nm.size) :
    Calls Tryz.prog 140 #[.pointer (some ⟨db, 0, none⟩), .string nm] w
      fun r w' => r = .returned (.pointer (some ⟨sh (nm[2].toNat % m), 0, none⟩)) ∧ ∃ d, w' = w.drewN d := by
  have c0 := h.sl
  have hk : nm[2].toNat % m < m := Nat.mod_lt _ h.m0
  have c1 := h.at_ _ hk
  have HS : Hid (∀ w1, Calls Tryz.prog 85 #[.string nm, .int .i64 m] w1 fun r w' => r = .returned (.int .i64 ((nm[2].toNat % m : Nat) : Int)) ∧ w1 = w') := fun w1 => shard_no nm m w1 hn h.m0 h.m8
  have h0 := h.m0
  clear h
  generalize nm[2].toNat % m = k at *
  have hki : (k : Int) < (m : Int) := by omega
  have hk0 : (0 : Int) ≤ (k : Int) := by omega
  go_enter Tryz.func140, Tryz.ntmps140
  go_wp2
  go_quiet (first | (go_at_call 85; exact Calls.quiet_of_same ((HS.out _).mono (fun _ _ h => ⟨h.1, h.2.symm⟩))))
  go_wp2
  go_ret
  exact ⟨rfl, nq, rfl⟩

set_option maxRecDepth 100000 in
set_option maxHeartbeats 1000000 in
theorem read_empty (db b off m cap : Nat) (sh : Nat → Nat) (nm : ByteArray) (w : World) (h : Shs w db b off m cap sh) (hn : 2 < nm.size) :
    Calls Tryz.prog 134 #[.pointer (some ⟨db, 0, none⟩), .string nm] w
      fun r w' => ∃ v, r = .returned v ∧ Bs w' 5 v (b8 0) ∧ Below w.heap.size w w' ∧ Fresh w.heap.size v := by
  have H1 : Hid (Calls Tryz.prog 140 #[.pointer (some ⟨db, 0, none⟩), .string nm] w fun r w' => r = .returned (.pointer (some ⟨sh (nm[2].toNat % m), 0, none⟩)) ∧ Below w.heap.size w w' ∧ w'.heap.size = w.heap.size ∧ w'.cell? ⟨sh (nm[2].toNat % m), 0, none⟩ = some (.slice none 0 0)) := by
    refine (shardOf_any db b off m cap sh nm w h hn).mono ?_
    rintro e w' ⟨q1, d, rfl⟩
    exact ⟨q1, ⟨rfl, rfl, rfl, Nat.le_refl _, fun _ _ => rfl⟩, rfl, h.em _ (Nat.mod_lt _ h.m0)⟩
  have H2 := hide (fun (sb : Nat) w1 (hc : World.cell? w1 ⟨sb, 0, none⟩ = some (.slice none 0 0)) => shardRead_empty sb nm w1 hc)
  have H3 := hide no_any
  clear h
  generalize sh (nm[2].toNat % m) = sb at *
  go_enter Tryz.func134, Tryz.ntmps134
  go_wp2_with (first | (go_at_call 140; refine H1.out.mono ?_; rintro e w1 ⟨rfl, k1, z1, g1⟩) | (go_at_call 187; refine (H2.out sb w1 g1).mono ?_; rintro e w2 ⟨rfl, rfl⟩) | (go_at_call 183; refine (H3.out _).mono ?_; rintro e w3 ⟨v, rfl, b3, k3, f3⟩))
  go_ret
  exact ⟨v, rfl, b3, k1.trans (k3.mono k1.size), f3.mono k1.size⟩
end Go.Proofs.YthpmcilljbmoiaaGreatDoor
