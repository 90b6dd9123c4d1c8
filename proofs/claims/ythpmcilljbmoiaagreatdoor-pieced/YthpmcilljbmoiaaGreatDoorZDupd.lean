import Derived.Test.YthpmcilljbmoiaaGreatDoorZDpin
import Derived.Deep.CutBlock
import Derived.Deep.DeepCutAuto
namespace Go.Proofs.YthpmcilljbmoiaaGreatDoor
open Go.RowKit

variable {w : World} {db sb : Nat}
set_option maxRecDepth 100000 in
set_option maxHeartbeats 1000000 in
/-- the bytes have the name: they are stored -/
theorem update_right (nm bs : ByteArray) (S : Nat → Prop) (Q : World → Prop) (hso : SOf w db sb nm) (hno : ∀ w1, Below w.heap.size w w1 → Calls Tryz.prog 84 #[.string bs] w1 fun r w' => r = .returned (.string nm) ∧ Below w1.heap.size w1 w')
    (hst : ∀ w1, Below w.heap.size w w1 → Calls Tryz.prog 117 #[.pointer (some ⟨sb, 0, none⟩), .string nm, .string bs] w1 fun r w' => r = .returned (.int .i64 1) ∧ Q w' ∧ Kept S w w') (hQ : ∀ w1 w2, Q w1 → Below w1.heap.size w1 w2 → Q w2) :
    Calls Tryz.prog 135 #[.pointer (some ⟨db, 0, none⟩), .agg #[.string nm, .string bs]] w fun r w' => ∃ v, r = .returned v ∧ Bs w' 5 v (b8 1) ∧ Q w' ∧ Kept S w w' ∧ Fresh w.heap.size v := by
  have hA := Below.alloc (Below.refl w.heap.size w) (Nat.le_refl _) (.cells #[.string nm, .string bs] 253)
  have hN1 := Blk.new w 253 #[.string nm, .string bs]
  have HO : Hid (Calls Tryz.prog 84 #[.string bs] (World.drew (w.alloc (.cells #[.string nm, .string bs] 253))) fun r w' => r = .returned (.string nm) ∧ Below w.heap.size w w' ∧ Blk w' w.heap.size 253 #[.string nm, .string bs] ∧ w'.cell? ⟨w.heap.size, 0, none⟩ = some (.string nm) ∧ w'.cell? ⟨w.heap.size, 1, none⟩ = some (.string bs)) := by
    refine (hno _ hA.drew).mono ?_
    rintro e w' ⟨q1, q2⟩
    have hb := hN1.drew.below q2 (by simp)
    exact ⟨q1, hA.drew.trans (q2.mono hA.size), hb, hb.cell 0, hb.cell 1⟩
  have HS : Hid (∀ w1, Below w.heap.size w w1 → Blk w1 w.heap.size 253 #[.string nm, .string bs] → Calls Tryz.prog 140 #[.pointer (some ⟨db, 0, none⟩), .string nm] (World.drew w1) fun r w' => r = .returned (.pointer (some ⟨sb, 0, none⟩)) ∧ Below w.heap.size w w' ∧ w'.cell? ⟨w.heap.size, 0, none⟩ = some (.string nm) ∧ w'.cell? ⟨w.heap.size, 1, none⟩ = some (.string bs)) := fun w1 hb hB => by
    refine (hso _ hb.drew).mono ?_
    rintro e w' ⟨q1, q2⟩
    have := hB.drew.below q2 hB.lt
    exact ⟨q1, hb.drew.trans (q2.mono hb.size), this.cell 0, this.cell 1⟩
  have HT : Hid (∀ w1, Below w.heap.size w w1 → Calls Tryz.prog 117 #[.pointer (some ⟨sb, 0, none⟩), .string nm, .string bs] w1 fun r w' => r = .returned (.int .i64 1) ∧ Q w' ∧ Kept S w w') := hst
  have HQ := hide hQ
  have hbb := str_same nm nm rfl
  clear hno hso hst hQ
  go_enter Tryz.func135, Tryz.ntmps135
  go_upto_region 1 with fail
  generalize w.alloc (.cells #[.string nm, .string bs] 253) = W1 at *
  have c0 : W1.cell? ⟨w.heap.size, 0, none⟩ = some (.string nm) := hN1.cell 0
  have c1 : W1.cell? ⟨w.heap.size, 1, none⟩ = some (.string bs) := hN1.cell 1
  go_cut [10] (fun s10 wx => s10 = .bool false ∧ Below w.heap.size w wx ∧ Hid (Blk wx w.heap.size 253 #[.string nm, .string bs]))
  case first =>
    go_region_with (go_at_call 84; refine HO.out.mono ?_; rintro e w2 ⟨rfl, k2, B2, e0, e1⟩)
    all_goals
      go_wp2_with fail
      go_meet
      exact ⟨rfl, k2, B2⟩
  case rest =>
    obtain ⟨rfl, k2, B2⟩ := hcut
    have B2' := B2.out
    have e0 : wc.cell? ⟨w.heap.size, 0, none⟩ = some (.string nm) := B2'.cell 0
    have e1 : wc.cell? ⟨w.heap.size, 1, none⟩ = some (.string bs) := B2'.cell 1
    clear HO c0 c1
    go_wp2
    go_region_with (first | (go_at_call 140; refine (HS.out wc k2 B2').mono ?_; rintro e w3 ⟨rfl, k3, g0, g1⟩) | (go_at_call 117; refine (HT.out w3 k3).mono ?_; rintro e w4 ⟨rfl, h4, k4⟩))
    all_goals
      go_wp2
      go_ret
      refine ⟨_, rfl, Bs.oneB w4 1 (by omega), HQ.out _ _ h4 ((Below.refl _ _).alloc (Nat.le_refl _) _), k4.alloc _, fun k hk => ?_⟩
      have hk' : some w4.heap.size = some k := hk
      injection hk' with hk'
      have h4s := k4.size
      omega
end Go.Proofs.YthpmcilljbmoiaaGreatDoor
