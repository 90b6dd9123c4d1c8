import Derived.Test.YthpmcilljbmoiaaGreatDoorAsk
namespace Go.Proofs.YthpmcilljbmoiaaGreatDoor
open Go.RowKit

abbrev Picks (db : Nat) (w : World) (k : Int) (S : World → Prop) : Prop := Calls Tryz.prog 17 #[.pointer (some ⟨db, 0, none⟩), .int .i64 0] w fun r w' => r = .returned (.tuple #[.int .i64 k, .int .i64 0]) ∧ S w'

set_option maxRecDepth 100000 in
set_option maxHeartbeats 2000000 in
theorem steps_one (cb db : Nat) (id : Int) (w : World) (S1 S2 S3 : World → Prop) (hc : Cl w cb db id) (C1 : ∀ w, S1 w → Cl w cb db id) (C2 : ∀ w, S2 w → Cl w cb db id)
    (H1 : Hid (Picks db (World.drew w) 1 S1)) (H2 : Hid (∀ w1, S1 w1 → Picks db (World.drew w1) 2 S2)) (H3 : Hid (∀ w1, S2 w1 → Picks db (World.drew w1) 3 S3)) :
    Calls Tryz.prog 60 #[.pointer (some ⟨cb, 0, none⟩), .int .i64 1] w fun r w' => r = .returned (.bool true) ∧ S3 w' := by
  have d0 : w.cell? ⟨cb, 0, none⟩ = some (.pointer (some ⟨db, 0, none⟩)) := hc.cell 0
  have d1 : w.cell? ⟨cb, 1, none⟩ = some (.int .i64 0) := hc.cell 1
  have HH1 : Hid (Calls Tryz.prog 17 #[.pointer (some ⟨db, 0, none⟩), .int .i64 0] (World.drew w) fun r w' => r = .returned (.tuple #[.int .i64 1, .int .i64 0]) ∧ S1 w' ∧ w'.cell? ⟨cb, 0, none⟩ = some (.pointer (some ⟨db, 0, none⟩)) ∧ w'.cell? ⟨cb, 1, none⟩ = some (.int .i64 0)) :=
    H1.out.mono fun e w' ⟨q1, q2⟩ => ⟨q1, q2, (C1 w' q2).cell 0, (C1 w' q2).cell 1⟩
  have HH2 : Hid (∀ w1, S1 w1 → Calls Tryz.prog 17 #[.pointer (some ⟨db, 0, none⟩), .int .i64 0] (World.drew w1) fun r w' => r = .returned (.tuple #[.int .i64 2, .int .i64 0]) ∧ S2 w' ∧ w'.cell? ⟨cb, 0, none⟩ = some (.pointer (some ⟨db, 0, none⟩)) ∧ w'.cell? ⟨cb, 1, none⟩ = some (.int .i64 0)) :=
    fun w1 h1 => (H2.out w1 h1).mono fun e w' ⟨q1, q2⟩ => ⟨q1, q2, (C2 w' q2).cell 0, (C2 w' q2).cell 1⟩
  have HH3 : Hid (∀ w1, S2 w1 → Calls Tryz.prog 17 #[.pointer (some ⟨db, 0, none⟩), .int .i64 0] (World.drew w1) fun r w' => r = .returned (.tuple #[.int .i64 3, .int .i64 0]) ∧ S3 w') := H3
  clear H1 H2 H3 hc C1 C2
  go_enter Tryz.func60, Tryz.ntmps60
  go_wp2
  refine wp_loop_rounds 4 ?_
  rw [rounds_succ]
  go_wp2
  go_region_with (go_at_call 17; refine HH1.out.mono ?_; rintro e w1 ⟨rfl, s1, g0, g1⟩)
  all_goals
    go_wp2
    rw [rounds_succ]
    go_wp2
    go_region_with (go_at_call 17; refine (HH2.out w1 s1).mono ?_; rintro e w2 ⟨rfl, s2, g2, g3⟩)
  all_goals
    go_wp2
    rw [rounds_succ]
    go_wp2
    go_region_with (go_at_call 17; refine (HH3.out w2 s2).mono ?_; rintro e w3 ⟨rfl, s3⟩)
  all_goals
    go_wp2
    rw [rounds_succ]
    go_wp2
    go_ret
    exact ⟨rfl, s3⟩
end Go.Proofs.YthpmcilljbmoiaaGreatDoor
