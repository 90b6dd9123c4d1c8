import Derived.Test.YthpmcilljbmoiaaGreatDoorZ03
import Derived.Deep.RegionWith
import Derived.Orders
namespace Go.Proofs.YthpmcilljbmoiaaGreatDoor
open Go.RowKit

set_option maxRecDepth 100000 in
set_option maxHeartbeats 400000 in
theorem request_get (rb : Nat) (kd id key z : ByteArray) (w : World) (h : Rd w rb (kd ++ (id ++ (key ++ z)))) (h1 : kd.size = 1) (h2 : id.size = 2) (h4 : key.size = 4) (hz : z.size = 0) (hk : num kd = 4) :
    Calls Tryz.prog 177 #[.pointer (some ⟨rb, 0, none⟩)] w
      fun r w' => r = .returned (.iface 256 (.agg #[.int .i64 4, .int .i64 (num id), .string key])) ∧ Rd w' rb z ∧ Kept (fun k => k = rb) w w' := by
  have HC1 := hide (number1 rb kd (id ++ (key ++ z)) w h h1 (by simp [h2, h4, hz]))
  rw [hk] at HC1
  have HC2 := hide (fun w (h : Rd w rb (id ++ (key ++ z))) => number2 rb id (key ++ z) w h h2 (by simp [h4, hz]))
  have HC3 := hide (fun w (h : Rd w rb (key ++ z)) => take4 rb key z w h h4 (by omega))
  have hlt := h.lt
  clear h
  go_enter Tryz.func177, Tryz.ntmps177
  go_wp2_with (first | (go_at_call 215; refine (HC2.out _ hr1).mono ?_; rintro e w2 ⟨rfl, hr2, hk2⟩) | (go_at_call 215; refine HC1.out.mono ?_; rintro e w1 ⟨rfl, hr1, hk1⟩))
  have hA := Below.alloc (Below.refl w2.heap.size w2) (Nat.le_refl _) (.cells #[.int .i64 4, .int .i64 (num id)] 239)
  have hr3 := hr2.below hA
  have hd3 := Blk.new w2 239 #[.int .i64 4, .int .i64 (num id)]
  have hlt2 := hr2.lt
  have hK3 : Kept (fun k => k = rb) w (w2.alloc (.cells #[.int .i64 4, .int .i64 (num id)] 239)) := (hk1.trans hk2).alloc _
  clear hA HC1 HC2 hk1 hk2 hr2 hr1
  generalize hW3 : w2.alloc (.cells #[.int .i64 4, .int .i64 (num id)] 239) = W3 at *
  clear hW3
  generalize w2.heap.size = H at *
  have e0 : W3.cell? ⟨H, 0, none⟩ = _ := hd3.cell 0
  have e1 : W3.cell? ⟨H, 1, none⟩ = _ := hd3.cell 1
  simp at e0 e1
  have HC4 : ∀ w, Rd w rb (key ++ z) → Blk w H 239 #[.int .i64 4, .int .i64 (num id)] → Calls Tryz.prog 219 #[.pointer (some ⟨rb, 0, none⟩), .int .i64 4] w
      fun r w' => r = .returned (.string key) ∧ Rd w' rb z ∧ Kept (fun k => k = rb) w w' ∧ w'.cell? ⟨H, 0, none⟩ = some (.int .i64 4) ∧ w'.cell? ⟨H, 1, none⟩ = some (.int .i64 (num id)) := fun w h hd => by
    refine (HC3.out w h).mono ?_
    rintro e w' ⟨h1, h2, h3⟩
    have := hd.kept h3 (by omega)
    exact ⟨h1, h2, h3, this.cell 0, this.cell 1⟩
  have HC4 := hide HC4
  clear HC3
  go_region_with (go_at_call 219; refine (HC4.out (World.drew W3) hr3 hd3).mono ?_; rintro e w3 ⟨rfl, hr4, hk4, e3, e4⟩)
  all_goals
    go_wp2
    go_ret
    exact ⟨rfl, hr4, hK3.drew.trans hk4⟩

set_option maxRecDepth 100000 in
set_option maxHeartbeats 400000 in
theorem request_put (rb : Nat) (kd id key ln val z : ByteArray) (w : World) (h : Rd w rb (kd ++ (id ++ (key ++ (ln ++ (val ++ z)))))) (h1 : kd.size = 1) (h2 : id.size = 2) (h4 : key.size = 4) (h5 : ln.size = 1) (h6 : val.size = num ln) (h7 : num ln ≤ 50) (hz : z.size = 0) (hk : num kd = 5) :
    Calls Tryz.prog 177 #[.pointer (some ⟨rb, 0, none⟩)] w
      fun r w' => r = .returned (.iface 258 (.agg #[.int .i64 5, .int .i64 (num id), .string key, .string val])) ∧ Rd w' rb z ∧ Kept (fun k => k = rb) w w' := by
  have HC1 := hide (number1 rb kd (id ++ (key ++ (ln ++ (val ++ z)))) w h h1 (by simp [h2, h4, hz, h5, h6]; omega))
  rw [hk] at HC1
  have HC2 := hide (fun w (h : Rd w rb (id ++ (key ++ (ln ++ (val ++ z))))) => number2 rb id (key ++ (ln ++ (val ++ z))) w h h2 (by simp [h4, hz, h5, h6]; omega))
  have HC3 := hide (fun w (h : Rd w rb (key ++ (ln ++ (val ++ z)))) => take4 rb key (ln ++ (val ++ z)) w h h4 (by simp [hz, h5, h6]; omega))
  have HC4 := hide (fun w (h : Rd w rb (ln ++ (val ++ z))) => within50 rb ln (val ++ z) w h h5 (by simp [hz, h6]; omega) h7)
  have HC5 := hide (fun w (h : Rd w rb (val ++ z)) => take_pre rb val z (num ln) w h h6.symm (by omega))
  have hlt := h.lt
  clear h
  go_enter Tryz.func177, Tryz.ntmps177
  go_wp2_with (first | (go_at_call 215; refine (HC2.out _ hr1).mono ?_; rintro e w2 ⟨rfl, hr2, hk2⟩) | (go_at_call 215; refine HC1.out.mono ?_; rintro e w1 ⟨rfl, hr1, hk1⟩) | (go_at_call 219; refine (HC3.out (World.alloc w2 (.cells #[.int .i64 5, .int .i64 (num id)] 239)) (hr2.below (Below.alloc (Below.refl w2.heap.size w2) (Nat.le_refl _) _))).mono ?_; rintro e w3 ⟨rfl, hr3, hk3⟩))
  have hd3 := (Blk.new w2 239 #[.int .i64 5, .int .i64 (num id)]).kept hk3 (by have := hr2.lt; omega)
  have hlt2 := hr2.lt
  have hK3 : Kept (fun k => k = rb) w w3 := ((hk1.trans hk2).alloc _).trans hk3
  clear HC1 HC2 HC3 hk1 hk2 hr2 hr1 hk3
  generalize w2.heap.size = H at *
  have e0 : w3.cell? ⟨H, 0, none⟩ = _ := hd3.cell 0
  have e1 : w3.cell? ⟨H, 1, none⟩ = _ := hd3.cell 1
  simp at e0 e1
  have HC6 : ∀ w, Rd w rb (ln ++ (val ++ z)) → Blk w H 239 #[.int .i64 5, .int .i64 (num id)] → Calls Tryz.prog 216 #[.pointer (some ⟨rb, 0, none⟩), .int .i64 0, .int .i64 50] w
      fun r w' => r = .returned (.int .i64 (num ln)) ∧ Rd w' rb (val ++ z) ∧ Kept (fun k => k = rb) w w' ∧ Blk w' H 239 #[.int .i64 5, .int .i64 (num id)] ∧ w'.cell? ⟨H, 0, none⟩ = some (.int .i64 5) ∧ w'.cell? ⟨H, 1, none⟩ = some (.int .i64 (num id)) := fun w h hd => by
    refine (HC4.out w h).mono ?_
    rintro e w' ⟨h1, h2, h3⟩
    have := hd.kept h3 (by omega)
    exact ⟨h1, h2, h3, this, this.cell 0, this.cell 1⟩
  have HC7 : ∀ w, Rd w rb (val ++ z) → Blk w H 239 #[.int .i64 5, .int .i64 (num id)] → Calls Tryz.prog 219 #[.pointer (some ⟨rb, 0, none⟩), .int .i64 (num ln)] w
      fun r w' => r = .returned (.string val) ∧ Rd w' rb z ∧ Kept (fun k => k = rb) w w' ∧ w'.cell? ⟨H, 0, none⟩ = some (.int .i64 5) ∧ w'.cell? ⟨H, 1, none⟩ = some (.int .i64 (num id)) := fun w h hd => by
    refine (HC5.out w h).mono ?_
    rintro e w' ⟨h1, h2, h3⟩
    have := hd.kept h3 (by omega)
    exact ⟨h1, h2, h3, this.cell 0, this.cell 1⟩
  have HC6 := hide HC6
  have HC7 := hide HC7
  clear HC4 HC5
  go_region_with (first | (go_at_call 219; refine (HC7.out w4 hr4 hd4).mono ?_; rintro e w5 ⟨rfl, hr5, hk5, e5, e6⟩) | (go_at_call 216; refine (HC6.out (World.drew w3) hr3 hd3).mono ?_; rintro e w4 ⟨rfl, hr4, hk4, hd4, e3, e4⟩))
  all_goals
    go_wp2
    go_ret
    exact ⟨rfl, hr5, (hK3.drew.trans hk4).trans hk5⟩
end Go.Proofs.YthpmcilljbmoiaaGreatDoor
