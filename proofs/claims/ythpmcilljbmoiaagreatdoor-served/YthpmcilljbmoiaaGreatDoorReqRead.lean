import Derived.Test.YthpmcilljbmoiaaGreatDoorReadReq
import Derived.Test.YthpmcilljbmoiaaGreatDoorBegun
namespace Go.Proofs.YthpmcilljbmoiaaGreatDoor
open Go.RowKit

abbrev readRq (id n c : Nat) (a : Option Addr) : Value := .iface 246 (.agg #[.int .i64 2, .int .i64 id, .slice a n c])

set_option maxRecDepth 100000 in
set_option maxHeartbeats 1000000 in
theorem request_read (rb : Nat) (kd id cnt z : ByteArray) (names : List ByteArray) (w : World) (h : Rd w rb (kd ++ (id ++ (cnt ++ (cat names ++ z))))) (h1 : kd.size = 1) (h2 : id.size = 2) (hk : num kd = 2)
    (hc1 : cnt.size = 1) (hc : num cnt = names.length) (hn0 : 1 ≤ names.length) (hn : names.length ≤ 16) (hnm : ∀ x ∈ names, x.size = 34 ∧ num (x.extract 0 2) ≤ 120) (hz : z.size = 0) :
    Calls Tryz.prog 177 #[.pointer (some ⟨rb, 0, none⟩)] w
      fun r w' => ∃ a c, r = .returned (readRq (num id) names.length c a) ∧ Rw w' 9 1 (.slice a names.length c) names.length (names.map Value.string) ∧ Fresh w.heap.size (.slice a names.length c) ∧ Rd w' rb z ∧ Kept (fun k => k = rb) w w' := by
  have hcs := cat_size names (fun x hx => (hnm x hx).1)
  have HC1 := hide (number1 rb kd (id ++ (cnt ++ (cat names ++ z))) w h h1 (by simp [h2, hc1, hcs, hz]; omega))
  rw [hk] at HC1
  have HC2 := hide (fun w (h : Rd w rb (id ++ (cnt ++ (cat names ++ z)))) => number2 rb id (cnt ++ (cat names ++ z)) w h h2 (by simp [hc1, hcs, hz]; omega))
  have HC3 := hide (fun w (h : Rd w rb (cnt ++ (cat names ++ z))) => list_ok rb cnt z names w h hc1 hc hn0 hn hnm (by omega))
  have hlt := h.lt
  clear h hnm hcs
  go_enter Tryz.func177, Tryz.ntmps177
  go_wp2_with (first | (go_at_call 215; refine (HC2.out _ hr1).mono ?_; rintro e w2 ⟨rfl, hr2, hk2⟩) | (go_at_call 215; refine HC1.out.mono ?_; rintro e w1 ⟨rfl, hr1, hk1⟩))
  have hA := Below.alloc (Below.refl w2.heap.size w2) (Nat.le_refl _) (.cells #[.int .i64 2, .int .i64 (num id)] 239)
  have hr3 := hr2.below hA
  have hd3 := Blk.new w2 239 #[.int .i64 2, .int .i64 (num id)]
  have hlt2 := hr2.lt
  have hK3 : Kept (fun k => k = rb) w (w2.alloc (.cells #[.int .i64 2, .int .i64 (num id)] 239)) := (hk1.trans hk2).alloc _
  clear hA HC1 HC2 hk1 hk2 hr2 hr1
  generalize hW3 : w2.alloc (.cells #[.int .i64 2, .int .i64 (num id)] 239) = W3 at *
  clear hW3
  generalize w2.heap.size = H at *
  have e0 : W3.cell? ⟨H, 0, none⟩ = _ := hd3.cell 0
  have e1 : W3.cell? ⟨H, 1, none⟩ = _ := hd3.cell 1
  simp at e0 e1
  have HC4 : Hid (Calls Tryz.prog 217 #[.pointer (some ⟨rb, 0, none⟩)] (World.drew W3)
      fun r w' => ∃ a c, r = .returned (.agg #[.slice a names.length c]) ∧ Rw w' 9 1 (.slice a names.length c) names.length (names.map Value.string) ∧ Rd w' rb z ∧ Kept (fun k => k = rb) w w' ∧ Fresh w.heap.size (.slice a names.length c) ∧ w'.cell? ⟨H, 0, none⟩ = some (.int .i64 2) ∧ w'.cell? ⟨H, 1, none⟩ = some (.int .i64 (num id))) := by
    refine (HC3.out (World.drew W3) hr3).mono ?_
    rintro e w' ⟨sv, q1, q2, q3, q4, q5⟩
    have := hd3.drew.kept q4 (by omega)
    obtain ⟨a, c, rfl⟩ := Rw.shape q2
    exact ⟨a, c, q1, q2, q3, hK3.drew.trans q4, q5.mono hK3.size, this.cell 0, this.cell 1⟩
  clear HC3
  go_region_with (go_at_call 217; refine HC4.out.mono ?_; rintro e w3 ⟨a3, c3, rfl, r3, hr4, hk4, f4, e3, e4⟩)
  all_goals
    go_wp2
    go_ret
    exact ⟨a3, c3, rfl, r3, f4, hr4, hk4⟩

set_option maxRecDepth 100000 in
set_option maxHeartbeats 400000 in
/-- as parse_of, where the request's value lies in memory -/
theorem parse_ex (iv : Value) (s z : ByteArray) (T : TypeId) (P : Value → World → Prop) (w : World) (h : Bs w 5 iv s) (hz : z.size = 0)
    (HR : Hid (∀ w1 rb, Below w.heap.size w w1 → Rd w1 rb s → Calls Tryz.prog 177 #[.pointer (some ⟨rb, 0, none⟩)] w1
      fun r w' => ∃ v, r = .returned (.iface T v) ∧ P v w' ∧ Rd w' rb z ∧ Kept (fun k => k = rb) w1 w')) :
    Calls Tryz.prog 129 #[iv] w
      fun r w' => ∃ v, r = .returned (.tuple #[.iface T v, .bool true]) ∧ P v w' ∧ Below w.heap.size w w' := by
  obtain ⟨a, c, rfl, hc⟩ := h.shape
  have hA := Below.alloc (Below.refl w.heap.size w) (Nat.le_refl _) (.cells #[.slice a s.size c, .bool false] 293)
  have hr : Rd (w.alloc (.cells #[.slice a s.size c, .bool false] 293)) w.heap.size s := ⟨_, Blk.new _ _ _, h.below hA⟩
  have HC := hide (HR.out _ _ hA hr)
  clear HR hr
  go_enter Tryz.func129, Tryz.ntmps129
  go_wp2_with (go_at_call 177; refine HC.out.mono ?_; rintro e w1 ⟨v, rfl, hP, ⟨rv, hb, hz1⟩, hk1⟩; obtain ⟨a1, c1, rfl, _⟩ := hz1.shape; rw [hz] at hb; have c0 : w1.cell? ⟨w.heap.size, 0, none⟩ = some (.slice a1 0 c1) := hb.cell 0; have c1 : w1.cell? ⟨w.heap.size, 1, none⟩ = some (.bool false) := hb.cell 1)
  go_ret2
  exact ⟨v, rfl, hP, hA.trans (hk1.toBelow (fun k hk e => by omega) (by simp))⟩

set_option maxRecDepth 100000 in
theorem items_list (a : Option Addr) (n c : Nat) (w : World) : Calls Tryz.prog 181 #[.agg #[.slice a n c]] w fun r w' => r = .returned (.int .i64 n) ∧ Below w.heap.size w w' := by
  go_enter Tryz.func181, Tryz.ntmps181
  go_wp2
  go_ret
  exact ⟨rfl, Below.alloc (Below.refl _ _) (Nat.le_refl _) _⟩
end Go.Proofs.YthpmcilljbmoiaaGreatDoor
