import Derived.Test.YthpmcilljbmoiaaGreatDoorWork
namespace Go.Proofs.YthpmcilljbmoiaaGreatDoor
open Go.RowKit

set_option maxRecDepth 100000 in
set_option maxHeartbeats 400000 in
theorem begin_of (db kb : Nat) (wv gv cl : Value) (s inside : ByteArray) (L : Nat) (T : TypeId) (x : Value) (w : World) (hB : Cn w kb wv gv (.pointer none) cl) (hw : Bs w 5 wv s) (hsz : s.size = 2 + L) (hL : num (s.extract 0 2) = L) (h1 : 1 ≤ L) (h3 : L ≤ 2000) (hin : s.extract 2 (2 + L) = inside)
    (HP : Hid (∀ iv w1, Bs w1 5 iv inside → Calls Tryz.prog 129 #[iv] w1 fun r w' => r = .returned (.tuple #[.iface T x, .bool true]) ∧ Below w1.heap.size w1 w'))
    (HK : Hid (∀ w1, Calls Tryz.prog 132 #[.pointer (some ⟨db, 0, none⟩), .iface T x] w1 fun r w' => r = .returned (.pointer (some ⟨w1.heap.size, 0, none⟩)) ∧ Wk w' w1.heap.size (.iface T x) 0 (.slice none 0 0) ∧ Below w1.heap.size w1 w')) :
    Calls Tryz.prog 91 #[.pointer (some ⟨db, 0, none⟩), .pointer (some ⟨kb, 0, none⟩)] w
      fun r w' => r = .returned (.int .i64 1) ∧ ∃ wv' wb, Cn w' kb wv' gv (.pointer (some ⟨wb, 0, none⟩)) cl ∧ Bs w' 5 wv' ⟨#[]⟩ ∧ Wk w' wb (.iface T x) 0 (.slice none 0 0) ∧ w.heap.size ≤ wb ∧ Kept (fun k => k = kb) w w' ∧ wv'.ownBlock = wv.ownBlock := by
  have HC := cut_in kb wv gv (.pointer none) cl s L w hB hw (by omega) (by omega) hL h1 h3
  rw [hin, ← hsz, extract_none] at HC
  have HC := hide HC
  have hlt := hB.lt
  clear hw hL hin hsz h1 h3
  go_enter Tryz.func91, Tryz.ntmps91
  go_wp2_with (first | (go_at_call 128; refine HC.out.mono ?_; rintro e w1 ⟨iv, wv1, rfl, hB1, b1, i1, k1, o1, o2⟩) | (go_at_call 129; refine (HP.out iv w1 i1).mono ?_; rintro e w2 ⟨rfl, k2⟩) | (go_at_call 132; refine (HK.out w2).mono ?_; rintro e w3 ⟨rfl, hW3, k3⟩; have hB3 := (hB1.below k2 hB1.lt).below k3 (Nat.lt_of_lt_of_le hB1.lt k2.size); have e2 : w3.cell? ⟨kb, 2, none⟩ = some (.pointer none) := hB3.cell 2; have e3 := hB3.frozen 2))
  go_ret
  have hK : Kept (fun k => k = kb) w3 (w3.setCell ⟨kb, 2, none⟩ (.pointer (some ⟨w2.heap.size, 0, none⟩))) := (Kept.refl _ _).set _ _ (fun _ => rfl)
  have b3 := (b1.below k2).below k3
  have hne := bs_ne_cn b3 hB3 (by decide)
  refine ⟨rfl, wv1, w2.heap.size, by simpa using hB3.set 2 (.pointer (some ⟨w2.heap.size, 0, none⟩)), b3.kept hK (fun k hk e => by subst e; exact hne hk), hW3.kept hK (hW3.ne hB3 (by decide)), Nat.le_trans k1.size k2.size, ((k1.below k2).below k3).trans hK, o1⟩

set_option maxRecDepth 100000 in
theorem items_one (w : World) : Calls Tryz.prog 257 #[.agg #[]] w fun r w' => r = .returned (.int .i64 1) ∧ Below w.heap.size w w' := by
  go_enter Tryz.func257, Tryz.ntmps257
  go_wp2
  go_ret
  exact ⟨rfl, Below.alloc (Below.refl _ _) (Nat.le_refl _) _⟩

/-- no request is under way: a step is a beginning -/
theorem step_begin (db kb : Nat) (wv gv cl : Value) (w : World) (R : Ending → World → Prop) (hB : Cn w kb wv gv (.pointer none) cl) (HB : Hid (Calls Tryz.prog 91 #[.pointer (some ⟨db, 0, none⟩), .pointer (some ⟨kb, 0, none⟩)] w fun r w' => ∃ k : Int, r = .returned (.int .i64 k) ∧ R r w')) :
    Calls Tryz.prog 49 #[.pointer (some ⟨db, 0, none⟩), .pointer (some ⟨kb, 0, none⟩)] w R := by
  have e2 : w.cell? ⟨kb, 2, none⟩ = some (.pointer none) := hB.cell 2
  go_enter Tryz.func49, Tryz.ntmps49
  go_wp2_with (go_at_call 91; refine HB.out.mono ?_; rintro e w1 ⟨k, rfl, hR⟩)
  exact hR
set_option maxRecDepth 100000 in
set_option maxHeartbeats 1000000 in
/-- an item is done -/
theorem step_item (db kb wb : Nat) (T : TypeId) (x : Value) (wv gv cl bv : Value) (w : World) (R : Ending → World → Prop)
    (hm : ∀ w, (method 446 T x "Items").run Tryz.prog w = .ok (257, .agg #[]) w)
    (hB : Cn w kb wv gv (.pointer (some ⟨wb, 0, none⟩)) cl) (hW : Wk w wb (.iface T x) 0 bv)
    (HD : Hid (∀ w1, Below w.heap.size w w1 → Calls Tryz.prog 92 #[.pointer (some ⟨db, 0, none⟩), .pointer (some ⟨wb, 0, none⟩)] w1 fun r w' => r = .returned (.tuple #[]) ∧ R (.returned (.int .i64 2)) w')) :
    Calls Tryz.prog 49 #[.pointer (some ⟨db, 0, none⟩), .pointer (some ⟨kb, 0, none⟩)] w R := by
  have e2 : w.cell? ⟨kb, 2, none⟩ = some (.pointer (some ⟨wb, 0, none⟩)) := hB.cell 2
  have d0 : w.cell? ⟨wb, 0, none⟩ = some (.iface T x) := hW.cell 0
  have d2 : w.cell? ⟨wb, 2, none⟩ = some (.int .i64 0) := hW.cell 2
  have HI : Hid (∀ w0, Below w.heap.size w w0 → Calls Tryz.prog 257 #[.agg #[]] w0 fun r w' => r = .returned (.int .i64 1) ∧ Below w.heap.size w w' ∧ w'.cell? ⟨wb, 2, none⟩ = some (.int .i64 0)) := fun w0 h0 => by
    refine (items_one w0).mono ?_
    rintro e w' ⟨h1, h2⟩
    have h3 := h0.trans (h2.mono h0.size)
    exact ⟨h1, h3, by rw [h3.cell hW.lt]; exact d2⟩
  go_enter Tryz.func49, Tryz.ntmps49
  go_wp2
  go_region_with (go_at_call 257; refine (HI.out (World.drew w) (Below.refl _ _).drew).mono ?_; rintro e w1 ⟨rfl, k1, g1⟩)
  all_goals
    go_wp2_with (go_at_call 92; refine (HD.out w1 k1).mono ?_; rintro e w2 ⟨rfl, hR⟩)
    exact hR
set_option maxRecDepth 100000 in
set_option maxHeartbeats 1000000 in
/-- the reply goes out -/
theorem step_reply (db kb wb : Nat) (T : TypeId) (x : Value) (wv gv cl bv : Value) (w : World) (R : Ending → World → Prop)
    (hm : ∀ w, (method 446 T x "Items").run Tryz.prog w = .ok (257, .agg #[]) w)
    (hB : Cn w kb wv gv (.pointer (some ⟨wb, 0, none⟩)) cl) (hW : Wk w wb (.iface T x) 1 bv)
    (HD : Hid (∀ w1, Below w.heap.size w w1 → Calls Tryz.prog 93 #[.pointer (some ⟨db, 0, none⟩), .pointer (some ⟨kb, 0, none⟩)] w1 fun r w' => r = .returned (.tuple #[]) ∧ R (.returned (.int .i64 3)) w')) :
    Calls Tryz.prog 49 #[.pointer (some ⟨db, 0, none⟩), .pointer (some ⟨kb, 0, none⟩)] w R := by
  have e2 : w.cell? ⟨kb, 2, none⟩ = some (.pointer (some ⟨wb, 0, none⟩)) := hB.cell 2
  have d0 : w.cell? ⟨wb, 0, none⟩ = some (.iface T x) := hW.cell 0
  have d2 : w.cell? ⟨wb, 2, none⟩ = some (.int .i64 1) := hW.cell 2
  have HI : Hid (∀ w0, Below w.heap.size w w0 → Calls Tryz.prog 257 #[.agg #[]] w0 fun r w' => r = .returned (.int .i64 1) ∧ Below w.heap.size w w' ∧ w'.cell? ⟨wb, 2, none⟩ = some (.int .i64 1)) := fun w0 h0 => by
    refine (items_one w0).mono ?_
    rintro e w' ⟨h1, h2⟩
    have h3 := h0.trans (h2.mono h0.size)
    exact ⟨h1, h3, by rw [h3.cell hW.lt]; exact d2⟩
  go_enter Tryz.func49, Tryz.ntmps49
  go_wp2
  go_region_with (go_at_call 257; refine (HI.out (World.drew w) (Below.refl _ _).drew).mono ?_; rintro e w1 ⟨rfl, k1, g1⟩)
  all_goals
    go_wp2_with (go_at_call 93; refine (HD.out w1 k1).mono ?_; rintro e w2 ⟨rfl, hR⟩)
    exact hR
end Go.Proofs.YthpmcilljbmoiaaGreatDoor
