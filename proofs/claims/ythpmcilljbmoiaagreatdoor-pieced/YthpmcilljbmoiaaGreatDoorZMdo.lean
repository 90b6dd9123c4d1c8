import Derived.Test.YthpmcilljbmoiaaGreatDoorZ26
import Derived.Test.YthpmcilljbmoiaaGreatDoorZ10
import Derived.Test.YthpmcilljbmoiaaGreatDoorZ07
namespace Go.Proofs.YthpmcilljbmoiaaGreatDoor
open Go.RowKit

set_option maxRecDepth 100000 in
set_option maxHeartbeats 1000000 in
theorem doItem_rd (db wb id n c d : Nat) (a : Option Addr) (bv : Value) (s told : ByteArray) (names : List ByteArray) (S : Nat → Prop) (Q : World → Prop) (w : World) (hW : Wl w wb (readRq id n c a) none (d : Int) bv) (hb : Bs w 5 bv s) (hn : names.length = n) (hd : d < names.length) (hd16 : d < 100)
    (hR : Rw w 9 1 (.slice a n c) n (names.map Value.string)) (ht : s.size + told.size ≤ 100000) (hSw : ¬ S wb) (hSb : ∀ k, bv.ownBlock = some k → ¬ S k)
    (hQ : ∀ w1 w2, Q w1 → Kept (fun k => k = wb ∨ bv.ownBlock = some k) w1 w2 → Q w2)
    (HG : Hid (∀ w1, Kept (fun k => k = wb) w w1 → Calls Tryz.prog 134 #[.pointer (some ⟨db, 0, none⟩), .string names[d]] w1
      fun r w' => ∃ v, r = .returned v ∧ Bs w' 5 v told ∧ Q w' ∧ Kept S w1 w' ∧ Fresh w1.heap.size v)) :
    Calls Tryz.prog 92 #[.pointer (some ⟨db, 0, none⟩), .pointer (some ⟨wb, 0, none⟩)] w
      fun r w' => r = .returned (.tuple #[]) ∧ ∃ bv', Wl w' wb (readRq id n c a) none ((d : Int) + 1) bv' ∧ Bs w' 5 bv' (s ++ told) ∧ Q w' ∧ Kept (fun k => (k = wb ∨ bv.ownBlock = some k) ∨ S k) w w' ∧ Home w bv bv' := by
  have c0 : w.cell? ⟨wb, 0, none⟩ = some (readRq id n c a) := hW.cell 0
  have c2 : w.cell? ⟨wb, 2, none⟩ = some (.int .i64 (d : Int)) := hW.cell 2
  have f2 := hW.frozen 2
  have hlt := hW.lt
  have t1 := ta_read_Find id n c a
  have t2 := ta_read_Read id n c a
  obtain ⟨_, h0, _⟩ | ⟨b, off, cap, cur, hsl, hB, h1, h2, h3, h4, h5⟩ := hR
  · omega
  injection hsl with ha _ hcap
  subst ha
  subst hcap
  have hbw : b ≠ wb := hB.ne hW (by decide)
  have hbl := hB.lt
  have hcell : w.cell? ⟨b, off + d, none⟩ = some (.string names[d]) := by
    rw [hB.cell, h5 d (by omega), List.getElem?_map, List.getElem?_eq_getElem hd]
    rfl
  generalize names[d] = nm at *
  have hK1 : Kept (fun k => k = wb) w ((w.setCell ⟨wb, 2, none⟩ (.int .i64 ((d : Int) + 1))).alloc (.cells #[.int .i64 2, .int .i64 id, .slice (some ⟨b, off, none⟩) n c] 246)) := ((Kept.refl (fun k => k = wb) w).set _ _ (fun _ => rfl)).alloc _
  have hW1 : Wl ((w.setCell ⟨wb, 2, none⟩ (.int .i64 ((d : Int) + 1))).alloc (.cells #[.int .i64 2, .int .i64 id, .slice (some ⟨b, off, none⟩) n c] 246)) wb (readRq id n c (some ⟨b, off, none⟩)) none ((d : Int) + 1) bv := (by simpa using hW.set 2 (.int .i64 ((d : Int) + 1)) : Wl (w.setCell ⟨wb, 2, none⟩ (.int .i64 ((d : Int) + 1))) wb (readRq id n c (some ⟨b, off, none⟩)) none ((d : Int) + 1) bv).alloc _
  have hb1 := hb.kept hK1 (fun k hk e => by subst e; exact bs_ne_cn hb hW (by decide) hk)
  have hbne := bs_ne_cn hb hW (by decide)
  have hdi : (d : Int) < (n : Int) := by omega
  have hdi0 : (0 : Int) ≤ (d : Int) := by omega
  have HQ := hide hQ
  clear h3 h4 h5 hB h2 hd hQ
  generalize hrq : readRq id n c (some ⟨b, off, none⟩) = rq at *
  clear hrq
  go_enter Tryz.func92, Tryz.ntmps92
  go_wp2_with (first | (go_at_call 134; refine (HG.out _ hK1).mono ?_; rintro e w1 ⟨v, rfl, b1, q1, k1, f1⟩; have hW2 := hW1.kept k1 hSw; have hb2 := hb1.kept k1 hSb; have d3 : w1.cell? ⟨wb, 3, none⟩ = some bv := hW2.cell 3) | (at_builtin; refine wpList_append_bs w1 rfl (.tmp 92) (.tmp 93) 126 126 rfl 5 Tryz.underlying126 infoU8 bv s rfl hb2 _ told rfl (b1.src Tryz.underlying126) ?_ ?_))
  · omega
  rintro v2 w2 ⟨p1, p2, p3⟩
  have hW3 : Wl w2 wb rq none ((d : Int) + 1) bv := hW2.kept p2 hbne
  have d4 : w2.cell? ⟨wb, 3, none⟩ = some bv := hW3.cell 3
  have f4 := hW3.frozen 3
  have hne := bs_ne_cn p1 hW3 (by decide)
  obtain ⟨a2, e2, rfl, _⟩ := p1.shape
  go_wp2
  have hK2 : Kept (fun k => (k = wb ∨ bv.ownBlock = some k) ∨ S k) w w2 := ((hK1.mono (fun _ _ h => .inl (.inl h))).next k1 (fun _ _ h => .inr h)).next p2 (fun i _ h => .inl (.inr h))
  refine bodyPost_end (results_none rfl _ _ _) rfl ⟨rfl, _, by simpa using hW3.set 3 _, p1.kept ((Kept.refl (fun k => k = wb) w2).set _ _ (fun _ => rfl)) (fun k hk e => by subst e; exact hne hk), HQ.out _ _ (HQ.out _ _ q1 (p2.mono (fun _ _ h => .inr h))) ((Kept.refl _ _).set _ _ (fun _ => .inl rfl)), hK2.set _ _ (fun _ => .inl (.inl rfl)), ?_⟩
  exact (Home.refl w bv).trans (Nat.le_trans hK1.size k1.size) p3

set_option maxRecDepth 100000 in
set_option maxHeartbeats 1000000 in
theorem step_list_item (db kb wb n c d : Nat) (a : Option Addr) (lp : Option Addr) (T : TypeId) (x : Value) (wv gv cl bv : Value) (w : World) (R : Ending → World → Prop)
    (hm : ∀ w, (method 446 T x "Items").run Tryz.prog w = .ok (181, .agg #[.slice a n c]) w)
    (hB : Cn w kb wv gv (.pointer (some ⟨wb, 0, none⟩)) cl) (hW : Wl w wb (.iface T x) lp (d : Int) bv) (hd : d < n)
    (HD : Hid (∀ w1, Below w.heap.size w w1 → Calls Tryz.prog 92 #[.pointer (some ⟨db, 0, none⟩), .pointer (some ⟨wb, 0, none⟩)] w1 fun r w' => r = .returned (.tuple #[]) ∧ R (.returned (.int .i64 2)) w')) :
    Calls Tryz.prog 49 #[.pointer (some ⟨db, 0, none⟩), .pointer (some ⟨kb, 0, none⟩)] w R := by
  have e2 : w.cell? ⟨kb, 2, none⟩ = some (.pointer (some ⟨wb, 0, none⟩)) := hB.cell 2
  have d0 : w.cell? ⟨wb, 0, none⟩ = some (.iface T x) := hW.cell 0
  have d2 : w.cell? ⟨wb, 2, none⟩ = some (.int .i64 (d : Int)) := hW.cell 2
  have hdi : (d : Int) < (n : Int) := by omega
  have HI : Hid (∀ w0, Below w.heap.size w w0 → Calls Tryz.prog 181 #[.agg #[.slice a n c]] w0 fun r w' => r = .returned (.int .i64 n) ∧ Below w.heap.size w w' ∧ w'.cell? ⟨wb, 2, none⟩ = some (.int .i64 (d : Int))) := fun w0 h0 => by
    refine (items_list a n c w0).mono ?_
    rintro e w' ⟨h1, h2⟩
    have h3 := h0.trans (h2.mono h0.size)
    exact ⟨h1, h3, by rw [h3.cell hW.lt]; exact d2⟩
  go_enter Tryz.func49, Tryz.ntmps49
  go_wp2
  go_region_with (go_at_call 181; refine (HI.out (World.drew w) (Below.refl _ _).drew).mono ?_; rintro e w1 ⟨rfl, k1, g1⟩)
  all_goals
    go_wp2_with (go_at_call 92; refine (HD.out w1 k1).mono ?_; rintro e w2 ⟨rfl, hR⟩)
    exact hR

set_option maxRecDepth 100000 in
set_option maxHeartbeats 1000000 in
theorem step_list_told (db kb wb n c d : Nat) (a : Option Addr) (lp : Option Addr) (T : TypeId) (x : Value) (wv gv cl bv : Value) (w : World) (R : Ending → World → Prop)
    (hm : ∀ w, (method 446 T x "Items").run Tryz.prog w = .ok (181, .agg #[.slice a n c]) w)
    (hB : Cn w kb wv gv (.pointer (some ⟨wb, 0, none⟩)) cl) (hW : Wl w wb (.iface T x) lp (d : Int) bv) (hd : d = n)
    (HD : Hid (∀ w1, Below w.heap.size w w1 → Calls Tryz.prog 93 #[.pointer (some ⟨db, 0, none⟩), .pointer (some ⟨kb, 0, none⟩)] w1 fun r w' => r = .returned (.tuple #[]) ∧ R (.returned (.int .i64 3)) w')) :
    Calls Tryz.prog 49 #[.pointer (some ⟨db, 0, none⟩), .pointer (some ⟨kb, 0, none⟩)] w R := by
  have e2 : w.cell? ⟨kb, 2, none⟩ = some (.pointer (some ⟨wb, 0, none⟩)) := hB.cell 2
  have d0 : w.cell? ⟨wb, 0, none⟩ = some (.iface T x) := hW.cell 0
  have d2 : w.cell? ⟨wb, 2, none⟩ = some (.int .i64 (d : Int)) := hW.cell 2
  subst hd
  have HI : Hid (∀ w0, Below w.heap.size w w0 → Calls Tryz.prog 181 #[.agg #[.slice a d c]] w0 fun r w' => r = .returned (.int .i64 d) ∧ Below w.heap.size w w' ∧ w'.cell? ⟨wb, 2, none⟩ = some (.int .i64 (d : Int))) := fun w0 h0 => by
    refine (items_list a d c w0).mono ?_
    rintro e w' ⟨h1, h2⟩
    have h3 := h0.trans (h2.mono h0.size)
    exact ⟨h1, h3, by rw [h3.cell hW.lt]; exact d2⟩
  go_enter Tryz.func49, Tryz.ntmps49
  go_wp2
  go_region_with (go_at_call 181; refine (HI.out (World.drew w) (Below.refl _ _).drew).mono ?_; rintro e w1 ⟨rfl, k1, g1⟩)
  all_goals
    go_wp2_with (go_at_call 93; refine (HD.out w1 k1).mono ?_; rintro e w2 ⟨rfl, hR⟩)
    exact hR

set_option maxRecDepth 100000 in
set_option maxHeartbeats 1000000 in
theorem step_upd_item (db kb wb id n c d : Nat) (a : Option Addr) (lp : Option Addr) (T : TypeId) (x : Value) (wv gv cl bv : Value) (w : World) (R : Ending → World → Prop)
    (hm : ∀ w, (method 446 T x "Items").run Tryz.prog w = .ok (256, .agg #[.int .i64 3, .int .i64 id, .slice a n c]) w)
    (hB : Cn w kb wv gv (.pointer (some ⟨wb, 0, none⟩)) cl) (hW : Wl w wb (.iface T x) lp (d : Int) bv) (hd : d < n)
    (HD : Hid (∀ w1, Below w.heap.size w w1 → Calls Tryz.prog 92 #[.pointer (some ⟨db, 0, none⟩), .pointer (some ⟨wb, 0, none⟩)] w1 fun r w' => r = .returned (.tuple #[]) ∧ R (.returned (.int .i64 2)) w')) :
    Calls Tryz.prog 49 #[.pointer (some ⟨db, 0, none⟩), .pointer (some ⟨kb, 0, none⟩)] w R := by
  have e2 : w.cell? ⟨kb, 2, none⟩ = some (.pointer (some ⟨wb, 0, none⟩)) := hB.cell 2
  have d0 : w.cell? ⟨wb, 0, none⟩ = some (.iface T x) := hW.cell 0
  have d2 : w.cell? ⟨wb, 2, none⟩ = some (.int .i64 (d : Int)) := hW.cell 2
  have hdi : (d : Int) < (n : Int) := by omega
  have HI : Hid (∀ w0, Below w.heap.size w w0 → Calls Tryz.prog 256 #[.agg #[.int .i64 3, .int .i64 id, .slice a n c]] w0 fun r w' => r = .returned (.int .i64 n) ∧ Below w.heap.size w w' ∧ w'.cell? ⟨wb, 2, none⟩ = some (.int .i64 (d : Int))) := fun w0 h0 => by
    refine (items_upd id n c a w0).mono ?_
    rintro e w' ⟨h1, h2⟩
    have h3 := h0.trans (h2.mono h0.size)
    exact ⟨h1, h3, by rw [h3.cell hW.lt]; exact d2⟩
  go_enter Tryz.func49, Tryz.ntmps49
  go_wp2
  go_region_with (go_at_call 256; refine (HI.out (World.drew w) (Below.refl _ _).drew).mono ?_; rintro e w1 ⟨rfl, k1, g1⟩)
  all_goals
    go_wp2_with (go_at_call 92; refine (HD.out w1 k1).mono ?_; rintro e w2 ⟨rfl, hR⟩)
    exact hR

set_option maxRecDepth 100000 in
set_option maxHeartbeats 1000000 in
theorem step_upd_told (db kb wb id n c d : Nat) (a : Option Addr) (lp : Option Addr) (T : TypeId) (x : Value) (wv gv cl bv : Value) (w : World) (R : Ending → World → Prop)
    (hm : ∀ w, (method 446 T x "Items").run Tryz.prog w = .ok (256, .agg #[.int .i64 3, .int .i64 id, .slice a n c]) w)
    (hB : Cn w kb wv gv (.pointer (some ⟨wb, 0, none⟩)) cl) (hW : Wl w wb (.iface T x) lp (d : Int) bv) (hd : d = n)
    (HD : Hid (∀ w1, Below w.heap.size w w1 → Calls Tryz.prog 93 #[.pointer (some ⟨db, 0, none⟩), .pointer (some ⟨kb, 0, none⟩)] w1 fun r w' => r = .returned (.tuple #[]) ∧ R (.returned (.int .i64 3)) w')) :
    Calls Tryz.prog 49 #[.pointer (some ⟨db, 0, none⟩), .pointer (some ⟨kb, 0, none⟩)] w R := by
  have e2 : w.cell? ⟨kb, 2, none⟩ = some (.pointer (some ⟨wb, 0, none⟩)) := hB.cell 2
  have d0 : w.cell? ⟨wb, 0, none⟩ = some (.iface T x) := hW.cell 0
  have d2 : w.cell? ⟨wb, 2, none⟩ = some (.int .i64 (d : Int)) := hW.cell 2
  subst hd
  have HI : Hid (∀ w0, Below w.heap.size w w0 → Calls Tryz.prog 256 #[.agg #[.int .i64 3, .int .i64 id, .slice a d c]] w0 fun r w' => r = .returned (.int .i64 d) ∧ Below w.heap.size w w' ∧ w'.cell? ⟨wb, 2, none⟩ = some (.int .i64 (d : Int))) := fun w0 h0 => by
    refine (items_upd id d c a w0).mono ?_
    rintro e w' ⟨h1, h2⟩
    have h3 := h0.trans (h2.mono h0.size)
    exact ⟨h1, h3, by rw [h3.cell hW.lt]; exact d2⟩
  go_enter Tryz.func49, Tryz.ntmps49
  go_wp2
  go_region_with (go_at_call 256; refine (HI.out (World.drew w) (Below.refl _ _).drew).mono ?_; rintro e w1 ⟨rfl, k1, g1⟩)
  all_goals
    go_wp2_with (go_at_call 93; refine (HD.out w1 k1).mono ?_; rintro e w2 ⟨rfl, hR⟩)
    exact hR
end Go.Proofs.YthpmcilljbmoiaaGreatDoor
