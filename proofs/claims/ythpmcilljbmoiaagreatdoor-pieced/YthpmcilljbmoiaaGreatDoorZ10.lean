import Derived.Test.YthpmcilljbmoiaaGreatDoorZ08
import Derived.Test.YthpmcilljbmoiaaGreatDoorZ07
import Derived.Test.YthpmcilljbmoiaaGreatDoorZ06
import Derived.Deep.QuietTactic
import Derived.BigQuiet
namespace Go.Proofs.YthpmcilljbmoiaaGreatDoor
open Go.RowKit

abbrev readRq (id n c : Nat) (a : Option Addr) : Value := .iface 246 (.agg #[.int .i64 2, .int .i64 id, .slice a n c])

set_option maxRecDepth 100000 in
set_option maxHeartbeats 1000000 in
theorem request_read (rb : Nat) (kd id cnt z : ByteArray) (names : List ByteArray) (w : World) (h : Rd w rb (kd ++ (id ++ (cnt ++ (cat names ++ z))))) (h1 : kd.size = 1) (h2 : id.size = 2) (hk : num kd = 2)
    (hc1 : cnt.size = 1) (hc : num cnt = names.length) (hn0 : 1 ≤ names.length) (hn : names.length ≤ 16) (hnm : ∀ x ∈ names, x.size = 34 ∧ num (x.extract 0 2) ≤ 120) (hz : z.size = 0) :
    Calls Tryz.prog 177 #[.pointer (some ⟨rb, 0, none⟩)] w
      fun r w' => ∃ a c, r = .returned (readRq (num id) names.length c a) ∧ Rw w' 9 1 (.slice a names.length c) names.length (names.map Value.string) ∧ Fresh w.heap.size (.slice a names.length c) ∧ Rd w' rb z ∧ Kept (fun k => k = rb) w w' := by
  have hcs := cat_size names (fun x hx => (hnm x hx).1)
  have HC1 := hide (number1 rb kd (id ++ (cnt ++ (cat names ++ z))) w h h1 (by simp [h2, hc1, hcs, hz]; omega))
  rw [hk] at HC1
  have HC2 := hide (fun w (h : Rd w rb (id ++ (cnt ++ (cat names ++ z)))) => number2 rb id (cnt ++ (cat names ++ z)) w h h2 (by simp [hc1, hcs, hz]; omega))
  have HC3 := hide (fun w (h : Rd w rb (cnt ++ (cat names ++ z))) => list_ok rb cnt z names w h hc1 hc hn0 hn hnm (by omega))
  have hlt := h.lt
  clear h hnm hcs
  go_enter Tryz.func177, Tryz.ntmps177
  go_wp2_with (first | (go_at_call 215; refine (HC2.out _ hr1).mono ?_; rintro e w2 ⟨rfl, hr2, hk2⟩) | (go_at_call 215; refine HC1.out.mono ?_; rintro e w1 ⟨rfl, hr1, hk1⟩))
  have hA := Below.alloc (Below.refl w2.heap.size w2) (Nat.le_refl _) (.cells #[.int .i64 2, .int .i64 (num id)] 239)
  have hr3 := hr2.below hA
  have hd3 := Blk.new w2 239 #[.int .i64 2, .int .i64 (num id)]
  have hlt2 := hr2.lt
  have hK3 : Kept (fun k => k = rb) w (w2.alloc (.cells #[.int .i64 2, .int .i64 (num id)] 239)) := (hk1.trans hk2).alloc _
  clear hA HC1 HC2 hk1 hk2 hr2 hr1
  generalize hW3 : w2.alloc (.cells #[.int .i64 2, .int .i64 (num id)] 239) = W3 at *
  clear hW3
  generalize w2.heap.size = H at *
  have e0 : W3.cell? ⟨H, 0, none⟩ = _ := hd3.cell 0
  have e1 : W3.cell? ⟨H, 1, none⟩ = _ := hd3.cell 1
  simp at e0 e1
  have HC4 : Hid (Calls Tryz.prog 217 #[.pointer (some ⟨rb, 0, none⟩)] (World.drew W3)
      fun r w' => ∃ a c, r = .returned (.agg #[.slice a names.length c]) ∧ Rw w' 9 1 (.slice a names.length c) names.length (names.map Value.string) ∧ Rd w' rb z ∧ Kept (fun k => k = rb) w w' ∧ Fresh w.heap.size (.slice a names.length c) ∧ w'.cell? ⟨H, 0, none⟩ = some (.int .i64 2) ∧ w'.cell? ⟨H, 1, none⟩ = some (.int .i64 (num id))) := by
    refine (HC3.out (World.drew W3) hr3).mono ?_
    rintro e w' ⟨sv, q1, q2, q3, q4, q5⟩
    have := hd3.drew.kept q4 (by omega)
    obtain ⟨a, c, rfl⟩ := Rw.shape q2
    exact ⟨a, c, q1, q2, q3, hK3.drew.trans q4, q5.mono hK3.size, this.cell 0, this.cell 1⟩
  clear HC3
  go_region_with (go_at_call 217; refine HC4.out.mono ?_; rintro e w3 ⟨a3, c3, rfl, r3, hr4, hk4, f4, e3, e4⟩)
  all_goals
    go_wp2
    go_ret
    exact ⟨a3, c3, rfl, r3, f4, hr4, hk4⟩

set_option maxRecDepth 100000 in
set_option maxHeartbeats 400000 in
/-- as parse_of, where the request's value lies in memory -/
theorem parse_ex (iv : Value) (s z : ByteArray) (T : TypeId) (P : Value → World → Prop) (w : World) (h : Bs w 5 iv s) (hz : z.size = 0)
    (HR : Hid (∀ w1 rb, Below w.heap.size w w1 → Rd w1 rb s → Calls Tryz.prog 177 #[.pointer (some ⟨rb, 0, none⟩)] w1
      fun r w' => ∃ v, r = .returned (.iface T v) ∧ P v w' ∧ Rd w' rb z ∧ Kept (fun k => k = rb) w1 w')) :
    Calls Tryz.prog 129 #[iv] w
      fun r w' => ∃ v, r = .returned (.tuple #[.iface T v, .bool true]) ∧ P v w' ∧ Below w.heap.size w w' := by
  obtain ⟨a, c, rfl, hc⟩ := h.shape
  have hA := Below.alloc (Below.refl w.heap.size w) (Nat.le_refl _) (.cells #[.slice a s.size c, .bool false] 293)
  have hr : Rd (w.alloc (.cells #[.slice a s.size c, .bool false] 293)) w.heap.size s := ⟨_, Blk.new _ _ _, h.below hA⟩
  have HC := hide (HR.out _ _ hA hr)
  clear HR hr
  go_enter Tryz.func129, Tryz.ntmps129
  go_wp2_with (go_at_call 177; refine HC.out.mono ?_; rintro e w1 ⟨v, rfl, hP, ⟨rv, hb, hz1⟩, hk1⟩; obtain ⟨a1, c1, rfl, _⟩ := hz1.shape; rw [hz] at hb; have c0 : w1.cell? ⟨w.heap.size, 0, none⟩ = some (.slice a1 0 c1) := hb.cell 0; have c1 : w1.cell? ⟨w.heap.size, 1, none⟩ = some (.bool false) := hb.cell 1)
  go_ret2
  exact ⟨v, rfl, hP, hA.trans (hk1.toBelow (fun k hk e => by omega) (by simp))⟩

set_option maxRecDepth 100000 in
theorem items_list (a : Option Addr) (n c : Nat) (w : World) : Calls Tryz.prog 181 #[.agg #[.slice a n c]] w fun r w' => r = .returned (.int .i64 n) ∧ Below w.heap.size w w' := by
  go_enter Tryz.func181, Tryz.ntmps181
  go_wp2
  go_ret
  exact ⟨rfl, Below.alloc (Below.refl _ _) (Nat.le_refl _) _⟩
end Go.Proofs.YthpmcilljbmoiaaGreatDoor
namespace Go.Proofs.YthpmcilljbmoiaaGreatDoor
open Go.RowKit

set_option maxRecDepth 100000 in
set_option maxHeartbeats 400000 in
theorem find_empty (sb : Nat) (nm : ByteArray) (w : World) (h : w.cell? ⟨sb, 0, none⟩ = some (.slice none 0 0)) :
    Calls Tryz.prog 167 #[.pointer (some ⟨sb, 0, none⟩), .string nm] w fun r w' => r = .returned (.int .i64 (-1)) ∧ w = w' := by
  go_enter Tryz.func167, Tryz.ntmps167
  go_wp2
  refine wp_loop_rounds 1 ?_
  rw [rounds_succ]
  go_wp2
  go_ret
  exact ⟨rfl, rfl⟩
set_option maxRecDepth 100000 in
set_option maxHeartbeats 400000 in
theorem shardRead_empty (sb : Nat) (nm : ByteArray) (w : World) (h : w.cell? ⟨sb, 0, none⟩ = some (.slice none 0 0)) :
    Calls Tryz.prog 187 #[.pointer (some ⟨sb, 0, none⟩), .string nm] w fun r w' => r = .returned (.tuple #[.string ⟨#[]⟩, .bool false]) ∧ w = w' := by
  have HF := hide (find_empty sb nm w h)
  go_enter Tryz.func187, Tryz.ntmps187
  go_wp2_with (go_at_call 167; refine HF.out.mono ?_; rintro e w1 ⟨rfl, rfl⟩)
  go_ret2
  exact ⟨rfl, rfl⟩
set_option maxRecDepth 100000 in
set_option maxHeartbeats 400000 in
theorem shard_no (nm : ByteArray) (m : Nat) (w : World) (h : 2 < nm.size) (hm : 0 < m) (hm8 : m ≤ 8) :
    Calls Tryz.prog 85 #[.string nm, .int .i64 m] w fun r w' => r = .returned (.int .i64 ((nm[2].toNat % m : Nat) : Int)) ∧ w = w' := by
  have hi : (2 : Int) < (nm.size : Int) := by omega
  have hb := (nm[2]).toNat_lt
  have hm0 : ¬ ((m : Int) = 0) := by omega
  go_enter Tryz.func85, Tryz.ntmps85
  go_wp2
  go_ret
  exact ⟨by rw [Int.natCast_emod]; rfl, rfl⟩

/-- a depot's shards: m pointers -/
structure Shs (w : World) (db b off m cap : Nat) (sh : Nat → Nat) : Prop where
  sl : w.cell? ⟨db, 0, none⟩ = some (.slice (some ⟨b, off, none⟩) m cap)
  at_ : ∀ k, k < m → w.cell? ⟨b, off + k, none⟩ = some (.pointer (some ⟨sh k, 0, none⟩))
  em : ∀ k, k < m → w.cell? ⟨sh k, 0, none⟩ = some (.slice none 0 0)
  m0 : 0 < m
  m8 : m ≤ 8

set_option maxRecDepth 100000 in
set_option maxHeartbeats 1000000 in
theorem shardOf_any (db b off m cap : Nat) (sh : Nat → Nat) (nm : ByteArray) (w : World) (h : Shs w db b off m cap sh) (hn : 2 < nm.size) :
    Calls Tryz.prog 140 #[.pointer (some ⟨db, 0, none⟩), .string nm] w
      fun r w' => r = .returned (.pointer (some ⟨sh (nm[2].toNat % m), 0, none⟩)) ∧ ∃ d, w' = w.drewN d := by
  have c0 := h.sl
  have hk : nm[2].toNat % m < m := Nat.mod_lt _ h.m0
  have c1 := h.at_ _ hk
  have HS : Hid (∀ w1, Calls Tryz.prog 85 #[.string nm, .int .i64 m] w1 fun r w' => r = .returned (.int .i64 ((nm[2].toNat % m : Nat) : Int)) ∧ w1 = w') := fun w1 => shard_no nm m w1 hn h.m0 h.m8
  have h0 := h.m0
  clear h
  generalize nm[2].toNat % m = k at *
  have hki : (k : Int) < (m : Int) := by omega
  have hk0 : (0 : Int) ≤ (k : Int) := by omega
  go_enter Tryz.func140, Tryz.ntmps140
  go_wp2
  go_quiet (first | (go_at_call 85; exact Calls.quiet_of_same ((HS.out _).mono (fun _ _ h => ⟨h.1, h.2.symm⟩))))
  go_wp2
  go_ret
  exact ⟨rfl, nq, rfl⟩

set_option maxRecDepth 100000 in
set_option maxHeartbeats 1000000 in
theorem read_empty (db b off m cap : Nat) (sh : Nat → Nat) (nm : ByteArray) (w : World) (h : Shs w db b off m cap sh) (hn : 2 < nm.size) :
    Calls Tryz.prog 134 #[.pointer (some ⟨db, 0, none⟩), .string nm] w
      fun r w' => ∃ v, r = .returned v ∧ Bs w' 5 v (b8 0) ∧ Below w.heap.size w w' ∧ Fresh w.heap.size v := by
  have H1 : Hid (Calls Tryz.prog 140 #[.pointer (some ⟨db, 0, none⟩), .string nm] w fun r w' => r = .returned (.pointer (some ⟨sh (nm[2].toNat % m), 0, none⟩)) ∧ Below w.heap.size w w' ∧ w'.heap.size = w.heap.size ∧ w'.cell? ⟨sh (nm[2].toNat % m), 0, none⟩ = some (.slice none 0 0)) := by
    refine (shardOf_any db b off m cap sh nm w h hn).mono ?_
    rintro e w' ⟨q1, d, rfl⟩
    exact ⟨q1, ⟨rfl, rfl, rfl, Nat.le_refl _, fun _ _ => rfl⟩, rfl, h.em _ (Nat.mod_lt _ h.m0)⟩
  have H2 := hide (fun (sb : Nat) w1 (hc : World.cell? w1 ⟨sb, 0, none⟩ = some (.slice none 0 0)) => shardRead_empty sb nm w1 hc)
  have H3 := hide no_any
  clear h
  generalize sh (nm[2].toNat % m) = sb at *
  go_enter Tryz.func134, Tryz.ntmps134
  go_wp2_with (first | (go_at_call 140; refine H1.out.mono ?_; rintro e w1 ⟨rfl, k1, z1, g1⟩) | (go_at_call 187; refine (H2.out sb w1 g1).mono ?_; rintro e w2 ⟨rfl, rfl⟩) | (go_at_call 183; refine (H3.out _).mono ?_; rintro e w3 ⟨v, rfl, b3, k3, f3⟩))
  go_ret
  exact ⟨v, rfl, b3, k1.trans (k3.mono k1.size), f3.mono k1.size⟩
end Go.Proofs.YthpmcilljbmoiaaGreatDoor
namespace Go.Proofs.YthpmcilljbmoiaaGreatDoor
open Go.RowKit

theorem ta_read_Find (id n c : Nat) (a : Option Addr) (w : World) : (Instr.typeAssert (readRq id n c a) 172 243 true).run Tryz.prog w = .ok (.tuple #[.agg #[.int .i64 0, .int .i64 0, .slice none 0 0, .int .i64 0], .bool false]) w := by kernel_rfl
theorem ta_read_Read (id n c : Nat) (a : Option Addr) (w : World) : (Instr.typeAssert (readRq id n c a) 172 246 true).run Tryz.prog w = .ok (.tuple #[.agg #[.int .i64 2, .int .i64 id, .slice a n c], .bool true]) w := by kernel_rfl
theorem ta_read_Update (id n c : Nat) (a : Option Addr) (w : World) : (Instr.typeAssert (readRq id n c a) 172 250 true).run Tryz.prog w = .ok (.tuple #[.agg #[.int .i64 0, .int .i64 0, .slice none 0 0], .bool false]) w := by kernel_rfl
theorem method_read_items (id n c : Nat) (a : Option Addr) (w : World) : (method 446 246 (.agg #[.int .i64 2, .int .i64 id, .slice a n c]) "Items").run Tryz.prog w = .ok (181, .agg #[.slice a n c]) w := by kernel_rfl
theorem method_read_reply (id n c : Nat) (a : Option Addr) (w : World) : (method 446 246 (.agg #[.int .i64 2, .int .i64 id, .slice a n c]) "Reply").run Tryz.prog w = .ok (255, .agg #[.int .i64 2, .int .i64 id]) w := by kernel_rfl

set_option maxRecDepth 100000 in
set_option maxHeartbeats 1000000 in
theorem work_read (db id n c : Nat) (a : Option Addr) (w : World) (hn : n < 256) :
    Calls Tryz.prog 132 #[.pointer (some ⟨db, 0, none⟩), readRq id n c a] w
      fun r w' => r = .returned (.pointer (some ⟨w.heap.size, 0, none⟩)) ∧ ∃ bv, Wk w' w.heap.size (readRq id n c a) 0 bv ∧ Bs w' 5 bv (b8 n) ∧ Below w.heap.size w w' ∧ Fresh w.heap.size bv := by
  have t1 := ta_read_Find id n c a
  have t2 := ta_read_Read id n c a
  have t3 := ta_read_Update id n c a
  have hm := method_read_items id n c a
  have hA := Below.alloc (Below.refl w.heap.size w) (Nat.le_refl _) (.cells #[readRq id n c a, .pointer none, .int .i64 0, .slice none 0 0] 175)
  have hW := Blk.new w 175 #[readRq id n c a, .pointer none, .int .i64 0, .slice none 0 0]
  have HI : Hid (∀ w1, Below (w.heap.size + 1) (w.alloc (.cells #[readRq id n c a, .pointer none, .int .i64 0, .slice none 0 0] 175)) w1 → Calls Tryz.prog 181 #[.agg #[.slice a n c]] w1 fun r w' => r = .returned (.int .i64 n) ∧ Wk w' w.heap.size (readRq id n c a) 0 (.slice none 0 0) ∧ Below w.heap.size w w') := fun w1 h1 => by
    refine (items_list a n c w1).mono ?_
    rintro e w' ⟨q1, q2⟩
    have hs : w.heap.size + 1 ≤ w1.heap.size := by have := h1.size; simpa using this
    exact ⟨q1, (hW.below h1 (by omega)).below q2 (by omega), hA.trans ((h1.mono (by omega)).trans (q2.mono (by omega)))⟩
  go_enter Tryz.func132, Tryz.ntmps132
  go_wp2_with (go_at_call 181; refine (HI.out _ (Below.refl _ _)).mono ?_; rintro e w1 ⟨rfl, hW1, k1⟩; have d3 : w1.cell? ⟨w.heap.size, 3, none⟩ = some (.slice none 0 0) := hW1.cell 3; have f3 := hW1.frozen 3; have l1 := hW1.lt)
  go_ret
  have hone := Bs.one (w1.setCell ⟨w.heap.size, 3, none⟩ (.slice (some ⟨w1.heap.size, 0, none⟩) 1 1)) n n rfl hn
  rw [World.size_setCell] at hone
  have hs := k1.size
  have hW2 : Wk (w1.setCell ⟨w.heap.size, 3, none⟩ (.slice (some ⟨w1.heap.size, 0, none⟩) 1 1)) w.heap.size (readRq id n c a) 0 (.slice (some ⟨w1.heap.size, 0, none⟩) 1 1) := by simpa using hW1.set 3 (.slice (some ⟨w1.heap.size, 0, none⟩) 1 1)
  refine ⟨rfl, _, hW2.alloc _, hone, (k1.setCell (Nat.le_refl _) _).alloc (by rw [World.size_setCell]; exact hs) _, fun k hk => ?_⟩
  simp [Value.ownBlock] at hk
  omega
end Go.Proofs.YthpmcilljbmoiaaGreatDoor
namespace Go.Proofs.YthpmcilljbmoiaaGreatDoor
open Go.RowKit

set_option maxRecDepth 100000 in
set_option maxHeartbeats 1000000 in
theorem doItem_read (db wb id n c d : Nat) (a : Option Addr) (bv : Value) (s told : ByteArray) (names : List ByteArray) (w : World) (hW : Wk w wb (readRq id n c a) (d : Int) bv) (hb : Bs w 5 bv s) (hn : names.length = n) (hd : d < names.length) (hd16 : d < 100)
    (hR : Rw w 9 1 (.slice a n c) n (names.map Value.string)) (ht : s.size + told.size ≤ 100000)
    (HG : Hid (∀ w1, Kept (fun k => k = wb) w w1 → Calls Tryz.prog 134 #[.pointer (some ⟨db, 0, none⟩), .string names[d]] w1
      fun r w' => ∃ v, r = .returned v ∧ Bs w' 5 v told ∧ Below w1.heap.size w1 w' ∧ Fresh w1.heap.size v)) :
    Calls Tryz.prog 92 #[.pointer (some ⟨db, 0, none⟩), .pointer (some ⟨wb, 0, none⟩)] w
      fun r w' => r = .returned (.tuple #[]) ∧ ∃ bv', Wk w' wb (readRq id n c a) ((d : Int) + 1) bv' ∧ Bs w' 5 bv' (s ++ told) ∧ Kept (fun k => k = wb ∨ bv.ownBlock = some k) w w' ∧ Home w bv bv' := by
  have c0 : w.cell? ⟨wb, 0, none⟩ = some (readRq id n c a) := hW.cell 0
  have c2 : w.cell? ⟨wb, 2, none⟩ = some (.int .i64 (d : Int)) := hW.cell 2
  have f2 := hW.frozen 2
  have hlt := hW.lt
  have t1 := ta_read_Find id n c a
  have t2 := ta_read_Read id n c a
  obtain ⟨_, h0, _⟩ | ⟨b, off, cap, cur, hsl, hB, h1, h2, h3, h4, h5⟩ := hR
  · omega
  injection hsl with ha _ hcap
  subst ha
  subst hcap
  have hbw : b ≠ wb := hB.ne hW (by decide)
  have hbl := hB.lt
  have hcell : w.cell? ⟨b, off + d, none⟩ = some (.string names[d]) := by
    rw [hB.cell, h5 d (by omega), List.getElem?_map, List.getElem?_eq_getElem hd]
    rfl
  generalize names[d] = nm at *
  have hK1 : Kept (fun k => k = wb) w ((w.setCell ⟨wb, 2, none⟩ (.int .i64 ((d : Int) + 1))).alloc (.cells #[.int .i64 2, .int .i64 id, .slice (some ⟨b, off, none⟩) n c] 246)) := ((Kept.refl (fun k => k = wb) w).set _ _ (fun _ => rfl)).alloc _
  have hW1 : Wk ((w.setCell ⟨wb, 2, none⟩ (.int .i64 ((d : Int) + 1))).alloc (.cells #[.int .i64 2, .int .i64 id, .slice (some ⟨b, off, none⟩) n c] 246)) wb (readRq id n c (some ⟨b, off, none⟩)) ((d : Int) + 1) bv := (by simpa using hW.set 2 (.int .i64 ((d : Int) + 1)) : Wk (w.setCell ⟨wb, 2, none⟩ (.int .i64 ((d : Int) + 1))) wb (readRq id n c (some ⟨b, off, none⟩)) ((d : Int) + 1) bv).alloc _
  have hb1 := hb.kept hK1 (fun k hk e => by subst e; exact bs_ne_cn hb hW (by decide) hk)
  have hbne := bs_ne_cn hb hW (by decide)
  have hdi : (d : Int) < (n : Int) := by omega
  have hdi0 : (0 : Int) ≤ (d : Int) := by omega
  clear h3 h4 h5 hB h2 hd
  generalize hrq : readRq id n c (some ⟨b, off, none⟩) = rq at *
  clear hrq
  go_enter Tryz.func92, Tryz.ntmps92
  go_wp2_with (first | (go_at_call 134; refine (HG.out _ hK1).mono ?_; rintro e w1 ⟨v, rfl, b1, k1, f1⟩; have hW2 := hW1.below k1 hW1.lt; have hb2 := hb1.below k1; have d3 : w1.cell? ⟨wb, 3, none⟩ = some bv := hW2.cell 3) | (at_builtin; refine wpList_append_bs w1 rfl (.tmp 92) (.tmp 93) 126 126 rfl 5 Tryz.underlying126 infoU8 bv s rfl hb2 _ told rfl (b1.src Tryz.underlying126) ?_ ?_))
  · omega
  rintro v2 w2 ⟨q1, q2, q3⟩
  have hW3 : Wk w2 wb rq ((d : Int) + 1) bv := hW2.kept q2 hbne
  have d4 : w2.cell? ⟨wb, 3, none⟩ = some bv := hW3.cell 3
  have f4 := hW3.frozen 3
  have hne := bs_ne_cn q1 hW3 (by decide)
  obtain ⟨a2, e2, rfl, _⟩ := q1.shape
  go_wp2
  have hK2 : Kept (fun k => k = wb ∨ bv.ownBlock = some k) w w2 := ((hK1.below k1).mono (fun _ _ h => .inl h)).next q2 (fun i _ h => .inr h)
  refine bodyPost_end (results_none rfl _ _ _) rfl ⟨rfl, _, by simpa using hW3.set 3 _, q1.kept ((Kept.refl (fun k => k = wb) w2).set _ _ (fun _ => rfl)) (fun k hk e => by subst e; exact hne hk), hK2.set _ _ (fun _ => .inl rfl), ?_⟩
  exact (Home.refl w bv).trans (Nat.le_trans hK1.size k1.size) q3
end Go.Proofs.YthpmcilljbmoiaaGreatDoor
namespace Go.Proofs.YthpmcilljbmoiaaGreatDoor
open Go.RowKit

set_option maxRecDepth 100000 in
set_option maxHeartbeats 1000000 in
/-- an item of a Read is done -/
theorem step_read (db kb wb id n c d : Nat) (a : Option Addr) (wv gv cl bv : Value) (w : World) (R : Ending → World → Prop) (hB : Cn w kb wv gv (.pointer (some ⟨wb, 0, none⟩)) cl) (hW : Wk w wb (readRq id n c a) (d : Int) bv) (hd : d < n)
    (HD : Hid (∀ w1, Below w.heap.size w w1 → Calls Tryz.prog 92 #[.pointer (some ⟨db, 0, none⟩), .pointer (some ⟨wb, 0, none⟩)] w1 fun r w' => r = .returned (.tuple #[]) ∧ R (.returned (.int .i64 2)) w')) :
    Calls Tryz.prog 49 #[.pointer (some ⟨db, 0, none⟩), .pointer (some ⟨kb, 0, none⟩)] w R := by
  have e2 : w.cell? ⟨kb, 2, none⟩ = some (.pointer (some ⟨wb, 0, none⟩)) := hB.cell 2
  have d0 : w.cell? ⟨wb, 0, none⟩ = some (readRq id n c a) := hW.cell 0
  have d2 : w.cell? ⟨wb, 2, none⟩ = some (.int .i64 (d : Int)) := hW.cell 2
  have hm := method_read_items id n c a
  have hdi : (d : Int) < (n : Int) := by omega
  have HI : Hid (∀ w0, Below w.heap.size w w0 → Calls Tryz.prog 181 #[.agg #[.slice a n c]] w0 fun r w' => r = .returned (.int .i64 n) ∧ Below w.heap.size w w' ∧ w'.cell? ⟨wb, 2, none⟩ = some (.int .i64 (d : Int))) := fun w0 h0 => by
    refine (items_list a n c w0).mono ?_
    rintro e w' ⟨h1, h2⟩
    have h3 := h0.trans (h2.mono h0.size)
    exact ⟨h1, h3, by rw [h3.cell hW.lt]; exact d2⟩
  go_enter Tryz.func49, Tryz.ntmps49
  go_wp2
  go_region_with (go_at_call 181; refine (HI.out (World.drew w) (Below.refl _ _).drew).mono ?_; rintro e w1 ⟨rfl, k1, g1⟩)
  all_goals
    go_wp2_with (go_at_call 92; refine (HD.out w1 k1).mono ?_; rintro e w2 ⟨rfl, hR⟩)
    exact hR
set_option maxRecDepth 100000 in
set_option maxHeartbeats 1000000 in
/-- the reply of a Read goes out -/
theorem step_told (db kb wb id n c : Nat) (a : Option Addr) (wv gv cl bv : Value) (w : World) (R : Ending → World → Prop) (hB : Cn w kb wv gv (.pointer (some ⟨wb, 0, none⟩)) cl) (hW : Wk w wb (readRq id n c a) (n : Int) bv)
    (HD : Hid (∀ w1, Below w.heap.size w w1 → Calls Tryz.prog 93 #[.pointer (some ⟨db, 0, none⟩), .pointer (some ⟨kb, 0, none⟩)] w1 fun r w' => r = .returned (.tuple #[]) ∧ R (.returned (.int .i64 3)) w')) :
    Calls Tryz.prog 49 #[.pointer (some ⟨db, 0, none⟩), .pointer (some ⟨kb, 0, none⟩)] w R := by
  have e2 : w.cell? ⟨kb, 2, none⟩ = some (.pointer (some ⟨wb, 0, none⟩)) := hB.cell 2
  have d0 : w.cell? ⟨wb, 0, none⟩ = some (readRq id n c a) := hW.cell 0
  have d2 : w.cell? ⟨wb, 2, none⟩ = some (.int .i64 (n : Int)) := hW.cell 2
  have hm := method_read_items id n c a
  have HI : Hid (∀ w0, Below w.heap.size w w0 → Calls Tryz.prog 181 #[.agg #[.slice a n c]] w0 fun r w' => r = .returned (.int .i64 n) ∧ Below w.heap.size w w' ∧ w'.cell? ⟨wb, 2, none⟩ = some (.int .i64 (n : Int))) := fun w0 h0 => by
    refine (items_list a n c w0).mono ?_
    rintro e w' ⟨h1, h2⟩
    have h3 := h0.trans (h2.mono h0.size)
    exact ⟨h1, h3, by rw [h3.cell hW.lt]; exact d2⟩
  go_enter Tryz.func49, Tryz.ntmps49
  go_wp2
  go_region_with (go_at_call 181; refine (HI.out (World.drew w) (Below.refl _ _).drew).mono ?_; rintro e w1 ⟨rfl, k1, g1⟩)
  all_goals
    go_wp2_with (go_at_call 93; refine (HD.out w1 k1).mono ?_; rintro e w2 ⟨rfl, hR⟩)
    exact hR
end Go.Proofs.YthpmcilljbmoiaaGreatDoor
namespace Go.Proofs.YthpmcilljbmoiaaGreatDoor
open Go.RowKit

set_option maxRecDepth 100000 in
set_option maxHeartbeats 1000000 in
/-- a Read begins; other frames may stand behind its own -/
theorem begin_read (db kb : Nat) (wv gv cl : Value) (s inside rest kd idb cnt : ByteArray) (names : List ByteArray) (L : Nat) (w : World) (hB : Cn w kb wv gv (.pointer none) cl) (hw : Bs w 5 wv s) (hsz : s.size ≤ 6000) (h2 : 2 + L ≤ s.size) (hL : num (s.extract 0 2) = L) (h1 : 1 ≤ L) (h3 : L ≤ 2000)
    (hin : s.extract 2 (2 + L) = inside) (hrest : s.extract (2 + L) s.size = rest) (hi : inside = kd ++ (idb ++ (cnt ++ (cat names ++ ⟨#[]⟩)))) (hk1 : kd.size = 1) (hk2 : idb.size = 2) (hk : num kd = 2) (hc1 : cnt.size = 1) (hc : num cnt = names.length) (hn0 : 1 ≤ names.length) (hn : names.length ≤ 16) (hnm : ∀ x ∈ names, x.size = 34 ∧ num (x.extract 0 2) ≤ 120) :
    Calls Tryz.prog 91 #[.pointer (some ⟨db, 0, none⟩), .pointer (some ⟨kb, 0, none⟩)] w
      fun r w' => r = .returned (.int .i64 1) ∧ ∃ wv' wb a c bv, Cn w' kb wv' gv (.pointer (some ⟨wb, 0, none⟩)) cl ∧ Bs w' 5 wv' rest ∧ Wk w' wb (readRq (num idb) names.length c a) 0 bv ∧ Bs w' 5 bv (b8 names.length) ∧ Rw w' 9 1 (.slice a names.length c) names.length (names.map Value.string)
        ∧ w.heap.size ≤ wb ∧ Fresh w.heap.size bv ∧ Fresh w.heap.size (.slice a names.length c) ∧ Kept (fun k => k = kb) w w' ∧ wv'.ownBlock = wv.ownBlock := by
  have HC := cut_in kb wv gv (.pointer none) cl s L w hB hw hsz h2 hL h1 h3
  rw [hin, hrest] at HC
  have HC := hide HC
  have HP : Hid (∀ iv w1, Bs w1 5 iv inside → Calls Tryz.prog 129 #[iv] w1 fun r w' => ∃ a c, r = .returned (.tuple #[readRq (num idb) names.length c a, .bool true]) ∧ Rw w' 9 1 (.slice a names.length c) names.length (names.map Value.string) ∧ Fresh w1.heap.size (.slice a names.length c) ∧ Below w1.heap.size w1 w') := fun iv w1 hb => by
    refine (parse_ex iv inside ⟨#[]⟩ 246 (fun v w' => ∃ a c, v = .agg #[.int .i64 2, .int .i64 (num idb), .slice a names.length c] ∧ Rw w' 9 1 (.slice a names.length c) names.length (names.map Value.string) ∧ Fresh w1.heap.size (.slice a names.length c)) w1 hb rfl ?_).mono ?_
    · intro w2 rb hbl hr
      rw [hi] at hr
      refine (request_read rb kd idb cnt ⟨#[]⟩ names w2 hr hk1 hk2 hk hc1 hc hn0 hn hnm rfl).mono ?_
      rintro e w' ⟨a, c, q1, q2, q3, q4, q5⟩
      exact ⟨_, q1, ⟨a, c, rfl, q2, q3.mono hbl.size⟩, q4, q5⟩
    · rintro e w' ⟨v, q1, ⟨a, c, rfl, q2, q3⟩, q4⟩
      exact ⟨a, c, q1, q2, q3, q4⟩
  have HK := hide (fun a c w1 => work_read db (num idb) names.length c a w1 (by omega))
  have hlt := hB.lt
  clear hw hL hin hrest hsz h1 h2 h3 hi hnm hk hc hk1 hk2 hc1
  go_enter Tryz.func91, Tryz.ntmps91
  go_wp2_with (first | (go_at_call 128; refine HC.out.mono ?_; rintro e w1 ⟨iv, wv1, rfl, hB1, b1, i1, k1, o1, o2⟩) | (go_at_call 129; refine (HP.out iv w1 i1).mono ?_; rintro e w2 ⟨a2, c2, rfl, r2, f2, k2⟩) | (go_at_call 132; refine (HK.out a2 c2 w2).mono ?_; rintro e w3 ⟨rfl, bv, hW3, bb3, k3, f3⟩; have hB3 := (hB1.below k2 hB1.lt).below k3 (Nat.lt_of_lt_of_le hB1.lt k2.size); have e2 : w3.cell? ⟨kb, 2, none⟩ = some (.pointer none) := hB3.cell 2; have e3 := hB3.frozen 2))
  go_ret
  have hK : Kept (fun k => k = kb) w3 (w3.setCell ⟨kb, 2, none⟩ (.pointer (some ⟨w2.heap.size, 0, none⟩))) := (Kept.refl _ _).set _ _ (fun _ => rfl)
  have b3 := (b1.below k2).below k3
  have hne := bs_ne_cn b3 hB3 (by decide)
  have hne2 := bs_ne_cn bb3 hB3 (by decide)
  have r3 := r2.below k3
  have hne3 := Rw.ne r3 hB3 (by decide)
  have hs := Nat.le_trans k1.size k2.size
  refine ⟨rfl, wv1, w2.heap.size, a2, c2, bv, by simpa using hB3.set 2 (.pointer (some ⟨w2.heap.size, 0, none⟩)), b3.kept hK (fun k hk e => by subst e; exact hne hk), hW3.kept hK (hW3.ne hB3 (by decide)), bb3.kept hK (fun k hk e => by subst e; exact hne2 hk), Rw.kept r3 hK (fun k hk e => by subst e; exact hne3 hk), hs, f3.mono hs, f2.mono k1.size, ((k1.below k2).below k3).trans hK, o1⟩
end Go.Proofs.YthpmcilljbmoiaaGreatDoor
