import Derived.Test.YthpmcilljbmoiaaGreatDoorReadOne
namespace Go.Proofs.YthpmcilljbmoiaaGreatDoor
open Go.RowKit

theorem ta_read_Find (id n c : Nat) (a : Option Addr) (w : World) : (Instr.typeAssert (readRq id n c a) 172 243 true).run Tryz.prog w = .ok (.tuple #[.agg #[.int .i64 0, .int .i64 0, .slice none 0 0, .int .i64 0], .bool false]) w := by kernel_rfl
theorem ta_read_Read (id n c : Nat) (a : Option Addr) (w : World) : (Instr.typeAssert (readRq id n c a) 172 246 true).run Tryz.prog w = .ok (.tuple #[.agg #[.int .i64 2, .int .i64 id, .slice a n c], .bool true]) w := by kernel_rfl
theorem ta_read_Update (id n c : Nat) (a : Option Addr) (w : World) : (Instr.typeAssert (readRq id n c a) 172 250 true).run Tryz.prog w = .ok (.tuple #[.agg #[.int .i64 0, .int .i64 0, .slice none 0 0], .bool false]) w := by kernel_rfl
theorem method_read_items (id n c : Nat) (a : Option Addr) (w : World) : (method 446 246 (.agg #[.int .i64 2, .int .i64 id, .slice a n c]) "Items").run Tryz.prog w = .ok (181, .agg #[.slice a n c]) w := by kernel_rfl
theorem method_read_reply (id n c : Nat) (a : Option Addr) (w : World) : (method 446 246 (.agg #[.int .i64 2, .int .i64 id, .slice a n c]) "Reply").run Tryz.prog w = .ok (255, .agg #[.int .i64 2, .int .i64 id]) w := by kernel_rfl

set_option maxRecDepth 100000 in
set_option maxHeartbeats 1000000 in
theorem work_read (db id n c : Nat) (a : Option Addr) (w : World) (hn : n < 256) :
    Calls Tryz.prog 132 #[.pointer (some ⟨db, 0, none⟩), readRq id n c a] w
      fun r w' => r = .returned (.pointer (some ⟨w.heap.size, 0, none⟩)) ∧ ∃ bv, Wk w' w.heap.size (readRq id n c a) 0 bv ∧ Bs w' 5 bv (b8 n) ∧ Below w.heap.size w w' ∧ Fresh w.heap.size bv := by
  have t1 := ta_read_Find id n c a
  have t2 := ta_read_Read id n c a
  have t3 := ta_read_Update id n c a
  have hm := method_read_items id n c a
  have hA := Below.alloc (Below.refl w.heap.size w) (Nat.le_refl _) (.cells #[readRq id n c a, .pointer none, .int .i64 0, .slice none 0 0] 175)
  have hW := Blk.new w 175 #[readRq id n c a, .pointer none, .int .i64 0, .slice none 0 0]
  have HI : Hid (∀ w1, Below (w.heap.size + 1) (w.alloc (.cells #[readRq id n c a, .pointer none, .int .i64 0, .slice none 0 0] 175)) w1 → Calls Tryz.prog 181 #[.agg #[.slice a n c]] w1 fun r w' => r = .returned (.int .i64 n) ∧ Wk w' w.heap.size (readRq id n c a) 0 (.slice none 0 0) ∧ Below w.heap.size w w') := fun w1 h1 => by
    refine (items_list a n c w1).mono ?_
    rintro e w' ⟨q1, q2⟩
    have hs : w.heap.size + 1 ≤ w1.heap.size := by have := h1.size; simpa using this
    exact ⟨q1, (hW.below h1 (by omega)).below q2 (by omega), hA.trans ((h1.mono (by omega)).trans (q2.mono (by omega)))⟩
  go_enter Tryz.func132, Tryz.ntmps132
  go_wp2_with (go_at_call 181; refine (HI.out _ (Below.refl _ _)).mono ?_; rintro e w1 ⟨rfl, hW1, k1⟩; have d3 : w1.cell? ⟨w.heap.size, 3, none⟩ = some (.slice none 0 0) := hW1.cell 3; have f3 := hW1.frozen 3; have l1 := hW1.lt)
  go_ret
  have hone := Bs.one (w1.setCell ⟨w.heap.size, 3, none⟩ (.slice (some ⟨w1.heap.size, 0, none⟩) 1 1)) n n rfl hn
  rw [World.size_setCell] at hone
  have hs := k1.size
  have hW2 : Wk (w1.setCell ⟨w.heap.size, 3, none⟩ (.slice (some ⟨w1.heap.size, 0, none⟩) 1 1)) w.heap.size (readRq id n c a) 0 (.slice (some ⟨w1.heap.size, 0, none⟩) 1 1) := by simpa using hW1.set 3 (.slice (some ⟨w1.heap.size, 0, none⟩) 1 1)
  refine ⟨rfl, _, hW2.alloc _, hone, (k1.setCell (Nat.le_refl _) _).alloc (by rw [World.size_setCell]; exact hs) _, fun k hk => ?_⟩
  simp [Value.ownBlock] at hk
  omega
end Go.Proofs.YthpmcilljbmoiaaGreatDoor
namespace Go.Proofs.YthpmcilljbmoiaaGreatDoor
open Go.RowKit

set_option maxRecDepth 100000 in
set_option maxHeartbeats 1000000 in
theorem doItem_read (db wb id n c d : Nat) (a : Option Addr) (bv : Value) (s told : ByteArray) (names : List ByteArray) (w : World) (hW : Wk w wb (readRq id n c a) (d : Int) bv) (hb : Bs w 5 bv s) (hn : names.length = n) (hd : d < names.length) (hd16 : d < 100)
    (hR : Rw w 9 1 (.slice a n c) n (names.map Value.string)) (ht : s.size + told.size ≤ 100000)
    (HG : Hid (∀ w1, Kept (fun k => k = wb) w w1 → Calls Tryz.prog 134 #[.pointer (some ⟨db, 0, none⟩), .string names[d]] w1
      fun r w' => ∃ v, r = .returned v ∧ Bs w' 5 v told ∧ Below w1.heap.size w1 w' ∧ Fresh w1.heap.size v)) :
    Calls Tryz.prog 92 #[.pointer (some ⟨db, 0, none⟩), .pointer (some ⟨wb, 0, none⟩)] w
      fun r w' => r = .returned (.tuple #[]) ∧ ∃ bv', Wk w' wb (readRq id n c a) ((d : Int) + 1) bv' ∧ Bs w' 5 bv' (s ++ told) ∧ Kept (fun k => k = wb ∨ bv.ownBlock = some k) w w' ∧ Home w bv bv' := by
  have c0 : w.cell? ⟨wb, 0, none⟩ = some (readRq id n c a) := hW.cell 0
  have c2 : w.cell? ⟨wb, 2, none⟩ = some (.int .i64 (d : Int)) := hW.cell 2
  have f2 := hW.frozen 2
  have hlt := hW.lt
  have t1 := ta_read_Find id n c a
  have t2 := ta_read_Read id n c a
  obtain ⟨_, h0, _⟩ | ⟨b, off, cap, cur, hsl, hB, h1, h2, h3, h4, h5⟩ := hR
  · omega
  injection hsl with ha _ hcap
  subst ha
  subst hcap
  have hbw : b ≠ wb := hB.ne hW (by decide)
  have hbl := hB.lt
  have hcell : w.cell? ⟨b, off + d, none⟩ = some (.string names[d]) := by
    rw [hB.cell, h5 d (by omega), List.getElem?_map, List.getElem?_eq_getElem hd]
    rfl
  generalize names[d] = nm at *
  have hK1 : Kept (fun k => k = wb) w ((w.setCell ⟨wb, 2, none⟩ (.int .i64 ((d : Int) + 1))).alloc (.cells #[.int .i64 2, .int .i64 id, .slice (some ⟨b, off, none⟩) n c] 246)) := ((Kept.refl (fun k => k = wb) w).set _ _ (fun _ => rfl)).alloc _
  have hW1 : Wk ((w.setCell ⟨wb, 2, none⟩ (.int .i64 ((d : Int) + 1))).alloc (.cells #[.int .i64 2, .int .i64 id, .slice (some ⟨b, off, none⟩) n c] 246)) wb (readRq id n c (some ⟨b, off, none⟩)) ((d : Int) + 1) bv := (by simpa using hW.set 2 (.int .i64 ((d : Int) + 1)) : Wk (w.setCell ⟨wb, 2, none⟩ (.int .i64 ((d : Int) + 1))) wb (readRq id n c (some ⟨b, off, none⟩)) ((d : Int) + 1) bv).alloc _
  have hb1 := hb.kept hK1 (fun k hk e => by subst e; exact bs_ne_cn hb hW (by decide) hk)
  have hbne := bs_ne_cn hb hW (by decide)
  have hdi : (d : Int) < (n : Int) := by omega
  have hdi0 : (0 : Int) ≤ (d : Int) := by omega
  clear h3 h4 h5 hB h2 hd
  generalize hrq : readRq id n c (some ⟨b, off, none⟩) = rq at *
  clear hrq
  go_enter Tryz.func92, Tryz.ntmps92
  go_wp2_with (first | (go_at_call 134; refine (HG.out _ hK1).mono ?_; rintro e w1 ⟨v, rfl, b1, k1, f1⟩; have hW2 := hW1.below k1 hW1.lt; have hb2 := hb1.below k1; have d3 : w1.cell? ⟨wb, 3, none⟩ = some bv := hW2.cell 3) | (at_builtin; refine wpList_append_bs w1 rfl (.tmp 92) (.tmp 93) 126 126 rfl 5 Tryz.underlying126 infoU8 bv s rfl hb2 _ told rfl (b1.src Tryz.underlying126) ?_ ?_))
  · omega
  rintro v2 w2 ⟨q1, q2, q3⟩
  have hW3 : Wk w2 wb rq ((d : Int) + 1) bv := hW2.kept q2 hbne
  have d4 : w2.cell? ⟨wb, 3, none⟩ = some bv := hW3.cell 3
  have f4 := hW3.frozen 3
  have hne := bs_ne_cn q1 hW3 (by decide)
  obtain ⟨a2, e2, rfl, _⟩ := q1.shape
  go_wp2
  have hK2 : Kept (fun k => k = wb ∨ bv.ownBlock = some k) w w2 := ((hK1.below k1).mono (fun _ _ h => .inl h)).next q2 (fun i _ h => .inr h)
  refine bodyPost_end (results_none rfl _ _ _) rfl ⟨rfl, _, by simpa using hW3.set 3 _, q1.kept ((Kept.refl (fun k => k = wb) w2).set _ _ (fun _ => rfl)) (fun k hk e => by subst e; exact hne hk), hK2.set _ _ (fun _ => .inl rfl), ?_⟩
  exact (Home.refl w bv).trans (Nat.le_trans hK1.size k1.size) q3
end Go.Proofs.YthpmcilljbmoiaaGreatDoor
namespace Go.Proofs.YthpmcilljbmoiaaGreatDoor
open Go.RowKit

set_option maxRecDepth 100000 in
set_option maxHeartbeats 1000000 in
/-- an item of a Read is done -/
theorem step_read (db kb wb id n c d : Nat) (a : Option Addr) (wv gv cl bv : Value) (w : World) (R : Ending → World → Prop) (hB : Cn w kb wv gv (.pointer (some ⟨wb, 0, none⟩)) cl) (hW : Wk w wb (readRq id n c a) (d : Int) bv) (hd : d < n)
    (HD : Hid (∀ w1, Below w.heap.size w w1 → Calls Tryz.prog 92 #[.pointer (some ⟨db, 0, none⟩), .pointer (some ⟨wb, 0, none⟩)] w1 fun r w' => r = .returned (.tuple #[]) ∧ R (.returned (.int .i64 2)) w')) :
    Calls Tryz.prog 49 #[.pointer (some ⟨db, 0, none⟩), .pointer (some ⟨kb, 0, none⟩)] w R := by
  have e2 : w.cell? ⟨kb, 2, none⟩ = some (.pointer (some ⟨wb, 0, none⟩)) := hB.cell 2
  have d0 : w.cell? ⟨wb, 0, none⟩ = some (readRq id n c a) := hW.cell 0
  have d2 : w.cell? ⟨wb, 2, none⟩ = some (.int .i64 (d : Int)) := hW.cell 2
  have hm := method_read_items id n c a
  have hdi : (d : Int) < (n : Int) := by omega
  have HI : Hid (∀ w0, Below w.heap.size w w0 → Calls Tryz.prog 181 #[.agg #[.slice a n c]] w0 fun r w' => r = .returned (.int .i64 n) ∧ Below w.heap.size w w' ∧ w'.cell? ⟨wb, 2, none⟩ = some (.int .i64 (d : Int))) := fun w0 h0 => by
    refine (items_list a n c w0).mono ?_
    rintro e w' ⟨h1, h2⟩
    have h3 := h0.trans (h2.mono h0.size)
    exact ⟨h1, h3, by rw [h3.cell hW.lt]; exact d2⟩
  go_enter Tryz.func49, Tryz.ntmps49
  go_wp2
  go_region_with (go_at_call 181; refine (HI.out (World.drew w) (Below.refl _ _).drew).mono ?_; rintro e w1 ⟨rfl, k1, g1⟩)
  all_goals
    go_wp2_with (go_at_call 92; refine (HD.out w1 k1).mono ?_; rintro e w2 ⟨rfl, hR⟩)
    exact hR
set_option maxRecDepth 100000 in
set_option maxHeartbeats 1000000 in
/-- the reply of a Read goes out -/
theorem step_told (db kb wb id n c : Nat) (a : Option Addr) (wv gv cl bv : Value) (w : World) (R : Ending → World → Prop) (hB : Cn w kb wv gv (.pointer (some ⟨wb, 0, none⟩)) cl) (hW : Wk w wb (readRq id n c a) (n : Int) bv)
    (HD : Hid (∀ w1, Below w.heap.size w w1 → Calls Tryz.prog 93 #[.pointer (some ⟨db, 0, none⟩), .pointer (some ⟨kb, 0, none⟩)] w1 fun r w' => r = .returned (.tuple #[]) ∧ R (.returned (.int .i64 3)) w')) :
    Calls Tryz.prog 49 #[.pointer (some ⟨db, 0, none⟩), .pointer (some ⟨kb, 0, none⟩)] w R := by
  have e2 : w.cell? ⟨kb, 2, none⟩ = some (.pointer (some ⟨wb, 0, none⟩)) := hB.cell 2
  have d0 : w.cell? ⟨wb, 0, none⟩ = some (readRq id n c a) := hW.cell 0
  have d2 : w.cell? ⟨wb, 2, none⟩ = some (.int .i64 (n : Int)) := hW.cell 2
  have hm := method_read_items id n c a
  have HI : Hid (∀ w0, Below w.heap.size w w0 → Calls Tryz.prog 181 #[.agg #[.slice a n c]] w0 fun r w' => r = .returned (.int .i64 n) ∧ Below w.heap.size w w' ∧ w'.cell? ⟨wb, 2, none⟩ = some (.int .i64 (n : Int))) := fun w0 h0 => by
    refine (items_list a n c w0).mono ?_
    rintro e w' ⟨h1, h2⟩
    have h3 := h0.trans (h2.mono h0.size)
    exact ⟨h1, h3, by rw [h3.cell hW.lt]; exact d2⟩
  go_enter Tryz.func49, Tryz.ntmps49
  go_wp2
  go_region_with (go_at_call 181; refine (HI.out (World.drew w) (Below.refl _ _).drew).mono ?_; rintro e w1 ⟨rfl, k1, g1⟩)
  all_goals
    go_wp2_with (go_at_call 93; refine (HD.out w1 k1).mono ?_; rintro e w2 ⟨rfl, hR⟩)
    exact hR
end Go.Proofs.YthpmcilljbmoiaaGreatDoor
namespace Go.Proofs.YthpmcilljbmoiaaGreatDoor
open Go.RowKit

set_option maxRecDepth 100000 in
set_option maxHeartbeats 1000000 in
/-- a Read begins; other frames may stand behind its own -/
theorem begin_read (db kb : Nat) (wv gv cl : Value) (s inside rest kd idb cnt : ByteArray) (names : List ByteArray) (L : Nat) (w : World) (hB : Cn w kb wv gv (.pointer none) cl) (hw : Bs w 5 wv s) (hsz : s.size ≤ 6000) (h2 : 2 + L ≤ s.size) (hL : num (s.extract 0 2) = L) (h1 : 1 ≤ L) (h3 : L ≤ 2000)
    (hin : s.extract 2 (2 + L) = inside) (hrest : s.extract (2 + L) s.size = rest) (hi : inside = kd ++ (idb ++ (cnt ++ (cat names ++ ⟨#[]⟩)))) (hk1 : kd.size = 1) (hk2 : idb.size = 2) (hk : num kd = 2) (hc1 : cnt.size = 1) (hc : num cnt = names.length) (hn0 : 1 ≤ names.length) (hn : names.length ≤ 16) (hnm : ∀ x ∈ names, x.size = 34 ∧ num (x.extract 0 2) ≤ 120) :
    Calls Tryz.prog 91 #[.pointer (some ⟨db, 0, none⟩), .pointer (some ⟨kb, 0, none⟩)] w
      fun r w' => r = .returned (.int .i64 1) ∧ ∃ wv' wb a c bv, Cn w' kb wv' gv (.pointer (some ⟨wb, 0, none⟩)) cl ∧ Bs w' 5 wv' rest ∧ Wk w' wb (readRq (num idb) names.length c a) 0 bv ∧ Bs w' 5 bv (b8 names.length) ∧ Rw w' 9 1 (.slice a names.length c) names.length (names.map Value.string)
        ∧ w.heap.size ≤ wb ∧ Fresh w.heap.size bv ∧ Fresh w.heap.size (.slice a names.length c) ∧ Kept (fun k => k = kb) w w' ∧ wv'.ownBlock = wv.ownBlock := by
  have HC := cut_in kb wv gv (.pointer none) cl s L w hB hw hsz h2 hL h1 h3
  rw [hin, hrest] at HC
  have HC := hide HC
  have HP : Hid (∀ iv w1, Bs w1 5 iv inside → Calls Tryz.prog 129 #[iv] w1 fun r w' => ∃ a c, r = .returned (.tuple #[readRq (num idb) names.length c a, .bool true]) ∧ Rw w' 9 1 (.slice a names.length c) names.length (names.map Value.string) ∧ Fresh w1.heap.size (.slice a names.length c) ∧ Below w1.heap.size w1 w') := fun iv w1 hb => by
    refine (parse_ex iv inside ⟨#[]⟩ 246 (fun v w' => ∃ a c, v = .agg #[.int .i64 2, .int .i64 (num idb), .slice a names.length c] ∧ Rw w' 9 1 (.slice a names.length c) names.length (names.map Value.string) ∧ Fresh w1.heap.size (.slice a names.length c)) w1 hb rfl ?_).mono ?_
    · intro w2 rb hbl hr
      rw [hi] at hr
      refine (request_read rb kd idb cnt ⟨#[]⟩ names w2 hr hk1 hk2 hk hc1 hc hn0 hn hnm rfl).mono ?_
      rintro e w' ⟨a, c, q1, q2, q3, q4, q5⟩
      exact ⟨_, q1, ⟨a, c, rfl, q2, q3.mono hbl.size⟩, q4, q5⟩
    · rintro e w' ⟨v, q1, ⟨a, c, rfl, q2, q3⟩, q4⟩
      exact ⟨a, c, q1, q2, q3, q4⟩
  have HK := hide (fun a c w1 => work_read db (num idb) names.length c a w1 (by omega))
  have hlt := hB.lt
  clear hw hL hin hrest hsz h1 h2 h3 hi hnm hk hc hk1 hk2 hc1
  go_enter Tryz.func91, Tryz.ntmps91
  go_wp2_with (first | (go_at_call 128; refine HC.out.mono ?_; rintro e w1 ⟨iv, wv1, rfl, hB1, b1, i1, k1, o1, o2⟩) | (go_at_call 129; refine (HP.out iv w1 i1).mono ?_; rintro e w2 ⟨a2, c2, rfl, r2, f2, k2⟩) | (go_at_call 132; refine (HK.out a2 c2 w2).mono ?_; rintro e w3 ⟨rfl, bv, hW3, bb3, k3, f3⟩; have hB3 := (hB1.below k2 hB1.lt).below k3 (Nat.lt_of_lt_of_le hB1.lt k2.size); have e2 : w3.cell? ⟨kb, 2, none⟩ = some (.pointer none) := hB3.cell 2; have e3 := hB3.frozen 2))
  go_ret
  have hK : Kept (fun k => k = kb) w3 (w3.setCell ⟨kb, 2, none⟩ (.pointer (some ⟨w2.heap.size, 0, none⟩))) := (Kept.refl _ _).set _ _ (fun _ => rfl)
  have b3 := (b1.below k2).below k3
  have hne := bs_ne_cn b3 hB3 (by decide)
  have hne2 := bs_ne_cn bb3 hB3 (by decide)
  have r3 := r2.below k3
  have hne3 := Rw.ne r3 hB3 (by decide)
  have hs := Nat.le_trans k1.size k2.size
  refine ⟨rfl, wv1, w2.heap.size, a2, c2, bv, by simpa using hB3.set 2 (.pointer (some ⟨w2.heap.size, 0, none⟩)), b3.kept hK (fun k hk e => by subst e; exact hne hk), hW3.kept hK (hW3.ne hB3 (by decide)), bb3.kept hK (fun k hk e => by subst e; exact hne2 hk), Rw.kept r3 hK (fun k hk e => by subst e; exact hne3 hk), hs, f3.mono hs, f2.mono k1.size, ((k1.below k2).below k3).trans hK, o1⟩
end Go.Proofs.YthpmcilljbmoiaaGreatDoor
