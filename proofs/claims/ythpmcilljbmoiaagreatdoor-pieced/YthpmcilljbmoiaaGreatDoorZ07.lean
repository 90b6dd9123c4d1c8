import Derived.Test.YthpmcilljbmoiaaGreatDoorZ06
namespace Go.Proofs.YthpmcilljbmoiaaGreatDoor
open Go.RowKit

theorem method_get_reply (id : Nat) (key : ByteArray) (w : World) : (method 446 256 (.agg #[.int .i64 4, .int .i64 id, .string key]) "Reply").run Tryz.prog w = .ok (255, .agg #[.int .i64 4, .int .i64 id]) w := by kernel_rfl

set_option maxRecDepth 100000 in
set_option maxHeartbeats 400000 in
theorem work_plain (db : Nat) (T : TypeId) (x rq : Value) (hrq : rq = .iface T x) (w : World)
    (t1 : ∀ w, (Instr.typeAssert rq 172 243 true).run Tryz.prog w = .ok (.tuple #[.agg #[.int .i64 0, .int .i64 0, .slice none 0 0, .int .i64 0], .bool false]) w)
    (t2 : ∀ w, (Instr.typeAssert rq 172 246 true).run Tryz.prog w = .ok (.tuple #[.agg #[.int .i64 0, .int .i64 0, .slice none 0 0], .bool false]) w)
    (t3 : ∀ w, (Instr.typeAssert rq 172 250 true).run Tryz.prog w = .ok (.tuple #[.agg #[.int .i64 0, .int .i64 0, .slice none 0 0], .bool false]) w) :
    Calls Tryz.prog 132 #[.pointer (some ⟨db, 0, none⟩), rq] w
      fun r w' => r = .returned (.pointer (some ⟨w.heap.size, 0, none⟩)) ∧ Wk w' w.heap.size rq 0 (.slice none 0 0) ∧ Below w.heap.size w w' := by
  subst hrq
  go_enter Tryz.func132, Tryz.ntmps132
  go_wp2
  go_ret
  exact ⟨rfl, Blk.new _ _ _, Below.alloc (Below.refl _ _) (Nat.le_refl _) _⟩

theorem method_put_reply (id : Nat) (key val : ByteArray) (w : World) : (method 446 258 (.agg #[.int .i64 5, .int .i64 id, .string key, .string val]) "Reply").run Tryz.prog w = .ok (255, .agg #[.int .i64 5, .int .i64 id]) w := by kernel_rfl
theorem method_get_items (id : Nat) (key : ByteArray) (w : World) : (method 446 256 (.agg #[.int .i64 4, .int .i64 id, .string key]) "Items").run Tryz.prog w = .ok (257, .agg #[]) w := by kernel_rfl
theorem method_put_items (id : Nat) (key val : ByteArray) (w : World) : (method 446 258 (.agg #[.int .i64 5, .int .i64 id, .string key, .string val]) "Items").run Tryz.prog w = .ok (257, .agg #[]) w := by kernel_rfl

set_option maxRecDepth 100000 in
set_option maxHeartbeats 4000000 in
theorem reply_of (db kb wb kind id : Nat) (T : TypeId) (x : Value) (wv gv cl bv : Value) (d : Int) (going body : ByteArray) (w : World)
    (hm : ∀ w, (method 446 T x "Reply").run Tryz.prog w = .ok (255, .agg #[.int .i64 kind, .int .i64 id]) w)
    (hB : Cn w kb wv gv (.pointer (some ⟨wb, 0, none⟩)) cl) (hW : Wk w wb (.iface T x) d bv) (hg : Bs w 5 gv going) (hb : Bs w 5 bv body) (hk : kind < 100) (hi : id < 65536) (hs : body.size ≤ 2500) (hgs : going.size ≤ 200000) :
    Calls Tryz.prog 93 #[.pointer (some ⟨db, 0, none⟩), .pointer (some ⟨kb, 0, none⟩)] w
      fun r w' => r = .returned (.tuple #[]) ∧ ∃ gv', Cn w' kb wv gv' (.pointer none) cl ∧ Bs w' 5 gv' (going ++ frm (kind + 128) id body) ∧ Kept (fun k => k = kb ∨ gv.ownBlock = some k) w w' ∧ Home w gv gv' := by
  have c2 : w.cell? ⟨kb, 2, none⟩ = some (.pointer (some ⟨wb, 0, none⟩)) := hB.cell 2
  have d0 : w.cell? ⟨wb, 0, none⟩ = some (.iface T x) := hW.cell 0
  have d1 : w.cell? ⟨wb, 1, none⟩ = some (.pointer none) := hW.cell 1
  have d3 : w.cell? ⟨wb, 3, none⟩ = some bv := hW.cell 3
  have HR := hide (reply_any kind id bv body (World.drew w) hb hk hi hs)
  have HS : Hid (∀ fv w1, Bs w1 5 fv (frm (kind + 128) id body) → Below w.heap.size (World.drew w) w1 → Calls Tryz.prog 130 #[.pointer (some ⟨kb, 1, none⟩), fv] w1
      fun r w' => r = .returned (.tuple #[]) ∧ ∃ gv', Cn w' kb wv gv' (.pointer (some ⟨wb, 0, none⟩)) cl ∧ Bs w' 5 gv' (going ++ frm (kind + 128) id body) ∧ Kept (fun k => k = kb ∨ gv.ownBlock = some k) w w' ∧ Home w gv gv') := fun fv w1 hf hk1 => by
    refine (send_out kb wv gv _ cl fv going _ w1 (hB.drew.below hk1 hB.lt) (Rw.kept (Rw.drew hg) (Kept.ofBelow (S := fun _ => False) hk1) (fun _ _ h => h)) hf (by rw [frm_size]; omega)).mono ?_
    rintro e w' ⟨rfl, gv', h1, h2, h3, h4⟩
    refine ⟨rfl, gv', h1, h2, ((Kept.refl _ w).drew.below hk1).trans h3, ?_⟩
    exact (Home.refl w gv).trans hk1.size h4
  clear hs hgs hi hk hg hb
  go_enter Tryz.func93, Tryz.ntmps93
  go_wp2
  go_region_with (first | (go_at_call 255; refine HR.out.mono ?_; rintro e w1 ⟨fv, rfl, b1, k1, f1⟩) | (go_at_call 130; refine (HS.out fv w1 b1 k1).mono ?_; rintro e w2 ⟨rfl, gv2, h2, b2, k2, f2⟩; have e2 : w2.cell? ⟨kb, 2, none⟩ = some (.pointer (some ⟨wb, 0, none⟩)) := h2.cell 2; have e3 := h2.frozen 2))
  all_goals
    go_wp2
    have hne := bs_ne_cn b2 h2 (by decide)
    exact bodyPost_end (results_none rfl _ _ _) rfl ⟨rfl, gv2, by simpa using h2.set 2 (.pointer none), b2.kept ((Kept.refl (fun k => k = kb) w2).set _ _ (fun _ => rfl)) (fun k hk e => by subst e; exact hne hk), k2.set _ _ (fun _ => .inl rfl), f2⟩
end Go.Proofs.YthpmcilljbmoiaaGreatDoor
namespace Go.Proofs.YthpmcilljbmoiaaGreatDoor
open Go.RowKit

set_option maxRecDepth 100000 in
set_option maxHeartbeats 400000 in
theorem begin_of (db kb : Nat) (wv gv cl : Value) (s inside : ByteArray) (L : Nat) (T : TypeId) (x : Value) (w : World) (hB : Cn w kb wv gv (.pointer none) cl) (hw : Bs w 5 wv s) (hsz : s.size = 2 + L) (hL : num (s.extract 0 2) = L) (h1 : 1 ≤ L) (h3 : L ≤ 2000) (hin : s.extract 2 (2 + L) = inside)
    (HP : Hid (∀ iv w1, Bs w1 5 iv inside → Calls Tryz.prog 129 #[iv] w1 fun r w' => r = .returned (.tuple #[.iface T x, .bool true]) ∧ Below w1.heap.size w1 w'))
    (HK : Hid (∀ w1, Calls Tryz.prog 132 #[.pointer (some ⟨db, 0, none⟩), .iface T x] w1 fun r w' => r = .returned (.pointer (some ⟨w1.heap.size, 0, none⟩)) ∧ Wk w' w1.heap.size (.iface T x) 0 (.slice none 0 0) ∧ Below w1.heap.size w1 w')) :
    Calls Tryz.prog 91 #[.pointer (some ⟨db, 0, none⟩), .pointer (some ⟨kb, 0, none⟩)] w
      fun r w' => r = .returned (.int .i64 1) ∧ ∃ wv' wb, Cn w' kb wv' gv (.pointer (some ⟨wb, 0, none⟩)) cl ∧ Bs w' 5 wv' ⟨#[]⟩ ∧ Wk w' wb (.iface T x) 0 (.slice none 0 0) ∧ w.heap.size ≤ wb ∧ Kept (fun k => k = kb) w w' ∧ wv'.ownBlock = wv.ownBlock := by
  have HC := cut_in kb wv gv (.pointer none) cl s L w hB hw (by omega) (by omega) hL h1 h3
  rw [hin, ← hsz, extract_none] at HC
  have HC := hide HC
  have hlt := hB.lt
  clear hw hL hin hsz h1 h3
  go_enter Tryz.func91, Tryz.ntmps91
  go_wp2_with (first | (go_at_call 128; refine HC.out.mono ?_; rintro e w1 ⟨iv, wv1, rfl, hB1, b1, i1, k1, o1, o2⟩) | (go_at_call 129; refine (HP.out iv w1 i1).mono ?_; rintro e w2 ⟨rfl, k2⟩) | (go_at_call 132; refine (HK.out w2).mono ?_; rintro e w3 ⟨rfl, hW3, k3⟩; have hB3 := (hB1.below k2 hB1.lt).below k3 (Nat.lt_of_lt_of_le hB1.lt k2.size); have e2 : w3.cell? ⟨kb, 2, none⟩ = some (.pointer none) := hB3.cell 2; have e3 := hB3.frozen 2))
  go_ret
  have hK : Kept (fun k => k = kb) w3 (w3.setCell ⟨kb, 2, none⟩ (.pointer (some ⟨w2.heap.size, 0, none⟩))) := (Kept.refl _ _).set _ _ (fun _ => rfl)
  have b3 := (b1.below k2).below k3
  have hne := bs_ne_cn b3 hB3 (by decide)
  refine ⟨rfl, wv1, w2.heap.size, by simpa using hB3.set 2 (.pointer (some ⟨w2.heap.size, 0, none⟩)), b3.kept hK (fun k hk e => by subst e; exact hne hk), hW3.kept hK (hW3.ne hB3 (by decide)), Nat.le_trans k1.size k2.size, ((k1.below k2).below k3).trans hK, o1⟩

set_option maxRecDepth 100000 in
theorem items_one (w : World) : Calls Tryz.prog 257 #[.agg #[]] w fun r w' => r = .returned (.int .i64 1) ∧ Below w.heap.size w w' := by
  go_enter Tryz.func257, Tryz.ntmps257
  go_wp2
  go_ret
  exact ⟨rfl, Below.alloc (Below.refl _ _) (Nat.le_refl _) _⟩

/-- no request is under way: a step is a beginning -/
theorem step_begin (db kb : Nat) (wv gv cl : Value) (w : World) (R : Ending → World → Prop) (hB : Cn w kb wv gv (.pointer none) cl) (HB : Hid (Calls Tryz.prog 91 #[.pointer (some ⟨db, 0, none⟩), .pointer (some ⟨kb, 0, none⟩)] w fun r w' => ∃ k : Int, r = .returned (.int .i64 k) ∧ R r w')) :
    Calls Tryz.prog 49 #[.pointer (some ⟨db, 0, none⟩), .pointer (some ⟨kb, 0, none⟩)] w R := by
  have e2 : w.cell? ⟨kb, 2, none⟩ = some (.pointer none) := hB.cell 2
  go_enter Tryz.func49, Tryz.ntmps49
  go_wp2_with (go_at_call 91; refine HB.out.mono ?_; rintro e w1 ⟨k, rfl, hR⟩)
  exact hR
set_option maxRecDepth 100000 in
set_option maxHeartbeats 1000000 in
/-- an item is done -/
theorem step_item (db kb wb : Nat) (T : TypeId) (x : Value) (wv gv cl bv : Value) (w : World) (R : Ending → World → Prop)
    (hm : ∀ w, (method 446 T x "Items").run Tryz.prog w = .ok (257, .agg #[]) w)
    (hB : Cn w kb wv gv (.pointer (some ⟨wb, 0, none⟩)) cl) (hW : Wk w wb (.iface T x) 0 bv)
    (HD : Hid (∀ w1, Below w.heap.size w w1 → Calls Tryz.prog 92 #[.pointer (some ⟨db, 0, none⟩), .pointer (some ⟨wb, 0, none⟩)] w1 fun r w' => r = .returned (.tuple #[]) ∧ R (.returned (.int .i64 2)) w')) :
    Calls Tryz.prog 49 #[.pointer (some ⟨db, 0, none⟩), .pointer (some ⟨kb, 0, none⟩)] w R := by
  have e2 : w.cell? ⟨kb, 2, none⟩ = some (.pointer (some ⟨wb, 0, none⟩)) := hB.cell 2
  have d0 : w.cell? ⟨wb, 0, none⟩ = some (.iface T x) := hW.cell 0
  have d2 : w.cell? ⟨wb, 2, none⟩ = some (.int .i64 0) := hW.cell 2
  have HI : Hid (∀ w0, Below w.heap.size w w0 → Calls Tryz.prog 257 #[.agg #[]] w0 fun r w' => r = .returned (.int .i64 1) ∧ Below w.heap.size w w' ∧ w'.cell? ⟨wb, 2, none⟩ = some (.int .i64 0)) := fun w0 h0 => by
    refine (items_one w0).mono ?_
    rintro e w' ⟨h1, h2⟩
    have h3 := h0.trans (h2.mono h0.size)
    exact ⟨h1, h3, by rw [h3.cell hW.lt]; exact d2⟩
  go_enter Tryz.func49, Tryz.ntmps49
  go_wp2
  go_region_with (go_at_call 257; refine (HI.out (World.drew w) (Below.refl _ _).drew).mono ?_; rintro e w1 ⟨rfl, k1, g1⟩)
  all_goals
    go_wp2_with (go_at_call 92; refine (HD.out w1 k1).mono ?_; rintro e w2 ⟨rfl, hR⟩)
    exact hR
set_option maxRecDepth 100000 in
set_option maxHeartbeats 1000000 in
/-- the reply goes out -/
theorem step_reply (db kb wb : Nat) (T : TypeId) (x : Value) (wv gv cl bv : Value) (w : World) (R : Ending → World → Prop)
    (hm : ∀ w, (method 446 T x "Items").run Tryz.prog w = .ok (257, .agg #[]) w)
    (hB : Cn w kb wv gv (.pointer (some ⟨wb, 0, none⟩)) cl) (hW : Wk w wb (.iface T x) 1 bv)
    (HD : Hid (∀ w1, Below w.heap.size w w1 → Calls Tryz.prog 93 #[.pointer (some ⟨db, 0, none⟩), .pointer (some ⟨kb, 0, none⟩)] w1 fun r w' => r = .returned (.tuple #[]) ∧ R (.returned (.int .i64 3)) w')) :
    Calls Tryz.prog 49 #[.pointer (some ⟨db, 0, none⟩), .pointer (some ⟨kb, 0, none⟩)] w R := by
  have e2 : w.cell? ⟨kb, 2, none⟩ = some (.pointer (some ⟨wb, 0, none⟩)) := hB.cell 2
  have d0 : w.cell? ⟨wb, 0, none⟩ = some (.iface T x) := hW.cell 0
  have d2 : w.cell? ⟨wb, 2, none⟩ = some (.int .i64 1) := hW.cell 2
  have HI : Hid (∀ w0, Below w.heap.size w w0 → Calls Tryz.prog 257 #[.agg #[]] w0 fun r w' => r = .returned (.int .i64 1) ∧ Below w.heap.size w w' ∧ w'.cell? ⟨wb, 2, none⟩ = some (.int .i64 1)) := fun w0 h0 => by
    refine (items_one w0).mono ?_
    rintro e w' ⟨h1, h2⟩
    have h3 := h0.trans (h2.mono h0.size)
    exact ⟨h1, h3, by rw [h3.cell hW.lt]; exact d2⟩
  go_enter Tryz.func49, Tryz.ntmps49
  go_wp2
  go_region_with (go_at_call 257; refine (HI.out (World.drew w) (Below.refl _ _).drew).mono ?_; rintro e w1 ⟨rfl, k1, g1⟩)
  all_goals
    go_wp2_with (go_at_call 93; refine (HD.out w1 k1).mono ?_; rintro e w2 ⟨rfl, hR⟩)
    exact hR
end Go.Proofs.YthpmcilljbmoiaaGreatDoor
namespace Go.Proofs.YthpmcilljbmoiaaGreatDoor
open Go.RowKit

/-- a depot's own cells -/
abbrev dep (shv cvv av : Value) : Array Value := #[shv, cvv, .slice none 0 0, .int .i64 0, av, .int .i64 0, .int .i64 0]
abbrev Cl (w : World) (cb db : Nat) (id : Int) : Prop := Blk w cb 35 #[.pointer (some ⟨db, 0, none⟩), .int .i64 0, .int .i64 id]
/-- a client of a depot of one shard, with one connection: all that lies in memory -/
structure Sta (base : Nat) (w : World) (cb db kb sb : Nat) (shv cvv av wv gv wk : Value) (id : Int) (acts : List (ByteArray × ByteArray)) (s going : ByteArray) : Prop where
  bc : base ≤ cb
  bd : base ≤ db
  bk : base ≤ kb
  cl : Cl w cb db id
  de : Blk w db 114 (dep shv cvv av)
  sh : Rw w 115 1 shv 1 [.pointer (some ⟨sb, 0, none⟩)]
  sd : Blk w sb 123 #[.slice none 0 0, .int .i64 1, .int .i64 0, .int .i64 0]
  cv : Rw w 98 1 cvv 1 [.pointer (some ⟨kb, 0, none⟩)]
  cn : Cn w kb wv gv wk (.bool false)
  ac : Ac w av acts
  wa : Bs w 5 wv s
  go : Bs w 5 gv going
  fa : Fresh base av
  fw : Fresh base wv
  fg : Fresh base gv
  ap : ∀ k, wv.ownBlock = some k → gv.ownBlock ≠ some k

variable {base : Nat} {w w' : World} {cb db kb sb : Nat} {shv cvv av wv gv wk : Value} {id : Int} {acts : List (ByteArray × ByteArray)} {s going : ByteArray}

theorem Sta.below (h : Sta base w cb db kb sb shv cvv av wv gv wk id acts s going) (hk : Below w.heap.size w w') : Sta base w' cb db kb sb shv cvv av wv gv wk id acts s going :=
  ⟨h.bc, h.bd, h.bk, h.cl.below hk h.cl.lt, h.de.below hk h.de.lt, h.sh.below hk, h.sd.below hk h.sd.lt, h.cv.below hk, h.cn.below hk h.cn.lt, h.ac.below hk, h.wa.below hk, h.go.below hk, h.fa, h.fw, h.fg, h.ap⟩
theorem Sta.drew (h : Sta base w cb db kb sb shv cvv av wv gv wk id acts s going) : Sta base w.drew cb db kb sb shv cvv av wv gv wk id acts s going :=
  ⟨h.bc, h.bd, h.bk, h.cl, h.de, h.sh, h.sd, h.cv, h.cn, h.ac, h.wa, h.go, h.fa, h.fw, h.fg, h.ap⟩
/-- only the connection and what came in, what goes out have turned -/
theorem Sta.conn {S : Nat → Prop} {wv' gv' wk' : Value} {s' going' : ByteArray} (h : Sta base w cb db kb sb shv cvv av wv gv wk id acts s going) (hk : Kept S w w')
    (hS : ∀ k, S k → k = kb ∨ wv.ownBlock = some k ∨ gv.ownBlock = some k) (hc : Cn w' kb wv' gv' wk' (.bool false)) (hw : Bs w' 5 wv' s') (hg : Bs w' 5 gv' going') (fw : Fresh base wv') (fg : Fresh base gv') (ap : ∀ k, wv'.ownBlock = some k → gv'.ownBlock ≠ some k) :
    Sta base w' cb db kb sb shv cvv av wv' gv' wk' id acts s' going' := by
  have n1 : ∀ {b t cs}, Blk w b t cs → 5 ≠ t → 133 ≠ t → ¬ S b := fun hb h1 h2 e => by
    rcases hS _ e with rfl | e | e
    · exact h.cn.ne hb h2 rfl
    · exact Rw.ne h.wa hb h1 e
    · exact Rw.ne h.go hb h1 e
  have n2 : ∀ {e sz v n xs}, Rw w e sz v n xs → 5 ≠ e → 133 ≠ e → ∀ k, v.ownBlock = some k → ¬ S k := fun hr h1 h2 k hk e => by
    rcases hS _ e with rfl | e | e
    · exact Rw.ne hr h.cn (Ne.symm h2) hk
    · exact Rw.ne2 h.wa hr h1 e hk
    · exact Rw.ne2 h.go hr h1 e hk
  exact ⟨h.bc, h.bd, h.bk, h.cl.kept hk (n1 h.cl (by decide) (by decide)), h.de.kept hk (n1 h.de (by decide) (by decide)), h.sh.kept hk (n2 h.sh (by decide) (by decide)), h.sd.kept hk (n1 h.sd (by decide) (by decide)), h.cv.kept hk (n2 h.cv (by decide) (by decide)), hc, h.ac.kept hk (n2 h.ac (by decide) (by decide)), hw, hg, h.fa, fw, fg, ap⟩
theorem Sta.lives (h : Sta base w cb db kb sb shv cvv av wv gv wk id acts s going) : base ≤ w.heap.size := Nat.le_trans h.bc (Nat.le_of_lt h.cl.lt)
/-- nothing below base has turned -/
theorem Sta.old {S : Nat → Prop} (h : Sta base w cb db kb sb shv cvv av wv gv wk id acts s going) (hk : Kept S w w') (hS : ∀ k, S k → base ≤ k) : Below base w w' :=
  hk.toBelow (fun k hkb e => by have := hS k e; omega) h.lives

theorem Rw.one {w : World} {e : TypeId} {v u : Value} (h : Rw w e 1 v 1 [u]) : ∃ b off cap, v = .slice (some ⟨b, off, none⟩) 1 cap ∧ w.cell? ⟨b, off, none⟩ = some u := by
  obtain ⟨_, h, _⟩ | ⟨b, off, cap, cur, rfl, hb, h1, h2, h3, h4, h5⟩ := h
  · omega
  · exact ⟨b, off, cap, rfl, by rw [hb.cell]; simpa using h5 0 (by omega)⟩

set_option maxRecDepth 100000 in
set_option maxHeartbeats 400000 in
theorem anyConn_sta (h : Sta base w cb db kb sb shv cvv av wv gv wk id acts s going) :
    Calls Tryz.prog 48 #[.pointer (some ⟨db, 0, none⟩), .int .i64 0] w
      fun r w' => r = .returned (.tuple #[.pointer (some ⟨kb, 0, none⟩), .int .i64 0]) ∧ w = w' := by
  obtain ⟨b, off, cap, rfl, hu⟩ := Rw.one h.cv
  have c1 : w.cell? ⟨db, 1, none⟩ = some (.slice (some ⟨b, off, none⟩) 1 cap) := h.de.cell 1
  clear h
  go_enter Tryz.func48, Tryz.ntmps48
  go_wp2
  go_ret2
  exact ⟨rfl, rfl⟩
set_option maxRecDepth 100000 in
theorem closed_sta (h : Sta base w cb db kb sb shv cvv av wv gv wk id acts s going) :
    Calls Tryz.prog 94 #[.pointer (some ⟨kb, 0, none⟩)] w fun r w' => r = .returned (.bool false) ∧ w = w' := by
  have c3 : w.cell? ⟨kb, 3, none⟩ = some (.bool false) := h.cn.cell 3
  go_enter Tryz.func94, Tryz.ntmps94
  go_wp2
  go_ret
  exact ⟨rfl, rfl⟩
set_option maxRecDepth 100000 in
set_option maxHeartbeats 400000 in
theorem openConn_sta (h : Sta base w cb db kb sb shv cvv av wv gv wk id acts s going) :
    Calls Tryz.prog 54 #[.pointer (some ⟨db, 0, none⟩), .int .i64 0] w
      fun r w' => r = .returned (.tuple #[.pointer (some ⟨kb, 0, none⟩), .int .i64 0]) ∧ w = w' := by
  have HA := hide (anyConn_sta h)
  have HC := hide (closed_sta h)
  clear h
  go_enter Tryz.func54, Tryz.ntmps54
  go_wp2_with (first | (go_at_call 48; refine HA.out.mono ?_; rintro e w1 ⟨rfl, rfl⟩) | (go_at_call 94; refine HC.out.mono ?_; rintro e w1 ⟨rfl, rfl⟩))
  go_ret2
  exact ⟨rfl, rfl⟩
set_option maxRecDepth 100000 in
set_option maxHeartbeats 400000 in
theorem feed_sta (t : ByteArray) (h : Sta base w cb db kb sb shv cvv av wv gv wk id acts s going) (ht : s.size + t.size ≤ 6000) :
    Calls Tryz.prog 23 #[.pointer (some ⟨db, 0, none⟩), .int .i64 0, .string t] w
      fun r w' => r = .returned (.int .i64 0) ∧ Below base w w' ∧ ∃ wv', Sta base w' cb db kb sb shv cvv av wv' gv wk id acts (s ++ t) going := by
  have HO := hide (openConn_sta h)
  have HF := hide (feed_in kb wv gv wk (.bool false) s t w h.cn h.wa ht)
  go_enter Tryz.func23, Tryz.ntmps23
  go_wp2_with (first | (go_at_call 54; refine HO.out.mono ?_; rintro e w1 ⟨rfl, rfl⟩) | (go_at_call 58; refine HF.out.mono ?_; rintro e w1 ⟨rfl, wv1, c1, b1, k1, o1⟩))
  go_ret
  have hgo := h.go.kept k1 (fun k hk e => by
    rcases e with rfl | e
    · exact bs_ne_cn h.go h.cn (by decide) hk
    · exact h.ap k e hk)
  refine ⟨rfl, h.old k1 (fun k e => by
    rcases e with rfl | e
    · exact h.bk
    · exact h.fw k e), wv1, h.conn k1 (fun k e => by
    rcases e with rfl | e
    · exact .inl rfl
    · exact .inr (.inl e)) c1 b1 hgo (h.fw.home o1 h.lives) h.fg (fun k hk e => ?_)⟩
  have := Rw.lt h.go e
  exact h.ap k (o1.old k this hk) e
set_option maxRecDepth 100000 in
set_option maxHeartbeats 400000 in
theorem take_sta (m : Nat) (h : Sta base w cb db kb sb shv cvv av wv gv wk id acts s going) (hg : going.size ≤ 1000000) (hm : going.size < m) (hm2 : m < 9000000000000) :
    Calls Tryz.prog 22 #[.pointer (some ⟨db, 0, none⟩), .int .i64 0, .int .i64 m] w
      fun r w' => r = .returned (.tuple #[.string going, .int .i64 0]) ∧ Below base w w' ∧ ∃ gv', Sta base w' cb db kb sb shv cvv av wv gv' wk id acts s ⟨#[]⟩ := by
  have HO := hide (anyConn_sta h)
  have HF := hide (take_out kb wv gv wk (.bool false) going m w h.cn h.go hg hm hm2)
  go_enter Tryz.func22, Tryz.ntmps22
  go_wp2_with (first | (go_at_call 48; refine HO.out.mono ?_; rintro e w1 ⟨rfl, rfl⟩) | (go_at_call 57; refine HF.out.mono ?_; rintro e w1 ⟨rfl, gv1, c1, b1, k1, o1⟩))
  go_ret2
  have hwa := h.wa.kept k1 (fun k hk e => by subst e; exact bs_ne_cn h.wa h.cn (by decide) hk)
  refine ⟨rfl, h.old k1 (fun k e => by subst e; exact h.bk), gv1, h.conn k1 (fun k e => .inl e) c1 hwa b1 h.fw (fun k hk => h.fg k (o1 ▸ hk)) (fun k hk e => h.ap k hk (o1 ▸ e))⟩
end Go.Proofs.YthpmcilljbmoiaaGreatDoor
