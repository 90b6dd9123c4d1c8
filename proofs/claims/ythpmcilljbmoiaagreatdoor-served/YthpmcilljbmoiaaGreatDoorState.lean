import Derived.Test.YthpmcilljbmoiaaGreatDoorBegun
namespace Go.Proofs.YthpmcilljbmoiaaGreatDoor
open Go.RowKit

/-- a depot's own cells -/
abbrev dep (shv cvv av : Value) : Array Value := #[shv, cvv, .slice none 0 0, .int .i64 0, av, .int .i64 0, .int .i64 0]
abbrev Cl (w : World) (cb db : Nat) (id : Int) : Prop := Blk w cb 35 #[.pointer (some ⟨db, 0, none⟩), .int .i64 0, .int .i64 id]
/-- a client of a depot of one shard, with one connection: all that lies in memory -/
structure Sta (base : Nat) (w : World) (cb db kb sb : Nat) (shv cvv av wv gv wk : Value) (id : Int) (acts : List (ByteArray × ByteArray)) (s going : ByteArray) : Prop where
  bc : base ≤ cb
  bd : base ≤ db
  bk : base ≤ kb
  cl : Cl w cb db id
  de : Blk w db 114 (dep shv cvv av)
  sh : Rw w 115 1 shv 1 [.pointer (some ⟨sb, 0, none⟩)]
  sd : Blk w sb 123 #[.slice none 0 0, .int .i64 1, .int .i64 0, .int .i64 0]
  cv : Rw w 98 1 cvv 1 [.pointer (some ⟨kb, 0, none⟩)]
  cn : Cn w kb wv gv wk (.bool false)
  ac : Ac w av acts
  wa : Bs w 5 wv s
  go : Bs w 5 gv going
  fa : Fresh base av
  fw : Fresh base wv
  fg : Fresh base gv
  ap : ∀ k, wv.ownBlock = some k → gv.ownBlock ≠ some k

variable {base : Nat} {w w' : World} {cb db kb sb : Nat} {shv cvv av wv gv wk : Value} {id : Int} {acts : List (ByteArray × ByteArray)} {s going : ByteArray}

theorem Sta.below (h : Sta base w cb db kb sb shv cvv av wv gv wk id acts s going) (hk : Below w.heap.size w w') : Sta base w' cb db kb sb shv cvv av wv gv wk id acts s going :=
  ⟨h.bc, h.bd, h.bk, h.cl.below hk h.cl.lt, h.de.below hk h.de.lt, h.sh.below hk, h.sd.below hk h.sd.lt, h.cv.below hk, h.cn.below hk h.cn.lt, h.ac.below hk, h.wa.below hk, h.go.below hk, h.fa, h.fw, h.fg, h.ap⟩
theorem Sta.drew (h : Sta base w cb db kb sb shv cvv av wv gv wk id acts s going) : Sta base w.drew cb db kb sb shv cvv av wv gv wk id acts s going :=
  ⟨h.bc, h.bd, h.bk, h.cl, h.de, h.sh, h.sd, h.cv, h.cn, h.ac, h.wa, h.go, h.fa, h.fw, h.fg, h.ap⟩
/-- only the connection and what came in, what goes out have turned -/
theorem Sta.conn {S : Nat → Prop} {wv' gv' wk' : Value} {s' going' : ByteArray} (h : Sta base w cb db kb sb shv cvv av wv gv wk id acts s going) (hk : Kept S w w')
    (hS : ∀ k, S k → k = kb ∨ wv.ownBlock = some k ∨ gv.ownBlock = some k) (hc : Cn w' kb wv' gv' wk' (.bool false)) (hw : Bs w' 5 wv' s') (hg : Bs w' 5 gv' going') (fw : Fresh base wv') (fg : Fresh base gv') (ap : ∀ k, wv'.ownBlock = some k → gv'.ownBlock ≠ some k) :
    Sta base w' cb db kb sb shv cvv av wv' gv' wk' id acts s' going' := by
  have n1 : ∀ {b t cs}, Blk w b t cs → 5 ≠ t → 133 ≠ t → ¬ S b := fun hb h1 h2 e => by
    rcases hS _ e with rfl | e | e
    · exact h.cn.ne hb h2 rfl
    · exact Rw.ne h.wa hb h1 e
    · exact Rw.ne h.go hb h1 e
  have n2 : ∀ {e sz v n xs}, Rw w e sz v n xs → 5 ≠ e → 133 ≠ e → ∀ k, v.ownBlock = some k → ¬ S k := fun hr h1 h2 k hk e => by
    rcases hS _ e with rfl | e | e
    · exact Rw.ne hr h.cn (Ne.symm h2) hk
    · exact Rw.ne2 h.wa hr h1 e hk
    · exact Rw.ne2 h.go hr h1 e hk
  exact ⟨h.bc, h.bd, h.bk, h.cl.kept hk (n1 h.cl (by decide) (by decide)), h.de.kept hk (n1 h.de (by decide) (by decide)), h.sh.kept hk (n2 h.sh (by decide) (by decide)), h.sd.kept hk (n1 h.sd (by decide) (by decide)), h.cv.kept hk (n2 h.cv (by decide) (by decide)), hc, h.ac.kept hk (n2 h.ac (by decide) (by decide)), hw, hg, h.fa, fw, fg, ap⟩
theorem Sta.lives (h : Sta base w cb db kb sb shv cvv av wv gv wk id acts s going) : base ≤ w.heap.size := Nat.le_trans h.bc (Nat.le_of_lt h.cl.lt)
/-- nothing below base has turned -/
theorem Sta.old {S : Nat → Prop} (h : Sta base w cb db kb sb shv cvv av wv gv wk id acts s going) (hk : Kept S w w') (hS : ∀ k, S k → base ≤ k) : Below base w w' :=
  hk.toBelow (fun k hkb e => by have := hS k e; omega) h.lives

theorem Rw.one {w : World} {e : TypeId} {v u : Value} (h : Rw w e 1 v 1 [u]) : ∃ b off cap, v = .slice (some ⟨b, off, none⟩) 1 cap ∧ w.cell? ⟨b, off, none⟩ = some u := by
  obtain ⟨_, h, _⟩ | ⟨b, off, cap, cur, rfl, hb, h1, h2, h3, h4, h5⟩ := h
  · omega
  · exact ⟨b, off, cap, rfl, by rw [hb.cell]; simpa using h5 0 (by omega)⟩

set_option maxRecDepth 100000 in
set_option maxHeartbeats 400000 in
theorem anyConn_sta (h : Sta base w cb db kb sb shv cvv av wv gv wk id acts s going) :
    Calls Tryz.prog 48 #[.pointer (some ⟨db, 0, none⟩), .int .i64 0] w
      fun r w' => r = .returned (.tuple #[.pointer (some ⟨kb, 0, none⟩), .int .i64 0]) ∧ w = w' := by
  obtain ⟨b, off, cap, rfl, hu⟩ := Rw.one h.cv
  have c1 : w.cell? ⟨db, 1, none⟩ = some (.slice (some ⟨b, off, none⟩) 1 cap) := h.de.cell 1
  clear h
  go_enter Tryz.func48, Tryz.ntmps48
  go_wp2
  go_ret2
  exact ⟨rfl, rfl⟩
set_option maxRecDepth 100000 in
theorem closed_sta (h : Sta base w cb db kb sb shv cvv av wv gv wk id acts s going) :
    Calls Tryz.prog 94 #[.pointer (some ⟨kb, 0, none⟩)] w fun r w' => r = .returned (.bool false) ∧ w = w' := by
  have c3 : w.cell? ⟨kb, 3, none⟩ = some (.bool false) := h.cn.cell 3
  go_enter Tryz.func94, Tryz.ntmps94
  go_wp2
  go_ret
  exact ⟨rfl, rfl⟩
set_option maxRecDepth 100000 in
set_option maxHeartbeats 400000 in
theorem openConn_sta (h : Sta base w cb db kb sb shv cvv av wv gv wk id acts s going) :
    Calls Tryz.prog 54 #[.pointer (some ⟨db, 0, none⟩), .int .i64 0] w
      fun r w' => r = .returned (.tuple #[.pointer (some ⟨kb, 0, none⟩), .int .i64 0]) ∧ w = w' := by
  have HA := hide (anyConn_sta h)
  have HC := hide (closed_sta h)
  clear h
  go_enter Tryz.func54, Tryz.ntmps54
  go_wp2_with (first | (go_at_call 48; refine HA.out.mono ?_; rintro e w1 ⟨rfl, rfl⟩) | (go_at_call 94; refine HC.out.mono ?_; rintro e w1 ⟨rfl, rfl⟩))
  go_ret2
  exact ⟨rfl, rfl⟩
set_option maxRecDepth 100000 in
set_option maxHeartbeats 400000 in
theorem feed_sta (t : ByteArray) (h : Sta base w cb db kb sb shv cvv av wv gv wk id acts s going) (ht : s.size + t.size ≤ 6000) :
    Calls Tryz.prog 23 #[.pointer (some ⟨db, 0, none⟩), .int .i64 0, .string t] w
      fun r w' => r = .returned (.int .i64 0) ∧ Below base w w' ∧ ∃ wv', Sta base w' cb db kb sb shv cvv av wv' gv wk id acts (s ++ t) going := by
  have HO := hide (openConn_sta h)
  have HF := hide (feed_in kb wv gv wk (.bool false) s t w h.cn h.wa ht)
  go_enter Tryz.func23, Tryz.ntmps23
  go_wp2_with (first | (go_at_call 54; refine HO.out.mono ?_; rintro e w1 ⟨rfl, rfl⟩) | (go_at_call 58; refine HF.out.mono ?_; rintro e w1 ⟨rfl, wv1, c1, b1, k1, o1⟩))
  go_ret
  have hgo := h.go.kept k1 (fun k hk e => by
    rcases e with rfl | e
    · exact bs_ne_cn h.go h.cn (by decide) hk
    · exact h.ap k e hk)
  refine ⟨rfl, h.old k1 (fun k e => by
    rcases e with rfl | e
    · exact h.bk
    · exact h.fw k e), wv1, h.conn k1 (fun k e => by
    rcases e with rfl | e
    · exact .inl rfl
    · exact .inr (.inl e)) c1 b1 hgo (h.fw.home o1 h.lives) h.fg (fun k hk e => ?_)⟩
  have := Rw.lt h.go e
  exact h.ap k (o1.old k this hk) e
set_option maxRecDepth 100000 in
set_option maxHeartbeats 400000 in
theorem take_sta (m : Nat) (h : Sta base w cb db kb sb shv cvv av wv gv wk id acts s going) (hg : going.size ≤ 1000000) (hm : going.size < m) (hm2 : m < 9000000000000) :
    Calls Tryz.prog 22 #[.pointer (some ⟨db, 0, none⟩), .int .i64 0, .int .i64 m] w
      fun r w' => r = .returned (.tuple #[.string going, .int .i64 0]) ∧ Below base w w' ∧ ∃ gv', Sta base w' cb db kb sb shv cvv av wv gv' wk id acts s ⟨#[]⟩ := by
  have HO := hide (anyConn_sta h)
  have HF := hide (take_out kb wv gv wk (.bool false) going m w h.cn h.go hg hm hm2)
  go_enter Tryz.func22, Tryz.ntmps22
  go_wp2_with (first | (go_at_call 48; refine HO.out.mono ?_; rintro e w1 ⟨rfl, rfl⟩) | (go_at_call 57; refine HF.out.mono ?_; rintro e w1 ⟨rfl, gv1, c1, b1, k1, o1⟩))
  go_ret2
  have hwa := h.wa.kept k1 (fun k hk e => by subst e; exact bs_ne_cn h.wa h.cn (by decide) hk)
  refine ⟨rfl, h.old k1 (fun k e => by subst e; exact h.bk), gv1, h.conn k1 (fun k e => .inl e) c1 hwa b1 h.fw (fun k hk => h.fg k (o1 ▸ hk)) (fun k hk e => h.ap k hk (o1 ▸ e))⟩
end Go.Proofs.YthpmcilljbmoiaaGreatDoor
