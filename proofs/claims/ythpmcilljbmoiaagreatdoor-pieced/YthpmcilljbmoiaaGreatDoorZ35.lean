import Derived.Test.YthpmcilljbmoiaaGreatDoorZ34
import Derived.Test.YthpmcilljbmoiaaGreatDoorZ33
import Derived.Test.YthpmcilljbmoiaaGreatDoorZ09
import Derived.Test.YthpmcilljbmoiaaGreatDoorZ12
import Derived.Test.YthpmcilljbmoiaaGreatDoorZ18
namespace Go.Proofs.YthpmcilljbmoiaaGreatDoor
open Go.RowKit

section
variable {K : List Nat} {w w' : World} {F : Nat → Prop} {db kb m t i : Nat} {s : Pst} {p : ByteArray}
set_option maxRecDepth 100000 in
theorem anyConn_mem (h : MemX K w F db kb m t s) :
    Calls Tryz.prog 48 #[.pointer (some ⟨db, 0, none⟩), .int .i64 0] w
      fun r w' => r = .returned (.tuple #[.pointer (some ⟨kb, 0, none⟩), .int .i64 0]) ∧ w = w' := by
  obtain ⟨c, hc⟩ : ∃ c : Nat, c = 0 := ⟨0, rfl⟩
  obtain ⟨n, b, off, cap, hn, c1, c2, _⟩ := h.slice
  have c2 : w.cell? ⟨b, off + c, none⟩ = some (.pointer (some ⟨kb, 0, none⟩)) := by rw [hc]; exact c2
  have h1 : ¬ ((c : Int) < 0) := by omega
  have h2 : ¬ ((n : Int) ≤ (c : Int)) := by omega
  have h3 : (c : Int) < (n : Int) := by omega
  have h4 : (0 : Int) ≤ (c : Int) := by omega
  have key : Calls Tryz.prog 48 #[.pointer (some ⟨db, 0, none⟩), .int .i64 (c : Int)] w
      fun r w' => r = .returned (.tuple #[.pointer (some ⟨kb, 0, none⟩), .int .i64 0]) ∧ w = w' := by
    clear h
    go_enter Tryz.func48, Tryz.ntmps48
    go_wp2
    go_ret2
    exact ⟨rfl, rfl⟩
  rw [hc] at key
  exact key
set_option maxRecDepth 100000 in
theorem closed_any (kb : Nat) (wv gv wk : Value) (cl : Bool) (h : Cn w kb wv gv wk (.bool cl)) :
    Calls Tryz.prog 94 #[.pointer (some ⟨kb, 0, none⟩)] w fun r w' => r = .returned (.bool cl) ∧ w = w' := by
  have c3 : w.cell? ⟨kb, 3, none⟩ = some (.bool cl) := h.cell 3
  go_enter Tryz.func94, Tryz.ntmps94
  go_wp2
  go_ret
  exact ⟨rfl, rfl⟩
theorem MemX.cn (h : MemX K w F db kb m t s) : ∃ wv gv wk, Cn w kb wv gv wk (.bool s.C.closed) := by
  obtain ⟨G, H, shv, cv, lv, av, sh, bvs, lbs, nvs, wv, gv, wk, h⟩ := h
  exact ⟨wv, gv, wk, h.con.blk⟩
set_option maxRecDepth 100000 in
set_option maxHeartbeats 400000 in
theorem openConn_mem (h : MemX K w F db kb m t s) (hcl : s.C.closed = false) :
    Calls Tryz.prog 54 #[.pointer (some ⟨db, 0, none⟩), .int .i64 0] w
      fun r w' => r = .returned (.tuple #[.pointer (some ⟨kb, 0, none⟩), .int .i64 0]) ∧ w = w' := by
  obtain ⟨wv, gv, wk, hcn⟩ := h.cn
  have HA := hide (anyConn_mem h)
  rw [hcl] at hcn
  have HC := hide (closed_any kb wv gv wk _ hcn)
  clear h hcn
  go_enter Tryz.func54, Tryz.ntmps54
  go_wp2_with (first | (go_at_call 48; refine HA.out.mono ?_; rintro e w1 ⟨rfl, rfl⟩) | (go_at_call 94; refine HC.out.mono ?_; rintro e w1 ⟨rfl, rfl⟩))
  go_ret2
  exact ⟨rfl, rfl⟩
set_option maxRecDepth 100000 in
set_option maxHeartbeats 400000 in
theorem openConn_shut (h : MemX K w F db kb m t s) (hcl : s.C.closed = true) :
    Calls Tryz.prog 54 #[.pointer (some ⟨db, 0, none⟩), .int .i64 0] w
      fun r w' => r = .returned (.tuple #[.pointer none, .int .i64 3]) ∧ w = w' := by
  obtain ⟨wv, gv, wk, hcn⟩ := h.cn
  have HA := hide (anyConn_mem h)
  rw [hcl] at hcn
  have HC := hide (closed_any kb wv gv wk _ hcn)
  clear h hcn
  go_enter Tryz.func54, Tryz.ntmps54
  go_wp2_with (first | (go_at_call 48; refine HA.out.mono ?_; rintro e w1 ⟨rfl, rfl⟩) | (go_at_call 94; refine HC.out.mono ?_; rintro e w1 ⟨rfl, rfl⟩))
  go_ret2
  exact ⟨rfl, rfl⟩
/-- a connection's text has turned -/
theorem MemX.con (h : MemX K w F db kb m t s) : ∃ wv gv wk, Cn w kb wv gv wk (.bool s.C.closed) ∧ Bs w 5 wv s.C.wait ∧ Bs w 5 gv s.C.going ∧
    (∀ w' wv' wt, Cn w' kb wv' gv wk (.bool s.C.closed) → Bs w' 5 wv' wt → Kept (fun k => k = kb ∨ wv.ownBlock = some k) w w' → Home w wv wv' → MemX K w' (ext F w w') db kb m t ⟨s.D, { s.C with wait := wt }⟩ ∧ Kept F w w') ∧
    (∀ w' gv' go, Cn w' kb wv gv' wk (.bool s.C.closed) → Bs w' 5 gv' go → Kept (fun k => k = kb) w w' → gv'.ownBlock = gv.ownBlock → MemX K w' (ext F w w') db kb m t ⟨s.D, { s.C with going := go }⟩ ∧ Kept F w w') := by
  obtain ⟨G, H, shv, cv, lv, av, sh, bvs, lbs, nvs, wv, gv, wk, h⟩ := h
  have hc := h.con
  refine ⟨wv, gv, wk, hc.blk, hc.wt, hc.gg, fun w' wv' wt q1 q2 q3 q4 => ?_, fun w' gv' go q1 q2 q3 q4 => ?_⟩
  · have hoff : ∀ k, (k = kb ∨ wv.ownBlock = some k) → ¬ G k := by
      rintro k (rfl | e) g
      · exact h.gh _ g hc.inK
      · exact h.gh _ g (hc.inV k e)
    have hkF : Kept F w w' := q3.mono (fun k _ e => by
      rcases e with rfl | e
      · exact h.hf _ hc.inK
      · exact h.hf _ (hc.inV k e))
    have hsep : ∀ k, gv.ownBlock = some k → ¬ (k = kb ∨ wv.ownBlock = some k) := by
      rintro k e (rfl | e2)
      · exact bs_ne_cn hc.gg hc.blk (by decide) e
      · exact hc.ap k e2 e
    have hcur : CurX w' (fun k => H k ∨ wv'.ownBlock = some k) wv' gv wk (lpOf lbs s.D.n s.C.work) s.C.work := by
      have hc0 := hc.cur
      cases hw : s.C.work with
      | none => rw [hw] at hc0; exact hc0
      | some W =>
        rw [hw] at hc0
        obtain ⟨wb, v, bv, e, hW, hap⟩ := hc0
        have on : ∀ t, t ≠ 133 → t ≠ 5 → ∀ P, Onl w H (fun k => k = kb ∨ wv.ownBlock = some k) t P := fun t n1 n2 P => (Onl.blk hc.blk (Ne.symm n1)).or (Onl.own hc.wt (Ne.symm n2))
        refine ⟨wb, v, bv, e, ⟨hW.blk.onl q3 hW.inW (on _ (by decide) (by decide) _), (hW.rq.onl q3 (on _ (by decide) (by decide) _) (on _ (by decide) (by decide) _)).wider (fun k q => .inl q), hW.bod.kept q3 (fun k e e2 => ?_), .inl hW.inW, fun k q => .inl (hW.inB k q), hW.z⟩, fun k e => ⟨fun e2 => ?_, (hap k e).2⟩⟩
        · rcases e2 with rfl | e2
          · exact bs_ne_cn hW.bod hc.blk (by decide) e
          · exact (hap k e).1 e2
        · rcases q4 with q4 | ⟨k2, l2, q4⟩
          · rw [q4] at e2; exact (hap k e).1 e2
          · rw [q4] at e2; injection e2 with e2; subst e2
            have := Rw.lt hW.bod e
            omega
    refine ⟨h.next (H' := fun k => H k ∨ wv'.ownBlock = some k) (wv' := wv') (gv' := gv) (wk' := wk) hkF ((h.dep.off q3 (fun k g e => hoff k e g)).wider ext_in) ⟨q1, q2, hc.gg.kept q3 hsep, .inl hc.inK, fun k q => .inr q, fun k q => .inl (hc.inG k q), fun k e e2 => ?_, hcur⟩ ?_, hkF⟩
    · rcases q4 with q4 | ⟨k2, l2, q4⟩
      · rw [q4] at e; exact hc.ap k e e2
      · rw [q4] at e; injection e with e; subst e
        have := Rw.lt hc.gg e2
        omega
    · rintro k (q | q)
      · exact .inl q
      · rcases q4 with e | ⟨k2, l2, e⟩
        · rw [e] at q; exact .inl (hc.inV k q)
        · have hk2 := q
          rw [e] at q; injection q with q; subst q
          obtain ⟨cs, hb⟩ := Rw.blk q2 hk2
          exact .inr ⟨l2, hb.lt, _, _, hb, .inl (by decide)⟩
  · have hkF : Kept F w w' := q3.mono (fun k _ e => e ▸ h.hf _ hc.inK)
    have hcur : CurX w' H wv gv' wk (lpOf lbs s.D.n s.C.work) s.C.work := by
      have hc0 := hc.cur
      cases hw : s.C.work with
      | none => rw [hw] at hc0; exact hc0
      | some W =>
        rw [hw] at hc0
        obtain ⟨wb, v, bv, e, hW, hap⟩ := hc0
        have on : ∀ t, t ≠ 133 → ∀ P, Onl w H (fun k => k = kb) t P := fun t n1 P => Onl.blk hc.blk (Ne.symm n1)
        exact ⟨wb, v, bv, e, ⟨hW.blk.onl q3 hW.inW (on _ (by decide) _), hW.rq.onl q3 (on _ (by decide) _) (on _ (by decide) _), Rw.onl hW.bod q3 hW.inB (on _ (by decide) _), hW.inW, hW.inB, hW.z⟩, fun k e => by rw [q4]; exact hap k e⟩
    exact ⟨h.next (H' := H) (wv' := wv) (gv' := gv') (wk' := wk) hkF ((h.dep.off q3 (fun k g e => h.gh _ g (e ▸ hc.inK))).wider ext_in) ⟨q1, Rw.onl hc.wt q3 hc.inV (Onl.blk hc.blk (by decide)), q2, hc.inK, hc.inV, fun k q => hc.inG k (q4 ▸ q), fun k e => by rw [q4]; exact hc.ap k e, hcur⟩ (fun k q => .inl q), hkF⟩
set_option maxRecDepth 100000 in
set_option maxHeartbeats 400000 in
/-- Feed -/
theorem feed_mem (h : MemX K w F db kb m t s) (x : ByteArray) (hsz : s.C.wait.size + x.size ≤ 6000) :
    Calls Tryz.prog 23 #[.pointer (some ⟨db, 0, none⟩), .int .i64 0, .string x] w
      fun r w' => r = .returned (.int .i64 (if s.C.closed = true then 3 else 0)) ∧ MemX K w' (ext F w w') db kb m t (feedP s x) ∧ Kept F w w' := by
  cases hcl : s.C.closed with
  | true =>
    have e1 : feedP s x = s := if_pos hcl
    rw [e1]
    have HO := hide (openConn_shut h hcl)
    have HM := hide (h.same (Below.refl _ _))
    clear h hsz e1
    go_enter Tryz.func23, Tryz.ntmps23
    go_wp2_with (go_at_call 54; refine HO.out.mono ?_; rintro e w1 ⟨rfl, rfl⟩)
    go_ret
    exact ⟨rfl, HM.out⟩
  | false =>
    have e1 : feedP s x = ⟨s.D, { s.C with wait := s.C.wait ++ x }⟩ := if_neg (by rw [hcl]; simp)
    rw [e1]
    have HO := hide (openConn_mem h hcl)
    obtain ⟨wv, gv, wk, c1, c2, c3, c4, _⟩ := h.con
    rw [hcl] at c1 c4
    have HF : Hid (Calls Tryz.prog 58 #[.pointer (some ⟨kb, 0, none⟩), .string x] w fun r w' => r = .returned (.bool true) ∧ MemX K w' (ext F w w') db kb m t ⟨s.D, { s.C with wait := s.C.wait ++ x }⟩ ∧ Kept F w w') := by
      refine (feed_in kb wv gv wk (.bool false) s.C.wait x w c1 c2 hsz).mono ?_
      rintro e w' ⟨rfl, wv', q1, q2, q3, q4⟩
      exact ⟨rfl, c4 w' wv' _ q1 q2 q3 q4⟩
    clear h hsz e1 c1 c2 c3 c4
    go_enter Tryz.func23, Tryz.ntmps23
    go_wp2_with (first | (go_at_call 54; refine HO.out.mono ?_; rintro e w1 ⟨rfl, rfl⟩) | (go_at_call 58; refine HF.out.mono ?_; rintro e w1 ⟨rfl, q1⟩))
    go_ret
    rw [hcl] at q1
    exact ⟨rfl, q1⟩
set_option maxRecDepth 100000 in
set_option maxHeartbeats 400000 in
/-- Pick -/
theorem pick_mem (h : MemX K w F db kb m t s) (ho : OkP m s) (hq : ∀ i r q, cutF s.C.wait = some (i, r) → ps i = some q → OkR q) :
    Calls Tryz.prog 17 #[.pointer (some ⟨db, 0, none⟩), .int .i64 0] w
      fun r w' => (∃ z : Int, r = .returned (.tuple #[.int .i64 z, .int .i64 0])) ∧ MemX K w' (ext F w w') db kb m t (stepP K m s).2 ∧ Kept F w w' := by
  have HO := hide (anyConn_mem h)
  have HS := hide (step_mem h ho hq)
  clear h
  go_enter Tryz.func17, Tryz.ntmps17
  go_wp2_with (first | (go_at_call 48; refine HO.out.mono ?_; rintro e w1 ⟨rfl, rfl⟩) | (go_at_call 49; refine HS.out.mono ?_; rintro e w1 ⟨rfl, hR⟩))
  go_ret2
  exact ⟨⟨_, rfl⟩, hR⟩
set_option maxRecDepth 100000 in
set_option maxHeartbeats 400000 in
/-- Take -/
theorem take_mem (h : MemX K w F db kb m t s) (hg : s.C.going.size ≤ 200000) :
    Calls Tryz.prog 22 #[.pointer (some ⟨db, 0, none⟩), .int .i64 0, .int .i64 1099511627776] w
      fun r w' => r = .returned (.tuple #[.string s.C.going, .int .i64 0]) ∧ MemX K w' (ext F w w') db kb m t ⟨s.D, { s.C with going := ⟨#[]⟩ }⟩ ∧ Kept F w w' := by
  have HO := hide (anyConn_mem h)
  obtain ⟨wv, gv, wk, c1, c2, c3, _, c4⟩ := h.con
  have HF : Hid (Calls Tryz.prog 57 #[.pointer (some ⟨kb, 1, none⟩), .int .i64 ((1099511627776 : Nat) : Int)] w fun r w' => r = .returned (.string s.C.going) ∧ MemX K w' (ext F w w') db kb m t ⟨s.D, { s.C with going := ⟨#[]⟩ }⟩ ∧ Kept F w w') := by
    refine (take_out kb wv gv wk _ s.C.going 1099511627776 w c1 c3 (by omega) (by omega) (by omega)).mono ?_
    rintro e w' ⟨rfl, gv', q1, q2, q3, q4⟩
    exact ⟨rfl, c4 w' gv' _ q1 q2 q3 q4⟩
  clear h c1 c2 c3 c4
  obtain ⟨M, hM⟩ : ∃ M : Nat, M = 1099511627776 := ⟨_, rfl⟩
  rw [← hM] at HF
  have key : Calls Tryz.prog 22 #[.pointer (some ⟨db, 0, none⟩), .int .i64 0, .int .i64 (M : Int)] w
      fun r w' => r = .returned (.tuple #[.string s.C.going, .int .i64 0]) ∧ MemX K w' (ext F w w') db kb m t ⟨s.D, { s.C with going := ⟨#[]⟩ }⟩ ∧ Kept F w w' := by
    have hm0 : ¬ ((M : Int) < 0) := by omega
    clear hM
    go_enter Tryz.func22, Tryz.ntmps22
    go_wp2_with (first | (go_at_call 48; refine HO.out.mono ?_; rintro e w1 ⟨rfl, rfl⟩) | (go_at_call 57; refine HF.out.mono ?_; rintro e w1 ⟨rfl, q1⟩))
    go_ret2
    exact ⟨rfl, q1⟩
  rw [hM] at key
  exact key
end
end Go.Proofs.YthpmcilljbmoiaaGreatDoor
namespace Go.Proofs.YthpmcilljbmoiaaGreatDoor
open Go.RowKit

variable {N : Nat → ByteArray} {w w' : World} {U : Nat → Prop} {db n t : Nat} {rem : Nat → Nat} {want : Nat → ByteArray}

set_option maxRecDepth 100000 in
set_option maxHeartbeats 1000000 in
theorem open_mem (db n : Nat) (shv cvv : Value) (t : Int) (xs : List Value) (w : World) (hn : n < 8) (hD : Blk w db 114 (dpt shv cvv t)) (hR : Rw w 98 1 cvv n xs) :
    Calls Tryz.prog 33 #[.pointer (some ⟨db, 0, none⟩)] w
      fun r w' => ∃ cvv', r = .returned (.tuple #[.int .i64 n, .int .i64 0]) ∧ Blk w' db 114 (dpt shv cvv' t) ∧ Rw w' 98 1 cvv' (n + 1) (xs ++ [.pointer (some ⟨w.heap.size, 0, none⟩)]) ∧ Cn w' w.heap.size (.slice none 0 0) (.slice none 0 0) (.pointer none) (.bool false) ∧ Kept (fun k => k = db ∨ cvv.ownBlock = some k) w w' ∧ Home w cvv cvv' := by
  have hcne := Rw.ne hR hD (by decide)
  obtain ⟨a0, e0, rfl⟩ := Rw.shape hR
  have c1 : w.cell? ⟨db, 1, none⟩ = some (.slice a0 n e0) := hD.cell 1
  have hlt := hD.lt
  have hni : ¬ ((8 : Int) ≤ (n : Int)) := by omega
  have hBel : Below w.heap.size w (World.alloc (World.alloc w (.cells #[.slice none 0 0, .slice none 0 0, .pointer none, .bool false] 133)) (.cells #[.pointer (some ⟨w.heap.size, 0, none⟩)] 98)) := ((Below.refl _ _).alloc (Nat.le_refl _) _).alloc (by simp) _
  have HX : Hid (∀ j u, [Value.pointer (some ⟨w.heap.size, 0, none⟩)][j]? = some u → (World.alloc (World.alloc w (.cells #[.slice none 0 0, .slice none 0 0, .pointer none, .bool false] 133)) (.cells #[.pointer (some ⟨w.heap.size, 0, none⟩)] 98)).cell? (Addr.add ⟨w.heap.size + 1, 0, none⟩ j) = some u) := fun j u hj => by
    cases j with
    | zero =>
      simp only [List.getElem?_cons_zero, Option.some.injEq] at hj
      subst hj
      rw [Addr.add_lit]
      exact (Blk.at _ 98 #[.pointer (some ⟨w.heap.size, 0, none⟩)] _ (by simp)).cell 0
    | succ j => simp at hj
  go_enter Tryz.func33, Tryz.ntmps33
  go_wp2_with (at_builtin; refine wpList_append_rw (World.alloc (World.alloc w (.cells #[.slice none 0 0, .slice none 0 0, .pointer none, .bool false] 133)) (.cells #[.pointer (some ⟨w.heap.size, 0, none⟩)] 98)) rfl (.tmp 14) (.tmp 17) 106 106 rfl 98 _ 1 8 Tryz.underlying106 infoConnPtr rfl (by omega) (.slice a0 n e0) n xs rfl (Rw.below hR hBel) (.slice (some ⟨w.heap.size + 1, 0, none⟩) 1 1) 1 [.pointer (some ⟨w.heap.size, 0, none⟩)] rfl (Src.ofSlice _ Tryz.underlying106 ⟨w.heap.size + 1, 0, none⟩ 1 1 _ rfl HX.out ?_) ?_ ?_)
  · simp [Value.oneCell']
  · omega
  intro v2 w2 r2 k2 o2
  have d2 := ((hD.alloc (.cells #[.slice none 0 0, .slice none 0 0, .pointer none, .bool false] 133)).alloc (.cells #[.pointer (some ⟨w.heap.size, 0, none⟩)] 98)).kept k2 hcne
  have s2 := ((Blk.new w 133 #[.slice none 0 0, .slice none 0 0, .pointer none, .bool false]).alloc (.cells #[.pointer (some ⟨w.heap.size, 0, none⟩)] 98)).kept k2 (fun e => by have := Rw.lt hR e; omega)
  have c2 : w2.cell? ⟨db, 1, none⟩ = some (.slice a0 n e0) := d2.cell 1
  have f2 := d2.frozen 1
  have n2 := Rw.ne r2 d2 (by decide)
  have K2 : Kept (fun k => k = db ∨ (Value.slice a0 n e0).ownBlock = some k) w w2 := ((((Kept.refl (fun k => k = db ∨ (Value.slice a0 n e0).ownBlock = some k) w).alloc _).alloc _)).next k2 (fun i _ h => .inr h)
  have o3 : Home w (.slice a0 n e0) v2 := by
    rcases o2 with o2 | ⟨k, q1, q2⟩
    · exact .inl o2
    · exact .inr ⟨k, by omega, q2⟩
  obtain ⟨a2, e2, rfl⟩ := Rw.shape r2
  clear HX
  go_wp2
  go_ret2
  have KS : Kept (fun k => k = db ∨ (Value.slice a0 n e0).ownBlock = some k) w2 (w2.setCell ⟨db, 1, none⟩ (.slice a2 (n + 1) e2)) := (Kept.refl _ _).set _ _ (fun _ => .inl rfl)
  have KS' : Kept (fun k => k = db) w2 (w2.setCell ⟨db, 1, none⟩ (.slice a2 (n + 1) e2)) := (Kept.refl _ _).set _ _ (fun _ => rfl)
  refine ⟨.slice a2 (n + 1) e2, ?_, by simpa using d2.set 1 (.slice a2 (n + 1) e2), Rw.kept r2 KS' (fun k hk e => by subst e; exact n2 hk), s2.kept KS' (s2.ne d2 (by decide)), K2.trans KS, o3⟩
  first | rfl | (congr 3; omega)

/-- one more connection -/
theorem open_ivr (hn : n < 8) (h : Ivr N w U db n t rem want) :
    Calls Tryz.prog 33 #[.pointer (some ⟨db, 0, none⟩)] w
      fun r w' => r = .returned (.tuple #[.int .i64 n, .int .i64 0]) ∧ Ivr N w' (ext U w w') db (n + 1) t (fun i => if i = n then 0 else rem i) (fun i => if i = n then ⟨#[]⟩ else want i) ∧ Kept U w w' := by
  obtain ⟨G, F, kbs, h1⟩ := h
  obtain ⟨shv, cvv, m1, m2, m3⟩ := h1.dp.mem
  refine (open_mem db n shv cvv (t : Int) (ptrs kbs n) w hn m1 m2).mono ?_
  rintro e w' ⟨cvv', rfl, q1, q2, q3, q4, q5⟩
  have hS : ∀ k, (k = db ∨ cvv.ownBlock = some k) → G k := fun k e => by
    rcases e with rfl | e
    · exact h1.dp.db
    · exact m3 k e
  have hkU : Kept U w w' := q4.mono (fun k _ e => h1.gu k (hS k e))
  have hs := q4.size
  have hkb := q3.lt
  have hnew : ∀ k, cvv'.ownBlock = some k → k < w'.heap.size := fun k hk => Rw.lt q2 hk
  have hcv : ∀ k, cvv'.ownBlock = some k → G k ∨ w.heap.size ≤ k := fun k hk => by
    rcases q5 with e | ⟨j, e1, e2⟩
    · exact .inl (m3 k (e ▸ hk))
    · rw [e2] at hk; injection hk with hk; subst hk; exact .inr e1
  have hF : ∀ i, i < n → ∀ k, F i k → ¬ (k = db ∨ cvv.ownBlock = some k) := fun i hi k hf e => h1.fg i hi k hf (hS k e)
  have hemp : Emp w' db (fun k => G k ∨ cvv'.ownBlock = some k) := by
    obtain ⟨shv1, cs, m, sh, room, s1, s2, s3, s4, s5, s6, s7, s8⟩ := h1.dp.emp.ex
    have hcs : cs = dpt shv cvv (t : Int) := by
      have : some (Obj.cells cs 114 (0, 0)) = some (Obj.cells (dpt shv cvv (t : Int)) 114 (0, 0)) := s1.symm.trans m1
      injection this with this
      injection this
    subst hcs
    have e1 : shv = shv1 := by simpa using s2
    subst e1
    refine ⟨shv, _, m, sh, room, q1, rfl, Rw.kept s3 q4 (fun k hk e => ?_), fun j hj => (s4 j hj).kept q4 (fun e => ?_), .inl s5, fun k hk => .inl (s6 k hk), fun j hj => .inl (s7 j hj), s8⟩
    · rcases e with rfl | e
      · exact Rw.ne s3 m1 (by decide) hk
      · exact Rw.ne2 m2 s3 (by decide) e hk
    · rcases e with e | e
      · exact (s4 j hj).ne m1 (by decide) e
      · exact Rw.ne m2 (s4 j hj) (by decide) e
  refine ⟨rfl, ⟨fun k => G k ∨ cvv'.ownBlock = some k, fun i => if i = n then (fun k => k = w.heap.size) else F i, fun i => if i = n then w.heap.size else kbs i, ⟨⟨⟨shv, cvv', q1, ?_, fun k hk => .inr hk⟩, hemp, .inl h1.dp.db, fun k hg => ?_, by omega, h1.dp.t8⟩, fun i hi => ?_, fun i hi k hf hg => ?_, fun i j hi hj hij k hf hf' => ?_, fun k hg => ?_, fun i hi k hf => ?_, fun k hu => ?_⟩⟩, hkU⟩
  · rw [ptrs_add kbs _ n (fun i hi => if_neg (by omega))]
    simp only [if_true]
    exact q2
  · rcases hg with hg | hg
    · exact Nat.lt_of_lt_of_le (h1.dp.lt k hg) hs
    · exact hnew k hg
  · by_cases hin : i = n
    · subst hin
      simp only [if_true]
      refine ⟨[], none, ⟨#[]⟩, ⟨⟨_, _, _, q3, Bs.nil _ _, Bs.nil _ _, fun k hk => by simp [Value.ownBlock] at hk, fun k hk => by simp [Value.ownBlock] at hk, fun k hk => by simp [Value.ownBlock] at hk, rfl⟩, rfl, fun x hx => by simp at hx, Nat.zero_le _, (by decide : (⟨#[]⟩ ++ (⟨#[]⟩ ++ ⟨#[]⟩) : ByteArray).size ≤ 1000), fun k hk => by subst hk; exact hkb⟩, rfl, by simp [curRep, reps, app_empty]⟩
    · simp only [if_neg hin]
      exact (h1.cw i (by omega)).kept q4 (hF i (by omega))
  · by_cases hin : i = n
    · subst hin
      simp only [if_true] at hf
      subst hf
      rcases hg with hg | hg
      · have := h1.dp.lt _ hg; omega
      · exact Rw.ne q2 q3 (by decide) hg
    · simp only [if_neg hin] at hf
      rcases hg with hg | hg
      · exact h1.fg i (by omega) k hf hg
      · rcases hcv k hg with hg | hg
        · exact h1.fg i (by omega) k hf hg
        · have := h1.lt k (h1.fu i (by omega) k hf); omega
  · by_cases hin : i = n
    · subst hin
      have hjn : ¬ j = i := fun e => hij e.symm
      simp only [if_true] at hf
      simp only [if_neg hjn] at hf'
      have := h1.lt k (h1.fu j (by omega) k hf'); omega
    · simp only [if_neg hin] at hf
      by_cases hjn : j = n
      · subst hjn
        simp only [if_true] at hf'
        have := h1.lt k (h1.fu i (by omega) k hf); omega
      · simp only [if_neg hjn] at hf'
        exact h1.ff i j (by omega) (by omega) hij k hf hf'
  · rcases hg with hg | hg
    · exact .inl (h1.gu k hg)
    · rcases hcv k hg with hg' | hg'
      · exact .inl (h1.gu k hg')
      · exact .inr ⟨hg', hnew k hg⟩
  · by_cases hin : i = n
    · subst hin
      simp only [if_true] at hf
      subst hf
      exact .inr ⟨Nat.le_refl _, hkb⟩
    · simp only [if_neg hin] at hf
      exact .inl (h1.fu i (by omega) k hf)
  · rcases hu with hu | hu
    · exact Nat.lt_of_lt_of_le (h1.lt k hu) hs
    · exact hu.2
end Go.Proofs.YthpmcilljbmoiaaGreatDoor
namespace Go.Proofs.YthpmcilljbmoiaaGreatDoor
open Go.RowKit

set_option maxRecDepth 100000 in
theorem shardNewR (room : Nat) (w : World) : Calls Tryz.prog 64 #[.int .i64 room] w
    fun r w' => r = .returned (.pointer (some ⟨w.heap.size, 0, none⟩)) ∧ w' = w.alloc (.cells #[.slice none 0 0, .int .i64 room, .int .i64 0, .int .i64 0] 123) := by
  go_enter Tryz.func64, Tryz.ntmps64
  go_wp2
  go_ret
  exact ⟨rfl, rfl⟩

/-- i shards are made -/
structure Nw (w : World) (m room i : Nat) (W : World) (shv : Value) (sh : Nat → Nat) : Prop where
  cf : Blk W w.heap.size 68 #[.int .i64 m, .int .i64 room]
  de : Blk W (w.heap.size + 1) 114 (dpt shv (.slice none 0 0) 0)
  sl : Rw W 115 1 shv i (ptrs sh i)
  sd : ∀ j, j < i → Blk W (sh j) 123 #[.slice none 0 0, .int .i64 room, .int .i64 0, .int .i64 0]
  fr : Fresh (w.heap.size + 2) shv
  fs : ∀ j, j < i → w.heap.size + 2 ≤ sh j
  bl : Below w.heap.size w W
  ij : ∀ j k, j < i → k < i → j ≠ k → sh j ≠ sh k

set_option maxRecDepth 100000 in
set_option maxHeartbeats 2000000 in
theorem new_mem (m room : Nat) (w : World) (hm0 : 1 ≤ m) (hm8 : m ≤ 8) (hr0 : 1 ≤ room) (hr : room ≤ 4000) : Calls Tryz.prog 32 #[.agg #[.int .i64 m, .int .i64 room]] w
    fun r w' => r = .returned (.tuple #[.pointer (some ⟨w.heap.size + 1, 0, none⟩), .int .i64 0]) ∧ ∃ shv sh, Nw w m room m w' shv sh := by
  have hi1 : ¬ ((m : Int) < 1) := by omega
  have hi2 : ¬ ((8 : Int) < (m : Int)) := by omega
  have hi3 : ¬ ((room : Int) < 1) := by omega
  have hi4 : ¬ ((4000 : Int) < (room : Int)) := by omega
  go_enter Tryz.func32, Tryz.ntmps32
  go_wp2
  have hN0 : ∃ shv sh, Nw w m room 0 ((w.alloc (.cells #[.int .i64 m, .int .i64 room] 68)).alloc (.cells (dpt (.slice none 0 0) (.slice none 0 0) 0) 114)) shv sh :=
    ⟨.slice none 0 0, fun _ => 0, (Blk.new _ _ _).alloc _, Blk.at _ _ _ _ (by simp), Rw.nil _ _ _, fun j hj => by omega, Fresh.nil _ _ _, fun j hj => by omega, ((Below.refl _ _).alloc (Nat.le_refl _) _).alloc (by simp) _, fun j k hj => by omega⟩
  generalize (w.alloc (.cells #[.int .i64 m, .int .i64 room] 68)).alloc (.cells (dpt (.slice none 0 0) (.slice none 0 0) 0) 114) = W0 at *
  go_loopw [27] (fun iv wr => ∃ i : Nat, i ≤ m ∧ iv = .int .i64 i ∧ Hid (∃ shv sh, Nw w m room i wr shv sh)) (fun iv _ => m - (intOf iv).toNat)
  case atStart => exact ⟨0, by omega, rfl, hN0⟩
  case round =>
    clear hN0 hi1 hi2 hi3 hi4
    obtain ⟨i, hi, rfl, hN⟩ := hrel
    obtain ⟨shv, sh, hN⟩ := hN.out
    by_cases him : i < m
    · have hsh := Rw.shape hN.sl
      obtain ⟨a0, e0, rfl⟩ := hsh
      have g0 : wr.cell? ⟨w.heap.size + 1, 0, none⟩ = some (.slice a0 i e0) := hN.de.cell 0
      have g1 : wr.cell? ⟨w.heap.size, 1, none⟩ = some (.int .i64 room) := hN.cf.cell 1
      have l0 := hN.de.lt
      have him' : (i : Int) < (m : Int) := by omega
      have HS : Hid (Calls Tryz.prog 64 #[.int .i64 room] (World.drew wr) fun r w' => r = .returned (.pointer (some ⟨wr.heap.size, 0, none⟩)) ∧ Nw w m room i w' (.slice a0 i e0) sh ∧ Blk w' wr.heap.size 123 #[.slice none 0 0, .int .i64 room, .int .i64 0, .int .i64 0] ∧ w'.cell? ⟨w.heap.size + 1, 0, none⟩ = some (.slice a0 i e0) ∧ w'.heap.size = wr.heap.size + 1) := by
        refine (shardNewR room (World.drew wr)).mono ?_
        rintro e w' ⟨q1, rfl⟩
        have hb : Below wr.heap.size wr ((World.drew wr).alloc (.cells #[.slice none 0 0, .int .i64 room, .int .i64 0, .int .i64 0] 123)) := (Below.refl _ _).drew.alloc (Nat.le_refl _) _
        exact ⟨q1, ⟨hN.cf.below hb hN.cf.lt, hN.de.below hb l0, hN.sl.below hb, fun j hj => (hN.sd j hj).below hb (hN.sd j hj).lt, hN.fr, hN.fs, hN.bl.trans (hb.mono hN.bl.size), hN.ij⟩, Blk.new _ _ _, (hN.de.below hb l0).cell 0, by simp⟩
      have HX : Hid (∀ w1, w1.heap.size = wr.heap.size + 1 → ∀ j u, [Value.pointer (some ⟨wr.heap.size, 0, none⟩)][j]? = some u → (World.alloc w1 (.cells #[.pointer (some ⟨wr.heap.size, 0, none⟩)] 115)).cell? (Addr.add ⟨wr.heap.size + 1, 0, none⟩ j) = some u) := fun w1 z1 j u hj => by
        cases j with
        | zero =>
          simp only [List.getElem?_cons_zero, Option.some.injEq] at hj
          subst hj
          rw [Addr.add_lit]
          exact (Blk.at w1 115 #[.pointer (some ⟨wr.heap.size, 0, none⟩)] _ z1.symm).cell 0
        | succ j => simp at hj
      have HB : Hid (∀ w1, Below w1.heap.size w1 (World.alloc w1 (.cells #[.pointer (some ⟨wr.heap.size, 0, none⟩)] 115))) := fun w1 => (Below.refl _ _).alloc (Nat.le_refl _) _
      have hbl0 := hN.bl.size
      have HLt : Hid (∀ j, j < i → sh j < wr.heap.size) := fun j hj => (hN.sd j hj).lt
      clear hN
      go_wp2
      go_region_law (first | (refine step_append_rw rfl (.tmp 33) (.tmp 37) 105 105 rfl 115 _ 1 8 Tryz.underlying105 infoShardPtr rfl (by omega) (.slice a0 i e0) i (ptrs sh i) (by simp [Act.eval]) (Rw.below hN1.sl (HB.out w1)) (.slice (some ⟨wr.heap.size + 1, 0, none⟩) 1 1) 1 [.pointer (some ⟨wr.heap.size, 0, none⟩)] (by simp [Act.eval]) (Src.ofSlice _ Tryz.underlying105 ⟨wr.heap.size + 1, 0, none⟩ 1 1 _ rfl (HX.out w1 z1) (by simp [Value.oneCell'])) (by omega) ?_; rintro v2 w2 r2 k2 o2; have d2 := (hN1.de.alloc (.cells #[.pointer (some ⟨wr.heap.size, 0, none⟩)] 115)).kept k2 (Rw.ne hN1.sl hN1.de (by decide)); have c2 : w2.cell? ⟨w.heap.size + 1, 0, none⟩ = some (.slice a0 i e0) := d2.cell 0; have f2 := d2.frozen 0; obtain ⟨a2, e2, rfl⟩ := Rw.shape r2) | (go_simp; go_at_call 64; refine HS.out.mono ?_; rintro e w1 ⟨rfl, hN1, hs1, g3, z1⟩; have g4 : (World.alloc w1 (.cells #[.pointer (some ⟨wr.heap.size, 0, none⟩)] 115)).cell? ⟨w.heap.size + 1, 0, none⟩ = some (.slice a0 i e0) := (hN1.de.alloc _).cell 0))
      all_goals
        go_wp2
        have n2 := Rw.ne r2 d2 (by decide)
        have cf2 := (hN1.cf.alloc (.cells #[.pointer (some ⟨wr.heap.size, 0, none⟩)] 115)).kept k2 (Rw.ne hN1.sl hN1.cf (by decide))
        have s2 := (hs1.alloc (.cells #[.pointer (some ⟨wr.heap.size, 0, none⟩)] 115)).kept k2 (Rw.ne hN1.sl hs1 (by decide))
        have sd2 : ∀ j, j < i → Blk w2 (sh j) 123 #[.slice none 0 0, .int .i64 room, .int .i64 0, .int .i64 0] := fun j hj => ((hN1.sd j hj).alloc (.cells #[.pointer (some ⟨wr.heap.size, 0, none⟩)] 115)).kept k2 (Rw.ne hN1.sl (hN1.sd j hj) (by decide))
        have KS : Kept (fun k => k = w.heap.size + 1) w2 (w2.setCell ⟨w.heap.size + 1, 0, none⟩ (.slice a2 (i + 1) e2)) := (Kept.refl _ _).set _ _ (fun _ => rfl)
        have hf := hN1.fr
        have z2 := k2.size
        have hbl : Below w.heap.size w w2 := hN1.bl.trans (((HB.out w1).mono hN1.bl.size).trans (k2.toBelow (fun k hk e => by have := hf k e; omega) (by simp; omega)))
        refine ⟨⟨i + 1, by omega, by simp, ⟨.slice a2 (i + 1) e2, fun j => if j = i then wr.heap.size else sh j, ⟨cf2.kept KS (cf2.ne d2 (by decide)), by simpa using d2.set 0 (.slice a2 (i + 1) e2), ?_, fun j hj => ?_, fun k hk => ?_, fun j hj => ?_, ?_, fun j k hj hk hne => ?_⟩⟩⟩, by simp [intOf]; omega⟩
        · rw [ptrs_add sh _ i (fun j hj => if_neg (by omega))]
          simp only [if_true]
          exact Rw.kept r2 KS (fun k hk e => by subst e; exact n2 hk)
        · by_cases hji : j = i
          · subst hji; simp only [if_true]; exact s2.kept KS (s2.ne d2 (by decide))
          · simp only [if_neg hji]
            have := sd2 j (by omega)
            exact this.kept KS (this.ne d2 (by decide))
        · rcases o2 with o2 | ⟨k', q1, q2⟩
          · exact hf k (o2 ▸ hk)
          · rw [q2] at hk
            injection hk with hk
            simp at q1
            omega
        · by_cases hji : j = i
          · subst hji; simp only [if_true]; omega
          · simp only [if_neg hji]; exact hN1.fs j (by omega)
        · exact hbl.setCell (p := ⟨w.heap.size + 1, 0, none⟩) (by simp) _
        · by_cases hji : j = i
          · subst hji
            simp only [if_true, if_neg (Ne.symm hne)]
            have := HLt.out k (by omega)
            omega
          · simp only [if_neg hji]
            by_cases hki : k = i
            · subst hki
              simp only [if_true]
              have := HLt.out j (by omega)
              omega
            · simp only [if_neg hki]
              exact hN1.ij j k (by omega) (by omega) hne
    · obtain rfl : i = m := by omega
      have HN := hide hN
      clear hN
      go_wp2
      go_ret2
      exact ⟨rfl, shv, sh, HN.out⟩
end Go.Proofs.YthpmcilljbmoiaaGreatDoor
namespace Go.Proofs.YthpmcilljbmoiaaGreatDoor
open Go.RowKit Word

theorem zer_rept : ∀ n, zer n = rept 0 n
  | 0 => rfl
  | n + 1 => by
    rw [zer, zer_rept n]
    apply ByteArray.ext
    apply Array.ext'
    simp [rept, b8, List.replicate_succ']
theorem nameStr_size (K : List Nat) (s : ByteArray) : (nameStr K s).size = 34 := by
  unfold nameStr
  rw [strOf_size, nameBytes, List.length_cons, List.length_cons, sumBytes_len]
/-- the names of the blobs that are asked for -/
def Nx (K : List Nat) (j : Nat) : ByteArray := nameStr K (rept 120 j)
theorem Nx_ok (K : List Nat) : Nok (Nx K) := fun j hj => by
  refine ⟨nameStr_size _ _, ?_⟩
  have : (Nx K j).extract 0 2 = b8 0 ++ b8 j := by
    unfold Nx nameStr
    apply ByteArray.ext
    apply Array.ext'
    rw [extract_list, rept_size]
    have hj0 : j / 256 = 0 := by omega
    rw [nameBytes, hj0]
    simp [strOf, b8]
  rw [this, num_b8s _ _ (by omega) (by omega)]
  omega
theorem cat_add : ∀ (l : List ByteArray) (x : ByteArray), cat (l ++ [x]) = cat l ++ x
  | [], x => by rw [List.nil_append, cat, cat, cat, app_empty, empty_app]
  | y :: l, x => by rw [List.cons_append, cat, cat_add l x, cat, ByteArray.append_assoc]
theorem nms_add (N : Nat → ByteArray) (n : Nat) : nms N (n + 1) = nms N n ++ [N n] := by simp [nms, List.range_succ]

set_option maxRecDepth 100000 in
set_option maxHeartbeats 400000 in
theorem kname_any (K : List Nat) (s : ByteArray) (w : World) (hs : s.size ≤ 120) (hKl : ∀ i, K.getD i 0 < 4294967296)
    (hT : ∀ i, i < 64 → w.cell? ⟨0, i, none⟩ = some (.int .u32 (K.getD i 0 : Nat))) :
    Calls Tryz.prog 47 #[.string s] w fun r w' => r = .returned (.string (nameStr K s)) ∧ Below w.heap.size w w' := by
  have HC := hide (name_any K s w hs hKl hT)
  have hz := nameStr_size K s
  have hzi : ((nameStr K s).size : Int) = 34 := by omega
  clear hT hKl
  generalize nameStr K s = S at *
  go_enter Tryz.func47, Tryz.ntmps47
  go_wp2_with (go_at_call 90; refine HC.out.mono ?_; rintro e w1 ⟨rfl, k1⟩)
  go_ret
  exact ⟨rfl, k1⟩
set_option maxRecDepth 100000 in
set_option maxHeartbeats 1000000 in
theorem named_any (K : List Nat) (n : Nat) (lv : Value) (w : World) (hn : n ≤ 8) (hKl : ∀ i, K.getD i 0 < 4294967296)
    (hT : ∀ i, i < 64 → w.cell? ⟨0, i, none⟩ = some (.int .u32 (K.getD i 0 : Nat)))
    (hR : Rw w 9 1 lv n ((List.range n).map fun j => .string (rept 120 j))) :
    Calls Tryz.prog 16 #[lv] w fun r w' => r = .returned (.string (bodyOf (Nx K) n)) ∧ Below w.heap.size w w' := by
  have HB := hide (fun w => bytes1 n w (by omega))
  have hTl : ∀ i, i < 64 → 0 < w.heap.size := fun i hi => World.block_lt_of_cell? _ _ (hT i hi)
  have HN : Hid (∀ j, j ≤ 8 → ∀ w1, Below w.heap.size w w1 → Calls Tryz.prog 47 #[.string (rept 120 j)] w1 fun r w' => r = .returned (.string (Nx K j)) ∧ Below w1.heap.size w1 w') := fun j hj w1 hb =>
    kname_any K (rept 120 j) w1 (by rw [rept_size]; omega) hKl (fun i hi => by rw [hb.cell (hTl i hi)]; exact hT i hi)
  have HL : Hid (∀ j, j < n → ∃ b off, (∃ cap, lv = .slice (some ⟨b, off, none⟩) n cap) ∧ ∀ w1, Below w.heap.size w w1 → w1.cell? ⟨b, off + j, none⟩ = some (.string (rept 120 j))) := fun j hj => by
    obtain ⟨_, h0, _⟩ | ⟨b, off, cap, cur, rfl, hb, g1, g2, g3, g4, g5⟩ := hR
    · omega
    · refine ⟨b, off, ⟨cap, rfl⟩, fun w1 hb1 => ?_⟩
      rw [(hb.below hb1 hb.lt).cell, g5 j (by omega)]
      simp [List.getElem?_range hj]
  obtain ⟨a0, e0, rfl⟩ := Rw.shape hR
  clear hT hKl hTl hR
  go_enter Tryz.func16, Tryz.ntmps16
  go_wp2_with (go_at_call 28; refine (HB.out _).mono ?_; rintro e w0 ⟨rfl, k0⟩)
  go_loopw [3, 4] (fun sv iv wr => ∃ i : Nat, i ≤ n ∧ sv = .string (b8 n ++ cat (nms (Nx K) i)) ∧ iv = .int .i64 i ∧ Below w.heap.size w wr) (fun _ iv _ => n - (intOf iv).toNat)
  case atStart => exact ⟨0, by omega, by rw [show cat (nms (Nx K) 0) = ⟨#[]⟩ from rfl, app_empty], rfl, k0⟩
  case round =>
    clear k0 HB
    obtain ⟨i, hi, rfl, rfl, hA⟩ := hrel
    by_cases hin : i < n
    · obtain ⟨b, off, ⟨cap, hv⟩, hc⟩ := HL.out i hin
      injection hv with hv _ hv2
      subst hv hv2
      have c0 := hc wr hA
      have h1 : (i : Int) < (n : Int) := by omega
      have h2 : (0 : Int) ≤ (i : Int) := by omega
      have HN1 := hide (HN.out i (by omega) wr hA)
      have hcat : b8 n ++ cat (nms (Nx K) i) ++ Nx K i = b8 n ++ cat (nms (Nx K) (i + 1)) := by rw [nms_add, cat_add, ByteArray.append_assoc]
      have HT := hide hcat
      have hz0 : (b8 n ++ cat (nms (Nx K) i)).size ≤ 300 := by
        rw [ByteArray.size_append, cat_size _ (fun x hx => (nms_ok (Nx_ok K) i (by omega) x hx).1), nms_len, b8_size]
        omega
      have hz1 : (Nx K i).size = 34 := nameStr_size _ _
      clear hcat hc HL HN
      generalize b8 n ++ cat (nms (Nx K) i) = S0 at *
      generalize Nx K i = S1 at *
      generalize rept 120 i = S2 at *
      go_wp2_with (go_at_call 47; refine HN1.out.mono ?_; rintro e w1 ⟨rfl, k1⟩)
      exact ⟨⟨i + 1, by omega, by rw [HT.out], by simp, hA.trans (k1.mono hA.size)⟩, by simp [intOf]; omega⟩
    · obtain rfl : i = n := by omega
      clear HL HN
      go_wp2
      go_ret
      exact ⟨by rw [bodyOf, app_empty]; rfl, hA⟩
end Go.Proofs.YthpmcilljbmoiaaGreatDoor
