import Derived.Test.YthpmcilljbmoiaaGreatDoorNewOne
namespace Go.Proofs.YthpmcilljbmoiaaGreatDoor
open Go.RowKit

set_option maxRecDepth 100000 in
set_option maxHeartbeats 1000000 in
theorem open_first (db : Nat) (shv : Value) (w : World) (hD : Blk w db 114 (dep shv (.slice none 0 0) (.slice none 0 0))) :
    Calls Tryz.prog 33 #[.pointer (some ⟨db, 0, none⟩)] w
      fun r w' => ∃ kb cvv, r = .returned (.tuple #[.int .i64 0, .int .i64 0]) ∧ Blk w' db 114 (dep shv cvv (.slice none 0 0)) ∧ Rw w' 98 1 cvv 1 [.pointer (some ⟨kb, 0, none⟩)] ∧ Cn w' kb (.slice none 0 0) (.slice none 0 0) (.pointer none) (.bool false) ∧ w.heap.size ≤ kb ∧ Kept (fun k => k = db) w w' := by
  have c1 : w.cell? ⟨db, 1, none⟩ = some (.slice none 0 0) := hD.cell 1
  have hlt := hD.lt
  have HX : Hid (∀ j u, [Value.pointer (some ⟨w.heap.size, 0, none⟩)][j]? = some u → (World.alloc (World.alloc w (.cells #[.slice none 0 0, .slice none 0 0, .pointer none, .bool false] 133)) (.cells #[.pointer (some ⟨w.heap.size, 0, none⟩)] 98)).cell? (Addr.add ⟨w.heap.size + 1, 0, none⟩ j) = some u) := fun j u hj => by
    cases j with
    | zero =>
      simp only [List.getElem?_cons_zero, Option.some.injEq] at hj
      subst hj
      rw [Addr.add_lit]
      exact (Blk.at _ 98 #[.pointer (some ⟨w.heap.size, 0, none⟩)] _ (by simp)).cell 0
    | succ j => simp at hj
  go_enter Tryz.func33, Tryz.ntmps33
  go_wp2_with (at_builtin; refine wpList_append_rw (World.alloc (World.alloc w (.cells #[.slice none 0 0, .slice none 0 0, .pointer none, .bool false] 133)) (.cells #[.pointer (some ⟨w.heap.size, 0, none⟩)] 98)) rfl (.tmp 14) (.tmp 17) 106 106 rfl 98 _ 1 8 Tryz.underlying106 infoConnPtr rfl (by omega) (.slice none 0 0) 0 [] rfl (Rw.nil _ _ _) (.slice (some ⟨w.heap.size + 1, 0, none⟩) 1 1) 1 [.pointer (some ⟨w.heap.size, 0, none⟩)] rfl (Src.ofSlice _ Tryz.underlying106 ⟨w.heap.size + 1, 0, none⟩ 1 1 _ rfl HX.out ?_) ?_ ?_)
  · simp [Value.oneCell']
  · omega
  intro v2 w2 r2 k2 o2
  have d2 := ((hD.alloc (.cells #[.slice none 0 0, .slice none 0 0, .pointer none, .bool false] 133)).alloc (.cells #[.pointer (some ⟨w.heap.size, 0, none⟩)] 98)).kept k2 (fun e => by simp [Value.ownBlock] at e)
  have s2 := ((Blk.new w 133 #[.slice none 0 0, .slice none 0 0, .pointer none, .bool false]).alloc (.cells #[.pointer (some ⟨w.heap.size, 0, none⟩)] 98)).kept k2 (fun e => by simp [Value.ownBlock] at e)
  have c2 : w2.cell? ⟨db, 1, none⟩ = some (.slice none 0 0) := d2.cell 1
  have f2 := d2.frozen 1
  have n2 := Rw.ne r2 d2 (by decide)
  have K2 : Kept (fun k => k = db) w w2 := ((((Kept.refl (fun k => k = db) w).alloc _).alloc _)).next k2 (fun i _ h => by simp [Value.ownBlock] at h)
  obtain ⟨a2, e2, rfl⟩ := Rw.shape r2
  clear HX
  go_wp2
  go_ret2
  have KS : Kept (fun k => k = db) w2 (w2.setCell ⟨db, 1, none⟩ (.slice a2 (0 + 1) e2)) := (Kept.refl _ _).set _ _ (fun _ => rfl)
  exact ⟨w.heap.size, _, rfl, by simpa using d2.set 1 _, Rw.kept r2 KS (fun k hk e => by subst e; exact n2 hk), s2.kept KS (s2.ne d2 (by decide)), Nat.le_refl _, K2.trans KS⟩

set_option maxRecDepth 100000 in
theorem pick_zero (w : World) : Calls Tryz.prog 18 #[.int .i64 0, .int .i64 8] w fun r w' => r = .returned (.int .i64 0) ∧ w = w' := by
  go_enter Tryz.func18, Tryz.ntmps18
  go_wp2
  go_ret
  exact ⟨rfl, rfl⟩

set_option maxRecDepth 100000 in
set_option maxHeartbeats 1000000 in
theorem bare_one (w : World) : Calls Tryz.prog 40 #[.int .i64 0, .int .i64 1] w
    fun r w' => ∃ db sb shv, r = .returned (.tuple #[.pointer (some ⟨db, 0, none⟩), .bool true]) ∧ Blk w' db 114 (dep shv (.slice none 0 0) (.slice none 0 0)) ∧ Rw w' 115 1 shv 1 [.pointer (some ⟨sb, 0, none⟩)] ∧ Blk w' sb 123 #[.slice none 0 0, .int .i64 1, .int .i64 0, .int .i64 0] ∧ w.heap.size ≤ db ∧ Below w.heap.size w w' := by
  have H1 := hide pick_zero
  have H2 := hide new_one
  go_enter Tryz.func40, Tryz.ntmps40
  go_wp2_with (first | (go_at_call 18; refine (H1.out _).mono ?_; rintro e w1 ⟨rfl, rfl⟩) | (go_at_call 32; refine (H2.out _).mono ?_; rintro e w1 ⟨db, sb, shv, rfl, q⟩))
  go_ret2
  exact ⟨db, sb, shv, rfl, q⟩

set_option maxRecDepth 100000 in
set_option maxHeartbeats 1000000 in
theorem begin_one (w : World) : Calls Tryz.prog 12 #[.int .i64 0, .int .i64 1] w
    fun r w' => ∃ cb db kb sb shv cvv, r = .returned (.tuple #[.pointer (some ⟨cb, 0, none⟩), .bool true]) ∧ Sta w.heap.size w' cb db kb sb shv cvv (.slice none 0 0) (.slice none 0 0) (.slice none 0 0) (.pointer none) 0 [] ⟨#[]⟩ ⟨#[]⟩ ∧ Below w.heap.size w w' := by
  have H1 := hide (bare_one w)
  have H2 := hide open_first
  go_enter Tryz.func12, Tryz.ntmps12
  go_wp2_with (first | (go_at_call 40; refine H1.out.mono ?_; rintro e w1 ⟨db, sb, shv, rfl, d1, r1, s1, l1, b1⟩) | (go_at_call 33; refine (H2.out db shv w1 d1).mono ?_; rintro e w2 ⟨kb, cvv, rfl, d2, r2, c2, l2, k2⟩))
  go_ret2
  have hA := Below.alloc (Below.refl w2.heap.size w2) (Nat.le_refl _) (.cells #[.pointer (some ⟨db, 0, none⟩), .int .i64 0, .int .i64 0] 35)
  have r1' := Rw.kept r1 k2 (fun k hk e => by subst e; exact Rw.ne r1 d1 (by decide) hk)
  have s1' := s1.kept k2 (s1.ne d1 (by decide))
  have hB : Below w.heap.size w w2 := b1.trans (k2.toBelow (fun k hk e => by omega) b1.size)
  refine ⟨w2.heap.size, db, kb, sb, shv, cvv, rfl, ⟨hB.size, l1, Nat.le_trans b1.size l2, Blk.new _ _ _, d2.below hA d2.lt, r1'.below hA, s1'.below hA s1'.lt, r2.below hA, c2.below hA c2.lt, .inl ⟨rfl, rfl, rfl⟩, Bs.nil _ _, Bs.nil _ _, Fresh.nil _ _ _, Fresh.nil _ _ _, Fresh.nil _ _ _, fun k hk => by simp [Value.ownBlock] at hk⟩, hB.trans (hA.mono hB.size)⟩
end Go.Proofs.YthpmcilljbmoiaaGreatDoor
