import Derived.Test.YthpmcilljbmoiaaGreatDoorState
import Derived.Deep.RegionLaw
namespace Go.Proofs.YthpmcilljbmoiaaGreatDoor
open Go.RowKit

theorem step_append_rw {P : Program} {ops : Array Oper} {o : Oper} {a : Act} {w : World} {K : Act → World → Prop} {Q : Exit → Act → World → Prop} {E : Prop}
    (hg : o.guard = none) (s x : Operand) (t tx : TypeId) (hop : o.op = Op.call { callee := Callee.builtin Builtin.append, args := #[s, x], argTypes := #[t, tx] })
    (e : TypeId) (z : Value) (sz by_ : Nat) (h1 : P.underlying t = some (.slice e)) (h2 : (P.info? e).map (fun i => (i.zero, i.size, i.bytes)) = some (some z, sz, by_)) (hzs : z.cells.size = sz) (hby : by_ ≤ 64)
    (v : Value) (n : Nat) (xs : List Value) (hs : a.eval s = v) (hv : Rw w e sz v n xs) (xv : Value) (m : Nat) (news : List Value) (hx : a.eval x = xv) (hsrc : Src P sz tx xv m news w) (hb : n + m ≤ 1000000)
    (hK : ∀ v' w', Rw w' e sz v' (n + m) (xs ++ news) → Kept (fun k => v.ownBlock = some k) w w' → (v'.ownBlock = v.ownBlock ∨ ∃ k, w.heap.size ≤ k ∧ v'.ownBlock = some k) → K (a.put o.dst v') w') :
    if Region.wanted o (yielded ops a.tmps) = true then Oper.wp P o a w K Q else E := by
  have hw : Region.wanted o (yielded ops a.tmps) = true := by simp [Region.wanted, hg]
  rw [if_pos hw]
  obtain ⟨i, hi, hz0, hz1, hz2⟩ := info_parts h2
  obtain ⟨v', w', hrun, r1, r2, r3⟩ := run_append_rw (P := P) w t tx o.type e i z sz h1 hi hz0 hz1 hzs (by omega) hv hsrc hb
  unfold Oper.wp
  simp [execOp, hop, resolve, invoke, builtin, hs, hx, hrun, Result.andThen]
  exact hK v' w' r1 r2 r3
theorem infoShardPtr : (Tryz.prog.info? 115).map (fun i => (i.zero, i.size, i.bytes)) = some (some (.pointer none), 1, 8) := by kernel_rfl
theorem infoConnPtr : (Tryz.prog.info? 98).map (fun i => (i.zero, i.size, i.bytes)) = some (some (.pointer none), 1, 8) := by kernel_rfl

set_option maxRecDepth 100000 in
theorem shardNew (w : World) : Calls Tryz.prog 64 #[.int .i64 1] w
    fun r w' => r = .returned (.pointer (some ⟨w.heap.size, 0, none⟩)) ∧ w' = w.alloc (.cells #[.slice none 0 0, .int .i64 1, .int .i64 0, .int .i64 0] 123) := by
  go_enter Tryz.func64, Tryz.ntmps64
  go_wp2
  go_ret
  exact ⟨rfl, rfl⟩

set_option maxRecDepth 100000 in
set_option maxHeartbeats 2000000 in
theorem new_one (w : World) : Calls Tryz.prog 32 #[.agg #[.int .i64 1, .int .i64 1]] w
    fun r w' => ∃ db sb shv, r = .returned (.tuple #[.pointer (some ⟨db, 0, none⟩), .int .i64 0]) ∧ Blk w' db 114 (dep shv (.slice none 0 0) (.slice none 0 0)) ∧ Rw w' 115 1 shv 1 [.pointer (some ⟨sb, 0, none⟩)] ∧ Blk w' sb 123 #[.slice none 0 0, .int .i64 1, .int .i64 0, .int .i64 0] ∧ w.heap.size ≤ db ∧ Below w.heap.size w w' := by
  go_enter Tryz.func32, Tryz.ntmps32
  go_wp2
  refine wp_loop_rounds 2 ?_
  rw [rounds_succ]
  go_wp2
  have hA : Below w.heap.size w ((w.alloc (.cells #[.int .i64 1, .int .i64 1] 68)).alloc (.cells (dep (.slice none 0 0) (.slice none 0 0) (.slice none 0 0)) 114)) := ((Below.refl _ _).alloc (Nat.le_refl _) _).alloc (by simp) _
  have hd : Blk ((w.alloc (.cells #[.int .i64 1, .int .i64 1] 68)).alloc (.cells (dep (.slice none 0 0) (.slice none 0 0) (.slice none 0 0)) 114)) (w.heap.size + 1) 114 (dep (.slice none 0 0) (.slice none 0 0) (.slice none 0 0)) := Blk.at _ _ _ _ (by simp)
  have hcf : Blk ((w.alloc (.cells #[.int .i64 1, .int .i64 1] 68)).alloc (.cells (dep (.slice none 0 0) (.slice none 0 0) (.slice none 0 0)) 114)) w.heap.size 68 #[.int .i64 1, .int .i64 1] := (Blk.new _ _ _).alloc _
  generalize (w.alloc (.cells #[.int .i64 1, .int .i64 1] 68)).alloc (.cells (dep (.slice none 0 0) (.slice none 0 0) (.slice none 0 0)) 114) = W0 at *
  have g0 : W0.cell? ⟨w.heap.size + 1, 0, none⟩ = some (.slice none 0 0) := hd.cell 0
  have g1 : W0.cell? ⟨w.heap.size, 1, none⟩ = some (.int .i64 1) := hcf.cell 1
  have l0 := hd.lt
  have l1 := hcf.lt
  have HS : Hid (Calls Tryz.prog 64 #[.int .i64 1] (World.drew W0) fun r w' => r = .returned (.pointer (some ⟨W0.heap.size, 0, none⟩)) ∧ Blk w' W0.heap.size 123 #[.slice none 0 0, .int .i64 1, .int .i64 0, .int .i64 0] ∧ Below W0.heap.size W0 w' ∧ w'.cell? ⟨w.heap.size + 1, 0, none⟩ = some (.slice none 0 0) ∧ w'.heap.size = W0.heap.size + 1) := by
    refine (shardNew (World.drew W0)).mono ?_
    rintro e w' ⟨q1, rfl⟩
    exact ⟨q1, Blk.new _ _ _, (Below.refl _ _).drew.alloc (Nat.le_refl _) _, ((hd.drew.alloc _).cell 0), by simp⟩
  have F0 := hd.frozen 0
  have HX : Hid (∀ w1, w1.heap.size = W0.heap.size + 1 → ∀ j u, [Value.pointer (some ⟨W0.heap.size, 0, none⟩)][j]? = some u → (World.alloc w1 (.cells #[.pointer (some ⟨W0.heap.size, 0, none⟩)] 115)).cell? (Addr.add ⟨W0.heap.size + 1, 0, none⟩ j) = some u) := fun w1 z1 j u hj => by
    cases j with
    | zero =>
      simp only [List.getElem?_cons_zero, Option.some.injEq] at hj
      subst hj
      rw [Addr.add_lit]
      exact (Blk.at w1 115 #[.pointer (some ⟨W0.heap.size, 0, none⟩)] _ z1.symm).cell 0
    | succ j => simp at hj
  go_region_law (first | (refine step_append_rw rfl (.tmp 33) (.tmp 37) 105 105 rfl 115 _ 1 8 Tryz.underlying105 infoShardPtr rfl (by omega) (.slice none 0 0) 0 [] (by simp [Act.eval]) (Rw.nil _ _ _) (.slice (some ⟨W0.heap.size + 1, 0, none⟩) 1 1) 1 [.pointer (some ⟨W0.heap.size, 0, none⟩)] (by simp [Act.eval]) (Src.ofSlice _ Tryz.underlying105 ⟨W0.heap.size + 1, 0, none⟩ 1 1 _ rfl (HX.out w1 z1) (by simp [Value.oneCell'])) (by omega) ?_; rintro v2 w2 r2 k2 o2; have d2 := ((hd.below k1 l0).alloc (.cells #[.pointer (some ⟨W0.heap.size, 0, none⟩)] 115)).kept k2 (fun e => by simp [Value.ownBlock] at e); have c2 : w2.cell? ⟨w.heap.size + 1, 0, none⟩ = some (.slice none 0 0) := d2.cell 0; have f2 := d2.frozen 0; have n2 := Rw.ne r2 d2 (by decide); have s2 := (hs1.alloc (.cells #[.pointer (some ⟨W0.heap.size, 0, none⟩)] 115)).kept k2 (fun e => by simp [Value.ownBlock] at e); obtain ⟨a2, e2, rfl⟩ := Rw.shape r2) | (go_simp; go_at_call 64; refine HS.out.mono ?_; rintro e w1 ⟨rfl, hs1, k1, g3, z1⟩))
  all_goals
    go_wp2
    rw [rounds_succ]
    go_wp2
    go_ret2
    have KS : Kept (fun k => k = w.heap.size + 1) w2 (w2.setCell ⟨w.heap.size + 1, 0, none⟩ (.slice a2 (0 + 1) e2)) := (Kept.refl _ _).set _ _ (fun _ => rfl)
    refine ⟨w.heap.size + 1, W0.heap.size, _, rfl, by simpa using d2.set 0 _, Rw.kept r2 KS (fun k hk e => by subst e; exact n2 hk), s2.kept KS (s2.ne d2 (by decide)), by omega, ?_⟩
    exact Below.setCell (((hA.trans (k1.mono hA.size)).trans ((Kept.ofBelow (S := fun k => (Value.slice none 0 0).ownBlock = some k) ((Below.refl _ _).alloc (Nat.le_refl _) _)).trans k2 |>.toBelow (fun k _ e => by simp [Value.ownBlock] at e) (Nat.le_trans hA.size k1.size)))) (by simp) _
end Go.Proofs.YthpmcilljbmoiaaGreatDoor
