import Derived.Test.YthpmcilljbmoiaaGreatDoorItems
namespace Go.Proofs.YthpmcilljbmoiaaGreatDoor
open Go.RowKit

/-- a request that is under way, without a lease -/
abbrev Wk (w : World) (wb : Nat) (rq : Value) (d : Int) (bv : Value) : Prop := Blk w wb 175 #[rq, .pointer none, .int .i64 d, bv]
abbrev getRq (id : Nat) (key : ByteArray) : Value := .iface 256 (.agg #[.int .i64 4, .int .i64 id, .string key])
abbrev putRq (id : Nat) (key val : ByteArray) : Value := .iface 258 (.agg #[.int .i64 5, .int .i64 id, .string key, .string val])

theorem ta_get_Find (id : Nat) (key : ByteArray) (w : World) : (Instr.typeAssert (getRq id key) 172 243 true).run Tryz.prog w = .ok (.tuple #[.agg #[.int .i64 0, .int .i64 0, .slice none 0 0, .int .i64 0], .bool false]) w := by kernel_rfl
theorem ta_get_Read (id : Nat) (key : ByteArray) (w : World) : (Instr.typeAssert (getRq id key) 172 246 true).run Tryz.prog w = .ok (.tuple #[.agg #[.int .i64 0, .int .i64 0, .slice none 0 0], .bool false]) w := by kernel_rfl
theorem ta_get_Update (id : Nat) (key : ByteArray) (w : World) : (Instr.typeAssert (getRq id key) 172 250 true).run Tryz.prog w = .ok (.tuple #[.agg #[.int .i64 0, .int .i64 0, .slice none 0 0], .bool false]) w := by kernel_rfl
theorem ta_get_Get (id : Nat) (key : ByteArray) (w : World) : (Instr.typeAssert (getRq id key) 172 256 true).run Tryz.prog w = .ok (.tuple #[.agg #[.int .i64 4, .int .i64 id, .string key], .bool true]) w := by kernel_rfl
theorem ta_put_Find (id : Nat) (key val : ByteArray) (w : World) : (Instr.typeAssert (putRq id key val) 172 243 true).run Tryz.prog w = .ok (.tuple #[.agg #[.int .i64 0, .int .i64 0, .slice none 0 0, .int .i64 0], .bool false]) w := by kernel_rfl
theorem ta_put_Read (id : Nat) (key val : ByteArray) (w : World) : (Instr.typeAssert (putRq id key val) 172 246 true).run Tryz.prog w = .ok (.tuple #[.agg #[.int .i64 0, .int .i64 0, .slice none 0 0], .bool false]) w := by kernel_rfl
theorem ta_put_Update (id : Nat) (key val : ByteArray) (w : World) : (Instr.typeAssert (putRq id key val) 172 250 true).run Tryz.prog w = .ok (.tuple #[.agg #[.int .i64 0, .int .i64 0, .slice none 0 0], .bool false]) w := by kernel_rfl
theorem ta_put_Get (id : Nat) (key val : ByteArray) (w : World) : (Instr.typeAssert (putRq id key val) 172 256 true).run Tryz.prog w = .ok (.tuple #[.agg #[.int .i64 0, .int .i64 0, .string ⟨#[]⟩], .bool false]) w := by kernel_rfl
theorem ta_put_Put (id : Nat) (key val : ByteArray) (w : World) : (Instr.typeAssert (putRq id key val) 172 258 true).run Tryz.prog w = .ok (.tuple #[.agg #[.int .i64 5, .int .i64 id, .string key, .string val], .bool true]) w := by kernel_rfl

set_option maxRecDepth 100000 in
set_option maxHeartbeats 400000 in
theorem doItem_get (db wb id : Nat) (key told : ByteArray) (w : World) (hW : Wk w wb (getRq id key) 0 (.slice none 0 0)) (ht : told.size ≤ 1000)
    (HG : Hid (∀ w1, Kept (fun k => k = wb) w w1 → Calls Tryz.prog 136 #[.pointer (some ⟨db, 0, none⟩), .string key] w1
      fun r w' => ∃ v, r = .returned v ∧ Bs w' 5 v told ∧ Below w1.heap.size w1 w' ∧ Fresh w1.heap.size v)) :
    Calls Tryz.prog 92 #[.pointer (some ⟨db, 0, none⟩), .pointer (some ⟨wb, 0, none⟩)] w
      fun r w' => r = .returned (.tuple #[]) ∧ ∃ bv, Wk w' wb (getRq id key) 1 bv ∧ Bs w' 5 bv told ∧ Kept (fun k => k = wb) w w' ∧ Fresh w.heap.size bv := by
  have c0 : w.cell? ⟨wb, 0, none⟩ = some (getRq id key) := hW.cell 0
  have c2 : w.cell? ⟨wb, 2, none⟩ = some (.int .i64 0) := hW.cell 2
  have f2 := hW.frozen 2
  have hlt := hW.lt
  have t1 := ta_get_Find id key
  have t2 := ta_get_Read id key
  have t3 := ta_get_Update id key
  have t4 := ta_get_Get id key
  have hK1 : Kept (fun k => k = wb) w ((w.setCell ⟨wb, 2, none⟩ (.int .i64 1)).alloc (.cells #[.int .i64 4, .int .i64 id, .string key] 256)) := ((Kept.refl (fun k => k = wb) w).set _ _ (fun _ => rfl)).alloc _
  have hW1 : Wk ((w.setCell ⟨wb, 2, none⟩ (.int .i64 1)).alloc (.cells #[.int .i64 4, .int .i64 id, .string key] 256)) wb (getRq id key) 1 (.slice none 0 0) := (by simpa using hW.set 2 (.int .i64 1) : Wk (w.setCell ⟨wb, 2, none⟩ (.int .i64 1)) wb (getRq id key) 1 (.slice none 0 0)).alloc _
  generalize hrq : getRq id key = rq at *
  clear hrq
  go_enter Tryz.func92, Tryz.ntmps92
  go_wp2_with (first | (go_at_call 136; refine (HG.out _ hK1).mono ?_; rintro e w1 ⟨v, rfl, b1, k1, f1⟩; have hW2 := hW1.below k1 hW1.lt; have d3 : w1.cell? ⟨wb, 3, none⟩ = some (.slice none 0 0) := hW2.cell 3) | (at_builtin; refine wpList_append_bs w1 rfl (.tmp 92) (.tmp 93) 126 126 rfl 5 Tryz.underlying126 infoU8 (.slice none 0 0) ⟨#[]⟩ rfl (Bs.nil w1 _) _ told rfl (b1.src Tryz.underlying126) ?_ ?_))
  · have : (⟨#[]⟩ : ByteArray).size = 0 := rfl
    omega
  rintro v2 w2 ⟨q1, q2, q3⟩
  rw [empty_app] at q1
  have hW3 : Wk w2 wb rq 1 (.slice none 0 0) := hW2.kept q2 (fun e => by simp [Value.ownBlock] at e)
  have d4 : w2.cell? ⟨wb, 3, none⟩ = some (.slice none 0 0) := hW3.cell 3
  have f4 := hW3.frozen 3
  have hne := bs_ne_cn q1 hW3 (by decide)
  obtain ⟨a2, e2, rfl, _⟩ := q1.shape
  go_wp2
  have hK2 : Kept (fun k => k = wb) w w2 := (hK1.below k1).next q2 (fun i _ h => by simp [Value.ownBlock] at h)
  refine bodyPost_end (results_none rfl _ _ _) rfl ⟨rfl, _, by simpa using hW3.set 3 _, q1.kept ((Kept.refl (fun k => k = wb) w2).set _ _ (fun _ => rfl)) (fun k hk e => by subst e; exact hne hk), hK2.set _ _ (fun _ => rfl), ?_⟩
  exact (Fresh.nil _ 0 0).home q3 (Nat.le_trans hK1.size k1.size)

set_option maxRecDepth 100000 in
set_option maxHeartbeats 400000 in
theorem doItem_put (db wb id : Nat) (key val : ByteArray) (R : World → World → Prop) (w : World) (hW : Wk w wb (putRq id key val) 0 (.slice none 0 0))
    (HP : Hid (∀ w1, Kept (fun k => k = wb) w w1 → Wk w1 wb (putRq id key val) 1 (.slice none 0 0) → Calls Tryz.prog 137 #[.pointer (some ⟨db, 4, none⟩), .string key, .string val] w1
      fun r w' => r = .returned (.tuple #[]) ∧ R w1 w' ∧ Wk w' wb (putRq id key val) 1 (.slice none 0 0))) :
    Calls Tryz.prog 92 #[.pointer (some ⟨db, 0, none⟩), .pointer (some ⟨wb, 0, none⟩)] w
      fun r w' => r = .returned (.tuple #[]) ∧ ∃ w1 w2 bv, Kept (fun k => k = wb) w w1 ∧ R w1 w2 ∧ Kept (fun k => k = wb) w2 w' ∧ Wk w' wb (putRq id key val) 1 bv ∧ Bs w' 5 bv ⟨#[]⟩ ∧ Fresh w2.heap.size bv := by
  have c0 : w.cell? ⟨wb, 0, none⟩ = some (putRq id key val) := hW.cell 0
  have c2 : w.cell? ⟨wb, 2, none⟩ = some (.int .i64 0) := hW.cell 2
  have f2 := hW.frozen 2
  have hlt := hW.lt
  have t1 := ta_put_Find id key val
  have t2 := ta_put_Read id key val
  have t3 := ta_put_Update id key val
  have t4 := ta_put_Get id key val
  have t5 := ta_put_Put id key val
  have hK1 : Kept (fun k => k = wb) w ((w.setCell ⟨wb, 2, none⟩ (.int .i64 1)).alloc (.cells #[.int .i64 5, .int .i64 id, .string key, .string val] 258)) := ((Kept.refl (fun k => k = wb) w).set _ _ (fun _ => rfl)).alloc _
  have hW1 : Wk ((w.setCell ⟨wb, 2, none⟩ (.int .i64 1)).alloc (.cells #[.int .i64 5, .int .i64 id, .string key, .string val] 258)) wb (putRq id key val) 1 (.slice none 0 0) := (by simpa using hW.set 2 (.int .i64 1) : Wk (w.setCell ⟨wb, 2, none⟩ (.int .i64 1)) wb (putRq id key val) 1 (.slice none 0 0)).alloc _
  generalize hrq : putRq id key val = rq at *
  clear hrq
  go_enter Tryz.func92, Tryz.ntmps92
  go_wp2
  have hd := Blk.at (w.setCell ⟨wb, 2, none⟩ (.int .i64 1)) 258 #[.int .i64 5, .int .i64 id, .string key, .string val] w.heap.size (World.size_setCell _ _ _).symm
  generalize (w.setCell ⟨wb, 2, none⟩ (.int .i64 1)).alloc (.cells #[.int .i64 5, .int .i64 id, .string key, .string val] 258) = W1 at *
  have g2 : W1.cell? ⟨w.heap.size, 2, none⟩ = some (.string key) := hd.cell 2
  have g3 : W1.cell? ⟨w.heap.size, 3, none⟩ = some (.string val) := hd.cell 3
  clear hd c0 c2 f2 t1 t2 t3 t4 t5 hW
  go_region_with (go_at_call 137; refine (HP.out (World.drew W1) hK1.drew hW1).mono ?_; rintro e w2 ⟨rfl, hR, hW2⟩; have d3 : w2.cell? ⟨wb, 3, none⟩ = some (.slice none 0 0) := hW2.cell 3)
  all_goals
    go_wp2_with (at_builtin; refine wpList_append_bs w2 rfl (.tmp 92) (.tmp 93) 126 126 rfl 5 Tryz.underlying126 infoU8 (.slice none 0 0) ⟨#[]⟩ rfl (Bs.nil w2 _) _ ⟨#[]⟩ rfl (Src.ofNil w2 Tryz.underlying126 0) ?_ ?_)
    · decide
    rintro v3 w3 ⟨q1, q2, q3⟩
    rw [empty_app] at q1
    have hW3 : Wk w3 wb rq 1 (.slice none 0 0) := hW2.kept q2 (fun e => by simp [Value.ownBlock] at e)
    have d4 : w3.cell? ⟨wb, 3, none⟩ = some (.slice none 0 0) := hW3.cell 3
    have f4 := hW3.frozen 3
    have hne := bs_ne_cn q1 hW3 (by decide)
    obtain ⟨a2, e2, rfl⟩ := q1.shape0
    go_wp2
    refine bodyPost_end (results_none rfl _ _ _) rfl ⟨rfl, _, w2, _, hK1.drew, hR, (q2.mono (fun i _ h => by simp [Value.ownBlock] at h)).set _ _ (fun _ => rfl), by simpa using hW3.set 3 _, q1.kept ((Kept.refl (fun k => k = wb) w3).set _ _ (fun _ => rfl)) (fun k hk e => by subst e; exact hne hk), ?_⟩
    exact (Fresh.nil _ 0 0).home q3 (Nat.le_refl _)
end Go.Proofs.YthpmcilljbmoiaaGreatDoor
