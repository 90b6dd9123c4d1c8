import Derived.Test.YthpmcilljbmoiaaGreatDoorDoItem
namespace Go.Proofs.YthpmcilljbmoiaaGreatDoor
open Go.RowKit

theorem method_get_reply (id : Nat) (key : ByteArray) (w : World) : (method 446 256 (.agg #[.int .i64 4, .int .i64 id, .string key]) "Reply").run Tryz.prog w = .ok (255, .agg #[.int .i64 4, .int .i64 id]) w := by kernel_rfl

set_option maxRecDepth 100000 in
set_option maxHeartbeats 400000 in
theorem work_plain (db : Nat) (T : TypeId) (x rq : Value) (hrq : rq = .iface T x) (w : World)
    (t1 : ∀ w, (Instr.typeAssert rq 172 243 true).run Tryz.prog w = .ok (.tuple #[.agg #[.int .i64 0, .int .i64 0, .slice none 0 0, .int .i64 0], .bool false]) w)
    (t2 : ∀ w, (Instr.typeAssert rq 172 246 true).run Tryz.prog w = .ok (.tuple #[.agg #[.int .i64 0, .int .i64 0, .slice none 0 0], .bool false]) w)
    (t3 : ∀ w, (Instr.typeAssert rq 172 250 true).run Tryz.prog w = .ok (.tuple #[.agg #[.int .i64 0, .int .i64 0, .slice none 0 0], .bool false]) w) :
    Calls Tryz.prog 132 #[.pointer (some ⟨db, 0, none⟩), rq] w
      fun r w' => r = .returned (.pointer (some ⟨w.heap.size, 0, none⟩)) ∧ Wk w' w.heap.size rq 0 (.slice none 0 0) ∧ Below w.heap.size w w' := by
  subst hrq
  go_enter Tryz.func132, Tryz.ntmps132
  go_wp2
  go_ret
  exact ⟨rfl, Blk.new _ _ _, Below.alloc (Below.refl _ _) (Nat.le_refl _) _⟩

theorem method_put_reply (id : Nat) (key val : ByteArray) (w : World) : (method 446 258 (.agg #[.int .i64 5, .int .i64 id, .string key, .string val]) "Reply").run Tryz.prog w = .ok (255, .agg #[.int .i64 5, .int .i64 id]) w := by kernel_rfl
theorem method_get_items (id : Nat) (key : ByteArray) (w : World) : (method 446 256 (.agg #[.int .i64 4, .int .i64 id, .string key]) "Items").run Tryz.prog w = .ok (257, .agg #[]) w := by kernel_rfl
theorem method_put_items (id : Nat) (key val : ByteArray) (w : World) : (method 446 258 (.agg #[.int .i64 5, .int .i64 id, .string key, .string val]) "Items").run Tryz.prog w = .ok (257, .agg #[]) w := by kernel_rfl

set_option maxRecDepth 100000 in
set_option maxHeartbeats 4000000 in
theorem reply_of (db kb wb kind id : Nat) (T : TypeId) (x : Value) (wv gv cl bv : Value) (d : Int) (going body : ByteArray) (w : World)
    (hm : ∀ w, (method 446 T x "Reply").run Tryz.prog w = .ok (255, .agg #[.int .i64 kind, .int .i64 id]) w)
    (hB : Cn w kb wv gv (.pointer (some ⟨wb, 0, none⟩)) cl) (hW : Wk w wb (.iface T x) d bv) (hg : Bs w 5 gv going) (hb : Bs w 5 bv body) (hk : kind < 100) (hi : id < 65536) (hs : body.size ≤ 2500) (hgs : going.size ≤ 1000) :
    Calls Tryz.prog 93 #[.pointer (some ⟨db, 0, none⟩), .pointer (some ⟨kb, 0, none⟩)] w
      fun r w' => r = .returned (.tuple #[]) ∧ ∃ gv', Cn w' kb wv gv' (.pointer none) cl ∧ Bs w' 5 gv' (going ++ frm (kind + 128) id body) ∧ Kept (fun k => k = kb ∨ gv.ownBlock = some k) w w' ∧ Home w gv gv' := by
  have c2 : w.cell? ⟨kb, 2, none⟩ = some (.pointer (some ⟨wb, 0, none⟩)) := hB.cell 2
  have d0 : w.cell? ⟨wb, 0, none⟩ = some (.iface T x) := hW.cell 0
  have d1 : w.cell? ⟨wb, 1, none⟩ = some (.pointer none) := hW.cell 1
  have d3 : w.cell? ⟨wb, 3, none⟩ = some bv := hW.cell 3
  have HR := hide (reply_any kind id bv body (World.drew w) hb hk hi hs)
  have HS : Hid (∀ fv w1, Bs w1 5 fv (frm (kind + 128) id body) → Below w.heap.size (World.drew w) w1 → Calls Tryz.prog 130 #[.pointer (some ⟨kb, 1, none⟩), fv] w1
      fun r w' => r = .returned (.tuple #[]) ∧ ∃ gv', Cn w' kb wv gv' (.pointer (some ⟨wb, 0, none⟩)) cl ∧ Bs w' 5 gv' (going ++ frm (kind + 128) id body) ∧ Kept (fun k => k = kb ∨ gv.ownBlock = some k) w w' ∧ Home w gv gv') := fun fv w1 hf hk1 => by
    refine (send_out kb wv gv _ cl fv going _ w1 (hB.drew.below hk1 hB.lt) (Rw.kept (Rw.drew hg) (Kept.ofBelow (S := fun _ => False) hk1) (fun _ _ h => h)) hf (by rw [frm_size]; omega)).mono ?_
    rintro e w' ⟨rfl, gv', h1, h2, h3, h4⟩
    refine ⟨rfl, gv', h1, h2, ((Kept.refl _ w).drew.below hk1).trans h3, ?_⟩
    exact (Home.refl w gv).trans hk1.size h4
  clear hs hgs hi hk hg hb
  go_enter Tryz.func93, Tryz.ntmps93
  go_wp2
  go_region_with (first | (go_at_call 255; refine HR.out.mono ?_; rintro e w1 ⟨fv, rfl, b1, k1, f1⟩) | (go_at_call 130; refine (HS.out fv w1 b1 k1).mono ?_; rintro e w2 ⟨rfl, gv2, h2, b2, k2, f2⟩; have e2 : w2.cell? ⟨kb, 2, none⟩ = some (.pointer (some ⟨wb, 0, none⟩)) := h2.cell 2; have e3 := h2.frozen 2))
  all_goals
    go_wp2
    have hne := bs_ne_cn b2 h2 (by decide)
    exact bodyPost_end (results_none rfl _ _ _) rfl ⟨rfl, gv2, by simpa using h2.set 2 (.pointer none), b2.kept ((Kept.refl (fun k => k = kb) w2).set _ _ (fun _ => rfl)) (fun k hk e => by subst e; exact hne hk), k2.set _ _ (fun _ => .inl rfl), f2⟩
end Go.Proofs.YthpmcilljbmoiaaGreatDoor
