import Derived.Test.YthpmcilljbmoiaaGreatDoorFrame
import Derived.Test.YthpmcilljbmoiaaGreatDoorDelete
namespace Go.Proofs.YthpmcilljbmoiaaGreatDoor
open Go.RowKit

theorem Bs.one (w : World) (k : Nat) (z : Int) (hz : z = (k : Int)) (hk : k < 256) : Bs (w.alloc (.cells #[.int .u8 z] 5)) 5 (.slice (some ⟨w.heap.size, 0, none⟩) 1 1) (b8 k) := by
  refine .inr ⟨w.heap.size, 0, 1, _, rfl, Blk.new _ _ _, by rw [b8_size]; omega, by decide, by simp, rfl, fun j hj => ?_⟩
  rw [b8_size] at hj
  have : j = 0 := by omega
  subst this
  subst hz
  simp [byteCells, b8, UInt8.toNat_ofNat_of_lt' hk]

set_option maxRecDepth 100000 in
theorem yes_any (w : World) :
    Calls Tryz.prog 186 #[] w
      fun r w' => ∃ v, r = .returned v ∧ Bs w' 5 v (b8 1) ∧ Below w.heap.size w w' ∧ Fresh w.heap.size v := by
  go_enter Tryz.func186, Tryz.ntmps186
  go_wp2
  go_ret
  exact ⟨_, rfl, Bs.one w 1 1 rfl (by decide), Below.alloc (Below.refl _ _) (Nat.le_refl _) _, fun k hk => by simp [Value.ownBlock] at hk; omega⟩
set_option maxRecDepth 100000 in
theorem no_any (w : World) :
    Calls Tryz.prog 183 #[] w
      fun r w' => ∃ v, r = .returned v ∧ Bs w' 5 v (b8 0) ∧ Below w.heap.size w w' ∧ Fresh w.heap.size v := by
  go_enter Tryz.func183, Tryz.ntmps183
  go_wp2
  go_ret
  exact ⟨_, rfl, Bs.one w 0 0 rfl (by decide), Below.alloc (Below.refl _ _) (Nat.le_refl _) _, fun k hk => by simp [Value.ownBlock] at hk; omega⟩

set_option maxRecDepth 100000 in
set_option maxHeartbeats 400000 in
theorem get_none (db : Nat) (t : TypeId) (cs : Array Value) (av : Value) (acts : List (ByteArray × ByteArray)) (key : ByteArray) (w : World) (hB : Blk w db t cs) (hc : cs[4]? = some av) (ha : Ac w av acts) (hn : acts.length ≤ 33) (hx : actIx acts key = -1) :
    Calls Tryz.prog 136 #[.pointer (some ⟨db, 0, none⟩), .string key] w
      fun r w' => ∃ v, r = .returned v ∧ Bs w' 5 v (b8 0) ∧ Below w.heap.size w w' ∧ Fresh w.heap.size v := by
  have HC := hide (bookGet_none db 4 av acts key w hB.lt ((hB.cell 4).trans hc) ha hn hx)
  have HY := hide no_any
  clear ha hx hc
  go_enter Tryz.func136, Tryz.ntmps136
  go_wp2_with (first | (go_at_call 188; refine HC.out.mono ?_; rintro e w1 ⟨rfl, hb1⟩) | (go_at_call 183; refine (HY.out _).mono ?_; rintro e w2 ⟨v, rfl, b2, k2, f2⟩))
  go_ret
  exact ⟨v, rfl, b2, hb1.trans (k2.mono hb1.size), f2.mono hb1.size⟩

set_option maxRecDepth 100000 in
set_option maxHeartbeats 400000 in
theorem get_at (db : Nat) (t : TypeId) (cs : Array Value) (av : Value) (acts : List (ByteArray × ByteArray)) (key val : ByteArray) (i : Nat) (hi : i < acts.length) (w : World) (hB : Blk w db t cs) (hc : cs[4]? = some av) (ha : Ac w av acts) (hn : acts.length ≤ 33) (hx : actIx acts key = i) (hv : acts[i].2 = val) (hvs : val.size ≤ 50) :
    Calls Tryz.prog 136 #[.pointer (some ⟨db, 0, none⟩), .string key] w
      fun r w' => ∃ v, r = .returned v ∧ Bs w' 5 v (b8 1 ++ b8 val.size ++ val) ∧ Below w.heap.size w w' ∧ Fresh w.heap.size v := by
  have HC := hide (bookGet_at db 4 av acts key i hi w hB.lt ((hB.cell 4).trans hc) ha hn hx)
  rw [hv] at HC
  have HY := hide yes_any
  have HA : Hid (∀ v s w1, s.size ≤ 50000 → Bs w1 5 v s → Below w.heap.size w w1 → Fresh w.heap.size v → Calls Tryz.prog 112 #[v, .int .i64 val.size, .int .i64 1] w1
      fun r w' => ∃ v', r = .returned v' ∧ Bs w' 5 v' (s ++ b8 val.size) ∧ Below w.heap.size w w' ∧ Fresh w.heap.size v') := fun v s w1 hs h hb hf => by
    refine (append1_any v s val.size w1 (by omega) hs h).mono ?_
    rintro e w' ⟨v', h1, h2, h3, h4⟩
    exact ⟨v', h1, h2, hb.trans (hf.below h3 hb.size), hf.home h4 hb.size⟩
  clear ha hx hc hv
  go_enter Tryz.func136, Tryz.ntmps136
  go_wp2_with (first | (go_at_call 188; refine HC.out.mono ?_; rintro e w1 ⟨rfl, hb1⟩) | (go_at_call 186; refine (HY.out _).mono ?_; rintro e w2 ⟨v2, rfl, b2, k2, f2⟩; have k2' := hb1.trans (k2.mono hb1.size); have f2' := f2.mono hb1.size) | (go_at_call 112; refine (HA.out v2 _ w2 (by rw [b8_size]; decide) b2 k2' f2').mono ?_; rintro e w3 ⟨v3, rfl, b3, k3, h3⟩) | (at_builtin; refine wpList_append_bs w3 rfl (.tmp 21) (.tmp 22) 126 9 rfl 5 Tryz.underlying126 infoU8 v3 _ rfl b3 _ val rfl (Src.ofString w3 Tryz.underlying9 val) ?_ ?_))
  · simp only [ByteArray.size_append, b8_size]; omega
  intro v4 w4 h4
  go_wp2
  go_ret
  obtain ⟨q1, q2, q3⟩ := h4
  exact ⟨v4, rfl, q1, k3.trans (h3.below q2 k3.size), h3.home q3 k3.size⟩
end Go.Proofs.YthpmcilljbmoiaaGreatDoor
