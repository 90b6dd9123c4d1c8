import Derived.Test.YthpmcilljbmoiaaGreatDoorZRp
import Derived.Test.YthpmcilljbmoiaaGreatDoorZ11
namespace Go.Proofs.YthpmcilljbmoiaaGreatDoor
open Go.RowKit

theorem RqV.iface {w : World} {B : Nat} {v : Value} {q : Req} (h : RqV w B v (some q)) : ∃ T x, v = .iface T x := by
  cases q with
  | find id ns t => obtain ⟨a, c, rfl, _⟩ := h; exact ⟨_, _, rfl⟩
  | read id ns => obtain ⟨a, c, rfl, _⟩ := h; exact ⟨_, _, rfl⟩
  | update id bs => obtain ⟨a, c, rfl, _⟩ := h; exact ⟨_, _, rfl⟩
  | get id key => obtain rfl : v = _ := h; exact ⟨_, _, rfl⟩
  | put id key val => obtain rfl : v = _ := h; exact ⟨_, _, rfl⟩
  | release id l => obtain rfl : v = _ := h; exact ⟨_, _, rfl⟩
/-- what stands inside a frame, as a request -/
def ps (s : ByteArray) : Option Req := if (rq (s, false)).2.2 = true ∨ 0 < (rq (s, false)).2.1.size then none else (rq (s, false)).1
def PsP (w : World) (q : Option Req) (r : Ending) (w' : World) : Prop := ∃ v, r = .returned (.tuple #[v, .bool q.isSome]) ∧ RqV w' w.heap.size v q ∧ Below w.heap.size w w'
theorem RqV.mono {w : World} {B B' : Nat} {v : Value} {q : Option Req} (h : RqV w B v q) (hB : B' ≤ B) : RqV w B' v q := by
  cases q with
  | none => exact h
  | some q =>
    cases q with
    | find id ns t => obtain ⟨a, c, h1, h2, h3⟩ := h; exact ⟨a, c, h1, h2, h3.mono hB⟩
    | read id ns => obtain ⟨a, c, h1, h2, h3⟩ := h; exact ⟨a, c, h1, h2, h3.mono hB⟩
    | update id bs => obtain ⟨a, c, h1, h2, h3⟩ := h; exact ⟨a, c, h1, h2, h3.mono hB⟩
    | get id key => exact h
    | put id key val => exact h
    | release id l => exact h

set_option maxRecDepth 100000 in
set_option maxHeartbeats 1000000 in
theorem parse_f (iv : Value) (s : ByteArray) (w : World) (h : Bs w 5 iv s) (hs : s.size ≤ 6000) :
    Calls Tryz.prog 129 #[iv] w fun r w' => PsP w (ps s) r w' := by
  obtain ⟨a, c, rfl, hc⟩ := h.shape
  have hA := Below.alloc (Below.refl w.heap.size w) (Nat.le_refl _) (.cells #[.slice a s.size c, .bool false] 293)
  have hr : Rf (w.alloc (.cells #[.slice a s.size c, .bool false] 293)) w.heap.size (s, false) := ⟨_, Blk.new _ _ _, h.below hA⟩
  have HR := request_f w.heap.size (s, false) _ hr hs
  have HC : Hid (Calls Tryz.prog 177 #[.pointer (some ⟨w.heap.size, 0, none⟩)] (w.alloc (.cells #[.slice a s.size c, .bool false] 293)) fun r w' => ∃ v, r = .returned v ∧ RqV w' w.heap.size v (rq (s, false)).1 ∧ Below w.heap.size w w' ∧ (∃ a1 c1, w'.cell? ⟨w.heap.size, 0, none⟩ = some (.slice a1 (rq (s, false)).2.1.size c1)) ∧ w'.cell? ⟨w.heap.size, 1, none⟩ = some (.bool (rq (s, false)).2.2)) := by
    refine HR.mono ?_
    rintro e w' ⟨v, q1, q2, ⟨rv, hB, hb⟩, q4⟩
    obtain ⟨a1, c1, rfl, _⟩ := hb.shape
    exact ⟨v, q1, q2.mono (by simp), hA.trans (q4.toBelow (fun k hk e => by omega) (by simp)), ⟨a1, c1, hB.cell 0⟩, hB.cell 1⟩
  unfold ps
  clear HR hr h
  generalize rq (s, false) = QX at *
  obtain ⟨q, X⟩ := QX
  obtain ⟨t, f⟩ := X
  simp only at HC ⊢
  cases q with
  | none =>
    have e : (if f = true ∨ 0 < t.size then none else (none : Option Req)) = none := by split <;> rfl
    rw [e]
    go_enter Tryz.func129, Tryz.ntmps129
    go_wp2_with (go_at_call 177; refine HC.out.mono ?_; rintro e w1 ⟨v, rfl, hV, hb, ⟨a1, c1, hc1⟩, hc2⟩; obtain rfl : v = .nilIface := hV)
    go_ret2
    exact ⟨_, rfl, rfl, hb⟩
  | some q =>
    cases f with
    | true =>
      rw [if_pos (.inl rfl)]
      go_enter Tryz.func129, Tryz.ntmps129
      go_wp2_with (go_at_call 177; refine HC.out.mono ?_; rintro e w1 ⟨v, rfl, hV, hb, ⟨a1, c1, hc1⟩, hc2⟩; obtain ⟨T, y, rfl⟩ := hV.iface; clear hV)
      go_ret2
      exact ⟨_, rfl, rfl, hb⟩
    | false =>
      by_cases ht : 0 < t.size
      · rw [if_pos (.inr ht)]
        have hti : (0 : Int) < (t.size : Int) := by omega
        go_enter Tryz.func129, Tryz.ntmps129
        go_wp2_with (go_at_call 177; refine HC.out.mono ?_; rintro e w1 ⟨v, rfl, hV, hb, ⟨a1, c1, hc1⟩, hc2⟩; obtain ⟨T, y, rfl⟩ := hV.iface; clear hV)
        go_ret2
        exact ⟨_, rfl, rfl, hb⟩
      · have e : ¬ (false = true ∨ 0 < t.size) := fun e => by
          rcases e with e | e
          · cases e
          · exact ht e
        rw [if_neg e]
        have hti : ¬ ((0 : Int) < (t.size : Int)) := by omega
        go_enter Tryz.func129, Tryz.ntmps129
        go_wp2_with (go_at_call 177; refine HC.out.mono ?_; rintro e w1 ⟨v, rfl, hV, hb, ⟨a1, c1, hc1⟩, hc2⟩; obtain ⟨T, y, hv⟩ := hV.iface; subst hv; replace hV := hide hV)
        go_ret2
        exact ⟨_, rfl, hV.out, hb⟩
end Go.Proofs.YthpmcilljbmoiaaGreatDoor
namespace Go.Proofs.YthpmcilljbmoiaaGreatDoor
open Go.RowKit

/-- a request under way, with its lease or none -/
abbrev Wl (w : World) (wb : Nat) (rq : Value) (lp : Option Addr) (d : Int) (bv : Value) : Prop := Blk w wb 175 #[rq, .pointer lp, .int .i64 d, bv]
abbrev updRq (id n c : Nat) (a : Option Addr) : Value := .iface 250 (.agg #[.int .i64 3, .int .i64 id, .slice a n c])
abbrev findRq (id n c t : Nat) (a : Option Addr) : Value := .iface 243 (.agg #[.int .i64 1, .int .i64 id, .slice a n c, .int .i64 t])
theorem ta_upd_Find (id n c : Nat) (a : Option Addr) (w : World) : (Instr.typeAssert (updRq id n c a) 172 243 true).run Tryz.prog w = .ok (.tuple #[.agg #[.int .i64 0, .int .i64 0, .slice none 0 0, .int .i64 0], .bool false]) w := by kernel_rfl
theorem ta_upd_Read (id n c : Nat) (a : Option Addr) (w : World) : (Instr.typeAssert (updRq id n c a) 172 246 true).run Tryz.prog w = .ok (.tuple #[.agg #[.int .i64 0, .int .i64 0, .slice none 0 0], .bool false]) w := by kernel_rfl
theorem ta_upd_Update (id n c : Nat) (a : Option Addr) (w : World) : (Instr.typeAssert (updRq id n c a) 172 250 true).run Tryz.prog w = .ok (.tuple #[.agg #[.int .i64 3, .int .i64 id, .slice a n c], .bool true]) w := by kernel_rfl
theorem ta_find_Find (id n c t : Nat) (a : Option Addr) (w : World) : (Instr.typeAssert (findRq id n c t a) 172 243 true).run Tryz.prog w = .ok (.tuple #[.agg #[.int .i64 1, .int .i64 id, .slice a n c, .int .i64 t], .bool true]) w := by kernel_rfl
theorem blobCells_len (l : List (ByteArray × ByteArray)) : (blobCells l).length = l.length * 2 := by
  induction l with
  | nil => rfl
  | cons b l ih => simp only [blobCells, List.length_cons] at *; omega
theorem blobCells_at (l : List (ByteArray × ByteArray)) : ∀ (i : Nat) (h : i < l.length), (blobCells l)[i * 2]? = some (.string l[i].1) ∧ (blobCells l)[i * 2 + 1]? = some (.string l[i].2) := by
  induction l with
  | nil => intro i h; simp at h
  | cons b l ih =>
    intro i h
    cases i with
    | zero => exact ⟨rfl, rfl⟩
    | succ i =>
      obtain ⟨h1, h2⟩ := ih i (by simpa using h)
      rw [show (i + 1) * 2 = i * 2 + 2 by omega]
      exact ⟨by simpa [blobCells] using h1, by simpa [blobCells] using h2⟩

set_option maxRecDepth 100000 in
set_option maxHeartbeats 1000000 in
/-- an item of an Update -/
theorem doItem_upd (db wb id n c d : Nat) (a : Option Addr) (bv : Value) (s told : ByteArray) (bl : List (ByteArray × ByteArray)) (S : Nat → Prop) (Q : World → Prop) (w : World) (hW : Wl w wb (updRq id n c a) none (d : Int) bv) (hb : Bs w 5 bv s) (hn : bl.length = n) (hd : d < bl.length) (hd16 : d < 100)
    (hR : Rw w 253 2 (.slice a n c) n (blobCells bl)) (ht : s.size + told.size ≤ 100000) (hSw : ¬ S wb) (hSb : ∀ k, bv.ownBlock = some k → ¬ S k)
    (hQ : ∀ w1 w2, Q w1 → Kept (fun k => k = wb ∨ bv.ownBlock = some k) w1 w2 → Q w2)
    (HG : Hid (∀ w1, Kept (fun k => k = wb) w w1 → Calls Tryz.prog 135 #[.pointer (some ⟨db, 0, none⟩), .agg #[.string bl[d].1, .string bl[d].2]] w1
      fun r w' => ∃ v, r = .returned v ∧ Bs w' 5 v told ∧ Q w' ∧ Kept S w1 w' ∧ Fresh w1.heap.size v)) :
    Calls Tryz.prog 92 #[.pointer (some ⟨db, 0, none⟩), .pointer (some ⟨wb, 0, none⟩)] w
      fun r w' => r = .returned (.tuple #[]) ∧ ∃ bv', Wl w' wb (updRq id n c a) none ((d : Int) + 1) bv' ∧ Bs w' 5 bv' (s ++ told) ∧ Q w' ∧ Kept (fun k => (k = wb ∨ bv.ownBlock = some k) ∨ S k) w w' ∧ Home w bv bv' := by
  have c0 : w.cell? ⟨wb, 0, none⟩ = some (updRq id n c a) := hW.cell 0
  have c2 : w.cell? ⟨wb, 2, none⟩ = some (.int .i64 (d : Int)) := hW.cell 2
  have f2 := hW.frozen 2
  have hlt := hW.lt
  have t1 := ta_upd_Find id n c a
  have t2 := ta_upd_Read id n c a
  have t3 := ta_upd_Update id n c a
  obtain ⟨_, h0, _⟩ | ⟨b, off, cap, cur, hsl, hB, h1, h2, h3, h4, h5⟩ := hR
  · omega
  injection hsl with ha _ hcap
  subst ha
  subst hcap
  have hbw : b ≠ wb := hB.ne hW (by decide)
  have hbl := hB.lt
  obtain ⟨g1, g2⟩ := blobCells_at bl d hd
  have hcell : w.cell? ⟨b, off + d * 2, none⟩ = some (.string bl[d].1) := by rw [hB.cell, h5 _ (by omega), g1]
  have hcell2 : w.cell? ⟨b, off + d * 2 + 1, none⟩ = some (.string bl[d].2) := by rw [hB.cell, Nat.add_assoc, h5 _ (by omega), g2]
  generalize bl[d].1 = nm at *
  generalize bl[d].2 = bs at *
  have hK1 : Kept (fun k => k = wb) w ((w.setCell ⟨wb, 2, none⟩ (.int .i64 ((d : Int) + 1))).alloc (.cells #[.int .i64 3, .int .i64 id, .slice (some ⟨b, off, none⟩) n c] 250)) := ((Kept.refl (fun k => k = wb) w).set _ _ (fun _ => rfl)).alloc _
  have hW1 : Wl ((w.setCell ⟨wb, 2, none⟩ (.int .i64 ((d : Int) + 1))).alloc (.cells #[.int .i64 3, .int .i64 id, .slice (some ⟨b, off, none⟩) n c] 250)) wb (updRq id n c (some ⟨b, off, none⟩)) none ((d : Int) + 1) bv := (by simpa using hW.set 2 (.int .i64 ((d : Int) + 1)) : Wl (w.setCell ⟨wb, 2, none⟩ (.int .i64 ((d : Int) + 1))) wb (updRq id n c (some ⟨b, off, none⟩)) none ((d : Int) + 1) bv).alloc _
  have hb1 := hb.kept hK1 (fun k hk e => by subst e; exact bs_ne_cn hb hW (by decide) hk)
  have hbne := bs_ne_cn hb hW (by decide)
  have hdi : (d : Int) < (n : Int) := by omega
  have hdi0 : (0 : Int) ≤ (d : Int) := by omega
  have HQ := hide hQ
  clear h3 h4 h5 hB h2 hd g1 g2 hQ
  generalize hrq : updRq id n c (some ⟨b, off, none⟩) = rq at *
  clear hrq
  go_enter Tryz.func92, Tryz.ntmps92
  go_wp2_with (first | (go_at_call 135; refine (HG.out _ hK1).mono ?_; rintro e w1 ⟨v, rfl, b1, q1, k1, f1⟩; have hW2 := hW1.kept k1 hSw; have hb2 := hb1.kept k1 hSb; have d3 : w1.cell? ⟨wb, 3, none⟩ = some bv := hW2.cell 3) | (at_builtin; refine wpList_append_bs w1 rfl (.tmp 92) (.tmp 93) 126 126 rfl 5 Tryz.underlying126 infoU8 bv s rfl hb2 _ told rfl (b1.src Tryz.underlying126) ?_ ?_))
  · omega
  rintro v2 w2 ⟨p1, p2, p3⟩
  have hW3 : Wl w2 wb rq none ((d : Int) + 1) bv := hW2.kept p2 hbne
  have d4 : w2.cell? ⟨wb, 3, none⟩ = some bv := hW3.cell 3
  have f4 := hW3.frozen 3
  have hne := bs_ne_cn p1 hW3 (by decide)
  obtain ⟨a2, e2, rfl, _⟩ := p1.shape
  go_wp2
  have hK2 : Kept (fun k => (k = wb ∨ bv.ownBlock = some k) ∨ S k) w w2 := ((hK1.mono (fun _ _ h => .inl (.inl h))).next k1 (fun _ _ h => .inr h)).next p2 (fun i _ h => .inl (.inr h))
  refine bodyPost_end (results_none rfl _ _ _) rfl ⟨rfl, _, by simpa using hW3.set 3 _, p1.kept ((Kept.refl (fun k => k = wb) w2).set _ _ (fun _ => rfl)) (fun k hk e => by subst e; exact hne hk), HQ.out _ _ (HQ.out _ _ q1 (p2.mono (fun _ _ h => .inr h))) ((Kept.refl _ _).set _ _ (fun _ => .inl rfl)), hK2.set _ _ (fun _ => .inl (.inl rfl)), ?_⟩
  exact (Home.refl w bv).trans (Nat.le_trans hK1.size k1.size) p3
end Go.Proofs.YthpmcilljbmoiaaGreatDoor
namespace Go.Proofs.YthpmcilljbmoiaaGreatDoor
open Go.RowKit

theorem method_upd_items (id n c : Nat) (a : Option Addr) (w : World) : (method 446 250 (.agg #[.int .i64 3, .int .i64 id, .slice a n c]) "Items").run Tryz.prog w = .ok (256, .agg #[.int .i64 3, .int .i64 id, .slice a n c]) w := by kernel_rfl
theorem method_upd_reply (id n c : Nat) (a : Option Addr) (w : World) : (method 446 250 (.agg #[.int .i64 3, .int .i64 id, .slice a n c]) "Reply").run Tryz.prog w = .ok (255, .agg #[.int .i64 3, .int .i64 id]) w := by kernel_rfl
theorem method_find_items (id n c t : Nat) (a : Option Addr) (w : World) : (method 446 243 (.agg #[.int .i64 1, .int .i64 id, .slice a n c, .int .i64 t]) "Items").run Tryz.prog w = .ok (181, .agg #[.slice a n c]) w := by kernel_rfl
theorem method_find_reply (id n c t : Nat) (a : Option Addr) (w : World) : (method 446 243 (.agg #[.int .i64 1, .int .i64 id, .slice a n c, .int .i64 t]) "Reply").run Tryz.prog w = .ok (255, .agg #[.int .i64 1, .int .i64 id]) w := by kernel_rfl
theorem method_rel_items (id l : Nat) (w : World) : (method 446 261 (.agg #[.int .i64 6, .int .i64 id, .int .i64 l]) "Items").run Tryz.prog w = .ok (257, .agg #[]) w := by kernel_rfl
theorem method_rel_reply (id l : Nat) (w : World) : (method 446 261 (.agg #[.int .i64 6, .int .i64 id, .int .i64 l]) "Reply").run Tryz.prog w = .ok (255, .agg #[.int .i64 6, .int .i64 id]) w := by kernel_rfl
set_option maxRecDepth 100000 in
theorem items_upd (id n c : Nat) (a : Option Addr) (w : World) : Calls Tryz.prog 256 #[.agg #[.int .i64 3, .int .i64 id, .slice a n c]] w fun r w' => r = .returned (.int .i64 n) ∧ Below w.heap.size w w' := by
  go_enter Tryz.func256, Tryz.ntmps256
  go_wp2
  go_ret
  exact ⟨rfl, Below.alloc (Below.refl _ _) (Nat.le_refl _) _⟩

set_option maxRecDepth 100000 in
set_option maxHeartbeats 1000000 in
theorem work_upd (db id n c : Nat) (a : Option Addr) (w : World) (hn : n < 256) :
    Calls Tryz.prog 132 #[.pointer (some ⟨db, 0, none⟩), updRq id n c a] w
      fun r w' => r = .returned (.pointer (some ⟨w.heap.size, 0, none⟩)) ∧ ∃ bv, Wl w' w.heap.size (updRq id n c a) none 0 bv ∧ Bs w' 5 bv (b8 n) ∧ Below w.heap.size w w' ∧ Fresh w.heap.size bv := by
  have t1 := ta_upd_Find id n c a
  have t2 := ta_upd_Read id n c a
  have t3 := ta_upd_Update id n c a
  have hm := method_upd_items id n c a
  have hA := Below.alloc (Below.refl w.heap.size w) (Nat.le_refl _) (.cells #[updRq id n c a, .pointer none, .int .i64 0, .slice none 0 0] 175)
  have hW := Blk.new w 175 #[updRq id n c a, .pointer none, .int .i64 0, .slice none 0 0]
  have HI : Hid (∀ w1, Below (w.heap.size + 1) (w.alloc (.cells #[updRq id n c a, .pointer none, .int .i64 0, .slice none 0 0] 175)) w1 → Calls Tryz.prog 256 #[.agg #[.int .i64 3, .int .i64 id, .slice a n c]] w1 fun r w' => r = .returned (.int .i64 n) ∧ Wl w' w.heap.size (updRq id n c a) none 0 (.slice none 0 0) ∧ Below w.heap.size w w') := fun w1 h1 => by
    refine (items_upd id n c a w1).mono ?_
    rintro e w' ⟨q1, q2⟩
    have hs : w.heap.size + 1 ≤ w1.heap.size := by have := h1.size; simpa using this
    exact ⟨q1, (hW.below h1 (by omega)).below q2 (by omega), hA.trans ((h1.mono (by omega)).trans (q2.mono (by omega)))⟩
  go_enter Tryz.func132, Tryz.ntmps132
  go_wp2_with (go_at_call 256; refine (HI.out _ (Below.refl _ _)).mono ?_; rintro e w1 ⟨rfl, hW1, k1⟩; have d3 : w1.cell? ⟨w.heap.size, 3, none⟩ = some (.slice none 0 0) := hW1.cell 3; have f3 := hW1.frozen 3; have l1 := hW1.lt)
  go_ret
  have hone := Bs.one (w1.setCell ⟨w.heap.size, 3, none⟩ (.slice (some ⟨w1.heap.size, 0, none⟩) 1 1)) n n rfl hn
  rw [World.size_setCell] at hone
  have hs := k1.size
  have hW2 : Wl (w1.setCell ⟨w.heap.size, 3, none⟩ (.slice (some ⟨w1.heap.size, 0, none⟩) 1 1)) w.heap.size (updRq id n c a) none 0 (.slice (some ⟨w1.heap.size, 0, none⟩) 1 1) := by simpa using hW1.set 3 (.slice (some ⟨w1.heap.size, 0, none⟩) 1 1)
  refine ⟨rfl, _, hW2.alloc _, hone, (k1.setCell (Nat.le_refl _) _).alloc (by rw [World.size_setCell]; exact hs) _, fun k hk => ?_⟩
  simp [Value.ownBlock] at hk
  omega
end Go.Proofs.YthpmcilljbmoiaaGreatDoor
