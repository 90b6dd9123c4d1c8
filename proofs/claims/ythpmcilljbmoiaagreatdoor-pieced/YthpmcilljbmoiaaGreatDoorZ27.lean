import Derived.Test.YthpmcilljbmoiaaGreatDoorZ26
import Derived.Deep.CutBlock
import Derived.Deep.DeepCutAuto
import Derived.Deep.RegionWith
import Derived.Orders
namespace Go.Proofs.YthpmcilljbmoiaaGreatDoor
open Go.RowKit

set_option maxRecDepth 100000 in
set_option maxHeartbeats 2000000 in
/-- a Find is begun -/
theorem work_find (db id n c tt : Nat) (a : Option Addr) (S : Nat → Prop) (Q : Option Addr → World → Prop) (tl : Option Addr → ByteArray) (w : World) (hn : n < 256) (hS : ∀ k, S k → k < w.heap.size)
    (HBg : Hid (∀ w1, Below w.heap.size w w1 → w.heap.size < w1.heap.size → Calls Tryz.prog 179 #[.pointer (some ⟨db, 2, none⟩), .int .i64 tt] w1 fun r w' => ∃ lp, r = .returned (.pointer lp) ∧ Q lp w' ∧ Kept S w1 w'))
    (HTl : Hid (∀ lp w1, Q lp w1 → Calls Tryz.prog 180 #[.pointer lp] w1 fun r w' => ∃ v, r = .returned v ∧ Bs w' 5 v (tl lp) ∧ Below w1.heap.size w1 w' ∧ Fresh w1.heap.size v))
    (hQ : ∀ lp w1 w2, Q lp w1 → Kept (fun k => k = w.heap.size) w1 w2 → Q lp w2) (htl : ∀ lp, (tl lp).size ≤ 100) :
    Calls Tryz.prog 132 #[.pointer (some ⟨db, 0, none⟩), findRq id n c tt a] w
      fun r w' => r = .returned (.pointer (some ⟨w.heap.size, 0, none⟩)) ∧ ∃ lp bv, Wl w' w.heap.size (findRq id n c tt a) lp 0 bv ∧ Bs w' 5 bv (tl lp ++ b8 n) ∧ Q lp w' ∧ Kept S w w' ∧ Fresh w.heap.size bv := by
  have t1 := ta_find_Find id n c tt a
  obtain ⟨W1, hW1e⟩ : ∃ W1, W1 = (w.alloc (.cells #[findRq id n c tt a, .pointer none, .int .i64 0, .slice none 0 0] 175)).alloc (.cells #[.int .i64 1, .int .i64 id, .slice a n c, .int .i64 tt] 243) := ⟨_, rfl⟩
  have hA : Below w.heap.size w W1 := by rw [hW1e]; exact ((Below.refl _ _).alloc (Nat.le_refl _) _).alloc (by simp) _
  have hW : Wl W1 w.heap.size (findRq id n c tt a) none 0 (.slice none 0 0) := by rw [hW1e]; exact (Blk.new _ _ _).alloc _
  have hF : Blk W1 (w.heap.size + 1) 243 #[.int .i64 1, .int .i64 id, .slice a n c, .int .i64 tt] := by rw [hW1e]; exact Blk.at _ _ _ _ (by simp)
  have HB1 : Hid (Calls Tryz.prog 179 #[.pointer (some ⟨db, 2, none⟩), .int .i64 tt] (World.drew W1) fun r w' => ∃ lp, r = .returned (.pointer lp) ∧ Q lp w' ∧ Kept S w w' ∧ Wl w' w.heap.size (findRq id n c tt a) none 0 (.slice none 0 0) ∧ Blk w' (w.heap.size + 1) 243 #[.int .i64 1, .int .i64 id, .slice a n c, .int .i64 tt] ∧ w'.cell? ⟨w.heap.size, 1, none⟩ = some (.pointer none) ∧ w'.frozen? ⟨w.heap.size, 1, none⟩ = false) := by
    refine (HBg.out _ hA.drew hW.lt).mono ?_
    rintro r w' ⟨lp, q1, q2, q3⟩
    have hw' := hW.drew.kept q3 (fun e => by have := hS _ e; omega)
    exact ⟨lp, q1, q2, (Kept.ofBelow hA.drew).next q3 (fun _ _ h => h), hw', hF.drew.kept q3 (fun e => by have := hS _ e; omega), hw'.cell 1, hw'.frozen 1⟩
  have HQ := hide hQ
  clear HBg hQ
  go_enter Tryz.func132, Tryz.ntmps132
  go_upto_region 5 with fail
  rw [← hW1e]
  clear hW1e
  have c2 : W1.cell? ⟨w.heap.size + 1, 3, none⟩ = some (.int .i64 tt) := hF.cell 3
  go_cut [] (fun wx => ∃ lp, Hid (Q lp wx) ∧ Kept S w wx ∧ Wl wx w.heap.size (findRq id n c tt a) lp 0 (.slice none 0 0) ∧ Blk wx (w.heap.size + 1) 243 #[.int .i64 1, .int .i64 id, .slice a n c, .int .i64 tt])
  case first =>
    go_region_with (go_at_call 179; refine HB1.out.mono ?_; rintro e w2 ⟨lp, rfl, q2, k2, hw2, hf2, e1, f1⟩)
    all_goals
      go_wp2_with fail
      go_meet
      have KS : Kept (fun k => k = w.heap.size) w2 (w2.setCell ⟨w.heap.size, 1, none⟩ (.pointer lp)) := (Kept.refl _ _).set _ _ (fun _ => rfl)
      exact ⟨lp, HQ.out _ _ _ q2 KS, k2.set _ _ (fun h => by simp at h), by simpa using hw2.set 1 (.pointer lp), hf2.kept KS (by omega)⟩
  case rest =>
    obtain ⟨lp, q, k, hw, hf⟩ := hcut
    have c1 : wc.cell? ⟨w.heap.size, 1, none⟩ = some (.pointer lp) := hw.cell 1
    have c3 : wc.cell? ⟨w.heap.size + 1, 2, none⟩ = some (.slice a n c) := hf.cell 2
    have HT1 : Hid (Calls Tryz.prog 180 #[.pointer lp] (World.drew wc) fun r w' => ∃ v, r = .returned v ∧ Bs w' 5 v (tl lp) ∧ Kept (fun k => k = w.heap.size) wc w' ∧ Fresh wc.heap.size v ∧ Wl w' w.heap.size (findRq id n c tt a) lp 0 (.slice none 0 0) ∧ w'.cell? ⟨w.heap.size + 1, 2, none⟩ = some (.slice a n c)) := by
      have hd : Kept (fun k => k = w.heap.size) wc (World.drew wc) := (Kept.refl _ _).drew
      refine (HTl.out lp _ (HQ.out _ _ _ q.out hd)).mono ?_
      rintro r w' ⟨v, r1, r2, r3, r4⟩
      exact ⟨v, r1, r2, hd.below r3, r4, hw.drew.below r3 hw.lt, (hf.drew.below r3 hf.lt).cell 2⟩
    have HI1 : Hid (∀ v w1, Bs w1 5 v (tl lp) → Kept (fun k => k = w.heap.size) wc w1 → Wl w1 w.heap.size (findRq id n c tt a) lp 0 (.slice none 0 0) → Calls Tryz.prog 181 #[.agg #[.slice a n c]] w1 fun r w' => r = .returned (.int .i64 n) ∧ Bs w' 5 v (tl lp) ∧ Kept (fun k => k = w.heap.size) wc w' ∧ Wl w' w.heap.size (findRq id n c tt a) lp 0 (.slice none 0 0)) := fun v w1 h1 h3 h4 => by
      refine (items_list a n c w1).mono ?_
      rintro r w' ⟨r1, r2⟩
      exact ⟨r1, h1.below r2, h3.below r2, h4.below r2 h4.lt⟩
    have hwr : IntKind.u8.wrap (n : Int) = (n : Int) := by rw [IntKind.wrap_u8]; omega
    have HSr : Hid (∀ w1, Src Tryz.prog 1 126 (.slice (some ⟨w1.heap.size, 0, none⟩) 1 1) (b8 n).size (byteCells (b8 n)) (World.alloc w1 (.cells #[.int .u8 (IntKind.u8.wrap (n : Int))] 5))) := fun w1 => Src.ofByte _ Tryz.underlying126 _ _ _ n hwr hn ((Blk.new w1 5 #[.int .u8 (IntKind.u8.wrap (n : Int))]).cell 0)
    clear hwr
    have hb8 : (b8 n).size = 1 := rfl
    have hni : ((n : Int) % 256) = (n : Int) := by omega
    have hll := htl lp
    clear HTl t1 hW hF hA c2 HB1 htl
    go_wp2
    go_region_law (first | (refine step_append_bs rfl (.tmp 29) (.tmp 34) 126 126 rfl 5 Tryz.underlying126 infoU8 v3 (tl lp) (by simp [Act.eval]) (Bs.below b4 ((Below.refl _ _).alloc (Nat.le_refl _) _)) (.slice (some ⟨w4.heap.size, 0, none⟩) 1 1) (b8 n) (by simp [Act.eval]) (HSr.out w4) (by omega) ?_; rintro v5 w5 ⟨b5, k5, o5⟩; have hne4 := bs_ne_cn b4 hw4 (by decide); have hw5 : Wl w5 w.heap.size (findRq id n c tt a) lp 0 (.slice none 0 0) := (hw4.alloc _).kept k5 hne4; have e5 : w5.cell? ⟨w.heap.size, 3, none⟩ = some (.slice none 0 0) := hw5.cell 3; have f5 := hw5.frozen 3; have hne5 := bs_ne_cn b5 hw5 (by decide); obtain ⟨a5, c5, rfl, _⟩ := b5.shape) | (go_simp; go_at_call 181; refine (HI1.out v3 w3 b3 k3 hw3).mono ?_; rintro e w4 ⟨rfl, b4, k4, hw4⟩) | (go_simp; go_at_call 180; refine HT1.out.mono ?_; rintro e w3 ⟨v3, rfl, b3, k3, f3, hw3, e3⟩))
    all_goals
      go_wp2
      go_ret
      have hs := k.size
      have hsz : (tl lp ++ b8 n).size = (tl lp).size + 1 := by rw [ByteArray.size_append, hb8]
      rw [hsz] at b5 o5 hne5
      have hlw := hw.lt
      have K5 : Kept (fun k => k = w.heap.size) wc w5 := (k4.alloc _).next k5 (fun i hi h => by have := f3 i h; omega)
      have KS : Kept (fun k => k = w.heap.size) w5 (w5.setCell ⟨w.heap.size, 3, none⟩ (.slice a5 ((tl lp).size + 1) c5)) := (Kept.refl _ _).set _ _ (fun _ => rfl)
      have KF := K5.trans KS
      have hf5 : Fresh w.heap.size (.slice a5 ((tl lp).size + 1) c5) := fun i hi => by
        rcases o5 with o5 | ⟨j, e1, e2⟩
        · have := f3 i (o5 ▸ hi); omega
        · rw [e2] at hi; injection hi with hi
          have := k4.size
          first | (simp at e1; omega) | omega
      exact ⟨rfl, lp, _, by simpa using hw5.set 3 (.slice a5 ((tl lp).size + 1) c5), b5.kept KS (fun i hi e => by subst e; exact hne5 hi), HQ.out _ _ _ q.out KF, k.next KF (fun i hi e => by omega), hf5⟩
end Go.Proofs.YthpmcilljbmoiaaGreatDoor
namespace Go.Proofs.YthpmcilljbmoiaaGreatDoor
open Go.RowKit

abbrev relRq (id l : Nat) : Value := .iface 261 (.agg #[.int .i64 6, .int .i64 id, .int .i64 l])
theorem ta_rel_Find (id l : Nat) (w : World) : (Instr.typeAssert (relRq id l) 172 243 true).run Tryz.prog w = .ok (.tuple #[.agg #[.int .i64 0, .int .i64 0, .slice none 0 0, .int .i64 0], .bool false]) w := by kernel_rfl
theorem ta_rel_Read (id l : Nat) (w : World) : (Instr.typeAssert (relRq id l) 172 246 true).run Tryz.prog w = .ok (.tuple #[.agg #[.int .i64 0, .int .i64 0, .slice none 0 0], .bool false]) w := by kernel_rfl
theorem ta_rel_Update (id l : Nat) (w : World) : (Instr.typeAssert (relRq id l) 172 250 true).run Tryz.prog w = .ok (.tuple #[.agg #[.int .i64 0, .int .i64 0, .slice none 0 0], .bool false]) w := by kernel_rfl
theorem ta_rel_Get (id l : Nat) (w : World) : (Instr.typeAssert (relRq id l) 172 256 true).run Tryz.prog w = .ok (.tuple #[.agg #[.int .i64 0, .int .i64 0, .string ⟨#[]⟩], .bool false]) w := by kernel_rfl
theorem ta_rel_Put (id l : Nat) (w : World) : (Instr.typeAssert (relRq id l) 172 258 true).run Tryz.prog w = .ok (.tuple #[.agg #[.int .i64 0, .int .i64 0, .string ⟨#[]⟩, .string ⟨#[]⟩], .bool false]) w := by kernel_rfl
theorem ta_rel_Release (id l : Nat) (w : World) : (Instr.typeAssert (relRq id l) 172 261 true).run Tryz.prog w = .ok (.tuple #[.agg #[.int .i64 6, .int .i64 id, .int .i64 l], .bool true]) w := by kernel_rfl

set_option maxRecDepth 100000 in
set_option maxHeartbeats 1000000 in
/-- the item of a Release -/
theorem doItem_rel (db wb id l : Nat) (bv : Value) (s told : ByteArray) (S : Nat → Prop) (Q : World → Prop) (w : World) (hW : Wl w wb (relRq id l) none 0 bv) (hb : Bs w 5 bv s) (ht : s.size + told.size ≤ 100000) (hSw : ¬ S wb) (hSb : ∀ k, bv.ownBlock = some k → ¬ S k)
    (hQ : ∀ w1 w2, Q w1 → Kept (fun k => k = wb ∨ bv.ownBlock = some k) w1 w2 → Q w2)
    (HG : Hid (∀ w1, Kept (fun k => k = wb) w w1 → Calls Tryz.prog 138 #[.pointer (some ⟨db, 0, none⟩), .int .i64 l] w1
      fun r w' => ∃ v, r = .returned v ∧ Bs w' 5 v told ∧ Q w' ∧ Kept S w1 w')) :
    Calls Tryz.prog 92 #[.pointer (some ⟨db, 0, none⟩), .pointer (some ⟨wb, 0, none⟩)] w
      fun r w' => r = .returned (.tuple #[]) ∧ ∃ bv', Wl w' wb (relRq id l) none 1 bv' ∧ Bs w' 5 bv' (s ++ told) ∧ Q w' ∧ Kept (fun k => (k = wb ∨ bv.ownBlock = some k) ∨ S k) w w' ∧ Home w bv bv' := by
  have c0 : w.cell? ⟨wb, 0, none⟩ = some (relRq id l) := hW.cell 0
  have c2 : w.cell? ⟨wb, 2, none⟩ = some (.int .i64 0) := hW.cell 2
  have f2 := hW.frozen 2
  have hlt := hW.lt
  have t1 := ta_rel_Find id l
  have t2 := ta_rel_Read id l
  have t3 := ta_rel_Update id l
  have t4 := ta_rel_Get id l
  have t5 := ta_rel_Put id l
  have t6 := ta_rel_Release id l
  have hK1 : Kept (fun k => k = wb) w ((w.setCell ⟨wb, 2, none⟩ (.int .i64 1)).alloc (.cells #[.int .i64 6, .int .i64 id, .int .i64 l] 261)) := ((Kept.refl (fun k => k = wb) w).set _ _ (fun _ => rfl)).alloc _
  have hW1 : Wl ((w.setCell ⟨wb, 2, none⟩ (.int .i64 1)).alloc (.cells #[.int .i64 6, .int .i64 id, .int .i64 l] 261)) wb (relRq id l) none 1 bv := (by simpa using hW.set 2 (.int .i64 1) : Wl (w.setCell ⟨wb, 2, none⟩ (.int .i64 1)) wb (relRq id l) none 1 bv).alloc _
  have hb1 := hb.kept hK1 (fun k hk e => by subst e; exact bs_ne_cn hb hW (by decide) hk)
  have hbne := bs_ne_cn hb hW (by decide)
  have HQ := hide hQ
  clear hQ
  generalize hrq : relRq id l = rq at *
  clear hrq
  go_enter Tryz.func92, Tryz.ntmps92
  go_wp2_with (first | (go_at_call 138; refine (HG.out _ hK1).mono ?_; rintro e w1 ⟨v, rfl, b1, q1, k1⟩; have hW2 := hW1.kept k1 hSw; have hb2 := hb1.kept k1 hSb; have d3 : w1.cell? ⟨wb, 3, none⟩ = some bv := hW2.cell 3) | (at_builtin; refine wpList_append_bs w1 rfl (.tmp 92) (.tmp 93) 126 126 rfl 5 Tryz.underlying126 infoU8 bv s rfl hb2 _ told rfl (b1.src Tryz.underlying126) ?_ ?_))
  · omega
  rintro v2 w2 ⟨p1, p2, p3⟩
  have hW3 : Wl w2 wb rq none 1 bv := hW2.kept p2 hbne
  have d4 : w2.cell? ⟨wb, 3, none⟩ = some bv := hW3.cell 3
  have f4 := hW3.frozen 3
  have hne := bs_ne_cn p1 hW3 (by decide)
  obtain ⟨a2, e2, rfl, _⟩ := p1.shape
  go_wp2
  have hK2 : Kept (fun k => (k = wb ∨ bv.ownBlock = some k) ∨ S k) w w2 := ((hK1.mono (fun _ _ h => .inl (.inl h))).next k1 (fun _ _ h => .inr h)).next p2 (fun i _ h => .inl (.inr h))
  refine bodyPost_end (results_none rfl _ _ _) rfl ⟨rfl, _, by simpa using hW3.set 3 _, p1.kept ((Kept.refl (fun k => k = wb) w2).set _ _ (fun _ => rfl)) (fun k hk e => by subst e; exact hne hk), HQ.out _ _ (HQ.out _ _ q1 (p2.mono (fun _ _ h => .inr h))) ((Kept.refl _ _).set _ _ (fun _ => .inl rfl)), hK2.set _ _ (fun _ => .inl (.inl rfl)), ?_⟩
  exact (Home.refl w bv).trans (Nat.le_trans hK1.size k1.size) p3

theorem work_rel (db id l : Nat) (w : World) : Calls Tryz.prog 132 #[.pointer (some ⟨db, 0, none⟩), relRq id l] w
    fun r w' => r = .returned (.pointer (some ⟨w.heap.size, 0, none⟩)) ∧ Wk w' w.heap.size (relRq id l) 0 (.slice none 0 0) ∧ Below w.heap.size w w' :=
  work_plain db 261 _ (relRq id l) rfl w (ta_rel_Find id l) (ta_rel_Read id l) (ta_rel_Update id l)
end Go.Proofs.YthpmcilljbmoiaaGreatDoor
namespace Go.Proofs.YthpmcilljbmoiaaGreatDoor
open Go.RowKit

set_option maxRecDepth 100000 in
set_option maxHeartbeats 1000000 in
/-- an item of a Find -/
theorem doItem_find (db wb id n c d tt : Nat) (lp : Option Addr) (a : Option Addr) (bv : Value) (s told : ByteArray) (nms : List ByteArray) (S : Nat → Prop) (Q : World → Prop) (w : World) (hW : Wl w wb (findRq id n c tt a) lp (d : Int) bv) (hb : Bs w 5 bv s) (hn : nms.length = n) (hd : d < nms.length) (hd16 : d < 100)
    (hR : Rw w 9 1 (.slice a n c) n (nms.map Value.string)) (ht : s.size + told.size ≤ 100000) (hSw : ¬ S wb) (hSb : ∀ k, bv.ownBlock = some k → ¬ S k)
    (hQ : ∀ w1 w2, Q w1 → Kept (fun k => k = wb ∨ bv.ownBlock = some k) w1 w2 → Q w2)
    (HG : Hid (∀ w1, Kept (fun k => k = wb) w w1 → Calls Tryz.prog 133 #[.pointer (some ⟨db, 0, none⟩), .string nms[d], .pointer lp] (World.drew w1)
      fun r w' => ∃ v, r = .returned v ∧ Bs w' 5 v told ∧ Q w' ∧ Kept S w1 w' ∧ Fresh w1.heap.size v)) :
    Calls Tryz.prog 92 #[.pointer (some ⟨db, 0, none⟩), .pointer (some ⟨wb, 0, none⟩)] w
      fun r w' => r = .returned (.tuple #[]) ∧ ∃ bv', Wl w' wb (findRq id n c tt a) lp ((d : Int) + 1) bv' ∧ Bs w' 5 bv' (s ++ told) ∧ Q w' ∧ Kept (fun k => (k = wb ∨ bv.ownBlock = some k) ∨ S k) w w' ∧ Home w bv bv' := by
  have c0 : w.cell? ⟨wb, 0, none⟩ = some (findRq id n c tt a) := hW.cell 0
  have c1 : w.cell? ⟨wb, 1, none⟩ = some (.pointer lp) := hW.cell 1
  have c2 : w.cell? ⟨wb, 2, none⟩ = some (.int .i64 (d : Int)) := hW.cell 2
  have f2 := hW.frozen 2
  have hlt := hW.lt
  have t1 := ta_find_Find id n c tt a
  obtain ⟨_, h0, _⟩ | ⟨b, off, cap, cur, hsl, hB, h1, h2, h3, h4, h5⟩ := hR
  · omega
  injection hsl with ha _ hcap
  subst ha
  subst hcap
  have hbw : b ≠ wb := hB.ne hW (by decide)
  have hbl := hB.lt
  have hcell : w.cell? ⟨b, off + d, none⟩ = some (.string nms[d]) := by
    rw [hB.cell, h5 d (by omega), List.getElem?_map, List.getElem?_eq_getElem hd]
    rfl
  generalize nms[d] = nm at *
  have hK1 : Kept (fun k => k = wb) w ((w.setCell ⟨wb, 2, none⟩ (.int .i64 ((d : Int) + 1))).alloc (.cells #[.int .i64 1, .int .i64 id, .slice (some ⟨b, off, none⟩) n c, .int .i64 tt] 243)) := ((Kept.refl (fun k => k = wb) w).set _ _ (fun _ => rfl)).alloc _
  have hW1 : Wl ((w.setCell ⟨wb, 2, none⟩ (.int .i64 ((d : Int) + 1))).alloc (.cells #[.int .i64 1, .int .i64 id, .slice (some ⟨b, off, none⟩) n c, .int .i64 tt] 243)) wb (findRq id n c tt (some ⟨b, off, none⟩)) lp ((d : Int) + 1) bv := (by simpa using hW.set 2 (.int .i64 ((d : Int) + 1)) : Wl (w.setCell ⟨wb, 2, none⟩ (.int .i64 ((d : Int) + 1))) wb (findRq id n c tt (some ⟨b, off, none⟩)) lp ((d : Int) + 1) bv).alloc _
  have hb1 := hb.kept hK1 (fun k hk e => by subst e; exact bs_ne_cn hb hW (by decide) hk)
  have hbne := bs_ne_cn hb hW (by decide)
  have hdi : (d : Int) < (n : Int) := by omega
  have hdi0 : (0 : Int) ≤ (d : Int) := by omega
  have HQ := hide hQ
  clear h3 h4 h5 h2 hd hQ
  generalize hrq : findRq id n c tt (some ⟨b, off, none⟩) = rq at *
  clear hrq
  go_enter Tryz.func92, Tryz.ntmps92
  go_wp2
  have hB1 := hB.kept hK1 hbw
  have hz1 : w.heap.size < ((w.setCell ⟨wb, 2, none⟩ (.int .i64 ((d : Int) + 1))).alloc (.cells #[.int .i64 1, .int .i64 id, .slice (some ⟨b, off, none⟩) n c, .int .i64 tt] 243)).heap.size := by simp
  have hr1 : Blk ((w.setCell ⟨wb, 2, none⟩ (.int .i64 ((d : Int) + 1))).alloc (.cells #[.int .i64 1, .int .i64 id, .slice (some ⟨b, off, none⟩) n c, .int .i64 tt] 243)) w.heap.size 243 #[.int .i64 1, .int .i64 id, .slice (some ⟨b, off, none⟩) n c, .int .i64 tt] := Blk.at _ _ _ _ (by simp)
  have hcell' := hK1.cell hcell hbw
  have HG1 := hide (HG.out _ hK1)
  clear HG hcell c0 c1 c2 f2 hz1
  generalize (w.setCell ⟨wb, 2, none⟩ (.int .i64 ((d : Int) + 1))).alloc (.cells #[.int .i64 1, .int .i64 id, .slice (some ⟨b, off, none⟩) n c, .int .i64 tt] 243) = W1 at *
  have d1 : W1.cell? ⟨wb, 1, none⟩ = some (.pointer lp) := hW1.cell 1
  have d2 : W1.cell? ⟨w.heap.size, 2, none⟩ = some (.slice (some ⟨b, off, none⟩) n c) := hr1.cell 2
  go_region_with (go_at_call 133; refine HG1.out.mono ?_; rintro e w1 ⟨v, rfl, b1, q1, k1, f1⟩; have hW2 := hW1.kept k1 hSw; have hb2 := hb1.kept k1 hSb; have d3 : w1.cell? ⟨wb, 3, none⟩ = some bv := hW2.cell 3)
  all_goals
    go_wp2_with (at_builtin; refine wpList_append_bs w1 rfl (.tmp 92) (.tmp 93) 126 126 rfl 5 Tryz.underlying126 infoU8 bv s rfl hb2 _ told rfl (b1.src Tryz.underlying126) ?_ ?_)
    · omega
    rintro v2 w2 ⟨p1, p2, p3⟩
    have hW3 : Wl w2 wb rq lp ((d : Int) + 1) bv := hW2.kept p2 hbne
    have d4 : w2.cell? ⟨wb, 3, none⟩ = some bv := hW3.cell 3
    have f4 := hW3.frozen 3
    have hne := bs_ne_cn p1 hW3 (by decide)
    obtain ⟨a2, e2, rfl, _⟩ := p1.shape
    go_wp2
    have hK2 : Kept (fun k => (k = wb ∨ bv.ownBlock = some k) ∨ S k) w w2 := ((hK1.mono (fun _ _ h => .inl (.inl h))).next k1 (fun _ _ h => .inr h)).next p2 (fun i _ h => .inl (.inr h))
    refine bodyPost_end (results_none rfl _ _ _) rfl ⟨rfl, _, by simpa using hW3.set 3 _, p1.kept ((Kept.refl (fun k => k = wb) w2).set _ _ (fun _ => rfl)) (fun k hk e => by subst e; exact hne hk), HQ.out _ _ (HQ.out _ _ q1 (p2.mono (fun _ _ h => .inr h))) ((Kept.refl _ _).set _ _ (fun _ => .inl rfl)), hK2.set _ _ (fun _ => .inl (.inl rfl)), ?_⟩
    exact (Home.refl w bv).trans (Nat.le_trans hK1.size k1.size) p3
end Go.Proofs.YthpmcilljbmoiaaGreatDoor
