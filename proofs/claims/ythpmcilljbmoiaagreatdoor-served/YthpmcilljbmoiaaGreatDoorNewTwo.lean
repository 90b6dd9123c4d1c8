import Derived.Test.YthpmcilljbmoiaaGreatDoorDoors
namespace Go.Proofs.YthpmcilljbmoiaaGreatDoor
open Go.RowKit

variable {N : Nat → ByteArray} {w w' : World} {U : Nat → Prop} {db n t : Nat} {rem : Nat → Nat} {want : Nat → ByteArray}

set_option maxRecDepth 100000 in
set_option maxHeartbeats 1000000 in
theorem open_mem (db n : Nat) (shv cvv : Value) (t : Int) (xs : List Value) (w : World) (hn : n < 8) (hD : Blk w db 114 (dpt shv cvv t)) (hR : Rw w 98 1 cvv n xs) :
    Calls Tryz.prog 33 #[.pointer (some ⟨db, 0, none⟩)] w
      fun r w' => ∃ cvv', r = .returned (.tuple #[.int .i64 n, .int .i64 0]) ∧ Blk w' db 114 (dpt shv cvv' t) ∧ Rw w' 98 1 cvv' (n + 1) (xs ++ [.pointer (some ⟨w.heap.size, 0, none⟩)]) ∧ Cn w' w.heap.size (.slice none 0 0) (.slice none 0 0) (.pointer none) (.bool false) ∧ Kept (fun k => k = db ∨ cvv.ownBlock = some k) w w' ∧ Home w cvv cvv' := by
  have hcne := Rw.ne hR hD (by decide)
  obtain ⟨a0, e0, rfl⟩ := Rw.shape hR
  have c1 : w.cell? ⟨db, 1, none⟩ = some (.slice a0 n e0) := hD.cell 1
  have hlt := hD.lt
  have hni : ¬ ((8 : Int) ≤ (n : Int)) := by omega
  have hBel : Below w.heap.size w (World.alloc (World.alloc w (.cells #[.slice none 0 0, .slice none 0 0, .pointer none, .bool false] 133)) (.cells #[.pointer (some ⟨w.heap.size, 0, none⟩)] 98)) := ((Below.refl _ _).alloc (Nat.le_refl _) _).alloc (by simp) _
  have HX : Hid (∀ j u, [Value.pointer (some ⟨w.heap.size, 0, none⟩)][j]? = some u → (World.alloc (World.alloc w (.cells #[.slice none 0 0, .slice none 0 0, .pointer none, .bool false] 133)) (.cells #[.pointer (some ⟨w.heap.size, 0, none⟩)] 98)).cell? (Addr.add ⟨w.heap.size + 1, 0, none⟩ j) = some u) := fun j u hj => by
    cases j with
    | zero =>
      simp only [List.getElem?_cons_zero, Option.some.injEq] at hj
      subst hj
      rw [Addr.add_lit]
      exact (Blk.at _ 98 #[.pointer (some ⟨w.heap.size, 0, none⟩)] _ (by simp)).cell 0
    | succ j => simp at hj
  go_enter Tryz.func33, Tryz.ntmps33
  go_wp2_with (at_builtin; refine wpList_append_rw (World.alloc (World.alloc w (.cells #[.slice none 0 0, .slice none 0 0, .pointer none, .bool false] 133)) (.cells #[.pointer (some ⟨w.heap.size, 0, none⟩)] 98)) rfl (.tmp 14) (.tmp 17) 106 106 rfl 98 _ 1 8 Tryz.underlying106 infoConnPtr rfl (by omega) (.slice a0 n e0) n xs rfl (Rw.below hR hBel) (.slice (some ⟨w.heap.size + 1, 0, none⟩) 1 1) 1 [.pointer (some ⟨w.heap.size, 0, none⟩)] rfl (Src.ofSlice _ Tryz.underlying106 ⟨w.heap.size + 1, 0, none⟩ 1 1 _ rfl HX.out ?_) ?_ ?_)
  · simp [Value.oneCell']
  · omega
  intro v2 w2 r2 k2 o2
  have d2 := ((hD.alloc (.cells #[.slice none 0 0, .slice none 0 0, .pointer none, .bool false] 133)).alloc (.cells #[.pointer (some ⟨w.heap.size, 0, none⟩)] 98)).kept k2 hcne
  have s2 := ((Blk.new w 133 #[.slice none 0 0, .slice none 0 0, .pointer none, .bool false]).alloc (.cells #[.pointer (some ⟨w.heap.size, 0, none⟩)] 98)).kept k2 (fun e => by have := Rw.lt hR e; omega)
  have c2 : w2.cell? ⟨db, 1, none⟩ = some (.slice a0 n e0) := d2.cell 1
  have f2 := d2.frozen 1
  have n2 := Rw.ne r2 d2 (by decide)
  have K2 : Kept (fun k => k = db ∨ (Value.slice a0 n e0).ownBlock = some k) w w2 := ((((Kept.refl (fun k => k = db ∨ (Value.slice a0 n e0).ownBlock = some k) w).alloc _).alloc _)).next k2 (fun i _ h => .inr h)
  have o3 : Home w (.slice a0 n e0) v2 := by
    rcases o2 with o2 | ⟨k, q1, q2⟩
    · exact .inl o2
    · exact .inr ⟨k, by omega, q2⟩
  obtain ⟨a2, e2, rfl⟩ := Rw.shape r2
  clear HX
  go_wp2
  go_ret2
  have KS : Kept (fun k => k = db ∨ (Value.slice a0 n e0).ownBlock = some k) w2 (w2.setCell ⟨db, 1, none⟩ (.slice a2 (n + 1) e2)) := (Kept.refl _ _).set _ _ (fun _ => .inl rfl)
  have KS' : Kept (fun k => k = db) w2 (w2.setCell ⟨db, 1, none⟩ (.slice a2 (n + 1) e2)) := (Kept.refl _ _).set _ _ (fun _ => rfl)
  refine ⟨.slice a2 (n + 1) e2, ?_, by simpa using d2.set 1 (.slice a2 (n + 1) e2), Rw.kept r2 KS' (fun k hk e => by subst e; exact n2 hk), s2.kept KS' (s2.ne d2 (by decide)), K2.trans KS, o3⟩
  first | rfl | (congr 3; omega)

/-- one more connection -/
theorem open_ivr (hn : n < 8) (h : Ivr N w U db n t rem want) :
    Calls Tryz.prog 33 #[.pointer (some ⟨db, 0, none⟩)] w
      fun r w' => r = .returned (.tuple #[.int .i64 n, .int .i64 0]) ∧ Ivr N w' (ext U w w') db (n + 1) t (fun i => if i = n then 0 else rem i) (fun i => if i = n then ⟨#[]⟩ else want i) ∧ Kept U w w' := by
  obtain ⟨G, F, kbs, h1⟩ := h
  obtain ⟨shv, cvv, m1, m2, m3⟩ := h1.dp.mem
  refine (open_mem db n shv cvv (t : Int) (ptrs kbs n) w hn m1 m2).mono ?_
  rintro e w' ⟨cvv', rfl, q1, q2, q3, q4, q5⟩
  have hS : ∀ k, (k = db ∨ cvv.ownBlock = some k) → G k := fun k e => by
    rcases e with rfl | e
    · exact h1.dp.db
    · exact m3 k e
  have hkU : Kept U w w' := q4.mono (fun k _ e => h1.gu k (hS k e))
  have hs := q4.size
  have hkb := q3.lt
  have hnew : ∀ k, cvv'.ownBlock = some k → k < w'.heap.size := fun k hk => Rw.lt q2 hk
  have hcv : ∀ k, cvv'.ownBlock = some k → G k ∨ w.heap.size ≤ k := fun k hk => by
    rcases q5 with e | ⟨j, e1, e2⟩
    · exact .inl (m3 k (e ▸ hk))
    · rw [e2] at hk; injection hk with hk; subst hk; exact .inr e1
  have hF : ∀ i, i < n → ∀ k, F i k → ¬ (k = db ∨ cvv.ownBlock = some k) := fun i hi k hf e => h1.fg i hi k hf (hS k e)
  have hemp : Emp w' db (fun k => G k ∨ cvv'.ownBlock = some k) := by
    obtain ⟨shv1, cs, m, sh, room, s1, s2, s3, s4, s5, s6, s7, s8⟩ := h1.dp.emp.ex
    have hcs : cs = dpt shv cvv (t : Int) := by
      have : some (Obj.cells cs 114 (0, 0)) = some (Obj.cells (dpt shv cvv (t : Int)) 114 (0, 0)) := s1.symm.trans m1
      injection this with this
      injection this
    subst hcs
    have e1 : shv = shv1 := by simpa using s2
    subst e1
    refine ⟨shv, _, m, sh, room, q1, rfl, Rw.kept s3 q4 (fun k hk e => ?_), fun j hj => (s4 j hj).kept q4 (fun e => ?_), .inl s5, fun k hk => .inl (s6 k hk), fun j hj => .inl (s7 j hj), s8⟩
    · rcases e with rfl | e
      · exact Rw.ne s3 m1 (by decide) hk
      · exact Rw.ne2 m2 s3 (by decide) e hk
    · rcases e with e | e
      · exact (s4 j hj).ne m1 (by decide) e
      · exact Rw.ne m2 (s4 j hj) (by decide) e
  refine ⟨rfl, ⟨fun k => G k ∨ cvv'.ownBlock = some k, fun i => if i = n then (fun k => k = w.heap.size) else F i, fun i => if i = n then w.heap.size else kbs i, ⟨⟨⟨shv, cvv', q1, ?_, fun k hk => .inr hk⟩, hemp, .inl h1.dp.db, fun k hg => ?_, by omega, h1.dp.t8⟩, fun i hi => ?_, fun i hi k hf hg => ?_, fun i j hi hj hij k hf hf' => ?_, fun k hg => ?_, fun i hi k hf => ?_, fun k hu => ?_⟩⟩, hkU⟩
  · rw [ptrs_add kbs _ n (fun i hi => if_neg (by omega))]
    simp only [if_true]
    exact q2
  · rcases hg with hg | hg
    · exact Nat.lt_of_lt_of_le (h1.dp.lt k hg) hs
    · exact hnew k hg
  · by_cases hin : i = n
    · subst hin
      simp only [if_true]
      refine ⟨[], none, ⟨#[]⟩, ⟨⟨_, _, _, q3, Bs.nil _ _, Bs.nil _ _, fun k hk => by simp [Value.ownBlock] at hk, fun k hk => by simp [Value.ownBlock] at hk, fun k hk => by simp [Value.ownBlock] at hk, rfl⟩, rfl, fun x hx => by simp at hx, Nat.zero_le _, (by decide : (⟨#[]⟩ ++ (⟨#[]⟩ ++ ⟨#[]⟩) : ByteArray).size ≤ 1000), fun k hk => by subst hk; exact hkb⟩, rfl, by simp [curRep, reps, app_empty]⟩
    · simp only [if_neg hin]
      exact (h1.cw i (by omega)).kept q4 (hF i (by omega))
  · by_cases hin : i = n
    · subst hin
      simp only [if_true] at hf
      subst hf
      rcases hg with hg | hg
      · have := h1.dp.lt _ hg; omega
      · exact Rw.ne q2 q3 (by decide) hg
    · simp only [if_neg hin] at hf
      rcases hg with hg | hg
      · exact h1.fg i (by omega) k hf hg
      · rcases hcv k hg with hg | hg
        · exact h1.fg i (by omega) k hf hg
        · have := h1.lt k (h1.fu i (by omega) k hf); omega
  · by_cases hin : i = n
    · subst hin
      have hjn : ¬ j = i := fun e => hij e.symm
      simp only [if_true] at hf
      simp only [if_neg hjn] at hf'
      have := h1.lt k (h1.fu j (by omega) k hf'); omega
    · simp only [if_neg hin] at hf
      by_cases hjn : j = n
      · subst hjn
        simp only [if_true] at hf'
        have := h1.lt k (h1.fu i (by omega) k hf); omega
      · simp only [if_neg hjn] at hf'
        exact h1.ff i j (by omega) (by omega) hij k hf hf'
  · rcases hg with hg | hg
    · exact .inl (h1.gu k hg)
    · rcases hcv k hg with hg' | hg'
      · exact .inl (h1.gu k hg')
      · exact .inr ⟨hg', hnew k hg⟩
  · by_cases hin : i = n
    · subst hin
      simp only [if_true] at hf
      subst hf
      exact .inr ⟨Nat.le_refl _, hkb⟩
    · simp only [if_neg hin] at hf
      exact .inl (h1.fu i (by omega) k hf)
  · rcases hu with hu | hu
    · exact Nat.lt_of_lt_of_le (h1.lt k hu) hs
    · exact hu.2
end Go.Proofs.YthpmcilljbmoiaaGreatDoor
namespace Go.Proofs.YthpmcilljbmoiaaGreatDoor
open Go.RowKit

set_option maxRecDepth 100000 in
theorem shardNewR (room : Nat) (w : World) : Calls Tryz.prog 64 #[.int .i64 room] w
    fun r w' => r = .returned (.pointer (some ⟨w.heap.size, 0, none⟩)) ∧ w' = w.alloc (.cells #[.slice none 0 0, .int .i64 room, .int .i64 0, .int .i64 0] 123) := by
  go_enter Tryz.func64, Tryz.ntmps64
  go_wp2
  go_ret
  exact ⟨rfl, rfl⟩

/-- i shards are made -/
structure Nw (w : World) (m room i : Nat) (W : World) (shv : Value) (sh : Nat → Nat) : Prop where
  cf : Blk W w.heap.size 68 #[.int .i64 m, .int .i64 room]
  de : Blk W (w.heap.size + 1) 114 (dpt shv (.slice none 0 0) 0)
  sl : Rw W 115 1 shv i (ptrs sh i)
  sd : ∀ j, j < i → Blk W (sh j) 123 #[.slice none 0 0, .int .i64 room, .int .i64 0, .int .i64 0]
  fr : Fresh (w.heap.size + 2) shv
  fs : ∀ j, j < i → w.heap.size + 2 ≤ sh j
  bl : Below w.heap.size w W

set_option maxRecDepth 100000 in
set_option maxHeartbeats 2000000 in
theorem new_mem (m room : Nat) (w : World) (hm0 : 1 ≤ m) (hm8 : m ≤ 8) (hr0 : 1 ≤ room) (hr : room ≤ 4000) : Calls Tryz.prog 32 #[.agg #[.int .i64 m, .int .i64 room]] w
    fun r w' => r = .returned (.tuple #[.pointer (some ⟨w.heap.size + 1, 0, none⟩), .int .i64 0]) ∧ ∃ shv sh, Nw w m room m w' shv sh := by
  have hi1 : ¬ ((m : Int) < 1) := by omega
  have hi2 : ¬ ((8 : Int) < (m : Int)) := by omega
  have hi3 : ¬ ((room : Int) < 1) := by omega
  have hi4 : ¬ ((4000 : Int) < (room : Int)) := by omega
  go_enter Tryz.func32, Tryz.ntmps32
  go_wp2
  have hN0 : ∃ shv sh, Nw w m room 0 ((w.alloc (.cells #[.int .i64 m, .int .i64 room] 68)).alloc (.cells (dpt (.slice none 0 0) (.slice none 0 0) 0) 114)) shv sh :=
    ⟨.slice none 0 0, fun _ => 0, (Blk.new _ _ _).alloc _, Blk.at _ _ _ _ (by simp), Rw.nil _ _ _, fun j hj => by omega, Fresh.nil _ _ _, fun j hj => by omega, ((Below.refl _ _).alloc (Nat.le_refl _) _).alloc (by simp) _⟩
  generalize (w.alloc (.cells #[.int .i64 m, .int .i64 room] 68)).alloc (.cells (dpt (.slice none 0 0) (.slice none 0 0) 0) 114) = W0 at *
  go_loopw [27] (fun iv wr => ∃ i : Nat, i ≤ m ∧ iv = .int .i64 i ∧ Hid (∃ shv sh, Nw w m room i wr shv sh)) (fun iv _ => m - (intOf iv).toNat)
  case atStart => exact ⟨0, by omega, rfl, hN0⟩
  case round =>
    clear hN0 hi1 hi2 hi3 hi4
    obtain ⟨i, hi, rfl, hN⟩ := hrel
    obtain ⟨shv, sh, hN⟩ := hN.out
    by_cases him : i < m
    · have hsh := Rw.shape hN.sl
      obtain ⟨a0, e0, rfl⟩ := hsh
      have g0 : wr.cell? ⟨w.heap.size + 1, 0, none⟩ = some (.slice a0 i e0) := hN.de.cell 0
      have g1 : wr.cell? ⟨w.heap.size, 1, none⟩ = some (.int .i64 room) := hN.cf.cell 1
      have l0 := hN.de.lt
      have him' : (i : Int) < (m : Int) := by omega
      have HS : Hid (Calls Tryz.prog 64 #[.int .i64 room] (World.drew wr) fun r w' => r = .returned (.pointer (some ⟨wr.heap.size, 0, none⟩)) ∧ Nw w m room i w' (.slice a0 i e0) sh ∧ Blk w' wr.heap.size 123 #[.slice none 0 0, .int .i64 room, .int .i64 0, .int .i64 0] ∧ w'.cell? ⟨w.heap.size + 1, 0, none⟩ = some (.slice a0 i e0) ∧ w'.heap.size = wr.heap.size + 1) := by
        refine (shardNewR room (World.drew wr)).mono ?_
        rintro e w' ⟨q1, rfl⟩
        have hb : Below wr.heap.size wr ((World.drew wr).alloc (.cells #[.slice none 0 0, .int .i64 room, .int .i64 0, .int .i64 0] 123)) := (Below.refl _ _).drew.alloc (Nat.le_refl _) _
        exact ⟨q1, ⟨hN.cf.below hb hN.cf.lt, hN.de.below hb l0, hN.sl.below hb, fun j hj => (hN.sd j hj).below hb (hN.sd j hj).lt, hN.fr, hN.fs, hN.bl.trans (hb.mono hN.bl.size)⟩, Blk.new _ _ _, (hN.de.below hb l0).cell 0, by simp⟩
      have HX : Hid (∀ w1, w1.heap.size = wr.heap.size + 1 → ∀ j u, [Value.pointer (some ⟨wr.heap.size, 0, none⟩)][j]? = some u → (World.alloc w1 (.cells #[.pointer (some ⟨wr.heap.size, 0, none⟩)] 115)).cell? (Addr.add ⟨wr.heap.size + 1, 0, none⟩ j) = some u) := fun w1 z1 j u hj => by
        cases j with
        | zero =>
          simp only [List.getElem?_cons_zero, Option.some.injEq] at hj
          subst hj
          rw [Addr.add_lit]
          exact (Blk.at w1 115 #[.pointer (some ⟨wr.heap.size, 0, none⟩)] _ z1.symm).cell 0
        | succ j => simp at hj
      have HB : Hid (∀ w1, Below w1.heap.size w1 (World.alloc w1 (.cells #[.pointer (some ⟨wr.heap.size, 0, none⟩)] 115))) := fun w1 => (Below.refl _ _).alloc (Nat.le_refl _) _
      have hbl0 := hN.bl.size
      clear hN
      go_wp2
      go_region_law (first | (refine step_append_rw rfl (.tmp 33) (.tmp 37) 105 105 rfl 115 _ 1 8 Tryz.underlying105 infoShardPtr rfl (by omega) (.slice a0 i e0) i (ptrs sh i) (by simp [Act.eval]) (Rw.below hN1.sl (HB.out w1)) (.slice (some ⟨wr.heap.size + 1, 0, none⟩) 1 1) 1 [.pointer (some ⟨wr.heap.size, 0, none⟩)] (by simp [Act.eval]) (Src.ofSlice _ Tryz.underlying105 ⟨wr.heap.size + 1, 0, none⟩ 1 1 _ rfl (HX.out w1 z1) (by simp [Value.oneCell'])) (by omega) ?_; rintro v2 w2 r2 k2 o2; have d2 := (hN1.de.alloc (.cells #[.pointer (some ⟨wr.heap.size, 0, none⟩)] 115)).kept k2 (Rw.ne hN1.sl hN1.de (by decide)); have c2 : w2.cell? ⟨w.heap.size + 1, 0, none⟩ = some (.slice a0 i e0) := d2.cell 0; have f2 := d2.frozen 0; obtain ⟨a2, e2, rfl⟩ := Rw.shape r2) | (go_simp; go_at_call 64; refine HS.out.mono ?_; rintro e w1 ⟨rfl, hN1, hs1, g3, z1⟩; have g4 : (World.alloc w1 (.cells #[.pointer (some ⟨wr.heap.size, 0, none⟩)] 115)).cell? ⟨w.heap.size + 1, 0, none⟩ = some (.slice a0 i e0) := (hN1.de.alloc _).cell 0))
      all_goals
        go_wp2
        have n2 := Rw.ne r2 d2 (by decide)
        have cf2 := (hN1.cf.alloc (.cells #[.pointer (some ⟨wr.heap.size, 0, none⟩)] 115)).kept k2 (Rw.ne hN1.sl hN1.cf (by decide))
        have s2 := (hs1.alloc (.cells #[.pointer (some ⟨wr.heap.size, 0, none⟩)] 115)).kept k2 (Rw.ne hN1.sl hs1 (by decide))
        have sd2 : ∀ j, j < i → Blk w2 (sh j) 123 #[.slice none 0 0, .int .i64 room, .int .i64 0, .int .i64 0] := fun j hj => ((hN1.sd j hj).alloc (.cells #[.pointer (some ⟨wr.heap.size, 0, none⟩)] 115)).kept k2 (Rw.ne hN1.sl (hN1.sd j hj) (by decide))
        have KS : Kept (fun k => k = w.heap.size + 1) w2 (w2.setCell ⟨w.heap.size + 1, 0, none⟩ (.slice a2 (i + 1) e2)) := (Kept.refl _ _).set _ _ (fun _ => rfl)
        have hf := hN1.fr
        have z2 := k2.size
        have hbl : Below w.heap.size w w2 := hN1.bl.trans (((HB.out w1).mono hN1.bl.size).trans (k2.toBelow (fun k hk e => by have := hf k e; omega) (by simp; omega)))
        refine ⟨⟨i + 1, by omega, by simp, ⟨.slice a2 (i + 1) e2, fun j => if j = i then wr.heap.size else sh j, ⟨cf2.kept KS (cf2.ne d2 (by decide)), by simpa using d2.set 0 (.slice a2 (i + 1) e2), ?_, fun j hj => ?_, fun k hk => ?_, fun j hj => ?_, ?_⟩⟩⟩, by simp [intOf]; omega⟩
        · rw [ptrs_add sh _ i (fun j hj => if_neg (by omega))]
          simp only [if_true]
          exact Rw.kept r2 KS (fun k hk e => by subst e; exact n2 hk)
        · by_cases hji : j = i
          · subst hji; simp only [if_true]; exact s2.kept KS (s2.ne d2 (by decide))
          · simp only [if_neg hji]
            have := sd2 j (by omega)
            exact this.kept KS (this.ne d2 (by decide))
        · rcases o2 with o2 | ⟨k', q1, q2⟩
          · exact hf k (o2 ▸ hk)
          · rw [q2] at hk
            injection hk with hk
            simp at q1
            omega
        · by_cases hji : j = i
          · subst hji; simp only [if_true]; omega
          · simp only [if_neg hji]; exact hN1.fs j (by omega)
        · exact hbl.setCell (p := ⟨w.heap.size + 1, 0, none⟩) (by simp) _
    · obtain rfl : i = m := by omega
      have HN := hide hN
      clear hN
      go_wp2
      go_ret2
      exact ⟨rfl, shv, sh, HN.out⟩
end Go.Proofs.YthpmcilljbmoiaaGreatDoor
