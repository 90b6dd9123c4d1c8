import Derived.Test.YthpmcilljbmoiaaGreatDoorZ07
import Derived.Deep.RegionLaw
import Derived.Test.YthpmcilljbmoiaaGreatDoorZBlk
import Derived.WalkKit
import Derived.Test.YthpmcilljbmoiaaGreatDoorZ03
namespace Go.Proofs.YthpmcilljbmoiaaGreatDoor
open Go.RowKit

theorem step_append_rw {P : Program} {ops : Array Oper} {o : Oper} {a : Act} {w : World} {K : Act → World → Prop} {Q : Exit → Act → World → Prop} {E : Prop}
    (hg : o.guard = none) (s x : Operand) (t tx : TypeId) (hop : o.op = Op.call { callee := Callee.builtin Builtin.append, args := #[s, x], argTypes := #[t, tx] })
    (e : TypeId) (z : Value) (sz by_ : Nat) (h1 : P.underlying t = some (.slice e)) (h2 : (P.info? e).map (fun i => (i.zero, i.size, i.bytes)) = some (some z, sz, by_)) (hzs : z.cells.size = sz) (hby : by_ ≤ 64)
    (v : Value) (n : Nat) (xs : List Value) (hs : a.eval s = v) (hv : Rw w e sz v n xs) (xv : Value) (m : Nat) (news : List Value) (hx : a.eval x = xv) (hsrc : Src P sz tx xv m news w) (hb : n + m ≤ 1000000)
    (hK : ∀ v' w', Rw w' e sz v' (n + m) (xs ++ news) → Kept (fun k => v.ownBlock = some k) w w' → (v'.ownBlock = v.ownBlock ∨ ∃ k, w.heap.size ≤ k ∧ v'.ownBlock = some k) → K (a.put o.dst v') w') :
    if Region.wanted o (yielded ops a.tmps) = true then Oper.wp P o a w K Q else E := by
  have hw : Region.wanted o (yielded ops a.tmps) = true := by simp [Region.wanted, hg]
  rw [if_pos hw]
  obtain ⟨i, hi, hz0, hz1, hz2⟩ := info_parts h2
  obtain ⟨v', w', hrun, r1, r2, r3⟩ := run_append_rw (P := P) w t tx o.type e i z sz h1 hi hz0 hz1 hzs (by omega) hv hsrc hb
  unfold Oper.wp
  simp [execOp, hop, resolve, invoke, builtin, hs, hx, hrun, Result.andThen]
  exact hK v' w' r1 r2 r3
theorem infoShardPtr : (Tryz.prog.info? 115).map (fun i => (i.zero, i.size, i.bytes)) = some (some (.pointer none), 1, 8) := by kernel_rfl
theorem infoConnPtr : (Tryz.prog.info? 98).map (fun i => (i.zero, i.size, i.bytes)) = some (some (.pointer none), 1, 8) := by kernel_rfl

set_option maxRecDepth 100000 in
theorem shardNew (w : World) : Calls Tryz.prog 64 #[.int .i64 1] w
    fun r w' => r = .returned (.pointer (some ⟨w.heap.size, 0, none⟩)) ∧ w' = w.alloc (.cells #[.slice none 0 0, .int .i64 1, .int .i64 0, .int .i64 0] 123) := by
  go_enter Tryz.func64, Tryz.ntmps64
  go_wp2
  go_ret
  exact ⟨rfl, rfl⟩

set_option maxRecDepth 100000 in
set_option maxHeartbeats 2000000 in
theorem new_one (w : World) : Calls Tryz.prog 32 #[.agg #[.int .i64 1, .int .i64 1]] w
    fun r w' => ∃ db sb shv, r = .returned (.tuple #[.pointer (some ⟨db, 0, none⟩), .int .i64 0]) ∧ Blk w' db 114 (dep shv (.slice none 0 0) (.slice none 0 0)) ∧ Rw w' 115 1 shv 1 [.pointer (some ⟨sb, 0, none⟩)] ∧ Blk w' sb 123 #[.slice none 0 0, .int .i64 1, .int .i64 0, .int .i64 0] ∧ w.heap.size ≤ db ∧ Below w.heap.size w w' := by
  go_enter Tryz.func32, Tryz.ntmps32
  go_wp2
  refine wp_loop_rounds 2 ?_
  rw [rounds_succ]
  go_wp2
  have hA : Below w.heap.size w ((w.alloc (.cells #[.int .i64 1, .int .i64 1] 68)).alloc (.cells (dep (.slice none 0 0) (.slice none 0 0) (.slice none 0 0)) 114)) := ((Below.refl _ _).alloc (Nat.le_refl _) _).alloc (by simp) _
  have hd : Blk ((w.alloc (.cells #[.int .i64 1, .int .i64 1] 68)).alloc (.cells (dep (.slice none 0 0) (.slice none 0 0) (.slice none 0 0)) 114)) (w.heap.size + 1) 114 (dep (.slice none 0 0) (.slice none 0 0) (.slice none 0 0)) := Blk.at _ _ _ _ (by simp)
  have hcf : Blk ((w.alloc (.cells #[.int .i64 1, .int .i64 1] 68)).alloc (.cells (dep (.slice none 0 0) (.slice none 0 0) (.slice none 0 0)) 114)) w.heap.size 68 #[.int .i64 1, .int .i64 1] := (Blk.new _ _ _).alloc _
  generalize (w.alloc (.cells #[.int .i64 1, .int .i64 1] 68)).alloc (.cells (dep (.slice none 0 0) (.slice none 0 0) (.slice none 0 0)) 114) = W0 at *
  have g0 : W0.cell? ⟨w.heap.size + 1, 0, none⟩ = some (.slice none 0 0) := hd.cell 0
  have g1 : W0.cell? ⟨w.heap.size, 1, none⟩ = some (.int .i64 1) := hcf.cell 1
  have l0 := hd.lt
  have l1 := hcf.lt
  have HS : Hid (Calls Tryz.prog 64 #[.int .i64 1] (World.drew W0) fun r w' => r = .returned (.pointer (some ⟨W0.heap.size, 0, none⟩)) ∧ Blk w' W0.heap.size 123 #[.slice none 0 0, .int .i64 1, .int .i64 0, .int .i64 0] ∧ Below W0.heap.size W0 w' ∧ w'.cell? ⟨w.heap.size + 1, 0, none⟩ = some (.slice none 0 0) ∧ w'.heap.size = W0.heap.size + 1) := by
    refine (shardNew (World.drew W0)).mono ?_
    rintro e w' ⟨q1, rfl⟩
    exact ⟨q1, Blk.new _ _ _, (Below.refl _ _).drew.alloc (Nat.le_refl _) _, ((hd.drew.alloc _).cell 0), by simp⟩
  have F0 := hd.frozen 0
  have HX : Hid (∀ w1, w1.heap.size = W0.heap.size + 1 → ∀ j u, [Value.pointer (some ⟨W0.heap.size, 0, none⟩)][j]? = some u → (World.alloc w1 (.cells #[.pointer (some ⟨W0.heap.size, 0, none⟩)] 115)).cell? (Addr.add ⟨W0.heap.size + 1, 0, none⟩ j) = some u) := fun w1 z1 j u hj => by
    cases j with
    | zero =>
      simp only [List.getElem?_cons_zero, Option.some.injEq] at hj
      subst hj
      rw [Addr.add_lit]
      exact (Blk.at w1 115 #[.pointer (some ⟨W0.heap.size, 0, none⟩)] _ z1.symm).cell 0
    | succ j => simp at hj
  go_region_law (first | (refine step_append_rw rfl (.tmp 33) (.tmp 37) 105 105 rfl 115 _ 1 8 Tryz.underlying105 infoShardPtr rfl (by omega) (.slice none 0 0) 0 [] (by simp [Act.eval]) (Rw.nil _ _ _) (.slice (some ⟨W0.heap.size + 1, 0, none⟩) 1 1) 1 [.pointer (some ⟨W0.heap.size, 0, none⟩)] (by simp [Act.eval]) (Src.ofSlice _ Tryz.underlying105 ⟨W0.heap.size + 1, 0, none⟩ 1 1 _ rfl (HX.out w1 z1) (by simp [Value.oneCell'])) (by omega) ?_; rintro v2 w2 r2 k2 o2; have d2 := ((hd.below k1 l0).alloc (.cells #[.pointer (some ⟨W0.heap.size, 0, none⟩)] 115)).kept k2 (fun e => by simp [Value.ownBlock] at e); have c2 : w2.cell? ⟨w.heap.size + 1, 0, none⟩ = some (.slice none 0 0) := d2.cell 0; have f2 := d2.frozen 0; have n2 := Rw.ne r2 d2 (by decide); have s2 := (hs1.alloc (.cells #[.pointer (some ⟨W0.heap.size, 0, none⟩)] 115)).kept k2 (fun e => by simp [Value.ownBlock] at e); obtain ⟨a2, e2, rfl⟩ := Rw.shape r2) | (go_simp; go_at_call 64; refine HS.out.mono ?_; rintro e w1 ⟨rfl, hs1, k1, g3, z1⟩))
  all_goals
    go_wp2
    rw [rounds_succ]
    go_wp2
    go_ret2
    have KS : Kept (fun k => k = w.heap.size + 1) w2 (w2.setCell ⟨w.heap.size + 1, 0, none⟩ (.slice a2 (0 + 1) e2)) := (Kept.refl _ _).set _ _ (fun _ => rfl)
    refine ⟨w.heap.size + 1, W0.heap.size, _, rfl, by simpa using d2.set 0 _, Rw.kept r2 KS (fun k hk e => by subst e; exact n2 hk), s2.kept KS (s2.ne d2 (by decide)), by omega, ?_⟩
    exact Below.setCell (((hA.trans (k1.mono hA.size)).trans ((Kept.ofBelow (S := fun k => (Value.slice none 0 0).ownBlock = some k) ((Below.refl _ _).alloc (Nat.le_refl _) _)).trans k2 |>.toBelow (fun k _ e => by simp [Value.ownBlock] at e) (Nat.le_trans hA.size k1.size)))) (by simp) _
end Go.Proofs.YthpmcilljbmoiaaGreatDoor
namespace Go.Proofs.YthpmcilljbmoiaaGreatDoor
open Go.RowKit
/-- one result, in a cell of its own -/
theorem results_cell1 {fn : Func} {p : Tmp} {ty : TypeId} (h : fn.results = #[.cell p ty]) (tmps : Array Value) (P : Program) (w : World) (g : Nat) (v : Value) (hp : tmps.getD p undef = .pointer (some ⟨g, 0, none⟩)) (hl : (loadVar ty ⟨g, 0, none⟩).run P w = .ok v w) :
    (results fn tmps).run P w = .ok v w := by
  have hp' : tmps[p]?.getD undef = .pointer (some ⟨g, 0, none⟩) := by simpa using hp
  simp only [results, h]
  simp [hp', asAddr, hl]
end Go.Proofs.YthpmcilljbmoiaaGreatDoor
namespace Go.Proofs.YthpmcilljbmoiaaGreatDoor
open Go.RowKit

set_option maxRecDepth 100000 in
set_option maxHeartbeats 400000 in
theorem length_any (nm : ByteArray) (w : World) (h : 2 ≤ nm.size) :
    Calls Tryz.prog 239 #[.string nm] w fun r w' => r = .returned (.int .i64 (num (nm.extract 0 2))) ∧ w = w' := by
  have HN := hide (numOf2 (nm.extract 0 2) w (by rw [ByteArray.size_extract]; omega))
  have hi : (2 : Int) ≤ (nm.size : Int) := by omega
  go_enter Tryz.func239, Tryz.ntmps239
  go_wp2_with (go_at_call 176; refine HN.out.mono ?_; rintro e w1 ⟨rfl, rfl⟩)
  go_ret
  exact ⟨rfl, rfl⟩
set_option maxRecDepth 100000 in
set_option maxHeartbeats 400000 in
theorem name_ok (rb : Nat) (nm y : ByteArray) (w : World) (h : Rd w rb (nm ++ y)) (hn : nm.size = 34) (hs : y.size ≤ 5000) (hl : num (nm.extract 0 2) ≤ 120) :
    Calls Tryz.prog 232 #[.pointer (some ⟨rb, 0, none⟩)] w
      fun r w' => r = .returned (.string nm) ∧ Rd w' rb y ∧ Kept (fun k => k = rb) w w' := by
  have HT : Hid (Calls Tryz.prog 219 #[.pointer (some ⟨rb, 0, none⟩), .int .i64 34] w fun r w' => r = .returned (.string nm) ∧ Rd w' rb y ∧ Kept (fun k => k = rb) w w' ∧ w'.cell? ⟨rb, 1, none⟩ = some (.bool false)) := by
    refine (take_pre rb nm y 34 w h hn.symm (by omega)).mono ?_
    rintro e w' ⟨q1, q2, q3⟩
    obtain ⟨rv, q4, q5⟩ := id q2
    exact ⟨q1, q2, q3, q4.cell 1⟩
  have HL := hide (fun w => length_any nm w (by omega))
  have hi : ¬ ((120 : Int) < (num (nm.extract 0 2) : Int)) := by omega
  generalize num (nm.extract 0 2) = L at *
  clear h hn
  go_enter Tryz.func232, Tryz.ntmps232
  go_wp2_with (first | (go_at_call 219; refine HT.out.mono ?_; rintro e w1 ⟨rfl, hr1, hk1, g1⟩) | (go_at_call 239; refine (HL.out _).mono ?_; rintro e w2 ⟨rfl, rfl⟩))
  go_ret
  exact ⟨rfl, hr1, hk1⟩

/-- texts, one behind the other -/
def cat : List ByteArray → ByteArray
  | [] => ⟨#[]⟩
  | x :: r => x ++ cat r
theorem cat_size (l : List ByteArray) (h : ∀ x ∈ l, x.size = 34) : (cat l).size = 34 * l.length := by
  induction l with
  | nil => rfl
  | cons x r ih =>
    rw [cat, ByteArray.size_append, h x (by simp), ih (fun y hy => h y (by simp [hy])), List.length_cons]
    omega
theorem infoStr : (Tryz.prog.info? 9).map (fun i => (i.zero, i.size, i.bytes)) = some (some (.string ⟨#[]⟩), 1, 16) := by kernel_rfl
theorem infoList : (Tryz.prog.info? 241).map (·.size) = some 1 := by kernel_rfl
theorem within16 (rb : Nat) (x y : ByteArray) (w : World) (h : Rd w rb (x ++ y)) (hn : x.size = 1) (hs : y.size ≤ 5000) (h1 : 1 ≤ num x) (h2 : num x ≤ 16) :
    Calls Tryz.prog 216 #[.pointer (some ⟨rb, 0, none⟩), .int .i64 1, .int .i64 16] w
      fun r w' => r = .returned (.int .i64 (num x)) ∧ Rd w' rb y ∧ Kept (fun k => k = rb) w w' := within_pre rb x y 1 16 w h hn hs h1 h2

/-- where a reading of names stands: i of them are read -/
structure Lst (w : World) (rb L : Nat) (names : List ByteArray) (y : ByteArray) (i : Nat) (wr : World) : Prop where
  rd : Rd wr rb (cat (names.drop i) ++ y)
  kp : Kept (fun k => k = rb) w wr
  ls : ∃ sv, Blk wr L 241 #[sv] ∧ Rw wr 9 1 sv i ((names.take i).map Value.string) ∧ Fresh w.heap.size sv
  lt : w.heap.size ≤ L

set_option maxRecDepth 100000 in
set_option maxHeartbeats 2000000 in
theorem list_ok (rb : Nat) (cnt y : ByteArray) (names : List ByteArray) (w : World) (h : Rd w rb (cnt ++ (cat names ++ y))) (h1 : cnt.size = 1) (hc : num cnt = names.length) (hn0 : 1 ≤ names.length) (hn : names.length ≤ 16) (hnm : ∀ x ∈ names, x.size = 34 ∧ num (x.extract 0 2) ≤ 120) (hy : y.size ≤ 1000) :
    Calls Tryz.prog 217 #[.pointer (some ⟨rb, 0, none⟩)] w
      fun r w' => ∃ sv, r = .returned (.agg #[sv]) ∧ Rw w' 9 1 sv names.length (names.map Value.string) ∧ Rd w' rb y ∧ Kept (fun k => k = rb) w w' ∧ Fresh w.heap.size sv := by
  have hcs := cat_size names (fun x hx => (hnm x hx).1)
  have hA : Below w.heap.size w ((w.alloc (.cells #[.slice none 0 0] 241)).alloc (.cells #[.slice none 0 0] 241)) := ((Below.refl _ _).alloc (Nat.le_refl _) _).alloc (by simp) _
  have hl0 : Blk ((w.alloc (.cells #[.slice none 0 0] 241)).alloc (.cells #[.slice none 0 0] 241)) (w.heap.size + 1) 241 #[.slice none 0 0] := Blk.at _ _ _ _ (by simp)
  have hl1 : Blk ((w.alloc (.cells #[.slice none 0 0] 241)).alloc (.cells #[.slice none 0 0] 241)) w.heap.size 241 #[.slice none 0 0] := (Blk.new _ _ _).alloc _
  have hlt := h.lt
  have HW : Hid (Calls Tryz.prog 216 #[.pointer (some ⟨rb, 0, none⟩), .int .i64 1, .int .i64 16] ((w.alloc (.cells #[.slice none 0 0] 241)).alloc (.cells #[.slice none 0 0] 241))
      fun r w' => r = .returned (.int .i64 names.length) ∧ Lst w rb (w.heap.size + 1) names y 0 w' ∧ Blk w' w.heap.size 241 #[.slice none 0 0]) := by
    have := within16 rb cnt (cat names ++ y) _ (h.below hA) h1 (by rw [ByteArray.size_append]; omega) (by omega) (by omega)
    rw [hc] at this
    refine this.mono ?_
    rintro e w' ⟨q1, q2, q3⟩
    exact ⟨q1, ⟨q2, (Kept.ofBelow hA).trans q3, ⟨_, hl0.kept q3 (by omega), .inl ⟨rfl, rfl, rfl⟩, Fresh.nil _ _ _⟩, by omega⟩, hl1.kept q3 (by omega)⟩
  clear hl0 hl1 hA h
  go_enter Tryz.func217, Tryz.ntmps217
  go_wp2_with (go_at_call 216; refine HW.out.mono ?_; rintro e w0 ⟨rfl, hL, hR⟩)
  go_loopw [6] (fun iv wr => ∃ i : Nat, i ≤ names.length ∧ iv = .int .i64 i ∧ Hid (Lst w rb (w.heap.size + 1) names y i wr) ∧ Hid (Blk wr w.heap.size 241 #[.slice none 0 0])) (fun iv _ => names.length - (intOf iv).toNat)
  case atStart => exact ⟨0, by omega, rfl, hL, hR⟩
  case round =>
    clear hL hR HW
    obtain ⟨i, hi, rfl, hL, hR⟩ := hrel
    by_cases hin : i < names.length
    · obtain ⟨hrd, hkp, ⟨sv, hB, hRw, hF⟩, hlt2⟩ := hL.out
      have hget : names[i] ∈ names := List.getElem_mem hin
      have hdrop : cat (names.drop i) ++ y = names[i] ++ (cat (names.drop (i + 1)) ++ y) := by
        rw [List.drop_eq_getElem_cons hin, cat, ByteArray.append_assoc]
      rw [hdrop] at hrd
      have hds : (cat (names.drop (i + 1)) ++ y).size ≤ 5000 := by
        have := cat_size (names.drop (i + 1)) (fun x hx => (hnm x (List.mem_of_mem_drop hx)).1)
        rw [ByteArray.size_append, this, List.length_drop]
        omega
      have htake : (names.take (i + 1)).map Value.string = (names.take i).map Value.string ++ [.string names[i]] := by
        rw [List.take_succ_eq_append_getElem hin, List.map_append]
        rfl
      have hRb : ∀ {b t cs}, Blk wr b t cs → b ≠ rb → True := fun _ _ => trivial
      obtain ⟨rv, hrB, _⟩ := id hrd
      have hne1 : w.heap.size + 1 ≠ rb := by omega
      have hne2 : w.heap.size ≠ rb := by omega
      have hsvne := Rw.ne hRw hB (by decide)
      have hsvrb : sv.ownBlock ≠ some rb := Rw.ne hRw hrB (by decide)
      have HN : Hid (Calls Tryz.prog 232 #[.pointer (some ⟨rb, 0, none⟩)] (World.drew wr) fun r w1 => r = .returned (.string names[i]) ∧ Rd w1 rb (cat (names.drop (i + 1)) ++ y) ∧ Kept (fun k => k = rb) w w1 ∧ Blk w1 (w.heap.size + 1) 241 #[sv] ∧ Rw w1 9 1 sv i ((names.take i).map Value.string) ∧ Blk w1 w.heap.size 241 #[.slice none 0 0] ∧ w1.cell? ⟨w.heap.size + 1, 0, none⟩ = some sv) := by
        refine (name_ok rb names[i] (cat (names.drop (i + 1)) ++ y) (World.drew wr) hrd (hnm _ hget).1 hds (hnm _ hget).2).mono ?_
        rintro e w1 ⟨q1, q2, q3⟩
        have hb1 := hB.drew.kept q3 hne1
        exact ⟨q1, q2, hkp.drew.trans q3, hb1, Rw.kept (Rw.drew hRw) q3 (fun k hk e => by subst e; exact hsvrb hk), hR.out.drew.kept q3 hne2, hb1.cell 0⟩
      have HX : Hid (∀ w1, ∀ j u, [Value.string names[i]][j]? = some u → (World.alloc w1 (.cells #[.string names[i]] 9)).cell? (Addr.add ⟨w1.heap.size, 0, none⟩ j) = some u) := fun w1 j u hj => by
        cases j with
        | zero =>
          simp only [List.getElem?_cons_zero, Option.some.injEq] at hj
          subst hj
          rw [Addr.add_lit]
          exact (Blk.new w1 9 #[.string names[i]]).cell 0
        | succ j => simp at hj
      have c0 : wr.cell? ⟨w.heap.size + 1, 0, none⟩ = some sv := hB.cell 0
      have HT := hide htake
      generalize names[i] = nm at *
      obtain ⟨a0, e0, rfl⟩ := Rw.shape hRw
      clear hrd hB hRw hR hL hrB hdrop htake hget hds hRb
      go_wp2
      go_region_law (first | (refine step_append_rw rfl (.tmp 9) (.tmp 12) 25 25 rfl 9 _ 1 16 Tryz.underlying25 infoStr rfl (by omega) (.slice a0 i e0) i _ (by simp [Act.eval]) (Rw.below r1 (Below.alloc (Below.refl w1.heap.size w1) (Nat.le_refl _) (.cells #[.string nm] 9))) (.slice (some ⟨w1.heap.size, 0, none⟩) 1 1) 1 [.string nm] (by simp [Act.eval]) (Src.ofSlice _ Tryz.underlying25 ⟨w1.heap.size, 0, none⟩ 1 1 _ rfl (HX.out w1) (by simp [Value.oneCell'])) (by omega) ?_; rintro v2 w2 r2 k2 o2; have b2 := (hb1.alloc (.cells #[.string nm] 9)).kept k2 hsvne; have c2 : w2.cell? ⟨w.heap.size + 1, 0, none⟩ = some (.slice a0 i e0) := b2.cell 0; have f2 := b2.frozen 0; obtain ⟨a2, e2, rfl⟩ := Rw.shape r2) | (go_simp; go_at_call 232; refine HN.out.mono ?_; rintro e w1 ⟨rfl, hr1, hk1, hb1, r1, hR1, g1⟩; have l1 := hb1.lt))
      all_goals
        go_wp2
        have KS : Kept (fun k => k = w.heap.size + 1) w2 (w2.setCell ⟨w.heap.size + 1, 0, none⟩ (.slice a2 (i + 1) e2)) := (Kept.refl _ _).set _ _ (fun _ => rfl)
        have n2 := Rw.ne r2 b2 (by decide)
        have K2 : Kept (fun k => k = rb) w w2 := (hk1.alloc _).next k2 (fun k hkk e => by have := hF k e; omega)
        have R2 := (hR1.alloc (.cells #[.string nm] 9)).kept k2 (fun e => Rw.ne r1 hR1 (by decide) e)
        have hr2 : Rd w2 rb (cat (names.drop (i + 1)) ++ y) := by
          obtain ⟨rv, q1, q2⟩ := hr1.below (Below.alloc (Below.refl w1.heap.size w1) (Nat.le_refl _) (.cells #[.string nm] 9))
          exact ⟨rv, q1.kept k2 hsvrb, q2.kept k2 (fun k hk e => Rw.ne2 (Rw.below r1 (Below.alloc (Below.refl w1.heap.size w1) (Nat.le_refl _) (.cells #[.string nm] 9))) q2 (by decide) e hk)⟩
        have hr3 : Rd (w2.setCell ⟨w.heap.size + 1, 0, none⟩ (.slice a2 (i + 1) e2)) rb (cat (names.drop (i + 1)) ++ y) := by
          obtain ⟨rv, q1, q2⟩ := hr2
          exact ⟨rv, q1.kept KS (by omega), q2.kept KS (fun k hk e => by subst e; exact bs_ne_cn q2 b2 (by decide) hk)⟩
        have hF2 : Fresh w.heap.size (.slice a2 (i + 1) e2) := by
          intro k hk
          rcases o2 with o2 | ⟨j, q1, q2⟩
          · exact hF k (o2 ▸ hk)
          · rw [q2] at hk
            injection hk with hk
            have := Nat.le_trans hk1.size (Nat.le_trans (by simp : w1.heap.size ≤ (w1.alloc (.cells #[.string nm] 9)).heap.size) q1)
            omega
        have hRw3 : Rw (w2.setCell ⟨w.heap.size + 1, 0, none⟩ (.slice a2 (i + 1) e2)) 9 1 (.slice a2 (i + 1) e2) (i + 1) ((names.take (i + 1)).map Value.string) := by
          rw [HT.out]
          exact Rw.kept r2 KS (fun k hk e => by subst e; exact n2 hk)
        have hL3 : Lst w rb (w.heap.size + 1) names y (i + 1) (w2.setCell ⟨w.heap.size + 1, 0, none⟩ (.slice a2 (i + 1) e2)) :=
          ⟨hr3, K2.next KS (fun k hkk e => by omega), ⟨_, by simpa using b2.set 0 (.slice a2 (i + 1) e2), hRw3, hF2⟩, by omega⟩
        have hR3 : Blk (w2.setCell ⟨w.heap.size + 1, 0, none⟩ (.slice a2 (i + 1) e2)) w.heap.size 241 #[.slice none 0 0] := R2.kept KS (by omega)
        exact ⟨⟨i + 1, by omega, by simp, hL3, hR3⟩, by simp [intOf]; omega⟩
    · obtain ⟨hrd, hkp, ⟨sv, hB, hRw, hF⟩, hlt2⟩ := hL.out
      have hie : i = names.length := by omega
      subst hie
      rw [List.drop_length] at hrd
      rw [List.take_length] at hRw
      have hRd : Rd wr rb y := by
        have : cat [] ++ y = y := empty_app y
        rw [this] at hrd
        exact hrd
      have hR' := hR.out
      obtain ⟨a0, e0, rfl⟩ := Rw.shape hRw
      have c0 : wr.cell? ⟨w.heap.size + 1, 0, none⟩ = some (.slice a0 names.length e0) := hB.cell 0
      have c1 : wr.cell? ⟨w.heap.size, 0, none⟩ = some (.slice none 0 0) := hR'.cell 0
      have f1 := hR'.frozen 0
      clear hL hR
      go_wp2
      have hf : Blk (wr.setCell ⟨w.heap.size, 0, none⟩ (.slice a0 names.length e0)) w.heap.size 241 #[.slice a0 names.length e0] := by simpa using hR'.set 0 (.slice a0 names.length e0)
      have KS : Kept (fun k => k = w.heap.size) wr (wr.setCell ⟨w.heap.size, 0, none⟩ (.slice a0 names.length e0)) := (Kept.refl _ _).set _ _ (fun _ => rfl)
      have n1 := Rw.ne hRw hR' (by decide)
      refine bodyPost_ret (v := .agg #[.slice a0 names.length e0]) (results_cell1 rfl _ _ _ w.heap.size _ rfl (run_loadVar_row _ w.heap.size 241 241 _ (0, 0) _ hf Tryz.underlying241 rfl infoList)) rfl ⟨_, rfl, Rw.kept hRw KS (fun k hk e => by subst e; exact n1 hk), ?_, hkp.next KS (fun k hkk e => by omega), hF⟩
      obtain ⟨rv, q1, q2⟩ := hRd
      exact ⟨rv, q1.kept KS (by omega), q2.kept KS (fun k hk e => by subst e; exact bs_ne_cn q2 hR' (by decide) hk)⟩
end Go.Proofs.YthpmcilljbmoiaaGreatDoor
