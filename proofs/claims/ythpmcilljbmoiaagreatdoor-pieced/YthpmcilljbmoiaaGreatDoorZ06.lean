import Derived.Test.YthpmcilljbmoiaaGreatDoorZ05
import Derived.Deep.RegionLaw
import Derived.Test.YthpmcilljbmoiaaGreatDoorZ03
namespace Go.Proofs.YthpmcilljbmoiaaGreatDoor
open Go.RowKit

/-- append where there is room, as one step of a region that draws -/
theorem step_append_in {P : Program} {ops : Array Oper} {o : Oper} {a : Act} {w : World} {K : Act → World → Prop} {Q : Exit → Act → World → Prop} {E : Prop}
    (hg : o.guard = none) (s x : Operand) (t : TypeId) (hop : o.op = Op.call { callee := Callee.builtin Builtin.append, args := #[s, x], argTypes := #[t, t] })
    (e : TypeId) (z : Value) (sz by_ : Nat) (h1 : P.underlying t = some (.slice e)) (h2 : (P.info? e).map (fun i => (i.zero, i.size, i.bytes)) = some (some z, sz, by_))
    (b off n cap : Nat) (cur : Array Value) (hs : a.eval s = .slice (some ⟨b, off, none⟩) n cap) (hB : Blk w b e cur) (xv : Value) (m : Nat) (news : List Value) (hx : a.eval x = xv) (hsrc : Src P sz t xv m news w)
    (hroom : n + m ≤ cap) (hfit : off + cap * sz ≤ cur.size)
    (hK : ∀ w' cur', Blk w' b e cur' → cur'.size = cur.size → (∀ j, j < off + n * sz ∨ off + n * sz + news.length ≤ j → cur'[j]? = cur[j]?) → (∀ j, j < news.length → cur'[off + n * sz + j]? = news[j]?) → Only b w w' → K (a.put o.dst (.slice (some ⟨b, off, none⟩) (n + m) cap)) w') :
    if Region.wanted o (yielded ops a.tmps) = true then Oper.wp P o a w K Q else E := by
  have hw : Region.wanted o (yielded ops a.tmps) = true := by simp [Region.wanted, hg]
  rw [if_pos hw]
  obtain ⟨i, hi, hz0, hz1, hz2⟩ := info_parts h2
  subst hz1
  have hle : off + n * i.size + news.length ≤ cur.size := by
    rw [hsrc.newsLen, Nat.add_assoc, ← Nat.add_mul]
    exact Nat.le_trans (Nat.add_le_add_left (Nat.mul_le_mul_right _ hroom) _) hfit
  have hrun := run_append_room_src (P := P) w t t o.type e i h1 hi b off n cap xv m news hsrc hroom (fun j hj => by
    rw [hB.cell, Array.getElem?_eq_getElem (by omega)]; rfl) (fun j _ => hB.frozen _)
  obtain ⟨cs', q1, q2, q3, q4, q5⟩ := setCells_blk news (off + n * i.size) w cur hB hle
  unfold Oper.wp
  simp [execOp, hop, resolve, invoke, builtin, hs, hx, hrun, Result.andThen]
  exact hK _ cs' q1 q2 q3 q4 q5

def empt : List Value := [.string ⟨#[]⟩, .string ⟨#[]⟩]
theorem zeroAct (w : World) : (zeroValue 301).run Tryz.prog w = .ok (.agg #[.string ⟨#[]⟩, .string ⟨#[]⟩]) w := by kernel_rfl
theorem clear_one (w : World) (b o c : Nat) (cur : Array Value) (hB : Blk w b 301 cur) (ho : o + 2 ≤ cur.size) (ty : TypeId) :
    (Builtin.clear_ #[110] ty #[.slice (some ⟨b, o, none⟩) 1 c]).run Tryz.prog w = .ok (.tuple #[]) (w.setCells b o empt) := by
  have hst := run_storeCells_cells (P := Tryz.prog) b o empt 0 w (fun j hj => by
    have : j < 2 := hj
    rw [hB.cell, Array.getElem?_eq_getElem (by omega)]; rfl) (fun j _ => hB.frozen _) (by simp [empt, Value.oneCell'])
  simp only [Nat.add_zero] at hst
  have hz : (Builtin.zeroCells (Value.agg #[.string ⟨#[]⟩, .string ⟨#[]⟩]).cells 1).toList = empt := by kernel_rfl
  simp [Builtin.clear_, run_underlying Tryz.underlying110, -Array.toList_ofFn, hz, hst]

set_option maxRecDepth 100000 in
set_option maxHeartbeats 400000 in
theorem delete_first (av : Value) (x : ByteArray × ByteArray) (acts : List (ByteArray × ByteArray)) (w : World) (ha : Ac w av (x :: acts)) (hn : acts.length ≤ 33) :
    Calls Tryz.prog 190 #[av, .int .i64 0, .int .i64 1] w
      fun r w' => ∃ av', r = .returned av' ∧ Ac w' av' acts ∧ Kept (fun k => av.ownBlock = some k) w w' ∧ av'.ownBlock = av.ownBlock := by
  obtain ⟨rfl, h1, h2⟩ | ⟨b, off, cap, cur, rfl, hb, h1, h2, h3, h4, h5⟩ := id ha
  · simp at h1
  simp only [List.length_cons] at *
  obtain ⟨q1, q2⟩ := Rw.cut ha 1 (acts.length + 1) cap (by omega) (by omega) (by omega) (by omega)
  have hdrop : ((actCells (x :: acts)).drop (1 * 2)).take ((acts.length + 1 - 1) * 2) = actCells acts := by
    have e1 : (actCells (x :: acts)).drop (1 * 2) = actCells acts := rfl
    rw [e1, Nat.add_sub_cancel]
    exact List.take_of_length_le (Nat.le_of_eq (actCells_len acts))
  rw [hdrop] at q1
  simp only [Nat.add_sub_cancel] at q1
  have l0 : ∀ w, (Instr.slice 110 (.slice (some ⟨b, off, none⟩) (acts.length + 1) cap) (some (.int .i64 0)) (some (.int .i64 1)) (some (.int .i64 ((acts.length : Int) + 1)))).run Tryz.prog w = .ok (sliced (some ⟨b, off, none⟩) 0 1 (acts.length + 1) 2) w := fun w => by
    rw [run_slice_lhm w _ _ _ _ Tryz.underlying110 _ _ _ _ _ _ (by omega) (by omega) (by omega) (by omega), show ((acts.length : Int) + 1).toNat = acts.length + 1 by omega]; first | rfl | (simp; rfl)
  have l1 : ∀ w, (Instr.slice 110 (.slice (some ⟨b, off, none⟩) (acts.length + 1) cap) none (some (.int .i64 0)) none).run Tryz.prog w = .ok (.slice (some ⟨b, off, none⟩) 0 cap) w := fun w => by
    rw [run_slice_h w _ _ _ _ Tryz.underlying110 _ _ (by omega) (by omega)]; first | rfl | (simp; rfl) | (simp [sliced, Addr.add_lit]; rfl) | (simp [sliced, Addr.add_lit])
  have l2 : ∀ w, (Instr.slice 110 (.slice (some ⟨b, off, none⟩) (acts.length + 1) cap) (some (.int .i64 1)) none none).run Tryz.prog w = .ok (sliced (some ⟨b, off, none⟩) 1 (acts.length + 1) cap 2) w := fun w => by
    rw [run_slice_l w _ _ _ _ Tryz.underlying110 _ _ (by omega) (by omega)]; first | rfl | (simp; rfl)
  have l3 : ∀ w, (Instr.slice 110 (.slice (some ⟨b, off, none⟩) acts.length cap) (some (.int .i64 acts.length)) (some (.int .i64 ((acts.length : Int) + 1))) none).run Tryz.prog w = .ok (.slice (some ⟨b, off + acts.length * 2, none⟩) 1 (cap - acts.length)) w := fun w => by
    rw [run_slice_lh w _ _ _ _ Tryz.underlying110 _ _ _ _ (by omega) (by omega) (by omega), show ((acts.length : Int) + 1).toNat = acts.length + 1 by omega]
    have : ¬ cap = acts.length := by omega
    simp [sliced, Addr.add_lit, this]
    rfl
  generalize sliced (some ⟨b, off, none⟩) 0 1 (acts.length + 1) 2 = V0 at *
  generalize sliced (some ⟨b, off, none⟩) 1 (acts.length + 1) cap 2 = V2 at *
  have hone : ∀ u ∈ actCells acts, u.oneCell' = true := fun u hu => by
    simp only [actCells, List.mem_flatMap] at hu
    obtain ⟨y, _, hy⟩ := hu
    simp at hy
    rcases hy with rfl | rfl <;> rfl
  have hsrc := hide (Rw.src (P := Tryz.prog) (w := World.drew w) Tryz.underlying110 q1 hone)
  have hal := hide (actCells_len acts)
  generalize hna : acts.length = n at *
  clear h5 h4 hdrop q1 ha hone
  go_enter Tryz.func190, Tryz.ntmps190
  go_wp2
  go_region_law (refine step_append_in rfl (.tmp 22) (.tmp 25) 110 rfl 301 _ 2 32 Tryz.underlying110 infoAct b off 0 cap cur (by simp [Act.eval, Act.put]) hb V2 n (actCells acts) (by simp [Act.eval, Act.put]) hsrc.out (by omega) (by omega) ?_; intro w2 cur2 b2 s2 o2 i2 y2)
  have hclr := fun ty => clear_one w2 b (off + n * 2) (cap - n) cur2 b2 (by omega) ty
  have b3 := setCells_blk empt (off + n * 2) w2 cur2 b2 (by simp [empt]; omega)
  generalize w2.setCells b (off + n * 2) empt = w3 at *
  obtain ⟨cs', r1, r2, r3, r4, r5⟩ := b3
  have R3 := hide r3
  have I2 := hide i2
  clear r3 r4 i2 o2 hsrc
  go_wp2
  go_ret
  have hal' := hal.out
  refine ⟨_, rfl, .inr ⟨b, off, cap, cs', by rw [hna]; rfl, r1, by omega, h2, by omega, by rw [hal', hna], fun j hj => ?_⟩, ?_, rfl⟩
  · rw [R3.out (off + j) (.inl (by omega))]
    have := I2.out j (by omega)
    simpa using this
  · have hk : Kept (fun k => k = b) w w3 := (((Kept.refl (fun k => k = b) w).drew).trans y2.kept).trans r5.kept
    exact hk.mono (fun k _ hk => by subst hk; rfl)
theorem Rw.shape {w : World} {e : TypeId} {sz : Nat} {v : Value} {n : Nat} {xs : List Value} (h : Rw w e sz v n xs) : ∃ a c, v = .slice a n c := by
  obtain ⟨rfl, h1, h2⟩ | ⟨b, off, cap, cur, rfl, hb, h1, h2, h3, h4, h5⟩ := h
  · exact ⟨none, 0, by rw [h1]⟩
  · exact ⟨_, _, rfl⟩

theorem actCells_app (l : List (ByteArray × ByteArray)) (k v : ByteArray) : actCells (l ++ [(k, v)]) = actCells l ++ [.string k, .string v] := by
  simp [actCells]

/-- a book behind a Put -/
def Booked (w : World) (db o : Nat) (t : TypeId) (cs : Array Value) (av : Value) (acts : List (ByteArray × ByteArray)) (w' : World) : Prop :=
  ∃ av', Blk w' db t (cs.setIfInBounds o av') ∧ Ac w' av' acts ∧ Kept (fun k => k = db ∨ av.ownBlock = some k) w w' ∧ Home w av av'

set_option maxRecDepth 100000 in
set_option maxHeartbeats 400000 in
theorem bookPut_new (db o : Nat) (t : TypeId) (cs : Array Value) (av : Value) (acts : List (ByteArray × ByteArray)) (key val : ByteArray) (w : World) (hB : Blk w db t cs) (ht : 301 ≠ t) (hc : cs[o]? = some av) (ha : Ac w av acts) (hn : acts.length < 32) (hx : actIx acts key = -1) :
    Calls Tryz.prog 137 #[.pointer (some ⟨db, o, none⟩), .string key, .string val] w
      fun r w' => r = .returned (.tuple #[]) ∧ Booked w db o t cs av (acts ++ [(key, val)]) w' := by
  have hlt := hB.lt
  have c0 : w.cell? ⟨db, o, none⟩ = some av := (hB.cell o).trans hc
  have HC := hide (find_any db o av acts key w hlt c0 ha (by omega))
  rw [hx] at HC
  have hne := Rw.ne ha hB ht
  obtain ⟨a, c, rfl, hcap⟩ := ha.shape
  have hge : ¬ (32 ≤ (acts.length : Int)) := by omega
  go_enter Tryz.func137, Tryz.ntmps137
  go_wp2_with (first | (go_at_call 189; refine HC.out.mono ?_; rintro e w1 ⟨rfl, hb1⟩; have c1 := (hb1.cell (p := ⟨db, o, none⟩) hlt).trans c0; have hlt1 : db < w1.heap.size := Nat.lt_of_lt_of_le hlt hb1.size) | (at_builtin; refine wpList_append_rw (World.alloc w1 (.cells #[.string key, .string val] 301)) rfl (.tmp 38) (.tmp 42) 110 110 rfl 301 _ 2 32 Tryz.underlying110 infoAct rfl (by omega) _ acts.length (actCells acts) rfl ((ha.below hb1).below (Below.alloc (Below.refl w1.heap.size w1) (Nat.le_refl _) _)) _ 1 [.string key, .string val] rfl (Src.ofSlice _ Tryz.underlying110 ⟨w1.heap.size, 0, none⟩ 1 1 [.string key, .string val] rfl ?_ ?_) ?_ ?_))
  · intro j u hj
    rw [Addr.add_lit, (Blk.new w1 301 #[.string key, .string val]).cell, Nat.zero_add]
    simpa using hj
  · simp [Value.oneCell']
  · omega
  intro v' w' r1 k1 h1
  have KA : Kept (fun k => (Value.slice a acts.length c).ownBlock = some k) w w' := ((Kept.ofBelow hb1).alloc _).next k1 (fun _ _ h => h)
  have hB' := hB.kept KA hne
  have c0' := (hB'.cell o).trans hc
  have f0' := hB'.frozen o
  have hne' := Rw.ne r1 hB' ht
  obtain ⟨a1, c1, rfl⟩ := Rw.shape r1
  go_wp2
  refine bodyPost_end (results_none rfl _ _ _) rfl ⟨rfl, _, hB'.set o _, ?_, ?_, ?_⟩
  · have r2 := Rw.kept r1 ((Kept.refl (fun k => k = db) w').set ⟨db, o, none⟩ (.slice a1 (acts.length + 1) c1) (fun _ => rfl)) (fun k hk e => by subst e; exact hne' hk)
    show Rw _ _ 2 _ (acts ++ [(key, val)]).length (actCells (acts ++ [(key, val)]))
    rw [actCells_app, List.length_append]
    exact r2
  · exact (KA.mono (fun _ _ h => .inr h)).set _ _ (fun _ => .inl rfl)
  · rcases h1 with h1 | ⟨k, h1, h2⟩
    · exact .inl h1
    · exact .inr ⟨k, Nat.le_trans hb1.size (Nat.le_trans (by simp) h1), h2⟩

set_option maxRecDepth 100000 in
set_option maxHeartbeats 400000 in
theorem bookPut_full (db o : Nat) (t : TypeId) (cs : Array Value) (av : Value) (x : ByteArray × ByteArray) (acts : List (ByteArray × ByteArray)) (key val : ByteArray) (w : World) (hB : Blk w db t cs) (ht : 301 ≠ t) (hc : cs[o]? = some av) (ha : Ac w av (x :: acts)) (hn : acts.length = 31) (hx : actIx (x :: acts) key = -1) :
    Calls Tryz.prog 137 #[.pointer (some ⟨db, o, none⟩), .string key, .string val] w
      fun r w' => r = .returned (.tuple #[]) ∧ Booked w db o t cs av (acts ++ [(key, val)]) w' := by
  have hlt := hB.lt
  have c0 : w.cell? ⟨db, o, none⟩ = some av := (hB.cell o).trans hc
  have HC := hide (find_any db o av (x :: acts) key w hlt c0 ha (by simp; omega))
  rw [hx] at HC
  have hne := Rw.ne ha hB ht
  have HD : ∀ w1, Below w.heap.size w w1 → Calls Tryz.prog 190 #[av, .int .i64 0, .int .i64 1] w1
      fun r w' => ∃ a c, r = .returned (.slice a 31 c) ∧ Blk w' db t cs ∧ Rw (w'.setCell ⟨db, o, none⟩ (.slice a 31 c)) 301 2 (.slice a 31 c) 31 (actCells acts) ∧ Kept (fun k => k = db ∨ av.ownBlock = some k) w (w'.setCell ⟨db, o, none⟩ (.slice a 31 c)) ∧ (Value.slice a 31 c).ownBlock = av.ownBlock ∧ Blk (w'.setCell ⟨db, o, none⟩ (.slice a 31 c)) db t (cs.setIfInBounds o (.slice a 31 c)) := fun w1 hb1 => by
    refine (delete_first av x acts w1 (ha.below hb1) (by omega)).mono ?_
    rintro e w' ⟨av', rfl, h1, h2, h3⟩
    have hk : Kept (fun k => av.ownBlock = some k) w w' := (Kept.ofBelow hb1).next h2 (fun _ _ h => h)
    have h1' : Rw w' 301 2 av' 31 (actCells acts) := by rw [← hn]; exact h1
    obtain ⟨a, c, rfl⟩ := Rw.shape h1'
    have hB' := hB.kept hk hne
    refine ⟨a, c, rfl, hB', Rw.kept h1' ((Kept.refl (fun k => k = db) w').set _ _ (fun _ => rfl)) (fun k hk e => by subst e; rw [h3] at hk; exact hne hk), (hk.mono (fun _ _ h => .inr h)).set _ _ (fun _ => .inl rfl), h3, hB'.set o _⟩
  have HD := hide HD
  have HN : Hid (∀ k v, (acts ++ [(k, v)]).length = 31 + 1) := fun k v => by rw [List.length_append, hn]; rfl
  have hol : o < cs.size := (Array.getElem?_eq_some_iff.1 hc).1
  obtain ⟨a, c, hav, _⟩ := ha.shape
  have hlen : (x :: acts).length = 32 := by simp; omega
  rw [hlen] at hav
  subst hav
  clear ha hlen hx hn
  go_enter Tryz.func137, Tryz.ntmps137
  go_wp2_with (first | (go_at_call 189; refine HC.out.mono ?_; rintro e w1 ⟨rfl, hb1⟩; have c1 := (hb1.cell (p := ⟨db, o, none⟩) hlt).trans c0; have hlt1 : db < w1.heap.size := Nat.lt_of_lt_of_le hlt hb1.size) | (go_at_call 190; refine (HD.out _ hb1).mono ?_; rintro e w2 ⟨a2, d2, rfl, hB2, ha3, hk3, hh3, hB3⟩; have c2 := (hB2.cell o).trans hc; have f2 := hB2.frozen o; have hlt2 := hB2.lt) | (at_builtin; refine wpList_append_rw (World.alloc (World.setCell w2 ⟨db, o, none⟩ (.slice a2 31 d2)) (.cells #[.string key, .string val] 301)) rfl (.tmp 38) (.tmp 42) 110 110 rfl 301 _ 2 32 Tryz.underlying110 infoAct rfl (by omega) _ 31 (actCells acts) rfl (ha3.below (Below.alloc (Below.refl _ _) (Nat.le_refl _) _)) _ 1 [.string key, .string val] rfl (Src.ofSlice _ Tryz.underlying110 ⟨w2.heap.size, 0, none⟩ 1 1 [.string key, .string val] rfl ?_ ?_) ?_ ?_))
  · intro j u hj
    rw [Addr.add_lit, (Blk.at (World.setCell w2 ⟨db, o, none⟩ (.slice a2 31 d2)) 301 #[.string key, .string val] w2.heap.size (World.size_setCell _ _ _).symm).cell, Nat.zero_add]
    simpa using hj
  · simp [Value.oneCell']
  · omega
  intro v' w' r1 k1 h1
  have KA : Kept (fun k => k = db ∨ (Value.slice a 32 c).ownBlock = some k) w w' := (hk3.alloc _).next k1 (fun _ _ h => .inr h)
  have hB' := ((hB3.alloc (.cells #[.string key, .string val] 301))).kept k1 hne
  have c0' : w'.cell? ⟨db, o, none⟩ = some (.slice a2 31 d2) := (hB'.cell o).trans (by simp [hol])
  have f0' := hB'.frozen o
  have hne' := Rw.ne r1 hB' ht
  obtain ⟨a1, c1, rfl⟩ := Rw.shape r1
  go_wp2
  refine bodyPost_end (results_none rfl _ _ _) rfl ⟨rfl, _, by simpa using hB'.set o _, ?_, ?_, ?_⟩
  · have r2 := Rw.kept r1 ((Kept.refl (fun k => k = db) w').set ⟨db, o, none⟩ (.slice a1 (31 + 1) c1) (fun _ => rfl)) (fun k hk e => by subst e; exact hne' hk)
    show Rw _ _ 2 _ (acts ++ [(key, val)]).length (actCells (acts ++ [(key, val)]))
    rw [actCells_app, HN.out]
    exact r2
  · exact KA.set _ _ (fun _ => .inl rfl)
  · rcases h1 with h1 | ⟨k, h1, h2⟩
    · exact .inl h1
    · exact .inr ⟨k, Nat.le_trans hk3.size (Nat.le_trans (by simp) h1), h2⟩
end Go.Proofs.YthpmcilljbmoiaaGreatDoor
namespace Go.Proofs.YthpmcilljbmoiaaGreatDoor
open Go.RowKit

theorem Bs.one (w : World) (k : Nat) (z : Int) (hz : z = (k : Int)) (hk : k < 256) : Bs (w.alloc (.cells #[.int .u8 z] 5)) 5 (.slice (some ⟨w.heap.size, 0, none⟩) 1 1) (b8 k) := by
  refine .inr ⟨w.heap.size, 0, 1, _, rfl, Blk.new _ _ _, by rw [b8_size]; omega, by decide, by simp, rfl, fun j hj => ?_⟩
  rw [b8_size] at hj
  have : j = 0 := by omega
  subst this
  subst hz
  simp [byteCells, b8, UInt8.toNat_ofNat_of_lt' hk]

set_option maxRecDepth 100000 in
theorem yes_any (w : World) :
    Calls Tryz.prog 186 #[] w
      fun r w' => ∃ v, r = .returned v ∧ Bs w' 5 v (b8 1) ∧ Below w.heap.size w w' ∧ Fresh w.heap.size v := by
  go_enter Tryz.func186, Tryz.ntmps186
  go_wp2
  go_ret
  exact ⟨_, rfl, Bs.one w 1 1 rfl (by decide), Below.alloc (Below.refl _ _) (Nat.le_refl _) _, fun k hk => by simp [Value.ownBlock] at hk; omega⟩
set_option maxRecDepth 100000 in
theorem no_any (w : World) :
    Calls Tryz.prog 183 #[] w
      fun r w' => ∃ v, r = .returned v ∧ Bs w' 5 v (b8 0) ∧ Below w.heap.size w w' ∧ Fresh w.heap.size v := by
  go_enter Tryz.func183, Tryz.ntmps183
  go_wp2
  go_ret
  exact ⟨_, rfl, Bs.one w 0 0 rfl (by decide), Below.alloc (Below.refl _ _) (Nat.le_refl _) _, fun k hk => by simp [Value.ownBlock] at hk; omega⟩

set_option maxRecDepth 100000 in
set_option maxHeartbeats 400000 in
theorem get_none (db : Nat) (t : TypeId) (cs : Array Value) (av : Value) (acts : List (ByteArray × ByteArray)) (key : ByteArray) (w : World) (hB : Blk w db t cs) (hc : cs[4]? = some av) (ha : Ac w av acts) (hn : acts.length ≤ 33) (hx : actIx acts key = -1) :
    Calls Tryz.prog 136 #[.pointer (some ⟨db, 0, none⟩), .string key] w
      fun r w' => ∃ v, r = .returned v ∧ Bs w' 5 v (b8 0) ∧ Below w.heap.size w w' ∧ Fresh w.heap.size v := by
  have HC := hide (bookGet_none db 4 av acts key w hB.lt ((hB.cell 4).trans hc) ha hn hx)
  have HY := hide no_any
  clear ha hx hc
  go_enter Tryz.func136, Tryz.ntmps136
  go_wp2_with (first | (go_at_call 188; refine HC.out.mono ?_; rintro e w1 ⟨rfl, hb1⟩) | (go_at_call 183; refine (HY.out _).mono ?_; rintro e w2 ⟨v, rfl, b2, k2, f2⟩))
  go_ret
  exact ⟨v, rfl, b2, hb1.trans (k2.mono hb1.size), f2.mono hb1.size⟩

set_option maxRecDepth 100000 in
set_option maxHeartbeats 400000 in
theorem get_at (db : Nat) (t : TypeId) (cs : Array Value) (av : Value) (acts : List (ByteArray × ByteArray)) (key val : ByteArray) (i : Nat) (hi : i < acts.length) (w : World) (hB : Blk w db t cs) (hc : cs[4]? = some av) (ha : Ac w av acts) (hn : acts.length ≤ 33) (hx : actIx acts key = i) (hv : acts[i].2 = val) (hvs : val.size ≤ 50) :
    Calls Tryz.prog 136 #[.pointer (some ⟨db, 0, none⟩), .string key] w
      fun r w' => ∃ v, r = .returned v ∧ Bs w' 5 v (b8 1 ++ b8 val.size ++ val) ∧ Below w.heap.size w w' ∧ Fresh w.heap.size v := by
  have HC := hide (bookGet_at db 4 av acts key i hi w hB.lt ((hB.cell 4).trans hc) ha hn hx)
  rw [hv] at HC
  have HY := hide yes_any
  have HA : Hid (∀ v s w1, s.size ≤ 50000 → Bs w1 5 v s → Below w.heap.size w w1 → Fresh w.heap.size v → Calls Tryz.prog 112 #[v, .int .i64 val.size, .int .i64 1] w1
      fun r w' => ∃ v', r = .returned v' ∧ Bs w' 5 v' (s ++ b8 val.size) ∧ Below w.heap.size w w' ∧ Fresh w.heap.size v') := fun v s w1 hs h hb hf => by
    refine (append1_any v s val.size w1 (by omega) hs h).mono ?_
    rintro e w' ⟨v', h1, h2, h3, h4⟩
    exact ⟨v', h1, h2, hb.trans (hf.below h3 hb.size), hf.home h4 hb.size⟩
  clear ha hx hc hv
  go_enter Tryz.func136, Tryz.ntmps136
  go_wp2_with (first | (go_at_call 188; refine HC.out.mono ?_; rintro e w1 ⟨rfl, hb1⟩) | (go_at_call 186; refine (HY.out _).mono ?_; rintro e w2 ⟨v2, rfl, b2, k2, f2⟩; have k2' := hb1.trans (k2.mono hb1.size); have f2' := f2.mono hb1.size) | (go_at_call 112; refine (HA.out v2 _ w2 (by rw [b8_size]; decide) b2 k2' f2').mono ?_; rintro e w3 ⟨v3, rfl, b3, k3, h3⟩) | (at_builtin; refine wpList_append_bs w3 rfl (.tmp 21) (.tmp 22) 126 9 rfl 5 Tryz.underlying126 infoU8 v3 _ rfl b3 _ val rfl (Src.ofString w3 Tryz.underlying9 val) ?_ ?_))
  · simp only [ByteArray.size_append, b8_size]; omega
  intro v4 w4 h4
  go_wp2
  go_ret
  obtain ⟨q1, q2, q3⟩ := h4
  exact ⟨v4, rfl, q1, k3.trans (h3.below q2 k3.size), h3.home q3 k3.size⟩
end Go.Proofs.YthpmcilljbmoiaaGreatDoor
namespace Go.Proofs.YthpmcilljbmoiaaGreatDoor
open Go.RowKit

/-- a request that is under way, without a lease -/
abbrev Wk (w : World) (wb : Nat) (rq : Value) (d : Int) (bv : Value) : Prop := Blk w wb 175 #[rq, .pointer none, .int .i64 d, bv]
abbrev getRq (id : Nat) (key : ByteArray) : Value := .iface 256 (.agg #[.int .i64 4, .int .i64 id, .string key])
abbrev putRq (id : Nat) (key val : ByteArray) : Value := .iface 258 (.agg #[.int .i64 5, .int .i64 id, .string key, .string val])

theorem ta_get_Find (id : Nat) (key : ByteArray) (w : World) : (Instr.typeAssert (getRq id key) 172 243 true).run Tryz.prog w = .ok (.tuple #[.agg #[.int .i64 0, .int .i64 0, .slice none 0 0, .int .i64 0], .bool false]) w := by kernel_rfl
theorem ta_get_Read (id : Nat) (key : ByteArray) (w : World) : (Instr.typeAssert (getRq id key) 172 246 true).run Tryz.prog w = .ok (.tuple #[.agg #[.int .i64 0, .int .i64 0, .slice none 0 0], .bool false]) w := by kernel_rfl
theorem ta_get_Update (id : Nat) (key : ByteArray) (w : World) : (Instr.typeAssert (getRq id key) 172 250 true).run Tryz.prog w = .ok (.tuple #[.agg #[.int .i64 0, .int .i64 0, .slice none 0 0], .bool false]) w := by kernel_rfl
theorem ta_get_Get (id : Nat) (key : ByteArray) (w : World) : (Instr.typeAssert (getRq id key) 172 256 true).run Tryz.prog w = .ok (.tuple #[.agg #[.int .i64 4, .int .i64 id, .string key], .bool true]) w := by kernel_rfl
theorem ta_put_Find (id : Nat) (key val : ByteArray) (w : World) : (Instr.typeAssert (putRq id key val) 172 243 true).run Tryz.prog w = .ok (.tuple #[.agg #[.int .i64 0, .int .i64 0, .slice none 0 0, .int .i64 0], .bool false]) w := by kernel_rfl
theorem ta_put_Read (id : Nat) (key val : ByteArray) (w : World) : (Instr.typeAssert (putRq id key val) 172 246 true).run Tryz.prog w = .ok (.tuple #[.agg #[.int .i64 0, .int .i64 0, .slice none 0 0], .bool false]) w := by kernel_rfl
theorem ta_put_Update (id : Nat) (key val : ByteArray) (w : World) : (Instr.typeAssert (putRq id key val) 172 250 true).run Tryz.prog w = .ok (.tuple #[.agg #[.int .i64 0, .int .i64 0, .slice none 0 0], .bool false]) w := by kernel_rfl
theorem ta_put_Get (id : Nat) (key val : ByteArray) (w : World) : (Instr.typeAssert (putRq id key val) 172 256 true).run Tryz.prog w = .ok (.tuple #[.agg #[.int .i64 0, .int .i64 0, .string ⟨#[]⟩], .bool false]) w := by kernel_rfl
theorem ta_put_Put (id : Nat) (key val : ByteArray) (w : World) : (Instr.typeAssert (putRq id key val) 172 258 true).run Tryz.prog w = .ok (.tuple #[.agg #[.int .i64 5, .int .i64 id, .string key, .string val], .bool true]) w := by kernel_rfl

set_option maxRecDepth 100000 in
set_option maxHeartbeats 400000 in
theorem doItem_get (db wb id : Nat) (key told : ByteArray) (w : World) (hW : Wk w wb (getRq id key) 0 (.slice none 0 0)) (ht : told.size ≤ 1000)
    (HG : Hid (∀ w1, Kept (fun k => k = wb) w w1 → Calls Tryz.prog 136 #[.pointer (some ⟨db, 0, none⟩), .string key] w1
      fun r w' => ∃ v, r = .returned v ∧ Bs w' 5 v told ∧ Below w1.heap.size w1 w' ∧ Fresh w1.heap.size v)) :
    Calls Tryz.prog 92 #[.pointer (some ⟨db, 0, none⟩), .pointer (some ⟨wb, 0, none⟩)] w
      fun r w' => r = .returned (.tuple #[]) ∧ ∃ bv, Wk w' wb (getRq id key) 1 bv ∧ Bs w' 5 bv told ∧ Kept (fun k => k = wb) w w' ∧ Fresh w.heap.size bv := by
  have c0 : w.cell? ⟨wb, 0, none⟩ = some (getRq id key) := hW.cell 0
  have c2 : w.cell? ⟨wb, 2, none⟩ = some (.int .i64 0) := hW.cell 2
  have f2 := hW.frozen 2
  have hlt := hW.lt
  have t1 := ta_get_Find id key
  have t2 := ta_get_Read id key
  have t3 := ta_get_Update id key
  have t4 := ta_get_Get id key
  have hK1 : Kept (fun k => k = wb) w ((w.setCell ⟨wb, 2, none⟩ (.int .i64 1)).alloc (.cells #[.int .i64 4, .int .i64 id, .string key] 256)) := ((Kept.refl (fun k => k = wb) w).set _ _ (fun _ => rfl)).alloc _
  have hW1 : Wk ((w.setCell ⟨wb, 2, none⟩ (.int .i64 1)).alloc (.cells #[.int .i64 4, .int .i64 id, .string key] 256)) wb (getRq id key) 1 (.slice none 0 0) := (by simpa using hW.set 2 (.int .i64 1) : Wk (w.setCell ⟨wb, 2, none⟩ (.int .i64 1)) wb (getRq id key) 1 (.slice none 0 0)).alloc _
  generalize hrq : getRq id key = rq at *
  clear hrq
  go_enter Tryz.func92, Tryz.ntmps92
  go_wp2_with (first | (go_at_call 136; refine (HG.out _ hK1).mono ?_; rintro e w1 ⟨v, rfl, b1, k1, f1⟩; have hW2 := hW1.below k1 hW1.lt; have d3 : w1.cell? ⟨wb, 3, none⟩ = some (.slice none 0 0) := hW2.cell 3) | (at_builtin; refine wpList_append_bs w1 rfl (.tmp 92) (.tmp 93) 126 126 rfl 5 Tryz.underlying126 infoU8 (.slice none 0 0) ⟨#[]⟩ rfl (Bs.nil w1 _) _ told rfl (b1.src Tryz.underlying126) ?_ ?_))
  · have : (⟨#[]⟩ : ByteArray).size = 0 := rfl
    omega
  rintro v2 w2 ⟨q1, q2, q3⟩
  rw [empty_app] at q1
  have hW3 : Wk w2 wb rq 1 (.slice none 0 0) := hW2.kept q2 (fun e => by simp [Value.ownBlock] at e)
  have d4 : w2.cell? ⟨wb, 3, none⟩ = some (.slice none 0 0) := hW3.cell 3
  have f4 := hW3.frozen 3
  have hne := bs_ne_cn q1 hW3 (by decide)
  obtain ⟨a2, e2, rfl, _⟩ := q1.shape
  go_wp2
  have hK2 : Kept (fun k => k = wb) w w2 := (hK1.below k1).next q2 (fun i _ h => by simp [Value.ownBlock] at h)
  refine bodyPost_end (results_none rfl _ _ _) rfl ⟨rfl, _, by simpa using hW3.set 3 _, q1.kept ((Kept.refl (fun k => k = wb) w2).set _ _ (fun _ => rfl)) (fun k hk e => by subst e; exact hne hk), hK2.set _ _ (fun _ => rfl), ?_⟩
  exact (Fresh.nil _ 0 0).home q3 (Nat.le_trans hK1.size k1.size)

set_option maxRecDepth 100000 in
set_option maxHeartbeats 400000 in
theorem doItem_put (db wb id : Nat) (key val : ByteArray) (R : World → World → Prop) (w : World) (hW : Wk w wb (putRq id key val) 0 (.slice none 0 0))
    (HP : Hid (∀ w1, Kept (fun k => k = wb) w w1 → Wk w1 wb (putRq id key val) 1 (.slice none 0 0) → Calls Tryz.prog 137 #[.pointer (some ⟨db, 4, none⟩), .string key, .string val] w1
      fun r w' => r = .returned (.tuple #[]) ∧ R w1 w' ∧ Wk w' wb (putRq id key val) 1 (.slice none 0 0))) :
    Calls Tryz.prog 92 #[.pointer (some ⟨db, 0, none⟩), .pointer (some ⟨wb, 0, none⟩)] w
      fun r w' => r = .returned (.tuple #[]) ∧ ∃ w1 w2 bv, Kept (fun k => k = wb) w w1 ∧ R w1 w2 ∧ Kept (fun k => k = wb) w2 w' ∧ Wk w' wb (putRq id key val) 1 bv ∧ Bs w' 5 bv ⟨#[]⟩ ∧ Fresh w2.heap.size bv := by
  have c0 : w.cell? ⟨wb, 0, none⟩ = some (putRq id key val) := hW.cell 0
  have c2 : w.cell? ⟨wb, 2, none⟩ = some (.int .i64 0) := hW.cell 2
  have f2 := hW.frozen 2
  have hlt := hW.lt
  have t1 := ta_put_Find id key val
  have t2 := ta_put_Read id key val
  have t3 := ta_put_Update id key val
  have t4 := ta_put_Get id key val
  have t5 := ta_put_Put id key val
  have hK1 : Kept (fun k => k = wb) w ((w.setCell ⟨wb, 2, none⟩ (.int .i64 1)).alloc (.cells #[.int .i64 5, .int .i64 id, .string key, .string val] 258)) := ((Kept.refl (fun k => k = wb) w).set _ _ (fun _ => rfl)).alloc _
  have hW1 : Wk ((w.setCell ⟨wb, 2, none⟩ (.int .i64 1)).alloc (.cells #[.int .i64 5, .int .i64 id, .string key, .string val] 258)) wb (putRq id key val) 1 (.slice none 0 0) := (by simpa using hW.set 2 (.int .i64 1) : Wk (w.setCell ⟨wb, 2, none⟩ (.int .i64 1)) wb (putRq id key val) 1 (.slice none 0 0)).alloc _
  generalize hrq : putRq id key val = rq at *
  clear hrq
  go_enter Tryz.func92, Tryz.ntmps92
  go_wp2
  have hd := Blk.at (w.setCell ⟨wb, 2, none⟩ (.int .i64 1)) 258 #[.int .i64 5, .int .i64 id, .string key, .string val] w.heap.size (World.size_setCell _ _ _).symm
  generalize (w.setCell ⟨wb, 2, none⟩ (.int .i64 1)).alloc (.cells #[.int .i64 5, .int .i64 id, .string key, .string val] 258) = W1 at *
  have g2 : W1.cell? ⟨w.heap.size, 2, none⟩ = some (.string key) := hd.cell 2
  have g3 : W1.cell? ⟨w.heap.size, 3, none⟩ = some (.string val) := hd.cell 3
  clear hd c0 c2 f2 t1 t2 t3 t4 t5 hW
  go_region_with (go_at_call 137; refine (HP.out (World.drew W1) hK1.drew hW1).mono ?_; rintro e w2 ⟨rfl, hR, hW2⟩; have d3 : w2.cell? ⟨wb, 3, none⟩ = some (.slice none 0 0) := hW2.cell 3)
  all_goals
    go_wp2_with (at_builtin; refine wpList_append_bs w2 rfl (.tmp 92) (.tmp 93) 126 126 rfl 5 Tryz.underlying126 infoU8 (.slice none 0 0) ⟨#[]⟩ rfl (Bs.nil w2 _) _ ⟨#[]⟩ rfl (Src.ofNil w2 Tryz.underlying126 0) ?_ ?_)
    · decide
    rintro v3 w3 ⟨q1, q2, q3⟩
    rw [empty_app] at q1
    have hW3 : Wk w3 wb rq 1 (.slice none 0 0) := hW2.kept q2 (fun e => by simp [Value.ownBlock] at e)
    have d4 : w3.cell? ⟨wb, 3, none⟩ = some (.slice none 0 0) := hW3.cell 3
    have f4 := hW3.frozen 3
    have hne := bs_ne_cn q1 hW3 (by decide)
    obtain ⟨a2, e2, rfl⟩ := q1.shape0
    go_wp2
    refine bodyPost_end (results_none rfl _ _ _) rfl ⟨rfl, _, w2, _, hK1.drew, hR, (q2.mono (fun i _ h => by simp [Value.ownBlock] at h)).set _ _ (fun _ => rfl), by simpa using hW3.set 3 _, q1.kept ((Kept.refl (fun k => k = wb) w3).set _ _ (fun _ => rfl)) (fun k hk e => by subst e; exact hne hk), ?_⟩
    exact (Fresh.nil _ 0 0).home q3 (Nat.le_refl _)
end Go.Proofs.YthpmcilljbmoiaaGreatDoor
