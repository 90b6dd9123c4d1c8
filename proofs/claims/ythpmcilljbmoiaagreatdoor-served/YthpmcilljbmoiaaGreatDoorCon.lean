import Derived.Test.YthpmcilljbmoiaaGreatDoorWire
import Derived.Test.YthpmcilljbmoiaaGreatDoorReadBegin
namespace Go.Proofs.YthpmcilljbmoiaaGreatDoor
open Go.RowKit

theorem Kept.cell {S : Nat → Prop} {w w' : World} (h : Kept S w w') {p : Addr} {v : Value} (hc : w.cell? p = some v) (hS : ¬ S p.block) : w'.cell? p = some v := by
  have hlt := World.block_lt_of_cell? _ _ hc
  have := h.block p.block hlt hS
  unfold World.cell? at hc ⊢
  rw [this]; exact hc

/-- v lies in F -/
def In (F : Nat → Prop) (v : Value) : Prop := ∀ k, v.ownBlock = some k → F k
/-- F and what is new -/
def ext (F : Nat → Prop) (w w' : World) : Nat → Prop := fun k => F k ∨ (w.heap.size ≤ k ∧ k < w'.heap.size)
theorem In.ext {F : Nat → Prop} {v : Value} (h : In F v) (w w' : World) : In (ext F w w') v := fun k hk => .inl (h k hk)
theorem In.home {F : Nat → Prop} {w w' : World} {v v' : Value} {e : TypeId} {sz n : Nat} {xs : List Value} (h : In F v) (hh : Home w v v') (hr : Rw w' e sz v' n xs) : In (Go.Proofs.YthpmcilljbmoiaaGreatDoor.ext F w w') v' := by
  intro k hk
  rcases hh with h1 | ⟨j, h1, h2⟩
  · exact .inl (h k (h1 ▸ hk))
  · rw [h2] at hk; injection hk with hk; subst hk
    exact .inr ⟨h1, Rw.lt hr h2⟩
theorem In.fresh {F : Nat → Prop} {w w' : World} {v : Value} {e : TypeId} {sz n : Nat} {xs : List Value} (h : Fresh w.heap.size v) (hr : Rw w' e sz v n xs) : In (Go.Proofs.YthpmcilljbmoiaaGreatDoor.ext F w w') v := fun k hk => .inr ⟨h k hk, Rw.lt hr hk⟩

/-- what is under way -/
def Cur (N : Nat → ByteArray) (w : World) (F : Nat → Prop) (wv gv wk : Value) : Option (Rq × Nat) → Prop
  | none => wk = .pointer none
  | some (x, d) => ∃ wb c a bv, wk = .pointer (some ⟨wb, 0, none⟩) ∧ Wk w wb (readRq x.1 x.2 c a) (d : Int) bv ∧ Bs w 5 bv (b8 x.2 ++ zer d) ∧ Rw w 9 1 (.slice a x.2 c) x.2 ((nms N x.2).map Value.string)
      ∧ F wb ∧ In F bv ∧ In F (.slice a x.2 c) ∧ (∀ k, bv.ownBlock = some k → wv.ownBlock ≠ some k ∧ gv.ownBlock ≠ some k) ∧ d ≤ x.2 ∧ okR x
def curRem : Option (Rq × Nat) → Nat
  | none => 0
  | some (x, d) => x.2 - d + 1
def curRep : Option (Rq × Nat) → ByteArray
  | none => ⟨#[]⟩
  | some (x, _) => rep x
def qRem : List Rq → Nat
  | [] => 0
  | x :: q => x.2 + 2 + qRem q
theorem qRem_add : ∀ (q : List Rq) (x : Rq), qRem (q ++ [x]) = qRem q + (x.2 + 2)
  | [], x => by simp [qRem]
  | y :: q, x => by rw [List.cons_append, qRem, qRem_add q x, qRem]; omega
/-- a connection whose requests are Reads, in the blocks F -/
structure Con (N : Nat → ByteArray) (w : World) (F : Nat → Prop) (kb : Nat) (q : List Rq) (cur : Option (Rq × Nat)) (going : ByteArray) : Prop where
  mem : ∃ wv gv wk, Cn w kb wv gv wk (.bool false) ∧ Bs w 5 wv (frs N q) ∧ Bs w 5 gv going ∧ In F wv ∧ In F gv ∧ (∀ k, wv.ownBlock = some k → gv.ownBlock ≠ some k) ∧ Cur N w F wv gv wk cur
  kb : F kb
  okq : ∀ x ∈ q, okR x
  sz : (frs N q).size ≤ 6000
  wz : (going ++ (curRep cur ++ reps q)).size ≤ 1000
  lt : ∀ k, F k → k < w.heap.size

theorem Con.kept {N : Nat → ByteArray} {S : Nat → Prop} {w w' : World} {F : Nat → Prop} {kb : Nat} {q : List Rq} {cur : Option (Rq × Nat)} {going : ByteArray} (h : Con N w F kb q cur going) (hk : Kept S w w') (hS : ∀ k, F k → ¬ S k) : Con N w' F kb q cur going := by
  obtain ⟨wv, gv, wk, h1, h2, h3, h4, h5, h6, h7⟩ := h.mem
  refine ⟨⟨wv, gv, wk, h1.kept hk (hS _ h.kb), h2.kept hk (fun k e => hS k (h4 k e)), h3.kept hk (fun k e => hS k (h5 k e)), h4, h5, h6, ?_⟩, h.kb, h.okq, h.sz, h.wz, fun k hk' => Nat.lt_of_lt_of_le (h.lt k hk') hk.size⟩
  cases cur with
  | none => exact h7
  | some p =>
    obtain ⟨x, d⟩ := p
    obtain ⟨wb, c, a, bv, e, g1, g2, g3, g4, g5, g6, g7⟩ := h7
    exact ⟨wb, c, a, bv, e, g1.kept hk (hS _ g4), g2.kept hk (fun k e => hS k (g5 k e)), g3.kept hk (fun k e => hS k (g6 k e)), g4, g5, g6, g7⟩
theorem Con.below {N : Nat → ByteArray} {w w' : World} {F : Nat → Prop} {kb : Nat} {q : List Rq} {cur : Option (Rq × Nat)} {going : ByteArray} (h : Con N w F kb q cur going) (hk : Below w.heap.size w w') : Con N w' F kb q cur going :=
  h.kept (Kept.ofBelow (S := fun _ => False) hk) (fun _ _ h => h)

abbrev ptrs (kbs : Nat → Nat) (n : Nat) : List Value := (List.range n).map fun i => Value.pointer (some ⟨kbs i, 0, none⟩)
theorem ptrs_get (kbs : Nat → Nat) (n i : Nat) (h : i < n) : (ptrs kbs n)[i]? = some (.pointer (some ⟨kbs i, 0, none⟩)) := by
  simp [ptrs, List.getElem?_range h]
theorem ptrs_add (kbs kbs' : Nat → Nat) (n : Nat) (h : ∀ i, i < n → kbs' i = kbs i) : ptrs kbs' (n + 1) = ptrs kbs n ++ [.pointer (some ⟨kbs' n, 0, none⟩)] := by
  simp only [ptrs, List.range_succ, List.map_append, List.map_cons, List.map_nil]
  congr 1
  exact List.map_congr_left (fun i hi => by rw [h i (List.mem_range.1 hi)])
/-- the depot's shards are empty and lie in G -/
structure Emp (w : World) (db : Nat) (G : Nat → Prop) : Prop where
  ex : ∃ shv cs m sh room, Blk w db 114 cs ∧ cs[0]? = some shv ∧ Rw w 115 1 shv m (ptrs sh m) ∧ (∀ j, j < m → Blk w (sh j) 123 #[.slice none 0 0, .int .i64 room, .int .i64 0, .int .i64 0]) ∧ G db ∧ In G shv ∧ (∀ j, j < m → G (sh j)) ∧ 0 < m ∧ m ≤ 8
theorem Emp.kept {S : Nat → Prop} {w w' : World} {db : Nat} {G : Nat → Prop} (h : Emp w db G) (hk : Kept S w w') (hS : ∀ k, G k → ¬ S k) : Emp w' db G := by
  obtain ⟨shv, cs, m, sh, room, h1, h2, h3, h4, h5, h6, h7, h8⟩ := h.ex
  exact ⟨shv, cs, m, sh, room, h1.kept hk (hS _ h5), h2, Rw.kept h3 hk (fun k e => hS k (h6 k e)), fun j hj => (h4 j hj).kept hk (hS _ (h7 j hj)), h5, h6, h7, h8⟩
theorem Emp.shs {w : World} {db : Nat} {G : Nat → Prop} (h : Emp w db G) : ∃ b off m cap sh, Shs w db b off m cap sh := by
  obtain ⟨shv, cs, m, sh, room, h1, h2, h3, h4, h5, h6, h7, h8, h9⟩ := h.ex
  obtain ⟨_, rfl, _⟩ | ⟨b, off, cap, cur, rfl, hb, g1, g2, g3, g4, g5⟩ := h3
  · omega
  · refine ⟨b, off, m, cap, sh, by rw [h1.cell]; exact h2, fun k hk => ?_, fun k hk => (h4 k hk).cell 0, h8, h9⟩
    rw [hb.cell, g5 k (by omega), ptrs_get _ _ _ hk]
/-- another cell of the depot is written -/
theorem Emp.set {w : World} {db : Nat} {G : Nat → Prop} (h : Emp w db G) (i : Nat) (hi : i ≠ 0) (v : Value) : Emp (w.setCell ⟨db, i, none⟩ v) db G := by
  obtain ⟨shv, cs, m, sh, room, h1, h2, h3, h4, h5, h6, h7, h8⟩ := h.ex
  have hk : Kept (fun k => k = db) w (w.setCell ⟨db, i, none⟩ v) := (Kept.refl _ _).set _ _ (fun _ => rfl)
  refine ⟨shv, _, m, sh, room, h1.set i v, ?_, Rw.kept h3 hk (fun k e e' => by subst e'; exact Rw.ne h3 h1 (by decide) e), fun j hj => (h4 j hj).kept hk ((h4 j hj).ne h1 (by decide)), h5, h6, h7, h8⟩
  rw [Array.getElem?_setIfInBounds, if_neg hi]
  exact h2
theorem Emp.below {w w' : World} {db : Nat} {G : Nat → Prop} (h : Emp w db G) (hk : Below w.heap.size w w') : Emp w' db G := h.kept (Kept.ofBelow (S := fun _ => False) hk) (fun _ _ h => h)

set_option maxRecDepth 100000 in
set_option maxHeartbeats 400000 in
theorem cut_none (kb : Nat) (wv gv wk cl : Value) (w : World) (hB : Cn w kb wv gv wk cl) (hw : Bs w 5 wv ⟨#[]⟩) :
    Calls Tryz.prog 128 #[.pointer (some ⟨kb, 0, none⟩)] w
      fun r w' => r = .returned (.tuple #[.slice none 0 0, .bool false]) ∧ Below w.heap.size w w' := by
  obtain ⟨a, c, rfl⟩ := hw.shape0
  have c0 : w.cell? ⟨kb, 0, none⟩ = _ := hB.cell 0
  simp at c0
  go_enter Tryz.func128, Tryz.ntmps128
  go_wp2
  go_ret2
  exact ⟨rfl, Below.refl _ _⟩
set_option maxRecDepth 100000 in
set_option maxHeartbeats 400000 in
theorem begin_none (db kb : Nat) (wv gv cl : Value) (w : World) (hB : Cn w kb wv gv (.pointer none) cl) (hw : Bs w 5 wv ⟨#[]⟩) :
    Calls Tryz.prog 91 #[.pointer (some ⟨db, 0, none⟩), .pointer (some ⟨kb, 0, none⟩)] w
      fun r w' => r = .returned (.int .i64 0) ∧ Below w.heap.size w w' := by
  have HC := hide (cut_none kb wv gv (.pointer none) cl w hB hw)
  clear hw hB
  go_enter Tryz.func91, Tryz.ntmps91
  go_wp2_with (go_at_call 128; refine HC.out.mono ?_; rintro e w1 ⟨rfl, k1⟩)
  go_ret
  exact ⟨rfl, k1⟩

section
variable {N : Nat → ByteArray} {w : World} {F G : Nat → Prop} {db kb : Nat} {q : List Rq} {going : ByteArray}
/-- nothing waits, nothing is under way -/
theorem step_none (h : Con N w F kb [] none going) :
    Calls Tryz.prog 49 #[.pointer (some ⟨db, 0, none⟩), .pointer (some ⟨kb, 0, none⟩)] w fun r w' => r = .returned (.int .i64 0) ∧ Below w.heap.size w w' := by
  obtain ⟨wv, gv, wk, h1, h2, h3, h4, h5, h6, h7⟩ := h.mem
  obtain rfl : wk = _ := h7
  refine step_begin db kb wv gv (.bool false) w _ h1 ((begin_none db kb wv gv (.bool false) w h1 h2).mono ?_)
  rintro e w' ⟨rfl, hb⟩
  exact ⟨0, rfl, rfl, hb⟩
/-- a request is begun -/
theorem step_first (hN : Nok N) (x : Rq) (h : Con N w F kb (x :: q) none going) :
    Calls Tryz.prog 49 #[.pointer (some ⟨db, 0, none⟩), .pointer (some ⟨kb, 0, none⟩)] w
      fun r w' => r = .returned (.int .i64 1) ∧ Con N w' (ext F w w') kb q (some (x, 0)) going ∧ Kept F w w' := by
  obtain ⟨wv, gv, wk, h1, h2, h3, h4, h5, h6, h7⟩ := h.mem
  obtain rfl : wk = _ := h7
  have hx := h.okq x (by simp)
  obtain ⟨f1, f2, f3, f4⟩ := front N hN x q hx _ rfl
  have hbz := bodyOf_size hN x.2 hx.2.2
  have hx1 := hx.1
  have hx2 := hx.2.1
  have hx8 := hx.2.2
  have hid : num (b8 (x.1 / 256) ++ b8 (x.1 % 256)) = x.1 := by rw [num_b8s _ _ (by omega) (by omega)]; omega
  have := begin_read db kb wv gv (.bool false) (frs N (x :: q)) _ (frs N q) (b8 2) (b8 (x.1 / 256) ++ b8 (x.1 % 256)) (b8 x.2) (nms N x.2) (3 + (bodyOf N x.2).size) w h1 h2 h.sz f2 f1 (by omega) (by omega) f3 f4 rfl rfl (two_size _ _) (num_b8 2 (by omega)) rfl (by rw [num_b8 _ (by omega), nms_len]) (by rw [nms_len]; omega) (by rw [nms_len]; omega) (nms_ok hN x.2 hx8)
  rw [hid, nms_len] at this
  refine step_begin db kb wv gv (.bool false) w _ h1 (this.mono ?_)
  rintro e w' ⟨rfl, wv', wb, a, c, bv, g1, g2, g3, g4, g5, g6, g7, g8, g9, g10⟩
  have hgo := h3.kept g9 (fun k hk e => by subst e; exact bs_ne_cn h3 h1 (by decide) hk)
  have hap : ∀ k, wv'.ownBlock = some k → gv.ownBlock ≠ some k := fun k hk => h6 k (g10 ▸ hk)
  refine ⟨1, rfl, rfl, ⟨⟨wv', gv, _, g1, g2, hgo, fun k hk => .inl (h4 k (g10 ▸ hk)), h5.ext _ _, hap, wb, c, a, bv, rfl, g3, ?_, g5, .inr ⟨g6, g3.lt⟩, In.fresh g7 g4, In.fresh g8 g5, fun k hk => ?_, Nat.zero_le _, hx⟩, .inl h.kb, fun y hy => h.okq y (by simp [hy]), ?_, ?_, fun k hk => ?_⟩, g9.mono (fun k _ e => by subst e; exact h.kb)⟩
  · rw [zer, app_empty]; exact g4
  · have l1 := g7 k hk
    refine ⟨fun e => ?_, fun e => ?_⟩
    · have := Rw.lt h2 (g10 ▸ e); omega
    · have := Rw.lt h3 e; omega
  · have := h.sz
    rw [frs, ByteArray.size_append] at this
    omega
  · have := h.wz
    simp only [curRep, reps, empty_app] at this ⊢
    exact this
  · rcases hk with hk | hk
    · exact Nat.lt_of_lt_of_le (h.lt k hk) g9.size
    · exact hk.2
set_option maxHeartbeats 400000 in
/-- an item is done -/
theorem step_one (hN : Nok N) (x : Rq) (d : Nat) (hd : d < x.2) (he : Emp w db G) (hFG : ∀ k, F k → ¬ G k) (h : Con N w F kb q (some (x, d)) going) :
    Calls Tryz.prog 49 #[.pointer (some ⟨db, 0, none⟩), .pointer (some ⟨kb, 0, none⟩)] w
      fun r w' => r = .returned (.int .i64 2) ∧ Con N w' (ext F w w') kb q (some (x, d + 1)) going ∧ Kept F w w' := by
  obtain ⟨wv, gv, wk, h1, h2, h3, h4, h5, h6, wb, c, a, bv, rfl, k1, k2, k3, k4, k5, k6, k7, k8, k9⟩ := h.mem
  have hx8 := k9.2.2
  have hnl := nms_len N x.2
  refine step_read db kb wb x.1 x.2 c d a wv gv (.bool false) bv w _ h1 k1 hd (fun w1 hb1 => ?_)
  have he1 := he.below hb1
  have hcon := h.below hb1
  refine (doItem_read db wb x.1 x.2 c d a bv (b8 x.2 ++ zer d) (b8 0) (nms N x.2) w1 (k1.below hb1 k1.lt) (k2.below hb1) hnl (by omega) (by omega) (k3.below hb1) (by simp only [ByteArray.size_append, zer_size, b8_size]; omega) (fun w2 hk2 => ?_)).mono ?_
  · have he2 := he1.kept hk2 (fun k hg e => by subst e; exact hFG _ k4 hg)
    obtain ⟨b, off, m, cap, sh, s1⟩ := he2.shs
    have hnm := (nms_ok hN x.2 hx8 ((nms N x.2)[d]'(by omega)) (List.getElem_mem _)).1
    exact read_empty db b off m cap sh _ w2 s1 (by omega)
  · rintro e w' ⟨rfl, bv', g1, g2, g3, g4⟩
    have hk1 : Kept F w w1 := Kept.ofBelow hb1
    have hk : Kept F w w' := hk1.next g3 (fun i _ e => by
      rcases e with rfl | e
      · exact k4
      · exact k5 i e)
    have nS : ∀ {v : Value} {s : ByteArray}, Bs w 5 v s → (∀ k, bv.ownBlock = some k → v.ownBlock ≠ some k) → Bs w' 5 v s := fun hv hn => (hv.below hb1).kept g3 (fun k hk e => by
      rcases e with rfl | e
      · exact bs_ne_cn hv k1 (by decide) hk
      · exact hn k e hk)
    have hne : kb ≠ wb := h1.ne k1 (by decide)
    have cn' : Cn w' kb wv gv (.pointer (some ⟨wb, 0, none⟩)) (.bool false) := (h1.below hb1 h1.lt).kept g3 (fun e => by
      rcases e with e | e
      · exact hne e
      · exact bs_ne_cn k2 h1 (by decide) e)
    have rw' := Rw.kept (k3.below hb1) g3 (fun k hk e => by
      rcases e with rfl | e
      · exact Rw.ne k3 k1 (by decide) hk
      · exact Rw.ne2 k2 k3 (by decide) e hk)
    have hs1 := hb1.size
    have hin : In (ext F w w') bv' := fun k hk => by
      rcases g4 with e | ⟨j, e1, e2⟩
      · exact .inl (k5 k (e ▸ hk))
      · rw [e2] at hk; injection hk with hk; subst hk
        exact .inr ⟨by omega, Rw.lt g2 e2⟩
    refine ⟨rfl, rfl, ⟨⟨wv, gv, _, cn', nS h2 (fun k hk e => (k7 k hk).1 e), nS h3 (fun k hk e => (k7 k hk).2 e), h4.ext _ _, h5.ext _ _, h6, wb, c, a, bv', rfl, ?_, ?_, rw', .inl k4, hin, k6.ext _ _, fun k hk => ?_, by omega, k9⟩, .inl h.kb, h.okq, h.sz, h.wz, fun k hk' => ?_⟩, hk⟩
    · have : ((d + 1 : Nat) : Int) = (d : Int) + 1 := by omega
      rw [this]; exact g1
    · rw [zer, ← ByteArray.append_assoc]; exact g2
    · rcases g4 with e | ⟨j, e1, e2⟩
      · exact k7 k (e ▸ hk)
      · rw [e2] at hk; injection hk with hk; subst hk
        refine ⟨fun e => ?_, fun e => ?_⟩
        · have := Rw.lt h2 e; omega
        · have := Rw.lt h3 e; omega
    · rcases hk' with hk' | hk'
      · exact Nat.lt_of_lt_of_le (h.lt k hk') hk.size
      · exact hk'.2
set_option maxHeartbeats 400000 in
/-- the reply goes out -/
theorem step_last (x : Rq) (h : Con N w F kb q (some (x, x.2)) going) :
    Calls Tryz.prog 49 #[.pointer (some ⟨db, 0, none⟩), .pointer (some ⟨kb, 0, none⟩)] w
      fun r w' => r = .returned (.int .i64 3) ∧ Con N w' (ext F w w') kb q none (going ++ rep x) ∧ Kept F w w' := by
  obtain ⟨wv, gv, wk, h1, h2, h3, h4, h5, h6, wb, c, a, bv, rfl, k1, k2, k3, k4, k5, k6, k7, k8, k9⟩ := h.mem
  have hx8 := k9.2.2
  have hgz : going.size ≤ 1000 := by
    have := h.wz
    rw [ByteArray.size_append] at this
    omega
  refine step_told db kb wb x.1 x.2 c a wv gv (.bool false) bv w _ h1 k1 (fun w1 hb1 => ?_)
  refine (reply_of db kb wb 2 x.1 _ _ wv gv (.bool false) bv (x.2 : Int) going (b8 x.2 ++ zer x.2) w1 (method_read_reply x.1 x.2 c a) (h1.below hb1 h1.lt) (k1.below hb1 k1.lt) (h3.below hb1) (k2.below hb1) (by omega) k9.1 (by simp only [ByteArray.size_append, zer_size, b8_size]; omega) hgz).mono ?_
  rintro e w' ⟨rfl, gv', g1, g2, g3, g4⟩
  have hk1 : Kept F w w1 := Kept.ofBelow hb1
  have hs1 := hb1.size
  have hk : Kept F w w' := hk1.next g3 (fun i _ e => by
    rcases e with rfl | e
    · exact h.kb
    · exact h5 i e)
  have hwa : Bs w' 5 wv (frs N q) := (h2.below hb1).kept g3 (fun k hk e => by
    rcases e with rfl | e
    · exact bs_ne_cn h2 h1 (by decide) hk
    · exact h6 k hk e)
  have hin : In (ext F w w') gv' := fun k hk => by
    rcases g4 with e | ⟨j, e1, e2⟩
    · exact .inl (h5 k (e ▸ hk))
    · rw [e2] at hk; injection hk with hk; subst hk
      exact .inr ⟨by omega, Rw.lt g2 e2⟩
  refine ⟨rfl, rfl, ⟨⟨wv, gv', _, g1, hwa, g2, h4.ext _ _, hin, fun k hk e => ?_, rfl⟩, .inl h.kb, h.okq, h.sz, ?_, fun k hk' => ?_⟩, hk⟩
  · have := Rw.lt h2 hk
    exact h6 k hk (g4.old k (by omega) e)
  · have := h.wz
    simp only [curRep, empty_app, ByteArray.append_assoc] at this ⊢
    exact this
  · rcases hk' with hk' | hk'
    · exact Nat.lt_of_lt_of_le (h.lt k hk') hk.size
    · exact hk'.2
end

/-- a connection by what is left to be done and what will have gone out -/
def Cw (N : Nat → ByteArray) (w : World) (F : Nat → Prop) (kb : Nat) (r : Nat) (t : ByteArray) : Prop :=
  ∃ q cur going, Con N w F kb q cur going ∧ r = curRem cur + qRem q ∧ t = going ++ (curRep cur ++ reps q)
theorem Cw.kept {N : Nat → ByteArray} {S : Nat → Prop} {w w' : World} {F : Nat → Prop} {kb r : Nat} {t : ByteArray} (h : Cw N w F kb r t) (hk : Kept S w w') (hS : ∀ k, F k → ¬ S k) : Cw N w' F kb r t := by
  obtain ⟨q, cur, going, h1, h2, h3⟩ := h
  exact ⟨q, cur, going, h1.kept hk hS, h2, h3⟩
theorem Cw.lt {N : Nat → ByteArray} {w : World} {F : Nat → Prop} {kb r : Nat} {t : ByteArray} (h : Cw N w F kb r t) : ∀ k, F k → k < w.heap.size := by
  obtain ⟨q, cur, going, h1, h2, h3⟩ := h
  exact h1.lt
theorem step_cw {N : Nat → ByteArray} (hN : Nok N) {w : World} {F G : Nat → Prop} {db kb r : Nat} {t : ByteArray} (he : Emp w db G) (hFG : ∀ k, F k → ¬ G k) (h : Cw N w F kb r t) :
    Calls Tryz.prog 49 #[.pointer (some ⟨db, 0, none⟩), .pointer (some ⟨kb, 0, none⟩)] w
      fun e w' => ∃ z : Int, e = .returned (.int .i64 z) ∧ ((r = 0 ∧ z = 0 ∧ Below w.heap.size w w') ∨ (z ≠ 0 ∧ ∃ r', r = r' + 1 ∧ Cw N w' (ext F w w') kb r' t ∧ Kept F w w')) := by
  obtain ⟨q, cur, going, h1, h2, h3⟩ := h
  cases cur with
  | none =>
    cases q with
    | nil =>
      refine (step_none h1).mono ?_
      rintro e w' ⟨rfl, hb⟩
      exact ⟨0, rfl, .inl ⟨by rw [h2]; rfl, rfl, hb⟩⟩
    | cons x q =>
      refine (step_first hN x h1).mono ?_
      rintro e w' ⟨rfl, hc, hk⟩
      refine ⟨1, rfl, .inr ⟨by decide, x.2 - 0 + 1 + qRem q, ?_, ⟨q, _, going, hc, rfl, ?_⟩, hk⟩⟩
      · rw [h2]; simp only [curRem, qRem]; omega
      · rw [h3]; simp only [curRep, reps, empty_app]
  | some p =>
    obtain ⟨x, d⟩ := p
    by_cases hd : d < x.2
    · refine (step_one hN x d hd he hFG h1).mono ?_
      rintro e w' ⟨rfl, hc, hk⟩
      refine ⟨2, rfl, .inr ⟨by decide, x.2 - (d + 1) + 1 + qRem q, ?_, ⟨q, _, going, hc, rfl, ?_⟩, hk⟩⟩
      · rw [h2]; simp only [curRem]; omega
      · rw [h3]; simp only [curRep]
    · obtain ⟨wv, gv, wk, m1, m2, m3, m4, m5, m6, wb, c, a, bv, k0, k1, k2, k3, k4, k5, k6, k7, k8, k9⟩ := h1.mem
      obtain rfl : d = x.2 := by omega
      refine (step_last x h1).mono ?_
      rintro e w' ⟨rfl, hc, hk⟩
      refine ⟨3, rfl, .inr ⟨by decide, qRem q, ?_, ⟨q, _, _, hc, by simp [curRem], ?_⟩, hk⟩⟩
      · rw [h2]; simp only [curRem]; omega
      · rw [h3]; simp only [curRep, empty_app, ByteArray.append_assoc]
end Go.Proofs.YthpmcilljbmoiaaGreatDoor
