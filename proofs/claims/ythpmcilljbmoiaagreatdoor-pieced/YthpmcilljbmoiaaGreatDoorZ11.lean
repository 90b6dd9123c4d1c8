import Derived.Test.YthpmcilljbmoiaaGreatDoorZ09
import Derived.Test.YthpmcilljbmoiaaGreatDoorZ10
import Derived.Deep.CutBlock
import Derived.Test.YthpmcilljbmoiaaGreatDoorZ06
import Derived.Test.YthpmcilljbmoiaaGreatDoorZ03
namespace Go.Proofs.YthpmcilljbmoiaaGreatDoor
open Go.RowKit

theorem Kept.cell {S : Nat → Prop} {w w' : World} (h : Kept S w w') {p : Addr} {v : Value} (hc : w.cell? p = some v) (hS : ¬ S p.block) : w'.cell? p = some v := by
  have hlt := World.block_lt_of_cell? _ _ hc
  have := h.block p.block hlt hS
  unfold World.cell? at hc ⊢
  rw [this]; exact hc

/-- v lies in F -/
def In (F : Nat → Prop) (v : Value) : Prop := ∀ k, v.ownBlock = some k → F k
/-- F and what is new -/
def ext (F : Nat → Prop) (w w' : World) : Nat → Prop := fun k => F k ∨ (w.heap.size ≤ k ∧ k < w'.heap.size)
theorem In.ext {F : Nat → Prop} {v : Value} (h : In F v) (w w' : World) : In (ext F w w') v := fun k hk => .inl (h k hk)
theorem In.home {F : Nat → Prop} {w w' : World} {v v' : Value} {e : TypeId} {sz n : Nat} {xs : List Value} (h : In F v) (hh : Home w v v') (hr : Rw w' e sz v' n xs) : In (Go.Proofs.YthpmcilljbmoiaaGreatDoor.ext F w w') v' := by
  intro k hk
  rcases hh with h1 | ⟨j, h1, h2⟩
  · exact .inl (h k (h1 ▸ hk))
  · rw [h2] at hk; injection hk with hk; subst hk
    exact .inr ⟨h1, Rw.lt hr h2⟩
theorem In.fresh {F : Nat → Prop} {w w' : World} {v : Value} {e : TypeId} {sz n : Nat} {xs : List Value} (h : Fresh w.heap.size v) (hr : Rw w' e sz v n xs) : In (Go.Proofs.YthpmcilljbmoiaaGreatDoor.ext F w w') v := fun k hk => .inr ⟨h k hk, Rw.lt hr hk⟩

/-- what is under way -/
def Cur (N : Nat → ByteArray) (w : World) (F : Nat → Prop) (wv gv wk : Value) : Option (Rq × Nat) → Prop
  | none => wk = .pointer none
  | some (x, d) => ∃ wb c a bv, wk = .pointer (some ⟨wb, 0, none⟩) ∧ Wk w wb (readRq x.1 x.2 c a) (d : Int) bv ∧ Bs w 5 bv (b8 x.2 ++ zer d) ∧ Rw w 9 1 (.slice a x.2 c) x.2 ((nms N x.2).map Value.string)
      ∧ F wb ∧ In F bv ∧ In F (.slice a x.2 c) ∧ (∀ k, bv.ownBlock = some k → wv.ownBlock ≠ some k ∧ gv.ownBlock ≠ some k) ∧ d ≤ x.2 ∧ okR x
def curRem : Option (Rq × Nat) → Nat
  | none => 0
  | some (x, d) => x.2 - d + 1
def curRep : Option (Rq × Nat) → ByteArray
  | none => ⟨#[]⟩
  | some (x, _) => rep x
def qRem : List Rq → Nat
  | [] => 0
  | x :: q => x.2 + 2 + qRem q
theorem qRem_add : ∀ (q : List Rq) (x : Rq), qRem (q ++ [x]) = qRem q + (x.2 + 2)
  | [], x => by simp [qRem]
  | y :: q, x => by rw [List.cons_append, qRem, qRem_add q x, qRem]; omega
/-- a connection whose requests are Reads, in the blocks F -/
structure Con (N : Nat → ByteArray) (w : World) (F : Nat → Prop) (kb : Nat) (q : List Rq) (cur : Option (Rq × Nat)) (going : ByteArray) : Prop where
  mem : ∃ wv gv wk, Cn w kb wv gv wk (.bool false) ∧ Bs w 5 wv (frs N q) ∧ Bs w 5 gv going ∧ In F wv ∧ In F gv ∧ (∀ k, wv.ownBlock = some k → gv.ownBlock ≠ some k) ∧ Cur N w F wv gv wk cur
  kb : F kb
  okq : ∀ x ∈ q, okR x
  sz : (frs N q).size ≤ 6000
  wz : (going ++ (curRep cur ++ reps q)).size ≤ 1000
  lt : ∀ k, F k → k < w.heap.size

theorem Con.kept {N : Nat → ByteArray} {S : Nat → Prop} {w w' : World} {F : Nat → Prop} {kb : Nat} {q : List Rq} {cur : Option (Rq × Nat)} {going : ByteArray} (h : Con N w F kb q cur going) (hk : Kept S w w') (hS : ∀ k, F k → ¬ S k) : Con N w' F kb q cur going := by
  obtain ⟨wv, gv, wk, h1, h2, h3, h4, h5, h6, h7⟩ := h.mem
  refine ⟨⟨wv, gv, wk, h1.kept hk (hS _ h.kb), h2.kept hk (fun k e => hS k (h4 k e)), h3.kept hk (fun k e => hS k (h5 k e)), h4, h5, h6, ?_⟩, h.kb, h.okq, h.sz, h.wz, fun k hk' => Nat.lt_of_lt_of_le (h.lt k hk') hk.size⟩
  cases cur with
  | none => exact h7
  | some p =>
    obtain ⟨x, d⟩ := p
    obtain ⟨wb, c, a, bv, e, g1, g2, g3, g4, g5, g6, g7⟩ := h7
    exact ⟨wb, c, a, bv, e, g1.kept hk (hS _ g4), g2.kept hk (fun k e => hS k (g5 k e)), g3.kept hk (fun k e => hS k (g6 k e)), g4, g5, g6, g7⟩
theorem Con.below {N : Nat → ByteArray} {w w' : World} {F : Nat → Prop} {kb : Nat} {q : List Rq} {cur : Option (Rq × Nat)} {going : ByteArray} (h : Con N w F kb q cur going) (hk : Below w.heap.size w w') : Con N w' F kb q cur going :=
  h.kept (Kept.ofBelow (S := fun _ => False) hk) (fun _ _ h => h)

abbrev ptrs (kbs : Nat → Nat) (n : Nat) : List Value := (List.range n).map fun i => Value.pointer (some ⟨kbs i, 0, none⟩)
theorem ptrs_get (kbs : Nat → Nat) (n i : Nat) (h : i < n) : (ptrs kbs n)[i]? = some (.pointer (some ⟨kbs i, 0, none⟩)) := by
  simp [ptrs, List.getElem?_range h]
theorem ptrs_add (kbs kbs' : Nat → Nat) (n : Nat) (h : ∀ i, i < n → kbs' i = kbs i) : ptrs kbs' (n + 1) = ptrs kbs n ++ [.pointer (some ⟨kbs' n, 0, none⟩)] := by
  simp only [ptrs, List.range_succ, List.map_append, List.map_cons, List.map_nil]
  congr 1
  exact List.map_congr_left (fun i hi => by rw [h i (List.mem_range.1 hi)])
/-- the depot's shards are empty and lie in G -/
structure Emp (w : World) (db : Nat) (G : Nat → Prop) : Prop where
  ex : ∃ shv cs m sh room, Blk w db 114 cs ∧ cs[0]? = some shv ∧ Rw w 115 1 shv m (ptrs sh m) ∧ (∀ j, j < m → Blk w (sh j) 123 #[.slice none 0 0, .int .i64 room, .int .i64 0, .int .i64 0]) ∧ G db ∧ In G shv ∧ (∀ j, j < m → G (sh j)) ∧ 0 < m ∧ m ≤ 8
theorem Emp.kept {S : Nat → Prop} {w w' : World} {db : Nat} {G : Nat → Prop} (h : Emp w db G) (hk : Kept S w w') (hS : ∀ k, G k → ¬ S k) : Emp w' db G := by
  obtain ⟨shv, cs, m, sh, room, h1, h2, h3, h4, h5, h6, h7, h8⟩ := h.ex
  exact ⟨shv, cs, m, sh, room, h1.kept hk (hS _ h5), h2, Rw.kept h3 hk (fun k e => hS k (h6 k e)), fun j hj => (h4 j hj).kept hk (hS _ (h7 j hj)), h5, h6, h7, h8⟩
theorem Emp.shs {w : World} {db : Nat} {G : Nat → Prop} (h : Emp w db G) : ∃ b off m cap sh, Shs w db b off m cap sh := by
  obtain ⟨shv, cs, m, sh, room, h1, h2, h3, h4, h5, h6, h7, h8, h9⟩ := h.ex
  obtain ⟨_, rfl, _⟩ | ⟨b, off, cap, cur, rfl, hb, g1, g2, g3, g4, g5⟩ := h3
  · omega
  · refine ⟨b, off, m, cap, sh, by rw [h1.cell]; exact h2, fun k hk => ?_, fun k hk => (h4 k hk).cell 0, h8, h9⟩
    rw [hb.cell, g5 k (by omega), ptrs_get _ _ _ hk]
/-- another cell of the depot is written -/
theorem Emp.set {w : World} {db : Nat} {G : Nat → Prop} (h : Emp w db G) (i : Nat) (hi : i ≠ 0) (v : Value) : Emp (w.setCell ⟨db, i, none⟩ v) db G := by
  obtain ⟨shv, cs, m, sh, room, h1, h2, h3, h4, h5, h6, h7, h8⟩ := h.ex
  have hk : Kept (fun k => k = db) w (w.setCell ⟨db, i, none⟩ v) := (Kept.refl _ _).set _ _ (fun _ => rfl)
  refine ⟨shv, _, m, sh, room, h1.set i v, ?_, Rw.kept h3 hk (fun k e e' => by subst e'; exact Rw.ne h3 h1 (by decide) e), fun j hj => (h4 j hj).kept hk ((h4 j hj).ne h1 (by decide)), h5, h6, h7, h8⟩
  rw [Array.getElem?_setIfInBounds, if_neg hi]
  exact h2
theorem Emp.below {w w' : World} {db : Nat} {G : Nat → Prop} (h : Emp w db G) (hk : Below w.heap.size w w') : Emp w' db G := h.kept (Kept.ofBelow (S := fun _ => False) hk) (fun _ _ h => h)

set_option maxRecDepth 100000 in
set_option maxHeartbeats 400000 in
theorem cut_none (kb : Nat) (wv gv wk cl : Value) (w : World) (hB : Cn w kb wv gv wk cl) (hw : Bs w 5 wv ⟨#[]⟩) :
    Calls Tryz.prog 128 #[.pointer (some ⟨kb, 0, none⟩)] w
      fun r w' => r = .returned (.tuple #[.slice none 0 0, .bool false]) ∧ Below w.heap.size w w' := by
  obtain ⟨a, c, rfl⟩ := hw.shape0
  have c0 : w.cell? ⟨kb, 0, none⟩ = _ := hB.cell 0
  simp at c0
  go_enter Tryz.func128, Tryz.ntmps128
  go_wp2
  go_ret2
  exact ⟨rfl, Below.refl _ _⟩
set_option maxRecDepth 100000 in
set_option maxHeartbeats 400000 in
theorem begin_none (db kb : Nat) (wv gv cl : Value) (w : World) (hB : Cn w kb wv gv (.pointer none) cl) (hw : Bs w 5 wv ⟨#[]⟩) :
    Calls Tryz.prog 91 #[.pointer (some ⟨db, 0, none⟩), .pointer (some ⟨kb, 0, none⟩)] w
      fun r w' => r = .returned (.int .i64 0) ∧ Below w.heap.size w w' := by
  have HC := hide (cut_none kb wv gv (.pointer none) cl w hB hw)
  clear hw hB
  go_enter Tryz.func91, Tryz.ntmps91
  go_wp2_with (go_at_call 128; refine HC.out.mono ?_; rintro e w1 ⟨rfl, k1⟩)
  go_ret
  exact ⟨rfl, k1⟩

section
variable {N : Nat → ByteArray} {w : World} {F G : Nat → Prop} {db kb : Nat} {q : List Rq} {going : ByteArray}
/-- nothing waits, nothing is under way -/
theorem step_none (h : Con N w F kb [] none going) :
    Calls Tryz.prog 49 #[.pointer (some ⟨db, 0, none⟩), .pointer (some ⟨kb, 0, none⟩)] w fun r w' => r = .returned (.int .i64 0) ∧ Below w.heap.size w w' := by
  obtain ⟨wv, gv, wk, h1, h2, h3, h4, h5, h6, h7⟩ := h.mem
  obtain rfl : wk = _ := h7
  refine step_begin db kb wv gv (.bool false) w _ h1 ((begin_none db kb wv gv (.bool false) w h1 h2).mono ?_)
  rintro e w' ⟨rfl, hb⟩
  exact ⟨0, rfl, rfl, hb⟩
/-- a request is begun -/
theorem step_first (hN : Nok N) (x : Rq) (h : Con N w F kb (x :: q) none going) :
    Calls Tryz.prog 49 #[.pointer (some ⟨db, 0, none⟩), .pointer (some ⟨kb, 0, none⟩)] w
      fun r w' => r = .returned (.int .i64 1) ∧ Con N w' (ext F w w') kb q (some (x, 0)) going ∧ Kept F w w' := by
  obtain ⟨wv, gv, wk, h1, h2, h3, h4, h5, h6, h7⟩ := h.mem
  obtain rfl : wk = _ := h7
  have hx := h.okq x (by simp)
  obtain ⟨f1, f2, f3, f4⟩ := front N hN x q hx _ rfl
  have hbz := bodyOf_size hN x.2 hx.2.2
  have hx1 := hx.1
  have hx2 := hx.2.1
  have hx8 := hx.2.2
  have hid : num (b8 (x.1 / 256) ++ b8 (x.1 % 256)) = x.1 := by rw [num_b8s _ _ (by omega) (by omega)]; omega
  have := begin_read db kb wv gv (.bool false) (frs N (x :: q)) _ (frs N q) (b8 2) (b8 (x.1 / 256) ++ b8 (x.1 % 256)) (b8 x.2) (nms N x.2) (3 + (bodyOf N x.2).size) w h1 h2 h.sz f2 f1 (by omega) (by omega) f3 f4 rfl rfl (two_size _ _) (num_b8 2 (by omega)) rfl (by rw [num_b8 _ (by omega), nms_len]) (by rw [nms_len]; omega) (by rw [nms_len]; omega) (nms_ok hN x.2 hx8)
  rw [hid, nms_len] at this
  refine step_begin db kb wv gv (.bool false) w _ h1 (this.mono ?_)
  rintro e w' ⟨rfl, wv', wb, a, c, bv, g1, g2, g3, g4, g5, g6, g7, g8, g9, g10⟩
  have hgo := h3.kept g9 (fun k hk e => by subst e; exact bs_ne_cn h3 h1 (by decide) hk)
  have hap : ∀ k, wv'.ownBlock = some k → gv.ownBlock ≠ some k := fun k hk => h6 k (g10 ▸ hk)
  refine ⟨1, rfl, rfl, ⟨⟨wv', gv, _, g1, g2, hgo, fun k hk => .inl (h4 k (g10 ▸ hk)), h5.ext _ _, hap, wb, c, a, bv, rfl, g3, ?_, g5, .inr ⟨g6, g3.lt⟩, In.fresh g7 g4, In.fresh g8 g5, fun k hk => ?_, Nat.zero_le _, hx⟩, .inl h.kb, fun y hy => h.okq y (by simp [hy]), ?_, ?_, fun k hk => ?_⟩, g9.mono (fun k _ e => by subst e; exact h.kb)⟩
  · rw [zer, app_empty]; exact g4
  · have l1 := g7 k hk
    refine ⟨fun e => ?_, fun e => ?_⟩
    · have := Rw.lt h2 (g10 ▸ e); omega
    · have := Rw.lt h3 e; omega
  · have := h.sz
    rw [frs, ByteArray.size_append] at this
    omega
  · have := h.wz
    simp only [curRep, reps, empty_app] at this ⊢
    exact this
  · rcases hk with hk | hk
    · exact Nat.lt_of_lt_of_le (h.lt k hk) g9.size
    · exact hk.2
set_option maxHeartbeats 400000 in
/-- an item is done -/
theorem step_one (hN : Nok N) (x : Rq) (d : Nat) (hd : d < x.2) (he : Emp w db G) (hFG : ∀ k, F k → ¬ G k) (h : Con N w F kb q (some (x, d)) going) :
    Calls Tryz.prog 49 #[.pointer (some ⟨db, 0, none⟩), .pointer (some ⟨kb, 0, none⟩)] w
      fun r w' => r = .returned (.int .i64 2) ∧ Con N w' (ext F w w') kb q (some (x, d + 1)) going ∧ Kept F w w' := by
  obtain ⟨wv, gv, wk, h1, h2, h3, h4, h5, h6, wb, c, a, bv, rfl, k1, k2, k3, k4, k5, k6, k7, k8, k9⟩ := h.mem
  have hx8 := k9.2.2
  have hnl := nms_len N x.2
  refine step_read db kb wb x.1 x.2 c d a wv gv (.bool false) bv w _ h1 k1 hd (fun w1 hb1 => ?_)
  have he1 := he.below hb1
  have hcon := h.below hb1
  refine (doItem_read db wb x.1 x.2 c d a bv (b8 x.2 ++ zer d) (b8 0) (nms N x.2) w1 (k1.below hb1 k1.lt) (k2.below hb1) hnl (by omega) (by omega) (k3.below hb1) (by simp only [ByteArray.size_append, zer_size, b8_size]; omega) (fun w2 hk2 => ?_)).mono ?_
  · have he2 := he1.kept hk2 (fun k hg e => by subst e; exact hFG _ k4 hg)
    obtain ⟨b, off, m, cap, sh, s1⟩ := he2.shs
    have hnm := (nms_ok hN x.2 hx8 ((nms N x.2)[d]'(by omega)) (List.getElem_mem _)).1
    exact read_empty db b off m cap sh _ w2 s1 (by omega)
  · rintro e w' ⟨rfl, bv', g1, g2, g3, g4⟩
    have hk1 : Kept F w w1 := Kept.ofBelow hb1
    have hk : Kept F w w' := hk1.next g3 (fun i _ e => by
      rcases e with rfl | e
      · exact k4
      · exact k5 i e)
    have nS : ∀ {v : Value} {s : ByteArray}, Bs w 5 v s → (∀ k, bv.ownBlock = some k → v.ownBlock ≠ some k) → Bs w' 5 v s := fun hv hn => (hv.below hb1).kept g3 (fun k hk e => by
      rcases e with rfl | e
      · exact bs_ne_cn hv k1 (by decide) hk
      · exact hn k e hk)
    have hne : kb ≠ wb := h1.ne k1 (by decide)
    have cn' : Cn w' kb wv gv (.pointer (some ⟨wb, 0, none⟩)) (.bool false) := (h1.below hb1 h1.lt).kept g3 (fun e => by
      rcases e with e | e
      · exact hne e
      · exact bs_ne_cn k2 h1 (by decide) e)
    have rw' := Rw.kept (k3.below hb1) g3 (fun k hk e => by
      rcases e with rfl | e
      · exact Rw.ne k3 k1 (by decide) hk
      · exact Rw.ne2 k2 k3 (by decide) e hk)
    have hs1 := hb1.size
    have hin : In (ext F w w') bv' := fun k hk => by
      rcases g4 with e | ⟨j, e1, e2⟩
      · exact .inl (k5 k (e ▸ hk))
      · rw [e2] at hk; injection hk with hk; subst hk
        exact .inr ⟨by omega, Rw.lt g2 e2⟩
    refine ⟨rfl, rfl, ⟨⟨wv, gv, _, cn', nS h2 (fun k hk e => (k7 k hk).1 e), nS h3 (fun k hk e => (k7 k hk).2 e), h4.ext _ _, h5.ext _ _, h6, wb, c, a, bv', rfl, ?_, ?_, rw', .inl k4, hin, k6.ext _ _, fun k hk => ?_, by omega, k9⟩, .inl h.kb, h.okq, h.sz, h.wz, fun k hk' => ?_⟩, hk⟩
    · have : ((d + 1 : Nat) : Int) = (d : Int) + 1 := by omega
      rw [this]; exact g1
    · rw [zer, ← ByteArray.append_assoc]; exact g2
    · rcases g4 with e | ⟨j, e1, e2⟩
      · exact k7 k (e ▸ hk)
      · rw [e2] at hk; injection hk with hk; subst hk
        refine ⟨fun e => ?_, fun e => ?_⟩
        · have := Rw.lt h2 e; omega
        · have := Rw.lt h3 e; omega
    · rcases hk' with hk' | hk'
      · exact Nat.lt_of_lt_of_le (h.lt k hk') hk.size
      · exact hk'.2
set_option maxHeartbeats 400000 in
/-- the reply goes out -/
theorem step_last (x : Rq) (h : Con N w F kb q (some (x, x.2)) going) :
    Calls Tryz.prog 49 #[.pointer (some ⟨db, 0, none⟩), .pointer (some ⟨kb, 0, none⟩)] w
      fun r w' => r = .returned (.int .i64 3) ∧ Con N w' (ext F w w') kb q none (going ++ rep x) ∧ Kept F w w' := by
  obtain ⟨wv, gv, wk, h1, h2, h3, h4, h5, h6, wb, c, a, bv, rfl, k1, k2, k3, k4, k5, k6, k7, k8, k9⟩ := h.mem
  have hx8 := k9.2.2
  have hgz : going.size ≤ 1000 := by
    have := h.wz
    rw [ByteArray.size_append] at this
    omega
  refine step_told db kb wb x.1 x.2 c a wv gv (.bool false) bv w _ h1 k1 (fun w1 hb1 => ?_)
  refine (reply_of db kb wb 2 x.1 _ _ wv gv (.bool false) bv (x.2 : Int) going (b8 x.2 ++ zer x.2) w1 (method_read_reply x.1 x.2 c a) (h1.below hb1 h1.lt) (k1.below hb1 k1.lt) (h3.below hb1) (k2.below hb1) (by omega) k9.1 (by simp only [ByteArray.size_append, zer_size, b8_size]; omega) (Nat.le_trans hgz (by omega))).mono ?_
  rintro e w' ⟨rfl, gv', g1, g2, g3, g4⟩
  have hk1 : Kept F w w1 := Kept.ofBelow hb1
  have hs1 := hb1.size
  have hk : Kept F w w' := hk1.next g3 (fun i _ e => by
    rcases e with rfl | e
    · exact h.kb
    · exact h5 i e)
  have hwa : Bs w' 5 wv (frs N q) := (h2.below hb1).kept g3 (fun k hk e => by
    rcases e with rfl | e
    · exact bs_ne_cn h2 h1 (by decide) hk
    · exact h6 k hk e)
  have hin : In (ext F w w') gv' := fun k hk => by
    rcases g4 with e | ⟨j, e1, e2⟩
    · exact .inl (h5 k (e ▸ hk))
    · rw [e2] at hk; injection hk with hk; subst hk
      exact .inr ⟨by omega, Rw.lt g2 e2⟩
  refine ⟨rfl, rfl, ⟨⟨wv, gv', _, g1, hwa, g2, h4.ext _ _, hin, fun k hk e => ?_, rfl⟩, .inl h.kb, h.okq, h.sz, ?_, fun k hk' => ?_⟩, hk⟩
  · have := Rw.lt h2 hk
    exact h6 k hk (g4.old k (by omega) e)
  · have := h.wz
    simp only [curRep, empty_app, ByteArray.append_assoc] at this ⊢
    exact this
  · rcases hk' with hk' | hk'
    · exact Nat.lt_of_lt_of_le (h.lt k hk') hk.size
    · exact hk'.2
end

/-- a connection by what is left to be done and what will have gone out -/
def Cw (N : Nat → ByteArray) (w : World) (F : Nat → Prop) (kb : Nat) (r : Nat) (t : ByteArray) : Prop :=
  ∃ q cur going, Con N w F kb q cur going ∧ r = curRem cur + qRem q ∧ t = going ++ (curRep cur ++ reps q)
theorem Cw.kept {N : Nat → ByteArray} {S : Nat → Prop} {w w' : World} {F : Nat → Prop} {kb r : Nat} {t : ByteArray} (h : Cw N w F kb r t) (hk : Kept S w w') (hS : ∀ k, F k → ¬ S k) : Cw N w' F kb r t := by
  obtain ⟨q, cur, going, h1, h2, h3⟩ := h
  exact ⟨q, cur, going, h1.kept hk hS, h2, h3⟩
theorem Cw.lt {N : Nat → ByteArray} {w : World} {F : Nat → Prop} {kb r : Nat} {t : ByteArray} (h : Cw N w F kb r t) : ∀ k, F k → k < w.heap.size := by
  obtain ⟨q, cur, going, h1, h2, h3⟩ := h
  exact h1.lt
theorem step_cw {N : Nat → ByteArray} (hN : Nok N) {w : World} {F G : Nat → Prop} {db kb r : Nat} {t : ByteArray} (he : Emp w db G) (hFG : ∀ k, F k → ¬ G k) (h : Cw N w F kb r t) :
    Calls Tryz.prog 49 #[.pointer (some ⟨db, 0, none⟩), .pointer (some ⟨kb, 0, none⟩)] w
      fun e w' => ∃ z : Int, e = .returned (.int .i64 z) ∧ ((r = 0 ∧ z = 0 ∧ Below w.heap.size w w') ∨ (z ≠ 0 ∧ ∃ r', r = r' + 1 ∧ Cw N w' (ext F w w') kb r' t ∧ Kept F w w')) := by
  obtain ⟨q, cur, going, h1, h2, h3⟩ := h
  cases cur with
  | none =>
    cases q with
    | nil =>
      refine (step_none h1).mono ?_
      rintro e w' ⟨rfl, hb⟩
      exact ⟨0, rfl, .inl ⟨by rw [h2]; rfl, rfl, hb⟩⟩
    | cons x q =>
      refine (step_first hN x h1).mono ?_
      rintro e w' ⟨rfl, hc, hk⟩
      refine ⟨1, rfl, .inr ⟨by decide, x.2 - 0 + 1 + qRem q, ?_, ⟨q, _, going, hc, rfl, ?_⟩, hk⟩⟩
      · rw [h2]; simp only [curRem, qRem]; omega
      · rw [h3]; simp only [curRep, reps, empty_app]
  | some p =>
    obtain ⟨x, d⟩ := p
    by_cases hd : d < x.2
    · refine (step_one hN x d hd he hFG h1).mono ?_
      rintro e w' ⟨rfl, hc, hk⟩
      refine ⟨2, rfl, .inr ⟨by decide, x.2 - (d + 1) + 1 + qRem q, ?_, ⟨q, _, going, hc, rfl, ?_⟩, hk⟩⟩
      · rw [h2]; simp only [curRem]; omega
      · rw [h3]; simp only [curRep]
    · obtain ⟨wv, gv, wk, m1, m2, m3, m4, m5, m6, wb, c, a, bv, k0, k1, k2, k3, k4, k5, k6, k7, k8, k9⟩ := h1.mem
      obtain rfl : d = x.2 := by omega
      refine (step_last x h1).mono ?_
      rintro e w' ⟨rfl, hc, hk⟩
      refine ⟨3, rfl, .inr ⟨by decide, qRem q, ?_, ⟨q, _, _, hc, by simp [curRem], ?_⟩, hk⟩⟩
      · rw [h2]; simp only [curRem]; omega
      · rw [h3]; simp only [curRep, empty_app, ByteArray.append_assoc]
end Go.Proofs.YthpmcilljbmoiaaGreatDoor
namespace Go.Proofs.YthpmcilljbmoiaaGreatDoor
open Go.RowKit

/-- a lease -/
structure Le where
  num : Nat
  ttl : Nat
  names : List ByteArray
  given : Bool
  dl : Int
/-- a lease in memory -/
def Lm (w : World) (lb : Nat) (x : Le) (nv : Value) : Prop :=
  Blk w lb 273 #[.int .i64 x.num, .int .i64 x.ttl, nv, .bool x.given, .int .i64 x.dl] ∧ Rw w 9 1 nv x.names.length (x.names.map Value.string)
theorem Lm.kept {S : Nat → Prop} {w w' : World} {lb : Nat} {x : Le} {nv : Value} (h : Lm w lb x nv) (hk : Kept S w w') (h1 : ¬ S lb) (h2 : ∀ k, nv.ownBlock = some k → ¬ S k) : Lm w' lb x nv := ⟨h.1.kept hk h1, Rw.kept h.2 hk h2⟩
theorem Lm.below {w w' : World} {lb : Nat} {x : Le} {nv : Value} (h : Lm w lb x nv) (hk : Below w.heap.size w w') : Lm w' lb x nv := ⟨h.1.below hk h.1.lt, Rw.below h.2 hk⟩

set_option maxRecDepth 100000 in
theorem lnum_any (lb : Nat) (x : Le) (nv : Value) (w : World) (h : Lm w lb x nv) :
    Calls Tryz.prog 220 #[.pointer (some ⟨lb, 0, none⟩)] w fun r w' => r = .returned (.int .i64 x.num) ∧ w = w' := by
  have c0 : w.cell? ⟨lb, 0, none⟩ = some (.int .i64 x.num) := h.1.cell 0
  clear h
  go_enter Tryz.func220, Tryz.ntmps220
  go_wp2
  go_ret
  exact ⟨rfl, rfl⟩
set_option maxRecDepth 100000 in
set_option maxHeartbeats 400000 in
theorem give_any (lb now : Nat) (x : Le) (nv : Value) (w : World) (h : Lm w lb x nv) (hn : now ≤ 100000) (ht : x.ttl ≤ 1000) :
    Calls Tryz.prog 139 #[.pointer (some ⟨lb, 0, none⟩), .int .i64 now] w fun r w' => r = .returned (.tuple #[]) ∧ Lm w' lb { x with given := true, dl := (now : Int) + x.ttl } nv ∧ Kept (fun k => k = lb) w w' := by
  have hne := Rw.ne h.2 h.1 (by decide)
  have c1 : w.cell? ⟨lb, 1, none⟩ = some (.int .i64 x.ttl) := h.1.cell 1
  have c3 : w.cell? ⟨lb, 3, none⟩ = some (.bool x.given) := h.1.cell 3
  have c4 : w.cell? ⟨lb, 4, none⟩ = some (.int .i64 x.dl) := h.1.cell 4
  have f3 := h.1.frozen 3
  have f4 := h.1.frozen 4
  have hk : Kept (fun k => k = lb) w ((w.setCell ⟨lb, 3, none⟩ (.bool true)).setCell ⟨lb, 4, none⟩ (.int .i64 ((now : Int) + x.ttl))) := ((Kept.refl (fun k => k = lb) w).set ⟨lb, 3, none⟩ (.bool true) (fun _ => rfl)).set ⟨lb, 4, none⟩ _ (fun _ => rfl)
  have HP : Hid (Lm ((w.setCell ⟨lb, 3, none⟩ (.bool true)).setCell ⟨lb, 4, none⟩ (.int .i64 ((now : Int) + x.ttl))) lb { x with given := true, dl := (now : Int) + x.ttl } nv) :=
    ⟨by simpa using (h.1.set 3 (.bool true)).set 4 (.int .i64 ((now : Int) + x.ttl)), Rw.kept h.2 hk (fun k hkk e => by subst e; exact hne hkk)⟩
  clear h hne
  generalize x.ttl = t at *
  generalize x.given = g at *
  generalize x.dl = d at *
  go_enter Tryz.func139, Tryz.ntmps139
  go_wp2
  exact bodyPost_end (results_none rfl _ _ _) rfl ⟨rfl, HP.out, hk⟩
set_option maxRecDepth 100000 in
set_option maxHeartbeats 1000000 in
theorem ljoin_any (lb : Nat) (nm : ByteArray) (x : Le) (nv : Value) (w : World) (h : Lm w lb x nv) (hn : x.names.length ≤ 1000) :
    Calls Tryz.prog 185 #[.pointer (some ⟨lb, 0, none⟩), .string nm] w
      fun r w' => r = .returned (.tuple #[]) ∧ ∃ nv', Lm w' lb { x with names := x.names ++ [nm] } nv' ∧ Kept (fun k => k = lb ∨ nv.ownBlock = some k) w w' ∧ Home w nv nv' := by
  obtain ⟨hB, hR⟩ := h
  have hne := Rw.ne hR hB (by decide)
  have hlt := hB.lt
  obtain ⟨a0, e0, rfl⟩ := Rw.shape hR
  have c2 : w.cell? ⟨lb, 2, none⟩ = some (.slice a0 x.names.length e0) := hB.cell 2
  have hA : Below w.heap.size w (w.alloc (.cells #[.string nm] 9)) := (Below.refl _ _).alloc (Nat.le_refl _) _
  have hR1 := hide (Rw.below hR hA)
  have hB1 := hB.below hA hlt
  have HX : Hid (∀ j u, [Value.string nm][j]? = some u → (w.alloc (.cells #[.string nm] 9)).cell? (Addr.add ⟨w.heap.size, 0, none⟩ j) = some u) := fun j u hj => by
    rw [Addr.add_lit, (Blk.new w 9 #[.string nm]).cell, ← hj, Nat.zero_add]
    simp
  obtain ⟨n, hn'⟩ : ∃ n, Hid (x.names.length = n) := ⟨_, rfl⟩
  rw [hn'.out] at c2 hR1 hB1 hn hne hB hR
  rw [hn'.out]
  go_enter Tryz.func185, Tryz.ntmps185
  go_wp2_with (at_builtin; refine wpList_append_rw (w.alloc (.cells #[.string nm] 9)) rfl (.tmp 8) (.tmp 10) 25 25 rfl 9 _ 1 16 Tryz.underlying25 infoStr rfl (by omega) (.slice a0 n e0) n (x.names.map Value.string) rfl hR1.out (.slice (some ⟨w.heap.size, 0, none⟩) 1 1) 1 [.string nm] rfl (Src.ofSlice _ Tryz.underlying25 ⟨w.heap.size, 0, none⟩ 1 1 _ rfl HX.out ?_) ?_ ?_)
  · simp [Value.oneCell']
  · omega
  intro v2 w2 r2 k2 o2
  have d2 := hB1.kept k2 hne
  have e2 : w2.cell? ⟨lb, 2, none⟩ = some (.slice a0 n e0) := d2.cell 2
  have f2 := d2.frozen 2
  have n2 := Rw.ne r2 d2 (by decide)
  have K1 : Kept (fun k => k = lb ∨ (Value.slice a0 n e0).ownBlock = some k) w w2 := (Kept.ofBelow hA).next k2 (fun i _ h => .inr h)
  have ho : Home w (.slice a0 n e0) v2 := by
    rcases o2 with o2 | ⟨k, q1, q2⟩
    · exact .inl o2
    · exact .inr ⟨k, by first | exact Nat.le_trans hA.size q1 | omega, q2⟩
  obtain ⟨a2, g2, rfl⟩ := Rw.shape r2
  go_wp2
  have KS : Kept (fun k => k = lb) w2 (w2.setCell ⟨lb, 2, none⟩ (.slice a2 (n + 1) g2)) := (Kept.refl _ _).set _ _ (fun _ => rfl)
  refine bodyPost_end (results_none rfl _ _ _) rfl ⟨rfl, _, ⟨by simpa using d2.set 2 (.slice a2 (n + 1) g2), ?_⟩, K1.next KS (fun _ _ h => .inl h), ho⟩
  rw [List.length_append, hn'.out, List.map_append]
  exact Rw.kept r2 KS (fun k hk e => by subst e; exact n2 hk)
theorem infoLeasePtr : (Tryz.prog.info? 173).map (fun i => (i.zero, i.size, i.bytes)) = some (some (.pointer none), 1, 8) := by kernel_rfl
set_option maxRecDepth 100000 in
/-- there are as many leases as may be -/
theorem begin_full (db o n : Nat) (lv : Value) (t : TypeId) (cs : Array Value) (ttl : Nat) (xs : List Value) (w : World) (hB : Blk w db t cs) (hc : cs[o]? = some lv) (hR : Rw w 173 1 lv n xs) (hn : 20 ≤ n) (hn2 : n ≤ 1000) :
    Calls Tryz.prog 179 #[.pointer (some ⟨db, o, none⟩), .int .i64 ttl] w fun r w' => r = .returned (.pointer none) ∧ w = w' := by
  obtain ⟨a0, e0, rfl⟩ := Rw.shape hR
  have c0 : w.cell? ⟨db, o, none⟩ = some (.slice a0 n e0) := by rw [hB.cell]; exact hc
  have h1 : (20 : Int) ≤ (n : Int) := by omega
  clear hB hR
  go_enter Tryz.func179, Tryz.ntmps179
  go_wp2
  go_ret
  exact ⟨rfl, rfl⟩

set_option maxRecDepth 100000 in
set_option maxHeartbeats 1000000 in
/-- a lease is begun -/
theorem begin_lease (db o n begun ttl : Nat) (lv : Value) (t : TypeId) (cs : Array Value) (xs : List Value) (w : World) (hB : Blk w db t cs) (ht1 : t ≠ 173) (ht2 : t ≠ 273) (hc : cs[o]? = some lv) (hc1 : cs[o + 1]? = some (.int .i64 begun)) (hR : Rw w 173 1 lv n xs) (hn : n < 20) (hbg : begun ≤ 100000) :
    Calls Tryz.prog 179 #[.pointer (some ⟨db, o, none⟩), .int .i64 ttl] w
      fun r w' => r = .returned (.pointer (some ⟨w.heap.size, 0, none⟩)) ∧ ∃ lv', Blk w' db t ((cs.setIfInBounds (o + 1) (.int .i64 ((begun : Int) + 1))).setIfInBounds o lv') ∧ Rw w' 173 1 lv' (n + 1) (xs ++ [.pointer (some ⟨w.heap.size, 0, none⟩)]) ∧ Lm w' w.heap.size ⟨begun + 1, ttl, [], false, 0⟩ (.slice none 0 0) ∧ Kept (fun k => k = db ∨ lv.ownBlock = some k) w w' ∧ Home w lv lv' := by
  have hne := Rw.ne hR hB (Ne.symm ht1)
  have hlt := hB.lt
  obtain ⟨a0, e0, rfl⟩ := Rw.shape hR
  have c0 : w.cell? ⟨db, o, none⟩ = some (.slice a0 n e0) := by rw [hB.cell]; exact hc
  have c1 : w.cell? ⟨db, o + 1, none⟩ = some (.int .i64 begun) := by rw [hB.cell]; exact hc1
  have f1 := hB.frozen (o + 1)
  have h1 : ¬ ((20 : Int) ≤ (n : Int)) := by omega
  have hK1 : Kept (fun k => k = db) w (w.setCell ⟨db, o + 1, none⟩ (.int .i64 ((begun : Int) + 1))) := (Kept.refl _ _).set _ _ (fun _ => rfl)
  have hB1 := hB.set (o + 1) (.int .i64 ((begun : Int) + 1))
  have hR1 := Rw.kept hR hK1 (fun k hk e => by subst e; exact hne hk)
  have hz1 : Hid ((w.setCell ⟨db, o + 1, none⟩ (.int .i64 ((begun : Int) + 1))).heap.size = w.heap.size) := World.size_setCell _ _ _
  have hc' : (cs.setIfInBounds (o + 1) (.int .i64 ((begun : Int) + 1)))[o]? = some (.slice a0 n e0) := by rw [Array.getElem?_setIfInBounds, if_neg (by omega)]; exact hc
  have hc1' : (cs.setIfInBounds (o + 1) (.int .i64 ((begun : Int) + 1)))[o + 1]? = some (.int .i64 ((begun : Int) + 1)) := by
    obtain ⟨hlt', _⟩ := Array.getElem?_eq_some_iff.1 hc1
    rw [Array.getElem?_setIfInBounds, if_pos rfl, if_pos hlt']
  clear hc hc1 hB hR
  go_enter Tryz.func179, Tryz.ntmps179
  go_upto_region 4 with fail
  generalize hcs : cs.setIfInBounds (o + 1) (.int .i64 ((begun : Int) + 1)) = cs1 at *
  generalize w.setCell ⟨db, o + 1, none⟩ (.int .i64 ((begun : Int) + 1)) = W1 at *
  have d0 : W1.cell? ⟨db, o, none⟩ = some (.slice a0 n e0) := by rw [hB1.cell]; exact hc'
  have d1 : W1.cell? ⟨db, o + 1, none⟩ = some (.int .i64 ((begun : Int) + 1)) := by rw [hB1.cell]; exact hc1'
  have hl1 := hB1.lt
  have hA : Below W1.heap.size W1 ((W1.alloc (.cells #[.int .i64 ((begun : Int) + 1), .int .i64 ttl, .slice none 0 0, .bool false, .int .i64 0] 273)).alloc (.cells #[.pointer (some ⟨W1.heap.size, 0, none⟩)] 173)) := ((Below.refl _ _).alloc (Nat.le_refl _) _).alloc (by simp) _
  have hR2 := hide (Rw.below hR1 hA)
  have hB2 := hB1.below hA hl1
  have hL2 : Blk ((W1.alloc (.cells #[.int .i64 ((begun : Int) + 1), .int .i64 ttl, .slice none 0 0, .bool false, .int .i64 0] 273)).alloc (.cells #[.pointer (some ⟨W1.heap.size, 0, none⟩)] 173)) W1.heap.size 273 #[.int .i64 ((begun : Int) + 1), .int .i64 ttl, .slice none 0 0, .bool false, .int .i64 0] := (Blk.new _ _ _).alloc _
  have HX : Hid (∀ j u, [Value.pointer (some ⟨W1.heap.size, 0, none⟩)][j]? = some u → ((W1.alloc (.cells #[.int .i64 ((begun : Int) + 1), .int .i64 ttl, .slice none 0 0, .bool false, .int .i64 0] 273)).alloc (.cells #[.pointer (some ⟨W1.heap.size, 0, none⟩)] 173)).cell? (Addr.add ⟨W1.heap.size + 1, 0, none⟩ j) = some u) := fun j u hj => by
    have hN := Blk.at (W1.alloc (.cells #[.int .i64 ((begun : Int) + 1), .int .i64 ttl, .slice none 0 0, .bool false, .int .i64 0] 273)) 173 #[.pointer (some ⟨W1.heap.size, 0, none⟩)] (W1.heap.size + 1) (by simp)
    rw [Addr.add_lit, hN.cell, ← hj, Nat.zero_add]
    simp
  clear c0 c1 f1
  go_wp2_with (at_builtin; refine wpList_append_rw ((W1.alloc (.cells #[.int .i64 ((begun : Int) + 1), .int .i64 ttl, .slice none 0 0, .bool false, .int .i64 0] 273)).alloc (.cells #[.pointer (some ⟨W1.heap.size, 0, none⟩)] 173)) rfl (.tmp 30) (.tmp 32) 107 107 rfl 173 _ 1 8 Tryz.underlying107 infoLeasePtr rfl (by omega) (.slice a0 n e0) n xs rfl hR2.out (.slice (some ⟨W1.heap.size + 1, 0, none⟩) 1 1) 1 [.pointer (some ⟨W1.heap.size, 0, none⟩)] rfl (Src.ofSlice _ Tryz.underlying107 ⟨W1.heap.size + 1, 0, none⟩ 1 1 _ rfl HX.out ?_) ?_ ?_)
  · simp [Value.oneCell']
  · omega
  intro v2 w2 r2 k2 o2
  have d2 := hB2.kept k2 hne
  have l2 := hL2.kept k2 (fun e => by have := Rw.lt hR1 e; omega)
  have e2 : w2.cell? ⟨db, o, none⟩ = some (.slice a0 n e0) := by rw [d2.cell]; exact hc'
  have f2 := d2.frozen o
  have n2 := Rw.ne r2 d2 (Ne.symm ht1)
  have K1 : Kept (fun k => k = db ∨ (Value.slice a0 n e0).ownBlock = some k) w w2 := ((hK1.mono (fun _ _ h => .inl h)).below hA).next k2 (fun i _ h => .inr h)
  have ho : Home w (.slice a0 n e0) v2 := by
    rcases o2 with o2 | ⟨k, q1, q2⟩
    · exact .inl o2
    · exact .inr ⟨k, by have h1 := hA.size; have h3 := hz1.out; first | (have := Nat.le_trans h1 q1; omega) | omega, q2⟩
  obtain ⟨a2, g2, rfl⟩ := Rw.shape r2
  go_wp2
  go_ret
  have KS : Kept (fun k => k = db) w2 (w2.setCell ⟨db, o, none⟩ (.slice a2 (n + 1) g2)) := (Kept.refl _ _).set _ _ (fun _ => rfl)
  rw [hz1.out] at l2 r2 ⊢
  refine ⟨rfl, _, by rw [hcs]; exact d2.set o _, Rw.kept r2 KS (fun k hk e => by subst e; exact n2 hk), ⟨?_, Rw.nil _ _ _⟩, K1.next KS (fun _ _ h => .inl h), ho⟩
  exact l2.kept KS (l2.ne d2 (Ne.symm ht2))
end Go.Proofs.YthpmcilljbmoiaaGreatDoor
namespace Go.Proofs.YthpmcilljbmoiaaGreatDoor
open Go.RowKit

/-- a blob as a shard holds it -/
structure Bl where
  nm : ByteArray
  bs : ByteArray
  mark : Bool
  pn : Nat
def Bl.cells (b : Bl) : List Value := [.string b.nm, .string b.bs, .bool b.mark, .int .i64 b.pn]
def blCells (l : List Bl) : List Value := l.flatMap Bl.cells
theorem blCells_len (l : List Bl) : (blCells l).length = l.length * 4 := by
  induction l with
  | nil => rfl
  | cons a l ih =>
    simp only [blCells, List.flatMap_cons, List.length_append, List.length_cons] at *
    have : a.cells.length = 4 := rfl
    omega
theorem blCells_at (l : List Bl) : ∀ (i j : Nat) (h : i < l.length), j < 4 → (blCells l)[i * 4 + j]? = l[i].cells[j]? := by
  induction l with
  | nil => intro i j h; simp at h
  | cons a l ih =>
    intro i j h hj
    have ha : a.cells.length = 4 := rfl
    cases i with
    | zero =>
      simp only [blCells, List.flatMap_cons, Nat.zero_mul, Nat.zero_add]
      rw [List.getElem?_append_left (by omega)]
      rfl
    | succ i =>
      have := ih i j (by simpa using h) hj
      simp only [blCells, List.flatMap_cons] at *
      rw [List.getElem?_append_right (by omega), show (i + 1) * 4 + j - a.cells.length = i * 4 + j by omega]
      simpa using this
theorem blCells_app (l r : List Bl) : blCells (l ++ r) = blCells l ++ blCells r := by simp [blCells]
theorem blCells_set (l : List Bl) : ∀ (i j : Nat) (v : Value) (b : Bl), (h : i < l.length) → j < 4 → b.cells = l[i].cells.set j v → (blCells l).set (i * 4 + j) v = blCells (l.set i b) := by
  induction l with
  | nil => intro i j v b h; simp at h
  | cons a l ih =>
    intro i j v b h hj hb
    have ha : a.cells.length = 4 := rfl
    cases i with
    | zero =>
      simp only [blCells, List.flatMap_cons, Nat.zero_mul, Nat.zero_add, List.set_cons_zero, List.getElem_cons_zero] at *
      rw [List.set_append_left _ _ (by omega), hb]
    | succ i =>
      have := ih i j v b (by simpa using h) hj (by simpa using hb)
      simp only [blCells, List.flatMap_cons, List.set_cons_succ] at *
      rw [List.set_append_right _ _ (by omega), show (i + 1) * 4 + j - a.cells.length = i * 4 + j by omega, this]
/-- where a name stands -/
def ixB (l : List Bl) (nm : ByteArray) : Option Nat := l.findIdx? (fun b => decide (b.nm = nm))
theorem ixB_at (l : List Bl) (nm : ByteArray) (i : Nat) (hi : i < l.length) (hk : l[i].nm = nm) (hno : ∀ j (h : j < l.length), j < i → l[j].nm ≠ nm) : ixB l nm = some i := by
  unfold ixB
  rw [List.findIdx?_eq_some_iff_getElem]
  exact ⟨hi, by simp [hk], fun j hj => by simpa using hno j (by omega) hj⟩
theorem ixB_none (l : List Bl) (nm : ByteArray) (hno : ∀ j (h : j < l.length), l[j].nm ≠ nm) : ixB l nm = none := by
  unfold ixB
  rw [List.findIdx?_eq_none_iff]
  intro x hx
  obtain ⟨j, hj, rfl⟩ := List.getElem_of_mem hx
  simpa using hno j hj
theorem ixB_lt (l : List Bl) (nm : ByteArray) (i : Nat) (h : ixB l nm = some i) : i < l.length := by
  unfold ixB at h
  rw [List.findIdx?_eq_some_iff_getElem] at h
  exact h.1
def ixI (o : Option Nat) : Int := match o with | some i => i | none => -1

/-- a cell of a slice is written -/
theorem Rw.set {w : World} {e : TypeId} {sz : Nat} {b off n cap : Nat} {xs : List Value} (h : Rw w e sz (.slice (some ⟨b, off, none⟩) n cap) n xs) (j : Nat) (hj : j < n * sz) (u : Value) : Rw (w.setCell ⟨b, off + j, none⟩ u) e sz (.slice (some ⟨b, off, none⟩) n cap) n (xs.set j u) := by
  obtain ⟨h0, _, _⟩ | ⟨b', off', cap', cur, hv, hb, h1, h2, h3, h4, h5⟩ := h
  · cases h0
  · injection hv with hv1 _ hv2
    injection hv1 with hv1
    injection hv1 with q1 q2
    subst q1 q2 hv2
    have hle : n * sz ≤ cap * sz := Nat.mul_le_mul_right _ h1
    refine .inr ⟨b, off, cap, _, rfl, hb.set (off + j) u, h1, h2, by simpa using h3, by simpa using h4, fun i hi => ?_⟩
    rw [Array.getElem?_setIfInBounds, List.getElem?_set]
    by_cases hij : j = i
    · subst hij
      rw [if_pos rfl, if_pos rfl, if_pos (by omega), if_pos (by omega)]
    · rw [if_neg (by omega), if_neg hij]
      exact h5 i hi

/-- a shard in memory -/
def Sh (w : World) (sb : Nat) (l : List Bl) (room held pinned : Int) (bv : Value) : Prop :=
  Blk w sb 123 #[bv, .int .i64 room, .int .i64 held, .int .i64 pinned] ∧ Rw w 186 4 bv l.length (blCells l)

set_option maxRecDepth 100000 in
set_option maxHeartbeats 1000000 in
theorem find_sh (sb : Nat) (l : List Bl) (room held pinned : Int) (bv : Value) (nm : ByteArray) (w : World) (h : Sh w sb l room held pinned bv) (hl : l.length ≤ 1000) :
    Calls Tryz.prog 167 #[.pointer (some ⟨sb, 0, none⟩), .string nm] w fun r w' => r = .returned (.int .i64 (ixI (ixB l nm))) ∧ w = w' := by
  obtain ⟨hB, hR⟩ := h
  obtain ⟨a0, e0, rfl⟩ := Rw.shape hR
  have c0 : w.cell? ⟨sb, 0, none⟩ = some (.slice a0 l.length e0) := hB.cell 0
  have HK : Hid (∀ i (h : i < l.length), ∃ b off, a0 = some ⟨b, off, none⟩ ∧ w.cell? ⟨b, off + i * 4, none⟩ = some (.string l[i].nm)) := fun i hi => by
    obtain ⟨_, h0, _⟩ | ⟨b, off, cap, cur, hv, hb, g1, g2, g3, g4, g5⟩ := hR
    · omega
    · injection hv with hv
      refine ⟨b, off, hv, ?_⟩
      have := blCells_at l i 0 hi (by omega)
      rw [hb.cell, g5 _ (by omega)]
      simpa [Bl.cells] using this
  clear hB hR
  obtain ⟨n, hn⟩ : ∃ n, Hid (l.length = n) := ⟨_, rfl⟩
  rw [hn.out] at c0 hl
  go_enter Tryz.func167, Tryz.ntmps167
  go_wp2
  go_loopw [11] (fun iv wr => ∃ i : Nat, i ≤ n ∧ iv = .int .i64 i ∧ w = wr ∧ Hid (∀ j (h : j < l.length), j < i → l[j].nm ≠ nm)) (fun iv _ => n - (intOf iv).toNat)
  case atStart => exact ⟨0, by omega, rfl, rfl, fun j _ h => by omega⟩
  case round =>
    obtain ⟨i, hi, rfl, rfl, hno⟩ := hrel
    have hll := hn.out
    by_cases h : i < n
    · have h1 : (i : Int) < (n : Int) := by omega
      have h2 : (0 : Int) ≤ (i : Int) := by omega
      obtain ⟨b, off, rfl, q1⟩ := HK.out i (by omega)
      by_cases hk : l[i].nm = nm
      · have HX := hide (ixB_at l nm i (by omega) hk (fun j h hj => hno.out j h hj))
        have hbb := str_same _ _ hk
        generalize l[i].nm = x at *
        clear hll hk
        go_wp2
        go_ret
        exact ⟨by rw [HX.out]; rfl, rfl⟩
      · have hbb := str_other _ _ hk
        have HX : Hid (∀ j (h : j < l.length), j < i + 1 → l[j].nm ≠ nm) := fun j h hj => by
          rcases Nat.lt_succ_iff_lt_or_eq.1 hj with h1 | h1
          · exact hno.out j h h1
          · subst h1; exact hk
        generalize l[i].nm = x at *
        clear hll hk
        go_wp2
        exact ⟨⟨i + 1, by omega, by simp, by first | rfl | trivial, HX⟩, by simp [intOf]; omega⟩
    · have HX := hide (ixB_none l nm (fun j hj => hno.out j hj (by omega)))
      have h1 : ¬ ((i : Int) < (n : Int)) := by omega
      clear hll
      go_wp2
      go_ret
      exact ⟨by rw [HX.out]; rfl, rfl⟩
end Go.Proofs.YthpmcilljbmoiaaGreatDoor
