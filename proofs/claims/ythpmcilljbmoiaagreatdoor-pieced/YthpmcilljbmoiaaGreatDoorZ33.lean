import Derived.Test.YthpmcilljbmoiaaGreatDoorZ11
namespace Go.Proofs.YthpmcilljbmoiaaGreatDoor
open Go.RowKit

/-- a depot's own cells; whose turn it is -/
abbrev dpt (shv cvv : Value) (t : Int) : Array Value := #[shv, cvv, .slice none 0 0, .int .i64 0, .slice none 0 0, .int .i64 0, .int .i64 t]
/-- a depot of empty shards with n connections, in the blocks G -/
structure Dp (w : World) (db : Nat) (G : Nat → Prop) (n : Nat) (kbs : Nat → Nat) (t : Nat) : Prop where
  mem : ∃ shv cvv, Blk w db 114 (dpt shv cvv (t : Int)) ∧ Rw w 98 1 cvv n (ptrs kbs n) ∧ In G cvv
  emp : Emp w db G
  db : G db
  lt : ∀ k, G k → k < w.heap.size
  n8 : n ≤ 8
  t8 : t ≤ 8
theorem Dp.kept {S : Nat → Prop} {w w' : World} {db : Nat} {G : Nat → Prop} {n : Nat} {kbs : Nat → Nat} {t : Nat} (h : Dp w db G n kbs t) (hk : Kept S w w') (hS : ∀ k, G k → ¬ S k) : Dp w' db G n kbs t := by
  obtain ⟨shv, cvv, h1, h2, h3⟩ := h.mem
  exact ⟨⟨shv, cvv, h1.kept hk (hS _ h.db), Rw.kept h2 hk (fun k e => hS k (h3 k e)), h3⟩, h.emp.kept hk hS, h.db, fun k hg => Nat.lt_of_lt_of_le (h.lt k hg) hk.size, h.n8, h.t8⟩
/-- the depot, its connections: rem: what is left to be done; want: what will have gone out -/
structure Ivx (N : Nat → ByteArray) (w : World) (U : Nat → Prop) (db n t : Nat) (G : Nat → Prop) (F : Nat → Nat → Prop) (kbs rem : Nat → Nat) (want : Nat → ByteArray) : Prop where
  dp : Dp w db G n kbs t
  cw : ∀ i, i < n → Cw N w (F i) (kbs i) (rem i) (want i)
  fg : ∀ i, i < n → ∀ k, F i k → ¬ G k
  ff : ∀ i j, i < n → j < n → i ≠ j → ∀ k, F i k → ¬ F j k
  gu : ∀ k, G k → U k
  fu : ∀ i, i < n → ∀ k, F i k → U k
  lt : ∀ k, U k → k < w.heap.size
def Inv (N : Nat → ByteArray) (w : World) (U : Nat → Prop) (db n t R : Nat) (want : Nat → ByteArray) : Prop :=
  ∃ G F kbs rem, Ivx N w U db n t G F kbs rem want ∧ R = tot rem n
variable {N : Nat → ByteArray} {w w' : World} {U : Nat → Prop} {db n t R : Nat} {G : Nat → Prop} {F : Nat → Nat → Prop} {kbs rem : Nat → Nat} {want : Nat → ByteArray}
theorem Ivx.kept {S : Nat → Prop} (h : Ivx N w U db n t G F kbs rem want) (hk : Kept S w w') (hS : ∀ k, U k → ¬ S k) : Ivx N w' U db n t G F kbs rem want :=
  ⟨h.dp.kept hk (fun k hg => hS k (h.gu k hg)), fun i hi => (h.cw i hi).kept hk (fun k hf => hS k (h.fu i hi k hf)), h.fg, h.ff, h.gu, h.fu, fun k hu => Nat.lt_of_lt_of_le (h.lt k hu) hk.size⟩
theorem Ivx.below (h : Ivx N w U db n t G F kbs rem want) (hk : Below w.heap.size w w') : Ivx N w' U db n t G F kbs rem want := h.kept (Kept.ofBelow (S := fun _ => False) hk) (fun _ _ h => h)
theorem Inv.kept {S : Nat → Prop} (h : Inv N w U db n t R want) (hk : Kept S w w') (hS : ∀ k, U k → ¬ S k) : Inv N w' U db n t R want := by
  obtain ⟨G, F, kbs, rem, h1, h2⟩ := h
  exact ⟨G, F, kbs, rem, h1.kept hk hS, h2⟩
theorem Inv.below (h : Inv N w U db n t R want) (hk : Below w.heap.size w w') : Inv N w' U db n t R want := h.kept (Kept.ofBelow (S := fun _ => False) hk) (fun _ _ h => h)
theorem Inv.lt (h : Inv N w U db n t R want) : ∀ k, U k → k < w.heap.size := by
  obtain ⟨G, F, kbs, rem, h1, h2⟩ := h
  exact h1.lt
theorem Inv.wider {V : Nat → Prop} (h : Inv N w U db n t R want) (hV : ∀ k, U k → V k) (hl : ∀ k, V k → k < w.heap.size) : Inv N w V db n t R want := by
  obtain ⟨G, F, kbs, rem, h1, h2⟩ := h
  exact ⟨G, F, kbs, rem, ⟨h1.dp, h1.cw, h1.fg, h1.ff, fun k hg => hV k (h1.gu k hg), fun i hi k hf => hV k (h1.fu i hi k hf), hl⟩, h2⟩
theorem Ivx.turn8 (h : Ivx N w U db n t G F kbs rem want) : n ≤ 8 := h.dp.n8

/-- connection c has taken a step -/
theorem Ivx.stepped (h : Ivx N w U db n t G F kbs rem want) (c : Nat) (hc : c < n) (r' : Nat) (hr : rem c = r' + 1) (hcw : Cw N w' (ext (F c) w w') (kbs c) r' (want c)) (hk : Kept (F c) w w') :
    Ivx N w' (ext U w w') db n t G (fun i => if i = c then ext (F c) w w' else F i) kbs (fun i => if i = c then r' else rem i) want ∧ tot rem n = tot (fun i => if i = c then r' else rem i) n + 1 := by
  have hnew : ∀ i, i < n → ∀ k, F i k → k < w.heap.size := fun i hi k hf => h.lt k (h.fu i hi k hf)
  refine ⟨⟨h.dp.kept hk (fun k hg hf => h.fg c hc k hf hg), fun i hi => ?_, fun i hi k hf => ?_, fun i j hi hj hij k hf hf' => ?_, fun k hg => .inl (h.gu k hg), fun i hi k hf => ?_, fun k hu => ?_⟩, tot_less _ _ c n hc (fun i _ hic => if_neg hic) (by simp only [if_true]; exact hr)⟩
  · by_cases hic : i = c
    · subst hic; simp only [if_true]; exact hcw
    · simp only [if_neg hic]
      exact (h.cw i hi).kept hk (fun k hf hf' => h.ff i c hi hc hic k hf hf')
  · by_cases hic : i = c
    · subst hic
      simp only [if_true] at hf
      rcases hf with hf | hf
      · exact h.fg i hi k hf
      · intro hg; have := h.dp.lt k hg; omega
    · simp only [if_neg hic] at hf
      exact h.fg i hi k hf
  · by_cases hic : i = c
    · subst hic
      have hjc : ¬ j = i := fun e => hij e.symm
      simp only [if_true] at hf
      simp only [if_neg hjc] at hf'
      rcases hf with hf | hf
      · exact h.ff i j hi hj hij k hf hf'
      · have := hnew j hj k hf'; omega
    · simp only [if_neg hic] at hf
      by_cases hjc : j = c
      · subst hjc
        simp only [if_true] at hf'
        rcases hf' with hf' | hf'
        · exact h.ff i j hi hj hij k hf hf'
        · have := hnew i hi k hf; omega
      · simp only [if_neg hjc] at hf'
        exact h.ff i j hi hj hij k hf hf'
  · by_cases hic : i = c
    · subst hic
      simp only [if_true] at hf
      rcases hf with hf | hf
      · exact .inl (h.fu i hi k hf)
      · exact .inr hf
    · simp only [if_neg hic] at hf
      exact .inl (h.fu i hi k hf)
  · rcases hu with hu | hu
    · exact Nat.lt_of_lt_of_le (h.lt k hu) hk.size
    · exact hu.2
/-- whose turn it is is written down -/
theorem Ivx.turned (h : Ivx N w U db n t G F kbs rem want) (t' : Nat) (ht : t' ≤ 8) : Ivx N (w.setCell ⟨db, 6, none⟩ (.int .i64 t')) U db n t' G F kbs rem want := by
  have hk : Kept (fun k => k = db) w (w.setCell ⟨db, 6, none⟩ (.int .i64 t')) := (Kept.refl _ _).set _ _ (fun _ => rfl)
  obtain ⟨shv, cvv, h1, h2, h3⟩ := h.dp.mem
  refine ⟨⟨⟨shv, cvv, by simpa using h1.set 6 (.int .i64 t'), Rw.kept h2 hk (fun k e e' => by subst e'; exact Rw.ne h2 h1 (by decide) e), h3⟩, h.dp.emp.set 6 (by decide) _, h.dp.db, fun k hg => by rw [World.size_setCell]; exact h.dp.lt k hg, h.dp.n8, ht⟩, fun i hi => (h.cw i hi).kept hk (fun k hf e => by subst e; exact h.fg i hi _ hf h.dp.db), h.fg, h.ff, h.gu, h.fu, fun k hu => by rw [World.size_setCell]; exact h.lt k hu⟩
end Go.Proofs.YthpmcilljbmoiaaGreatDoor
namespace Go.Proofs.YthpmcilljbmoiaaGreatDoor
open Go.RowKit

variable {N : Nat → ByteArray} {w w' : World} {U : Nat → Prop} {db n t R : Nat} {G : Nat → Prop} {F : Nat → Nat → Prop} {kbs rem : Nat → Nat} {want : Nat → ByteArray}

/-- the list of connections, as it lies in memory -/
theorem Dp.slice (h : Dp w db G n kbs t) (h0 : 0 < n) : ∃ b off cap, w.cell? ⟨db, 1, none⟩ = some (.slice (some ⟨b, off, none⟩) n cap) ∧ ∀ i, i < n → w.cell? ⟨b, off + i, none⟩ = some (.pointer (some ⟨kbs i, 0, none⟩)) := by
  obtain ⟨shv, cvv, h1, h2, h3⟩ := h.mem
  have c1 : w.cell? ⟨db, 1, none⟩ = some cvv := h1.cell 1
  obtain ⟨_, rfl, _⟩ | ⟨b, off, cap, cur, rfl, hb, g1, g2, g3, g4, g5⟩ := h2
  · omega
  · exact ⟨b, off, cap, c1, fun i hi => by rw [hb.cell, g5 i (by omega), ptrs_get _ _ _ hi]⟩

set_option maxRecDepth 100000 in
set_option maxHeartbeats 400000 in
theorem anyConn_dp (c : Nat) (hc : c < n) (h : Dp w db G n kbs t) :
    Calls Tryz.prog 48 #[.pointer (some ⟨db, 0, none⟩), .int .i64 c] w
      fun r w' => r = .returned (.tuple #[.pointer (some ⟨kbs c, 0, none⟩), .int .i64 0]) ∧ w = w' := by
  obtain ⟨b, off, cap, c1, hcs⟩ := h.slice (by omega)
  have c2 := hcs c hc
  have h1 : ¬ ((c : Int) < 0) := by omega
  have h2 : ¬ ((n : Int) ≤ (c : Int)) := by omega
  have h3 : (c : Int) < (n : Int) := by omega
  have h4 : (0 : Int) ≤ (c : Int) := by omega
  clear h hcs
  go_enter Tryz.func48, Tryz.ntmps48
  go_wp2
  go_ret2
  exact ⟨rfl, rfl⟩
set_option maxRecDepth 100000 in
theorem closed_cn (kb : Nat) (wv gv wk : Value) (h : Cn w kb wv gv wk (.bool false)) :
    Calls Tryz.prog 94 #[.pointer (some ⟨kb, 0, none⟩)] w fun r w' => r = .returned (.bool false) ∧ w = w' := by
  have c3 : w.cell? ⟨kb, 3, none⟩ = some (.bool false) := h.cell 3
  go_enter Tryz.func94, Tryz.ntmps94
  go_wp2
  go_ret
  exact ⟨rfl, rfl⟩
set_option maxRecDepth 100000 in
set_option maxHeartbeats 400000 in
theorem openConn_dp (c : Nat) (hc : c < n) (h : Dp w db G n kbs t) (wv gv wk : Value) (hcn : Cn w (kbs c) wv gv wk (.bool false)) :
    Calls Tryz.prog 54 #[.pointer (some ⟨db, 0, none⟩), .int .i64 c] w
      fun r w' => r = .returned (.tuple #[.pointer (some ⟨kbs c, 0, none⟩), .int .i64 0]) ∧ w = w' := by
  have HA := hide (anyConn_dp c hc h)
  have HC := hide (closed_cn (kbs c) wv gv wk hcn)
  clear h hcn
  go_enter Tryz.func54, Tryz.ntmps54
  go_wp2_with (first | (go_at_call 48; refine HA.out.mono ?_; rintro e w1 ⟨rfl, rfl⟩) | (go_at_call 94; refine HC.out.mono ?_; rintro e w1 ⟨rfl, rfl⟩))
  go_ret2
  exact ⟨rfl, rfl⟩

/-- connection c has turned, and it alone -/
theorem Ivx.put (h : Ivx N w U db n t G F kbs rem want) (c : Nat) (hc : c < n) (r' : Nat) (t' : ByteArray) (hcw : Cw N w' (ext (F c) w w') (kbs c) r' t') (hk : Kept (F c) w w') :
    Ivx N w' (ext U w w') db n t G (fun i => if i = c then ext (F c) w w' else F i) kbs (fun i => if i = c then r' else rem i) (fun i => if i = c then t' else want i) := by
  have hnew : ∀ i, i < n → ∀ k, F i k → k < w.heap.size := fun i hi k hf => h.lt k (h.fu i hi k hf)
  refine ⟨h.dp.kept hk (fun k hg hf => h.fg c hc k hf hg), fun i hi => ?_, fun i hi k hf => ?_, fun i j hi hj hij k hf hf' => ?_, fun k hg => .inl (h.gu k hg), fun i hi k hf => ?_, fun k hu => ?_⟩
  · by_cases hic : i = c
    · subst hic; simp only [if_true]; exact hcw
    · simp only [if_neg hic]
      exact (h.cw i hi).kept hk (fun k hf hf' => h.ff i c hi hc hic k hf hf')
  · by_cases hic : i = c
    · subst hic
      simp only [if_true] at hf
      rcases hf with hf | hf
      · exact h.fg i hi k hf
      · intro hg; have := h.dp.lt k hg; omega
    · simp only [if_neg hic] at hf
      exact h.fg i hi k hf
  · by_cases hic : i = c
    · subst hic
      have hjc : ¬ j = i := fun e => hij e.symm
      simp only [if_true] at hf
      simp only [if_neg hjc] at hf'
      rcases hf with hf | hf
      · exact h.ff i j hi hj hij k hf hf'
      · have := hnew j hj k hf'; omega
    · simp only [if_neg hic] at hf
      by_cases hjc : j = c
      · subst hjc
        simp only [if_true] at hf'
        rcases hf' with hf' | hf'
        · exact h.ff i j hi hj hij k hf hf'
        · have := hnew i hi k hf; omega
      · simp only [if_neg hjc] at hf'
        exact h.ff i j hi hj hij k hf hf'
  · by_cases hic : i = c
    · subst hic
      simp only [if_true] at hf
      rcases hf with hf | hf
      · exact .inl (h.fu i hi k hf)
      · exact .inr hf
    · simp only [if_neg hic] at hf
      exact .inl (h.fu i hi k hf)
  · rcases hu with hu | hu
    · exact Nat.lt_of_lt_of_le (h.lt k hu) hk.size
    · exact hu.2
/-- the same, its blocks hidden -/
def Ivr (N : Nat → ByteArray) (w : World) (U : Nat → Prop) (db n t : Nat) (rem : Nat → Nat) (want : Nat → ByteArray) : Prop := ∃ G F kbs, Ivx N w U db n t G F kbs rem want
theorem Ivr.inv (h : Ivr N w U db n t rem want) : Inv N w U db n t (tot rem n) want := by
  obtain ⟨G, F, kbs, h1⟩ := h
  exact ⟨G, F, kbs, rem, h1, rfl⟩
theorem Ivr.below (h : Ivr N w U db n t rem want) (hk : Below w.heap.size w w') : Ivr N w' U db n t rem want := by
  obtain ⟨G, F, kbs, h1⟩ := h
  exact ⟨G, F, kbs, h1.below hk⟩
theorem Ivr.congr (h : Ivr N w U db n t rem want) (rem' : Nat → Nat) (want' : Nat → ByteArray) (hr : ∀ i, i < n → rem' i = rem i) (he : ∀ i, i < n → want' i = want i) : Ivr N w U db n t rem' want' := by
  obtain ⟨G, F, kbs, h1⟩ := h
  exact ⟨G, F, kbs, ⟨h1.dp, fun i hi => by rw [he i hi, hr i hi]; exact h1.cw i hi, h1.fg, h1.ff, h1.gu, h1.fu, h1.lt⟩⟩
theorem Ivr.lt (h : Ivr N w U db n t rem want) : ∀ k, U k → k < w.heap.size := by
  obtain ⟨G, F, kbs, h1⟩ := h
  exact h1.lt

theorem frs_le (hN : Nok N) : ∀ q : List Rq, (∀ x ∈ q, okR x) → (frs N q).size ≤ 34 * qRem q
  | [], _ => Nat.zero_le _
  | x :: q, h => by
    have := frs_le hN q (fun y hy => h y (by simp [hy]))
    have hb := bodyOf_size hN x.2 (h x (by simp)).2.2
    rw [frs, fr, ByteArray.size_append, frm_size, hb, qRem]
    omega
/-- a Read comes in -/
theorem Cw.fed (hN : Nok N) {F : Nat → Prop} {kb r : Nat} {tx : ByteArray} (x : Rq) (hx : okR x) (h : Cw N w F kb r tx) (hr : r + (x.2 + 2) ≤ 150) (ht : tx.size + 14 ≤ 1000) :
    ∃ wv gv wk s, Cn w kb wv gv wk (.bool false) ∧ Bs w 5 wv s ∧ s.size + (fr N x).size ≤ 6000 ∧
      ∀ w' wv', Cn w' kb wv' gv wk (.bool false) → Bs w' 5 wv' (s ++ fr N x) → Kept (fun k => k = kb ∨ wv.ownBlock = some k) w w' → Home w wv wv' → Cw N w' (ext F w w') kb (r + (x.2 + 2)) (tx ++ rep x) ∧ Kept F w w' := by
  obtain ⟨q, cur, going, h1, rfl, rfl⟩ := h
  obtain ⟨wv, gv, wk, m1, m2, m3, m4, m5, m6, m7⟩ := h1.mem
  have hz := frs_le hN q h1.okq
  have hb := bodyOf_size hN x.2 hx.2.2
  have hfz : (fr N x).size = 5 + (1 + 34 * x.2) := by rw [fr, frm_size, hb]
  have hx8 := hx.2.2
  have hsum : (frs N q).size + (fr N x).size ≤ 6000 := by rw [hfz]; omega
  refine ⟨wv, gv, wk, frs N q, m1, m2, hsum, fun w' wv' c1 c2 hk hh => ?_⟩
  have hkF : Kept F w w' := hk.mono (fun k _ e => by
    rcases e with rfl | e
    · exact h1.kb
    · exact m4 k e)
  have gv' : Bs w' 5 gv going := m3.kept hk (fun k hkk e => by
    rcases e with rfl | e
    · exact bs_ne_cn m3 m1 (by decide) hkk
    · exact m6 k e hkk)
  refine ⟨⟨q ++ [x], cur, going, ⟨⟨wv', gv, wk, c1, by rw [frs_add]; exact c2, gv', m4.home hh c2, m5.ext _ _, fun k hk e => ?_, ?_⟩, .inl h1.kb, fun y hy => ?_, by rw [frs_add, ByteArray.size_append]; exact hsum, ?_, fun k hk' => ?_⟩, ?_, ?_⟩, hkF⟩
  · have := Rw.lt m3 e
    exact m6 k (hh.old k this hk) e
  · cases cur with
    | none => exact m7
    | some p =>
      obtain ⟨y, d⟩ := p
      obtain ⟨wb, c, a, bv, rfl, k1, k2, k3, k4, k5, k6, k7, k8, k9⟩ := m7
      have nk : ∀ k, bv.ownBlock = some k → ¬ (k = kb ∨ wv.ownBlock = some k) := fun k hkk e => by
        rcases e with rfl | e
        · exact bs_ne_cn k2 m1 (by decide) hkk
        · exact (k7 k hkk).1 e
      refine ⟨wb, c, a, bv, rfl, k1.kept hk (fun e => ?_), k2.kept hk nk, Rw.kept k3 hk (fun k hkk e => ?_), .inl k4, k5.ext _ _, k6.ext _ _, fun k hkk => ⟨fun e => ?_, (k7 k hkk).2⟩, k8, k9⟩
      · rcases e with e | e
        · exact k1.ne m1 (by decide) e
        · exact bs_ne_cn m2 k1 (by decide) e
      · rcases e with rfl | e
        · exact Rw.ne k3 m1 (by decide) hkk
        · exact Rw.ne2 m2 k3 (by decide) e hkk
      · have := Rw.lt k2 hkk
        exact (k7 k hkk).1 (hh.old k this e)
  · rcases List.mem_append.1 hy with hy | hy
    · exact h1.okq y hy
    · rw [List.mem_singleton.1 hy]; exact hx
  · rw [reps_add, ← ByteArray.append_assoc, ← ByteArray.append_assoc, ByteArray.size_append, rep_size]
    rw [ByteArray.append_assoc]
    omega
  · rcases hk' with hk' | hk'
    · exact Nat.lt_of_lt_of_le (h1.lt k hk') hkF.size
    · exact hk'.2
  · rw [qRem_add]; omega
  · rw [reps_add]; simp only [ByteArray.append_assoc]
set_option maxRecDepth 100000 in
set_option maxHeartbeats 400000 in
theorem feed_ivr (hN : Nok N) (c : Nat) (hc : c < n) (x : Rq) (hx : okR x) (h : Ivr N w U db n t rem want) (hr : rem c + (x.2 + 2) ≤ 150) (ht : (want c).size + 14 ≤ 1000) :
    Calls Tryz.prog 23 #[.pointer (some ⟨db, 0, none⟩), .int .i64 c, .string (fr N x)] w
      fun r w' => r = .returned (.int .i64 0) ∧ Ivr N w' (ext U w w') db n t (fun i => if i = c then rem c + (x.2 + 2) else rem i) (fun i => if i = c then want c ++ rep x else want i) ∧ Kept U w w' := by
  obtain ⟨G, F, kbs, h1⟩ := h
  obtain ⟨wv, gv, wk, s, f1, f2, f3, f4⟩ := Cw.fed hN x hx (h1.cw c hc) hr ht
  have HO := hide (openConn_dp c hc h1.dp wv gv wk f1)
  have HF : Hid (Calls Tryz.prog 58 #[.pointer (some ⟨kbs c, 0, none⟩), .string (fr N x)] w fun r w' => r = .returned (.bool true) ∧ Ivr N w' (ext U w w') db n t (fun i => if i = c then rem c + (x.2 + 2) else rem i) (fun i => if i = c then want c ++ rep x else want i) ∧ Kept U w w') := by
    refine (feed_in (kbs c) wv gv wk (.bool false) s (fr N x) w f1 f2 f3).mono ?_
    rintro e w' ⟨rfl, wv', c1, b1, k1, o1⟩
    obtain ⟨g1, g2⟩ := f4 w' wv' c1 b1 k1 o1
    exact ⟨rfl, ⟨_, _, _, h1.put c hc _ _ g1 g2⟩, g2.mono (fun k _ hf => h1.fu c hc k hf)⟩
  clear f1 f2 f3 f4 h1
  generalize kbs c = kb at *
  generalize fr N x = S at *
  go_enter Tryz.func23, Tryz.ntmps23
  go_wp2_with (first | (go_at_call 54; refine HO.out.mono ?_; rintro e w1 ⟨rfl, rfl⟩) | (go_at_call 58; refine HF.out.mono ?_; rintro e w1 ⟨rfl, q1, q2⟩))
  go_ret
  exact ⟨rfl, q1, q2⟩
set_option maxRecDepth 100000 in
set_option maxHeartbeats 400000 in
/-- nothing is left to be done: all goes out -/
theorem take_inv (c : Nat) (hc : c < n) (h : Inv N w U db n t 0 want) (m : Nat) (hm1 : 1000 < m) (hm2 : m < 9000000000000) :
    Calls Tryz.prog 22 #[.pointer (some ⟨db, 0, none⟩), .int .i64 c, .int .i64 m] w
      fun r w' => r = .returned (.tuple #[.string (want c), .int .i64 0]) ∧ Inv N w' (ext U w w') db n t 0 (fun i => if i = c then ⟨#[]⟩ else want i) ∧ Kept U w w' := by
  obtain ⟨G, F, kbs, rem, h1, h2⟩ := h
  have hr0 : rem c = 0 := by have := tot_at rem n c hc; omega
  have HO := hide (anyConn_dp c hc h1.dp)
  have HF : Hid (Calls Tryz.prog 57 #[.pointer (some ⟨kbs c, 1, none⟩), .int .i64 m] w fun r w' => r = .returned (.string (want c)) ∧ Inv N w' (ext U w w') db n t 0 (fun i => if i = c then ⟨#[]⟩ else want i) ∧ Kept U w w') := by
    obtain ⟨q, cur, going, g1, g2, g3⟩ := h1.cw c hc
    have hcur : cur = none := by
      cases cur with
      | none => rfl
      | some p => simp only [curRem] at g2; omega
    subst hcur
    have hq : q = [] := by
      cases q with
      | nil => rfl
      | cons y q => simp only [qRem] at g2; omega
    subst hq
    have hgo : want c = going := by rw [g3]; simp only [curRep, reps, app_empty]
    have hz := g1.wz
    simp only [curRep, reps, app_empty] at hz
    obtain ⟨wv, gv, wk, m1, m2, m3, m4, m5, m6, m7⟩ := g1.mem
    refine (take_out (kbs c) wv gv wk (.bool false) going m w m1 m3 (by omega) (by omega) hm2).mono ?_
    rintro e w' ⟨rfl, gv', c1, b1, k1, o1⟩
    have hk : Kept (F c) w w' := k1.mono (fun k _ e => by subst e; exact g1.kb)
    have hwa := m2.kept k1 (fun k hk e => by subst e; exact bs_ne_cn m2 m1 (by decide) hk)
    have hcw : Cw N w' (ext (F c) w w') (kbs c) 0 ⟨#[]⟩ := by
      refine ⟨[], none, ⟨#[]⟩, ⟨⟨wv, gv', wk, c1, hwa, b1, m4.ext _ _, fun k hk => .inl (m5 k (o1 ▸ hk)), fun k hk e => m6 k hk (o1 ▸ e), m7⟩, .inl g1.kb, g1.okq, g1.sz, (by decide : (⟨#[]⟩ ++ (⟨#[]⟩ ++ ⟨#[]⟩) : ByteArray).size ≤ 1000), fun k hk' => ?_⟩, rfl, by simp [curRep, reps, app_empty]⟩
      rcases hk' with hk' | hk'
      · exact Nat.lt_of_lt_of_le (g1.lt k hk') hk.size
      · exact hk'.2
    refine ⟨by rw [hgo], ⟨_, _, _, _, h1.put c hc _ _ hcw hk, ?_⟩, hk.mono (fun k _ hf => h1.fu c hc k hf)⟩
    exact h2.trans (tot_congr _ _ _ (fun i _ => by
      by_cases hic : i = c
      · subst hic; simp only [if_true]; exact hr0
      · simp only [if_neg hic]))
  clear h1 h2 hr0
  generalize want c = W at *
  generalize kbs c = kb at *
  have hm0 : ¬ ((m : Int) < 0) := by omega
  go_enter Tryz.func22, Tryz.ntmps22
  go_wp2_with (first | (go_at_call 48; refine HO.out.mono ?_; rintro e w1 ⟨rfl, rfl⟩) | (go_at_call 57; refine HF.out.mono ?_; rintro e w1 ⟨rfl, q1, q2⟩))
  go_ret2
  exact ⟨rfl, q1, q2⟩
end Go.Proofs.YthpmcilljbmoiaaGreatDoor
namespace Go.Proofs.YthpmcilljbmoiaaGreatDoor
open Go.RowKit

variable {N : Nat → ByteArray} {w w' : World} {U : Nat → Prop} {db n t R : Nat} {want : Nat → ByteArray}

/-- what a try to take a step comes to -/
def Tried (N : Nat → ByteArray) (w : World) (U : Nat → Prop) (db n R : Nat) (want : Nat → ByteArray) (b : Bool) (w' : World) : Prop :=
  (R = 0 ∧ b = false ∧ Below w.heap.size w w') ∨ (b = true ∧ ∃ R' t', R = R' + 1 ∧ Inv N w' (ext U w w') db n t' R' want ∧ Kept U w w')
def TurnP (N : Nat → ByteArray) (w : World) (U : Nat → Prop) (db n R : Nat) (want : Nat → ByteArray) (e : Ending) (w' : World) : Prop := ∃ b, e = .returned (.bool b) ∧ Tried N w U db n R want b w'

set_option maxRecDepth 100000 in
set_option maxHeartbeats 2000000 in
theorem turn_any (hN : Nok N) (h : Inv N w U db n t R want) :
    Calls Tryz.prog 63 #[.pointer (some ⟨db, 0, none⟩)] w fun e w' => TurnP N w U db n R want e w' := by
  obtain ⟨G, F, kbs, rem, h1, h2⟩ := h
  have hn8 := h1.dp.n8
  have ht8 := h1.dp.t8
  obtain ⟨shv, cvv, m1, m2, m3⟩ := h1.dp.mem
  have c1 : w.cell? ⟨db, 1, none⟩ = some cvv := m1.cell 1
  have hlt := m1.lt
  obtain ⟨a0, e0, rfl⟩ := Rw.shape m2
  have HS : Hid (∀ c, c < n → ∀ w1, Below w.heap.size w w1 → Calls Tryz.prog 49 #[.pointer (some ⟨db, 0, none⟩), .pointer (some ⟨kbs c, 0, none⟩)] w1
      fun e w' => ∃ z : Int, e = .returned (.int .i64 z) ∧ ((rem c = 0 ∧ z = 0 ∧ Below w.heap.size w w') ∨ (z ≠ 0 ∧ w'.cell? ⟨db, 6, none⟩ = some (.int .i64 t) ∧ w'.frozen? ⟨db, 6, none⟩ = false ∧ ∃ r' F' rem', Ivx N w' (ext U w w') db n t G F' kbs rem' want ∧ R = r' + 1 ∧ r' = tot rem' n ∧ Kept U w w'))) := by
    intro c hc w1 hb
    have h1' := h1.below hb
    refine (step_cw hN h1'.dp.emp (h1'.fg c hc) (h1'.cw c hc)).mono ?_
    rintro e w' ⟨z, q1, q2⟩
    refine ⟨z, q1, ?_⟩
    rcases q2 with ⟨q2, q3, q4⟩ | ⟨q2, r', q3, q4, q5⟩
    · exact .inl ⟨q2, q3, hb.trans (q4.mono hb.size)⟩
    · obtain ⟨q6, q7⟩ := h1'.stepped c hc r' q3 q4 q5
      have hw : ∀ k, ext U w1 w' k → ext U w w' k := fun k hk => by
        rcases hk with hk | hk
        · exact .inl hk
        · exact .inr ⟨by have := hb.size; omega, hk.2⟩
      have hU : Kept U w w' := (Kept.ofBelow hb).next (q5.mono (fun k _ hf => h1'.fu c hc k hf)) (fun _ _ h => h)
      obtain ⟨shv', cvv', k1, k2, k3⟩ := q6.dp.mem
      refine .inr ⟨q2, k1.cell 6, k1.frozen 6, _, _, _, ⟨q6.dp, q6.cw, q6.fg, q6.ff, fun k hg => hw k (q6.gu k hg), fun i hi k hf => hw k (q6.fu i hi k hf), fun k hu => ?_⟩, h2.trans q7, rfl, hU⟩
      rcases hu with hu | hu
      · exact Nat.lt_of_lt_of_le (h1.lt k hu) hU.size
      · exact hu.2
  have HC : Hid (∀ w1, Below w.heap.size w w1 → w1.cell? ⟨db, 1, none⟩ = some (.slice a0 n e0) ∧ w1.cell? ⟨db, 6, none⟩ = some (.int .i64 t)) := fun w1 hb => by
    have := m1.below hb hlt
    exact ⟨this.cell 1, this.cell 6⟩
  have HP : Hid (∀ i, i < n → ∃ b off, a0 = some ⟨b, off, none⟩ ∧ ∀ w1, Below w.heap.size w w1 → w1.cell? ⟨b, off + i, none⟩ = some (.pointer (some ⟨kbs i, 0, none⟩))) := fun i hi => by
    obtain ⟨_, h0, _⟩ | ⟨b, off, cap, cur, hv, hb, g1, g2, g3, g4, g5⟩ := m2
    · omega
    · injection hv with hv
      exact ⟨b, off, hv, fun w1 hb1 => by rw [(hb.below hb1 hb.lt).cell, g5 i (by omega), ptrs_get _ _ _ hi]⟩
  have HR := hide h2
  have HL : Hid (∀ k, U k → k < w.heap.size) := h1.lt
  have HI : Hid (Ivx N w U db n t G F kbs rem want) := h1
  clear h1 m1 m2 m3 h2
  go_enter Tryz.func63, Tryz.ntmps63
  go_wp2
  go_loopw [10] (fun iv wr => ∃ i : Nat, i ≤ n ∧ iv = .int .i64 i ∧ Below w.heap.size w wr ∧ Hid (∀ j, j < i → rem ((t + j) % n) = 0)) (fun iv _ => n - (intOf iv).toNat)
  case atStart => exact ⟨0, by omega, rfl, Below.refl _ _, fun j hj => by omega⟩
  case round =>
    clear c1
    obtain ⟨i, hi, rfl, hb, hz⟩ := hrel
    by_cases hin : i < n
    · have h1 : (i : Int) < (n : Int) := by omega
      have hk : (t + i) % n < n := Nat.mod_lt _ (by omega)
      obtain ⟨d1, d6⟩ := HC.out wr hb
      have hmod : ((t : Int) + (i : Int)) % (n : Int) = (((t + i) % n : Nat) : Int) := by rw [Int.natCast_emod, Int.natCast_add]
      have hn0 : ¬ ((n : Int) = 0) := by omega
      go_wp2
      go_region
      rw [hmod]
      have hb' : Below w.heap.size w (World.drew wr) := hb.drew
      obtain ⟨b, off, rfl, hp⟩ := HP.out _ hk
      have p1 := hp _ hb'
      have d1' : (World.drew wr).cell? ⟨db, 1, none⟩ = some (.slice (some ⟨b, off, none⟩) n e0) := d1
      have HS1 := hide (HS.out _ hk _ hb')
      have hz' : Hid (rem ((t + i) % n) = 0 → ∀ j, j < i + 1 → rem ((t + j) % n) = 0) := fun h0 j hj => by
        by_cases hji : j = i
        · subst hji; exact h0
        · exact hz.out j (by omega)
      clear hp HP HS HC hz d1 d6 hmod
      generalize (t + i) % n = k at *
      generalize World.drew wr = w1 at *
      have h2 : (k : Int) < (n : Int) := by omega
      have h3 : (0 : Int) ≤ (k : Int) := by omega
      go_wp2_with (go_at_call 49; refine HS1.out.mono ?_; rintro e w2 ⟨z, rfl, hcase⟩; rcases hcase with ⟨hr0, rfl, hb2⟩ | ⟨hz0, e6, f6, r', F', rem', hI, hR1, hR2, hK⟩)
      · exact ⟨⟨i + 1, by omega, by simp, hb2, hz'.out hr0⟩, by simp [intOf]; omega⟩
      · go_ret
        have hT := hI.turned (k + 1) (by omega)
        rw [show ((k + 1 : Nat) : Int) = (k : Int) + 1 by omega] at hT
        have he : ext U w (w2.setCell ⟨db, 6, none⟩ (.int .i64 ((k : Int) + 1))) = ext U w w2 := by unfold ext; rw [World.size_setCell]
        refine ⟨true, rfl, .inr ⟨rfl, r', k + 1, hR1, ?_, hK.set _ _ (fun _ => HI.out.gu _ HI.out.dp.db)⟩⟩
        rw [he]
        exact ⟨G, F', kbs, rem', hT, hR2⟩
    · have hall : Hid (R = 0) := by
        unfold Hid
        rw [HR.out]
        refine tot_zero rem n (fun c hc => ?_)
        obtain ⟨j, hj, hjc⟩ := round_all t n c hc
        rw [← hjc]
        exact hz.out j (by omega)
      have h1 : ¬ ((i : Int) < (n : Int)) := by omega
      go_wp2
      go_ret
      exact ⟨false, rfl, .inl ⟨hall.out, rfl, hb⟩⟩
end Go.Proofs.YthpmcilljbmoiaaGreatDoor
