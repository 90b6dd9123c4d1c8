import Derived.Test.YthpmcilljbmoiaaGreatDoorCon
namespace Go.Proofs.YthpmcilljbmoiaaGreatDoor
open Go.RowKit

/-- a depot's own cells; whose turn it is -/
abbrev dpt (shv cvv : Value) (t : Int) : Array Value := #[shv, cvv, .slice none 0 0, .int .i64 0, .slice none 0 0, .int .i64 0, .int .i64 t]
/-- a depot of empty shards with n connections, in the blocks G -/
structure Dp (w : World) (db : Nat) (G : Nat → Prop) (n : Nat) (kbs : Nat → Nat) (t : Nat) : Prop where
  mem : ∃ shv cvv, Blk w db 114 (dpt shv cvv (t : Int)) ∧ Rw w 98 1 cvv n (ptrs kbs n) ∧ In G cvv
  emp : Emp w db G
  db : G db
  lt : ∀ k, G k → k < w.heap.size
  n8 : n ≤ 8
  t8 : t ≤ 8
theorem Dp.kept {S : Nat → Prop} {w w' : World} {db : Nat} {G : Nat → Prop} {n : Nat} {kbs : Nat → Nat} {t : Nat} (h : Dp w db G n kbs t) (hk : Kept S w w') (hS : ∀ k, G k → ¬ S k) : Dp w' db G n kbs t := by
  obtain ⟨shv, cvv, h1, h2, h3⟩ := h.mem
  exact ⟨⟨shv, cvv, h1.kept hk (hS _ h.db), Rw.kept h2 hk (fun k e => hS k (h3 k e)), h3⟩, h.emp.kept hk hS, h.db, fun k hg => Nat.lt_of_lt_of_le (h.lt k hg) hk.size, h.n8, h.t8⟩
/-- the depot, its connections: rem: what is left to be done; want: what will have gone out -/
structure Ivx (N : Nat → ByteArray) (w : World) (U : Nat → Prop) (db n t : Nat) (G : Nat → Prop) (F : Nat → Nat → Prop) (kbs rem : Nat → Nat) (want : Nat → ByteArray) : Prop where
  dp : Dp w db G n kbs t
  cw : ∀ i, i < n → Cw N w (F i) (kbs i) (rem i) (want i)
  fg : ∀ i, i < n → ∀ k, F i k → ¬ G k
  ff : ∀ i j, i < n → j < n → i ≠ j → ∀ k, F i k → ¬ F j k
  gu : ∀ k, G k → U k
  fu : ∀ i, i < n → ∀ k, F i k → U k
  lt : ∀ k, U k → k < w.heap.size
def Inv (N : Nat → ByteArray) (w : World) (U : Nat → Prop) (db n t R : Nat) (want : Nat → ByteArray) : Prop :=
  ∃ G F kbs rem, Ivx N w U db n t G F kbs rem want ∧ R = tot rem n
variable {N : Nat → ByteArray} {w w' : World} {U : Nat → Prop} {db n t R : Nat} {G : Nat → Prop} {F : Nat → Nat → Prop} {kbs rem : Nat → Nat} {want : Nat → ByteArray}
theorem Ivx.kept {S : Nat → Prop} (h : Ivx N w U db n t G F kbs rem want) (hk : Kept S w w') (hS : ∀ k, U k → ¬ S k) : Ivx N w' U db n t G F kbs rem want :=
  ⟨h.dp.kept hk (fun k hg => hS k (h.gu k hg)), fun i hi => (h.cw i hi).kept hk (fun k hf => hS k (h.fu i hi k hf)), h.fg, h.ff, h.gu, h.fu, fun k hu => Nat.lt_of_lt_of_le (h.lt k hu) hk.size⟩
theorem Ivx.below (h : Ivx N w U db n t G F kbs rem want) (hk : Below w.heap.size w w') : Ivx N w' U db n t G F kbs rem want := h.kept (Kept.ofBelow (S := fun _ => False) hk) (fun _ _ h => h)
theorem Inv.kept {S : Nat → Prop} (h : Inv N w U db n t R want) (hk : Kept S w w') (hS : ∀ k, U k → ¬ S k) : Inv N w' U db n t R want := by
  obtain ⟨G, F, kbs, rem, h1, h2⟩ := h
  exact ⟨G, F, kbs, rem, h1.kept hk hS, h2⟩
theorem Inv.below (h : Inv N w U db n t R want) (hk : Below w.heap.size w w') : Inv N w' U db n t R want := h.kept (Kept.ofBelow (S := fun _ => False) hk) (fun _ _ h => h)
theorem Inv.lt (h : Inv N w U db n t R want) : ∀ k, U k → k < w.heap.size := by
  obtain ⟨G, F, kbs, rem, h1, h2⟩ := h
  exact h1.lt
theorem Inv.wider {V : Nat → Prop} (h : Inv N w U db n t R want) (hV : ∀ k, U k → V k) (hl : ∀ k, V k → k < w.heap.size) : Inv N w V db n t R want := by
  obtain ⟨G, F, kbs, rem, h1, h2⟩ := h
  exact ⟨G, F, kbs, rem, ⟨h1.dp, h1.cw, h1.fg, h1.ff, fun k hg => hV k (h1.gu k hg), fun i hi k hf => hV k (h1.fu i hi k hf), hl⟩, h2⟩
theorem Ivx.turn8 (h : Ivx N w U db n t G F kbs rem want) : n ≤ 8 := h.dp.n8

/-- connection c has taken a step -/
theorem Ivx.stepped (h : Ivx N w U db n t G F kbs rem want) (c : Nat) (hc : c < n) (r' : Nat) (hr : rem c = r' + 1) (hcw : Cw N w' (ext (F c) w w') (kbs c) r' (want c)) (hk : Kept (F c) w w') :
    Ivx N w' (ext U w w') db n t G (fun i => if i = c then ext (F c) w w' else F i) kbs (fun i => if i = c then r' else rem i) want ∧ tot rem n = tot (fun i => if i = c then r' else rem i) n + 1 := by
  have hnew : ∀ i, i < n → ∀ k, F i k → k < w.heap.size := fun i hi k hf => h.lt k (h.fu i hi k hf)
  refine ⟨⟨h.dp.kept hk (fun k hg hf => h.fg c hc k hf hg), fun i hi => ?_, fun i hi k hf => ?_, fun i j hi hj hij k hf hf' => ?_, fun k hg => .inl (h.gu k hg), fun i hi k hf => ?_, fun k hu => ?_⟩, tot_less _ _ c n hc (fun i _ hic => if_neg hic) (by simp only [if_true]; exact hr)⟩
  · by_cases hic : i = c
    · subst hic; simp only [if_true]; exact hcw
    · simp only [if_neg hic]
      exact (h.cw i hi).kept hk (fun k hf hf' => h.ff i c hi hc hic k hf hf')
  · by_cases hic : i = c
    · subst hic
      simp only [if_true] at hf
      rcases hf with hf | hf
      · exact h.fg i hi k hf
      · intro hg; have := h.dp.lt k hg; omega
    · simp only [if_neg hic] at hf
      exact h.fg i hi k hf
  · by_cases hic : i = c
    · subst hic
      have hjc : ¬ j = i := fun e => hij e.symm
      simp only [if_true] at hf
      simp only [if_neg hjc] at hf'
      rcases hf with hf | hf
      · exact h.ff i j hi hj hij k hf hf'
      · have := hnew j hj k hf'; omega
    · simp only [if_neg hic] at hf
      by_cases hjc : j = c
      · subst hjc
        simp only [if_true] at hf'
        rcases hf' with hf' | hf'
        · exact h.ff i j hi hj hij k hf hf'
        · have := hnew i hi k hf; omega
      · simp only [if_neg hjc] at hf'
        exact h.ff i j hi hj hij k hf hf'
  · by_cases hic : i = c
    · subst hic
      simp only [if_true] at hf
      rcases hf with hf | hf
      · exact .inl (h.fu i hi k hf)
      · exact .inr hf
    · simp only [if_neg hic] at hf
      exact .inl (h.fu i hi k hf)
  · rcases hu with hu | hu
    · exact Nat.lt_of_lt_of_le (h.lt k hu) hk.size
    · exact hu.2
/-- whose turn it is is written down -/
theorem Ivx.turned (h : Ivx N w U db n t G F kbs rem want) (t' : Nat) (ht : t' ≤ 8) : Ivx N (w.setCell ⟨db, 6, none⟩ (.int .i64 t')) U db n t' G F kbs rem want := by
  have hk : Kept (fun k => k = db) w (w.setCell ⟨db, 6, none⟩ (.int .i64 t')) := (Kept.refl _ _).set _ _ (fun _ => rfl)
  obtain ⟨shv, cvv, h1, h2, h3⟩ := h.dp.mem
  refine ⟨⟨⟨shv, cvv, by simpa using h1.set 6 (.int .i64 t'), Rw.kept h2 hk (fun k e e' => by subst e'; exact Rw.ne h2 h1 (by decide) e), h3⟩, h.dp.emp.set 6 (by decide) _, h.dp.db, fun k hg => by rw [World.size_setCell]; exact h.dp.lt k hg, h.dp.n8, ht⟩, fun i hi => (h.cw i hi).kept hk (fun k hf e => by subst e; exact h.fg i hi _ hf h.dp.db), h.fg, h.ff, h.gu, h.fu, fun k hu => by rw [World.size_setCell]; exact h.lt k hu⟩
end Go.Proofs.YthpmcilljbmoiaaGreatDoor
