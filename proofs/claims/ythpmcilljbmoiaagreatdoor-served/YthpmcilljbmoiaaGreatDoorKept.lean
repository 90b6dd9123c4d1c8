import Derived.Test.YthpmcilljbmoiaaGreatDoorBlk
import Derived.Deep.AppendSrc
import Derived.Laws.OwnMore
namespace Go.Proofs.YthpmcilljbmoiaaGreatDoor
open Go.RowKit

/-- of the blocks that were there only those in S may have turned -/
structure Kept (S : Nat → Prop) (w w' : World) : Prop where
  os : w'.os = w.os
  tape : w'.tape = w.tape
  output : w'.output = w.output
  size : w.heap.size ≤ w'.heap.size
  block : ∀ k, k < w.heap.size → ¬ S k → w'.heap[k]? = w.heap[k]?

theorem Kept.refl (S : Nat → Prop) (w : World) : Kept S w w := ⟨rfl, rfl, rfl, Nat.le_refl _, fun _ _ _ => rfl⟩
theorem Kept.trans {S : Nat → Prop} {a b c : World} (h : Kept S a b) (k : Kept S b c) : Kept S a c :=
  ⟨k.os.trans h.os, k.tape.trans h.tape, k.output.trans h.output, Nat.le_trans h.size k.size, fun i hi hn => (k.block i (by have := h.size; omega) hn).trans (h.block i hi hn)⟩
/-- two steps, the second over blocks of which the old ones are in S -/
theorem Kept.next {S T : Nat → Prop} {a b c : World} (h : Kept S a b) (k : Kept T b c) (hT : ∀ i, i < a.heap.size → T i → S i) : Kept S a c :=
  ⟨k.os.trans h.os, k.tape.trans h.tape, k.output.trans h.output, Nat.le_trans h.size k.size, fun i hi hn => (k.block i (by have := h.size; omega) (fun t => hn (hT i hi t))).trans (h.block i hi hn)⟩
theorem Kept.mono {S T : Nat → Prop} {w w' : World} (h : Kept S w w') (hT : ∀ i, i < w.heap.size → S i → T i) : Kept T w w' :=
  ⟨h.os, h.tape, h.output, h.size, fun k hk hn => h.block k hk (fun s => hn (hT k hk s))⟩
theorem Kept.drew {S : Nat → Prop} {a w : World} (h : Kept S a w) : Kept S a w.drew := ⟨h.os, h.tape, h.output, h.size, h.block⟩
theorem Kept.drewN {S : Nat → Prop} {a w : World} (h : Kept S a w) (n : Nat) : Kept S a (w.drewN n) := ⟨h.os, h.tape, h.output, h.size, h.block⟩
theorem Kept.alloc {S : Nat → Prop} {a w : World} (h : Kept S a w) (o : Obj) : Kept S a (w.alloc o) :=
  ⟨h.os, h.tape, h.output, by have := h.size; simp; omega, fun k hk hn => by rw [Below.heap_alloc w o k (by have := h.size; omega)]; exact h.block k hk hn⟩
theorem Kept.set {S : Nat → Prop} {a w : World} (h : Kept S a w) (p : Addr) (v : Value) (hp : p.block < a.heap.size → S p.block) : Kept S a (w.setCell p v) :=
  ⟨h.os, h.tape, h.output, by rw [World.size_setCell]; exact h.size, fun k hk hn => by
    by_cases hkp : k = p.block
    · subst hkp; exact absurd (hp hk) hn
    · rw [Below.heap_setCell w p v k hkp]; exact h.block k hk hn⟩
theorem Kept.row {S : Nat → Prop} {a w : World} (h : Kept S a w) (g : Nat) (cs : Array Value) (hp : g < a.heap.size → S g) : Kept S a (w.setRow g cs) :=
  ⟨h.os, h.tape, h.output, by rw [setRow_size]; exact h.size, fun k hk hn => by
    by_cases hkp : k = g
    · subst hkp; exact absurd (hp hk) hn
    · rw [setRow_other w g k cs hkp]; exact h.block k hk hn⟩
theorem Kept.below {S : Nat → Prop} {a w w' : World} (h : Kept S a w) (k : Below w.heap.size w w') : Kept S a w' :=
  ⟨k.os.trans h.os, k.tape.trans h.tape, k.output.trans h.output, Nat.le_trans h.size k.size, fun i hi hn => (k.block i (by have := h.size; omega)).trans (h.block i hi hn)⟩
theorem Kept.ofBelow {S : Nat → Prop} {w w' : World} (k : Below w.heap.size w w') : Kept S w w' := (Kept.refl S w).below k
theorem Kept.toBelow {S : Nat → Prop} {B : Nat} {w w' : World} (h : Kept S w w') (hS : ∀ k, k < B → ¬ S k) (hB : B ≤ w.heap.size) : Below B w w' :=
  ⟨h.os, h.tape, h.output, h.size, fun k hk => h.block k (by omega) (hS k hk)⟩
theorem Kept.none {w w' : World} (h : Kept (fun _ => False) w w') : Below w.heap.size w w' := h.toBelow (fun _ _ h => h) (Nat.le_refl _)
theorem Blk.kept {S : Nat → Prop} {w w' : World} {b : Nat} {t : TypeId} {cs : Array Value} (h : Blk w b t cs) (hk : Kept S w w') (hb : ¬ S b) : Blk w' b t cs := by
  have := h.lt
  unfold Blk at h ⊢
  rw [hk.block b this hb]; exact h
theorem Blk.ne {w : World} {b b' : Nat} {t t' : TypeId} {cs cs' : Array Value} (h : Blk w b t cs) (h' : Blk w b' t' cs') (ht : t ≠ t') : b ≠ b' := by
  intro e; subst e
  unfold Blk at h h'
  rw [h] at h'
  injection h' with h'
  injection h' with h1 h2 h3
  exact ht h2

/-- v is a slice of n elements of sz cells each, whose cells are xs, in a block of element type e that may be written -/
def Rw (w : World) (e : TypeId) (sz : Nat) (v : Value) (n : Nat) (xs : List Value) : Prop :=
  (v = .slice none 0 0 ∧ n = 0 ∧ xs = []) ∨
  ∃ b off cap cur, v = .slice (some ⟨b, off, none⟩) n cap ∧ Blk w b e cur ∧ n ≤ cap ∧ cap ≤ maxLen ∧ off + cap * sz ≤ cur.size ∧ xs.length = n * sz ∧ ∀ j, j < n * sz → cur[off + j]? = xs[j]?

theorem Rw.nil (w : World) (e : TypeId) (sz : Nat) : Rw w e sz (.slice none 0 0) 0 [] := .inl ⟨rfl, rfl, rfl⟩
theorem Rw.len {w : World} {e : TypeId} {sz : Nat} {v : Value} {n : Nat} {xs : List Value} (h : Rw w e sz v n xs) : xs.length = n * sz := by
  obtain ⟨_, rfl, rfl⟩ | ⟨b, off, cap, cur, rfl, hb, h1, h2, h3, h4, h5⟩ := h
  · simp
  · exact h4
theorem Rw.lt {w : World} {e : TypeId} {sz : Nat} {v : Value} {n : Nat} {xs : List Value} (h : Rw w e sz v n xs) {k : Nat} (hk : v.ownBlock = some k) : k < w.heap.size := by
  obtain ⟨rfl, rfl, rfl⟩ | ⟨b, off, cap, cur, rfl, hb, h1, h2, h3, h4, h5⟩ := h
  · simp [Value.ownBlock] at hk
  · simp [Value.ownBlock] at hk; subst hk; exact hb.lt
theorem Rw.kept {S : Nat → Prop} {w w' : World} {e : TypeId} {sz : Nat} {v : Value} {n : Nat} {xs : List Value} (h : Rw w e sz v n xs) (hk : Kept S w w') (hS : ∀ k, v.ownBlock = some k → ¬ S k) : Rw w' e sz v n xs := by
  obtain h | ⟨b, off, cap, cur, rfl, hb, h1⟩ := h
  · exact .inl h
  · exact .inr ⟨b, off, cap, cur, rfl, hb.kept hk (hS b rfl), h1⟩
theorem Rw.below {w w' : World} {e : TypeId} {sz : Nat} {v : Value} {n : Nat} {xs : List Value} (h : Rw w e sz v n xs) (hk : Below w.heap.size w w') : Rw w' e sz v n xs :=
  h.kept (Kept.ofBelow (S := fun _ => False) hk) (fun _ _ h => h)
/-- a slice of a block of another type lies elsewhere -/
theorem Rw.ne {w : World} {e : TypeId} {sz : Nat} {v : Value} {n : Nat} {xs : List Value} (h : Rw w e sz v n xs) {b : Nat} {t : TypeId} {cs : Array Value} (hb : Blk w b t cs) (ht : e ≠ t) : v.ownBlock ≠ some b := by
  obtain ⟨rfl, rfl, rfl⟩ | ⟨b', off, cap, cur, rfl, hb', _⟩ := h
  · simp [Value.ownBlock]
  · simp only [Value.ownBlock, ne_eq, Option.some.injEq]
    exact hb'.ne hb ht
theorem Rw.ne2 {w : World} {e e' : TypeId} {sz sz' : Nat} {v v' : Value} {n n' : Nat} {xs xs' : List Value} (h : Rw w e sz v n xs) (h' : Rw w e' sz' v' n' xs') (ht : e ≠ e') {k : Nat} (hk : v.ownBlock = some k) : v'.ownBlock ≠ some k := by
  obtain ⟨rfl, rfl, rfl⟩ | ⟨b, off, cap, cur, rfl, hb, _⟩ := h
  · simp [Value.ownBlock] at hk
  · simp [Value.ownBlock] at hk; subst hk
    exact h'.ne hb (Ne.symm ht)
/-- the cells as the model reads them -/
theorem Rw.first {P : Program} {w : World} {e : TypeId} {sz : Nat} {v : Value} {n : Nat} {xs : List Value} (h : Rw w e sz v n xs) : (Builtin.firstCells sz n v).run P w = .ok xs.toArray w := by
  obtain ⟨rfl, rfl, rfl⟩ | ⟨b, off, cap, cur, rfl, hb, h1, h2, h3, h4, h5⟩ := h
  · exact run_firstCells_none w sz 0 0 0
  · refine run_firstCells_some w sz n _ n cap xs h4 (fun j u hj => ?_)
    have hj' : j < n * sz := by rw [← h4]; exact (List.getElem?_eq_some_iff.1 hj).1
    rw [Addr.add_lit, hb.cell, h5 j hj', hj]
theorem Rw.drew {w : World} {e : TypeId} {sz : Nat} {v : Value} {n : Nat} {xs : List Value} (h : Rw w e sz v n xs) : Rw w.drew e sz v n xs := h
theorem Rw.drewN {w : World} {e : TypeId} {sz : Nat} {v : Value} {n : Nat} {xs : List Value} (h : Rw w e sz v n xs) (k : Nat) : Rw (w.drewN k) e sz v n xs := h

theorem setCells_blk {b : Nat} {t : TypeId} : ∀ (vs : List Value) (o : Nat) (w : World) (cs : Array Value), Blk w b t cs → o + vs.length ≤ cs.size →
    ∃ cs', Blk (w.setCells b o vs) b t cs' ∧ cs'.size = cs.size ∧ (∀ j, j < o ∨ o + vs.length ≤ j → cs'[j]? = cs[j]?) ∧ (∀ j, j < vs.length → cs'[o + j]? = vs[j]?) ∧ Only b w (w.setCells b o vs)
  | [], o, w, cs, h, _ => ⟨cs, h, rfl, fun _ _ => rfl, fun j hj => by simp at hj, Only.refl b w⟩
  | v :: vs, o, w, cs, h, hl => by
    simp only [List.length_cons] at hl
    obtain ⟨cs', h1, h2, h3, h4, h5⟩ := setCells_blk vs (o + 1) (w.setCell ⟨b, o, none⟩ v) (cs.setIfInBounds o v) (h.set o v) (by simp; omega)
    refine ⟨cs', h1, by simpa using h2, fun j hj => ?_, fun j hj => ?_, Only.trans ((Only.refl b w).set o v) h5⟩
    · rw [h3 j (by simp only [List.length_cons] at hj; omega), Array.getElem?_setIfInBounds]
      simp only [List.length_cons] at hj
      rw [if_neg (by omega)]
    · cases j with
      | zero =>
        rw [Nat.add_zero, h3 o (by omega), Array.getElem?_setIfInBounds]
        simp
        omega
      | succ j =>
        simp only [List.length_cons] at hj
        have := h4 j (by omega)
        rw [show o + (j + 1) = o + 1 + j by omega, this]
        simp
theorem Only.kept {b : Nat} {w w' : World} (h : Only b w w') : Kept (fun k => k = b) w w' := ⟨h.os, h.tape, h.output, Nat.le_of_eq h.size.symm, fun k _ hn => h.block k hn⟩

/-- append, of whatever is appended, to a slice that may be written -/
theorem run_append_rw {P : Program} (w : World) (t tx ty e : TypeId) (i : TypeInfo) (z : Value) (sz : Nat) (ht : P.underlying t = some (.slice e)) (hi : P.info? e = some i) (hz : i.zero = some z) (hsz : i.size = sz) (hzs : z.cells.size = sz)
    (hby : i.bytes ≤ 64) {v : Value} {n : Nat} {xs : List Value} (h : Rw w e sz v n xs) {x : Value} {m : Nat} {news : List Value} (hs : Src P sz tx x m news w) (hb : n + m ≤ 1000000) :
    ∃ v' w', (Builtin.append_ #[t, tx] ty #[v, x]).run P w = .ok v' w' ∧ Rw w' e sz v' (n + m) (xs ++ news) ∧ Kept (fun k => v.ownBlock = some k) w w' ∧ (v'.ownBlock = v.ownBlock ∨ ∃ k, w.heap.size ≤ k ∧ v'.ownBlock = some k) := by
  subst hsz
  have hlen := h.len
  have grow : ∀ base cap, v = .slice base n cap → cap < n + m →
      ∃ v' w', (Builtin.append_ #[t, tx] ty #[v, x]).run P w = .ok v' w' ∧ Rw w' e i.size v' (n + m) (xs ++ news) ∧ Kept (fun k => v.ownBlock = some k) w w' ∧ (v'.ownBlock = v.ownBlock ∨ ∃ k, w.heap.size ≤ k ∧ v'.ownBlock = some k) := by
    intro base cap hv hc
    subst hv
    have hge := grownCap_ge w (n + m) cap e
    have hcm := grownCap_le_maxLen w (n + m) cap e (by unfold maxLen; omega)
    refine ⟨_, _, run_append_grow_src (P := P) w t tx ty e i z ht hi hz base n cap xs h.drew.first x m news hs hc (by omega) (growslice_fits (by omega) (Nat.le_trans (Nat.mul_le_mul hb hby) (by decide))), ?_, ?_, ?_⟩
    · refine .inr ⟨w.heap.size, 0, _, _, rfl, Blk.new w.drew e _, hge, hcm, ?_, ?_, ?_⟩
      · simp only [Array.size_append, List.size_toArray, size_zeroCells, hzs, List.length_append, hlen, hs.newsLen, ← Nat.add_mul]
        rw [Nat.zero_add]
        refine Nat.mul_le_mul_right _ ?_
        omega
      · rw [List.length_append, hlen, hs.newsLen, Nat.add_mul]
      · intro j hj
        rw [Nat.zero_add, Array.getElem?_append, if_pos (by simp only [List.size_toArray, List.length_append, hlen, hs.newsLen, ← Nat.add_mul]; exact hj)]
        simp
    · exact ((Kept.refl _ w).drew).alloc _
    · exact .inr ⟨w.heap.size, Nat.le_refl _, rfl⟩
  obtain ⟨rfl, rfl, rfl⟩ | ⟨b, off, cap, cur, rfl, hb', h1, h2, h3, h4, h5⟩ := h
  · by_cases hm : m = 0
    · subst hm
      have hn : news = [] := List.eq_nil_of_length_eq_zero (by rw [hs.newsLen]; simp)
      subst hn
      refine ⟨.slice none 0 0, w, ?_, .inl ⟨rfl, rfl, rfl⟩, Kept.refl _ _, .inl rfl⟩
      have h1 := hs.len w
      have h2 := hs.cells
      rcases hs.kind with ⟨e', hk⟩ | hk <;> simp [Builtin.append_, run_underlying ht, run_underlying hk, sizeOf, typeInfo, hi, h1, h2]
    · exact grow none 0 rfl (by omega)
  · by_cases hroom : n + m ≤ cap
    · have hle : off + n * i.size + news.length ≤ cur.size := by
        rw [hs.newsLen, Nat.add_assoc, ← Nat.add_mul]
        exact Nat.le_trans (Nat.add_le_add_left (Nat.mul_le_mul_right _ hroom) _) h3
      have hr := run_append_room_src (P := P) w t tx ty e i ht hi b off n cap x m news hs hroom (fun j hj => by
        rw [hb'.cell, Array.getElem?_eq_getElem (by omega)]; rfl) (fun j hj => hb'.frozen _)
      obtain ⟨cs', q1, q2, q3, q4, q5⟩ := setCells_blk news (off + n * i.size) w cur hb' hle
      refine ⟨_, _, hr, .inr ⟨b, off, cap, cs', rfl, q1, hroom, h2, by omega, by rw [List.length_append, h4, hs.newsLen, Nat.add_mul], fun j hj => ?_⟩, q5.kept.mono (fun k _ hk => by rw [hk]; rfl), .inl rfl⟩
      rw [List.getElem?_append]
      split
      · rename_i hlt
        rw [q3 (off + j) (by omega)]
        exact h5 j (by omega)
      · rename_i hge
        have hjn : j - xs.length < news.length := by
          rw [hs.newsLen]
          rw [Nat.add_mul] at hj
          omega
        have := q4 (j - xs.length) hjn
        rw [← this]
        congr 1
        omega
    · exact grow _ cap rfl (by omega)
end Go.Proofs.YthpmcilljbmoiaaGreatDoor
