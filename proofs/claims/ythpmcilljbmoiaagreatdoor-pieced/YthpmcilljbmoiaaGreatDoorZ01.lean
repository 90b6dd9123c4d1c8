import Derived.Test.YthpmcilljbmoiaaGreatDoorZBlk
import Derived.Deep.AppendSrc
import Derived.Laws.OwnMore
import Derived.Laws.IdiomStrings
import Derived.Laws.BytesArg
import Derived.Test.YthpmcilljbmoiaaGreatDoorProg
import Derived.WalkKit
import Derived.WalkSmall
import Derived.WalkLawsBesides
import Derived.OwnWalk
namespace Go.Proofs.YthpmcilljbmoiaaGreatDoor
open Go.RowKit

/-- of the blocks that were there only those in S may have turned -/
structure Kept (S : Nat → Prop) (w w' : World) : Prop where
  os : w'.os = w.os
  tape : w'.tape = w.tape
  output : w'.output = w.output
  size : w.heap.size ≤ w'.heap.size
  block : ∀ k, k < w.heap.size → ¬ S k → w'.heap[k]? = w.heap[k]?

theorem Kept.refl (S : Nat → Prop) (w : World) : Kept S w w := ⟨rfl, rfl, rfl, Nat.le_refl _, fun _ _ _ => rfl⟩
theorem Kept.trans {S : Nat → Prop} {a b c : World} (h : Kept S a b) (k : Kept S b c) : Kept S a c :=
  ⟨k.os.trans h.os, k.tape.trans h.tape, k.output.trans h.output, Nat.le_trans h.size k.size, fun i hi hn => (k.block i (by have := h.size; omega) hn).trans (h.block i hi hn)⟩
/-- two steps, the second over blocks of which the old ones are in S -/
theorem Kept.next {S T : Nat → Prop} {a b c : World} (h : Kept S a b) (k : Kept T b c) (hT : ∀ i, i < a.heap.size → T i → S i) : Kept S a c :=
  ⟨k.os.trans h.os, k.tape.trans h.tape, k.output.trans h.output, Nat.le_trans h.size k.size, fun i hi hn => (k.block i (by have := h.size; omega) (fun t => hn (hT i hi t))).trans (h.block i hi hn)⟩
theorem Kept.mono {S T : Nat → Prop} {w w' : World} (h : Kept S w w') (hT : ∀ i, i < w.heap.size → S i → T i) : Kept T w w' :=
  ⟨h.os, h.tape, h.output, h.size, fun k hk hn => h.block k hk (fun s => hn (hT k hk s))⟩
theorem Kept.drew {S : Nat → Prop} {a w : World} (h : Kept S a w) : Kept S a w.drew := ⟨h.os, h.tape, h.output, h.size, h.block⟩
theorem Kept.drewN {S : Nat → Prop} {a w : World} (h : Kept S a w) (n : Nat) : Kept S a (w.drewN n) := ⟨h.os, h.tape, h.output, h.size, h.block⟩
theorem Kept.alloc {S : Nat → Prop} {a w : World} (h : Kept S a w) (o : Obj) : Kept S a (w.alloc o) :=
  ⟨h.os, h.tape, h.output, by have := h.size; simp; omega, fun k hk hn => by rw [Below.heap_alloc w o k (by have := h.size; omega)]; exact h.block k hk hn⟩
theorem Kept.set {S : Nat → Prop} {a w : World} (h : Kept S a w) (p : Addr) (v : Value) (hp : p.block < a.heap.size → S p.block) : Kept S a (w.setCell p v) :=
  ⟨h.os, h.tape, h.output, by rw [World.size_setCell]; exact h.size, fun k hk hn => by
    by_cases hkp : k = p.block
    · subst hkp; exact absurd (hp hk) hn
    · rw [Below.heap_setCell w p v k hkp]; exact h.block k hk hn⟩
theorem Kept.row {S : Nat → Prop} {a w : World} (h : Kept S a w) (g : Nat) (cs : Array Value) (hp : g < a.heap.size → S g) : Kept S a (w.setRow g cs) :=
  ⟨h.os, h.tape, h.output, by rw [setRow_size]; exact h.size, fun k hk hn => by
    by_cases hkp : k = g
    · subst hkp; exact absurd (hp hk) hn
    · rw [setRow_other w g k cs hkp]; exact h.block k hk hn⟩
theorem Kept.below {S : Nat → Prop} {a w w' : World} (h : Kept S a w) (k : Below w.heap.size w w') : Kept S a w' :=
  ⟨k.os.trans h.os, k.tape.trans h.tape, k.output.trans h.output, Nat.le_trans h.size k.size, fun i hi hn => (k.block i (by have := h.size; omega)).trans (h.block i hi hn)⟩
theorem Kept.ofBelow {S : Nat → Prop} {w w' : World} (k : Below w.heap.size w w') : Kept S w w' := (Kept.refl S w).below k
theorem Kept.toBelow {S : Nat → Prop} {B : Nat} {w w' : World} (h : Kept S w w') (hS : ∀ k, k < B → ¬ S k) (hB : B ≤ w.heap.size) : Below B w w' :=
  ⟨h.os, h.tape, h.output, h.size, fun k hk => h.block k (by omega) (hS k hk)⟩
theorem Kept.none {w w' : World} (h : Kept (fun _ => False) w w') : Below w.heap.size w w' := h.toBelow (fun _ _ h => h) (Nat.le_refl _)
theorem Blk.kept {S : Nat → Prop} {w w' : World} {b : Nat} {t : TypeId} {cs : Array Value} (h : Blk w b t cs) (hk : Kept S w w') (hb : ¬ S b) : Blk w' b t cs := by
  have := h.lt
  unfold Blk at h ⊢
  rw [hk.block b this hb]; exact h
theorem Blk.ne {w : World} {b b' : Nat} {t t' : TypeId} {cs cs' : Array Value} (h : Blk w b t cs) (h' : Blk w b' t' cs') (ht : t ≠ t') : b ≠ b' := by
  intro e; subst e
  unfold Blk at h h'
  rw [h] at h'
  injection h' with h'
  injection h' with h1 h2 h3
  exact ht h2

/-- v is a slice of n elements of sz cells each, whose cells are xs, in a block of element type e that may be written -/
def Rw (w : World) (e : TypeId) (sz : Nat) (v : Value) (n : Nat) (xs : List Value) : Prop :=
  (v = .slice none 0 0 ∧ n = 0 ∧ xs = []) ∨
  ∃ b off cap cur, v = .slice (some ⟨b, off, none⟩) n cap ∧ Blk w b e cur ∧ n ≤ cap ∧ cap ≤ maxLen ∧ off + cap * sz ≤ cur.size ∧ xs.length = n * sz ∧ ∀ j, j < n * sz → cur[off + j]? = xs[j]?

theorem Rw.nil (w : World) (e : TypeId) (sz : Nat) : Rw w e sz (.slice none 0 0) 0 [] := .inl ⟨rfl, rfl, rfl⟩
theorem Rw.len {w : World} {e : TypeId} {sz : Nat} {v : Value} {n : Nat} {xs : List Value} (h : Rw w e sz v n xs) : xs.length = n * sz := by
  obtain ⟨_, rfl, rfl⟩ | ⟨b, off, cap, cur, rfl, hb, h1, h2, h3, h4, h5⟩ := h
  · simp
  · exact h4
theorem Rw.lt {w : World} {e : TypeId} {sz : Nat} {v : Value} {n : Nat} {xs : List Value} (h : Rw w e sz v n xs) {k : Nat} (hk : v.ownBlock = some k) : k < w.heap.size := by
  obtain ⟨rfl, rfl, rfl⟩ | ⟨b, off, cap, cur, rfl, hb, h1, h2, h3, h4, h5⟩ := h
  · simp [Value.ownBlock] at hk
  · simp [Value.ownBlock] at hk; subst hk; exact hb.lt
theorem Rw.kept {S : Nat → Prop} {w w' : World} {e : TypeId} {sz : Nat} {v : Value} {n : Nat} {xs : List Value} (h : Rw w e sz v n xs) (hk : Kept S w w') (hS : ∀ k, v.ownBlock = some k → ¬ S k) : Rw w' e sz v n xs := by
  obtain h | ⟨b, off, cap, cur, rfl, hb, h1⟩ := h
  · exact .inl h
  · exact .inr ⟨b, off, cap, cur, rfl, hb.kept hk (hS b rfl), h1⟩
theorem Rw.below {w w' : World} {e : TypeId} {sz : Nat} {v : Value} {n : Nat} {xs : List Value} (h : Rw w e sz v n xs) (hk : Below w.heap.size w w') : Rw w' e sz v n xs :=
  h.kept (Kept.ofBelow (S := fun _ => False) hk) (fun _ _ h => h)
/-- a slice of a block of another type lies elsewhere -/
theorem Rw.ne {w : World} {e : TypeId} {sz : Nat} {v : Value} {n : Nat} {xs : List Value} (h : Rw w e sz v n xs) {b : Nat} {t : TypeId} {cs : Array Value} (hb : Blk w b t cs) (ht : e ≠ t) : v.ownBlock ≠ some b := by
  obtain ⟨rfl, rfl, rfl⟩ | ⟨b', off, cap, cur, rfl, hb', _⟩ := h
  · simp [Value.ownBlock]
  · simp only [Value.ownBlock, ne_eq, Option.some.injEq]
    exact hb'.ne hb ht
theorem Rw.ne2 {w : World} {e e' : TypeId} {sz sz' : Nat} {v v' : Value} {n n' : Nat} {xs xs' : List Value} (h : Rw w e sz v n xs) (h' : Rw w e' sz' v' n' xs') (ht : e ≠ e') {k : Nat} (hk : v.ownBlock = some k) : v'.ownBlock ≠ some k := by
  obtain ⟨rfl, rfl, rfl⟩ | ⟨b, off, cap, cur, rfl, hb, _⟩ := h
  · simp [Value.ownBlock] at hk
  · simp [Value.ownBlock] at hk; subst hk
    exact h'.ne hb (Ne.symm ht)
/-- the cells as the model reads them -/
theorem Rw.first {P : Program} {w : World} {e : TypeId} {sz : Nat} {v : Value} {n : Nat} {xs : List Value} (h : Rw w e sz v n xs) : (Builtin.firstCells sz n v).run P w = .ok xs.toArray w := by
  obtain ⟨rfl, rfl, rfl⟩ | ⟨b, off, cap, cur, rfl, hb, h1, h2, h3, h4, h5⟩ := h
  · exact run_firstCells_none w sz 0 0 0
  · refine run_firstCells_some w sz n _ n cap xs h4 (fun j u hj => ?_)
    have hj' : j < n * sz := by rw [← h4]; exact (List.getElem?_eq_some_iff.1 hj).1
    rw [Addr.add_lit, hb.cell, h5 j hj', hj]
theorem Rw.drew {w : World} {e : TypeId} {sz : Nat} {v : Value} {n : Nat} {xs : List Value} (h : Rw w e sz v n xs) : Rw w.drew e sz v n xs := h
theorem Rw.drewN {w : World} {e : TypeId} {sz : Nat} {v : Value} {n : Nat} {xs : List Value} (h : Rw w e sz v n xs) (k : Nat) : Rw (w.drewN k) e sz v n xs := h

theorem setCells_blk {b : Nat} {t : TypeId} : ∀ (vs : List Value) (o : Nat) (w : World) (cs : Array Value), Blk w b t cs → o + vs.length ≤ cs.size →
    ∃ cs', Blk (w.setCells b o vs) b t cs' ∧ cs'.size = cs.size ∧ (∀ j, j < o ∨ o + vs.length ≤ j → cs'[j]? = cs[j]?) ∧ (∀ j, j < vs.length → cs'[o + j]? = vs[j]?) ∧ Only b w (w.setCells b o vs)
  | [], o, w, cs, h, _ => ⟨cs, h, rfl, fun _ _ => rfl, fun j hj => by simp at hj, Only.refl b w⟩
  | v :: vs, o, w, cs, h, hl => by
    simp only [List.length_cons] at hl
    obtain ⟨cs', h1, h2, h3, h4, h5⟩ := setCells_blk vs (o + 1) (w.setCell ⟨b, o, none⟩ v) (cs.setIfInBounds o v) (h.set o v) (by simp; omega)
    refine ⟨cs', h1, by simpa using h2, fun j hj => ?_, fun j hj => ?_, Only.trans ((Only.refl b w).set o v) h5⟩
    · rw [h3 j (by simp only [List.length_cons] at hj; omega), Array.getElem?_setIfInBounds]
      simp only [List.length_cons] at hj
      rw [if_neg (by omega)]
    · cases j with
      | zero =>
        rw [Nat.add_zero, h3 o (by omega), Array.getElem?_setIfInBounds]
        simp
        omega
      | succ j =>
        simp only [List.length_cons] at hj
        have := h4 j (by omega)
        rw [show o + (j + 1) = o + 1 + j by omega, this]
        simp
theorem Only.kept {b : Nat} {w w' : World} (h : Only b w w') : Kept (fun k => k = b) w w' := ⟨h.os, h.tape, h.output, Nat.le_of_eq h.size.symm, fun k _ hn => h.block k hn⟩

/-- append, of whatever is appended, to a slice that may be written -/
theorem run_append_rw {P : Program} (w : World) (t tx ty e : TypeId) (i : TypeInfo) (z : Value) (sz : Nat) (ht : P.underlying t = some (.slice e)) (hi : P.info? e = some i) (hz : i.zero = some z) (hsz : i.size = sz) (hzs : z.cells.size = sz)
    (hby : i.bytes ≤ 64) {v : Value} {n : Nat} {xs : List Value} (h : Rw w e sz v n xs) {x : Value} {m : Nat} {news : List Value} (hs : Src P sz tx x m news w) (hb : n + m ≤ 1000000) :
    ∃ v' w', (Builtin.append_ #[t, tx] ty #[v, x]).run P w = .ok v' w' ∧ Rw w' e sz v' (n + m) (xs ++ news) ∧ Kept (fun k => v.ownBlock = some k) w w' ∧ (v'.ownBlock = v.ownBlock ∨ ∃ k, w.heap.size ≤ k ∧ v'.ownBlock = some k) := by
  subst hsz
  have hlen := h.len
  have grow : ∀ base cap, v = .slice base n cap → cap < n + m →
      ∃ v' w', (Builtin.append_ #[t, tx] ty #[v, x]).run P w = .ok v' w' ∧ Rw w' e i.size v' (n + m) (xs ++ news) ∧ Kept (fun k => v.ownBlock = some k) w w' ∧ (v'.ownBlock = v.ownBlock ∨ ∃ k, w.heap.size ≤ k ∧ v'.ownBlock = some k) := by
    intro base cap hv hc
    subst hv
    have hge := grownCap_ge w (n + m) cap e
    have hcm := grownCap_le_maxLen w (n + m) cap e (by unfold maxLen; omega)
    refine ⟨_, _, run_append_grow_src (P := P) w t tx ty e i z ht hi hz base n cap xs h.drew.first x m news hs hc (by omega) (growslice_fits (by omega) (Nat.le_trans (Nat.mul_le_mul hb hby) (by decide))), ?_, ?_, ?_⟩
    · refine .inr ⟨w.heap.size, 0, _, _, rfl, Blk.new w.drew e _, hge, hcm, ?_, ?_, ?_⟩
      · simp only [Array.size_append, List.size_toArray, size_zeroCells, hzs, List.length_append, hlen, hs.newsLen, ← Nat.add_mul]
        rw [Nat.zero_add]
        refine Nat.mul_le_mul_right _ ?_
        omega
      · rw [List.length_append, hlen, hs.newsLen, Nat.add_mul]
      · intro j hj
        rw [Nat.zero_add, Array.getElem?_append, if_pos (by simp only [List.size_toArray, List.length_append, hlen, hs.newsLen, ← Nat.add_mul]; exact hj)]
        simp
    · exact ((Kept.refl _ w).drew).alloc _
    · exact .inr ⟨w.heap.size, Nat.le_refl _, rfl⟩
  obtain ⟨rfl, rfl, rfl⟩ | ⟨b, off, cap, cur, rfl, hb', h1, h2, h3, h4, h5⟩ := h
  · by_cases hm : m = 0
    · subst hm
      have hn : news = [] := List.eq_nil_of_length_eq_zero (by rw [hs.newsLen]; simp)
      subst hn
      refine ⟨.slice none 0 0, w, ?_, .inl ⟨rfl, rfl, rfl⟩, Kept.refl _ _, .inl rfl⟩
      have h1 := hs.len w
      have h2 := hs.cells
      rcases hs.kind with ⟨e', hk⟩ | hk <;> simp [Builtin.append_, run_underlying ht, run_underlying hk, sizeOf, typeInfo, hi, h1, h2]
    · exact grow none 0 rfl (by omega)
  · by_cases hroom : n + m ≤ cap
    · have hle : off + n * i.size + news.length ≤ cur.size := by
        rw [hs.newsLen, Nat.add_assoc, ← Nat.add_mul]
        exact Nat.le_trans (Nat.add_le_add_left (Nat.mul_le_mul_right _ hroom) _) h3
      have hr := run_append_room_src (P := P) w t tx ty e i ht hi b off n cap x m news hs hroom (fun j hj => by
        rw [hb'.cell, Array.getElem?_eq_getElem (by omega)]; rfl) (fun j hj => hb'.frozen _)
      obtain ⟨cs', q1, q2, q3, q4, q5⟩ := setCells_blk news (off + n * i.size) w cur hb' hle
      refine ⟨_, _, hr, .inr ⟨b, off, cap, cs', rfl, q1, hroom, h2, by omega, by rw [List.length_append, h4, hs.newsLen, Nat.add_mul], fun j hj => ?_⟩, q5.kept.mono (fun k _ hk => by rw [hk]; rfl), .inl rfl⟩
      rw [List.getElem?_append]
      split
      · rename_i hlt
        rw [q3 (off + j) (by omega)]
        exact h5 j (by omega)
      · rename_i hge
        have hjn : j - xs.length < news.length := by
          rw [hs.newsLen]
          rw [Nat.add_mul] at hj
          omega
        have := q4 (j - xs.length) hjn
        rw [← this]
        congr 1
        omega
    · exact grow _ cap rfl (by omega)
end Go.Proofs.YthpmcilljbmoiaaGreatDoor
namespace Go.Proofs.YthpmcilljbmoiaaGreatDoor
open Go.RowKit

/-- v's bytes are s -/
def Bs (w : World) (e : TypeId) (v : Value) (s : ByteArray) : Prop := Rw w e 1 v s.size (byteCells s)

theorem byteCells_app (s t : ByteArray) : byteCells (s ++ t) = byteCells s ++ byteCells t := by
  unfold byteCells
  rw [← List.map_append]
  congr 1
theorem byteCells_get (s : ByteArray) (j : Nat) (hj : j < s.size) : (byteCells s)[j]? = some (.int .u8 (s.data.toList.getD j 0).toNat) := by
  have hj' : j < s.data.toList.length := by simpa using hj
  unfold byteCells
  rw [List.getElem?_map, List.getD_eq_getElem?_getD, List.getElem?_eq_getElem hj']
  rfl
theorem extract_list (s : ByteArray) (l h : Nat) : (s.extract l h).data.toList = (s.data.toList.drop l).take (h - l) := by
  rw [ByteArray.data_extract, Array.toList_extract, List.extract_eq_take_drop]
theorem byteCells_extract (s : ByteArray) (l h : Nat) : byteCells (s.extract l h) = ((byteCells s).drop l).take (h - l) := by
  unfold byteCells
  rw [extract_list, List.map_take, List.map_drop]
theorem Bs.nil (w : World) (e : TypeId) : Bs w e (.slice none 0 0) ⟨#[]⟩ := Rw.nil w e 1
theorem Bs.shape {w : World} {e : TypeId} {v : Value} {s : ByteArray} (h : Bs w e v s) : ∃ a c, v = .slice a s.size c ∧ s.size ≤ c := by
  unfold Bs at h
  obtain ⟨rfl, h2, h3⟩ | ⟨b, off, cap, cur, rfl, _, h4, _⟩ := h
  · exact ⟨none, 0, by rw [h2], by omega⟩
  · exact ⟨_, _, rfl, h4⟩
theorem Bs.shape0 {w : World} {e : TypeId} {v : Value} (h : Bs w e v ⟨#[]⟩) : ∃ a c, v = .slice a 0 c := by
  obtain ⟨a, c, h, _⟩ := h.shape
  exact ⟨a, c, h⟩
theorem Bs.kept {S : Nat → Prop} {w w' : World} {e : TypeId} {v : Value} {s : ByteArray} (h : Bs w e v s) (hk : Kept S w w') (hS : ∀ k, v.ownBlock = some k → ¬ S k) : Bs w' e v s := Rw.kept h hk hS
theorem Bs.below {w w' : World} {e : TypeId} {v : Value} {s : ByteArray} (h : Bs w e v s) (hk : Below w.heap.size w w') : Bs w' e v s := Rw.below h hk
/-- the cells of a slice, as what is appended -/
theorem Rw.src {P : Program} {w : World} {e tx : TypeId} {sz : Nat} {v : Value} {n : Nat} {xs : List Value} (hk : P.underlying tx = some (.slice e)) (h : Rw w e sz v n xs) (h1 : ∀ u ∈ xs, u.oneCell' = true) : Src P sz tx v n xs w :=
  ⟨.inl ⟨e, hk⟩, fun _ => by
    obtain ⟨rfl, rfl, rfl⟩ | ⟨b, off, cap, cur, rfl, _⟩ := h <;> rfl, h.first, h.drew.first, h.len, h1⟩
theorem byteCells_one (s : ByteArray) : ∀ u ∈ byteCells s, u.oneCell' = true := fun u hu => by
  obtain ⟨_, _, rfl⟩ := List.mem_map.1 hu
  rfl
theorem Bs.src {P : Program} {w : World} {e tx : TypeId} {v : Value} {s : ByteArray} (hk : P.underlying tx = some (.slice e)) (h : Bs w e v s) : Src P 1 tx v s.size (byteCells s) w := Rw.src hk h (byteCells_one s)

/-- what an append to bytes comes to -/
def Apped (w : World) (e : TypeId) (v : Value) (s : ByteArray) (v' : Value) (w' : World) : Prop :=
  Bs w' e v' s ∧ Kept (fun k => v.ownBlock = some k) w w' ∧ (v'.ownBlock = v.ownBlock ∨ ∃ k, w.heap.size ≤ k ∧ v'.ownBlock = some k)
theorem run_append_bs {P : Program} (w : World) (t tx ty e : TypeId) (ht : P.underlying t = some (.slice e)) (hi : (P.info? e).map (fun i => (i.zero, i.size, i.bytes)) = some (some (.int .u8 0), 1, 1))
    {v : Value} {s : ByteArray} (h : Bs w e v s) {x : Value} {u : ByteArray} (hs : Src P 1 tx x u.size (byteCells u) w) (hb : s.size + u.size ≤ 1000000) :
    ∃ v' w', (Builtin.append_ #[t, tx] ty #[v, x]).run P w = .ok v' w' ∧ Apped w e v (s ++ u) v' w' := by
  obtain ⟨i, hi, hz0, hz1, hz2⟩ := info_parts hi
  obtain ⟨v', w', h1, h2, h3, h4⟩ := run_append_rw w t tx ty e i (.int .u8 0) 1 ht hi hz0 hz1 rfl (by omega) h hs hb
  refine ⟨v', w', h1, ?_, h3, h4⟩
  unfold Bs
  rw [byteCells_app, ByteArray.size_append]
  exact h2
/-- a piece of a slice -/
theorem Rw.cut {w : World} {e : TypeId} {sz : Nat} {a : Option Addr} {n cap : Nat} {xs : List Value} (h : Rw w e sz (.slice a n cap) n xs) (l k m : Nat) (hl : l ≤ k) (hk : k ≤ n) (hm : k ≤ m) (hmc : m ≤ cap) :
    Rw w e sz (sliced a l k m sz) (k - l) ((xs.drop (l * sz)).take ((k - l) * sz)) ∧ ((sliced a l k m sz).ownBlock = (Value.slice a n cap).ownBlock) := by
  obtain ⟨h1, rfl, rfl⟩ | ⟨b, off, cap', cur, h1, hb, h2, h3, h4, h5, h6⟩ := h
  · injection h1 with ha hb hc
    subst ha; subst hc
    have : k = 0 := by omega
    subst this
    have : l = 0 := by omega
    subst this
    have : m = 0 := by omega
    subst this
    exact ⟨.inl ⟨rfl, rfl, by simp⟩, rfl⟩
  · injection h1 with ha hb' hc
    subst ha; subst hc
    have hlen : ((xs.drop (l * sz)).take ((k - l) * sz)).length = (k - l) * sz := by
      rw [List.length_take, List.length_drop, h5, ← Nat.sub_mul]
      exact Nat.min_eq_left (Nat.mul_le_mul_right _ (by omega))
    unfold sliced
    by_cases hml : m = l
    · rw [if_pos hml]
      refine ⟨.inr ⟨b, off, m - l, cur, rfl, hb, by omega, by omega, Nat.le_trans (Nat.add_le_add_left (Nat.mul_le_mul_right _ (by omega)) _) h4, hlen, fun j hj => ?_⟩, rfl⟩
      have : k - l = 0 := by omega
      rw [this] at hj
      simp at hj
    · rw [if_neg hml]
      have e1 : Option.map (fun x => x.add (l * sz)) (some (⟨b, off, none⟩ : Addr)) = some ⟨b, off + l * sz, none⟩ := by rw [Option.map_some, Addr.add_lit]
      rw [e1]
      refine ⟨.inr ⟨b, off + l * sz, m - l, cur, rfl, hb, by omega, by omega, ?_, hlen, fun j hj => ?_⟩, rfl⟩
      · rw [Nat.add_assoc, ← Nat.add_mul]
        exact Nat.le_trans (Nat.add_le_add_left (Nat.mul_le_mul_right _ (by omega)) _) h4
      · rw [List.getElem?_take_of_lt hj, List.getElem?_drop, Nat.add_assoc, h6]
        have : l * sz + j < l * sz + (k - l) * sz := by omega
        rw [← Nat.add_mul] at this
        exact Nat.lt_of_lt_of_le this (Nat.mul_le_mul_right _ (by omega))
theorem Bs.cut {w : World} {e : TypeId} {a : Option Addr} {n cap : Nat} {s : ByteArray} (hn : s.size = n) (h : Bs w e (.slice a n cap) s) (l k m : Nat) (hl : l ≤ k) (hk : k ≤ n) (hm : k ≤ m) (hmc : m ≤ cap) :
    Bs w e (sliced a l k m 1) (s.extract l k) ∧ ((sliced a l k m 1).ownBlock = (Value.slice a n cap).ownBlock) := by
  subst hn
  obtain ⟨h1, h2⟩ := Rw.cut h l k m hl hk hm hmc
  refine ⟨?_, h2⟩
  unfold Bs
  rw [byteCells_extract, ByteArray.size_extract]
  simp only [Nat.mul_one] at h1
  rw [Nat.min_eq_left hk]
  exact h1
/-- bytes as a text -/
theorem Bs.str {P : Program} {w : World} {e src dst : TypeId} {v : Value} {s : ByteArray} (hs : P.underlying src = some (.slice e)) (he : P.underlying e = some (.int .u8)) (hd : P.underlying dst = some .string) (h : Bs w e v s) :
    (convert src dst v).run P w = .ok (.string s) w := by
  unfold Bs at h
  obtain ⟨rfl, h2, h3⟩ | ⟨b, off, cap, cur, rfl, hb, h1, h2, h3, h4, h5⟩ := h
  · have : s = ⟨#[]⟩ := by
      apply ByteArray.ext
      apply Array.eq_empty_of_size_eq_zero
      exact h2
    subst this
    rw [run_convert_bytes_string w src dst e none 0 0 hs he hd]
    rfl
  · have := run_convert_bytes_back (P := P) w src dst e ⟨b, off, none⟩ cap s.data.toList hs he hd (fun j hj => by
      have hj' : j < s.size := by simpa using hj
      rw [Addr.add_lit, hb.cell, h5 j (by omega), byteCells_get s j hj', List.getD_eq_getElem?_getD, List.getElem?_eq_getElem hj]
      rfl)
    simpa using this
/-- one byte -/
def b8 (k : Nat) : ByteArray := ⟨#[UInt8.ofNat k]⟩
theorem b8_size (k : Nat) : (b8 k).size = 1 := rfl
theorem Src.ofByte {P : Program} (w : World) {tx e : TypeId} (hk : P.underlying tx = some (.slice e)) (H c : Nat) (z : Int) (k : Nat) (hz : z = (k : Int)) (hk8 : k < 256) (hc : w.cell? ⟨H, 0, none⟩ = some (.int .u8 z)) :
    Src P 1 tx (.slice (some ⟨H, 0, none⟩) 1 c) (b8 k).size (byteCells (b8 k)) w := by
  refine Src.ofSlice w hk ⟨H, 0, none⟩ 1 c (byteCells (b8 k)) rfl (fun j u hj => ?_) (byteCells_one _)
  cases j with
  | zero =>
    rw [Addr.add_lit, Nat.zero_add, hc, hz]
    simp only [byteCells, b8, List.map_cons, List.map_nil, List.getElem?_cons_zero] at hj
    rw [← hj, UInt8.toNat_ofNat_of_lt' hk8]
  | succ j => simp [byteCells, b8] at hj
theorem wpList_append_bs {P : Program} (w : World) {ops : Array Oper} {rest : List Oper} {o : Oper} {a : Act} {Q : Exit → Act → World → Prop}
    (hg : o.guard = none) (s x : Operand) (t tx : TypeId) (hop : o.op = Op.call { callee := Callee.builtin Builtin.append, args := #[s, x], argTypes := #[t, tx] })
    (e : TypeId) (h1 : P.underlying t = some (.slice e)) (h2 : (P.info? e).map (fun i => (i.zero, i.size, i.bytes)) = some (some (.int .u8 0), 1, 1))
    (v : Value) (st : ByteArray) (hs : a.eval s = v) (hv : Bs w e v st) (xv : Value) (u : ByteArray) (hx : a.eval x = xv) (hsrc : Src P 1 tx xv u.size (byteCells u) w) (hb : st.size + u.size ≤ 1000000)
    (hK : ∀ v' w', Apped w e v (st ++ u) v' w' → wpList P ops Q rest (a.put o.dst v') w') :
    wpList P ops Q (o :: rest) a w := by
  refine wpList_plain hg fun K hK' => ?_
  obtain ⟨v', w', hrun, r1⟩ := run_append_bs (P := P) w t tx o.type e h1 h2 hv hsrc hb
  unfold Oper.wp
  simp [execOp, hop, resolve, invoke, builtin, hs, hx, hrun, Result.andThen]
  exact hK' _ _ (hK v' w' r1)
theorem step_append_bs {P : Program} {ops : Array Oper} {o : Oper} {a : Act} {w : World} {K : Act → World → Prop} {Q : Exit → Act → World → Prop} {E : Prop}
    (hg : o.guard = none) (s x : Operand) (t tx : TypeId) (hop : o.op = Op.call { callee := Callee.builtin Builtin.append, args := #[s, x], argTypes := #[t, tx] })
    (e : TypeId) (h1 : P.underlying t = some (.slice e)) (h2 : (P.info? e).map (fun i => (i.zero, i.size, i.bytes)) = some (some (.int .u8 0), 1, 1))
    (v : Value) (st : ByteArray) (hs : a.eval s = v) (hv : Bs w e v st) (xv : Value) (u : ByteArray) (hx : a.eval x = xv) (hsrc : Src P 1 tx xv u.size (byteCells u) w) (hb : st.size + u.size ≤ 1000000)
    (hK : ∀ v' w', Apped w e v (st ++ u) v' w' → K (a.put o.dst v') w') :
    if Region.wanted o (yielded ops a.tmps) = true then Oper.wp P o a w K Q else E := by
  have hw : Region.wanted o (yielded ops a.tmps) = true := by simp [Region.wanted, hg]
  rw [if_pos hw]
  obtain ⟨v', w', hrun, r1⟩ := run_append_bs (P := P) w t tx o.type e h1 h2 hv hsrc hb
  unfold Oper.wp
  simp [execOp, hop, resolve, invoke, builtin, hs, hx, hrun, Result.andThen]
  exact hK v' w' r1
theorem wpList_append_rw {P : Program} (w : World) {ops : Array Oper} {rest : List Oper} {o : Oper} {a : Act} {Q : Exit → Act → World → Prop}
    (hg : o.guard = none) (s x : Operand) (t tx : TypeId) (hop : o.op = Op.call { callee := Callee.builtin Builtin.append, args := #[s, x], argTypes := #[t, tx] })
    (e : TypeId) (z : Value) (sz by_ : Nat) (h1 : P.underlying t = some (.slice e)) (h2 : (P.info? e).map (fun i => (i.zero, i.size, i.bytes)) = some (some z, sz, by_)) (hzs : z.cells.size = sz) (hby : by_ ≤ 64)
    (v : Value) (n : Nat) (xs : List Value) (hs : a.eval s = v) (hv : Rw w e sz v n xs) (xv : Value) (m : Nat) (news : List Value) (hx : a.eval x = xv) (hsrc : Src P sz tx xv m news w) (hb : n + m ≤ 1000000)
    (hK : ∀ v' w', Rw w' e sz v' (n + m) (xs ++ news) → Kept (fun k => v.ownBlock = some k) w w' → (v'.ownBlock = v.ownBlock ∨ ∃ k, w.heap.size ≤ k ∧ v'.ownBlock = some k) → wpList P ops Q rest (a.put o.dst v') w') :
    wpList P ops Q (o :: rest) a w := by
  refine wpList_plain hg fun K hK' => ?_
  obtain ⟨i, hi, hz0, hz1, hz2⟩ := info_parts h2
  obtain ⟨v', w', hrun, r1, r2, r3⟩ := run_append_rw (P := P) w t tx o.type e i z sz h1 hi hz0 hz1 hzs (by omega) hv hsrc hb
  unfold Oper.wp
  simp [execOp, hop, resolve, invoke, builtin, hs, hx, hrun, Result.andThen]
  exact hK' _ _ (hK v' w' r1 r2 r3)
/-- a slice's home is its old one or a new one -/
def Home (w : World) (v v' : Value) : Prop := v'.ownBlock = v.ownBlock ∨ ∃ k, w.heap.size ≤ k ∧ v'.ownBlock = some k
theorem Home.refl (w : World) (v : Value) : Home w v v := .inl rfl
theorem Home.trans {w w' : World} {v v' v'' : Value} (h : Home w v v') (hs : w.heap.size ≤ w'.heap.size) (k : Home w' v' v'') : Home w v v'' := by
  rcases k with k | ⟨k, h1, h2⟩
  · rcases h with h | ⟨j, h1, h2⟩
    · exact .inl (k.trans h)
    · exact .inr ⟨j, h1, k.trans h2⟩
  · exact .inr ⟨k, by omega, h2⟩
theorem Home.old {w : World} {v v' : Value} (h : Home w v v') : ∀ i, i < w.heap.size → v'.ownBlock = some i → v.ownBlock = some i := by
  intro i hi he
  rcases h with h | ⟨j, h1, h2⟩
  · rw [← h]; exact he
  · rw [h2] at he
    injection he with he
    omega
/-- a byte that was just laid is appended -/
theorem wpList_append_byte {P : Program} (w : World) {ops : Array Oper} {rest : List Oper} {o : Oper} {a : Act} {Q : Exit → Act → World → Prop} (z : Int)
    (hg : o.guard = none) (s x : Operand) (t : TypeId) (hop : o.op = Op.call { callee := Callee.builtin Builtin.append, args := #[s, x], argTypes := #[t, t] })
    (e : TypeId) (h1 : P.underlying t = some (.slice e)) (h2 : (P.info? e).map (fun i => (i.zero, i.size, i.bytes)) = some (some (.int .u8 0), 1, 1))
    (v : Value) (st : ByteArray) (hs : a.eval s = v) (hv : Bs w e v st) (hx : a.eval x = .slice (some ⟨w.heap.size, 0, none⟩) 1 1) (k : Nat) (hz : z = (k : Int)) (hk8 : k < 256) (hb : st.size ≤ 100000)
    (hK : ∀ v' w', Bs w' e v' (st ++ b8 k) → Kept (fun k => v.ownBlock = some k) w w' → Home w v v' → wpList P ops Q rest (a.put o.dst v') w') :
    wpList P ops Q (o :: rest) a (w.alloc (.cells #[.int .u8 z] e)) := by
  have hA := Below.alloc (Below.refl w.heap.size w) (Nat.le_refl _) (.cells #[.int .u8 z] e)
  refine wpList_append_bs _ hg s x t t hop e h1 h2 v st hs (hv.below hA) _ (b8 k) hx (Src.ofByte _ h1 _ _ z k hz hk8 ?_) ?_ ?_
  · rw [(Blk.new w e #[.int .u8 z]).cell]; rfl
  · have : (b8 k).size = 1 := rfl
    omega
  · intro v' w' ⟨q1, q2, q3⟩
    refine hK v' w' q1 ((Kept.ofBelow hA).next q2 (fun _ _ h => h)) ?_
    rcases q3 with q3 | ⟨k, q4, q5⟩
    · exact .inl q3
    · exact .inr ⟨k, by have := hA.size; omega, q5⟩
theorem Apped.below {w w' : World} {e : TypeId} {v v' : Value} {s : ByteArray} (h : Apped w e v s v' w') {B : Nat} {a : World} (ha : Below B a w) (hB : B ≤ w.heap.size) (hv : ∀ k, v.ownBlock = some k → B ≤ k) : Below B a w' :=
  ha.trans (h.2.1.toBelow (fun k hk e => by have := hv k e; omega) hB)
end Go.Proofs.YthpmcilljbmoiaaGreatDoor
namespace Go.Proofs.YthpmcilljbmoiaaGreatDoor
open Go.RowKit

theorem infoU8 : (Tryz.prog.info? 5).map (fun i => (i.zero, i.size, i.bytes)) = some (some (.int .u8 0), 1, 1) := by kernel_rfl
set_option maxRecDepth 100000 in
set_option maxHeartbeats 400000 in
theorem append1_any (v : Value) (s : ByteArray) (n : Nat) (w : World) (hn : n < 256) (hs : s.size ≤ 50000) (hv : Bs w 5 v s) :
    Calls Tryz.prog 112 #[v, .int .i64 n, .int .i64 1] w
      fun r w' => ∃ v', r = .returned v' ∧ Bs w' 5 v' (s ++ b8 (n)) ∧ Kept (fun k => v.ownBlock = some k) w w' ∧ Home w v v' := by
  go_enter Tryz.func112, Tryz.ntmps112
  go_wp2
  refine wp_loop_rounds 2 ?_
  rw [rounds_succ]
  go_wp2_with (at_builtin; refine wpList_append_byte w _ rfl (.tmp 15) (.tmp 20) 126 rfl 5 Tryz.underlying126 infoU8 v _ rfl hv rfl (n) ?_ ?_ ?_ ?_)
  · omega
  · omega
  · omega
  intro v1 w1 b1 k1 h1
  go_wp2
  rw [rounds_succ]
  go_wp2
  go_ret
  exact ⟨_, rfl, b1, k1, h1⟩
set_option maxRecDepth 100000 in
set_option maxHeartbeats 400000 in
theorem append2_any (v : Value) (s : ByteArray) (n : Nat) (w : World) (hn : n < 65536) (hs : s.size ≤ 50000) (hv : Bs w 5 v s) :
    Calls Tryz.prog 112 #[v, .int .i64 n, .int .i64 2] w
      fun r w' => ∃ v', r = .returned v' ∧ Bs w' 5 v' (s ++ b8 (n / 256) ++ b8 (n % 256)) ∧ Kept (fun k => v.ownBlock = some k) w w' ∧ Home w v v' := by
  go_enter Tryz.func112, Tryz.ntmps112
  go_wp2
  refine wp_loop_rounds 3 ?_
  rw [rounds_succ]
  go_wp2_with (at_builtin; refine wpList_append_byte w _ rfl (.tmp 15) (.tmp 20) 126 rfl 5 Tryz.underlying126 infoU8 v _ rfl hv rfl (n / 256) ?_ ?_ ?_ ?_)
  · omega
  · omega
  · omega
  intro v1 w1 b1 k1 h1
  go_wp2
  rw [rounds_succ]
  go_wp2_with (at_builtin; refine wpList_append_byte w1 _ rfl (.tmp 15) (.tmp 20) 126 rfl 5 Tryz.underlying126 infoU8 v1 _ rfl b1 rfl (n % 256) ?_ ?_ ?_ ?_)
  · omega
  · omega
  · rw [ByteArray.size_append, b8_size]; omega
  intro v2 w2 b2 k2 h2
  go_wp2
  rw [rounds_succ]
  go_wp2
  go_ret
  exact ⟨_, rfl, b2, k1.next k2 h1.old, h1.trans k1.size h2⟩
end Go.Proofs.YthpmcilljbmoiaaGreatDoor
