import Derived.Test.YthpmcilljbmoiaaGreatDoorKept
import Derived.Laws.IdiomStrings
import Derived.Laws.BytesArg
namespace Go.Proofs.YthpmcilljbmoiaaGreatDoor
open Go.RowKit

/-- v's bytes are s -/
def Bs (w : World) (e : TypeId) (v : Value) (s : ByteArray) : Prop := Rw w e 1 v s.size (byteCells s)

theorem byteCells_app (s t : ByteArray) : byteCells (s ++ t) = byteCells s ++ byteCells t := by
  unfold byteCells
  rw [← List.map_append]
  congr 1
theorem byteCells_get (s : ByteArray) (j : Nat) (hj : j < s.size) : (byteCells s)[j]? = some (.int .u8 (s.data.toList.getD j 0).toNat) := by
  have hj' : j < s.data.toList.length := by simpa using hj
  unfold byteCells
  rw [List.getElem?_map, List.getD_eq_getElem?_getD, List.getElem?_eq_getElem hj']
  rfl
theorem extract_list (s : ByteArray) (l h : Nat) : (s.extract l h).data.toList = (s.data.toList.drop l).take (h - l) := by
  rw [ByteArray.data_extract, Array.toList_extract, List.extract_eq_take_drop]
theorem byteCells_extract (s : ByteArray) (l h : Nat) : byteCells (s.extract l h) = ((byteCells s).drop l).take (h - l) := by
  unfold byteCells
  rw [extract_list, List.map_take, List.map_drop]
theorem Bs.nil (w : World) (e : TypeId) : Bs w e (.slice none 0 0) ⟨#[]⟩ := Rw.nil w e 1
theorem Bs.shape {w : World} {e : TypeId} {v : Value} {s : ByteArray} (h : Bs w e v s) : ∃ a c, v = .slice a s.size c ∧ s.size ≤ c := by
  unfold Bs at h
  obtain ⟨rfl, h2, h3⟩ | ⟨b, off, cap, cur, rfl, _, h4, _⟩ := h
  · exact ⟨none, 0, by rw [h2], by omega⟩
  · exact ⟨_, _, rfl, h4⟩
theorem Bs.shape0 {w : World} {e : TypeId} {v : Value} (h : Bs w e v ⟨#[]⟩) : ∃ a c, v = .slice a 0 c := by
  obtain ⟨a, c, h, _⟩ := h.shape
  exact ⟨a, c, h⟩
theorem Bs.kept {S : Nat → Prop} {w w' : World} {e : TypeId} {v : Value} {s : ByteArray} (h : Bs w e v s) (hk : Kept S w w') (hS : ∀ k, v.ownBlock = some k → ¬ S k) : Bs w' e v s := Rw.kept h hk hS
theorem Bs.below {w w' : World} {e : TypeId} {v : Value} {s : ByteArray} (h : Bs w e v s) (hk : Below w.heap.size w w') : Bs w' e v s := Rw.below h hk
/-- the cells of a slice, as what is appended -/
theorem Rw.src {P : Program} {w : World} {e tx : TypeId} {sz : Nat} {v : Value} {n : Nat} {xs : List Value} (hk : P.underlying tx = some (.slice e)) (h : Rw w e sz v n xs) (h1 : ∀ u ∈ xs, u.oneCell' = true) : Src P sz tx v n xs w :=
  ⟨.inl ⟨e, hk⟩, fun _ => by
    obtain ⟨rfl, rfl, rfl⟩ | ⟨b, off, cap, cur, rfl, _⟩ := h <;> rfl, h.first, h.drew.first, h.len, h1⟩
theorem byteCells_one (s : ByteArray) : ∀ u ∈ byteCells s, u.oneCell' = true := fun u hu => by
  obtain ⟨_, _, rfl⟩ := List.mem_map.1 hu
  rfl
theorem Bs.src {P : Program} {w : World} {e tx : TypeId} {v : Value} {s : ByteArray} (hk : P.underlying tx = some (.slice e)) (h : Bs w e v s) : Src P 1 tx v s.size (byteCells s) w := Rw.src hk h (byteCells_one s)

/-- what an append to bytes comes to -/
def Apped (w : World) (e : TypeId) (v : Value) (s : ByteArray) (v' : Value) (w' : World) : Prop :=
  Bs w' e v' s ∧ Kept (fun k => v.ownBlock = some k) w w' ∧ (v'.ownBlock = v.ownBlock ∨ ∃ k, w.heap.size ≤ k ∧ v'.ownBlock = some k)
theorem run_append_bs {P : Program} (w : World) (t tx ty e : TypeId) (ht : P.underlying t = some (.slice e)) (hi : (P.info? e).map (fun i => (i.zero, i.size, i.bytes)) = some (some (.int .u8 0), 1, 1))
    {v : Value} {s : ByteArray} (h : Bs w e v s) {x : Value} {u : ByteArray} (hs : Src P 1 tx x u.size (byteCells u) w) (hb : s.size + u.size ≤ 1000000) :
    ∃ v' w', (Builtin.append_ #[t, tx] ty #[v, x]).run P w = .ok v' w' ∧ Apped w e v (s ++ u) v' w' := by
  obtain ⟨i, hi, hz0, hz1, hz2⟩ := info_parts hi
  obtain ⟨v', w', h1, h2, h3, h4⟩ := run_append_rw w t tx ty e i (.int .u8 0) 1 ht hi hz0 hz1 rfl (by omega) h hs hb
  refine ⟨v', w', h1, ?_, h3, h4⟩
  unfold Bs
  rw [byteCells_app, ByteArray.size_append]
  exact h2
/-- a piece of a slice -/
theorem Rw.cut {w : World} {e : TypeId} {sz : Nat} {a : Option Addr} {n cap : Nat} {xs : List Value} (h : Rw w e sz (.slice a n cap) n xs) (l k m : Nat) (hl : l ≤ k) (hk : k ≤ n) (hm : k ≤ m) (hmc : m ≤ cap) :
    Rw w e sz (sliced a l k m sz) (k - l) ((xs.drop (l * sz)).take ((k - l) * sz)) ∧ ((sliced a l k m sz).ownBlock = (Value.slice a n cap).ownBlock) := by
  obtain ⟨h1, rfl, rfl⟩ | ⟨b, off, cap', cur, h1, hb, h2, h3, h4, h5, h6⟩ := h
  · injection h1 with ha hb hc
    subst ha; subst hc
    have : k = 0 := by omega
    subst this
    have : l = 0 := by omega
    subst this
    have : m = 0 := by omega
    subst this
    exact ⟨.inl ⟨rfl, rfl, by simp⟩, rfl⟩
  · injection h1 with ha hb' hc
    subst ha; subst hc
    have hlen : ((xs.drop (l * sz)).take ((k - l) * sz)).length = (k - l) * sz := by
      rw [List.length_take, List.length_drop, h5, ← Nat.sub_mul]
      exact Nat.min_eq_left (Nat.mul_le_mul_right _ (by omega))
    unfold sliced
    by_cases hml : m = l
    · rw [if_pos hml]
      refine ⟨.inr ⟨b, off, m - l, cur, rfl, hb, by omega, by omega, Nat.le_trans (Nat.add_le_add_left (Nat.mul_le_mul_right _ (by omega)) _) h4, hlen, fun j hj => ?_⟩, rfl⟩
      have : k - l = 0 := by omega
      rw [this] at hj
      simp at hj
    · rw [if_neg hml]
      have e1 : Option.map (fun x => x.add (l * sz)) (some (⟨b, off, none⟩ : Addr)) = some ⟨b, off + l * sz, none⟩ := by rw [Option.map_some, Addr.add_lit]
      rw [e1]
      refine ⟨.inr ⟨b, off + l * sz, m - l, cur, rfl, hb, by omega, by omega, ?_, hlen, fun j hj => ?_⟩, rfl⟩
      · rw [Nat.add_assoc, ← Nat.add_mul]
        exact Nat.le_trans (Nat.add_le_add_left (Nat.mul_le_mul_right _ (by omega)) _) h4
      · rw [List.getElem?_take_of_lt hj, List.getElem?_drop, Nat.add_assoc, h6]
        have : l * sz + j < l * sz + (k - l) * sz := by omega
        rw [← Nat.add_mul] at this
        exact Nat.lt_of_lt_of_le this (Nat.mul_le_mul_right _ (by omega))
theorem Bs.cut {w : World} {e : TypeId} {a : Option Addr} {n cap : Nat} {s : ByteArray} (hn : s.size = n) (h : Bs w e (.slice a n cap) s) (l k m : Nat) (hl : l ≤ k) (hk : k ≤ n) (hm : k ≤ m) (hmc : m ≤ cap) :
    Bs w e (sliced a l k m 1) (s.extract l k) ∧ ((sliced a l k m 1).ownBlock = (Value.slice a n cap).ownBlock) := by
  subst hn
  obtain ⟨h1, h2⟩ := Rw.cut h l k m hl hk hm hmc
  refine ⟨?_, h2⟩
  unfold Bs
  rw [byteCells_extract, ByteArray.size_extract]
  simp only [Nat.mul_one] at h1
  rw [Nat.min_eq_left hk]
  exact h1
/-- bytes as a text -/
theorem Bs.str {P : Program} {w : World} {e src dst : TypeId} {v : Value} {s : ByteArray} (hs : P.underlying src = some (.slice e)) (he : P.underlying e = some (.int .u8)) (hd : P.underlying dst = some .string) (h : Bs w e v s) :
    (convert src dst v).run P w = .ok (.string s) w := by
  unfold Bs at h
  obtain ⟨rfl, h2, h3⟩ | ⟨b, off, cap, cur, rfl, hb, h1, h2, h3, h4, h5⟩ := h
  · have : s = ⟨#[]⟩ := by
      apply ByteArray.ext
      apply Array.eq_empty_of_size_eq_zero
      exact h2
    subst this
    rw [run_convert_bytes_string w src dst e none 0 0 hs he hd]
    rfl
  · have := run_convert_bytes_back (P := P) w src dst e ⟨b, off, none⟩ cap s.data.toList hs he hd (fun j hj => by
      have hj' : j < s.size := by simpa using hj
      rw [Addr.add_lit, hb.cell, h5 j (by omega), byteCells_get s j hj', List.getD_eq_getElem?_getD, List.getElem?_eq_getElem hj]
      rfl)
    simpa using this
/-- one byte -/
def b8 (k : Nat) : ByteArray := ⟨#[UInt8.ofNat k]⟩
theorem b8_size (k : Nat) : (b8 k).size = 1 := rfl
theorem Src.ofByte {P : Program} (w : World) {tx e : TypeId} (hk : P.underlying tx = some (.slice e)) (H c : Nat) (z : Int) (k : Nat) (hz : z = (k : Int)) (hk8 : k < 256) (hc : w.cell? ⟨H, 0, none⟩ = some (.int .u8 z)) :
    Src P 1 tx (.slice (some ⟨H, 0, none⟩) 1 c) (b8 k).size (byteCells (b8 k)) w := by
  refine Src.ofSlice w hk ⟨H, 0, none⟩ 1 c (byteCells (b8 k)) rfl (fun j u hj => ?_) (byteCells_one _)
  cases j with
  | zero =>
    rw [Addr.add_lit, Nat.zero_add, hc, hz]
    simp only [byteCells, b8, List.map_cons, List.map_nil, List.getElem?_cons_zero] at hj
    rw [← hj, UInt8.toNat_ofNat_of_lt' hk8]
  | succ j => simp [byteCells, b8] at hj
theorem wpList_append_bs {P : Program} (w : World) {ops : Array Oper} {rest : List Oper} {o : Oper} {a : Act} {Q : Exit → Act → World → Prop}
    (hg : o.guard = none) (s x : Operand) (t tx : TypeId) (hop : o.op = Op.call { callee := Callee.builtin Builtin.append, args := #[s, x], argTypes := #[t, tx] })
    (e : TypeId) (h1 : P.underlying t = some (.slice e)) (h2 : (P.info? e).map (fun i => (i.zero, i.size, i.bytes)) = some (some (.int .u8 0), 1, 1))
    (v : Value) (st : ByteArray) (hs : a.eval s = v) (hv : Bs w e v st) (xv : Value) (u : ByteArray) (hx : a.eval x = xv) (hsrc : Src P 1 tx xv u.size (byteCells u) w) (hb : st.size + u.size ≤ 1000000)
    (hK : ∀ v' w', Apped w e v (st ++ u) v' w' → wpList P ops Q rest (a.put o.dst v') w') :
    wpList P ops Q (o :: rest) a w := by
  refine wpList_plain hg fun K hK' => ?_
  obtain ⟨v', w', hrun, r1⟩ := run_append_bs (P := P) w t tx o.type e h1 h2 hv hsrc hb
  unfold Oper.wp
  simp [execOp, hop, resolve, invoke, builtin, hs, hx, hrun, Result.andThen]
  exact hK' _ _ (hK v' w' r1)
theorem step_append_bs {P : Program} {ops : Array Oper} {o : Oper} {a : Act} {w : World} {K : Act → World → Prop} {Q : Exit → Act → World → Prop} {E : Prop}
    (hg : o.guard = none) (s x : Operand) (t tx : TypeId) (hop : o.op = Op.call { callee := Callee.builtin Builtin.append, args := #[s, x], argTypes := #[t, tx] })
    (e : TypeId) (h1 : P.underlying t = some (.slice e)) (h2 : (P.info? e).map (fun i => (i.zero, i.size, i.bytes)) = some (some (.int .u8 0), 1, 1))
    (v : Value) (st : ByteArray) (hs : a.eval s = v) (hv : Bs w e v st) (xv : Value) (u : ByteArray) (hx : a.eval x = xv) (hsrc : Src P 1 tx xv u.size (byteCells u) w) (hb : st.size + u.size ≤ 1000000)
    (hK : ∀ v' w', Apped w e v (st ++ u) v' w' → K (a.put o.dst v') w') :
    if Region.wanted o (yielded ops a.tmps) = true then Oper.wp P o a w K Q else E := by
  have hw : Region.wanted o (yielded ops a.tmps) = true := by simp [Region.wanted, hg]
  rw [if_pos hw]
  obtain ⟨v', w', hrun, r1⟩ := run_append_bs (P := P) w t tx o.type e h1 h2 hv hsrc hb
  unfold Oper.wp
  simp [execOp, hop, resolve, invoke, builtin, hs, hx, hrun, Result.andThen]
  exact hK v' w' r1
theorem wpList_append_rw {P : Program} (w : World) {ops : Array Oper} {rest : List Oper} {o : Oper} {a : Act} {Q : Exit → Act → World → Prop}
    (hg : o.guard = none) (s x : Operand) (t tx : TypeId) (hop : o.op = Op.call { callee := Callee.builtin Builtin.append, args := #[s, x], argTypes := #[t, tx] })
    (e : TypeId) (z : Value) (sz by_ : Nat) (h1 : P.underlying t = some (.slice e)) (h2 : (P.info? e).map (fun i => (i.zero, i.size, i.bytes)) = some (some z, sz, by_)) (hzs : z.cells.size = sz) (hby : by_ ≤ 64)
    (v : Value) (n : Nat) (xs : List Value) (hs : a.eval s = v) (hv : Rw w e sz v n xs) (xv : Value) (m : Nat) (news : List Value) (hx : a.eval x = xv) (hsrc : Src P sz tx xv m news w) (hb : n + m ≤ 1000000)
    (hK : ∀ v' w', Rw w' e sz v' (n + m) (xs ++ news) → Kept (fun k => v.ownBlock = some k) w w' → (v'.ownBlock = v.ownBlock ∨ ∃ k, w.heap.size ≤ k ∧ v'.ownBlock = some k) → wpList P ops Q rest (a.put o.dst v') w') :
    wpList P ops Q (o :: rest) a w := by
  refine wpList_plain hg fun K hK' => ?_
  obtain ⟨i, hi, hz0, hz1, hz2⟩ := info_parts h2
  obtain ⟨v', w', hrun, r1, r2, r3⟩ := run_append_rw (P := P) w t tx o.type e i z sz h1 hi hz0 hz1 hzs (by omega) hv hsrc hb
  unfold Oper.wp
  simp [execOp, hop, resolve, invoke, builtin, hs, hx, hrun, Result.andThen]
  exact hK' _ _ (hK v' w' r1 r2 r3)
/-- a slice's home is its old one or a new one -/
def Home (w : World) (v v' : Value) : Prop := v'.ownBlock = v.ownBlock ∨ ∃ k, w.heap.size ≤ k ∧ v'.ownBlock = some k
theorem Home.refl (w : World) (v : Value) : Home w v v := .inl rfl
theorem Home.trans {w w' : World} {v v' v'' : Value} (h : Home w v v') (hs : w.heap.size ≤ w'.heap.size) (k : Home w' v' v'') : Home w v v'' := by
  rcases k with k | ⟨k, h1, h2⟩
  · rcases h with h | ⟨j, h1, h2⟩
    · exact .inl (k.trans h)
    · exact .inr ⟨j, h1, k.trans h2⟩
  · exact .inr ⟨k, by omega, h2⟩
theorem Home.old {w : World} {v v' : Value} (h : Home w v v') : ∀ i, i < w.heap.size → v'.ownBlock = some i → v.ownBlock = some i := by
  intro i hi he
  rcases h with h | ⟨j, h1, h2⟩
  · rw [← h]; exact he
  · rw [h2] at he
    injection he with he
    omega
/-- a byte that was just laid is appended -/
theorem wpList_append_byte {P : Program} (w : World) {ops : Array Oper} {rest : List Oper} {o : Oper} {a : Act} {Q : Exit → Act → World → Prop} (z : Int)
    (hg : o.guard = none) (s x : Operand) (t : TypeId) (hop : o.op = Op.call { callee := Callee.builtin Builtin.append, args := #[s, x], argTypes := #[t, t] })
    (e : TypeId) (h1 : P.underlying t = some (.slice e)) (h2 : (P.info? e).map (fun i => (i.zero, i.size, i.bytes)) = some (some (.int .u8 0), 1, 1))
    (v : Value) (st : ByteArray) (hs : a.eval s = v) (hv : Bs w e v st) (hx : a.eval x = .slice (some ⟨w.heap.size, 0, none⟩) 1 1) (k : Nat) (hz : z = (k : Int)) (hk8 : k < 256) (hb : st.size ≤ 100000)
    (hK : ∀ v' w', Bs w' e v' (st ++ b8 k) → Kept (fun k => v.ownBlock = some k) w w' → Home w v v' → wpList P ops Q rest (a.put o.dst v') w') :
    wpList P ops Q (o :: rest) a (w.alloc (.cells #[.int .u8 z] e)) := by
  have hA := Below.alloc (Below.refl w.heap.size w) (Nat.le_refl _) (.cells #[.int .u8 z] e)
  refine wpList_append_bs _ hg s x t t hop e h1 h2 v st hs (hv.below hA) _ (b8 k) hx (Src.ofByte _ h1 _ _ z k hz hk8 ?_) ?_ ?_
  · rw [(Blk.new w e #[.int .u8 z]).cell]; rfl
  · have : (b8 k).size = 1 := rfl
    omega
  · intro v' w' ⟨q1, q2, q3⟩
    refine hK v' w' q1 ((Kept.ofBelow hA).next q2 (fun _ _ h => h)) ?_
    rcases q3 with q3 | ⟨k, q4, q5⟩
    · exact .inl q3
    · exact .inr ⟨k, by have := hA.size; omega, q5⟩
theorem Apped.below {w w' : World} {e : TypeId} {v v' : Value} {s : ByteArray} (h : Apped w e v s v' w') {B : Nat} {a : World} (ha : Below B a w) (hB : B ≤ w.heap.size) (hv : ∀ k, v.ownBlock = some k → B ≤ k) : Below B a w' :=
  ha.trans (h.2.1.toBelow (fun k hk e => by have := hv k e; omega) hB)
end Go.Proofs.YthpmcilljbmoiaaGreatDoor
