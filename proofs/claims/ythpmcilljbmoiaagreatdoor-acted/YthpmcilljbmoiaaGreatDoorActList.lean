import Derived.Test.YthpmcilljbmoiaaGreatDoorAsked
namespace Go.Proofs.YthpmcilljbmoiaaGreatDoor
open Go.RowKit

def actsOf (V : Nat → ByteArray) (k : Nat) : List (ByteArray × ByteArray) := (List.range k).map fun j => (key4 j, V j)
theorem actsOf_len (V : Nat → ByteArray) (k : Nat) : (actsOf V k).length = k := by simp [actsOf]
theorem actsOf_succ (V : Nat → ByteArray) (k : Nat) : actsOf V (k + 1) = actsOf V k ++ [(key4 k, V k)] := by simp [actsOf, List.range_succ]
theorem actsOf_get (V : Nat → ByteArray) (k j : Nat) (h : j < (actsOf V k).length) : (actsOf V k)[j] = (key4 j, V j) := by simp [actsOf]
theorem key4_list (v : Nat) : (key4 v).data.toList = [0, 0, 0, UInt8.ofNat v] := by simp [key4, b8]
theorem key4_size (v : Nat) : (key4 v).size = 4 := by simp only [key4, ByteArray.size_append, b8_size]
theorem key4_inj {i j : Nat} (hi : i < 256) (hj : j < 256) (h : key4 i = key4 j) : i = j := by
  have := congrArg (fun b : ByteArray => b.data.toList) h
  simp only [key4_list] at this
  have h3 : UInt8.ofNat i = UInt8.ofNat j := by simpa using this
  have h4 := congrArg UInt8.toNat h3
  rwa [UInt8.toNat_ofNat_of_lt' hi, UInt8.toNat_ofNat_of_lt' hj] at h4
theorem ix_new (V : Nat → ByteArray) (k : Nat) (hk : k < 200) : actIx (actsOf V k) (key4 k) = -1 :=
  actIx_none _ _ fun j hj e => by
    rw [actsOf_get] at e
    rw [actsOf_len] at hj
    have := key4_inj (by omega) (by omega) e
    omega
theorem ix_at (V : Nat → ByteArray) (k : Nat) (hk : k < 200) : actIx (actsOf V (k + 1)) (key4 k) = k :=
  actIx_at _ _ k (by rw [actsOf_len]; omega) (by rw [actsOf_get]) fun j hj hjk e => by
    rw [actsOf_get] at e
    have := key4_inj (by omega) (by omega) e
    omega
theorem set_same (V : Nat → ByteArray) (k : Nat) (h : k < (actsOf V (k + 1)).length) : (actsOf V (k + 1)).set k ((actsOf V (k + 1))[k].1, V k) = actsOf V (k + 1) := by
  apply List.ext_getElem
  · simp
  · intro j h1 h2
    rw [List.getElem_set]
    split
    · rename_i e
      subst e
      rw [actsOf_get]
    · rfl
theorem key4_ne (v : Nat) (s : ByteArray) (x : UInt8) (r : List UInt8) (hs : s.data.toList = x :: r) (hx : x ≠ 0) : key4 v ≠ s := fun e => by
  have := congrArg (fun b : ByteArray => b.data.toList) e
  simp only [key4_list, hs] at this
  injection this with h1 h2
  exact hx h1.symm
theorem ix_other (V : Nat → ByteArray) (k : Nat) (s : ByteArray) (x : UInt8) (r : List UInt8) (hs : s.data.toList = x :: r) (hx : x ≠ 0) : actIx (actsOf V k) s = -1 :=
  actIx_none _ _ fun j hj e => by
    rw [actsOf_get] at e
    exact key4_ne j s x r hs hx e
/-- all but the first -/
def tailOf (V : Nat → ByteArray) (k : Nat) : List (ByteArray × ByteArray) := (List.range k).map fun j => (key4 (j + 1), V (j + 1))
theorem actsOf_tail (V : Nat → ByteArray) (k : Nat) : actsOf V (k + 1) = (key4 0, V 0) :: tailOf V k := by
  simp [actsOf, tailOf, List.range_succ_eq_map]
theorem tailOf_len (V : Nat → ByteArray) (k : Nat) : (tailOf V k).length = k := by simp [tailOf]
theorem tailOf_get (V : Nat → ByteArray) (k j : Nat) (h : j < (tailOf V k).length) : (tailOf V k)[j] = (key4 (j + 1), V (j + 1)) := by simp [tailOf]
theorem tl_get (V : Nat → ByteArray) (k : Nat) (y : ByteArray × ByteArray) (j : Nat) (h : j < (tailOf V k ++ [y]).length) : (tailOf V k ++ [y])[j] = if j < k then (key4 (j + 1), V (j + 1)) else y := by
  rw [List.getElem_append]
  simp only [tailOf_len]
  split
  · rw [tailOf_get]
  · simp
theorem tl_more (V : Nat → ByteArray) (k : Nat) (s z : ByteArray) (x : UInt8) (r : List UInt8) (hs : s.data.toList = x :: r) (hx : x ≠ 0) : actIx (tailOf V k ++ [(s, z)]) s = k := by
  refine actIx_at _ _ k (by simp [tailOf_len]) (by rw [tl_get, if_neg (by omega)]) fun j hj hjk e => ?_
  rw [tl_get, if_pos hjk] at e
  exact key4_ne _ s x r hs hx e
theorem tl_zero (V : Nat → ByteArray) (k : Nat) (hk : k < 200) (s z : ByteArray) (x : UInt8) (r : List UInt8) (hs : s.data.toList = x :: r) (hx : x ≠ 0) : actIx (tailOf V k ++ [(s, z)]) (key4 0) = -1 := by
  refine actIx_none _ _ fun j hj e => ?_
  rw [tl_get] at e
  split at e
  · have := key4_inj (i := j + 1) (j := 0) (by omega) (by omega) e
    omega
  · exact key4_ne 0 s x r hs hx e.symm
theorem tl_one (V : Nat → ByteArray) (k : Nat) (hk : 1 ≤ k) (s z : ByteArray) : actIx (tailOf V k ++ [(s, z)]) (key4 1) = (0 : Nat) := by
  refine actIx_at _ _ 0 (by simp) (by rw [tl_get, if_pos (by omega)]) fun j hj hjk e => ?_
  omega

theorem booked_at {w w' : World} {db o : Nat} {t : TypeId} {cs : Array Value} {av : Value} {acts' : List (ByteArray × ByteArray)} (hB : Blk w db t cs) (ho : cs[o]? = some av) (hne : av.ownBlock ≠ some db) (ha : Ac w' av acts') (hk : Kept (fun k => av.ownBlock = some k) w w') : Booked w db o t cs av acts' w' := by
  refine ⟨av, ?_, ha, hk.mono (fun _ _ h => .inr h), .inl rfl⟩
  have : cs.setIfInBounds o av = cs := by
    obtain ⟨h1, h2⟩ := Array.getElem?_eq_some_iff.1 ho
    apply Array.ext
    · simp
    · intro i h3 h4
      rw [Array.getElem_setIfInBounds]
      split
      · rename_i e; subst e; exact h2.symm
      · rfl
  rw [this]
  exact hB.kept hk hne

/-- a client between two requests -/
def St (base : Nat) (w : World) (cb db kb sb : Nat) (shv cvv : Value) (n : Nat) (acts : List (ByteArray × ByteArray)) : Prop := ∃ av wv gv, Sta base w cb db kb sb shv cvv av wv gv (.pointer none) (n : Int) acts ⟨#[]⟩ ⟨#[]⟩

section
variable {base : Nat} {cb db kb sb : Nat} {shv cvv : Value} {acts : List (ByteArray × ByteArray)}
theorem St.below {w w' : World} {n : Nat} (h : St base w cb db kb sb shv cvv n acts) (hk : Below w.heap.size w w') : St base w' cb db kb sb shv cvv n acts := by
  obtain ⟨av, wv, gv, h⟩ := h
  exact ⟨av, wv, gv, h.below hk⟩
theorem st_put {w : World} {n : Nat} (V : Nat → ByteArray) (k : Nat) (hk : k < 32) (hV : (V k).size ≤ 50) (hn : n < 180) (h : St base w cb db kb sb shv cvv n (actsOf V k)) :
    Calls Tryz.prog 29 #[.pointer (some ⟨cb, 0, none⟩), .int .i64 5, .string (key4 k ++ b8 (V k).size ++ V k), .int .i64 1] w
      fun r w' => r = .returned (.tuple #[.string ⟨#[]⟩, .bool true]) ∧ Below base w w' ∧ St base w' cb db kb sb shv cvv (n + 1) (actsOf V (k + 1)) := by
  obtain ⟨av, wv, gv, h⟩ := h
  rw [actsOf_succ]
  refine ask_put n (key4 k) (V k) _ h (by omega) (key4_size k) hV (fun w1 hB ha => ?_)
  exact bookPut_new db 4 _ _ av _ (key4 k) (V k) w1 hB (by decide) rfl ha (by rw [actsOf_len]; omega) (ix_new V k (by omega))
theorem st_again {w : World} {n : Nat} (V : Nat → ByteArray) (k : Nat) (hk : k < 32) (hV : (V k).size ≤ 50) (hn : n < 180) (h : St base w cb db kb sb shv cvv n (actsOf V (k + 1))) :
    Calls Tryz.prog 29 #[.pointer (some ⟨cb, 0, none⟩), .int .i64 5, .string (key4 k ++ b8 (V k).size ++ V k), .int .i64 1] w
      fun r w' => r = .returned (.tuple #[.string ⟨#[]⟩, .bool true]) ∧ Below base w w' ∧ St base w' cb db kb sb shv cvv (n + 1) (actsOf V (k + 1)) := by
  obtain ⟨av, wv, gv, h⟩ := h
  refine ask_put n (key4 k) (V k) _ h (by omega) (key4_size k) hV (fun w1 hB ha => ?_)
  have hl : k < (actsOf V (k + 1)).length := by rw [actsOf_len]; omega
  refine (bookPut_at db 4 _ _ av _ (key4 k) (V k) k hl w1 hB (hB.cell 4) ha (by rw [actsOf_len]; omega) (ix_at V k (by omega))).mono ?_
  rintro e w' ⟨q1, q2, q3⟩
  rw [set_same] at q2
  exact ⟨q1, booked_at hB rfl (Rw.ne ha hB (by decide)) q2 q3⟩
theorem st_get {w : World} {n : Nat} (key val : ByteArray) (i : Nat) (hi : i < acts.length) (hk : key.size = 4) (hx : actIx acts key = i) (hv : acts[i].2 = val) (hV : val.size ≤ 50) (ha : acts.length ≤ 33) (hn : n < 180) (h : St base w cb db kb sb shv cvv n acts) :
    Calls Tryz.prog 29 #[.pointer (some ⟨cb, 0, none⟩), .int .i64 4, .string key, .int .i64 1] w
      fun r w' => r = .returned (.tuple #[.string (b8 1 ++ b8 val.size ++ val), .bool true]) ∧ Below base w w' ∧ St base w' cb db kb sb shv cvv (n + 1) acts := by
  obtain ⟨av, wv, gv, h⟩ := h
  exact ask_get n key _ h (by omega) hk (by simp only [ByteArray.size_append, b8_size]; omega) (fun w1 hB hac => get_at db _ _ av acts key val i hi w1 hB rfl hac ha hx hv hV)
theorem st_none {w : World} {n : Nat} (key : ByteArray) (hk : key.size = 4) (hx : actIx acts key = -1) (ha : acts.length ≤ 33) (hn : n < 180) (h : St base w cb db kb sb shv cvv n acts) :
    Calls Tryz.prog 29 #[.pointer (some ⟨cb, 0, none⟩), .int .i64 4, .string key, .int .i64 1] w
      fun r w' => r = .returned (.tuple #[.string (b8 0), .bool true]) ∧ Below base w w' ∧ St base w' cb db kb sb shv cvv (n + 1) acts := by
  obtain ⟨av, wv, gv, h⟩ := h
  exact ask_get n key _ h (by omega) hk (by rw [b8_size]; decide) (fun w1 hB hac => get_none db _ _ av acts key w1 hB rfl hac ha hx)
theorem st_full {w : World} {n : Nat} (V : Nat → ByteArray) (key val : ByteArray) (x : UInt8) (r : List UInt8) (hs : key.data.toList = x :: r) (hx : x ≠ 0) (hk : key.size = 4) (hV : val.size ≤ 50) (hn : n < 180) (h : St base w cb db kb sb shv cvv n (actsOf V 32)) :
    Calls Tryz.prog 29 #[.pointer (some ⟨cb, 0, none⟩), .int .i64 5, .string (key ++ b8 val.size ++ val), .int .i64 1] w
      fun r w' => r = .returned (.tuple #[.string ⟨#[]⟩, .bool true]) ∧ Below base w w' ∧ St base w' cb db kb sb shv cvv (n + 1) (tailOf V 31 ++ [(key, val)]) := by
  obtain ⟨av, wv, gv, h⟩ := h
  have hi := ix_other V 32 key x r hs hx
  rw [actsOf_tail V 31] at h hi
  refine ask_put n key val _ h (by omega) hk hV (fun w1 hB ha => ?_)
  exact bookPut_full db 4 _ _ av _ _ key val w1 hB (by decide) rfl ha (tailOf_len V 31) hi
end
end Go.Proofs.YthpmcilljbmoiaaGreatDoor
