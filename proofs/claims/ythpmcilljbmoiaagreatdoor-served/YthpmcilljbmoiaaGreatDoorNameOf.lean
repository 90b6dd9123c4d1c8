import Derived.Test.YthpmcilljbmoiaaGreatDoorSumOf
import Derived.Test.YthpmcilljbmoiaaGreatDoorAppend
import Derived.Laws.IdiomStrings
import Derived.Laws.AppendOwn
namespace Go.Proofs.YthpmcilljbmoiaaGreatDoor
open Go.RowKit Word

/-- a slice that lies from block B on -/
def Fresh1 (B : Nat) (v : Value) : Prop := ∀ k, v.ownBlock = some k → B ≤ k
def zeros34 : Array Value := c8 (List.replicate 34 0)
theorem make34 (w : World) : (Instr.makeSlice 126 (.int .i64 0) (.int .i64 34)).run Tryz.prog w = .ok (.slice (some ⟨w.heap.size, 0, none⟩) 0 34) (w.alloc (.cells zeros34 5)) := by kernel_rfl
theorem store32 (w : World) (sb : List Nat) (hl : sb.length = 32) : (storeCells ⟨w.heap.size, 0, none⟩ (c8 sb).toList).run Tryz.prog (w.alloc (.cells #[.int .u8 0, .int .u8 0, .int .u8 0, .int .u8 0, .int .u8 0, .int .u8 0, .int .u8 0, .int .u8 0, .int .u8 0, .int .u8 0, .int .u8 0, .int .u8 0, .int .u8 0, .int .u8 0, .int .u8 0, .int .u8 0, .int .u8 0, .int .u8 0, .int .u8 0, .int .u8 0, .int .u8 0, .int .u8 0, .int .u8 0, .int .u8 0, .int .u8 0, .int .u8 0, .int .u8 0, .int .u8 0, .int .u8 0, .int .u8 0, .int .u8 0, .int .u8 0] 217)) = .ok () (w.alloc (.cells (c8 sb) 217)) :=
  run_storeCells_new w 217 #[.int .u8 0, .int .u8 0, .int .u8 0, .int .u8 0, .int .u8 0, .int .u8 0, .int .u8 0, .int .u8 0, .int .u8 0, .int .u8 0, .int .u8 0, .int .u8 0, .int .u8 0, .int .u8 0, .int .u8 0, .int .u8 0, .int .u8 0, .int .u8 0, .int .u8 0, .int .u8 0, .int .u8 0, .int .u8 0, .int .u8 0, .int .u8 0, .int .u8 0, .int .u8 0, .int .u8 0, .int .u8 0, .int .u8 0, .int .u8 0, .int .u8 0, .int .u8 0] (c8 sb) (by rw [info32, c8_size, hl]) (by rw [c8_size, hl]; rfl) (c8_one _)
/-- bytes as a text -/
def strOf (l : List Nat) : ByteArray := ⟨(l.map UInt8.ofNat).toArray⟩
/-- the bytes of a name -/
def nameBytes (n : Nat) (sb : List Nat) : List Nat := n / 256 :: n :: sb
theorem byteCells_strOf (sb : List Nat) (h : ∀ x ∈ sb, x < 256) : byteCells (strOf sb) = (c8 sb).toList := by
  simp only [byteCells, strOf, c8, List.map_map]
  apply List.map_congr_left
  intro x hx
  simp [UInt8.toNat_ofNat_of_lt' (h x hx)]
theorem strOf_size (sb : List Nat) : (strOf sb).size = sb.length := by simp [strOf, ByteArray.size]
theorem name_bytes (n : Nat) (hn : n ≤ 120) (sb : List Nat) : (⟨#[]⟩ : ByteArray) ++ b8 (n / 256) ++ b8 (n % 256) ++ strOf sb = strOf (nameBytes n sb) := by
  apply ByteArray.ext
  apply Array.ext'
  rw [show n % 256 = n by omega]
  simp [strOf, nameBytes, b8]
theorem toStr (w : World) (b cap : Nat) (t : TypeId) (l : List Nat) (n : Nat) (hn : n = l.length) (hb : Blk w b t (c8 l)) (hlt : ∀ x ∈ l, x < 256) :
    (convert 126 9 (.slice (some ⟨b, 0, none⟩) n cap)).run Tryz.prog w = .ok (.string (strOf l)) w := by
  subst hn
  have := run_convert_bytes_back (P := Tryz.prog) w 126 9 5 ⟨b, 0, none⟩ cap (l.map UInt8.ofNat) Tryz.underlying126 Tryz.underlying5 Tryz.underlying9 (fun j hj => by
    have hj' : j < l.length := by simpa using hj
    rw [show (⟨b, 0, none⟩ : Addr).add j = ⟨b, j, none⟩ by unfold Addr.add; split <;> simp_all]
    rw [hb.cell, c8_get l j hj', List.getElem_map, List.getD_eq_getElem?_getD, List.getElem?_eq_getElem hj']
    have h1 := hlt _ (List.getElem_mem hj')
    simp only [Option.getD_some]
    rw [UInt8.toNat_ofNat_of_lt' h1])
  rw [List.length_map] at this
  exact this
theorem sumBytes_lt (σ : St) : ∀ x ∈ sumBytes σ, x < 256 := by
  intro x hx
  simp only [sumBytes, List.mem_flatMap] at hx
  obtain ⟨y, _, h⟩ := hx
  exact be_lt _ _ _ h
theorem nameBytes_lt (n : Nat) (hn : n ≤ 120) (sb : List Nat) (h : ∀ x ∈ sb, x < 256) : ∀ x ∈ nameBytes n sb, x < 256 := by
  intro x hx
  simp only [nameBytes, List.mem_cons] at hx
  rcases hx with rfl | rfl | hx
  · omega
  · omega
  · exact h x hx

set_option maxRecDepth 100000 in
set_option maxHeartbeats 400000 in
theorem namesOf_any (K : List Nat) (s : ByteArray) (w : World) (hs : s.size ≤ 120) (hKl : ∀ i, K.getD i 0 < 4294967296)
    (hT : ∀ i, i < 64 → w.cell? ⟨0, i, none⟩ = some (.int .u32 (K.getD i 0 : Nat))) :
    Calls Tryz.prog 84 #[.string s] w
      fun r w' => r = .returned (.string (strOf (nameBytes s.size (sumBytes (hashTo K (pad (nats s)) (rows s.size / 64)))))) ∧ Below w.heap.size w w' := by
  have HC := hide (sumOf_any K s w hs hKl hT)
  clear hT hKl
  go_enter Tryz.func84, Tryz.ntmps84
  go_wp2_with fail
  refine HC.out.mono ?_
  rintro e w1 ⟨rfl, hb1⟩
  have hbl := sumBytes_lt (hashTo K (pad (nats s)) (rows s.size / 64))
  have hl : (sumBytes (hashTo K (pad (nats s)) (rows s.size / 64))).length = 32 := sumBytes_len _
  generalize hsb : sumBytes (hashTo K (pad (nats s)) (rows s.size / 64)) = sb at *
  have HSB := hide hsb
  clear HC hsb
  have hmk := make34
  have hst := store32 w1 sb hl
  have hsz : (c8 sb).size = 32 := by rw [c8_size, hl]
  have hbA : Below w.heap.size w ((w1.alloc (.cells (c8 sb) 217)).alloc (.cells zeros34 5)) := (hb1.alloc hb1.size _).alloc (by have := hb1.size; simp; omega) _
  have hbs : Bs ((w1.alloc (.cells (c8 sb) 217)).alloc (.cells zeros34 5)) 5 (.slice (some ⟨w1.heap.size + 1, 0, none⟩) 0 34) ⟨#[]⟩ :=
    .inr ⟨w1.heap.size + 1, 0, 34, zeros34, rfl, Blk.at _ _ _ _ (by simp), by decide, by decide, by decide, rfl, fun j hj => (Nat.not_lt_zero j hj).elim⟩
  have hc8 : Blk ((w1.alloc (.cells (c8 sb) 217)).alloc (.cells zeros34 5)) w1.heap.size 217 (c8 sb) := (Blk.at w1 217 (c8 sb) _ rfl).alloc _
  have HA : Hid (Calls Tryz.prog 112 #[.slice (some ⟨w1.heap.size + 1, 0, none⟩) 0 34, .int .i64 s.size, .int .i64 2] ((w1.alloc (.cells (c8 sb) 217)).alloc (.cells zeros34 5))
      fun r w2 => ∃ v2, r = .returned v2 ∧ Bs w2 5 v2 (⟨#[]⟩ ++ b8 (s.size / 256) ++ b8 (s.size % 256)) ∧ Blk w2 w1.heap.size 217 (c8 sb) ∧ Below w.heap.size w w2 ∧ Fresh1 w.heap.size v2) := by
    refine (append2_any (.slice (some ⟨w1.heap.size + 1, 0, none⟩) 0 34) ⟨#[]⟩ s.size _ (by omega) (by decide) hbs).mono ?_
    rintro e w2 ⟨v2, h1, b2, k2, o2⟩
    have hf1 : Fresh1 w.heap.size (.slice (some ⟨w1.heap.size + 1, 0, none⟩) 0 34) := fun k hk => by
      have := hb1.size
      simp [Value.ownBlock] at hk
      omega
    refine ⟨v2, h1, b2, hc8.kept k2 (fun e => by simp [Value.ownBlock] at e), hbA.trans (k2.toBelow (fun k hk e => by have := hf1 k e; omega) hbA.size), fun k hk => ?_⟩
    rcases o2 with o2 | ⟨j, h1, h2⟩
    · exact hf1 k (o2 ▸ hk)
    · rw [h2] at hk
      injection hk with hk
      have := hbA.size
      omega
  have hbl' := byteCells_strOf sb hbl
  have hsz2 : (strOf sb).size = 32 := by rw [strOf_size, hl]
  have HSrc : Hid (∀ w2, Blk w2 w1.heap.size 217 (c8 sb) → Src Tryz.prog 1 126 (.slice (some ⟨w1.heap.size, 0, none⟩) 32 32) (strOf sb).size (byteCells (strOf sb)) w2) := fun w2 c2 => by
    rw [hsz2, hbl']
    exact Src.ofSlice _ Tryz.underlying126 ⟨w1.heap.size, 0, none⟩ 32 32 _ (by simp [c8, hl]) (fun j u hj => by rw [Addr.add_lit, Nat.zero_add, c2.cell]; simpa using hj) (fun u hu => (Array.all_eq_true_iff_forall_mem.1 (c8_one sb)) u (by simpa using hu))
  clear hb1 hbA hbs hc8
  go_wp2_with (first | (go_at_call 112; refine HA.out.mono ?_; rintro e w2 ⟨v2, rfl, b2, c2, hbel, hf2⟩) | (at_builtin; refine wpList_append_bs w2 rfl (.tmp 12) (.tmp 13) 126 126 rfl 5 Tryz.underlying126 infoU8 v2 _ rfl b2 (.slice (some ⟨w1.heap.size, 0, none⟩) 32 32) (strOf sb) rfl (HSrc.out w2 c2) ?_ ?_))
  · rw [hsz2]; simp only [ByteArray.size_append, b8_size]; decide
  rintro v3 w3 ⟨q1, q2, q3⟩
  have hbel3 : Below w.heap.size w w3 := hbel.trans (q2.toBelow (fun k hk e => by have := hf2 k e; omega) hbel.size)
  rw [name_bytes s.size hs sb] at q1
  have hcv := q1.str (dst := 9) Tryz.underlying126 Tryz.underlying5 Tryz.underlying9
  clear b2 c2 hbel hbl q1 q2 q3 hbl' hf2 hmk hst HA HSrc
  go_wp2
  go_ret
  exact ⟨by rw [HSB.out]; rfl, hbel3⟩

/-- a blob's name, by these constants -/
def nameStr (K : List Nat) (s : ByteArray) : ByteArray := strOf (nameBytes s.size (sumBytes (hashTo K (pad (nats s)) (rows s.size / 64))))

set_option maxRecDepth 100000 in
set_option maxHeartbeats 400000 in
theorem name_any (K : List Nat) (s : ByteArray) (w : World) (hs : s.size ≤ 120) (hKl : ∀ i, K.getD i 0 < 4294967296)
    (hT : ∀ i, i < 64 → w.cell? ⟨0, i, none⟩ = some (.int .u32 (K.getD i 0 : Nat))) :
    Calls Tryz.prog 90 #[.string s] w
      fun r w' => r = .returned (.tuple #[.string (nameStr K s), .int .i64 0]) ∧ Below w.heap.size w w' := by
  have HC := hide (namesOf_any K s w hs hKl hT)
  clear hT hKl
  go_enter Tryz.func90, Tryz.ntmps90
  go_wp2_with (first | (go_at_call 84; refine HC.out.mono ?_; rintro e w1 ⟨rfl, hb1⟩) | go_in)
  go_ret2
  exact ⟨rfl, hb1⟩
set_option maxHeartbeats 400000 in
theorem name_long (s : ByteArray) (w : World) (hs : 120 < s.size) :
    Calls Tryz.prog 90 #[.string s] w
      fun r w' => r = .returned (.tuple #[.string ⟨#[]⟩, .int .i64 4]) ∧ Below w.heap.size w w' := by
  go_enter Tryz.func90, Tryz.ntmps90
  go_wp2
  go_ret2
  exact ⟨rfl, Below.refl _ _⟩
end Go.Proofs.YthpmcilljbmoiaaGreatDoor
