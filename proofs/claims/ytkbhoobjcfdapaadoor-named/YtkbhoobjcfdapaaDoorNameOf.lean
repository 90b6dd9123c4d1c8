import Derived.Test.YtkbhoobjcfdapaaDoorSumOf
import Derived.Laws.IdiomStrings
import Derived.Laws.AppendOwn
namespace Go.Proofs.YtkbhoobjcfdapaaDoor
open Go.RowKit Word

/-- append within the room of a block of the call's own -/
theorem wpList_append_blk {P : Program} (w : World) {ops : Array Oper} {rest : List Oper} {o : Oper} {a : Act} {Q : Exit → Act → World → Prop}
    (hg : o.guard = none) (s x : Operand) (t : TypeId) (hop : o.op = Op.call { callee := Callee.builtin Builtin.append, args := #[s, x], argTypes := #[t, t] })
    (e : TypeId) (z : Value) (by_ : Nat) (h1 : P.underlying t = some (.slice e)) (h2 : (P.info? e).map (fun i => (i.zero, i.size, i.bytes)) = some (some z, 1, by_))
    (g k cap : Nat) (cur : Array Value) (hs : a.eval s = .slice (some ⟨g, 0, none⟩) k cap) (hb : Blk w g e cur) (b off m c : Nat) (news : List Value) (hx : a.eval x = .slice (some ⟨b, off, none⟩) m c) (hn : news.length = m)
    (hc : ∀ j u, news[j]? = some u → w.cell? ⟨b, off + j, none⟩ = some u) (h1c : ∀ u ∈ news, u.oneCell' = true) (b1 : k + m ≤ cap) (b2 : k + m ≤ cur.size)
    (cur' : Array Value) (he : (cur.toList.take k ++ news ++ cur.toList.drop (k + m)).toArray = cur')
    (hK : ∀ w', Blk w' g e cur' → Only g w w' → wpList P ops Q rest (a.put o.dst (.slice (some ⟨g, 0, none⟩) (k + m) cap)) w') :
    wpList P ops Q (o :: rest) a w := by
  obtain ⟨i, hi, hz0, hz1, hz2⟩ := info_parts h2
  refine wpList_plain hg fun K hK' => ?_
  have hrun := run_append_room (P := P) w t o.type e i h1 hi g k cap cur hb ⟨b, off, none⟩ m c news (by rw [hz1, hn]; simp) (fun j u hj => by
    rw [show (⟨b, off, none⟩ : Addr).add j = ⟨b, off + j, none⟩ by unfold Addr.add; split <;> simp_all]; exact hc j u hj) h1c b1 (by rw [hz1, hn]; simpa using b2)
  rw [hz1, Nat.mul_one, hn] at hrun
  unfold Oper.wp
  simp [execOp, hop, resolve, invoke, builtin, hs, hx, hrun, Result.andThen]
  exact hK' _ _ (hK _ (by rw [← he, List.append_assoc]; exact Blk.row hb _) (Only.row _ _ _))

def zeros34 : Array Value := c8 (List.replicate 34 0)
theorem make34 (w : World) : (Instr.makeSlice 83 (.int .i64 0) (.int .i64 34)).run Tryd.prog w = .ok (.slice (some ⟨w.heap.size, 0, none⟩) 0 34) (w.alloc (.cells zeros34 5)) := by kernel_rfl
theorem store32 (w : World) (sb : List Nat) (hl : sb.length = 32) : (storeCells ⟨w.heap.size, 0, none⟩ (c8 sb).toList).run Tryd.prog (w.alloc (.cells #[.int .u8 0, .int .u8 0, .int .u8 0, .int .u8 0, .int .u8 0, .int .u8 0, .int .u8 0, .int .u8 0, .int .u8 0, .int .u8 0, .int .u8 0, .int .u8 0, .int .u8 0, .int .u8 0, .int .u8 0, .int .u8 0, .int .u8 0, .int .u8 0, .int .u8 0, .int .u8 0, .int .u8 0, .int .u8 0, .int .u8 0, .int .u8 0, .int .u8 0, .int .u8 0, .int .u8 0, .int .u8 0, .int .u8 0, .int .u8 0, .int .u8 0, .int .u8 0] 84)) = .ok () (w.alloc (.cells (c8 sb) 84)) :=
  run_storeCells_new w 84 #[.int .u8 0, .int .u8 0, .int .u8 0, .int .u8 0, .int .u8 0, .int .u8 0, .int .u8 0, .int .u8 0, .int .u8 0, .int .u8 0, .int .u8 0, .int .u8 0, .int .u8 0, .int .u8 0, .int .u8 0, .int .u8 0, .int .u8 0, .int .u8 0, .int .u8 0, .int .u8 0, .int .u8 0, .int .u8 0, .int .u8 0, .int .u8 0, .int .u8 0, .int .u8 0, .int .u8 0, .int .u8 0, .int .u8 0, .int .u8 0, .int .u8 0, .int .u8 0] (c8 sb) (by rw [info32, c8_size, hl]) (by rw [c8_size, hl]; rfl) (c8_one _)
/-- bytes as a text -/
def strOf (l : List Nat) : ByteArray := ⟨(l.map UInt8.ofNat).toArray⟩
/-- the bytes of a name -/
def nameBytes (n : Nat) (sb : List Nat) : List Nat := n / 256 :: n :: sb
theorem two_in (n : Nat) : (zeros34.toList.take 0 ++ [Value.int .u8 ((n : Int) / 256), .int .u8 (n : Int)] ++ zeros34.toList.drop (0 + 2)).toArray = c8 (n / 256 :: n :: List.replicate 32 0) := by
  simp [zeros34, c8]
theorem all_in (n : Nat) (sb : List Nat) (_hl : sb.length = 32) : ((c8 (n / 256 :: n :: List.replicate 32 0)).toList.take (0 + 2) ++ (c8 sb).toList ++ (c8 (n / 256 :: n :: List.replicate 32 0)).toList.drop (0 + 2 + 32)).toArray = c8 (nameBytes n sb) := by
  simp [c8, nameBytes]

theorem toStr (w : World) (b cap : Nat) (t : TypeId) (l : List Nat) (n : Nat) (hn : n = l.length) (hb : Blk w b t (c8 l)) (hlt : ∀ x ∈ l, x < 256) :
    (convert 83 9 (.slice (some ⟨b, 0, none⟩) n cap)).run Tryd.prog w = .ok (.string (strOf l)) w := by
  subst hn
  have := run_convert_bytes_back (P := Tryd.prog) w 83 9 5 ⟨b, 0, none⟩ cap (l.map UInt8.ofNat) Tryd.underlying83 Tryd.underlying5 Tryd.underlying9 (fun j hj => by
    have hj' : j < l.length := by simpa using hj
    rw [show (⟨b, 0, none⟩ : Addr).add j = ⟨b, j, none⟩ by unfold Addr.add; split <;> simp_all]
    rw [hb.cell, c8_get l j hj', List.getElem_map, List.getD_eq_getElem?_getD, List.getElem?_eq_getElem hj']
    have h1 := hlt _ (List.getElem_mem hj')
    simp only [Option.getD_some]
    rw [UInt8.toNat_ofNat_of_lt' h1])
  rw [List.length_map] at this
  exact this
theorem sumBytes_lt (σ : St) : ∀ x ∈ sumBytes σ, x < 256 := by
  intro x hx
  simp only [sumBytes, List.mem_flatMap] at hx
  obtain ⟨y, _, h⟩ := hx
  exact be_lt _ _ _ h
theorem nameBytes_lt (n : Nat) (hn : n ≤ 120) (sb : List Nat) (h : ∀ x ∈ sb, x < 256) : ∀ x ∈ nameBytes n sb, x < 256 := by
  intro x hx
  simp only [nameBytes, List.mem_cons] at hx
  rcases hx with rfl | rfl | hx
  · omega
  · omega
  · exact h x hx

set_option maxRecDepth 100000 in
set_option maxHeartbeats 400000 in
theorem namesOf_any (K : List Nat) (s : ByteArray) (w : World) (hs : s.size ≤ 120) (hKl : ∀ i, K.getD i 0 < 4294967296)
    (hT : ∀ i, i < 64 → w.cell? ⟨0, i, none⟩ = some (.int .u32 (K.getD i 0 : Nat))) :
    Calls Tryd.prog 20 #[.string s] w
      fun r w' => r = .returned (.string (strOf (nameBytes s.size (sumBytes (hashTo K (pad (nats s)) (rows s.size / 64)))))) ∧ Below w.heap.size w w' := by
  have HC := hide (sumOf_any K s w hs hKl hT)
  clear hT hKl
  go_enter Tryd.func20, Tryd.ntmps20
  go_wp2_with fail
  refine HC.out.mono ?_
  rintro e w1 ⟨rfl, hb1⟩
  have hbl := sumBytes_lt (hashTo K (pad (nats s)) (rows s.size / 64))
  have hl : (sumBytes (hashTo K (pad (nats s)) (rows s.size / 64))).length = 32 := sumBytes_len _
  generalize hsb : sumBytes (hashTo K (pad (nats s)) (rows s.size / 64)) = sb at *
  have HSB := hide hsb
  clear HC hsb
  have hmk := make34
  have hst := store32 w1 sb hl
  have hsz : (c8 sb).size = 32 := by rw [c8_size, hl]
  go_wp2_with (at_builtin; refine wpList_append_blk _ rfl (.tmp 8) (.tmp 16) 83 rfl 5 (.int .u8 0) 1 Tryd.underlying83 infoByte (w1.heap.size + 1) 0 34 zeros34 rfl ((Blk.at _ _ _ _ (by simp)).alloc _) (w1.heap.size + 1 + 1) 0 2 2 [.int .u8 ((s.size : Int) / 256), .int .u8 (s.size : Int)] rfl rfl (fun j u hj => by rw [(Blk.at _ _ _ _ (by simp)).cell]; simpa using hj) (by simp [Value.oneCell']) (by omega) (by decide) _ (two_in s.size) ?_)
  intro w2 b2 o2
  have c2 : Blk w2 w1.heap.size 84 (c8 sb) := Blk.only (((Blk.at w1 84 (c8 sb) _ rfl).alloc _).alloc _) o2 (by omega)
  have hbel : Below w.heap.size w w2 := Below.only (((hb1.alloc hb1.size _).alloc (by have := hb1.size; simp; omega) _).alloc (by have := hb1.size; simp; omega) _) o2 (by have := hb1.size; omega)
  have hle : w.heap.size ≤ w1.heap.size := hb1.size
  clear hmk hst o2 hb1
  generalize w1.heap.size = H at *
  go_wp2_with (at_builtin; refine wpList_append_blk _ rfl (.tmp 18) (.tmp 19) 83 rfl 5 (.int .u8 0) 1 Tryd.underlying83 infoByte (H + 1) 2 34 _ rfl b2 H 0 32 32 (c8 sb).toList rfl (by simp [c8, hl]) (fun j u hj => by rw [c2.cell]; simpa using hj) (fun u hu => (Array.all_eq_true_iff_forall_mem.1 (c8_one sb)) u (by simpa using hu)) (by omega) (by simp [c8]) _ (all_in s.size sb hl) ?_)
  intro w3 b4 o3
  have hbel3 := Below.only hbel o3 (by omega)
  clear b2 c2 hbel o3
  have hcv := toStr w3 (H + 1) 34 5 (nameBytes s.size sb) 34 (by simp [nameBytes, hl]) b4 (nameBytes_lt _ hs sb hbl)
  clear hbl b4
  go_wp2
  go_ret
  exact ⟨by rw [HSB.out]; rfl, hbel3⟩

/-- a blob's name, by these constants -/
def nameStr (K : List Nat) (s : ByteArray) : ByteArray := strOf (nameBytes s.size (sumBytes (hashTo K (pad (nats s)) (rows s.size / 64))))

set_option maxRecDepth 100000 in
set_option maxHeartbeats 400000 in
theorem name_any (K : List Nat) (s : ByteArray) (w : World) (hs : s.size ≤ 120) (hKl : ∀ i, K.getD i 0 < 4294967296)
    (hT : ∀ i, i < 64 → w.cell? ⟨0, i, none⟩ = some (.int .u32 (K.getD i 0 : Nat))) :
    Calls Tryd.prog 6 #[.string s] w
      fun r w' => r = .returned (.tuple #[.string (nameStr K s), .int .i64 0]) ∧ Below w.heap.size w w' := by
  have HC := hide (namesOf_any K s w hs hKl hT)
  clear hT hKl
  go_enter Tryd.func6, Tryd.ntmps6
  go_wp2_with (first | (go_at_call 20; refine HC.out.mono ?_; rintro e w1 ⟨rfl, hb1⟩) | go_in)
  go_ret2
  exact ⟨rfl, hb1⟩
set_option maxHeartbeats 400000 in
theorem name_long (s : ByteArray) (w : World) (hs : 120 < s.size) :
    Calls Tryd.prog 6 #[.string s] w
      fun r w' => r = .returned (.tuple #[.string ⟨#[]⟩, .int .i64 4]) ∧ Below w.heap.size w w' := by
  go_enter Tryd.func6, Tryd.ntmps6
  go_wp2
  go_ret2
  exact ⟨rfl, Below.refl _ _⟩
end Go.Proofs.YtkbhoobjcfdapaaDoor
