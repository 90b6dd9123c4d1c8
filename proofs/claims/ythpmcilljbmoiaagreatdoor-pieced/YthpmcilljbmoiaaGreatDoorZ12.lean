import Derived.Test.YthpmcilljbmoiaaGreatDoorZ11
import Derived.Test.YthpmcilljbmoiaaGreatDoorZ01
import Derived.Laws.MakeOwn
import Derived.Laws.OwnMore
import Derived.Test.YthpmcilljbmoiaaGreatDoorZ02
import Derived.Test.YthpmcilljbmoiaaGreatDoorZ08
import Derived.Lib.BufferWrite
import Derived.Lib.UnsafeStr
namespace Go.Proofs.YthpmcilljbmoiaaGreatDoor
open Go.RowKit

theorem Sh.lt {w : World} {sb : Nat} {l : List Bl} {room held pinned : Int} {bv : Value} (h : Sh w sb l room held pinned bv) : sb < w.heap.size := h.1.lt
theorem Sh.kept {S : Nat → Prop} {w w' : World} {sb : Nat} {l : List Bl} {room held pinned : Int} {bv : Value} (h : Sh w sb l room held pinned bv) (hk : Kept S w w') (h1 : ¬ S sb) (h2 : ∀ k, bv.ownBlock = some k → ¬ S k) : Sh w' sb l room held pinned bv := ⟨h.1.kept hk h1, Rw.kept h.2 hk h2⟩
/-- the cells of the i-th blob -/
theorem Sh.at {w : World} {sb : Nat} {l : List Bl} {room held pinned : Int} {bv : Value} (h : Sh w sb l room held pinned bv) (i : Nat) (hi : i < l.length) : ∃ b off cap, bv = .slice (some ⟨b, off, none⟩) l.length cap ∧ w.cell? ⟨sb, 0, none⟩ = some (.slice (some ⟨b, off, none⟩) l.length cap) ∧ (∀ j, w.frozen? ⟨b, j, none⟩ = false) ∧ b ≠ sb ∧
    w.cell? ⟨b, off + i * 4, none⟩ = some (.string l[i].nm) ∧ w.cell? ⟨b, off + i * 4 + 1, none⟩ = some (.string l[i].bs) ∧ w.cell? ⟨b, off + i * 4 + 2, none⟩ = some (.bool l[i].mark) ∧ w.cell? ⟨b, off + i * 4 + 3, none⟩ = some (.int .i64 l[i].pn) := by
  obtain ⟨hB, hR⟩ := h
  obtain ⟨_, h0, _⟩ | ⟨b, off, cap, cur, rfl, hb, g1, g2, g3, g4, g5⟩ := hR
  · omega
  · have hc : ∀ j, j < 4 → w.cell? ⟨b, off + i * 4 + j, none⟩ = l[i].cells[j]? := fun j hj => by
      rw [hb.cell, Nat.add_assoc, g5 _ (by omega), blCells_at l i j hi hj]
    exact ⟨b, off, cap, rfl, hB.cell 0, hb.frozen, hb.ne hB (by decide), hc 0 (by omega), hc 1 (by omega), hc 2 (by omega), hc 3 (by omega)⟩
/-- a cell of the i-th blob is written -/
theorem Sh.put {w : World} {sb : Nat} {l : List Bl} {room held pinned : Int} {b off cap : Nat} (h : Sh w sb l room held pinned (.slice (some ⟨b, off, none⟩) l.length cap)) (i j : Nat) (hi : i < l.length) (hj : j < 4) (v : Value) (b' : Bl) (hb : b'.cells = l[i].cells.set j v) :
    Sh (w.setCell ⟨b, off + i * 4 + j, none⟩ v) sb (l.set i b') room held pinned (.slice (some ⟨b, off, none⟩) l.length cap) := by
  obtain ⟨hB, hR⟩ := h
  have hne := Rw.ne hR hB (by decide)
  have hk : Kept (fun k => k = b) w (w.setCell ⟨b, off + i * 4 + j, none⟩ v) := (Kept.refl _ _).set _ _ (fun _ => rfl)
  refine ⟨hB.kept hk (fun e => hne (by rw [e]; rfl)), ?_⟩
  have := Rw.set hR (i * 4 + j) (by omega) v
  rw [blCells_set l i j v b' hi hj hb, ← Nat.add_assoc] at this
  rw [List.length_set]
  exact this
/-- a ledger's cell is written -/
theorem Sh.led {w : World} {sb : Nat} {l : List Bl} {room held pinned : Int} {bv : Value} (h : Sh w sb l room held pinned bv) (z : Int) : Sh (w.setCell ⟨sb, 2, none⟩ (.int .i64 z)) sb l room z pinned bv ∧ Sh (w.setCell ⟨sb, 3, none⟩ (.int .i64 z)) sb l room held z bv := by
  obtain ⟨hB, hR⟩ := h
  have hne := Rw.ne hR hB (by decide)
  have hk : ∀ i v, Kept (fun k => k = sb) w (w.setCell ⟨sb, i, none⟩ v) := fun i v => (Kept.refl _ _).set _ _ (fun _ => rfl)
  exact ⟨⟨by simpa using hB.set 2 (.int .i64 z), Rw.kept hR (hk _ _) (fun k hkk e => by subst e; exact hne hkk)⟩, ⟨by simpa using hB.set 3 (.int .i64 z), Rw.kept hR (hk _ _) (fun k hkk e => by subst e; exact hne hkk)⟩⟩

variable {w : World} {sb : Nat} {l : List Bl} {room held pinned : Int} {bv : Value}
set_option maxRecDepth 100000 in
theorem holds_sh (nm : ByteArray) (h : Sh w sb l room held pinned bv) (hl : l.length ≤ 1000) :
    Calls Tryz.prog 182 #[.pointer (some ⟨sb, 0, none⟩), .string nm] w fun r w' => r = .returned (.bool (ixB l nm).isSome) ∧ w = w' := by
  have HF := hide (find_sh sb l room held pinned bv nm w h hl)
  cases hx : ixB l nm with
  | none =>
    rw [hx] at HF
    have HF : Hid (Calls Tryz.prog 167 #[.pointer (some ⟨sb, 0, none⟩), .string nm] w fun r w' => r = .returned (.int .i64 (-1)) ∧ w = w') := HF.out
    go_enter Tryz.func182, Tryz.ntmps182
    go_wp2_with (go_at_call 167; refine HF.out.mono ?_; rintro e w1 ⟨rfl, rfl⟩)
    go_ret
    exact ⟨rfl, rfl⟩
  | some i =>
    rw [hx] at HF
    have HF : Hid (Calls Tryz.prog 167 #[.pointer (some ⟨sb, 0, none⟩), .string nm] w fun r w' => r = .returned (.int .i64 (i : Int)) ∧ w = w') := HF.out
    have hi : (0 : Int) ≤ (i : Int) := by omega
    go_enter Tryz.func182, Tryz.ntmps182
    go_wp2_with (go_at_call 167; refine HF.out.mono ?_; rintro e w1 ⟨rfl, rfl⟩)
    go_ret
    exact ⟨rfl, rfl⟩
/-- the i-th blob with a mark -/
def marked (l : List Bl) (i : Nat) (h : i < l.length) : List Bl := l.set i { l[i] with mark := true }
set_option maxRecDepth 100000 in
set_option maxHeartbeats 400000 in
theorem sread_sh (nm : ByteArray) (i : Nat) (hi : i < l.length) (hx : ixB l nm = some i) (h : Sh w sb l room held pinned bv) (hl : l.length ≤ 1000) :
    Calls Tryz.prog 187 #[.pointer (some ⟨sb, 0, none⟩), .string nm] w fun r w' => r = .returned (.tuple #[.string l[i].bs, .bool true]) ∧ Sh w' sb (marked l i hi) room held pinned bv ∧ Kept (fun k => bv.ownBlock = some k) w w' := by
  have HF := hide (find_sh sb l room held pinned bv nm w h hl)
  rw [hx] at HF
  have HF : Hid (Calls Tryz.prog 167 #[.pointer (some ⟨sb, 0, none⟩), .string nm] w fun r w' => r = .returned (.int .i64 (i : Int)) ∧ w = w') := HF.out
  obtain ⟨b, off, cap, rfl, c0, fz, hne, q0, q1, q2, q3⟩ := h.at i hi
  have f2 := fz (off + i * 4 + 2)
  have hP : Sh (w.setCell ⟨b, off + i * 4 + 2, none⟩ (.bool true)) sb (marked l i hi) room held pinned (.slice (some ⟨b, off, none⟩) l.length cap) := h.put i 2 hi (by omega) (.bool true) _ rfl
  have HP := hide hP
  have g1 : (i : Int) < (l.length : Int) := by omega
  have g2 : (0 : Int) ≤ (i : Int) := by omega
  have g3 : ¬ ((i : Int) < 0) := by omega
  clear hP h fz hx
  generalize l[i].bs = bs at *
  generalize l[i].mark = mk at *
  generalize marked l i hi = L' at *
  clear q0 q3
  generalize l.length = n at *
  go_enter Tryz.func187, Tryz.ntmps187
  go_wp2_with (go_at_call 167; refine HF.out.mono ?_; rintro e w1 ⟨rfl, rfl⟩)
  go_ret2
  exact ⟨rfl, HP.out, (Kept.refl _ _).set _ _ (fun _ => rfl)⟩

set_option maxRecDepth 100000 in
theorem keep_sh (z : Int) (h : Sh w sb l room held pinned bv) (hz : -100000 ≤ pinned + z ∧ pinned + z ≤ 100000) :
    Calls Tryz.prog 192 #[.pointer (some ⟨sb, 1, none⟩), .int .i64 z] w fun r w' => r = .returned (.tuple #[]) ∧ w' = w.setCell ⟨sb, 3, none⟩ (.int .i64 (pinned + z)) := by
  have c3 : w.cell? ⟨sb, 3, none⟩ = some (.int .i64 pinned) := h.1.cell 3
  have f3 := h.1.frozen 3
  obtain ⟨hz1, hz2⟩ := hz
  clear h
  go_enter Tryz.func192, Tryz.ntmps192
  go_wp2
  exact bodyPost_end (results_none rfl _ _ _) rfl ⟨rfl, rfl⟩
set_option maxRecDepth 100000 in
theorem hold_sh (z : Int) (h : Sh w sb l room held pinned bv) (hz : -100000 ≤ held + z ∧ held + z ≤ 100000) :
    Calls Tryz.prog 173 #[.pointer (some ⟨sb, 1, none⟩), .int .i64 z] w fun r w' => r = .returned (.tuple #[]) ∧ w' = w.setCell ⟨sb, 2, none⟩ (.int .i64 (held + z)) := by
  have c2 : w.cell? ⟨sb, 2, none⟩ = some (.int .i64 held) := h.1.cell 2
  have f2 := h.1.frozen 2
  obtain ⟨hz1, hz2⟩ := hz
  clear h
  go_enter Tryz.func173, Tryz.ntmps173
  go_wp2
  exact bodyPost_end (results_none rfl _ _ _) rfl ⟨rfl, rfl⟩
set_option maxRecDepth 100000 in
theorem fits_sh (z : Int) (h : Sh w sb l room held pinned bv) (hz : z ≤ room - held) (hb : -100000 ≤ room - held ∧ room - held ≤ 100000) :
    Calls Tryz.prog 169 #[.pointer (some ⟨sb, 1, none⟩), .int .i64 z] w fun r w' => r = .returned (.bool true) ∧ Below w.heap.size w w' := by
  have c1 : w.cell? ⟨sb, 1, none⟩ = some (.int .i64 room) := h.1.cell 1
  have c2 : w.cell? ⟨sb, 2, none⟩ = some (.int .i64 held) := h.1.cell 2
  obtain ⟨hz1, hz2⟩ := hb
  clear h
  go_enter Tryz.func169, Tryz.ntmps169
  go_wp2
  go_region
  go_wp2
  go_ret
  exact ⟨rfl, (Below.refl _ _).drew⟩
set_option maxRecDepth 100000 in
theorem couldFit_sh (z : Int) (h : Sh w sb l room held pinned bv) (hz : z ≤ room - pinned) (hb : -100000 ≤ room - pinned ∧ room - pinned ≤ 100000) :
    Calls Tryz.prog 168 #[.pointer (some ⟨sb, 1, none⟩), .int .i64 z] w fun r w' => r = .returned (.bool true) ∧ Below w.heap.size w w' := by
  have c1 : w.cell? ⟨sb, 1, none⟩ = some (.int .i64 room) := h.1.cell 1
  have c3 : w.cell? ⟨sb, 3, none⟩ = some (.int .i64 pinned) := h.1.cell 3
  obtain ⟨hz1, hz2⟩ := hb
  clear h
  go_enter Tryz.func168, Tryz.ntmps168
  go_wp2
  go_region
  go_wp2
  go_ret
  exact ⟨rfl, (Below.refl _ _).drew⟩
end Go.Proofs.YthpmcilljbmoiaaGreatDoor
namespace Go.Proofs.YthpmcilljbmoiaaGreatDoor
open Go.RowKit

/-- n times the byte c -/
def rept (c n : Nat) : ByteArray := ⟨Array.replicate n (UInt8.ofNat c)⟩
theorem rept_size (c n : Nat) : (rept c n).size = n := by simp [rept, ByteArray.size]
theorem rept_cells (c n : Nat) (hc : c < 256) : byteCells (rept c n) = List.replicate n (.int .u8 (c : Int)) := by
  simp [rept, byteCells, UInt8.toNat_ofNat_of_lt' hc]
/-- i bytes are written -/
def rowAt (c n i : Nat) : Array Value := (List.replicate i (Value.int .u8 (c : Int)) ++ List.replicate (n - i) (Value.int .u8 0)).toArray
theorem rowAt_get (c n i : Nat) (hi : i < n) : (rowAt c n i)[i]? = some (.int .u8 0) := by
  simp only [rowAt, List.getElem?_toArray]
  rw [List.getElem?_append_right (by simp), List.length_replicate, Nat.sub_self, List.getElem?_replicate, if_pos (by omega)]
theorem rowAt_set (c n i : Nat) (hi : i < n) : (rowAt c n i).setIfInBounds i (.int .u8 (c : Int)) = rowAt c n (i + 1) := by
  apply Array.ext'
  simp only [rowAt, Array.toList_setIfInBounds]
  rw [List.set_append_right _ _ (by simp), List.length_replicate, Nat.sub_self]
  obtain ⟨m, hm⟩ : ∃ m, n - i = m + 1 := ⟨n - i - 1, by omega⟩
  rw [hm, show n - (i + 1) = m by omega, List.replicate_succ, List.set_cons_zero, List.replicate_succ' (n := i), List.append_assoc]
  rfl
theorem mkBytes (w : World) (n : Nat) (hn : n ≤ 1000) : (Instr.makeSlice 126 (.int .i64 n) (.int .i64 n)).run Tryz.prog w = .ok (.slice (some ⟨w.heap.size, 0, none⟩) n n) (w.alloc (.cells (rowAt 0 n 0) 5)) := by
  obtain ⟨i, hi, hz, hs, hb⟩ := info_parts infoU8
  have := run_makeSlice (P := Tryz.prog) w 126 5 i (.int .u8 0) Tryz.underlying126 hi hz .i64 .i64 n n (by omega) (Int.le_refl _) (by rw [hs]; omega) (by rw [hb]; omega) (by omega)
  rw [this]
  have e : madeCells (Value.int .u8 0).cells ((n : Int).toNat * i.size) = rowAt 0 n 0 := by
    apply Array.ext'
    rw [hs, Nat.mul_one, Int.toNat_natCast]
    have := toList_madeCells_one (.int .u8 0) n
    simp only [Value.cells, rowAt, List.replicate_zero, List.nil_append, Nat.sub_zero] at this ⊢
    exact this
  rw [e]
  simp

set_option maxRecDepth 100000 in
set_option maxHeartbeats 1000000 in
theorem fill_any (n c : Nat) (w : World) (hn : n ≤ 100) (hc : c < 256) :
    Calls Tryz.prog 34 #[.int .i64 n, .int .u8 c] w fun r w' => r = .returned (.string (rept c n)) ∧ Below w.heap.size w w' := by
  have hmk := mkBytes w n (by omega)
  go_enter Tryz.func34, Tryz.ntmps34
  go_wp2
  have hB0 : Blk (w.alloc (.cells (rowAt 0 n 0) 5)) w.heap.size 5 (rowAt c n 0) := by
    have : rowAt 0 n 0 = rowAt c n 0 := by simp [rowAt]
    rw [this]; exact Blk.new _ _ _
  have hA0 := Below.alloc (Below.refl w.heap.size w) (Nat.le_refl _) (.cells (rowAt 0 n 0) 5)
  clear hmk
  generalize w.alloc (.cells (rowAt 0 n 0) 5) = W0 at *
  go_loopw [6] (fun iv wr => ∃ i : Nat, i ≤ n ∧ iv = .int .i64 i ∧ Blk wr w.heap.size 5 (rowAt c n i) ∧ Below w.heap.size w wr) (fun iv _ => n - (intOf iv).toNat)
  case atStart => exact ⟨0, by omega, rfl, hB0, hA0⟩
  case round =>
    clear hB0 hA0
    obtain ⟨i, hi, rfl, hB, hA⟩ := hrel
    by_cases hin : i < n
    · have c0 : wr.cell? ⟨w.heap.size, i, none⟩ = some (.int .u8 0) := by rw [hB.cell, rowAt_get c n i hin]
      have f0 := hB.frozen i
      have h1 : (i : Int) < (n : Int) := by omega
      have h2 : (0 : Int) ≤ (i : Int) := by omega
      have hB1 := hB.set i (.int .u8 (c : Int))
      rw [rowAt_set c n i hin] at hB1
      have hA1 := hA.setCell (p := ⟨w.heap.size, i, none⟩) (Nat.le_refl _) (.int .u8 (c : Int))
      go_wp2
      exact ⟨⟨i + 1, by omega, by simp, hB1, hA1⟩, by simp [intOf]; omega⟩
    · obtain rfl : i = n := by omega
      have hbs : Bs wr 5 (.slice (some ⟨w.heap.size, 0, none⟩) i i) (rept c i) := by
        refine .inr ⟨w.heap.size, 0, i, rowAt c i i, by rw [rept_size], hB, by rw [rept_size]; omega, by unfold maxLen; omega, ?_, by rw [rept_cells c i hc, rept_size]; simp, fun j hj => ?_⟩
        · simp [rowAt]
        · rw [rept_cells c i hc]; simp [rowAt, Array.getElem?_replicate, List.getElem?_replicate]
      have hcv := hbs.str (dst := 9) Tryz.underlying126 Tryz.underlying5 Tryz.underlying9
      go_wp2
      go_ret
      exact ⟨rfl, hA⟩
end Go.Proofs.YthpmcilljbmoiaaGreatDoor
namespace Go.Proofs.YthpmcilljbmoiaaGreatDoor
open Go.RowKit
/-- which of m things the raw number z speaks of -/
def pickN (z : Int) (m : Nat) : Nat := (if z < 0 then -(z + 1) else z).toNat % m

set_option maxRecDepth 100000 in
theorem pick_any (z : Int) (m : Nat) (w : World) (hm0 : 0 < m) (hm : m ≤ 100) (hz1 : -9223372036854775808 ≤ z) (hz2 : z ≤ 9223372036854775807) :
    Calls Tryz.prog 18 #[.int .i64 z, .int .i64 m] w fun r w' => r = .returned (.int .i64 (pickN z m : Nat)) ∧ w = w' := by
  have hm1 : ¬ ((m : Int) = 0) := by omega
  by_cases hz : z < 0
  · obtain ⟨y, hy, hy2⟩ : ∃ y : Nat, -(z + 1) = (y : Int) ∧ y ≤ 9223372036854775807 := ⟨(-(z + 1)).toNat, by omega, by omega⟩
    have hp : pickN z m = y % m := by unfold pickN; rw [if_pos hz, hy]; rfl
    rw [hp]
    clear hp
    go_enter Tryz.func18, Tryz.ntmps18
    go_wp2
    go_ret
    exact ⟨by first | rfl | (rw [Int.natCast_emod]; rfl), rfl⟩
  · obtain ⟨y, rfl⟩ : ∃ y : Nat, z = (y : Int) := ⟨z.toNat, by omega⟩
    have hp : pickN (y : Int) m = y % m := by unfold pickN; rw [if_neg hz]; rfl
    rw [hp]
    clear hp
    go_enter Tryz.func18, Tryz.ntmps18
    go_wp2
    go_ret
    exact ⟨by first | rfl | (rw [Int.natCast_emod]; rfl), rfl⟩
end Go.Proofs.YthpmcilljbmoiaaGreatDoor
namespace Go.Proofs.YthpmcilljbmoiaaGreatDoor
open Go.RowKit

theorem cellsU8 : Tryz.prog.cellsOf 5 = 1 := by kernel_rfl
theorem sizeU8 : (Tryz.prog.info? 5).map (·.size) = some 1 := by kernel_rfl
set_option maxRecDepth 100000 in
set_option maxHeartbeats 1000000 in
/-- a copy of a text is the text -/
theorem clone_any (s : ByteArray) (w : World) (hs : s.size ≤ 1000) :
    Calls Tryz.prog 214 #[.string s] w fun r w' => r = .returned (.string s) ∧ Below w.heap.size w w' := by
  by_cases h0 : s.size = 0
  · have e : s = ⟨#[]⟩ := by
      apply ByteArray.ext
      exact Array.eq_empty_of_size_eq_zero h0
    subst e
    go_enter Tryz.func214, Tryz.ntmps214
    go_wp2
    go_ret
    exact ⟨rfl, Below.refl _ _⟩
  · have hmk := mkBytes w s.size hs
    have hzs : (rowAt 0 s.size 0).size = s.size := by simp [rowAt]
    have hcp := fun ty => Lib.run_copy_row_string (P := Tryz.prog) (w.alloc (.cells (rowAt 0 s.size 0) 5)) 126 9 ty 5 w.heap.size 0 s.size s.size s (rowAt 0 s.size 0) 5 Tryz.underlying126 sizeU8 (Blk.new _ _ _) (Nat.le_refl _) (by rw [hzs]; omega)
    generalize rowAt 0 s.size 0 = M at *
    obtain ⟨Y, hY⟩ : ∃ Y, Y = (M.toList.take 0 ++ Lib.byteCells s.data.toList ++ M.toList.drop (0 + s.size)).toArray := ⟨_, rfl⟩
    rw [← hY] at hcp
    have hYl : Y.toList = Lib.byteCells s.data.toList := by
      rw [hY, List.toList_toArray, List.take_zero, List.nil_append, List.drop_of_length_le (by rw [Array.length_toList]; omega), List.append_nil]
    have hYs : Y.size = s.size := by rw [← Array.length_toList, hYl, Lib.byteCells_length, ← Lib.size_eq]
    have hgY : ((w.alloc (.cells M 5)).setRow w.heap.size Y).heap[w.heap.size]? = some (.cells Y 5 (0, 0)) := setRow_heap _ _ M _ 5 (0, 0) (heap_alloc_new w _)
    have hne : s.data.toList ≠ [] := fun e => h0 (by rw [Lib.size_eq, e]; rfl)
    have hUS := Lib.run_unsafeString_row (P := Tryz.prog) ((w.alloc (.cells M 5)).setRow w.heap.size Y) 328 3 9 5 Tryz.underlying328 cellsU8 w.heap.size Y.size (by unfold World.shape?; rw [hgY]) s.data.toList hne (by rw [← Lib.size_eq]; omega) (by rw [← Lib.size_eq]; omega)
      (fun j x hx => Lib.cells_of_row hgY Y.size j _ (by rw [List.take_of_length_le (by rw [Array.length_toList]; exact Nat.le_refl _), hYl]; simp [Lib.byteCells, hx]))
    rw [← Lib.size_eq] at hUS
    have hb : Below w.heap.size w ((w.alloc (.cells M 5)).setRow w.heap.size Y) := below_row ((Below.refl _ w).alloc (Nat.le_refl _) _) (Nat.le_refl _) Y
    have h1 : ¬ ((s.size : Int) = 0) := by omega
    have h2 : (0 : Int) < (s.size : Int) := by omega
    clear hY
    go_enter Tryz.func214, Tryz.ntmps214
    go_wp2
    go_ret
    exact ⟨rfl, Lib.below_freeze hb (p := ⟨w.heap.size, 0, none⟩) (Nat.le_refl _) _⟩
set_option maxRecDepth 100000 in
theorem sclone_any (s : ByteArray) (w : World) (hs : s.size ≤ 1000) :
    Calls Tryz.prog 172 #[.string s] w fun r w' => r = .returned (.string s) ∧ Below w.heap.size w w' := by
  have HC := hide (clone_any s w hs)
  go_enter Tryz.func172, Tryz.ntmps172
  go_wp2_with (go_at_call 214; refine HC.out.mono ?_; rintro e w1 ⟨rfl, k1⟩)
  go_ret
  exact ⟨rfl, k1⟩

theorem infoBl : (Tryz.prog.info? 186).map (fun i => (i.zero, i.size, i.bytes)) = some (some (.agg #[.string ⟨#[]⟩, .string ⟨#[]⟩, .bool false, .int .i64 0]), 4, 48) := by kernel_rfl
variable {w : World} {sb : Nat} {l : List Bl} {room held pinned : Int} {bv : Value}
set_option maxRecDepth 100000 in
set_option maxHeartbeats 2000000 in
theorem join_sh (nm bs : ByteArray) (h : Sh w sb l room held pinned bv) (hl : l.length ≤ 1000) :
    Calls Tryz.prog 171 #[.pointer (some ⟨sb, 0, none⟩), .agg #[.string nm, .string bs, .bool false, .int .i64 0]] w
      fun r w' => r = .returned (.tuple #[]) ∧ ∃ bv', Sh w' sb (l ++ [⟨nm, bs, false, 0⟩]) room held pinned bv' ∧ Kept (fun k => k = sb ∨ bv.ownBlock = some k) w w' ∧ Home w bv bv' := by
  obtain ⟨hB, hR⟩ := h
  have hne := Rw.ne hR hB (by decide)
  have hlt := hB.lt
  obtain ⟨a0, e0, rfl⟩ := Rw.shape hR
  have hA : Below w.heap.size w (w.alloc (.cells #[.string nm, .string bs, .bool false, .int .i64 0] 186)) := (Below.refl _ _).alloc (Nat.le_refl _) _
  have hB1 := hB.below hA hlt
  have hR1 := Rw.below hR hA
  have hN1 := Blk.new w 186 #[.string nm, .string bs, .bool false, .int .i64 0]
  obtain ⟨n, hn⟩ : ∃ n, Hid (l.length = n) := ⟨_, rfl⟩
  rw [hn.out] at hB1 hR1 hl hB hR hne
  rw [hn.out]
  have hbel := hA
  go_enter Tryz.func171, Tryz.ntmps171
  go_wp2
  generalize w.alloc (.cells #[.string nm, .string bs, .bool false, .int .i64 0] 186) = W1 at *
  have c0 : W1.cell? ⟨sb, 0, none⟩ = some (.slice a0 n e0) := hB1.cell 0
  have f0 := hB1.frozen 0
  have b0 : W1.cell? ⟨w.heap.size, 0, none⟩ = some (.string nm) := hN1.cell 0
  have b1 : W1.cell? ⟨w.heap.size, 1, none⟩ = some (.string bs) := hN1.cell 1
  have b2 : W1.cell? ⟨w.heap.size, 2, none⟩ = some (.bool false) := hN1.cell 2
  have b3 : W1.cell? ⟨w.heap.size, 3, none⟩ = some (.int .i64 0) := hN1.cell 3
  have hA2 : Below W1.heap.size W1 ((World.drew W1).alloc (.cells #[.string nm, .string bs, .bool false, .int .i64 0] 186)) := (Below.refl _ _).drew.alloc (Nat.le_refl _) _
  have hB2 := hB1.below hA2 hB1.lt
  have d0 : ((World.drew W1).alloc (.cells #[.string nm, .string bs, .bool false, .int .i64 0] 186)).cell? ⟨sb, 0, none⟩ = some (.slice a0 n e0) := hB2.cell 0
  have HX : Hid (∀ j u, [Value.string nm, .string bs, .bool false, .int .i64 0][j]? = some u → ((World.drew W1).alloc (.cells #[.string nm, .string bs, .bool false, .int .i64 0] 186)).cell? (Addr.add ⟨W1.heap.size, 0, none⟩ j) = some u) := fun j u hj => by
    have hN := Blk.new (World.drew W1) 186 #[.string nm, .string bs, .bool false, .int .i64 0]
    have hs : (World.drew W1).heap.size = W1.heap.size := rfl
    rw [hs] at hN
    rw [Addr.add_lit, hN.cell, ← hj, Nat.zero_add]
    simp
  have HR2 := hide (Rw.below hR1 hA2)
  have hl1 := hB1.lt
  go_region_law (first | (refine step_append_rw rfl (.tmp 8) (.tmp 10) 117 117 rfl 186 _ 4 48 Tryz.underlying117 infoBl rfl (by omega) (.slice a0 n e0) n (blCells l) (by simp [Act.eval]) HR2.out (.slice (some ⟨W1.heap.size, 0, none⟩) 1 1) 1 [.string nm, .string bs, .bool false, .int .i64 0] (by simp [Act.eval]) (Src.ofSlice _ Tryz.underlying117 ⟨W1.heap.size, 0, none⟩ 1 1 _ rfl HX.out (by simp [Value.oneCell'])) (by omega) ?_; rintro v2 w2 r2 k2 o2; have d2 := hB2.kept k2 hne; have e2 : w2.cell? ⟨sb, 0, none⟩ = some (.slice a0 n e0) := d2.cell 0; have f2 := d2.frozen 0; have n2 := Rw.ne r2 d2 (by decide); obtain ⟨a2, g2, rfl⟩ := Rw.shape r2) | fail)
  all_goals
    go_wp2
    have KS : Kept (fun k => k = sb ∨ (Value.slice a0 n e0).ownBlock = some k) w2 (w2.setCell ⟨sb, 0, none⟩ (.slice a2 (n + 1) g2)) := (Kept.refl _ _).set _ _ (fun _ => .inl rfl)
    have KS' : Kept (fun k => k = sb) w2 (w2.setCell ⟨sb, 0, none⟩ (.slice a2 (n + 1) g2)) := (Kept.refl _ _).set _ _ (fun _ => rfl)
    have K1 : Kept (fun k => k = sb ∨ (Value.slice a0 n e0).ownBlock = some k) w w2 := (((Kept.ofBelow hbel).below hA2)).next k2 (fun i _ h => .inr h)
    have hR3 := Rw.kept r2 KS' (fun k hk e => by subst e; exact n2 hk)
    have ho : Home w (.slice a0 n e0) (.slice a2 (n + 1) g2) := by
      rcases o2 with o2 | ⟨k, q1, q2⟩
      · exact .inl o2
      · exact .inr ⟨k, by first | exact Nat.le_trans hbel.size (Nat.le_trans hA2.size q1) | (have h1 := hbel.size; simp at q1; omega), q2⟩
    refine bodyPost_end (results_none rfl _ _ _) rfl ⟨rfl, _, ⟨by simpa using d2.set 0 (.slice a2 (n + 1) g2), ?_⟩, K1.trans KS, ho⟩
    rw [List.length_append, hn.out, blCells_app]
    exact hR3

set_option maxRecDepth 100000 in
set_option maxHeartbeats 1000000 in
/-- the blob is there already: it is marked -/
theorem store_old (nm bs : ByteArray) (i : Nat) (hi : i < l.length) (hx : ixB l nm = some i) (h : Sh w sb l room held pinned bv) (hl : l.length ≤ 1000) :
    Calls Tryz.prog 117 #[.pointer (some ⟨sb, 0, none⟩), .string nm, .string bs] w fun r w' => r = .returned (.int .i64 1) ∧ Sh w' sb (marked l i hi) room held pinned bv ∧ Kept (fun k => bv.ownBlock = some k) w w' := by
  have HF := hide (find_sh sb l room held pinned bv nm w h hl)
  rw [hx] at HF
  have HF : Hid (Calls Tryz.prog 167 #[.pointer (some ⟨sb, 0, none⟩), .string nm] w fun r w' => r = .returned (.int .i64 (i : Int)) ∧ w = w') := HF.out
  obtain ⟨b, off, cap, rfl, c0, fz, hne, q0, q1, q2, q3⟩ := h.at i hi
  have f2 := fz (off + i * 4 + 2)
  have hP : Sh (w.setCell ⟨b, off + i * 4 + 2, none⟩ (.bool true)) sb (marked l i hi) room held pinned (.slice (some ⟨b, off, none⟩) l.length cap) := h.put i 2 hi (by omega) (.bool true) _ rfl
  have HP := hide hP
  have g1 : (i : Int) < (l.length : Int) := by omega
  have g2 : (0 : Int) ≤ (i : Int) := by omega
  clear hP h fz hx
  generalize l[i].mark = mk at *
  generalize marked l i hi = L' at *
  clear q0 q1 q3
  generalize l.length = n at *
  go_enter Tryz.func117, Tryz.ntmps117
  go_wp2_with (go_at_call 167; refine HF.out.mono ?_; rintro e w1 ⟨rfl, rfl⟩)
  go_ret
  exact ⟨rfl, HP.out, (Kept.refl _ _).set _ _ (fun _ => rfl)⟩
set_option maxRecDepth 100000 in
set_option maxHeartbeats 1000000 in
/-- the blob is new and fits -/
theorem store_new (nm bs : ByteArray) (hx : ixB l nm = none) (h : Sh w sb l room held pinned bv) (hl : l.length ≤ 1000) (hz : bs.size ≤ 200) (h1 : (bs.size : Int) ≤ room - held) (h2 : (bs.size : Int) ≤ room - pinned) (h3 : 0 ≤ held ∧ 0 ≤ pinned) (h4 : room ≤ 100000) :
    Calls Tryz.prog 117 #[.pointer (some ⟨sb, 0, none⟩), .string nm, .string bs] w fun r w' => r = .returned (.int .i64 1) ∧ ∃ bv', Sh w' sb (l ++ [⟨nm, bs, false, 0⟩]) room (held + bs.size) pinned bv' ∧ Kept (fun k => k = sb ∨ bv.ownBlock = some k) w w' ∧ Home w bv bv' := by
  have HF := hide (find_sh sb l room held pinned bv nm w h hl)
  rw [hx] at HF
  have HF : Hid (Calls Tryz.prog 167 #[.pointer (some ⟨sb, 0, none⟩), .string nm] w fun r w' => r = .returned (.int .i64 (-1)) ∧ w = w') := HF.out
  have sbel : ∀ {w1 : World}, Below w.heap.size w w1 → Sh w1 sb l room held pinned bv := fun hb => ⟨h.1.below hb h.1.lt, Rw.below h.2 hb⟩
  have HC : Hid (Calls Tryz.prog 168 #[.pointer (some ⟨sb, 1, none⟩), .int .i64 bs.size] w fun r w' => r = .returned (.bool true) ∧ Below w.heap.size w w') := couldFit_sh bs.size h h2 (by omega)
  have HG : Hid (∀ w1, Below w.heap.size w w1 → Calls Tryz.prog 169 #[.pointer (some ⟨sb, 1, none⟩), .int .i64 bs.size] w1 fun r w' => r = .returned (.bool true) ∧ Below w.heap.size w w') := fun w1 hb => by
    refine (fits_sh bs.size (sbel hb) h1 (by omega)).mono ?_
    rintro e w' ⟨q1, q2⟩
    exact ⟨q1, hb.trans (q2.mono hb.size)⟩
  have HL : Hid (∀ w1, Below w.heap.size w w1 → Calls Tryz.prog 172 #[.string bs] (World.drew w1) fun r w' => r = .returned (.string bs) ∧ Below w.heap.size w w') := fun w1 hb => by
    refine (sclone_any bs (World.drew w1) (by omega)).mono ?_
    rintro e w' ⟨q1, q2⟩
    exact ⟨q1, hb.drew.trans (q2.mono hb.size)⟩
  have HJ : Hid (∀ w1, Below w.heap.size w w1 → Calls Tryz.prog 171 #[.pointer (some ⟨sb, 0, none⟩), .agg #[.string nm, .string bs, .bool false, .int .i64 0]] w1 fun r w' => r = .returned (.tuple #[]) ∧ ∃ bv', Sh w' sb (l ++ [⟨nm, bs, false, 0⟩]) room held pinned bv' ∧ Kept (fun k => k = sb ∨ bv.ownBlock = some k) w w' ∧ Home w bv bv') := fun w1 hb => by
    refine (join_sh nm bs (sbel hb) hl).mono ?_
    rintro e w' ⟨q1, bv', q2, q3, q4⟩
    exact ⟨q1, bv', q2, (Kept.ofBelow hb).next q3 (fun _ _ h => h), (Home.refl w bv).trans hb.size q4⟩
  have HH : Hid (∀ w1 bv', Sh w1 sb (l ++ [⟨nm, bs, false, 0⟩]) room held pinned bv' → Calls Tryz.prog 173 #[.pointer (some ⟨sb, 1, none⟩), .int .i64 bs.size] w1 fun r w' => r = .returned (.tuple #[]) ∧ Sh w' sb (l ++ [⟨nm, bs, false, 0⟩]) room (held + bs.size) pinned bv' ∧ Kept (fun k => k = sb) w1 w') := fun w1 bv' hs => by
    refine (hold_sh bs.size hs (by omega)).mono ?_
    rintro e w' ⟨q1, rfl⟩
    exact ⟨q1, (hs.led _).1, (Kept.refl _ _).set _ _ (fun _ => rfl)⟩
  clear sbel h hx
  go_enter Tryz.func117, Tryz.ntmps117
  go_wp2_with (first | (go_at_call 167; refine HF.out.mono ?_; rintro e w1 ⟨rfl, rfl⟩) | (go_at_call 168; refine HC.out.mono ?_; rintro e w2 ⟨rfl, k2⟩))
  refine wp_loop_rounds 1 ?_
  rw [rounds_succ]
  go_wp2_with (go_at_call 169; refine (HG.out w2 k2).mono ?_; rintro e w3 ⟨rfl, k3⟩)
  go_region_with (first | (go_at_call 172; refine (HL.out w3 k3).mono ?_; rintro e w4 ⟨rfl, k4⟩) | (go_at_call 171; refine (HJ.out w4 k4).mono ?_; rintro e w5 ⟨rfl, bv5, h5, k5, o5⟩))
  all_goals
    go_wp2_with (go_at_call 173; refine (HH.out w5 bv5 h5).mono ?_; rintro e w6 ⟨rfl, h6, k6⟩)
    go_ret
    exact ⟨rfl, bv5, h6, k5.next k6 (fun _ _ h => .inl h), o5⟩
end Go.Proofs.YthpmcilljbmoiaaGreatDoor
