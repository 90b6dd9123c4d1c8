import Derived.Test.YthpmcilljbmoiaaGreatDoorZ14
import Derived.Test.YthpmcilljbmoiaaGreatDoorZBlk
import Derived.Deep.RegionHeld3
import Derived.Test.YthpmcilljbmoiaaGreatDoorChecked
import Derived.WalkSpells
import Derived.WalkLawsBesides
namespace Go.Proofs.YthpmcilljbmoiaaGreatDoor.Word
open Go

theorem getD_out (l : List Nat) (i : Nat) (h : l.length ≤ i) : l.getD i 0 = 0 := by
  rw [List.getD_eq_getElem?_getD, List.getElem?_eq_none h]; rfl
/-- the number of the first n bytes from 4 j on -/
def acc (m : List Nat) (j : Nat) : Nat → Nat
  | 0 => 0
  | n + 1 => acc m j n * 256 + m.getD (4 * j + n) 0
theorem acc_lt (m : List Nat) (hm : ∀ i, m.getD i 0 < 256) (j : Nat) : ∀ n, acc m j n < 256 ^ n
  | 0 => by simp [acc]
  | n + 1 => by
    have h := acc_lt m hm j n
    have := hm (4 * j + n)
    have e : 256 ^ (n + 1) = 256 ^ n * 256 := Nat.pow_succ ..
    simp only [acc]
    omega
theorem acc_lt4 (m : List Nat) (hm : ∀ i, m.getD i 0 < 256) (j n : Nat) (hn : n ≤ 4) : acc m j n < 4294967296 :=
  Nat.lt_of_lt_of_le (acc_lt m hm j n) (by have := Nat.pow_le_pow_right (show 0 < 256 by decide) hn; omega)
theorem acc_lt3 (m : List Nat) (hm : ∀ i, m.getD i 0 < 256) (j n : Nat) (hn : n ≤ 3) : acc m j n < 16777216 :=
  Nat.lt_of_lt_of_le (acc_lt m hm j n) (by have := Nat.pow_le_pow_right (show 0 < 256 by decide) hn; omega)
/-- the words while the first i bytes are in -/
def fillW (m : List Nat) (i : Nat) : List Nat := (List.range 64).map fun j => acc m j (min 4 (i - 4 * j))
theorem fillW_len (m : List Nat) (i : Nat) : (fillW m i).length = 64 := by simp [fillW]
theorem fillW_get (m : List Nat) (i j : Nat) (h : j < 64) : (fillW m i).getD j 0 = acc m j (min 4 (i - 4 * j)) := by
  simp [fillW, h]
theorem fillW_at (m : List Nat) (i : Nat) (h : i < 64) : (fillW m i).getD (i / 4) 0 = acc m (i / 4) (i % 4) := by
  rw [fillW_get m i _ (by omega), show min 4 (i - 4 * (i / 4)) = i % 4 by omega]
theorem fillW_set (m : List Nat) (i : Nat) (_h : i < 64) : (fillW m i).set (i / 4) (acc m (i / 4) (i % 4) * 256 + m.getD i 0) = fillW m (i + 1) := by
  apply List.ext_getElem
  · simp [fillW]
  · intro n h1 h2
    have hn : n < 64 := by simpa [fillW] using h1
    rw [List.getElem_set]
    by_cases e : i / 4 = n
    · subst e
      rw [if_pos rfl]
      simp only [fillW, List.getElem_map, List.getElem_range]
      rw [show min 4 (i + 1 - 4 * (i / 4)) = i % 4 + 1 by omega]
      simp only [acc]
      rw [show 4 * (i / 4) + i % 4 = i by omega]
    · rw [if_neg e]
      simp only [fillW, List.getElem_map, List.getElem_range]
      rw [show min 4 (i + 1 - 4 * n) = min 4 (i - 4 * n) by omega]
theorem fillW_zero (m : List Nat) : fillW m 0 = List.replicate 64 0 := by
  apply List.ext_getElem
  · simp [fillW]
  · intro n h1 h2
    simp only [fillW, List.getElem_map, List.getElem_range, List.getElem_replicate]
    rw [show min 4 (0 - 4 * n) = 0 by omega]
    rfl
theorem shl_or (x b : Nat) (hx : x < 16777216) (hb : b < 256) : bits .or .u32 ((x : Int) * 256 % 4294967296) (b : Int) = ((x * 256 + b : Nat) : Int) := by
  rw [show ((x : Int) * 256 % 4294967296) = ((x * 256 : Nat) : Int) by omega, or32 _ _ (by omega) (by omega), Nat.mul_comm]
  exact congrArg _ (Nat.two_pow_add_eq_or_of_lt (i := 8) hb x).symm
theorem shl_or2 (x b : Nat) (hx : x < 16777216) (hb : b < 256) : bits .or .u32 ((x : Int) * 256) (b : Int) = ((x * 256 + b : Nat) : Int) := by
  have := shl_or x b hx hb
  rwa [show ((x : Int) * 256 % 4294967296) = (x : Int) * 256 by omega] at this
theorem wrap_sub (t k : Nat) (h : k ≤ t) (h' : t ≤ 64) : IntKind.i64.wrap ((t : Int) - (k : Int)) = ((t - k : Nat) : Int) := by
  rw [IntKind.wrap_i64]; omega
theorem nxt_walk (a b c d : Nat) : IntKind.u32.wrap (IntKind.u32.wrap (IntKind.u32.wrap ((a : Int) + (b : Int)) + (c : Int)) + (d : Int)) = (((a + b + c + d) % 4294967296 : Nat) : Int) := by
  rw [IntKind.wrap_u32, IntKind.wrap_u32, IntKind.wrap_u32]; omega
def nxt (l : List Nat) : Nat := (s1 (l.getD (l.length - 2) 0) + l.getD (l.length - 7) 0 + s0 (l.getD (l.length - 15) 0) + l.getD (l.length - 16) 0) % 4294967296
def grow (l : List Nat) : Nat → List Nat
  | 0 => l
  | k + 1 => grow l k ++ [nxt (grow l k)]
theorem grow_len (l : List Nat) : ∀ k, (grow l k).length = l.length + k
  | 0 => rfl
  | k + 1 => by simp [grow, grow_len l k]; omega
theorem nxt_lt (l : List Nat) : nxt l < 4294967296 := Nat.mod_lt _ (by decide)
theorem getD_append_last (l : List Nat) (x i : Nat) : (l ++ [x]).getD i 0 = l.getD i 0 ∨ (l ++ [x]).getD i 0 = x := by
  by_cases h : i < l.length
  · left; simp [h, List.getElem?_append_left h]
  · by_cases e : i = l.length
    · right; subst e; simp
    · left
      rw [getD_out _ _ (by simp; omega), getD_out _ _ (by omega)]
theorem grow_lt (l : List Nat) (hl : ∀ i, l.getD i 0 < 4294967296) : ∀ k i, (grow l k).getD i 0 < 4294967296
  | 0, i => hl i
  | k + 1, i => by
    simp only [grow]
    rcases getD_append_last (grow l k) (nxt (grow l k)) i with h | h <;> rw [h]
    · exact grow_lt l hl k i
    · exact nxt_lt _
/-- the first sixteen words of a block -/
def first (m : List Nat) : List Nat := (List.range 16).map fun j => acc m j 4
theorem first_len (m : List Nat) : (first m).length = 16 := by simp [first]
theorem first_lt (m : List Nat) (hm : ∀ i, m.getD i 0 < 256) (i : Nat) : (first m).getD i 0 < 4294967296 := by
  by_cases h : i < 16
  · simp only [first, List.getD_eq_getElem?_getD, List.getElem?_map, List.getElem?_range h]
    exact acc_lt4 m hm i 4 (by decide)
  · rw [getD_out _ _ (by simp [first]; omega)]; decide
theorem fillW_all (m : List Nat) : fillW m 64 = first m ++ List.replicate 48 0 := by
  apply List.ext_getElem
  · simp [fillW, first]
  · intro n h1 h2
    have hn : n < 64 := by simpa [fillW] using h1
    simp only [fillW, List.getElem_map, List.getElem_range]
    by_cases h : n < 16
    · rw [List.getElem_append_left (by simp [first]; omega)]
      simp only [first, List.getElem_map, List.getElem_range]
      rw [show min 4 (64 - 4 * n) = 4 by omega]
    · rw [List.getElem_append_right (by simp [first]; omega)]
      rw [show min 4 (64 - 4 * n) = 0 by omega]
      simp only [acc, List.getElem_replicate]
/-- all 64 words of a block -/
def sched (m : List Nat) : List Nat := grow (first m) 48
theorem sched_len (m : List Nat) : (sched m).length = 64 := by rw [sched, grow_len, first_len]
theorem sched_lt (m : List Nat) (hm : ∀ i, m.getD i 0 < 256) (i : Nat) : (sched m).getD i 0 < 4294967296 := grow_lt _ (first_lt m hm) _ _
/-- while t words stand -/
def upTo (m : List Nat) (t : Nat) : List Nat := grow (first m) (t - 16) ++ List.replicate (64 - t) 0
theorem upTo_len (m : List Nat) (t : Nat) (h : 16 ≤ t) (h' : t ≤ 64) : (upTo m t).length = 64 := by
  simp [upTo, grow_len, first_len]; omega
theorem upTo_start (m : List Nat) : fillW m 64 = upTo m 16 := by rw [fillW_all]; rfl
theorem upTo_end (m : List Nat) : upTo m 64 = sched m := by simp [upTo, sched]
theorem upTo_get (m : List Nat) (t i : Nat) (h : 16 ≤ t) (hi : i < t) : (upTo m t).getD i 0 = (grow (first m) (t - 16)).getD i 0 := by
  have : i < (grow (first m) (t - 16)).length := by rw [grow_len, first_len]; omega
  simp [upTo, List.getElem?_append_left this]
theorem upTo_set (m : List Nat) (t : Nat) (h : 16 ≤ t) (ht : t < 64) : (upTo m t).set t (nxt (grow (first m) (t - 16))) = upTo m (t + 1) := by
  have hl : (grow (first m) (t - 16)).length = t := by rw [grow_len, first_len]; omega
  unfold upTo
  rw [show t + 1 - 16 = (t - 16) + 1 by omega]
  simp only [grow]
  rw [List.set_append_right _ _ (by omega), hl, show t - t = 0 by omega]
  obtain ⟨z, hz⟩ : ∃ z, 64 - t = z + 1 := ⟨64 - t - 1, by omega⟩
  rw [hz, show 64 - (t + 1) = z by omega, List.replicate_succ, List.set_cons_zero, List.append_assoc]
  rfl
end Go.Proofs.YthpmcilljbmoiaaGreatDoor.Word
namespace Go.Proofs.YthpmcilljbmoiaaGreatDoor
open Go.RowKit Word

theorem c32_set (l : List Nat) (i x : Nat) : (c32 l).setIfInBounds i (.int .u32 (x : Nat)) = c32 (l.set i x) := by
  simp [c32, List.map_set]
theorem c32_size (l : List Nat) : (c32 l).size = l.length := by simp [c32]
theorem c32_one (l : List Nat) : (c32 l).all (·.oneCell') = true := by
  rw [Array.all_eq_true_iff_forall_mem]
  intro v hv
  simp only [c32, List.mem_toArray, List.mem_map] at hv
  obtain ⟨n, _, rfl⟩ := hv
  rfl
theorem info64 : (Tryz.prog.info? 278).map (·.size) = some 64 := by kernel_rfl

set_option maxRecDepth 100000 in
set_option maxHeartbeats 1000000 in
theorem schedule_any (m : List Nat) (b off cap : Nat) (w : World) (hm : ∀ i, m.getD i 0 < 256) (hc : ∀ i, i < 64 → w.cell? ⟨b, off + i, none⟩ = some (.int .u8 (m.getD i 0 : Nat))) :
    Calls Tryz.prog 157 #[.slice (some ⟨b, off, none⟩) 64 cap] w
      fun r w' => r = .returned (.agg (c32 (sched m))) ∧ Below w.heap.size w w' := by
  have HC := hide hc
  have HM := hide hm
  clear hc hm
  go_enter Tryz.func157, Tryz.ntmps157
  go_wp2_with fail
  obtain ⟨B, hB⟩ : ∃ B, B = w.heap.size := ⟨_, rfl⟩
  have HB := hide hB
  rw [← hB]
  clear hB
  go_loopw [9] (fun i wr => ∃ k : Nat, k ≤ 64 ∧ i = .int .i64 k ∧ Blk wr B 278 (c32 (List.replicate 64 0)) ∧ Blk wr (B + 1) 278 (c32 (fillW m k)) ∧ Below B w wr)
     (fun i _ => 64 - (intOf i).toNat)
  case atStart =>
    obtain rfl := HB.out
    refine ⟨0, by omega, rfl, (Blk.at _ _ _ _ rfl).alloc _, ?_, ((Below.refl _ _).alloc (by simp) _).alloc (by simp) _⟩
    rw [fillW_zero]
    exact Blk.at _ _ _ _ (by simp)
  case round =>
    obtain ⟨k, hk, rfl, b0, b1, hbel⟩ := hrel
    by_cases hlt : k < 64
    · have cM : wr.cell? ⟨b, off + k, none⟩ = some (.int .u8 (m.getD k 0 : Nat)) := by
        have := HC.out k hlt
        rw [hbel.cell (by have := World.block_lt_of_cell? _ _ this; rw [HB.out]; exact this)]; exact this
      have lM := HM.out k
      have cW : wr.cell? ⟨B + 1, k / 4, none⟩ = some (.int .u32 (acc m (k / 4) (k % 4) : Nat)) := by
        rw [b1.cell, c32_get _ _ (by rw [fillW_len]; omega), fillW_at m k hlt]
      have fW := b1.frozen (k / 4)
      have lW := acc_lt3 m HM.out (k / 4) (k % 4) (by omega)
      have n1 := b1.set (k / 4) (.int .u32 ((acc m (k / 4) (k % 4) * 256 + m.getD k 0 : Nat) : Int))
      rw [c32_set, fillW_set m k hlt] at n1
      generalize m.getD k 0 = x at *
      generalize acc m (k / 4) (k % 4) = y at *
      have hso := shl_or2 y x lW lM
      go_wp2
      go_roundw
      case rel => exact ⟨k + 1, by omega, by go_num, b0.other _ _ (by simp), n1, hbel.setCell (by simp) _⟩
      case measure => simp [intOf]; omega
    · have e64 : k = 64 := by omega
      rw [e64, upTo_start] at b1
      clear e64
      go_wp2_with fail
      go_loopw [6] (fun i ws => ∃ t : Nat, 16 ≤ t ∧ t ≤ 64 ∧ i = .int .i64 t ∧ Blk ws B 278 (c32 (List.replicate 64 0)) ∧ Blk ws (B + 1) 278 (c32 (upTo m t)) ∧ Below B w ws)
        (fun i _ => 64 - (intOf i).toNat)
      case atStart => exact ⟨16, by omega, by omega, rfl, b0, b1, hbel⟩
      case round =>
        clear b0 b1 hbel
        obtain ⟨t, ht, ht', rfl, b0, b1, hbel⟩ := hrel
        by_cases hlt : t < 64
        · have cell : ∀ i, i < t → wr.cell? ⟨B + 1, i, none⟩ = some (.int .u32 ((grow (first m) (t - 16)).getD i 0 : Nat)) := fun i hi => by
            rw [b1.cell, c32_get _ _ (by rw [upTo_len m t ht (by omega)]; omega), upTo_get m t i ht hi]
          have lt := fun i => grow_lt (first m) (first_lt m HM.out) (t - 16) i
          have w2 : IntKind.i64.wrap ((t : Int) - 2) = ((t - 2 : Nat) : Int) := wrap_sub t 2 (by omega) (by omega)
          have c2 := cell (t - 2) (by omega)
          have l2 := lt (t - 2)
          have n2 : t - 2 < t := by omega
          have i2 : ((t - 2 : Nat) : Int) < 64 := by omega
          have w7 : IntKind.i64.wrap ((t : Int) - 7) = ((t - 7 : Nat) : Int) := wrap_sub t 7 (by omega) (by omega)
          have c7 := cell (t - 7) (by omega)
          have l7 := lt (t - 7)
          have n7 : t - 7 < t := by omega
          have i7 : ((t - 7 : Nat) : Int) < 64 := by omega
          have w15 : IntKind.i64.wrap ((t : Int) - 15) = ((t - 15 : Nat) : Int) := wrap_sub t 15 (by omega) (by omega)
          have c15 := cell (t - 15) (by omega)
          have l15 := lt (t - 15)
          have n15 : t - 15 < t := by omega
          have i15 : ((t - 15 : Nat) : Int) < 64 := by omega
          have w16 : IntKind.i64.wrap ((t : Int) - 16) = ((t - 16 : Nat) : Int) := wrap_sub t 16 (by omega) (by omega)
          have c16 := cell (t - 16) (by omega)
          have l16 := lt (t - 16)
          have n16 : t - 16 < t := by omega
          have i16 : ((t - 16 : Nat) : Int) < 64 := by omega
          have f1 := b1.frozen t
          have ct : wr.cell? ⟨B + 1, t, none⟩ = some (.int .u32 ((upTo m t).getD t 0 : Nat)) := by rw [b1.cell, c32_get _ _ (by rw [upTo_len m t ht (by omega)]; omega)]
          have Hn : Hid (nxt (grow (first m) (t - 16)) = (s1 ((grow (first m) (t - 16)).getD (t - 2) 0) + (grow (first m) (t - 16)).getD (t - 7) 0 + s0 ((grow (first m) (t - 16)).getD (t - 15) 0) + (grow (first m) (t - 16)).getD (t - 16) 0) % 4294967296) := by
            show nxt (grow (first m) (t - 16)) = _
            unfold nxt
            rw [grow_len, first_len, show 16 + (t - 16) = t by omega]
          have Hs := hide (upTo_set m t ht hlt)
          clear cell lt
          generalize (upTo m t).getD t 0 = xt at *
          generalize (grow (first m) (t - 16)).getD (t - 2) 0 = x2 at *
          generalize (grow (first m) (t - 16)).getD (t - 7) 0 = x7 at *
          generalize (grow (first m) (t - 16)).getD (t - 15) 0 = x15 at *
          generalize (grow (first m) (t - 16)).getD (t - 16) 0 = x16 at *
          generalize grow (first m) (t - 16) = gr at *
          generalize t - 2 = t2 at *
          generalize t - 7 = t7 at *
          generalize t - 15 = t15 at *
          generalize t - 16 = t16 at *
          have k2 : ∀ v, (wr.setCell ⟨B + 1, t, none⟩ v).cell? ⟨B + 1, t2, none⟩ = some (.int .u32 (x2 : Nat)) := fun v => by rw [World.cell?_setCell_other _ _ _ _ (by simp <;> omega)]; exact c2
          have k7 : ∀ v, (wr.setCell ⟨B + 1, t, none⟩ v).cell? ⟨B + 1, t7, none⟩ = some (.int .u32 (x7 : Nat)) := fun v => by rw [World.cell?_setCell_other _ _ _ _ (by simp <;> omega)]; exact c7
          have k15 : ∀ v, (wr.setCell ⟨B + 1, t, none⟩ v).cell? ⟨B + 1, t15, none⟩ = some (.int .u32 (x15 : Nat)) := fun v => by rw [World.cell?_setCell_other _ _ _ _ (by simp <;> omega)]; exact c15
          have k16 : ∀ v, (wr.setCell ⟨B + 1, t, none⟩ v).cell? ⟨B + 1, t16, none⟩ = some (.int .u32 (x16 : Nat)) := fun v => by rw [World.cell?_setCell_other _ _ _ _ (by simp <;> omega)]; exact c16
          go_wp2_with fail
          go_region_held3 (fun w' => w'.cell? ⟨B + 1, t2, none⟩ = some (.int .u32 (x2 : Nat)) ∧ w'.cell? ⟨B + 1, t7, none⟩ = some (.int .u32 (x7 : Nat)) ∧ w'.cell? ⟨B + 1, t15, none⟩ = some (.int .u32 (x15 : Nat)) ∧ w'.cell? ⟨B + 1, t16, none⟩ = some (.int .u32 (x16 : Nat))) (go_keep) (first | (go_at_call 207; refine (smallOne_any _ _ l2).mono ?_; rintro e w' ⟨rfl, rfl⟩) | (go_at_call 208; refine (smallNought_any _ _ l15).mono ?_; rintro e w' ⟨rfl, rfl⟩))
          have n1 := b1.set t (.int .u32 (IntKind.u32.wrap (IntKind.u32.wrap (IntKind.u32.wrap (((s1 x2 : Nat) : Int) + (x7 : Int)) + ((s0 x15 : Nat) : Int)) + (x16 : Int))))
          rw [show (c32 (upTo m t)).setIfInBounds t (.int .u32 (IntKind.u32.wrap (IntKind.u32.wrap (IntKind.u32.wrap (((s1 x2 : Nat) : Int) + (x7 : Int)) + ((s0 x15 : Nat) : Int)) + (x16 : Int)))) = c32 (upTo m (t + 1)) by rw [nxt_walk, ← Hn.out, c32_set, Hs.out]] at n1
          clear c2 c7 c15 c16 k2 k7 k15 k16 ct f1 w2 w7 w15 w16
          go_wp2
          go_roundw
          case rel => exact ⟨t + 1, by omega, by omega, by go_num, Blk.drew (b0.other _ _ (by simp)), Blk.drew n1, (hbel.setCell (by simp) _).drew⟩
          case measure => simp [intOf]; omega
        · obtain rfl : t = 64 := by omega
          rw [upTo_end] at b1
          have e64 : k = 64 := by omega
          subst e64
          have hsz : (Tryz.prog.info? 278).map (·.size) = some (c32 (sched m)).size := by rw [info64, c32_size, sched_len]
          have ho : (c32 (List.replicate 64 0)).size = (c32 (sched m)).size := by rw [c32_size, c32_size, sched_len]; rfl
          have n0 := b0.row (c32 (sched m))
          go_wp2_with (first | (refine wpList_load_row rfl 278 _ rfl (B + 1) rfl 278 _ (0, 0) _ b1 Tryz.underlying278 rfl hsz ?_) | (refine wpList_store_row rfl 278 _ _ rfl B (c32 (sched m)) rfl rfl 278 _ b0 hsz ho (c32_one _) ?_))
          refine bodyPost_ret (v := .agg (c32 (sched m))) (results_cell_row (p := 2) (ty := 278) Tryz.results157 _ _ B 278 (c32 (sched m)) (0, 0) _ rfl n0 Tryz.underlying278 rfl hsz) rfl ⟨rfl, ?_⟩
          rw [← HB.out]
          exact below_row hbel (by omega) _
end Go.Proofs.YthpmcilljbmoiaaGreatDoor
namespace Go.Proofs.YthpmcilljbmoiaaGreatDoor
open Go.RowKit

/-- n bytes of a number, the lowest last, into cells from a place on -/
def putc (cs : Array Value) (off : Nat) : Nat → Nat → Array Value
  | 0, _ => cs
  | n + 1, x => putc (cs.setIfInBounds (off + n) (.int .u8 ((x % 256 : Nat) : Int))) off n (x / 256)

set_option maxHeartbeats 1000000 in
theorem putNumber_any (b off n cap x : Nat) (t : TypeId) (cs : Array Value) (w : World) (hx : x < 18446744073709551616) (hn : n ≤ 64) (hs : off + n ≤ cs.size) (hb : Blk w b t cs) :
    Calls Tryz.prog 158 #[.slice (some ⟨b, off, none⟩) n cap, .int .u64 x] w
      fun r w' => r = .returned (.tuple #[]) ∧ Blk w' b t (putc cs off n x) ∧ Only b w w' := by
  go_enter Tryz.func158, Tryz.ntmps158
  go_wp2_with fail
  go_loopw [1, 4] (fun y i wr => ∃ (k z : Nat) (A : Array Value), k ≤ n ∧ z < 18446744073709551616 ∧ i = .int .i64 ((k : Int) - 1) ∧ y = .int .u64 z ∧ A.size = cs.size ∧ Blk wr b t A ∧ Hid (putc A off k z = putc cs off n x) ∧ Only b w wr)
     (fun _ i _ => (intOf i + 1).toNat)
  case atStart => exact ⟨n, x, cs, by omega, hx, rfl, rfl, rfl, hb, rfl, Only.refl _ _⟩
  case round =>
    obtain ⟨k, z, A, hk, hz, rfl, rfl, hA, b1, HP, ho⟩ := hrel
    cases k with
    | zero =>
      go_wp2
      go_end0
      exact ⟨rfl, by rw [← HP.out]; exact b1, ho⟩
    | succ k =>
      have c1 : wr.cell? ⟨b, off + k, none⟩ = some (A.getD (off + k) undef) := by
        rw [b1.cell]; simp [show off + k < A.size by omega]
      have f1 := b1.frozen (off + k)
      have e1 : ((k + 1 : Nat) : Int) - 1 = (k : Int) := by omega
      rw [e1]
      clear e1
      go_wp2
      refine ⟨⟨k, z / 256, A.setIfInBounds (off + k) (.int .u8 ((z % 256 : Nat) : Int)), by omega, by omega, rfl, congrArg (Value.int .u64) (by omega), by simp [hA], ?_, HP, ?_⟩, by simp [intOf]⟩
      · rw [show ((z : Int) % 256) = ((z % 256 : Nat) : Int) by omega]
        exact b1.set _ _
      · exact ho.set _ _

theorem putNumber_int (b off n cap : Nat) (y : Int) (t : TypeId) (cs : Array Value) (w : World) (h0 : 0 ≤ y) (hy : y < 18446744073709551616) (hn : n ≤ 64) (hs : off + n ≤ cs.size) (hb : Blk w b t cs) :
    Calls Tryz.prog 158 #[.slice (some ⟨b, off, none⟩) n cap, .int .u64 y] w
      fun r w' => r = .returned (.tuple #[]) ∧ Blk w' b t (putc cs off n y.toNat) ∧ Only b w w' := by
  obtain ⟨x, rfl⟩ := Int.eq_ofNat_of_zero_le h0
  exact putNumber_any b off n cap x t cs w (by omega) hn hs hb

/-- bytes as cells -/
def c8 (l : List Nat) : Array Value := (l.map fun (n : Nat) => Value.int .u8 n).toArray
theorem c8_get (l : List Nat) (i : Nat) (h : i < l.length) : (c8 l)[i]? = some (.int .u8 (l.getD i 0 : Nat)) := by
  simp [c8, h]
theorem c8_set (l : List Nat) (i x : Nat) : (c8 l).setIfInBounds i (.int .u8 (x : Nat)) = c8 (l.set i x) := by
  simp [c8, List.map_set]
theorem c8_size (l : List Nat) : (c8 l).size = l.length := by simp [c8]
theorem c8_one (l : List Nat) : (c8 l).all (·.oneCell') = true := by
  rw [Array.all_eq_true_iff_forall_mem]
  intro v hv
  simp only [c8, List.mem_toArray, List.mem_map] at hv
  obtain ⟨n, _, rfl⟩ := hv
  rfl
/-- a number in n bytes, the highest first -/
def be : Nat → Nat → List Nat
  | 0, _ => []
  | n + 1, x => be n (x / 256) ++ [x % 256]
theorem be_len : ∀ n x, (be n x).length = n
  | 0, _ => rfl
  | n + 1, x => by simp [be, be_len n]
theorem be_lt : ∀ n x, ∀ y ∈ be n x, y < 256
  | 0, _, y, h => by cases h
  | n + 1, x, y, h => by
    simp only [be, List.mem_append, List.mem_singleton] at h
    rcases h with h | h
    · exact be_lt n _ y h
    · omega
theorem putc_be (off : Nat) : ∀ (n x : Nat) (m : List Nat), off + n ≤ m.length → putc (c8 m) off n x = c8 (m.take off ++ be n x ++ m.drop (off + n))
  | 0, x, m, _ => by simp [putc, be]
  | n + 1, x, m, h => by
    rw [putc, c8_set, putc_be off n _ _ (by rw [List.length_set]; omega)]
    congr 1
    rw [List.take_set_of_le (by omega), be]
    have e : (m.set (off + n) (x % 256)).drop (off + n) = x % 256 :: m.drop (off + (n + 1)) := by
      rw [List.drop_set, if_neg (by omega), show off + n - (off + n) = 0 by omega]
      rw [List.drop_eq_getElem_cons (show off + n < m.length by omega), List.set_cons_zero]
      rfl
    rw [e]
    simp
def rows (n : Nat) : Nat := (n + 72) / 64 * 64
/-- a text with what makes whole blocks of it -/
def pad (l : List Nat) : List Nat := l ++ 128 :: (List.replicate (rows l.length - 9 - l.length) 0 ++ be 8 (8 * l.length))
theorem pad_len (l : List Nat) : (pad l).length = rows l.length := by
  simp [pad, be_len, rows]; omega
theorem pad_lt (l : List Nat) (h : ∀ i, l.getD i 0 < 256) (i : Nat) : (pad l).getD i 0 < 256 := by
  by_cases hi : i < (pad l).length
  · have hm : (pad l)[i] ∈ pad l := List.getElem_mem hi
    rw [List.getD_eq_getElem?_getD, List.getElem?_eq_getElem hi]
    simp only [Option.getD_some]
    generalize (pad l)[i] = y at hm
    simp only [pad, List.mem_append, List.mem_cons, List.mem_replicate] at hm
    rcases hm with hm | rfl | hm | hm
    · obtain ⟨k, hk, rfl⟩ := List.mem_iff_getElem.1 hm
      have := h k
      rwa [List.getD_eq_getElem?_getD, List.getElem?_eq_getElem hk] at this
    · decide
    · omega
    · exact be_lt _ _ y hm
  · rw [List.getD_eq_getElem?_getD, List.getElem?_eq_none (by omega)]; decide
theorem pad_made (l : List Nat) : putc ((c8 (l ++ List.replicate (rows l.length - l.length) 0)).setIfInBounds l.length (.int .u8 128)) (rows l.length - 8) 8 (8 * l.length) = c8 (pad l) := by
  have hr : l.length + 9 ≤ rows l.length := by unfold rows; omega
  have e0 := c8_set (l ++ List.replicate (rows l.length - l.length) 0) l.length 128
  rw [show ((128 : Nat) : Int) = 128 from rfl] at e0
  rw [e0, putc_be _ _ _ _ (by simp; omega)]
  congr 1
  obtain ⟨z, hz⟩ : ∃ z, rows l.length = l.length + 9 + z := ⟨rows l.length - l.length - 9, by omega⟩
  unfold pad
  rw [hz, show l.length + 9 + z - l.length = z + 8 + 1 by omega, List.replicate_succ, List.set_append_right _ _ (Nat.le_refl _), Nat.sub_self, List.set_cons_zero]
  rw [show l.length + 9 + z - 8 = l.length + (z + 1) by omega, show l.length + (z + 1) + 8 = l.length + (z + 9) by omega, List.take_length_add_append, List.drop_length_add_append]
  rw [show l.length + 9 + z - 9 - l.length = z by omega]
  simp [List.take_replicate]
end Go.Proofs.YthpmcilljbmoiaaGreatDoor
