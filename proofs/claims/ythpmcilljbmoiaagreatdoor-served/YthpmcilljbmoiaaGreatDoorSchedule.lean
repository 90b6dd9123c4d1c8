import Derived.Test.YthpmcilljbmoiaaGreatDoorRound
import Derived.Test.YthpmcilljbmoiaaGreatDoorBlk
import Derived.Test.YthpmcilljbmoiaaGreatDoorSched
import Derived.Deep.RegionHeld3
namespace Go.Proofs.YthpmcilljbmoiaaGreatDoor
open Go.RowKit Word

theorem c32_set (l : List Nat) (i x : Nat) : (c32 l).setIfInBounds i (.int .u32 (x : Nat)) = c32 (l.set i x) := by
  simp [c32, List.map_set]
theorem c32_size (l : List Nat) : (c32 l).size = l.length := by simp [c32]
theorem c32_one (l : List Nat) : (c32 l).all (·.oneCell') = true := by
  rw [Array.all_eq_true_iff_forall_mem]
  intro v hv
  simp only [c32, List.mem_toArray, List.mem_map] at hv
  obtain ⟨n, _, rfl⟩ := hv
  rfl
theorem info64 : (Tryz.prog.info? 278).map (·.size) = some 64 := by kernel_rfl

set_option maxRecDepth 100000 in
set_option maxHeartbeats 1000000 in
theorem schedule_any (m : List Nat) (b off cap : Nat) (w : World) (hm : ∀ i, m.getD i 0 < 256) (hc : ∀ i, i < 64 → w.cell? ⟨b, off + i, none⟩ = some (.int .u8 (m.getD i 0 : Nat))) :
    Calls Tryz.prog 157 #[.slice (some ⟨b, off, none⟩) 64 cap] w
      fun r w' => r = .returned (.agg (c32 (sched m))) ∧ Below w.heap.size w w' := by
  have HC := hide hc
  have HM := hide hm
  clear hc hm
  go_enter Tryz.func157, Tryz.ntmps157
  go_wp2_with fail
  obtain ⟨B, hB⟩ : ∃ B, B = w.heap.size := ⟨_, rfl⟩
  have HB := hide hB
  rw [← hB]
  clear hB
  go_loopw [9] (fun i wr => ∃ k : Nat, k ≤ 64 ∧ i = .int .i64 k ∧ Blk wr B 278 (c32 (List.replicate 64 0)) ∧ Blk wr (B + 1) 278 (c32 (fillW m k)) ∧ Below B w wr)
     (fun i _ => 64 - (intOf i).toNat)
  case atStart =>
    obtain rfl := HB.out
    refine ⟨0, by omega, rfl, (Blk.at _ _ _ _ rfl).alloc _, ?_, ((Below.refl _ _).alloc (by simp) _).alloc (by simp) _⟩
    rw [fillW_zero]
    exact Blk.at _ _ _ _ (by simp)
  case round =>
    obtain ⟨k, hk, rfl, b0, b1, hbel⟩ := hrel
    by_cases hlt : k < 64
    · have cM : wr.cell? ⟨b, off + k, none⟩ = some (.int .u8 (m.getD k 0 : Nat)) := by
        have := HC.out k hlt
        rw [hbel.cell (by have := World.block_lt_of_cell? _ _ this; rw [HB.out]; exact this)]; exact this
      have lM := HM.out k
      have cW : wr.cell? ⟨B + 1, k / 4, none⟩ = some (.int .u32 (acc m (k / 4) (k % 4) : Nat)) := by
        rw [b1.cell, c32_get _ _ (by rw [fillW_len]; omega), fillW_at m k hlt]
      have fW := b1.frozen (k / 4)
      have lW := acc_lt3 m HM.out (k / 4) (k % 4) (by omega)
      have n1 := b1.set (k / 4) (.int .u32 ((acc m (k / 4) (k % 4) * 256 + m.getD k 0 : Nat) : Int))
      rw [c32_set, fillW_set m k hlt] at n1
      generalize m.getD k 0 = x at *
      generalize acc m (k / 4) (k % 4) = y at *
      have hso := shl_or2 y x lW lM
      go_wp2
      go_roundw
      case rel => exact ⟨k + 1, by omega, by go_num, b0.other _ _ (by simp), n1, hbel.setCell (by simp) _⟩
      case measure => simp [intOf]; omega
    · have e64 : k = 64 := by omega
      rw [e64, upTo_start] at b1
      clear e64
      go_wp2_with fail
      go_loopw [6] (fun i ws => ∃ t : Nat, 16 ≤ t ∧ t ≤ 64 ∧ i = .int .i64 t ∧ Blk ws B 278 (c32 (List.replicate 64 0)) ∧ Blk ws (B + 1) 278 (c32 (upTo m t)) ∧ Below B w ws)
        (fun i _ => 64 - (intOf i).toNat)
      case atStart => exact ⟨16, by omega, by omega, rfl, b0, b1, hbel⟩
      case round =>
        clear b0 b1 hbel
        obtain ⟨t, ht, ht', rfl, b0, b1, hbel⟩ := hrel
        by_cases hlt : t < 64
        · have cell : ∀ i, i < t → wr.cell? ⟨B + 1, i, none⟩ = some (.int .u32 ((grow (first m) (t - 16)).getD i 0 : Nat)) := fun i hi => by
            rw [b1.cell, c32_get _ _ (by rw [upTo_len m t ht (by omega)]; omega), upTo_get m t i ht hi]
          have lt := fun i => grow_lt (first m) (first_lt m HM.out) (t - 16) i
          have w2 : IntKind.i64.wrap ((t : Int) - 2) = ((t - 2 : Nat) : Int) := wrap_sub t 2 (by omega) (by omega)
          have c2 := cell (t - 2) (by omega)
          have l2 := lt (t - 2)
          have n2 : t - 2 < t := by omega
          have i2 : ((t - 2 : Nat) : Int) < 64 := by omega
          have w7 : IntKind.i64.wrap ((t : Int) - 7) = ((t - 7 : Nat) : Int) := wrap_sub t 7 (by omega) (by omega)
          have c7 := cell (t - 7) (by omega)
          have l7 := lt (t - 7)
          have n7 : t - 7 < t := by omega
          have i7 : ((t - 7 : Nat) : Int) < 64 := by omega
          have w15 : IntKind.i64.wrap ((t : Int) - 15) = ((t - 15 : Nat) : Int) := wrap_sub t 15 (by omega) (by omega)
          have c15 := cell (t - 15) (by omega)
          have l15 := lt (t - 15)
          have n15 : t - 15 < t := by omega
          have i15 : ((t - 15 : Nat) : Int) < 64 := by omega
          have w16 : IntKind.i64.wrap ((t : Int) - 16) = ((t - 16 : Nat) : Int) := wrap_sub t 16 (by omega) (by omega)
          have c16 := cell (t - 16) (by omega)
          have l16 := lt (t - 16)
          have n16 : t - 16 < t := by omega
          have i16 : ((t - 16 : Nat) : Int) < 64 := by omega
          have f1 := b1.frozen t
          have ct : wr.cell? ⟨B + 1, t, none⟩ = some (.int .u32 ((upTo m t).getD t 0 : Nat)) := by rw [b1.cell, c32_get _ _ (by rw [upTo_len m t ht (by omega)]; omega)]
          have Hn : Hid (nxt (grow (first m) (t - 16)) = (s1 ((grow (first m) (t - 16)).getD (t - 2) 0) + (grow (first m) (t - 16)).getD (t - 7) 0 + s0 ((grow (first m) (t - 16)).getD (t - 15) 0) + (grow (first m) (t - 16)).getD (t - 16) 0) % 4294967296) := by
            show nxt (grow (first m) (t - 16)) = _
            unfold nxt
            rw [grow_len, first_len, show 16 + (t - 16) = t by omega]
          have Hs := hide (upTo_set m t ht hlt)
          clear cell lt
          generalize (upTo m t).getD t 0 = xt at *
          generalize (grow (first m) (t - 16)).getD (t - 2) 0 = x2 at *
          generalize (grow (first m) (t - 16)).getD (t - 7) 0 = x7 at *
          generalize (grow (first m) (t - 16)).getD (t - 15) 0 = x15 at *
          generalize (grow (first m) (t - 16)).getD (t - 16) 0 = x16 at *
          generalize grow (first m) (t - 16) = gr at *
          generalize t - 2 = t2 at *
          generalize t - 7 = t7 at *
          generalize t - 15 = t15 at *
          generalize t - 16 = t16 at *
          have k2 : ∀ v, (wr.setCell ⟨B + 1, t, none⟩ v).cell? ⟨B + 1, t2, none⟩ = some (.int .u32 (x2 : Nat)) := fun v => by rw [World.cell?_setCell_other _ _ _ _ (by simp <;> omega)]; exact c2
          have k7 : ∀ v, (wr.setCell ⟨B + 1, t, none⟩ v).cell? ⟨B + 1, t7, none⟩ = some (.int .u32 (x7 : Nat)) := fun v => by rw [World.cell?_setCell_other _ _ _ _ (by simp <;> omega)]; exact c7
          have k15 : ∀ v, (wr.setCell ⟨B + 1, t, none⟩ v).cell? ⟨B + 1, t15, none⟩ = some (.int .u32 (x15 : Nat)) := fun v => by rw [World.cell?_setCell_other _ _ _ _ (by simp <;> omega)]; exact c15
          have k16 : ∀ v, (wr.setCell ⟨B + 1, t, none⟩ v).cell? ⟨B + 1, t16, none⟩ = some (.int .u32 (x16 : Nat)) := fun v => by rw [World.cell?_setCell_other _ _ _ _ (by simp <;> omega)]; exact c16
          go_wp2_with fail
          go_region_held3 (fun w' => w'.cell? ⟨B + 1, t2, none⟩ = some (.int .u32 (x2 : Nat)) ∧ w'.cell? ⟨B + 1, t7, none⟩ = some (.int .u32 (x7 : Nat)) ∧ w'.cell? ⟨B + 1, t15, none⟩ = some (.int .u32 (x15 : Nat)) ∧ w'.cell? ⟨B + 1, t16, none⟩ = some (.int .u32 (x16 : Nat))) (go_keep) (first | (go_at_call 207; refine (smallOne_any _ _ l2).mono ?_; rintro e w' ⟨rfl, rfl⟩) | (go_at_call 208; refine (smallNought_any _ _ l15).mono ?_; rintro e w' ⟨rfl, rfl⟩))
          have n1 := b1.set t (.int .u32 (IntKind.u32.wrap (IntKind.u32.wrap (IntKind.u32.wrap (((s1 x2 : Nat) : Int) + (x7 : Int)) + ((s0 x15 : Nat) : Int)) + (x16 : Int))))
          rw [show (c32 (upTo m t)).setIfInBounds t (.int .u32 (IntKind.u32.wrap (IntKind.u32.wrap (IntKind.u32.wrap (((s1 x2 : Nat) : Int) + (x7 : Int)) + ((s0 x15 : Nat) : Int)) + (x16 : Int)))) = c32 (upTo m (t + 1)) by rw [nxt_walk, ← Hn.out, c32_set, Hs.out]] at n1
          clear c2 c7 c15 c16 k2 k7 k15 k16 ct f1 w2 w7 w15 w16
          go_wp2
          go_roundw
          case rel => exact ⟨t + 1, by omega, by omega, by go_num, Blk.drew (b0.other _ _ (by simp)), Blk.drew n1, (hbel.setCell (by simp) _).drew⟩
          case measure => simp [intOf]; omega
        · obtain rfl : t = 64 := by omega
          rw [upTo_end] at b1
          have e64 : k = 64 := by omega
          subst e64
          have hsz : (Tryz.prog.info? 278).map (·.size) = some (c32 (sched m)).size := by rw [info64, c32_size, sched_len]
          have ho : (c32 (List.replicate 64 0)).size = (c32 (sched m)).size := by rw [c32_size, c32_size, sched_len]; rfl
          have n0 := b0.row (c32 (sched m))
          go_wp2_with (first | (refine wpList_load_row rfl 278 _ rfl (B + 1) rfl 278 _ (0, 0) _ b1 Tryz.underlying278 rfl hsz ?_) | (refine wpList_store_row rfl 278 _ _ rfl B (c32 (sched m)) rfl rfl 278 _ b0 hsz ho (c32_one _) ?_))
          refine bodyPost_ret (v := .agg (c32 (sched m))) (results_cell_row (p := 2) (ty := 278) Tryz.results157 _ _ B 278 (c32 (sched m)) (0, 0) _ rfl n0 Tryz.underlying278 rfl hsz) rfl ⟨rfl, ?_⟩
          rw [← HB.out]
          exact below_row hbel (by omega) _
end Go.Proofs.YthpmcilljbmoiaaGreatDoor
