import Derived.Test.YthpmcilljbmoiaaGreatDoorBegin
import Derived.Deep.DeepFit
namespace Go.Proofs.YthpmcilljbmoiaaGreatDoor
open Go.RowKit Word

set_option maxRecDepth 100000 in
theorem slice_out (OB i : Nat) (h : i < 8) (w : World) : (Instr.sliceAt 217 (.pointer (some ⟨OB, 0, none⟩)) (some (.int .i64 (4 * (i : Int)))) (some (.int .i64 (4 * (i : Int) + 4))) none).run Tryz.prog w = .ok (.slice (some ⟨OB, 4 * i, none⟩) 4 (32 - 4 * i)) w := by
  match i, h with
  | 0, _ => rfl
  | 1, _ => rfl
  | 2, _ => rfl
  | 3, _ => rfl
  | 4, _ => rfl
  | 5, _ => rfl
  | 6, _ => rfl
  | 7, _ => rfl
theorem wrap_add (a k : Nat) (h : a + k ≤ 9223372036854775807) : IntKind.i64.wrap ((a : Int) + (k : Int)) = ((a + k : Nat) : Int) := by
  rw [IntKind.wrap_i64]; omega

set_option maxRecDepth 100000 in
set_option maxHeartbeats 1000000 in
theorem sumOf_any (K : List Nat) (s : ByteArray) (w : World) (hs : s.size ≤ 120) (hKl : ∀ i, K.getD i 0 < 4294967296)
    (hT : ∀ i, i < 64 → w.cell? ⟨0, i, none⟩ = some (.int .u32 (K.getD i 0 : Nat))) :
    Calls Tryz.prog 111 #[.string s] w
      fun r w' => r = .returned (.agg (c8 (sumBytes (hashTo K (pad (nats s)) (rows s.size / 64))))) ∧ Below w.heap.size w w' := by
  have HT := hide hT
  have HK := hide hKl
  clear hT hKl
  go_enter Tryz.func111, Tryz.ntmps111
  go_wp2_with fail
  refine (begin_any _).mono ?_
  rintro e w1 ⟨rfl, hb1⟩
  go_wp2_with fail
  refine (padded_any s _ hs).mono ?_
  rintro e w2 ⟨rfl, bp, hb2⟩
  go_wp2_with fail
  have z1 : Blk w2 w1.heap.size 275 #[.int .u32 (H0.a : Nat), .int .u32 (H0.b : Nat), .int .u32 (H0.c : Nat), .int .u32 (H0.d : Nat), .int .u32 (H0.e : Nat), .int .u32 (H0.f : Nat), .int .u32 (H0.g : Nat), .int .u32 (H0.h : Nat)] := (Blk.at w1 275 #[.int .u32 (H0.a : Nat), .int .u32 (H0.b : Nat), .int .u32 (H0.c : Nat), .int .u32 (H0.d : Nat), .int .u32 (H0.e : Nat), .int .u32 (H0.f : Nat), .int .u32 (H0.g : Nat), .int .u32 (H0.h : Nat)] _ rfl).below hb2 (by simp)
  have z0 : Blk w2 w.heap.size 217 (c8 (List.replicate 32 0)) := (((Blk.at w 217 (c8 (List.replicate 32 0)) _ rfl).below hb1 (by simp)).alloc _).below hb2 (by have := hb1.size; simp at this ⊢; omega)
  have hlt : w.heap.size < w1.heap.size := by have := hb1.size; simp at this; omega
  have hbel : Below w.heap.size w w2 := ((((Below.refl w.heap.size w).alloc (Nat.le_refl _) _).trans (hb1.mono (by simp))).alloc (by omega) _).trans (hb2.mono (by simp; omega))
  rw [World.size_alloc] at bp
  clear hb1 hb2
  have hRm : Hid (rows s.size % 64 = 0) := by show rows s.size % 64 = 0; unfold rows; omega
  have hRl : rows s.size ≤ 192 := by unfold rows; omega
  have hlen : (pad (nats s)).length = rows s.size := by rw [pad_len, nats_len]
  have hlt8 : ∀ i, (pad (nats s)).getD i 0 < 256 := pad_lt (nats s) (nats_lt s)
  generalize hpm : pad (nats s) = m at *
  generalize hpr : rows s.size = R at *
  have HPM := hide hpm
  have HPR := hide hpr
  clear hpm hpr
  generalize w1.heap.size = hb at *
  have HL := hide hlen
  have HM := hide hlt8
  clear hlen hlt8
  obtain ⟨B, hB⟩ : ∃ B, B = w.heap.size := ⟨_, rfl⟩
  have HB := hide hB
  rw [← hB] at z0 hlt hbel
  rw [← hB]
  clear hB
  have Hinit : Hid (hashTo K m 0 = H0) := rfl
  go_loopw [5] (fun a wr => ∃ j : Nat, 64 * j ≤ R ∧ a = .int .i64 ((64 * j : Nat) : Int) ∧ Blk wr B 217 (c8 (List.replicate 32 0)) ∧ Blk wr hb 275 #[.int .u32 ((hashTo K m j).a : Nat), .int .u32 ((hashTo K m j).b : Nat), .int .u32 ((hashTo K m j).c : Nat), .int .u32 ((hashTo K m j).d : Nat), .int .u32 ((hashTo K m j).e : Nat), .int .u32 ((hashTo K m j).f : Nat), .int .u32 ((hashTo K m j).g : Nat), .int .u32 ((hashTo K m j).h : Nat)] ∧ Blk wr (hb + 1) 5 (c8 m) ∧ Below B w wr)
    (fun a _ => R - (intOf a).toNat)
  case atStart => exact ⟨0, by omega, rfl, z0, z1, bp, hbel⟩
  case round =>
    clear z0 z1 bp hbel
    obtain ⟨j, hj, rfl, z0, z1, bp, hbel⟩ := hrel
    by_cases hlt : 64 * j < R
    · have hr64 : 64 * j + 64 ≤ R := by have := hRm.out; omega
      have ok := hashTo_ok K m j
      have Hn : Hid (hashTo K m (j + 1) = block K (sched (m.drop (64 * j))) (hashTo K m j)) := rfl
      have hcell : Hid (∀ (w' : World), Below wr.heap.size wr w' → ∀ i, i < 64 → w'.cell? ⟨hb + 1, 64 * j + i, none⟩ = some (.int .u8 ((m.drop (64 * j)).getD i 0 : Nat))) := by
        intro w' hb' i hi
        rw [hb'.cell bp.lt, bp.cell, c8_get _ _ (by rw [HL.out]; omega), drop_getD]
      have htab : Hid (∀ (w' : World), Below wr.heap.size wr w' → ∀ i, i < 64 → w'.cell? ⟨0, i, none⟩ = some (.int .u32 (K.getD i 0 : Nat))) := by
        intro w' hb' i hi
        have h0 := HT.out i hi
        have hl := World.block_lt_of_cell? _ _ h0
        rw [hb'.cell (Nat.lt_of_lt_of_le hl hbel.size), hbel.cell (by rw [HB.out]; exact hl)]; exact h0
      have ml : Hid (∀ i, (m.drop (64 * j)).getD i 0 < 256) := by
        intro i; rw [drop_getD]; exact HM.out _
      generalize hashTo K m j = σ at *
      generalize m.drop (64 * j) = mj at *
      generalize ha : 64 * j = a at *
      have Ha := hide ha
      clear ha
      have wa : IntKind.i64.wrap ((a : Int) + 64) = (a : Int) + 64 := by rw [IntKind.wrap_i64]; omega
      have i1 : (a : Int) ≤ (a : Int) + 64 := by omega
      have i2 : (a : Int) + 64 ≤ (R : Int) := by omega
      have i3 : (0 : Int) ≤ (a : Int) + 64 := by omega
      have i4 : ((a : Int) + 64).toNat - a = 64 := by omega
      have d0 := z1.cell 0
      have d1 := z1.cell 1
      have d2 := z1.cell 2
      have d3 := z1.cell 3
      have d4 := z1.cell 4
      have d5 := z1.cell 5
      have d6 := z1.cell 6
      have d7 := z1.cell 7
      simp only [List.getElem?_toArray, List.getElem?_cons_zero, List.getElem?_cons_succ] at d0 d1 d2 d3 d4 d5 d6 d7
      go_wp2_with fail
      have T2 := hide (schedule_any mj (hb + 1) a (R - a) wr.drew ml.out (hcell.out wr.drew (Below.drew (Below.refl wr.heap.size wr))))
      clear hcell
      go_region_with (first | (go_at_call 157; go_fit T2.out; rintro e w3 ⟨rfl, hb3⟩; (have z3 := (Blk.drew z1).below hb3 z1.lt); (have e0 := z3.cell 0); (have e1 := z3.cell 1); (have e2 := z3.cell 2); (have e3 := z3.cell 3); (have e4 := z3.cell 4); (have e5 := z3.cell 5); (have e6 := z3.cell 6); (have e7 := z3.cell 7); simp only [List.getElem?_toArray, List.getElem?_cons_zero, List.getElem?_cons_succ] at e0 e1 e2 e3 e4 e5 e6 e7) | (go_at_call 156; refine (behind_st K (sched mj) σ _ ok (sched_len mj) (sched_lt mj ml.out) HK.out (htab.out _ ((Below.refl _ _).drew.trans hb3))).mono ?_; rintro e w4 ⟨rfl, hb4⟩; (have z4 := z3.below hb4 z3.lt); (have f4 := z4.frozen); (have g0 := z4.cell 0); (have g1 := z4.cell 1); (have g2 := z4.cell 2); (have g3 := z4.cell 3); (have g4 := z4.cell 4); (have g5 := z4.cell 5); (have g6 := z4.cell 6); (have g7 := z4.cell 7); simp only [List.getElem?_toArray, List.getElem?_cons_zero, List.getElem?_cons_succ] at g0 g1 g2 g3 g4 g5 g6 g7))
      all_goals
        obtain ⟨n3, nb, nB⟩ := set8 z4 (.int .u32 ((block K (sched mj) σ).a : Nat)) (.int .u32 ((block K (sched mj) σ).b : Nat)) (.int .u32 ((block K (sched mj) σ).c : Nat)) (.int .u32 ((block K (sched mj) σ).d : Nat)) (.int .u32 ((block K (sched mj) σ).e : Nat)) (.int .u32 ((block K (sched mj) σ).f : Nat)) (.int .u32 ((block K (sched mj) σ).g : Nat)) (.int .u32 ((block K (sched mj) σ).h : Nat)) rfl
        clear d0 d1 d2 d3 d4 d5 d6 d7 e0 e1 e2 e3 e4 e5 e6 e7 f4 g0 g1 g2 g3 g4 g5 g6 g7 wa i1 i2 i3 i4
        have s3 := hb3.size
        simp at s3
        go_wp2
        go_roundw
        case rel => exact ⟨j + 1, by have := Ha.out; omega, congrArg (Value.int .i64) (by have := Ha.out; omega), nb _ _ _ (by omega) ((((Blk.drew z0).below hb3 z0.lt)).below hb4 (by have := z0.lt; omega)), (by rw [show hashTo K m (j + 1) = block K (sched mj) σ from Hn.out]; exact n3), nb _ _ _ (by omega) ((((Blk.drew bp).below hb3 bp.lt)).below hb4 (by have := bp.lt; omega)), nB _ _ (by omega) ((hbel.drew.trans (hb3.mono (by have := z0.lt; simp; omega))).trans (hb4.mono (by have := z0.lt; omega)))⟩
        case measure => simp [intOf]; omega
    · have ok := hashTo_ok K m j
      have HJ : Hid (j = R / 64) := by show j = R / 64; omega
      generalize hσ : hashTo K m j = σ at *
      have Hσ := hide hσ
      clear hσ
      generalize 64 * j = a at *
      have hhb := z1.lt
      have d0 := z1.cell 0
      have d1 := z1.cell 1
      have d2 := z1.cell 2
      have d3 := z1.cell 3
      have d4 := z1.cell 4
      have d5 := z1.cell 5
      have d6 := z1.cell 6
      have d7 := z1.cell 7
      simp only [List.getElem?_toArray, List.getElem?_cons_zero, List.getElem?_cons_succ] at d0 d1 d2 d3 d4 d5 d6 d7
      go_wp2_with fail
      have o0 : Blk (wr.alloc (.cells (c8 (List.replicate 32 0)) 217)) wr.heap.size 217 (c8 (outTo σ.words 0)) := by rw [outTo_start]; exact Blk.new _ _ _
      have z0' := z0.alloc (.cells (c8 (List.replicate 32 0)) 217)
      have hbel' := hbel.alloc (by have := z0.lt; omega) (.cells (c8 (List.replicate 32 0)) 217)
      have hOB : B < wr.heap.size := z0.lt
      clear z0 hbel z1 bp hhb d0 d1 d2 d3 d4 d5 d6 d7
      generalize wr.heap.size = OB at *
      go_loopw [27] (fun v ws => ∃ i : Nat, i ≤ 8 ∧ v = .int .i64 i ∧ Blk ws OB 217 (c8 (outTo σ.words i)) ∧ Blk ws B 217 (c8 (List.replicate 32 0)) ∧ Below B w ws)
        (fun v _ => 8 - (intOf v).toNat)
      case atStart => exact ⟨0, by omega, rfl, o0, z0', hbel'⟩
      case round =>
        clear o0 z0' hbel'
        obtain ⟨i, hi, rfl, o0, z0, hbel⟩ := hrel
        by_cases hlt8 : i < 8
        · have hix := index_st σ i hlt8
          have hsl := slice_out OB i hlt8
          have Hput := hide (outTo_put σ.words rfl i hlt8)
          have lw : σ.words.getD i 0 < 4294967296 := words_lt σ ok i
          have HS := hide (outTo_len σ.words rfl i hi)
          generalize σ.words.getD i 0 = x at *
          go_wp2_with fail
          refine (putNumber_int _ _ _ _ _ 217 _ _ (by omega) (by omega) (by omega) (by rw [c8_size, HS.out]; omega) o0).mono ?_
          rintro e w5 ⟨rfl, o1, ho⟩
          rw [Int.toNat_natCast, Hput.out] at o1
          have z1 := z0.only ho (by omega)
          have hbel1 := Below.only hbel ho (by omega)
          clear o0 z0 hbel ho hix hsl
          go_wp2
          go_roundw
          case rel => exact ⟨i + 1, by omega, by go_num, o1, z1, hbel1⟩
          case measure => simp [intOf]; omega
        · obtain rfl : i = 8 := by omega
          rw [outTo_end] at o0
          have hsz : (Tryz.prog.info? 217).map (·.size) = some (c8 (sumBytes σ)).size := by rw [info32, c8_size, sumBytes_len]
          have ho : (c8 (List.replicate 32 0)).size = (c8 (sumBytes σ)).size := by rw [c8_size, c8_size, sumBytes_len]; rfl
          have n0 := z0.row (c8 (sumBytes σ))
          go_wp2_with (first | (refine wpList_load_row rfl 217 _ rfl OB rfl 217 _ (0, 0) _ o0 Tryz.underlying217 rfl hsz ?_) | (refine wpList_store_row rfl 217 _ _ rfl B (c8 (sumBytes σ)) rfl rfl 217 _ z0 hsz ho (c8_one _) ?_))
          refine bodyPost_ret (v := .agg (c8 (sumBytes σ))) (results_cell_row (p := 2) (ty := 217) Tryz.results111 _ _ B 217 (c8 (sumBytes σ)) (0, 0) _ rfl n0 Tryz.underlying217 rfl hsz) rfl ⟨?_, ?_⟩
          · rw [HPM.out, HPR.out, ← HJ.out, Hσ.out]
          · rw [← HB.out]
            exact below_row hbel (by omega) _
end Go.Proofs.YthpmcilljbmoiaaGreatDoor
