import Derived.Test.YthpmcilljbmoiaaGreatDoorZBehind
import Derived.Test.YthpmcilljbmoiaaGreatDoorZ16
import Derived.Test.YthpmcilljbmoiaaGreatDoorZPadded
import Derived.Deep.DeepFit
import Derived.Test.YthpmcilljbmoiaaGreatDoorZ01
import Derived.Laws.IdiomStrings
import Derived.Laws.AppendOwn
namespace Go.Proofs.YthpmcilljbmoiaaGreatDoor
open Go.RowKit Word

/-- the words with which the sum begins -/
def H0 : St := ⟨1779033703, 3144134277, 1013904242, 2773480762, 1359893119, 2600822924, 528734635, 1541459225⟩
set_option maxHeartbeats 1000000 in
theorem begin_any (w : World) :
    Calls Tryz.prog 154 #[] w fun r w' => r = .returned (.agg #[.int .u32 (H0.a : Nat), .int .u32 (H0.b : Nat), .int .u32 (H0.c : Nat), .int .u32 (H0.d : Nat), .int .u32 (H0.e : Nat), .int .u32 (H0.f : Nat), .int .u32 (H0.g : Nat), .int .u32 (H0.h : Nat)]) ∧ Below w.heap.size w w' := by
  go_enter Tryz.func154, Tryz.ntmps154
  go_wp2
  refine bodyPost_ret (v := .agg #[.int .u32 (H0.a : Nat), .int .u32 (H0.b : Nat), .int .u32 (H0.c : Nat), .int .u32 (H0.d : Nat), .int .u32 (H0.e : Nat), .int .u32 (H0.f : Nat), .int .u32 (H0.g : Nat), .int .u32 (H0.h : Nat)]) (by simp [results, Tryz.results154, go_sem, H0]) rfl ⟨rfl, ?_⟩
  exact (Below.refl _ _).alloc (Nat.le_refl _) _
theorem behind_st (K W : List Nat) (s : St) (w : World) (hs : s.ok) (hW : W.length = 64) (hWl : ∀ i, W.getD i 0 < 4294967296) (hKl : ∀ i, K.getD i 0 < 4294967296)
    (hT : ∀ i, i < 64 → w.cell? ⟨0, i, none⟩ = some (.int .u32 (K.getD i 0 : Nat))) :
    Calls Tryz.prog 156 #[.agg #[.int .u32 (s.a : Nat), .int .u32 (s.b : Nat), .int .u32 (s.c : Nat), .int .u32 (s.d : Nat), .int .u32 (s.e : Nat), .int .u32 (s.f : Nat), .int .u32 (s.g : Nat), .int .u32 (s.h : Nat)], .agg (c32 W)] w
      fun r w' => r = .returned (.agg #[.int .u32 ((block K W s).a : Nat), .int .u32 ((block K W s).b : Nat), .int .u32 ((block K W s).c : Nat), .int .u32 ((block K W s).d : Nat), .int .u32 ((block K W s).e : Nat), .int .u32 ((block K W s).f : Nat), .int .u32 ((block K W s).g : Nat), .int .u32 ((block K W s).h : Nat)]) ∧ Below w.heap.size w w' := behind_any K W s w hs hW hWl hKl hT
/-- the state behind so many blocks -/
def hashTo (K m : List Nat) : Nat → St
  | 0 => H0
  | j + 1 => block K (sched (m.drop (64 * j))) (hashTo K m j)
theorem hashTo_ok (K m : List Nat) : ∀ j, (hashTo K m j).ok
  | 0 => by simp [hashTo, H0, St.ok]
  | j + 1 => block_ok _ _ _
theorem drop_getD (m : List Nat) (a i : Nat) : (m.drop a).getD i 0 = m.getD (a + i) 0 := by
  simp [List.getD_eq_getElem?_getD]
/-- the first i words of the sum, in bytes; noughts behind them -/
def outTo (l : List Nat) (i : Nat) : List Nat := (l.take i).flatMap (be 4) ++ List.replicate (32 - 4 * i) 0
theorem flat_len (l : List Nat) : (l.flatMap (be 4)).length = 4 * l.length := by
  induction l with
  | nil => rfl
  | cons x l ih => simp [List.flatMap_cons, be_len, ih]; omega
theorem outTo_len (l : List Nat) (hl : l.length = 8) (i : Nat) (h : i ≤ 8) : (outTo l i).length = 32 := by
  unfold outTo; rw [List.length_append, flat_len, List.length_take, List.length_replicate, hl]; omega
theorem outTo_put (l : List Nat) (hl : l.length = 8) (i : Nat) (h : i < 8) : putc (c8 (outTo l i)) (4 * i) 4 (l.getD i 0) = c8 (outTo l (i + 1)) := by
  rw [putc_be _ _ _ _ (by rw [outTo_len l hl i (by omega)]; omega)]
  congr 1
  have ht : (l.take i).length = i := by rw [List.length_take]; omega
  have hA : ((l.take i).flatMap (be 4)).length = 4 * i := by rw [flat_len, ht]
  unfold outTo
  rw [List.take_append_of_le_length (by omega), List.take_of_length_le (by omega), List.drop_append, List.drop_eq_nil_of_le (by omega), List.nil_append, hA]
  rw [List.take_succ_eq_append_getElem (by omega), List.flatMap_append]
  rw [List.drop_replicate, show 32 - 4 * i - (4 * i + 4 - 4 * i) = 32 - 4 * (i + 1) by omega]
  rw [List.getD_eq_getElem?_getD, List.getElem?_eq_getElem (show i < l.length by omega)]
  simp
/-- the sum's bytes -/
def sumBytes (σ : St) : List Nat := σ.words.flatMap (be 4)
theorem sumBytes_len (σ : St) : (sumBytes σ).length = 32 := by rw [sumBytes, flat_len]; rfl
theorem outTo_end (σ : St) : outTo σ.words 8 = sumBytes σ := by simp [outTo, sumBytes, St.words]
theorem outTo_start (l : List Nat) : outTo l 0 = List.replicate 32 0 := by simp [outTo]
set_option maxRecDepth 100000 in
theorem index_st (σ : St) (i : Nat) (h : i < 8) (w : World) : (Instr.index 275 (.agg #[.int .u32 (σ.a : Nat), .int .u32 (σ.b : Nat), .int .u32 (σ.c : Nat), .int .u32 (σ.d : Nat), .int .u32 (σ.e : Nat), .int .u32 (σ.f : Nat), .int .u32 (σ.g : Nat), .int .u32 (σ.h : Nat)]) (.int .i64 i)).run Tryz.prog w = .ok (.int .u32 (σ.words.getD i 0 : Nat)) w := by
  match i, h with
  | 0, _ => rfl
  | 1, _ => rfl
  | 2, _ => rfl
  | 3, _ => rfl
  | 4, _ => rfl
  | 5, _ => rfl
  | 6, _ => rfl
  | 7, _ => rfl
theorem info32 : (Tryz.prog.info? 217).map (·.size) = some 32 := by kernel_rfl
end Go.Proofs.YthpmcilljbmoiaaGreatDoor
namespace Go.Proofs.YthpmcilljbmoiaaGreatDoor
open Go.RowKit Word

set_option maxRecDepth 100000 in
theorem slice_out (OB i : Nat) (h : i < 8) (w : World) : (Instr.sliceAt 217 (.pointer (some ⟨OB, 0, none⟩)) (some (.int .i64 (4 * (i : Int)))) (some (.int .i64 (4 * (i : Int) + 4))) none).run Tryz.prog w = .ok (.slice (some ⟨OB, 4 * i, none⟩) 4 (32 - 4 * i)) w := by
  match i, h with
  | 0, _ => rfl
  | 1, _ => rfl
  | 2, _ => rfl
  | 3, _ => rfl
  | 4, _ => rfl
  | 5, _ => rfl
  | 6, _ => rfl
  | 7, _ => rfl
theorem wrap_add (a k : Nat) (h : a + k ≤ 9223372036854775807) : IntKind.i64.wrap ((a : Int) + (k : Int)) = ((a + k : Nat) : Int) := by
  rw [IntKind.wrap_i64]; omega

set_option maxRecDepth 100000 in
set_option maxHeartbeats 1000000 in
theorem sumOf_any (K : List Nat) (s : ByteArray) (w : World) (hs : s.size ≤ 120) (hKl : ∀ i, K.getD i 0 < 4294967296)
    (hT : ∀ i, i < 64 → w.cell? ⟨0, i, none⟩ = some (.int .u32 (K.getD i 0 : Nat))) :
    Calls Tryz.prog 111 #[.string s] w
      fun r w' => r = .returned (.agg (c8 (sumBytes (hashTo K (pad (nats s)) (rows s.size / 64))))) ∧ Below w.heap.size w w' := by
  have HT := hide hT
  have HK := hide hKl
  clear hT hKl
  go_enter Tryz.func111, Tryz.ntmps111
  go_wp2_with fail
  refine (begin_any _).mono ?_
  rintro e w1 ⟨rfl, hb1⟩
  go_wp2_with fail
  refine (padded_any s _ hs).mono ?_
  rintro e w2 ⟨rfl, bp, hb2⟩
  go_wp2_with fail
  have z1 : Blk w2 w1.heap.size 275 #[.int .u32 (H0.a : Nat), .int .u32 (H0.b : Nat), .int .u32 (H0.c : Nat), .int .u32 (H0.d : Nat), .int .u32 (H0.e : Nat), .int .u32 (H0.f : Nat), .int .u32 (H0.g : Nat), .int .u32 (H0.h : Nat)] := (Blk.at w1 275 #[.int .u32 (H0.a : Nat), .int .u32 (H0.b : Nat), .int .u32 (H0.c : Nat), .int .u32 (H0.d : Nat), .int .u32 (H0.e : Nat), .int .u32 (H0.f : Nat), .int .u32 (H0.g : Nat), .int .u32 (H0.h : Nat)] _ rfl).below hb2 (by simp)
  have z0 : Blk w2 w.heap.size 217 (c8 (List.replicate 32 0)) := (((Blk.at w 217 (c8 (List.replicate 32 0)) _ rfl).below hb1 (by simp)).alloc _).below hb2 (by have := hb1.size; simp at this ⊢; omega)
  have hlt : w.heap.size < w1.heap.size := by have := hb1.size; simp at this; omega
  have hbel : Below w.heap.size w w2 := ((((Below.refl w.heap.size w).alloc (Nat.le_refl _) _).trans (hb1.mono (by simp))).alloc (by omega) _).trans (hb2.mono (by simp; omega))
  rw [World.size_alloc] at bp
  clear hb1 hb2
  have hRm : Hid (rows s.size % 64 = 0) := by show rows s.size % 64 = 0; unfold rows; omega
  have hRl : rows s.size ≤ 192 := by unfold rows; omega
  have hlen : (pad (nats s)).length = rows s.size := by rw [pad_len, nats_len]
  have hlt8 : ∀ i, (pad (nats s)).getD i 0 < 256 := pad_lt (nats s) (nats_lt s)
  generalize hpm : pad (nats s) = m at *
  generalize hpr : rows s.size = R at *
  have HPM := hide hpm
  have HPR := hide hpr
  clear hpm hpr
  generalize w1.heap.size = hb at *
  have HL := hide hlen
  have HM := hide hlt8
  clear hlen hlt8
  obtain ⟨B, hB⟩ : ∃ B, B = w.heap.size := ⟨_, rfl⟩
  have HB := hide hB
  rw [← hB] at z0 hlt hbel
  rw [← hB]
  clear hB
  have Hinit : Hid (hashTo K m 0 = H0) := rfl
  go_loopw [5] (fun a wr => ∃ j : Nat, 64 * j ≤ R ∧ a = .int .i64 ((64 * j : Nat) : Int) ∧ Blk wr B 217 (c8 (List.replicate 32 0)) ∧ Blk wr hb 275 #[.int .u32 ((hashTo K m j).a : Nat), .int .u32 ((hashTo K m j).b : Nat), .int .u32 ((hashTo K m j).c : Nat), .int .u32 ((hashTo K m j).d : Nat), .int .u32 ((hashTo K m j).e : Nat), .int .u32 ((hashTo K m j).f : Nat), .int .u32 ((hashTo K m j).g : Nat), .int .u32 ((hashTo K m j).h : Nat)] ∧ Blk wr (hb + 1) 5 (c8 m) ∧ Below B w wr)
    (fun a _ => R - (intOf a).toNat)
  case atStart => exact ⟨0, by omega, rfl, z0, z1, bp, hbel⟩
  case round =>
    clear z0 z1 bp hbel
    obtain ⟨j, hj, rfl, z0, z1, bp, hbel⟩ := hrel
    by_cases hlt : 64 * j < R
    · have hr64 : 64 * j + 64 ≤ R := by have := hRm.out; omega
      have ok := hashTo_ok K m j
      have Hn : Hid (hashTo K m (j + 1) = block K (sched (m.drop (64 * j))) (hashTo K m j)) := rfl
      have hcell : Hid (∀ (w' : World), Below wr.heap.size wr w' → ∀ i, i < 64 → w'.cell? ⟨hb + 1, 64 * j + i, none⟩ = some (.int .u8 ((m.drop (64 * j)).getD i 0 : Nat))) := by
        intro w' hb' i hi
        rw [hb'.cell bp.lt, bp.cell, c8_get _ _ (by rw [HL.out]; omega), drop_getD]
      have htab : Hid (∀ (w' : World), Below wr.heap.size wr w' → ∀ i, i < 64 → w'.cell? ⟨0, i, none⟩ = some (.int .u32 (K.getD i 0 : Nat))) := by
        intro w' hb' i hi
        have h0 := HT.out i hi
        have hl := World.block_lt_of_cell? _ _ h0
        rw [hb'.cell (Nat.lt_of_lt_of_le hl hbel.size), hbel.cell (by rw [HB.out]; exact hl)]; exact h0
      have ml : Hid (∀ i, (m.drop (64 * j)).getD i 0 < 256) := by
        intro i; rw [drop_getD]; exact HM.out _
      generalize hashTo K m j = σ at *
      generalize m.drop (64 * j) = mj at *
      generalize ha : 64 * j = a at *
      have Ha := hide ha
      clear ha
      have wa : IntKind.i64.wrap ((a : Int) + 64) = (a : Int) + 64 := by rw [IntKind.wrap_i64]; omega
      have i1 : (a : Int) ≤ (a : Int) + 64 := by omega
      have i2 : (a : Int) + 64 ≤ (R : Int) := by omega
      have i3 : (0 : Int) ≤ (a : Int) + 64 := by omega
      have i4 : ((a : Int) + 64).toNat - a = 64 := by omega
      have d0 := z1.cell 0
      have d1 := z1.cell 1
      have d2 := z1.cell 2
      have d3 := z1.cell 3
      have d4 := z1.cell 4
      have d5 := z1.cell 5
      have d6 := z1.cell 6
      have d7 := z1.cell 7
      simp only [List.getElem?_toArray, List.getElem?_cons_zero, List.getElem?_cons_succ] at d0 d1 d2 d3 d4 d5 d6 d7
      go_wp2_with fail
      have T2 := hide (schedule_any mj (hb + 1) a (R - a) wr.drew ml.out (hcell.out wr.drew (Below.drew (Below.refl wr.heap.size wr))))
      clear hcell
      go_region_with (first | (go_at_call 157; go_fit T2.out; rintro e w3 ⟨rfl, hb3⟩; (have z3 := (Blk.drew z1).below hb3 z1.lt); (have e0 := z3.cell 0); (have e1 := z3.cell 1); (have e2 := z3.cell 2); (have e3 := z3.cell 3); (have e4 := z3.cell 4); (have e5 := z3.cell 5); (have e6 := z3.cell 6); (have e7 := z3.cell 7); simp only [List.getElem?_toArray, List.getElem?_cons_zero, List.getElem?_cons_succ] at e0 e1 e2 e3 e4 e5 e6 e7) | (go_at_call 156; refine (behind_st K (sched mj) σ _ ok (sched_len mj) (sched_lt mj ml.out) HK.out (htab.out _ ((Below.refl _ _).drew.trans hb3))).mono ?_; rintro e w4 ⟨rfl, hb4⟩; (have z4 := z3.below hb4 z3.lt); (have f4 := z4.frozen); (have g0 := z4.cell 0); (have g1 := z4.cell 1); (have g2 := z4.cell 2); (have g3 := z4.cell 3); (have g4 := z4.cell 4); (have g5 := z4.cell 5); (have g6 := z4.cell 6); (have g7 := z4.cell 7); simp only [List.getElem?_toArray, List.getElem?_cons_zero, List.getElem?_cons_succ] at g0 g1 g2 g3 g4 g5 g6 g7))
      all_goals
        obtain ⟨n3, nb, nB⟩ := set8 z4 (.int .u32 ((block K (sched mj) σ).a : Nat)) (.int .u32 ((block K (sched mj) σ).b : Nat)) (.int .u32 ((block K (sched mj) σ).c : Nat)) (.int .u32 ((block K (sched mj) σ).d : Nat)) (.int .u32 ((block K (sched mj) σ).e : Nat)) (.int .u32 ((block K (sched mj) σ).f : Nat)) (.int .u32 ((block K (sched mj) σ).g : Nat)) (.int .u32 ((block K (sched mj) σ).h : Nat)) rfl
        clear d0 d1 d2 d3 d4 d5 d6 d7 e0 e1 e2 e3 e4 e5 e6 e7 f4 g0 g1 g2 g3 g4 g5 g6 g7 wa i1 i2 i3 i4
        have s3 := hb3.size
        simp at s3
        go_wp2
        go_roundw
        case rel => exact ⟨j + 1, by have := Ha.out; omega, congrArg (Value.int .i64) (by have := Ha.out; omega), nb _ _ _ (by omega) ((((Blk.drew z0).below hb3 z0.lt)).below hb4 (by have := z0.lt; omega)), (by rw [show hashTo K m (j + 1) = block K (sched mj) σ from Hn.out]; exact n3), nb _ _ _ (by omega) ((((Blk.drew bp).below hb3 bp.lt)).below hb4 (by have := bp.lt; omega)), nB _ _ (by omega) ((hbel.drew.trans (hb3.mono (by have := z0.lt; simp; omega))).trans (hb4.mono (by have := z0.lt; omega)))⟩
        case measure => simp [intOf]; omega
    · have ok := hashTo_ok K m j
      have HJ : Hid (j = R / 64) := by show j = R / 64; omega
      generalize hσ : hashTo K m j = σ at *
      have Hσ := hide hσ
      clear hσ
      generalize 64 * j = a at *
      have hhb := z1.lt
      have d0 := z1.cell 0
      have d1 := z1.cell 1
      have d2 := z1.cell 2
      have d3 := z1.cell 3
      have d4 := z1.cell 4
      have d5 := z1.cell 5
      have d6 := z1.cell 6
      have d7 := z1.cell 7
      simp only [List.getElem?_toArray, List.getElem?_cons_zero, List.getElem?_cons_succ] at d0 d1 d2 d3 d4 d5 d6 d7
      go_wp2_with fail
      have o0 : Blk (wr.alloc (.cells (c8 (List.replicate 32 0)) 217)) wr.heap.size 217 (c8 (outTo σ.words 0)) := by rw [outTo_start]; exact Blk.new _ _ _
      have z0' := z0.alloc (.cells (c8 (List.replicate 32 0)) 217)
      have hbel' := hbel.alloc (by have := z0.lt; omega) (.cells (c8 (List.replicate 32 0)) 217)
      have hOB : B < wr.heap.size := z0.lt
      clear z0 hbel z1 bp hhb d0 d1 d2 d3 d4 d5 d6 d7
      generalize wr.heap.size = OB at *
      go_loopw [27] (fun v ws => ∃ i : Nat, i ≤ 8 ∧ v = .int .i64 i ∧ Blk ws OB 217 (c8 (outTo σ.words i)) ∧ Blk ws B 217 (c8 (List.replicate 32 0)) ∧ Below B w ws)
        (fun v _ => 8 - (intOf v).toNat)
      case atStart => exact ⟨0, by omega, rfl, o0, z0', hbel'⟩
      case round =>
        clear o0 z0' hbel'
        obtain ⟨i, hi, rfl, o0, z0, hbel⟩ := hrel
        by_cases hlt8 : i < 8
        · have hix := index_st σ i hlt8
          have hsl := slice_out OB i hlt8
          have Hput := hide (outTo_put σ.words rfl i hlt8)
          have lw : σ.words.getD i 0 < 4294967296 := words_lt σ ok i
          have HS := hide (outTo_len σ.words rfl i hi)
          generalize σ.words.getD i 0 = x at *
          go_wp2_with fail
          refine (putNumber_int _ _ _ _ _ 217 _ _ (by omega) (by omega) (by omega) (by rw [c8_size, HS.out]; omega) o0).mono ?_
          rintro e w5 ⟨rfl, o1, ho⟩
          rw [Int.toNat_natCast, Hput.out] at o1
          have z1 := z0.only ho (by omega)
          have hbel1 := Below.only hbel ho (by omega)
          clear o0 z0 hbel ho hix hsl
          go_wp2
          go_roundw
          case rel => exact ⟨i + 1, by omega, by go_num, o1, z1, hbel1⟩
          case measure => simp [intOf]; omega
        · obtain rfl : i = 8 := by omega
          rw [outTo_end] at o0
          have hsz : (Tryz.prog.info? 217).map (·.size) = some (c8 (sumBytes σ)).size := by rw [info32, c8_size, sumBytes_len]
          have ho : (c8 (List.replicate 32 0)).size = (c8 (sumBytes σ)).size := by rw [c8_size, c8_size, sumBytes_len]; rfl
          have n0 := z0.row (c8 (sumBytes σ))
          go_wp2_with (first | (refine wpList_load_row rfl 217 _ rfl OB rfl 217 _ (0, 0) _ o0 Tryz.underlying217 rfl hsz ?_) | (refine wpList_store_row rfl 217 _ _ rfl B (c8 (sumBytes σ)) rfl rfl 217 _ z0 hsz ho (c8_one _) ?_))
          refine bodyPost_ret (v := .agg (c8 (sumBytes σ))) (results_cell_row (p := 2) (ty := 217) Tryz.results111 _ _ B 217 (c8 (sumBytes σ)) (0, 0) _ rfl n0 Tryz.underlying217 rfl hsz) rfl ⟨?_, ?_⟩
          · rw [HPM.out, HPR.out, ← HJ.out, Hσ.out]
          · rw [← HB.out]
            exact below_row hbel (by omega) _
end Go.Proofs.YthpmcilljbmoiaaGreatDoor
namespace Go.Proofs.YthpmcilljbmoiaaGreatDoor
open Go.RowKit Word

/-- a slice that lies from block B on -/
def Fresh1 (B : Nat) (v : Value) : Prop := ∀ k, v.ownBlock = some k → B ≤ k
def zeros34 : Array Value := c8 (List.replicate 34 0)
theorem make34 (w : World) : (Instr.makeSlice 126 (.int .i64 0) (.int .i64 34)).run Tryz.prog w = .ok (.slice (some ⟨w.heap.size, 0, none⟩) 0 34) (w.alloc (.cells zeros34 5)) := by kernel_rfl
theorem store32 (w : World) (sb : List Nat) (hl : sb.length = 32) : (storeCells ⟨w.heap.size, 0, none⟩ (c8 sb).toList).run Tryz.prog (w.alloc (.cells #[.int .u8 0, .int .u8 0, .int .u8 0, .int .u8 0, .int .u8 0, .int .u8 0, .int .u8 0, .int .u8 0, .int .u8 0, .int .u8 0, .int .u8 0, .int .u8 0, .int .u8 0, .int .u8 0, .int .u8 0, .int .u8 0, .int .u8 0, .int .u8 0, .int .u8 0, .int .u8 0, .int .u8 0, .int .u8 0, .int .u8 0, .int .u8 0, .int .u8 0, .int .u8 0, .int .u8 0, .int .u8 0, .int .u8 0, .int .u8 0, .int .u8 0, .int .u8 0] 217)) = .ok () (w.alloc (.cells (c8 sb) 217)) :=
  run_storeCells_new w 217 #[.int .u8 0, .int .u8 0, .int .u8 0, .int .u8 0, .int .u8 0, .int .u8 0, .int .u8 0, .int .u8 0, .int .u8 0, .int .u8 0, .int .u8 0, .int .u8 0, .int .u8 0, .int .u8 0, .int .u8 0, .int .u8 0, .int .u8 0, .int .u8 0, .int .u8 0, .int .u8 0, .int .u8 0, .int .u8 0, .int .u8 0, .int .u8 0, .int .u8 0, .int .u8 0, .int .u8 0, .int .u8 0, .int .u8 0, .int .u8 0, .int .u8 0, .int .u8 0] (c8 sb) (by rw [info32, c8_size, hl]) (by rw [c8_size, hl]; rfl) (c8_one _)
/-- bytes as a text -/
def strOf (l : List Nat) : ByteArray := ⟨(l.map UInt8.ofNat).toArray⟩
/-- the bytes of a name -/
def nameBytes (n : Nat) (sb : List Nat) : List Nat := n / 256 :: n :: sb
theorem byteCells_strOf (sb : List Nat) (h : ∀ x ∈ sb, x < 256) : byteCells (strOf sb) = (c8 sb).toList := by
  simp only [byteCells, strOf, c8, List.map_map]
  apply List.map_congr_left
  intro x hx
  simp [UInt8.toNat_ofNat_of_lt' (h x hx)]
theorem strOf_size (sb : List Nat) : (strOf sb).size = sb.length := by simp [strOf, ByteArray.size]
theorem name_bytes (n : Nat) (hn : n ≤ 120) (sb : List Nat) : (⟨#[]⟩ : ByteArray) ++ b8 (n / 256) ++ b8 (n % 256) ++ strOf sb = strOf (nameBytes n sb) := by
  apply ByteArray.ext
  apply Array.ext'
  rw [show n % 256 = n by omega]
  simp [strOf, nameBytes, b8]
theorem toStr (w : World) (b cap : Nat) (t : TypeId) (l : List Nat) (n : Nat) (hn : n = l.length) (hb : Blk w b t (c8 l)) (hlt : ∀ x ∈ l, x < 256) :
    (convert 126 9 (.slice (some ⟨b, 0, none⟩) n cap)).run Tryz.prog w = .ok (.string (strOf l)) w := by
  subst hn
  have := run_convert_bytes_back (P := Tryz.prog) w 126 9 5 ⟨b, 0, none⟩ cap (l.map UInt8.ofNat) Tryz.underlying126 Tryz.underlying5 Tryz.underlying9 (fun j hj => by
    have hj' : j < l.length := by simpa using hj
    rw [show (⟨b, 0, none⟩ : Addr).add j = ⟨b, j, none⟩ by unfold Addr.add; split <;> simp_all]
    rw [hb.cell, c8_get l j hj', List.getElem_map, List.getD_eq_getElem?_getD, List.getElem?_eq_getElem hj']
    have h1 := hlt _ (List.getElem_mem hj')
    simp only [Option.getD_some]
    rw [UInt8.toNat_ofNat_of_lt' h1])
  rw [List.length_map] at this
  exact this
theorem sumBytes_lt (σ : St) : ∀ x ∈ sumBytes σ, x < 256 := by
  intro x hx
  simp only [sumBytes, List.mem_flatMap] at hx
  obtain ⟨y, _, h⟩ := hx
  exact be_lt _ _ _ h
theorem nameBytes_lt (n : Nat) (hn : n ≤ 120) (sb : List Nat) (h : ∀ x ∈ sb, x < 256) : ∀ x ∈ nameBytes n sb, x < 256 := by
  intro x hx
  simp only [nameBytes, List.mem_cons] at hx
  rcases hx with rfl | rfl | hx
  · omega
  · omega
  · exact h x hx

set_option maxRecDepth 100000 in
set_option maxHeartbeats 400000 in
theorem namesOf_any (K : List Nat) (s : ByteArray) (w : World) (hs : s.size ≤ 120) (hKl : ∀ i, K.getD i 0 < 4294967296)
    (hT : ∀ i, i < 64 → w.cell? ⟨0, i, none⟩ = some (.int .u32 (K.getD i 0 : Nat))) :
    Calls Tryz.prog 84 #[.string s] w
      fun r w' => r = .returned (.string (strOf (nameBytes s.size (sumBytes (hashTo K (pad (nats s)) (rows s.size / 64)))))) ∧ Below w.heap.size w w' := by
  have HC := hide (sumOf_any K s w hs hKl hT)
  clear hT hKl
  go_enter Tryz.func84, Tryz.ntmps84
  go_wp2_with fail
  refine HC.out.mono ?_
  rintro e w1 ⟨rfl, hb1⟩
  have hbl := sumBytes_lt (hashTo K (pad (nats s)) (rows s.size / 64))
  have hl : (sumBytes (hashTo K (pad (nats s)) (rows s.size / 64))).length = 32 := sumBytes_len _
  generalize hsb : sumBytes (hashTo K (pad (nats s)) (rows s.size / 64)) = sb at *
  have HSB := hide hsb
  clear HC hsb
  have hmk := make34
  have hst := store32 w1 sb hl
  have hsz : (c8 sb).size = 32 := by rw [c8_size, hl]
  have hbA : Below w.heap.size w ((w1.alloc (.cells (c8 sb) 217)).alloc (.cells zeros34 5)) := (hb1.alloc hb1.size _).alloc (by have := hb1.size; simp; omega) _
  have hbs : Bs ((w1.alloc (.cells (c8 sb) 217)).alloc (.cells zeros34 5)) 5 (.slice (some ⟨w1.heap.size + 1, 0, none⟩) 0 34) ⟨#[]⟩ :=
    .inr ⟨w1.heap.size + 1, 0, 34, zeros34, rfl, Blk.at _ _ _ _ (by simp), by decide, by decide, by decide, rfl, fun j hj => (Nat.not_lt_zero j hj).elim⟩
  have hc8 : Blk ((w1.alloc (.cells (c8 sb) 217)).alloc (.cells zeros34 5)) w1.heap.size 217 (c8 sb) := (Blk.at w1 217 (c8 sb) _ rfl).alloc _
  have HA : Hid (Calls Tryz.prog 112 #[.slice (some ⟨w1.heap.size + 1, 0, none⟩) 0 34, .int .i64 s.size, .int .i64 2] ((w1.alloc (.cells (c8 sb) 217)).alloc (.cells zeros34 5))
      fun r w2 => ∃ v2, r = .returned v2 ∧ Bs w2 5 v2 (⟨#[]⟩ ++ b8 (s.size / 256) ++ b8 (s.size % 256)) ∧ Blk w2 w1.heap.size 217 (c8 sb) ∧ Below w.heap.size w w2 ∧ Fresh1 w.heap.size v2) := by
    refine (append2_any (.slice (some ⟨w1.heap.size + 1, 0, none⟩) 0 34) ⟨#[]⟩ s.size _ (by omega) (by decide) hbs).mono ?_
    rintro e w2 ⟨v2, h1, b2, k2, o2⟩
    have hf1 : Fresh1 w.heap.size (.slice (some ⟨w1.heap.size + 1, 0, none⟩) 0 34) := fun k hk => by
      have := hb1.size
      simp [Value.ownBlock] at hk
      omega
    refine ⟨v2, h1, b2, hc8.kept k2 (fun e => by simp [Value.ownBlock] at e), hbA.trans (k2.toBelow (fun k hk e => by have := hf1 k e; omega) hbA.size), fun k hk => ?_⟩
    rcases o2 with o2 | ⟨j, h1, h2⟩
    · exact hf1 k (o2 ▸ hk)
    · rw [h2] at hk
      injection hk with hk
      have := hbA.size
      omega
  have hbl' := byteCells_strOf sb hbl
  have hsz2 : (strOf sb).size = 32 := by rw [strOf_size, hl]
  have HSrc : Hid (∀ w2, Blk w2 w1.heap.size 217 (c8 sb) → Src Tryz.prog 1 126 (.slice (some ⟨w1.heap.size, 0, none⟩) 32 32) (strOf sb).size (byteCells (strOf sb)) w2) := fun w2 c2 => by
    rw [hsz2, hbl']
    exact Src.ofSlice _ Tryz.underlying126 ⟨w1.heap.size, 0, none⟩ 32 32 _ (by simp [c8, hl]) (fun j u hj => by rw [Addr.add_lit, Nat.zero_add, c2.cell]; simpa using hj) (fun u hu => (Array.all_eq_true_iff_forall_mem.1 (c8_one sb)) u (by simpa using hu))
  clear hb1 hbA hbs hc8
  go_wp2_with (first | (go_at_call 112; refine HA.out.mono ?_; rintro e w2 ⟨v2, rfl, b2, c2, hbel, hf2⟩) | (at_builtin; refine wpList_append_bs w2 rfl (.tmp 12) (.tmp 13) 126 126 rfl 5 Tryz.underlying126 infoU8 v2 _ rfl b2 (.slice (some ⟨w1.heap.size, 0, none⟩) 32 32) (strOf sb) rfl (HSrc.out w2 c2) ?_ ?_))
  · rw [hsz2]; simp only [ByteArray.size_append, b8_size]; decide
  rintro v3 w3 ⟨q1, q2, q3⟩
  have hbel3 : Below w.heap.size w w3 := hbel.trans (q2.toBelow (fun k hk e => by have := hf2 k e; omega) hbel.size)
  rw [name_bytes s.size hs sb] at q1
  have hcv := q1.str (dst := 9) Tryz.underlying126 Tryz.underlying5 Tryz.underlying9
  clear b2 c2 hbel hbl q1 q2 q3 hbl' hf2 hmk hst HA HSrc
  go_wp2
  go_ret
  exact ⟨by rw [HSB.out]; rfl, hbel3⟩

/-- a blob's name, by these constants -/
def nameStr (K : List Nat) (s : ByteArray) : ByteArray := strOf (nameBytes s.size (sumBytes (hashTo K (pad (nats s)) (rows s.size / 64))))

set_option maxRecDepth 100000 in
set_option maxHeartbeats 400000 in
theorem name_any (K : List Nat) (s : ByteArray) (w : World) (hs : s.size ≤ 120) (hKl : ∀ i, K.getD i 0 < 4294967296)
    (hT : ∀ i, i < 64 → w.cell? ⟨0, i, none⟩ = some (.int .u32 (K.getD i 0 : Nat))) :
    Calls Tryz.prog 90 #[.string s] w
      fun r w' => r = .returned (.tuple #[.string (nameStr K s), .int .i64 0]) ∧ Below w.heap.size w w' := by
  have HC := hide (namesOf_any K s w hs hKl hT)
  clear hT hKl
  go_enter Tryz.func90, Tryz.ntmps90
  go_wp2_with (first | (go_at_call 84; refine HC.out.mono ?_; rintro e w1 ⟨rfl, hb1⟩) | go_in)
  go_ret2
  exact ⟨rfl, hb1⟩
set_option maxHeartbeats 400000 in
theorem name_long (s : ByteArray) (w : World) (hs : 120 < s.size) :
    Calls Tryz.prog 90 #[.string s] w
      fun r w' => r = .returned (.tuple #[.string ⟨#[]⟩, .int .i64 4]) ∧ Below w.heap.size w w' := by
  go_enter Tryz.func90, Tryz.ntmps90
  go_wp2
  go_ret2
  exact ⟨rfl, Below.refl _ _⟩
end Go.Proofs.YthpmcilljbmoiaaGreatDoor
