import Derived.Test.YthpmcilljbmoiaaGreatDoorBehind
import Derived.Test.YthpmcilljbmoiaaGreatDoorSchedule
import Derived.Test.YthpmcilljbmoiaaGreatDoorPadded
namespace Go.Proofs.YthpmcilljbmoiaaGreatDoor
open Go.RowKit Word

/-- the words with which the sum begins -/
def H0 : St := ⟨1779033703, 3144134277, 1013904242, 2773480762, 1359893119, 2600822924, 528734635, 1541459225⟩
set_option maxHeartbeats 1000000 in
theorem begin_any (w : World) :
    Calls Tryz.prog 154 #[] w fun r w' => r = .returned (.agg #[.int .u32 (H0.a : Nat), .int .u32 (H0.b : Nat), .int .u32 (H0.c : Nat), .int .u32 (H0.d : Nat), .int .u32 (H0.e : Nat), .int .u32 (H0.f : Nat), .int .u32 (H0.g : Nat), .int .u32 (H0.h : Nat)]) ∧ Below w.heap.size w w' := by
  go_enter Tryz.func154, Tryz.ntmps154
  go_wp2
  refine bodyPost_ret (v := .agg #[.int .u32 (H0.a : Nat), .int .u32 (H0.b : Nat), .int .u32 (H0.c : Nat), .int .u32 (H0.d : Nat), .int .u32 (H0.e : Nat), .int .u32 (H0.f : Nat), .int .u32 (H0.g : Nat), .int .u32 (H0.h : Nat)]) (by simp [results, Tryz.results154, go_sem, H0]) rfl ⟨rfl, ?_⟩
  exact (Below.refl _ _).alloc (Nat.le_refl _) _
theorem behind_st (K W : List Nat) (s : St) (w : World) (hs : s.ok) (hW : W.length = 64) (hWl : ∀ i, W.getD i 0 < 4294967296) (hKl : ∀ i, K.getD i 0 < 4294967296)
    (hT : ∀ i, i < 64 → w.cell? ⟨0, i, none⟩ = some (.int .u32 (K.getD i 0 : Nat))) :
    Calls Tryz.prog 156 #[.agg #[.int .u32 (s.a : Nat), .int .u32 (s.b : Nat), .int .u32 (s.c : Nat), .int .u32 (s.d : Nat), .int .u32 (s.e : Nat), .int .u32 (s.f : Nat), .int .u32 (s.g : Nat), .int .u32 (s.h : Nat)], .agg (c32 W)] w
      fun r w' => r = .returned (.agg #[.int .u32 ((block K W s).a : Nat), .int .u32 ((block K W s).b : Nat), .int .u32 ((block K W s).c : Nat), .int .u32 ((block K W s).d : Nat), .int .u32 ((block K W s).e : Nat), .int .u32 ((block K W s).f : Nat), .int .u32 ((block K W s).g : Nat), .int .u32 ((block K W s).h : Nat)]) ∧ Below w.heap.size w w' := behind_any K W s w hs hW hWl hKl hT
/-- the state behind so many blocks -/
def hashTo (K m : List Nat) : Nat → St
  | 0 => H0
  | j + 1 => block K (sched (m.drop (64 * j))) (hashTo K m j)
theorem hashTo_ok (K m : List Nat) : ∀ j, (hashTo K m j).ok
  | 0 => by simp [hashTo, H0, St.ok]
  | j + 1 => block_ok _ _ _
theorem drop_getD (m : List Nat) (a i : Nat) : (m.drop a).getD i 0 = m.getD (a + i) 0 := by
  simp [List.getD_eq_getElem?_getD]
/-- the first i words of the sum, in bytes; noughts behind them -/
def outTo (l : List Nat) (i : Nat) : List Nat := (l.take i).flatMap (be 4) ++ List.replicate (32 - 4 * i) 0
theorem flat_len (l : List Nat) : (l.flatMap (be 4)).length = 4 * l.length := by
  induction l with
  | nil => rfl
  | cons x l ih => simp [List.flatMap_cons, be_len, ih]; omega
theorem outTo_len (l : List Nat) (hl : l.length = 8) (i : Nat) (h : i ≤ 8) : (outTo l i).length = 32 := by
  unfold outTo; rw [List.length_append, flat_len, List.length_take, List.length_replicate, hl]; omega
theorem outTo_put (l : List Nat) (hl : l.length = 8) (i : Nat) (h : i < 8) : putc (c8 (outTo l i)) (4 * i) 4 (l.getD i 0) = c8 (outTo l (i + 1)) := by
  rw [putc_be _ _ _ _ (by rw [outTo_len l hl i (by omega)]; omega)]
  congr 1
  have ht : (l.take i).length = i := by rw [List.length_take]; omega
  have hA : ((l.take i).flatMap (be 4)).length = 4 * i := by rw [flat_len, ht]
  unfold outTo
  rw [List.take_append_of_le_length (by omega), List.take_of_length_le (by omega), List.drop_append, List.drop_eq_nil_of_le (by omega), List.nil_append, hA]
  rw [List.take_succ_eq_append_getElem (by omega), List.flatMap_append]
  rw [List.drop_replicate, show 32 - 4 * i - (4 * i + 4 - 4 * i) = 32 - 4 * (i + 1) by omega]
  rw [List.getD_eq_getElem?_getD, List.getElem?_eq_getElem (show i < l.length by omega)]
  simp
/-- the sum's bytes -/
def sumBytes (σ : St) : List Nat := σ.words.flatMap (be 4)
theorem sumBytes_len (σ : St) : (sumBytes σ).length = 32 := by rw [sumBytes, flat_len]; rfl
theorem outTo_end (σ : St) : outTo σ.words 8 = sumBytes σ := by simp [outTo, sumBytes, St.words]
theorem outTo_start (l : List Nat) : outTo l 0 = List.replicate 32 0 := by simp [outTo]
set_option maxRecDepth 100000 in
theorem index_st (σ : St) (i : Nat) (h : i < 8) (w : World) : (Instr.index 275 (.agg #[.int .u32 (σ.a : Nat), .int .u32 (σ.b : Nat), .int .u32 (σ.c : Nat), .int .u32 (σ.d : Nat), .int .u32 (σ.e : Nat), .int .u32 (σ.f : Nat), .int .u32 (σ.g : Nat), .int .u32 (σ.h : Nat)]) (.int .i64 i)).run Tryz.prog w = .ok (.int .u32 (σ.words.getD i 0 : Nat)) w := by
  match i, h with
  | 0, _ => rfl
  | 1, _ => rfl
  | 2, _ => rfl
  | 3, _ => rfl
  | 4, _ => rfl
  | 5, _ => rfl
  | 6, _ => rfl
  | 7, _ => rfl
theorem info32 : (Tryz.prog.info? 217).map (·.size) = some 32 := by kernel_rfl
end Go.Proofs.YthpmcilljbmoiaaGreatDoor
