import Derived.Test.YthpmcilljbmoiaaDoorBlock
import Derived.Test.YthpmcilljbmoiaaDoorBegin
import Derived.Test.YthpmcilljbmoiaaDoorBytesRef
import Derived.StillTailTactics
namespace Go.Proofs.YthpmcilljbmoiaaDoor
open Go.RowKit Word

theorem load72 (w : World) (B : Nat) (h : Blk w B 56 (c64 (Hl ++ Kl))) : (loadCellsFrom ⟨B, 0, none⟩ 0 72 #[]).run Tryd.prog w = .ok (c64 (Hl ++ Kl)) w := by
  have hl := run_loadCells_list (P := Tryd.prog) w ⟨B, 0, none⟩ (c64 (Hl ++ Kl)).toList (fun j v hv => by
    rw [show (⟨B, 0, none⟩ : Addr).add j = ⟨B, j, none⟩ by unfold Addr.add; split <;> simp_all]
    rw [h.cell]; simpa using hv)
  have e : (c64 (Hl ++ Kl)).toList.length = 72 := by simp [c64]; rfl
  rw [e] at hl
  simpa [loadCells] using hl

/-- a whole row is read in the head of a region that draws -/
theorem still_load_row {P : Program} {ops : Array Oper} {w : World} {Q : Act → Prop} {a : Act} {o : Oper} {rest : List Oper} (hgd : o.guard = none) (ty : TypeId) (x : Operand) (ho : o.op = .load ty x)
    (g : Nat) (hx : a.eval x = .pointer (some ⟨g, 0, none⟩)) (t : TypeId) (cs : Array Value) (d : TypeDesc) (hg : w.heap[g]? = some (.cells cs t (0, 0)))
    (hu : P.underlying ty = some d) (hd : (match d with | .struct _ | .array _ _ => true | _ => false) = true) (hi : (P.info? ty).map (·.size) = some cs.size)
    (h : wpStill P ops w Q rest (a.put o.dst (.agg cs))) : wpStill P ops w Q (o :: rest) a := by
  refine wpStill_step (fun K hK => ?_)
  rw [if_pos (by simp [Region.wanted, hgd])]
  unfold Oper.still execOp
  simp only [ho, hx, Instr.loadAt, Instr.sureAddr, Sem.run_bind, Sem.run_pure, Result.andThen_ok, run_loadVar_row w g t ty cs (0, 0) d hg hu hd hi]
  exact ⟨rfl, hK _ h⟩

def zero32 : Array Value := c8 (List.replicate 32 0)
theorem make32 (w : World) : (Instr.makeSlice 90 (.int .i64 32) (.int .i64 32)).run Tryd.prog w = .ok (.slice (some ⟨w.heap.size, 0, none⟩) 32 32) (w.alloc (.cells zero32 5)) := by kernel_rfl
def bytesTo (l : List Nat) (i : Nat) : List Nat := l.take i ++ List.replicate (32 - i) 0
theorem bytesTo_len (l : List Nat) (hl : l.length = 32) (i : Nat) (h : i ≤ 32) : (bytesTo l i).length = 32 := by simp [bytesTo, hl]; omega
theorem bytesTo_set (l : List Nat) (hl : l.length = 32) (i : Nat) (h : i < 32) : (bytesTo l i).set i (l.getD i 0) = bytesTo l (i + 1) := by
  apply List.ext_getElem?
  intro j
  simp only [bytesTo, List.getElem?_set, List.getElem?_append, List.length_append, List.length_take, List.getElem?_take, List.getElem?_replicate, List.length_replicate, hl, List.getD_eq_getElem?_getD]
  by_cases h1 : i = j
  · subst h1
    simp [h, hl, show min (i + 1) 32 = i + 1 by omega, show min i 32 + (32 - i) = 32 by omega]
  · simp only [h1, if_false]
    by_cases h2 : j < i
    · simp [show j < min i 32 by omega, show j < min (i + 1) 32 by omega, h2, show j < i + 1 by omega]
    · rw [if_neg (show ¬ j < min i 32 by omega), if_neg (show ¬ j < min (i + 1) 32 by omega)]
      by_cases h3 : j < 32
      · rw [if_pos (by omega), if_pos (by omega)]
      · rw [if_neg (by omega), if_neg (by omega)]
theorem bytesTo_all (l : List Nat) (hl : l.length = 32) : bytesTo l 32 = l := by
  simp [bytesTo, List.take_of_length_le (Nat.le_of_eq hl)]
theorem flat_get : ∀ (l : List Nat) (i : Nat), i < 4 * l.length → (l.flatMap (be 4)).getD i 0 = (be 4 (l.getD (i / 4) 0)).getD (i % 4) 0
  | [], i, h => by simp at h
  | a :: l, i, h => by
    rw [List.flatMap_cons]
    by_cases h4 : i < 4
    · rw [List.getD_eq_getElem?_getD, List.getElem?_append_left (by rw [be_len]; exact h4), ← List.getD_eq_getElem?_getD, show i / 4 = 0 by omega, show i % 4 = i by omega]
      rfl
    · rw [List.getD_eq_getElem?_getD, List.getElem?_append_right (by rw [be_len]; omega), be_len, ← List.getD_eq_getElem?_getD, flat_get l (i - 4) (by rw [List.length_cons] at h; omega), show i / 4 = (i - 4) / 4 + 1 by omega, show (i - 4) % 4 = i % 4 by omega]
      rfl
theorem word_walk (x i : Nat) : ((x : Int) / 2 ^ (24 - i % 4 * 8)).tmod 256 % 256 = (((be 4 x).getD (i % 4) 0 : Nat) : Int) := by
  have e : ((x : Int) / 2 ^ (24 - i % 4 * 8)) = ((x / 2 ^ (24 - i % 4 * 8) : Nat) : Int) := by simp
  rw [e, be_get 4 x _ (by omega), show 24 - i % 4 * 8 = 8 * (4 - 1 - i % 4) by omega, Nat.pow_mul, show (2 : Nat) ^ 8 = 256 from rfl]
  generalize x / 256 ^ (4 - 1 - i % 4) = y
  show ((y % 256 : Nat) : Int) % 256 = ((y % 256 : Nat) : Int)
  omega
theorem ite_addr (n k : Nat) (p q : Addr) : ∃ ao : Addr, (if n = k then some p else some q) = some ao ∧ (n ≠ k → ao = q) := by
  by_cases h : n = k
  · exact ⟨p, by rw [if_pos h], fun g => absurd h g⟩
  · exact ⟨q, by rw [if_neg h], fun _ => rfl⟩

set_option maxRecDepth 100000 in
set_option maxHeartbeats 1000000 in
theorem ofRef_any (s : ByteArray) (w : World) (hs : s.size ≤ 120) :
    Calls Tryd.prog 39 #[.agg (c64 (Hl ++ Kl)), .string s] w
      fun r w' => r = .returned (.string (strOf (sumBytes (hashTo Kl (pad (nats s)) (rows s.size / 64))))) ∧ Below w.heap.size w w' := by
  go_enter Tryd.func39, Tryd.ntmps39
  go_wp2_with fail
  refine (padref_any s _ hs).mono ?_
  rintro e w1 ⟨v, rfl, hown, hb1⟩
  have hR9 : 9 ≤ rows s.size := by unfold rows; omega
  have hR192 : rows s.size ≤ 192 := by unfold rows; omega
  have HRM : Hid (rows s.size % 64 = 0) := by show rows s.size % 64 = 0; unfold rows; omega
  obtain ⟨g, gcap, rfl, hgcap, hgB, hglt, hcell⟩ := own_form hown (by omega)
  have HG : Hid (∀ i, i < rows s.size → w1.cell? ⟨g, i, none⟩ = some (.int .u64 ((pad (nats s)).getD i 0 : Nat))) := fun i hi => by
    rw [hcell i hi, k64_get _ _ (by rw [pad_len, nats_len]; exact hi)]
  have HM := hide (pad_lt (nats s) (nats_lt s))
  have x0 : Blk w1 w.heap.size 56 (c64 (Hl ++ Kl)) := (Blk.at w _ _ _ rfl).below hb1 (by simp)
  have hbel : Below w.heap.size w w1 := ((Below.refl w.heap.size w).alloc (Nat.le_refl _) _).trans (hb1.mono (by simp))
  have hg1 : w.heap.size < g := by simp at hgB; omega
  clear hown hcell hb1 hgB
  have k0 : w1.cell? ⟨w.heap.size, 0, none⟩ = some (.int .u64 (H0.a : Nat)) := x0.cell 0
  have k1 : w1.cell? ⟨w.heap.size, 1, none⟩ = some (.int .u64 (H0.b : Nat)) := x0.cell 1
  have k2 : w1.cell? ⟨w.heap.size, 2, none⟩ = some (.int .u64 (H0.c : Nat)) := x0.cell 2
  have k3 : w1.cell? ⟨w.heap.size, 3, none⟩ = some (.int .u64 (H0.d : Nat)) := x0.cell 3
  have k4 : w1.cell? ⟨w.heap.size, 4, none⟩ = some (.int .u64 (H0.e : Nat)) := x0.cell 4
  have k5 : w1.cell? ⟨w.heap.size, 5, none⟩ = some (.int .u64 (H0.f : Nat)) := x0.cell 5
  have k6 : w1.cell? ⟨w.heap.size, 6, none⟩ = some (.int .u64 (H0.g : Nat)) := x0.cell 6
  have k7 : w1.cell? ⟨w.heap.size, 7, none⟩ = some (.int .u64 (H0.h : Nat)) := x0.cell 7
  go_wp2_with fail
  clear k0 k1 k2 k3 k4 k5 k6 k7
  generalize hpm : pad (nats s) = m at *
  generalize hpr : rows s.size = R at *
  have HPM := hide hpm
  have HPR := hide hpr
  clear hpm hpr
  have v0 : Blk (w1.alloc (.cells #[.int .u64 (H0.a : Nat), .int .u64 (H0.b : Nat), .int .u64 (H0.c : Nat), .int .u64 (H0.d : Nat), .int .u64 (H0.e : Nat), .int .u64 (H0.f : Nat), .int .u64 (H0.g : Nat), .int .u64 (H0.h : Nat)] 53)) w1.heap.size 53 #[.int .u64 (H0.a : Nat), .int .u64 (H0.b : Nat), .int .u64 (H0.c : Nat), .int .u64 (H0.d : Nat), .int .u64 (H0.e : Nat), .int .u64 (H0.f : Nat), .int .u64 (H0.g : Nat), .int .u64 (H0.h : Nat)] := Blk.new _ _ _
  have HG2 : Hid (∀ i, i < R → (w1.alloc (.cells #[.int .u64 (H0.a : Nat), .int .u64 (H0.b : Nat), .int .u64 (H0.c : Nat), .int .u64 (H0.d : Nat), .int .u64 (H0.e : Nat), .int .u64 (H0.f : Nat), .int .u64 (H0.g : Nat), .int .u64 (H0.h : Nat)] 53)).cell? ⟨g, i, none⟩ = some (.int .u64 (m.getD i 0 : Nat))) := fun i hi => by
    rw [World.cell?_alloc_lt _ _ _ hglt]; exact HG.out i hi
  have y0 := x0.alloc (.cells #[.int .u64 (H0.a : Nat), .int .u64 (H0.b : Nat), .int .u64 (H0.c : Nat), .int .u64 (H0.d : Nat), .int .u64 (H0.e : Nat), .int .u64 (H0.f : Nat), .int .u64 (H0.g : Nat), .int .u64 (H0.h : Nat)] 53)
  have hbel2 := hbel.alloc (by omega) (.cells #[.int .u64 (H0.a : Nat), .int .u64 (H0.b : Nat), .int .u64 (H0.c : Nat), .int .u64 (H0.d : Nat), .int .u64 (H0.e : Nat), .int .u64 (H0.f : Nat), .int .u64 (H0.g : Nat), .int .u64 (H0.h : Nat)] 53)
  clear x0 hbel HG
  have hsz2 : (w1.alloc (.cells #[.int .u64 (H0.a : Nat), .int .u64 (H0.b : Nat), .int .u64 (H0.c : Nat), .int .u64 (H0.d : Nat), .int .u64 (H0.e : Nat), .int .u64 (H0.f : Nat), .int .u64 (H0.g : Nat), .int .u64 (H0.h : Nat)] 53)).heap.size = w1.heap.size + 1 := by simp
  have HSZ := hide hsz2
  clear hsz2
  generalize w1.alloc (.cells #[.int .u64 (H0.a : Nat), .int .u64 (H0.b : Nat), .int .u64 (H0.c : Nat), .int .u64 (H0.d : Nat), .int .u64 (H0.e : Nat), .int .u64 (H0.f : Nat), .int .u64 (H0.g : Nat), .int .u64 (H0.h : Nat)] 53) = w2 at *
  generalize w1.heap.size = hb at *
  obtain ⟨B, hB⟩ : ∃ B, B = w.heap.size := ⟨_, rfl⟩
  have HW := hide hB
  rw [← hB] at y0 hbel2 hg1
  rw [← hB]
  clear hB
  go_loopw [5] (fun v wr => ∃ (j : Nat) (ao : Addr), 64 * j ≤ R ∧ v = .slice (some ao) (R - 64 * j) (gcap - 64 * j) ∧ (64 * j < R → ao = ⟨g, 64 * j, none⟩) ∧ Blk wr hb 53 #[.int .u64 ((hashTo Kl m j).a : Nat), .int .u64 ((hashTo Kl m j).b : Nat), .int .u64 ((hashTo Kl m j).c : Nat), .int .u64 ((hashTo Kl m j).d : Nat), .int .u64 ((hashTo Kl m j).e : Nat), .int .u64 ((hashTo Kl m j).f : Nat), .int .u64 ((hashTo Kl m j).g : Nat), .int .u64 ((hashTo Kl m j).h : Nat)] ∧ Below hb w2 wr)
    (fun v _ => lenOf v)
  case atStart => exact ⟨0, ⟨g, 0, none⟩, by omega, rfl, fun _ => rfl, v0, Below.refl _ _⟩
  case round =>
    clear v0
    obtain ⟨j, ao, hj, rfl, hao, xh, hbw⟩ := hrel
    by_cases hlt : 64 * j < R
    · obtain rfl := hao hlt
      have hr64 : 64 * j + 64 ≤ R := by have := HRM.out; omega
      have ok := hashTo_ok Kl m j
      have Hn : Hid (hashTo Kl m (j + 1) = block Kl (sched (m.drop (64 * j))) (hashTo Kl m j)) := rfl
      have z0 : Blk wr B 56 (c64 (Hl ++ Kl)) := y0.below hbw (by omega)
      have z0d : Blk wr.drew B 56 (c64 (Hl ++ Kl)) := z0.drew
      have hcell : ∀ i, i < 64 → wr.drew.cell? ⟨g, 64 * j + i, none⟩ = some (.int .u64 ((m.drop (64 * j)).getD i 0 : Nat)) := fun i hi => by
        rw [World.cell?_drew, hbw.cell (p := ⟨g, 64 * j + i, none⟩) hglt, HG2.out _ (by omega), drop_getD]
      have ml : ∀ i, (m.drop (64 * j)).getD i 0 < 256 := fun i => by rw [drop_getD]; exact HM.out _
      have T2 := hide (block_ref (m.drop (64 * j)) (hashTo Kl m j) g (64 * j) (gcap - 64 * j) wr.drew ok ml hcell)
      clear hcell ml ok
      generalize hashTo Kl m j = σ at *
      generalize sched (m.drop (64 * j)) = W at *
      generalize ha : 64 * j = a at *
      have Ha := hide ha
      clear ha
      have i1 : (64 : Int) ≤ ((gcap - a : Nat) : Int) := by omega
      have i2 : (64 : Int) ≤ ((R - a : Nat) : Int) := by omega
      have d0 := xh.cell 0
      have d1 := xh.cell 1
      have d2 := xh.cell 2
      have d3 := xh.cell 3
      have d4 := xh.cell 4
      have d5 := xh.cell 5
      have d6 := xh.cell 6
      have d7 := xh.cell 7
      simp only [List.getElem?_toArray, List.getElem?_cons_zero, List.getElem?_cons_succ] at d0 d1 d2 d3 d4 d5 d6 d7
      go_wp2_with fail
      refine wp_region_still_tail 4 (by kernel_rfl) (by kernel_rfl) ?_
      simp only [List.take_succ_cons, List.take_zero, List.drop_succ_cons, List.drop_zero, World.drew_eq]
      refine still_load_row rfl 56 (.tmp 2) rfl B rfl 56 _ _ z0d Tryd.underlying56 rfl (by rw [info72, c64_size]; rfl) ?_
      repeat still_step
      refine wpStill_nil ?_
      go_wp2_with fail
      refine T2.out.mono ?_
      rintro e w3 ⟨rfl, hb3⟩
      clear d0 d1 d2 d3 d4 d5 d6 d7
      have z3 := (Blk.drew xh).below hb3 xh.lt
      have e0 := z3.cell 0
      have e1 := z3.cell 1
      have e2 := z3.cell 2
      have e3 := z3.cell 3
      have e4 := z3.cell 4
      have e5 := z3.cell 5
      have e6 := z3.cell 6
      have e7 := z3.cell 7
      simp only [List.getElem?_toArray, List.getElem?_cons_zero, List.getElem?_cons_succ] at e0 e1 e2 e3 e4 e5 e6 e7
      have f3 := z3.frozen
      go_wp2_with fail
      obtain ⟨n3, nb, nB⟩ := set8 z3 (.int .u64 ((block Kl W σ).a : Nat)) (.int .u64 ((block Kl W σ).b : Nat)) (.int .u64 ((block Kl W σ).c : Nat)) (.int .u64 ((block Kl W σ).d : Nat)) (.int .u64 ((block Kl W σ).e : Nat)) (.int .u64 ((block Kl W σ).f : Nat)) (.int .u64 ((block Kl W σ).g : Nat)) (.int .u64 ((block Kl W σ).h : Nat)) rfl
      obtain ⟨ao, ho, hao2⟩ := ite_addr (gcap - a) 64 ⟨g, a, none⟩ ⟨g, a + 64, none⟩
      rw [ho]
      have hnew := nB hb w2 (Nat.le_refl _) (hbw.drew.trans (hb3.mono (Nat.le_of_lt xh.lt)))
      refine ⟨⟨j + 1, ao, by have := Ha.out; omega, ?_, ?_, ?_, hnew⟩, ?_⟩
      · rw [show R - a - 64 = R - 64 * (j + 1) by have := Ha.out; omega, show gcap - a - 64 = gcap - 64 * (j + 1) by have := Ha.out; omega]
      · intro h
        rw [hao2 (by have := Ha.out; omega), show a + 64 = 64 * (j + 1) by have := Ha.out; omega]
      · rw [Hn.out]; exact n3
      · simp only [lenOf]; omega
    · have HJ : Hid (j = R / 64) := by show j = R / 64; have := HRM.out; omega
      have i0 : R - 64 * j = 0 := by omega
      have ok := hashTo_ok Kl m j
      generalize hσ : hashTo Kl m j = σ at *
      have Hσ := hide hσ
      clear hσ hao HG2
      generalize gcap - 64 * j = gc at *
      rw [i0]
      have hmk := make32
      go_wp2_with fail
      have o0 : Blk (wr.alloc (.cells zero32 5)) wr.heap.size 5 (c8 (bytesTo (sumBytes σ) 0)) := Blk.new _ _ _
      have hbo : Below wr.heap.size wr (wr.alloc (.cells zero32 5)) := (Below.refl _ _).alloc (Nat.le_refl _) _
      have hx := xh.alloc (.cells zero32 5)
      have hlt2 := xh.lt
      clear hmk
      generalize wr.alloc (.cells zero32 5) = wo at *
      generalize wr = w4 at *
      go_loopw [8] (fun v ws => ∃ i : Nat, i ≤ 32 ∧ v = .int .i64 i ∧ Blk ws w4.heap.size 5 (c8 (bytesTo (sumBytes σ) i)) ∧ Below w4.heap.size w4 ws)
        (fun v _ => 32 - (intOf v).toNat)
      case atStart => exact ⟨0, by omega, rfl, o0, hbo⟩
      case round =>
        clear o0 hbo hx
        obtain ⟨i, hi, rfl, o0, hbo⟩ := hrel
        by_cases hlt3 : i < 32
        · have hx := xh.below hbo hlt2
          have hc4 : wr.cell? ⟨hb, i / 4, none⟩ = some (.int .u64 (σ.words.getD (i / 4) 0 : Nat)) := by
            rw [hx.cell, s64_get _ _ (by omega)]
          have HV := hide (word_walk (σ.words.getD (i / 4) 0) i)
          rw [← flat_get σ.words i (by show i < 32; exact hlt3)] at HV
          change Hid (_ = (((sumBytes σ).getD i 0 : Nat) : Int)) at HV
          have Hset := hide (bytesTo_set (sumBytes σ) (sumBytes_len σ) i hlt3)
          have c1 := o0.cell i
          rw [c8_get _ _ (by rw [bytesTo_len _ (sumBytes_len σ) _ hi]; exact hlt3)] at c1
          have f1 := o0.frozen i
          generalize σ.words.getD (i / 4) 0 = x at *
          have n1 := o0.set i (.int .u8 (((x : Int) / 2 ^ (24 - i % 4 * 8)).tmod 256 % 256))
          have Hval : Hid ((c8 (bytesTo (sumBytes σ) i)).setIfInBounds i (.int .u8 (((x : Int) / 2 ^ (24 - i % 4 * 8)).tmod 256 % 256)) = c8 (bytesTo (sumBytes σ) (i + 1))) := by
            show _ = _
            rw [HV.out, c8_set, Hset.out]
          rw [Hval.out] at n1
          clear Hval HV Hset hx o0
          generalize (bytesTo (sumBytes σ) i).getD i 0 = y at *
          go_wp2
          go_roundw
          case rel => exact ⟨i + 1, by omega, by go_num, n1, hbo.setCell (Nat.le_refl _) _⟩
          case measure => simp [intOf]; omega
        · obtain rfl : i = 32 := by omega
          rw [bytesTo_all _ (sumBytes_len σ)] at o0
          have hcv := toStr wr w4.heap.size 32 5 (sumBytes σ) 32 (sumBytes_len σ).symm o0 (sumBytes_lt σ)
          go_wp2
          go_ret
          refine ⟨?_, ?_⟩
          · rw [HPM.out, HPR.out, ← HJ.out, Hσ.out]; rfl
          · rw [← HW.out]
            have s2 := hbw.size
            have s3 := HSZ.out
            exact (hbel2.trans (hbw.mono (by omega))).trans (hbo.mono (by omega))
end Go.Proofs.YthpmcilljbmoiaaDoor
