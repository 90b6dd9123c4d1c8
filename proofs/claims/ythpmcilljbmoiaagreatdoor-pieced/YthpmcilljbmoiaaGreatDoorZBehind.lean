import Derived.Test.YthpmcilljbmoiaaGreatDoorZ14
import Derived.Test.YthpmcilljbmoiaaGreatDoorZBlk
import Derived.Deep.RegionHeld3
import Derived.Deep.RegionWith
namespace Go.Proofs.YthpmcilljbmoiaaGreatDoor
open Go.RowKit Word

/-- the first j words added up -/
def mix (σ s : St) (j : Nat) : List Nat := (add σ s).words.take j ++ σ.words.drop j
theorem mix_get (σ s : St) (j : Nat) (h : j < 8) : (c32 (mix σ s j))[j]? = some (.int .u32 (σ.words.getD j 0 : Nat)) := by
  match j, h with
  | 0, _ | 1, _ | 2, _ | 3, _ | 4, _ | 5, _ | 6, _ | 7, _ => simp [c32, mix, St.words]
theorem mix_set (σ s : St) (j : Nat) (h : j < 8) : (c32 (mix σ s j)).setIfInBounds j (.int .u32 (IntKind.u32.wrap (((σ.words.getD j 0 : Nat) : Int) + ((s.words.getD j 0 : Nat) : Int)))) = c32 (mix σ s (j + 1)) := by
  rw [← Int.natCast_add, wrap_u32_nat]
  match j, h with
  | 0, _ | 1, _ | 2, _ | 3, _ | 4, _ | 5, _ | 6, _ | 7, _ => simp [c32, mix, St.words, add]
theorem mix_all (σ s : St) : c32 (mix σ s 8) = #[.int .u32 ((add σ s).a : Nat), .int .u32 ((add σ s).b : Nat), .int .u32 ((add σ s).c : Nat), .int .u32 ((add σ s).d : Nat), .int .u32 ((add σ s).e : Nat), .int .u32 ((add σ s).f : Nat), .int .u32 ((add σ s).g : Nat), .int .u32 ((add σ s).h : Nat)] := by
  simp [c32, mix, St.words]
theorem st_get (s : St) (j : Nat) (h : j < 8) : (#[.int .u32 (s.a : Nat), .int .u32 (s.b : Nat), .int .u32 (s.c : Nat), .int .u32 (s.d : Nat), .int .u32 (s.e : Nat), .int .u32 (s.f : Nat), .int .u32 (s.g : Nat), .int .u32 (s.h : Nat)] : Array Value)[j]? = some (.int .u32 (s.words.getD j 0 : Nat)) := by
  match j, h with
  | 0, _ | 1, _ | 2, _ | 3, _ | 4, _ | 5, _ | 6, _ | 7, _ => simp [St.words]
theorem mix_none (σ s : St) : #[.int .u32 (σ.a : Nat), .int .u32 (σ.b : Nat), .int .u32 (σ.c : Nat), .int .u32 (σ.d : Nat), .int .u32 (σ.e : Nat), .int .u32 (σ.f : Nat), .int .u32 (σ.g : Nat), .int .u32 (σ.h : Nat)] = c32 (mix σ s 0) := by
  simp [c32, mix, St.words]

set_option maxHeartbeats 1000000 in
theorem behind_any (K W : List Nat) (s : St) (w : World) (hs : s.ok) (hW : W.length = 64) (hWl : ∀ i, W.getD i 0 < 4294967296) (hKl : ∀ i, K.getD i 0 < 4294967296)
    (hT : ∀ i, i < 64 → w.cell? ⟨0, i, none⟩ = some (.int .u32 (K.getD i 0 : Nat))) :
    Calls Tryz.prog 156 #[.agg #[.int .u32 (s.a : Nat), .int .u32 (s.b : Nat), .int .u32 (s.c : Nat), .int .u32 (s.d : Nat), .int .u32 (s.e : Nat), .int .u32 (s.f : Nat), .int .u32 (s.g : Nat), .int .u32 (s.h : Nat)], .agg (c32 W)] w
      fun r w' => r = .returned (.agg (c32 (block K W s).words)) ∧ Below w.heap.size w w' := by
  have HT := hide hT
  have HW := hide hWl
  have HK := hide hKl
  have HL := hide hW
  clear hT hWl hKl hW
  go_enter Tryz.func156, Tryz.ntmps156
  go_wp2_with fail
  obtain ⟨B, hB⟩ : ∃ B, B = w.heap.size := ⟨_, rfl⟩
  have HB := hide hB
  rw [← hB]
  clear hB
  go_loopw [9] (fun i wr => ∃ k : Nat, k ≤ 64 ∧ i = .int .i64 k ∧ Blk wr B 275 #[.int .u32 (s.a : Nat), .int .u32 (s.b : Nat), .int .u32 (s.c : Nat), .int .u32 (s.d : Nat), .int .u32 (s.e : Nat), .int .u32 (s.f : Nat), .int .u32 (s.g : Nat), .int .u32 (s.h : Nat)] ∧ Blk wr (B + 1) 278 (c32 W) ∧ Blk wr (B + 1 + 1) 275 #[.int .u32 0, .int .u32 0, .int .u32 0, .int .u32 0, .int .u32 0, .int .u32 0, .int .u32 0, .int .u32 0] ∧ Blk wr (B + 1 + 1 + 1) 275 #[.int .u32 ((rnds K W s k).a : Nat), .int .u32 ((rnds K W s k).b : Nat), .int .u32 ((rnds K W s k).c : Nat), .int .u32 ((rnds K W s k).d : Nat), .int .u32 ((rnds K W s k).e : Nat), .int .u32 ((rnds K W s k).f : Nat), .int .u32 ((rnds K W s k).g : Nat), .int .u32 ((rnds K W s k).h : Nat)] ∧ Below B w wr)
     (fun i _ => 64 - (intOf i).toNat)
  case atStart =>
    obtain rfl := HB.out
    exact ⟨0, by omega, rfl, (((Blk.at _ _ _ _ rfl).alloc _).alloc _).alloc _, ((Blk.at _ _ _ _ (by simp)).alloc _).alloc _, (Blk.at _ _ _ _ (by simp)).alloc _, Blk.at _ _ _ _ (by simp), ((((Below.refl _ _).alloc (by simp) _).alloc (by simp) _).alloc (by simp; omega) _).alloc (by simp; omega) _⟩
  case round =>
    obtain ⟨k, hk, rfl, b0, b1, b2, b3, hbel⟩ := hrel
    by_cases hlt : k < 64
    · have cK : wr.cell? ⟨0, k, none⟩ = some (.int .u32 (K.getD k 0 : Nat)) := by
        have := HT.out k hlt
        rw [hbel.cell (by have := World.block_lt_of_cell? _ _ this; rw [HB.out]; exact this)]; exact this
      have cW : wr.cell? ⟨B + 1, k, none⟩ = some (.int .u32 (W.getD k 0 : Nat)) := by
        rw [b1.cell]; exact c32_get W k (by rw [HL.out]; exact hlt)
      have lK := HK.out k
      have lW := HW.out k
      have ok := rnds_ok K W s hs k
      have Hr : Hid (rnds K W s (k + 1) = round (rnds K W s k) ((K.getD k 0 + W.getD k 0) % 4294967296)) := rfl
      generalize rnds K W s k = σ at *
      generalize K.getD k 0 = kk at *
      generalize W.getD k 0 = ww at *
      have d0 := b3.cell 0
      have d1 := b3.cell 1
      have d2 := b3.cell 2
      have d3 := b3.cell 3
      have d4 := b3.cell 4
      have d5 := b3.cell 5
      have d6 := b3.cell 6
      have d7 := b3.cell 7
      simp only [List.getElem?_toArray, List.getElem?_cons_zero, List.getElem?_cons_succ] at d0 d1 d2 d3 d4 d5 d6 d7
      go_wp2_with fail
      go_region_with (go_at_call 206; refine (round_ww σ _ _ _ ok).mono ?_; rintro e w' ⟨rfl, hb'⟩; (have b3' := (Blk.drew b3).below hb' b3.lt); (have e0 := b3'.cell 0); (have e1 := b3'.cell 1); (have e2 := b3'.cell 2); (have e3 := b3'.cell 3); (have e4 := b3'.cell 4); (have e5 := b3'.cell 5); (have e6 := b3'.cell 6); (have e7 := b3'.cell 7); (have f0 := b3'.frozen); simp only [List.getElem?_toArray, List.getElem?_cons_zero, List.getElem?_cons_succ] at e0 e1 e2 e3 e4 e5 e6 e7)
      all_goals
        have hlt' : B + 1 + 1 + 1 < wr.heap.size := b3.lt
        obtain ⟨n3, nb, nB⟩ := set8 b3' (.int .u32 ((round σ ((kk + ww) % 4294967296)).a : Nat)) (.int .u32 ((round σ ((kk + ww) % 4294967296)).b : Nat)) (.int .u32 ((round σ ((kk + ww) % 4294967296)).c : Nat)) (.int .u32 ((round σ ((kk + ww) % 4294967296)).d : Nat)) (.int .u32 ((round σ ((kk + ww) % 4294967296)).e : Nat)) (.int .u32 ((round σ ((kk + ww) % 4294967296)).f : Nat)) (.int .u32 ((round σ ((kk + ww) % 4294967296)).g : Nat)) (.int .u32 ((round σ ((kk + ww) % 4294967296)).h : Nat)) rfl
        clear d0 d1 d2 d3 d4 d5 d6 d7 e0 e1 e2 e3 e4 e5 e6 e7 cK cW f0
        go_wp2
        go_roundw
        case rel => exact ⟨k + 1, by omega, by go_num, nb _ _ _ (by omega) ((Blk.drew b0).below hb' b0.lt), nb _ _ _ (by omega) ((Blk.drew b1).below hb' b1.lt), nb _ _ _ (by omega) ((Blk.drew b2).below hb' b2.lt), (by rw [show rnds K W s (k + 1) = round σ ((kk + ww) % 4294967296) from Hr.out]; exact n3), nB _ _ (by omega) (hbel.drew.trans (hb'.mono (by simp; omega)))⟩
        case measure => simp [intOf]; omega
    · obtain rfl : k = 64 := by omega
      have ok := rnds_ok K W s hs 64
      have Hr : Hid (block K W s = add (rnds K W s 64) s) := rfl
      generalize rnds K W s 64 = σ at *
      rw [mix_none σ s] at b3
      go_wp2_with fail
      go_loopw [22] (fun i ws => ∃ j : Nat, j ≤ 8 ∧ i = .int .i64 j ∧ Blk ws B 275 #[.int .u32 (s.a : Nat), .int .u32 (s.b : Nat), .int .u32 (s.c : Nat), .int .u32 (s.d : Nat), .int .u32 (s.e : Nat), .int .u32 (s.f : Nat), .int .u32 (s.g : Nat), .int .u32 (s.h : Nat)] ∧ Blk ws (B + 1 + 1) 275 #[.int .u32 0, .int .u32 0, .int .u32 0, .int .u32 0, .int .u32 0, .int .u32 0, .int .u32 0, .int .u32 0] ∧ Blk ws (B + 1 + 1 + 1) 275 (c32 (mix σ s j)) ∧ Below B w ws)
        (fun i _ => 8 - (intOf i).toNat)
      case atStart => exact ⟨0, by omega, rfl, b0, b2, b3, hbel⟩
      case round =>
        clear b0 b1 b2 b3 hbel
        obtain ⟨j, hj, rfl, b0, b2, b3, hbel⟩ := hrel
        by_cases hlt : j < 8
        · have c1 : wr.cell? ⟨B + 1 + 1 + 1, j, none⟩ = some (.int .u32 (σ.words.getD j 0 : Nat)) := by rw [b3.cell]; exact mix_get σ s j hlt
          have c2 : wr.cell? ⟨B, j, none⟩ = some (.int .u32 (s.words.getD j 0 : Nat)) := by rw [b0.cell]; exact st_get s j hlt
          have f1 := b3.frozen j
          have n3 := (Blk.drew b3).set j (.int .u32 (IntKind.u32.wrap (((σ.words.getD j 0 : Nat) : Int) + ((s.words.getD j 0 : Nat) : Int))))
          rw [mix_set σ s j hlt] at n3
          generalize σ.words.getD j 0 = x at *
          generalize s.words.getD j 0 = y at *
          go_wp2_with fail
          go_region
          all_goals
            clear c1 c2 f1
            go_wp2
            go_roundw
            case rel => exact ⟨j + 1, by omega, by go_num, (Blk.drew b0).other _ _ (by simp; omega), (Blk.drew b2).other _ _ (by simp), n3, hbel.drew.setCell (by simp; omega) _⟩
            case measure => simp [intOf]; omega
        · obtain rfl : j = 8 := by omega
          rw [mix_all] at b3
          have d0 := b3.cell 0
          have d1 := b3.cell 1
          have d2 := b3.cell 2
          have d3 := b3.cell 3
          have d4 := b3.cell 4
          have d5 := b3.cell 5
          have d6 := b3.cell 6
          have d7 := b3.cell 7
          have e0 := b2.cell 0
          have e1 := b2.cell 1
          have e2 := b2.cell 2
          have e3 := b2.cell 3
          have e4 := b2.cell 4
          have e5 := b2.cell 5
          have e6 := b2.cell 6
          have e7 := b2.cell 7
          have f2 := b2.frozen
          simp only [List.getElem?_toArray, List.getElem?_cons_zero, List.getElem?_cons_succ] at d0 d1 d2 d3 d4 d5 d6 d7 e0 e1 e2 e3 e4 e5 e6 e7
          obtain ⟨n3, nb, nB⟩ := set8 b2 (.int .u32 ((add σ s).a : Nat)) (.int .u32 ((add σ s).b : Nat)) (.int .u32 ((add σ s).c : Nat)) (.int .u32 ((add σ s).d : Nat)) (.int .u32 ((add σ s).e : Nat)) (.int .u32 ((add σ s).f : Nat)) (.int .u32 ((add σ s).g : Nat)) (.int .u32 ((add σ s).h : Nat)) rfl
          go_wp2
          have g0 := n3.cell 0
          have g1 := n3.cell 1
          have g2 := n3.cell 2
          have g3 := n3.cell 3
          have g4 := n3.cell 4
          have g5 := n3.cell 5
          have g6 := n3.cell 6
          have g7 := n3.cell 7
          simp only [List.getElem?_toArray, List.getElem?_cons_zero, List.getElem?_cons_succ] at g0 g1 g2 g3 g4 g5 g6 g7
          refine bodyPost_ret (v := .agg (c32 (add σ s).words)) (by simp [results, Tryz.results156, go_sem, c32, St.words, g0, g1, g2, g3, g4, g5, g6, g7]) rfl ⟨by rw [Hr.out], ?_⟩
          rw [← HB.out]
          exact nB _ _ (by omega) hbel
end Go.Proofs.YthpmcilljbmoiaaGreatDoor
