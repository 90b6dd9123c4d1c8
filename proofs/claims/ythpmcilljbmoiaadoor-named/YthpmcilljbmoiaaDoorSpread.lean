import Derived.Test.YthpmcilljbmoiaaDoorPadRef
import Derived.Test.YthpmcilljbmoiaaDoorBy
import Derived.Test.YthpmcilljbmoiaaDoorSchedGet
import Derived.Deep.RegionHeld3
import Derived.Deep.QuietTactic
import Derived.BigQuiet
import Derived.Deep.DeepFit
import Derived.Deep.RegionLaw
namespace Go.Proofs.YthpmcilljbmoiaaDoor
open Go.RowKit Word

theorem cell_new1 (w : World) (t : TypeId) (v : Value) : ∀ (j : Nat) (u : Value), [v][j]? = some u → (w.alloc (.cells #[v] t)).drew.cell? ⟨w.heap.size, j, none⟩ = some u := fun j u hj => by
  rw [World.cell?_drew, (Blk.new w t #[v]).cell]
  simpa using hj
theorem size_le {w : World} {B : Nat} (h : B ≤ w.heap.size) (o : Obj) : B ≤ (w.alloc o).drew.heap.size := by
  rw [World.size_drew, World.size_alloc]; omega
theorem app_keeps {wr w1 : World} {B b : Nat} {e : TypeId} {v : Value} {n : Nat} {xs : List Value} (hown : wr.ownsRow B e 1 v n xs) (hb : b < B) (hbw : b < wr.heap.size) {o : Obj} (hgr : (wr.alloc o).drew.grownBy w1 v.ownBlock) (i : Nat) :
    w1.cell? ⟨b, i, none⟩ = wr.cell? ⟨b, i, none⟩ := by
  rw [grown_cell hgr (by rw [World.size_drew, World.size_alloc]; omega) (own_row_ne hown hb), World.cell?_drew, World.cell?_alloc_lt _ _ _ hbw]
theorem below_app2 {w wr w1 : World} {B : Nat} {e : TypeId} {v : Value} {n : Nat} {xs : List Value} {o : Obj} (h : Below B w wr) (hB : B ≤ wr.heap.size) (ho : wr.ownsRow B e 1 v n xs) (hg : (wr.alloc o).drew.grownBy w1 v.ownBlock) : Below B w w1 :=
  (h.alloc hB o).drew.grown hg (by rw [World.size_drew, World.size_alloc]; omega) (fun k hk => (ho.lt k hk).1)
theorem one_u64 (n : Int) : ∀ u ∈ [Value.int .u64 n], u.oneCell' = true := by simp [Value.oneCell']

set_option maxRecDepth 100000 in
set_option maxHeartbeats 1000000 in
theorem spread_any (m : List Nat) (b off cap : Nat) (w : World) (hm : ∀ i, m.getD i 0 < 256) (hc : ∀ i, i < 64 → w.cell? ⟨b, off + i, none⟩ = some (.int .u64 (m.getD i 0 : Nat))) :
    Calls Tryd.prog 77 #[.slice (some ⟨b, off, none⟩) 64 cap] w
      fun r w' => ∃ v, r = .returned v ∧ w'.ownsRow w.heap.size 52 1 v 64 (k64 (sched m)) ∧ Below w.heap.size w w' := by
  have hbw : b < w.heap.size := World.block_lt_of_cell? _ _ (hc 0 (by omega))
  have HC := hide hc
  have HM := hide hm
  have SL := hide (sched_len m)
  have SLO := hide (sched_lo m)
  have SHI := hide (sched_hi m)
  have SLT := hide (sched_lt m hm)
  clear hc hm
  generalize sched m = S at *
  go_enter Tryd.func77, Tryd.ntmps77
  go_wp2_with fail
  obtain ⟨B, hB⟩ : ∃ B, B = w.heap.size := ⟨_, rfl⟩
  have HW := hide hB
  rw [← hB] at hbw
  clear hB
  go_loopw [3, 4] (fun v tv wr => ∃ t : Nat, t ≤ 64 ∧ tv = .int .i64 t ∧ wr.ownsRow B 52 1 v t (k64 (S.take t)) ∧ Below B w wr)
    (fun _ tv _ => 64 - (intOf tv).toNat)
  case atStart => exact ⟨0, by omega, rfl, World.ownsRow_nil _ _ _ _, Below.refl _ _⟩
  case round =>
    obtain ⟨t, ht, rfl, hown, hbel⟩ := hrel
    have hBw : B ≤ wr.heap.size := by have := hbel.size; rw [HW.out]; exact this
    by_cases hlt : t < 64
    · have Hs := hide (take_snoc S t (by rw [SL.out]; exact hlt))
      by_cases h16 : t < 16
      · have cell : ∀ i, i < 64 → wr.cell? ⟨b, off + i, none⟩ = some (.int .u64 (m.getD i 0 : Nat)) := fun i hi => by
          rw [hbel.cell (p := ⟨b, off + i, none⟩) hbw]; exact HC.out i hi
        have c0 := cell (4 * t) (by omega)
        have c1 := cell (4 * t + 1) (by omega)
        have c2 := cell (4 * t + 2) (by omega)
        have c3 := cell (4 * t + 3) (by omega)
        have l0 := HM.out (4 * t)
        have l1 := HM.out (4 * t + 1)
        have l2 := HM.out (4 * t + 2)
        have l3 := HM.out (4 * t + 3)
        have Hg := hide (SLO.out t h16)
        rw [acc4] at Hg
        clear cell
        generalize m.getD (4 * t) 0 = x0 at *
        generalize m.getD (4 * t + 1) 0 = x1 at *
        generalize m.getD (4 * t + 2) 0 = x2 at *
        generalize m.getD (4 * t + 3) 0 = x3 at *
        go_wp2_with fail
        have w0 : IntKind.i64.wrap (4 * (t : Int)) = 4 * (t : Int) := by rw [IntKind.wrap_i64]; omega
        have w1 : IntKind.i64.wrap (4 * (t : Int) + 1) = 4 * (t : Int) + 1 := by rw [IntKind.wrap_i64]; omega
        have w2 : IntKind.i64.wrap (4 * (t : Int) + 2) = 4 * (t : Int) + 2 := by rw [IntKind.wrap_i64]; omega
        have w3 : IntKind.i64.wrap (4 * (t : Int) + 3) = 4 * (t : Int) + 3 := by rw [IntKind.wrap_i64]; omega
        have j0 : (4 * (t : Int)).toNat = 4 * t := by omega
        have j1 : (4 * (t : Int) + 1).toNat = 4 * t + 1 := by omega
        have j2 : (4 * (t : Int) + 2).toNat = 4 * t + 2 := by omega
        have j3 : (4 * (t : Int) + 3).toNat = 4 * t + 3 := by omega
        have i0 : 4 * (t : Int) < 64 := by omega
        have i1 : 4 * (t : Int) + 1 < 64 := by omega
        have i2 : 4 * (t : Int) + 2 < 64 := by omega
        have i3 : 4 * (t : Int) + 3 < 64 := by omega
        have n1 : (0 : Int) ≤ 4 * (t : Int) + 1 := by omega
        have n2 : (0 : Int) ≤ 4 * (t : Int) + 2 := by omega
        have n3 : (0 : Int) ≤ 4 * (t : Int) + 3 := by omega
        have n0 : (0 : Int) ≤ 4 * (t : Int) := by omega
        have u1 : IntKind.u64.wrap ((x0 : Int) * 256) = (x0 : Int) * 256 := by rw [IntKind.wrap_u64]; omega
        have u2 : IntKind.u64.wrap ((x0 : Int) * 256 + (x1 : Int)) = (x0 : Int) * 256 + (x1 : Int) := by rw [IntKind.wrap_u64]; omega
        have u3 : IntKind.u64.wrap (((x0 : Int) * 256 + (x1 : Int)) * 256) = ((x0 : Int) * 256 + (x1 : Int)) * 256 := by rw [IntKind.wrap_u64]; omega
        have u4 : IntKind.u64.wrap (((x0 : Int) * 256 + (x1 : Int)) * 256 + (x2 : Int)) = ((x0 : Int) * 256 + (x1 : Int)) * 256 + (x2 : Int) := by rw [IntKind.wrap_u64]; omega
        have u5 : IntKind.u64.wrap ((((x0 : Int) * 256 + (x1 : Int)) * 256 + (x2 : Int)) * 256) = (((x0 : Int) * 256 + (x1 : Int)) * 256 + (x2 : Int)) * 256 := by rw [IntKind.wrap_u64]; omega
        have u6 : IntKind.u64.wrap ((((x0 : Int) * 256 + (x1 : Int)) * 256 + (x2 : Int)) * 256 + (x3 : Int)) = (((x0 : Int) * 256 + (x1 : Int)) * 256 + (x2 : Int)) * 256 + (x3 : Int) := by rw [IntKind.wrap_u64]; omega
        have hbwr : b < wr.heap.size := Nat.lt_of_lt_of_le hbw hBw
        go_region_held3 (fun w' => w'.cell? ⟨b, off + 4 * t, none⟩ = some (.int .u64 (x0 : Nat)) ∧ w'.cell? ⟨b, off + (4 * t + 1), none⟩ = some (.int .u64 (x1 : Nat)) ∧ w'.cell? ⟨b, off + (4 * t + 2), none⟩ = some (.int .u64 (x2 : Nat)) ∧ w'.cell? ⟨b, off + (4 * t + 3), none⟩ = some (.int .u64 (x3 : Nat))) (go_keep) (first | (apply step_append_row (s := .tmp 15) (x := .tmp 45) (t := 131) (e := 52) (z := .int .u64 0) (by_ := 8) (base := B) (n := t) (b := wr.heap.size) (m := 1) (c := 1) (news := [Value.int .u64 ((((x0 : Int) * 256 + (x1 : Int)) * 256 + (x2 : Int)) * 256 + (x3 : Int))]); ((case hop => rfl); (case hg => rfl); (case h1 => exact Tryd.underlying131); (case h2 => exact infoU64); (case hz => rfl); (case hs => rfl); (case hx => rfl); (case hn => rfl); (case b1 => omega); (case b2 => decide); (case hown => exact (hown.alloc _).drew); (case hc => exact cell_new1 _ _ _); (case h1c => exact one_u64 _); (case hbase => exact size_le hBw _); intro v1 wq hown1 hgr; (have q := app_keeps hown hbw hbwr hgr); (have d0 := (q (off + 4 * t)).trans c0); (have d1 := (q (off + (4 * t + 1))).trans c1); (have d2 := (q (off + (4 * t + 2))).trans c2); (have d3 := (q (off + (4 * t + 3))).trans c3); clear q)))
        all_goals
          have hv : (((x0 : Int) * 256 + (x1 : Int)) * 256 + (x2 : Int)) * 256 + (x3 : Int) = ((S.getD t 0 : Nat) : Int) := by rw [Hg.out]; omega
          rw [hv, k64_app, ← Hs.out] at hown1
          have hbel1 := below_app2 hbel hBw hown hgr
          clear c0 c1 c2 c3 d0 d1 d2 d3 w0 w1 w2 w3 j0 j1 j2 j3 u1 u2 u3 u4 u5 u6 i0 i1 i2 i3 n0 n1 n2 n3 hgr hown hv
          go_wp2
          go_roundw
          case rel => exact ⟨t + 1, by omega, by go_num, hown1, hbel1⟩
          case measure => simp [intOf]; omega
      · obtain ⟨g, gcap, rfl, hgcap, hgB, hglt, hcell⟩ := own_form hown (by omega)
        have cell : ∀ i, i < t → wr.cell? ⟨g, i, none⟩ = some (.int .u64 (S.getD i 0 : Nat)) := fun i hi => by
          rw [hcell i hi, k64_get _ _ (by rw [List.length_take, SL.out]; omega), List.getD_eq_getElem?_getD, List.getElem?_take_of_lt hi, ← List.getD_eq_getElem?_getD]
        have c15 := cell (t - 15) (by omega)
        have c2 := cell (t - 2) (by omega)
        have c7 := cell (t - 7) (by omega)
        have c16 := cell (t - 16) (by omega)
        have L15 := hide (SLT.out (t - 15))
        have L2 := hide (SLT.out (t - 2))
        have L7 := hide (SLT.out (t - 7))
        have L16 := hide (SLT.out (t - 16))
        have Hg := hide (SHI.out t (by omega) hlt)
        clear cell hcell
        generalize S.getD (t - 15) 0 = y15 at *
        generalize S.getD (t - 2) 0 = y2 at *
        generalize S.getD (t - 7) 0 = y7 at *
        generalize S.getD (t - 16) 0 = y16 at *
        have hq0 : IntKind.u64.wrap ((y15 : Int) / 8) = (y15 : Int) / 8 := by have := L15.out; rw [IntKind.wrap_u64]; omega
        have hq1 : IntKind.u64.wrap ((y2 : Int) / 1024) = (y2 : Int) / 1024 := by have := L2.out; rw [IntKind.wrap_u64]; omega
        have hs0 := s0_64 y15 L15.out
        have hs1 := s1_64 y2 L2.out
        go_wp2_with (go_at_call 78; refine (by_any _ _ _ ?_ ?_ ?_).mono ?_; (first | exact L15.out | exact L2.out); omega; omega; rintro e w' ⟨rfl, rfl⟩)
        have LS0 := s0_lt L15.out
        have LS1 := s1_lt L2.out
        have L7' := L7.out
        have L16' := L16.out
        have w7 : IntKind.i64.wrap ((t : Int) - 7) = ((t - 7 : Nat) : Int) := wrap_sub t 7 (by omega) (by omega)
        have w16 : IntKind.i64.wrap ((t : Int) - 16) = ((t - 16 : Nat) : Int) := wrap_sub t 16 (by omega) (by omega)
        have i7 : ((t - 7 : Nat) : Int) < (t : Int) := by omega
        have i16 : ((t - 16 : Nat) : Int) < (t : Int) := by omega
        have u1 : IntKind.u64.wrap (((s0 y15 : Nat) : Int) + ((s1 y2 : Nat) : Int)) = ((s0 y15 : Nat) : Int) + ((s1 y2 : Nat) : Int) := by rw [IntKind.wrap_u64]; omega
        have u2 : IntKind.u64.wrap (((s0 y15 : Nat) : Int) + ((s1 y2 : Nat) : Int) + (y7 : Int)) = ((s0 y15 : Nat) : Int) + ((s1 y2 : Nat) : Int) + (y7 : Int) := by rw [IntKind.wrap_u64]; omega
        have u3 : IntKind.u64.wrap (((s0 y15 : Nat) : Int) + ((s1 y2 : Nat) : Int) + (y7 : Int) + (y16 : Int)) = ((s0 y15 : Nat) : Int) + ((s1 y2 : Nat) : Int) + (y7 : Int) + (y16 : Int) := by rw [IntKind.wrap_u64]; omega
        have HV : Hid ((((s0 y15 : Nat) : Int) + ((s1 y2 : Nat) : Int) + (y7 : Int) + (y16 : Int)).tmod 4294967296 = ((S.getD t 0 : Nat) : Int)) := by
          show _ = _
          rw [Hg.out, Int.tmod_eq_emod_of_nonneg (by omega)]; omega
        clear LS0 LS1 L7' L16' hs0 hs1 c15 c2 hq0 hq1
        generalize t - 7 = t7 at *
        generalize t - 16 = t16 at *
        generalize s0 y15 = z0 at *
        generalize s1 y2 = z1 at *
        go_region_law (first | (apply step_append_row (s := .tmp 73) (x := .tmp 90) (t := 131) (e := 52) (z := .int .u64 0) (by_ := 8) (base := B) (n := t) (b := w'.heap.size) (m := 1) (c := 1) (news := [Value.int .u64 ((((z0 : Nat) : Int) + ((z1 : Nat) : Int) + (y7 : Int) + (y16 : Int)).tmod 4294967296)]); ((case hop => rfl); (case hg => rfl); (case h1 => exact Tryd.underlying131); (case h2 => exact infoU64); (case hz => rfl); (case hs => rfl); (case hx => rfl); (case hn => rfl); (case b1 => omega); (case b2 => decide); (case hown => exact (hown.alloc _).drew); (case hc => exact cell_new1 _ _ _); (case h1c => exact one_u64 _); (case hbase => exact size_le hBw _); intro v1 wq hown1 hgr)))
        all_goals
          rw [HV.out, k64_app, ← Hs.out] at hown1
          have hbel1 := below_app2 hbel hBw hown hgr
          clear c7 c16 w7 w16 i7 i16 u1 u2 u3 hgr hown
          go_wp2
          go_roundw
          case rel => exact ⟨t + 1, by omega, by go_num, hown1, hbel1⟩
          case measure => simp [intOf]; omega
    · have e : t = 64 := by omega
      subst e
      rw [List.take_of_length_le (by rw [SL.out]; exact Nat.le_refl _)] at hown
      go_wp2
      go_ret
      rw [HW.out] at hown hbel
      exact ⟨_, rfl, hown, hbel⟩
end Go.Proofs.YthpmcilljbmoiaaDoor
