import Derived.Test.YthpmcilljbmoiaaDoorSpread
namespace Go.Proofs.YthpmcilljbmoiaaDoor
open Go.RowKit Word

theorem cell_only {w w' : World} {b b' i : Nat} (h : Only b w w') (hb : b' ≠ b) : w'.cell? ⟨b', i, none⟩ = w.cell? ⟨b', i, none⟩ :=
  World.cell?_of_block (w := w) (h.block b' hb)
theorem only_drewN {b : Nat} {w w' : World} (h : Only b w w') (n : Nat) : Only b w (w'.drewN n) := ⟨h.os, h.tape, h.output, h.size, h.block⟩
/-- the words above place i moved up by one -/
def sh (l : List Nat) (i : Nat) : List Nat := l.take (i + 1) ++ (l.drop i).take (7 - i)
theorem sh_get (σ : St) (i : Nat) (h : i < 7) : (c64 (sh σ.words (i + 1)))[i]? = some (.int .u64 (σ.words.getD i 0 : Nat)) := by
  match i, h with
  | 0, _ | 1, _ | 2, _ | 3, _ | 4, _ | 5, _ | 6, _ => simp [c64, sh, St.words]
theorem sh_get1 (σ : St) (i : Nat) (h : i < 7) : ((c64 (sh σ.words (i + 1)))[i + 1]?).isSome = true := by
  match i, h with
  | 0, _ | 1, _ | 2, _ | 3, _ | 4, _ | 5, _ | 6, _ => simp [c64, sh, St.words]
theorem sh_set (σ : St) (i : Nat) (h : i < 7) : (c64 (sh σ.words (i + 1))).setIfInBounds (i + 1) (.int .u64 (σ.words.getD i 0 : Nat)) = c64 (sh σ.words i) := by
  match i, h with
  | 0, _ | 1, _ | 2, _ | 3, _ | 4, _ | 5, _ | 6, _ => simp [c64, sh, St.words]
theorem sh_start (σ : St) : c64 σ.words = c64 (sh σ.words 7) := by simp [c64, sh, St.words]
theorem sh_end (σ : St) : c64 (sh σ.words 0) = #[.int .u64 (σ.a : Nat), .int .u64 (σ.a : Nat), .int .u64 (σ.b : Nat), .int .u64 (σ.c : Nat), .int .u64 (σ.d : Nat), .int .u64 (σ.e : Nat), .int .u64 (σ.f : Nat), .int .u64 (σ.g : Nat)] := by simp [c64, sh, St.words]

theorem round_made (σ : St) (kk ww : Nat) : ((#[.int .u64 (σ.a : Nat), .int .u64 (σ.a : Nat), .int .u64 (σ.b : Nat), .int .u64 (σ.c : Nat), .int .u64 (σ.d : Nat), .int .u64 (σ.e : Nat), .int .u64 (σ.f : Nat), .int .u64 (σ.g : Nat)] : Array Value).setIfInBounds 4 (.int .u64 (((σ.d : Int) + ((σ.h : Int) + ((S1 σ.e : Nat) : Int) + ((ch σ.e σ.f σ.g : Nat) : Int) + (kk : Int) + (ww : Int))) % 4294967296))).setIfInBounds 0 (.int .u64 (((σ.h : Int) + ((S1 σ.e : Nat) : Int) + ((ch σ.e σ.f σ.g : Nat) : Int) + (kk : Int) + (ww : Int) + ((S0 σ.a : Nat) : Int) + ((maj σ.a σ.b σ.c : Nat) : Int)) % 4294967296)) = c64 (round σ ((kk + ww) % 4294967296)).words := by
  have e1 : ((σ.d : Int) + ((σ.h : Int) + ((S1 σ.e : Nat) : Int) + ((ch σ.e σ.f σ.g : Nat) : Int) + (kk : Int) + (ww : Int))) % 4294967296 = (((round σ ((kk + ww) % 4294967296)).e : Nat) : Int) := by
    simp only [round]; omega
  have e2 : ((σ.h : Int) + ((S1 σ.e : Nat) : Int) + ((ch σ.e σ.f σ.g : Nat) : Int) + (kk : Int) + (ww : Int) + ((S0 σ.a : Nat) : Int) + ((maj σ.a σ.b σ.c : Nat) : Int)) % 4294967296 = (((round σ ((kk + ww) % 4294967296)).a : Nat) : Int) := by
    simp only [round]; omega
  rw [e1, e2]
  simp [c64, St.words, round]
def mx (σ s : St) (j : Nat) : List Nat := (add σ s).words.take j ++ σ.words.drop j
theorem mx_get (σ s : St) (j : Nat) (h : j < 8) : (c64 (mx σ s j))[j]? = some (.int .u64 (σ.words.getD j 0 : Nat)) := by
  match j, h with
  | 0, _ | 1, _ | 2, _ | 3, _ | 4, _ | 5, _ | 6, _ | 7, _ => simp [c64, mx, St.words]
theorem mx_set (σ s : St) (j : Nat) (h : j < 8) : (c64 (mx σ s j)).setIfInBounds j (.int .u64 ((((σ.words.getD j 0 : Nat) : Int) + ((s.words.getD j 0 : Nat) : Int)) % 4294967296)) = c64 (mx σ s (j + 1)) := by
  match j, h with
  | 0, _ | 1, _ | 2, _ | 3, _ | 4, _ | 5, _ | 6, _ | 7, _ => simp [c64, mx, St.words, add]
theorem mx_all (σ s : St) : c64 (mx σ s 8) = #[.int .u64 ((add σ s).a : Nat), .int .u64 ((add σ s).b : Nat), .int .u64 ((add σ s).c : Nat), .int .u64 ((add σ s).d : Nat), .int .u64 ((add σ s).e : Nat), .int .u64 ((add σ s).f : Nat), .int .u64 ((add σ s).g : Nat), .int .u64 ((add σ s).h : Nat)] := by
  simp [c64, mx, St.words]
theorem mx_none (σ s : St) : c64 σ.words = c64 (mx σ s 0) := by
  simp [mx]
theorem s64_get (s : St) (j : Nat) (h : j < 8) : (#[.int .u64 (s.a : Nat), .int .u64 (s.b : Nat), .int .u64 (s.c : Nat), .int .u64 (s.d : Nat), .int .u64 (s.e : Nat), .int .u64 (s.f : Nat), .int .u64 (s.g : Nat), .int .u64 (s.h : Nat)] : Array Value)[j]? = some (.int .u64 (s.words.getD j 0 : Nat)) := by
  match j, h with
  | 0, _ | 1, _ | 2, _ | 3, _ | 4, _ | 5, _ | 6, _ | 7, _ => simp [St.words]
theorem Kl_all : Kl.all (fun x => decide (x < 4294967296)) = true := by decide +kernel
theorem Kl_lt (i : Nat) : Kl.getD i 0 < 4294967296 := by
  by_cases h : i < Kl.length
  · have := List.all_eq_true.1 Kl_all _ (List.getElem_mem h)
    rw [List.getD_eq_getElem?_getD, List.getElem?_eq_getElem h]
    simpa using this
  · rw [getD_out _ _ (by omega)]; decide
theorem k_get (t : Nat) (h : t < 64) : (c64 (Hl ++ Kl))[8 + t]? = some (.int .u64 (Kl.getD t 0 : Nat)) := by
  rw [c64_get _ _ (by rw [List.length_append, show Hl.length = 8 from rfl, show Kl.length = 64 from rfl]; omega)]
  rw [List.getD_eq_getElem?_getD, List.getElem?_append_right (by rw [show Hl.length = 8 from rfl]; omega), show 8 + t - Hl.length = t by rw [show Hl.length = 8 from rfl]; omega, ← List.getD_eq_getElem?_getD]
theorem st_c64 (σ : St) : c64 σ.words = #[.int .u64 (σ.a : Nat), .int .u64 (σ.b : Nat), .int .u64 (σ.c : Nat), .int .u64 (σ.d : Nat), .int .u64 (σ.e : Nat), .int .u64 (σ.f : Nat), .int .u64 (σ.g : Nat), .int .u64 (σ.h : Nat)] := by simp [c64, St.words]

set_option maxRecDepth 100000 in
set_option maxHeartbeats 2000000 in
theorem block_gen (m W : List Nat) (s : St) (b off cap : Nat) (w : World) (hs : s.ok) (hWm : sched m = W) (hm : ∀ i, m.getD i 0 < 256) (hc : ∀ i, i < 64 → w.cell? ⟨b, off + i, none⟩ = some (.int .u64 (m.getD i 0 : Nat))) :
    Calls Tryd.prog 56 #[.agg (c64 (Hl ++ Kl)), .agg #[.int .u64 (s.a : Nat), .int .u64 (s.b : Nat), .int .u64 (s.c : Nat), .int .u64 (s.d : Nat), .int .u64 (s.e : Nat), .int .u64 (s.f : Nat), .int .u64 (s.g : Nat), .int .u64 (s.h : Nat)], .slice (some ⟨b, off, none⟩) 64 cap] w
      fun r w' => r = .returned (.agg #[.int .u64 ((block Kl W s).a : Nat), .int .u64 ((block Kl W s).b : Nat), .int .u64 ((block Kl W s).c : Nat), .int .u64 ((block Kl W s).d : Nat), .int .u64 ((block Kl W s).e : Nat), .int .u64 ((block Kl W s).f : Nat), .int .u64 ((block Kl W s).g : Nat), .int .u64 ((block Kl W s).h : Nat)]) ∧ Below w.heap.size w w' := by
  have SL : Hid (W.length = 64) := by show W.length = 64; rw [← hWm]; exact sched_len m
  have SLT : Hid (∀ i, W.getD i 0 < 4294967296) := by intro i; rw [← hWm]; exact sched_lt m hm i
  have HWM := hide hWm
  clear hWm
  have HC := hide hc
  have HM := hide hm
  have hbw : b < w.heap.size := World.block_lt_of_cell? _ _ (hc 0 (by omega))
  clear hc hm
  go_enter Tryd.func56, Tryd.ntmps56
  go_wp2_with fail
  refine (spread_any m b off cap _ HM.out (fun i hi => by rw [World.cell?_alloc_lt _ _ _ (by simp; omega), World.cell?_alloc_lt _ _ _ (by simp; omega), World.cell?_alloc_lt _ _ _ hbw]; exact HC.out i hi)).mono ?_
  rintro e w1 ⟨v, rfl, hown, hb1⟩
  rw [HWM.out] at hown
  clear HWM HC HM
  obtain ⟨g, gcap, rfl, hgcap, hgB, hglt, hcell⟩ := own_form hown (by omega)
  have HF : Hid (∀ σ, σ = rnds Kl W s 64 → add σ s = block Kl W s) := fun σ h => by rw [h]; rfl
  have hW : Hid (∀ i, i < 64 → w1.cell? ⟨g, i, none⟩ = some (.int .u64 (W.getD i 0 : Nat))) := fun i hi => by
    rw [hcell i hi, k64_get _ _ (by rw [SL.out]; exact hi)]
  have x0 : Blk w1 w.heap.size 56 (c64 (Hl ++ Kl)) := (((Blk.at w _ _ _ rfl).alloc _).alloc _).below hb1 (by simp; omega)
  have x1 : Blk w1 (w.heap.size + 1) 53 #[.int .u64 (s.a : Nat), .int .u64 (s.b : Nat), .int .u64 (s.c : Nat), .int .u64 (s.d : Nat), .int .u64 (s.e : Nat), .int .u64 (s.f : Nat), .int .u64 (s.g : Nat), .int .u64 (s.h : Nat)] := ((Blk.at _ _ _ _ (by simp)).alloc _).below hb1 (by simp <;> omega)
  have x2 : Blk w1 (w.heap.size + 1 + 1) 53 #[.int .u64 0, .int .u64 0, .int .u64 0, .int .u64 0, .int .u64 0, .int .u64 0, .int .u64 0, .int .u64 0] := (Blk.at _ _ _ _ (by simp)).below hb1 (by simp)
  have hbel : Below w.heap.size w w1 := ((((Below.refl w.heap.size w).alloc (Nat.le_refl _) _).alloc (by simp) _).alloc (by simp; omega) _).trans (hb1.mono (by simp; omega))
  have hg3 : w.heap.size + 3 ≤ g := by simpa using hgB
  clear hown hcell hb1 hgB
  obtain ⟨B, hB⟩ : ∃ B, B = w.heap.size := ⟨_, rfl⟩
  have HW := hide hB
  rw [← hB] at x0 x1 x2 hg3 hbel
  rw [← hB]
  clear hB
  have d0 := x1.cell 0
  have d1 := x1.cell 1
  have d2 := x1.cell 2
  have d3 := x1.cell 3
  have d4 := x1.cell 4
  have d5 := x1.cell 5
  have d6 := x1.cell 6
  have d7 := x1.cell 7
  simp only [List.getElem?_toArray, List.getElem?_cons_zero, List.getElem?_cons_succ] at d0 d1 d2 d3 d4 d5 d6 d7
  go_wp2_with fail
  clear d0 d1 d2 d3 d4 d5 d6 d7
  have v0 : Blk (w1.alloc (.cells #[.int .u64 (s.a : Nat), .int .u64 (s.b : Nat), .int .u64 (s.c : Nat), .int .u64 (s.d : Nat), .int .u64 (s.e : Nat), .int .u64 (s.f : Nat), .int .u64 (s.g : Nat), .int .u64 (s.h : Nat)] 53)) w1.heap.size 53 (c64 (rnds Kl W s 0).words) := by
    have : c64 (rnds Kl W s 0).words = #[.int .u64 (s.a : Nat), .int .u64 (s.b : Nat), .int .u64 (s.c : Nat), .int .u64 (s.d : Nat), .int .u64 (s.e : Nat), .int .u64 (s.f : Nat), .int .u64 (s.g : Nat), .int .u64 (s.h : Nat)] := by simp [c64, rnds, St.words]
    rw [this]; exact Blk.new _ _ _
  have hW2 : Hid (∀ i, i < 64 → (w1.alloc (.cells #[.int .u64 (s.a : Nat), .int .u64 (s.b : Nat), .int .u64 (s.c : Nat), .int .u64 (s.d : Nat), .int .u64 (s.e : Nat), .int .u64 (s.f : Nat), .int .u64 (s.g : Nat), .int .u64 (s.h : Nat)] 53)).cell? ⟨g, i, none⟩ = some (.int .u64 (W.getD i 0 : Nat))) := fun i hi => by
    rw [World.cell?_alloc_lt _ _ _ hglt]; exact hW.out i hi
  have y0 := x0.alloc (.cells #[.int .u64 (s.a : Nat), .int .u64 (s.b : Nat), .int .u64 (s.c : Nat), .int .u64 (s.d : Nat), .int .u64 (s.e : Nat), .int .u64 (s.f : Nat), .int .u64 (s.g : Nat), .int .u64 (s.h : Nat)] 53)
  have y1 := x1.alloc (.cells #[.int .u64 (s.a : Nat), .int .u64 (s.b : Nat), .int .u64 (s.c : Nat), .int .u64 (s.d : Nat), .int .u64 (s.e : Nat), .int .u64 (s.f : Nat), .int .u64 (s.g : Nat), .int .u64 (s.h : Nat)] 53)
  have y2 := x2.alloc (.cells #[.int .u64 (s.a : Nat), .int .u64 (s.b : Nat), .int .u64 (s.c : Nat), .int .u64 (s.d : Nat), .int .u64 (s.e : Nat), .int .u64 (s.f : Nat), .int .u64 (s.g : Nat), .int .u64 (s.h : Nat)] 53)
  have hvb : B + 2 < w1.heap.size := x2.lt
  have hbel2 := hbel.alloc (by omega) (.cells #[.int .u64 (s.a : Nat), .int .u64 (s.b : Nat), .int .u64 (s.c : Nat), .int .u64 (s.d : Nat), .int .u64 (s.e : Nat), .int .u64 (s.f : Nat), .int .u64 (s.g : Nat), .int .u64 (s.h : Nat)] 53)
  clear x0 x1 x2 hbel hW
  generalize w1.alloc (.cells #[.int .u64 (s.a : Nat), .int .u64 (s.b : Nat), .int .u64 (s.c : Nat), .int .u64 (s.d : Nat), .int .u64 (s.e : Nat), .int .u64 (s.f : Nat), .int .u64 (s.g : Nat), .int .u64 (s.h : Nat)] 53) = w2 at *
  generalize w1.heap.size = vb at *
  go_loopw [9] (fun tv wr => ∃ t : Nat, t ≤ 64 ∧ tv = .int .i64 t ∧ Blk wr vb 53 (c64 (rnds Kl W s t).words) ∧ Only vb w2 wr)
    (fun tv _ => 64 - (intOf tv).toNat)
  case atStart => exact ⟨0, by omega, rfl, v0, Only.refl _ _⟩
  case round =>
    clear v0
    obtain ⟨t, ht, rfl, xv, ho⟩ := hrel
    by_cases hlt : t < 64
    · have ok := rnds_ok Kl W s hs t
      have HR : Hid (rnds Kl W s (t + 1) = round (rnds Kl W s t) ((Kl.getD t 0 + W.getD t 0) % 4294967296)) := rfl
      have cK : wr.cell? ⟨B, 8 + t, none⟩ = some (.int .u64 (Kl.getD t 0 : Nat)) := by rw [cell_only ho (by omega), y0.cell]; exact k_get t hlt
      have cW : wr.cell? ⟨g, t, none⟩ = some (.int .u64 (W.getD t 0 : Nat)) := by rw [cell_only ho (by omega)]; exact hW2.out t hlt
      have LK := hide (Kl_lt t)
      have LW := hide (SLT.out t)
      generalize rnds Kl W s t = σ at *
      generalize Kl.getD t 0 = kk at *
      generalize W.getD t 0 = ww at *
      obtain ⟨h1, h2, h3, h4, h5, h6, h7, h8⟩ := ok
      rw [st_c64] at xv
      have d0 := xv.cell 0
      have d1 := xv.cell 1
      have d2 := xv.cell 2
      have d3 := xv.cell 3
      have d4 := xv.cell 4
      have d5 := xv.cell 5
      have d6 := xv.cell 6
      have d7 := xv.cell 7
      simp only [List.getElem?_toArray, List.getElem?_cons_zero, List.getElem?_cons_succ] at d0 d1 d2 d3 d4 d5 d6 d7
      have q1 := S1_64 σ.e h5
      have q2 := pick_64 σ.e σ.f σ.g h5 h6 h7
      have q3 := S0_64 σ.a h1
      have q4 := two_64 σ.a σ.b σ.c h1 h2 h3
      have e1 : (σ.e : Int) ≤ 4294967295 := by omega
      have A1 := hide h1
      have A5 := hide h5
      have H2 := hide h2
      clear h1 h2 h3 h5 h6 h7
      go_wp2_with fail
      go_quiet ((go_at_call 78; exact Calls.quiet_of_same (by_any σ.e _ _ A5.out (by omega) (by omega))))
      go_wp2_with fail
      have xv' := xv.drewN nq
      have ho' := only_drewN ho nq
      have cK' : (wr.drewN nq).cell? ⟨B, 8 + t, none⟩ = some (.int .u64 (kk : Nat)) := cK
      have cW' : (wr.drewN nq).cell? ⟨g, t, none⟩ = some (.int .u64 (ww : Nat)) := cW
      clear cK cW
      clear xv ho d0 d1 d2 d3 d4 d5 d6 d7
      generalize wr.drewN nq = wa at *
      have xv := xv'
      have ho := ho'
      clear xv' ho' nq
      have d0 := xv.cell 0
      have d1 := xv.cell 1
      have d2 := xv.cell 2
      have d3 := xv.cell 3
      have d4 := xv.cell 4
      have d5 := xv.cell 5
      have d6 := xv.cell 6
      have d7 := xv.cell 7
      simp only [List.getElem?_toArray, List.getElem?_cons_zero, List.getElem?_cons_succ] at d0 d1 d2 d3 d4 d5 d6 d7
      have b1 := S1_lt A5.out
      have b2 := ch_lt (f := σ.f) (g := σ.g) A5.out
      have b3 := LK.out
      have b4 := LW.out
      have r1 : IntKind.u64.wrap ((σ.h : Int) + ((S1 σ.e : Nat) : Int)) = (σ.h : Int) + ((S1 σ.e : Nat) : Int) := by rw [IntKind.wrap_u64]; omega
      have r2 : IntKind.u64.wrap ((σ.h : Int) + ((S1 σ.e : Nat) : Int) + ((ch σ.e σ.f σ.g : Nat) : Int)) = (σ.h : Int) + ((S1 σ.e : Nat) : Int) + ((ch σ.e σ.f σ.g : Nat) : Int) := by rw [IntKind.wrap_u64]; omega
      have r3 : IntKind.u64.wrap ((σ.h : Int) + ((S1 σ.e : Nat) : Int) + ((ch σ.e σ.f σ.g : Nat) : Int) + (kk : Int)) = (σ.h : Int) + ((S1 σ.e : Nat) : Int) + ((ch σ.e σ.f σ.g : Nat) : Int) + (kk : Int) := by rw [IntKind.wrap_u64]; omega
      have r4 : IntKind.u64.wrap ((σ.h : Int) + ((S1 σ.e : Nat) : Int) + ((ch σ.e σ.f σ.g : Nat) : Int) + (kk : Int) + (ww : Int)) = (σ.h : Int) + ((S1 σ.e : Nat) : Int) + ((ch σ.e σ.f σ.g : Nat) : Int) + (kk : Int) + (ww : Int) := by rw [IntKind.wrap_u64]; omega
      have i64 : (t : Int) < 64 := by omega
      have B1 := hide b1
      have B2 := hide b2
      clear b1 b2 b3 b4
      go_quiet (fail)
      clear r1 r2 r3 r4 cK' cW'
      have xv' := xv.drewN nq
      have ho' := only_drewN ho nq
      clear xv ho d0 d1 d2 d3 d4 d5 d6 d7
      generalize wa.drewN nq = wb at *
      have xv := xv'
      have ho := ho'
      clear xv' ho' nq
      have d0 := xv.cell 0
      have d1 := xv.cell 1
      have d2 := xv.cell 2
      have d3 := xv.cell 3
      have d4 := xv.cell 4
      have d5 := xv.cell 5
      have d6 := xv.cell 6
      have d7 := xv.cell 7
      simp only [List.getElem?_toArray, List.getElem?_cons_zero, List.getElem?_cons_succ] at d0 d1 d2 d3 d4 d5 d6 d7
      go_wp2_with fail
      go_quiet ((go_at_call 78; exact Calls.quiet_of_same (by_any σ.a _ _ A1.out (by omega) (by omega))))
      go_wp2_with fail
      have z0 : Blk (wb.drewN nq) vb 53 (c64 (sh σ.words 7)) := by rw [← sh_start, st_c64]; exact xv.drewN nq
      have ho0 := only_drewN ho nq
      clear xv ho d0 d1 d2 d3 d4 d5 d6 d7 q1 q2 q3 q4
      go_loopw [15] (fun v ws => ∃ i : Nat, i ≤ 7 ∧ v = .int .i64 i ∧ Blk ws vb 53 (c64 (sh σ.words i)) ∧ Only vb w2 ws)
        (fun v _ => (intOf v).toNat)
      case atStart => exact ⟨7, by omega, rfl, z0, ho0⟩
      case round =>
        clear z0 ho0
        obtain ⟨i, hi, rfl, xv, ho⟩ := hrel
        cases i with
        | zero =>
          rw [sh_end] at xv
          have d0 := xv.cell 0
          have d1 := xv.cell 1
          have d2 := xv.cell 2
          have d3 := xv.cell 3
          have d4 := xv.cell 4
          have d5 := xv.cell 5
          have d6 := xv.cell 6
          have d7 := xv.cell 7
          simp only [List.getElem?_toArray, List.getElem?_cons_zero, List.getElem?_cons_succ] at d0 d1 d2 d3 d4 d5 d6 d7
          have f0 := xv.frozen
          have b1 := B1.out
          have b2 := B2.out
          have b3 := LK.out
          have b4 := LW.out
          have b5 := S0_lt A1.out
          have b6 := maj_lt (c := σ.c) A1.out H2.out
          have n1 := (xv.set 4 (.int .u64 (((σ.d : Int) + ((σ.h : Int) + ((S1 σ.e : Nat) : Int) + ((ch σ.e σ.f σ.g : Nat) : Int) + (kk : Int) + (ww : Int))) % 4294967296))).set 0 (.int .u64 (((σ.h : Int) + ((S1 σ.e : Nat) : Int) + ((ch σ.e σ.f σ.g : Nat) : Int) + (kk : Int) + (ww : Int) + ((S0 σ.a : Nat) : Int) + ((maj σ.a σ.b σ.c : Nat) : Int)) % 4294967296))
          rw [round_made] at n1
          go_wp2
          exact ⟨⟨t + 1, by omega, by go_num, (by rw [HR.out]; exact n1), (ho.set _ _).set _ _⟩, by simp [intOf]; omega⟩
        | succ i =>
          have c0 : wr.cell? ⟨vb, i, none⟩ = some (.int .u64 (σ.words.getD i 0 : Nat)) := by rw [xv.cell]; exact sh_get σ i (by omega)
          obtain ⟨y, hy⟩ := Option.isSome_iff_exists.1 (sh_get1 σ i (by omega))
          have c1 : wr.cell? ⟨vb, i + 1, none⟩ = some y := by rw [xv.cell]; exact hy
          have f1 := xv.frozen (i + 1)
          have n1 := xv.set (i + 1) (.int .u64 (σ.words.getD i 0 : Nat))
          rw [sh_set σ i (by omega)] at n1
          generalize σ.words.getD i 0 = x at *
          clear hy
          go_wp2
          go_roundw
          case rel => exact ⟨i, by omega, by go_num, n1, ho.set _ _⟩
          case measure => simp [intOf]
    · have e : t = 64 := by omega
      have ok := rnds_ok Kl W s hs t
      have HE : Hid (add (rnds Kl W s t) s = block Kl W s) := by
        show add _ _ = _
        exact HF.out _ (by rw [e])
      clear e
      generalize rnds Kl W s t = σ at *
      rw [mx_none σ s] at xv
      have lw : ∀ i, σ.words.getD i 0 < 4294967296 := words_lt σ ok
      have ls : ∀ i, s.words.getD i 0 < 4294967296 := words_lt s hs
      have LWH := hide lw
      have LSH := hide ls
      clear lw ls ok
      go_wp2_with fail
      go_loopw [16] (fun v ws => ∃ j : Nat, j ≤ 8 ∧ v = .int .i64 j ∧ Blk ws vb 53 (c64 (mx σ s j)) ∧ Only vb w2 ws)
        (fun v _ => 8 - (intOf v).toNat)
      case atStart => exact ⟨0, by omega, rfl, xv, ho⟩
      case round =>
        clear xv ho
        obtain ⟨j, hj, rfl, xv, ho⟩ := hrel
        by_cases hl8 : j < 8
        · have c1 : wr.cell? ⟨vb, j, none⟩ = some (.int .u64 (σ.words.getD j 0 : Nat)) := by rw [xv.cell]; exact mx_get σ s j hl8
          have c2 : wr.cell? ⟨B + 1, j, none⟩ = some (.int .u64 (s.words.getD j 0 : Nat)) := by rw [cell_only ho (by omega), y1.cell]; exact s64_get s j hl8
          have f1 := xv.frozen j
          have l1 := LWH.out j
          have l2 := LSH.out j
          have n1 := (Blk.drew xv).set j (.int .u64 ((((σ.words.getD j 0 : Nat) : Int) + ((s.words.getD j 0 : Nat) : Int)) % 4294967296))
          rw [mx_set σ s j hl8] at n1
          generalize σ.words.getD j 0 = x at *
          generalize s.words.getD j 0 = y at *
          have r1 : IntKind.u64.wrap ((x : Int) + (y : Int)) = (x : Int) + (y : Int) := by rw [IntKind.wrap_u64]; omega
          have L1 := hide l1
          have L2 := hide l2
          clear l1 l2
          go_wp2_with fail
          go_region
          all_goals
            clear c1 c2 f1 r1
            go_wp2
            go_roundw
            case rel => exact ⟨j + 1, by omega, by go_num, n1, (ho.set _ _).drew⟩
            case measure => simp [intOf]; omega
        · have e : j = 8 := by omega
          subst e
          rw [mx_all] at xv
          have z2 := y2.only ho (by omega)
          have hbz := Below.only hbel2 ho (by omega)
          have d0 := xv.cell 0
          have d1 := xv.cell 1
          have d2 := xv.cell 2
          have d3 := xv.cell 3
          have d4 := xv.cell 4
          have d5 := xv.cell 5
          have d6 := xv.cell 6
          have d7 := xv.cell 7
          simp only [List.getElem?_toArray, List.getElem?_cons_zero, List.getElem?_cons_succ] at d0 d1 d2 d3 d4 d5 d6 d7
          have e0 := z2.cell 0
          have e1 := z2.cell 1
          have e2 := z2.cell 2
          have e3 := z2.cell 3
          have e4 := z2.cell 4
          have e5 := z2.cell 5
          have e6 := z2.cell 6
          have e7 := z2.cell 7
          simp only [List.getElem?_toArray, List.getElem?_cons_zero, List.getElem?_cons_succ] at e0 e1 e2 e3 e4 e5 e6 e7
          have f2 := z2.frozen
          obtain ⟨n3, nb, nB⟩ := set8 z2 (.int .u64 ((add σ s).a : Nat)) (.int .u64 ((add σ s).b : Nat)) (.int .u64 ((add σ s).c : Nat)) (.int .u64 ((add σ s).d : Nat)) (.int .u64 ((add σ s).e : Nat)) (.int .u64 ((add σ s).f : Nat)) (.int .u64 ((add σ s).g : Nat)) (.int .u64 ((add σ s).h : Nat)) rfl
          go_wp2
          have g0 := n3.cell 0
          have g1 := n3.cell 1
          have g2 := n3.cell 2
          have g3 := n3.cell 3
          have g4 := n3.cell 4
          have g5 := n3.cell 5
          have g6 := n3.cell 6
          have g7 := n3.cell 7
          simp only [List.getElem?_toArray, List.getElem?_cons_zero, List.getElem?_cons_succ] at g0 g1 g2 g3 g4 g5 g6 g7
          refine bodyPost_ret (v := .agg #[.int .u64 ((add σ s).a : Nat), .int .u64 ((add σ s).b : Nat), .int .u64 ((add σ s).c : Nat), .int .u64 ((add σ s).d : Nat), .int .u64 ((add σ s).e : Nat), .int .u64 ((add σ s).f : Nat), .int .u64 ((add σ s).g : Nat), .int .u64 ((add σ s).h : Nat)]) (by simp [results, Tryd.results56, go_sem, g0, g1, g2, g3, g4, g5, g6, g7]) rfl ⟨by rw [HE.out], ?_⟩
          rw [← HW.out]
          exact nB _ _ (by omega) hbz
theorem block_ref (m : List Nat) (s : St) (b off cap : Nat) (w : World) (hs : s.ok) (hm : ∀ i, m.getD i 0 < 256) (hc : ∀ i, i < 64 → w.cell? ⟨b, off + i, none⟩ = some (.int .u64 (m.getD i 0 : Nat))) :
    Calls Tryd.prog 56 #[.agg (c64 (Hl ++ Kl)), .agg #[.int .u64 (s.a : Nat), .int .u64 (s.b : Nat), .int .u64 (s.c : Nat), .int .u64 (s.d : Nat), .int .u64 (s.e : Nat), .int .u64 (s.f : Nat), .int .u64 (s.g : Nat), .int .u64 (s.h : Nat)], .slice (some ⟨b, off, none⟩) 64 cap] w
      fun r w' => r = .returned (.agg #[.int .u64 ((block Kl (sched m) s).a : Nat), .int .u64 ((block Kl (sched m) s).b : Nat), .int .u64 ((block Kl (sched m) s).c : Nat), .int .u64 ((block Kl (sched m) s).d : Nat), .int .u64 ((block Kl (sched m) s).e : Nat), .int .u64 ((block Kl (sched m) s).f : Nat), .int .u64 ((block Kl (sched m) s).g : Nat), .int .u64 ((block Kl (sched m) s).h : Nat)]) ∧ Below w.heap.size w w' := block_gen m (sched m) s b off cap w hs rfl hm hc
end Go.Proofs.YthpmcilljbmoiaaDoor
