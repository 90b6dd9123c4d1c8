import Derived.Test.YthpmcilljbmoiaaGreatDoorZ23
import Derived.Deep.RegionWith
import Derived.Orders
namespace Go.Proofs.YthpmcilljbmoiaaGreatDoor
open Go.RowKit

theorem na_le (x : RS) : (na x).2.1.size ≤ x.1.size := by
  have := tk_le 34 x
  unfold na
  split <;> simpa using this
theorem wi_le (lo hi : Nat) (x : RS) : (wi lo hi x).2.1.size ≤ x.1.size := by
  have := tk_le 1 x
  unfold wi nb
  split <;> simpa using this
/-- n names -/
def lsN : Nat → RS → List ByteArray × RS
  | 0, x => ([], x)
  | n + 1, x => ((lsN n x).1 ++ [(na (lsN n x).2).1], (na (lsN n x).2).2)
theorem lsN_le (x : RS) : ∀ n, (lsN n x).2.1.size ≤ x.1.size
  | 0 => Nat.le_refl _
  | n + 1 => Nat.le_trans (na_le _) (lsN_le x n)
theorem lsN_len (x : RS) : ∀ n, (lsN n x).1.length = n
  | 0 => rfl
  | n + 1 => by simp [lsN, lsN_len x n]
def li (x : RS) : List ByteArray × RS := lsN (wi 1 16 x).1 (wi 1 16 x).2
theorem wi_hi (lo hi : Nat) (x : RS) : (wi lo hi x).1 ≤ hi := by
  unfold wi
  split
  · exact Nat.zero_le _
  · omega

/-- i names are read -/
structure Lsf (w : World) (rb L : Nat) (x : RS) (i : Nat) (wr : World) : Prop where
  rd : Rf wr rb (lsN i x).2
  kp : Kept (fun k => k = rb) w wr
  ls : ∃ sv, Blk wr L 241 #[sv] ∧ Rw wr 9 1 sv i ((lsN i x).1.map Value.string) ∧ Fresh w.heap.size sv
  lt : w.heap.size ≤ L

set_option maxRecDepth 100000 in
set_option maxHeartbeats 2000000 in
theorem list_f (rb : Nat) (x : RS) (w : World) (h : Rf w rb x) (hs : x.1.size ≤ 6000) :
    Calls Tryz.prog 217 #[.pointer (some ⟨rb, 0, none⟩)] w
      fun r w' => ∃ sv, r = .returned (.agg #[sv]) ∧ Rw w' 9 1 sv (li x).1.length ((li x).1.map Value.string) ∧ Rf w' rb (li x).2 ∧ Kept (fun k => k = rb) w w' ∧ Fresh w.heap.size sv := by
  have hA : Below w.heap.size w ((w.alloc (.cells #[.slice none 0 0] 241)).alloc (.cells #[.slice none 0 0] 241)) := ((Below.refl _ _).alloc (Nat.le_refl _) _).alloc (by simp) _
  have hl0 : Blk ((w.alloc (.cells #[.slice none 0 0] 241)).alloc (.cells #[.slice none 0 0] 241)) (w.heap.size + 1) 241 #[.slice none 0 0] := Blk.at _ _ _ _ (by simp)
  have hl1 : Blk ((w.alloc (.cells #[.slice none 0 0] 241)).alloc (.cells #[.slice none 0 0] 241)) w.heap.size 241 #[.slice none 0 0] := (Blk.new _ _ _).alloc _
  have hlt := h.lt
  have hw16 := wi_hi 1 16 x
  have hwle := wi_le 1 16 x
  have HW : Hid (Calls Tryz.prog 216 #[.pointer (some ⟨rb, 0, none⟩), .int .i64 1, .int .i64 16] ((w.alloc (.cells #[.slice none 0 0] 241)).alloc (.cells #[.slice none 0 0] 241))
      fun r w' => r = .returned (.int .i64 (wi 1 16 x).1) ∧ Lsf w rb (w.heap.size + 1) (wi 1 16 x).2 0 w' ∧ Blk w' w.heap.size 241 #[.slice none 0 0]) := by
    refine (within_f rb x 1 16 _ (h.below hA) hs).mono ?_
    rintro e w' ⟨q1, q2, q3⟩
    exact ⟨q1, ⟨q2, (Kept.ofBelow hA).trans q3, ⟨_, hl0.kept q3 (by omega), .inl ⟨rfl, rfl, rfl⟩, Fresh.nil _ _ _⟩, by omega⟩, hl1.kept q3 (by omega)⟩
  have elen : (li x).1.length = (wi 1 16 x).1 := lsN_len _ _
  rw [elen]
  have eli : li x = lsN (wi 1 16 x).1 (wi 1 16 x).2 := rfl
  rw [eli]
  clear hl0 hl1 hA h elen eli
  generalize wi 1 16 x = WX at *
  obtain ⟨c, X⟩ := WX
  simp only at HW hw16 hwle ⊢
  go_enter Tryz.func217, Tryz.ntmps217
  go_wp2_with (go_at_call 216; refine HW.out.mono ?_; rintro e w0 ⟨rfl, hL, hR⟩)
  go_loopw [6] (fun iv wr => ∃ i : Nat, i ≤ c ∧ iv = .int .i64 i ∧ Hid (Lsf w rb (w.heap.size + 1) X i wr) ∧ Hid (Blk wr w.heap.size 241 #[.slice none 0 0])) (fun iv _ => c - (intOf iv).toNat)
  case atStart => exact ⟨0, by omega, rfl, hL, hR⟩
  case round =>
    clear hL hR HW
    obtain ⟨i, hi, rfl, hL, hR⟩ := hrel
    by_cases hin : i < c
    · obtain ⟨hrd, hkp, ⟨sv, hB, hRw, hF⟩, hlt2⟩ := hL.out
      have hds : (lsN i X).2.1.size ≤ 6000 := Nat.le_trans (lsN_le X i) (by omega)
      have hstep : lsN (i + 1) X = ((lsN i X).1 ++ [(na (lsN i X).2).1], (na (lsN i X).2).2) := rfl
      obtain ⟨rv, hrB, _⟩ := id hrd
      have hne1 : w.heap.size + 1 ≠ rb := by omega
      have hne2 : w.heap.size ≠ rb := by omega
      have hsvne := Rw.ne hRw hB (by decide)
      have hsvrb : sv.ownBlock ≠ some rb := Rw.ne hRw hrB (by decide)
      have HN : Hid (Calls Tryz.prog 232 #[.pointer (some ⟨rb, 0, none⟩)] (World.drew wr) fun r w1 => r = .returned (.string (na (lsN i X).2).1) ∧ Rf w1 rb (na (lsN i X).2).2 ∧ Kept (fun k => k = rb) w w1 ∧ Blk w1 (w.heap.size + 1) 241 #[sv] ∧ Rw w1 9 1 sv i ((lsN i X).1.map Value.string) ∧ Blk w1 w.heap.size 241 #[.slice none 0 0] ∧ w1.cell? ⟨w.heap.size + 1, 0, none⟩ = some sv) := by
        refine (name_f rb (lsN i X).2 (World.drew wr) hrd hds).mono ?_
        rintro e w1 ⟨q1, q2, q3⟩
        have hb1 := hB.drew.kept q3 hne1
        exact ⟨q1, q2, hkp.drew.trans q3, hb1, Rw.kept (Rw.drew hRw) q3 (fun k hk e => by subst e; exact hsvrb hk), hR.out.drew.kept q3 hne2, hb1.cell 0⟩
      have HT := hide hstep
      have HX : Hid (∀ nm w1, ∀ j u, [Value.string nm][j]? = some u → (World.alloc w1 (.cells #[.string nm] 9)).cell? (Addr.add ⟨w1.heap.size, 0, none⟩ j) = some u) := fun nm w1 j u hj => by
        cases j with
        | zero =>
          simp only [List.getElem?_cons_zero, Option.some.injEq] at hj
          subst hj
          rw [Addr.add_lit]
          exact (Blk.new w1 9 #[.string nm]).cell 0
        | succ j => simp at hj
      have c0 : wr.cell? ⟨w.heap.size + 1, 0, none⟩ = some sv := hB.cell 0
      generalize na (lsN i X).2 = NX at *
      obtain ⟨nm, X'⟩ := NX
      simp only at HN HT
      generalize hl : lsN i X = LX at *
      obtain ⟨ns, X0⟩ := LX
      simp only at HN HT hRw
      obtain ⟨a0, e0, rfl⟩ := Rw.shape hRw
      clear hrd hB hRw hR hL hrB hds hstep hl
      go_wp2
      go_region_law (first | (refine step_append_rw rfl (.tmp 9) (.tmp 12) 25 25 rfl 9 _ 1 16 Tryz.underlying25 infoStr rfl (by omega) (.slice a0 i e0) i _ (by simp [Act.eval]) (Rw.below r1 (Below.alloc (Below.refl w1.heap.size w1) (Nat.le_refl _) (.cells #[.string nm] 9))) (.slice (some ⟨w1.heap.size, 0, none⟩) 1 1) 1 [.string nm] (by simp [Act.eval]) (Src.ofSlice _ Tryz.underlying25 ⟨w1.heap.size, 0, none⟩ 1 1 _ rfl (HX.out nm w1) (by simp [Value.oneCell'])) (by omega) ?_; rintro v2 w2 r2 k2 o2; have b2 := (hb1.alloc (.cells #[.string nm] 9)).kept k2 hsvne; have c2 : w2.cell? ⟨w.heap.size + 1, 0, none⟩ = some (.slice a0 i e0) := b2.cell 0; have f2 := b2.frozen 0; obtain ⟨a2, e2, rfl⟩ := Rw.shape r2) | (go_simp; go_at_call 232; refine HN.out.mono ?_; rintro e w1 ⟨rfl, hr1, hk1, hb1, r1, hR1, g1⟩; have l1 := hb1.lt))
      all_goals
        go_wp2
        have KS : Kept (fun k => k = w.heap.size + 1) w2 (w2.setCell ⟨w.heap.size + 1, 0, none⟩ (.slice a2 (i + 1) e2)) := (Kept.refl _ _).set _ _ (fun _ => rfl)
        have n2 := Rw.ne r2 b2 (by decide)
        have K2 : Kept (fun k => k = rb) w w2 := (hk1.alloc _).next k2 (fun k hkk e => by have := hF k e; omega)
        have R2 := (hR1.alloc (.cells #[.string nm] 9)).kept k2 (fun e => Rw.ne r1 hR1 (by decide) e)
        have hr2 : Rf w2 rb X' := by
          obtain ⟨rv, q1, q2⟩ := hr1.below (Below.alloc (Below.refl w1.heap.size w1) (Nat.le_refl _) (.cells #[.string nm] 9))
          exact ⟨rv, q1.kept k2 hsvrb, q2.kept k2 (fun k hk e => Rw.ne2 (Rw.below r1 (Below.alloc (Below.refl w1.heap.size w1) (Nat.le_refl _) (.cells #[.string nm] 9))) q2 (by decide) e hk)⟩
        have hr3 : Rf (w2.setCell ⟨w.heap.size + 1, 0, none⟩ (.slice a2 (i + 1) e2)) rb X' := by
          obtain ⟨rv, q1, q2⟩ := hr2
          exact ⟨rv, q1.kept KS (by omega), q2.kept KS (fun k hk e => by subst e; exact bs_ne_cn q2 b2 (by decide) hk)⟩
        have hF2 : Fresh w.heap.size (.slice a2 (i + 1) e2) := by
          intro k hk
          rcases o2 with o2 | ⟨j, q1, q2⟩
          · exact hF k (o2 ▸ hk)
          · rw [q2] at hk
            injection hk with hk
            have := Nat.le_trans hk1.size (Nat.le_trans (by simp : w1.heap.size ≤ (w1.alloc (.cells #[.string nm] 9)).heap.size) q1)
            omega
        have hRw3 : Rw (w2.setCell ⟨w.heap.size + 1, 0, none⟩ (.slice a2 (i + 1) e2)) 9 1 (.slice a2 (i + 1) e2) (i + 1) ((lsN (i + 1) X).1.map Value.string) := by
          rw [HT.out, List.map_append]
          exact Rw.kept r2 KS (fun k hk e => by subst e; exact n2 hk)
        have hL3 : Lsf w rb (w.heap.size + 1) X (i + 1) (w2.setCell ⟨w.heap.size + 1, 0, none⟩ (.slice a2 (i + 1) e2)) :=
          ⟨by rw [HT.out]; exact hr3, K2.next KS (fun k hkk e => by omega), ⟨_, by simpa using b2.set 0 (.slice a2 (i + 1) e2), hRw3, hF2⟩, by omega⟩
        have hR3 : Blk (w2.setCell ⟨w.heap.size + 1, 0, none⟩ (.slice a2 (i + 1) e2)) w.heap.size 241 #[.slice none 0 0] := R2.kept KS (by omega)
        exact ⟨⟨i + 1, by omega, by simp, hL3, hR3⟩, by simp [intOf]; omega⟩
    · obtain ⟨hrd, hkp, ⟨sv, hB, hRw, hF⟩, hlt2⟩ := hL.out
      have hie : i = c := by omega
      subst hie
      have hR' := hR.out
      obtain ⟨a0, e0, rfl⟩ := Rw.shape hRw
      have c0 : wr.cell? ⟨w.heap.size + 1, 0, none⟩ = some (.slice a0 i e0) := hB.cell 0
      have c1 : wr.cell? ⟨w.heap.size, 0, none⟩ = some (.slice none 0 0) := hR'.cell 0
      have f1 := hR'.frozen 0
      clear hL hR
      go_wp2
      have hf : Blk (wr.setCell ⟨w.heap.size, 0, none⟩ (.slice a0 i e0)) w.heap.size 241 #[.slice a0 i e0] := by simpa using hR'.set 0 (.slice a0 i e0)
      have KS : Kept (fun k => k = w.heap.size) wr (wr.setCell ⟨w.heap.size, 0, none⟩ (.slice a0 i e0)) := (Kept.refl _ _).set _ _ (fun _ => rfl)
      have n1 := Rw.ne hRw hR' (by decide)
      refine bodyPost_ret (v := .agg #[.slice a0 i e0]) (results_cell1 rfl _ _ _ w.heap.size _ rfl (run_loadVar_row _ w.heap.size 241 241 _ (0, 0) _ hf Tryz.underlying241 rfl infoList)) rfl ⟨_, rfl, Rw.kept hRw KS (fun k hk e => by subst e; exact n1 hk), ?_, hkp.next KS (fun k hkk e => by omega), hF⟩
      obtain ⟨rv, q1, q2⟩ := hrd
      exact ⟨rv, q1.kept KS (by omega), q2.kept KS (fun k hk e => by subst e; exact bs_ne_cn q2 hR' (by decide) hk)⟩
end Go.Proofs.YthpmcilljbmoiaaGreatDoor
namespace Go.Proofs.YthpmcilljbmoiaaGreatDoor
open Go.RowKit

/-- a name and bytes -/
def bo (x : RS) : (ByteArray × ByteArray) × RS := if (na x).2.2 = true then ((⟨#[]⟩, ⟨#[]⟩), (na x).2) else (((na x).1, (tk (num ((na x).1.extract 0 2)) (na x).2).1), (tk (num ((na x).1.extract 0 2)) (na x).2).2)
theorem bo_le (x : RS) : (bo x).2.1.size ≤ x.1.size := by
  unfold bo
  split
  · exact na_le x
  · exact Nat.le_trans (tk_le _ _) (na_le x)
theorem na_ok (x : RS) (h : (na x).2.2 = false) : (na x).1.size = 34 ∧ num ((na x).1.extract 0 2) ≤ 120 := by
  unfold na at h ⊢
  split at h
  · simp at h
  · rename_i hx
    rw [if_neg hx]
    refine ⟨tk_size 34 x h, ?_⟩
    have : ¬ 120 < num ((tk 34 x).1.extract 0 2) := fun e => hx ⟨h, e⟩
    omega
theorem infoBlob : (Tryz.prog.info? 253).map (·.size) = some 2 := by kernel_rfl
/-- the result's two cells are written -/
theorem blob_out (rb : Nat) (X : RS) (w w1 : World) (u v a b : Value) (hr : Rf w1 rb X) (hk : Kept (fun k => k = rb) w w1) (hb : Blk w1 w.heap.size 253 #[a, b]) (hlt : rb < w.heap.size) :
    Blk ((w1.setCell ⟨w.heap.size, 0, none⟩ u).setCell ⟨w.heap.size, 1, none⟩ v) w.heap.size 253 #[u, v] ∧ Rf ((w1.setCell ⟨w.heap.size, 0, none⟩ u).setCell ⟨w.heap.size, 1, none⟩ v) rb X ∧ Kept (fun k => k = rb) w ((w1.setCell ⟨w.heap.size, 0, none⟩ u).setCell ⟨w.heap.size, 1, none⟩ v) := by
  have hK : Kept (fun k => k = w.heap.size) w1 ((w1.setCell ⟨w.heap.size, 0, none⟩ u).setCell ⟨w.heap.size, 1, none⟩ v) := ((Kept.refl (fun k => k = w.heap.size) w1).set ⟨w.heap.size, 0, none⟩ u (fun _ => rfl)).set ⟨w.heap.size, 1, none⟩ v (fun _ => rfl)
  refine ⟨by simpa using (hb.set 0 u).set 1 v, ?_, hk.next hK (fun k hkk e => by omega)⟩
  obtain ⟨rv, q1, q2⟩ := hr
  exact ⟨rv, q1.kept hK (by omega), q2.kept hK (fun k hkk e => by subst e; exact bs_ne_cn q2 hb (by decide) hkk)⟩

set_option maxRecDepth 100000 in
set_option maxHeartbeats 1000000 in
theorem blob_f (rb : Nat) (x : RS) (w : World) (h : Rf w rb x) (hs : x.1.size ≤ 6000) :
    Calls Tryz.prog 233 #[.pointer (some ⟨rb, 0, none⟩)] w
      fun r w' => r = .returned (.agg #[.string (bo x).1.1, .string (bo x).1.2]) ∧ Rf w' rb (bo x).2 ∧ Kept (fun k => k = rb) w w' := by
  have hA : Below w.heap.size w (w.alloc (.cells #[.string ⟨#[]⟩, .string ⟨#[]⟩] 253)) := (Below.refl _ _).alloc (Nat.le_refl _) _
  have hb0 : Blk (w.alloc (.cells #[.string ⟨#[]⟩, .string ⟨#[]⟩] 253)) w.heap.size 253 #[.string ⟨#[]⟩, .string ⟨#[]⟩] := Blk.new _ _ _
  have hlt := h.lt
  have hnle := na_le x
  have hno := na_ok x
  have HN : Hid (Calls Tryz.prog 232 #[.pointer (some ⟨rb, 0, none⟩)] (w.alloc (.cells #[.string ⟨#[]⟩, .string ⟨#[]⟩] 253)) fun r w' => r = .returned (.string (na x).1) ∧ Rf w' rb (na x).2 ∧ Kept (fun k => k = rb) w w' ∧ Blk w' w.heap.size 253 #[.string ⟨#[]⟩, .string ⟨#[]⟩] ∧ w'.cell? ⟨rb, 1, none⟩ = some (.bool (na x).2.2)) := by
    refine (name_f rb x _ (h.below hA) hs).mono ?_
    rintro e w' ⟨q1, q2, q3⟩
    obtain ⟨rv, hB, hr⟩ := id q2
    exact ⟨q1, q2, (Kept.ofBelow hA).trans q3, hb0.kept q3 (by omega), hB.cell 1⟩
  unfold bo
  clear hA hb0 h
  generalize na x = NX at *
  obtain ⟨nm, X⟩ := NX
  simp only at HN hnle hno ⊢
  cases hX : X.2 with
  | true =>
    rw [hX] at HN
    rw [if_pos rfl]
    go_enter Tryz.func233, Tryz.ntmps233
    go_wp2_with (go_at_call 232; refine HN.out.mono ?_; rintro e w1 ⟨rfl, hr1, hk1, hb1, hc1⟩; have g0 : w1.cell? ⟨w.heap.size, 0, none⟩ = some (.string ⟨#[]⟩) := hb1.cell 0; have g1 : w1.cell? ⟨w.heap.size, 1, none⟩ = some (.string ⟨#[]⟩) := hb1.cell 1; have f0 := hb1.frozen 0; have f1 := hb1.frozen 1)
    obtain ⟨o1, o2, o3⟩ := blob_out rb X w w1 (.string ⟨#[]⟩) (.string ⟨#[]⟩) _ _ hr1 hk1 hb1 hlt
    exact bodyPost_ret (v := .agg #[.string ⟨#[]⟩, .string ⟨#[]⟩]) (results_cell1 rfl _ _ _ w.heap.size _ rfl (run_loadVar_row _ w.heap.size 253 253 _ (0, 0) _ o1 Tryz.underlying253 rfl infoBlob)) rfl ⟨rfl, o2, o3⟩
  | false =>
    rw [hX] at HN
    rw [if_neg (by simp)]
    obtain ⟨h34, h120⟩ := hno hX
    have HL := hide (fun w => length_any nm w (by omega))
    have HT : Hid (∀ w1, Rf w1 rb X → Kept (fun k => k = rb) w w1 → Blk w1 w.heap.size 253 #[.string ⟨#[]⟩, .string ⟨#[]⟩] → Calls Tryz.prog 219 #[.pointer (some ⟨rb, 0, none⟩), .int .i64 (num (nm.extract 0 2))] w1 fun r w' => r = .returned (.string (tk (num (nm.extract 0 2)) X).1) ∧ Rf w' rb (tk (num (nm.extract 0 2)) X).2 ∧ Kept (fun k => k = rb) w w' ∧ Blk w' w.heap.size 253 #[.string ⟨#[]⟩, .string ⟨#[]⟩]) := fun w1 h1 h2 h3 => by
      refine (take_f rb X _ w1 h1 (by omega) (by omega)).mono ?_
      rintro e w' ⟨q1, q2, q3⟩
      exact ⟨q1, q2, h2.trans q3, h3.kept q3 (by omega)⟩
    clear hno
    generalize tk (num (nm.extract 0 2)) X = TX at *
    generalize num (nm.extract 0 2) = L at *
    obtain ⟨bs, Y⟩ := TX
    simp only at HT ⊢
    go_enter Tryz.func233, Tryz.ntmps233
    go_wp2_with (first | (go_at_call 219; refine (HT.out w1 hr1 hk1 hb1).mono ?_; rintro e w3 ⟨rfl, hr3, hk3, hb3⟩; have g0 : w3.cell? ⟨w.heap.size, 0, none⟩ = some (.string ⟨#[]⟩) := hb3.cell 0; have g1 : w3.cell? ⟨w.heap.size, 1, none⟩ = some (.string ⟨#[]⟩) := hb3.cell 1; have f0 := hb3.frozen 0; have f1 := hb3.frozen 1) | (go_at_call 239; refine (HL.out _).mono ?_; rintro e w2 ⟨rfl, rfl⟩) | (go_at_call 232; refine HN.out.mono ?_; rintro e w1 ⟨rfl, hr1, hk1, hb1, hc1⟩))
    obtain ⟨o1, o2, o3⟩ := blob_out rb Y w w3 (.string nm) (.string bs) _ _ hr3 hk3 hb3 hlt
    exact bodyPost_ret (v := .agg #[.string nm, .string bs]) (results_cell1 rfl _ _ _ w.heap.size _ rfl (run_loadVar_row _ w.heap.size 253 253 _ (0, 0) _ o1 Tryz.underlying253 rfl infoBlob)) rfl ⟨rfl, o2, o3⟩

/-- n blobs -/
def bsN : Nat → RS → List (ByteArray × ByteArray) × RS
  | 0, x => ([], x)
  | n + 1, x => ((bsN n x).1 ++ [(bo (bsN n x).2).1], (bo (bsN n x).2).2)
theorem bsN_le (x : RS) : ∀ n, (bsN n x).2.1.size ≤ x.1.size
  | 0 => Nat.le_refl _
  | n + 1 => Nat.le_trans (bo_le _) (bsN_le x n)
theorem bsN_len (x : RS) : ∀ n, (bsN n x).1.length = n
  | 0 => rfl
  | n + 1 => by simp [bsN, bsN_len x n]
def bl (x : RS) : List (ByteArray × ByteArray) × RS := bsN (wi 1 16 x).1 (wi 1 16 x).2
/-- the cells of blobs -/
def blobCells : List (ByteArray × ByteArray) → List Value
  | [] => []
  | b :: r => .string b.1 :: .string b.2 :: blobCells r
theorem blobCells_app : ∀ (l r : List (ByteArray × ByteArray)), blobCells (l ++ r) = blobCells l ++ blobCells r
  | [], r => rfl
  | b :: l, r => by simp [blobCells, blobCells_app l r]
theorem infoBlobE : (Tryz.prog.info? 253).map (fun i => (i.zero, i.size, i.bytes)) = some (some (.agg #[.string ⟨#[]⟩, .string ⟨#[]⟩]), 2, 32) := by kernel_rfl
set_option maxRecDepth 100000 in
set_option maxHeartbeats 1000000 in
theorem blobs_f (rb : Nat) (x : RS) (w : World) (h : Rf w rb x) (hs : x.1.size ≤ 6000) :
    Calls Tryz.prog 218 #[.pointer (some ⟨rb, 0, none⟩)] w
      fun r w' => ∃ sv, r = .returned sv ∧ Rw w' 253 2 sv (bl x).1.length (blobCells (bl x).1) ∧ Rf w' rb (bl x).2 ∧ Kept (fun k => k = rb) w w' ∧ Fresh w.heap.size sv := by
  have hw16 := wi_hi 1 16 x
  have hwle := wi_le 1 16 x
  have hlt := h.lt
  have HW := hide (within_f rb x 1 16 w h hs)
  have elen : (bl x).1.length = (wi 1 16 x).1 := bsN_len _ _
  rw [elen]
  have eli : bl x = bsN (wi 1 16 x).1 (wi 1 16 x).2 := rfl
  rw [eli]
  clear h elen eli
  generalize wi 1 16 x = WX at *
  obtain ⟨c, X⟩ := WX
  simp only at HW hw16 hwle ⊢
  go_enter Tryz.func218, Tryz.ntmps218
  go_wp2_with (go_at_call 216; refine HW.out.mono ?_; rintro e w0 ⟨rfl, hr0, hk0⟩)
  clear HW
  go_loopw [3, 6] (fun sv iv wr => ∃ i : Nat, i ≤ c ∧ iv = .int .i64 i ∧ Hid (Rf wr rb (bsN i X).2) ∧ Hid (Kept (fun k => k = rb) w wr) ∧ Hid (Rw wr 253 2 sv i (blobCells (bsN i X).1)) ∧ Hid (Fresh w.heap.size sv)) (fun _ iv _ => c - (intOf iv).toNat)
  case atStart => exact ⟨0, by omega, rfl, hr0, hk0, Rw.nil _ _ _, Fresh.nil _ _ _⟩
  case round =>
    clear hr0 hk0
    obtain ⟨i, hi, rfl, hr, hk, hR, hF⟩ := hrel
    by_cases hin : i < c
    · have h1 : (i : Int) < (c : Int) := by omega
      have hds : (bsN i X).2.1.size ≤ 6000 := Nat.le_trans (bsN_le X i) (by omega)
      have HB := hide (blob_f rb (bsN i X).2 wr hr.out hds)
      have hstep : bsN (i + 1) X = ((bsN i X).1 ++ [(bo (bsN i X).2).1], (bo (bsN i X).2).2) := rfl
      have HT := hide hstep
      obtain ⟨a0, e0, rfl⟩ := Rw.shape hR.out
      obtain ⟨rv, hrB, _⟩ := hr.out
      have hsvrb := Rw.ne hR.out hrB (by decide)
      generalize bo (bsN i X).2 = NX at *
      obtain ⟨⟨nm, bs⟩, X'⟩ := NX
      simp only at HB HT
      generalize bsN i X = LX at *
      obtain ⟨ns, X0⟩ := LX
      simp only at HT hR
      clear hstep hrB hr hds
      have HX : Hid (∀ w1, ∀ j u, [Value.string nm, Value.string bs][j]? = some u → (World.alloc w1 (.cells #[.string nm, .string bs] 253)).cell? (Addr.add ⟨w1.heap.size, 0, none⟩ j) = some u) := fun w1 j u hj => by
        rw [Addr.add_lit, (Blk.new w1 253 #[.string nm, .string bs]).cell]
        rw [← hj, Nat.zero_add]
        simp
      have HBl : Hid (∀ w1, Below w1.heap.size w1 (World.alloc w1 (.cells #[.string nm, .string bs] 253))) := fun w1 => (Below.refl _ _).alloc (Nat.le_refl _) _
      go_wp2_with (first | (at_builtin; refine wpList_append_rw (World.alloc w1 (.cells #[.string nm, .string bs] 253)) rfl (.tmp 8) (.tmp 11) 248 248 rfl 253 _ 2 32 Tryz.underlying248 infoBlobE rfl (by omega) (.slice a0 i e0) i (blobCells ns) rfl (Rw.below (Rw.kept hR.out hk1 (fun k hkk e => by subst e; exact hsvrb hkk)) (HBl.out w1)) (.slice (some ⟨w1.heap.size, 0, none⟩) 1 1) 1 [.string nm, .string bs] rfl (Src.ofSlice _ Tryz.underlying248 ⟨w1.heap.size, 0, none⟩ 1 1 _ rfl (HX.out w1) ?_) ?_ ?_) | (go_at_call 233; refine HB.out.mono ?_; rintro e w1 ⟨rfl, hr1, hk1⟩))
      · simp [Value.oneCell']
      · omega
      intro v2 w2 r2 k2 o2
      have hk2 : Kept (fun k => k = rb) w w2 := ((hk.out.trans hk1).below (HBl.out w1)).next k2 (fun k hkk e => by have := hF.out k e; omega)
      have hr2 : Rf w2 rb X' := by
        obtain ⟨rv, q1, q2⟩ := hr1.below (HBl.out w1)
        have hR1 := Rw.below (Rw.kept hR.out hk1 (fun k hkk e => by subst e; exact hsvrb hkk)) (HBl.out w1)
        exact ⟨rv, q1.kept k2 (Rw.ne hR1 q1 (by decide)), q2.kept k2 (fun k hkk e => Rw.ne2 hR1 q2 (by decide) e hkk)⟩
      have hF2 : Fresh w.heap.size v2 := by
        intro k hkk
        rcases o2 with o2 | ⟨j, q1, q2⟩
        · exact hF.out k (o2 ▸ hkk)
        · rw [q2] at hkk
          injection hkk with hkk
          have h1 := (hk.out.trans hk1).size
          have h2 := (HBl.out w1).size
          omega
      have hR2 : Rw w2 253 2 v2 (i + 1) (blobCells (bsN (i + 1) X).1) := by
        rw [HT.out, blobCells_app]
        exact r2
      have hr3 : Rf w2 rb (bsN (i + 1) X).2 := by rw [HT.out]; exact hr2
      obtain ⟨a2, e2, rfl⟩ := Rw.shape r2
      go_wp2
      exact ⟨⟨i + 1, by omega, by simp, hr3, hk2, hR2, hF2⟩, by simp [intOf]; omega⟩
    · obtain rfl : i = c := by omega
      obtain ⟨a0, e0, rfl⟩ := Rw.shape hR.out
      go_wp2
      go_ret
      exact ⟨_, rfl, hR.out, hr.out, hk.out, hF.out⟩
end Go.Proofs.YthpmcilljbmoiaaGreatDoor
namespace Go.Proofs.YthpmcilljbmoiaaGreatDoor
open Go.RowKit

/-- a request -/
inductive Req where
  | find (id : Nat) (names : List ByteArray) (ttl : Nat)
  | read (id : Nat) (names : List ByteArray)
  | update (id : Nat) (blobs : List (ByteArray × ByteArray))
  | get (id : Nat) (key : ByteArray)
  | put (id : Nat) (key val : ByteArray)
  | release (id lease : Nat)
/-- v is this request, its lists lie from block B on -/
def RqV (w : World) (B : Nat) (v : Value) : Option Req → Prop
  | none => v = .nilIface
  | some (.find id ns t) => ∃ a c, v = .iface 243 (.agg #[.int .i64 1, .int .i64 id, .slice a ns.length c, .int .i64 t]) ∧ Rw w 9 1 (.slice a ns.length c) ns.length (ns.map Value.string) ∧ Fresh B (.slice a ns.length c)
  | some (.read id ns) => ∃ a c, v = .iface 246 (.agg #[.int .i64 2, .int .i64 id, .slice a ns.length c]) ∧ Rw w 9 1 (.slice a ns.length c) ns.length (ns.map Value.string) ∧ Fresh B (.slice a ns.length c)
  | some (.update id bs) => ∃ a c, v = .iface 250 (.agg #[.int .i64 3, .int .i64 id, .slice a bs.length c]) ∧ Rw w 253 2 (.slice a bs.length c) bs.length (blobCells bs) ∧ Fresh B (.slice a bs.length c)
  | some (.get id key) => v = .iface 256 (.agg #[.int .i64 4, .int .i64 id, .string key])
  | some (.put id key val) => v = .iface 258 (.agg #[.int .i64 5, .int .i64 id, .string key, .string val])
  | some (.release id l) => v = .iface 261 (.agg #[.int .i64 6, .int .i64 id, .int .i64 l])
/-- a request of kind k and number id out of what is left -/
def rqk (k id : Nat) (x : RS) : Option Req × RS :=
  if k = 1 then (some (.find id (li (wi 1 100 x).2).1 (wi 1 100 x).1), (li (wi 1 100 x).2).2)
  else if k = 2 then (some (.read id (li x).1), (li x).2)
  else if k = 3 then (some (.update id (bl x).1), (bl x).2)
  else if k = 4 then (some (.get id (tk 4 x).1), (tk 4 x).2)
  else if k = 5 then (some (.put id (tk 4 x).1 (tk (wi 0 50 (tk 4 x).2).1 (wi 0 50 (tk 4 x).2).2).1), (tk (wi 0 50 (tk 4 x).2).1 (wi 0 50 (tk 4 x).2).2).2)
  else if k = 6 then (some (.release id (nb 4 x).1), (nb 4 x).2)
  else (none, x)
def rq (x : RS) : Option Req × RS := rqk (nb 1 x).1 (nb 2 (nb 1 x).2).1 (nb 2 (nb 1 x).2).2
def RqP (w : World) (rb : Nat) (q : Option Req × RS) (r : Ending) (w' : World) : Prop := ∃ v, r = .returned v ∧ RqV w' w.heap.size v q.1 ∧ Rf w' rb q.2 ∧ Kept (fun k => k = rb) w w'
theorem rw_lit {w : World} {e : TypeId} {sz : Nat} {v : Value} {n : Nat} {xs : List Value} (h : Rw w e sz v n xs) : ∃ a c, v = .slice a n c := Rw.shape h

set_option maxRecDepth 100000 in
set_option maxHeartbeats 1000000 in
theorem request_gt (rb id : Nat) (x0 x1 x : RS) (w : World) (h : Rf w rb x0) (hs : x0.1.size ≤ 6000) (hN1 : nb 1 x0 = (4, x1)) (hN2 : nb 2 x1 = (id, x)) :
    Calls Tryz.prog 177 #[.pointer (some ⟨rb, 0, none⟩)] w fun r w' => RqP w rb (rqk 4 id x) r w' := by
  have hs1 : x1.1.size ≤ 6000 := by have := tk_le 1 x0; have e : x1 = (tk 1 x0).2 := (congrArg Prod.snd hN1).symm; rw [e]; omega
  have hs2 : x.1.size ≤ 6000 := by have := tk_le 2 x1; have e : x = (tk 2 x1).2 := (congrArg Prod.snd hN2).symm; rw [e]; omega
  have HC1 := hide (number_f rb x0 1 w h hs (.inl rfl))
  rw [hN1] at HC1
  have HC2 : Hid (∀ w, Rf w rb x1 → Calls Tryz.prog 215 #[.pointer (some ⟨rb, 0, none⟩), .int .i64 2] w fun r w' => r = .returned (.int .i64 id) ∧ Rf w' rb x ∧ Kept (fun k => k = rb) w w') := fun w h => by
    have := number_f rb x1 2 w h hs1 (.inr (.inl rfl))
    rw [hN2] at this
    exact this
  have hlt := h.lt
  clear h hN1 hN2
  unfold rqk
  rw [if_neg (show ¬ (4 : Nat) = 1 by omega)]
  rw [if_neg (show ¬ (4 : Nat) = 2 by omega)]
  rw [if_neg (show ¬ (4 : Nat) = 3 by omega)]
  rw [if_pos (show (4 : Nat) = 4 from rfl)]
  have HT : Hid (∀ w1, Rf w1 rb x → Calls Tryz.prog 219 #[.pointer (some ⟨rb, 0, none⟩), .int .i64 4] w1 fun r w' => r = .returned (.string (tk 4 x).1) ∧ Rf w' rb (tk 4 x).2 ∧ Kept (fun k => k = rb) w1 w') := fun w1 h => take_f rb x 4 w1 h hs2 (by omega)
  generalize tk 4 x = TX at *
  obtain ⟨y, X⟩ := TX
  simp only at HT ⊢
  go_enter Tryz.func177, Tryz.ntmps177
  go_wp2_with (first | (go_at_call 215; refine (HC2.out _ hr1).mono ?_; rintro e w2 ⟨rfl, hr2, hk2⟩) | (go_at_call 215; refine HC1.out.mono ?_; rintro e w1 ⟨rfl, hr1, hk1⟩))
  have hA := Below.alloc (Below.refl w2.heap.size w2) (Nat.le_refl _) (.cells #[.int .i64 4, .int .i64 id] 239)
  have hr3 := hr2.below hA
  have hd3 := Blk.new w2 239 #[.int .i64 4, .int .i64 id]
  have hlt2 := hr2.lt
  have hK3 : Kept (fun k => k = rb) w (w2.alloc (.cells #[.int .i64 4, .int .i64 id] 239)) := (hk1.trans hk2).alloc _
  clear hA HC1 HC2 hk1 hk2 hr2 hr1
  generalize hW3 : w2.alloc (.cells #[.int .i64 4, .int .i64 id] 239) = W3 at *
  clear hW3
  generalize w2.heap.size = H at *
  have e0 : W3.cell? ⟨H, 0, none⟩ = some (.int .i64 4) := hd3.cell 0
  have e1 : W3.cell? ⟨H, 1, none⟩ = some (.int .i64 id) := hd3.cell 1
  have HC4 : Hid (Calls Tryz.prog 219 #[.pointer (some ⟨rb, 0, none⟩), .int .i64 4] (World.drew W3) fun r w' => r = .returned (.string y) ∧ Rf w' rb X ∧ Kept (fun k => k = rb) w w' ∧ w'.cell? ⟨H, 0, none⟩ = some (.int .i64 4) ∧ w'.cell? ⟨H, 1, none⟩ = some (.int .i64 id)) := by
    refine (HT.out (World.drew W3) hr3).mono ?_
    rintro e w' ⟨q1, q2, q3⟩
    have := hd3.drew.kept q3 (by omega)
    exact ⟨q1, q2, hK3.drew.trans q3, this.cell 0, this.cell 1⟩
  clear HT
  go_region_with (go_at_call 219; refine HC4.out.mono ?_; rintro e w3 ⟨rfl, hr4, hk4, e3, e4⟩)
  all_goals
    go_wp2
    go_ret
    exact ⟨_, rfl, rfl, hr4, hk4⟩

set_option maxRecDepth 100000 in
set_option maxHeartbeats 1000000 in
theorem request_rel (rb id : Nat) (x0 x1 x : RS) (w : World) (h : Rf w rb x0) (hs : x0.1.size ≤ 6000) (hN1 : nb 1 x0 = (6, x1)) (hN2 : nb 2 x1 = (id, x)) :
    Calls Tryz.prog 177 #[.pointer (some ⟨rb, 0, none⟩)] w fun r w' => RqP w rb (rqk 6 id x) r w' := by
  have hs1 : x1.1.size ≤ 6000 := by have := tk_le 1 x0; have e : x1 = (tk 1 x0).2 := (congrArg Prod.snd hN1).symm; rw [e]; omega
  have hs2 : x.1.size ≤ 6000 := by have := tk_le 2 x1; have e : x = (tk 2 x1).2 := (congrArg Prod.snd hN2).symm; rw [e]; omega
  have HC1 := hide (number_f rb x0 1 w h hs (.inl rfl))
  rw [hN1] at HC1
  have HC2 : Hid (∀ w, Rf w rb x1 → Calls Tryz.prog 215 #[.pointer (some ⟨rb, 0, none⟩), .int .i64 2] w fun r w' => r = .returned (.int .i64 id) ∧ Rf w' rb x ∧ Kept (fun k => k = rb) w w') := fun w h => by
    have := number_f rb x1 2 w h hs1 (.inr (.inl rfl))
    rw [hN2] at this
    exact this
  have hlt := h.lt
  clear h hN1 hN2
  unfold rqk
  rw [if_neg (show ¬ (6 : Nat) = 1 by omega)]
  rw [if_neg (show ¬ (6 : Nat) = 2 by omega)]
  rw [if_neg (show ¬ (6 : Nat) = 3 by omega)]
  rw [if_neg (show ¬ (6 : Nat) = 4 by omega)]
  rw [if_neg (show ¬ (6 : Nat) = 5 by omega)]
  rw [if_pos (show (6 : Nat) = 6 from rfl)]
  have HT : Hid (∀ w1, Rf w1 rb x → Calls Tryz.prog 215 #[.pointer (some ⟨rb, 0, none⟩), .int .i64 4] w1 fun r w' => r = .returned (.int .i64 (nb 4 x).1) ∧ Rf w' rb (nb 4 x).2 ∧ Kept (fun k => k = rb) w1 w') := fun w1 h => number_f rb x 4 w1 h hs2 (.inr (.inr rfl))
  generalize nb 4 x = TX at *
  obtain ⟨y, X⟩ := TX
  simp only at HT ⊢
  go_enter Tryz.func177, Tryz.ntmps177
  go_wp2_with (first | (go_at_call 215; refine (HC2.out _ hr1).mono ?_; rintro e w2 ⟨rfl, hr2, hk2⟩) | (go_at_call 215; refine HC1.out.mono ?_; rintro e w1 ⟨rfl, hr1, hk1⟩))
  have hA := Below.alloc (Below.refl w2.heap.size w2) (Nat.le_refl _) (.cells #[.int .i64 6, .int .i64 id] 239)
  have hr3 := hr2.below hA
  have hd3 := Blk.new w2 239 #[.int .i64 6, .int .i64 id]
  have hlt2 := hr2.lt
  have hK3 : Kept (fun k => k = rb) w (w2.alloc (.cells #[.int .i64 6, .int .i64 id] 239)) := (hk1.trans hk2).alloc _
  clear hA HC1 HC2 hk1 hk2 hr2 hr1
  generalize hW3 : w2.alloc (.cells #[.int .i64 6, .int .i64 id] 239) = W3 at *
  clear hW3
  generalize w2.heap.size = H at *
  have e0 : W3.cell? ⟨H, 0, none⟩ = some (.int .i64 6) := hd3.cell 0
  have e1 : W3.cell? ⟨H, 1, none⟩ = some (.int .i64 id) := hd3.cell 1
  have HC4 : Hid (Calls Tryz.prog 215 #[.pointer (some ⟨rb, 0, none⟩), .int .i64 4] (World.drew W3) fun r w' => r = .returned (.int .i64 y) ∧ Rf w' rb X ∧ Kept (fun k => k = rb) w w' ∧ w'.cell? ⟨H, 0, none⟩ = some (.int .i64 6) ∧ w'.cell? ⟨H, 1, none⟩ = some (.int .i64 id)) := by
    refine (HT.out (World.drew W3) hr3).mono ?_
    rintro e w' ⟨q1, q2, q3⟩
    have := hd3.drew.kept q3 (by omega)
    exact ⟨q1, q2, hK3.drew.trans q3, this.cell 0, this.cell 1⟩
  clear HT
  go_region_with (go_at_call 215; refine HC4.out.mono ?_; rintro e w3 ⟨rfl, hr4, hk4, e3, e4⟩)
  all_goals
    go_wp2
    go_ret
    exact ⟨_, rfl, rfl, hr4, hk4⟩

set_option maxRecDepth 100000 in
set_option maxHeartbeats 1000000 in
theorem request_rd (rb id : Nat) (x0 x1 x : RS) (w : World) (h : Rf w rb x0) (hs : x0.1.size ≤ 6000) (hN1 : nb 1 x0 = (2, x1)) (hN2 : nb 2 x1 = (id, x)) :
    Calls Tryz.prog 177 #[.pointer (some ⟨rb, 0, none⟩)] w fun r w' => RqP w rb (rqk 2 id x) r w' := by
  have hs1 : x1.1.size ≤ 6000 := by have := tk_le 1 x0; have e : x1 = (tk 1 x0).2 := (congrArg Prod.snd hN1).symm; rw [e]; omega
  have hs2 : x.1.size ≤ 6000 := by have := tk_le 2 x1; have e : x = (tk 2 x1).2 := (congrArg Prod.snd hN2).symm; rw [e]; omega
  have HC1 := hide (number_f rb x0 1 w h hs (.inl rfl))
  rw [hN1] at HC1
  have HC2 : Hid (∀ w, Rf w rb x1 → Calls Tryz.prog 215 #[.pointer (some ⟨rb, 0, none⟩), .int .i64 2] w fun r w' => r = .returned (.int .i64 id) ∧ Rf w' rb x ∧ Kept (fun k => k = rb) w w') := fun w h => by
    have := number_f rb x1 2 w h hs1 (.inr (.inl rfl))
    rw [hN2] at this
    exact this
  have hlt := h.lt
  clear h hN1 hN2
  unfold rqk
  rw [if_neg (show ¬ (2 : Nat) = 1 by omega)]
  rw [if_pos (show (2 : Nat) = 2 from rfl)]
  have HT : Hid (∀ w1, Rf w1 rb x → Calls Tryz.prog 217 #[.pointer (some ⟨rb, 0, none⟩)] w1 fun r w' => ∃ a c, r = .returned (.agg #[.slice a (li x).1.length c]) ∧ Rw w' 9 1 (.slice a (li x).1.length c) (li x).1.length ((li x).1.map Value.string) ∧ Rf w' rb (li x).2 ∧ Kept (fun k => k = rb) w1 w' ∧ Fresh w1.heap.size (.slice a (li x).1.length c)) := fun w1 h => by
    refine (list_f rb x w1 h hs2).mono ?_
    rintro e w' ⟨sv, q1, q2, q3, q4, q5⟩
    obtain ⟨a, c, rfl⟩ := Rw.shape q2
    exact ⟨a, c, q1, q2, q3, q4, q5⟩
  generalize li x = TX at *
  obtain ⟨ns, X⟩ := TX
  simp only at HT ⊢
  obtain ⟨nl, hnl⟩ : ∃ nl, Hid (ns.length = nl) := ⟨_, rfl⟩
  rw [hnl.out] at HT
  go_enter Tryz.func177, Tryz.ntmps177
  go_wp2_with (first | (go_at_call 215; refine (HC2.out _ hr1).mono ?_; rintro e w2 ⟨rfl, hr2, hk2⟩) | (go_at_call 215; refine HC1.out.mono ?_; rintro e w1 ⟨rfl, hr1, hk1⟩))
  have hA := Below.alloc (Below.refl w2.heap.size w2) (Nat.le_refl _) (.cells #[.int .i64 2, .int .i64 id] 239)
  have hr3 := hr2.below hA
  have hd3 := Blk.new w2 239 #[.int .i64 2, .int .i64 id]
  have hlt2 := hr2.lt
  have hK3 : Kept (fun k => k = rb) w (w2.alloc (.cells #[.int .i64 2, .int .i64 id] 239)) := (hk1.trans hk2).alloc _
  clear hA HC1 HC2 hk1 hk2 hr2 hr1
  generalize hW3 : w2.alloc (.cells #[.int .i64 2, .int .i64 id] 239) = W3 at *
  clear hW3
  generalize w2.heap.size = H at *
  have e0 : W3.cell? ⟨H, 0, none⟩ = some (.int .i64 2) := hd3.cell 0
  have e1 : W3.cell? ⟨H, 1, none⟩ = some (.int .i64 id) := hd3.cell 1
  have HC4 : Hid (Calls Tryz.prog 217 #[.pointer (some ⟨rb, 0, none⟩)] (World.drew W3) fun r w' => ∃ a c, r = .returned (.agg #[.slice a nl c]) ∧ Rw w' 9 1 (.slice a nl c) nl (ns.map Value.string) ∧ Rf w' rb X ∧ Kept (fun k => k = rb) w w' ∧ Fresh w.heap.size (.slice a nl c) ∧ w'.cell? ⟨H, 0, none⟩ = some (.int .i64 2) ∧ w'.cell? ⟨H, 1, none⟩ = some (.int .i64 id)) := by
    refine (HT.out (World.drew W3) hr3).mono ?_
    rintro e w' ⟨a, c, q1, q2, q3, q4, q5⟩
    have := hd3.drew.kept q4 (by omega)
    exact ⟨a, c, q1, q2, q3, hK3.drew.trans q4, q5.mono hK3.size, this.cell 0, this.cell 1⟩
  clear HT
  go_region_with (go_at_call 217; refine HC4.out.mono ?_; rintro e w3 ⟨a3, c3, rfl, r3, hr4, hk4, f4, e3, e4⟩)
  all_goals
    go_wp2
    go_ret
    have hn := hnl.out
    subst hn
    exact ⟨_, rfl, ⟨a3, c3, rfl, r3, f4⟩, hr4, hk4⟩

set_option maxRecDepth 100000 in
set_option maxHeartbeats 1000000 in
theorem request_upd (rb id : Nat) (x0 x1 x : RS) (w : World) (h : Rf w rb x0) (hs : x0.1.size ≤ 6000) (hN1 : nb 1 x0 = (3, x1)) (hN2 : nb 2 x1 = (id, x)) :
    Calls Tryz.prog 177 #[.pointer (some ⟨rb, 0, none⟩)] w fun r w' => RqP w rb (rqk 3 id x) r w' := by
  have hs1 : x1.1.size ≤ 6000 := by have := tk_le 1 x0; have e : x1 = (tk 1 x0).2 := (congrArg Prod.snd hN1).symm; rw [e]; omega
  have hs2 : x.1.size ≤ 6000 := by have := tk_le 2 x1; have e : x = (tk 2 x1).2 := (congrArg Prod.snd hN2).symm; rw [e]; omega
  have HC1 := hide (number_f rb x0 1 w h hs (.inl rfl))
  rw [hN1] at HC1
  have HC2 : Hid (∀ w, Rf w rb x1 → Calls Tryz.prog 215 #[.pointer (some ⟨rb, 0, none⟩), .int .i64 2] w fun r w' => r = .returned (.int .i64 id) ∧ Rf w' rb x ∧ Kept (fun k => k = rb) w w') := fun w h => by
    have := number_f rb x1 2 w h hs1 (.inr (.inl rfl))
    rw [hN2] at this
    exact this
  have hlt := h.lt
  clear h hN1 hN2
  unfold rqk
  rw [if_neg (show ¬ (3 : Nat) = 1 by omega)]
  rw [if_neg (show ¬ (3 : Nat) = 2 by omega)]
  rw [if_pos (show (3 : Nat) = 3 from rfl)]
  have HT : Hid (∀ w1, Rf w1 rb x → Calls Tryz.prog 218 #[.pointer (some ⟨rb, 0, none⟩)] w1 fun r w' => ∃ a c, r = .returned (.slice a (bl x).1.length c) ∧ Rw w' 253 2 (.slice a (bl x).1.length c) (bl x).1.length (blobCells (bl x).1) ∧ Rf w' rb (bl x).2 ∧ Kept (fun k => k = rb) w1 w' ∧ Fresh w1.heap.size (.slice a (bl x).1.length c)) := fun w1 h => by
    refine (blobs_f rb x w1 h hs2).mono ?_
    rintro e w' ⟨sv, q1, q2, q3, q4, q5⟩
    obtain ⟨a, c, rfl⟩ := Rw.shape q2
    exact ⟨a, c, q1, q2, q3, q4, q5⟩
  generalize bl x = TX at *
  obtain ⟨ns, X⟩ := TX
  simp only at HT ⊢
  obtain ⟨nl, hnl⟩ : ∃ nl, Hid (ns.length = nl) := ⟨_, rfl⟩
  rw [hnl.out] at HT
  go_enter Tryz.func177, Tryz.ntmps177
  go_wp2_with (first | (go_at_call 215; refine (HC2.out _ hr1).mono ?_; rintro e w2 ⟨rfl, hr2, hk2⟩) | (go_at_call 215; refine HC1.out.mono ?_; rintro e w1 ⟨rfl, hr1, hk1⟩))
  have hA := Below.alloc (Below.refl w2.heap.size w2) (Nat.le_refl _) (.cells #[.int .i64 3, .int .i64 id] 239)
  have hr3 := hr2.below hA
  have hd3 := Blk.new w2 239 #[.int .i64 3, .int .i64 id]
  have hlt2 := hr2.lt
  have hK3 : Kept (fun k => k = rb) w (w2.alloc (.cells #[.int .i64 3, .int .i64 id] 239)) := (hk1.trans hk2).alloc _
  clear hA HC1 HC2 hk1 hk2 hr2 hr1
  generalize hW3 : w2.alloc (.cells #[.int .i64 3, .int .i64 id] 239) = W3 at *
  clear hW3
  generalize w2.heap.size = H at *
  have e0 : W3.cell? ⟨H, 0, none⟩ = some (.int .i64 3) := hd3.cell 0
  have e1 : W3.cell? ⟨H, 1, none⟩ = some (.int .i64 id) := hd3.cell 1
  have HC4 : Hid (Calls Tryz.prog 218 #[.pointer (some ⟨rb, 0, none⟩)] (World.drew W3) fun r w' => ∃ a c, r = .returned (.slice a nl c) ∧ Rw w' 253 2 (.slice a nl c) nl (blobCells ns) ∧ Rf w' rb X ∧ Kept (fun k => k = rb) w w' ∧ Fresh w.heap.size (.slice a nl c) ∧ w'.cell? ⟨H, 0, none⟩ = some (.int .i64 3) ∧ w'.cell? ⟨H, 1, none⟩ = some (.int .i64 id)) := by
    refine (HT.out (World.drew W3) hr3).mono ?_
    rintro e w' ⟨a, c, q1, q2, q3, q4, q5⟩
    have := hd3.drew.kept q4 (by omega)
    exact ⟨a, c, q1, q2, q3, hK3.drew.trans q4, q5.mono hK3.size, this.cell 0, this.cell 1⟩
  clear HT
  go_region_with (go_at_call 218; refine HC4.out.mono ?_; rintro e w3 ⟨a3, c3, rfl, r3, hr4, hk4, f4, e3, e4⟩)
  all_goals
    go_wp2
    go_ret
    have hn := hnl.out
    subst hn
    exact ⟨_, rfl, ⟨a3, c3, rfl, r3, f4⟩, hr4, hk4⟩
end Go.Proofs.YthpmcilljbmoiaaGreatDoor
