import Derived.Test.YthpmcilljbmoiaaDoorTimes
namespace Go.Proofs.YthpmcilljbmoiaaDoor
open Go.RowKit Dig

set_option maxHeartbeats 400000 in
theorem most_any (a b : Int) (w : World) :
    Calls Tryd.prog 75 #[.int .i64 a, .int .i64 b] w fun r w' => r = .returned (.int .i64 (max a b)) ∧ w' = w := by
  by_cases h : b < a
  all_goals
    go_enter Tryd.func75, Tryd.ntmps75
    go_wp2
    go_ret
    exact ⟨congrArg (fun x => Ending.returned (Value.int .i64 x)) (by omega), rfl⟩

set_option maxHeartbeats 400000 in
theorem at_any (l : List Nat) (b n cap : Nat) (i : Nat) (w : World) (hn : n = l.length) (_hl : l.length ≤ 64) (xl : Blk w b 3 (ci l)) :
    Calls Tryd.prog 76 #[.slice (some ⟨b, 0, none⟩) n cap, .int .i64 i] w fun r w' => r = .returned (.int .i64 (l.getD i 0 : Nat)) ∧ w' = w := by
  subst hn
  by_cases h : i < l.length
  · have c := xl.cell i
    rw [ci_get l i h] at c
    generalize l.getD i 0 = x at *
    go_enter Tryd.func76, Tryd.ntmps76
    go_wp2
    go_ret
    exact ⟨rfl, rfl⟩
  · have e : l.getD i 0 = 0 := by rw [List.getD_eq_getElem?_getD, List.getElem?_eq_none (by omega)]; rfl
    rw [e]
    clear e
    go_enter Tryd.func76, Tryd.ntmps76
    go_wp2
    go_ret
    exact ⟨rfl, rfl⟩
set_option maxRecDepth 100000 in
set_option maxHeartbeats 400000 in
theorem above_any (a b : List Nat) (ba bb na nb ca cb : Nat) (w : World) (ha : ok a) (hb : ok b) (la : na = a.length) (lb : nb = b.length) (ma : na ≤ 16) (mb : nb ≤ 16)
    (xa : Blk w ba 3 (ci a)) (xb : Blk w bb 3 (ci b)) :
    Calls Tryd.prog 54 #[.slice (some ⟨ba, 0, none⟩) na ca, .slice (some ⟨bb, 0, none⟩) nb cb] w
      fun r w' => r = .returned (.bool (decide (val b < val a))) ∧ w' = w := by
  have LA := hide la
  have LB := hide lb
  have HA := hide ha
  have HB := hide hb
  clear la lb ha hb
  obtain ⟨M, hM⟩ : ∃ M : Nat, M = max na nb := ⟨_, rfl⟩
  have hmax : max (na : Int) (nb : Int) = (M : Int) := by omega
  have HM := hide hM
  have hM16 : M ≤ 16 := by omega
  clear hM
  go_enter Tryd.func54, Tryd.ntmps54
  go_wp2_with (go_at_call 75; refine (most_any _ _ _).mono ?_; rintro e w' ⟨rfl, rfl⟩)
  go_loop [5] (fun v => ∃ j : Nat, j ≤ M ∧ v = .int .i64 ((j : Int) - 1) ∧ Hid (∀ i, j ≤ i → a.getD i 0 = b.getD i 0)) (fun v => (intOf v + 1).toNat)
  case atStart =>
    refine ⟨M, by omega, rfl, fun i hi => ?_⟩
    have h1 := HM.out
    have h2 := LA.out
    have h3 := LB.out
    rw [List.getD_eq_getElem?_getD, List.getD_eq_getElem?_getD, List.getElem?_eq_none (by omega), List.getElem?_eq_none (by omega)]
  case round =>
    obtain ⟨j, hj, rfl, HE⟩ := hrel
    cases j with
    | zero =>
      have HF : Hid (decide (val b < val a) = false) := by
        show decide _ = false
        have := all_same (a := a) (b := b) fun i => HE.out i (by omega)
        rw [this]; simp
      go_wp2
      go_ret
      exact ⟨ret_bool HF.out.symm, rfl⟩
    | succ j =>
      have e1 : ((j + 1 : Nat) : Int) - 1 = (j : Int) := by omega
      rw [e1]
      clear e1
      have TA := hide (at_any a ba na ca j w' LA.out (by have := LA.out; omega) xa)
      have TB := hide (at_any b bb nb cb j w' LB.out (by have := LB.out; omega) xb)
      by_cases hne : a.getD j 0 = b.getD j 0
      · have HN : Hid (∀ i, j ≤ i → a.getD i 0 = b.getD i 0) := fun i hi => by
          by_cases e : i = j
          · subst e; exact hne
          · exact HE.out i (by omega)
        have hne' : (((a.getD j 0 : Nat) : Int) != ((b.getD j 0 : Nat) : Int)) = false := by rw [bne_eq_false_iff_eq]; omega
        clear hne
        generalize a.getD j 0 = x at *
        generalize b.getD j 0 = y at *
        go_wp2_with fail
        refine TA.out.mono ?_
        rintro e w1 ⟨rfl, hw⟩
        subst hw
        go_wp2_with fail
        refine TB.out.mono ?_
        rintro e w1 ⟨rfl, hw⟩
        subst hw
        go_wp2
        exact ⟨⟨j, by omega, rfl, HN⟩, by simp [intOf]⟩
      · have hne' : (((a.getD j 0 : Nat) : Int) != ((b.getD j 0 : Nat) : Int)) = true := by rw [bne_iff_ne]; omega
        have HF : Hid (decide (val b < val a) = decide (b.getD j 0 < a.getD j 0)) := by
          show decide _ = decide _
          by_cases hlt : b.getD j 0 < a.getD j 0
          · have := parts_at HB.out (a := b) (b := a) (p := j) (fun i hi => (HE.out i (by omega)).symm) hlt
            rw [decide_eq_true this, decide_eq_true (by omega)]
          · have := parts_at HA.out (a := a) (b := b) (p := j) (fun i hi => HE.out i (by omega)) (by omega)
            rw [decide_eq_false (by omega), decide_eq_false (by omega)]
        clear hne
        generalize a.getD j 0 = x at *
        generalize b.getD j 0 = y at *
        go_wp2_with fail
        refine TA.out.mono ?_
        rintro e w1 ⟨rfl, hw⟩
        subst hw
        go_wp2_with fail
        refine TB.out.mono ?_
        rintro e w1 ⟨rfl, hw⟩
        subst hw
        go_wp2
        go_ret
        exact ⟨ret_bool HF.out.symm, rfl⟩
end Go.Proofs.YthpmcilljbmoiaaDoor
