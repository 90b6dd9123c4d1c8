import Derived.Test.YthpmcilljbmoiaaGreatDoorDoors
namespace Go.Proofs.YthpmcilljbmoiaaGreatDoor
open Go.RowKit

variable {N : Nat → ByteArray} {w w' : World} {U : Nat → Prop} {db n t R : Nat} {want : Nat → ByteArray}

/-- what a try to take a step comes to -/
def Tried (N : Nat → ByteArray) (w : World) (U : Nat → Prop) (db n R : Nat) (want : Nat → ByteArray) (b : Bool) (w' : World) : Prop :=
  (R = 0 ∧ b = false ∧ Below w.heap.size w w') ∨ (b = true ∧ ∃ R' t', R = R' + 1 ∧ Inv N w' (ext U w w') db n t' R' want ∧ Kept U w w')
def TurnP (N : Nat → ByteArray) (w : World) (U : Nat → Prop) (db n R : Nat) (want : Nat → ByteArray) (e : Ending) (w' : World) : Prop := ∃ b, e = .returned (.bool b) ∧ Tried N w U db n R want b w'

set_option maxRecDepth 100000 in
set_option maxHeartbeats 2000000 in
theorem turn_any (hN : Nok N) (h : Inv N w U db n t R want) :
    Calls Tryz.prog 63 #[.pointer (some ⟨db, 0, none⟩)] w fun e w' => TurnP N w U db n R want e w' := by
  obtain ⟨G, F, kbs, rem, h1, h2⟩ := h
  have hn8 := h1.dp.n8
  have ht8 := h1.dp.t8
  obtain ⟨shv, cvv, m1, m2, m3⟩ := h1.dp.mem
  have c1 : w.cell? ⟨db, 1, none⟩ = some cvv := m1.cell 1
  have hlt := m1.lt
  obtain ⟨a0, e0, rfl⟩ := Rw.shape m2
  have HS : Hid (∀ c, c < n → ∀ w1, Below w.heap.size w w1 → Calls Tryz.prog 49 #[.pointer (some ⟨db, 0, none⟩), .pointer (some ⟨kbs c, 0, none⟩)] w1
      fun e w' => ∃ z : Int, e = .returned (.int .i64 z) ∧ ((rem c = 0 ∧ z = 0 ∧ Below w.heap.size w w') ∨ (z ≠ 0 ∧ w'.cell? ⟨db, 6, none⟩ = some (.int .i64 t) ∧ w'.frozen? ⟨db, 6, none⟩ = false ∧ ∃ r' F' rem', Ivx N w' (ext U w w') db n t G F' kbs rem' want ∧ R = r' + 1 ∧ r' = tot rem' n ∧ Kept U w w'))) := by
    intro c hc w1 hb
    have h1' := h1.below hb
    refine (step_cw hN h1'.dp.emp (h1'.fg c hc) (h1'.cw c hc)).mono ?_
    rintro e w' ⟨z, q1, q2⟩
    refine ⟨z, q1, ?_⟩
    rcases q2 with ⟨q2, q3, q4⟩ | ⟨q2, r', q3, q4, q5⟩
    · exact .inl ⟨q2, q3, hb.trans (q4.mono hb.size)⟩
    · obtain ⟨q6, q7⟩ := h1'.stepped c hc r' q3 q4 q5
      have hw : ∀ k, ext U w1 w' k → ext U w w' k := fun k hk => by
        rcases hk with hk | hk
        · exact .inl hk
        · exact .inr ⟨by have := hb.size; omega, hk.2⟩
      have hU : Kept U w w' := (Kept.ofBelow hb).next (q5.mono (fun k _ hf => h1'.fu c hc k hf)) (fun _ _ h => h)
      obtain ⟨shv', cvv', k1, k2, k3⟩ := q6.dp.mem
      refine .inr ⟨q2, k1.cell 6, k1.frozen 6, _, _, _, ⟨q6.dp, q6.cw, q6.fg, q6.ff, fun k hg => hw k (q6.gu k hg), fun i hi k hf => hw k (q6.fu i hi k hf), fun k hu => ?_⟩, h2.trans q7, rfl, hU⟩
      rcases hu with hu | hu
      · exact Nat.lt_of_lt_of_le (h1.lt k hu) hU.size
      · exact hu.2
  have HC : Hid (∀ w1, Below w.heap.size w w1 → w1.cell? ⟨db, 1, none⟩ = some (.slice a0 n e0) ∧ w1.cell? ⟨db, 6, none⟩ = some (.int .i64 t)) := fun w1 hb => by
    have := m1.below hb hlt
    exact ⟨this.cell 1, this.cell 6⟩
  have HP : Hid (∀ i, i < n → ∃ b off, a0 = some ⟨b, off, none⟩ ∧ ∀ w1, Below w.heap.size w w1 → w1.cell? ⟨b, off + i, none⟩ = some (.pointer (some ⟨kbs i, 0, none⟩))) := fun i hi => by
    obtain ⟨_, h0, _⟩ | ⟨b, off, cap, cur, hv, hb, g1, g2, g3, g4, g5⟩ := m2
    · omega
    · injection hv with hv
      exact ⟨b, off, hv, fun w1 hb1 => by rw [(hb.below hb1 hb.lt).cell, g5 i (by omega), ptrs_get _ _ _ hi]⟩
  have HR := hide h2
  have HL : Hid (∀ k, U k → k < w.heap.size) := h1.lt
  have HI : Hid (Ivx N w U db n t G F kbs rem want) := h1
  clear h1 m1 m2 m3 h2
  go_enter Tryz.func63, Tryz.ntmps63
  go_wp2
  go_loopw [10] (fun iv wr => ∃ i : Nat, i ≤ n ∧ iv = .int .i64 i ∧ Below w.heap.size w wr ∧ Hid (∀ j, j < i → rem ((t + j) % n) = 0)) (fun iv _ => n - (intOf iv).toNat)
  case atStart => exact ⟨0, by omega, rfl, Below.refl _ _, fun j hj => by omega⟩
  case round =>
    clear c1
    obtain ⟨i, hi, rfl, hb, hz⟩ := hrel
    by_cases hin : i < n
    · have h1 : (i : Int) < (n : Int) := by omega
      have hk : (t + i) % n < n := Nat.mod_lt _ (by omega)
      obtain ⟨d1, d6⟩ := HC.out wr hb
      have hmod : ((t : Int) + (i : Int)) % (n : Int) = (((t + i) % n : Nat) : Int) := by rw [Int.natCast_emod, Int.natCast_add]
      have hn0 : ¬ ((n : Int) = 0) := by omega
      go_wp2
      go_region
      rw [hmod]
      have hb' : Below w.heap.size w (World.drew wr) := hb.drew
      obtain ⟨b, off, rfl, hp⟩ := HP.out _ hk
      have p1 := hp _ hb'
      have d1' : (World.drew wr).cell? ⟨db, 1, none⟩ = some (.slice (some ⟨b, off, none⟩) n e0) := d1
      have HS1 := hide (HS.out _ hk _ hb')
      have hz' : Hid (rem ((t + i) % n) = 0 → ∀ j, j < i + 1 → rem ((t + j) % n) = 0) := fun h0 j hj => by
        by_cases hji : j = i
        · subst hji; exact h0
        · exact hz.out j (by omega)
      clear hp HP HS HC hz d1 d6 hmod
      generalize (t + i) % n = k at *
      generalize World.drew wr = w1 at *
      have h2 : (k : Int) < (n : Int) := by omega
      have h3 : (0 : Int) ≤ (k : Int) := by omega
      go_wp2_with (go_at_call 49; refine HS1.out.mono ?_; rintro e w2 ⟨z, rfl, hcase⟩; rcases hcase with ⟨hr0, rfl, hb2⟩ | ⟨hz0, e6, f6, r', F', rem', hI, hR1, hR2, hK⟩)
      · exact ⟨⟨i + 1, by omega, by simp, hb2, hz'.out hr0⟩, by simp [intOf]; omega⟩
      · go_ret
        have hT := hI.turned (k + 1) (by omega)
        rw [show ((k + 1 : Nat) : Int) = (k : Int) + 1 by omega] at hT
        have he : ext U w (w2.setCell ⟨db, 6, none⟩ (.int .i64 ((k : Int) + 1))) = ext U w w2 := by unfold ext; rw [World.size_setCell]
        refine ⟨true, rfl, .inr ⟨rfl, r', k + 1, hR1, ?_, hK.set _ _ (fun _ => HI.out.gu _ HI.out.dp.db)⟩⟩
        rw [he]
        exact ⟨G, F', kbs, rem', hT, hR2⟩
    · have hall : Hid (R = 0) := by
        unfold Hid
        rw [HR.out]
        refine tot_zero rem n (fun c hc => ?_)
        obtain ⟨j, hj, hjc⟩ := round_all t n c hc
        rw [← hjc]
        exact hz.out j (by omega)
      have h1 : ¬ ((i : Int) < (n : Int)) := by omega
      go_wp2
      go_ret
      exact ⟨false, rfl, .inl ⟨hall.out, rfl, hb⟩⟩
end Go.Proofs.YthpmcilljbmoiaaGreatDoor
