import Derived.Test.YthpmcilljbmoiaaGreatDoorProg
import Derived.Conc.LoneSelect
import Derived.Conc.LoneCalls
import Derived.KernelRfl
import Derived.Laws.Rows
import Derived.Test.YthpmcilljbmoiaaGreatDoorInTurn
namespace Go.Proofs.YthpmcilljbmoiaaGreatDoor
open Go.RowKit Go.Conc

/-- a channel of nothing -/
abbrev Ch (w : World) (c : Nat) (closed : Bool) : Prop := w.heap[c]? = some (.chan 0 #[] closed 0 0 false)

theorem zeroEmpty : ∀ w, (zeroValue 158).run Tryz.prog w = .ok (.agg #[]) w := fun w => by kernel_rfl

set_option maxRecDepth 100000 in
theorem isClosed_no (c : Nat) (w : World) (h : Ch w c false) : Calls Tryz.prog 62 #[.chan (some c)] w fun e w' => e = .returned (.bool false) ∧ w = w' := by
  refine calls_of_loneTo fun cs => ?_
  have e : Frame.enter Tryz.prog 62 #[.chan (some c)] .normal = (base 62).at ⟨#[.chan (some c), undef, undef, undef, undef, undef, undef], []⟩ [.code (Tryz.f62.body.getD .skip)] := by
    simp [Frame.enter, Frame.at, Tryz.func62, base, Tryz.f62]
  rw [e]
  have hz := zeroEmpty
  refine LoneTo.goes (n := 10) ?_
  simp only [Tryz.f62, Option.getD_some]
  s_c stepG_seq
  s_reg
  s_op
  s_c stepG_region_end
  s_c stepG_seq
  s_reg
  s_op
  s_c stepG_region_end
  s_c stepG_seq
  s_reg
  s_stop
  refine LoneTo.step (step_lone_select_default (c := c) (z := .agg #[]) (cap := 0) (s := 0) (r := 0) (tm := false) (stepG_comm (cases := #[rcase c (.agg #[])]) (blocking := false) (shape := .select) (w' := w) rfl rfl (by decide) (by simp [go_sem, execOp, rcase, Act.eval, hz])) h) ?_
  rw [Frame.finish_at]
  walk_nrm
  refine LoneTo.goes (n := 10) ?_
  s_op
  s_op
  s_c stepG_region_end
  s_c stepG_block
  s_cond false
  s_c stepG_seq
  s_reg
  s_op
  s_c stepG_region_end
  s_c stepG_ret'
  s_stop
  exact LoneTo.done ⟨.returned (.bool false), _, rfl, ⟨rfl, rfl⟩, rfl, rfl, rfl, rfl, _, Tryz.func62, by simp [results, Tryz.f62, Frame.at]⟩

set_option maxRecDepth 100000 in
theorem isClosed_yes (c : Nat) (w : World) (h : Ch w c true) : Calls Tryz.prog 62 #[.chan (some c)] w fun e w' => e = .returned (.bool true) ∧ w = w' := by
  refine calls_of_loneTo fun cs => ?_
  have e : Frame.enter Tryz.prog 62 #[.chan (some c)] .normal = (base 62).at ⟨#[.chan (some c), undef, undef, undef, undef, undef, undef], []⟩ [.code (Tryz.f62.body.getD .skip)] := by
    simp [Frame.enter, Frame.at, Tryz.func62, base, Tryz.f62]
  rw [e]
  have hz := zeroEmpty
  refine LoneTo.goes (n := 10) ?_
  simp only [Tryz.f62, Option.getD_some]
  s_c stepG_seq
  s_reg
  s_op
  s_c stepG_region_end
  s_c stepG_seq
  s_reg
  s_op
  s_c stepG_region_end
  s_c stepG_seq
  s_reg
  s_stop
  refine LoneTo.step (step_lone_select_recv_shut (c := c) (z := .agg #[]) (cap := 0) (s := 0) (r := 0) (tm := false) (stepG_comm (cases := #[rcase c (.agg #[])]) (blocking := false) (shape := .select) (w' := w) rfl rfl (by decide) (by simp [go_sem, execOp, rcase, Act.eval, hz])) h) ?_
  rw [Frame.finish_at]
  walk_nrm
  refine LoneTo.goes (n := 10) ?_
  s_op
  s_op
  s_c stepG_region_end
  s_c stepG_block
  s_cond true
  s_c stepG_seq
  s_reg
  s_op
  s_c stepG_region_end
  s_c stepG_ret'
  s_stop
  exact LoneTo.done ⟨.returned (.bool true), _, rfl, ⟨rfl, rfl⟩, rfl, rfl, rfl, rfl, _, Tryz.func62, by simp [results, Tryz.f62, Frame.at]⟩
end Go.Proofs.YthpmcilljbmoiaaGreatDoor
namespace Go.Proofs.YthpmcilljbmoiaaGreatDoor
open Go.RowKit Go.Conc

theorem infoEmpty : (Tryz.prog.info? 158).map (·.bytes) = some 0 := by kernel_rfl
theorem mkChan (w : World) : (Instr.makeChan 137 (.int .i64 0)).run Tryz.prog w = .ok (.chan (some w.heap.size)) (w.alloc (.chan 0 #[] false 0 0 false)) := by
  obtain ⟨i, hi, hb⟩ := Option.map_eq_some_iff.1 infoEmpty
  simpa using run_makeChan (P := Tryz.prog) (w := w) Tryz.underlying137 hi .i64 0 (by omega) (by rw [hb]; omega)
/-- how many steps are taken, of R that could be -/
def srv (steps stop : Int) (R : Nat) : Nat := if stop < 0 then min steps.toNat R else min (min steps.toNat stop.toNat) R
theorem Ch.kept {S : Nat → Prop} {w w' : World} {c : Nat} {b : Bool} (h : Ch w c b) (hk : Kept S w w') (hS : ¬ S c) : Ch w' c b := by
  have hlt : c < w.heap.size := (Array.getElem?_eq_some_iff.1 h).1
  unfold Ch
  rw [hk.block c hlt hS]; exact h

variable {N : Nat → ByteArray} {w w' : World} {U : Nat → Prop} {db n t R : Nat} {want : Nat → ByteArray}
/-- k steps are taken -/
structure Sx (N : Nat → ByteArray) (w : World) (U : Nat → Prop) (db n R : Nat) (want : Nat → ByteArray) (k : Nat) (wr : World) : Prop where
  ex : ∃ V t', Inv N wr V db n t' (R - k) want ∧ ∀ j, V j → U j ∨ w.heap.size < j
  kp : Kept U w wr
  ch : Ch wr w.heap.size false
  ul : ∀ j, U j → j < w.heap.size
theorem Sx.tried {k : Nat} {wr wx : World} {V : Nat → Prop} {t' : Nat} {b : Bool} (h : Sx N w U db n R want k wr) (hv : ∀ j, V j → U j ∨ w.heap.size < j) (_hlt : ∀ j, V j → j < wr.heap.size) (hI : Inv N wr V db n t' (R - k) want) (hT : Tried N wr V db n (R - k) want b wx) :
    (b = false ∧ R - k = 0 ∧ Sx N w U db n R want k wx) ∨ (b = true ∧ k < R ∧ Sx N w U db n R want (k + 1) wx) := by
  have hc : w.heap.size < wr.heap.size := (Array.getElem?_eq_some_iff.1 h.ch).1
  rcases hT with ⟨q1, q2, q3⟩ | ⟨q1, R', t2, q2, q3, q4⟩
  · refine .inl ⟨q2, q1, ⟨V, t', hI.below q3, hv⟩, h.kp.below q3, ?_, h.ul⟩
    exact Ch.kept h.ch (Kept.ofBelow (S := fun _ => False) q3) (fun h => h)
  · refine .inr ⟨q1, by omega, ⟨ext V wr wx, t2, ?_, fun j hj => ?_⟩, h.kp.next q4 (fun j hj hV => ?_), Ch.kept h.ch q4 (fun hV => ?_), h.ul⟩
    · rw [show R - (k + 1) = R' by omega]; exact q3
    · rcases hj with hj | hj
      · exact hv j hj
      · exact .inr (by omega)
    · rcases hv j hV with hU | hU
      · exact hU
      · omega
    · rcases hv _ hV with hU | hU
      · have := h.ul _ hU; omega
      · omega
theorem Sx.inv {k : Nat} {wr : World} (h : Sx N w U db n R want k wr) : ∃ V t', Inv N wr V db n t' (R - k) want ∧ (∀ j, V j → U j ∨ w.heap.size ≤ j) := by
  obtain ⟨V, t', h1, h2⟩ := h.ex
  exact ⟨V, t', h1, fun j hj => (h2 j hj).imp id (fun h => Nat.le_of_lt h)⟩

set_option maxRecDepth 100000 in
set_option maxHeartbeats 2000000 in
theorem serve_any (hN : Nok N) (steps stop : Int) (hs : steps < 9000000000000) (hR : R ≤ 1000000) (h : Inv N w U db n t R want) :
    Calls Tryz.prog 31 #[.pointer (some ⟨db, 0, none⟩), .int .i64 steps, .int .i64 stop] w
      fun r w' => r = .returned (.int .i64 (srv steps stop R : Nat)) ∧ ∃ t' V, Inv N w' V db n t' (R - srv steps stop R) want ∧ (∀ j, V j → U j ∨ w.heap.size ≤ j) ∧ Kept U w w' := by
  have hmc := mkChan w
  have hA := Below.alloc (Below.refl w.heap.size w) (Nat.le_refl _) (.chan 0 #[] false 0 0 false)
  have hc0 : Ch (w.alloc (.chan 0 #[] false 0 0 false)) w.heap.size false := heap_alloc_new _ _
  have hS0 : Sx N w U db n R want 0 (w.alloc (.chan 0 #[] false 0 0 false)) := ⟨⟨U, t, h.below hA, fun j hj => .inl hj⟩, Kept.ofBelow hA, hc0, h.lt⟩
  have HS0 := hide hS0
  clear h hS0 hc0 hA
  go_enter Tryz.func31, Tryz.ntmps31
  go_wp2
  clear hmc
  generalize w.alloc (.chan 0 #[] false 0 0 false) = W0 at *
  go_loopw [8] (fun tv wr => ∃ k : Nat, k ≤ R ∧ (k = 0 ∨ (k : Int) ≤ steps) ∧ (stop < 0 ∨ (k : Int) ≤ stop) ∧ tv = .int .i64 k ∧ Hid (Sx N w U db n R want k wr)) (fun tv _ => R - (intOf tv).toNat)
  case atStart => exact ⟨0, by omega, .inl rfl, by omega, rfl, HS0⟩
  case round =>
    clear HS0
    obtain ⟨k, hk1, hk2, hk3, rfl, hS⟩ := hrel
    by_cases hst : (k : Int) < steps
    · have hch := hS.out.ch
      by_cases heq : (k : Int) = stop
      · subst heq
        have hcl := fun ats ty => run_close_open (P := Tryz.prog) (w := wr) ats ty hch
        have hfin : Hid (k = srv steps (k : Int) R) := by unfold Hid srv; rw [if_neg (by omega)]; omega
        have hlt : w.heap.size < wr.heap.size := (Array.getElem?_eq_some_iff.1 hch).1
        have hch2 : Ch { wr with heap := wr.heap.setIfInBounds w.heap.size (.chan 0 #[] true 0 0 false) } w.heap.size true := by
          unfold Ch
          simp [hlt]
        have HY := hide (isClosed_yes w.heap.size _ hch2)
        have hb : Kept (fun j => j = w.heap.size) wr { wr with heap := wr.heap.setIfInBounds w.heap.size (.chan 0 #[] true 0 0 false) } :=
          ⟨rfl, rfl, rfl, by simp, fun j hj hne => by simp only [Array.getElem?_setIfInBounds_ne (Ne.symm hne)]⟩
        generalize ({ wr with heap := wr.heap.setIfInBounds w.heap.size (.chan 0 #[] true 0 0 false) } : World) = W1 at *
        clear hch2
        go_wp2_with (go_at_call 62; refine HY.out.mono ?_; rintro e w1 ⟨rfl, rfl⟩)
        go_ret
        rw [← hfin.out]
        obtain ⟨V, t', q1, q2⟩ := hS.out.ex
        refine ⟨rfl, t', V, q1.kept hb (fun j hj e => ?_), fun j hj => (q2 j hj).imp id (fun h => Nat.le_of_lt h), hS.out.kp.next hb (fun j hj e => by omega)⟩
        subst e
        rcases q2 _ hj with h | h
        · have := hS.out.ul _ h; omega
        · omega
      · obtain ⟨V, t', q1, q2⟩ := hS.out.ex
        have HN := hide (isClosed_no w.heap.size wr hch)
        have HT : Hid (Calls Tryz.prog 63 #[.pointer (some ⟨db, 0, none⟩)] wr fun e w' => TurnP N wr V db n (R - k) want e w') := turn_any hN q1
        have HX : Hid (∀ b wx, Tried N wr V db n (R - k) want b wx → (b = false ∧ R - k = 0 ∧ Sx N w U db n R want k wx) ∨ (b = true ∧ k < R ∧ Sx N w U db n R want (k + 1) wx)) := fun b wx ht => hS.out.tried q2 q1.lt q1 ht
        clear q1 q2 hch hS
        go_wp2_with (first | (go_at_call 62; refine HN.out.mono ?_; rintro e w1 ⟨rfl, rfl⟩) | (go_at_call 63; refine HT.out.mono ?_; rintro e wx ⟨b, rfl, ht⟩; have hx := HX.out b wx ht; clear ht; rcases hx with ⟨rfl, hr0, hx⟩ | ⟨rfl, hr0, hx⟩))
        · have hfin : k = srv steps stop R := by unfold srv; split <;> omega
          go_ret
          rw [← hfin]
          obtain ⟨V', t2, q1, q2⟩ := hx.inv
          exact ⟨rfl, t2, V', q1, q2, hx.kp⟩
        · exact ⟨⟨k + 1, by omega, .inr (by omega), by omega, by simp, hx⟩, by simp [intOf]; omega⟩
    · have hfin : Hid (k = srv steps stop R) := by unfold Hid srv; split <;> omega
      go_wp2
      go_ret
      rw [← hfin.out]
      obtain ⟨V, t', q1, q2⟩ := hS.out.inv
      exact ⟨rfl, t', V, q1, q2, hS.out.kp⟩
end Go.Proofs.YthpmcilljbmoiaaGreatDoor
