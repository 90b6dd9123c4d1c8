import Derived.Test.YthpmcilljbmoiaaGreatDoorProg
import Derived.Conc.LoneSelect
import Derived.Conc.LoneCalls
import Derived.KernelRfl
import Derived.Laws.Rows
import Derived.Test.YthpmcilljbmoiaaGreatDoorZ33
import Derived.Test.YthpmcilljbmoiaaGreatDoorZ32
namespace Go.Proofs.YthpmcilljbmoiaaGreatDoor
open Go.RowKit Go.Conc

/-- a channel of nothing -/
abbrev Ch (w : World) (c : Nat) (closed : Bool) : Prop := w.heap[c]? = some (.chan 0 #[] closed 0 0 false)

theorem zeroEmpty : ∀ w, (zeroValue 158).run Tryz.prog w = .ok (.agg #[]) w := fun w => by kernel_rfl

set_option maxRecDepth 100000 in
theorem isClosed_no (c : Nat) (w : World) (h : Ch w c false) : Calls Tryz.prog 62 #[.chan (some c)] w fun e w' => e = .returned (.bool false) ∧ w = w' := by
  refine calls_of_loneTo fun cs => ?_
  have e : Frame.enter Tryz.prog 62 #[.chan (some c)] .normal = (base 62).at ⟨#[.chan (some c), undef, undef, undef, undef, undef, undef], []⟩ [.code (Tryz.f62.body.getD .skip)] := by
    simp [Frame.enter, Frame.at, Tryz.func62, base, Tryz.f62]
  rw [e]
  have hz := zeroEmpty
  refine LoneTo.goes (n := 10) ?_
  simp only [Tryz.f62, Option.getD_some]
  s_c stepG_seq
  s_reg
  s_op
  s_c stepG_region_end
  s_c stepG_seq
  s_reg
  s_op
  s_c stepG_region_end
  s_c stepG_seq
  s_reg
  s_stop
  refine LoneTo.step (step_lone_select_default (c := c) (z := .agg #[]) (cap := 0) (s := 0) (r := 0) (tm := false) (stepG_comm (cases := #[rcase c (.agg #[])]) (blocking := false) (shape := .select) (w' := w) rfl rfl (by decide) (by simp [go_sem, execOp, rcase, Act.eval, hz])) h) ?_
  rw [Frame.finish_at]
  walk_nrm
  refine LoneTo.goes (n := 10) ?_
  s_op
  s_op
  s_c stepG_region_end
  s_c stepG_block
  s_cond false
  s_c stepG_seq
  s_reg
  s_op
  s_c stepG_region_end
  s_c stepG_ret'
  s_stop
  exact LoneTo.done ⟨.returned (.bool false), _, rfl, ⟨rfl, rfl⟩, rfl, rfl, rfl, rfl, _, Tryz.func62, by simp [results, Tryz.f62, Frame.at]⟩

set_option maxRecDepth 100000 in
theorem isClosed_yes (c : Nat) (w : World) (h : Ch w c true) : Calls Tryz.prog 62 #[.chan (some c)] w fun e w' => e = .returned (.bool true) ∧ w = w' := by
  refine calls_of_loneTo fun cs => ?_
  have e : Frame.enter Tryz.prog 62 #[.chan (some c)] .normal = (base 62).at ⟨#[.chan (some c), undef, undef, undef, undef, undef, undef], []⟩ [.code (Tryz.f62.body.getD .skip)] := by
    simp [Frame.enter, Frame.at, Tryz.func62, base, Tryz.f62]
  rw [e]
  have hz := zeroEmpty
  refine LoneTo.goes (n := 10) ?_
  simp only [Tryz.f62, Option.getD_some]
  s_c stepG_seq
  s_reg
  s_op
  s_c stepG_region_end
  s_c stepG_seq
  s_reg
  s_op
  s_c stepG_region_end
  s_c stepG_seq
  s_reg
  s_stop
  refine LoneTo.step (step_lone_select_recv_shut (c := c) (z := .agg #[]) (cap := 0) (s := 0) (r := 0) (tm := false) (stepG_comm (cases := #[rcase c (.agg #[])]) (blocking := false) (shape := .select) (w' := w) rfl rfl (by decide) (by simp [go_sem, execOp, rcase, Act.eval, hz])) h) ?_
  rw [Frame.finish_at]
  walk_nrm
  refine LoneTo.goes (n := 10) ?_
  s_op
  s_op
  s_c stepG_region_end
  s_c stepG_block
  s_cond true
  s_c stepG_seq
  s_reg
  s_op
  s_c stepG_region_end
  s_c stepG_ret'
  s_stop
  exact LoneTo.done ⟨.returned (.bool true), _, rfl, ⟨rfl, rfl⟩, rfl, rfl, rfl, rfl, _, Tryz.func62, by simp [results, Tryz.f62, Frame.at]⟩
end Go.Proofs.YthpmcilljbmoiaaGreatDoor
namespace Go.Proofs.YthpmcilljbmoiaaGreatDoor
open Go.RowKit Go.Conc

theorem infoEmpty : (Tryz.prog.info? 158).map (·.bytes) = some 0 := by kernel_rfl
theorem mkChan (w : World) : (Instr.makeChan 137 (.int .i64 0)).run Tryz.prog w = .ok (.chan (some w.heap.size)) (w.alloc (.chan 0 #[] false 0 0 false)) := by
  obtain ⟨i, hi, hb⟩ := Option.map_eq_some_iff.1 infoEmpty
  simpa using run_makeChan (P := Tryz.prog) (w := w) Tryz.underlying137 hi .i64 0 (by omega) (by rw [hb]; omega)
/-- how many steps are taken, of R that could be -/
def srv (steps stop : Int) (R : Nat) : Nat := if stop < 0 then min steps.toNat R else min (min steps.toNat stop.toNat) R
theorem Ch.kept {S : Nat → Prop} {w w' : World} {c : Nat} {b : Bool} (h : Ch w c b) (hk : Kept S w w') (hS : ¬ S c) : Ch w' c b := by
  have hlt : c < w.heap.size := (Array.getElem?_eq_some_iff.1 h).1
  unfold Ch
  rw [hk.block c hlt hS]; exact h

variable {N : Nat → ByteArray} {w w' : World} {U : Nat → Prop} {db n t R : Nat} {want : Nat → ByteArray}
/-- k steps are taken -/
structure Sx (N : Nat → ByteArray) (w : World) (U : Nat → Prop) (db n R : Nat) (want : Nat → ByteArray) (k : Nat) (wr : World) : Prop where
  ex : ∃ V t', Inv N wr V db n t' (R - k) want ∧ ∀ j, V j → U j ∨ w.heap.size < j
  kp : Kept U w wr
  ch : Ch wr w.heap.size false
  ul : ∀ j, U j → j < w.heap.size
theorem Sx.tried {k : Nat} {wr wx : World} {V : Nat → Prop} {t' : Nat} {b : Bool} (h : Sx N w U db n R want k wr) (hv : ∀ j, V j → U j ∨ w.heap.size < j) (_hlt : ∀ j, V j → j < wr.heap.size) (hI : Inv N wr V db n t' (R - k) want) (hT : Tried N wr V db n (R - k) want b wx) :
    (b = false ∧ R - k = 0 ∧ Sx N w U db n R want k wx) ∨ (b = true ∧ k < R ∧ Sx N w U db n R want (k + 1) wx) := by
  have hc : w.heap.size < wr.heap.size := (Array.getElem?_eq_some_iff.1 h.ch).1
  rcases hT with ⟨q1, q2, q3⟩ | ⟨q1, R', t2, q2, q3, q4⟩
  · refine .inl ⟨q2, q1, ⟨V, t', hI.below q3, hv⟩, h.kp.below q3, ?_, h.ul⟩
    exact Ch.kept h.ch (Kept.ofBelow (S := fun _ => False) q3) (fun h => h)
  · refine .inr ⟨q1, by omega, ⟨ext V wr wx, t2, ?_, fun j hj => ?_⟩, h.kp.next q4 (fun j hj hV => ?_), Ch.kept h.ch q4 (fun hV => ?_), h.ul⟩
    · rw [show R - (k + 1) = R' by omega]; exact q3
    · rcases hj with hj | hj
      · exact hv j hj
      · exact .inr (by omega)
    · rcases hv j hV with hU | hU
      · exact hU
      · omega
    · rcases hv _ hV with hU | hU
      · have := h.ul _ hU; omega
      · omega
theorem Sx.inv {k : Nat} {wr : World} (h : Sx N w U db n R want k wr) : ∃ V t', Inv N wr V db n t' (R - k) want ∧ (∀ j, V j → U j ∨ w.heap.size ≤ j) := by
  obtain ⟨V, t', h1, h2⟩ := h.ex
  exact ⟨V, t', h1, fun j hj => (h2 j hj).imp id (fun h => Nat.le_of_lt h)⟩

set_option maxRecDepth 100000 in
set_option maxHeartbeats 2000000 in
theorem serve_any (hN : Nok N) (steps stop : Int) (hs : steps < 9000000000000) (hR : R ≤ 1000000) (h : Inv N w U db n t R want) :
    Calls Tryz.prog 31 #[.pointer (some ⟨db, 0, none⟩), .int .i64 steps, .int .i64 stop] w
      fun r w' => r = .returned (.int .i64 (srv steps stop R : Nat)) ∧ ∃ t' V, Inv N w' V db n t' (R - srv steps stop R) want ∧ (∀ j, V j → U j ∨ w.heap.size ≤ j) ∧ Kept U w w' := by
  have hmc := mkChan w
  have hA := Below.alloc (Below.refl w.heap.size w) (Nat.le_refl _) (.chan 0 #[] false 0 0 false)
  have hc0 : Ch (w.alloc (.chan 0 #[] false 0 0 false)) w.heap.size false := heap_alloc_new _ _
  have hS0 : Sx N w U db n R want 0 (w.alloc (.chan 0 #[] false 0 0 false)) := ⟨⟨U, t, h.below hA, fun j hj => .inl hj⟩, Kept.ofBelow hA, hc0, h.lt⟩
  have HS0 := hide hS0
  clear h hS0 hc0 hA
  go_enter Tryz.func31, Tryz.ntmps31
  go_wp2
  clear hmc
  generalize w.alloc (.chan 0 #[] false 0 0 false) = W0 at *
  go_loopw [8] (fun tv wr => ∃ k : Nat, k ≤ R ∧ (k = 0 ∨ (k : Int) ≤ steps) ∧ (stop < 0 ∨ (k : Int) ≤ stop) ∧ tv = .int .i64 k ∧ Hid (Sx N w U db n R want k wr)) (fun tv _ => R - (intOf tv).toNat)
  case atStart => exact ⟨0, by omega, .inl rfl, by omega, rfl, HS0⟩
  case round =>
    clear HS0
    obtain ⟨k, hk1, hk2, hk3, rfl, hS⟩ := hrel
    by_cases hst : (k : Int) < steps
    · have hch := hS.out.ch
      by_cases heq : (k : Int) = stop
      · subst heq
        have hcl := fun ats ty => run_close_open (P := Tryz.prog) (w := wr) ats ty hch
        have hfin : Hid (k = srv steps (k : Int) R) := by unfold Hid srv; rw [if_neg (by omega)]; omega
        have hlt : w.heap.size < wr.heap.size := (Array.getElem?_eq_some_iff.1 hch).1
        have hch2 : Ch { wr with heap := wr.heap.setIfInBounds w.heap.size (.chan 0 #[] true 0 0 false) } w.heap.size true := by
          unfold Ch
          simp [hlt]
        have HY := hide (isClosed_yes w.heap.size _ hch2)
        have hb : Kept (fun j => j = w.heap.size) wr { wr with heap := wr.heap.setIfInBounds w.heap.size (.chan 0 #[] true 0 0 false) } :=
          ⟨rfl, rfl, rfl, by simp, fun j hj hne => by simp only [Array.getElem?_setIfInBounds_ne (Ne.symm hne)]⟩
        generalize ({ wr with heap := wr.heap.setIfInBounds w.heap.size (.chan 0 #[] true 0 0 false) } : World) = W1 at *
        clear hch2
        go_wp2_with (go_at_call 62; refine HY.out.mono ?_; rintro e w1 ⟨rfl, rfl⟩)
        go_ret
        rw [← hfin.out]
        obtain ⟨V, t', q1, q2⟩ := hS.out.ex
        refine ⟨rfl, t', V, q1.kept hb (fun j hj e => ?_), fun j hj => (q2 j hj).imp id (fun h => Nat.le_of_lt h), hS.out.kp.next hb (fun j hj e => by omega)⟩
        subst e
        rcases q2 _ hj with h | h
        · have := hS.out.ul _ h; omega
        · omega
      · obtain ⟨V, t', q1, q2⟩ := hS.out.ex
        have HN := hide (isClosed_no w.heap.size wr hch)
        have HT : Hid (Calls Tryz.prog 63 #[.pointer (some ⟨db, 0, none⟩)] wr fun e w' => TurnP N wr V db n (R - k) want e w') := turn_any hN q1
        have HX : Hid (∀ b wx, Tried N wr V db n (R - k) want b wx → (b = false ∧ R - k = 0 ∧ Sx N w U db n R want k wx) ∨ (b = true ∧ k < R ∧ Sx N w U db n R want (k + 1) wx)) := fun b wx ht => hS.out.tried q2 q1.lt q1 ht
        clear q1 q2 hch hS
        go_wp2_with (first | (go_at_call 62; refine HN.out.mono ?_; rintro e w1 ⟨rfl, rfl⟩) | (go_at_call 63; refine HT.out.mono ?_; rintro e wx ⟨b, rfl, ht⟩; have hx := HX.out b wx ht; clear ht; rcases hx with ⟨rfl, hr0, hx⟩ | ⟨rfl, hr0, hx⟩))
        · have hfin : k = srv steps stop R := by unfold srv; split <;> omega
          go_ret
          rw [← hfin]
          obtain ⟨V', t2, q1, q2⟩ := hx.inv
          exact ⟨rfl, t2, V', q1, q2, hx.kp⟩
        · exact ⟨⟨k + 1, by omega, .inr (by omega), by omega, by simp, hx⟩, by simp [intOf]; omega⟩
    · have hfin : Hid (k = srv steps stop R) := by unfold Hid srv; split <;> omega
      go_wp2
      go_ret
      rw [← hfin.out]
      obtain ⟨V, t', q1, q2⟩ := hS.out.inv
      exact ⟨rfl, t', V, q1, q2, hS.out.kp⟩
end Go.Proofs.YthpmcilljbmoiaaGreatDoor
namespace Go.Proofs.YthpmcilljbmoiaaGreatDoor
open Go.RowKit Go.Conc

section
variable {K : List Nat} {w w' : World} {F : Nat → Prop} {db kb m t : Nat} {s : Pst}
theorem MemX.nf (h : MemX K w F db kb m t s) : ¬ F 0 := by
  obtain ⟨G, H, shv, cv, lv, av, sh, bvs, lbs, nvs, wv, gv, wk, h⟩ := h
  exact h.nf
theorem MemX.m0 (h : MemX K w F db kb m t s) : 0 < m ∧ m ≤ 8 := by
  obtain ⟨G, H, shv, cv, lv, av, sh, bvs, lbs, nvs, wv, gv, wk, h⟩ := h
  exact ⟨h.dep.m0, h.dep.m8⟩
/-- within more blocks -/
theorem MemX.grow (h : MemX K w' F db kb m t s) {F0 : Nat → Prop} {w0 : World} (hF : ∀ k, F k → ext F0 w0 w' k) (hl : ∀ k, F0 k → k < w'.heap.size) (hn : ¬ F0 0) (hT : 0 < w0.heap.size) : MemX K w' (ext F0 w0 w') db kb m t s :=
  h.wider hF (fun k q => q.elim (hl k) (fun q => q.2)) (fun q => q.elim hn (fun q => by omega))
theorem MemX.tlt (h : MemX K w F db kb m t s) : 0 < w.heap.size := by
  obtain ⟨G, H, shv, cv, lv, av, sh, bvs, lbs, nvs, wv, gv, wk, h⟩ := h
  exact h.tb.lt
theorem MemX.same (h : MemX K w F db kb m t s) (hb : Below w.heap.size w w') : MemX K w' (ext F w w') db kb m t s ∧ Kept F w w' :=
  ⟨(h.below hb).grow (w0 := w) ext_in (h.below hb).lt h.nf h.tlt, Kept.ofBelow hb⟩
/-- the turn is set -/
theorem MemX.turned (h : MemX K w F db kb m t s) (t' : Nat) : MemX K (w.setCell ⟨db, 6, none⟩ (.int .i64 t')) F db kb m t' s ∧ Kept F w (w.setCell ⟨db, 6, none⟩ (.int .i64 t')) := by
  obtain ⟨G, H, shv, cv, lv, av, sh, bvs, lbs, nvs, wv, gv, wk, h⟩ := h
  have hd := h.dep
  have hk : Kept (fun k => k = db) w (w.setCell ⟨db, 6, none⟩ (.int .i64 t')) := (Kept.refl _ _).set _ _ (fun _ => rfl)
  have on : ∀ t, t ≠ 114 → ∀ P, Onl w G (fun k => k = db) t P := fun t n1 P => Onl.blk hd.blk (Ne.symm n1)
  refine ⟨⟨G, H, shv, cv, lv, av, sh, bvs, lbs, nvs, wv, gv, wk, ⟨by simpa using hd.blk.set 6 (.int .i64 t'), Rw.onl hd.shr hk hd.inSh (on _ (by decide) _), hd.shf.kept hk (on _ (by decide) _) (on _ (by decide) _), Rw.onl hd.con hk hd.inC (on _ (by decide) _), Rw.onl hd.ler hk hd.inL (on _ (by decide) _), hd.lef.kept hk (on _ (by decide) _) (on _ (by decide) _), Rw.onl hd.act hk hd.inA (on _ (by decide) _), hd.inD, hd.inSh, hd.inC, hd.inL, hd.inA, hd.m0, hd.m8⟩, h.con.kept hk (fun k q e => h.gh _ hd.inD (e ▸ q)), h.gh, h.gf, h.hf, fun k q => by rw [World.size_setCell]; exact h.lt k q, h.tb.kept hk (fun e => h.nf (e ▸ h.gf _ hd.inD)), h.nf⟩, hk.mono (fun k _ e => e ▸ h.gf _ hd.inD)⟩
/-- where its connection stands -/
theorem MemX.slice (h : MemX K w F db kb m t s) : ∃ n b off cap, n = 1 ∧ w.cell? ⟨db, 1, none⟩ = some (.slice (some ⟨b, off, none⟩) n cap) ∧ w.cell? ⟨b, off, none⟩ = some (.pointer (some ⟨kb, 0, none⟩)) ∧ b < w.heap.size ∧ w.cell? ⟨db, 6, none⟩ = some (.int .i64 t) ∧ db < w.heap.size ∧ F db := by
  obtain ⟨G, H, shv, cv, lv, av, sh, bvs, lbs, nvs, wv, gv, wk, h⟩ := h
  obtain ⟨_, h0, _⟩ | ⟨b, off, cap, cur, hv, hb, g1, g2, g3, g4, g5⟩ := h.dep.con
  · omega
  · refine ⟨1, b, off, cap, rfl, by rw [← hv]; exact h.dep.blk.cell 1, ?_, hb.lt, h.dep.blk.cell 6, h.dep.blk.lt, h.gf _ h.dep.inD⟩
    have := g5 0 (by omega)
    rw [hb.cell]
    exact this
/-- a step or none -/
def TurnQ (K : List Nat) (w : World) (F : Nat → Prop) (db kb m t : Nat) (s : Pst) (e : Ending) (w' : World) : Prop :=
  ∃ b, e = .returned (.bool b) ∧ Kept F w w' ∧ ((b = false ∧ (stepP K m s).1 = 0 ∧ MemX K w' (ext F w w') db kb m t (stepP K m s).2) ∨ (b = true ∧ (stepP K m s).1 ≠ 0 ∧ MemX K w' (ext F w w') db kb m 1 (stepP K m s).2))
set_option maxRecDepth 100000 in
set_option maxHeartbeats 2000000 in
theorem turn_mem (h : MemX K w F db kb m t s) (ho : OkP m s) (hq : ∀ i r q, cutF s.C.wait = some (i, r) → ps i = some q → OkR q) (ht : t ≤ 8) :
    Calls Tryz.prog 63 #[.pointer (some ⟨db, 0, none⟩)] w fun e w' => TurnQ K w F db kb m t s e w' := by
  obtain ⟨n, b, off, cap, hn, c1, c2, c3, c6, c7, c8⟩ := h.slice
  have HS : Hid (∀ w1, Below w.heap.size w w1 → Calls Tryz.prog 49 #[.pointer (some ⟨db, 0, none⟩), .pointer (some ⟨kb, 0, none⟩)] w1
      fun e w' => ∃ z : Int, e = .returned (.int .i64 z) ∧ ((z = 0 ∧ (stepP K m s).1 = 0) ∨ (z ≠ 0 ∧ (stepP K m s).1 ≠ 0)) ∧ Kept F w w' ∧ MemX K w' (ext F w w') db kb m t (stepP K m s).2 ∧ w'.cell? ⟨db, 6, none⟩ = some (.int .i64 t) ∧ w'.frozen? ⟨db, 6, none⟩ = false) := by
    intro w1 hb
    refine (step_mem (h.below hb) ho hq).mono ?_
    rintro e w' ⟨q1, q2⟩
    obtain ⟨r1, r2⟩ := h.back hb q2
    obtain ⟨G, H, shv, cv, lv, av, sh, bvs, lbs, nvs, wv, gv, wk, g⟩ := id r1
    refine ⟨_, q1, ?_, r2, r1, g.dep.blk.cell 6, g.dep.blk.frozen 6⟩
    by_cases hz : (stepP K m s).1 = 0
    · exact .inl ⟨by rw [hz]; rfl, hz⟩
    · exact .inr ⟨by omega, hz⟩
  have HC : Hid (∀ w1, Below w.heap.size w w1 → w1.cell? ⟨db, 1, none⟩ = some (.slice (some ⟨b, off, none⟩) n cap) ∧ w1.cell? ⟨db, 6, none⟩ = some (.int .i64 t) ∧ w1.cell? ⟨b, off, none⟩ = some (.pointer (some ⟨kb, 0, none⟩))) := fun w1 hb => ⟨by rw [hb.cell c7]; exact c1, by rw [hb.cell c7]; exact c6, by rw [hb.cell c3]; exact c2⟩
  have HT : Hid (∀ w', MemX K w' (ext F w w') db kb m t (stepP K m s).2 → Kept F w w' → Kept F w (w'.setCell ⟨db, 6, none⟩ (.int .i64 ((1 : Nat) : Int))) ∧ MemX K (w'.setCell ⟨db, 6, none⟩ (.int .i64 ((1 : Nat) : Int))) (ext F w (w'.setCell ⟨db, 6, none⟩ (.int .i64 ((1 : Nat) : Int)))) db kb m 1 (stepP K m s).2) := fun w' q1 q2 => by
    obtain ⟨r1, r2⟩ := q1.turned 1
    have he : ext F w (w'.setCell ⟨db, 6, none⟩ (.int .i64 ((1 : Nat) : Int))) = ext F w w' := by unfold ext; rw [World.size_setCell]
    rw [he]
    exact ⟨q2.set _ _ (fun _ => c8), r1⟩
  clear h ho hq c2 c6
  go_enter Tryz.func63, Tryz.ntmps63
  go_wp2
  go_loopw [10] (fun iv wr => ∃ i : Nat, i ≤ n ∧ iv = .int .i64 i ∧ ((i = 0 ∧ Below w.heap.size w wr) ∨ (i = n ∧ Hid ((stepP K m s).1 = 0 ∧ Kept F w wr ∧ MemX K wr (ext F w wr) db kb m t (stepP K m s).2)))) (fun iv _ => n - (intOf iv).toNat)
  case atStart => exact ⟨0, by omega, rfl, .inl ⟨rfl, Below.refl _ _⟩⟩
  case round =>
    clear c1
    obtain ⟨i, hi, rfl, hb⟩ := hrel
    by_cases hin : i < n
    · have hb0 : i = 0 ∧ Below w.heap.size w wr := hb.resolve_right (fun e => by omega)
      clear hb
      obtain ⟨rfl, hb⟩ := hb0
      obtain ⟨d1, d6, _⟩ := HC.out wr hb
      have hn0 : ¬ ((n : Int) = 0) := by omega
      go_wp2
      go_region
      have hb' : Below w.heap.size w (World.drew wr) := hb.drew
      obtain ⟨d1', _, p1⟩ := HC.out _ hb'
      have HS1 := hide (HS.out _ hb')
      clear HS HC d1 d6
      generalize World.drew wr = w1 at *
      go_wp2_with (go_at_call 49; refine HS1.out.mono ?_; rintro e w2 ⟨z, rfl, hcase, hK, hM, e6, f6⟩; rcases hcase with ⟨rfl, hr0⟩ | ⟨hz0, hr0⟩)
      · exact ⟨⟨1, by omega, by simp, .inr ⟨hn.symm, ⟨hr0, hK, hM⟩⟩⟩, by simp [intOf]; omega⟩
      · go_ret
        obtain ⟨g1, g2⟩ := HT.out w2 hM hK
        exact ⟨true, rfl, g1, .inr ⟨rfl, hr0, g2⟩⟩
    · have hb1 := hb.resolve_left (fun e => by omega)
      have h1 : ¬ ((i : Int) < (n : Int)) := by omega
      obtain ⟨g1, g2, g3⟩ := hb1.2.out
      have HG := hide (And.intro g1 (And.intro g2 g3))
      clear hb hb1 g1 g2 g3
      go_wp2
      go_ret
      obtain ⟨g1, g2, g3⟩ := HG.out
      exact ⟨false, rfl, g2, .inl ⟨rfl, g1, g3⟩⟩
end
end Go.Proofs.YthpmcilljbmoiaaGreatDoor
namespace Go.Proofs.YthpmcilljbmoiaaGreatDoor
open Go.RowKit Go.Conc

/-- a depot in memory, of which it is known how it came to be -/
def Run (K : List Nat) (m : Nat) (w : World) (F : Nat → Prop) (db kb : Nat) (p : ByteArray) (i : Nat) (s : Pst) : Prop := Rch K m s00 p i s ∧ ∃ t, t ≤ 8 ∧ MemX K w F db kb m t s
section
variable {K : List Nat} {w w' : World} {F : Nat → Prop} {db kb m i : Nat} {s : Pst} {p : ByteArray}
theorem OkR.of {s : Pst} : ∀ i r q, cutF s.C.wait = some (i, r) → ps i = some q → OkR q := fun _ _ _ _ h => (ps_ok h).1
/-- k steps are taken -/
structure Sy (K : List Nat) (m : Nat) (w : World) (F : Nat → Prop) (db kb : Nat) (p : ByteArray) (i : Nat) (k : Nat) (wr : World) : Prop where
  ex : ∃ V s, Run K m wr V db kb p (i + k) s ∧ ∀ j, V j → F j ∨ w.heap.size < j
  kp : Kept F w wr
  ch : Ch wr w.heap.size false
  ul : ∀ j, F j → j < w.heap.size
/-- none is left -/
def Sz (K : List Nat) (m : Nat) (w : World) (F : Nat → Prop) (db kb : Nat) (p : ByteArray) (wr : World) : Prop :=
  Kept F w wr ∧ ∃ V i s, Run K m wr V db kb p i s ∧ (stepP K m s).1 = 0 ∧ ∀ j, V j → F j ∨ w.heap.size < j
theorem Sy.tried {k : Nat} {wr wx : World} {V : Nat → Prop} {t : Nat} {s : Pst} {e : Ending} (h : Sy K m w F db kb p i k wr) (hp : p.size ≤ 2900) (hv : ∀ j, V j → F j ∨ w.heap.size < j) (hR : Rch K m s00 p (i + k) s) (hM : MemX K wr V db kb m t s) (ht : t ≤ 8) (hT : TurnQ K wr V db kb m t s e wx) :
    (e = .returned (.bool false) ∧ Sz K m w F db kb p wx) ∨ (e = .returned (.bool true) ∧ Sy K m w F db kb p i (k + 1) wx) := by
  have hc : w.heap.size < wr.heap.size := (Array.getElem?_eq_some_iff.1 h.ch).1
  obtain ⟨b, q0, q1, q2⟩ := hT
  have hkp : Kept F w wx := h.kp.next q1 (fun j hj hV => (hv j hV).resolve_right (by omega))
  have hvx : ∀ j, ext V wr wx j → F j ∨ w.heap.size < j := fun j hj => by
    rcases hj with hj | hj
    · exact hv j hj
    · exact .inr (by omega)
  rcases q2 with ⟨rfl, z, g⟩ | ⟨rfl, z, g⟩
  · have hs := hR.none hM.m0.1 hp z
    rw [hs] at g
    exact .inl ⟨q0, hkp, _, _, s, ⟨hR, t, ht, g⟩, z, hvx⟩
  · refine .inr ⟨q0, ⟨_, _, ⟨hR.step hM.m0.1 hp z, 1, by omega, g⟩, hvx⟩, hkp, Ch.kept h.ch q1 (fun hV => ?_), h.ul⟩
    rcases hv _ hV with hU | hU
    · have := h.ul _ hU; omega
    · omega
set_option maxRecDepth 100000 in
set_option maxHeartbeats 2000000 in
theorem serve_mem (h : Run K m w F db kb p i s) (hp : p.size ≤ 2900) :
    Calls Tryz.prog 31 #[.pointer (some ⟨db, 0, none⟩), .int .i64 1000, .int .i64 (-1)] w
      fun r w' => (∃ z : Int, r = .returned (.int .i64 z)) ∧ Sz K m w F db kb p w' := by
  have hmc := mkChan w
  have hA := Below.alloc (Below.refl w.heap.size w) (Nat.le_refl _) (.chan 0 #[] false 0 0 false)
  have hc0 : Ch (w.alloc (.chan 0 #[] false 0 0 false)) w.heap.size false := heap_alloc_new _ _
  have hS0 : Sy K m w F db kb p i 0 (w.alloc (.chan 0 #[] false 0 0 false)) := by
    obtain ⟨hR, t, ht, hM⟩ := h
    exact ⟨⟨F, s, ⟨hR, t, ht, hM.below hA⟩, fun j hj => .inl hj⟩, Kept.ofBelow hA, hc0, hM.lt⟩
  have HS0 := hide hS0
  clear h hS0 hc0 hA
  go_enter Tryz.func31, Tryz.ntmps31
  go_wp2
  clear hmc
  generalize w.alloc (.chan 0 #[] false 0 0 false) = W0 at *
  go_loopw [8] (fun tv wr => ∃ k : Nat, tv = .int .i64 k ∧ Hid (Sy K m w F db kb p i k wr)) (fun tv _ => 1000 - (intOf tv).toNat)
  case atStart => exact ⟨0, rfl, HS0⟩
  case round =>
    clear HS0
    obtain ⟨k, rfl, hS⟩ := hrel
    obtain ⟨V, s, ⟨hR, t, ht, hM⟩, q2⟩ := hS.out.ex
    have hk : k < 1000 := by have := hR.ms; omega
    have hst : (k : Int) < 1000 := by omega
    have hne : ¬ ((k : Int) = -1) := by omega
    have HN := hide (isClosed_no w.heap.size wr hS.out.ch)
    have HT : Hid (Calls Tryz.prog 63 #[.pointer (some ⟨db, 0, none⟩)] wr fun e w' => (e = .returned (.bool false) ∧ Sz K m w F db kb p w') ∨ (e = .returned (.bool true) ∧ Sy K m w F db kb p i (k + 1) w')) := (turn_mem hM (hR.okP hp) OkR.of ht).mono (fun e w' q => hS.out.tried hp q2 hR hM ht q)
    clear q2 hS hR hM
    go_wp2_with (first | (go_at_call 62; refine HN.out.mono ?_; rintro e w1 ⟨rfl, rfl⟩) | (go_at_call 63; refine HT.out.mono ?_; rintro e wx (⟨rfl, hx⟩ | ⟨rfl, hx⟩)))
    · go_ret
      exact ⟨⟨_, rfl⟩, hx⟩
    · exact ⟨⟨k + 1, by simp, hx⟩, by simp [intOf]; omega⟩
/-- Serve -/
theorem serve_run (h : Run K m w F db kb p i s) (hp : p.size ≤ 2900) :
    Calls Tryz.prog 31 #[.pointer (some ⟨db, 0, none⟩), .int .i64 1000, .int .i64 (-1)] w
      fun r w' => (∃ z : Int, r = .returned (.int .i64 z)) ∧ Kept F w w' ∧ ∃ i' s', Run K m w' (ext F w w') db kb p i' s' ∧ (stepP K m s').1 = 0 := by
  refine (serve_mem h hp).mono ?_
  rintro r w' ⟨q0, q1, V, i', s', ⟨hR, t, ht, hM⟩, q3, q4⟩
  obtain ⟨_, t0, _, hM0⟩ := h
  refine ⟨q0, q1, i', s', ⟨hR, t, ht, hM.grow (w0 := w) (fun k q => ?_) (fun k q => Nat.lt_of_lt_of_le (hM0.lt k q) q1.size) hM0.nf hM0.tlt⟩, q3⟩
  rcases q4 k q with g | g
  · exact .inl g
  · exact .inr ⟨Nat.le_of_lt g, hM.lt k q⟩
end
end Go.Proofs.YthpmcilljbmoiaaGreatDoor
