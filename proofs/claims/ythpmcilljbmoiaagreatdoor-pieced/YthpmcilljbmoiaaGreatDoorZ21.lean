import Derived.Test.YthpmcilljbmoiaaGreatDoorZ13
import Derived.Test.YthpmcilljbmoiaaGreatDoorZ11
import Derived.LaidEqlPtr
namespace Go.Proofs.YthpmcilljbmoiaaGreatDoor
open Go.RowKit

variable {w : World} {sb : Nat} {l : List Bl} {room held pinned : Int} {bv : Value}
set_option maxRecDepth 100000 in
set_option maxHeartbeats 400000 in
/-- the blob is not held -/
theorem unpin_none (nm : ByteArray) (hx : ixB l nm = none) (h : Sh w sb l room held pinned bv) (hl : l.length ≤ 1000) :
    Calls Tryz.prog 141 #[.pointer (some ⟨sb, 0, none⟩), .string nm] w fun r w' => r = .returned (.tuple #[]) ∧ w = w' := by
  have HF := find_sh sb l room held pinned bv nm w h hl
  rw [hx] at HF
  have HF : Hid (Calls Tryz.prog 167 #[.pointer (some ⟨sb, 0, none⟩), .string nm] w fun r w' => r = .returned (.int .i64 (-1)) ∧ w = w') := HF
  clear h hx
  go_enter Tryz.func141, Tryz.ntmps141
  go_wp2_with (go_at_call 167; refine HF.out.mono ?_; rintro e w1 ⟨rfl, rfl⟩)
  exact bodyPost_ret (results_none rfl _ _ _) rfl ⟨rfl, rfl⟩
set_option maxRecDepth 100000 in
set_option maxHeartbeats 400000 in
/-- the blob has no pin -/
theorem unpin_zero (nm : ByteArray) (i : Nat) (hi : i < l.length) (hx : ixB l nm = some i) (h : Sh w sb l room held pinned bv) (hl : l.length ≤ 1000) (hp : l[i].pn = 0) :
    Calls Tryz.prog 141 #[.pointer (some ⟨sb, 0, none⟩), .string nm] w fun r w' => r = .returned (.tuple #[]) ∧ w = w' := by
  have HF := find_sh sb l room held pinned bv nm w h hl
  rw [hx] at HF
  have HF : Hid (Calls Tryz.prog 167 #[.pointer (some ⟨sb, 0, none⟩), .string nm] w fun r w' => r = .returned (.int .i64 (i : Int)) ∧ w = w') := HF
  obtain ⟨b, off, cap, rfl, c0, fz, hne, q0, q1, q2, q3⟩ := h.at i hi
  rw [hp] at q3
  have g1 : (i : Int) < (l.length : Int) := by omega
  have g2 : (0 : Int) ≤ (i : Int) := by omega
  have g3 : ¬ ((i : Int) < 0) := by omega
  have hd3 : decide ((i : Int) < 0) = false := decide_eq_false g3
  clear h hx fz q0 q1 q2 hp
  go_enter Tryz.func141, Tryz.ntmps141
  go_wp2_with (go_at_call 167; refine HF.out.mono ?_; rintro e w1 ⟨rfl, rfl⟩)
  exact bodyPost_ret (results_none rfl _ _ _) rfl ⟨rfl, rfl⟩
end Go.Proofs.YthpmcilljbmoiaaGreatDoor
namespace Go.Proofs.YthpmcilljbmoiaaGreatDoor
open Go.RowKit

set_option maxRecDepth 100000 in
set_option maxHeartbeats 1000000 in
/-- pins are taken off, name by name: E k is how things stand behind k of them -/
theorem unpin_list (db : Nat) (ov : Value) (nms : List ByteArray) (E : Nat → World → Prop) (w : World) (hn : nms.length ≤ 1000) (h0 : E 0 w)
    (hR : ∀ k w1, E k w1 → Rw w1 9 1 ov nms.length (nms.map Value.string))
    (HU : Hid (∀ k (hk : k < nms.length) w1, E k w1 → ∃ sb, (Calls Tryz.prog 140 #[.pointer (some ⟨db, 0, none⟩), .string nms[k]] w1 fun r w' => r = .returned (.pointer (some ⟨sb, 0, none⟩)) ∧ E k w') ∧ ∀ w2, E k w2 → Calls Tryz.prog 141 #[.pointer (some ⟨sb, 0, none⟩), .string nms[k]] w2 fun r w' => r = .returned (.tuple #[]) ∧ E (k + 1) w')) :
    Calls Tryz.prog 95 #[.pointer (some ⟨db, 0, none⟩), ov] w fun r w' => r = .returned (.tuple #[]) ∧ E nms.length w' := by
  have HR : Hid (∀ k w1, k < nms.length → (h : k < nms.length) → E k w1 → ∃ b off, (∃ cap, ov = .slice (some ⟨b, off, none⟩) nms.length cap) ∧ w1.cell? ⟨b, off + k, none⟩ = some (.string nms[k])) := fun k w1 hk h hE => by
    obtain ⟨_, h1, _⟩ | ⟨b, off, cap, cur, rfl, hb, g1, g2, g3, g4, g5⟩ := hR k w1 hE
    · omega
    · refine ⟨b, off, ⟨cap, rfl⟩, ?_⟩
      rw [hb.cell, g5 k (by omega), List.getElem?_map, List.getElem?_eq_getElem h]
      rfl
  obtain ⟨a0, e0, rfl⟩ := Rw.shape (hR 0 w h0)
  have HE0 := hide h0
  clear hR h0
  obtain ⟨n, hnl⟩ : ∃ n, Hid (nms.length = n) := ⟨_, rfl⟩
  rw [hnl.out] at hn
  rw [hnl.out]
  go_enter Tryz.func95, Tryz.ntmps95
  go_wp2
  go_loopw [8] (fun iv wr => ∃ k : Nat, k ≤ n ∧ iv = .int .i64 k ∧ Hid (E k wr)) (fun iv _ => n - (intOf iv).toNat)
  case atStart => exact ⟨0, by omega, rfl, HE0⟩
  case round =>
    clear HE0
    obtain ⟨k, hk, rfl, hE⟩ := hrel
    have hll := hnl.out
    by_cases hkn : k < n
    · have hkl : k < nms.length := by omega
      obtain ⟨b, off, ⟨cap, hv⟩, q1⟩ := HR.out k wr hkl hkl hE.out
      injection hv with hv hvn hv2
      subst hv hv2
      clear hvn
      obtain ⟨sb, hso, hun⟩ := HU.out k hkl wr hE.out
      have HSo := hide hso
      have HUn := hide hun
      have h1 : (k : Int) < (n : Int) := by omega
      have h2 : (0 : Int) ≤ (k : Int) := by omega
      clear hso hun HU HR hE hll
      generalize nms[k] = nm at *
      go_wp2_with (first | (go_at_call 140; refine HSo.out.mono ?_; rintro e w1 ⟨rfl, h3⟩) | (go_at_call 141; refine (HUn.out w1 h3).mono ?_; rintro e w2 ⟨rfl, h4⟩))
      exact ⟨⟨k + 1, by omega, by simp, h4⟩, by simp [intOf]; omega⟩
    · obtain rfl : k = n := by omega
      have h1 : ¬ ((k : Int) < (k : Int)) := by omega
      clear HU HR hll
      go_wp2
      exact bodyPost_end (results_none rfl _ _ _) rfl ⟨rfl, hE.out⟩
set_option maxRecDepth 100000 in
set_option maxHeartbeats 400000 in
/-- there is no such lease -/
theorem release_no (db num : Nat) (w : World) (HG : Hid (Calls Tryz.prog 191 #[.pointer (some ⟨db, 2, none⟩), .int .i64 num] w fun r w' => r = .returned (.pointer none) ∧ w = w')) :
    Calls Tryz.prog 138 #[.pointer (some ⟨db, 0, none⟩), .int .i64 num] w fun r w' => ∃ v, r = .returned v ∧ Bs w' 5 v (b8 0) ∧ Below w.heap.size w w' ∧ Fresh w.heap.size v := by
  have H3 := hide no_any
  go_enter Tryz.func138, Tryz.ntmps138
  go_wp2_with (first | (go_at_call 191; refine HG.out.mono ?_; rintro e w1 ⟨rfl, rfl⟩) | (go_at_call 183; refine (H3.out _).mono ?_; rintro e w3 ⟨v, rfl, b3, k3, f3⟩))
  go_ret
  exact ⟨v, rfl, b3, k3, f3⟩
set_option maxRecDepth 100000 in
set_option maxHeartbeats 400000 in
/-- a lease is released -/
theorem release_yes (db num lb : Nat) (E : Value → World → Prop) (Q : World → Prop) (w : World) (HG : Hid (Calls Tryz.prog 191 #[.pointer (some ⟨db, 2, none⟩), .int .i64 num] w fun r w' => r = .returned (.pointer (some ⟨lb, 0, none⟩)) ∧ w = w'))
    (HE : Hid (Calls Tryz.prog 96 #[.pointer (some ⟨db, 2, none⟩), .pointer (some ⟨lb, 0, none⟩)] w fun r w' => ∃ ov, r = .returned ov ∧ E ov w'))
    (HU : Hid (∀ ov w1, E ov w1 → Calls Tryz.prog 95 #[.pointer (some ⟨db, 0, none⟩), ov] w1 fun r w' => r = .returned (.tuple #[]) ∧ Q w')) :
    Calls Tryz.prog 138 #[.pointer (some ⟨db, 0, none⟩), .int .i64 num] w fun r w' => ∃ v w1, r = .returned v ∧ Bs w' 5 v (b8 1) ∧ Q w1 ∧ Below w1.heap.size w1 w' ∧ Fresh w1.heap.size v := by
  have H3 := hide yes_any
  go_enter Tryz.func138, Tryz.ntmps138
  go_wp2_with (first | (go_at_call 191; refine HG.out.mono ?_; rintro e w1 ⟨rfl, rfl⟩) | (go_at_call 96; refine HE.out.mono ?_; rintro e w2 ⟨ov, rfl, h2⟩) | (go_at_call 95; refine (HU.out ov w2 h2).mono ?_; rintro e w3 ⟨rfl, h3⟩) | (go_at_call 186; refine (H3.out _).mono ?_; rintro e w4 ⟨v, rfl, b4, k4, f4⟩))
  go_ret
  exact ⟨v, w3, rfl, b4, h3, k4, f4⟩
end Go.Proofs.YthpmcilljbmoiaaGreatDoor
namespace Go.Proofs.YthpmcilljbmoiaaGreatDoor
open Go.RowKit

/-- pointers in a slice, at each place -/
theorem Rw.ptr_at {w : World} {e : TypeId} {lv : Value} {n : Nat} {lbs : Nat → Nat} (hR : Rw w e 1 lv n (ptrs lbs n)) (i : Nat) (hi : i < n) : ∃ b off cap, lv = .slice (some ⟨b, off, none⟩) n cap ∧ w.cell? ⟨b, off + i, none⟩ = some (.pointer (some ⟨lbs i, 0, none⟩)) ∧ b < w.heap.size := by
  obtain ⟨_, h0, _⟩ | ⟨b, off, cap, cur, rfl, hb, g1, g2, g3, g4, g5⟩ := hR
  · omega
  · exact ⟨b, off, cap, rfl, by rw [hb.cell, g5 i (by omega), ptrs_get _ _ _ hi], hb.lt⟩
/-- the first of n leases that has this number and was given -/
def gix (les : Nat → Le) (number : Nat) : Nat → Nat → Option Nat
  | 0, _ => none
  | m + 1, i => if (les i).num = number ∧ (les i).given = true then some i else gix les number m (i + 1)
def gptr (lbs : Nat → Nat) : Option Nat → Value
  | none => .pointer none
  | some i => .pointer (some ⟨lbs i, 0, none⟩)
set_option maxRecDepth 100000 in
set_option maxHeartbeats 1000000 in
theorem given_any (db o n number : Nat) (lv : Value) (lbs : Nat → Nat) (les : Nat → Le) (nvs : Nat → Value) (w : World) (hc : w.cell? ⟨db, o, none⟩ = some lv) (hR : Rw w 173 1 lv n (ptrs lbs n)) (hL : ∀ i, i < n → Lm w (lbs i) (les i) (nvs i)) (hn : n ≤ 100) :
    Calls Tryz.prog 191 #[.pointer (some ⟨db, o, none⟩), .int .i64 number] w fun r w' => r = .returned (gptr lbs (gix les number n 0)) ∧ w = w' := by
  have HP : Hid (∀ i, i < n → ∃ b off, (∃ cap, lv = .slice (some ⟨b, off, none⟩) n cap) ∧ w.cell? ⟨b, off + i, none⟩ = some (.pointer (some ⟨lbs i, 0, none⟩)) ∧ w.cell? ⟨lbs i, 0, none⟩ = some (.int .i64 (les i).num) ∧ w.cell? ⟨lbs i, 3, none⟩ = some (.bool (les i).given)) := fun i hi => by
    obtain ⟨b, off, cap, e, h1, _⟩ := Rw.ptr_at hR i hi
    exact ⟨b, off, ⟨cap, e⟩, h1, (hL i hi).1.cell 0, (hL i hi).1.cell 3⟩
  obtain ⟨a0, e0, rfl⟩ := Rw.shape hR
  clear hR hL
  go_enter Tryz.func191, Tryz.ntmps191
  go_wp2
  go_loopw [12] (fun iv wr => ∃ i : Nat, i ≤ n ∧ iv = .int .i64 i ∧ w = wr ∧ Hid (gix les number n 0 = gix les number (n - i) i)) (fun iv _ => n - (intOf iv).toNat)
  case atStart => exact ⟨0, by omega, rfl, rfl, rfl⟩
  case round =>
    obtain ⟨i, hi, rfl, rfl, hg⟩ := hrel
    by_cases hin : i < n
    · obtain ⟨b, off, ⟨cap, hv⟩, q1, q2, q3⟩ := HP.out i hin
      injection hv with hv hvn hv2
      subst hv hv2
      clear hvn
      have h1 : (i : Int) < (n : Int) := by omega
      have h2 : (0 : Int) ≤ (i : Int) := by omega
      have hst : n - i = (n - (i + 1)) + 1 := by omega
      have HG : Hid (gix les number n 0 = if (les i).num = number ∧ (les i).given = true then some i else gix les number (n - (i + 1)) (i + 1)) := by
        unfold Hid
        rw [hg.out, hst, gix]
      clear hst HP hg
      by_cases hm : (les i).num = number
      · cases hgv : (les i).given with
        | true =>
          rw [hgv] at q3 HG
          rw [if_pos ⟨hm, rfl⟩] at HG
          rw [hm] at q2
          clear hm hgv
          go_wp2
          go_ret
          exact ⟨by rw [HG.out]; rfl, rfl⟩
        | false =>
          rw [hgv] at q3 HG
          rw [if_neg (by simp)] at HG
          rw [hm] at q2
          clear hm hgv
          go_wp2
          exact ⟨⟨i + 1, by omega, by simp, by first | rfl | trivial, HG⟩, by simp [intOf]; omega⟩
      · rw [if_neg (fun e => hm e.1)] at HG
        have hmi : ¬ (((les i).num : Int) = (number : Int)) := by omega
        have hmb : (((les i).num : Int) == (number : Int)) = false := beq_eq_false_iff_ne.2 hmi
        generalize (les i).num = z at *
        generalize (les i).given = gv at *
        go_wp2
        exact ⟨⟨i + 1, by omega, by simp, by first | rfl | trivial, HG⟩, by simp [intOf]; omega⟩
    · have h1 : ¬ ((i : Int) < (n : Int)) := by omega
      have HG : Hid (gix les number n 0 = none) := by
        unfold Hid
        rw [hg.out, show n - i = 0 by omega, gix]
      clear hg HP
      go_wp2
      go_ret
      exact ⟨by rw [HG.out]; rfl, rfl⟩

theorem infoLease : ∃ j, Tryz.prog.info? 273 = some j ∧ j.size = 5 := by
  have h : (Tryz.prog.info? 273).map (·.size) = some 5 := by kernel_rfl
  obtain ⟨j, hj, hs⟩ := Option.map_eq_some_iff.1 h
  exact ⟨j, hj, hs⟩
theorem lptr_same (w : World) (x : Nat) : (binOp .eql 173 (.pointer (some ⟨x, 0, none⟩)) (.pointer (some ⟨x, 0, none⟩))).run Tryz.prog w = .ok (.bool true) w := by
  obtain ⟨j, hj, _⟩ := infoLease
  exact run_eql_ptr_same w ⟨x, 0, none⟩ Tryz.underlying173 hj
theorem lptr_other (w : World) {x y : Nat} {c1 c2 : Array Value} {t1 t2 : TypeId} (h1 : Blk w x t1 c1) (h2 : Blk w y t2 c2) (hne : x ≠ y) : (binOp .eql 173 (.pointer (some ⟨x, 0, none⟩)) (.pointer (some ⟨y, 0, none⟩))).run Tryz.prog w = .ok (.bool false) w := by
  obtain ⟨j, hj, hs⟩ := infoLease
  exact run_eql_ptr_other w Tryz.underlying173 hj (by omega) (fun e => hne (by injection e)) h1 h2
set_option maxRecDepth 100000 in
set_option maxHeartbeats 1000000 in
/-- where the lease stands -/
theorem lindex_any (g n e : Nat) (lv : Value) (lbs : Nat → Nat) (w : World) (hg : w.cell? ⟨g, 0, none⟩ = some (.pointer (some ⟨lbs e, 0, none⟩))) (hR : Rw w 173 1 lv n (ptrs lbs n)) (he : e < n) (hd : ∀ i, i < n → i ≠ e → lbs i ≠ lbs e) (hL : ∀ i, i < n → ∃ cs, Blk w (lbs i) 273 cs) (hn : n ≤ 100) :
    Calls Tryz.prog 223 #[lv, .func (.func 143) #[] #[.pointer (some ⟨g, 0, none⟩)]] w
      fun r w' => r = .returned (.int .i64 e) ∧ w = w' := by
  have HP : Hid (∀ i, i < n → ∃ b off, (∃ cap, lv = .slice (some ⟨b, off, none⟩) n cap) ∧ w.cell? ⟨b, off + i, none⟩ = some (.pointer (some ⟨lbs i, 0, none⟩))) := fun i hi => by
    obtain ⟨b, off, cap, e, h1, _⟩ := Rw.ptr_at hR i hi
    exact ⟨b, off, ⟨cap, e⟩, h1⟩
  have HD : Hid (∀ i, i < n → i ≠ e → (binOp .eql 173 (.pointer (some ⟨lbs i, 0, none⟩)) (.pointer (some ⟨lbs e, 0, none⟩))).run Tryz.prog w = .ok (.bool false) w) := fun i hi hie => by
    obtain ⟨c1, h1⟩ := hL i hi
    obtain ⟨c2, h2⟩ := hL e he
    exact lptr_other w h1 h2 (hd i hi hie)
  have heq := lptr_same w (lbs e)
  obtain ⟨a0, e0, rfl⟩ := Rw.shape hR
  clear hR hd hL
  go_enter Tryz.func223, Tryz.ntmps223
  go_wp2
  go_loopw [8] (fun iv wr => ∃ i : Nat, i ≤ e ∧ iv = .int .i64 i ∧ w = wr) (fun iv _ => n - (intOf iv).toNat)
  case atStart => exact ⟨0, by omega, rfl, rfl⟩
  case round =>
    obtain ⟨i, hi, rfl, rfl⟩ := hrel
    obtain ⟨b, off, ⟨cap, hv⟩, q1⟩ := HP.out i (by omega)
    injection hv with hv hvn hv2
    subst hv hv2
    clear hvn
    have h1 : (i : Int) < (n : Int) := by omega
    have h2 : (0 : Int) ≤ (i : Int) := by omega
    by_cases hie : i = e
    · subst hie
      clear HP HD
      go_wp2
      go_ret
      exact ⟨rfl, rfl⟩
    · have hne := HD.out i (by omega) hie
      clear HP HD
      generalize lbs i = x at *
      generalize lbs e = y at *
      go_wp2
      exact ⟨⟨i + 1, by omega, by simp, by first | rfl | trivial⟩, by simp [intOf]; omega⟩
end Go.Proofs.YthpmcilljbmoiaaGreatDoor
