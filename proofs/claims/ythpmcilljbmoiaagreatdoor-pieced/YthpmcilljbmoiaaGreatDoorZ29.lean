import Derived.Test.YthpmcilljbmoiaaGreatDoorZ26
import Derived.Test.YthpmcilljbmoiaaGreatDoorZ11
import Derived.Test.YthpmcilljbmoiaaGreatDoorZ23
import Derived.Test.YthpmcilljbmoiaaGreatDoorZ27
import Derived.Test.YthpmcilljbmoiaaGreatDoorZRlease
import Derived.Test.YthpmcilljbmoiaaGreatDoorZ07
namespace Go.Proofs.YthpmcilljbmoiaaGreatDoor
open Go.RowKit

/-- the number that a refusal tells -/
def refNum (s : ByteArray) : Nat := if 3 ≤ s.size then num (s.extract 1 3) else 0
theorem refNum_lt (s : ByteArray) : refNum s < 65536 := by
  unfold refNum
  split
  · rename_i h
    have hz : (s.extract 1 3).size = 2 := by rw [ByteArray.size_extract]; omega
    have := num2 (s.extract 1 3) hz
    have h0 := (s.extract 1 3)[0].toNat_lt
    have h1 := (s.extract 1 3)[1].toNat_lt
    omega
  · omega
set_option maxRecDepth 100000 in
set_option maxHeartbeats 1000000 in
theorem refusal_any (iv : Value) (s : ByteArray) (w : World) (h : Bs w 5 iv s) (hs : s.size ≤ 6000) :
    Calls Tryz.prog 131 #[iv] w fun r w' => ∃ v, r = .returned v ∧ Bs w' 5 v (frm 255 (refNum s) (b8 1)) ∧ Below w.heap.size w w' ∧ Fresh w.heap.size v := by
  have hlt := refNum_lt s
  have hA := Below.alloc (Below.refl w.heap.size w) (Nat.le_refl _) (.cells #[.int .u8 (1 : Int)] 5)
  have HFr : Hid (Calls Tryz.prog 178 #[.int .i64 255, .int .i64 (refNum s), .slice (some ⟨w.heap.size, 0, none⟩) 1 1] (w.alloc (.cells #[.int .u8 (1 : Int)] 5)) fun r w' => ∃ v, r = .returned v ∧ Bs w' 5 v (frm 255 (refNum s) (b8 1)) ∧ Below w.heap.size w w' ∧ Fresh w.heap.size v) := by
    refine (frame_any 255 (refNum s) _ (b8 1) _ (Bs.one w 1 1 rfl (by omega)) (by omega) hlt (by decide)).mono ?_
    rintro e w' ⟨v, q1, q2, q3, q4⟩
    exact ⟨v, q1, q2, hA.trans (q3.mono hA.size), q4.mono hA.size⟩
  obtain ⟨a, c, rfl, hc⟩ := h.shape
  by_cases h3 : 3 ≤ s.size
  · have hz : (s.extract 1 3).size = 2 := by rw [ByteArray.size_extract]; omega
    obtain ⟨q1, _⟩ := Bs.cut rfl h 1 3 c (by omega) (by omega) (by omega) (by omega)
    have l1 : ∀ w, (Instr.slice 126 (.slice a s.size c) (some (.int .i64 1)) (some (.int .i64 3)) none).run Tryz.prog w = .ok (sliced a 1 3 c 1) w := fun w => by
      rw [run_slice_lh w _ _ _ _ Tryz.underlying126 _ _ _ _ (by omega) (by omega) (by omega)]; first | rfl | (simp; rfl)
    have hcv := q1.str (dst := 9) Tryz.underlying126 Tryz.underlying5 Tryz.underlying9
    have HN : Hid (∀ w, Calls Tryz.prog 176 #[.string (s.extract 1 3)] w fun r w' => r = .returned (.int .i64 (refNum s)) ∧ w = w') := fun w => by
      unfold refNum
      rw [if_pos h3]
      exact numOf2 _ w hz
    have h3i : (3 : Int) ≤ (s.size : Int) := by omega
    clear h q1 hz
    generalize s.extract 1 3 = E at *
    generalize sliced a 1 3 c 1 = V at *
    generalize refNum s = N at *
    go_enter Tryz.func131, Tryz.ntmps131
    go_wp2_with (first | (go_at_call 176; refine (HN.out _).mono ?_; rintro e w1 ⟨rfl, rfl⟩) | (go_at_call 178; refine HFr.out.mono ?_; rintro e w2 ⟨v, rfl, b2, k2, f2⟩))
    go_ret
    exact ⟨v, rfl, b2, k2, f2⟩
  · have hr : refNum s = 0 := by unfold refNum; rw [if_neg h3]
    rw [hr] at HFr ⊢
    have h3i : ¬ ((3 : Int) ≤ (s.size : Int)) := by omega
    clear h hr
    go_enter Tryz.func131, Tryz.ntmps131
    go_wp2_with (first | (go_at_call 178; refine HFr.out.mono ?_; rintro e w2 ⟨v, rfl, b2, k2, f2⟩))
    go_ret
    exact ⟨v, rfl, b2, k2, f2⟩
set_option maxRecDepth 100000 in
theorem clear_any (kb : Nat) (wv gv wk cl : Value) (w : World) (h : Cn w kb wv gv wk cl) :
    Calls Tryz.prog 97 #[.pointer (some ⟨kb, 0, none⟩)] w fun r w' => r = .returned (.tuple #[]) ∧ Cn w' kb (.slice none 0 0) gv wk cl ∧ Kept (fun k => k = kb) w w' := by
  have c0 : w.cell? ⟨kb, 0, none⟩ = some wv := h.cell 0
  have f0 := h.frozen 0
  have HP : Hid (Cn (w.setCell ⟨kb, 0, none⟩ (.slice none 0 0)) kb (.slice none 0 0) gv wk cl) := by
    unfold Hid
    simpa using h.set 0 (.slice none 0 0)
  clear h
  go_enter Tryz.func97, Tryz.ntmps97
  go_wp2
  exact bodyPost_end (results_none rfl _ _ _) rfl ⟨rfl, HP.out, (Kept.refl _ _).set _ _ (fun _ => rfl)⟩
set_option maxRecDepth 100000 in
set_option maxHeartbeats 400000 in
theorem close_any (kb : Nat) (wv gv wk cl : Value) (w : World) (h : Cn w kb wv gv wk cl) :
    Calls Tryz.prog 56 #[.pointer (some ⟨kb, 0, none⟩)] w fun r w' => r = .returned (.tuple #[]) ∧ Cn w' kb (.slice none 0 0) gv (.pointer none) (.bool true) ∧ Kept (fun k => k = kb) w w' := by
  have HC : Hid (Calls Tryz.prog 97 #[.pointer (some ⟨kb, 0, none⟩)] w fun r w' => r = .returned (.tuple #[]) ∧ (Cn w' kb (.slice none 0 0) gv wk cl ∧ Kept (fun k => k = kb) w w') ∧ w'.cell? ⟨kb, 2, none⟩ = some wk ∧ w'.cell? ⟨kb, 3, none⟩ = some cl ∧ w'.frozen? ⟨kb, 2, none⟩ = false ∧ w'.frozen? ⟨kb, 3, none⟩ = false) := by
    refine (clear_any kb wv gv wk cl w h).mono ?_
    rintro e w' ⟨q1, q2, q3⟩
    exact ⟨q1, ⟨q2, q3⟩, q2.cell 2, q2.cell 3, q2.frozen 2, q2.frozen 3⟩
  have fin : Hid (∀ w1, (Cn w1 kb (.slice none 0 0) gv wk cl ∧ Kept (fun k => k = kb) w w1) → Cn ((w1.setCell ⟨kb, 2, none⟩ (.pointer none)).setCell ⟨kb, 3, none⟩ (.bool true)) kb (.slice none 0 0) gv (.pointer none) (.bool true) ∧ Kept (fun k => k = kb) w ((w1.setCell ⟨kb, 2, none⟩ (.pointer none)).setCell ⟨kb, 3, none⟩ (.bool true))) := fun w1 ⟨h1, h2⟩ =>
    ⟨by simpa using (h1.set 2 (.pointer none)).set 3 (.bool true), (h2.set ⟨kb, 2, none⟩ (.pointer none) (fun _ => rfl)).set ⟨kb, 3, none⟩ (.bool true) (fun _ => rfl)⟩
  clear h
  go_enter Tryz.func56, Tryz.ntmps56
  go_wp2_with (go_at_call 97; refine HC.out.mono ?_; rintro e w1 ⟨rfl, hh, c2, c3, f2, f3⟩)
  exact bodyPost_end (results_none rfl _ _ _) rfl ⟨rfl, fin.out _ hh⟩
end Go.Proofs.YthpmcilljbmoiaaGreatDoor
namespace Go.Proofs.YthpmcilljbmoiaaGreatDoor
open Go.RowKit

/-- the frame at the front: what stands inside, what is left; none, if it is not there yet -/
def cutF (s : ByteArray) : Option (ByteArray × ByteArray) :=
  if s.size < 2 then none
  else if num (s.extract 0 2) < 1 ∨ 2000 < num (s.extract 0 2) then some (⟨#[]⟩, s)
  else if s.size < 2 + num (s.extract 0 2) then none
  else some (s.extract 2 (2 + num (s.extract 0 2)), s.extract (2 + num (s.extract 0 2)) s.size)
/-- what Cut comes to -/
def CutP (w : World) (kb : Nat) (wv gv wk cl : Value) (s : ByteArray) (r : Ending) (w' : World) : Prop :=
  match cutF s with
  | none => r = .returned (.tuple #[.slice none 0 0, .bool false]) ∧ Below w.heap.size w w'
  | some (i, t) => ∃ iv wv', r = .returned (.tuple #[iv, .bool true]) ∧ Cn w' kb wv' gv wk cl ∧ Bs w' 5 wv' t ∧ Bs w' 5 iv i ∧ Kept (fun k => k = kb) w w' ∧ wv'.ownBlock = wv.ownBlock
set_option maxRecDepth 100000 in
set_option maxHeartbeats 1000000 in
theorem cut_any (kb : Nat) (wv gv wk cl : Value) (s : ByteArray) (w : World) (hB : Cn w kb wv gv wk cl) (hw : Bs w 5 wv s) (hsz : s.size ≤ 6000) :
    Calls Tryz.prog 128 #[.pointer (some ⟨kb, 0, none⟩)] w fun r w' => CutP w kb wv gv wk cl s r w' := by
  unfold CutP
  by_cases h2 : s.size < 2
  · have e : cutF s = none := by unfold cutF; rw [if_pos h2]
    rw [e]
    obtain ⟨a, c, rfl, hc⟩ := hw.shape
    have c0 : w.cell? ⟨kb, 0, none⟩ = some (.slice a s.size c) := hB.cell 0
    have h2i : (s.size : Int) < 2 := by omega
    clear hB hw e
    go_enter Tryz.func128, Tryz.ntmps128
    go_wp2
    go_ret2
    exact ⟨rfl, Below.refl _ _⟩
  · by_cases hb : num (s.extract 0 2) < 1 ∨ 2000 < num (s.extract 0 2)
    · have e : cutF s = some (⟨#[]⟩, s) := by unfold cutF; rw [if_neg h2, if_pos hb]
      rw [e]
      have hB' := hide hB
      have hw' := hide hw
      obtain ⟨a, c, rfl, hc⟩ := hw.shape
      have c0 : w.cell? ⟨kb, 0, none⟩ = some (.slice a s.size c) := hB.cell 0
      obtain ⟨q1, _⟩ := Bs.cut rfl hw 0 2 c (by omega) (by omega) (by omega) (by omega)
      have l1 : ∀ w, (Instr.slice 126 (.slice a s.size c) none (some (.int .i64 2)) none).run Tryz.prog w = .ok (sliced a 0 2 c 1) w := fun w => by
        rw [run_slice_h w _ _ _ _ Tryz.underlying126 _ _ (by omega) (by omega)]; first | rfl | (simp; rfl)
      have hcv := q1.str (dst := 9) Tryz.underlying126 Tryz.underlying5 Tryz.underlying9
      have HC := hide (fun w => numOf2 (s.extract 0 2) w (by rw [ByteArray.size_extract]; omega))
      have h2i : ¬ ((s.size : Int) < 2) := by omega
      clear hB hw e q1
      generalize num (s.extract 0 2) = L at *
      generalize s.extract 0 2 = E at *
      generalize sliced a 0 2 c 1 = V at *
      by_cases h1 : L < 1
      · have i1 : (L : Int) < 1 := by omega
        go_enter Tryz.func128, Tryz.ntmps128
        go_wp2_with (go_at_call 176; refine (HC.out _).mono ?_; rintro e w1 ⟨rfl, rfl⟩)
        go_ret2
        exact ⟨_, _, rfl, hB'.out, hw'.out, Bs.nil _ _, Kept.refl _ _, rfl⟩
      · have i1 : ¬ ((L : Int) < 1) := by omega
        have i2 : (2000 : Int) < (L : Int) := by omega
        go_enter Tryz.func128, Tryz.ntmps128
        go_wp2_with (go_at_call 176; refine (HC.out _).mono ?_; rintro e w1 ⟨rfl, rfl⟩)
        go_ret2
        exact ⟨_, _, rfl, hB'.out, hw'.out, Bs.nil _ _, Kept.refl _ _, rfl⟩
    · by_cases h3 : s.size < 2 + num (s.extract 0 2)
      · have e : cutF s = none := by unfold cutF; rw [if_neg h2, if_neg hb, if_pos h3]
        rw [e]
        obtain ⟨a, c, rfl, hc⟩ := hw.shape
        have c0 : w.cell? ⟨kb, 0, none⟩ = some (.slice a s.size c) := hB.cell 0
        obtain ⟨q1, _⟩ := Bs.cut rfl hw 0 2 c (by omega) (by omega) (by omega) (by omega)
        have l1 : ∀ w, (Instr.slice 126 (.slice a s.size c) none (some (.int .i64 2)) none).run Tryz.prog w = .ok (sliced a 0 2 c 1) w := fun w => by
          rw [run_slice_h w _ _ _ _ Tryz.underlying126 _ _ (by omega) (by omega)]; first | rfl | (simp; rfl)
        have hcv := q1.str (dst := 9) Tryz.underlying126 Tryz.underlying5 Tryz.underlying9
        have HC := hide (fun w => numOf2 (s.extract 0 2) w (by rw [ByteArray.size_extract]; omega))
        have h2i : ¬ ((s.size : Int) < 2) := by omega
        clear hB hw e q1
        generalize num (s.extract 0 2) = L at *
        generalize s.extract 0 2 = E at *
        generalize sliced a 0 2 c 1 = V at *
        have i1 : ¬ ((L : Int) < 1) := by omega
        have i2 : ¬ ((2000 : Int) < (L : Int)) := by omega
        have i3 : (s.size : Int) < 2 + (L : Int) := by omega
        go_enter Tryz.func128, Tryz.ntmps128
        go_wp2_with (go_at_call 176; refine (HC.out _).mono ?_; rintro e w1 ⟨rfl, rfl⟩)
        go_ret2
        exact ⟨rfl, Below.refl _ _⟩
      · have e : cutF s = some (s.extract 2 (2 + num (s.extract 0 2)), s.extract (2 + num (s.extract 0 2)) s.size) := by unfold cutF; rw [if_neg h2, if_neg hb, if_neg h3]
        rw [e]
        refine (cut_in kb wv gv wk cl s (num (s.extract 0 2)) w hB hw hsz (by omega) rfl (by omega) (by omega)).mono ?_
        rintro r w' ⟨iv, wv', q1, q2, q3, q4, q5, q6, q7⟩
        exact ⟨iv, wv', q1, q2, q3, q4, q5, q6⟩
theorem ps_nil : ps ⟨#[]⟩ = none := by
  unfold ps rq
  have h1 : nb 1 ((⟨#[]⟩ : ByteArray), false) = (0, ((⟨#[]⟩ : ByteArray), true)) := rfl
  rw [h1]
  rfl

set_option maxRecDepth 100000 in
set_option maxHeartbeats 1000000 in
/-- what stands at the front is no request -/
theorem begin_refused (db kb : Nat) (wv gv cl : Value) (s inside rest going : ByteArray) (w : World) (hB : Cn w kb wv gv (.pointer none) cl) (hw : Bs w 5 wv s) (hg : Bs w 5 gv going) (hsz : s.size ≤ 6000) (hgz : going.size ≤ 200000) (hc : cutF s = some (inside, rest)) (hp : ps inside = none) (hiz : inside.size ≤ 6000) :
    Calls Tryz.prog 91 #[.pointer (some ⟨db, 0, none⟩), .pointer (some ⟨kb, 0, none⟩)] w
      fun r w' => r = .returned (.int .i64 4) ∧ ∃ gv', Cn w' kb (.slice none 0 0) gv' (.pointer none) (.bool true) ∧ Bs w' 5 gv' (going ++ frm 255 (refNum inside) (b8 1)) ∧ Kept (fun k => k = kb ∨ gv.ownBlock = some k) w w' ∧ Home w gv gv' := by
  have HC := hide (cut_any kb wv gv (.pointer none) cl s w hB hw hsz)
  unfold CutP at HC
  rw [hc] at HC
  have HG : Hid (∀ w1, Kept (fun k => k = kb) w w1 → Bs w1 5 gv going) := fun w1 hk => hg.kept hk (fun k hkk e => by subst e; exact bs_ne_cn hg hB (by decide) hkk)
  have HP : Hid (∀ iv w1, Bs w1 5 iv inside → Calls Tryz.prog 129 #[iv] w1 fun r w' => r = .returned (.tuple #[.nilIface, .bool false]) ∧ Below w1.heap.size w1 w') := fun iv w1 hb => by
    have := parse_f iv inside w1 hb hiz
    rw [hp] at this
    refine this.mono ?_
    rintro r w' ⟨v, q1, q2, q3⟩
    obtain rfl : v = .nilIface := q2
    exact ⟨q1, q3⟩
  have HF : Hid (∀ iv w1, Bs w1 5 iv inside → Calls Tryz.prog 131 #[iv] (World.drew w1) fun r w' => ∃ v, r = .returned v ∧ Bs w' 5 v (frm 255 (refNum inside) (b8 1)) ∧ Below w1.heap.size w1 w') := fun iv w1 hb => by
    refine (refusal_any iv inside (World.drew w1) hb hiz).mono ?_
    rintro r w' ⟨v, q1, q2, q3, q4⟩
    exact ⟨v, q1, q2, (Below.refl w1.heap.size w1).drew.trans q3⟩
  have HS : Hid (∀ wv1 fv w1, Cn w1 kb wv1 gv (.pointer none) cl → Bs w1 5 gv going → Bs w1 5 fv (frm 255 (refNum inside) (b8 1)) → Calls Tryz.prog 130 #[.pointer (some ⟨kb, 1, none⟩), fv] w1 fun r w' => r = .returned (.tuple #[]) ∧ ∃ gv', Cn w' kb wv1 gv' (.pointer none) cl ∧ Bs w' 5 gv' (going ++ frm 255 (refNum inside) (b8 1)) ∧ Kept (fun k => k = kb ∨ gv.ownBlock = some k) w1 w' ∧ Home w1 gv gv') := fun wv1 fv w1 h1 h2 h3 => send_out kb wv1 gv (.pointer none) cl fv going _ w1 h1 h2 h3 (by rw [frm_size, b8_size]; omega)
  have HX := hide (fun wv1 gv1 w1 (h : Cn w1 kb wv1 gv1 (.pointer none) cl) => close_any kb wv1 gv1 (.pointer none) cl w1 h)
  have hlt := hB.lt
  clear hw hsz hc hp hB hg
  generalize frm 255 (refNum inside) (b8 1) = FR at *
  go_enter Tryz.func91, Tryz.ntmps91
  go_wp2_with (first | (go_at_call 128; refine HC.out.mono ?_; rintro e w1 ⟨iv, wv1, rfl, hB1, b1, i1, k1, o1⟩) | (go_at_call 129; refine (HP.out iv w1 i1).mono ?_; rintro e w2 ⟨rfl, k2⟩))
  have hB2 := hB1.below k2 hB1.lt
  have i2 := i1.below k2
  have g2 := (HG.out w1 k1).below k2
  have hK2 : Kept (fun k => k = kb ∨ gv.ownBlock = some k) w w2 := ((k1.mono (fun _ _ h => .inl h)).below k2)
  have HF1 : Hid (Calls Tryz.prog 131 #[iv] (World.drew w2) fun r w' => ∃ v, r = .returned v ∧ Bs w' 5 v FR ∧ Cn w' kb wv1 gv (.pointer none) cl ∧ Bs w' 5 gv going ∧ Kept (fun k => k = kb ∨ gv.ownBlock = some k) w w') := by
    refine (HF.out iv w2 i2).mono ?_
    rintro r w' ⟨v, q1, q2, q3⟩
    exact ⟨v, q1, q2, hB2.below q3 hB2.lt, g2.below q3, hK2.below q3⟩
  clear HC HP HF HG hB1 b1 i1 k1 o1 k2 i2 g2 hB2
  go_region_with (first | (go_at_call 131; refine HF1.out.mono ?_; rintro e w3 ⟨v3, rfl, b3, c3, g3, k3⟩) | (go_at_call 130; refine (HS.out wv1 v3 w3 c3 g3 b3).mono ?_; rintro e w4 ⟨rfl, gv4, c4, b4, k4, o4⟩))
  all_goals
    go_wp2_with (go_at_call 56; refine (HX.out wv1 gv4 w4 c4).mono ?_; rintro e w5 ⟨rfl, c5, k5⟩)
    go_ret
    refine ⟨rfl, gv4, c5, b4.kept k5 (fun k hkk e => by subst e; exact bs_ne_cn b4 c4 (by decide) hkk), (k3.next k4 (fun _ _ h => h)).next k5 (fun _ _ h => .inl h), (Home.refl w gv).trans k3.size o4⟩
end Go.Proofs.YthpmcilljbmoiaaGreatDoor
namespace Go.Proofs.YthpmcilljbmoiaaGreatDoor
open Go.RowKit

def Req.items : Req → Nat
  | .find _ ns _ => ns.length
  | .read _ ns => ns.length
  | .update _ bs => bs.length
  | .get _ _ => 1
  | .put _ _ _ => 1
  | .release _ _ => 1
/-- of one item by its kind -/
def Req.sing : Req → Bool
  | .find _ _ _ => false
  | .read _ _ => false
  | .update _ _ => false
  | .get _ _ => true
  | .put _ _ _ => true
  | .release _ _ => true
/-- a request under way -/
structure Wps where
  rq : Req
  lsd : Bool
  done : Nat
  body : ByteArray
/-- a connection -/
structure Cps where
  wait : ByteArray
  going : ByteArray
  work : Option Wps
  closed : Bool
/-- a depot and its connection -/
structure Pst where
  D : Dps
  C : Cps
/-- v is the request q, its lists lie in H -/
def RqX (w : World) (H : Nat → Prop) (v : Value) : Req → Prop
  | .find id ns t => ∃ a c, v = findRq id ns.length c t a ∧ Rw w 9 1 (.slice a ns.length c) ns.length (ns.map Value.string) ∧ In H (.slice a ns.length c)
  | .read id ns => ∃ a c, v = readRq id ns.length c a ∧ Rw w 9 1 (.slice a ns.length c) ns.length (ns.map Value.string) ∧ In H (.slice a ns.length c)
  | .update id bs => ∃ a c, v = updRq id bs.length c a ∧ Rw w 253 2 (.slice a bs.length c) bs.length (blobCells bs) ∧ In H (.slice a bs.length c)
  | .get id key => v = getRq id key
  | .put id key val => v = putRq id key val
  | .release id l => v = relRq id l
theorem RqX.onl {w w' : World} {H S : Nat → Prop} {v : Value} {q : Req} (h : RqX w H v q) (hk : Kept S w w') (h1 : Onl w H S 9 (fun _ => False)) (h2 : Onl w H S 253 (fun _ => False)) : RqX w' H v q := by
  cases q with
  | find id ns t => obtain ⟨a, c, e, g1, g2⟩ := h; exact ⟨a, c, e, Rw.onl g1 hk g2 h1, g2⟩
  | read id ns => obtain ⟨a, c, e, g1, g2⟩ := h; exact ⟨a, c, e, Rw.onl g1 hk g2 h1, g2⟩
  | update id bs => obtain ⟨a, c, e, g1, g2⟩ := h; exact ⟨a, c, e, Rw.onl g1 hk g2 h2, g2⟩
  | get id key => exact h
  | put id key val => exact h
  | release id l => exact h
theorem RqX.wider {w : World} {H H' : Nat → Prop} {v : Value} {q : Req} (h : RqX w H v q) (hH : ∀ k, H k → H' k) : RqX w H' v q := by
  cases q with
  | find id ns t => obtain ⟨a, c, e, g1, g2⟩ := h; exact ⟨a, c, e, g1, fun k hk => hH k (g2 k hk)⟩
  | read id ns => obtain ⟨a, c, e, g1, g2⟩ := h; exact ⟨a, c, e, g1, fun k hk => hH k (g2 k hk)⟩
  | update id bs => obtain ⟨a, c, e, g1, g2⟩ := h; exact ⟨a, c, e, g1, fun k hk => hH k (g2 k hk)⟩
  | get id key => exact h
  | put id key val => exact h
  | release id l => exact h
/-- a request under way in memory -/
structure WkX (w : World) (H : Nat → Prop) (wb : Nat) (lp : Option Addr) (v bv : Value) (W : Wps) : Prop where
  blk : Wl w wb v lp (W.done : Int) bv
  rq : RqX w H v W.rq
  bod : Bs w 5 bv W.body
  inW : H wb
  inB : In H bv
  z : W.rq.sing = true → W.done = 0 → bv = .slice none 0 0
def CurX (w : World) (H : Nat → Prop) (wv gv wk : Value) (lp : Option Addr) : Option Wps → Prop
  | none => wk = .pointer none
  | some W => ∃ wb v bv, wk = .pointer (some ⟨wb, 0, none⟩) ∧ WkX w H wb lp v bv W ∧ ∀ k, bv.ownBlock = some k → wv.ownBlock ≠ some k ∧ gv.ownBlock ≠ some k
/-- a connection in memory -/
structure ConX (w : World) (H : Nat → Prop) (kb : Nat) (wv gv wk : Value) (lp : Option Addr) (C : Cps) : Prop where
  blk : Cn w kb wv gv wk (.bool C.closed)
  wt : Bs w 5 wv C.wait
  gg : Bs w 5 gv C.going
  inK : H kb
  inV : In H wv
  inG : In H gv
  ap : ∀ k, wv.ownBlock = some k → gv.ownBlock ≠ some k
  cur : CurX w H wv gv wk lp C.work
section
variable {w w' : World} {H S : Nat → Prop} {kb wb : Nat} {wv gv wk v bv : Value} {lp : Option Addr} {C : Cps} {W : Wps}
theorem WkX.kept (h : WkX w H wb lp v bv W) (hk : Kept S w w') (hS : ∀ k, H k → ¬ S k) : WkX w' H wb lp v bv W :=
  ⟨h.blk.kept hk (hS _ h.inW), h.rq.onl hk (Onl.dis hS) (Onl.dis hS), h.bod.kept hk (fun k q => hS k (h.inB k q)), h.inW, h.inB, h.z⟩
theorem CurX.kept {o : Option Wps} (h : CurX w H wv gv wk lp o) (hk : Kept S w w') (hS : ∀ k, H k → ¬ S k) : CurX w' H wv gv wk lp o := by
  cases o with
  | none => exact h
  | some W => obtain ⟨wb, v, bv, e, g1, g2⟩ := h; exact ⟨wb, v, bv, e, g1.kept hk hS, g2⟩
theorem ConX.kept (h : ConX w H kb wv gv wk lp C) (hk : Kept S w w') (hS : ∀ k, H k → ¬ S k) : ConX w' H kb wv gv wk lp C :=
  ⟨h.blk.kept hk (hS _ h.inK), h.wt.kept hk (fun k q => hS k (h.inV k q)), h.gg.kept hk (fun k q => hS k (h.inG k q)), h.inK, h.inV, h.inG, h.ap, h.cur.kept hk hS⟩
theorem ConX.below (h : ConX w H kb wv gv wk lp C) (hk : Below w.heap.size w w') : ConX w' H kb wv gv wk lp C := h.kept (Kept.ofBelow (S := fun _ => False) hk) (fun _ _ h => h)
end
/-- where the lease of the request lies -/
def lpOf (lbs : Nat → Nat) (n : Nat) : Option Wps → Option Addr
  | none => none
  | some W => if W.lsd = true then some ⟨lbs (n - 1), 0, none⟩ else none
/-- a depot and its connection in memory -/
structure MemY (K : List Nat) (w : World) (F G H : Nat → Prop) (db kb m t : Nat) (shv cv lv av : Value) (sh : Nat → Nat) (bvs : Nat → Value) (lbs : Nat → Nat) (nvs : Nat → Value) (wv gv wk : Value) (s : Pst) : Prop where
  dep : DepX w G db kb m t shv cv lv av sh bvs lbs nvs s.D
  con : ConX w H kb wv gv wk (lpOf lbs s.D.n s.C.work) s.C
  gh : ∀ k, G k → ¬ H k
  gf : ∀ k, G k → F k
  hf : ∀ k, H k → F k
  lt : ∀ k, F k → k < w.heap.size
  tb : Tb K w
  nf : ¬ F 0
def MemX (K : List Nat) (w : World) (F : Nat → Prop) (db kb m t : Nat) (s : Pst) : Prop :=
  ∃ G H shv cv lv av sh bvs lbs nvs wv gv wk, MemY K w F G H db kb m t shv cv lv av sh bvs lbs nvs wv gv wk s
section
variable {K : List Nat} {w w' : World} {F G H S : Nat → Prop} {db kb m t : Nat} {shv cv lv av : Value} {sh : Nat → Nat} {bvs : Nat → Value} {lbs : Nat → Nat} {nvs : Nat → Value} {wv gv wk : Value} {s : Pst} {D : Dps}
theorem Tb.lt (h : Tb K w) : 0 < w.heap.size := World.block_lt_of_cell? _ _ (h.2 0 (by omega))
theorem MemY.below (h : MemY K w F G H db kb m t shv cv lv av sh bvs lbs nvs wv gv wk s) (hk : Below w.heap.size w w') : MemY K w' F G H db kb m t shv cv lv av sh bvs lbs nvs wv gv wk s :=
  ⟨h.dep.below hk, h.con.below hk, h.gh, h.gf, h.hf, fun k q => Nat.lt_of_lt_of_le (h.lt k q) hk.size, h.tb.below hk, h.nf⟩
theorem MemY.kept (h : MemY K w F G H db kb m t shv cv lv av sh bvs lbs nvs wv gv wk s) (hk : Kept S w w') (hS : ∀ k, F k → ¬ S k) (hT : ¬ S 0) : MemY K w' F G H db kb m t shv cv lv av sh bvs lbs nvs wv gv wk s :=
  ⟨h.dep.kept hk (fun _ _ => Onl.dis (fun k q => hS k (h.gf k q))), h.con.kept hk (fun k q => hS k (h.hf k q)), h.gh, h.gf, h.hf, fun k q => Nat.lt_of_lt_of_le (h.lt k q) hk.size, h.tb.kept hk hT, h.nf⟩
theorem MemX.below (h : MemX K w F db kb m t s) (hk : Below w.heap.size w w') : MemX K w' F db kb m t s := by
  obtain ⟨G, H, shv, cv, lv, av, sh, bvs, lbs, nvs, wv, gv, wk, h⟩ := h
  exact ⟨G, H, shv, cv, lv, av, sh, bvs, lbs, nvs, wv, gv, wk, h.below hk⟩
theorem MemX.kept (h : MemX K w F db kb m t s) (hk : Kept S w w') (hS : ∀ k, F k → ¬ S k) (hT : ¬ S 0) : MemX K w' F db kb m t s := by
  obtain ⟨G, H, shv, cv, lv, av, sh, bvs, lbs, nvs, wv, gv, wk, h⟩ := h
  exact ⟨G, H, shv, cv, lv, av, sh, bvs, lbs, nvs, wv, gv, wk, h.kept hk hS hT⟩
theorem MemX.wider {F' : Nat → Prop} (h : MemX K w F db kb m t s) (hF : ∀ k, F k → F' k) (hl : ∀ k, F' k → k < w.heap.size) (hn : ¬ F' 0) : MemX K w F' db kb m t s := by
  obtain ⟨G, H, shv, cv, lv, av, sh, bvs, lbs, nvs, wv, gv, wk, h⟩ := h
  exact ⟨G, H, shv, cv, lv, av, sh, bvs, lbs, nvs, wv, gv, wk, h.dep, h.con, h.gh, fun k q => hF k (h.gf k q), fun k q => hF k (h.hf k q), hl, h.tb, hn⟩
theorem MemX.lt (h : MemX K w F db kb m t s) : ∀ k, F k → k < w.heap.size := by
  obtain ⟨G, H, shv, cv, lv, av, sh, bvs, lbs, nvs, wv, gv, wk, h⟩ := h
  exact h.lt
/-- the blocks that a depot wants, and no other -/
theorem DepX.refit (h : DepX w F db kb m t shv cv lv av sh bvs lbs nvs D) : DepX w (DS w F D.n nvs) db kb m t shv cv lv av sh bvs lbs nvs D :=
  ⟨h.blk, h.shr, ⟨h.shf.at_, h.shf.inj, h.shf.dis, fun j hj => h.dsS j hj, fun j hj k hk => h.dsB j hj k hk⟩, h.con, h.ler, ⟨h.lef.at_, h.lef.inj, h.lef.dis, fun i hi => h.dsL i hi, fun i hi k hk => h.dsN i hi k hk⟩, h.act, h.dsD,
    fun k hk => by obtain ⟨cs, hb⟩ := Rw.blk h.shr hk; exact ⟨h.inSh k hk, _, _, hb, by decide, fun e => absurd e (by decide)⟩,
    fun k hk => by obtain ⟨cs, hb⟩ := Rw.blk h.con hk; exact ⟨h.inC k hk, _, _, hb, by decide, fun e => absurd e (by decide)⟩,
    fun k hk => h.dsV k (.inl hk), fun k hk => h.dsV k (.inr hk), h.m0, h.m8⟩
/-- the end of a step -/
theorem MemY.next (h : MemY K w F G H db kb m t shv cv lv av sh bvs lbs nvs wv gv wk s) {H' : Nat → Prop} {shv' cv' lv' av' : Value} {sh' : Nat → Nat} {bvs' : Nat → Value} {lbs' : Nat → Nat} {nvs' : Nat → Value} {wv' gv' wk' : Value} {t' : Nat} {s' : Pst} (hk : Kept F w w')
    (hd : DepX w' (ext G w w') db kb m t' shv' cv' lv' av' sh' bvs' lbs' nvs' s'.D) (hc : ConX w' H' kb wv' gv' wk' (lpOf lbs' s'.D.n s'.C.work) s'.C)
    (hH : ∀ k, H' k → H k ∨ (w.heap.size ≤ k ∧ k < w'.heap.size ∧ ∃ t cs, Blk w' k t cs ∧ (t ∉ dtys ∨ (t = 9 ∧ ∀ i, i < s'.D.n → (nvs' i).ownBlock ≠ some k)))) : MemX K w' (ext F w w') db kb m t' s' := by
  refine ⟨DS w' (ext G w w') s'.D.n nvs', H', shv', cv', lv', av', sh', bvs', lbs', nvs', wv', gv', wk', hd.refit, hc, ?_, ?_, ?_, ?_, h.tb.kept hk h.nf, ?_⟩
  · rintro k ⟨hG, t, cs, hb, ht, hs⟩ hH'
    rcases hH k hH' with q | ⟨l1, l2, t2, cs2, hb2, q⟩
    · rcases hG with hG | hG
      · exact h.gh k hG q
      · have := h.lt k (h.hf k q)
        omega
    · have e := hb.ty hb2
      subst e
      rcases q with q | ⟨q1, q2⟩
      · exact q ht
      · obtain ⟨i, hi, e⟩ := hs q1
        exact q2 i hi e
  · rintro k ⟨hG | hG, _⟩
    · exact .inl (h.gf k hG)
    · exact .inr hG
  · intro k q
    rcases hH k q with q | ⟨l1, l2, _⟩
    · exact .inl (h.hf k q)
    · exact .inr ⟨l1, l2⟩
  · rintro k (q | q)
    · exact Nat.lt_of_lt_of_le (h.lt k q) hk.size
    · exact q.2
  · rintro (q | q)
    · exact h.nf q
    · have := h.tb.lt
      omega
/-- what doing an item comes to -/
def ItemP (w : World) (G : Nat → Prop) (db kb m t : Nat) (shv cv : Value) (sh lbs : Nat → Nat) (n : Nat) (wb : Nat) (v : Value) (lp : Option Addr) (bv : Value) (d : Nat) (body : ByteArray) (X : Dps × ByteArray) (w' : World) : Prop :=
  ∃ bv' lv' av' bvs' lbs' nvs', Wl w' wb v lp ((d : Int) + 1) bv' ∧ Bs w' 5 bv' (body ++ X.2) ∧ DepX w' (ext G w w') db kb m t shv cv lv' av' sh bvs' lbs' nvs' X.1 ∧ Kept (fun k => (k = wb ∨ bv.ownBlock = some k) ∨ G k) w w' ∧ Home w bv bv' ∧ (X.1.n = n → lbs' = lbs)
theorem MemY.item (h : MemY K w F G H db kb m t shv cv lv av sh bvs lbs nvs wv gv wk s) {W : Wps} (_hw : s.C.work = some W) {wb : Nat} {v bv : Value} (hwk : wk = .pointer (some ⟨wb, 0, none⟩)) (hW : WkX w H wb (lpOf lbs s.D.n (some W)) v bv W) (hap : ∀ k, bv.ownBlock = some k → wv.ownBlock ≠ some k ∧ gv.ownBlock ≠ some k)
    {X : Dps × ByteArray} (hn : W.lsd = true → X.1.n = s.D.n) (hI : ItemP w G db kb m t shv cv sh lbs s.D.n wb v (lpOf lbs s.D.n (some W)) bv W.done W.body X w') :
    MemX K w' (ext F w w') db kb m t ⟨X.1, { s.C with work := some { W with done := W.done + 1, body := W.body ++ X.2 } }⟩ ∧ Kept F w w' := by
  obtain ⟨bv', lv', av', bvs', lbs', nvs', i1, i2, i3, i4, i5, i6⟩ := hI
  have hkF : Kept F w w' := i4.mono (fun k _ q => by
    rcases q with (rfl | q) | q
    · exact h.hf _ hW.inW
    · exact h.hf _ (hW.inB k q)
    · exact h.gf k q)
  have hc := h.con
  have hold : ∀ k, wv.ownBlock = some k ∨ gv.ownBlock = some k → ¬ ((k = wb ∨ bv.ownBlock = some k) ∨ G k) := by
    rintro k hk ((rfl | q) | q)
    · rcases hk with hk | hk
      · exact bs_ne_cn hc.wt hW.blk (by decide) hk
      · exact bs_ne_cn hc.gg hW.blk (by decide) hk
    · rcases hk with hk | hk
      · exact (hap k q).1 hk
      · exact (hap k q).2 hk
    · rcases hk with hk | hk
      · exact h.gh k q (hc.inV k hk)
      · exact h.gh k q (hc.inG k hk)
  have hlp : lpOf lbs' X.1.n (some { W with done := W.done + 1, body := W.body ++ X.2 }) = lpOf lbs s.D.n (some W) := by
    unfold lpOf
    by_cases hl : W.lsd = true
    · simp only [hl, if_true]; rw [i6 (hn hl), hn hl]
    · simp only [hl, if_false, Bool.false_eq_true]
  have hon : ∀ t, t ≠ 175 → t ≠ 5 → Onl w H (fun k => (k = wb ∨ bv.ownBlock = some k) ∨ G k) t (fun _ => False) := fun t n1 n2 => ((Onl.blk hW.blk (Ne.symm n1)).or (Onl.own hW.bod (Ne.symm n2))).or (Onl.dis (fun k hk hG => h.gh k hG hk))
  refine ⟨h.next (H' := fun k => H k ∨ bv'.ownBlock = some k) (wv' := wv) (gv' := gv) (wk' := wk) hkF i3 ⟨?_, ?_, ?_, .inl hc.inK, fun k q => .inl (hc.inV k q), fun k q => .inl (hc.inG k q), hc.ap, ?_⟩ ?_, hkF⟩
  · refine hc.blk.kept i4 ?_
    rintro ((q | q) | q)
    · exact hc.blk.ne hW.blk (by decide) q
    · exact bs_ne_cn hW.bod hc.blk (by decide) q
    · exact h.gh _ q hc.inK
  · exact hc.wt.kept i4 (fun k q => hold k (.inl q))
  · exact hc.gg.kept i4 (fun k q => hold k (.inr q))
  · show CurX w' _ wv gv wk (lpOf lbs' X.1.n (some { W with done := W.done + 1, body := W.body ++ X.2 })) (some { W with done := W.done + 1, body := W.body ++ X.2 })
    rw [hlp]
    refine ⟨wb, v, bv', hwk, ⟨by exact_mod_cast i1, (hW.rq.onl i4 (hon _ (by decide) (by decide)) (hon _ (by decide) (by decide))).wider (fun k q => .inl q), i2, .inl hW.inW, fun k q => .inr q, fun _ q => absurd q (by simp)⟩, fun k q => ?_⟩
    rcases i5 with e | ⟨k2, l2, e⟩
    · rw [e] at q; exact hap k q
    · rw [e] at q; injection q with q; subst q
      refine ⟨fun q => ?_, fun q => ?_⟩
      · have := Rw.lt hc.wt q; omega
      · have := Rw.lt hc.gg q; omega
  · rintro k (q | q)
    · exact .inl q
    · rcases i5 with e | ⟨k2, l2, e⟩
      · rw [e] at q; exact .inl (hW.inB k q)
      · have hk2 := q
        rw [e] at q; injection q with q; subst q
        obtain ⟨cs, hb⟩ := Rw.blk i2 hk2
        exact .inr ⟨l2, hb.lt, _, _, hb, .inl (by decide)⟩
end
end Go.Proofs.YthpmcilljbmoiaaGreatDoor
