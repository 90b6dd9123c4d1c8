import Derived.Test.YthpmcilljbmoiaaGreatDoorAsk
namespace Go.Proofs.YthpmcilljbmoiaaGreatDoor
open Go.RowKit

variable {base : Nat} {w w' : World} {cb db kb sb : Nat} {shv cvv av wv gv wk : Value} {id : Int} {acts : List (ByteArray × ByteArray)} {s going : ByteArray}

/-- the client's number has turned -/
theorem Sta.setId (n : Int) (h : Sta base w cb db kb sb shv cvv av wv gv wk id acts s going) : Sta base (w.setCell ⟨cb, 2, none⟩ (.int .i64 n)) cb db kb sb shv cvv av wv gv wk n acts s going := by
  have hk : Kept (fun k => k = cb) w (w.setCell ⟨cb, 2, none⟩ (.int .i64 n)) := (Kept.refl (fun k => k = cb) w).set _ _ (fun _ => rfl)
  have n1 : ∀ {b t cs}, Blk w b t cs → 35 ≠ t → ¬ b = cb := fun hb h1 e => by
    subst e
    exact h.cl.ne hb h1 rfl
  have n2 : ∀ {e sz v n xs}, Rw w e sz v n xs → 35 ≠ e → ∀ k, v.ownBlock = some k → ¬ k = cb := fun hr h1 k hkk e => by
    subst e
    exact Rw.ne hr h.cl (Ne.symm h1) hkk
  exact ⟨h.bc, h.bd, h.bk, by simpa using h.cl.set 2 (.int .i64 n), h.de.kept hk (n1 h.de (by decide)), h.sh.kept hk (n2 h.sh (by decide)), h.sd.kept hk (n1 h.sd (by decide)), h.cv.kept hk (n2 h.cv (by decide)), h.cn.kept hk (n1 h.cn (by decide)), h.ac.kept hk (n2 h.ac (by decide)), Rw.kept h.wa hk (n2 h.wa (by decide)), Rw.kept h.go hk (n2 h.go (by decide)), h.fa, h.fw, h.fg, h.ap⟩

set_option maxRecDepth 100000 in
set_option maxHeartbeats 2000000 in
theorem send_sta (n kind : Nat) (body : ByteArray) (h : Sta base w cb db kb sb shv cvv av wv gv wk (n : Int) acts ⟨#[]⟩ going) (hn : n < 200) (hk : kind < 256) (hs : body.size ≤ 1000) :
    Calls Tryz.prog 15 #[.pointer (some ⟨cb, 0, none⟩), .int .i64 kind, .string body] w
      fun r w' => r = .returned (.bool true) ∧ Below base w w' ∧ ∃ wv', Sta base w' cb db kb sb shv cvv av wv' gv wk ((n : Int) + 1) acts (frm kind (n + 1) body) going := by
  have c2 : w.cell? ⟨cb, 2, none⟩ = some (.int .i64 (n : Int)) := h.cl.cell 2
  have f2 := h.cl.frozen 2
  have h1 := h.setId ((n : Int) + 1)
  have hB1 : Below base w (w.setCell ⟨cb, 2, none⟩ (.int .i64 ((n : Int) + 1))) := (Below.refl _ _).setCell h.bc _
  clear h
  generalize hw1 : w.setCell ⟨cb, 2, none⟩ (.int .i64 ((n : Int) + 1)) = w1 at *
  have d0 : w1.cell? ⟨cb, 0, none⟩ = some (.pointer (some ⟨db, 0, none⟩)) := h1.cl.cell 0
  have d1 : w1.cell? ⟨cb, 1, none⟩ = some (.int .i64 0) := h1.cl.cell 1
  have d2 : w1.cell? ⟨cb, 2, none⟩ = some (.int .i64 ((n : Int) + 1)) := h1.cl.cell 2
  have HF : Hid (Calls Tryz.prog 26 #[.int .i64 kind, .int .i64 ((n : Int) + 1), .string body] (World.drew w1)
      fun r w' => r = .returned (.string (frm kind (n + 1) body)) ∧ Sta base w' cb db kb sb shv cvv av wv gv wk ((n : Int) + 1) acts ⟨#[]⟩ going ∧ Below base w w' ∧ w'.cell? ⟨cb, 0, none⟩ = some (.pointer (some ⟨db, 0, none⟩)) ∧ w'.cell? ⟨cb, 1, none⟩ = some (.int .i64 0)) := by
    have := kframe_any kind (n + 1) body (World.drew w1) hk (by omega) hs
    rw [show ((n + 1 : Nat) : Int) = (n : Int) + 1 by omega] at this
    refine this.mono ?_
    rintro e w' ⟨q1, q2⟩
    have hS := h1.drew.below q2
    exact ⟨q1, hS, hB1.drew.trans (q2.mono h1.lives), hS.cl.cell 0, hS.cl.cell 1⟩
  have HE : Hid (∀ w2, Sta base w2 cb db kb sb shv cvv av wv gv wk ((n : Int) + 1) acts ⟨#[]⟩ going → Calls Tryz.prog 23 #[.pointer (some ⟨db, 0, none⟩), .int .i64 0, .string (frm kind (n + 1) body)] w2
      fun r w' => r = .returned (.int .i64 0) ∧ Below base w2 w' ∧ ∃ wv', Sta base w' cb db kb sb shv cvv av wv' gv wk ((n : Int) + 1) acts (frm kind (n + 1) body) going) := fun w2 h2 => by
    have := feed_sta (frm kind (n + 1) body) h2 (by rw [frm_size]; have : (⟨#[]⟩ : ByteArray).size = 0 := rfl; omega)
    rw [empty_app] at this
    exact this
  generalize frm kind (n + 1) body = FR at *
  have hmod : ((n : Int) + 1) % 65536 = (n : Int) + 1 := by omega
  clear hk hs
  go_enter Tryz.func15, Tryz.ntmps15
  go_wp2
  go_region_with (first | (go_at_call 23; refine (HE.out w2 h2).mono ?_; rintro e w3 ⟨rfl, b3, wv3, h3⟩) | (go_at_call 26; refine HF.out.mono ?_; rintro e w2 ⟨rfl, h2, b2, g0, g1⟩))
  all_goals
    go_wp2
    go_ret
    exact ⟨rfl, b2.trans b3, wv3, h3⟩
end Go.Proofs.YthpmcilljbmoiaaGreatDoor
