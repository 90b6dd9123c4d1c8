import Derived.Test.YthpmcilljbmoiaaGreatDoorAsk
import Derived.Deep.QuietTactic
import Derived.BigQuiet
namespace Go.Proofs.YthpmcilljbmoiaaGreatDoor
open Go.RowKit

variable {base : Nat} {w w' : World} {cb db kb sb : Nat} {shv cvv av wv gv wk : Value} {id : Int} {acts : List (ByteArray × ByteArray)} {s going : ByteArray}

theorem knum_two (s : ByteArray) (hs : s.size = 2) : (num s : Int) = 256 * (s[0].toNat : Int) + (s[1].toNat : Int) := by
  have := num2 s hs
  omega
set_option maxRecDepth 100000 in
set_option maxHeartbeats 400000 in
theorem knum2 (s : ByteArray) (w : World) (hs : s.size = 2) :
    Calls Tryz.prog 50 #[.string s] w fun r w' => r = .returned (.int .i64 (num s)) ∧ w = w' := by
  have b0 := (s[0]).toNat_lt
  have b1 := (s[1]).toNat_lt
  have h2 := hide (knum_two s hs)
  go_enter Tryz.func50, Tryz.ntmps50
  go_wp2
  refine wp_loop_rounds 3 ?_
  rw [rounds_succ]
  go_wp2
  rw [rounds_succ]
  go_wp2
  rw [rounds_succ]
  go_wp2
  go_ret
  refine ⟨?_, rfl⟩
  rw [h2.out]
  rfl

/-- the pieces of a frame -/
theorem frm_first (kind n : Nat) (body : ByteArray) (hb : body.size ≤ 1000) : num ((frm kind n body).extract 0 2) = 3 + body.size := by
  rw [frm_split, extract_left _ _ 2 (two_size _ _).symm, num_b8s _ _ (by omega) (by omega)]
  omega
theorem frm_id (kind n : Nat) (body : ByteArray) (hn : n < 65536) : num ((frm kind n body).extract 3 5) = n := by
  have : (frm kind n body).extract 3 5 = b8 (n / 256) ++ b8 (n % 256) := by
    apply ByteArray.ext
    apply Array.ext'
    rw [extract_list]
    simp [frm, b8]
  rw [this, num_b8s _ _ (by omega) (by omega)]
  omega
theorem frm_body (kind n : Nat) (body : ByteArray) : (frm kind n body).extract 5 (frm kind n body).size = body := by
  rw [show frm kind n body = (b8 ((3 + body.size) / 256) ++ b8 ((3 + body.size) % 256) ++ b8 kind ++ b8 (n / 256) ++ b8 (n % 256)) ++ body from rfl]
  exact extract_right _ _ _ _ (by simp only [ByteArray.size_append, b8_size]) (by rw [ByteArray.size_append])
theorem frm_kind (kind n : Nat) (body : ByteArray) (hk : kind < 256) (h : 2 < (frm kind n body).size) : ((frm kind n body)[2].toNat : Int) = (kind : Int) := by
  have : (frm kind n body)[2] = UInt8.ofNat kind := by
    show (frm kind n body).data[2] = _
    simp [frm, b8]
  rw [this, UInt8.toNat_ofNat_of_lt' hk]

set_option maxRecDepth 100000 in
set_option maxHeartbeats 4000000 in
theorem heard_sta (n kind : Nat) (body : ByteArray) (h : Sta base w cb db kb sb shv cvv av wv gv wk (n : Int) acts s (frm (kind + 128) n body)) (hn : n < 200) (hk : kind < 100) (hs : body.size ≤ 1000) :
    Calls Tryz.prog 61 #[.pointer (some ⟨cb, 0, none⟩), .int .i64 kind] w
      fun r w' => r = .returned (.tuple #[.string body, .bool true]) ∧ Below base w w' ∧ ∃ gv', Sta base w' cb db kb sb shv cvv av wv gv' wk (n : Int) acts s ⟨#[]⟩ := by
  have d0 : w.cell? ⟨cb, 0, none⟩ = some (.pointer (some ⟨db, 0, none⟩)) := h.cl.cell 0
  have d1 : w.cell? ⟨cb, 1, none⟩ = some (.int .i64 0) := h.cl.cell 1
  have HT : Hid (Calls Tryz.prog 22 #[.pointer (some ⟨db, 0, none⟩), .int .i64 0, .int .i64 1099511627776] (World.drew w)
      fun r w' => r = .returned (.tuple #[.string (frm (kind + 128) n body), .int .i64 0]) ∧ Below base w w' ∧ (∃ gv', Sta base w' cb db kb sb shv cvv av wv gv' wk (n : Int) acts s ⟨#[]⟩) ∧ w'.cell? ⟨cb, 2, none⟩ = some (.int .i64 (n : Int))) := by
    have := take_sta 1099511627776 h.drew (by rw [frm_size]; omega) (by rw [frm_size]; omega) (by decide)
    refine this.mono ?_
    rintro e w' ⟨q1, q2, gv', q3⟩
    exact ⟨q1, (Below.refl _ _).drew.trans q2, ⟨gv', q3⟩, q3.cl.cell 2⟩
  have hsz := frm_size (kind + 128) n body
  have H1 := hide (frm_first (kind + 128) n body hs)
  have H2 := hide (frm_id (kind + 128) n body (by omega))
  have H3 := hide (frm_body (kind + 128) n body)
  have H4 := hide (fun h => frm_kind (kind + 128) n body (by omega) h)
  have HN : Hid (∀ x w, x.size = 2 → Calls Tryz.prog 50 #[.string x] w fun r w' => r = .returned (.int .i64 (num x)) ∧ w = w') := fun x w hx => knum2 x w hx
  clear h
  generalize frm (kind + 128) n body = F at *
  go_enter Tryz.func61, Tryz.ntmps61
  go_wp2
  go_region_with (go_at_call 22; refine HT.out.mono ?_; rintro e w1 ⟨rfl, b1, s1, g2⟩)
  all_goals
    go_wp2
    have h5 : 2 < F.size := by omega
    have e1 : (num (F.extract 0 2) : Int) = 3 + (body.size : Int) := by rw [H1.out]; omega
    have e2 : (num (F.extract 3 5) : Int) = (n : Int) := by rw [H2.out]
    have e3 : (F[2].toNat : Int) = (kind : Int) + 128 := by rw [H4.out h5]; omega
    have h6 : ¬ ((F.size : Int) < 5) := by omega
    have h7 : IntKind.i64.wrap ((F.size : Int) - 2) = 3 + (body.size : Int) := by rw [IntKind.wrap_i64]; omega
    have h8 : IntKind.i64.wrap ((kind : Int) + 128) = (kind : Int) + 128 := by rw [IntKind.wrap_i64]; omega
    have h9 : (2 : Int) ≤ (F.size : Int) := by omega
    have h10 : (5 : Int) ≤ (F.size : Int) := by omega
    have h11 : (2 : Int) < (F.size : Int) := by omega
    have hw8 : IntKind.i64.wrap (F[2].toNat : Int) = (kind : Int) + 128 := by rw [e3, h8]
    have HZ := hide hsz
    clear hsz
    go_quiet (first | (go_at_call 50; exact Calls.quiet_of_same ((HN.out _ _ (by rw [ByteArray.size_extract]; have := HZ.out; omega)).mono (fun _ _ h => ⟨h.1, h.2.symm⟩))))
    go_wp2
    go_ret2
    obtain ⟨gv', q3⟩ := s1
    refine ⟨?_, ⟨b1.os, b1.tape, b1.output, b1.size, b1.block⟩, gv', ⟨q3.bc, q3.bd, q3.bk, q3.cl, q3.de, q3.sh, q3.sd, q3.cv, q3.cn, q3.ac, q3.wa, q3.go, q3.fa, q3.fw, q3.fg, q3.ap⟩⟩
    exact congrArg (fun x => Ending.returned (Value.tuple #[.string x, .bool true])) H3.out
end Go.Proofs.YthpmcilljbmoiaaGreatDoor
