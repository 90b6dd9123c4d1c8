import Derived.Test.YthpmcilljbmoiaaGreatDoorSend
import Derived.Test.YthpmcilljbmoiaaGreatDoorSteps
import Derived.Test.YthpmcilljbmoiaaGreatDoorHeard
namespace Go.Proofs.YthpmcilljbmoiaaGreatDoor
open Go.RowKit

variable {base : Nat} {w w' : World} {cb db kb sb : Nat} {shv cvv av wv gv wk : Value} {id : Int} {acts : List (ByteArray × ByteArray)} {s going : ByteArray}

set_option maxRecDepth 100000 in
set_option maxHeartbeats 1000000 in
theorem ask_any (n kind : Nat) (body reply : ByteArray) (acts' : List (ByteArray × ByteArray)) (h : Sta base w cb db kb sb shv cvv av wv gv (.pointer none) (n : Int) acts ⟨#[]⟩ ⟨#[]⟩) (hn : n < 190) (hk : kind < 100) (hb : body.size ≤ 1000) (hr : reply.size ≤ 1000) (S1 S2 : World → Prop)
    (C1 : ∀ w, S1 w → Cl w cb db ((n : Int) + 1)) (C2 : ∀ w, S2 w → Cl w cb db ((n : Int) + 1))
    (P1 : ∀ w1 wv1, Below base w w1 → Sta base w1 cb db kb sb shv cvv av wv1 gv (.pointer none) ((n : Int) + 1) acts (frm kind (n + 1) body) ⟨#[]⟩ → Picks db w1 1 S1)
    (P2 : ∀ w1, S1 w1 → Picks db (World.drew w1) 2 S2)
    (P3 : ∀ w1, S2 w1 → Picks db (World.drew w1) 3 (fun w' => Below base w w' ∧ ∃ av' wv' gv', Sta base w' cb db kb sb shv cvv av' wv' gv' (.pointer none) ((n : Int) + 1) acts' ⟨#[]⟩ (frm (kind + 128) (n + 1) reply))) :
    Calls Tryz.prog 29 #[.pointer (some ⟨cb, 0, none⟩), .int .i64 kind, .string body, .int .i64 1] w
      fun r w' => r = .returned (.tuple #[.string reply, .bool true]) ∧ Below base w w' ∧ ∃ av' wv' gv', Sta base w' cb db kb sb shv cvv av' wv' gv' (.pointer none) ((n : Int) + 1) acts' ⟨#[]⟩ ⟨#[]⟩ := by
  have H1 := hide (send_sta n kind body h (by omega) (by omega) hb)
  have H2 : Hid (∀ w1 wv1, Below base w w1 → Sta base w1 cb db kb sb shv cvv av wv1 gv (.pointer none) ((n : Int) + 1) acts (frm kind (n + 1) body) ⟨#[]⟩ → Calls Tryz.prog 60 #[.pointer (some ⟨cb, 0, none⟩), .int .i64 1] w1 fun r w' => r = .returned (.bool true) ∧ Below base w w' ∧ ∃ av' wv' gv', Sta base w' cb db kb sb shv cvv av' wv' gv' (.pointer none) ((n : Int) + 1) acts' ⟨#[]⟩ (frm (kind + 128) (n + 1) reply)) :=
    fun w1 wv1 b1 h1 => steps_one cb db ((n : Int) + 1) w1 S1 S2 _ h1.cl C1 C2 (P1 (World.drew w1) wv1 b1.drew h1.drew) P2 P3
  have H3 : Hid (∀ w1 av' wv' gv', Sta base w1 cb db kb sb shv cvv av' wv' gv' (.pointer none) ((n : Int) + 1) acts' ⟨#[]⟩ (frm (kind + 128) (n + 1) reply) → Calls Tryz.prog 61 #[.pointer (some ⟨cb, 0, none⟩), .int .i64 kind] w1
      fun r w' => r = .returned (.tuple #[.string reply, .bool true]) ∧ Below base w1 w' ∧ ∃ gv'', Sta base w' cb db kb sb shv cvv av' wv' gv'' (.pointer none) ((n : Int) + 1) acts' ⟨#[]⟩ ⟨#[]⟩) := fun w1 av' wv' gv' h1 => by
    have e : ((n + 1 : Nat) : Int) = (n : Int) + 1 := by omega
    rw [← e] at h1 ⊢
    exact heard_sta (n + 1) kind reply h1 (by omega) hk hr
  clear P1 P2 P3 C1 C2 h hb hr hk
  go_enter Tryz.func29, Tryz.ntmps29
  go_wp2_with (first | (go_at_call 15; refine H1.out.mono ?_; rintro e w1 ⟨rfl, b1, wv1, h1⟩) | (go_at_call 60; refine (H2.out w1 wv1 b1 h1).mono ?_; rintro e w2 ⟨rfl, b2, av2, wv2, gv2, h2⟩) | (go_at_call 61; refine (H3.out w2 av2 wv2 gv2 h2).mono ?_; rintro e w3 ⟨rfl, b3, gv3, h3⟩))
  go_ret2
  exact ⟨rfl, b2.trans b3, av2, wv2, gv3, h3⟩

/-- a Get -/
theorem ask_get (n : Nat) (key told : ByteArray) (h : Sta base w cb db kb sb shv cvv av wv gv (.pointer none) (n : Int) acts ⟨#[]⟩ ⟨#[]⟩) (hn : n < 190) (hkey : key.size = 4) (ht : told.size ≤ 1000)
    (HG : ∀ w1, Blk w1 db 114 (dep shv cvv av) → Ac w1 av acts → Calls Tryz.prog 136 #[.pointer (some ⟨db, 0, none⟩), .string key] w1
      fun r w' => ∃ v, r = .returned v ∧ Bs w' 5 v told ∧ Below w1.heap.size w1 w' ∧ Fresh w1.heap.size v) :
    Calls Tryz.prog 29 #[.pointer (some ⟨cb, 0, none⟩), .int .i64 4, .string key, .int .i64 1] w
      fun r w' => r = .returned (.tuple #[.string told, .bool true]) ∧ Below base w w' ∧ ∃ av' wv' gv', Sta base w' cb db kb sb shv cvv av' wv' gv' (.pointer none) ((n : Int) + 1) acts ⟨#[]⟩ ⟨#[]⟩ := by
  have hid : n + 1 < 65536 := by omega
  have hnum : num (b8 ((n + 1) / 256) ++ b8 ((n + 1) % 256)) = n + 1 := by rw [num_b8s _ _ (by omega) (by omega)]; omega
  refine ask_any n 4 key told acts h hn (by decide) (by omega) ht
    (fun w1 => Below base w w1 ∧ ∃ wv1 wb, Sta base w1 cb db kb sb shv cvv av wv1 gv (.pointer (some ⟨wb, 0, none⟩)) ((n : Int) + 1) acts ⟨#[]⟩ ⟨#[]⟩ ∧ Wk w1 wb (getRq (n + 1) key) 0 (.slice none 0 0) ∧ base ≤ wb)
    (fun w1 => Below base w w1 ∧ ∃ wv1 wb, Sta base w1 cb db kb sb shv cvv av wv1 gv (.pointer (some ⟨wb, 0, none⟩)) ((n : Int) + 1) acts ⟨#[]⟩ ⟨#[]⟩ ∧ ∃ bv, Wk w1 wb (getRq (n + 1) key) 1 bv ∧ Bs w1 5 bv told)
    (fun w1 ⟨_, _, _, q, _⟩ => q.cl) (fun w1 ⟨_, _, _, q, _⟩ => q.cl) ?_ ?_ ?_
  · intro w1 wv1 b1 h1
    refine (pick_begin 4 (n + 1) key _ _ h1 (by omega) (fun iv w2 hi => ?_) (fun w2 => work_plain db _ _ _ rfl w2 (ta_get_Find (n + 1) key) (ta_get_Read (n + 1) key) (ta_get_Update (n + 1) key))).mono ?_
    · refine parse_of iv (ins 4 (n + 1) key) ⟨#[]⟩ _ _ w2 hi rfl (fun w3 rb hr => ?_)
      have hr' : Rd w3 rb (b8 4 ++ ((b8 ((n + 1) / 256) ++ b8 ((n + 1) % 256)) ++ (key ++ ⟨#[]⟩))) := by
        have : key ++ (⟨#[]⟩ : ByteArray) = key := ByteArray.append_empty
        rw [this]
        exact hr
      have := request_get rb (b8 4) (b8 ((n + 1) / 256) ++ b8 ((n + 1) % 256)) key ⟨#[]⟩ w3 hr' rfl (two_size _ _) hkey rfl (num_b8 4 (by decide))
      rw [hnum] at this
      exact this
    · rintro e w2 ⟨q1, q2, q3⟩
      exact ⟨q1, b1.trans q2, q3⟩
  · rintro w1 ⟨b1, wv1, wb, h1, hW, hbw⟩
    refine (pick_get (n + 1) wb key told h1.drew hW hbw ht (fun w2 h2 => HG w2 h2.de h2.ac)).mono ?_
    rintro e w2 ⟨q1, q2, q3, q4⟩
    exact ⟨q1, b1.drew.trans q2, wv1, wb, q3, q4⟩
  · rintro w1 ⟨b1, wv1, wb, h1, bv, hW, hb⟩
    refine (pick_reply 4 (n + 1) wb told _ _ bv h1.drew hW hb ht (by decide) (by decide) hid (method_get_items (n + 1) key) (method_get_reply (n + 1) key)).mono ?_
    rintro e w2 ⟨q1, q2, gv', q3⟩
    rw [empty_app] at q3
    exact ⟨q1, b1.drew.trans q2, av, wv1, gv', q3⟩

/-- a Put -/
theorem ask_put (n : Nat) (key val : ByteArray) (acts' : List (ByteArray × ByteArray)) (h : Sta base w cb db kb sb shv cvv av wv gv (.pointer none) (n : Int) acts ⟨#[]⟩ ⟨#[]⟩) (hn : n < 190) (hkey : key.size = 4) (hv : val.size ≤ 50)
    (HG : ∀ w1, Blk w1 db 114 (dep shv cvv av) → Ac w1 av acts → Calls Tryz.prog 137 #[.pointer (some ⟨db, 4, none⟩), .string key, .string val] w1
      fun r w' => r = .returned (.tuple #[]) ∧ Booked w1 db 4 114 (dep shv cvv av) av acts' w') :
    Calls Tryz.prog 29 #[.pointer (some ⟨cb, 0, none⟩), .int .i64 5, .string (key ++ b8 val.size ++ val), .int .i64 1] w
      fun r w' => r = .returned (.tuple #[.string ⟨#[]⟩, .bool true]) ∧ Below base w w' ∧ ∃ av' wv' gv', Sta base w' cb db kb sb shv cvv av' wv' gv' (.pointer none) ((n : Int) + 1) acts' ⟨#[]⟩ ⟨#[]⟩ := by
  have hid : n + 1 < 65536 := by omega
  have hnum : num (b8 ((n + 1) / 256) ++ b8 ((n + 1) % 256)) = n + 1 := by rw [num_b8s _ _ (by omega) (by omega)]; omega
  have hsz : (key ++ b8 val.size ++ val).size ≤ 1000 := by simp only [ByteArray.size_append, b8_size]; omega
  refine ask_any n 5 (key ++ b8 val.size ++ val) ⟨#[]⟩ acts' h hn (by decide) hsz (by decide)
    (fun w1 => Below base w w1 ∧ ∃ wv1 wb, Sta base w1 cb db kb sb shv cvv av wv1 gv (.pointer (some ⟨wb, 0, none⟩)) ((n : Int) + 1) acts ⟨#[]⟩ ⟨#[]⟩ ∧ Wk w1 wb (putRq (n + 1) key val) 0 (.slice none 0 0) ∧ base ≤ wb)
    (fun w1 => Below base w w1 ∧ ∃ av1 wv1 wb, Sta base w1 cb db kb sb shv cvv av1 wv1 gv (.pointer (some ⟨wb, 0, none⟩)) ((n : Int) + 1) acts' ⟨#[]⟩ ⟨#[]⟩ ∧ ∃ bv, Wk w1 wb (putRq (n + 1) key val) 1 bv ∧ Bs w1 5 bv ⟨#[]⟩)
    (fun w1 ⟨_, _, _, q, _⟩ => q.cl) (fun w1 ⟨_, _, _, _, q, _⟩ => q.cl) ?_ ?_ ?_
  · intro w1 wv1 b1 h1
    refine (pick_begin 5 (n + 1) (key ++ b8 val.size ++ val) _ _ h1 hsz (fun iv w2 hi => ?_) (fun w2 => work_plain db _ _ _ rfl w2 (ta_put_Find (n + 1) key val) (ta_put_Read (n + 1) key val) (ta_put_Update (n + 1) key val))).mono ?_
    · refine parse_of iv (ins 5 (n + 1) (key ++ b8 val.size ++ val)) ⟨#[]⟩ _ _ w2 hi rfl (fun w3 rb hr => ?_)
      have hr' : Rd w3 rb (b8 5 ++ ((b8 ((n + 1) / 256) ++ b8 ((n + 1) % 256)) ++ (key ++ (b8 val.size ++ (val ++ ⟨#[]⟩))))) := by
        have : val ++ (⟨#[]⟩ : ByteArray) = val := ByteArray.append_empty
        rw [this]
        have e : ins 5 (n + 1) (key ++ b8 val.size ++ val) = b8 5 ++ ((b8 ((n + 1) / 256) ++ b8 ((n + 1) % 256)) ++ (key ++ (b8 val.size ++ val))) := by
          simp only [ins, ByteArray.append_assoc]
        rw [← e]
        exact hr
      have hv8 : num (b8 val.size) = val.size := num_b8 _ (by omega)
      have := request_put rb (b8 5) (b8 ((n + 1) / 256) ++ b8 ((n + 1) % 256)) key (b8 val.size) val ⟨#[]⟩ w3 hr' rfl (two_size _ _) hkey rfl hv8.symm (by rw [hv8]; exact hv) rfl (num_b8 5 (by decide))
      rw [hnum] at this
      exact this
    · rintro e w2 ⟨q1, q2, q3⟩
      exact ⟨q1, b1.trans q2, q3⟩
  · rintro w1 ⟨b1, wv1, wb, h1, hW, hbw⟩
    refine (pick_put (n + 1) wb key val acts' h1.drew hW hbw (fun w2 h2 => HG w2 h2.de h2.ac)).mono ?_
    rintro e w2 ⟨q1, q2, av2, q3, q4⟩
    exact ⟨q1, b1.drew.trans q2, av2, wv1, wb, q3, q4⟩
  · rintro w1 ⟨b1, av1, wv1, wb, h1, bv, hW, hb⟩
    refine (pick_reply 5 (n + 1) wb ⟨#[]⟩ _ _ bv h1.drew hW hb (by decide) (by decide) (by decide) hid (method_put_items (n + 1) key val) (method_put_reply (n + 1) key val)).mono ?_
    rintro e w2 ⟨q1, q2, gv', q3⟩
    rw [empty_app] at q3
    exact ⟨q1, b1.drew.trans q2, av1, wv1, gv', q3⟩
end Go.Proofs.YthpmcilljbmoiaaGreatDoor
