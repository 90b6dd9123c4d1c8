import Derived.Test.YthpmcilljbmoiaaGreatDoorState
namespace Go.Proofs.YthpmcilljbmoiaaGreatDoor
open Go.RowKit

/-- what stands inside a frame -/
def ins (kind id : Nat) (body : ByteArray) : ByteArray := b8 kind ++ ((b8 (id / 256) ++ b8 (id % 256)) ++ body)
theorem frm_split (kind id : Nat) (body : ByteArray) : frm kind id body = (b8 ((3 + body.size) / 256) ++ b8 ((3 + body.size) % 256)) ++ ins kind id body := by
  simp only [frm, ins, ByteArray.append_assoc]
theorem ins_size (kind id : Nat) (body : ByteArray) : (ins kind id body).size = 3 + body.size := by
  simp only [ins, ByteArray.size_append, b8_size]; omega
theorem num_b8 (k : Nat) (h : k < 256) : num (b8 k) = k := by
  simp [num, b8, UInt8.toNat_ofNat_of_lt' h]
theorem num_b8s (a b : Nat) (ha : a < 256) (hb : b < 256) : num (b8 a ++ b8 b) = a * 256 + b := by
  simp [num, b8, UInt8.toNat_ofNat_of_lt' ha, UInt8.toNat_ofNat_of_lt' hb]
theorem two_size (a b : Nat) : (b8 a ++ b8 b).size = 2 := by rw [ByteArray.size_append]; rfl

variable {base : Nat} {w w' : World} {cb db kb sb : Nat} {shv cvv av wv gv wk : Value} {id : Int} {acts : List (ByteArray × ByteArray)} {s going : ByteArray}

/-- a block of another type has turned -/
theorem Sta.other {S : Nat → Prop} {wb : Nat} {cs : Array Value} (h : Sta base w cb db kb sb shv cvv av wv gv wk id acts s going) (hk : Kept S w w') (hS : ∀ k, S k → k = wb) (hW : Blk w wb 175 cs) : Sta base w' cb db kb sb shv cvv av wv gv wk id acts s going := by
  have n1 : ∀ {b t cs}, Blk w b t cs → 175 ≠ t → ¬ S b := fun hb h1 e => by
    have := hS _ e
    subst this
    exact hW.ne hb h1 rfl
  have n2 : ∀ {e sz v n xs}, Rw w e sz v n xs → 175 ≠ e → ∀ k, v.ownBlock = some k → ¬ S k := fun hr h1 k hk e => by
    have := hS _ e
    subst this
    exact Rw.ne hr hW (Ne.symm h1) hk
  exact ⟨h.bc, h.bd, h.bk, h.cl.kept hk (n1 h.cl (by decide)), h.de.kept hk (n1 h.de (by decide)), h.sh.kept hk (n2 h.sh (by decide)), h.sd.kept hk (n1 h.sd (by decide)), h.cv.kept hk (n2 h.cv (by decide)), h.cn.kept hk (n1 h.cn (by decide)), h.ac.kept hk (n2 h.ac (by decide)), Rw.kept h.wa hk (n2 h.wa (by decide)), Rw.kept h.go hk (n2 h.go (by decide)), h.fa, h.fw, h.fg, h.ap⟩
/-- the actions have turned -/
theorem Sta.acted {acts' : List (ByteArray × ByteArray)} (h : Sta base w cb db kb sb shv cvv av wv gv wk id acts s going) (hb : Booked w db 4 114 (dep shv cvv av) av acts' w') : ∃ av', Sta base w' cb db kb sb shv cvv av' wv gv wk id acts' s going ∧ Below base w w' := by
  obtain ⟨av', q1, q2, q3, q4⟩ := hb
  have n1 : ∀ {b t cs}, Blk w b t cs → 114 ≠ t → 301 ≠ t → ¬ (b = db ∨ av.ownBlock = some b) := fun hb h1 h2 e => by
    rcases e with rfl | e
    · exact h.de.ne hb h1 rfl
    · exact Rw.ne h.ac hb h2 e
  have n2 : ∀ {e sz v n xs}, Rw w e sz v n xs → 114 ≠ e → 301 ≠ e → ∀ k, v.ownBlock = some k → ¬ (k = db ∨ av.ownBlock = some k) := fun hr h1 h2 k hk e => by
    rcases e with rfl | e
    · exact Rw.ne hr h.de (Ne.symm h1) hk
    · exact Rw.ne2 h.ac hr h2 e hk
  refine ⟨av', ⟨h.bc, h.bd, h.bk, h.cl.kept q3 (n1 h.cl (by decide) (by decide)), by simpa using q1, h.sh.kept q3 (n2 h.sh (by decide) (by decide)), h.sd.kept q3 (n1 h.sd (by decide) (by decide)), h.cv.kept q3 (n2 h.cv (by decide) (by decide)), h.cn.kept q3 (n1 h.cn (by decide) (by decide)), q2, Rw.kept h.wa q3 (n2 h.wa (by decide) (by decide)), Rw.kept h.go q3 (n2 h.go (by decide) (by decide)), h.fa.home q4 h.lives, h.fw, h.fg, h.ap⟩, ?_⟩
  exact h.old q3 (fun k e => by
    rcases e with rfl | e
    · exact h.bd
    · exact h.fa k e)

set_option maxRecDepth 100000 in
set_option maxHeartbeats 400000 in
theorem pick_of (R : Int → World → Prop) (h : Sta base w cb db kb sb shv cvv av wv gv wk id acts s going)
    (HS : Hid (Calls Tryz.prog 49 #[.pointer (some ⟨db, 0, none⟩), .pointer (some ⟨kb, 0, none⟩)] w fun r w' => ∃ k : Int, r = .returned (.int .i64 k) ∧ R k w')) :
    Calls Tryz.prog 17 #[.pointer (some ⟨db, 0, none⟩), .int .i64 0] w
      fun r w' => ∃ k : Int, r = .returned (.tuple #[.int .i64 k, .int .i64 0]) ∧ R k w' := by
  have HO := hide (anyConn_sta h)
  clear h
  go_enter Tryz.func17, Tryz.ntmps17
  go_wp2_with (first | (go_at_call 48; refine HO.out.mono ?_; rintro e w1 ⟨rfl, rfl⟩) | (go_at_call 49; refine HS.out.mono ?_; rintro e w1 ⟨k, rfl, hR⟩))
  go_ret2
  exact ⟨k, rfl, hR⟩

/-- the step in which a request begins -/
theorem pick_begin (kind n : Nat) (body : ByteArray) (T : TypeId) (x : Value) (h : Sta base w cb db kb sb shv cvv av wv gv (.pointer none) id acts (frm kind n body) going) (hbs : body.size ≤ 1000)
    (HP : ∀ iv w1, Bs w1 5 iv (ins kind n body) → Calls Tryz.prog 129 #[iv] w1 fun r w' => r = .returned (.tuple #[.iface T x, .bool true]) ∧ Below w1.heap.size w1 w')
    (HK : ∀ w1, Calls Tryz.prog 132 #[.pointer (some ⟨db, 0, none⟩), .iface T x] w1 fun r w' => r = .returned (.pointer (some ⟨w1.heap.size, 0, none⟩)) ∧ Wk w' w1.heap.size (.iface T x) 0 (.slice none 0 0) ∧ Below w1.heap.size w1 w') :
    Calls Tryz.prog 17 #[.pointer (some ⟨db, 0, none⟩), .int .i64 0] w
      fun r w' => r = .returned (.tuple #[.int .i64 1, .int .i64 0]) ∧ Below base w w' ∧ ∃ wv' wb, Sta base w' cb db kb sb shv cvv av wv' gv (.pointer (some ⟨wb, 0, none⟩)) id acts ⟨#[]⟩ going ∧ Wk w' wb (.iface T x) 0 (.slice none 0 0) ∧ base ≤ wb := by
  have hsz : (frm kind n body).size = 2 + (3 + body.size) := by rw [frm_size]; omega
  have hL : num ((frm kind n body).extract 0 2) = 3 + body.size := by
    rw [frm_split, extract_left _ _ 2 (two_size _ _).symm, num_b8s _ _ (by omega) (by omega)]
    omega
  have hin : (frm kind n body).extract 2 (2 + (3 + body.size)) = ins kind n body := by
    rw [frm_split]
    exact extract_right _ _ _ _ (two_size _ _).symm (by rw [two_size, ins_size])
  have hb := begin_of db kb wv gv (.bool false) (frm kind n body) (ins kind n body) (3 + body.size) T x w h.cn h.wa hsz hL (by omega) (by omega) hin (hide HP) (hide HK)
  refine (pick_of (fun k w' => k = 1 ∧ Below base w w' ∧ ∃ wv' wb, Sta base w' cb db kb sb shv cvv av wv' gv (.pointer (some ⟨wb, 0, none⟩)) id acts ⟨#[]⟩ going ∧ Wk w' wb (.iface T x) 0 (.slice none 0 0) ∧ base ≤ wb) h (step_begin db kb wv gv (.bool false) w _ h.cn (hb.mono ?_))).mono ?_
  · rintro e w' ⟨rfl, wv', wb, q1, q2, q3, q4, q5, q6⟩
    refine ⟨1, rfl, 1, rfl, rfl, h.old q5 (fun k e => by subst e; exact h.bk), wv', wb, h.conn q5 (fun k e => .inl e) q1 q2 (h.go.kept q5 (fun k hk e => by subst e; exact bs_ne_cn h.go h.cn (by decide) hk)) (fun k hk => h.fw k (q6 ▸ hk)) h.fg (fun k hk e => h.ap k (q6 ▸ hk) e), q3, Nat.le_trans h.lives q4⟩
  · rintro e w' ⟨k, rfl, rfl, q⟩
    exact ⟨rfl, q⟩
/-- the step in which the reply goes out -/
theorem pick_reply (kind n wb : Nat) (body : ByteArray) (T : TypeId) (x bv : Value) (h : Sta base w cb db kb sb shv cvv av wv gv (.pointer (some ⟨wb, 0, none⟩)) id acts s going) (hW : Wk w wb (.iface T x) 1 bv) (hb : Bs w 5 bv body) (hbs : body.size ≤ 1000) (hgs : going.size ≤ 1000) (hk : kind < 100) (hn : n < 65536)
    (hm : ∀ w, (method 446 T x "Items").run Tryz.prog w = .ok (257, .agg #[]) w)
    (hm2 : ∀ w, (method 446 T x "Reply").run Tryz.prog w = .ok (255, .agg #[.int .i64 kind, .int .i64 n]) w) :
    Calls Tryz.prog 17 #[.pointer (some ⟨db, 0, none⟩), .int .i64 0] w
      fun r w' => r = .returned (.tuple #[.int .i64 3, .int .i64 0]) ∧ Below base w w' ∧ ∃ gv', Sta base w' cb db kb sb shv cvv av wv gv' (.pointer none) id acts s (going ++ frm (kind + 128) n body) := by
  refine (pick_of (fun k w' => k = 3 ∧ Below base w w' ∧ ∃ gv', Sta base w' cb db kb sb shv cvv av wv gv' (.pointer none) id acts s (going ++ frm (kind + 128) n body)) h (step_reply db kb wb T x wv gv (.bool false) bv w _ hm h.cn hW ?_)).mono ?_
  · intro w1 h1
    have hS := h.below h1
    refine (reply_of db kb wb kind n T x wv gv (.bool false) bv 1 going body w1 hm2 hS.cn (hW.below h1 hW.lt) hS.go (hb.below h1) hk hn (by omega) hgs).mono ?_
    rintro e w' ⟨rfl, gv', q1, q2, q3, q4⟩
    have hwa := hS.wa.kept q3 (fun k hk e => by
      rcases e with rfl | e
      · exact bs_ne_cn hS.wa hS.cn (by decide) hk
      · exact h.ap k hk e)
    refine ⟨rfl, 3, rfl, rfl, (h1.mono h.lives).trans (hS.old q3 (fun k e => by
      rcases e with rfl | e
      · exact h.bk
      · exact h.fg k e)), gv', hS.conn q3 (fun k e => by
      rcases e with rfl | e
      · exact .inl rfl
      · exact .inr (.inr e)) q1 hwa q2 h.fw (h.fg.home q4 hS.lives) (fun k hk e => ?_)⟩
    have := Rw.lt hS.wa hk
    exact h.ap k hk (q4.old k this e)
  · rintro e w' ⟨k, rfl, rfl, q⟩
    exact ⟨rfl, q⟩
/-- an item of Get is done -/
theorem pick_get (n wb : Nat) (key told : ByteArray) (h : Sta base w cb db kb sb shv cvv av wv gv (.pointer (some ⟨wb, 0, none⟩)) id acts s going) (hW : Wk w wb (getRq n key) 0 (.slice none 0 0)) (hbw : base ≤ wb) (ht : told.size ≤ 1000)
    (HG : ∀ w1, Sta base w1 cb db kb sb shv cvv av wv gv (.pointer (some ⟨wb, 0, none⟩)) id acts s going → Calls Tryz.prog 136 #[.pointer (some ⟨db, 0, none⟩), .string key] w1
      fun r w' => ∃ v, r = .returned v ∧ Bs w' 5 v told ∧ Below w1.heap.size w1 w' ∧ Fresh w1.heap.size v) :
    Calls Tryz.prog 17 #[.pointer (some ⟨db, 0, none⟩), .int .i64 0] w
      fun r w' => r = .returned (.tuple #[.int .i64 2, .int .i64 0]) ∧ Below base w w' ∧ Sta base w' cb db kb sb shv cvv av wv gv (.pointer (some ⟨wb, 0, none⟩)) id acts s going ∧ ∃ bv, Wk w' wb (getRq n key) 1 bv ∧ Bs w' 5 bv told := by
  refine (pick_of (fun k w' => k = 2 ∧ Below base w w' ∧ Sta base w' cb db kb sb shv cvv av wv gv (.pointer (some ⟨wb, 0, none⟩)) id acts s going ∧ ∃ bv, Wk w' wb (getRq n key) 1 bv ∧ Bs w' 5 bv told) h (step_item db kb wb _ _ wv gv (.bool false) (.slice none 0 0) w _ (method_get_items n key) h.cn hW ?_)).mono ?_
  · intro w1 h1
    have hS := h.below h1
    have hW1 := hW.below h1 hW.lt
    refine (doItem_get db wb n key told w1 hW1 ht (fun w2 k2 => HG w2 (hS.other k2 (fun _ e => e) hW1))).mono ?_
    rintro e w' ⟨rfl, bv, q1, q2, q3, q4⟩
    exact ⟨rfl, 2, rfl, rfl, (h1.mono h.lives).trans (hS.old q3 (fun k e => by subst e; exact hbw)), hS.other q3 (fun _ e => e) hW1, bv, q1, q2⟩
  · rintro e w' ⟨k, rfl, rfl, q⟩
    exact ⟨rfl, q⟩
/-- an item of Put is done -/
theorem pick_put (n wb : Nat) (key val : ByteArray) (acts' : List (ByteArray × ByteArray)) (h : Sta base w cb db kb sb shv cvv av wv gv (.pointer (some ⟨wb, 0, none⟩)) id acts s going) (hW : Wk w wb (putRq n key val) 0 (.slice none 0 0)) (hbw : base ≤ wb)
    (HG : ∀ w1, Sta base w1 cb db kb sb shv cvv av wv gv (.pointer (some ⟨wb, 0, none⟩)) id acts s going → Calls Tryz.prog 137 #[.pointer (some ⟨db, 4, none⟩), .string key, .string val] w1
      fun r w' => r = .returned (.tuple #[]) ∧ Booked w1 db 4 114 (dep shv cvv av) av acts' w') :
    Calls Tryz.prog 17 #[.pointer (some ⟨db, 0, none⟩), .int .i64 0] w
      fun r w' => r = .returned (.tuple #[.int .i64 2, .int .i64 0]) ∧ Below base w w' ∧ ∃ av', Sta base w' cb db kb sb shv cvv av' wv gv (.pointer (some ⟨wb, 0, none⟩)) id acts' s going ∧ ∃ bv, Wk w' wb (putRq n key val) 1 bv ∧ Bs w' 5 bv ⟨#[]⟩ := by
  refine (pick_of (fun k w' => k = 2 ∧ Below base w w' ∧ ∃ av', Sta base w' cb db kb sb shv cvv av' wv gv (.pointer (some ⟨wb, 0, none⟩)) id acts' s going ∧ ∃ bv, Wk w' wb (putRq n key val) 1 bv ∧ Bs w' 5 bv ⟨#[]⟩) h (step_item db kb wb _ _ wv gv (.bool false) (.slice none 0 0) w _ (method_put_items n key val) h.cn hW ?_)).mono ?_
  · intro w1 h1
    have hS := h.below h1
    have hW1 := hW.below h1 hW.lt
    refine (doItem_put db wb n key val (fun w2 w3 => Booked w2 db 4 114 (dep shv cvv av) av acts' w3 ∧ Wk w3 wb (putRq n key val) 1 (.slice none 0 0)) w1 hW1 (fun w2 k2 hW2 => ?_)).mono ?_
    · have hS2 := hS.other k2 (fun _ e => e) hW1
      refine (HG w2 hS2).mono ?_
      rintro e w3 ⟨rfl, hb⟩
      have hW3 : Wk w3 wb (putRq n key val) 1 (.slice none 0 0) := by
        obtain ⟨av', q1, q2, q3, q4⟩ := hb
        refine hW2.kept q3 (fun e => ?_)
        rcases e with rfl | e
        · exact hS2.de.ne hW2 (by decide) rfl
        · exact Rw.ne hS2.ac hW2 (by decide) e
      exact ⟨rfl, ⟨hb, hW3⟩, hW3⟩
    · rintro e w' ⟨rfl, w2, w3, bv, q1, ⟨q2, hW3⟩, q3, q4, q5, q6⟩
      have hS2 := hS.other q1 (fun _ e => e) hW1
      obtain ⟨av', hS3, b3⟩ := hS2.acted q2
      exact ⟨rfl, 2, rfl, rfl, ((h1.mono h.lives).trans (hS.old q1 (fun k e => by subst e; exact hbw))).trans (b3.trans (hS3.old q3 (fun k e => by subst e; exact hbw))), av', hS3.other q3 (fun _ e => e) hW3, bv, q4, q5⟩
  · rintro e w' ⟨k, rfl, rfl, q⟩
    exact ⟨rfl, q⟩
end Go.Proofs.YthpmcilljbmoiaaGreatDoor
