import Derived.Test.YthpmcilljbmoiaaGreatDoorZ07
import Derived.WalkKit
import Derived.Test.YthpmcilljbmoiaaGreatDoorZ08
namespace Go.Proofs.YthpmcilljbmoiaaGreatDoor
open Go.RowKit

/-- what stands inside a frame -/
def ins (kind id : Nat) (body : ByteArray) : ByteArray := b8 kind ++ ((b8 (id / 256) ++ b8 (id % 256)) ++ body)
theorem frm_split (kind id : Nat) (body : ByteArray) : frm kind id body = (b8 ((3 + body.size) / 256) ++ b8 ((3 + body.size) % 256)) ++ ins kind id body := by
  simp only [frm, ins, ByteArray.append_assoc]
theorem ins_size (kind id : Nat) (body : ByteArray) : (ins kind id body).size = 3 + body.size := by
  simp only [ins, ByteArray.size_append, b8_size]; omega
theorem num_b8 (k : Nat) (h : k < 256) : num (b8 k) = k := by
  simp [num, b8, UInt8.toNat_ofNat_of_lt' h]
theorem num_b8s (a b : Nat) (ha : a < 256) (hb : b < 256) : num (b8 a ++ b8 b) = a * 256 + b := by
  simp [num, b8, UInt8.toNat_ofNat_of_lt' ha, UInt8.toNat_ofNat_of_lt' hb]
theorem two_size (a b : Nat) : (b8 a ++ b8 b).size = 2 := by rw [ByteArray.size_append]; rfl

variable {base : Nat} {w w' : World} {cb db kb sb : Nat} {shv cvv av wv gv wk : Value} {id : Int} {acts : List (ByteArray × ByteArray)} {s going : ByteArray}

/-- a block of another type has turned -/
theorem Sta.other {S : Nat → Prop} {wb : Nat} {cs : Array Value} (h : Sta base w cb db kb sb shv cvv av wv gv wk id acts s going) (hk : Kept S w w') (hS : ∀ k, S k → k = wb) (hW : Blk w wb 175 cs) : Sta base w' cb db kb sb shv cvv av wv gv wk id acts s going := by
  have n1 : ∀ {b t cs}, Blk w b t cs → 175 ≠ t → ¬ S b := fun hb h1 e => by
    have := hS _ e
    subst this
    exact hW.ne hb h1 rfl
  have n2 : ∀ {e sz v n xs}, Rw w e sz v n xs → 175 ≠ e → ∀ k, v.ownBlock = some k → ¬ S k := fun hr h1 k hk e => by
    have := hS _ e
    subst this
    exact Rw.ne hr hW (Ne.symm h1) hk
  exact ⟨h.bc, h.bd, h.bk, h.cl.kept hk (n1 h.cl (by decide)), h.de.kept hk (n1 h.de (by decide)), h.sh.kept hk (n2 h.sh (by decide)), h.sd.kept hk (n1 h.sd (by decide)), h.cv.kept hk (n2 h.cv (by decide)), h.cn.kept hk (n1 h.cn (by decide)), h.ac.kept hk (n2 h.ac (by decide)), Rw.kept h.wa hk (n2 h.wa (by decide)), Rw.kept h.go hk (n2 h.go (by decide)), h.fa, h.fw, h.fg, h.ap⟩
/-- the actions have turned -/
theorem Sta.acted {acts' : List (ByteArray × ByteArray)} (h : Sta base w cb db kb sb shv cvv av wv gv wk id acts s going) (hb : Booked w db 4 114 (dep shv cvv av) av acts' w') : ∃ av', Sta base w' cb db kb sb shv cvv av' wv gv wk id acts' s going ∧ Below base w w' := by
  obtain ⟨av', q1, q2, q3, q4⟩ := hb
  have n1 : ∀ {b t cs}, Blk w b t cs → 114 ≠ t → 301 ≠ t → ¬ (b = db ∨ av.ownBlock = some b) := fun hb h1 h2 e => by
    rcases e with rfl | e
    · exact h.de.ne hb h1 rfl
    · exact Rw.ne h.ac hb h2 e
  have n2 : ∀ {e sz v n xs}, Rw w e sz v n xs → 114 ≠ e → 301 ≠ e → ∀ k, v.ownBlock = some k → ¬ (k = db ∨ av.ownBlock = some k) := fun hr h1 h2 k hk e => by
    rcases e with rfl | e
    · exact Rw.ne hr h.de (Ne.symm h1) hk
    · exact Rw.ne2 h.ac hr h2 e hk
  refine ⟨av', ⟨h.bc, h.bd, h.bk, h.cl.kept q3 (n1 h.cl (by decide) (by decide)), by simpa using q1, h.sh.kept q3 (n2 h.sh (by decide) (by decide)), h.sd.kept q3 (n1 h.sd (by decide) (by decide)), h.cv.kept q3 (n2 h.cv (by decide) (by decide)), h.cn.kept q3 (n1 h.cn (by decide) (by decide)), q2, Rw.kept h.wa q3 (n2 h.wa (by decide) (by decide)), Rw.kept h.go q3 (n2 h.go (by decide) (by decide)), h.fa.home q4 h.lives, h.fw, h.fg, h.ap⟩, ?_⟩
  exact h.old q3 (fun k e => by
    rcases e with rfl | e
    · exact h.bd
    · exact h.fa k e)

set_option maxRecDepth 100000 in
set_option maxHeartbeats 400000 in
theorem pick_of (R : Int → World → Prop) (h : Sta base w cb db kb sb shv cvv av wv gv wk id acts s going)
    (HS : Hid (Calls Tryz.prog 49 #[.pointer (some ⟨db, 0, none⟩), .pointer (some ⟨kb, 0, none⟩)] w fun r w' => ∃ k : Int, r = .returned (.int .i64 k) ∧ R k w')) :
    Calls Tryz.prog 17 #[.pointer (some ⟨db, 0, none⟩), .int .i64 0] w
      fun r w' => ∃ k : Int, r = .returned (.tuple #[.int .i64 k, .int .i64 0]) ∧ R k w' := by
  have HO := hide (anyConn_sta h)
  clear h
  go_enter Tryz.func17, Tryz.ntmps17
  go_wp2_with (first | (go_at_call 48; refine HO.out.mono ?_; rintro e w1 ⟨rfl, rfl⟩) | (go_at_call 49; refine HS.out.mono ?_; rintro e w1 ⟨k, rfl, hR⟩))
  go_ret2
  exact ⟨k, rfl, hR⟩

/-- the step in which a request begins -/
theorem pick_begin (kind n : Nat) (body : ByteArray) (T : TypeId) (x : Value) (h : Sta base w cb db kb sb shv cvv av wv gv (.pointer none) id acts (frm kind n body) going) (hbs : body.size ≤ 1000)
    (HP : ∀ iv w1, Bs w1 5 iv (ins kind n body) → Calls Tryz.prog 129 #[iv] w1 fun r w' => r = .returned (.tuple #[.iface T x, .bool true]) ∧ Below w1.heap.size w1 w')
    (HK : ∀ w1, Calls Tryz.prog 132 #[.pointer (some ⟨db, 0, none⟩), .iface T x] w1 fun r w' => r = .returned (.pointer (some ⟨w1.heap.size, 0, none⟩)) ∧ Wk w' w1.heap.size (.iface T x) 0 (.slice none 0 0) ∧ Below w1.heap.size w1 w') :
    Calls Tryz.prog 17 #[.pointer (some ⟨db, 0, none⟩), .int .i64 0] w
      fun r w' => r = .returned (.tuple #[.int .i64 1, .int .i64 0]) ∧ Below base w w' ∧ ∃ wv' wb, Sta base w' cb db kb sb shv cvv av wv' gv (.pointer (some ⟨wb, 0, none⟩)) id acts ⟨#[]⟩ going ∧ Wk w' wb (.iface T x) 0 (.slice none 0 0) ∧ base ≤ wb := by
  have hsz : (frm kind n body).size = 2 + (3 + body.size) := by rw [frm_size]; omega
  have hL : num ((frm kind n body).extract 0 2) = 3 + body.size := by
    rw [frm_split, extract_left _ _ 2 (two_size _ _).symm, num_b8s _ _ (by omega) (by omega)]
    omega
  have hin : (frm kind n body).extract 2 (2 + (3 + body.size)) = ins kind n body := by
    rw [frm_split]
    exact extract_right _ _ _ _ (two_size _ _).symm (by rw [two_size, ins_size])
  have hb := begin_of db kb wv gv (.bool false) (frm kind n body) (ins kind n body) (3 + body.size) T x w h.cn h.wa hsz hL (by omega) (by omega) hin (hide HP) (hide HK)
  refine (pick_of (fun k w' => k = 1 ∧ Below base w w' ∧ ∃ wv' wb, Sta base w' cb db kb sb shv cvv av wv' gv (.pointer (some ⟨wb, 0, none⟩)) id acts ⟨#[]⟩ going ∧ Wk w' wb (.iface T x) 0 (.slice none 0 0) ∧ base ≤ wb) h (step_begin db kb wv gv (.bool false) w _ h.cn (hb.mono ?_))).mono ?_
  · rintro e w' ⟨rfl, wv', wb, q1, q2, q3, q4, q5, q6⟩
    refine ⟨1, rfl, 1, rfl, rfl, h.old q5 (fun k e => by subst e; exact h.bk), wv', wb, h.conn q5 (fun k e => .inl e) q1 q2 (h.go.kept q5 (fun k hk e => by subst e; exact bs_ne_cn h.go h.cn (by decide) hk)) (fun k hk => h.fw k (q6 ▸ hk)) h.fg (fun k hk e => h.ap k (q6 ▸ hk) e), q3, Nat.le_trans h.lives q4⟩
  · rintro e w' ⟨k, rfl, rfl, q⟩
    exact ⟨rfl, q⟩
/-- the step in which the reply goes out -/
theorem pick_reply (kind n wb : Nat) (body : ByteArray) (T : TypeId) (x bv : Value) (h : Sta base w cb db kb sb shv cvv av wv gv (.pointer (some ⟨wb, 0, none⟩)) id acts s going) (hW : Wk w wb (.iface T x) 1 bv) (hb : Bs w 5 bv body) (hbs : body.size ≤ 1000) (hgs : going.size ≤ 1000) (hk : kind < 100) (hn : n < 65536)
    (hm : ∀ w, (method 446 T x "Items").run Tryz.prog w = .ok (257, .agg #[]) w)
    (hm2 : ∀ w, (method 446 T x "Reply").run Tryz.prog w = .ok (255, .agg #[.int .i64 kind, .int .i64 n]) w) :
    Calls Tryz.prog 17 #[.pointer (some ⟨db, 0, none⟩), .int .i64 0] w
      fun r w' => r = .returned (.tuple #[.int .i64 3, .int .i64 0]) ∧ Below base w w' ∧ ∃ gv', Sta base w' cb db kb sb shv cvv av wv gv' (.pointer none) id acts s (going ++ frm (kind + 128) n body) := by
  refine (pick_of (fun k w' => k = 3 ∧ Below base w w' ∧ ∃ gv', Sta base w' cb db kb sb shv cvv av wv gv' (.pointer none) id acts s (going ++ frm (kind + 128) n body)) h (step_reply db kb wb T x wv gv (.bool false) bv w _ hm h.cn hW ?_)).mono ?_
  · intro w1 h1
    have hS := h.below h1
    refine (reply_of db kb wb kind n T x wv gv (.bool false) bv 1 going body w1 hm2 hS.cn (hW.below h1 hW.lt) hS.go (hb.below h1) hk hn (by omega) (Nat.le_trans hgs (by omega))).mono ?_
    rintro e w' ⟨rfl, gv', q1, q2, q3, q4⟩
    have hwa := hS.wa.kept q3 (fun k hk e => by
      rcases e with rfl | e
      · exact bs_ne_cn hS.wa hS.cn (by decide) hk
      · exact h.ap k hk e)
    refine ⟨rfl, 3, rfl, rfl, (h1.mono h.lives).trans (hS.old q3 (fun k e => by
      rcases e with rfl | e
      · exact h.bk
      · exact h.fg k e)), gv', hS.conn q3 (fun k e => by
      rcases e with rfl | e
      · exact .inl rfl
      · exact .inr (.inr e)) q1 hwa q2 h.fw (h.fg.home q4 hS.lives) (fun k hk e => ?_)⟩
    have := Rw.lt hS.wa hk
    exact h.ap k hk (q4.old k this e)
  · rintro e w' ⟨k, rfl, rfl, q⟩
    exact ⟨rfl, q⟩
/-- an item of Get is done -/
theorem pick_get (n wb : Nat) (key told : ByteArray) (h : Sta base w cb db kb sb shv cvv av wv gv (.pointer (some ⟨wb, 0, none⟩)) id acts s going) (hW : Wk w wb (getRq n key) 0 (.slice none 0 0)) (hbw : base ≤ wb) (ht : told.size ≤ 1000)
    (HG : ∀ w1, Sta base w1 cb db kb sb shv cvv av wv gv (.pointer (some ⟨wb, 0, none⟩)) id acts s going → Calls Tryz.prog 136 #[.pointer (some ⟨db, 0, none⟩), .string key] w1
      fun r w' => ∃ v, r = .returned v ∧ Bs w' 5 v told ∧ Below w1.heap.size w1 w' ∧ Fresh w1.heap.size v) :
    Calls Tryz.prog 17 #[.pointer (some ⟨db, 0, none⟩), .int .i64 0] w
      fun r w' => r = .returned (.tuple #[.int .i64 2, .int .i64 0]) ∧ Below base w w' ∧ Sta base w' cb db kb sb shv cvv av wv gv (.pointer (some ⟨wb, 0, none⟩)) id acts s going ∧ ∃ bv, Wk w' wb (getRq n key) 1 bv ∧ Bs w' 5 bv told := by
  refine (pick_of (fun k w' => k = 2 ∧ Below base w w' ∧ Sta base w' cb db kb sb shv cvv av wv gv (.pointer (some ⟨wb, 0, none⟩)) id acts s going ∧ ∃ bv, Wk w' wb (getRq n key) 1 bv ∧ Bs w' 5 bv told) h (step_item db kb wb _ _ wv gv (.bool false) (.slice none 0 0) w _ (method_get_items n key) h.cn hW ?_)).mono ?_
  · intro w1 h1
    have hS := h.below h1
    have hW1 := hW.below h1 hW.lt
    refine (doItem_get db wb n key told w1 hW1 ht (fun w2 k2 => HG w2 (hS.other k2 (fun _ e => e) hW1))).mono ?_
    rintro e w' ⟨rfl, bv, q1, q2, q3, q4⟩
    exact ⟨rfl, 2, rfl, rfl, (h1.mono h.lives).trans (hS.old q3 (fun k e => by subst e; exact hbw)), hS.other q3 (fun _ e => e) hW1, bv, q1, q2⟩
  · rintro e w' ⟨k, rfl, rfl, q⟩
    exact ⟨rfl, q⟩
/-- an item of Put is done -/
theorem pick_put (n wb : Nat) (key val : ByteArray) (acts' : List (ByteArray × ByteArray)) (h : Sta base w cb db kb sb shv cvv av wv gv (.pointer (some ⟨wb, 0, none⟩)) id acts s going) (hW : Wk w wb (putRq n key val) 0 (.slice none 0 0)) (hbw : base ≤ wb)
    (HG : ∀ w1, Sta base w1 cb db kb sb shv cvv av wv gv (.pointer (some ⟨wb, 0, none⟩)) id acts s going → Calls Tryz.prog 137 #[.pointer (some ⟨db, 4, none⟩), .string key, .string val] w1
      fun r w' => r = .returned (.tuple #[]) ∧ Booked w1 db 4 114 (dep shv cvv av) av acts' w') :
    Calls Tryz.prog 17 #[.pointer (some ⟨db, 0, none⟩), .int .i64 0] w
      fun r w' => r = .returned (.tuple #[.int .i64 2, .int .i64 0]) ∧ Below base w w' ∧ ∃ av', Sta base w' cb db kb sb shv cvv av' wv gv (.pointer (some ⟨wb, 0, none⟩)) id acts' s going ∧ ∃ bv, Wk w' wb (putRq n key val) 1 bv ∧ Bs w' 5 bv ⟨#[]⟩ := by
  refine (pick_of (fun k w' => k = 2 ∧ Below base w w' ∧ ∃ av', Sta base w' cb db kb sb shv cvv av' wv gv (.pointer (some ⟨wb, 0, none⟩)) id acts' s going ∧ ∃ bv, Wk w' wb (putRq n key val) 1 bv ∧ Bs w' 5 bv ⟨#[]⟩) h (step_item db kb wb _ _ wv gv (.bool false) (.slice none 0 0) w _ (method_put_items n key val) h.cn hW ?_)).mono ?_
  · intro w1 h1
    have hS := h.below h1
    have hW1 := hW.below h1 hW.lt
    refine (doItem_put db wb n key val (fun w2 w3 => Booked w2 db 4 114 (dep shv cvv av) av acts' w3 ∧ Wk w3 wb (putRq n key val) 1 (.slice none 0 0)) w1 hW1 (fun w2 k2 hW2 => ?_)).mono ?_
    · have hS2 := hS.other k2 (fun _ e => e) hW1
      refine (HG w2 hS2).mono ?_
      rintro e w3 ⟨rfl, hb⟩
      have hW3 : Wk w3 wb (putRq n key val) 1 (.slice none 0 0) := by
        obtain ⟨av', q1, q2, q3, q4⟩ := hb
        refine hW2.kept q3 (fun e => ?_)
        rcases e with rfl | e
        · exact hS2.de.ne hW2 (by decide) rfl
        · exact Rw.ne hS2.ac hW2 (by decide) e
      exact ⟨rfl, ⟨hb, hW3⟩, hW3⟩
    · rintro e w' ⟨rfl, w2, w3, bv, q1, ⟨q2, hW3⟩, q3, q4, q5, q6⟩
      have hS2 := hS.other q1 (fun _ e => e) hW1
      obtain ⟨av', hS3, b3⟩ := hS2.acted q2
      exact ⟨rfl, 2, rfl, rfl, ((h1.mono h.lives).trans (hS.old q1 (fun k e => by subst e; exact hbw))).trans (b3.trans (hS3.old q3 (fun k e => by subst e; exact hbw))), av', hS3.other q3 (fun _ e => e) hW3, bv, q4, q5⟩
  · rintro e w' ⟨k, rfl, rfl, q⟩
    exact ⟨rfl, q⟩
end Go.Proofs.YthpmcilljbmoiaaGreatDoor
namespace Go.Proofs.YthpmcilljbmoiaaGreatDoor
open Go.RowKit

theorem bmk1 (w : World) : (Instr.makeSlice 126 (.int .i64 1) (.int .i64 1)).run Tryz.prog w = .ok (.slice (some ⟨w.heap.size, 0, none⟩) 1 1) (w.alloc (.cells #[.int .u8 0] 5)) := by kernel_rfl
theorem bmk2 (w : World) : (Instr.makeSlice 126 (.int .i64 2) (.int .i64 2)).run Tryz.prog w = .ok (.slice (some ⟨w.heap.size, 0, none⟩) 2 2) (w.alloc (.cells #[.int .u8 0, .int .u8 0] 5)) := by kernel_rfl
theorem bmk4 (w : World) : (Instr.makeSlice 126 (.int .i64 4) (.int .i64 4)).run Tryz.prog w = .ok (.slice (some ⟨w.heap.size, 0, none⟩) 4 4) (w.alloc (.cells #[.int .u8 0, .int .u8 0, .int .u8 0, .int .u8 0] 5)) := by kernel_rfl

theorem bs_lit (w : World) (s : ByteArray) (cs : Array Value) (n : Nat) (hn : s.size = n) (hcs : cs.toList = byteCells s) (hm : n ≤ 1000) : Bs (w.alloc (.cells cs 5)) 5 (.slice (some ⟨w.heap.size, 0, none⟩) n n) s := by
  subst hn
  have hl : cs.size = s.size := by rw [← byteCells_length s, ← hcs, Array.length_toList]
  refine .inr ⟨w.heap.size, 0, s.size, cs, rfl, Blk.new _ _ _, Nat.le_refl _, by unfold maxLen; omega, by omega, by rw [byteCells_length, Nat.mul_one], fun j hj => ?_⟩
  rw [Nat.zero_add, ← hcs]
  simp
theorem b8_cells (k : Nat) (z : Int) (hz : z = (k : Int)) (hk : k < 256) : byteCells (b8 k) = [.int .u8 z] := by
  subst hz
  simp [byteCells, b8, UInt8.toNat_ofNat_of_lt' hk]
def key4 (v : Nat) : ByteArray := b8 0 ++ b8 0 ++ b8 0 ++ b8 v

set_option maxRecDepth 100000 in
set_option maxHeartbeats 400000 in
theorem bytes1 (v : Nat) (w : World) (hv : v < 256) :
    Calls Tryz.prog 28 #[.int .i64 v, .int .i64 1] w
      fun r w' => r = .returned (.string (b8 v)) ∧ Below w.heap.size w w' := by
  have hmk := bmk1
  have hcv := (bs_lit w (b8 v) #[.int .u8 ((v : Int) % 256)] 1 rfl (by rw [b8_cells v ((v : Int) % 256) (by omega) hv]) (by decide)).str (dst := 9) Tryz.underlying126 Tryz.underlying5 Tryz.underlying9
  have hA := Below.alloc (Below.refl w.heap.size w) (Nat.le_refl _) (.cells #[.int .u8 ((v : Int) % 256)] 5)
  generalize b8 v = S at *
  go_enter Tryz.func28, Tryz.ntmps28
  go_wp2
  refine wp_loop_rounds 2 ?_
  rw [rounds_succ]
  go_wp2
  rw [rounds_succ]
  go_wp2
  go_ret
  exact ⟨rfl, hA⟩
set_option maxRecDepth 100000 in
set_option maxHeartbeats 400000 in
theorem bytes2 (v : Nat) (w : World) (hv : v < 65536) :
    Calls Tryz.prog 28 #[.int .i64 v, .int .i64 2] w
      fun r w' => r = .returned (.string (b8 (v / 256) ++ b8 (v % 256))) ∧ Below w.heap.size w w' := by
  have hmk := bmk2
  have hcv := (bs_lit w (b8 (v / 256) ++ b8 (v % 256)) #[.int .u8 ((v : Int) / 256 % 256), .int .u8 ((v : Int) % 256)] 2 (two_size _ _) (by rw [byteCells_app, b8_cells (v / 256) ((v : Int) / 256 % 256) (by omega) (by omega), b8_cells (v % 256) ((v : Int) % 256) (by omega) (by omega)]; rfl) (by decide)).str (dst := 9) Tryz.underlying126 Tryz.underlying5 Tryz.underlying9
  have hA := Below.alloc (Below.refl w.heap.size w) (Nat.le_refl _) (.cells #[.int .u8 ((v : Int) / 256 % 256), .int .u8 ((v : Int) % 256)] 5)
  generalize b8 (v / 256) ++ b8 (v % 256) = S at *
  go_enter Tryz.func28, Tryz.ntmps28
  go_wp2
  refine wp_loop_rounds 3 ?_
  rw [rounds_succ]
  go_wp2
  rw [rounds_succ]
  go_wp2
  rw [rounds_succ]
  go_wp2
  go_ret
  exact ⟨rfl, hA⟩
set_option maxRecDepth 100000 in
set_option maxHeartbeats 400000 in
theorem bytes4 (v : Nat) (w : World) (hv : v < 256) :
    Calls Tryz.prog 28 #[.int .i64 v, .int .i64 4] w
      fun r w' => r = .returned (.string (key4 v)) ∧ Below w.heap.size w w' := by
  have hmk := bmk4
  have hcv := (bs_lit w (key4 v) #[.int .u8 ((v : Int) / 256 / 256 / 256 % 256), .int .u8 ((v : Int) / 256 / 256 % 256), .int .u8 ((v : Int) / 256 % 256), .int .u8 ((v : Int) % 256)] 4 (by simp only [key4, ByteArray.size_append, b8_size]) (by rw [key4, byteCells_app, byteCells_app, byteCells_app, b8_cells v ((v : Int) % 256) (by omega) (by omega), b8_cells 0 0 rfl (by omega)]; simp; omega) (by decide)).str (dst := 9) Tryz.underlying126 Tryz.underlying5 Tryz.underlying9
  have hA := Below.alloc (Below.refl w.heap.size w) (Nat.le_refl _) (.cells #[.int .u8 ((v : Int) / 256 / 256 / 256 % 256), .int .u8 ((v : Int) / 256 / 256 % 256), .int .u8 ((v : Int) / 256 % 256), .int .u8 ((v : Int) % 256)] 5)
  generalize key4 v = S at *
  go_enter Tryz.func28, Tryz.ntmps28
  go_wp2
  refine wp_loop_rounds 5 ?_
  rw [rounds_succ]
  go_wp2
  rw [rounds_succ]
  go_wp2
  rw [rounds_succ]
  go_wp2
  rw [rounds_succ]
  go_wp2
  rw [rounds_succ]
  go_wp2
  go_ret
  exact ⟨rfl, hA⟩
end Go.Proofs.YthpmcilljbmoiaaGreatDoor
namespace Go.Proofs.YthpmcilljbmoiaaGreatDoor
open Go.RowKit

/-- f 0 + .. + f (n - 1) -/
def tot (f : Nat → Nat) : Nat → Nat
  | 0 => 0
  | n + 1 => tot f n + f n
theorem tot_congr (f g : Nat → Nat) : ∀ n, (∀ i, i < n → f i = g i) → tot f n = tot g n
  | 0, _ => rfl
  | n + 1, h => by
    have := tot_congr f g n (fun i hi => h i (by omega))
    simp only [tot, this, h n (by omega)]
theorem tot_zero (f : Nat → Nat) : ∀ n, (∀ i, i < n → f i = 0) → tot f n = 0
  | 0, _ => rfl
  | n + 1, h => by
    have := tot_zero f n (fun i hi => h i (by omega))
    simp only [tot, this, h n (by omega)]
theorem tot_at (f : Nat → Nat) : ∀ n k, k < n → f k ≤ tot f n
  | 0, k, h => by omega
  | n + 1, k, h => by
    simp only [tot]
    by_cases hk : k = n
    · subst hk; omega
    · have := tot_at f n k (by omega)
      omega
/-- one of them is one less -/
theorem tot_less (f g : Nat → Nat) (k : Nat) : ∀ n, k < n → (∀ i, i < n → i ≠ k → g i = f i) → f k = g k + 1 → tot f n = tot g n + 1
  | 0, h, _, _ => by omega
  | n + 1, h, hg, hk => by
    simp only [tot]
    by_cases hkn : k = n
    · subst hkn
      have := tot_congr f g k (fun i hi => (hg i (by omega) (by omega)).symm)
      omega
    · have := tot_less f g k n (by omega) (fun i hi => hg i (by omega)) hk
      have := hg n (by omega) (by omega)
      omega
theorem tot_more (f g : Nat → Nat) (k d : Nat) : ∀ n, k < n → (∀ i, i < n → i ≠ k → g i = f i) → g k = f k + d → tot g n = tot f n + d
  | 0, h, _, _ => by omega
  | n + 1, h, hg, hk => by
    simp only [tot]
    by_cases hkn : k = n
    · subst hkn
      have := tot_congr f g k (fun i hi => (hg i (by omega) (by omega)).symm)
      omega
    · have := tot_more f g k d n (by omega) (fun i hi => hg i (by omega)) hk
      have := hg n (by omega) (by omega)
      omega
/-- who goes round from t on meets all -/
theorem round_all (t n c : Nat) (hc : c < n) : ∃ j, j < n ∧ (t + j) % n = c := by
  have hn : 0 < n := by omega
  have h1 := Nat.mod_lt t hn
  have h2 := Nat.div_add_mod t n
  by_cases h : t % n ≤ c
  · refine ⟨c - t % n, by omega, ?_⟩
    rw [show t + (c - t % n) = c + n * (t / n) by omega, Nat.add_mul_mod_self_left, Nat.mod_eq_of_lt hc]
  · refine ⟨c + n - t % n, by omega, ?_⟩
    rw [show t + (c + n - t % n) = c + n + n * (t / n) by omega, Nat.add_mul_mod_self_left, Nat.add_mod_right, Nat.mod_eq_of_lt hc]
end Go.Proofs.YthpmcilljbmoiaaGreatDoor
namespace Go.Proofs.YthpmcilljbmoiaaGreatDoor
open Go.RowKit

/-- names of blobs, n of them -/
def nms (N : Nat → ByteArray) (n : Nat) : List ByteArray := (List.range n).map N
def Nok (N : Nat → ByteArray) : Prop := ∀ j, j < 8 → (N j).size = 34 ∧ num ((N j).extract 0 2) ≤ 120
theorem nms_len (N : Nat → ByteArray) (n : Nat) : (nms N n).length = n := by simp [nms]
theorem nms_ok {N : Nat → ByteArray} (hN : Nok N) (n : Nat) (hn : n ≤ 8) : ∀ x ∈ nms N n, x.size = 34 ∧ num (x.extract 0 2) ≤ 120 := by
  intro x hx
  simp only [nms, List.mem_map, List.mem_range] at hx
  obtain ⟨j, hj, rfl⟩ := hx
  exact hN j (by omega)
def bodyOf (N : Nat → ByteArray) (n : Nat) : ByteArray := b8 n ++ (cat (nms N n) ++ ⟨#[]⟩)
theorem app_empty (s : ByteArray) : s ++ (⟨#[]⟩ : ByteArray) = s := ByteArray.append_empty
theorem bodyOf_size {N : Nat → ByteArray} (hN : Nok N) (n : Nat) (hn : n ≤ 8) : (bodyOf N n).size = 1 + 34 * n := by
  rw [bodyOf, app_empty, ByteArray.size_append, cat_size _ (fun x hx => (nms_ok hN n hn x hx).1), nms_len]
  rfl
/-- a request: its number, how many names -/
abbrev Rq := Nat × Nat
def fr (N : Nat → ByteArray) (x : Rq) : ByteArray := frm 2 x.1 (bodyOf N x.2)
def frs (N : Nat → ByteArray) : List Rq → ByteArray
  | [] => ⟨#[]⟩
  | x :: q => fr N x ++ frs N q
theorem frs_add (N : Nat → ByteArray) : ∀ (q : List Rq) (x : Rq), frs N (q ++ [x]) = frs N q ++ fr N x
  | [], x => by rw [List.nil_append, frs, frs, frs, app_empty, empty_app]
  | y :: q, x => by rw [List.cons_append, frs, frs_add N q x, frs, ByteArray.append_assoc]
def zer : Nat → ByteArray
  | 0 => ⟨#[]⟩
  | n + 1 => zer n ++ b8 0
theorem zer_size : ∀ n, (zer n).size = n
  | 0 => rfl
  | n + 1 => by rw [zer, ByteArray.size_append, zer_size n]; rfl
def rep (x : Rq) : ByteArray := frm 130 x.1 (b8 x.2 ++ zer x.2)
theorem rep_size (x : Rq) : (rep x).size = 6 + x.2 := by
  rw [rep, frm_size, ByteArray.size_append, zer_size, b8_size]; omega
def reps : List Rq → ByteArray
  | [] => ⟨#[]⟩
  | x :: q => rep x ++ reps q
theorem reps_add : ∀ (q : List Rq) (x : Rq), reps (q ++ [x]) = reps q ++ rep x
  | [], x => by rw [List.nil_append, reps, reps, reps, app_empty, empty_app]
  | y :: q, x => by rw [List.cons_append, reps, reps_add q x, reps, ByteArray.append_assoc]
def okR (x : Rq) : Prop := x.1 < 65536 ∧ 1 ≤ x.2 ∧ x.2 ≤ 8

theorem three_parts (a b c : ByteArray) (l m : Nat) (ha : a.size = l) (hb : b.size = m) :
    (a ++ (b ++ c)).extract 0 l = a ∧ (a ++ (b ++ c)).extract l (l + m) = b ∧ (a ++ (b ++ c)).extract (l + m) (a ++ (b ++ c)).size = c ∧ (a ++ (b ++ c)).size = l + m + c.size := by
  have hz : (a ++ (b ++ c)).size = l + m + c.size := by rw [ByteArray.size_append, ByteArray.size_append, ha, hb]; omega
  have q1 : a.data.toList.length = l := by rw [← ha]; rfl
  have q2 : b.data.toList.length = m := by rw [← hb]; rfl
  refine ⟨extract_left _ _ _ ha.symm, ?_, ?_, hz⟩
  · apply ByteArray.ext
    apply Array.ext'
    rw [extract_list, Nat.add_sub_cancel_left]
    simp only [ByteArray.data_append, Array.toList_append]
    rw [← q1, List.drop_left, ← q2, List.take_left]
  · rw [hz]
    have e : a ++ (b ++ c) = (a ++ b) ++ c := (ByteArray.append_assoc).symm
    rw [e]
    have h2 : (a ++ b).size = l + m := by rw [ByteArray.size_append, ha, hb]
    exact extract_right _ _ _ _ h2.symm (by rw [h2])
/-- what stands at the front of frames -/
theorem front (N : Nat → ByteArray) (hN : Nok N) (x : Rq) (q : List Rq) (hx : okR x) (s : ByteArray) (hs : s = frs N (x :: q)) :
    num (s.extract 0 2) = 3 + (bodyOf N x.2).size ∧ 2 + (3 + (bodyOf N x.2).size) ≤ s.size ∧ s.extract 2 (2 + (3 + (bodyOf N x.2).size)) = b8 2 ++ ((b8 (x.1 / 256) ++ b8 (x.1 % 256)) ++ (b8 x.2 ++ (cat (nms N x.2) ++ ⟨#[]⟩))) ∧ s.extract (2 + (3 + (bodyOf N x.2).size)) s.size = frs N q := by
  have hb := bodyOf_size hN x.2 hx.2.2
  have h8 := hx.2.2
  have e : s = (b8 ((3 + (bodyOf N x.2).size) / 256) ++ b8 ((3 + (bodyOf N x.2).size) % 256)) ++ (ins 2 x.1 (bodyOf N x.2) ++ frs N q) := by
    rw [hs, frs, fr, frm_split, ByteArray.append_assoc]
  have hn : num (b8 ((3 + (bodyOf N x.2).size) / 256) ++ b8 ((3 + (bodyOf N x.2).size) % 256)) = 3 + (bodyOf N x.2).size := by
    rw [num_b8s _ _ (by omega) (by omega)]; omega
  obtain ⟨p1, p2, p3, p4⟩ := three_parts (b8 ((3 + (bodyOf N x.2).size) / 256) ++ b8 ((3 + (bodyOf N x.2).size) % 256)) (ins 2 x.1 (bodyOf N x.2)) (frs N q) 2 (3 + (bodyOf N x.2).size) (two_size _ _) (ins_size _ _ _)
  rw [← e] at p1 p2 p3 p4
  refine ⟨by rw [p1, hn], by omega, ?_, p3⟩
  rw [p2]
  rfl
end Go.Proofs.YthpmcilljbmoiaaGreatDoor
