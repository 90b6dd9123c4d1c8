import Derived.Test.YthpmcilljbmoiaaGreatDoorZ01
import Derived.Laws.Bits64
import Derived.Laws.BitsLemmas
namespace Go.Proofs.YthpmcilljbmoiaaGreatDoor
open Go.RowKit

theorem orn64 (a b : Nat) (ha : a < 9223372036854775808) (hb : b < 9223372036854775808) : bits .or .i64 (a : Int) (b : Int) = ((a ||| b : Nat) : Int) := by
  have hx : a ||| b < 2 ^ 63 := Nat.or_lt_two_pow (by omega) (by omega)
  show IntKind.i64.wrap ((BitVec.ofInt 64 (a : Int) ||| BitVec.ofInt 64 (b : Int)).toNat : Int) = _
  have h1 : ∀ x : Nat, x < 9223372036854775808 → (BitVec.ofInt 64 (x : Int)).toNat = x := fun x hx => by
    rw [BitVec.toNat_ofInt]; omega
  rw [BitVec.toNat_or, h1 a ha, h1 b hb, IntKind.wrap_i64]
  omega
theorem shlor (x b : Nat) (hx : x < 16777216) (hb : b < 256) : bits .or .i64 ((x : Int) * 256) (b : Int) = ((x * 256 + b : Nat) : Int) := by
  rw [show (x : Int) * 256 = ((x * 256 : Nat) : Int) by omega, orn64 _ _ (by omega) (by omega), Nat.mul_comm]
  exact congrArg _ (Nat.two_pow_add_eq_or_of_lt (i := 8) hb x).symm

/-- the number that bytes tell -/
def num (s : ByteArray) : Nat := s.data.toList.foldl (fun n b => n * 256 + b.toNat) 0
theorem w64 (x : Int) (h0 : 0 ≤ x) (h1 : x < 9223372036854775808) : wrap64 x = x := by
  unfold wrap64; omega
theorem w8 (x : UInt8) : wrap64 (x.toNat : Int) = (x.toNat : Int) := by
  have := x.toNat_lt
  exact w64 _ (by omega) (by omega)
theorem or0 (x : UInt8) : bits .or .i64 0 (wrap64 (x.toNat : Int)) = (x.toNat : Int) := by
  have := x.toNat_lt
  rw [w8]
  have := orn64 0 x.toNat (by omega) (by omega)
  simpa using this
theorem orw (a : Nat) (x : UInt8) (ha : a < 16777216) : bits .or .i64 (wrap64 ((a : Int) * 256)) (wrap64 (x.toNat : Int)) = ((a * 256 + x.toNat : Nat) : Int) := by
  have := x.toNat_lt
  rw [w8, w64 _ (by omega) (by omega), shlor a x.toNat ha (by omega)]
theorem num1 (s : ByteArray) (hs : s.size = 1) : (num s : Int) = (s[0].toNat : Int) := by
  obtain ⟨⟨l⟩⟩ := s
  match l, hs with
  | [x], _ => simp [num]; rfl
theorem num2 (s : ByteArray) (hs : s.size = 2) : (num s : Int) = ((s[0].toNat * 256 + s[1].toNat : Nat) : Int) := by
  obtain ⟨⟨l⟩⟩ := s
  match l, hs with
  | [x, y], _ => simp [num]; rfl
theorem num4 (s : ByteArray) (hs : s.size = 4) : (num s : Int) = ((((s[0].toNat * 256 + s[1].toNat) * 256 + s[2].toNat) * 256 + s[3].toNat : Nat) : Int) := by
  obtain ⟨⟨l⟩⟩ := s
  match l, hs with
  | [x, y, z, u], _ => simp [num]; rfl

set_option maxRecDepth 100000 in
set_option maxHeartbeats 400000 in
theorem numOf1 (s : ByteArray) (w : World) (hs : s.size = 1) :
    Calls Tryz.prog 176 #[.string s] w
      fun r w' => r = .returned (.int .i64 (num s)) ∧ w = w' := by
  go_enter Tryz.func176, Tryz.ntmps176
  go_wp2
  refine wp_loop_rounds 2 ?_
  rw [rounds_succ]
  go_wp2
  rw [rounds_succ]
  go_wp2
  go_ret
  refine ⟨?_, rfl⟩
  show Ending.returned (Value.int .i64 (bits .or .i64 0 (wrap64 (s[0].toNat : Int)))) = _
  have b0 := (s[0]).toNat_lt
  rw [or0, num1 s hs]
set_option maxRecDepth 100000 in
set_option maxHeartbeats 400000 in
theorem numOf2 (s : ByteArray) (w : World) (hs : s.size = 2) :
    Calls Tryz.prog 176 #[.string s] w
      fun r w' => r = .returned (.int .i64 (num s)) ∧ w = w' := by
  go_enter Tryz.func176, Tryz.ntmps176
  go_wp2
  refine wp_loop_rounds 3 ?_
  rw [rounds_succ]
  go_wp2
  rw [rounds_succ]
  go_wp2
  rw [rounds_succ]
  go_wp2
  go_ret
  refine ⟨?_, rfl⟩
  show Ending.returned (Value.int .i64 (bits .or .i64 (wrap64 ((bits .or .i64 0 (wrap64 (s[0].toNat : Int))) * 256)) (wrap64 (s[1].toNat : Int)))) = _
  have b0 := (s[0]).toNat_lt
  have b1 := (s[1]).toNat_lt
  rw [or0, orw (s[0].toNat) s[1] (by omega), num2 s hs]
set_option maxRecDepth 100000 in
set_option maxHeartbeats 400000 in
theorem numOf4 (s : ByteArray) (w : World) (hs : s.size = 4) :
    Calls Tryz.prog 176 #[.string s] w
      fun r w' => r = .returned (.int .i64 (num s)) ∧ w = w' := by
  go_enter Tryz.func176, Tryz.ntmps176
  go_wp2
  refine wp_loop_rounds 5 ?_
  rw [rounds_succ]
  go_wp2
  rw [rounds_succ]
  go_wp2
  rw [rounds_succ]
  go_wp2
  rw [rounds_succ]
  go_wp2
  rw [rounds_succ]
  go_wp2
  go_ret
  refine ⟨?_, rfl⟩
  show Ending.returned (Value.int .i64 (bits .or .i64 (wrap64 ((bits .or .i64 (wrap64 ((bits .or .i64 (wrap64 ((bits .or .i64 0 (wrap64 (s[0].toNat : Int))) * 256)) (wrap64 (s[1].toNat : Int))) * 256)) (wrap64 (s[2].toNat : Int))) * 256)) (wrap64 (s[3].toNat : Int)))) = _
  have b0 := (s[0]).toNat_lt
  have b1 := (s[1]).toNat_lt
  have b2 := (s[2]).toNat_lt
  have b3 := (s[3]).toNat_lt
  rw [or0, orw (s[0].toNat) s[1] (by omega), orw ((s[0].toNat) * 256 + s[1].toNat) s[2] (by omega), orw (((s[0].toNat) * 256 + s[1].toNat) * 256 + s[2].toNat) s[3] (by omega), num4 s hs]
end Go.Proofs.YthpmcilljbmoiaaGreatDoor
namespace Go.Proofs.YthpmcilljbmoiaaGreatDoor
open Go.RowKit

/-- a connection: what came in, what goes out, what is under way, whether it is closed -/
abbrev Cn (w : World) (kb : Nat) (wv gv wk cl : Value) : Prop := Blk w kb 133 #[wv, gv, wk, cl]
theorem bs_ne_cn {w : World} {v : Value} {s : ByteArray} {kb : Nat} {cs : Array Value} {t : TypeId} (h : Bs w 5 v s) (hB : Blk w kb t cs) (ht : 5 ≠ t) : v.ownBlock ≠ some kb := Rw.ne h hB ht

theorem extract_none (s : ByteArray) : s.extract s.size s.size = ⟨#[]⟩ := by
  apply ByteArray.ext
  apply Array.eq_empty_of_size_eq_zero
  have := ByteArray.size_extract (a := s) (b := s.size) (e := s.size)
  simp only [ByteArray.size] at this ⊢
  omega

set_option maxRecDepth 100000 in
set_option maxHeartbeats 400000 in
theorem feed_in (kb : Nat) (wv gv wk cl : Value) (s t : ByteArray) (w : World) (hB : Cn w kb wv gv wk cl) (hw : Bs w 5 wv s) (hsz : s.size + t.size ≤ 6000) :
    Calls Tryz.prog 58 #[.pointer (some ⟨kb, 0, none⟩), .string t] w
      fun r w' => r = .returned (.bool true) ∧ ∃ wv', Cn w' kb wv' gv wk cl ∧ Bs w' 5 wv' (s ++ t) ∧ Kept (fun k => k = kb ∨ wv.ownBlock = some k) w w' ∧ Home w wv wv' := by
  have hne := bs_ne_cn hw hB (by decide)
  obtain ⟨a, c, rfl, hc⟩ := hw.shape
  have c0 : w.cell? ⟨kb, 0, none⟩ = _ := hB.cell 0
  simp at c0
  go_enter Tryz.func58, Tryz.ntmps58
  go_wp2_with (at_builtin; refine wpList_append_bs w rfl (.tmp 18) (.tmp 19) 126 9 rfl 5 Tryz.underlying126 infoU8 _ s rfl hw _ t rfl (Src.ofString w Tryz.underlying9 t) ?_ ?_)
  · omega
  rintro v' w' ⟨b1, k1, h1⟩
  have hB' := hB.kept k1 hne
  have c0' : w'.cell? ⟨kb, 0, none⟩ = _ := hB'.cell 0
  have f0' := hB'.frozen 0
  simp at c0'
  have hne' := bs_ne_cn b1 hB' (by decide)
  obtain ⟨a1, c1, rfl, _⟩ := b1.shape
  go_wp2
  go_ret
  refine ⟨rfl, _, by simpa using hB'.set 0 _, b1.kept ((Kept.refl (fun k => k = kb) w').set _ _ (fun _ => rfl)) (fun k hk e => by subst e; exact hne' hk), ?_, h1⟩
  exact (k1.mono (fun _ _ h => .inr h)).set _ _ (fun _ => .inl rfl)

set_option maxRecDepth 100000 in
set_option maxHeartbeats 400000 in
theorem send_out (kb : Nat) (wv gv wk cl fv : Value) (s t : ByteArray) (w : World) (hB : Cn w kb wv gv wk cl) (hg : Bs w 5 gv s) (hf : Bs w 5 fv t) (hsz : s.size + t.size ≤ 1000000) :
    Calls Tryz.prog 130 #[.pointer (some ⟨kb, 1, none⟩), fv] w
      fun r w' => r = .returned (.tuple #[]) ∧ ∃ gv', Cn w' kb wv gv' wk cl ∧ Bs w' 5 gv' (s ++ t) ∧ Kept (fun k => k = kb ∨ gv.ownBlock = some k) w w' ∧ Home w gv gv' := by
  have hne := bs_ne_cn hg hB (by decide)
  have c0 : w.cell? ⟨kb, 1, none⟩ = _ := hB.cell 1
  simp at c0
  go_enter Tryz.func130, Tryz.ntmps130
  go_wp2_with (at_builtin; refine wpList_append_bs w rfl (.tmp 8) (.tmp 9) 126 126 rfl 5 Tryz.underlying126 infoU8 _ s rfl hg _ t rfl (hf.src Tryz.underlying126) ?_ ?_)
  · omega
  rintro v' w' ⟨b1, k1, h1⟩
  have hB' := hB.kept k1 hne
  have c0' : w'.cell? ⟨kb, 1, none⟩ = _ := hB'.cell 1
  have f0' := hB'.frozen 1
  simp at c0'
  have hne' := bs_ne_cn b1 hB' (by decide)
  obtain ⟨a1, c1, rfl, _⟩ := b1.shape
  go_wp2
  refine bodyPost_end (results_none rfl _ _ _) rfl ⟨rfl, _, by simpa using hB'.set 1 _, b1.kept ((Kept.refl (fun k => k = kb) w').set _ _ (fun _ => rfl)) (fun k hk e => by subst e; exact hne' hk), ?_, h1⟩
  exact (k1.mono (fun _ _ h => .inr h)).set _ _ (fun _ => .inl rfl)

set_option maxRecDepth 100000 in
set_option maxHeartbeats 400000 in
theorem take_out (kb : Nat) (wv gv wk cl : Value) (s : ByteArray) (m : Nat) (w : World) (hB : Cn w kb wv gv wk cl) (hg : Bs w 5 gv s) (hsz : s.size ≤ 1000000) (hm : s.size < m) (_hm2 : m < 9000000000000) :
    Calls Tryz.prog 57 #[.pointer (some ⟨kb, 1, none⟩), .int .i64 m] w
      fun r w' => r = .returned (.string s) ∧ ∃ gv', Cn w' kb wv gv' wk cl ∧ Bs w' 5 gv' ⟨#[]⟩ ∧ Kept (fun k => k = kb) w w' ∧ gv'.ownBlock = gv.ownBlock := by
  have hne := bs_ne_cn hg hB (by decide)
  obtain ⟨a, c, rfl, hc⟩ := hg.shape
  have c0 : w.cell? ⟨kb, 1, none⟩ = _ := hB.cell 1
  have f0 := hB.frozen 1
  simp at c0
  go_enter Tryz.func57, Tryz.ntmps57
  obtain ⟨q3, q4⟩ := Bs.cut rfl hg s.size s.size c (by omega) (by omega) hc (by omega)
  have l2 : ∀ w, (Instr.slice 126 (.slice a s.size c) (some (.int .i64 s.size)) none none).run Tryz.prog w = .ok (sliced a s.size s.size c 1) w := fun w => by
    rw [run_slice_l w _ _ _ _ Tryz.underlying126 _ _ (by omega) (by omega)]; first | rfl | (simp; rfl)
  rw [extract_none] at q3
  generalize sliced a s.size s.size c 1 = V at *
  have hne3 := bs_ne_cn q3 hB (by decide)
  obtain ⟨a2, c2, rfl⟩ := q3.shape0
  have hcv := hg.str (dst := 9) Tryz.underlying126 Tryz.underlying5 Tryz.underlying9
  go_wp2
  go_ret
  refine ⟨rfl, _, by simpa using hB.set 1 _, q3.kept ((Kept.refl (fun k => k = kb) w).set _ _ (fun _ => rfl)) (fun k hk e => by subst e; exact hne3 hk), ?_, q4⟩
  exact (Kept.refl _ _).set _ _ (fun _ => rfl)
set_option maxRecDepth 100000 in
set_option maxHeartbeats 400000 in
/-- a whole frame stands at the front -/
theorem cut_in (kb : Nat) (wv gv wk cl : Value) (s : ByteArray) (L : Nat) (w : World) (hB : Cn w kb wv gv wk cl) (hw : Bs w 5 wv s) (hsz : s.size ≤ 6000) (h2 : 2 + L ≤ s.size) (hL : num (s.extract 0 2) = L) (h1 : 1 ≤ L) (h3 : L ≤ 2000) :
    Calls Tryz.prog 128 #[.pointer (some ⟨kb, 0, none⟩)] w
      fun r w' => ∃ iv wv', r = .returned (.tuple #[iv, .bool true]) ∧ Cn w' kb wv' gv wk cl ∧ Bs w' 5 wv' (s.extract (2 + L) s.size) ∧ Bs w' 5 iv (s.extract 2 (2 + L)) ∧ Kept (fun k => k = kb) w w' ∧ wv'.ownBlock = wv.ownBlock ∧ iv.ownBlock = wv.ownBlock := by
  have hne := bs_ne_cn hw hB (by decide)
  obtain ⟨a, c, rfl, hc⟩ := hw.shape
  have c0 : w.cell? ⟨kb, 0, none⟩ = _ := hB.cell 0
  have f0 := hB.frozen 0
  simp at c0
  obtain ⟨q1, _⟩ := Bs.cut rfl hw 0 2 c (by omega) (by omega) (by omega) (by omega)
  obtain ⟨q3, q4⟩ := Bs.cut rfl hw 2 (2 + L) (2 + L) (by omega) (by omega) (by omega) (by omega)
  obtain ⟨q5, q6⟩ := Bs.cut rfl hw (2 + L) s.size c (by omega) (by omega) hc (by omega)
  have l1 : ∀ w, (Instr.slice 126 (.slice a s.size c) none (some (.int .i64 2)) none).run Tryz.prog w = .ok (sliced a 0 2 c 1) w := fun w => by
    rw [run_slice_h w _ _ _ _ Tryz.underlying126 _ _ (by omega) (by omega)]; first | rfl | (simp; rfl)
  have l2 : ∀ w, (Instr.slice 126 (.slice a s.size c) (some (.int .i64 2)) (some (.int .i64 (2 + (L : Int)))) (some (.int .i64 (2 + (L : Int))))).run Tryz.prog w = .ok (sliced a 2 (2 + L) (2 + L) 1) w := fun w => by
    rw [run_slice_lhm w _ _ _ _ Tryz.underlying126 _ _ _ _ _ _ (by omega) (by omega) (by omega) (by omega), show (2 + (L : Int)).toNat = 2 + L by omega]; first | rfl | (simp; rfl)
  have l3 : ∀ w, (Instr.slice 126 (.slice a s.size c) (some (.int .i64 (2 + (L : Int)))) none none).run Tryz.prog w = .ok (sliced a (2 + L) s.size c 1) w := fun w => by
    rw [run_slice_l w _ _ _ _ Tryz.underlying126 _ _ (by omega) (by omega), show (2 + (L : Int)).toNat = 2 + L by omega]; first | rfl | (simp; rfl)
  have hcv := q1.str (dst := 9) Tryz.underlying126 Tryz.underlying5 Tryz.underlying9
  have HC := hide (numOf2 (s.extract 0 2) w (by rw [ByteArray.size_extract]; omega))
  rw [hL] at HC
  generalize hE2 : s.extract 0 2 = E2 at *
  clear hL hE2 q1
  generalize hE3 : s.extract 2 (2 + L) = E3 at *
  generalize hE4 : s.extract (2 + L) s.size = E4 at *
  generalize sliced a 0 2 c 1 = V1 at *
  generalize sliced a 2 (2 + L) (2 + L) 1 = V2 at *
  generalize sliced a (2 + L) s.size c 1 = V3 at *
  have hne5 := bs_ne_cn q5 hB (by decide)
  have hne3 := bs_ne_cn q3 hB (by decide)
  clear hE3 hE4
  obtain ⟨a5, c5, rfl, _⟩ := q5.shape
  obtain ⟨a3, c3, rfl, _⟩ := q3.shape
  generalize hn4 : E4.size = n4 at *
  generalize hn3 : E3.size = n3 at *
  go_enter Tryz.func128, Tryz.ntmps128
  go_wp2_with (first | (go_at_call 176; refine HC.out.mono ?_; rintro e w1 ⟨rfl, rfl⟩) | fail)
  go_ret2
  have hk : Kept (fun k => k = kb) w (w.setCell ⟨kb, 0, none⟩ (.slice a5 n4 c5)) := (Kept.refl _ _).set _ _ (fun _ => rfl)
  exact ⟨_, _, rfl, by simpa using hB.set 0 _, q5.kept hk (fun k hkk e => by subst e; exact hne5 hkk), q3.kept hk (fun k hkk e => by subst e; exact hne3 hkk), hk, q6, q4⟩
end Go.Proofs.YthpmcilljbmoiaaGreatDoor
namespace Go.Proofs.YthpmcilljbmoiaaGreatDoor
open Go.RowKit

/-- a reader that has not failed, and what is left -/
def Rd (w : World) (rb : Nat) (s : ByteArray) : Prop := ∃ rv, Blk w rb 293 #[rv, .bool false] ∧ Bs w 5 rv s
theorem Rd.below {w w' : World} {rb : Nat} {s : ByteArray} (h : Rd w rb s) (hk : Below w.heap.size w w') : Rd w' rb s := by
  obtain ⟨rv, h1, h2⟩ := h
  exact ⟨rv, h1.below hk h1.lt, h2.below hk⟩
theorem Rd.lt {w : World} {rb : Nat} {s : ByteArray} (h : Rd w rb s) : rb < w.heap.size := by
  obtain ⟨rv, h1, h2⟩ := h
  exact h1.lt

set_option maxRecDepth 100000 in
set_option maxHeartbeats 400000 in
theorem take_ok (rb : Nat) (s : ByteArray) (n : Nat) (w : World) (h : Rd w rb s) (hn : n ≤ s.size) (_hs : s.size ≤ 6000) :
    Calls Tryz.prog 219 #[.pointer (some ⟨rb, 0, none⟩), .int .i64 n] w
      fun r w' => r = .returned (.string (s.extract 0 n)) ∧ Rd w' rb (s.extract n s.size) ∧ Kept (fun k => k = rb) w w' := by
  obtain ⟨rv, hB, hr⟩ := h
  obtain ⟨a, c, rfl, hc⟩ := hr.shape
  have c0 : w.cell? ⟨rb, 0, none⟩ = _ := hB.cell 0
  have c1 : w.cell? ⟨rb, 1, none⟩ = _ := hB.cell 1
  have f0 := hB.frozen 0
  simp at c0 c1
  obtain ⟨q1, _⟩ := Bs.cut rfl hr 0 n c (by omega) (by omega) (by omega) (by omega)
  obtain ⟨q5, q6⟩ := Bs.cut rfl hr n s.size c (by omega) (by omega) hc (by omega)
  have l1 : ∀ w, (Instr.slice 126 (.slice a s.size c) none (some (.int .i64 n)) none).run Tryz.prog w = .ok (sliced a 0 n c 1) w := fun w => by
    rw [run_slice_h w _ _ _ _ Tryz.underlying126 _ _ (by omega) (by omega)]; first | rfl | (simp; rfl)
  have l3 : ∀ w, (Instr.slice 126 (.slice a s.size c) (some (.int .i64 n)) none none).run Tryz.prog w = .ok (sliced a n s.size c 1) w := fun w => by
    rw [run_slice_l w _ _ _ _ Tryz.underlying126 _ _ (by omega) (by omega)]; first | rfl | (simp; rfl)
  have hcv := q1.str (dst := 9) Tryz.underlying126 Tryz.underlying5 Tryz.underlying9
  have hlt : ¬ ((s.size : Int) < (n : Int)) := by omega
  generalize s.extract 0 n = E2 at *
  generalize s.extract n s.size = E4 at *
  generalize sliced a 0 n c 1 = V1 at *
  generalize sliced a n s.size c 1 = V3 at *
  have hne5 := bs_ne_cn q5 hB (by decide)
  obtain ⟨a5, c5, rfl, _⟩ := q5.shape
  generalize hn4 : E4.size = n4 at *
  go_enter Tryz.func219, Tryz.ntmps219
  go_wp2
  go_ret
  have hk : Kept (fun k => k = rb) w (w.setCell ⟨rb, 0, none⟩ (.slice a5 n4 c5)) := (Kept.refl _ _).set _ _ (fun _ => rfl)
  exact ⟨rfl, ⟨_, by simpa using hB.set 0 (.slice a5 n4 c5), q5.kept hk (fun k hkk e => by subst e; exact hne5 hkk)⟩, hk⟩

theorem size_first (s : ByteArray) (n : Nat) (h : n ≤ s.size) : (s.extract 0 n).size = n := by rw [ByteArray.size_extract]; omega

set_option maxRecDepth 100000 in
set_option maxHeartbeats 400000 in
theorem number_ok (rb : Nat) (s : ByteArray) (n : Nat) (w : World) (h : Rd w rb s) (hn : n ≤ s.size) (hs : s.size ≤ 6000) (hn3 : n = 1 ∨ n = 2 ∨ n = 4) :
    Calls Tryz.prog 215 #[.pointer (some ⟨rb, 0, none⟩), .int .i64 n] w
      fun r w' => r = .returned (.int .i64 (num (s.extract 0 n))) ∧ Rd w' rb (s.extract n s.size) ∧ Kept (fun k => k = rb) w w' := by
  have HC := hide (take_ok rb s n w h hn hs)
  have HN : ∀ w, Calls Tryz.prog 176 #[.string (s.extract 0 n)] w fun r w' => r = .returned (.int .i64 (num (s.extract 0 n))) ∧ w = w' := by
    have hsz := size_first s n hn
    intro w
    rcases hn3 with rfl | rfl | rfl
    · exact numOf1 _ w hsz
    · exact numOf2 _ w hsz
    · exact numOf4 _ w hsz
  have HN := hide HN
  clear hn3
  go_enter Tryz.func215, Tryz.ntmps215
  go_wp2_with (first | (go_at_call 219; refine HC.out.mono ?_; rintro e w1 ⟨rfl, hr1, hk1⟩) | (go_at_call 176; refine (HN.out _).mono ?_; rintro e w2 ⟨rfl, rfl⟩))
  go_ret
  exact ⟨rfl, hr1, hk1⟩

set_option maxRecDepth 100000 in
set_option maxHeartbeats 400000 in
theorem within_ok (rb : Nat) (s : ByteArray) (lo hi : Nat) (w : World) (h : Rd w rb s) (hn : 1 ≤ s.size) (hs : s.size ≤ 6000) (h1 : lo ≤ num (s.extract 0 1)) (h2 : num (s.extract 0 1) ≤ hi) :
    Calls Tryz.prog 216 #[.pointer (some ⟨rb, 0, none⟩), .int .i64 lo, .int .i64 hi] w
      fun r w' => r = .returned (.int .i64 (num (s.extract 0 1))) ∧ Rd w' rb (s.extract 1 s.size) ∧ Kept (fun k => k = rb) w w' := by
  have HC := hide (number_ok rb s 1 w h hn hs (.inl rfl))
  have i1 : ¬ ((num (s.extract 0 1) : Int) < lo) := by omega
  have i2 : ¬ ((hi : Int) < num (s.extract 0 1)) := by omega
  go_enter Tryz.func216, Tryz.ntmps216
  go_wp2_with (go_at_call 215; refine HC.out.mono ?_; rintro e w1 ⟨rfl, hr1, hk1⟩)
  go_ret
  exact ⟨rfl, hr1, hk1⟩
end Go.Proofs.YthpmcilljbmoiaaGreatDoor
