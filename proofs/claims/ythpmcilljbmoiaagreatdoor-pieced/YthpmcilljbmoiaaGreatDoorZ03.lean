import Derived.Test.YthpmcilljbmoiaaGreatDoorZ02
namespace Go.Proofs.YthpmcilljbmoiaaGreatDoor
open Go.RowKit

theorem extract_left (x y : ByteArray) (n : Nat) (hn : n = x.size) : (x ++ y).extract 0 n = x := by
  subst hn
  apply ByteArray.ext
  apply Array.ext'
  rw [extract_list]
  simp
theorem extract_right (x y : ByteArray) (n m : Nat) (hn : n = x.size) (hm : m = x.size + y.size) : (x ++ y).extract n m = y := by
  subst hn hm
  apply ByteArray.ext
  apply Array.ext'
  rw [extract_list]
  simp
  exact List.take_of_length_le (Nat.le_of_eq rfl)
theorem take_pre (rb : Nat) (x y : ByteArray) (n : Nat) (w : World) (h : Rd w rb (x ++ y)) (hn : n = x.size) (hs : x.size + y.size ≤ 6000) :
    Calls Tryz.prog 219 #[.pointer (some ⟨rb, 0, none⟩), .int .i64 n] w
      fun r w' => r = .returned (.string x) ∧ Rd w' rb y ∧ Kept (fun k => k = rb) w w' := by
  have := take_ok rb (x ++ y) n w h (by rw [ByteArray.size_append]; omega) (by rw [ByteArray.size_append]; exact hs)
  rwa [extract_left x y n hn, extract_right x y n _ hn ByteArray.size_append] at this
theorem number_pre (rb : Nat) (x y : ByteArray) (n : Nat) (w : World) (h : Rd w rb (x ++ y)) (hn : n = x.size) (hs : x.size + y.size ≤ 6000) (hn3 : n = 1 ∨ n = 2 ∨ n = 4) :
    Calls Tryz.prog 215 #[.pointer (some ⟨rb, 0, none⟩), .int .i64 n] w
      fun r w' => r = .returned (.int .i64 (num x)) ∧ Rd w' rb y ∧ Kept (fun k => k = rb) w w' := by
  have := number_ok rb (x ++ y) n w h (by rw [ByteArray.size_append]; omega) (by rw [ByteArray.size_append]; exact hs) hn3
  rwa [extract_left x y n hn, extract_right x y n _ hn ByteArray.size_append] at this
theorem within_pre (rb : Nat) (x y : ByteArray) (lo hi : Nat) (w : World) (h : Rd w rb (x ++ y)) (hn : x.size = 1) (hs : y.size ≤ 5000) (h1 : lo ≤ num x) (h2 : num x ≤ hi) :
    Calls Tryz.prog 216 #[.pointer (some ⟨rb, 0, none⟩), .int .i64 lo, .int .i64 hi] w
      fun r w' => r = .returned (.int .i64 (num x)) ∧ Rd w' rb y ∧ Kept (fun k => k = rb) w w' := by
  have := within_ok rb (x ++ y) lo hi w h (by rw [ByteArray.size_append]; omega) (by rw [ByteArray.size_append]; omega) (by rw [extract_left x y 1 hn.symm]; exact h1) (by rw [extract_left x y 1 hn.symm]; exact h2)
  rwa [extract_left x y 1 hn.symm, extract_right x y 1 _ hn.symm ByteArray.size_append] at this
theorem number1 (rb : Nat) (x y : ByteArray) (w : World) (h : Rd w rb (x ++ y)) (hn : x.size = 1) (hs : y.size ≤ 5000) :
    Calls Tryz.prog 215 #[.pointer (some ⟨rb, 0, none⟩), .int .i64 1] w
      fun r w' => r = .returned (.int .i64 (num x)) ∧ Rd w' rb y ∧ Kept (fun k => k = rb) w w' := number_pre rb x y 1 w h hn.symm (by omega) (.inl rfl)
theorem number2 (rb : Nat) (x y : ByteArray) (w : World) (h : Rd w rb (x ++ y)) (hn : x.size = 2) (hs : y.size ≤ 5000) :
    Calls Tryz.prog 215 #[.pointer (some ⟨rb, 0, none⟩), .int .i64 2] w
      fun r w' => r = .returned (.int .i64 (num x)) ∧ Rd w' rb y ∧ Kept (fun k => k = rb) w w' := number_pre rb x y 2 w h hn.symm (by omega) (.inr (.inl rfl))
theorem number4 (rb : Nat) (x y : ByteArray) (w : World) (h : Rd w rb (x ++ y)) (hn : x.size = 4) (hs : y.size ≤ 5000) :
    Calls Tryz.prog 215 #[.pointer (some ⟨rb, 0, none⟩), .int .i64 4] w
      fun r w' => r = .returned (.int .i64 (num x)) ∧ Rd w' rb y ∧ Kept (fun k => k = rb) w w' := number_pre rb x y 4 w h hn.symm (by omega) (.inr (.inr rfl))
theorem take4 (rb : Nat) (x y : ByteArray) (w : World) (h : Rd w rb (x ++ y)) (hn : x.size = 4) (hs : y.size ≤ 5000) :
    Calls Tryz.prog 219 #[.pointer (some ⟨rb, 0, none⟩), .int .i64 4] w
      fun r w' => r = .returned (.string x) ∧ Rd w' rb y ∧ Kept (fun k => k = rb) w w' := take_pre rb x y 4 w h hn.symm (by omega)
theorem within50 (rb : Nat) (x y : ByteArray) (w : World) (h : Rd w rb (x ++ y)) (hn : x.size = 1) (hs : y.size ≤ 5000) (h2 : num x ≤ 50) :
    Calls Tryz.prog 216 #[.pointer (some ⟨rb, 0, none⟩), .int .i64 0, .int .i64 50] w
      fun r w' => r = .returned (.int .i64 (num x)) ∧ Rd w' rb y ∧ Kept (fun k => k = rb) w w' := within_pre rb x y 0 50 w h hn hs (by omega) h2
end Go.Proofs.YthpmcilljbmoiaaGreatDoor
namespace Go.Proofs.YthpmcilljbmoiaaGreatDoor
open Go.RowKit

/-- a frame -/
def frm (kind id : Nat) (body : ByteArray) : ByteArray := b8 ((3 + body.size) / 256) ++ b8 ((3 + body.size) % 256) ++ b8 kind ++ b8 (id / 256) ++ b8 (id % 256) ++ body
theorem frm_size (kind id : Nat) (body : ByteArray) : (frm kind id body).size = 5 + body.size := by
  simp only [frm, ByteArray.size_append, b8_size]

/-- a slice that lies from block B on -/
def Fresh (B : Nat) (v : Value) : Prop := ∀ k, v.ownBlock = some k → B ≤ k
theorem Fresh.nil (B n c : Nat) : Fresh B (.slice none n c) := fun k h => by simp [Value.ownBlock] at h
theorem Fresh.home {B : Nat} {w : World} {v v' : Value} (h : Fresh B v) (hh : Home w v v') (hB : B ≤ w.heap.size) : Fresh B v' := by
  intro k hk
  rcases hh with h1 | ⟨j, h1, h2⟩
  · exact h k (h1 ▸ hk)
  · rw [h2] at hk; injection hk with hk; omega
theorem Fresh.below {B : Nat} {w w' : World} {v : Value} (h : Fresh B v) (hk : Kept (fun k => v.ownBlock = some k) w w') (hB : B ≤ w.heap.size) : Below B w w' :=
  hk.toBelow (fun k hkB e => by have := h k e; omega) hB
theorem Fresh.mono {B B' : Nat} {v : Value} (h : Fresh B v) (hB : B' ≤ B) : Fresh B' v := fun k hk => Nat.le_trans hB (h k hk)
theorem empty_app (s : ByteArray) : (⟨#[]⟩ : ByteArray) ++ s = s := ByteArray.empty_append

set_option maxRecDepth 100000 in
set_option maxHeartbeats 400000 in
theorem frame_any (kind id : Nat) (bv : Value) (body : ByteArray) (w : World) (hb : Bs w 5 bv body) (hk : kind < 256) (hi : id < 65536) (hs : body.size ≤ 2500) :
    Calls Tryz.prog 178 #[.int .i64 kind, .int .i64 id, bv] w
      fun r w' => ∃ v, r = .returned v ∧ Bs w' 5 v (frm kind id body) ∧ Below w.heap.size w w' ∧ Fresh w.heap.size v := by
  have HC1 := append2_any (.slice none 0 0) ⟨#[]⟩ (3 + body.size) w (by omega) (by decide) (Bs.nil w _)
  have e3 : ((3 + body.size : Nat) : Int) = 3 + (body.size : Int) := by omega
  rw [e3] at HC1
  have HC1 : Hid (Calls Tryz.prog 112 #[.slice none 0 0, .int .i64 (3 + (body.size : Int)), .int .i64 2] w
      fun r w' => ∃ v', r = .returned v' ∧ Bs w' 5 v' (b8 ((3 + body.size) / 256) ++ b8 ((3 + body.size) % 256)) ∧ Below w.heap.size w w' ∧ Fresh w.heap.size v') := by
    refine HC1.mono ?_
    rintro e w' ⟨v', h1, h2, h3, h4⟩
    rw [empty_app] at h2
    have f0 := Fresh.nil w.heap.size 0 0
    exact ⟨v', h1, h2, f0.below h3 (Nat.le_refl _), f0.home h4 (Nat.le_refl _)⟩
  have HC2 : Hid (∀ v s w1, s.size ≤ 50000 → Bs w1 5 v s → Below w.heap.size w w1 → Fresh w.heap.size v → Calls Tryz.prog 112 #[v, .int .i64 kind, .int .i64 1] w1
      fun r w' => ∃ v', r = .returned v' ∧ Bs w' 5 v' (s ++ b8 kind) ∧ Below w.heap.size w w' ∧ Fresh w.heap.size v') := fun v s w1 hs h hb hf => by
    refine (append1_any v s kind w1 hk hs h).mono ?_
    rintro e w' ⟨v', h1, h2, h3, h4⟩
    exact ⟨v', h1, h2, hb.trans (hf.below h3 hb.size), hf.home h4 hb.size⟩
  have HC3 : Hid (∀ v s w1, s.size ≤ 50000 → Bs w1 5 v s → Below w.heap.size w w1 → Fresh w.heap.size v → Calls Tryz.prog 112 #[v, .int .i64 id, .int .i64 2] w1
      fun r w' => ∃ v', r = .returned v' ∧ Bs w' 5 v' (s ++ b8 (id / 256) ++ b8 (id % 256)) ∧ Below w.heap.size w w' ∧ Fresh w.heap.size v') := fun v s w1 hs h hb hf => by
    refine (append2_any v s id w1 hi hs h).mono ?_
    rintro e w' ⟨v', h1, h2, h3, h4⟩
    exact ⟨v', h1, h2, hb.trans (hf.below h3 hb.size), hf.home h4 hb.size⟩
  obtain ⟨a, c, rfl, hc⟩ := hb.shape
  go_enter Tryz.func178, Tryz.ntmps178
  go_wp2_with (first | (go_at_call 112; refine (HC3.out v2 _ w2 (by simp only [ByteArray.size_append, b8_size]; decide) b2 k2 h2).mono ?_; rintro e w3 ⟨v3, rfl, b3, k3, h3⟩) | (go_at_call 112; refine (HC2.out v1 _ w1 (by simp only [ByteArray.size_append, b8_size]; decide) b1 k1 h1).mono ?_; rintro e w2 ⟨v2, rfl, b2, k2, h2⟩) | (go_at_call 112; refine HC1.out.mono ?_; rintro e w1 ⟨v1, rfl, b1, k1, h1⟩) | (at_builtin; refine wpList_append_bs w3 rfl (.tmp 18) (.tmp 19) 126 126 rfl 5 Tryz.underlying126 infoU8 v3 _ rfl b3 _ body rfl (Bs.src Tryz.underlying126 (hb.below k3)) ?_ ?_))
  · simp only [ByteArray.size_append, b8_size]; omega
  intro v4 w4 h4
  go_wp2
  go_ret
  obtain ⟨q1, q2, q3⟩ := h4
  exact ⟨v4, rfl, q1, k3.trans (h3.below q2 k3.size), h3.home q3 k3.size⟩

set_option maxRecDepth 100000 in
set_option maxHeartbeats 400000 in
theorem reply_any (kind id : Nat) (bv : Value) (body : ByteArray) (w : World) (hb : Bs w 5 bv body) (hk : kind < 100) (hi : id < 65536) (hs : body.size ≤ 2500) :
    Calls Tryz.prog 255 #[.agg #[.int .i64 kind, .int .i64 id], bv] w
      fun r w' => ∃ v, r = .returned v ∧ Bs w' 5 v (frm (kind + 128) id body) ∧ Below w.heap.size w w' ∧ Fresh w.heap.size v := by
  have hA := Below.alloc (Below.refl w.heap.size w) (Nat.le_refl _) (.cells #[.int .i64 kind, .int .i64 id] 239)
  have HC := frame_any (kind + 128) id bv body (w.alloc (.cells #[.int .i64 kind, .int .i64 id] 239)) (hb.below hA) (by omega) hi hs
  have e3 : ((kind + 128 : Nat) : Int) = (kind : Int) + 128 := by omega
  rw [e3] at HC
  have HC := hide HC
  go_enter Tryz.func255, Tryz.ntmps255
  go_wp2_with (go_at_call 178; refine HC.out.mono ?_; rintro e w1 ⟨v, rfl, b1, k1, f1⟩)
  go_ret
  exact ⟨v, rfl, b1, hA.trans (k1.mono (by simp)), f1.mono (by simp)⟩
end Go.Proofs.YthpmcilljbmoiaaGreatDoor
