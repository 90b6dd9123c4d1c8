import Derived.Test.YthpmcilljbmoiaaGreatDoorZ11
import Derived.Test.YthpmcilljbmoiaaGreatDoorZ12
import Derived.Test.YthpmcilljbmoiaaGreatDoorZ10
namespace Go.Proofs.YthpmcilljbmoiaaGreatDoor
open Go.RowKit

set_option maxRecDepth 100000 in
set_option maxHeartbeats 400000 in
theorem append4_any (v : Value) (s : ByteArray) (n : Nat) (w : World) (hn : n < 4294967296) (hs : s.size ≤ 50000) (hv : Bs w 5 v s) :
    Calls Tryz.prog 112 #[v, .int .i64 n, .int .i64 4] w
      fun r w' => ∃ v', r = .returned v' ∧ Bs w' 5 v' (s ++ b8 (n / 16777216) ++ b8 (n / 65536 % 256) ++ b8 (n / 256 % 256) ++ b8 (n % 256)) ∧ Kept (fun k => v.ownBlock = some k) w w' ∧ Home w v v' := by
  go_enter Tryz.func112, Tryz.ntmps112
  go_wp2
  refine wp_loop_rounds 5 ?_
  rw [rounds_succ]
  go_wp2_with (at_builtin; refine wpList_append_byte w _ rfl (.tmp 15) (.tmp 20) 126 rfl 5 Tryz.underlying126 infoU8 v _ rfl hv rfl (n / 16777216) ?_ ?_ ?_ ?_)
  · omega
  · omega
  · omega
  intro v1 w1 b1 k1 h1
  go_wp2
  rw [rounds_succ]
  go_wp2_with (at_builtin; refine wpList_append_byte w1 _ rfl (.tmp 15) (.tmp 20) 126 rfl 5 Tryz.underlying126 infoU8 v1 _ rfl b1 rfl (n / 65536 % 256) ?_ ?_ ?_ ?_)
  · omega
  · omega
  · simp only [ByteArray.size_append, b8_size]; omega
  intro v2 w2 b2 k2 h2
  go_wp2
  rw [rounds_succ]
  go_wp2_with (at_builtin; refine wpList_append_byte w2 _ rfl (.tmp 15) (.tmp 20) 126 rfl 5 Tryz.underlying126 infoU8 v2 _ rfl b2 rfl (n / 256 % 256) ?_ ?_ ?_ ?_)
  · omega
  · omega
  · simp only [ByteArray.size_append, b8_size]; omega
  intro v3 w3 b3 k3 h3
  go_wp2
  rw [rounds_succ]
  go_wp2_with (at_builtin; refine wpList_append_byte w3 _ rfl (.tmp 15) (.tmp 20) 126 rfl 5 Tryz.underlying126 infoU8 v3 _ rfl b3 rfl (n % 256) ?_ ?_ ?_ ?_)
  · omega
  · omega
  · simp only [ByteArray.size_append, b8_size]; omega
  intro v4 w4 b4 k4 h4
  go_wp2
  rw [rounds_succ]
  go_wp2
  go_ret
  have h12 := h1.trans k1.size h2
  have k12 := k1.next k2 h1.old
  have h13 := h12.trans k12.size h3
  have k13 := k12.next k3 h12.old
  exact ⟨_, rfl, b4, k13.next k4 h13.old, h13.trans k13.size h4⟩
/-- four bytes of a number -/
def num4b (n : Nat) : ByteArray := b8 (n / 16777216) ++ b8 (n / 65536 % 256) ++ b8 (n / 256 % 256) ++ b8 (n % 256)
set_option maxRecDepth 100000 in
set_option maxHeartbeats 400000 in
/-- no lease is told -/
theorem tell_none (w : World) : Calls Tryz.prog 180 #[.pointer none] w fun r w' => ∃ v, r = .returned v ∧ Bs w' 5 v (b8 0 ++ num4b 0) ∧ Below w.heap.size w w' ∧ Fresh w.heap.size v := by
  have HN := hide (no_any w)
  have HA : Hid (∀ v w1, Bs w1 5 v (b8 0) → Below w.heap.size w w1 → Fresh w.heap.size v → Calls Tryz.prog 112 #[v, .int .i64 0, .int .i64 4] w1 fun r w' => ∃ v', r = .returned v' ∧ Bs w' 5 v' (b8 0 ++ num4b 0) ∧ Below w.heap.size w w' ∧ Fresh w.heap.size v') := fun v w1 h hb hf => by
    have := append4_any v (b8 0) 0 w1 (by omega) (by decide) h
    refine this.mono ?_
    rintro e w' ⟨v', q1, q2, q3, q4⟩
    refine ⟨v', q1, ?_, hb.trans (hf.below q3 hb.size), hf.home q4 hb.size⟩
    simp only [num4b, ByteArray.append_assoc] at q2 ⊢
    exact q2
  go_enter Tryz.func180, Tryz.ntmps180
  go_wp2_with (first | (go_at_call 183; refine HN.out.mono ?_; rintro e w1 ⟨v1, rfl, b1, k1, f1⟩) | (go_at_call 112; refine (HA.out v1 w1 b1 k1 f1).mono ?_; rintro e w2 ⟨v2, rfl, b2, k2, f2⟩))
  go_ret
  exact ⟨v2, rfl, b2, k2, f2⟩
set_option maxRecDepth 100000 in
set_option maxHeartbeats 400000 in
/-- a lease is told -/
theorem tell_some (lb : Nat) (x : Le) (nv : Value) (w : World) (h : Lm w lb x nv) (hn : x.num < 4294967296) : Calls Tryz.prog 180 #[.pointer (some ⟨lb, 0, none⟩)] w fun r w' => ∃ v, r = .returned v ∧ Bs w' 5 v (b8 1 ++ num4b x.num) ∧ Below w.heap.size w w' ∧ Fresh w.heap.size v := by
  have HN := hide (yes_any w)
  have HU : Hid (∀ w1, Below w.heap.size w w1 → Calls Tryz.prog 220 #[.pointer (some ⟨lb, 0, none⟩)] w1 fun r w' => r = .returned (.int .i64 x.num) ∧ w1 = w') := fun w1 hb => lnum_any lb x nv w1 (h.below hb)
  have HA : Hid (∀ v w1, Bs w1 5 v (b8 1) → Below w.heap.size w w1 → Fresh w.heap.size v → Calls Tryz.prog 112 #[v, .int .i64 x.num, .int .i64 4] w1 fun r w' => ∃ v', r = .returned v' ∧ Bs w' 5 v' (b8 1 ++ num4b x.num) ∧ Below w.heap.size w w' ∧ Fresh w.heap.size v') := fun v w1 h hb hf => by
    have := append4_any v (b8 1) x.num w1 hn (by decide) h
    refine this.mono ?_
    rintro e w' ⟨v', q1, q2, q3, q4⟩
    refine ⟨v', q1, ?_, hb.trans (hf.below q3 hb.size), hf.home q4 hb.size⟩
    simp only [num4b, ByteArray.append_assoc] at q2 ⊢
    exact q2
  clear h
  generalize x.num = z at *
  go_enter Tryz.func180, Tryz.ntmps180
  go_wp2_with (first | (go_at_call 186; refine HN.out.mono ?_; rintro e w1 ⟨v1, rfl, b1, k1, f1⟩) | (go_at_call 220; refine (HU.out _ k1).mono ?_; rintro e w2 ⟨rfl, rfl⟩) | (go_at_call 112; refine (HA.out v1 w1 b1 k1 f1).mono ?_; rintro e w3 ⟨v2, rfl, b2, k2, f2⟩))
  go_ret
  exact ⟨v2, rfl, b2, k2, f2⟩
end Go.Proofs.YthpmcilljbmoiaaGreatDoor
namespace Go.Proofs.YthpmcilljbmoiaaGreatDoor
open Go.RowKit

variable {w : World} {sb : Nat} {l : List Bl} {room held pinned : Int} {bv : Value}
/-- the i-th blob with p pins -/
def pinsAt (l : List Bl) (i : Nat) (h : i < l.length) (p : Nat) : List Bl := l.set i { l[i] with pn := p }
/-- what becomes of a shard's pinned bytes -/
def pinDelta (l : List Bl) (i : Nat) (h : i < l.length) : Int := if l[i].pn = 0 then (l[i].bs.size : Int) else 0
def unpinDelta (l : List Bl) (i : Nat) (h : i < l.length) : Int := if l[i].pn = 1 then (l[i].bs.size : Int) else 0

set_option maxRecDepth 100000 in
set_option maxHeartbeats 1000000 in
theorem pin_sh (nm : ByteArray) (i : Nat) (hi : i < l.length) (hx : ixB l nm = some i) (h : Sh w sb l room held pinned bv) (hl : l.length ≤ 1000) (hp : l[i].pn < 10000) (hb : l[i].bs.size ≤ 200) (hz : 0 ≤ pinned ∧ pinned ≤ 50000) :
    Calls Tryz.prog 184 #[.pointer (some ⟨sb, 0, none⟩), .string nm] w fun r w' => r = .returned (.bool true) ∧ Sh w' sb (pinsAt l i hi (l[i].pn + 1)) room held (pinned + pinDelta l i hi) bv ∧ Kept (fun k => k = sb ∨ bv.ownBlock = some k) w w' := by
  have HF := hide (find_sh sb l room held pinned bv nm w h hl)
  rw [hx] at HF
  have HF : Hid (Calls Tryz.prog 167 #[.pointer (some ⟨sb, 0, none⟩), .string nm] w fun r w' => r = .returned (.int .i64 (i : Int)) ∧ w = w') := HF.out
  obtain ⟨b, off, cap, rfl, c0, fz, hne, q0, q1, q2, q3⟩ := h.at i hi
  have f3 := fz (off + i * 4 + 3)
  have g1 : (i : Int) < (l.length : Int) := by omega
  have g2 : (0 : Int) ≤ (i : Int) := by omega
  have g3 : ¬ ((i : Int) < 0) := by omega
  have fin : Hid (∀ w1 z, Sh w1 sb l room held z (.slice (some ⟨b, off, none⟩) l.length cap) → Sh (w1.setCell ⟨b, off + i * 4 + 3, none⟩ (.int .i64 ((l[i].pn : Int) + 1))) sb (pinsAt l i hi (l[i].pn + 1)) room held z (.slice (some ⟨b, off, none⟩) l.length cap)) := fun w1 z hs =>
    hs.put i 3 hi (by omega) _ _ (by simp [Bl.cells])
  by_cases h0 : l[i].pn = 0
  · have hd : pinDelta l i hi = (l[i].bs.size : Int) := by unfold pinDelta; rw [if_pos h0]
    rw [hd]
    have HK : Hid (Calls Tryz.prog 192 #[.pointer (some ⟨sb, 1, none⟩), .int .i64 l[i].bs.size] (World.drew w) fun r w' => r = .returned (.tuple #[]) ∧ Sh w' sb l room held (pinned + l[i].bs.size) (.slice (some ⟨b, off, none⟩) l.length cap) ∧ Kept (fun k => k = sb) w w' ∧ w'.cell? ⟨b, off + i * 4 + 3, none⟩ = some (.int .i64 l[i].pn) ∧ w'.frozen? ⟨b, off + i * 4 + 3, none⟩ = false) := by
      have hsd : Sh (World.drew w) sb l room held pinned (.slice (some ⟨b, off, none⟩) l.length cap) := ⟨h.1.drew, Rw.drew h.2⟩
      refine (keep_sh l[i].bs.size hsd (by omega)).mono ?_
      rintro e w' ⟨r1, rfl⟩
      have hs := (hsd.led (pinned + l[i].bs.size)).2
      obtain ⟨b', off', cap', e1, _, fz', _, _, _, _, q3'⟩ := hs.at i hi
      injection e1 with e1 _ e2
      injection e1 with e1
      injection e1 with e3 e4
      subst e3 e4 e2
      exact ⟨r1, hs, ((Kept.refl (fun k => k = sb) w).drew).set _ _ (fun _ => rfl), q3', fz' _⟩
    have fin' : Hid (∀ w1, Sh w1 sb l room held (pinned + l[i].bs.size) (.slice (some ⟨b, off, none⟩) l.length cap) → Sh (w1.setCell ⟨b, off + i * 4 + 3, none⟩ (.int .i64 1)) sb (pinsAt l i hi (l[i].pn + 1)) room held (pinned + l[i].bs.size) (.slice (some ⟨b, off, none⟩) l.length cap)) := fun w1 hs => by
      have := fin.out w1 _ hs
      rw [h0] at this
      rw [h0]
      exact this
    rw [h0] at q3
    have HK2 : Hid (Calls Tryz.prog 192 #[.pointer (some ⟨sb, 1, none⟩), .int .i64 l[i].bs.size] (World.drew w) fun r w' => r = .returned (.tuple #[]) ∧ Sh w' sb l room held (pinned + l[i].bs.size) (.slice (some ⟨b, off, none⟩) l.length cap) ∧ Kept (fun k => k = sb) w w' ∧ w'.cell? ⟨b, off + i * 4 + 3, none⟩ = some (.int .i64 0) ∧ w'.frozen? ⟨b, off + i * 4 + 3, none⟩ = false) := by
      refine HK.out.mono ?_
      rintro e w' ⟨r1, r2, r3, r4, r5⟩
      rw [h0] at r4
      exact ⟨r1, r2, r3, r4, r5⟩
    clear HK fin h fz hx hd
    generalize pinsAt l i hi (l[i].pn + 1) = L' at *
    generalize l[i].bs = bs at *
    clear h0 hp q0 q2
    go_enter Tryz.func184, Tryz.ntmps184
    go_wp2_with (go_at_call 167; refine HF.out.mono ?_; rintro e w1 ⟨rfl, rfl⟩)
    go_region_with (go_at_call 192; refine HK2.out.mono ?_; rintro e w2 ⟨rfl, h2, k2, e3, e4⟩)
    all_goals
      go_wp2
      go_ret
      exact ⟨rfl, fin'.out _ h2, (k2.mono (fun _ _ h => .inl h)).set _ _ (fun _ => .inr rfl)⟩
  · have hd : pinDelta l i hi = 0 := by unfold pinDelta; rw [if_neg h0]
    rw [hd, Int.add_zero]
    have HP := hide (fin.out w pinned h)
    have h1 : ¬ ((l[i].pn : Int) = 0) := by omega
    clear fin h fz hx hd
    generalize pinsAt l i hi (l[i].pn + 1) = L' at *
    generalize l[i].pn = p at *
    clear h0 q0 q1 q2
    go_enter Tryz.func184, Tryz.ntmps184
    go_wp2_with (go_at_call 167; refine HF.out.mono ?_; rintro e w1 ⟨rfl, rfl⟩)
    go_ret
    exact ⟨rfl, HP.out, (Kept.refl _ _).set _ _ (fun _ => .inr rfl)⟩

set_option maxRecDepth 100000 in
set_option maxHeartbeats 1000000 in
/-- a pin is taken from the i-th blob -/
theorem unpin_at (nm : ByteArray) (i : Nat) (hi : i < l.length) (hx : ixB l nm = some i) (h : Sh w sb l room held pinned bv) (hl : l.length ≤ 1000) (hp : l[i].pn < 10000) (hp0 : 0 < l[i].pn) (hb : l[i].bs.size ≤ 200) (hz : 0 ≤ pinned ∧ pinned ≤ 50000) :
    Calls Tryz.prog 141 #[.pointer (some ⟨sb, 0, none⟩), .string nm] w fun r w' => r = .returned (.tuple #[]) ∧ Sh w' sb (pinsAt l i hi (l[i].pn - 1)) room held (pinned - unpinDelta l i hi) bv ∧ Kept (fun k => k = sb ∨ bv.ownBlock = some k) w w' := by
  have HF := hide (find_sh sb l room held pinned bv nm w h hl)
  rw [hx] at HF
  have HF : Hid (Calls Tryz.prog 167 #[.pointer (some ⟨sb, 0, none⟩), .string nm] w fun r w' => r = .returned (.int .i64 (i : Int)) ∧ w = w') := HF.out
  obtain ⟨b, off, cap, rfl, c0, fz, hne, q0, q1, q2, q3⟩ := h.at i hi
  have f3 := fz (off + i * 4 + 3)
  have g1 : (i : Int) < (l.length : Int) := by omega
  have g2 : (0 : Int) ≤ (i : Int) := by omega
  have g3 : ¬ ((i : Int) < 0) := by omega
  have hpi : ¬ ((l[i].pn : Int) = 0) := by omega
  have hS1 : Sh (w.setCell ⟨b, off + i * 4 + 3, none⟩ (.int .i64 ((l[i].pn : Int) - 1))) sb (pinsAt l i hi (l[i].pn - 1)) room held pinned (.slice (some ⟨b, off, none⟩) l.length cap) :=
    h.put i 3 hi (by omega) _ _ (by simp [Bl.cells]; omega)
  have hK1 : Kept (fun k => k = sb ∨ (Value.slice (some ⟨b, off, none⟩) l.length cap).ownBlock = some k) w (w.setCell ⟨b, off + i * 4 + 3, none⟩ (.int .i64 ((l[i].pn : Int) - 1))) := (Kept.refl _ _).set _ _ (fun _ => .inr rfl)
  have hil : i < (pinsAt l i hi (l[i].pn - 1)).length := by simp [pinsAt]; exact hi
  have hbs : ((pinsAt l i hi (l[i].pn - 1))[i]'hil).bs = l[i].bs := by simp [pinsAt]
  have hpn : ((pinsAt l i hi (l[i].pn - 1))[i]'hil).pn = l[i].pn - 1 := by simp [pinsAt]
  obtain ⟨b', off', cap', e1, c0', fz', _, p0, p1, p2, p3⟩ := hS1.at i hil
  injection e1 with e1 hle e2
  injection e1 with e1
  injection e1 with e3 e4 e5
  subst e3 e4 e2
  clear hle e5
  rw [hbs] at p1
  rw [hpn] at p3
  by_cases h1 : l[i].pn = 1
  · have hd : unpinDelta l i hi = (l[i].bs.size : Int) := by unfold unpinDelta; rw [if_pos h1]
    rw [hd]
    have HK : Hid (Calls Tryz.prog 192 #[.pointer (some ⟨sb, 1, none⟩), .int .i64 (-(l[i].bs.size : Int))] (World.drew (w.setCell ⟨b, off + i * 4 + 3, none⟩ (.int .i64 ((l[i].pn : Int) - 1)))) fun r w' => r = .returned (.tuple #[]) ∧ Sh w' sb (pinsAt l i hi (l[i].pn - 1)) room held (pinned - l[i].bs.size) (.slice (some ⟨b, off, none⟩) l.length cap) ∧ Kept (fun k => k = sb ∨ (Value.slice (some ⟨b, off, none⟩) l.length cap).ownBlock = some k) w w') := by
      have hsd : Sh (World.drew (w.setCell ⟨b, off + i * 4 + 3, none⟩ (.int .i64 ((l[i].pn : Int) - 1)))) sb (pinsAt l i hi (l[i].pn - 1)) room held pinned (.slice (some ⟨b, off, none⟩) l.length cap) := ⟨hS1.1.drew, Rw.drew hS1.2⟩
      refine (keep_sh (-(l[i].bs.size : Int)) hsd (by omega)).mono ?_
      rintro e w' ⟨r1, rfl⟩
      exact ⟨r1, (hsd.led (pinned + -(l[i].bs.size : Int))).2, hK1.drew.set _ _ (fun _ => .inl rfl)⟩
    have hw : w.setCell ⟨b, off + i * 4 + 3, none⟩ (.int .i64 ((l[i].pn : Int) - 1)) = w.setCell ⟨b, off + i * 4 + 3, none⟩ (.int .i64 0) := by rw [h1]; rfl
    rw [h1] at q3
    rw [hw] at HK p1 p3
    have p3' : (w.setCell ⟨b, off + i * 4 + 3, none⟩ (.int .i64 0)).cell? ⟨b, off + i * 4 + 3, none⟩ = some (.int .i64 0) := by rw [p3, h1]; rfl
    clear h hS1 hK1 fz fz' hx hd hw p3 p0 p2 hbs hpn c0'
    generalize pinsAt l i hi (l[i].pn - 1) = L' at *
    generalize l[i].bs = bs at *
    clear h1 hp hp0 hpi q0 q2
    have hwr : IntKind.i64.wrap (-(bs.size : Int)) = -(bs.size : Int) := by rw [IntKind.wrap_i64]; omega
    have HK3 : Hid (Calls Tryz.prog 192 #[.pointer (some ⟨sb, 1, none⟩), .int .i64 (IntKind.i64.wrap (-(bs.size : Int)))] (World.drew (w.setCell ⟨b, off + i * 4 + 3, none⟩ (.int .i64 0))) fun r w' => r = .returned (.tuple #[]) ∧ Sh w' sb L' room held (pinned - bs.size) (.slice (some ⟨b, off, none⟩) l.length cap) ∧ Kept (fun k => k = sb ∨ (Value.slice (some ⟨b, off, none⟩) l.length cap).ownBlock = some k) w w') := by
      rw [hwr]
      exact HK.out
    clear HK hwr
    go_enter Tryz.func141, Tryz.ntmps141
    go_wp2_with (go_at_call 167; refine HF.out.mono ?_; rintro e w1 ⟨rfl, rfl⟩)
    generalize w.setCell ⟨b, off + i * 4 + 3, none⟩ (.int .i64 0) = W2 at *
    clear q1 q3 p3' c0 f3
    go_region_with (go_at_call 192; refine HK3.out.mono ?_; rintro e w2 ⟨rfl, h2, k2⟩)
    all_goals
      go_wp2
      exact bodyPost_end (results_none rfl _ _ _) rfl ⟨rfl, h2, k2⟩
  · have hd : unpinDelta l i hi = 0 := by unfold unpinDelta; rw [if_neg h1]
    rw [hd, Int.sub_zero]
    have h1i : ¬ ((l[i].pn : Int) - 1 = 0) := by omega
    have h1j : ¬ ((l[i].pn : Int) = 1) := by omega
    have HS1 := hide hS1
    clear h hS1 fz fz' hx hd p0 p1 p2 p3 hbs hpn c0'
    generalize pinsAt l i hi (l[i].pn - 1) = L' at *
    generalize l[i].pn = p at *
    have hd3 : decide ((i : Int) < 0) = false := decide_eq_false g3
    have hq0 : ((p : Int) == 0) = false := beq_eq_false_iff_ne.2 hpi
    have hq1 : ((p : Int) - 1 == 0) = false := beq_eq_false_iff_ne.2 h1i
    clear h1 q0 q1 q2
    go_enter Tryz.func141, Tryz.ntmps141
    go_wp2_with (go_at_call 167; refine HF.out.mono ?_; rintro e w1 ⟨rfl, rfl⟩)
    exact bodyPost_end (results_none rfl _ _ _) rfl ⟨rfl, HS1.out, hK1⟩
end Go.Proofs.YthpmcilljbmoiaaGreatDoor
namespace Go.Proofs.YthpmcilljbmoiaaGreatDoor
open Go.RowKit

/-- a depot's shards, whatever they hold -/
structure Shp (w : World) (db b off m cap : Nat) (sh : Nat → Nat) : Prop where
  sl : w.cell? ⟨db, 0, none⟩ = some (.slice (some ⟨b, off, none⟩) m cap)
  at_ : ∀ k, k < m → w.cell? ⟨b, off + k, none⟩ = some (.pointer (some ⟨sh k, 0, none⟩))
  m0 : 0 < m
  m8 : m ≤ 8
set_option maxRecDepth 100000 in
set_option maxHeartbeats 1000000 in
theorem shardOf_p (db b off m cap : Nat) (sh : Nat → Nat) (nm : ByteArray) (w : World) (h : Shp w db b off m cap sh) (hn : 2 < nm.size) :
    Calls Tryz.prog 140 #[.pointer (some ⟨db, 0, none⟩), .string nm] w
      fun r w' => r = .returned (.pointer (some ⟨sh (nm[2].toNat % m), 0, none⟩)) ∧ Below w.heap.size w w' := by
  have c0 := h.sl
  have hk : nm[2].toNat % m < m := Nat.mod_lt _ h.m0
  have c1 := h.at_ _ hk
  have HS : Hid (∀ w1, Calls Tryz.prog 85 #[.string nm, .int .i64 m] w1 fun r w' => r = .returned (.int .i64 ((nm[2].toNat % m : Nat) : Int)) ∧ w1 = w') := fun w1 => shard_no nm m w1 hn h.m0 h.m8
  have h0 := h.m0
  clear h
  generalize nm[2].toNat % m = k at *
  have hki : (k : Int) < (m : Int) := by omega
  have hk0 : (0 : Int) ≤ (k : Int) := by omega
  go_enter Tryz.func140, Tryz.ntmps140
  go_wp2
  go_quiet (first | (go_at_call 85; exact Calls.quiet_of_same ((HS.out _).mono (fun _ _ h => ⟨h.1, h.2.symm⟩))))
  go_wp2
  go_ret
  exact ⟨rfl, ⟨rfl, rfl, rfl, Nat.le_refl _, fun _ _ => rfl⟩⟩
/-- the shard of this name is sb -/
def SOf (w : World) (db sb : Nat) (nm : ByteArray) : Prop := ∀ w1, Below w.heap.size w w1 → Calls Tryz.prog 140 #[.pointer (some ⟨db, 0, none⟩), .string nm] w1 fun r w' => r = .returned (.pointer (some ⟨sb, 0, none⟩)) ∧ Below w1.heap.size w1 w'
theorem Shp.sof {w : World} {db b off m cap : Nat} {sh : Nat → Nat} (h : Shp w db b off m cap sh) (nm : ByteArray) (hn : 2 < nm.size) : SOf w db (sh (nm[2].toNat % m)) nm := fun w1 hb => by
  have h1 : Shp w1 db b off m cap sh := ⟨by rw [hb.cell (World.block_lt_of_cell? _ _ h.sl)]; exact h.sl, fun k hk => by rw [hb.cell (World.block_lt_of_cell? _ _ (h.at_ k hk))]; exact h.at_ k hk, h.m0, h.m8⟩
  exact shardOf_p db b off m cap sh nm w1 h1 hn
theorem Sh.below {w w' : World} {sb : Nat} {l : List Bl} {room held pinned : Int} {bv : Value} (h : Sh w sb l room held pinned bv) (hk : Below w.heap.size w w') : Sh w' sb l room held pinned bv := ⟨h.1.below hk h.1.lt, Rw.below h.2 hk⟩

variable {w : World} {db sb : Nat} {l : List Bl} {room held pinned : Int} {bv : Value}
set_option maxRecDepth 100000 in
set_option maxHeartbeats 1000000 in
/-- Read of a blob that is not held -/
theorem read_no (nm : ByteArray) (hso : SOf w db sb nm) (hS : Sh w sb l room held pinned bv) (hl : l.length ≤ 1000) (hx : ixB l nm = none) :
    Calls Tryz.prog 134 #[.pointer (some ⟨db, 0, none⟩), .string nm] w fun r w' => ∃ v, r = .returned v ∧ Bs w' 5 v (b8 0) ∧ Below w.heap.size w w' ∧ Fresh w.heap.size v := by
  have H1 := hide (hso w (Below.refl _ _))
  have H2 : Hid (∀ w1, Below w.heap.size w w1 → Calls Tryz.prog 187 #[.pointer (some ⟨sb, 0, none⟩), .string nm] w1 fun r w' => r = .returned (.tuple #[.string ⟨#[]⟩, .bool false]) ∧ w1 = w') := fun w1 hb => by
    have HF := find_sh sb l room held pinned bv nm w1 (hS.below hb) hl
    rw [hx] at HF
    have HF : Hid (Calls Tryz.prog 167 #[.pointer (some ⟨sb, 0, none⟩), .string nm] w1 fun r w' => r = .returned (.int .i64 (-1)) ∧ w1 = w') := HF
    go_enter Tryz.func187, Tryz.ntmps187
    go_wp2_with (go_at_call 167; refine HF.out.mono ?_; rintro e w2 ⟨rfl, rfl⟩)
    go_ret2
    exact ⟨rfl, rfl⟩
  have H3 := hide no_any
  clear hso hS
  go_enter Tryz.func134, Tryz.ntmps134
  go_wp2_with (first | (go_at_call 140; refine H1.out.mono ?_; rintro e w1 ⟨rfl, k1⟩) | (go_at_call 187; refine (H2.out w1 k1).mono ?_; rintro e w2 ⟨rfl, rfl⟩) | (go_at_call 183; refine (H3.out _).mono ?_; rintro e w3 ⟨v, rfl, b3, k3, f3⟩))
  go_ret
  exact ⟨v, rfl, b3, k1.trans (k3.mono k1.size), f3.mono k1.size⟩
set_option maxRecDepth 100000 in
set_option maxHeartbeats 1000000 in
/-- Read of a blob that is held -/
theorem read_yes (nm : ByteArray) (i : Nat) (hi : i < l.length) (hso : SOf w db sb nm) (hS : Sh w sb l room held pinned bv) (hl : l.length ≤ 1000) (hx : ixB l nm = some i) (hz : l[i].bs.size ≤ 200) :
    Calls Tryz.prog 134 #[.pointer (some ⟨db, 0, none⟩), .string nm] w fun r w' => ∃ v, r = .returned v ∧ Bs w' 5 v (b8 1 ++ b8 (l[i].bs.size / 256) ++ b8 (l[i].bs.size % 256) ++ l[i].bs) ∧ Sh w' sb (marked l i hi) room held pinned bv ∧ Kept (fun k => bv.ownBlock = some k) w w' ∧ Fresh w.heap.size v := by
  have H1 := hide (hso w (Below.refl _ _))
  have H2 : Hid (∀ w1, Below w.heap.size w w1 → Calls Tryz.prog 187 #[.pointer (some ⟨sb, 0, none⟩), .string nm] w1 fun r w' => r = .returned (.tuple #[.string l[i].bs, .bool true]) ∧ Sh w' sb (marked l i hi) room held pinned bv ∧ Kept (fun k => bv.ownBlock = some k) w w') := fun w1 hb => by
    refine (sread_sh nm i hi hx (hS.below hb) hl).mono ?_
    rintro e w' ⟨q1, q2, q3⟩
    exact ⟨q1, q2, (Kept.ofBelow hb).next q3 (fun _ _ h => h)⟩
  have H3 := hide yes_any
  have H4 : Hid (∀ v w1 w2, Bs w2 5 v (b8 1) → Below w1.heap.size w1 w2 → Fresh w1.heap.size v → Calls Tryz.prog 112 #[v, .int .i64 l[i].bs.size, .int .i64 2] w2 fun r w' => ∃ v', r = .returned v' ∧ Bs w' 5 v' (b8 1 ++ b8 (l[i].bs.size / 256) ++ b8 (l[i].bs.size % 256)) ∧ Below w1.heap.size w1 w' ∧ Fresh w1.heap.size v') := fun v w1 w2 h hb hf => by
    refine (append2_any v (b8 1) l[i].bs.size w2 (by omega) (by decide) h).mono ?_
    rintro e w' ⟨v', q1, q2, q3, q4⟩
    exact ⟨v', q1, q2, hb.trans (hf.below q3 hb.size), hf.home q4 hb.size⟩
  clear hso hS
  generalize marked l i hi = L' at *
  generalize l[i].bs = bs at *
  go_enter Tryz.func134, Tryz.ntmps134
  go_wp2_with (first | (go_at_call 140; refine H1.out.mono ?_; rintro e w1 ⟨rfl, k1⟩) | (go_at_call 187; refine (H2.out w1 k1).mono ?_; rintro e w2 ⟨rfl, s2, k2⟩) | (go_at_call 186; refine (H3.out _).mono ?_; rintro e w3 ⟨v3, rfl, b3, k3, f3⟩) | (go_at_call 112; refine (H4.out v3 w2 w3 b3 k3 f3).mono ?_; rintro e w4 ⟨v4, rfl, b4, k4, f4⟩) | (at_builtin; refine wpList_append_bs w4 rfl (.tmp 21) (.tmp 22) 126 9 rfl 5 Tryz.underlying126 infoU8 _ _ rfl b4 _ bs rfl (Src.ofString w4 Tryz.underlying9 bs) ?_ ?_))
  · simp only [ByteArray.size_append, b8_size]; omega
  rintro v5 w5 ⟨b5, k5, o5⟩
  have hb5 : Below w2.heap.size w2 w5 := k4.trans (f4.below k5 k4.size)
  have hf5 : Fresh w2.heap.size v5 := f4.home o5 k4.size
  obtain ⟨a5, c5, rfl, _⟩ := b5.shape
  go_wp2
  go_ret
  exact ⟨_, rfl, b5, s2.below hb5, k2.below hb5, hf5.mono k2.size⟩
set_option maxRecDepth 100000 in
set_option maxHeartbeats 1000000 in
/-- Find of a blob that is not held -/
theorem find_no (nm : ByteArray) (lp : Option Addr) (hso : SOf w db sb nm) (hS : Sh w sb l room held pinned bv) (hl : l.length ≤ 1000) (hx : ixB l nm = none) :
    Calls Tryz.prog 133 #[.pointer (some ⟨db, 0, none⟩), .string nm, .pointer lp] w fun r w' => ∃ v, r = .returned v ∧ Bs w' 5 v (b8 0) ∧ Below w.heap.size w w' ∧ Fresh w.heap.size v := by
  have H1 := hide (hso w (Below.refl _ _))
  have H2 : Hid (∀ w1, Below w.heap.size w w1 → Calls Tryz.prog 182 #[.pointer (some ⟨sb, 0, none⟩), .string nm] w1 fun r w' => r = .returned (.bool false) ∧ w1 = w') := fun w1 hb => by
    have := holds_sh nm (hS.below hb) hl
    rw [hx] at this
    exact this
  have H3 := hide no_any
  clear hso hS
  go_enter Tryz.func133, Tryz.ntmps133
  go_wp2_with (first | (go_at_call 140; refine H1.out.mono ?_; rintro e w1 ⟨rfl, k1⟩) | (go_at_call 182; refine (H2.out w1 k1).mono ?_; rintro e w2 ⟨rfl, rfl⟩) | (go_at_call 183; refine (H3.out _).mono ?_; rintro e w3 ⟨v, rfl, b3, k3, f3⟩))
  go_ret
  exact ⟨v, rfl, b3, k1.trans (k3.mono k1.size), f3.mono k1.size⟩
set_option maxRecDepth 100000 in
set_option maxHeartbeats 1000000 in
/-- Find of a blob that is held, without a lease -/
theorem find_held (nm : ByteArray) (i : Nat) (hso : SOf w db sb nm) (hS : Sh w sb l room held pinned bv) (hl : l.length ≤ 1000) (hx : ixB l nm = some i) :
    Calls Tryz.prog 133 #[.pointer (some ⟨db, 0, none⟩), .string nm, .pointer none] w fun r w' => ∃ v, r = .returned v ∧ Bs w' 5 v (b8 1) ∧ Below w.heap.size w w' ∧ Fresh w.heap.size v := by
  have H1 := hide (hso w (Below.refl _ _))
  have H2 : Hid (∀ w1, Below w.heap.size w w1 → Calls Tryz.prog 182 #[.pointer (some ⟨sb, 0, none⟩), .string nm] w1 fun r w' => r = .returned (.bool true) ∧ w1 = w') := fun w1 hb => by
    have := holds_sh nm (hS.below hb) hl
    rw [hx] at this
    exact this
  have H3 := hide yes_any
  clear hso hS
  go_enter Tryz.func133, Tryz.ntmps133
  go_wp2_with (first | (go_at_call 140; refine H1.out.mono ?_; rintro e w1 ⟨rfl, k1⟩) | (go_at_call 182; refine (H2.out w1 k1).mono ?_; rintro e w2 ⟨rfl, rfl⟩) | (go_at_call 186; refine (H3.out _).mono ?_; rintro e w3 ⟨v, rfl, b3, k3, f3⟩))
  go_ret
  exact ⟨v, rfl, b3, k1.trans (k3.mono k1.size), f3.mono k1.size⟩
end Go.Proofs.YthpmcilljbmoiaaGreatDoor
