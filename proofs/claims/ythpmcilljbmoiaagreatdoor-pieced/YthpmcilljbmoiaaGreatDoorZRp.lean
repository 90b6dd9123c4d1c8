import Derived.Test.YthpmcilljbmoiaaGreatDoorZ24
import Derived.Deep.CutBlock
namespace Go.Proofs.YthpmcilljbmoiaaGreatDoor
open Go.RowKit

set_option maxRecDepth 100000 in
set_option maxHeartbeats 1000000 in
theorem request_fd (rb id : Nat) (x0 x1 x : RS) (w : World) (h : Rf w rb x0) (hs : x0.1.size ≤ 6000) (hN1 : nb 1 x0 = (1, x1)) (hN2 : nb 2 x1 = (id, x)) :
    Calls Tryz.prog 177 #[.pointer (some ⟨rb, 0, none⟩)] w fun r w' => RqP w rb (rqk 1 id x) r w' := by
  have hs1 : x1.1.size ≤ 6000 := by have := tk_le 1 x0; have e : x1 = (tk 1 x0).2 := (congrArg Prod.snd hN1).symm; rw [e]; omega
  have hs2 : x.1.size ≤ 6000 := by have := tk_le 2 x1; have e : x = (tk 2 x1).2 := (congrArg Prod.snd hN2).symm; rw [e]; omega
  have HC1 := hide (number_f rb x0 1 w h hs (.inl rfl))
  rw [hN1] at HC1
  have HC2 : Hid (∀ w, Rf w rb x1 → Calls Tryz.prog 215 #[.pointer (some ⟨rb, 0, none⟩), .int .i64 2] w fun r w' => r = .returned (.int .i64 id) ∧ Rf w' rb x ∧ Kept (fun k => k = rb) w w') := fun w h => by
    have := number_f rb x1 2 w h hs1 (.inr (.inl rfl))
    rw [hN2] at this
    exact this
  have hlt := h.lt
  clear h hN1 hN2
  unfold rqk
  rw [if_pos (show (1 : Nat) = 1 from rfl)]
  have hwle := wi_le 1 100 x
  have HWi : Hid (∀ w1, Rf w1 rb x → Calls Tryz.prog 216 #[.pointer (some ⟨rb, 0, none⟩), .int .i64 1, .int .i64 100] w1 fun r w' => r = .returned (.int .i64 (wi 1 100 x).1) ∧ Rf w' rb (wi 1 100 x).2 ∧ Kept (fun k => k = rb) w1 w') := fun w1 h => within_f rb x 1 100 w1 h hs2
  have HT : Hid (∀ w1, Rf w1 rb (wi 1 100 x).2 → Calls Tryz.prog 217 #[.pointer (some ⟨rb, 0, none⟩)] w1 fun r w' => ∃ a c, r = .returned (.agg #[.slice a (li (wi 1 100 x).2).1.length c]) ∧ Rw w' 9 1 (.slice a (li (wi 1 100 x).2).1.length c) (li (wi 1 100 x).2).1.length ((li (wi 1 100 x).2).1.map Value.string) ∧ Rf w' rb (li (wi 1 100 x).2).2 ∧ Kept (fun k => k = rb) w1 w' ∧ Fresh w1.heap.size (.slice a (li (wi 1 100 x).2).1.length c)) := fun w1 h => by
    refine (list_f rb (wi 1 100 x).2 w1 h (by omega)).mono ?_
    rintro e w' ⟨sv, q1, q2, q3, q4, q5⟩
    obtain ⟨a, c, rfl⟩ := Rw.shape q2
    exact ⟨a, c, q1, q2, q3, q4, q5⟩
  generalize li (wi 1 100 x).2 = TX at *
  obtain ⟨ns, X⟩ := TX
  generalize wi 1 100 x = WX at *
  obtain ⟨ttl, Y⟩ := WX
  simp only at HT HWi ⊢
  obtain ⟨nl, hnl⟩ : ∃ nl, Hid (ns.length = nl) := ⟨_, rfl⟩
  rw [hnl.out] at HT
  go_enter Tryz.func177, Tryz.ntmps177
  go_upto_region 5 with (first | (go_at_call 215; refine (HC2.out _ hr1).mono ?_; rintro e w2 ⟨rfl, hr2, hk2⟩) | (go_at_call 215; refine HC1.out.mono ?_; rintro e w1 ⟨rfl, hr1, hk1⟩))
  have hA := Below.alloc (Below.refl w2.heap.size w2) (Nat.le_refl _) (.cells #[.int .i64 1, .int .i64 id] 239)
  have hr3 := hr2.below hA
  have hd3 := Blk.new w2 239 #[.int .i64 1, .int .i64 id]
  have hlt2 := hr2.lt
  have hK3 : Kept (fun k => k = rb) w (w2.alloc (.cells #[.int .i64 1, .int .i64 id] 239)) := (hk1.trans hk2).alloc _
  clear hA HC1 HC2 hk1 hk2 hr2 hr1
  generalize hW3 : w2.alloc (.cells #[.int .i64 1, .int .i64 id] 239) = W3 at *
  clear hW3
  generalize w2.heap.size = H at *
  have e0 : W3.cell? ⟨H, 0, none⟩ = some (.int .i64 1) := hd3.cell 0
  have e1 : W3.cell? ⟨H, 1, none⟩ = some (.int .i64 id) := hd3.cell 1
  have HW4 : Hid (Calls Tryz.prog 216 #[.pointer (some ⟨rb, 0, none⟩), .int .i64 1, .int .i64 100] W3 fun r w' => r = .returned (.int .i64 ttl) ∧ Rf w' rb Y ∧ Kept (fun k => k = rb) w w' ∧ Blk w' H 239 #[.int .i64 1, .int .i64 id] ∧ w'.cell? ⟨H, 0, none⟩ = some (.int .i64 1) ∧ w'.cell? ⟨H, 1, none⟩ = some (.int .i64 id)) := by
    refine (HWi.out W3 hr3).mono ?_
    rintro e w' ⟨q1, q2, q3⟩
    have := hd3.kept q3 (by omega)
    exact ⟨q1, q2, hK3.trans q3, this, this.cell 0, this.cell 1⟩
  clear HWi
  go_wp2_with (go_at_call 216; refine HW4.out.mono ?_; rintro e W4 ⟨rfl, hr4, hK4, hd4, e2, e3⟩)
  have HC4 : Hid (Calls Tryz.prog 217 #[.pointer (some ⟨rb, 0, none⟩)] (World.drew W4) fun r w' => ∃ a c, r = .returned (.agg #[.slice a nl c]) ∧ Rw w' 9 1 (.slice a nl c) nl (ns.map Value.string) ∧ Rf w' rb X ∧ Kept (fun k => k = rb) w w' ∧ Fresh w.heap.size (.slice a nl c) ∧ w'.cell? ⟨H, 0, none⟩ = some (.int .i64 1) ∧ w'.cell? ⟨H, 1, none⟩ = some (.int .i64 id)) := by
    refine (HT.out (World.drew W4) hr4).mono ?_
    rintro e w' ⟨a, c, q1, q2, q3, q4, q5⟩
    have := hd4.drew.kept q4 (by omega)
    exact ⟨a, c, q1, q2, q3, hK4.drew.trans q4, q5.mono hK4.size, this.cell 0, this.cell 1⟩
  clear HT HW4 e0 e1
  go_region_with (go_at_call 217; refine HC4.out.mono ?_; rintro e w3 ⟨a3, c3, rfl, r3, hr5, hk5, f5, e5, e6⟩)
  all_goals
    go_wp2
    go_ret
    have hn := hnl.out
    subst hn
    exact ⟨_, rfl, ⟨a3, c3, rfl, r3, f5⟩, hr5, hk5⟩

set_option maxRecDepth 100000 in
set_option maxHeartbeats 1000000 in
theorem request_pt (rb id : Nat) (x0 x1 x : RS) (w : World) (h : Rf w rb x0) (hs : x0.1.size ≤ 6000) (hN1 : nb 1 x0 = (5, x1)) (hN2 : nb 2 x1 = (id, x)) :
    Calls Tryz.prog 177 #[.pointer (some ⟨rb, 0, none⟩)] w fun r w' => RqP w rb (rqk 5 id x) r w' := by
  have hs1 : x1.1.size ≤ 6000 := by have := tk_le 1 x0; have e : x1 = (tk 1 x0).2 := (congrArg Prod.snd hN1).symm; rw [e]; omega
  have hs2 : x.1.size ≤ 6000 := by have := tk_le 2 x1; have e : x = (tk 2 x1).2 := (congrArg Prod.snd hN2).symm; rw [e]; omega
  have HC1 := hide (number_f rb x0 1 w h hs (.inl rfl))
  rw [hN1] at HC1
  have HC2 : Hid (∀ w, Rf w rb x1 → Calls Tryz.prog 215 #[.pointer (some ⟨rb, 0, none⟩), .int .i64 2] w fun r w' => r = .returned (.int .i64 id) ∧ Rf w' rb x ∧ Kept (fun k => k = rb) w w') := fun w h => by
    have := number_f rb x1 2 w h hs1 (.inr (.inl rfl))
    rw [hN2] at this
    exact this
  have hlt := h.lt
  clear h hN1 hN2
  unfold rqk
  rw [if_neg (show ¬ (5 : Nat) = 1 by omega)]
  rw [if_neg (show ¬ (5 : Nat) = 2 by omega)]
  rw [if_neg (show ¬ (5 : Nat) = 3 by omega)]
  rw [if_neg (show ¬ (5 : Nat) = 4 by omega)]
  rw [if_pos (show (5 : Nat) = 5 from rfl)]
  have hkle := tk_le 4 x
  have hwle := wi_le 0 50 (tk 4 x).2
  have hwhi := wi_hi 0 50 (tk 4 x).2
  have HTk : Hid (∀ w1, Rf w1 rb x → Calls Tryz.prog 219 #[.pointer (some ⟨rb, 0, none⟩), .int .i64 4] w1 fun r w' => r = .returned (.string (tk 4 x).1) ∧ Rf w' rb (tk 4 x).2 ∧ Kept (fun k => k = rb) w1 w') := fun w1 h => take_f rb x 4 w1 h hs2 (by omega)
  have HWi : Hid (∀ w1, Rf w1 rb (tk 4 x).2 → Calls Tryz.prog 216 #[.pointer (some ⟨rb, 0, none⟩), .int .i64 0, .int .i64 50] w1 fun r w' => r = .returned (.int .i64 (wi 0 50 (tk 4 x).2).1) ∧ Rf w' rb (wi 0 50 (tk 4 x).2).2 ∧ Kept (fun k => k = rb) w1 w') := fun w1 h => within_f rb (tk 4 x).2 0 50 w1 h (by omega)
  have HTv : Hid (∀ w1, Rf w1 rb (wi 0 50 (tk 4 x).2).2 → Calls Tryz.prog 219 #[.pointer (some ⟨rb, 0, none⟩), .int .i64 (wi 0 50 (tk 4 x).2).1] w1 fun r w' => r = .returned (.string (tk (wi 0 50 (tk 4 x).2).1 (wi 0 50 (tk 4 x).2).2).1) ∧ Rf w' rb (tk (wi 0 50 (tk 4 x).2).1 (wi 0 50 (tk 4 x).2).2).2 ∧ Kept (fun k => k = rb) w1 w') := fun w1 h => take_f rb (wi 0 50 (tk 4 x).2).2 _ w1 h (by omega) (by omega)
  generalize tk (wi 0 50 (tk 4 x).2).1 (wi 0 50 (tk 4 x).2).2 = VX at *
  obtain ⟨val, X⟩ := VX
  generalize wi 0 50 (tk 4 x).2 = WX at *
  obtain ⟨ln, Y⟩ := WX
  generalize tk 4 x = TX at *
  obtain ⟨key, Z⟩ := TX
  simp only at HTk HWi HTv ⊢
  go_enter Tryz.func177, Tryz.ntmps177
  go_upto_region 14 with (first | (go_at_call 215; refine (HC2.out _ hr1).mono ?_; rintro e w2 ⟨rfl, hr2, hk2⟩) | (go_at_call 215; refine HC1.out.mono ?_; rintro e w1 ⟨rfl, hr1, hk1⟩))
  have hA := Below.alloc (Below.refl w2.heap.size w2) (Nat.le_refl _) (.cells #[.int .i64 5, .int .i64 id] 239)
  have hr3 := hr2.below hA
  have hd3 := Blk.new w2 239 #[.int .i64 5, .int .i64 id]
  have hlt2 := hr2.lt
  have hK3 : Kept (fun k => k = rb) w (w2.alloc (.cells #[.int .i64 5, .int .i64 id] 239)) := (hk1.trans hk2).alloc _
  clear hA HC1 HC2 hk1 hk2 hr2 hr1
  generalize hW3 : w2.alloc (.cells #[.int .i64 5, .int .i64 id] 239) = W3 at *
  clear hW3
  generalize w2.heap.size = H at *
  have e0 : W3.cell? ⟨H, 0, none⟩ = some (.int .i64 5) := hd3.cell 0
  have e1 : W3.cell? ⟨H, 1, none⟩ = some (.int .i64 id) := hd3.cell 1
  have HK4 : Hid (Calls Tryz.prog 219 #[.pointer (some ⟨rb, 0, none⟩), .int .i64 4] W3 fun r w' => r = .returned (.string key) ∧ Rf w' rb Z ∧ Kept (fun k => k = rb) w w' ∧ Blk w' H 239 #[.int .i64 5, .int .i64 id] ∧ w'.cell? ⟨H, 0, none⟩ = some (.int .i64 5) ∧ w'.cell? ⟨H, 1, none⟩ = some (.int .i64 id)) := by
    refine (HTk.out W3 hr3).mono ?_
    rintro e w' ⟨q1, q2, q3⟩
    have := hd3.kept q3 (by omega)
    exact ⟨q1, q2, hK3.trans q3, this, this.cell 0, this.cell 1⟩
  clear HTk
  go_wp2_with (go_at_call 219; refine HK4.out.mono ?_; rintro e W4 ⟨rfl, hr4, hK4, hd4, e2, e3⟩)
  have HC6 : Hid (Calls Tryz.prog 216 #[.pointer (some ⟨rb, 0, none⟩), .int .i64 0, .int .i64 50] (World.drew W4) fun r w' => r = .returned (.int .i64 ln) ∧ Rf w' rb Y ∧ Kept (fun k => k = rb) w w' ∧ Blk w' H 239 #[.int .i64 5, .int .i64 id] ∧ w'.cell? ⟨H, 0, none⟩ = some (.int .i64 5) ∧ w'.cell? ⟨H, 1, none⟩ = some (.int .i64 id)) := by
    refine (HWi.out (World.drew W4) hr4).mono ?_
    rintro e w' ⟨q1, q2, q3⟩
    have := hd4.drew.kept q3 (by omega)
    exact ⟨q1, q2, hK4.drew.trans q3, this, this.cell 0, this.cell 1⟩
  have HC7 : Hid (∀ w1, Rf w1 rb Y → Blk w1 H 239 #[.int .i64 5, .int .i64 id] → Calls Tryz.prog 219 #[.pointer (some ⟨rb, 0, none⟩), .int .i64 ln] w1 fun r w' => r = .returned (.string val) ∧ Rf w' rb X ∧ Kept (fun k => k = rb) w1 w' ∧ w'.cell? ⟨H, 0, none⟩ = some (.int .i64 5) ∧ w'.cell? ⟨H, 1, none⟩ = some (.int .i64 id)) := fun w1 h hd => by
    refine (HTv.out w1 h).mono ?_
    rintro e w' ⟨q1, q2, q3⟩
    have := hd.kept q3 (by omega)
    exact ⟨q1, q2, q3, this.cell 0, this.cell 1⟩
  clear HWi HTv HK4 e0 e1
  go_region_with (first | (go_at_call 219; refine (HC7.out w4 hr5 hd5).mono ?_; rintro e w5 ⟨rfl, hr6, hk6, e6, e7⟩) | (go_at_call 216; refine HC6.out.mono ?_; rintro e w4 ⟨rfl, hr5, hk5, hd5, e4, e5⟩))
  all_goals
    go_wp2
    go_ret
    exact ⟨_, rfl, rfl, hr6, hk5.trans hk6⟩

set_option maxRecDepth 100000 in
set_option maxHeartbeats 1000000 in
theorem request_nil (rb id : Nat) (k : Nat) (x0 x1 x : RS) (w : World) (h : Rf w rb x0) (hs : x0.1.size ≤ 6000) (hN1 : nb 1 x0 = (k, x1)) (hN2 : nb 2 x1 = (id, x)) (hk : k = 0 ∨ 6 < k) :
    Calls Tryz.prog 177 #[.pointer (some ⟨rb, 0, none⟩)] w fun r w' => RqP w rb (rqk k id x) r w' := by
  have hs1 : x1.1.size ≤ 6000 := by have := tk_le 1 x0; have e : x1 = (tk 1 x0).2 := (congrArg Prod.snd hN1).symm; rw [e]; omega
  have hs2 : x.1.size ≤ 6000 := by have := tk_le 2 x1; have e : x = (tk 2 x1).2 := (congrArg Prod.snd hN2).symm; rw [e]; omega
  have HC1 := hide (number_f rb x0 1 w h hs (.inl rfl))
  rw [hN1] at HC1
  have HC2 : Hid (∀ w, Rf w rb x1 → Calls Tryz.prog 215 #[.pointer (some ⟨rb, 0, none⟩), .int .i64 2] w fun r w' => r = .returned (.int .i64 id) ∧ Rf w' rb x ∧ Kept (fun k => k = rb) w w') := fun w h => by
    have := number_f rb x1 2 w h hs1 (.inr (.inl rfl))
    rw [hN2] at this
    exact this
  have hlt := h.lt
  clear h hN1 hN2
  unfold rqk
  rw [if_neg (show ¬ (k : Nat) = 1 by omega)]
  have i1 : ¬ ((k : Int) = 1) := by omega
  rw [if_neg (show ¬ (k : Nat) = 2 by omega)]
  have i2 : ¬ ((k : Int) = 2) := by omega
  rw [if_neg (show ¬ (k : Nat) = 3 by omega)]
  have i3 : ¬ ((k : Int) = 3) := by omega
  rw [if_neg (show ¬ (k : Nat) = 4 by omega)]
  have i4 : ¬ ((k : Int) = 4) := by omega
  rw [if_neg (show ¬ (k : Nat) = 5 by omega)]
  have i5 : ¬ ((k : Int) = 5) := by omega
  rw [if_neg (show ¬ (k : Nat) = 6 by omega)]
  have i6 : ¬ ((k : Int) = 6) := by omega
  clear hk
  go_enter Tryz.func177, Tryz.ntmps177
  go_upto_region 3 with (first | (go_at_call 215; refine (HC2.out _ hr1).mono ?_; rintro e w2 ⟨rfl, hr2, hk2⟩) | (go_at_call 215; refine HC1.out.mono ?_; rintro e w1 ⟨rfl, hr1, hk1⟩))
  have hA := Below.alloc (Below.refl w2.heap.size w2) (Nat.le_refl _) (.cells #[.int .i64 k, .int .i64 id] 239)
  have hr3 := hr2.below hA
  have hd3 := Blk.new w2 239 #[.int .i64 k, .int .i64 id]
  have hlt2 := hr2.lt
  have hK3 : Kept (fun k => k = rb) w (w2.alloc (.cells #[.int .i64 k, .int .i64 id] 239)) := (hk1.trans hk2).alloc _
  clear hA HC1 HC2 hk1 hk2 hr2 hr1
  generalize hW3 : w2.alloc (.cells #[.int .i64 k, .int .i64 id] 239) = W3 at *
  clear hW3
  generalize w2.heap.size = H at *
  have e0 : W3.cell? ⟨H, 0, none⟩ = some (.int .i64 k) := hd3.cell 0
  have e1 : W3.cell? ⟨H, 1, none⟩ = some (.int .i64 id) := hd3.cell 1
  go_wp2
  go_ret
  exact ⟨_, rfl, rfl, hr3, hK3⟩

/-- a request of whatever kind -/
theorem request_f (rb : Nat) (x : RS) (w : World) (h : Rf w rb x) (hs : x.1.size ≤ 6000) :
    Calls Tryz.prog 177 #[.pointer (some ⟨rb, 0, none⟩)] w fun r w' => RqP w rb (rq x) r w' := by
  unfold rq
  obtain ⟨k, hk⟩ : ∃ k, (nb 1 x).1 = k := ⟨_, rfl⟩
  have e1 : nb 1 x = (k, (nb 1 x).2) := by rw [← hk]
  have e2 : nb 2 (nb 1 x).2 = ((nb 2 (nb 1 x).2).1, (nb 2 (nb 1 x).2).2) := rfl
  rw [hk]
  by_cases h1 : k = 1
  · subst h1; exact request_fd rb _ _ _ _ w h hs e1 e2
  by_cases h2 : k = 2
  · subst h2; exact request_rd rb _ _ _ _ w h hs e1 e2
  by_cases h3 : k = 3
  · subst h3; exact request_upd rb _ _ _ _ w h hs e1 e2
  by_cases h4 : k = 4
  · subst h4; exact request_gt rb _ _ _ _ w h hs e1 e2
  by_cases h5 : k = 5
  · subst h5; exact request_pt rb _ _ _ _ w h hs e1 e2
  by_cases h6 : k = 6
  · subst h6; exact request_rel rb _ _ _ _ w h hs e1 e2
  · exact request_nil rb _ k _ _ _ w h hs e1 e2 (by omega)
end Go.Proofs.YthpmcilljbmoiaaGreatDoor
