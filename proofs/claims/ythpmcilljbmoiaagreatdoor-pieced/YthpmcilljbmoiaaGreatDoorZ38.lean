import Derived.Test.YthpmcilljbmoiaaGreatDoorZ37
import Derived.BigQuiet
namespace Go.Proofs.YthpmcilljbmoiaaGreatDoor
open Go.RowKit

theorem Rw.slot_at {w : World} {v : Value} {l : List Bl} {n : Nat} (hn : l.length = n) (h : Rw w 103 3 v n (slotCells l)) (i : Nat) (hi : i < l.length) : ∃ b off, (∃ cap, v = .slice (some ⟨b, off, none⟩) n cap) ∧ ∀ w1, Below w.heap.size w w1 → w1.cell? ⟨b, off + i * 3, none⟩ = some (.string l[i].nm) ∧ w1.cell? ⟨b, off + i * 3 + 1, none⟩ = some (.bool l[i].mark) ∧ w1.cell? ⟨b, off + i * 3 + 2, none⟩ = some (.int .i64 l[i].pn) := by
  obtain ⟨_, h0, _⟩ | ⟨b, off, cap, cur, hv, hb, g1, g2, g3, g4, g5⟩ := h
  · omega
  · refine ⟨b, off, ⟨cap, hv⟩, fun w1 hb1 => ?_⟩
    have hb' := hb.below hb1 hb.lt
    have k0 := slotCells_at l i 0 hi (by omega)
    have k1 := slotCells_at l i 1 hi (by omega)
    have k2 := slotCells_at l i 2 hi (by omega)
    refine ⟨?_, ?_, ?_⟩
    · rw [hb'.cell, g5 _ (by omega)]; simpa using k0
    · rw [hb'.cell, Nat.add_assoc, g5 _ (by omega)]; simpa using k1
    · rw [hb'.cell, Nat.add_assoc, g5 _ (by omega)]; simpa using k2
set_option maxRecDepth 100000 in
set_option maxHeartbeats 1000000 in
theorem same_any (v1 v2 : Value) (l : List Bl) (w : World) (h1 : Rw w 103 3 v1 l.length (slotCells l)) (h2 : Rw w 103 3 v2 l.length (slotCells l)) (hl : l.length ≤ 1000) :
    Calls Tryz.prog 27 #[v1, v2] w fun r w' => r = .returned (.bool true) ∧ Below w.heap.size w w' := by
  obtain ⟨a1, e1, rfl⟩ := Rw.shape h1
  obtain ⟨a2, e2, rfl⟩ := Rw.shape h2
  have HK1 := hide (Rw.slot_at rfl h1)
  have HK2 := hide (Rw.slot_at rfl h2)
  clear h1 h2
  obtain ⟨n, hn⟩ : ∃ n, Hid (l.length = n) := ⟨_, rfl⟩
  have hnn := hn.out
  go_enter Tryz.func27, Tryz.ntmps27
  rw [hnn] at *
  clear hnn
  go_wp2
  go_loopw [5] (fun iv wr => ∃ i : Nat, i ≤ n ∧ iv = .int .i64 i ∧ Below w.heap.size w wr) (fun iv _ => n - (intOf iv).toNat)
  case atStart => exact ⟨0, by omega, rfl, Below.refl _ _⟩
  case round =>
    obtain ⟨i, hi, rfl, hb⟩ := hrel
    by_cases h : i < n
    · have g1 : (i : Int) < (n : Int) := by omega
      have g2 : (0 : Int) ≤ (i : Int) := by omega
      have hil : i < l.length := by have := hn.out; omega
      obtain ⟨b, off, ⟨cap, hv⟩, hc⟩ := HK1.out i hil
      injection hv with hv _ hv2
      subst hv hv2
      obtain ⟨b', off', ⟨cap', hv⟩, hc'⟩ := HK2.out i hil
      injection hv with hv _ hv2
      subst hv hv2
      have hb' : Below w.heap.size w (World.drew wr) := hb.drew
      obtain ⟨q0, q1, q2⟩ := hc _ hb'
      obtain ⟨r0, r1, r2⟩ := hc' _ hb'
      have hne := fun w => neqSlot w l[i].nm l[i].mark (l[i].pn : Int)
      generalize l[i].nm = x0 at *
      generalize l[i].mark = x1 at *
      generalize l[i].pn = x2 at *
      clear hc hc' HK1 HK2
      go_wp2
      go_region
      go_wp2
      exact ⟨⟨i + 1, by omega, by simp, hb'⟩, by simp [intOf]; omega⟩
    · have g1 : ¬ ((i : Int) < (n : Int)) := by omega
      clear HK1 HK2
      go_wp2
      go_ret
      exact ⟨rfl, hb⟩
end Go.Proofs.YthpmcilljbmoiaaGreatDoor
namespace Go.Proofs.YthpmcilljbmoiaaGreatDoor
open Go.RowKit

/-- two depots, a client each -/
structure Two (K : List Nat) (m : Nat) (w0 : World) (ca cb da ka db kb : Nat) (A B : Pst → Prop) (w : World) : Prop where
  bl : Below w0.heap.size w0 w
  ha : Blk w ca 35 #[.pointer (some ⟨da, 0, none⟩), .int .i64 0, .int .i64 0]
  hb : Blk w cb 35 #[.pointer (some ⟨db, 0, none⟩), .int .i64 0, .int .i64 0]
  ex : ∃ Fa Fb ta tb sa sb, A sa ∧ B sb ∧ ta ≤ 8 ∧ tb ≤ 8 ∧ MemX K w Fa da ka m ta sa ∧ MemX K w Fb db kb m tb sb ∧ (∀ k, Fa k → ¬ Fb k) ∧ (∀ k, Fa k → w0.heap.size ≤ k ∧ k ≠ ca ∧ k ≠ cb) ∧ (∀ k, Fb k → w0.heap.size ≤ k ∧ k ≠ ca ∧ k ≠ cb)
section
variable {K : List Nat} {m : Nat} {w0 w w' : World} {ca cb da ka db kb : Nat} {A B A' : Pst → Prop} {p : ByteArray}
theorem Two.swap (h : Two K m w0 ca cb da ka db kb A B w) : Two K m w0 cb ca db kb da ka B A w := by
  obtain ⟨h1, h2, h3, Fa, Fb, ta, tb, sa, sb, a, b, la, lb, Ma, Mb, d, ga, gb⟩ := h
  exact ⟨h1, h3, h2, Fb, Fa, tb, ta, sb, sa, b, a, lb, la, Mb, Ma, fun k q e => d k e q, fun k q => ⟨(gb k q).1, (gb k q).2.2, (gb k q).2.1⟩, fun k q => ⟨(ga k q).1, (ga k q).2.2, (ga k q).2.1⟩⟩
theorem Two.below (h : Two K m w0 ca cb da ka db kb A B w) (hk : Below w.heap.size w w') : Two K m w0 ca cb da ka db kb A B w' := by
  obtain ⟨h1, h2, h3, Fa, Fb, ta, tb, sa, sb, a, b, la, lb, Ma, Mb, d, ga, gb⟩ := h
  exact ⟨h1.trans (hk.mono h1.size), h2.below hk h2.lt, h3.below hk h3.lt, Fa, Fb, ta, tb, sa, sb, a, b, la, lb, Ma.below hk, Mb.below hk, d, ga, gb⟩
theorem Two.imp (h : Two K m w0 ca cb da ka db kb A B w) (hA : ∀ s, A s → A' s) : Two K m w0 ca cb da ka db kb A' B w := by
  obtain ⟨h1, h2, h3, Fa, Fb, ta, tb, sa, sb, a, b, r⟩ := h
  exact ⟨h1, h2, h3, Fa, Fb, ta, tb, sa, sb, hA _ a, b, r⟩
theorem Two.fix (h : Two K m w0 ca cb da ka db kb A B w) : ∃ sa sb, A sa ∧ B sb ∧ Two K m w0 ca cb da ka db kb (fun s => s = sa) (fun s => s = sb) w := by
  obtain ⟨h1, h2, h3, Fa, Fb, ta, tb, sa, sb, a, b, r⟩ := h
  exact ⟨sa, sb, a, b, h1, h2, h3, Fa, Fb, ta, tb, sa, sb, rfl, rfl, r⟩
theorem Two.m0 (h : Two K m w0 ca cb da ka db kb A B w) : 0 < m := by
  obtain ⟨h1, h2, h3, Fa, Fb, ta, tb, sa, sb, a, b, la, lb, Ma, _⟩ := h
  exact Ma.m0.1
/-- the one does something -/
theorem Two.op {f : Nat} {args : Array Value} {R : Ending → Prop} (h : Two K m w0 ca cb da ka db kb A B w)
    (hop : ∀ F t s, A s → t ≤ 8 → MemX K w F da ka m t s → Calls Tryz.prog f args w fun r w' => R r ∧ ∃ t' s', t' ≤ 8 ∧ A' s' ∧ MemX K w' (ext F w w') da ka m t' s' ∧ Kept F w w') :
    Calls Tryz.prog f args w fun r w' => R r ∧ Two K m w0 ca cb da ka db kb A' B w' := by
  obtain ⟨h1, h2, h3, Fa, Fb, ta, tb, sa, sb, a, b, la, lb, Ma, Mb, d, ga, gb⟩ := h
  refine (hop Fa ta sa a la Ma).mono ?_
  rintro r w' ⟨q0, t', s', l', a', M', K'⟩
  have hs := h1.size
  refine ⟨q0, h1.trans (K'.toBelow (fun k hk q => by have := (ga k q).1; omega) hs), h2.kept K' (fun q => (ga _ q).2.1 rfl), h3.kept K' (fun q => (ga _ q).2.2 rfl), ext Fa w w', Fb, t', tb, s', sb, a', b, l', lb, M', Mb.kept K' (fun k q e => d k e q) Ma.nf, fun k q e => ?_, fun k q => ?_, gb⟩
  · rcases q with q | q
    · exact d k q e
    · have := Mb.lt k e; omega
  · rcases q with q | q
    · exact ga k q
    · have := h2.lt
      have := h3.lt
      exact ⟨by omega, by omega, by omega⟩
/-- reached, p has come in; and at its end -/
def Rsd (K : List Nat) (m : Nat) (p : ByteArray) (s : Pst) : Prop := ∃ i, Rch K m s00 p i s
def Red (K : List Nat) (m : Nat) (p : ByteArray) (s : Pst) : Prop := ∃ i, Rch K m s00 p i s ∧ (stepP K m s).1 = 0
theorem two_feed0 (h : Two K m w0 ca cb da ka db kb (fun s => s = s00) B w) (x : ByteArray) (hp : x.size ≤ 2900) :
    Calls Tryz.prog 23 #[.pointer (some ⟨da, 0, none⟩), .int .i64 0, .string x] w fun r w' => r = .returned (.int .i64 0) ∧ Two K m w0 ca cb da ka db kb (Rsd K m x) B w' := by
  refine Two.op (R := fun r => r = .returned (.int .i64 0)) h (fun F t s hs ht hM => ?_)
  subst hs
  have e0 : s00.C.wait.size = 0 := rfl
  refine (feed_mem hM x (by omega)).mono ?_
  rintro r w' ⟨q0, q1, q2⟩
  have hr := (rch0 K m).feed x
  rw [show (⟨#[]⟩ : ByteArray) ++ x = x from ByteArray.empty_append] at hr
  exact ⟨q0, t, _, ht, ⟨_, hr⟩, q1, q2⟩
theorem two_feed (h : Two K m w0 ca cb da ka db kb (Rsd K m p) B w) (x : ByteArray) (hp : (p ++ x).size ≤ 2900) :
    Calls Tryz.prog 23 #[.pointer (some ⟨da, 0, none⟩), .int .i64 0, .string x] w fun r w' => (∃ z : Int, (z = 0 ∨ z = 3) ∧ r = .returned (.int .i64 z)) ∧ Two K m w0 ca cb da ka db kb (Rsd K m (p ++ x)) B w' := by
  refine Two.op (R := fun r => ∃ z : Int, (z = 0 ∨ z = 3) ∧ r = .returned (.int .i64 z)) h (fun F t s hs ht hM => ?_)
  obtain ⟨i, hs⟩ := hs
  have hw := hs.inv.wt
  rw [ByteArray.size_append] at hp
  refine (feed_mem hM x (by omega)).mono ?_
  rintro r w' ⟨q0, q1, q2⟩
  refine ⟨⟨_, ?_, q0⟩, t, _, ht, ⟨_, hs.feed x⟩, q1, q2⟩
  by_cases hc : s.C.closed = true
  · rw [if_pos hc]; exact .inr rfl
  · rw [if_neg hc]; exact .inl rfl
theorem two_pick (h : Two K m w0 ca cb da ka db kb (Rsd K m p) B w) (hp : p.size ≤ 2900) :
    Calls Tryz.prog 17 #[.pointer (some ⟨da, 0, none⟩), .int .i64 0] w fun r w' => (∃ z : Int, r = .returned (.tuple #[.int .i64 z, .int .i64 0])) ∧ Two K m w0 ca cb da ka db kb (Rsd K m p) B w' := by
  refine Two.op (R := fun r => ∃ z : Int, r = .returned (.tuple #[.int .i64 z, .int .i64 0])) h (fun F t s hs ht hM => ?_)
  obtain ⟨i, hs⟩ := hs
  refine (pick_mem hM (hs.okP hp) OkR.of).mono ?_
  rintro r w' ⟨q0, q1, q2⟩
  refine ⟨q0, t, _, ht, ?_, q1, q2⟩
  by_cases hz : (stepP K m s).1 = 0
  · rw [hs.none hM.m0.1 hp hz]; exact ⟨i, hs⟩
  · exact ⟨_, hs.step hM.m0.1 hp hz⟩
theorem two_serve (h : Two K m w0 ca cb da ka db kb (Rsd K m p) B w) (hp : p.size ≤ 2900) :
    Calls Tryz.prog 31 #[.pointer (some ⟨da, 0, none⟩), .int .i64 1000, .int .i64 (-1)] w fun r w' => (∃ z : Int, r = .returned (.int .i64 z)) ∧ Two K m w0 ca cb da ka db kb (Red K m p) B w' := by
  refine Two.op (R := fun r => ∃ z : Int, r = .returned (.int .i64 z)) h (fun F t s hs ht hM => ?_)
  obtain ⟨i, hs⟩ := hs
  refine (serve_run ⟨hs, t, ht, hM⟩ hp).mono ?_
  rintro r w' ⟨q0, q1, i', s', ⟨q2, t', ht', q3⟩, q4⟩
  exact ⟨q0, t', s', ht', ⟨i', q2, q4⟩, q3, q1⟩
theorem two_take {s0 : Pst} (h : Two K m w0 ca cb da ka db kb (fun s => s = s0) B w) (hg : s0.C.going.size ≤ 200000) :
    Calls Tryz.prog 22 #[.pointer (some ⟨da, 0, none⟩), .int .i64 0, .int .i64 1099511627776] w fun r w' => r = .returned (.tuple #[.string s0.C.going, .int .i64 0]) ∧ Two K m w0 ca cb da ka db kb (fun s => s.D = s0.D) B w' := by
  refine Two.op (R := fun r => r = .returned (.tuple #[.string s0.C.going, .int .i64 0])) h (fun F t s hs ht hM => ?_)
  subst hs
  refine (take_mem hM hg).mono ?_
  rintro r w' ⟨q0, q1, q2⟩
  exact ⟨q0, t, ⟨s.D, { s.C with going := ⟨#[]⟩ }⟩, ht, rfl, q1, q2⟩
theorem two_ring {D : Dps} (h : Two K m w0 ca cb da ka db kb (fun s => s.D = D) B w) (k : Nat) (hk : k < m) (hl : (D.shs k).length ≤ 1000) :
    Calls Tryz.prog 25 #[.pointer (some ⟨da, 0, none⟩), .int .i64 k] w fun r w' => ∃ v, r = .returned (.tuple #[v, .int .i64 0]) ∧ Rw w' 103 3 v (D.shs k).length (slotCells (D.shs k)) ∧ Below w.heap.size w w' ∧ Two K m w0 ca cb da ka db kb (fun s => s.D = D) B w' := by
  obtain ⟨h1, h2, h3, Fa, Fb, ta, tb, sa, sb, a, b, la, lb, Ma, r⟩ := id h
  subst a
  refine (ring_mem Ma k hk hl).mono ?_
  rintro r w' ⟨v, q0, q1, q2⟩
  exact ⟨v, q0, q1, q2, h.below q2⟩
end
end Go.Proofs.YthpmcilljbmoiaaGreatDoor
namespace Go.Proofs.YthpmcilljbmoiaaGreatDoor
open Go.RowKit

section
variable {K : List Nat} {w : World}
set_option maxRecDepth 100000 in
set_option maxHeartbeats 1000000 in
theorem brought_l (lv : Value) (l : List ByteArray) (hl : l.length ≤ 12) (hs : ∀ x ∈ l, x.size ≤ 120) (hT : Tb K w) (hR : Rw w 9 1 lv l.length (l.map Value.string)) :
    Calls Tryz.prog 30 #[lv] w fun r w' => r = .returned (.string (b8 l.length ++ brsB K l)) ∧ Below w.heap.size w w' := by
  have HB := hide (fun w => bytes1 l.length w (by omega))
  have HN : Hid (∀ j, j < l.length → ∀ w1, Below w.heap.size w w1 → Calls Tryz.prog 47 #[.string (l.getD j ⟨#[]⟩)] w1 fun r w' => r = .returned (.string (nameStr K (l.getD j ⟨#[]⟩))) ∧ Below w1.heap.size w1 w') := fun j hj w1 hb => kname_any K _ w1 (by rw [getD_at _ _ hj]; exact hs _ (List.getElem_mem hj)) hT.1 (hT.below hb).2
  have HL : Hid (∀ j, j < l.length → ∃ b off, (∃ cap, lv = .slice (some ⟨b, off, none⟩) l.length cap) ∧ ∀ w1, Below w.heap.size w w1 → w1.cell? ⟨b, off + j, none⟩ = some (.string (l.getD j ⟨#[]⟩))) := fun j hj => Rw.str_at hR j hj
  have HZ : Hid (∀ i, i ≤ l.length → (b8 l.length ++ cat ((l.take i).map fun s => nameStr K s ++ s)).size ≤ 1900) := fun i hi => by
    have := cat_bound (fun s => nameStr K s ++ s) 154 (l.take i) (fun x hx => by rw [ByteArray.size_append, nameStr_size]; have := hs x (List.mem_of_mem_take hx); omega)
    rw [List.length_take] at this
    rw [ByteArray.size_append, b8_size]
    have : 154 * min i l.length ≤ 154 * 12 := Nat.mul_le_mul_left _ (by omega)
    omega
  have HS : Hid (∀ j, j < l.length → (l.getD j ⟨#[]⟩).size ≤ 120) := fun j hj => by rw [getD_at _ _ hj]; exact hs _ (List.getElem_mem hj)
  obtain ⟨a0, e0, rfl⟩ := Rw.shape hR
  obtain ⟨n, hn⟩ : ∃ n, Hid (n = l.length) := ⟨_, rfl⟩
  have HF : Hid (brsB K l = cat ((l.take n).map fun s => nameStr K s ++ s)) := by unfold Hid; rw [hn.out, List.take_length]; rfl
  have HC := hide (cat_step (fun s => nameStr K s ++ s) l)
  rw [← hn.out] at HB HL HZ HN HS hl HC ⊢
  clear hT hR hs
  go_enter Tryz.func30, Tryz.ntmps30
  go_wp2_with (go_at_call 28; refine (HB.out _).mono ?_; rintro e w0 ⟨rfl, k0⟩)
  go_loopw [3, 4] (fun sv iv wr => ∃ i : Nat, i ≤ n ∧ sv = .string (b8 n ++ cat ((l.take i).map fun s => nameStr K s ++ s)) ∧ iv = .int .i64 i ∧ Below w.heap.size w wr) (fun _ iv _ => n - (intOf iv).toNat)
  case atStart => exact ⟨0, by omega, by rw [List.take_zero, show cat (([] : List ByteArray).map fun s => nameStr K s ++ s) = ⟨#[]⟩ from rfl, app_empty], rfl, k0⟩
  case round =>
    clear k0 HB
    obtain ⟨i, hi, rfl, rfl, hA⟩ := hrel
    by_cases hin : i < n
    · obtain ⟨b, off, ⟨cap, hv⟩, hc⟩ := HL.out i hin
      injection hv with hv _ hv2
      subst hv hv2
      have hc2 : Hid (∀ w1, Below w.heap.size w w1 → w1.cell? ⟨b, off + i, none⟩ = some (.string (l.getD i ⟨#[]⟩))) := hc
      have c0 := hc (World.drew wr) hA.drew
      have h1 : (i : Int) < (n : Int) := by omega
      have h2 : (0 : Int) ≤ (i : Int) := by omega
      have HN1 : Hid (Calls Tryz.prog 47 #[.string (l.getD i ⟨#[]⟩)] (World.drew wr) fun r w' => r = .returned (.string (nameStr K (l.getD i ⟨#[]⟩))) ∧ Below w.heap.size w w' ∧ w'.cell? ⟨b, off + i, none⟩ = some (.string (l.getD i ⟨#[]⟩))) := by
        refine (HN.out i hin _ hA.drew).mono ?_
        rintro r w' ⟨q1, q2⟩
        have q3 : Below w.heap.size w w' := hA.drew.trans (q2.mono hA.size)
        exact ⟨q1, q3, hc2.out w' q3⟩
      have HT : Hid (b8 n ++ cat ((l.take i).map fun s => nameStr K s ++ s) ++ nameStr K (l.getD i ⟨#[]⟩) ++ (l.getD i ⟨#[]⟩) = b8 n ++ cat ((l.take (i + 1)).map fun s => nameStr K s ++ s)) := by unfold Hid; rw [HC.out i hin, ByteArray.append_assoc, ByteArray.append_assoc]
      have hz0 := HZ.out i hi
      have hz1 : (nameStr K (l.getD i ⟨#[]⟩)).size = 34 := nameStr_size _ _
      have hz2 := HS.out i hin
      clear hc hc2 HL HN HZ HF HC HS
      generalize b8 n ++ cat ((l.take i).map fun s => nameStr K s ++ s) = S0 at *
      generalize nameStr K (l.getD i ⟨#[]⟩) = S1 at *
      generalize (l.getD i ⟨#[]⟩) = S2 at *
      go_wp2
      go_region_with (go_at_call 47; refine HN1.out.mono ?_; rintro e w1 ⟨rfl, k1, c1⟩)
      all_goals
        go_wp2
        exact ⟨⟨i + 1, by omega, by rw [HT.out], by simp, k1⟩, by simp [intOf]; omega⟩
    · obtain rfl : i = n := by omega
      clear HL HN HZ HC HS
      have h1 : ¬ ((i : Int) < (i : Int)) := by omega
      rw [← HF.out]
      clear HF
      go_wp2
      go_ret
      exact ⟨rfl, hA⟩
end
end Go.Proofs.YthpmcilljbmoiaaGreatDoor
