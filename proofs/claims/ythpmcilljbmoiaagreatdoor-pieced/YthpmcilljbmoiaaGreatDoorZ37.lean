import Derived.Test.YthpmcilljbmoiaaGreatDoorZ35
import Derived.Test.YthpmcilljbmoiaaGreatDoorZAsk
import Derived.Laws.MakeOwn
import Derived.Laws.OwnMore
import Derived.Laws.StructEq
namespace Go.Proofs.YthpmcilljbmoiaaGreatDoor
open Go.RowKit

set_option maxRecDepth 100000 in
set_option maxHeartbeats 1000000 in
theorem pick_wide (z : Int) (m : Nat) (w : World) (hm0 : 0 < m) (hm : m ≤ 100000) (hz1 : -9223372036854775808 ≤ z) (hz2 : z ≤ 9223372036854775807) :
    Calls Tryz.prog 18 #[.int .i64 z, .int .i64 m] w fun r w' => r = .returned (.int .i64 (pickN z m : Nat)) ∧ w = w' := by
  have hm1 : ¬ ((m : Int) = 0) := by omega
  by_cases hz : z < 0
  · obtain ⟨y, hy, hy2⟩ : ∃ y : Nat, -(z + 1) = (y : Int) ∧ y ≤ 9223372036854775807 := ⟨(-(z + 1)).toNat, by omega, by omega⟩
    have hp : pickN z m = y % m := by unfold pickN; rw [if_pos hz, hy]; rfl
    rw [hp]
    clear hp
    go_enter Tryz.func18, Tryz.ntmps18
    go_wp2
    go_ret
    exact ⟨by first | rfl | (rw [Int.natCast_emod]; rfl), rfl⟩
  · obtain ⟨y, rfl⟩ : ∃ y : Nat, z = (y : Int) := ⟨z.toNat, by omega⟩
    have hp : pickN (y : Int) m = y % m := by unfold pickN; rw [if_neg hz]; rfl
    rw [hp]
    clear hp
    go_enter Tryz.func18, Tryz.ntmps18
    go_wp2
    go_ret
    exact ⟨by first | rfl | (rw [Int.natCast_emod]; rfl), rfl⟩
theorem pickN_lt8 (z : Int) : pickN z 8 < 8 := Nat.mod_lt _ (by omega)
/-- a blob out of a text -/
def cutB (s : ByteArray) : ByteArray := if 120 < s.size then s.extract 0 120 else s
theorem cutB_size (s : ByteArray) : (cutB s).size ≤ 120 := by
  unfold cutB
  split
  · rw [ByteArray.size_extract]; omega
  · omega
set_option maxRecDepth 100000 in
theorem blob_any (s : ByteArray) (w : World) : Calls Tryz.prog 41 #[.string s] w fun r w' => r = .returned (.string (cutB s)) ∧ w = w' := by
  unfold cutB
  by_cases h : 120 < s.size
  · rw [if_pos h]
    have h1 : (120 : Int) < (s.size : Int) := by omega
    have h2 : (120 : Int) ≤ (s.size : Int) := by omega
    go_enter Tryz.func41, Tryz.ntmps41
    go_wp2
    go_ret
    exact ⟨rfl, rfl⟩
  · rw [if_neg h]
    have h1 : ¬ (120 : Int) < (s.size : Int) := by omega
    go_enter Tryz.func41, Tryz.ntmps41
    go_wp2
    go_ret
    exact ⟨rfl, rfl⟩
/-- a list of texts as an argument -/
def Txt (w : World) (a0 : Option Addr) (n : Nat) (S : Nat → ByteArray) : Prop := n = 0 ∨ ∃ b off, a0 = some ⟨b, off, none⟩ ∧ b < w.heap.size ∧ ∀ i, i < n → w.cell? ⟨b, off + i, none⟩ = some (.string (S i))
def obl (S : Nat → ByteArray) (k : Nat) : List ByteArray := (List.range k).map fun i => cutB (S i)
theorem obl_add (S : Nat → ByteArray) (k : Nat) : (obl S (k + 1)).map Value.string = (obl S k).map Value.string ++ [.string (cutB (S k))] := by simp [obl, List.range_succ]
theorem obl_len (S : Nat → ByteArray) (k : Nat) : (obl S k).length = k := by simp [obl]
theorem obl_size (S : Nat → ByteArray) (k : Nat) : ∀ x ∈ obl S k, x.size ≤ 120 := fun x hx => by
  simp only [obl, List.mem_map] at hx
  obtain ⟨i, _, rfl⟩ := hx
  exact cutB_size _
set_option maxRecDepth 100000 in
set_option maxHeartbeats 1000000 in
theorem blobs_any (a0 : Option Addr) (n cap : Nat) (S : Nat → ByteArray) (w : World) (hS : Txt w a0 n S) :
    Calls Tryz.prog 13 #[.slice a0 n cap, .int .i64 12] w fun r w' => ∃ v, r = .returned v ∧ Rw w' 9 1 v (min n 12) ((obl S (min n 12)).map Value.string) ∧ Below w.heap.size w w' := by
  have HB1 := hide (fun s w => blob_any s w)
  have HS : Hid (∀ k, k < n → ∃ b off, a0 = some ⟨b, off, none⟩ ∧ ∀ w1, Below w.heap.size w w1 → w1.cell? ⟨b, off + k, none⟩ = some (.string (S k))) := fun k hk => by
    obtain h | ⟨b, off, e, hb, hc⟩ := hS
    · omega
    · exact ⟨b, off, e, fun w1 hb1 => by rw [hb1.cell hb]; exact hc k hk⟩
  clear hS
  go_enter Tryz.func13, Tryz.ntmps13
  go_wp2
  go_loopw [5, 6] (fun lv iv wr => ∃ k : Nat, k ≤ n ∧ k ≤ 12 ∧ iv = .int .i64 k ∧ Hid (Rw wr 9 1 lv k ((obl S k).map Value.string)) ∧ Hid (Fresh w.heap.size lv) ∧ Below w.heap.size w wr) (fun _ iv _ => n - (intOf iv).toNat)
  case atStart => exact ⟨0, by omega, by omega, rfl, Rw.nil _ _ _, Fresh.nil _ _ _, Below.refl _ _⟩
  case round =>
    obtain ⟨k, hkn, hk12, rfl, hR, hF, hb⟩ := hrel
    obtain ⟨a2, e2, rfl⟩ := Rw.shape hR.out
    by_cases hk : k < n ∧ k < 12
    · obtain ⟨h1, h2⟩ := hk
      have g1 : (k : Int) < (n : Int) := by omega
      have g2 : (k : Int) < 12 := by omega
      have g3 : (0 : Int) ≤ (k : Int) := by omega
      obtain ⟨b, off, rfl, hc⟩ := HS.out k h1
      have c0 := hc wr hb
      have HSt := hide (obl_add S k)
      have HX : Hid (∀ w1 S, ∀ q u, [Value.string S][q]? = some u → (World.alloc w1 (.cells #[.string S] 9)).cell? (Addr.add ⟨w1.heap.size, 0, none⟩ q) = some u) := fun w1 S q u hq => by
        cases q with
        | zero =>
          simp only [List.getElem?_cons_zero, Option.some.injEq] at hq
          subst hq
          rw [Addr.add_lit]
          exact (Blk.new w1 9 #[.string S]).cell 0
        | succ q => simp at hq
      have HB : Hid (∀ w1 S, Below w1.heap.size w1 (World.alloc w1 (.cells #[.string S] 9))) := fun w1 S => (Below.refl _ _).alloc (Nat.le_refl _) _
      have HB2 := hide (HB1.out (S k))
      clear hc HS HB1
      generalize cutB (S k) = T at *
      generalize S k = T0 at *
      go_wp2_with (first | (at_builtin; refine wpList_append_rw (World.alloc wr (.cells #[.string T] 9)) rfl (.tmp 24) (.tmp 26) 25 25 rfl 9 _ 1 16 Tryz.underlying25 infoStr rfl (by omega) (.slice a2 k e2) k ((obl S k).map Value.string) rfl (Rw.below hR.out (HB.out wr T)) (.slice (some ⟨wr.heap.size, 0, none⟩) 1 1) 1 [.string T] rfl (Src.ofSlice _ Tryz.underlying25 ⟨wr.heap.size, 0, none⟩ 1 1 _ rfl (HX.out wr T) ?_) ?_ ?_) | (go_at_call 41; refine (HB2.out _).mono ?_; rintro e wf ⟨rfl, rfl⟩))
      · simp [Value.oneCell']
      · omega
      intro v2 w2 r2 k2 o2
      have hs4 := hb.size
      have hb6 : Below w.heap.size w w2 := hb.trans (((HB.out _ T).mono hs4).trans (k2.toBelow (fun q hq e => by have := hF.out q e; omega) (by simp; omega)))
      have hF6 : Fresh w.heap.size v2 := fun q hq => by
        rcases o2 with o2 | ⟨q', e1, e2⟩
        · exact hF.out q (o2 ▸ hq)
        · rw [e2] at hq; injection hq with hq
          have : wr.heap.size ≤ (World.alloc wr (.cells #[.string T] 9)).heap.size := by simp
          omega
      obtain ⟨a3, e3, rfl⟩ := Rw.shape r2
      rw [← HSt.out] at r2
      go_wp2
      exact ⟨⟨k + 1, by omega, by omega, by simp, r2, hF6, hb6⟩, by simp [intOf]; omega⟩
    · have hm : Hid (min n 12 = k) := by unfold Hid; omega
      by_cases h1 : k < n
      · have g1 : (k : Int) < (n : Int) := by omega
        have g2 : ¬ ((k : Int) < 12) := by omega
        go_wp2
        go_ret
        rw [hm.out]
        exact ⟨_, rfl, hR.out, hb⟩
      · have g1 : ¬ ((k : Int) < (n : Int)) := by omega
        go_wp2
        go_ret
        rw [hm.out]
        exact ⟨_, rfl, hR.out, hb⟩
/-- the names of blobs; names with the blobs behind -/
def nmsB (K : List Nat) (l : List ByteArray) : ByteArray := cat (l.map (nameStr K))
def brsB (K : List Nat) (l : List ByteArray) : ByteArray := cat (l.map fun s => nameStr K s ++ s)
theorem cat_step (f : ByteArray → ByteArray) (l : List ByteArray) (i : Nat) (hi : i < l.length) : cat ((l.take (i + 1)).map f) = cat ((l.take i).map f) ++ f (l.getD i ⟨#[]⟩) := by
  rw [getD_at _ _ hi, List.take_add_one, List.getElem?_eq_getElem hi, Option.toList_some, List.map_append, List.map_cons, List.map_nil, cat_add]
theorem cat_bound (f : ByteArray → ByteArray) (B : Nat) : ∀ l : List ByteArray, (∀ x ∈ l, (f x).size ≤ B) → (cat (l.map f)).size ≤ B * l.length
  | [], _ => Nat.zero_le _
  | x :: l, h => by
    have h1 := cat_bound f B l (fun y hy => h y (List.mem_cons_of_mem _ hy))
    have h2 := h x List.mem_cons_self
    simp only [List.map_cons, cat, ByteArray.size_append, List.length_cons, Nat.mul_add, Nat.mul_one]
    omega
section
variable {K : List Nat} {w : World}
theorem Rw.str_at {lv : Value} {l : List ByteArray} (hR : Rw w 9 1 lv l.length (l.map Value.string)) (j : Nat) (hj : j < l.length) : ∃ b off, (∃ cap, lv = .slice (some ⟨b, off, none⟩) l.length cap) ∧ ∀ w1, Below w.heap.size w w1 → w1.cell? ⟨b, off + j, none⟩ = some (.string (l.getD j ⟨#[]⟩)) := by
  rw [getD_at _ _ hj]
  obtain ⟨_, h0, _⟩ | ⟨b, off, cap, cur, rfl, hb, g1, g2, g3, g4, g5⟩ := hR
  · omega
  · refine ⟨b, off, ⟨cap, rfl⟩, fun w1 hb1 => ?_⟩
    rw [(hb.below hb1 hb.lt).cell, g5 j (by omega), List.getElem?_map, List.getElem?_eq_getElem hj]
    rfl
set_option maxRecDepth 100000 in
set_option maxHeartbeats 1000000 in
theorem named_l (lv : Value) (l : List ByteArray) (hl : l.length ≤ 12) (hs : ∀ x ∈ l, x.size ≤ 120) (hT : Tb K w) (hR : Rw w 9 1 lv l.length (l.map Value.string)) :
    Calls Tryz.prog 16 #[lv] w fun r w' => r = .returned (.string (b8 l.length ++ nmsB K l)) ∧ Below w.heap.size w w' := by
  have HB := hide (fun w => bytes1 l.length w (by omega))
  have HN : Hid (∀ j, j < l.length → ∀ w1, Below w.heap.size w w1 → Calls Tryz.prog 47 #[.string (l.getD j ⟨#[]⟩)] w1 fun r w' => r = .returned (.string (nameStr K (l.getD j ⟨#[]⟩))) ∧ Below w1.heap.size w1 w') := fun j hj w1 hb => kname_any K _ w1 (by rw [getD_at _ _ hj]; exact hs _ (List.getElem_mem hj)) hT.1 (hT.below hb).2
  have HL : Hid (∀ j, j < l.length → ∃ b off, (∃ cap, lv = .slice (some ⟨b, off, none⟩) l.length cap) ∧ ∀ w1, Below w.heap.size w w1 → w1.cell? ⟨b, off + j, none⟩ = some (.string (l.getD j ⟨#[]⟩))) := fun j hj => Rw.str_at hR j hj
  have HZ : Hid (∀ i, i ≤ l.length → (b8 l.length ++ cat ((l.take i).map (nameStr K))).size ≤ 500) := fun i hi => by
    have := cat_bound (nameStr K) 34 (l.take i) (fun x _ => by rw [nameStr_size]; omega)
    rw [List.length_take] at this
    rw [ByteArray.size_append, b8_size]
    have : 34 * min i l.length ≤ 34 * 12 := Nat.mul_le_mul_left _ (by omega)
    omega
  obtain ⟨a0, e0, rfl⟩ := Rw.shape hR
  obtain ⟨n, hn⟩ : ∃ n, Hid (n = l.length) := ⟨_, rfl⟩
  have HF : Hid (nmsB K l = cat ((l.take n).map (nameStr K))) := by unfold Hid; rw [hn.out, List.take_length]; rfl
  have HC := hide (cat_step (nameStr K) l)
  rw [← hn.out] at HB HL HZ HN hl HC ⊢
  clear hT hR hs
  go_enter Tryz.func16, Tryz.ntmps16
  go_wp2_with (go_at_call 28; refine (HB.out _).mono ?_; rintro e w0 ⟨rfl, k0⟩)
  go_loopw [3, 4] (fun sv iv wr => ∃ i : Nat, i ≤ n ∧ sv = .string (b8 n ++ cat ((l.take i).map (nameStr K))) ∧ iv = .int .i64 i ∧ Below w.heap.size w wr) (fun _ iv _ => n - (intOf iv).toNat)
  case atStart => exact ⟨0, by omega, by rw [List.take_zero, show cat (([] : List ByteArray).map (nameStr K)) = ⟨#[]⟩ from rfl, app_empty], rfl, k0⟩
  case round =>
    clear k0 HB
    obtain ⟨i, hi, rfl, rfl, hA⟩ := hrel
    by_cases hin : i < n
    · obtain ⟨b, off, ⟨cap, hv⟩, hc⟩ := HL.out i hin
      injection hv with hv _ hv2
      subst hv hv2
      have c0 := hc wr hA
      have h1 : (i : Int) < (n : Int) := by omega
      have h2 : (0 : Int) ≤ (i : Int) := by omega
      have HN1 := hide (HN.out i hin wr hA)
      have HT : Hid (b8 n ++ cat ((l.take i).map (nameStr K)) ++ nameStr K (l.getD i ⟨#[]⟩) = b8 n ++ cat ((l.take (i + 1)).map (nameStr K))) := by unfold Hid; rw [HC.out i hin, ByteArray.append_assoc]
      have hz0 := HZ.out i hi
      have hz1 : (nameStr K (l.getD i ⟨#[]⟩)).size = 34 := nameStr_size _ _
      clear hc HL HN HZ HF HC
      generalize b8 n ++ cat ((l.take i).map (nameStr K)) = S0 at *
      generalize nameStr K (l.getD i ⟨#[]⟩) = S1 at *
      generalize (l.getD i ⟨#[]⟩) = S2 at *
      go_wp2_with (go_at_call 47; refine HN1.out.mono ?_; rintro e w1 ⟨rfl, k1⟩)
      exact ⟨⟨i + 1, by omega, by rw [HT.out], by simp, hA.trans (k1.mono hA.size)⟩, by simp [intOf]; omega⟩
    · obtain rfl : i = n := by omega
      clear HL HN HZ HC
      have h1 : ¬ ((i : Int) < (i : Int)) := by omega
      rw [← HF.out]
      clear HF
      go_wp2
      go_ret
      exact ⟨rfl, hA⟩
end
end Go.Proofs.YthpmcilljbmoiaaGreatDoor
namespace Go.Proofs.YthpmcilljbmoiaaGreatDoor
open Go.RowKit

set_option maxRecDepth 100000 in
set_option maxHeartbeats 1000000 in
theorem bare_mem (z : Int) (hz1 : -9223372036854775808 ≤ z) (hz2 : z ≤ 9223372036854775807) (w : World) : Calls Tryz.prog 40 #[.int .i64 z, .int .i64 4000] w
    fun r w' => r = .returned (.tuple #[.pointer (some ⟨w.heap.size + 1, 0, none⟩), .bool true]) ∧ ∃ shv sh, Nw w (1 + pickN z 8) 4000 (1 + pickN z 8) w' shv sh := by
  have hlt := pickN_lt8 z
  have H1 : Hid (∀ w, Calls Tryz.prog 18 #[.int .i64 z, .int .i64 8] w fun r w' => r = .returned (.int .i64 (pickN z 8 : Nat)) ∧ w = w') := fun w => pick_wide z 8 w (by omega) (by omega) hz1 hz2
  have H2 : Hid (∀ w, Calls Tryz.prog 32 #[.agg #[.int .i64 (1 + (pickN z 8 : Int)), .int .i64 4000]] w fun r w' => r = .returned (.tuple #[.pointer (some ⟨w.heap.size + 1, 0, none⟩), .int .i64 0]) ∧ ∃ shv sh, Nw w (1 + pickN z 8) 4000 (1 + pickN z 8) w' shv sh) := fun w => by
    have := new_mem (1 + pickN z 8) 4000 w (by omega) (by omega) (by omega) (by omega)
    rw [show ((1 + pickN z 8 : Nat) : Int) = 1 + (pickN z 8 : Int) by omega] at this
    exact this
  generalize pickN z 8 = p at *
  go_enter Tryz.func40, Tryz.ntmps40
  go_wp2_with (first | (go_at_call 18; refine (H1.out _).mono ?_; rintro e w1 ⟨rfl, rfl⟩) | (go_at_call 32; refine (H2.out _).mono ?_; rintro e w1 ⟨rfl, q⟩))
  go_ret2
  exact ⟨rfl, q⟩
section
variable {K : List Nat} {w w' : World}
/-- a new depot with a connection -/
theorem Nw.mem {m : Nat} {W W2 : World} {shv cvv : Value} {sh : Nat → Nat} (hN : Nw w m 4000 m W shv sh) (hm0 : 0 < m) (hm8 : m ≤ 8) (hT : Tb K w)
    (q1 : Blk W2 (w.heap.size + 1) 114 (dpt shv cvv 0)) (q2 : Rw W2 98 1 cvv 1 [.pointer (some ⟨W.heap.size, 0, none⟩)]) (q3 : Cn W2 W.heap.size (.slice none 0 0) (.slice none 0 0) (.pointer none) (.bool false)) (q4 : Kept (fun k => k = w.heap.size + 1) W W2) (q5 : Fresh W.heap.size cvv) :
    MemX K W2 (fun k => w.heap.size ≤ k ∧ k < W2.heap.size) (w.heap.size + 1) W.heap.size m 0 s00 ∧ Below w.heap.size w W2 := by
  have hB : Below w.heap.size w W2 := hN.bl.trans (q4.toBelow (fun k hk e => by omega) hN.bl.size)
  have hs := q4.size
  have hw := hN.bl.size
  have hd := hN.de.lt
  have shr : Rw W2 115 1 shv m (ptrs sh m) := Rw.kept hN.sl q4 (fun k hk e => by subst e; exact Rw.ne hN.sl hN.de (by decide) hk)
  have hsd : ∀ j, j < m → Blk W2 (sh j) 123 #[.slice none 0 0, .int .i64 4000, .int .i64 0, .int .i64 0] := fun j hj => (hN.sd j hj).kept q4 ((hN.sd j hj).ne hN.de (by decide))
  have nb : ∀ k, (Value.slice none 0 0).ownBlock = some k → False := fun k hk => by simp [Value.ownBlock] at hk
  refine ⟨⟨fun k => w.heap.size ≤ k ∧ k < W2.heap.size ∧ k ≠ W.heap.size, fun k => k = W.heap.size, shv, cvv, .slice none 0 0, .slice none 0 0, sh, fun _ => .slice none 0 0, fun _ => 0, fun _ => .slice none 0 0, .slice none 0 0, .slice none 0 0, .pointer none, ⟨q1, shr, ⟨fun j hj => ⟨hsd j hj, Rw.nil _ _ _⟩, fun i j hi hj hne => hN.ij i j hi hj hne, fun i j _ _ _ k hk => (nb k hk).elim, fun j hj => ⟨?_, (hsd j hj).lt, ?_⟩, fun j hj k hk => (nb k hk).elim⟩, q2, Rw.nil _ _ _, ⟨fun i hi => absurd hi (Nat.not_lt_zero _), fun i j hi => absurd hi (Nat.not_lt_zero _), fun i j hi => absurd hi (Nat.not_lt_zero _), fun i hi => absurd hi (Nat.not_lt_zero _), fun i hi => absurd hi (Nat.not_lt_zero _)⟩, Rw.nil _ _ _, ⟨by omega, q1.lt, by omega⟩, fun k hk => ⟨?_, Rw.lt shr hk, ?_⟩, fun k hk => ⟨?_, Rw.lt q2 hk, ?_⟩, fun k hk => (nb k hk).elim, fun k hk => (nb k hk).elim, hm0, hm8⟩, ⟨q3, Bs.nil _ _, Bs.nil _ _, rfl, fun k hk => (nb k hk).elim, fun k hk => (nb k hk).elim, fun k hk => (nb k hk).elim, rfl⟩, fun k hk e => hk.2.2 e, fun k hk => ⟨hk.1, hk.2.1⟩, fun k e => ?_, fun k hk => hk.2, hT.below hB, fun e => ?_⟩, hB⟩
  · have := hN.fs j hj; omega
  · have := (hN.sd j hj).lt; omega
  · have := hN.fr k hk; omega
  · have := Rw.lt hN.sl hk; omega
  · have := q5 k hk; omega
  · intro e
    subst e
    exact Rw.ne q2 q3 (by decide) hk
  · subst e; exact ⟨hw, q3.lt⟩
  · have := hT.lt
    omega
set_option maxRecDepth 100000 in
set_option maxHeartbeats 1000000 in
theorem begin_mem (z : Int) (hz1 : -9223372036854775808 ≤ z) (hz2 : z ≤ 9223372036854775807) (w : World) (hT : Tb K w) : Calls Tryz.prog 12 #[.int .i64 z, .int .i64 4000] w
    fun r w' => ∃ cb db kb, r = .returned (.tuple #[.pointer (some ⟨cb, 0, none⟩), .bool true]) ∧ Blk w' cb 35 #[.pointer (some ⟨db, 0, none⟩), .int .i64 0, .int .i64 0] ∧ MemX K w' (fun k => w.heap.size ≤ k ∧ k < cb) db kb (1 + pickN z 8) 0 s00 ∧ w.heap.size ≤ cb ∧ Below w.heap.size w w' := by
  have hlt := pickN_lt8 z
  have H1 := hide (bare_mem z hz1 hz2 w)
  have H2 : Hid (∀ w1 shv sh, Nw w (1 + pickN z 8) 4000 (1 + pickN z 8) w1 shv sh → Calls Tryz.prog 33 #[.pointer (some ⟨w.heap.size + 1, 0, none⟩)] w1 fun r w' => r = .returned (.tuple #[.int .i64 0, .int .i64 0]) ∧ MemX K w' (fun k => w.heap.size ≤ k ∧ k < w'.heap.size) (w.heap.size + 1) w1.heap.size (1 + pickN z 8) 0 s00 ∧ Below w.heap.size w w') := fun w1 shv sh hN => by
    refine (open_mem (w.heap.size + 1) 0 shv (.slice none 0 0) 0 [] w1 (by omega) hN.de (Rw.nil _ _ _)).mono ?_
    rintro r w' ⟨cvv', q0, q1, q2, q3, q4, q5⟩
    refine ⟨q0, hN.mem (by omega) (by omega) hT q1 q2 q3 (q4.mono (fun k _ e => ?_)) (fun k hk => ?_)⟩
    · rcases e with e | e
      · exact e
      · simp [Value.ownBlock] at e
    · rcases q5 with e | ⟨k2, l2, e⟩
      · rw [e] at hk; simp [Value.ownBlock] at hk
      · rw [e] at hk; injection hk with hk; omega
  generalize 1 + pickN z 8 = M at *
  go_enter Tryz.func12, Tryz.ntmps12
  go_wp2_with (first | (go_at_call 40; refine H1.out.mono ?_; rintro e w1 ⟨rfl, shv, sh, hN⟩) | (go_at_call 33; refine (H2.out w1 shv sh hN).mono ?_; rintro e w2 ⟨rfl, hM, hB⟩))
  go_ret2
  have hA := Below.alloc (Below.refl w2.heap.size w2) (Nat.le_refl _) (.cells #[.pointer (some ⟨w.heap.size + 1, 0, none⟩), .int .i64 0, .int .i64 0] 35)
  exact ⟨w2.heap.size, w.heap.size + 1, w1.heap.size, rfl, Blk.new _ _ _, hM.below hA, hB.size, hB.trans (hA.mono hB.size)⟩
end
end Go.Proofs.YthpmcilljbmoiaaGreatDoor
namespace Go.Proofs.YthpmcilljbmoiaaGreatDoor
open Go.RowKit

def slotCells (l : List Bl) : List Value := l.flatMap fun b => [.string b.nm, .bool b.mark, .int .i64 b.pn]
theorem slotCells_len (l : List Bl) : (slotCells l).length = l.length * 3 := by
  induction l with
  | nil => rfl
  | cons a l ih => rw [slotCells, List.flatMap_cons, List.length_append, ← slotCells, ih]; simp; omega
theorem slotCells_at (l : List Bl) : ∀ (i j : Nat) (h : i < l.length), j < 3 → (slotCells l)[i * 3 + j]? = [Value.string l[i].nm, .bool l[i].mark, .int .i64 l[i].pn][j]? := by
  induction l with
  | nil => intro i j h; simp at h
  | cons a l ih =>
    intro i j h hj
    cases i with
    | zero =>
      rw [slotCells, List.flatMap_cons, Nat.zero_mul, Nat.zero_add, List.getElem?_append_left (by simpa using hj)]
      rfl
    | succ i =>
      rw [slotCells, List.flatMap_cons, List.getElem?_append_right (by simp; omega), ← slotCells]
      simp only [List.getElem_cons_succ, List.length_cons, List.length_nil]
      rw [show (i + 1) * 3 + j - (0 + 1 + 1 + 1) = i * 3 + j by omega]
      exact ih i j (by simpa using h) hj
theorem infoSlot : (Tryz.prog.info? 103).map (fun i => (i.zero, i.size, i.bytes)) = some (some (.agg #[.string ⟨#[]⟩, .bool false, .int .i64 0]), 3, 32) := by kernel_rfl
theorem mkSlots (w : World) (n : Nat) (hn : n ≤ 1000) : ∃ cs : Array Value, cs.size = n * 3 ∧ (Instr.makeSlice 53 (.int .i64 n) (.int .i64 n)).run Tryz.prog w = .ok (.slice (some ⟨w.heap.size, 0, none⟩) n n) (w.alloc (.cells cs 103)) := by
  obtain ⟨i, hi, hz, hs, hb⟩ := info_parts infoSlot
  have := run_makeSlice (P := Tryz.prog) w 53 103 i _ Tryz.underlying53 hi hz .i64 .i64 n n (by omega) (Int.le_refl _) (by rw [hs]; omega) (by rw [hb]; omega) (by omega)
  refine ⟨madeCells (Value.agg #[.string ⟨#[]⟩, .bool false, .int .i64 0]).cells (n * 3), by simp [madeCells], ?_⟩
  rw [this, hs]
  simp
/-- the first i slots are laid -/
structure Sld (w : World) (H : Nat) (l : List Bl) (i : Nat) (wr : World) : Prop where
  ex : ∃ cs, Blk wr H 103 cs ∧ cs.size = l.length * 3 ∧ ∀ k j (h : k < l.length), k < i → j < 3 → cs[k * 3 + j]? = [Value.string l[k].nm, .bool l[k].mark, .int .i64 l[k].pn][j]?
  bl : Below w.heap.size w wr
  hH : w.heap.size ≤ H
theorem Sld.next {w wr wx : World} {H : Nat} {l : List Bl} {i : Nat} (h : Sld w H l i wr) (hi : i < l.length) (hk : Below wr.heap.size wr wx) :
    Sld w H l (i + 1) (((wx.setCell ⟨H, i * 3, none⟩ (.string l[i].nm)).setCell ⟨H, i * 3 + 1, none⟩ (.bool l[i].mark)).setCell ⟨H, i * 3 + 2, none⟩ (.int .i64 l[i].pn)) := by
  obtain ⟨⟨cs, h1, h2, h3⟩, h4, h5⟩ := h
  have hb := ((h1.below hk h1.lt).set (i * 3) (.string l[i].nm)).set (i * 3 + 1) (.bool l[i].mark)
  have hb2 := hb.set (i * 3 + 2) (.int .i64 l[i].pn)
  refine ⟨⟨_, hb2, by simp [h2], fun k j hkl hki hj => ?_⟩, ?_, h5⟩
  · simp only [Array.getElem?_setIfInBounds, Array.size_setIfInBounds, h2]
    by_cases e : k = i
    · subst e
      have hj3 : j = 0 ∨ j = 1 ∨ j = 2 := by omega
      rcases hj3 with rfl | rfl | rfl
      · rw [if_neg (by omega), if_neg (by omega), if_pos (by omega), if_pos (by omega)]; rfl
      · rw [if_neg (by omega), if_pos (by omega), if_pos (by omega)]; rfl
      · rw [if_pos (by omega), if_pos (by omega)]; rfl
    · rw [if_neg (by omega), if_neg (by omega), if_neg (by omega)]
      exact h3 k j hkl (by omega) hj
  · exact (((h4.trans (hk.mono h4.size)).setCell (p := ⟨H, i * 3, none⟩) h5 _).setCell (p := ⟨H, i * 3 + 1, none⟩) h5 _).setCell (p := ⟨H, i * 3 + 2, none⟩) h5 _
theorem Sld.alloc {w wr : World} {H : Nat} {l : List Bl} {i : Nat} (h : Sld w H l i wr) (o : Obj) : Sld w H l i (wr.alloc o) := by
  obtain ⟨⟨cs, h1, h2, h3⟩, h4, h5⟩ := h
  exact ⟨⟨cs, h1.alloc o, h2, h3⟩, h4.alloc h4.size o, h5⟩
theorem Sld.fin {w wr : World} {H : Nat} {l : List Bl} (h : Sld w H l l.length wr) (hl : l.length ≤ 1000) : Rw wr 103 3 (.slice (some ⟨H, 0, none⟩) l.length l.length) l.length (slotCells l) := by
  obtain ⟨⟨cs, h1, h2, h3⟩, h4, h5⟩ := h
  refine .inr ⟨H, 0, l.length, cs, rfl, h1, Nat.le_refl _, by unfold maxLen; omega, by omega, slotCells_len l, fun q hq => ?_⟩
  have e : q = q / 3 * 3 + q % 3 := by omega
  have := h3 (q / 3) (q % 3) (by omega) (by omega) (by omega)
  rw [← slotCells_at l (q / 3) (q % 3) (by omega) (by omega), ← e] at this
  rw [Nat.zero_add]
  exact this
set_option maxRecDepth 100000 in
set_option maxHeartbeats 1000000 in
theorem slots_any (sb : Nat) (l : List Bl) (room held pinned : Int) (bv : Value) (w : World) (h : Sh w sb l room held pinned bv) (hl : l.length ≤ 1000) :
    Calls Tryz.prog 59 #[.pointer (some ⟨sb, 0, none⟩)] w fun r w' => ∃ v, r = .returned v ∧ Rw w' 103 3 v l.length (slotCells l) ∧ Below w.heap.size w w' := by
  obtain ⟨hB, hR⟩ := h
  obtain ⟨a0, e0, rfl⟩ := Rw.shape hR
  have c0 : w.cell? ⟨sb, 0, none⟩ = some (.slice a0 l.length e0) := hB.cell 0
  have hlt := hB.lt
  have HK : Hid (∀ i (h : i < l.length), ∃ b off, a0 = some ⟨b, off, none⟩ ∧ ∀ w1, Below w.heap.size w w1 → w1.cell? ⟨b, off + i * 4, none⟩ = some (.string l[i].nm) ∧ w1.cell? ⟨b, off + i * 4 + 1, none⟩ = some (.string l[i].bs) ∧ w1.cell? ⟨b, off + i * 4 + 2, none⟩ = some (.bool l[i].mark) ∧ w1.cell? ⟨b, off + i * 4 + 3, none⟩ = some (.int .i64 l[i].pn)) := fun i hi => by
    obtain ⟨_, h0, _⟩ | ⟨b, off, cap, cur, hv, hb, g1, g2, g3, g4, g5⟩ := hR
    · omega
    · injection hv with hv
      refine ⟨b, off, hv, fun w1 hb1 => ?_⟩
      have hb' := hb.below hb1 hb.lt
      have k0 := blCells_at l i 0 hi (by omega)
      have k1 := blCells_at l i 1 hi (by omega)
      have k2 := blCells_at l i 2 hi (by omega)
      have k3 := blCells_at l i 3 hi (by omega)
      refine ⟨?_, ?_, ?_, ?_⟩
      · rw [hb'.cell, g5 _ (by omega)]; simpa [Bl.cells] using k0
      · rw [hb'.cell, Nat.add_assoc, g5 _ (by omega)]; simpa [Bl.cells] using k1
      · rw [hb'.cell, Nat.add_assoc, g5 _ (by omega)]; simpa [Bl.cells] using k2
      · rw [hb'.cell, Nat.add_assoc, g5 _ (by omega)]; simpa [Bl.cells] using k3
  obtain ⟨cs, hcs, hmk⟩ := mkSlots w l.length hl
  have hA : Below w.heap.size w (w.alloc (.cells cs 103)) := (Below.refl _ _).alloc (Nat.le_refl _) _
  have hS0 : Sld w w.heap.size l 0 (w.alloc (.cells cs 103)) := ⟨⟨cs, Blk.new _ _ _, hcs, fun k j _ hk => by omega⟩, hA, Nat.le_refl _⟩
  have c1 : (w.alloc (.cells cs 103)).cell? ⟨sb, 0, none⟩ = some (.slice a0 l.length e0) := by rw [hA.cell hlt]; exact c0
  have HF : Hid (∀ wr, Sld w w.heap.size l l.length wr → Rw wr 103 3 (.slice (some ⟨w.heap.size, 0, none⟩) l.length l.length) l.length (slotCells l) ∧ Below w.heap.size w wr) := fun wr q => ⟨q.fin hl, q.bl⟩
  clear hB hR hcs
  obtain ⟨n, hn⟩ : ∃ n, Hid (l.length = n) := ⟨_, rfl⟩
  rw [hn.out] at c0 c1 hl hmk HF
  rw [hn.out]
  have HS0 := hide hS0
  go_enter Tryz.func59, Tryz.ntmps59
  go_wp2
  clear hS0 hmk c0 hA c1
  generalize w.alloc (.cells cs 103) = W0 at *
  go_loopw [17] (fun iv wr => ∃ i : Nat, i ≤ n ∧ iv = .int .i64 i ∧ Hid (Sld w w.heap.size l i wr)) (fun iv _ => n - (intOf iv).toNat)
  case atStart => exact ⟨0, by omega, rfl, HS0⟩
  case round =>
    clear HS0
    obtain ⟨i, hi, rfl, hS⟩ := hrel
    have hll := hn.out
    by_cases h : i < n
    · have h1 : (i : Int) < (n : Int) := by omega
      have h2 : (0 : Int) ≤ (i : Int) := by omega
      obtain ⟨b, off, rfl, hc⟩ := HK.out i (by omega)
      obtain ⟨q0, q1, q2, q3⟩ := hc wr hS.out.bl
      have hHl : w.heap.size < wr.heap.size := by obtain ⟨⟨cs, g, _⟩, _, _⟩ := hS.out; exact g.lt
      have HX : Hid (∀ wx, Below wr.heap.size wr wx → Sld w w.heap.size l (i + 1) (((wx.setCell ⟨w.heap.size, i * 3, none⟩ (.string l[i].nm)).setCell ⟨w.heap.size, i * 3 + 1, none⟩ (.bool l[i].mark)).setCell ⟨w.heap.size, i * 3 + 2, none⟩ (.int .i64 l[i].pn))) := fun wx hx => hS.out.next (by omega) hx
      have HC : Hid (∀ wx, Below wr.heap.size wr wx → (∃ u, wx.cell? ⟨w.heap.size, i * 3, none⟩ = some u) ∧ (∃ u, wx.cell? ⟨w.heap.size, i * 3 + 1, none⟩ = some u) ∧ (∃ u, wx.cell? ⟨w.heap.size, i * 3 + 2, none⟩ = some u) ∧ wx.frozen? ⟨w.heap.size, i * 3, none⟩ = false ∧ wx.frozen? ⟨w.heap.size, i * 3 + 1, none⟩ = false ∧ wx.frozen? ⟨w.heap.size, i * 3 + 2, none⟩ = false) := fun wx hx => by
        obtain ⟨⟨cs, g1, g2, _⟩, _, _⟩ := hS.out
        have g := g1.below hx g1.lt
        exact ⟨⟨_, by rw [g.cell]; exact Array.getElem?_eq_getElem (by omega)⟩, ⟨_, by rw [g.cell]; exact Array.getElem?_eq_getElem (by omega)⟩, ⟨_, by rw [g.cell]; exact Array.getElem?_eq_getElem (by omega)⟩, g.frozen _, g.frozen _, g.frozen _⟩
      generalize l[i].nm = x0 at *
      generalize l[i].bs = x1 at *
      generalize l[i].mark = x2 at *
      generalize l[i].pn = x3 at *
      clear hc hll hS
      obtain ⟨⟨u0, r0⟩, ⟨u1, r1⟩, ⟨u2, r2⟩, f0, f1, f2⟩ := HC.out wr (Below.refl _ _)
      clear HC HK
      go_wp2
      exact ⟨⟨i + 1, by omega, by simp, (HX.out wr (Below.refl _ _)).alloc _⟩, by simp [intOf]; omega⟩
    · obtain rfl : i = n := by omega
      have h1 : ¬ ((i : Int) < (i : Int)) := by omega
      obtain ⟨g1, g2⟩ := HF.out wr (hn.out ▸ hS.out)
      have G := hide (And.intro g1 g2)
      clear hll g1 g2 HF HK hS
      go_wp2
      go_ret
      exact ⟨_, rfl, G.out.1, G.out.2⟩

/-- Ring -/
theorem MemX.shards {K : List Nat} {w : World} {F : Nat → Prop} {db kb m t : Nat} {s : Pst} (h : MemX K w F db kb m t s) (k : Nat) (hk : k < m) : ∃ b off cap sb bv, w.cell? ⟨db, 0, none⟩ = some (.slice (some ⟨b, off, none⟩) m cap) ∧ w.cell? ⟨b, off + k, none⟩ = some (.pointer (some ⟨sb, 0, none⟩)) ∧ Sh w sb (s.D.shs k) 4000 (heldN (s.D.shs k)) (pinN (s.D.shs k)) bv := by
  obtain ⟨G, H, shv, cv, lv, av, sh, bvs, lbs, nvs, wv, gv, wk, h⟩ := h
  obtain ⟨_, h0, _⟩ | ⟨b, off, cap, cur, hv, hb, g1, g2, g3, g4, g5⟩ := h.dep.shr
  · omega
  · exact ⟨b, off, cap, sh k, bvs k, by rw [← hv]; exact h.dep.blk.cell 0, by rw [hb.cell, g5 k (by omega), ptrs_get _ _ _ hk], h.dep.shf.at_ k hk⟩
set_option maxRecDepth 100000 in
set_option maxHeartbeats 1000000 in
theorem ring_mem {K : List Nat} {w : World} {F : Nat → Prop} {db kb m t : Nat} {s : Pst} (h : MemX K w F db kb m t s) (k : Nat) (hk : k < m) (hl : (s.D.shs k).length ≤ 1000) :
    Calls Tryz.prog 25 #[.pointer (some ⟨db, 0, none⟩), .int .i64 k] w fun r w' => ∃ v, r = .returned (.tuple #[v, .int .i64 0]) ∧ Rw w' 103 3 v (s.D.shs k).length (slotCells (s.D.shs k)) ∧ Below w.heap.size w w' := by
  obtain ⟨b, off, cap, sb, bv, c0, c1, hS⟩ := h.shards k hk
  have HS := hide (slots_any sb _ _ _ _ bv w hS hl)
  have h1 : ¬ ((k : Int) < 0) := by omega
  have h2 : ¬ ((m : Int) ≤ (k : Int)) := by omega
  have h3 : (k : Int) < (m : Int) := by omega
  have h4 : (0 : Int) ≤ (k : Int) := by omega
  clear h hS hk hl
  generalize s.D.shs k = l at *
  go_enter Tryz.func25, Tryz.ntmps25
  go_wp2_with (go_at_call 59; refine HS.out.mono ?_; rintro e w1 ⟨v, rfl, q1, q2⟩)
  go_ret2
  exact ⟨v, rfl, q1, q2⟩
theorem slotFields : (Tryz.prog.fieldsOf 103).toList.map (fun f => (f.name == "_", f.type, f.offset)) = [(false, 9, 0), (false, 4, 1), (false, 3, 2)] := by kernel_rfl
theorem neqSlot (w : World) (x : ByteArray) (b : Bool) (z : Int) : (binOp .neq 103 (.agg #[.string x, .bool b, .int .i64 z]) (.agg #[.string x, .bool b, .int .i64 z])).run Tryz.prog w = .ok (.bool false) w := by
  rw [run_neq_struct, run_equalIn_struct w 9999 _ _ _ (by kernel_rfl) (by kernel_rfl)]
  have hf := slotFields
  generalize (Tryz.prog.fieldsOf 103).toList = fs at *
  obtain ⟨f0, r0, rfl, e0, hf⟩ := List.map_eq_cons_iff.1 hf
  obtain ⟨f1, r1, rfl, e1, hf⟩ := List.map_eq_cons_iff.1 hf
  obtain ⟨f2, r2, rfl, e2, hf⟩ := List.map_eq_cons_iff.1 hf
  obtain rfl := List.map_eq_nil_iff.1 hf
  injection e0 with a0 e0; injection e0 with b0 c0
  injection e1 with a1 e1; injection e1 with b1 c1
  injection e2 with a2 e2; injection e2 with b2 c2
  have n0 : f0.name ≠ "_" := by simpa using a0
  have n1 : f1.name ≠ "_" := by simpa using a1
  have n2 : f2.name ≠ "_" := by simpa using a2
  simp only [Op.eqFields, b0, b1, b2, c0, c1, c2, n0, n1, n2, ne_eq, not_false_eq_true, if_true, Sem.run_bind]
  simp [go_sem]
end Go.Proofs.YthpmcilljbmoiaaGreatDoor
