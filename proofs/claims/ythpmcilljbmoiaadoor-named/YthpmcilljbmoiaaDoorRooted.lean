import Derived.Test.YthpmcilljbmoiaaDoorAbove
import Derived.Deep.DeepFit
namespace Go.Proofs.YthpmcilljbmoiaaDoor
open Go.RowKit Dig

/-- the bit of a round -/
def bt (n : Nat) : Nat := 2 ^ (41 - n) / 2
/-- the root so far: the power is at most lim -/
def rt (lim pw : Nat) : Nat → Nat
  | 0 => 0
  | n + 1 => if lim < (rt lim pw n + bt n) ^ pw then rt lim pw n else rt lim pw n + bt n
theorem bt_zero : bt 0 = 1099511627776 := by decide
theorem bt_next (n : Nat) (h : n < 41) : bt (n + 1) = bt n / 2 := by
  unfold bt
  rw [show 41 - n = (41 - (n + 1)) + 1 by omega, Nat.pow_succ, Nat.mul_div_cancel _ (by decide)]
theorem bt_pos (n : Nat) (h : n < 41) : 0 < bt n := by
  unfold bt
  rw [show 41 - n = (40 - n) + 1 by omega, Nat.pow_succ, Nat.mul_div_cancel _ (by decide)]
  exact Nat.two_pow_pos _
theorem bt_end : bt 41 = 0 := by decide
theorem rt_le (lim pw : Nat) : ∀ n, n ≤ 41 → rt lim pw n + 2 * bt n ≤ 2199023255552 + 1
  | 0, _ => by rw [bt_zero]; simp [rt]
  | n + 1, h => by
    have ih := rt_le lim pw n (by omega)
    have hb := bt_next n (by omega)
    simp only [rt]
    split <;> omega
theorem sum_lt (lim pw n : Nat) (h : n ≤ 41) : rt lim pw n + bt n < 281474976710656 := by
  have := rt_le lim pw n h
  omega
def zero8 : Array Value := ci (List.replicate 8 0)
theorem make8 (w : World) : (Instr.makeSlice 36 (.int .i64 8) (.int .i64 8)).run Tryd.prog w = .ok (.slice (some ⟨w.heap.size, 0, none⟩) 8 8) (w.alloc (.cells zero8 3)) := by kernel_rfl
/-- p times a power of the base, in eight digits -/
def wants (p pw : Nat) : List Nat := (List.replicate 8 0).set (2 * pw) p
theorem wants_ok (p pw : Nat) (hp : p < 65536) : ok (wants p pw) := set_ok (zero_ok 8) _ _ hp
theorem wants_len (p pw : Nat) : (wants p pw).length = 8 := by simp [wants]
theorem wants_val (p pw : Nat) (hp : pw ≤ 3) : val (wants p pw) = p * 65536 ^ (2 * pw) := by
  have := val_set (List.replicate 8 0) (2 * pw) p (by simp; omega)
  rw [val_zero] at this
  have e : (List.replicate 8 0).getD (2 * pw) 0 = 0 := by
    rw [List.getD_eq_getElem?_getD, List.getElem?_replicate]; split <;> rfl
  rw [e, Nat.zero_mul, Nat.add_zero, Nat.zero_add] at this
  exact this
theorem zero8_set (p pw : Nat) : zero8.setIfInBounds (2 * pw) (.int .i64 (p : Int)) = ci (wants p pw) := ci_set _ _ _
theorem zero8_get (pw : Nat) (h : pw ≤ 3) : zero8[2 * pw]? = some (.int .i64 0) := by
  rw [zero8, ci_get _ _ (by simp; omega)]
  rw [List.getD_eq_getElem?_getD, List.getElem?_replicate]; split <;> rfl
theorem pow_lt3 (y k : Nat) (hy : y < 281474976710656) : y ^ k < 65536 ^ (3 * k) ∨ k = 0 := by
  by_cases h : k = 0
  · right; exact h
  · left
    rw [Nat.pow_mul]
    exact Nat.pow_lt_pow_left hy h

theorem limbs_sum (x t : Nat) (w : World) (hn : x + t < 281474976710656) :
    Calls Tryd.prog 52 #[.int .i64 ((x : Int) + (t : Int))] w fun r w' => r = .returned (.slice (some ⟨w.heap.size, 0, none⟩) 3 3) ∧ Blk w' w.heap.size 3 (ci (dig 3 (x + t))) ∧ Below w.heap.size w w' := by
  rw [← Int.natCast_add]
  exact limbs_any (x + t) w hn
theorem times_dig (y k : Nat) (ba bb ca cb na : Nat) (w : World) (hna : na = 3 * k) (hk : 1 ≤ k) (hk2 : k ≤ 2) (hy : y < 281474976710656)
    (xa : Blk w ba 3 (ci (dig (3 * k) (y ^ k)))) (xb : Blk w bb 3 (ci (dig 3 y))) :
    Calls Tryd.prog 53 #[.slice (some ⟨ba, 0, none⟩) na ca, .slice (some ⟨bb, 0, none⟩) 3 cb] w
      fun r w' => r = .returned (.slice (some ⟨w.heap.size, 0, none⟩) (3 * (k + 1)) (3 * (k + 1))) ∧ Blk w' w.heap.size 3 (ci (dig (3 * (k + 1)) (y ^ (k + 1)))) ∧ Below w.heap.size w w' := by
  subst hna
  have h := times_any (dig (3 * k) (y ^ k)) (dig 3 y) ba bb ca cb w (dig_ok _ _) (dig_ok _ _) (by rw [dig_len]; omega) (by rw [dig_len]; omega) xa xb
  rw [dig_len, dig_len, val_dig 3 y hy, val_dig (3 * k) (y ^ k) ((pow_lt3 y k hy).resolve_right (by omega))] at h
  rw [show 3 * (k + 1) = 3 * k + 3 by omega, Nat.pow_succ]
  exact h
theorem rt_step (lim pw n : Nat) : rt lim pw (n + 1) = if lim < (rt lim pw n + bt n) ^ pw then rt lim pw n else rt lim pw n + bt n := rfl

set_option maxRecDepth 100000 in
set_option maxHeartbeats 1000000 in
theorem rooted_any (p pw : Nat) (w : World) (hp : p < 512) (hpw : 2 ≤ pw) (hpw' : pw ≤ 3) :
    Calls Tryd.prog 37 #[.int .i64 p, .int .i64 pw] w
      fun r w' => r = .returned (.int .u64 ((rt (p * 65536 ^ (2 * pw)) pw 41 % 4294967296 : Nat) : Int)) ∧ Below w.heap.size w w' := by
  have hmk := make8
  have hz := zero8_get pw hpw'
  have hzs := zero8_set p pw
  go_enter Tryd.func37, Tryd.ntmps37
  go_wp2_with fail
  clear hmk hz hzs
  obtain ⟨B, hB⟩ : ∃ B, B = w.heap.size := ⟨_, rfl⟩
  have HW := hide hB
  rw [← hB]
  clear hB
  obtain ⟨L, hL⟩ : ∃ L, L = p * 65536 ^ (2 * pw) := ⟨_, rfl⟩
  have HL := hide hL
  clear hL
  have HP := hide hp
  clear hp
  go_loopw [6, 7] (fun x b wr => ∃ n : Nat, n ≤ 41 ∧ x = .int .i64 (rt L pw n : Nat) ∧ b = .int .i64 (bt n : Nat) ∧ Blk wr B 3 (ci (wants p pw)) ∧ Below B w wr)
    (fun _ b _ => (intOf b).toNat)
  case atStart =>
    obtain rfl := HW.out
    exact ⟨0, by omega, rfl, by rw [bt_zero]; rfl, Blk.new _ _ _, (Below.refl _ _).alloc (Nat.le_refl _) _⟩
  case round =>
    obtain ⟨n, hn, rfl, rfl, xw, hbel⟩ := hrel
    by_cases hlt : n < 41
    · have b1 := bt_pos n hlt
      have HB2 := hide (bt_next n hlt)
      have HS := hide (sum_lt L pw n hn)
      have HR := hide (rt_step L pw n)
      have hs1 : (rt L pw n : Int) + (bt n : Int) ≤ 9223372036854775807 := by have := HS.out; omega
      have hBlt := xw.lt
      generalize hx : rt L pw n = x at *
      generalize ht : bt n = t at *
      clear hx ht
      go_wp2_with fail
      refine (limbs_sum x t _ HS.out).mono ?_
      rintro e w1 ⟨rfl, xl, hb1⟩
      have xw1 := xw.below hb1 hBlt
      have hbel1 := hbel.trans (hb1.mono (by omega))
      have hsz := hb1.size
      have hxl := xl.lt
      clear xw hbel hb1
      generalize hlb : wr.heap.size = lb at *
      clear hlb
      go_wp2_with fail
      go_loopw [9, 10] (fun nv kv ws => ∃ (k nb : Nat), 1 ≤ k ∧ k ≤ pw ∧ kv = .int .i64 k ∧ nv = .slice (some ⟨nb, 0, none⟩) (3 * k) (3 * k) ∧ Blk ws nb 3 (ci (dig (3 * k) ((x + t) ^ k))) ∧ Blk ws lb 3 (ci (dig 3 (x + t))) ∧ Blk ws B 3 (ci (wants p pw)) ∧ Below B w ws)
        (fun _ kv _ => pw - (intOf kv).toNat)
      case atStart => exact ⟨1, lb, by omega, by omega, rfl, rfl, by rw [Nat.pow_one]; exact xl, xl, xw1, hbel1⟩
      case round =>
        clear xl xw1 hbel1
        obtain ⟨k, nb, hk1, hk2, rfl, rfl, xn, xl, xw, hbel⟩ := hrel
        by_cases hlk : k < pw
        · go_wp2_with fail
          refine (times_dig (x + t) k nb lb (3 * k) 3 (3 * k) _ rfl hk1 (by omega) HS.out xn xl).mono ?_
          rintro e w2 ⟨rfl, xn2, hb2⟩
          have xl2 := xl.below hb2 xl.lt
          have xw2 := xw.below hb2 xw.lt
          have hbel2 := hbel.trans (hb2.mono (by have := xw.lt; omega))
          clear xl xw hbel hb2 xn
          go_wp2
          go_roundw
          case rel => exact ⟨k + 1, _, by omega, by omega, by go_num, rfl, xn2, xl2, xw2, hbel2⟩
          case measure => simp [intOf]; omega
        · have e : k = pw := by omega
          subst e
          have HT := hide (above_any (dig (3 * k) ((x + t) ^ k)) (wants p k) nb B (3 * k) 8 (3 * k) 8 wr (dig_ok _ _) (wants_ok p k (by have := HP.out; omega)) (dig_len _ _).symm (wants_len _ _).symm (by omega) (by omega) xn xw)
          go_wp2_with fail
          refine HT.out.mono ?_
          rintro e w2 ⟨rfl, hw⟩
          subst hw
          have HV : Hid (decide (val (wants p k) < val (dig (3 * k) ((x + t) ^ k))) = decide (L < (x + t) ^ k)) := by
            show decide _ = decide _
            rw [wants_val p k hpw', val_dig _ _ ((pow_lt3 (x + t) k HS.out).resolve_right (by omega)), HL.out]
          rw [HV.out]
          clear HT xn xl
          by_cases hov : L < (x + t) ^ k
          · have HR2 : Hid (rt L k (n + 1) = x) := by show rt L k (n + 1) = x; rw [HR.out, if_pos hov]
            rw [decide_eq_true hov]
            clear hov
            go_wp2
            exact ⟨⟨n + 1, by omega, by rw [HR2.out], congrArg (Value.int .i64) (by rw [HB2.out]; omega), xw, hbel⟩, by simp [intOf]; omega⟩
          · have HR2 : Hid (rt L k (n + 1) = x + t) := by show rt L k (n + 1) = x + t; rw [HR.out, if_neg hov]
            rw [decide_eq_false hov]
            clear hov
            go_wp2
            exact ⟨⟨n + 1, by omega, congrArg (Value.int .i64) (by rw [HR2.out]; omega), congrArg (Value.int .i64) (by rw [HB2.out]; omega), xw, hbel⟩, by simp [intOf]; omega⟩
    · have e : n = 41 := by omega
      subst e
      have hb0 := bt_end
      have HX := hide (rt_le L pw 41 (by omega))
      rw [hb0]
      have hx1 : (rt L pw 41 : Int) ≤ 4398046511104 := by have := HX.out; omega
      obtain ⟨x, hx⟩ : ∃ x, rt L pw 41 = x := ⟨_, rfl⟩
      rw [hx]
      rw [hx] at hx1
      have HXE := hide hx
      clear hb0 hx
      go_wp2
      go_ret
      refine ⟨congrArg (fun z => Ending.returned (Value.int .u64 z)) ?_, by rw [← HW.out]; exact hbel⟩
      rw [← HL.out, HXE.out]
      omega
end Go.Proofs.YthpmcilljbmoiaaDoor
