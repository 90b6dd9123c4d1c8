import Derived.Test.YthpmcilljbmoiaaDoorChecked
import Derived.Test.YthpmcilljbmoiaaDoorBlk
import Derived.Test.YthpmcilljbmoiaaDoorDigits
import Derived.WalkSpells
import Derived.WalkLawsBesides
import Derived.Deep.OwnRows
import Derived.Deep.QuietTactic
import Derived.BigQuiet
namespace Go.Proofs.YthpmcilljbmoiaaDoor
open Go.RowKit Dig

/-- whole numbers as cells -/
def ci (l : List Nat) : Array Value := (l.map fun (n : Nat) => Value.int .i64 n).toArray
theorem ci_get (l : List Nat) (i : Nat) (h : i < l.length) : (ci l)[i]? = some (.int .i64 (l.getD i 0 : Nat)) := by
  simp [ci, h]
theorem ci_set (l : List Nat) (i x : Nat) : (ci l).setIfInBounds i (.int .i64 (x : Nat)) = ci (l.set i x) := by
  simp [ci, List.map_set]
theorem ci_size (l : List Nat) : (ci l).size = l.length := by simp [ci]
theorem infoInt : (Tryd.prog.info? 3).map (fun i => (i.zero, i.size, i.bytes)) = some (some (.int .i64 0), 1, 8) := by kernel_rfl
theorem made_ci (n : Nat) : madeCells #[Value.int .i64 0] n = ci (List.replicate n 0) := by
  apply Array.toList_inj.1
  rw [toList_madeCells_one]
  simp [ci]

def primeB (n : Nat) : Bool := (List.range n).all (fun k => k < 2 || n % k != 0) && decide (1 < n)
theorem primeB_no {n k : Nat} (h2 : 2 ≤ k) (hk : k < n) (hd : n % k = 0) : primeB n = false := by
  unfold primeB
  rw [Bool.and_eq_false_iff]
  left
  rw [List.all_eq_false]
  exact ⟨k, List.mem_range.2 hk, by simp [hd]; omega⟩
theorem primeB_yes {n : Nat} (h : ∀ j, 2 ≤ j → j < n → n % j ≠ 0) : primeB n = decide (1 < (n : Int)) := by
  unfold primeB
  have : ((List.range n).all fun k => k < 2 || n % k != 0) = true := by
    rw [List.all_eq_true]
    intro k hk
    have := List.mem_range.1 hk
    by_cases h2 : k < 2
    · simp [h2]
    · simp [h2, h k (by omega) this]
  rw [this, Bool.true_and]
  simp
  omega
theorem ret_bool {a b : Bool} (h : a = b) : Ending.returned (.bool a) = .returned (.bool b) := by rw [h]
set_option maxHeartbeats 400000 in
theorem prime_any (n : Nat) (w : World) (hn : n ≤ 512) :
    Calls Tryd.prog 36 #[.int .i64 n] w fun r w' => r = .returned (.bool (primeB n)) ∧ w' = w := by
  go_enter Tryd.func36, Tryd.ntmps36
  go_wp2
  go_loop [3] (fun i => ∃ k : Nat, 2 ≤ k ∧ (k ≤ n ∨ k = 2) ∧ i = .int .i64 k ∧ Hid (∀ j, 2 ≤ j → j < k → n % j ≠ 0)) (fun i => n - (intOf i).toNat)
  case atStart => exact ⟨2, by omega, by omega, rfl, fun j h1 h2 => by omega⟩
  case round =>
    obtain ⟨k, h2, hk, rfl, HA⟩ := hrel
    by_cases hlt : k < n
    · by_cases hd : n % k = 0
      · have HP := hide (primeB_no h2 hlt hd)
        have hd' : (((n : Int) % (k : Int)) == 0) = true := by rw [beq_iff_eq]; omega
        clear hd
        go_wp2
        go_ret
        exact ⟨ret_bool HP.out.symm, rfl⟩
      · have HD := hide hd
        have hd' : (((n : Int) % (k : Int)) == 0) = false := by rw [beq_eq_false_iff_ne]; omega
        clear hd
        go_wp2
        exact ⟨⟨k + 1, by omega, by omega, by go_num, fun j h1 hj => by
          by_cases e : j = k
          · subst e; exact HD.out
          · exact HA.out j h1 (by omega)⟩, by simp [intOf]; omega⟩
    · have HP : Hid (primeB n = decide (1 < (n : Int))) := primeB_yes fun j h1 hj => HA.out j h1 (by omega)
      go_wp2
      go_ret
      exact ⟨ret_bool HP.out.symm, rfl⟩

set_option maxHeartbeats 400000 in
theorem limbs_any (n : Nat) (w : World) (hn : n < 281474976710656) :
    Calls Tryd.prog 52 #[.int .i64 n] w fun r w' => r = .returned (.slice (some ⟨w.heap.size, 0, none⟩) 3 3) ∧ Blk w' w.heap.size 3 (ci (dig 3 n)) ∧ Below w.heap.size w w' := by
  go_enter Tryd.func52, Tryd.ntmps52
  go_wp2
  go_ret
  refine ⟨rfl, ?_, ?_⟩
  · have : ci (dig 3 n) = #[.int .i64 ((n : Int) % 65536), .int .i64 ((n : Int) / 65536 % 65536), .int .i64 ((n : Int) / 65536 / 65536)] := by
      have h3 : n / 65536 / 65536 % 65536 = n / 65536 / 65536 := Nat.mod_eq_of_lt (by omega)
      simp [ci, dig, h3]
    rw [this]
    exact Blk.new _ _ _
  · exact (Below.refl _ _).alloc (Nat.le_refl _) _

set_option maxRecDepth 100000 in
set_option maxHeartbeats 1000000 in
theorem times_any (a b : List Nat) (ba bb ca cb : Nat) (w : World) (ha : ok a) (hb : ok b) (la : a.length ≤ 8) (lb : b.length ≤ 8)
    (xa : Blk w ba 3 (ci a)) (xb : Blk w bb 3 (ci b)) :
    Calls Tryd.prog 53 #[.slice (some ⟨ba, 0, none⟩) a.length ca, .slice (some ⟨bb, 0, none⟩) b.length cb] w
      fun r w' => r = .returned (.slice (some ⟨w.heap.size, 0, none⟩) (a.length + b.length) (a.length + b.length)) ∧ Blk w' w.heap.size 3 (ci (dig (a.length + b.length) (val a * val b))) ∧ Below w.heap.size w w' := by
  have hmk := run_make_row' (P := Tryd.prog) 36 3 (.int .i64 0) 8 Tryd.underlying36 infoInt rfl .i64 .i64 (a.length + b.length) (by omega) (by omega)
  rw [Int.natCast_add] at hmk
  have HA := hide ha
  have HB := hide hb
  clear ha hb
  go_enter Tryd.func53, Tryd.ntmps53
  go_wp2_with fail
  obtain ⟨B, hB⟩ : ∃ B, B = w.heap.size := ⟨_, rfl⟩
  have HW := hide hB
  have hBa : ba < B := by rw [hB]; exact xa.lt
  have hBb : bb < B := by rw [hB]; exact xb.lt
  rw [← hB]
  clear hB hmk
  go_loopw [6] (fun v wr => ∃ (i : Nat) (o : List Nat), i ≤ a.length ∧ v = .int .i64 i ∧ o.length = a.length + b.length ∧ ok o ∧ Hid (val o = val (a.take i) * val b) ∧ Blk wr B 3 (ci o) ∧ Below B w wr)
    (fun v _ => a.length - (intOf v).toNat)
  case atStart =>
    obtain rfl := HW.out
    refine ⟨0, List.replicate (a.length + b.length) 0, by omega, rfl, by simp, zero_ok _, ?_, ?_, (Below.refl _ _).alloc (Nat.le_refl _) _⟩
    · show val _ = _
      rw [val_zero]; simp [val]
    · rw [← made_ci]; exact Blk.new _ _ _
  case round =>
    obtain ⟨i, o, hi, rfl, lo, ho, HV, xo, hbel⟩ := hrel
    by_cases hlt : i < a.length
    · go_wp2_with fail
      have HV' : Hid (val o = val (a.take i) * val b + a.getD i 0 * 65536 ^ i * val (b.take 0)) := by show val o = _; rw [HV.out]; simp [val]
      go_loopw [7] (fun v ws => ∃ (k : Nat) (o : List Nat), k ≤ b.length ∧ v = .int .i64 k ∧ o.length = a.length + b.length ∧ ok o ∧ Hid (val o = val (a.take i) * val b + a.getD i 0 * 65536 ^ i * val (b.take k)) ∧ Blk ws B 3 (ci o) ∧ Below B w ws)
        (fun v _ => b.length - (intOf v).toNat)
      case atStart => exact ⟨0, o, by omega, rfl, lo, ho, HV', xo, hbel⟩
      case round =>
        clear HV HV' xo hbel ho lo
        obtain ⟨k, o, hk, rfl, lo, ho, HV, xo, hbel⟩ := hrel
        by_cases hlk : k < b.length
        · have cA : wr.cell? ⟨ba, i, none⟩ = some (.int .i64 (a.getD i 0 : Nat)) := by rw [(xa.below hbel hBa).cell]; exact ci_get a i hlt
          have cB : wr.cell? ⟨bb, k, none⟩ = some (.int .i64 (b.getD k 0 : Nat)) := by rw [(xb.below hbel hBb).cell]; exact ci_get b k hlk
          have cO : wr.cell? ⟨B, i + k, none⟩ = some (.int .i64 (o.getD (i + k) 0 : Nat)) := by rw [xo.cell]; exact ci_get o _ (by omega)
          have fO := xo.frozen (i + k)
          have lA := HA.out i
          have lB := HB.out k
          have lO := ho (i + k)
          obtain ⟨sb, sv, sg⟩ := step_add (x := a.getD i 0 * b.getD k 0) ho HV.out (show i + k < o.length by omega)
          have HN := hide (next_val (a := a) (i := i) hlk rfl rfl)
          have hm : a.getD i 0 * b.getD k 0 ≤ 65535 * 65535 := Nat.mul_le_mul (by omega) (by omega)
          have n1 := (Blk.drew xo).set (i + k) (.int .i64 ((o.getD (i + k) 0 + a.getD i 0 * b.getD k 0 : Nat) : Int))
          rw [ci_set] at n1
          have SB := hide sb
          have SV := hide sv
          have SG := hide sg
          clear sb sv sg
          have PL := hide (part_lt (k := k + 1) HA.out HB.out hlt)
          generalize hX : val (a.take i) * val b + a.getD i 0 * 65536 ^ i * val (b.take k) = X at *
          clear hX
          generalize hY : val (a.take i) * val b + a.getD i 0 * 65536 ^ i * val (b.take (k + 1)) = Y at *
          have HYE2 := hide hY
          clear hY
          generalize a.getD i 0 = x at *
          generalize b.getD k 0 = y at *
          generalize hz : o.getD (i + k) 0 = z at *
          have HZ := hide hz
          clear hz
          have w1 : IntKind.i64.wrap ((i : Int) + (k : Int)) = (i : Int) + (k : Int) := by rw [IntKind.wrap_i64]; omega
          have xy : ((x : Int) * (y : Int)) = ((x * y : Nat) : Int) := by simp
          have w2 : IntKind.i64.wrap ((x : Int) * (y : Int)) = (x : Int) * (y : Int) := by rw [IntKind.wrap_i64, xy]; omega
          have w3 : IntKind.i64.wrap ((z : Int) + (x : Int) * (y : Int)) = (z : Int) + (x : Int) * (y : Int) := by rw [IntKind.wrap_i64, xy]; omega
          have i1 : (i : Int) + (k : Int) < (a.length : Int) + (b.length : Int) := by omega
          have i2 : (i : Int) < (a.length : Int) := by omega
          have i3 : (k : Int) < (b.length : Int) := by omega
          have i4 : ((i : Int) + (k : Int)).toNat = i + k := by omega
          have i5 : (0 : Int) ≤ (i : Int) + (k : Int) := by omega
          clear xy
          go_wp2_with fail
          go_region
          have hz33 : z + x * y < 8589934592 := by omega
          have n2 : Blk (wr.drew.setCell ⟨B, i + k, none⟩ (.int .i64 ((z : Int) + (x : Int) * (y : Int)))) B 3 (ci (o.set (i + k) (z + x * y))) := by
            rw [show ((z : Int) + (x : Int) * (y : Int)) = ((z + x * y : Nat) : Int) by simp]; exact n1
          have hbel2 : Below B w (wr.drew.setCell ⟨B, i + k, none⟩ (.int .i64 ((z : Int) + (x : Int) * (y : Int)))) := hbel.drew.setCell (Nat.le_refl _) _
          have lo2 : (o.set (i + k) (z + x * y)).length = a.length + b.length := by rw [List.length_set]; exact lo
          have hik : i + k < a.length + b.length := by omega
          have SV2 : Hid (val (o.set (i + k) (z + x * y)) = Y) := by show val _ = Y; rw [← HN.out]; exact SV.out
          have SG2 : (o.set (i + k) (z + x * y)).getD (i + k) 0 < 8589934592 := by rw [SG.out]; exact hz33
          generalize o.set (i + k) (z + x * y) = o2 at *
          clear n1 xo hbel cA cB cO fO lA lB lO w2 w3 SV SG HN ho lo hm hz33 HZ
          go_wp2_with fail
          go_loopw [8] (fun v ws => ∃ (c : Nat) (o : List Nat), c < a.length + b.length ∧ v = .int .i64 c ∧ o.length = a.length + b.length ∧ Hid (but o c) ∧ o.getD c 0 < 8589934592 ∧ Hid (val o = Y) ∧ Blk ws B 3 (ci o) ∧ Below B w ws)
            (fun v _ => a.length + b.length - (intOf v).toNat)
          case atStart => exact ⟨i + k, o2, hik, by go_num, lo2, SB, SG2, SV2, n2, hbel2⟩
          case round =>
            clear n2 hbel2 SV2 SG2 SB lo2 hik
            obtain ⟨c, o, hc, rfl, lo, SB, hx33, SV, xo, hbel⟩ := hrel
            have cO : wr.cell? ⟨B, c, none⟩ = some (.int .i64 (o.getD c 0 : Nat)) := by rw [xo.cell]; exact ci_get o _ (by omega)
            by_cases hge : 65536 ≤ o.getD c 0
            · obtain ⟨c1, cb1, cv⟩ := carry SB.out SV.out (by rw [lo]; exact PL.out) (by omega) hge
              have CB := hide cb1
              have CV := hide cv
              clear cb1 cv
              have cO1 : wr.cell? ⟨B, c + 1, none⟩ = some (.int .i64 (o.getD (c + 1) 0 : Nat)) := by rw [xo.cell]; exact ci_get o _ c1
              have l1 : o.getD (c + 1) 0 < 65536 := SB.out (c + 1) (by omega)
              have f0 := xo.frozen c
              have f1 := xo.frozen (c + 1)
              have c1' : c + 1 < a.length + b.length := by omega
              clear c1
              generalize hx : o.getD c 0 = x at *
              generalize hy : o.getD (c + 1) 0 = y at *
              have HX := hide hx
              have HY := hide hy
              have hge' : (65536 : Int) ≤ (x : Int) := by omega
              have HGE := hide hge
              have HL1 := hide l1
              have HX33 := hide hx33
              clear hx hy w1 i1 i2 i3 i4 i5
              have w1 : IntKind.i64.wrap ((c : Int) + 1) = (c : Int) + 1 := by rw [IntKind.wrap_i64]; omega
              have w3 : IntKind.i64.wrap ((x : Int) / 65536) = (x : Int) / 65536 := by rw [IntKind.wrap_i64]; omega
              have w4 : IntKind.i64.wrap ((y : Int) + (x : Int) / 65536) = (y : Int) + (x : Int) / 65536 := by rw [IntKind.wrap_i64]; omega
              have i1 : (c : Int) + 1 < (a.length : Int) + (b.length : Int) := by omega
              have i2 : (c : Int) < (a.length : Int) + (b.length : Int) := by omega
              have i4 : ((c : Int) + 1).toNat = c + 1 := by omega
              have i5 : (0 : Int) ≤ (c : Int) + 1 := by omega
              clear hge l1 hx33
              go_wp2_with fail
              go_region
              have k0 : (wr.setCell ⟨B, c + 1, none⟩ (.int .i64 ((y : Int) + (x : Int) / 65536))).cell? ⟨B, c, none⟩ = some (.int .i64 (x : Nat)) := by
                rw [World.cell?_setCell_other _ _ _ _ (by simp)]; exact cO
              have w5 : IntKind.i64.wrap ((x : Int) % 65536) = (x : Int) % 65536 := by rw [IntKind.wrap_i64]; omega
              have n1 := (xo.set (c + 1) (.int .i64 ((y + x / 65536 : Nat) : Int))).set c (.int .i64 ((x % 65536 : Nat) : Int))
              rw [ci_set, ci_set, show ((y + x / 65536 : Nat) : Int) = (y : Int) + (x : Int) / 65536 by omega, show ((x % 65536 : Nat) : Int) = (x : Int) % 65536 by omega] at n1
              clear cO cO1 w1 w3 w4 i1 i4 i5 xo
              go_wp2
              go_roundw
              case rel =>
                refine ⟨c + 1, _, c1', by go_num, ?_, CB, ?_, CV, n1, ((hbel.setCell (p := ⟨B, c + 1, none⟩) (Nat.le_refl _) _).setCell (p := ⟨B, c, none⟩) (Nat.le_refl _) _).drew⟩
                · rw [List.length_set, List.length_set]; exact lo
                · rw [Dig.getD_set_ne _ _ _ _ (by omega), Dig.getD_set_eq _ _ _ (by omega)]
                  have := HL1.out
                  have := HX33.out
                  omega
              case measure => simp [intOf]; omega
            · have OK := hide (but_ok SB.out (by omega))
              have hge' : ¬ (65536 : Int) ≤ (o.getD c 0 : Int) := by omega
              have i2 : (c : Int) < (a.length : Int) + (b.length : Int) := by omega
              generalize o.getD c 0 = x at *
              clear hge hx33 w1 i1 i2 i3 i4 i5
              go_wp2
              go_roundw
              case rel => exact ⟨k + 1, o, by omega, by go_num, lo, OK.out, (by show val o = _; rw [SV.out]; exact HYE2.out.symm), xo, hbel⟩
              case measure => simp [intOf]; omega
        · have RD : Hid (val o = val (a.take (i + 1)) * val b) := by
            show val o = _
            have e : k = b.length := by omega
            exact row_done hlt (by rw [← e]; exact HV.out)
          go_wp2
          go_roundw
          case rel => exact ⟨i + 1, o, by omega, by go_num, lo, ho, RD, xo, hbel⟩
          case measure => simp [intOf]; omega
    · have e : i = a.length := by omega
      have FIN : Hid (o = dig (a.length + b.length) (val a * val b)) := by
        show o = _
        have h1 := HV.out
        rw [e, List.take_length] at h1
        rw [← h1, ← lo]
        exact (dig_val o ho).symm
      clear e
      go_wp2
      go_ret
      obtain rfl := HW.out
      exact ⟨rfl, by rw [← FIN.out]; exact xo, hbel⟩
end Go.Proofs.YthpmcilljbmoiaaDoor
