import Derived.Test.YthpmcilljbmoiaaDoorPadded
import Derived.Test.YthpmcilljbmoiaaDoorNewSums
import Derived.Test.YthpmcilljbmoiaaDoorGrown
namespace Go.Proofs.YthpmcilljbmoiaaDoor
open Go.RowKit Go.Lib

theorem infoU64 : (Tryd.prog.info? 52).map (fun i => (i.zero, i.size, i.bytes)) = some (some (.int .u64 0), 1, 8) := by kernel_rfl
/-- words as a list of cells -/
def k64 (l : List Nat) : List Value := l.map fun (n : Nat) => Value.int .u64 n
theorem k64_len (l : List Nat) : (k64 l).length = l.length := by simp [k64]
theorem k64_app (l : List Nat) (x : Nat) : k64 l ++ [.int .u64 (x : Nat)] = k64 (l ++ [x]) := by simp [k64]
theorem k64_get (l : List Nat) (i : Nat) (h : i < l.length) : (k64 l)[i]? = some (.int .u64 (l.getD i 0 : Nat)) := by simp [k64, h]
theorem be_get : ∀ (n x j : Nat), j < n → (be n x).getD j 0 = x / 256 ^ (n - 1 - j) % 256
  | 0, _, _, h => by omega
  | n + 1, x, j, h => by
    rw [be, List.getD_eq_getElem?_getD]
    by_cases e : j < n
    · rw [List.getElem?_append_left (by rw [be_len]; exact e), ← List.getD_eq_getElem?_getD, be_get n _ j e, Nat.div_div_eq_div_mul]
      rw [show n + 1 - 1 - j = (n - 1 - j) + 1 by omega, Nat.pow_succ, Nat.mul_comm 256]
    · have : j = n := by omega
      subst this
      rw [List.getElem?_append_right (by rw [be_len]; exact Nat.le_refl _), be_len]
      simp
def lenOf : Value → Nat
  | .slice _ n _ => n
  | _ => 0
theorem take_snoc (l : List Nat) (i : Nat) (h : i < l.length) : l.take (i + 1) = l.take i ++ [l.getD i 0] := by
  rw [List.take_succ_eq_append_getElem h, List.getD_eq_getElem?_getD, List.getElem?_eq_getElem h]
  rfl
theorem byte_walk (n k : Nat) : (8 * (n : Int) / 2 ^ (8 * k)).tmod 256 = ((8 * n / 256 ^ k % 256 : Nat) : Int) := by
  have e : (8 * (n : Int) / 2 ^ (8 * k)) = ((8 * n / 256 ^ k : Nat) : Int) := by
    rw [show (256 : Nat) = 2 ^ 8 from rfl, ← Nat.pow_mul]
    simp
  rw [e]
  rfl
theorem nats_get (s : ByteArray) (i : Nat) (h : i < s.size) : (nats s).getD i 0 = s[i].toNat := by
  have h' : i < s.data.toList.length := by simpa using h
  rw [nats, List.getD_eq_getElem?_getD, List.getElem?_map, List.getElem?_eq_getElem h']
  rfl

set_option maxRecDepth 100000 in
set_option maxHeartbeats 1000000 in
theorem padref_any (s : ByteArray) (w : World) (hs : s.size ≤ 120) :
    Calls Tryd.prog 55 #[.string s] w
      fun r w' => ∃ v, r = .returned v ∧ w'.ownsRow w.heap.size 52 1 v (rows s.size) (k64 (pad (nats s))) ∧ Below w.heap.size w w' := by
  have HN := hide (nats_len s)
  go_enter Tryd.func55, Tryd.ntmps55
  go_wp2_with fail
  go_loopw [3, 4] (fun v iv wr => ∃ i : Nat, i ≤ s.size ∧ iv = .int .i64 i ∧ wr.ownsRow w.heap.size 52 1 v i (k64 ((nats s).take i)) ∧ Below w.heap.size w wr)
    (fun _ iv _ => s.size - (intOf iv).toNat)
  case atStart => exact ⟨0, by omega, rfl, World.ownsRow_nil _ _ _ _, Below.refl _ _⟩
  case round =>
    obtain ⟨i, hi, rfl, hown, hbel⟩ := hrel
    by_cases hlt : i < s.size
    · have Hs := hide (take_snoc (nats s) i (by rw [HN.out]; exact hlt))
      have Hg := hide (nats_get s i hlt)
      have hwb : IntKind.u64.wrap ((s[i].toNat : Nat) : Int) = ((s[i].toNat : Nat) : Int) := by
        have := s[i].toNat_lt
        rw [IntKind.wrap_u64]; omega
      go_wp2_with (at_builtin; refine wpList_append_row _ rfl (.tmp 13) (.tmp 18) 131 rfl 52 (.int .u64 0) 8 Tryd.underlying131 infoU64 rfl w.heap.size _ i _ rfl (hown.alloc _) wr.heap.size 1 1 [.int .u64 (s[i].toNat : Int)] rfl rfl (fun j u hj => by rw [(Blk.at _ _ _ _ rfl).cell]; simpa using hj) (by simp [Value.oneCell']) (by omega) (by decide) (by have := hbel.size; simp; omega) ?_)
      intro v1 w1 hown1 hgr
      have hbel1 := below_app hbel hbel.size hown hgr
      rw [show [Value.int .u64 (s[i].toNat : Int)] = [Value.int .u64 ((nats s).getD i 0 : Nat)] by rw [Hg.out], k64_app, ← Hs.out] at hown1
      clear hown hgr hwb hbel
      go_wp2
      go_roundw
      case rel => exact ⟨i + 1, by omega, by go_num, hown1, hbel1⟩
      case measure => simp [intOf]; omega
    · have e : i = s.size := by omega
      have hfull : (nats s).take i = nats s := by rw [e, ← HN.out, List.take_length]
      rw [hfull] at hown
      clear hfull
      go_wp2_with (at_builtin; refine wpList_append_row _ rfl (.tmp 20) (.tmp 21) 131 rfl 52 (.int .u64 0) 8 Tryd.underlying131 infoU64 rfl w.heap.size _ i _ rfl (hown.alloc _) wr.heap.size 1 1 [.int .u64 128] rfl rfl (fun j u hj => by rw [(Blk.at _ _ _ _ rfl).cell]; simpa using hj) (by simp [Value.oneCell']) (by omega) (by decide) (by have := hbel.size; simp; omega) ?_)
      intro v1 w1 hown1 hgr
      have hbel1 := below_app hbel hbel.size hown hgr
      have hown2 : w1.ownsRow w.heap.size 52 1 v1 (s.size + 1 + 0) (k64 (nats s ++ 128 :: List.replicate 0 0)) := by
        have := k64_app (nats s) 128
        rw [show ((128 : Nat) : Int) = 128 from rfl] at this
        rw [this] at hown1
        exact hown1
      clear hown hgr hbel hown1 e
      go_wp2_with fail
      go_loopw [3] (fun v ws => ∃ z : Nat, s.size + 1 + z ≤ rows s.size - 8 ∧ ws.ownsRow w.heap.size 52 1 v (s.size + 1 + z) (k64 (nats s ++ 128 :: List.replicate z 0)) ∧ Below w.heap.size w ws)
        (fun v _ => 1000 - lenOf v)
      case atStart => exact ⟨0, by unfold rows; omega, hown2, hbel1⟩
      case round =>
        clear hown2 hbel1
        obtain ⟨z, hz, hown, hbel⟩ := hrel
        obtain ⟨g, cap, rfl, hcap, hgB, hglt, hcell⟩ := own_form hown (by omega)
        clear hcell
        have hr192 : rows s.size ≤ 192 := by unfold rows; omega
        by_cases hne : (s.size + 1 + z) % 64 = 56
        · have hT : s.size + 1 + z = rows s.size - 8 := by unfold rows at hz ⊢; omega
          have hne' : ((((s.size + 1 + z : Nat) : Int) % 64) != 56) = false := by rw [bne_eq_false_iff_eq]; omega
          have HF : Hid (pad (nats s) = (nats s ++ 128 :: List.replicate z 0) ++ be 8 (8 * s.size)) := by
            show pad (nats s) = _
            rw [pad, HN.out, show rows s.size - 9 - s.size = z by omega]
            simp
          have HR : Hid (rows s.size = s.size + 1 + z + 8) := by show rows s.size = _; unfold rows at hT ⊢; omega
          have hown' : wr.ownsRow w.heap.size 52 1 (.slice (some ⟨g, 0, none⟩) (s.size + 1 + z) cap) (s.size + 1 + z + 0) (k64 ((nats s ++ 128 :: List.replicate z 0) ++ (be 8 (8 * s.size)).take 0)) := by
            rw [List.take_zero, List.append_nil]; exact hown
          have hn1 : s.size + 1 + z ≤ 192 := by omega
          clear hne hown hT hz hr192
          generalize nats s ++ 128 :: List.replicate z 0 = P0 at *
          generalize s.size + 1 + z = N at *
          go_wp2_with fail
          clear hne'
          go_loopw [3, 6] (fun v iv ws => ∃ k : Nat, k ≤ 8 ∧ iv = .int .i64 ((k : Int) - 1) ∧ ws.ownsRow w.heap.size 52 1 v (N + (8 - k)) (k64 (P0 ++ (be 8 (8 * s.size)).take (8 - k))) ∧ Below w.heap.size w ws)
            (fun _ iv _ => (intOf iv + 1).toNat)
          case atStart => exact ⟨8, by omega, rfl, hown', hbel⟩
          case round =>
            clear hown' hbel
            obtain ⟨k, hk, rfl, hown, hbel⟩ := hrel
            cases k with
            | zero =>
              go_wp2
              go_ret
              rw [List.take_of_length_le (by rw [be_len]; omega), ← HF.out, ← HR.out] at hown
              exact ⟨_, rfl, hown, hbel⟩
            | succ k =>
              rw [show ((k + 1 : Nat) : Int) - 1 = (k : Int) by omega]
              rw [show 8 - (k + 1) = 7 - k by omega] at hown
              have Hs := hide (take_snoc (be 8 (8 * s.size)) (7 - k) (by rw [be_len]; omega))
              have Hg := hide (be_get 8 (8 * s.size) (7 - k) (by omega))
              have HV : Hid ((8 * (s.size : Int) / 2 ^ (8 * k)).tmod 256 = (((be 8 (8 * s.size)).getD (7 - k) 0 : Nat) : Int)) := by
                show _ = _
                rw [byte_walk, Hg.out, show 8 - 1 - (7 - k) = k by omega]
              go_wp2_with (at_builtin; refine wpList_append_row _ rfl (.tmp 38) (.tmp 45) 131 rfl 52 (.int .u64 0) 8 Tryd.underlying131 infoU64 rfl w.heap.size _ (N + (7 - k)) _ rfl (hown.alloc _) wr.heap.size 1 1 [.int .u64 ((8 * (s.size : Int) / 2 ^ (8 * k)).tmod 256)] rfl rfl (fun j u hj => by rw [(Blk.at _ _ _ _ rfl).cell]; simpa using hj) (by simp [Value.oneCell']) (by omega) (by decide) (by have := hbel.size; simp; omega) ?_)
              intro v1 w1 hown1 hgr
              have hbel1 := below_app hbel hbel.size hown hgr
              have hown2 : w1.ownsRow w.heap.size 52 1 v1 (N + (8 - k)) (k64 (P0 ++ (be 8 (8 * s.size)).take (8 - k))) := by
                rw [HV.out, k64_app, List.append_assoc, ← Hs.out, show 7 - k + 1 = 8 - k by omega] at hown1
                rw [show N + (8 - k) = N + (7 - k) + 1 by omega]
                exact hown1
              clear hown hgr hbel hown1
              go_wp2
              go_roundw
              case rel => exact ⟨k, by omega, by go_num, hown2, hbel1⟩
              case measure => simp [intOf]
        · have hne' : ((((s.size : Int) + 1 + (z : Int)) % 64) != 56) = true := by rw [bne_iff_ne]; omega
          have hz1 : s.size + 1 + (z + 1) ≤ rows s.size - 8 := by unfold rows at hz ⊢; omega
          clear hne hz
          go_wp2_with (at_builtin; refine wpList_append_row _ rfl (.tmp 27) (.tmp 28) 131 rfl 52 (.int .u64 0) 8 Tryd.underlying131 infoU64 rfl w.heap.size _ (s.size + 1 + z) _ rfl (hown.alloc _) wr.heap.size 1 1 [.int .u64 0] rfl rfl (fun j u hj => by rw [(Blk.at _ _ _ _ rfl).cell]; simpa using hj) (by simp [Value.oneCell']) (by omega) (by decide) (by have := hbel.size; simp; omega) ?_)
          intro v1 w1 hown1 hgr
          have hbel1 := below_app hbel hbel.size hown hgr
          have hown2 : w1.ownsRow w.heap.size 52 1 v1 (s.size + 1 + (z + 1)) (k64 (nats s ++ 128 :: List.replicate (z + 1) 0)) := by
            have := k64_app (nats s ++ 128 :: List.replicate z 0) 0
            rw [show ((0 : Nat) : Int) = 0 from rfl] at this
            rw [this] at hown1
            rw [List.replicate_succ', show s.size + 1 + (z + 1) = s.size + 1 + z + 1 by omega]
            simpa using hown1
          obtain ⟨g1, cap1, rfl, _, _, _, _⟩ := own_form hown2 (by omega)
          clear hown hgr hbel hown1 hne'
          go_wp2
          go_roundw
          case rel => exact ⟨z + 1, hz1, hown2, hbel1⟩
          case measure => simp [lenOf]; omega
end Go.Proofs.YthpmcilljbmoiaaDoor
