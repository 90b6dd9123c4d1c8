import Derived.Test.YthpmcilljbmoiaaGreatDoorWire
import Derived.Test.YthpmcilljbmoiaaGreatDoorFill
import Derived.Test.YthpmcilljbmoiaaGreatDoorNameOf
namespace Go.Proofs.YthpmcilljbmoiaaGreatDoor
open Go.RowKit Word

theorem zer_rept : ∀ n, zer n = rept 0 n
  | 0 => rfl
  | n + 1 => by
    rw [zer, zer_rept n]
    apply ByteArray.ext
    apply Array.ext'
    simp [rept, b8, List.replicate_succ']
theorem nameStr_size (K : List Nat) (s : ByteArray) : (nameStr K s).size = 34 := by
  unfold nameStr
  rw [strOf_size, nameBytes, List.length_cons, List.length_cons, sumBytes_len]
/-- the names of the blobs that are asked for -/
def Nx (K : List Nat) (j : Nat) : ByteArray := nameStr K (rept 120 j)
theorem Nx_ok (K : List Nat) : Nok (Nx K) := fun j hj => by
  refine ⟨nameStr_size _ _, ?_⟩
  have : (Nx K j).extract 0 2 = b8 0 ++ b8 j := by
    unfold Nx nameStr
    apply ByteArray.ext
    apply Array.ext'
    rw [extract_list, rept_size]
    have hj0 : j / 256 = 0 := by omega
    rw [nameBytes, hj0]
    simp [strOf, b8]
  rw [this, num_b8s _ _ (by omega) (by omega)]
  omega
theorem cat_add : ∀ (l : List ByteArray) (x : ByteArray), cat (l ++ [x]) = cat l ++ x
  | [], x => by rw [List.nil_append, cat, cat, cat, app_empty, empty_app]
  | y :: l, x => by rw [List.cons_append, cat, cat_add l x, cat, ByteArray.append_assoc]
theorem nms_add (N : Nat → ByteArray) (n : Nat) : nms N (n + 1) = nms N n ++ [N n] := by simp [nms, List.range_succ]

set_option maxRecDepth 100000 in
set_option maxHeartbeats 400000 in
theorem kname_any (K : List Nat) (s : ByteArray) (w : World) (hs : s.size ≤ 120) (hKl : ∀ i, K.getD i 0 < 4294967296)
    (hT : ∀ i, i < 64 → w.cell? ⟨0, i, none⟩ = some (.int .u32 (K.getD i 0 : Nat))) :
    Calls Tryz.prog 47 #[.string s] w fun r w' => r = .returned (.string (nameStr K s)) ∧ Below w.heap.size w w' := by
  have HC := hide (name_any K s w hs hKl hT)
  have hz := nameStr_size K s
  have hzi : ((nameStr K s).size : Int) = 34 := by omega
  clear hT hKl
  generalize nameStr K s = S at *
  go_enter Tryz.func47, Tryz.ntmps47
  go_wp2_with (go_at_call 90; refine HC.out.mono ?_; rintro e w1 ⟨rfl, k1⟩)
  go_ret
  exact ⟨rfl, k1⟩
set_option maxRecDepth 100000 in
set_option maxHeartbeats 1000000 in
theorem named_any (K : List Nat) (n : Nat) (lv : Value) (w : World) (hn : n ≤ 8) (hKl : ∀ i, K.getD i 0 < 4294967296)
    (hT : ∀ i, i < 64 → w.cell? ⟨0, i, none⟩ = some (.int .u32 (K.getD i 0 : Nat)))
    (hR : Rw w 9 1 lv n ((List.range n).map fun j => .string (rept 120 j))) :
    Calls Tryz.prog 16 #[lv] w fun r w' => r = .returned (.string (bodyOf (Nx K) n)) ∧ Below w.heap.size w w' := by
  have HB := hide (fun w => bytes1 n w (by omega))
  have hTl : ∀ i, i < 64 → 0 < w.heap.size := fun i hi => World.block_lt_of_cell? _ _ (hT i hi)
  have HN : Hid (∀ j, j ≤ 8 → ∀ w1, Below w.heap.size w w1 → Calls Tryz.prog 47 #[.string (rept 120 j)] w1 fun r w' => r = .returned (.string (Nx K j)) ∧ Below w1.heap.size w1 w') := fun j hj w1 hb =>
    kname_any K (rept 120 j) w1 (by rw [rept_size]; omega) hKl (fun i hi => by rw [hb.cell (hTl i hi)]; exact hT i hi)
  have HL : Hid (∀ j, j < n → ∃ b off, (∃ cap, lv = .slice (some ⟨b, off, none⟩) n cap) ∧ ∀ w1, Below w.heap.size w w1 → w1.cell? ⟨b, off + j, none⟩ = some (.string (rept 120 j))) := fun j hj => by
    obtain ⟨_, h0, _⟩ | ⟨b, off, cap, cur, rfl, hb, g1, g2, g3, g4, g5⟩ := hR
    · omega
    · refine ⟨b, off, ⟨cap, rfl⟩, fun w1 hb1 => ?_⟩
      rw [(hb.below hb1 hb.lt).cell, g5 j (by omega)]
      simp [List.getElem?_range hj]
  obtain ⟨a0, e0, rfl⟩ := Rw.shape hR
  clear hT hKl hTl hR
  go_enter Tryz.func16, Tryz.ntmps16
  go_wp2_with (go_at_call 28; refine (HB.out _).mono ?_; rintro e w0 ⟨rfl, k0⟩)
  go_loopw [3, 4] (fun sv iv wr => ∃ i : Nat, i ≤ n ∧ sv = .string (b8 n ++ cat (nms (Nx K) i)) ∧ iv = .int .i64 i ∧ Below w.heap.size w wr) (fun _ iv _ => n - (intOf iv).toNat)
  case atStart => exact ⟨0, by omega, by rw [show cat (nms (Nx K) 0) = ⟨#[]⟩ from rfl, app_empty], rfl, k0⟩
  case round =>
    clear k0 HB
    obtain ⟨i, hi, rfl, rfl, hA⟩ := hrel
    by_cases hin : i < n
    · obtain ⟨b, off, ⟨cap, hv⟩, hc⟩ := HL.out i hin
      injection hv with hv _ hv2
      subst hv hv2
      have c0 := hc wr hA
      have h1 : (i : Int) < (n : Int) := by omega
      have h2 : (0 : Int) ≤ (i : Int) := by omega
      have HN1 := hide (HN.out i (by omega) wr hA)
      have hcat : b8 n ++ cat (nms (Nx K) i) ++ Nx K i = b8 n ++ cat (nms (Nx K) (i + 1)) := by rw [nms_add, cat_add, ByteArray.append_assoc]
      have HT := hide hcat
      have hz0 : (b8 n ++ cat (nms (Nx K) i)).size ≤ 300 := by
        rw [ByteArray.size_append, cat_size _ (fun x hx => (nms_ok (Nx_ok K) i (by omega) x hx).1), nms_len, b8_size]
        omega
      have hz1 : (Nx K i).size = 34 := nameStr_size _ _
      clear hcat hc HL HN
      generalize b8 n ++ cat (nms (Nx K) i) = S0 at *
      generalize Nx K i = S1 at *
      generalize rept 120 i = S2 at *
      go_wp2_with (go_at_call 47; refine HN1.out.mono ?_; rintro e w1 ⟨rfl, k1⟩)
      exact ⟨⟨i + 1, by omega, by rw [HT.out], by simp, hA.trans (k1.mono hA.size)⟩, by simp [intOf]; omega⟩
    · obtain rfl : i = n := by omega
      clear HL HN
      go_wp2
      go_ret
      exact ⟨by rw [bodyOf, app_empty]; rfl, hA⟩
end Go.Proofs.YthpmcilljbmoiaaGreatDoor
