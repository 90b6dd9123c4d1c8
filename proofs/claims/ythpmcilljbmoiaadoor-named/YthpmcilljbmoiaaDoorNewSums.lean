import Derived.Test.YthpmcilljbmoiaaDoorRooted
import Derived.Laws.Rows
import Derived.Laws.Tables
namespace Go.Proofs.YthpmcilljbmoiaaDoor
open Go.RowKit Dig

/-- words of 64 bits as cells -/
def c64 (l : List Nat) : Array Value := (l.map fun (n : Nat) => Value.int .u64 n).toArray
theorem c64_get (l : List Nat) (i : Nat) (h : i < l.length) : (c64 l)[i]? = some (.int .u64 (l.getD i 0 : Nat)) := by
  simp [c64, h]
theorem c64_set (l : List Nat) (i x : Nat) : (c64 l).setIfInBounds i (.int .u64 (x : Nat)) = c64 (l.set i x) := by
  simp [c64, List.map_set]
theorem c64_size (l : List Nat) : (c64 l).size = l.length := by simp [c64]
theorem c64_one (l : List Nat) : (c64 l).all (·.oneCell') = true := by
  rw [Array.all_eq_true_iff_forall_mem]
  intro v hv
  simp only [c64, List.mem_toArray, List.mem_map] at hv
  obtain ⟨n, _, rfl⟩ := hv
  rfl
/-- how many primes there are below n -/
def kc : Nat → Nat
  | 0 => 0
  | n + 1 => if primeB n then kc n + 1 else kc n
def root (p pw : Nat) : Nat := rt (p * 65536 ^ (2 * pw)) pw 41 % 4294967296
/-- the constants out of the primes below n -/
def lst : Nat → List Nat
  | 0 => List.replicate 72 0
  | n + 1 => if primeB n then (if kc n < 8 then ((lst n).set (8 + kc n) (root n 3)).set (kc n) (root n 2) else (lst n).set (8 + kc n) (root n 3)) else lst n
theorem kc_mono : ∀ a b, a ≤ b → kc a ≤ kc b := by
  intro a b h
  induction b with
  | zero => rw [Nat.le_zero.1 h]; exact Nat.le_refl _
  | succ b ih =>
    by_cases e : a = b + 1
    · subst e; exact Nat.le_refl _
    · have := ih (by omega)
      simp only [kc]
      split <;> omega
theorem kc_312 : kc 312 = 64 := by decide +kernel
theorem kc_311 : kc 311 = 63 := by decide +kernel
theorem lst_len : ∀ n, (lst n).length = 72
  | 0 => by simp [lst]
  | n + 1 => by
    have := lst_len n
    simp only [lst]
    split
    · split <;> simp [this]
    · exact this
theorem kc_lt {n : Nat} (h : kc n < 64) : n < 312 := by
  by_cases e : n < 312
  · exact e
  · have := kc_mono 312 n (by omega)
    rw [kc_312] at this
    omega
theorem kc_end {n : Nat} (hn : n ≤ 312) (h : ¬ kc n < 64) : n = 312 := by
  by_cases e : n = 312
  · exact e
  · have := kc_mono n 311 (by omega)
    rw [kc_311] at this
    omega
/-- the constants of the rounds -/
def Kl : List Nat := [1116352408, 1899447441, 3049323471, 3921009573, 961987163, 1508970993, 2453635748, 2870763221, 3624381080, 310598401, 607225278, 1426881987, 1925078388, 2162078206, 2614888103, 3248222580, 3835390401, 4022224774, 264347078, 604807628, 770255983, 1249150122, 1555081692, 1996064986, 2554220882, 2821834349, 2952996808, 3210313671, 3336571891, 3584528711, 113926993, 338241895, 666307205, 773529912, 1294757372, 1396182291, 1695183700, 1986661051, 2177026350, 2456956037, 2730485921, 2820302411, 3259730800, 3345764771, 3516065817, 3600352804, 4094571909, 275423344, 430227734, 506948616, 659060556, 883997877, 958139571, 1322822218, 1537002063, 1747873779, 1955562222, 2024104815, 2227730452, 2361852424, 2428436474, 2756734187, 3204031479, 3329325298]
/-- the words with which the sum begins -/
def Hl : List Nat := [1779033703, 3144134277, 1013904242, 2773480762, 1359893119, 2600822924, 528734635, 1541459225]
set_option maxRecDepth 100000 in
theorem lst_312 : lst 312 = Hl ++ Kl := by decide +kernel
theorem info72 : (Tryd.prog.info? 56).map (·.size) = some 72 := by kernel_rfl
def zero72 : Array Value := c64 (List.replicate 72 0)
theorem rooted3 (p : Nat) (w : World) (hp : p < 512) :
    Calls Tryd.prog 37 #[.int .i64 p, .int .i64 3] w fun r w' => r = .returned (.int .u64 (root p 3 : Nat)) ∧ Below w.heap.size w w' := rooted_any p 3 w hp (by decide) (by decide)
theorem rooted2 (p : Nat) (w : World) (hp : p < 512) :
    Calls Tryd.prog 37 #[.int .i64 p, .int .i64 2] w fun r w' => r = .returned (.int .u64 (root p 2 : Nat)) ∧ Below w.heap.size w w' := rooted_any p 2 w hp (by decide) (by decide)

set_option maxRecDepth 100000 in
set_option maxHeartbeats 1000000 in
theorem newSums_any (w : World) :
    Calls Tryd.prog 21 #[] w fun r w' => r = .returned (.agg (c64 (Hl ++ Kl))) ∧ Below w.heap.size w w' := by
  go_enter Tryd.func21, Tryd.ntmps21
  go_wp2_with fail
  obtain ⟨B, hB⟩ : ∃ B, B = w.heap.size := ⟨_, rfl⟩
  have HW := hide hB
  rw [← hB]
  clear hB
  go_loopw [2, 3] (fun kv nv wr => ∃ n : Nat, 2 ≤ n ∧ n ≤ 312 ∧ nv = .int .i64 n ∧ kv = .int .i64 (kc n : Nat) ∧ Blk wr B 56 (c64 (List.replicate 72 0)) ∧ Blk wr (B + 1) 56 (c64 (lst n)) ∧ Below B w wr)
    (fun _ nv _ => 312 - (intOf nv).toNat)
  case atStart =>
    obtain rfl := HW.out
    exact ⟨2, by omega, by omega, rfl, rfl, (Blk.at _ _ _ _ rfl).alloc _, Blk.at _ _ _ _ (by simp), ((Below.refl _ _).alloc (Nat.le_refl _) _).alloc (by simp) _⟩
  case round =>
    obtain ⟨n, hn2, hn, rfl, rfl, x0, x1, hbel⟩ := hrel
    by_cases hk : kc n < 64
    · have hlt := kc_lt hk
      have HK : Hid (kc (n + 1) = if primeB n then kc n + 1 else kc n) := rfl
      have HL : Hid (lst (n + 1) = if primeB n then (if kc n < 8 then ((lst n).set (8 + kc n) (root n 3)).set (kc n) (root n 2) else (lst n).set (8 + kc n) (root n 3)) else lst n) := rfl
      have hlen := lst_len n
      have hp := prime_any n wr (by omega)
      have HPR := hide hp
      clear hp
      go_wp2_with fail
      refine HPR.out.mono ?_
      rintro e w1 ⟨rfl, hw⟩
      subst hw
      cases hpb : primeB n with
      | false =>
        rw [hpb] at HK HL
        clear HPR
        go_wp2
        exact ⟨⟨n + 1, by omega, by omega, by go_num, congrArg (fun z : Nat => Value.int .i64 z) (by rw [HK.out]; rfl), x0, (by rw [HL.out]; exact x1), hbel⟩, by simp [intOf]; omega⟩
      | true =>
        rw [hpb] at HK HL
        clear HPR hpb
        go_wp2_with fail
        refine (rooted3 n _ (by omega)).mono ?_
        rintro e w2 ⟨rfl, hb2⟩
        have y0 := x0.below hb2 x0.lt
        have y1 := x1.below hb2 x1.lt
        have hbel2 := hbel.trans (hb2.mono (by have := x0.lt; omega))
        clear x0 x1 hbel hb2
        have ck : w2.cell? ⟨B + 1, 8 + kc n, none⟩ = some (.int .u64 ((lst n).getD (8 + kc n) 0 : Nat)) := by rw [y1.cell]; exact c64_get _ _ (by omega)
        have fk := y1.frozen (8 + kc n)
        have z1 := y1.set (8 + kc n) (.int .u64 (root n 3 : Nat))
        rw [c64_set] at z1
        have z0 := y0.other ⟨B + 1, 8 + kc n, none⟩ (.int .u64 (root n 3 : Nat)) (by simp)
        have hbel3 := hbel2.setCell (p := ⟨B + 1, 8 + kc n, none⟩) (by simp) (.int .u64 (root n 3 : Nat))
        generalize (lst n).getD (8 + kc n) 0 = q at *
        by_cases h8 : kc n < 8
        · rw [if_pos h8] at HL
          go_wp2_with fail
          refine (rooted2 n _ (by omega)).mono ?_
          rintro e w3 ⟨rfl, hb3⟩
          have a0 := z0.below hb3 z0.lt
          have a1 := z1.below hb3 z1.lt
          have hbel4 := hbel3.trans (hb3.mono (by have := z0.lt; omega))
          clear y0 y1 ck fk z1 z0 hbel3 hb3 hbel2
          have ch : w3.cell? ⟨B + 1, kc n, none⟩ = some (.int .u64 (((lst n).set (8 + kc n) (root n 3)).getD (kc n) 0 : Nat)) := by rw [a1.cell]; exact c64_get _ _ (by rw [List.length_set]; omega)
          have fh := a1.frozen (kc n)
          have d1 := a1.set (kc n) (.int .u64 (root n 2 : Nat))
          rw [c64_set] at d1
          have d0 := a0.other ⟨B + 1, kc n, none⟩ (.int .u64 (root n 2 : Nat)) (by simp)
          have hbel5 := hbel4.setCell (p := ⟨B + 1, kc n, none⟩) (by simp) (.int .u64 (root n 2 : Nat))
          generalize ((lst n).set (8 + kc n) (root n 3)).getD (kc n) 0 = q2 at *
          go_wp2
          exact ⟨⟨n + 1, by omega, by omega, by go_num, congrArg (Value.int .i64) (by rw [HK.out]; simp), d0, (by rw [HL.out]; exact d1), hbel5⟩, by simp [intOf]; omega⟩
        · rw [if_neg h8] at HL
          go_wp2
          exact ⟨⟨n + 1, by omega, by omega, by go_num, congrArg (Value.int .i64) (by rw [HK.out]; simp), z0, (by rw [HL.out]; exact z1), hbel3⟩, by simp [intOf]; omega⟩
    · have e := kc_end hn hk
      subst e
      rw [lst_312] at x1
      have hsz : (Tryd.prog.info? 56).map (·.size) = some (c64 (Hl ++ Kl)).size := by rw [info72, c64_size]; rfl
      have ho : (c64 (List.replicate 72 0)).size = (c64 (Hl ++ Kl)).size := by rw [c64_size, c64_size]; rfl
      have n0 := x0.row (c64 (Hl ++ Kl))
      have k312 := kc_312
      go_wp2_with (first | (refine wpList_load_row rfl 56 _ rfl (B + 1) rfl 56 _ (0, 0) _ x1 Tryd.underlying56 rfl hsz ?_) | (refine wpList_store_row rfl 56 _ _ rfl B (c64 (Hl ++ Kl)) rfl rfl 56 _ x0 hsz ho (c64_one _) ?_))
      refine bodyPost_ret (v := .agg (c64 (Hl ++ Kl))) (results_cell_row (p := 0) (ty := 56) Tryd.results21 _ _ B 56 (c64 (Hl ++ Kl)) (0, 0) _ rfl n0 Tryd.underlying56 rfl hsz) rfl ⟨rfl, ?_⟩
      rw [← HW.out]
      exact below_row hbel (Nat.le_refl _) _
end Go.Proofs.YthpmcilljbmoiaaDoor
