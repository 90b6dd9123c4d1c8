import Derived.Test.YthpmcilljbmoiaaGreatDoorActList
import Derived.Test.YthpmcilljbmoiaaGreatDoorOpened
import Derived.Test.YthpmcilljbmoiaaGreatDoorLooked
import Derived.Deep.QuietTactic
namespace Go.Proofs.YthpmcilljbmoiaaGreatDoor
open Go.RowKit

/-- a value as it is put -/
def trunc (s : ByteArray) : ByteArray := if 50 < s.size then s.extract 0 50 else s
theorem trunc_size (s : ByteArray) : (trunc s).size ≤ 50 := by
  unfold trunc
  split
  · rw [ByteArray.size_extract]; omega
  · omega

abbrev moreS : ByteArray := ⟨#[109, 111, 114, 101]⟩
abbrev zS : ByteArray := ⟨#[122]⟩

section
variable {base : Nat} {cb db kb sb : Nat} {shv cvv : Value}
abbrev asks (cb : Nat) (kind : Int) (body : ByteArray) (w : World) (reply : ByteArray) (R : World → Prop) : Prop :=
  Calls Tryz.prog 29 #[.pointer (some ⟨cb, 0, none⟩), .int .i64 kind, .string body, .int .i64 1] w fun r w' => r = .returned (.tuple #[.string reply, .bool true]) ∧ R w'

set_option maxRecDepth 100000 in
set_option maxHeartbeats 2000000 in
theorem acted_any (a0 : Option Addr) (n cap : Nat) (S : Nat → ByteArray) (extra : Bool) (w : World)
    (hS : n = 0 ∨ ∃ b off, a0 = some ⟨b, off, none⟩ ∧ b < w.heap.size ∧ ∀ i, i < n → w.cell? ⟨b, off + i, none⟩ = some (.string (S i))) :
    Calls Tryz.prog 7 #[.slice a0 n cap, .bool extra] w
      fun r w' => r = .returned (.bool true) ∧ Below w.heap.size w w' := by
  have H0 := hide (begin_one w)
  have HS := hide hS
  clear hS
  generalize hV : (fun i => trunc (S i)) = V
  have HV := hide hV
  have hV50 : Hid (∀ k, (V k).size ≤ 50) := fun k => by subst hV; exact trunc_size _
  clear hV
  go_enter Tryz.func7, Tryz.ntmps7
  go_wp2_with (go_at_call 12; refine H0.out.mono ?_; rintro e w0 ⟨cb, db, kb, sb, shv, cvv, rfl, hst, hbl⟩)
  have hst0 : St w.heap.size w0 cb db kb sb shv cvv (3 * 0) (actsOf V 0) := ⟨_, _, _, hst⟩
  clear hst H0
  go_loopw [7, 8] (fun nv iv wr => ∃ k : Nat, k ≤ n ∧ k ≤ 32 ∧ nv = .int .i64 k ∧ iv = .int .i64 k ∧ Below w.heap.size w wr ∧ Hid (St w.heap.size wr cb db kb sb shv cvv (3 * k) (actsOf V k))) (fun _ iv _ => n - (intOf iv).toNat)
  case atStart => exact ⟨0, by omega, by omega, rfl, rfl, hbl, hst0⟩
  case round =>
    clear hst0 hbl
    obtain ⟨k, hkn, hk32, rfl, rfl, hbl, hst⟩ := hrel
    by_cases hk : k < n ∧ k < 32
    · obtain ⟨hk1, hk2⟩ := hk
      obtain h | ⟨b, off, rfl, hb, hcs⟩ := HS.out
      · omega
      have c0 : wr.cell? ⟨b, off + k, none⟩ = some (.string (S k)) := by rw [hbl.cell hb]; exact hcs k hk1
      clear hcs
      have hv50 := hV50.out k
      have hVk : trunc (S k) = V k := by rw [← HV.out]
      have HB4 := hide (fun w => bytes4 k w (by omega))
      have HB1 := hide (fun w => bytes1 (V k).size w (by omega))
      obtain ⟨P0, e0⟩ : ∃ P : World → Prop, Hid (P = fun w1 => St w.heap.size w1 cb db kb sb shv cvv (3 * k) (actsOf V k)) := ⟨_, rfl⟩
      obtain ⟨P1, e1⟩ : ∃ P : World → Prop, Hid (P = fun w1 => St w.heap.size w1 cb db kb sb shv cvv (3 * k + 1) (actsOf V (k + 1))) := ⟨_, rfl⟩
      obtain ⟨P2, e2⟩ : ∃ P : World → Prop, Hid (P = fun w1 => St w.heap.size w1 cb db kb sb shv cvv (3 * k + 1 + 1) (actsOf V (k + 1))) := ⟨_, rfl⟩
      obtain ⟨P3, e3⟩ : ∃ P : World → Prop, Hid (P = fun w1 => St w.heap.size w1 cb db kb sb shv cvv (3 * (k + 1)) (actsOf V (k + 1))) := ⟨_, rfl⟩
      have D0 : Hid (∀ w w', P0 w → Below w.heap.size w w' → P0 w') := fun w w' h hb => by rw [e0.out] at h ⊢; exact St.below h hb
      have D1 : Hid (∀ w w', P1 w → Below w.heap.size w w' → P1 w') := fun w w' h hb => by rw [e1.out] at h ⊢; exact St.below h hb
      have D2 : Hid (∀ w w', P2 w → Below w.heap.size w w' → P2 w') := fun w w' h hb => by rw [e2.out] at h ⊢; exact St.below h hb
      have D3 : Hid (∀ w w', P3 w → Below w.heap.size w w' → P3 w') := fun w w' h hb => by rw [e3.out] at h ⊢; exact St.below h hb
      replace hst : P0 wr := by rw [e0.out]; exact hst.out
      have HP : Hid (∀ w1, P0 w1 → asks cb 5 (key4 k ++ b8 (V k).size ++ V k) w1 ⟨#[]⟩ (fun w' => Below w.heap.size w1 w' ∧ P1 w')) := fun w1 h1 => by
        rw [e0.out] at h1
        rw [e1.out]
        exact st_put V k hk2 hv50 (by omega) h1
      have HQ : Hid (∀ w1, P1 w1 → asks cb 5 (key4 k ++ b8 (V k).size ++ V k) w1 ⟨#[]⟩ (fun w' => Below w.heap.size w1 w' ∧ P2 w')) := fun w1 h1 => by
        rw [e1.out] at h1
        rw [e2.out]
        exact st_again V k hk2 hv50 (by omega) h1
      have HG : Hid (∀ w1, P2 w1 → asks cb 4 (key4 k) w1 (⟨#[1]⟩ ++ b8 (V k).size ++ V k) (fun w' => Below w.heap.size w1 w' ∧ P3 w')) := fun w1 h1 => by
        rw [e2.out] at h1
        rw [e3.out]
        have hl : k < (actsOf V (k + 1)).length := by rw [actsOf_len]; omega
        have := st_get (n := 3 * k + 1 + 1) (key4 k) (V k) k hl (key4_size k) (ix_at V k (by omega)) (by rw [actsOf_get]) hv50 (by rw [actsOf_len]; omega) (by omega) h1
        rw [show 3 * k + 1 + 1 + 1 = 3 * (k + 1) by omega] at this
        exact this
      have hK : (key4 k).size = 4 := key4_size k
      have hB : (b8 (V k).size).size = 1 := rfl
      generalize key4 k = K at *
      generalize b8 (V k).size = B at *
      by_cases h50 : 50 < (S k).size
      · have htr : (S k).extract 0 50 = V k := by rw [← hVk, trunc, if_pos h50]
        have h50i : (50 : Int) < ((S k).size : Int) := by omega
        have h50j : (50 : Int) ≤ ((S k).size : Int) := by omega
        clear hVk
        generalize V k = vv at *
        generalize S k = sk at *
        go_wp2_with (first | (go_at_call_of 29 (Value.int .i64 (4 : Int)); refine (HG.out _ hst).mono ?_; rintro e wx ⟨rfl, hb2, hst⟩; replace hbl := hbl.trans hb2) | (go_at_call_of 29 (Value.int .i64 (5 : Int)); refine (HQ.out _ hst).mono ?_; rintro e wx ⟨rfl, hb2, hst⟩; replace hbl := hbl.trans hb2) | (go_at_call_of 29 (Value.int .i64 (5 : Int)); refine (HP.out _ hst).mono ?_; rintro e wx ⟨rfl, hb2, hst⟩; replace hbl := hbl.trans hb2) | (go_at_call_of 28 (Value.int .i64 (4 : Int)); refine (HB4.out _).mono ?_; rintro e wx ⟨rfl, kx⟩; (first | replace hst := D0.out _ _ hst kx | replace hst := D1.out _ _ hst kx | replace hst := D2.out _ _ hst kx | replace hst := D3.out _ _ hst kx); replace hbl := hbl.trans (kx.mono hbl.size)) | (go_at_call_of 28 (Value.int .i64 (1 : Int)); refine (HB1.out _).mono ?_; rintro e wx ⟨rfl, kx⟩; (first | replace hst := D0.out _ _ hst kx | replace hst := D1.out _ _ hst kx | replace hst := D2.out _ _ hst kx | replace hst := D3.out _ _ hst kx); replace hbl := hbl.trans (kx.mono hbl.size)))
        replace hst : St w.heap.size wx cb db kb sb shv cvv (3 * (k + 1)) (actsOf V (k + 1)) := by rw [e3.out] at hst; exact hst
        exact ⟨⟨k + 1, by omega, by omega, by simp, by simp, hbl, hst⟩, by simp [intOf]; omega⟩
      · have htr : S k = V k := by rw [← hVk, trunc, if_neg h50]
        have h50i : ¬ ((50 : Int) < ((V k).size : Int)) := by omega
        rw [htr] at c0
        clear hVk h50 htr
        generalize V k = vv at *
        go_wp2_with (first | (go_at_call_of 29 (Value.int .i64 (4 : Int)); refine (HG.out _ hst).mono ?_; rintro e wx ⟨rfl, hb2, hst⟩; replace hbl := hbl.trans hb2) | (go_at_call_of 29 (Value.int .i64 (5 : Int)); refine (HQ.out _ hst).mono ?_; rintro e wx ⟨rfl, hb2, hst⟩; replace hbl := hbl.trans hb2) | (go_at_call_of 29 (Value.int .i64 (5 : Int)); refine (HP.out _ hst).mono ?_; rintro e wx ⟨rfl, hb2, hst⟩; replace hbl := hbl.trans hb2) | (go_at_call_of 28 (Value.int .i64 (4 : Int)); refine (HB4.out _).mono ?_; rintro e wx ⟨rfl, kx⟩; (first | replace hst := D0.out _ _ hst kx | replace hst := D1.out _ _ hst kx | replace hst := D2.out _ _ hst kx | replace hst := D3.out _ _ hst kx); replace hbl := hbl.trans (kx.mono hbl.size)) | (go_at_call_of 28 (Value.int .i64 (1 : Int)); refine (HB1.out _).mono ?_; rintro e wx ⟨rfl, kx⟩; (first | replace hst := D0.out _ _ hst kx | replace hst := D1.out _ _ hst kx | replace hst := D2.out _ _ hst kx | replace hst := D3.out _ _ hst kx); replace hbl := hbl.trans (kx.mono hbl.size)))
        replace hst : St w.heap.size wx cb db kb sb shv cvv (3 * (k + 1)) (actsOf V (k + 1)) := by rw [e3.out] at hst; exact hst
        exact ⟨⟨k + 1, by omega, by omega, by simp, by simp, hbl, hst⟩, by simp [intOf]; omega⟩
    · have hlt : k = 32 ∨ (k < 32 ∧ k = n) := by omega
      clear HS
      obtain ⟨Q0, e0⟩ : ∃ P : World → Prop, Hid (P = fun w1 => St w.heap.size w1 cb db kb sb shv cvv (3 * k) (actsOf V k)) := ⟨_, rfl⟩
      obtain ⟨Q1, e1⟩ : ∃ P : World → Prop, Hid (P = fun w1 => St w.heap.size w1 cb db kb sb shv cvv (3 * k + 1) (actsOf V k)) := ⟨_, rfl⟩
      replace hst : Q0 wr := by rw [e0.out]; exact hst.out
      have HN : Hid (∀ w1, Q0 w1 → Calls Tryz.prog 29 #[.pointer (some ⟨cb, 0, none⟩), .int .i64 4, .string ⟨#[110, 111, 110, 101]⟩, .int .i64 1] w1 fun r w' => r = .returned (.tuple #[.string ⟨#[0]⟩, .bool true]) ∧ Below w.heap.size w1 w' ∧ Q1 w' ∧ w'.cell? ⟨cb, 0, none⟩ = some (.pointer (some ⟨db, 0, none⟩))) := fun w1 h1 => by
        rw [e0.out] at h1
        rw [e1.out]
        refine (st_none ⟨#[110, 111, 110, 101]⟩ rfl (ix_other V k _ 110 [111, 110, 101] rfl (by decide)) (by rw [actsOf_len]; omega) (by omega) h1).mono ?_
        rintro e w' ⟨q1, q2, q3⟩
        obtain ⟨a1, a2, a3, q4⟩ := id q3
        exact ⟨q1, q2, q3, q4.cl.cell 0⟩
      have HL : Hid (∀ w1, Q1 w1 → Calls Tryz.prog 20 #[.pointer (some ⟨db, 0, none⟩)] w1 fun r w' => r = .returned (.agg #[.int .i64 0, .int .i64 0, .int .i64 k, .int .i64 1, .slice (some ⟨w1.heap.size + 1, 0, none⟩) 1 1]) ∧ Below w1.heap.size w1 w') := fun w1 h1 => by
        rw [e1.out] at h1
        obtain ⟨a1, a2, a3, h1⟩ := h1
        have := look_sta h1
        rw [actsOf_len] at this
        exact this
      have fin : extra = false ∨ (extra = true ∧ k < 32) ∨ (extra = true ∧ k = 32) := by
        cases extra
        · exact .inl rfl
        · rcases hlt with h | ⟨h, _⟩
          · exact .inr (.inr ⟨rfl, h⟩)
          · exact .inr (.inl ⟨rfl, h⟩)
      have hex : ¬ ((k : Int) < (n : Int)) ∨ ((k : Int) < (n : Int) ∧ ¬ ((k : Int) < 32)) := by omega
      have hexit : Hid (¬ (k < n ∧ k < 32)) := hk
      clear hk
      rcases fin with rfl | ⟨rfl, hk3⟩ | ⟨rfl, hk3⟩
      · rcases hex with hex | ⟨hex, hex2⟩
        · go_wp2_with (first | (go_at_call 29; refine (HN.out _ hst).mono ?_; rintro e wx ⟨rfl, hb2, hst1, g0⟩; replace hbl := hbl.trans hb2) | (go_at_call 20; refine (HL.out _ hst1).mono ?_; rintro e wy ⟨rfl, ky⟩; replace hbl := hbl.trans (ky.mono hbl.size)))
          go_ret
          exact ⟨rfl, hbl.alloc hbl.size _⟩
        · go_wp2_with (first | (go_at_call 29; refine (HN.out _ hst).mono ?_; rintro e wx ⟨rfl, hb2, hst1, g0⟩; replace hbl := hbl.trans hb2) | (go_at_call 20; refine (HL.out _ hst1).mono ?_; rintro e wy ⟨rfl, ky⟩; replace hbl := hbl.trans (ky.mono hbl.size)))
          go_ret
          exact ⟨rfl, hbl.alloc hbl.size _⟩
      · rcases hex with hex | ⟨hex, hex2⟩
        · have hk4 : (k : Int) < 32 := by omega
          go_wp2_with (first | (go_at_call 29; refine (HN.out _ hst).mono ?_; rintro e wx ⟨rfl, hb2, hst1, g0⟩; replace hbl := hbl.trans hb2) | (go_at_call 20; refine (HL.out _ hst1).mono ?_; rintro e wy ⟨rfl, ky⟩; replace hbl := hbl.trans (ky.mono hbl.size)))
          go_ret
          exact ⟨rfl, hbl.alloc hbl.size _⟩
        · omega
      · clear HL
        obtain ⟨Q2, e2⟩ : ∃ P : World → Prop, Hid (P = fun w1 => St w.heap.size w1 cb db kb sb shv cvv (3 * k + 1 + 1) (tailOf V 31 ++ [(moreS, zS)])) := ⟨_, rfl⟩
        obtain ⟨Q3, e3⟩ : ∃ P : World → Prop, Hid (P = fun w1 => St w.heap.size w1 cb db kb sb shv cvv (3 * k + 1 + 1 + 1) (tailOf V 31 ++ [(moreS, zS)])) := ⟨_, rfl⟩
        obtain ⟨Q4, e4⟩ : ∃ P : World → Prop, Hid (P = fun w1 => St w.heap.size w1 cb db kb sb shv cvv (3 * k + 1 + 1 + 1 + 1) (tailOf V 31 ++ [(moreS, zS)])) := ⟨_, rfl⟩
        have D3 : Hid (∀ w w', Q3 w → Below w.heap.size w w' → Q3 w') := fun w w' h hb => by rw [e3.out] at h ⊢; exact St.below h hb
        have D4 : Hid (∀ w w', Q4 w → Below w.heap.size w w' → Q4 w') := fun w w' h hb => by rw [e4.out] at h ⊢; exact St.below h hb
        have hlen : (tailOf V 31 ++ [(moreS, zS)]).length ≤ 33 := by simp [tailOf_len]
        have HM : Hid (∀ w1, Q1 w1 → asks cb 5 ⟨#[109, 111, 114, 101, 1, 122]⟩ w1 ⟨#[]⟩ (fun w' => Below w.heap.size w1 w' ∧ Q2 w')) := fun w1 h1 => by
          rw [e1.out, hk3] at h1
          rw [e2.out, hk3]
          exact st_full V moreS zS 109 [111, 114, 101] rfl (by decide) rfl (by decide) (by omega) h1
        have HM2 : Hid (∀ w1, Q2 w1 → asks cb 4 ⟨#[109, 111, 114, 101]⟩ w1 ⟨#[1, 1, 122]⟩ (fun w' => Below w.heap.size w1 w' ∧ Q3 w')) := fun w1 h1 => by
          rw [e2.out] at h1
          rw [e3.out]
          exact st_get moreS zS 31 (by simp [tailOf_len]) rfl (tl_more V 31 _ _ 109 [111, 114, 101] rfl (by decide)) (by rw [tl_get, if_neg (by omega)]) (by decide) hlen (by omega) h1
        have HZ : Hid (∀ w1, Q3 w1 → asks cb 4 (key4 0) w1 ⟨#[0]⟩ (fun w' => Below w.heap.size w1 w' ∧ Q4 w')) := fun w1 h1 => by
          rw [e3.out] at h1
          rw [e4.out]
          exact st_none (key4 0) (key4_size 0) (tl_zero V 31 (by omega) _ _ 109 [111, 114, 101] rfl (by decide)) hlen (by omega) h1
        have HO : Hid (∀ w1, Q4 w1 → asks cb 4 (key4 1) w1 (b8 1 ++ b8 (V 1).size ++ V 1) (fun w' => Below w.heap.size w1 w')) := fun w1 h1 => by
          rw [e4.out] at h1
          refine (st_get (key4 1) (V 1) 0 (by simp) (key4_size 1) (tl_one V 31 (by omega) _ _) (by rw [tl_get, if_pos (by omega)]) (hV50.out 1) hlen (by omega) h1).mono ?_
          rintro e w' ⟨q1, q2, q3⟩
          exact ⟨q1, q2⟩
        have HB0 : Hid (∀ w, Calls Tryz.prog 28 #[.int .i64 0, .int .i64 4] w fun r w' => r = .returned (.string (key4 0)) ∧ Below w.heap.size w w') := fun w => bytes4 0 w (by omega)
        have HB1 : Hid (∀ w, Calls Tryz.prog 28 #[.int .i64 1, .int .i64 4] w fun r w' => r = .returned (.string (key4 1)) ∧ Below w.heap.size w w') := fun w => bytes4 1 w (by omega)
        have hT : (b8 1 ++ b8 (V 1).size ++ V 1).size = 2 + (V 1).size := by simp only [ByteArray.size_append, b8_size]
        have hT0 : ∀ h : 0 < (b8 1 ++ b8 (V 1).size ++ V 1).size, ((b8 1 ++ b8 (V 1).size ++ V 1)[0].toNat : Int) = 1 := fun h => by
          have : (b8 1 ++ b8 (V 1).size ++ V 1)[0] = 1 := by
            show (b8 1 ++ b8 (V 1).size ++ V 1).data[0] = _
            simp [b8]
          rw [this]
          rfl
        generalize b8 1 ++ b8 (V 1).size ++ V 1 = T at *
        have hT1 : (1 : Int) < (T.size : Int) := by omega
        have hT2 : 0 < T.size := by omega
        have hT3 := hT0 hT2
        have hk5 : ¬ ((k : Int) < 32) := by omega
        have HK3 := hide hk3
        clear hT hT0 hk3 hlt hlen
        generalize key4 0 = K0 at *
        generalize key4 1 = K1 at *
        have hexc : Hid (¬ ((k : Int) < (n : Int)) ∨ ((k : Int) < (n : Int) ∧ ¬ ((k : Int) < 32))) := hex
        clear hex
        rcases hexc.out with hex | ⟨hex, _⟩
        all_goals
          go_wp2_with (first | (go_at_call_of 29 (Value.int .i64 (5 : Int)); refine (HM.out _ hst1).mono ?_; rintro e w2 ⟨rfl, b2, hst2⟩; replace hbl := hbl.trans b2) | (go_at_call_of 28 (Value.int .i64 (0 : Int)); refine (HB0.out _).mono ?_; rintro e wb ⟨rfl, kb0⟩; replace hst3 := D3.out _ _ hst3 kb0; replace hbl := hbl.trans (kb0.mono hbl.size)) | (go_at_call_of 28 (Value.int .i64 (1 : Int)); refine (HB1.out _).mono ?_; rintro e wb ⟨rfl, kb1⟩; replace hst4 := D4.out _ _ hst4 kb1; replace hbl := hbl.trans (kb1.mono hbl.size)) | (go_at_call_of 29 (Value.string K1); refine (HO.out _ hst4).mono ?_; rintro e w5 ⟨rfl, b5⟩; replace hbl := hbl.trans b5) | (go_at_call_of 29 (Value.string K0); refine (HZ.out _ hst3).mono ?_; rintro e w4 ⟨rfl, b4, hst4⟩; replace hbl := hbl.trans b4) | (go_at_call 29; refine (HM2.out _ hst2).mono ?_; rintro e w3 ⟨rfl, b3, hst3⟩; replace hbl := hbl.trans b3) | (go_at_call 29; refine (HN.out _ hst).mono ?_; rintro e wx ⟨rfl, hb2, hst1, g0⟩; replace hbl := hbl.trans hb2))
          go_ret
          exact ⟨rfl, hbl⟩
end
end Go.Proofs.YthpmcilljbmoiaaGreatDoor
