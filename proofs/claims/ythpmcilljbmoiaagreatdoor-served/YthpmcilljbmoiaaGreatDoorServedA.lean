import Derived.Test.YthpmcilljbmoiaaGreatDoorSv
import Derived.Test.YthpmcilljbmoiaaGreatDoorAsk
import Derived.Deep.CutBlock
import Derived.Deep.DeepCutAuto
namespace Go.Proofs.YthpmcilljbmoiaaGreatDoor
open Go.RowKit

theorem Qk_add (sz : Nat → Nat → Int) (i k : Nat) : qRem (rqs sz i (k + 1)) = qRem (rqs sz i k) + (1 + pickN (sz i k) 8 + 2) := by
  rw [rqs_add, qRem_add]; rfl
/-- a request is fed -/
theorem Sb.fed {N : Nat → ByteArray} (hN : Nok N) {base db : Nat} {L : Nat → Nat} {sz : Nat → Nat → Int} {w : World} (i k : Nat) (hk : k < 9) (h : Sb N base db (i + 1) (Qk L sz i k) (Tk L sz i k) w) :
    Calls Tryz.prog 23 #[.pointer (some ⟨db, 0, none⟩), .int .i64 i, .string (frm 2 k (bodyOf N (1 + pickN (sz i k) 8)))] w fun r w' => r = .returned (.int .i64 0) ∧ Below base w w' ∧ Sb N base db (i + 1) (Qk L sz i (k + 1)) (Tk L sz i (k + 1)) w' := by
  have hit := itm_ok sz i k
  have h1 := rqs_rem sz i k
  have h2 := rqs_reps sz i k
  refine Sb.feed hN i (by omega) (k, itm sz i k) ⟨by omega, hit.1, hit.2⟩ h ?_ ?_ (fun j _ hj => ?_) ?_ (fun j _ hj => ?_) ?_
  · simp only [Qk, if_true]; omega
  · simp only [Tk, if_true]; omega
  · simp only [Qk, if_neg hj]
  · simp only [Qk, if_true]; rw [rqs_add, qRem_add]
  · simp only [Tk, if_neg hj]
  · simp only [Tk, if_true]; rw [rqs_add, reps_add]
theorem Sb.opened {N : Nat → ByteArray} {base db : Nat} {L : Nat → Nat} {sz : Nat → Nat → Int} {w : World} (i : Nat) (hi : i < 8) (h : Sb N base db i (Qf L sz) (Tf L sz) w) :
    Calls Tryz.prog 33 #[.pointer (some ⟨db, 0, none⟩)] w fun r w' => r = .returned (.tuple #[.int .i64 i, .int .i64 0]) ∧ Below base w w' ∧ Sb N base db (i + 1) (Qk L sz i 0) (Tk L sz i 0) w' :=
  Sb.open hi h (fun j hj => by unfold Qk; rw [if_neg (by omega)]) (by simp [Qk, rqs, qRem]) (fun j hj => by unfold Tk; rw [if_neg (by omega)]) (by simp [Tk, rqs, reps])
theorem Sb.filled {N : Nat → ByteArray} {base db : Nat} {L : Nat → Nat} {sz : Nat → Nat → Int} {w : World} (i k : Nat) (hk : k = cnt L i) (h : Sb N base db (i + 1) (Qk L sz i k) (Tk L sz i k) w) : Sb N base db (i + 1) (Qf L sz) (Tf L sz) w := by
  subst hk
  refine h.congr (fun j hj => ?_) (fun j hj => ?_)
  · unfold Qk
    by_cases hji : j = i
    · subst hji; simp only [if_true]; rfl
    · simp only [if_neg hji]
  · unfold Tk
    by_cases hji : j = i
    · subst hji; simp only [if_true]; rfl
    · simp only [if_neg hji]
def strs (j : Nat) : List Value := (List.range j).map fun q => Value.string (rept 120 q)
theorem strs_add (j : Nat) : strs (j + 1) = strs j ++ [.string (rept 120 j)] := by simp [strs, List.range_succ]

theorem rqs_drop (sz : Nat → Nat → Int) (i m k : Nat) (hk : k < m) : (rqs sz i m).drop k = (k, itm sz i k) :: (rqs sz i m).drop (k + 1) := by
  have hl : k < (rqs sz i m).length := by simp [rqs]; exact hk
  rw [List.drop_eq_getElem_cons hl]
  congr 1
  simp [rqs]
/-- a reply's text, as the caller lays it -/
theorem rep_laid (k m : Nat) : (b8 ((4 + m) / 256) ++ b8 ((4 + m) % 256)) ++ (⟨#[130]⟩ : ByteArray) ++ (b8 (k / 256) ++ b8 (k % 256)) ++ b8 m ++ rept 0 m = rep (k, m) := by
  rw [rep, frm, ByteArray.size_append, zer_size, b8_size, ← Nat.add_assoc, ← zer_rept]
  simp only [ByteArray.append_assoc]
  rfl
/-- all that could be done is done -/
theorem srv_all (R : Nat) (h : R ≤ 1000) : srv 1099511627776 (-1) R = R := by
  unfold srv
  rw [if_pos (by decide)]
  omega

set_option maxRecDepth 100000 in
set_option maxHeartbeats 2000000 in
theorem served_any (K : List Nat) (hKl : ∀ i, K.getD i 0 < 4294967296) (a0 : Option Addr) (n0 c0 : Nat) (L : Nat → Nat) (sz : Nat → Nat → Int) (a1 : Option Addr) (n1 c1 : Nat) (st : Nat → Int) (w : World)
    (hT : ∀ i, i < 64 → w.cell? ⟨0, i, none⟩ = some (.int .u32 (K.getD i 0 : Nat))) (hA : Args2 w a0 n0 L sz a1 n1 st) :
    Calls Tryz.prog 10 #[.slice a0 n0 c0, .slice a1 n1 c1] w fun r w' => r = .returned (.bool true) ∧ Below w.heap.size w w' := by
  have HN := hide (new_mem 2 4000 w (by omega) (by omega) (by omega) (by omega))
  have HNok := hide (Nx_ok K)
  have HNm : Hid (∀ m lv w1, m ≤ 8 → Below w.heap.size w w1 → Rw w1 9 1 lv m (strs m) → Calls Tryz.prog 16 #[lv] w1 fun r w' => r = .returned (.string (bodyOf (Nx K) m)) ∧ Below w1.heap.size w1 w') := fun m lv w1 hm hb hr =>
    named_any K m lv w1 hm hKl (fun i hi => by rw [hb.cell (World.block_lt_of_cell? _ _ (hT i hi))]; exact hT i hi) hr
  have HA := hide hA
  clear hT hKl hA
  go_enter Tryz.func10, Tryz.ntmps10
  go_upto_block 0 with (go_at_call 32; refine HN.out.mono ?_; rintro e w1 ⟨rfl, shv, sh, hNw⟩)
  have hsb : Hid (Sb (Nx K) w.heap.size (w.heap.size + 1) 0 (Qf L sz) (Tf L sz) w1) := hNw.sb (by omega) (by omega) _ _
  have hbl : Below w.heap.size w w1 := hNw.bl
  clear hNw HN
  go_cut [7, 8, 9, 10, 11, 12, 13, 14, 15, 16] (fun s7 s8 s9 s10 s11 s12 s13 s14 s15 s16 wx => ∃ C : Nat, C ≤ n0 ∧ C ≤ 8 ∧ s7 = .int .i64 (tot (Qf L sz) C : Nat) ∧ s8 = .int .i64 C ∧ Below w.heap.size w wx ∧ Hid (Sv (Nx K) w.heap.size (w.heap.size + 1) C (tot (Qf L sz) C) (Tf L sz) wx))
  case first =>
    go_wp2_with fail
    go_loopw [7, 8, 9] (fun sv cv iv wr => ∃ i : Nat, i ≤ n0 ∧ i ≤ 8 ∧ sv = .int .i64 (tot (Qf L sz) i : Nat) ∧ cv = .int .i64 i ∧ iv = .int .i64 i ∧ Below w.heap.size w wr ∧ Hid (Sb (Nx K) w.heap.size (w.heap.size + 1) i (Qf L sz) (Tf L sz) wr)) (fun _ _ iv _ => n0 - (intOf iv).toNat)
    case atStart => exact ⟨0, by omega, by omega, rfl, rfl, rfl, hbl, hsb⟩
    case round =>
      clear hbl hsb
      obtain ⟨i, hi0, hi8, rfl, rfl, rfl, hb, hS⟩ := hrel
      by_cases hin : i < n0 ∧ i < 8
      · obtain ⟨hin0, hin8⟩ := hin
        have g1 : (i : Int) < (n0 : Int) := by omega
        have g2 : (i : Int) < 8 := by omega
        have g3 : (0 : Int) ≤ (i : Int) := by omega
        have HO := hide (Sb.opened i hin8 hS.out)
        have hq : Hid (tot (Qf L sz) (i + 1) = tot (Qf L sz) i + Qf L sz i) := rfl
        have hqb : Hid (tot (Qf L sz) i ≤ 720) := by
          have := tot_le (Qf L sz) 90 (Qf_le L sz) i
          unfold Hid
          omega
        obtain ⟨q0, hq0⟩ : ∃ q0, Hid (tot (Qf L sz) i = q0) := ⟨_, rfl⟩
        rw [hq0.out] at hq hqb ⊢
        clear hS
        go_wp2_with (go_at_call 33; refine HO.out.mono ?_; rintro e w2 ⟨rfl, hb2, hS2⟩)
        replace hb2 := hb.trans hb2
        replace hS2 := hide hS2
        clear HO
        have hqb' := hqb.out
        go_loopw [7, 12] (fun sv kv ws => ∃ k : Nat, k ≤ L i ∧ k ≤ 9 ∧ sv = .int .i64 (q0 + qRem (rqs sz i k) : Nat) ∧ kv = .int .i64 k ∧ Below w.heap.size w ws ∧ Hid (Sb (Nx K) w.heap.size (w.heap.size + 1) (i + 1) (Qk L sz i k) (Tk L sz i k) ws)) (fun _ kv _ => 9 - (intOf kv).toNat)
        case atStart => exact ⟨0, by omega, by omega, rfl, rfl, hb2, hS2⟩
        case round =>
          clear hb2 hS2 hb
          obtain ⟨k, hk1, hk2, rfl, rfl, hb3, hS3⟩ := hrel
          obtain ⟨b, off, A, C, ha0, hrow, hcs⟩ := (HA.out.below hb3).row i hin0
          subst ha0
          by_cases hkn : k < L i ∧ k < 9
          · obtain ⟨hk3, hk4⟩ := hkn
            obtain ⟨b', off', hA', hcell⟩ := hcs k hk3
            subst hA'
            have g4 : (k : Int) < (L i : Int) := by omega
            have g5 : (k : Int) < 9 := by omega
            have g6 : (0 : Int) ≤ (k : Int) := by omega
            have hrg := HA.out.rng i k
            have HP : Hid (Calls Tryz.prog 18 #[.int .i64 (sz i k), .int .i64 8] wr fun r w' => r = .returned (.int .i64 (pickN (sz i k) 8 : Nat)) ∧ wr = w') := pick_any (sz i k) 8 wr (by omega) (by omega) hrg.1 hrg.2
            have HFd := hide (fun w1 (hb : Below wr.heap.size wr w1) => Sb.fed HNok.out i k hk4 (hS3.out.below hb))
            have hpq := hide (Qk_add sz i k)
            have hp8 := pickN_lt (sz i k) 8 (by omega)
            have hqr : qRem (rqs sz i k) ≤ 90 := by have := rqs_rem sz i k; omega
            clear hcs hrg hS3
            generalize pickN (sz i k) 8 = p at *
            generalize sz i k = z at *
            obtain ⟨q1, hq1⟩ : ∃ q1, Hid (qRem (rqs sz i k) = q1) := ⟨_, rfl⟩
            rw [hq1.out] at hqr hpq ⊢
            obtain ⟨l, hl⟩ : ∃ l, Hid (L i = l) := ⟨_, rfl⟩
            rw [hl.out] at hrow g4 hk1
            go_wp2_with (go_at_call 18; refine HP.out.mono ?_; rintro e wp ⟨rfl, rfl⟩)
            clear HP
            generalize wr = w4 at *
            go_loopw [14, 15] (fun lv jv wt => ∃ j : Nat, j ≤ 1 + p ∧ jv = .int .i64 j ∧ Hid (Rw wt 9 1 lv j (strs j)) ∧ Hid (Fresh w4.heap.size lv) ∧ Below w4.heap.size w4 wt) (fun _ jv _ => 1 + p - (intOf jv).toNat)
            case atStart => exact ⟨0, by omega, rfl, Rw.nil _ _ _, Fresh.nil _ _ _, Below.refl _ _⟩
            case round =>
              obtain ⟨j, hj, rfl, hR, hF, hb5⟩ := hrel
              by_cases hjp : j < 1 + p
              · have g7 : (j : Int) < 1 + (p : Int) := by omega
                have HF : Hid (∀ w1, Calls Tryz.prog 34 #[.int .i64 j, .int .u8 120] w1 fun r w' => r = .returned (.string (rept 120 j)) ∧ Below w1.heap.size w1 w') := fun w1 => fill_any j 120 w1 (by omega) (by omega)
                have HSt := hide (strs_add j)
                obtain ⟨a2, e2, rfl⟩ := Rw.shape hR.out
                have HX : Hid (∀ w1 S, ∀ q u, [Value.string S][q]? = some u → (World.alloc w1 (.cells #[.string S] 9)).cell? (Addr.add ⟨w1.heap.size, 0, none⟩ q) = some u) := fun w1 S q u hq => by
                  cases q with
                  | zero =>
                    simp only [List.getElem?_cons_zero, Option.some.injEq] at hq
                    subst hq
                    rw [Addr.add_lit]
                    exact (Blk.new w1 9 #[.string S]).cell 0
                  | succ q => simp at hq
                have HB : Hid (∀ w1 S, Below w1.heap.size w1 (World.alloc w1 (.cells #[.string S] 9))) := fun w1 S => (Below.refl _ _).alloc (Nat.le_refl _) _
                clear HFd
                generalize rept 120 j = S at *
                go_wp2_with (first | (at_builtin; refine wpList_append_rw (World.alloc wf (.cells #[.string S] 9)) rfl (.tmp 92) (.tmp 95) 25 25 rfl 9 _ 1 16 Tryz.underlying25 infoStr rfl (by omega) (.slice a2 j e2) j (strs j) rfl (Rw.below (Rw.below hR.out kf) (HB.out wf S)) (.slice (some ⟨wf.heap.size, 0, none⟩) 1 1) 1 [.string S] rfl (Src.ofSlice _ Tryz.underlying25 ⟨wf.heap.size, 0, none⟩ 1 1 _ rfl (HX.out wf S) ?_) ?_ ?_) | (go_at_call 34; refine (HF.out _).mono ?_; rintro e wf ⟨rfl, kf⟩))
                · simp [Value.oneCell']
                · omega
                intro v2 w2 r2 k2 o2
                have hs4 := hb5.size
                have hsf := kf.size
                have hb6 : Below w4.heap.size w4 w2 := (hb5.trans (kf.mono hs4)).trans (((HB.out wf S).mono (Nat.le_trans hs4 hsf)).trans (k2.toBelow (fun q hq e => by have := hF.out q e; omega) (by simp; omega)))
                have hF6 : Fresh w4.heap.size v2 := fun q hq => by
                  rcases o2 with o2 | ⟨q', e1, e2⟩
                  · exact hF.out q (o2 ▸ hq)
                  · rw [e2] at hq; injection hq with hq
                    have : wf.heap.size ≤ (World.alloc wf (.cells #[.string S] 9)).heap.size := by simp
                    omega
                obtain ⟨a3, e3, rfl⟩ := Rw.shape r2
                rw [← HSt.out] at r2
                go_wp2
                exact ⟨⟨j + 1, by omega, by simp, r2, hF6, hb6⟩, by simp [intOf]; omega⟩
              · have hje : Hid (j = 1 + p) := by unfold Hid; omega
                have g7 : ¬ ((j : Int) < 1 + (p : Int)) := by omega
                obtain ⟨a2, e2, rfl⟩ := Rw.shape hR.out
                have HNm1 := hide (HNm.out j _ wr (by omega) (hb3.trans (hb5.mono hb3.size)) hR.out)
                have HKf : Hid (∀ w1, Calls Tryz.prog 26 #[.int .i64 2, .int .i64 k, .string (bodyOf (Nx K) j)] w1 fun r w' => r = .returned (.string (frm 2 k (bodyOf (Nx K) j))) ∧ Below w1.heap.size w1 w') := fun w1 => kframe_any 2 k (bodyOf (Nx K) j) w1 (by omega) (by omega) (by rw [bodyOf_size HNok.out j (by omega)]; omega)
                have HFd1 : Hid (∀ w1, Below w4.heap.size w4 w1 → Calls Tryz.prog 23 #[.pointer (some ⟨w.heap.size + 1, 0, none⟩), .int .i64 i, .string (frm 2 k (bodyOf (Nx K) j))] w1 fun r w' => r = .returned (.int .i64 0) ∧ Below w.heap.size w1 w' ∧ Sb (Nx K) w.heap.size (w.heap.size + 1) (i + 1) (Qk L sz i (k + 1)) (Tk L sz i (k + 1)) w') := fun w1 hb1 => by
                  have := HFd.out w1 hb1
                  rw [← hje.out] at this
                  exact this
                clear HFd hR hF
                generalize frm 2 k (bodyOf (Nx K) j) = Fm at *
                generalize bodyOf (Nx K) j = B at *
                go_wp2_with (first | (go_at_call 23; refine (HFd1.out _ hb8).mono ?_; rintro e w9 ⟨rfl, hb9, hS9⟩) | (go_at_call 26; refine (HKf.out _).mono ?_; rintro e w8 ⟨rfl, k8⟩; have hb8 := hb6.trans (k8.mono hb6.size)) | (go_at_call 16; refine HNm1.out.mono ?_; rintro e w6 ⟨rfl, k6⟩; have hb6 := hb5.trans (k6.mono hb5.size)))
                have hll := hl.out
                have hjp' := hje.out
                exact ⟨⟨k + 1, by omega, by omega, by rw [hpq.out]; congr 1; omega, by simp, (hb3.trans (hb8.mono hb3.size)).trans hb9, hS9⟩, by simp [intOf]; omega⟩
          · have hcnt : k = cnt L i := by unfold cnt; omega
            have hqk : Hid (tot (Qf L sz) (i + 1) = q0 + qRem (rqs sz i k)) := by
              unfold Hid
              rw [hq.out, hcnt]; rfl
            have hS4 : Hid (Sb (Nx K) w.heap.size (w.heap.size + 1) (i + 1) (Qf L sz) (Tf L sz) wr) := hS3.out.filled i k hcnt
            have hex : ¬ ((k : Int) < (L i : Int)) ∨ ((k : Int) < (L i : Int) ∧ ¬ ((k : Int) < 9)) := by omega
            clear hcnt hkn hS3 hcs
            rcases hex with hex | ⟨hex, hex2⟩
            · go_wp2
              exact ⟨⟨i + 1, by omega, by omega, by rw [hqk.out], by simp, by simp, hb3, hS4⟩, by simp [intOf]; omega⟩
            · go_wp2
              exact ⟨⟨i + 1, by omega, by omega, by rw [hqk.out], by simp, by simp, hb3, hS4⟩, by simp [intOf]; omega⟩
      · have hex : ¬ ((i : Int) < (n0 : Int)) ∨ ((i : Int) < (n0 : Int) ∧ ¬ ((i : Int) < 8)) := by omega
        have hS' : Hid (Sv (Nx K) w.heap.size (w.heap.size + 1) i (tot (Qf L sz) i) (Tf L sz) wr) := hS.out.sv
        clear hin hS
        rcases hex with hex | ⟨hex, hex2⟩
        · go_wp2
          go_meet
          exact ⟨i, hi0, hi8, rfl, rfl, hb, hS'⟩
        · go_wp2
          go_meet
          exact ⟨i, hi0, hi8, rfl, rfl, hb, hS'⟩
  case rest =>
    obtain ⟨C, hC0, hC8, rfl, rfl, hb, hS⟩ := hcut
    have hqb : tot (Qf L sz) C ≤ 720 := by
      have := tot_le (Qf L sz) 90 (Qf_le L sz) C
      omega
    obtain ⟨R, hR⟩ : ∃ R, Hid (tot (Qf L sz) C = R) := ⟨_, rfl⟩
    rw [hR.out] at hqb hS ⊢
    clear HNm hbl hsb
    go_upto_block 6 with fail
    go_cut [17, 18, 19, 20, 21, 22] (fun s17 s18 s19 s20 s21 s22 wx => ∃ dn : Nat, dn ≤ R ∧ s17 = .int .i64 dn ∧ Below w.heap.size w wx ∧ Hid (Sv (Nx K) w.heap.size (w.heap.size + 1) C (R - dn) (Tf L sz) wx))
    case first =>
      go_wp2_with fail
      go_loopw [17, 18] (fun dv sv wr => ∃ s dn : Nat, s ≤ n1 ∧ s ≤ 50 ∧ dn ≤ R ∧ dv = .int .i64 dn ∧ sv = .int .i64 s ∧ Below w.heap.size w wr ∧ Hid (Sv (Nx K) w.heap.size (w.heap.size + 1) C (R - dn) (Tf L sz) wr)) (fun _ sv _ => 50 - (intOf sv).toNat)
      case atStart => exact ⟨0, 0, by omega, by omega, by omega, rfl, rfl, hb, hS⟩
      case round =>
        clear hb hS
        obtain ⟨s, dn, hs1, hs2, hd, rfl, rfl, hb2, hS2⟩ := hrel
        by_cases hsn : s < n1 ∧ s < 50
        · obtain ⟨hs3, hs4⟩ := hsn
          obtain ⟨b, off, ha1, hcell⟩ := (HA.out.below hb2).sto s hs3
          subst ha1
          have g1 : (s : Int) < (n1 : Int) := by omega
          have g2 : (s : Int) < 50 := by omega
          have g3 : (0 : Int) ≤ (s : Int) := by omega
          have hrg := HA.out.srg s
          have HP7 : Hid (Calls Tryz.prog 18 #[.int .i64 (st s), .int .i64 7] wr fun r w' => r = .returned (.int .i64 (pickN (st s) 7 : Nat)) ∧ wr = w') := pick_any (st s) 7 wr (by omega) (by omega) hrg.1 hrg.2
          have HP5 : Hid (Calls Tryz.prog 18 #[.int .i64 (st s), .int .i64 5] wr fun r w' => r = .returned (.int .i64 (pickN (st s) 5 : Nat)) ∧ wr = w') := pick_any (st s) 5 wr (by omega) (by omega) hrg.1 hrg.2
          have hp7 := pickN_lt (st s) 7 (by omega)
          have hp5 := pickN_lt (st s) 5 (by omega)
          have HSv := hide (Sv.serve HNok.out (pickN (st s) 7 : Nat) (pickN (st s) 5 : Nat) (by omega) (by omega) hS2.out)
          have hm : srv (pickN (st s) 7 : Nat) (pickN (st s) 5 : Nat) (R - dn) = min (min (pickN (st s) 7) (pickN (st s) 5)) (R - dn) := by
            unfold srv
            rw [if_neg (by omega), Int.toNat_natCast, Int.toNat_natCast]
          rw [hm] at HSv
          clear hrg hS2 hm
          generalize pickN (st s) 7 = pa at *
          generalize pickN (st s) 5 = pb at *
          generalize st s = z at *
          obtain ⟨m, hm⟩ : ∃ m, min (min pa pb) (R - dn) = m := ⟨_, rfl⟩
          rw [hm] at HSv
          have HM := hide hm
          clear hm
          have fin : Hid (∀ wy, Below w.heap.size wr wy → Sv (Nx K) w.heap.size (w.heap.size + 1) C (R - dn - m) (Tf L sz) wy → dn + m ≤ R ∧ Below w.heap.size w wy ∧ Hid (Sv (Nx K) w.heap.size (w.heap.size + 1) C (R - (dn + m)) (Tf L sz) wy)) := fun wy h1 h2 => by
            have := HM.out
            refine ⟨by omega, hb2.trans h1, ?_⟩
            rw [show R - (dn + m) = R - dn - m by omega]
            exact h2
          by_cases h1 : pb < pa
          · by_cases h2 : R - dn < pb
            · have e1 : (pb : Int) < (pa : Int) := by omega
              have e2 : (R : Int) - (dn : Int) < (pb : Int) := by omega
              have e3 : (m : Int) = (R : Int) - (dn : Int) := by have := HM.out; omega
              go_wp2_with (first | (go_at_call 31; refine HSv.out.mono ?_; rintro e wy ⟨rfl, hb3, hS3⟩) | (go_at_call_of 18 (Value.int .i64 (7 : Int)); refine HP7.out.mono ?_; rintro e wp ⟨rfl, rfl⟩) | (go_at_call_of 18 (Value.int .i64 (5 : Int)); refine HP5.out.mono ?_; rintro e wp ⟨rfl, rfl⟩))
              obtain ⟨f1, f2, f3⟩ := fin.out _ hb3 hS3
              exact ⟨⟨s + 1, dn + m, by omega, by omega, f1, by congr 1; omega, by simp, f2, f3⟩, by simp [intOf]; omega⟩
            · have e1 : (pb : Int) < (pa : Int) := by omega
              have e2 : ¬ ((R : Int) - (dn : Int) < (pb : Int)) := by omega
              have e3 : (m : Int) = (pb : Int) := by have := HM.out; omega
              go_wp2_with (first | (go_at_call 31; refine HSv.out.mono ?_; rintro e wy ⟨rfl, hb3, hS3⟩) | (go_at_call_of 18 (Value.int .i64 (7 : Int)); refine HP7.out.mono ?_; rintro e wp ⟨rfl, rfl⟩) | (go_at_call_of 18 (Value.int .i64 (5 : Int)); refine HP5.out.mono ?_; rintro e wp ⟨rfl, rfl⟩))
              obtain ⟨f1, f2, f3⟩ := fin.out _ hb3 hS3
              exact ⟨⟨s + 1, dn + m, by omega, by omega, f1, by congr 1; omega, by simp, f2, f3⟩, by simp [intOf]; omega⟩
          · by_cases h2 : R - dn < pa
            · have e1 : ¬ ((pb : Int) < (pa : Int)) := by omega
              have e2 : (R : Int) - (dn : Int) < (pa : Int) := by omega
              have e3 : (m : Int) = (R : Int) - (dn : Int) := by have := HM.out; omega
              go_wp2_with (first | (go_at_call 31; refine HSv.out.mono ?_; rintro e wy ⟨rfl, hb3, hS3⟩) | (go_at_call_of 18 (Value.int .i64 (7 : Int)); refine HP7.out.mono ?_; rintro e wp ⟨rfl, rfl⟩) | (go_at_call_of 18 (Value.int .i64 (5 : Int)); refine HP5.out.mono ?_; rintro e wp ⟨rfl, rfl⟩))
              obtain ⟨f1, f2, f3⟩ := fin.out _ hb3 hS3
              exact ⟨⟨s + 1, dn + m, by omega, by omega, f1, by congr 1; omega, by simp, f2, f3⟩, by simp [intOf]; omega⟩
            · have e1 : ¬ ((pb : Int) < (pa : Int)) := by omega
              have e2 : ¬ ((R : Int) - (dn : Int) < (pa : Int)) := by omega
              have e3 : (m : Int) = (pa : Int) := by have := HM.out; omega
              go_wp2_with (first | (go_at_call 31; refine HSv.out.mono ?_; rintro e wy ⟨rfl, hb3, hS3⟩) | (go_at_call_of 18 (Value.int .i64 (7 : Int)); refine HP7.out.mono ?_; rintro e wp ⟨rfl, rfl⟩) | (go_at_call_of 18 (Value.int .i64 (5 : Int)); refine HP5.out.mono ?_; rintro e wp ⟨rfl, rfl⟩))
              obtain ⟨f1, f2, f3⟩ := fin.out _ hb3 hS3
              exact ⟨⟨s + 1, dn + m, by omega, by omega, f1, by congr 1; omega, by simp, f2, f3⟩, by simp [intOf]; omega⟩
        · have hex : ¬ ((s : Int) < (n1 : Int)) ∨ ((s : Int) < (n1 : Int) ∧ ¬ ((s : Int) < 50)) := by omega
          clear hsn
          rcases hex with hex | ⟨hex, hex2⟩
          · go_wp2
            go_meet
            exact ⟨dn, hd, rfl, hb2, hS2⟩
          · go_wp2
            go_meet
            exact ⟨dn, hd, rfl, hb2, hS2⟩
    case rest =>
      obtain ⟨dn, hd, rfl, hb2, hS2⟩ := hcut
      clear hb hS
      have HSv : Hid (Calls Tryz.prog 31 #[.pointer (some ⟨w.heap.size + 1, 0, none⟩), .int .i64 1099511627776, .int .i64 (-1)] wc fun r w' => r = .returned (.int .i64 ((R : Int) - (dn : Int))) ∧ Below w.heap.size wc w' ∧ Sv (Nx K) w.heap.size (w.heap.size + 1) C 0 (Tf L sz) w') := by
        have := Sv.serve HNok.out 1099511627776 (-1) (by omega) (by omega) hS2.out
        rw [srv_all (R - dn) (by omega), Nat.sub_self, show ((R - dn : Nat) : Int) = (R : Int) - (dn : Int) by omega] at this
        exact this
      clear hS2
      go_wp2_with (go_at_call 31; refine HSv.out.mono ?_; rintro e w3 ⟨rfl, hb3, hS3⟩)
      replace hb3 := hb2.trans hb3
      replace hS3 := hide hS3
      clear HSv
      go_loopw [24] (fun iv wr => ∃ c : Nat, c ≤ C ∧ iv = .int .i64 c ∧ Below w.heap.size w wr ∧ Hid (∃ want, Sv (Nx K) w.heap.size (w.heap.size + 1) C 0 want wr ∧ ∀ j, c ≤ j → want j = Tf L sz j)) (fun iv _ => C - (intOf iv).toNat)
      case atStart => exact ⟨0, by omega, rfl, hb3, ⟨_, hS3.out, fun _ _ => rfl⟩⟩
      case round =>
        clear hb3 hS3 hb2
        obtain ⟨c, hc, rfl, hb4, hS4⟩ := hrel
        by_cases hcC : c < C
        · obtain ⟨want, hS5, hw⟩ := hS4.out
          have g1 : (c : Int) < (C : Int) := by omega
          have g2 : (c : Int) < (n0 : Int) := by omega
          have g3 : (0 : Int) ≤ (c : Int) := by omega
          have HTk : Hid (Calls Tryz.prog 22 #[.pointer (some ⟨w.heap.size + 1, 0, none⟩), .int .i64 c, .int .i64 1099511627776] wr fun r w' => r = .returned (.tuple #[.string (Tf L sz c), .int .i64 0]) ∧ Below w.heap.size wr w' ∧ Hid (∃ want, Sv (Nx K) w.heap.size (w.heap.size + 1) C 0 want w' ∧ ∀ j, c + 1 ≤ j → want j = Tf L sz j)) := by
            refine (Sv.take c hcC hS5).mono ?_
            rintro e w' ⟨rfl, q1, q2⟩
            refine ⟨by rw [hw c (by omega)], q1, _, q2, fun j hj => ?_⟩
            simp only [if_neg (show ¬ j = c by omega)]
            exact hw j (by omega)
          clear hS5 hw hS4
          obtain ⟨T0, hT0⟩ : ∃ T0, Hid (T0 = Tf L sz c) := ⟨_, rfl⟩
          rw [← hT0.out] at HTk
          go_wp2_with (go_at_call 22; refine HTk.out.mono ?_; rintro e w5 ⟨rfl, hb5, hS5⟩)
          replace hb5 := hb4.trans hb5
          clear HTk hb4
          go_loopw [25, 27] (fun sv kv ws => ∃ k : Nat, k ≤ cnt L c ∧ (∃ t, sv = .string t ∧ Hid (t = reps ((rqs sz c (cnt L c)).drop k))) ∧ kv = .int .i64 k ∧ Below w5.heap.size w5 ws) (fun _ kv _ => 9 - (intOf kv).toNat)
          case atStart => exact ⟨0, by omega, ⟨T0, rfl, hT0⟩, rfl, Below.refl _ _⟩
          case round =>
            obtain ⟨k, hk, ⟨t, rfl, ht⟩, rfl, hb6⟩ := hrel
            have hk9 : cnt L c ≤ 9 ∧ cnt L c ≤ L c := by unfold cnt; omega
            have hb7 : Below w.heap.size w wr := hb5.trans (hb6.mono hb5.size)
            obtain ⟨b, off, A, C', ha0, hrow, hcs⟩ := (HA.out.below hb7).row c (by omega)
            subst ha0
            by_cases hkn : k < cnt L c
            · obtain ⟨b', off', hA', hcell⟩ := hcs k (by omega)
              subst hA'
              have g4 : (k : Int) < (L c : Int) := by omega
              have g5 : (k : Int) < 9 := by omega
              have g6 : (0 : Int) ≤ (k : Int) := by omega
              have hrg := HA.out.rng c k
              have HP : Hid (Calls Tryz.prog 18 #[.int .i64 (sz c k), .int .i64 8] wr fun r w' => r = .returned (.int .i64 (pickN (sz c k) 8 : Nat)) ∧ wr = w') := pick_any (sz c k) 8 wr (by omega) (by omega) hrg.1 hrg.2
              have hp8 := pickN_lt (sz c k) 8 (by omega)
              have hdr : Hid (t = rep (k, 1 + pickN (sz c k) 8) ++ reps ((rqs sz c (cnt L c)).drop (k + 1))) := by
                unfold Hid
                rw [ht.out, rqs_drop sz c _ k hkn]
                rfl
              clear hcs hrg
              generalize pickN (sz c k) 8 = q at *
              generalize sz c k = z at *
              have HB4 : Hid (∀ w1, Calls Tryz.prog 28 #[.int .i64 (4 + (1 + (q : Int))), .int .i64 2] w1 fun r w' => r = .returned (.string (b8 ((4 + (1 + q)) / 256) ++ b8 ((4 + (1 + q)) % 256))) ∧ Below w1.heap.size w1 w') := fun w1 => by
                have := bytes2 (4 + (1 + q)) w1 (by omega)
                rw [show ((4 + (1 + q) : Nat) : Int) = 4 + (1 + (q : Int)) by omega] at this
                exact this
              have HBk : Hid (∀ w1, Calls Tryz.prog 28 #[.int .i64 k, .int .i64 2] w1 fun r w' => r = .returned (.string (b8 (k / 256) ++ b8 (k % 256))) ∧ Below w1.heap.size w1 w') := fun w1 => bytes2 k w1 (by omega)
              have HB1 : Hid (∀ w1, Calls Tryz.prog 28 #[.int .i64 (1 + (q : Int)), .int .i64 1] w1 fun r w' => r = .returned (.string (b8 (1 + q))) ∧ Below w1.heap.size w1 w') := fun w1 => by
                have := bytes1 (1 + q) w1 (by omega)
                rw [show ((1 + q : Nat) : Int) = 1 + (q : Int) by omega] at this
                exact this
              have HFl : Hid (∀ w1, Calls Tryz.prog 34 #[.int .i64 (1 + (q : Int)), .int .u8 0] w1 fun r w' => r = .returned (.string (rept 0 (1 + q))) ∧ Below w1.heap.size w1 w') := fun w1 => by
                have := fill_any (1 + q) 0 w1 (by omega) (by omega)
                rw [show ((1 + q : Nat) : Int) = 1 + (q : Int) by omega] at this
                exact this
              have hrep := rep_laid k (1 + q)
              have z1 := two_size ((4 + (1 + q)) / 256) ((4 + (1 + q)) % 256)
              have z2 := two_size (k / 256) (k % 256)
              have z3 := b8_size (1 + q)
              have z4 := rept_size 0 (1 + q)
              generalize b8 ((4 + (1 + q)) / 256) ++ b8 ((4 + (1 + q)) % 256) = S1 at *
              generalize b8 (k / 256) ++ b8 (k % 256) = S2 at *
              generalize b8 (1 + q) = S3 at *
              generalize rept 0 (1 + q) = S4 at *
              have HR := hide hrep
              clear hrep
              go_upto_region 55 with (first | (go_at_call 34; refine (HFl.out _).mono ?_; rintro e wx4 ⟨rfl, kx4⟩) | (go_at_call 28; have _hx := kx2; refine (HB1.out _).mono ?_; rintro e wx3 ⟨rfl, kx3⟩) | (go_at_call 28; have _hx := kx1; refine (HBk.out _).mono ?_; rintro e wx2 ⟨rfl, kx2⟩) | (go_at_call 28; refine (HB4.out _).mono ?_; rintro e wx1 ⟨rfl, kx1⟩) | (go_at_call 18; refine HP.out.mono ?_; rintro e wp ⟨rfl, rfl⟩))
              replace hb6 := hb6.trans (kx1.mono hb6.size)
              replace hb6 := hb6.trans (kx2.mono hb6.size)
              replace hb6 := hb6.trans (kx3.mono hb6.size)
              replace hb6 := hb6.trans (kx4.mono hb6.size)
              generalize hrest : reps ((rqs sz c (cnt L c)).drop (k + 1)) = rest at *
              have hWz : (S1 ++ (⟨#[130]⟩ : ByteArray) ++ S2 ++ S3 ++ S4).size = 6 + (1 + q) := by rw [HR.out, rep_size]
              have htW : t = (S1 ++ (⟨#[130]⟩ : ByteArray) ++ S2 ++ S3 ++ S4) ++ rest := by rw [HR.out]; exact hdr.out
              generalize S1 ++ (⟨#[130]⟩ : ByteArray) ++ S2 ++ S3 ++ S4 = W at *
              have htz : t.size = W.size + rest.size := by rw [htW, ByteArray.size_append]
              have h3 : t.extract 0 W.size = W := by rw [htW]; exact extract_left _ _ _ rfl
              have h4 : t.extract W.size t.size = rest := by rw [htz, htW]; exact extract_right _ _ _ _ rfl rfl
              have HRest := hide hrest
              have h1 : ¬ ((t.size : Int) < (W.size : Int)) := by omega
              have h2 : (W.size : Int) ≤ (t.size : Int) := by omega
              clear htW hdr HR hrest ht z1 z2 z3 z4 hWz htz
              go_wp2
              exact ⟨⟨k + 1, by omega, ⟨rest, rfl, HRest.out.symm⟩, by simp, hb6⟩, by simp [intOf]; omega⟩
            · have ht0 : t = ⟨#[]⟩ := by
                rw [ht.out, List.drop_of_length_le (by simp [rqs]; omega)]
                rfl
              subst ht0
              have hS6 : Hid (∃ want, Sv (Nx K) w.heap.size (w.heap.size + 1) C 0 want wr ∧ ∀ j, c + 1 ≤ j → want j = Tf L sz j) := by
                obtain ⟨wt, q1, q2⟩ := hS5.out
                exact ⟨wt, q1.below hb6, q2⟩
              have hex : ¬ ((k : Int) < (L c : Int)) ∨ ((k : Int) < (L c : Int) ∧ ¬ ((k : Int) < 9)) := by
                have : cnt L c = min (L c) 9 := rfl
                omega
              clear hcs ht hS5 hkn
              rcases hex with hex | ⟨hex, hex2⟩
              · go_wp2
                exact ⟨⟨c + 1, by omega, by simp, hb7, hS6⟩, by simp [intOf]; omega⟩
              · go_wp2
                exact ⟨⟨c + 1, by omega, by simp, hb7, hS6⟩, by simp [intOf]; omega⟩
        · have g1 : ¬ ((c : Int) < (C : Int)) := by omega
          go_wp2
          go_ret
          exact ⟨rfl, hb4⟩
end Go.Proofs.YthpmcilljbmoiaaGreatDoor
