import Derived.Test.YthpmcilljbmoiaaGreatDoorZMpe
import Derived.Deep.CutBlock
import Derived.Deep.DeepCutAuto
import Derived.Deep.LoopGhost
import Derived.StillTailTactics
namespace Go.Proofs.YthpmcilljbmoiaaGreatDoor
open Go.RowKit Go.Deep

set_option maxRecDepth 100000 in
set_option maxHeartbeats 8000000 in
theorem pieced_of (hA : RestA) (K : List Nat) (z : Int) (hz1 : -9223372036854775808 ≤ z) (hz2 : z ≤ 9223372036854775807) (a1 : Option Addr) (n1 c1 : Nat) (Sx : Nat → ByteArray) (raw : ByteArray) (a3 : Option Addr) (n3 c3 : Nat) (cz : Nat → Int) (hcz : ∀ i, -9223372036854775808 ≤ cz i ∧ cz i ≤ 9223372036854775807) (w : World) (hT : Tb K w) (hS : Txt w a1 n1 Sx) (hC : Ivs w a3 n3 cz) :
    Calls Tryz.prog 9 #[.int .i64 z, .slice a1 n1 c1, .string raw, .slice a3 n3 c3] w fun r w' => r = .returned (.bool true) ∧ Below w.heap.size w w' := by
  have H1 := hide (pick_wide z 8 w (by omega) (by omega) hz1 hz2)
  have HBg := hide (fun w1 (hb : Below w.heap.size w w1) => begin_mem (K := K) z hz1 hz2 w1 (hT.below hb))
  have HBl : Hid (∀ w1, Below w.heap.size w w1 → Calls Tryz.prog 13 #[.slice a1 n1 c1, .int .i64 12] w1 fun r w' => ∃ v, r = .returned v ∧ Rw w' 9 1 v (min n1 12) ((obl Sx (min n1 12)).map Value.string) ∧ Below w1.heap.size w1 w') := fun w1 hb => blobs_any a1 n1 c1 Sx w1 (hS.imp id (fun ⟨b, off, e, hl, hc⟩ => ⟨b, off, e, Nat.lt_of_lt_of_le hl hb.size, fun i hi => by rw [hb.cell hl]; exact hc i hi⟩))
  have hp8 := pickN_lt8 z
  have HTb := hide hT
  have HC := hide hC
  have HCz := hide hcz
  clear hT hS hC hcz
  generalize pickN z 8 = p at *
  obtain ⟨m, hm⟩ : ∃ m, m = 1 + p := ⟨_, rfl⟩
  have HM := hide hm
  rw [← hm] at HBg
  clear hm
  have hkm := Nat.min_le_right n1 12
  generalize hk : min n1 12 = k at *
  have hol := obl_len Sx k
  have hos := hide (obl_size Sx k)
  generalize obl Sx k = l at *
  subst hol
  clear hk
  go_enter Tryz.func9, Tryz.ntmps9
  go_upto_region 5 with (first | (go_at_call 18; refine H1.out.mono ?_; rintro e wp ⟨rfl, rfl⟩) | (go_at_call 12; refine (HBg.out _ (Below.refl _ _)).mono ?_; rintro e w1 ⟨ca, da, ka, rfl, ha1, hm1, hl1, hb1⟩) | (go_at_call 12; refine (HBg.out _ hb1).mono ?_; rintro e w2 ⟨cb, db, kb, rfl, ha2, hm2, hl2, hb2⟩) | (go_at_call 13; refine (HBl.out _ (hb1.trans (hb2.mono hb1.size))).mono ?_; rintro e w3 ⟨ov, rfl, ho3, hb3⟩))
  have hTw : Hid (Two K m w ca cb da ka db kb (fun s => s = s00) (fun s => s = s00) w3) := (Two.start hb1 ha1 hm1 hl1 hb2 ha2 hm2 hl2).below hb3
  obtain ⟨a4, c4, rfl⟩ := Rw.shape ho3
  have HO := hide ho3
  clear ha1 hm1 hl1 hb1 ha2 hm2 hl2 hb2 hb3 H1 HBg HBl ho3
  by_cases hl0 : l.length = 0
  · have hl0' : (l.length : Int) = 0 := by omega
    have hbl := hTw.out.bl
    clear HO hTw
    go_wp2
    go_ret
    exact ⟨rfl, hbl⟩
  have hl0' : ¬ ((l.length : Int) = 0) := by omega
  go_upto_if 67 with fail
  go_cut [2] (fun s2 wx => s2 = .string (cutR raw) ∧ wx = w3)
  case first =>
    by_cases hr : 500 < raw.size
    · have hr1 : (500 : Int) < (raw.size : Int) := by omega
      have hr2 : (500 : Int) ≤ (raw.size : Int) := by omega
      have hcr : Hid (cutR raw = raw.extract 0 500) := if_pos hr
      go_wp2
      go_meet
      exact ⟨by rw [hcr.out], rfl⟩
    · have hr1 : ¬ (500 : Int) < (raw.size : Int) := by omega
      have hcr : Hid (cutR raw = raw) := if_neg hr
      go_wp2
      go_meet
      exact ⟨by rw [hcr.out], rfl⟩
  case rest =>
    obtain ⟨rfl, rfl⟩ := hcut
    have hrz := cutR_size raw
    generalize cutR raw = R at *
    have HBr := hide (fun w1 (hb : Below wc.heap.size wc w1) => brought_l (K := K) (.slice a4 l.length c4) l hkm hos.out (HTb.out.below (hTw.out.bl.trans (hb.mono hTw.out.bl.size))) (Rw.below HO.out hb))
    have HNm := hide (fun w1 (hb : Below wc.heap.size wc w1) => named_l (K := K) (.slice a4 l.length c4) l hkm hos.out (HTb.out.below (hTw.out.bl.trans (hb.mono hTw.out.bl.size))) (Rw.below HO.out hb))
    have hz3 := brs_size (K := K) hos.out hkm
    have hz4 := nms_size (K := K) (l := l) hkm
    have HSz := hide (strm_size (K := K) (raw := R) hos.out hkm hrz)
    have HF1 : Hid (∀ w1, Calls Tryz.prog 26 #[.int .i64 3, .int .i64 1, .string (b8 l.length ++ brsB K l)] w1 fun r w' => r = .returned (.string (frm 3 1 (b8 l.length ++ brsB K l))) ∧ Below w1.heap.size w1 w') := fun w1 => kframe_any 3 1 _ w1 (by omega) (by omega) (by omega)
    have HF2 : Hid (∀ w1, Calls Tryz.prog 26 #[.int .i64 5, .int .i64 2, .string ⟨#[107, 101, 121, 49, 2, 104, 105]⟩] w1 fun r w' => r = .returned (.string (frm 5 2 putS)) ∧ Below w1.heap.size w1 w') := fun w1 => kframe_any 5 2 putS w1 (by omega) (by omega) (by decide)
    have HF3 : Hid (∀ w1, Calls Tryz.prog 26 #[.int .i64 1, .int .i64 3, .string ((⟨#[7]⟩ : ByteArray) ++ (b8 l.length ++ nmsB K l))] w1 fun r w' => r = .returned (.string (frm 1 3 ((⟨#[7]⟩ : ByteArray) ++ (b8 l.length ++ nmsB K l)))) ∧ Below w1.heap.size w1 w') := fun w1 => kframe_any 1 3 _ w1 (by omega) (by omega) (by rw [ByteArray.size_append]; have : (⟨#[7]⟩ : ByteArray).size = 1 := rfl; omega)
    have HF4 : Hid (∀ w1, Calls Tryz.prog 26 #[.int .i64 4, .int .i64 4, .string ⟨#[107, 101, 121, 49]⟩] w1 fun r w' => r = .returned (.string (frm 4 4 keyS)) ∧ Below w1.heap.size w1 w') := fun w1 => kframe_any 4 4 keyS w1 (by omega) (by omega) (by decide)
    have z1 : Hid ((frm 3 1 (b8 l.length ++ brsB K l)).size ≤ 1900 ∧ (frm 5 2 putS).size ≤ 20 ∧ (frm 1 3 ((⟨#[7]⟩ : ByteArray) ++ (b8 l.length ++ nmsB K l))).size ≤ 500 ∧ (frm 4 4 keyS).size ≤ 20 ∧ ((⟨#[7]⟩ : ByteArray) ++ (b8 l.length ++ nmsB K l)).size ≤ 450) := by
      have e1 : putS.size = 7 := rfl
      have e2 : keyS.size = 4 := rfl
      have e3 : (⟨#[7]⟩ : ByteArray).size = 1 := rfl
      refine ⟨?_, ?_, ?_, ?_, ?_⟩ <;> simp only [frm_size, ByteArray.size_append (a := (⟨#[7]⟩ : ByteArray)), e1, e2, e3] <;> omega
    have HE : Hid (frm 3 1 (b8 l.length ++ brsB K l) ++ frm 5 2 putS ++ frm 1 3 ((⟨#[7]⟩ : ByteArray) ++ (b8 l.length ++ nmsB K l)) ++ frm 4 4 keyS ++ R = strm K l R) := rfl
    have HGo := hide (fun s (h : Red K m (strm K l R) s) => Red.going hos.out (by omega) hkm hrz h)
    generalize b8 l.length ++ brsB K l = X1 at *
    generalize b8 l.length ++ nmsB K l = X2 at *
    generalize frm 3 1 X1 = Y1 at *
    generalize frm 5 2 putS = Y2 at *
    generalize frm 1 3 ((⟨#[7]⟩ : ByteArray) ++ X2) = Y3 at *
    generalize frm 4 4 keyS = Y4 at *
    generalize strm K l R = S at *
    have hzz := z1.out
    clear HO z1 hos HTb
    go_upto_region 10 with (first | (go_at_call 30; refine (HBr.out _ (Below.refl _ _)).mono ?_; rintro e w4 ⟨rfl, k4⟩) | (go_at_call_of 26 (Value.string X1); refine (HF1.out _).mono ?_; rintro e w5 ⟨rfl, k5⟩; have k5' := k4.trans (k5.mono k4.size)) | (go_at_call_of 26 (Value.int .i64 (5 : Int)); refine (HF2.out _).mono ?_; rintro e w6 ⟨rfl, k6⟩; have k6' := k5'.trans (k6.mono k5'.size)) | (go_at_call 16; refine (HNm.out _ k6').mono ?_; rintro e w7 ⟨rfl, k7⟩; have k7' := k6'.trans (k7.mono k6'.size)) | (go_at_call_of 26 (Value.string ((⟨#[7]⟩ : ByteArray) ++ X2)); refine (HF3.out _).mono ?_; rintro e w8 ⟨rfl, k8⟩; have k8' := k7'.trans (k8.mono k7'.size)) | (go_at_call_of 26 (Value.int .i64 (4 : Int)); refine (HF4.out _).mono ?_; rintro e w9 ⟨rfl, k9⟩; have k9' := k8'.trans (k9.mono k8'.size)))
    rw [HE.out]
    have hT9 : Hid (Two K m w ca cb da ka db kb (fun s => s = s00) (fun s => s = s00) w9) := hTw.out.below k9'
    have hSz := HSz.out
    have hg6 : ¬ ((6000 : Int) < (S.size : Int)) := by omega
    clear HE hTw k9' k8' k7' k6' k5' k4 k5 k6 k7 k8 k9 HF1 HF2 HF3 HF4 HBr HNm hzz hz3 hz4 hrz
    have HFd := hide (two_feed0 hT9.out.drew S hSz)
    obtain ⟨d0, d1, _, _⟩ := hT9.out.clients
    go_upto_region 12 with fail
    go_cut [16] (fun s16 wx => s16 = .int .i64 0 ∧ Hid (Two K m w ca cb da ka db kb (Rsd K m S) (fun s => s = s00) wx))
    case first =>
      as_aux_lemma =>
        have d0' : (World.drew w9).cell? ⟨ca, 0, none⟩ = some (.pointer (some ⟨da, 0, none⟩)) := d0
        have d1' : (World.drew w9).cell? ⟨ca, 1, none⟩ = some (.int .i64 0) := d1
        go_still_tail 9, (by kernel_rfl)
        go_wp2_with (go_at_call 23; refine HFd.out.mono ?_; rintro e wx ⟨rfl, hx⟩)
        go_meet
        exact ⟨rfl, hx⟩
    case rest =>
      obtain ⟨rfl, hTx⟩ := hcut
      clear HFd d0 d1 hT9
      obtain ⟨d0, d1, d2, d3⟩ := hTx.out.clients
      have HSv := hide (two_serve hTx.out hSz)
      clear hTx
      go_upto_region 14 with (go_at_call 31; refine HSv.out.mono ?_; rintro e wy ⟨⟨zz, rfl⟩, hy⟩)
      have hTy : Hid (Two K m w cb ca db kb da ka (Rsd K m (S.extract 0 0)) (Red K m S) wy) := hy.swap.imp (fun s e => by subst e; rw [ByteArray.extract_same]; exact ⟨0, rch0 K m⟩)
      clear hy HSv d0 d1 d2 d3
      go_upto_block 0 with fail
      go_cut [17, 18, 19, 20, 21, 22, 23] (fun s17 s18 s19 s20 s21 s22 s23 wx => ∃ at_ : Nat, at_ ≤ S.size ∧ s17 = .int .i64 at_ ∧ Hid (Two K m w cb ca db kb da ka (Rsd K m (S.extract 0 at_)) (Red K m S) wx))
      case first =>
        go_wp2_with fail
        go_loopg [17, 18] 100 (fun g av iv wr => ∃ at_ i : Nat, at_ ≤ S.size ∧ i ≤ n3 ∧ i + g = 100 ∧ av = .int .i64 at_ ∧ iv = .int .i64 i ∧ Hid (Two K m w cb ca db kb da ka (Rsd K m (S.extract 0 at_)) (Red K m S) wr))
        case atStart => exact ⟨0, 0, by omega, by omega, by omega, rfl, rfl, hTy⟩
        case round =>
          clear hTy
          obtain ⟨at_, i, hat, hi, hig, rfl, rfl, hTw⟩ := hrel
          by_cases hc : i < n3 ∧ i < 100 ∧ at_ < S.size
          · obtain ⟨hc1, hc2, hc3⟩ := hc
            have g1 : (i : Int) < (n3 : Int) := by omega
            have g2 : (i : Int) < 100 := by omega
            have g3 : (at_ : Int) < (S.size : Int) := by omega
            have g4 : (0 : Int) ≤ (i : Int) := by omega
            obtain hn3 | ⟨b, off, ha3, hbl, hcs⟩ := HC.out
            · omega
            subst ha3
            have c0 : wr.cell? ⟨b, off + i, none⟩ = some (.int .i64 (cz i)) := by rw [hTw.out.bl.cell hbl]; exact hcs i hc1
            have hrg := HCz.out i
            have HP1 : Hid (Calls Tryz.prog 18 #[.int .i64 (cz i), .int .i64 ((S.size : Int) - (at_ : Int) + 1)] wr fun r w' => r = .returned (.int .i64 (pickN (cz i) (S.size - at_ + 1) : Nat)) ∧ wr = w') := by
              have := pick_wide (cz i) (S.size - at_ + 1) wr (by omega) (by omega) hrg.1 hrg.2
              rw [show ((S.size - at_ + 1 : Nat) : Int) = (S.size : Int) - (at_ : Int) + 1 by omega] at this
              exact this
            have hq := pickN_lt' (cz i) (S.size - at_ + 1) (by omega)
            have HP5 : Hid (∀ w1, Calls Tryz.prog 18 #[.int .i64 (cz i), .int .i64 5] w1 fun r w' => r = .returned (.int .i64 (pickN (cz i) 5 : Nat)) ∧ w1 = w') := fun w1 => pick_wide (cz i) 5 w1 (by omega) (by omega) hrg.1 hrg.2
            have hq5 := pickN_lt' (cz i) 5 (by omega)
            have HCell : Hid (∀ w1, Below w.heap.size w w1 → w1.cell? ⟨b, off + i, none⟩ = some (.int .i64 (cz i))) := fun w1 hb => by rw [hb.cell hbl]; exact hcs i hc1
            generalize pickN (cz i) (S.size - at_ + 1) = q at *
            generalize pickN (cz i) 5 = q5 at *
            generalize cz i = zi at *
            clear hcs hrg
            have e1 : (0 : Int) ≤ (at_ : Int) := by omega
            have e2 : (at_ : Int) ≤ (at_ : Int) + (q : Int) := by omega
            have e3 : (at_ : Int) + (q : Int) ≤ (S.size : Int) := by omega
            have HFd : Hid (Calls Tryz.prog 23 #[.pointer (some ⟨db, 0, none⟩), .int .i64 0, .string (S.extract at_ (at_ + q))] (World.drew wr) fun r w' => (∃ z : Int, (z = 0 ∨ z = 3) ∧ r = .returned (.int .i64 z)) ∧ Two K m w cb ca db kb da ka (Rsd K m (S.extract 0 (at_ + q))) (Red K m S) w') := by
              have := two_feed hTw.out.drew (S.extract at_ (at_ + q)) (by rw [ex_app _ _ _ (by omega)]; exact Nat.le_trans (ex_le _ _ _) hSz)
              rw [ex_app _ _ _ (by omega)] at this
              exact this
            obtain ⟨d0, d1, _, _⟩ := hTw.out.clients
            go_upto_region 19 with (go_at_call 18; refine HP1.out.mono ?_; rintro e wp ⟨rfl, rfl⟩)
            clear HP1 c0
            obtain ⟨kk, hkk⟩ : ∃ kk : Nat, at_ + q = kk := ⟨_, rfl⟩
            have hkk' : (at_ : Int) + (q : Int) = (kk : Int) := by omega
            rw [hkk'] at e2 e3 ⊢
            rw [hkk] at HFd
            have hks : kk ≤ S.size := by omega
            clear hkk hkk' hq
            go_cut [20] (fun s20 wx => ∃ z : Int, (z = 0 ∨ z = 3) ∧ s20 = .int .i64 z ∧ Hid (Two K m w cb ca db kb da ka (Rsd K m (S.extract 0 kk)) (Red K m S) wx))
            case first =>
              as_aux_lemma =>
                have d0' : (World.drew wr).cell? ⟨cb, 0, none⟩ = some (.pointer (some ⟨db, 0, none⟩)) := d0
                have d1' : (World.drew wr).cell? ⟨cb, 1, none⟩ = some (.int .i64 0) := d1
                go_still_tail 12, (by kernel_rfl)
                go_wp2_with (go_at_call 23; refine HFd.out.mono ?_; rintro e wx ⟨⟨z2, hz2, rfl⟩, hx⟩)
                go_meet
                exact ⟨z2, hz2, rfl, hx⟩
            case rest =>
              obtain ⟨z2, hz2, rfl, hTx⟩ := hcut
              clear HFd d0 d1 hTw e1 e2 e3
              go_upto_region 20 with fail
              go_cut [148] (fun s148 wx => s148 = .bool false ∧ wx = wc)
              case first =>
                as_aux_lemma =>
                  rcases hz2 with rfl | rfl
                  · go_wp2_with fail
                    go_meet
                    exact ⟨rfl, rfl⟩
                  · go_wp2_with fail
                    go_meet
                    exact ⟨rfl, rfl⟩
              case rest =>
                obtain ⟨rfl, rfl⟩ := hcut
                have c0 := HCell.out _ hTx.out.bl
                go_wp2_with (go_at_call 18; refine (HP5.out _).mono ?_; rintro e wp ⟨rfl, rfl⟩)
                obtain ⟨g1, hg1⟩ : ∃ g, Hid (g = gk) := ⟨_, rfl⟩
                go_loopg [21] q5 (fun g jv ws => g ≤ 4 ∧ jv = .int .i64 g ∧ Hid (Two K m w cb ca db kb da ka (Rsd K m (S.extract 0 kk)) (Red K m S) ws))
                case atStart => exact ⟨by omega, rfl, hTx⟩
                case round =>
                  clear hTx c0 HCell HP5
                  obtain ⟨hg4, rfl, hTp⟩ := hrel
                  by_cases hg0 : 0 < gk
                  · have g5 : (0 : Int) < (gk : Int) := by omega
                    have HPk := hide (two_pick hTp.out.drew (Nat.le_trans (ex_le _ _ _) hSz))
                    obtain ⟨d0, d1, _, _⟩ := hTp.out.clients
                    clear hTp
                    go_upto_region 26 with fail
                    go_cut [22, 23] (fun s22 s23 wx => s23 = .int .i64 0 ∧ Hid (Two K m w cb ca db kb da ka (Rsd K m (S.extract 0 kk)) (Red K m S) wx))
                    case first =>
                      go_region_with (go_at_call 17; refine HPk.out.mono ?_; rintro e wx ⟨⟨z3, rfl⟩, hx⟩)
                      all_goals
                        go_wp2_with fail
                        go_meet
                        exact ⟨rfl, hx⟩
                    case rest =>
                      obtain ⟨rfl, hTq⟩ := hcut
                      clear HPk d0 d1
                      go_wp2_with fail
                      go_roundg (gk - 1)
                      case measure => omega
                      case rel => exact ⟨by omega, by congr 1; omega, hTq⟩
                  · have g5 : ¬ ((0 : Int) < (gk : Int)) := by omega
                    have hg1' := hg1.out
                    go_wp2_with fail
                    go_roundg (g1 - 1)
                    case measure => omega
                    case rel => exact ⟨kk, i + 1, hks, by omega, by omega, rfl, by simp, hTp⟩
          · have hex : ¬ ((i : Int) < (n3 : Int)) ∨ ((i : Int) < (n3 : Int) ∧ ¬ ((i : Int) < 100)) ∨ ((i : Int) < (n3 : Int) ∧ (i : Int) < 100 ∧ ¬ ((at_ : Int) < (S.size : Int))) := by omega
            clear hc
            rcases hex with hex | ⟨hex, hex2⟩ | ⟨hex, hex2, hex3⟩
            · go_wp2
              go_meet
              exact ⟨at_, hat, rfl, hTw⟩
            · go_wp2
              go_meet
              exact ⟨at_, hat, rfl, hTw⟩
            · go_wp2
              go_meet
              exact ⟨at_, hat, rfl, hTw⟩
      case rest =>
        obtain ⟨at_, hat, rfl, hTx⟩ := hcut
        refine ‹∀ (a : Act) (w : World), Code.wp Tryz.prog (cAfter 13 (Tryz.f9.body.getD .skip)) _ a w → _› _ _ ?_
        exact hA K m p w wc ca cb da ka db kb at_ S hSz HGo HM hp8 hat hTx
end Go.Proofs.YthpmcilljbmoiaaGreatDoor
