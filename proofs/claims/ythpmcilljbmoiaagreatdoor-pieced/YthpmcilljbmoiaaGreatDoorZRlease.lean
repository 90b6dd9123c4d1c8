import Derived.Test.YthpmcilljbmoiaaGreatDoorZ26
import Derived.Deep.CutBlock
namespace Go.Proofs.YthpmcilljbmoiaaGreatDoor
open Go.RowKit

set_option maxRecDepth 100000 in
set_option maxHeartbeats 1000000 in
/-- the reply of a request that has a lease: the lease is given -/
theorem reply_lease (db kb wb kind id lb : Nat) (now : Int) (T : TypeId) (x : Value) (wv gv cl bv : Value) (d : Int) (going body : ByteArray) (SL : Nat → Prop) (G : World → Prop) (w : World)
    (hm : ∀ w, (method 446 T x "Reply").run Tryz.prog w = .ok (255, .agg #[.int .i64 kind, .int .i64 id]) w)
    (hnow : w.cell? ⟨db, 5, none⟩ = some (.int .i64 now))
    (HGv : Hid (Calls Tryz.prog 139 #[.pointer (some ⟨lb, 0, none⟩), .int .i64 now] w fun r w' => r = .returned (.tuple #[]) ∧ G w' ∧ Kept SL w w'))
    (hSk : ¬ SL kb) (hSw : ¬ SL wb) (hSg : ∀ k, gv.ownBlock = some k → ¬ SL k) (hSb : ∀ k, bv.ownBlock = some k → ¬ SL k)
    (hB : Cn w kb wv gv (.pointer (some ⟨wb, 0, none⟩)) cl) (hW : Wl w wb (.iface T x) (some ⟨lb, 0, none⟩) d bv) (hg : Bs w 5 gv going) (hb : Bs w 5 bv body) (hk : kind < 100) (hi : id < 65536) (hs : body.size ≤ 2500) (hgs : going.size ≤ 200000) :
    Calls Tryz.prog 93 #[.pointer (some ⟨db, 0, none⟩), .pointer (some ⟨kb, 0, none⟩)] w
      fun r w' => r = .returned (.tuple #[]) ∧ ∃ wG gv', G wG ∧ Kept SL w wG ∧ Cn w' kb wv gv' (.pointer none) cl ∧ Bs w' 5 gv' (going ++ frm (kind + 128) id body) ∧ Kept (fun k => k = kb ∨ gv.ownBlock = some k) wG w' ∧ Home wG gv gv' := by
  have c2 : w.cell? ⟨kb, 2, none⟩ = some (.pointer (some ⟨wb, 0, none⟩)) := hB.cell 2
  have d1 : w.cell? ⟨wb, 1, none⟩ = some (.pointer (some ⟨lb, 0, none⟩)) := hW.cell 1
  have HR : Hid (∀ wG, Kept SL w wG → Calls Tryz.prog 255 #[.agg #[.int .i64 kind, .int .i64 id], bv] (World.drew wG) fun r w' => ∃ v, r = .returned v ∧ Bs w' 5 v (frm (kind + 128) id body) ∧ Below wG.heap.size (World.drew wG) w') := fun wG hkG => by
    refine (reply_any kind id bv body (World.drew wG) (hb.kept hkG.drew hSb) hk hi hs).mono ?_
    rintro r w' ⟨v, q1, q2, q3, q4⟩
    exact ⟨v, q1, q2, q3⟩
  have HS : Hid (∀ wG, Kept SL w wG → ∀ fv w1, Bs w1 5 fv (frm (kind + 128) id body) → Below wG.heap.size (World.drew wG) w1 → Calls Tryz.prog 130 #[.pointer (some ⟨kb, 1, none⟩), fv] w1
      fun r w' => r = .returned (.tuple #[]) ∧ ∃ gv', Cn w' kb wv gv' (.pointer (some ⟨wb, 0, none⟩)) cl ∧ Bs w' 5 gv' (going ++ frm (kind + 128) id body) ∧ Kept (fun k => k = kb ∨ gv.ownBlock = some k) wG w' ∧ Home wG gv gv') := fun wG hkG fv w1 hf hk1 => by
    have hBG := hB.kept hkG hSk
    have hgG := hg.kept hkG hSg
    refine (send_out kb wv gv _ cl fv going _ w1 (hBG.drew.below hk1 hBG.lt) (Rw.kept (Rw.drew hgG) (Kept.ofBelow (S := fun _ => False) hk1) (fun _ _ h => h)) hf (by rw [frm_size]; omega)).mono ?_
    rintro e w' ⟨rfl, gv', h1, h2, h3, h4⟩
    exact ⟨rfl, gv', h1, h2, ((Kept.refl _ wG).drew.below hk1).trans h3, (Home.refl wG gv).trans hk1.size h4⟩
  have HC : Hid (∀ wG, Kept SL w wG → wG.cell? ⟨kb, 2, none⟩ = some (.pointer (some ⟨wb, 0, none⟩)) ∧ wG.cell? ⟨wb, 0, none⟩ = some (.iface T x) ∧ wG.cell? ⟨wb, 3, none⟩ = some bv) := fun wG hkG => ⟨(hB.kept hkG hSk).cell 2, (hW.kept hkG hSw).cell 0, (hW.kept hkG hSw).cell 3⟩
  clear hs hgs hi hk hg hb hB hW hSk hSw hSg hSb
  go_enter Tryz.func93, Tryz.ntmps93
  go_upto_region 3 with (go_at_call 139; refine HGv.out.mono ?_; rintro e wG ⟨rfl, gG, kG⟩)
  obtain ⟨e2, e0, e3⟩ := HC.out wG kG
  have HR1 := hide (HR.out wG kG)
  have HS1 := hide (HS.out wG kG)
  clear c2 d1 hnow HGv HC HR HS
  go_region_with (first | (go_at_call 255; refine HR1.out.mono ?_; rintro e w1 ⟨fv, rfl, b1, k1⟩) | (go_at_call 130; refine (HS1.out fv w1 b1 k1).mono ?_; rintro e w2 ⟨rfl, gv2, h2, b2, k2, f2⟩; have g2 : w2.cell? ⟨kb, 2, none⟩ = some (.pointer (some ⟨wb, 0, none⟩)) := h2.cell 2; have g3 := h2.frozen 2))
  all_goals
    go_wp2
    have hne := bs_ne_cn b2 h2 (by decide)
    exact bodyPost_end (results_none rfl _ _ _) rfl ⟨rfl, wG, gv2, gG, kG, by simpa using h2.set 2 (.pointer none), b2.kept ((Kept.refl (fun k => k = kb) w2).set _ _ (fun _ => rfl)) (fun k hk e => by subst e; exact hne hk), k2.set _ _ (fun _ => .inl rfl), f2⟩
end Go.Proofs.YthpmcilljbmoiaaGreatDoor
