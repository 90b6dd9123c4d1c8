import Derived.Test.YthpmcilljbmoiaaGreatDoorZ21
import Derived.Test.YthpmcilljbmoiaaGreatDoorZ11
import Derived.Test.YthpmcilljbmoiaaGreatDoorZDupd
import Derived.Test.YthpmcilljbmoiaaGreatDoorZ05
namespace Go.Proofs.YthpmcilljbmoiaaGreatDoor
open Go.RowKit

/-- the list as it stands where all behind the e-th up to the j-th have moved up -/
def lmoved (lbs : Nat → Nat) (e j p : Nat) : Nat := if p < e then lbs p else if p + 1 < j then lbs (p + 1) else lbs p
/-- without the e-th -/
def lrem (lbs : Nat → Nat) (e p : Nat) : Nat := if p < e then lbs p else lbs (p + 1)
theorem ptrs_congr (f g : Nat → Nat) (n : Nat) (h : ∀ i, i < n → f i = g i) : ptrs f n = ptrs g n := List.map_congr_left (fun i hi => by rw [h i (List.mem_range.1 hi)])
theorem lmoved_set (lbs : Nat → Nat) (e j n : Nat) (he : e < j) (hj : j < n) : (ptrs (lmoved lbs e j) n).set (j - 1) (.pointer (some ⟨lbs j, 0, none⟩)) = ptrs (lmoved lbs e (j + 1)) n := by
  apply List.ext_getElem?
  intro p
  rw [List.getElem?_set]
  by_cases hp : p < n
  · rw [ptrs_get _ _ _ hp, ptrs_get _ _ _ hp]
    have hl : (ptrs (lmoved lbs e j) n).length = n := by simp [ptrs]
    by_cases h1 : j - 1 = p
    · rw [if_pos h1, if_pos (by omega)]
      have : lmoved lbs e (j + 1) p = lbs j := by
        unfold lmoved
        rw [if_neg (by omega), if_pos (by omega), show p + 1 = j by omega]
      rw [this]
    · rw [if_neg h1]
      have : lmoved lbs e (j + 1) p = lmoved lbs e j p := by
        unfold lmoved
        by_cases h2 : p < e
        · rw [if_pos h2, if_pos h2]
        · rw [if_neg h2, if_neg h2]
          by_cases h3 : p + 1 < j
          · rw [if_pos (by omega), if_pos h3]
          · rw [if_neg (by omega), if_neg h3]
      rw [this]
  · have hl : ∀ f : Nat → Nat, (ptrs f n)[p]? = none := fun f => List.getElem?_eq_none (by simp [ptrs]; omega)
    rw [hl, hl, if_neg (by omega)]
theorem sizeLeasePtr (w : World) : (Go.sizeOf (Tryz.prog.elem 107)).run Tryz.prog w = .ok 1 w := by kernel_rfl
theorem lclear (w : World) (b o c : Nat) (cur : Array Value) (hB : Blk w b 173 cur) (ho : o + 1 ≤ cur.size) (ty : TypeId) :
    (Builtin.clear_ #[107] ty #[.slice (some ⟨b, o, none⟩) 1 c]).run Tryz.prog w = .ok (.tuple #[]) (w.setCells b o [.pointer none]) := by
  have hst := run_storeCells_cells (P := Tryz.prog) b o [.pointer none] 0 w (fun j hj => by
    have : j < 1 := hj
    rw [hB.cell, Array.getElem?_eq_getElem (by omega)]; rfl) (fun j _ => hB.frozen _) (by simp [Value.oneCell'])
  simp only [Nat.add_zero] at hst
  have hz : (Builtin.zeroCells (Value.pointer none).cells 1).toList = [.pointer none] := by kernel_rfl
  simp [Builtin.clear_, run_underlying Tryz.underlying107, -Array.toList_ofFn, hz, hst]

set_option maxRecDepth 100000 in
set_option maxHeartbeats 2000000 in
theorem ldelete_any (g n e : Nat) (lv : Value) (lbs : Nat → Nat) (w : World) (hg : w.cell? ⟨g, 0, none⟩ = some (.pointer (some ⟨lbs e, 0, none⟩))) (hgb : lv.ownBlock ≠ some g) (hR : Rw w 173 1 lv n (ptrs lbs n)) (he : e < n) (hd : ∀ i, i < n → i ≠ e → lbs i ≠ lbs e) (hL : ∀ i, i < n → ∃ cs, Blk w (lbs i) 273 cs) (hn : n ≤ 100) :
    Calls Tryz.prog 193 #[lv, .func (.func 143) #[] #[.pointer (some ⟨g, 0, none⟩)]] w
      fun r w' => ∃ lv', r = .returned lv' ∧ Rw w' 173 1 lv' (n - 1) (ptrs (lrem lbs e) (n - 1)) ∧ lv'.ownBlock = lv.ownBlock ∧ Kept (fun k => lv.ownBlock = some k) w w' := by
  have HI := hide (lindex_any g n e lv lbs w hg hR he hd hL hn)
  obtain ⟨_, h0, _⟩ | ⟨b, off, cap, cur, rfl, hb, h1, h2, h3, h4, h5⟩ := id hR
  · omega
  have hgne : g ≠ b := fun e => hgb (by rw [e]; rfl)
  have HD : Hid (∀ wr, Kept (fun k => k = b) w wr → wr.cell? ⟨g, 0, none⟩ = some (.pointer (some ⟨lbs e, 0, none⟩)) ∧ ∀ i, i < n → i ≠ e → (binOp .eql 173 (.pointer (some ⟨lbs i, 0, none⟩)) (.pointer (some ⟨lbs e, 0, none⟩))).run Tryz.prog wr = .ok (.bool false) wr) := fun wr hk => by
    refine ⟨hk.cell hg hgne, fun i hi hie => ?_⟩
    obtain ⟨c1, q1⟩ := hL i hi
    obtain ⟨c2, q2⟩ := hL e he
    exact lptr_other wr (q1.kept hk (q1.ne hb (by decide))) (q2.kept hk (q2.ne hb (by decide))) (hd i hi hie)
  have HR0 : Hid (Rw w 173 1 (.slice (some ⟨b, off, none⟩) n cap) n (ptrs (lmoved lbs e (e + 1)) n)) := by
    unfold Hid
    rw [ptrs_congr (lmoved lbs e (e + 1)) lbs n (fun i _ => by
      unfold lmoved
      by_cases h : i < e
      · rw [if_pos h]
      · rw [if_neg h, if_neg (by omega)])]
    exact hR
  have l0 : ∀ w, (Instr.slice 107 (.slice (some ⟨b, off, none⟩) n cap) (some (.int .i64 ((n : Int) - 1))) none none).run Tryz.prog w = .ok (.slice (some ⟨b, off + (n - 1), none⟩) 1 (cap - (n - 1))) w := fun w => by
    rw [run_slice_l w _ _ _ _ Tryz.underlying107 _ _ (by omega) (by omega), show ((n : Int) - 1).toNat = n - 1 by omega]
    have q1 : ¬ cap = n - 1 := by omega
    have q2 : n - (n - 1) = 1 := by omega
    simp [sliced, Addr.add_lit, q1, q2, sizeLeasePtr]
  have l1 : ∀ w, (Instr.slice 107 (.slice (some ⟨b, off, none⟩) n cap) none (some (.int .i64 ((n : Int) - 1))) none).run Tryz.prog w = .ok (.slice (some ⟨b, off, none⟩) (n - 1) cap) w := fun w => by
    rw [run_slice_h w _ _ _ _ Tryz.underlying107 _ _ (by omega) (by omega), show ((n : Int) - 1).toNat = n - 1 by omega]
    have q1 : ¬ cap = 0 := by omega
    simp [sliced, Addr.add_lit, q1, sizeLeasePtr]
  clear hg hR hd hL h4 h5 hgb
  have hei : ¬ ((e : Int) = -1) := by omega
  have heb : ((e : Int) == -1) = false := beq_eq_false_iff_ne.2 hei
  go_enter Tryz.func193, Tryz.ntmps193
  go_wp2_with (go_at_call 223; refine HI.out.mono ?_; rintro e w1 ⟨rfl, rfl⟩)
  clear HI
  go_loopw [5, 6] (fun iv jv wr => ∃ j : Nat, e < j ∧ j ≤ n ∧ iv = .int .i64 ((j : Int) - 1) ∧ jv = .int .i64 j ∧ Hid (Rw wr 173 1 (.slice (some ⟨b, off, none⟩) n cap) n (ptrs (lmoved lbs e j) n)) ∧ Hid (Kept (fun k => k = b) w wr)) (fun _ jv _ => n - (intOf jv).toNat)
  case atStart => exact ⟨e + 1, by omega, by omega, by congr 1; omega, by congr 1, HR0, Kept.refl _ _⟩
  case round =>
    clear HR0
    obtain ⟨j, hj1, hj2, rfl, rfl, hRr, hKr⟩ := hrel
    obtain ⟨hgc, hcmp⟩ := HD.out wr hKr.out
    by_cases hjn : j < n
    · have i1 : (j : Int) < (n : Int) := by omega
      have i2 : (0 : Int) ≤ (j : Int) := by omega
      have i3 : (j : Int) - 1 < (n : Int) := by omega
      have i4 : (0 : Int) ≤ (j : Int) - 1 := by omega
      have i5 : ((j : Int) - 1).toNat = j - 1 := by omega
      obtain ⟨b', off', cap', ev, q1, _⟩ := Rw.ptr_at hRr.out j hjn
      injection ev with ev _ _
      injection ev with ev
      injection ev with e1 e2 e3
      subst e1 e2
      clear e3
      have hlj : lmoved lbs e j j = lbs j := by unfold lmoved; rw [if_neg (by omega), if_neg (by omega)]
      rw [hlj] at q1
      have hcj := hcmp j hjn (by omega)
      obtain ⟨b2, off2, cap2, ev2, q2, _⟩ := Rw.ptr_at hRr.out (j - 1) (by omega)
      injection ev2 with ev2 _ _
      injection ev2 with ev2
      injection ev2 with e4 e5 e6
      subst e4 e5
      clear e6
      have fz : wr.frozen? ⟨b, off + (j - 1), none⟩ = false := by
        obtain ⟨h0, _, _⟩ | ⟨b3, off3, cap3, cur3, hv3, hb3, _⟩ := hRr.out
        · cases h0
        · injection hv3 with hv3
          injection hv3 with hv3
          injection hv3 with e7 e8
          subst e7
          exact hb3.frozen _
      have hR2 := Rw.set hRr.out (j - 1) (by omega) (.pointer (some ⟨lbs j, 0, none⟩))
      rw [lmoved_set lbs e j n hj1 hjn] at hR2
      have HR2 := hide hR2
      have HK2 : Hid (Kept (fun k => k = b) w (wr.setCell ⟨b, off + (j - 1), none⟩ (.pointer (some ⟨lbs j, 0, none⟩)))) := hKr.out.set _ _ (fun _ => rfl)
      generalize lmoved lbs e j (j - 1) = z at *
      clear hR2 hRr hKr hcmp HD hlj
      generalize lbs j = x at *
      generalize lbs e = y at *
      go_wp2
      exact ⟨⟨j + 1, by omega, by omega, by congr 1; omega, by simp, HR2, HK2⟩, by simp [intOf]; omega⟩
    · obtain rfl : j = n := by omega
      have i1 : ¬ ((j : Int) < (j : Int)) := by omega
      have hKr' := hKr.out
      obtain ⟨h0, _, _⟩ | ⟨b3, off3, cap3, cur3, hv3, hb3, g1, g2, g3, g4, g5⟩ := hRr.out
      · cases h0
      injection hv3 with hv3 hvn hv4
      injection hv3 with hv3
      injection hv3 with e7 e8 e9
      subst e7 e8 hv4
      clear hvn e9
      have hclr := fun ty => lclear wr b (off + (j - 1)) (cap - (j - 1)) cur3 hb3 (by omega) ty
      have b4 := setCells_blk [.pointer none] (off + (j - 1)) wr cur3 hb3 (by simp; omega)
      generalize wr.setCells b (off + (j - 1)) [.pointer none] = w3 at *
      obtain ⟨cs', r1, r2, r3, r4, r5⟩ := b4
      have R3 := hide r3
      have G5 := hide g5
      clear r3 r4 g5 HD hcmp hgc hRr hKr g4
      go_wp2
      go_ret
      refine ⟨_, rfl, .inr ⟨b, off, cap, cs', rfl, r1, by omega, h2, by omega, by simp [ptrs], fun p hp => ?_⟩, rfl, (hKr'.trans r5.kept).mono (fun k _ hk => by subst hk; rfl)⟩
      rw [R3.out (off + p) (.inl (by omega)), G5.out p (by omega), ptrs_get _ _ _ (by omega), ptrs_get _ _ _ (by omega)]
      have : lmoved lbs e j p = lrem lbs e p := by
        unfold lmoved lrem
        by_cases h : p < e
        · rw [if_pos h, if_pos h]
        · rw [if_neg h, if_neg h, if_pos (by omega)]
      rw [this]
end Go.Proofs.YthpmcilljbmoiaaGreatDoor
namespace Go.Proofs.YthpmcilljbmoiaaGreatDoor
open Go.RowKit

set_option maxRecDepth 100000 in
theorem ends_same (g lb : Nat) (w : World) (hg : w.cell? ⟨g, 0, none⟩ = some (.pointer (some ⟨lb, 0, none⟩))) :
    Calls Tryz.prog 143 #[.pointer (some ⟨lb, 0, none⟩), .pointer (some ⟨g, 0, none⟩)] w fun r w' => r = .returned (.bool true) ∧ w = w' := by
  have heq := lptr_same w lb
  go_enter Tryz.func143, Tryz.ntmps143
  go_wp2
  go_ret
  exact ⟨rfl, rfl⟩
/-- what lies behind the end of a lease -/
def Ended (w : World) (db o : Nat) (t : TypeId) (cs : Array Value) (lv : Value) (lbs : Nat → Nat) (n e : Nat) (names : List ByteArray) (r : Ending) (w' : World) : Prop :=
  ∃ ov lv', r = .returned ov ∧ Rw w' 9 1 ov names.length (names.map Value.string) ∧ Fresh w.heap.size ov ∧ Blk w' db t (cs.setIfInBounds o lv') ∧ Rw w' 173 1 lv' (n - 1) (ptrs (lrem lbs e) (n - 1)) ∧ lv'.ownBlock = lv.ownBlock ∧ Kept (fun k => k = db ∨ lv.ownBlock = some k) w w'

set_option maxRecDepth 100000 in
set_option maxHeartbeats 2000000 in
theorem endAll_any (db o g n e : Nat) (t : TypeId) (cs : Array Value) (lv : Value) (lbs : Nat → Nat) (les : Nat → Le) (nvs : Nat → Value) (w : World) (hB : Blk w db t cs) (ht1 : t ≠ 173) (ht2 : t ≠ 9) (hc : cs[o]? = some lv)
    (hg : w.cell? ⟨g, 0, none⟩ = some (.pointer (some ⟨lbs e, 0, none⟩))) (hgb : lv.ownBlock ≠ some g) (hR : Rw w 173 1 lv n (ptrs lbs n)) (he : e < n) (hd : ∀ i, i < n → i ≠ e → lbs i ≠ lbs e) (hL : ∀ i, i < n → Lm w (lbs i) (les i) (nvs i)) (hn : n ≤ 100) (hnm : (les e).names.length ≤ 1000) :
    Calls Tryz.prog 142 #[.pointer (some ⟨db, o, none⟩), .func (.func 143) #[] #[.pointer (some ⟨g, 0, none⟩)]] w
      fun r w' => Ended w db o t cs lv lbs n e (les e).names r w' := by
  have hgl := World.block_lt_of_cell? _ _ hg
  have hlt := hB.lt
  have HD : Hid (∀ wr, Below w.heap.size w wr → Calls Tryz.prog 193 #[lv, .func (.func 143) #[] #[.pointer (some ⟨g, 0, none⟩)]] wr
      fun r w' => ∃ lv', r = .returned lv' ∧ Rw w' 173 1 lv' (n - 1) (ptrs (lrem lbs e) (n - 1)) ∧ lv'.ownBlock = lv.ownBlock ∧ Kept (fun k => lv.ownBlock = some k) wr w') := fun wr hb =>
    ldelete_any g n e lv lbs wr (by rw [hb.cell hgl]; exact hg) hgb (Rw.below hR hb) he hd (fun i hi => ⟨_, (hL i hi).1.below hb (hL i hi).1.lt⟩) hn
  have HP : Hid (∀ wr, Below w.heap.size w wr → wr.cell? ⟨db, o, none⟩ = some lv ∧ wr.cell? ⟨g, 0, none⟩ = some (.pointer (some ⟨lbs e, 0, none⟩)) ∧ ∀ i, i < n → (∃ b off, (∃ cap, lv = .slice (some ⟨b, off, none⟩) n cap) ∧ wr.cell? ⟨b, off + i, none⟩ = some (.pointer (some ⟨lbs i, 0, none⟩))) ∧ (i ≠ e → (binOp .eql 173 (.pointer (some ⟨lbs i, 0, none⟩)) (.pointer (some ⟨lbs e, 0, none⟩))).run Tryz.prog wr = .ok (.bool false) wr)) := fun wr hb => by
    refine ⟨by rw [(hB.below hb hlt).cell]; exact hc, by rw [hb.cell hgl]; exact hg, fun i hi => ⟨?_, fun hie => ?_⟩⟩
    · obtain ⟨b, off, cap, ev, h1, _⟩ := Rw.ptr_at (Rw.below hR hb) i hi
      exact ⟨b, off, ⟨cap, ev⟩, h1⟩
    · exact lptr_other wr ((hL i hi).1.below hb (hL i hi).1.lt) ((hL e he).1.below hb (hL e he).1.lt) (hd i hi hie)
  have HE : Hid (∀ wr, Below w.heap.size w wr → wr.cell? ⟨lbs e, 2, none⟩ = some (nvs e) ∧ Rw wr 9 1 (nvs e) (les e).names.length ((les e).names.map Value.string)) := fun wr hb => ⟨((hL e he).1.below hb (hL e he).1.lt).cell 2, Rw.below (hL e he).2 hb⟩
  have HB : Hid (Blk w db t cs) := hB
  have HRw := hide hR
  have hne := Rw.ne hR hB (Ne.symm ht1)
  have hsame := fun w => lptr_same w (lbs e)
  obtain ⟨nm, hnms⟩ : ∃ nm, Hid ((les e).names = nm) := ⟨_, rfl⟩
  rw [hnms.out] at HE hnm
  rw [hnms.out]
  have hc0 : w.cell? ⟨db, o, none⟩ = some lv := by rw [hB.cell]; exact hc
  obtain ⟨a0, e0, rfl⟩ := Rw.shape hR
  clear hB hc hg hgb hR hd hL
  go_enter Tryz.func142, Tryz.ntmps142
  go_wp2
  go_loopw [5, 13] (fun ov iv wr => ∃ i : Nat, i ≤ n ∧ iv = .int .i64 i ∧ Below w.heap.size w wr ∧ (i ≤ e → ov = .slice none 0 0) ∧ Hid (e < i → Rw wr 9 1 ov nm.length (nm.map Value.string) ∧ Fresh w.heap.size ov) ∧ ∃ a c k, ov = .slice a k c) (fun _ iv _ => n - (intOf iv).toNat)
  case atStart => exact ⟨0, by omega, rfl, Below.refl _ _, fun _ => rfl, (fun h => by omega), none, 0, 0, rfl⟩
  case round =>
    obtain ⟨i, hi, rfl, hb, ho, hO, oa, oc, ok, rfl⟩ := hrel
    obtain ⟨d0, dg, hcells⟩ := HP.out wr hb
    by_cases hin : i < n
    · obtain ⟨⟨b, off, ⟨cap, hv⟩, q1⟩, hcmp⟩ := hcells i hin
      injection hv with hv hvn hv2
      subst hv hv2
      clear hvn
      have h1 : (i : Int) < (n : Int) := by omega
      have h2 : (0 : Int) ≤ (i : Int) := by omega
      by_cases hie : i = e
      · subst hie
        have hoe := ho (Nat.le_refl _)
        injection hoe with hoa hok hoc
        subst hoa hok hoc
        obtain ⟨g2, gR⟩ := HE.out wr hb
        have HEs := hide (ends_same g (lbs i) wr dg)
        have hone : ∀ u ∈ nm.map Value.string, u.oneCell' = true := fun u hu => by
          obtain ⟨y, _, rfl⟩ := List.mem_map.1 hu
          rfl
        have HSrc := hide (Rw.src (P := Tryz.prog) Tryz.underlying25 gR hone)
        obtain ⟨na, nc, hnv⟩ := Rw.shape gR
        have hnl := hide (rfl : nm.length = nm.length)
        rw [hnv] at g2 HSrc
        clear hcells hcmp HP HE hO ho gR hsame hone
        go_wp2_with (first | (go_at_call 143; refine HEs.out.mono ?_; rintro e wx ⟨rfl, rfl⟩) | (at_builtin; refine wpList_append_rw wr rfl (.tmp 20) (.tmp 24) 25 25 rfl 9 _ 1 16 Tryz.underlying25 infoStr rfl (by omega) (.slice none 0 0) 0 [] rfl (Rw.nil _ _ _) (.slice na nm.length nc) nm.length (nm.map Value.string) rfl HSrc.out ?_ ?_))
        · omega
        intro v2 w2 r2 k2 o2
        have hb2 : Below w.heap.size w w2 := hb.trans ((k2.toBelow (fun k hk e => by simp [Value.ownBlock] at e) (Nat.le_refl _)).mono hb.size)
        have hF2 : Fresh w.heap.size v2 := fun k hk => by
          rcases o2 with o2 | ⟨j, e1, e2⟩
          · rw [o2] at hk; simp [Value.ownBlock] at hk
          · rw [e2] at hk; injection hk with hk
            have := hb.size
            omega
        try rw [Nat.zero_add, List.nil_append] at r2
        obtain ⟨a3, c3, rfl⟩ := Rw.shape r2
        have HO2 : Hid (i < i + 1 → Rw w2 9 1 (.slice a3 nm.length c3) nm.length (nm.map Value.string) ∧ Fresh w.heap.size (.slice a3 nm.length c3)) := fun _ => ⟨r2, hF2⟩
        clear r2
        go_wp2
        exact ⟨⟨i + 1, by omega, by simp, hb2, (fun h => by omega), HO2, _, _, _, rfl⟩, by simp [intOf]; omega⟩
      · have hneq := hcmp hie
        have ho' : i + 1 ≤ e → Value.slice oa ok oc = .slice none 0 0 := fun h => ho (by omega)
        have HO2 : Hid (e < i + 1 → Rw wr 9 1 (.slice oa ok oc) nm.length (nm.map Value.string) ∧ Fresh w.heap.size (.slice oa ok oc)) := fun h => hO.out (by omega)
        have HO' := hide ho'
        clear hcells hcmp HP HE hO ho ho' hsame
        generalize lbs i = x at *
        generalize lbs e = y at *
        go_wp2
        exact ⟨⟨i + 1, by omega, by simp, hb, HO'.out, HO2, _, _, _, rfl⟩, by simp [intOf]; omega⟩
    · obtain ⟨gO, gF⟩ := hO.out (by omega)
      have h1 : ¬ ((i : Int) < (n : Int)) := by omega
      have hbb := HB.out.below hb hlt
      have fz := hbb.frozen o
      have HD1 : Hid (Calls Tryz.prog 193 #[.slice a0 n e0, .func (.func 143) #[] #[.pointer (some ⟨g, 0, none⟩)]] wr
          fun r w' => ∃ la lc, r = .returned (.slice la (n - 1) lc) ∧ Rw w' 173 1 (.slice la (n - 1) lc) (n - 1) (ptrs (lrem lbs e) (n - 1)) ∧ (Value.slice la (n - 1) lc).ownBlock = (Value.slice a0 n e0).ownBlock ∧ Kept (fun k => (Value.slice a0 n e0).ownBlock = some k) wr w' ∧ Blk w' db t cs ∧ w'.cell? ⟨db, o, none⟩ = some (.slice a0 n e0) ∧ w'.frozen? ⟨db, o, none⟩ = false ∧ Rw w' 9 1 (.slice oa ok oc) nm.length (nm.map Value.string)) := by
        refine (HD.out wr hb).mono ?_
        rintro e w' ⟨lv', q1, q2, q3, q4⟩
        obtain ⟨la, lc, rfl⟩ := Rw.shape q2
        have hb' := hbb.kept q4 hne
        refine ⟨la, lc, q1, q2, q3, q4, hb', q4.cell d0 (fun e => hne e), hb'.frozen o, Rw.kept gO q4 (fun k hk e => ?_)⟩
        exact Rw.ne2 (Rw.below HRw.out hb) gO (by decide) e hk
      clear HP HE hcells ho hO gO HD
      go_wp2_with (go_at_call 193; refine HD1.out.mono ?_; rintro e w2 ⟨la, lc, rfl, r2, o2, k2, b2, c2, f2, g2⟩)
      go_ret
      have KS : Kept (fun k => k = db) w2 (w2.setCell ⟨db, o, none⟩ (.slice la (n - 1) lc)) := (Kept.refl _ _).set _ _ (fun _ => rfl)
      refine ⟨_, _, rfl, Rw.kept g2 KS (fun k hk e => by subst e; exact Rw.ne g2 b2 (Ne.symm ht2) hk), gF, b2.set o _, Rw.kept r2 KS (fun k hk e => by subst e; exact Rw.ne r2 b2 (Ne.symm ht1) hk), o2, ?_⟩
      exact ((Kept.ofBelow hb).next k2 (fun _ _ h => .inr h)).next KS (fun _ _ h => .inl h)

set_option maxRecDepth 100000 in
set_option maxHeartbeats 1000000 in
/-- a lease ends -/
theorem end_lease (db o n e : Nat) (t : TypeId) (cs : Array Value) (lv : Value) (lbs : Nat → Nat) (les : Nat → Le) (nvs : Nat → Value) (w : World) (hB : Blk w db t cs) (ht1 : t ≠ 173) (ht2 : t ≠ 9) (hc : cs[o]? = some lv)
    (hR : Rw w 173 1 lv n (ptrs lbs n)) (he : e < n) (hd : ∀ i, i < n → i ≠ e → lbs i ≠ lbs e) (hL : ∀ i, i < n → Lm w (lbs i) (les i) (nvs i)) (hn : n ≤ 100) (hnm : (les e).names.length ≤ 1000) :
    Calls Tryz.prog 96 #[.pointer (some ⟨db, o, none⟩), .pointer (some ⟨lbs e, 0, none⟩)] w fun r w' => Ended w db o t cs lv lbs n e (les e).names r w' := by
  have hA := Below.alloc (Below.refl w.heap.size w) (Nat.le_refl _) (.cells #[.pointer (some ⟨lbs e, 0, none⟩)] 173)
  have HC : Hid (Calls Tryz.prog 142 #[.pointer (some ⟨db, o, none⟩), .func (.func 143) #[] #[.pointer (some ⟨w.heap.size, 0, none⟩)]] (w.alloc (.cells #[.pointer (some ⟨lbs e, 0, none⟩)] 173)) fun r w' => ∃ v, r = .returned v ∧ Ended w db o t cs lv lbs n e (les e).names r w') := by
    refine (endAll_any db o w.heap.size n e t cs lv lbs les nvs _ (hB.below hA hB.lt) ht1 ht2 hc ((Blk.new w 173 #[.pointer (some ⟨lbs e, 0, none⟩)]).cell 0) (fun h => by have := Rw.lt hR h; omega) (Rw.below hR hA) he hd (fun i hi => (hL i hi).below hA) hn hnm).mono ?_
    rintro r w' ⟨ov, lv', q1, q2, q3, q4, q5, q6, q7⟩
    exact ⟨ov, q1, ov, lv', q1, q2, q3.mono hA.size, q4, q5, q6, (Kept.ofBelow hA).next q7 (fun _ _ h => h)⟩
  clear hB hc hR hd hL hnm
  generalize (les e).names = nm at *
  generalize hx : lbs e = x at *
  go_enter Tryz.func96, Tryz.ntmps96
  go_wp2_with (go_at_call 142; refine HC.out.mono ?_; rintro r w1 ⟨v, rfl, hE⟩)
  go_ret
  exact hE
end Go.Proofs.YthpmcilljbmoiaaGreatDoor
namespace Go.Proofs.YthpmcilljbmoiaaGreatDoor
open Go.RowKit

/-- of F's blocks of type t, S has only such as P tells -/
def Onl (w : World) (F S : Nat → Prop) (t : TypeId) (P : Nat → Prop) : Prop := ∀ k cs, F k → Blk w k t cs → S k → P k
section
variable {w w' : World} {F S : Nat → Prop} {t : TypeId} {P : Nat → Prop}
theorem Onl.blk {b : Nat} {t' : TypeId} {cs' : Array Value} (h : Blk w b t' cs') (ht : t' ≠ t) : Onl w F (fun k => k = b) t P := fun _ _ _ hb e => absurd e.symm (h.ne hb ht)
theorem Onl.own {e : TypeId} {sz n : Nat} {v : Value} {xs : List Value} (h : Rw w e sz v n xs) (ht : e ≠ t) : Onl w F (fun k => v.ownBlock = some k) t P := fun _ _ _ hb e => absurd e (Rw.ne h hb ht)
theorem Onl.or {S' : Nat → Prop} (h : Onl w F S t P) (h' : Onl w F S' t P) : Onl w F (fun k => S k ∨ S' k) t P := fun k cs hf hb e => e.elim (h k cs hf hb) (h' k cs hf hb)
theorem Onl.self : Onl w F P t P := fun _ _ _ _ h => h
theorem Onl.dis (h : ∀ k, F k → ¬ S k) : Onl w F S t P := fun k _ hf _ hs => absurd hs (h k hf)
theorem Onl.mono {Q : Nat → Prop} (h : Onl w F S t P) (hq : ∀ k, P k → Q k) : Onl w F S t Q := fun k cs hf hb hs => hq k (h k cs hf hb hs)
end
theorem Rw.blk {w : World} {e : TypeId} {sz n : Nat} {v : Value} {xs : List Value} (h : Rw w e sz v n xs) {k : Nat} (hk : v.ownBlock = some k) : ∃ cs, Blk w k e cs := by
  obtain ⟨rfl, rfl, rfl⟩ | ⟨b, off, cap, cur, rfl, hb, _⟩ := h
  · simp [Value.ownBlock] at hk
  · simp [Value.ownBlock] at hk; subst hk; exact ⟨_, hb⟩
theorem Blk.onl {w w' : World} {F S : Nat → Prop} {b : Nat} {t : TypeId} {cs : Array Value} (h : Blk w b t cs) (hk : Kept S w w') (hF : F b) (ho : Onl w F S t (fun _ => False)) : Blk w' b t cs := h.kept hk (fun e => ho b cs hF h e)
theorem Rw.onl {w w' : World} {F S : Nat → Prop} {e : TypeId} {sz n : Nat} {v : Value} {xs : List Value} (h : Rw w e sz v n xs) (hk : Kept S w w') (hF : In F v) (ho : Onl w F S e (fun _ => False)) : Rw w' e sz v n xs := Rw.kept h hk (fun k hkk e => by
  obtain ⟨cs, hb⟩ := Rw.blk h hkk
  exact ho k cs (hF k hkk) hb e)
/-- f, at j x -/
def upd {α : Type} (f : Nat → α) (j : Nat) (x : α) : Nat → α := fun i => if i = j then x else f i
theorem upd_same {α : Type} (f : Nat → α) (j : Nat) (x : α) : upd f j x j = x := if_pos rfl
theorem upd_other {α : Type} (f : Nat → α) (j : Nat) (x : α) (i : Nat) (h : i ≠ j) : upd f j x i = f i := if_neg h

/-- the bytes that are held, those that have pins -/
def heldN (l : List Bl) : Nat := (l.map fun b => b.bs.size).sum
def pinF (b : Bl) : Nat := if b.pn = 0 then 0 else b.bs.size
def pinN (l : List Bl) : Nat := (l.map pinF).sum
theorem sum_set (f : Bl → Nat) : ∀ (l : List Bl) (i : Nat) (b : Bl) (h : i < l.length), ((l.set i b).map f).sum + f l[i] = (l.map f).sum + f b
  | [], i, b, h => by simp at h
  | a :: l, 0, b, h => by simp only [List.set_cons_zero, List.map_cons, List.sum_cons, List.getElem_cons_zero]; omega
  | a :: l, i + 1, b, h => by
    have := sum_set f l i b (by simpa using h)
    simp only [List.set_cons_succ, List.map_cons, List.sum_cons, List.getElem_cons_succ]
    omega
theorem pin_le : ∀ l : List Bl, pinN l ≤ heldN l
  | [] => Nat.le_refl _
  | a :: l => by
    have := pin_le l
    simp only [pinN, heldN, List.map_cons, List.sum_cons, pinF] at *
    split <;> omega
theorem held_app (l : List Bl) (b : Bl) : heldN (l ++ [b]) = heldN l + b.bs.size := by simp [heldN]
theorem pin_app (l : List Bl) (nm bs : ByteArray) (mk : Bool) : pinN (l ++ [⟨nm, bs, mk, 0⟩]) = pinN l := by simp [pinN, pinF]
theorem held_marked (l : List Bl) (i : Nat) (h : i < l.length) : heldN (marked l i h) = heldN l := by
  have := sum_set (fun b => b.bs.size) l i { l[i] with mark := true } h
  exact Nat.add_right_cancel this
theorem pin_marked (l : List Bl) (i : Nat) (h : i < l.length) : pinN (marked l i h) = pinN l := by
  have := sum_set pinF l i { l[i] with mark := true } h
  unfold pinN marked
  have e : pinF { l[i] with mark := true } = pinF l[i] := rfl
  omega
theorem held_pinsAt (l : List Bl) (i : Nat) (h : i < l.length) (p : Nat) : heldN (pinsAt l i h p) = heldN l := by
  have := sum_set (fun b => b.bs.size) l i { l[i] with pn := p } h
  exact Nat.add_right_cancel this
theorem pin_more (l : List Bl) (i : Nat) (h : i < l.length) : (pinN (pinsAt l i h (l[i].pn + 1)) : Int) = (pinN l : Int) + pinDelta l i h := by
  have := sum_set pinF l i { l[i] with pn := l[i].pn + 1 } h
  unfold pinN pinsAt pinDelta
  have e : pinF { l[i] with pn := l[i].pn + 1 } = l[i].bs.size := if_neg (by simp)
  by_cases h0 : l[i].pn = 0
  · have e2 : pinF l[i] = 0 := if_pos h0
    rw [if_pos h0]
    omega
  · have e2 : pinF l[i] = l[i].bs.size := if_neg h0
    rw [if_neg h0]
    omega
theorem pin_less (l : List Bl) (i : Nat) (h : i < l.length) (hp : 0 < l[i].pn) : (pinN (pinsAt l i h (l[i].pn - 1)) : Int) = (pinN l : Int) - unpinDelta l i h := by
  have := sum_set pinF l i { l[i] with pn := l[i].pn - 1 } h
  unfold pinN pinsAt unpinDelta
  have e2 : pinF l[i] = l[i].bs.size := if_neg (by omega)
  by_cases h1 : l[i].pn = 1
  · have e : pinF { l[i] with pn := l[i].pn - 1 } = 0 := if_pos (show l[i].pn - 1 = 0 by omega)
    rw [if_pos h1]
    omega
  · have e : pinF { l[i] with pn := l[i].pn - 1 } = l[i].bs.size := if_neg (show ¬ l[i].pn - 1 = 0 by omega)
    rw [if_neg h1]
    omega

/-- all shards of a depot -/
structure ShF (w : World) (F : Nat → Prop) (m : Nat) (sh : Nat → Nat) (bvs : Nat → Value) (shs : Nat → List Bl) : Prop where
  at_ : ∀ j, j < m → Sh w (sh j) (shs j) 4000 (heldN (shs j)) (pinN (shs j)) (bvs j)
  inj : ∀ i j, i < m → j < m → i ≠ j → sh i ≠ sh j
  dis : ∀ i j, i < m → j < m → i ≠ j → ∀ k, (bvs i).ownBlock = some k → (bvs j).ownBlock ≠ some k
  inS : ∀ j, j < m → F (sh j)
  inB : ∀ j, j < m → In F (bvs j)
section
variable {w w' : World} {F S : Nat → Prop} {m : Nat} {sh : Nat → Nat} {bvs : Nat → Value} {shs : Nat → List Bl}
theorem ShF.kept (h : ShF w F m sh bvs shs) (hk : Kept S w w') (h1 : Onl w F S 123 (fun _ => False)) (h2 : Onl w F S 186 (fun _ => False)) : ShF w' F m sh bvs shs :=
  ⟨fun j hj => ⟨(h.at_ j hj).1.onl hk (h.inS j hj) h1, Rw.onl (h.at_ j hj).2 hk (h.inB j hj) h2⟩, h.inj, h.dis, h.inS, h.inB⟩
theorem ShF.wider {F' : Nat → Prop} (h : ShF w F m sh bvs shs) (hF : ∀ k, F k → F' k) : ShF w F' m sh bvs shs := ⟨h.at_, h.inj, h.dis, fun j hj => hF _ (h.inS j hj), fun j hj k hk => hF k (h.inB j hj k hk)⟩
theorem ShF.put (h : ShF w F m sh bvs shs) (j : Nat) (hj : j < m) (l' : List Bl) (bv' : Value) (hk : Kept S w w') (h1 : Onl w F S 123 (fun k => k = sh j)) (h2 : Onl w F S 186 (fun k => (bvs j).ownBlock = some k))
    (hs : Sh w' (sh j) l' 4000 (heldN l') (pinN l') bv') (hb : Home w (bvs j) bv') : ShF w' (ext F w w') m sh (upd bvs j bv') (upd shs j l') := by
  refine ⟨fun i hi => ?_, h.inj, fun i i' hi hi' hne k hkk => ?_, fun i hi => .inl (h.inS i hi), fun i hi => ?_⟩
  · by_cases hij : i = j
    · subst hij; rw [upd_same, upd_same]; exact hs
    · rw [upd_other _ _ _ _ hij, upd_other _ _ _ _ hij]
      refine ⟨(h.at_ i hi).1.kept hk (fun e => h.inj i j hi hj hij (h1 _ _ (h.inS i hi) (h.at_ i hi).1 e)), Rw.kept (h.at_ i hi).2 hk (fun k hkk e => ?_)⟩
      obtain ⟨cs, hb'⟩ := Rw.blk (h.at_ i hi).2 hkk
      exact h.dis i j hi hj hij k hkk (h2 k cs (h.inB i hi k hkk) hb' e)
  · by_cases hij : i = j
    · subst hij
      rw [upd_same] at hkk
      rw [upd_other _ _ _ _ (Ne.symm hne)]
      rcases hb with hb | ⟨q, q1, q2⟩
      · exact h.dis i i' hi hi' hne k (hb ▸ hkk)
      · rw [q2] at hkk; injection hkk with hkk
        intro e
        have := Rw.lt (h.at_ i' hi').2 e
        omega
    · rw [upd_other _ _ _ _ hij] at hkk
      by_cases hij' : i' = j
      · subst hij'
        rw [upd_same]
        intro e
        have := Rw.lt (h.at_ i hi).2 hkk
        exact h.dis i i' hi hi' hne k hkk (hb.old k this e)
      · rw [upd_other _ _ _ _ hij']
        exact h.dis i i' hi hi' hne k hkk
  · by_cases hij : i = j
    · subst hij; rw [upd_same]; exact In.home (h.inB i hi) hb hs.2
    · rw [upd_other _ _ _ _ hij]; exact (h.inB i hi).ext _ _
end

/-- all leases of a depot -/
structure LeF (w : World) (F : Nat → Prop) (n : Nat) (lbs : Nat → Nat) (nvs : Nat → Value) (les : Nat → Le) : Prop where
  at_ : ∀ i, i < n → Lm w (lbs i) (les i) (nvs i)
  inj : ∀ i j, i < n → j < n → i ≠ j → lbs i ≠ lbs j
  dis : ∀ i j, i < n → j < n → i ≠ j → ∀ k, (nvs i).ownBlock = some k → (nvs j).ownBlock ≠ some k
  inL : ∀ i, i < n → F (lbs i)
  inN : ∀ i, i < n → In F (nvs i)
section
variable {w w' : World} {F S : Nat → Prop} {n : Nat} {lbs : Nat → Nat} {nvs : Nat → Value} {les : Nat → Le}
theorem LeF.kept (h : LeF w F n lbs nvs les) (hk : Kept S w w') (h1 : Onl w F S 273 (fun _ => False)) (h2 : Onl w F S 9 (fun _ => False)) : LeF w' F n lbs nvs les :=
  ⟨fun j hj => ⟨(h.at_ j hj).1.onl hk (h.inL j hj) h1, Rw.onl (h.at_ j hj).2 hk (h.inN j hj) h2⟩, h.inj, h.dis, h.inL, h.inN⟩
theorem LeF.wider {F' : Nat → Prop} (h : LeF w F n lbs nvs les) (hF : ∀ k, F k → F' k) : LeF w F' n lbs nvs les := ⟨h.at_, h.inj, h.dis, fun j hj => hF _ (h.inL j hj), fun j hj k hk => hF k (h.inN j hj k hk)⟩
theorem LeF.put (h : LeF w F n lbs nvs les) (e : Nat) (he : e < n) (x' : Le) (nv' : Value) (hk : Kept S w w') (h1 : Onl w F S 273 (fun k => k = lbs e)) (h2 : Onl w F S 9 (fun k => (nvs e).ownBlock = some k))
    (hs : Lm w' (lbs e) x' nv') (hb : Home w (nvs e) nv') : LeF w' (ext F w w') n lbs (upd nvs e nv') (upd les e x') := by
  refine ⟨fun i hi => ?_, h.inj, fun i i' hi hi' hne k hkk => ?_, fun i hi => .inl (h.inL i hi), fun i hi => ?_⟩
  · by_cases hij : i = e
    · subst hij; rw [upd_same, upd_same]; exact hs
    · rw [upd_other _ _ _ _ hij, upd_other _ _ _ _ hij]
      refine ⟨(h.at_ i hi).1.kept hk (fun q => h.inj i e hi he hij (h1 _ _ (h.inL i hi) (h.at_ i hi).1 q)), Rw.kept (h.at_ i hi).2 hk (fun k hkk q => ?_)⟩
      obtain ⟨cs, hb'⟩ := Rw.blk (h.at_ i hi).2 hkk
      exact h.dis i e hi he hij k hkk (h2 k cs (h.inN i hi k hkk) hb' q)
  · by_cases hij : i = e
    · subst hij
      rw [upd_same] at hkk
      rw [upd_other _ _ _ _ (Ne.symm hne)]
      rcases hb with hb | ⟨q, q1, q2⟩
      · exact h.dis i i' hi hi' hne k (hb ▸ hkk)
      · rw [q2] at hkk; injection hkk with hkk
        intro q
        have := Rw.lt (h.at_ i' hi').2 q
        omega
    · rw [upd_other _ _ _ _ hij] at hkk
      by_cases hij' : i' = e
      · subst hij'
        rw [upd_same]
        intro q
        have := Rw.lt (h.at_ i hi).2 hkk
        exact h.dis i i' hi hi' hne k hkk (hb.old k this q)
      · rw [upd_other _ _ _ _ hij']
        exact h.dis i i' hi hi' hne k hkk
  · by_cases hij : i = e
    · subst hij; rw [upd_same]; exact In.home (h.inN i hi) hb hs.2
    · rw [upd_other _ _ _ _ hij]; exact (h.inN i hi).ext _ _
theorem LeF.add (h : LeF w F n lbs nvs les) (lb : Nat) (x : Le) (hlb : w.heap.size ≤ lb) (hs : Lm w' lb x (.slice none 0 0)) (hk : LeF w' F n lbs nvs les) : LeF w' (ext F w w') (n + 1) (upd lbs n lb) (upd nvs n (.slice none 0 0)) (upd les n x) := by
  have ho : ∀ i, i < n + 1 → i ≠ n → i < n := fun i h1 h2 => by omega
  refine ⟨fun i hi => ?_, fun i j hi hj hne => ?_, fun i j hi hj hne k hkk => ?_, fun i hi => ?_, fun i hi => ?_⟩
  · by_cases hin : i = n
    · subst hin; rw [upd_same, upd_same, upd_same]; exact hs
    · rw [upd_other _ _ _ _ hin, upd_other _ _ _ _ hin, upd_other _ _ _ _ hin]; exact hk.at_ i (ho i hi hin)
  · by_cases hin : i = n
    · subst hin
      rw [upd_same, upd_other _ _ _ _ (Ne.symm hne)]
      have := (h.at_ j (ho j hj (Ne.symm hne))).1.lt
      omega
    · rw [upd_other _ _ _ _ hin]
      by_cases hjn : j = n
      · subst hjn
        rw [upd_same]
        have := (h.at_ i (ho i hi hin)).1.lt
        omega
      · rw [upd_other _ _ _ _ hjn]; exact h.inj i j (ho i hi hin) (ho j hj hjn) hne
  · by_cases hin : i = n
    · subst hin; rw [upd_same] at hkk; simp [Value.ownBlock] at hkk
    · rw [upd_other _ _ _ _ hin] at hkk
      by_cases hjn : j = n
      · subst hjn; rw [upd_same]; simp [Value.ownBlock]
      · rw [upd_other _ _ _ _ hjn]; exact h.dis i j (ho i hi hin) (ho j hj hjn) hne k hkk
  · by_cases hin : i = n
    · subst hin; rw [upd_same]; exact .inr ⟨hlb, hs.1.lt⟩
    · rw [upd_other _ _ _ _ hin]; exact .inl (h.inL i (ho i hi hin))
  · by_cases hin : i = n
    · subst hin; rw [upd_same]; exact fun k hk => by simp [Value.ownBlock] at hk
    · rw [upd_other _ _ _ _ hin]; exact (h.inN i (ho i hi hin)).ext _ _
/-- without the e-th -/
def remF {α : Type} (f : Nat → α) (e p : Nat) : α := if p < e then f p else f (p + 1)
theorem LeF.rem (h : LeF w F n lbs nvs les) (e : Nat) (he : e < n) : LeF w F (n - 1) (lrem lbs e) (remF nvs e) (remF les e) := by
  have key : ∀ p, p < n - 1 → ∃ q, q < n ∧ lrem lbs e p = lbs q ∧ remF nvs e p = nvs q ∧ remF les e p = les q ∧ q = if p < e then p else p + 1 := fun p hp => by
    unfold lrem remF
    by_cases hpe : p < e
    · simp only [if_pos hpe]; exact ⟨p, by omega, rfl, rfl, rfl, rfl⟩
    · simp only [if_neg hpe]; exact ⟨p + 1, by omega, rfl, rfl, rfl, rfl⟩
  refine ⟨fun p hp => ?_, fun p p' hp hp' hne => ?_, fun p p' hp hp' hne k hkk => ?_, fun p hp => ?_, fun p hp => ?_⟩
  · obtain ⟨q, q1, q2, q3, q4, _⟩ := key p hp
    rw [q2, q3, q4]; exact h.at_ q q1
  · obtain ⟨q, q1, q2, _, _, q5⟩ := key p hp
    obtain ⟨r, r1, r2, _, _, r5⟩ := key p' hp'
    rw [q2, r2]
    exact h.inj q r q1 r1 (by split at q5 <;> split at r5 <;> omega)
  · obtain ⟨q, q1, _, q3, _, q5⟩ := key p hp
    obtain ⟨r, r1, _, r3, _, r5⟩ := key p' hp'
    rw [q3] at hkk
    rw [r3]
    exact h.dis q r q1 r1 (by split at q5 <;> split at r5 <;> omega) k hkk
  · obtain ⟨q, q1, q2, _⟩ := key p hp
    rw [q2]; exact h.inL q q1
  · obtain ⟨q, q1, _, q3, _⟩ := key p hp
    rw [q3]; exact h.inN q q1
end

/-- what a depot holds -/
structure Dps where
  shs : Nat → List Bl
  n : Nat
  les : Nat → Le
  begun : Nat
  acts : List (ByteArray × ByteArray)
/-- the types of a depot's blocks -/
def dtys : List TypeId := [114, 115, 123, 186, 98, 173, 273, 9, 301]
theorem ne_mem {a t : TypeId} {l : List TypeId} (ht : t ∈ l) (ha : a ∉ l) : a ≠ t := fun e => ha (e ▸ ht)
/-- a depot in memory -/
structure DepX (w : World) (F : Nat → Prop) (db kb m t : Nat) (shv cv lv av : Value) (sh : Nat → Nat) (bvs : Nat → Value) (lbs : Nat → Nat) (nvs : Nat → Value) (D : Dps) : Prop where
  blk : Blk w db 114 #[shv, cv, lv, .int .i64 D.begun, av, .int .i64 0, .int .i64 t]
  shr : Rw w 115 1 shv m (ptrs sh m)
  shf : ShF w F m sh bvs D.shs
  con : Rw w 98 1 cv 1 [.pointer (some ⟨kb, 0, none⟩)]
  ler : Rw w 173 1 lv D.n (ptrs lbs D.n)
  lef : LeF w F D.n lbs nvs D.les
  act : Ac w av D.acts
  inD : F db
  inSh : In F shv
  inC : In F cv
  inL : In F lv
  inA : In F av
  m0 : 0 < m
  m8 : m ≤ 8
section
variable {w w' : World} {F S : Nat → Prop} {db kb m t : Nat} {shv cv lv av : Value} {sh : Nat → Nat} {bvs : Nat → Value} {lbs : Nat → Nat} {nvs : Nat → Value} {D : Dps}
theorem DepX.kept (h : DepX w F db kb m t shv cv lv av sh bvs lbs nvs D) (hk : Kept S w w') (hS : ∀ t, t ∈ dtys → Onl w F S t (fun _ => False)) : DepX w' F db kb m t shv cv lv av sh bvs lbs nvs D :=
  ⟨h.blk.onl hk h.inD (hS _ (by decide)), Rw.onl h.shr hk h.inSh (hS _ (by decide)), h.shf.kept hk (hS _ (by decide)) (hS _ (by decide)), Rw.onl h.con hk h.inC (hS _ (by decide)), Rw.onl h.ler hk h.inL (hS _ (by decide)), h.lef.kept hk (hS _ (by decide)) (hS _ (by decide)), Rw.onl h.act hk h.inA (hS _ (by decide)), h.inD, h.inSh, h.inC, h.inL, h.inA, h.m0, h.m8⟩
theorem DepX.below (h : DepX w F db kb m t shv cv lv av sh bvs lbs nvs D) (hk : Below w.heap.size w w') : DepX w' F db kb m t shv cv lv av sh bvs lbs nvs D := h.kept (Kept.ofBelow (S := fun _ => False) hk) (fun _ _ => Onl.dis (fun _ _ h => h))
theorem DepX.wider {F' : Nat → Prop} (h : DepX w F db kb m t shv cv lv av sh bvs lbs nvs D) (hF : ∀ k, F k → F' k) : DepX w F' db kb m t shv cv lv av sh bvs lbs nvs D :=
  ⟨h.blk, h.shr, h.shf.wider hF, h.con, h.ler, h.lef.wider hF, h.act, hF _ h.inD, fun k hk => hF k (h.inSh k hk), fun k hk => hF k (h.inC k hk), fun k hk => hF k (h.inL k hk), fun k hk => hF k (h.inA k hk), h.m0, h.m8⟩
/-- the blocks that a depot's own doings turn -/
def DS (w : World) (F : Nat → Prop) (n : Nat) (nvs : Nat → Value) : Nat → Prop := fun k => F k ∧ ∃ t cs, Blk w k t cs ∧ t ∈ dtys ∧ (t = 9 → ∃ i, i < n ∧ (nvs i).ownBlock = some k)
theorem Blk.ty {w : World} {b : Nat} {t t' : TypeId} {cs cs' : Array Value} (h : Blk w b t cs) (h' : Blk w b t' cs') : t = t' := Classical.byContradiction fun e => h.ne h' e rfl
/-- it turns no block of another type -/
theorem DS.off {n : Nat} {F' : Nat → Prop} {t : TypeId} {P : Nat → Prop} (ht : t ∉ dtys) : Onl w F' (DS w F n nvs) t P := fun _ _ _ hb ⟨_, _, _, h1, h2, _⟩ => absurd (hb.ty h1 ▸ h2) ht
theorem DepX.shp (h : DepX w F db kb m t shv cv lv av sh bvs lbs nvs D) : ∃ b off cap, Shp w db b off m cap sh := by
  have h0 := h.m0
  obtain ⟨_, h1, _⟩ | ⟨b, off, cap, cur, e, hb, g1, g2, g3, g4, g5⟩ := h.shr
  · omega
  · refine ⟨b, off, cap, ?_, fun k hk => ?_, h.m0, h.m8⟩
    · have := h.blk.cell 0
      rw [this, ← e]
      rfl
    · rw [hb.cell, g5 k (by omega), ptrs_get _ _ _ hk]
end
end Go.Proofs.YthpmcilljbmoiaaGreatDoor
