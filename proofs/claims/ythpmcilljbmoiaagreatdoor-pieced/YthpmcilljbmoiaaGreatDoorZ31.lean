import Derived.Test.YthpmcilljbmoiaaGreatDoorZ29
import Derived.Test.YthpmcilljbmoiaaGreatDoorZMdo
import Derived.Test.YthpmcilljbmoiaaGreatDoorZ06
namespace Go.Proofs.YthpmcilljbmoiaaGreatDoor
open Go.RowKit

theorem getD_at {α : Type} (l : List α) (d : α) {n : Nat} (h : n < l.length) : l.getD n d = l[n] := by
  rw [List.getD_eq_getElem?_getD, List.getElem?_eq_getElem h]; rfl
/-- Get and Put -/
def actF (acts : List (ByteArray × ByteArray)) (key : ByteArray) : Option Nat := acts.findIdx? (fun a => decide (a.1 = key))
theorem actF_none {l : List (ByteArray × ByteArray)} {key : ByteArray} (h : actF l key = none) : actIx l key = -1 := by
  unfold actF at h; unfold actIx; rw [h]
theorem actF_some {l : List (ByteArray × ByteArray)} {key : ByteArray} {i : Nat} (h : actF l key = some i) : actIx l key = i ∧ i < l.length := by
  unfold actF at h
  refine ⟨by unfold actIx; rw [h], ?_⟩
  obtain ⟨hi, _⟩ := List.findIdx?_eq_some_iff_getElem.1 h
  exact hi
def dGet (D : Dps) (key : ByteArray) : Dps × ByteArray := match actF D.acts key with
  | none => (D, b8 0)
  | some i => (D, b8 1 ++ b8 (D.acts.getD i (⟨#[]⟩, ⟨#[]⟩)).2.size ++ (D.acts.getD i (⟨#[]⟩, ⟨#[]⟩)).2)
def actPut (acts : List (ByteArray × ByteArray)) (key val : ByteArray) : List (ByteArray × ByteArray) := match actF acts key with
  | some i => acts.set i ((acts.getD i (⟨#[]⟩, ⟨#[]⟩)).1, val)
  | none => if acts.length < 32 then acts ++ [(key, val)] else acts.tail ++ [(key, val)]
def dPut (D : Dps) (key val : ByteArray) : Dps × ByteArray := ({ D with acts := actPut D.acts key val }, ⟨#[]⟩)
/-- what is asked for, within bounds -/
def OkR : Req → Prop
  | .find id ns t => id < 65536 ∧ 1 ≤ ns.length ∧ ns.length ≤ 16 ∧ (∀ x ∈ ns, x.size = 34) ∧ 1 ≤ t ∧ t ≤ 100
  | .read id ns => id < 65536 ∧ 1 ≤ ns.length ∧ ns.length ≤ 16 ∧ ∀ x ∈ ns, x.size = 34
  | .update id bs => id < 65536 ∧ 1 ≤ bs.length ∧ bs.length ≤ 16 ∧ ∀ b ∈ bs, b.1.size = 34 ∧ b.2.size ≤ 120
  | .get id _ => id < 65536
  | .put id _ val => id < 65536 ∧ val.size ≤ 50
  | .release id l => id < 65536 ∧ l < 4294967296
/-- the next item -/
def itemP (K : List Nat) (m : Nat) (D : Dps) (W : Wps) : Dps × ByteArray := match W.rq with
  | .find _ ns _ => dFind m D (ns.getD W.done ⟨#[]⟩) W.lsd
  | .read _ ns => dRead m D (ns.getD W.done ⟨#[]⟩)
  | .update _ bs => dUpd K m D (bs.getD W.done (⟨#[]⟩, ⟨#[]⟩)).1 (bs.getD W.done (⟨#[]⟩, ⟨#[]⟩)).2
  | .get _ key => dGet D key
  | .put _ key val => dPut D key val
  | .release _ l => dRel m D l
/-- what of the next item is stored at most -/
def Req.lays (q : Req) (d : Nat) : Nat := match q with
  | .update _ bs => (bs.getD d (⟨#[]⟩, ⟨#[]⟩)).2.size
  | _ => 0
def Req.isF : Req → Bool
  | .find _ _ _ => true
  | _ => false
/-- bounds of a request under way -/
structure OkW (m : Nat) (D : Dps) (W : Wps) : Prop where
  rq : OkR W.rq
  ls : W.lsd = true → W.rq.isF = true ∧ 0 < D.n ∧ (D.les (D.n - 1)).names.length < 1000
  bd : W.body.size ≤ 2500
  rm : ∀ j, j < m → heldN (D.shs j) + W.rq.lays W.done ≤ 4000
theorem actTold (D : Dps) (m : Nat) (ho : OkD m D) (key : ByteArray) : (dGet D key).2.size ≤ 52 := by
  unfold dGet
  cases h : actF D.acts key with
  | none => exact Nat.le_of_ble_eq_true rfl
  | some i =>
    obtain ⟨_, hi⟩ := actF_some h
    have := ho.av _ (List.getElem_mem hi)
    simp only [ByteArray.size_append, b8_size, getD_at _ _ hi]
    omega
theorem readTold (D : Dps) (m : Nat) (hm : 0 < m) (ho : OkD m D) (nm : ByteArray) : (dRead m D nm).2.size ≤ 123 := by
  unfold dRead
  have hj := shIx_lt hm nm
  cases hx : ixB (D.shs (shIx m nm)) nm with
  | none => rw [if_neg (by simp)]; exact Nat.le_of_ble_eq_true rfl
  | some i =>
    have hi := ixB_lt _ _ _ hx
    rw [if_pos (show (some i).isSome = true from rfl), bsAt_at hx hi]
    have := (ho.pn _ hj _ (List.getElem_mem hi)).2
    simp only [ByteArray.size_append, b8_size]
    omega
theorem itemTold (K : List Nat) (D : Dps) (m : Nat) (hm : 0 < m) (ho : OkD m D) (W : Wps) : (itemP K m D W).2.size ≤ 123 := by
  have h1 : ∀ k, (b8 k).size = 1 := b8_size
  unfold itemP
  split
  · unfold dFind; split <;> (try split) <;> (show (b8 _).size ≤ 123) <;> rw [h1] <;> omega
  · exact readTold D m hm ho _
  · unfold dUpd; split <;> (try split) <;> (show (b8 _).size ≤ 123) <;> rw [h1] <;> omega
  · exact Nat.le_trans (actTold D m ho _) (by omega)
  · exact Nat.zero_le _
  · unfold dRel; split <;> (show (b8 _).size ≤ 123) <;> rw [h1] <;> omega

section
variable {K : List Nat} {w w' : World} {F G H S : Nat → Prop} {db kb m t : Nat} {shv cv lv av : Value} {sh : Nat → Nat} {bvs : Nat → Value} {lbs : Nat → Nat} {nvs : Nat → Value} {wv gv wk : Value} {s : Pst} {D : Dps}
theorem dget_any (h : DepX w F db kb m t shv cv lv av sh bvs lbs nvs D) (ho : OkD m D) (key : ByteArray) :
    Calls Tryz.prog 136 #[.pointer (some ⟨db, 0, none⟩), .string key] w fun r w' => ∃ v, r = .returned v ∧ Bs w' 5 v (dGet D key).2 ∧ Below w.heap.size w w' ∧ Fresh w.heap.size v := by
  have hac := ho.ac
  unfold dGet
  cases hf : actF D.acts key with
  | none => exact get_none db _ _ av D.acts key w h.blk rfl h.act (by omega) (actF_none hf)
  | some i =>
    obtain ⟨h1, hi⟩ := actF_some hf
    have hv := ho.av _ (List.getElem_mem hi)
    simp only [getD_at _ _ hi]
    exact get_at db _ _ av D.acts key _ i hi w h.blk rfl h.act (by omega) h1 rfl hv
theorem booked_same {o : Nat} {t : TypeId} {cs : Array Value} {acts' : List (ByteArray × ByteArray)} (hB : Blk w db t cs) (ho : cs[o]? = some av) (hne : av.ownBlock ≠ some db) (ha : Ac w' av acts') (hk : Kept (fun k => av.ownBlock = some k) w w') : Booked w db o t cs av acts' w' := by
  refine ⟨av, ?_, ha, hk.mono (fun _ _ h => .inr h), .inl rfl⟩
  have : cs.setIfInBounds o av = cs := by
    obtain ⟨h1, h2⟩ := Array.getElem?_eq_some_iff.1 ho
    apply Array.ext
    · simp
    · intro i h3 h4
      rw [Array.getElem_setIfInBounds]
      split
      · next e => subst e; exact h2.symm
      · rfl
  rw [this]
  exact hB.kept hk hne
theorem dput_any (h : DepX w F db kb m t shv cv lv av sh bvs lbs nvs D) (ho : OkD m D) (key val : ByteArray) :
    Calls Tryz.prog 137 #[.pointer (some ⟨db, 4, none⟩), .string key, .string val] w fun r w' => r = .returned (.tuple #[]) ∧ Booked w db 4 114 #[shv, cv, lv, .int .i64 D.begun, av, .int .i64 0, .int .i64 t] av (actPut D.acts key val) w' := by
  have hac := ho.ac
  unfold actPut
  cases hf : actF D.acts key with
  | some i =>
    obtain ⟨h1, hi⟩ := actF_some hf
    simp only [getD_at _ _ hi]
    refine (bookPut_at db 4 _ _ av D.acts key val i hi w h.blk (h.blk.cell 4) h.act (by omega) h1).mono ?_
    rintro r w' ⟨q1, q2, q3⟩
    exact ⟨q1, booked_same h.blk rfl (Rw.ne h.act h.blk (by decide)) q2 q3⟩
  | none =>
    by_cases hl : D.acts.length < 32
    · simp only [if_pos hl]
      exact bookPut_new db 4 _ _ av D.acts key val w h.blk (by decide) rfl h.act hl (actF_none hf)
    · simp only [if_neg hl]
      have hact := h.act
      have hix := actF_none hf
      generalize D.acts = l at *
      cases l with
      | nil => simp at hl
      | cons x l =>
        exact bookPut_full db 4 _ _ av x l key val w h.blk (by decide) rfl hact (by simp at hl hac ⊢; omega) hix
theorem DepX.booked (h : DepX w F db kb m t shv cv lv av sh bvs lbs nvs D) {acts' : List (ByteArray × ByteArray)} (hB : Booked w db 4 114 #[shv, cv, lv, .int .i64 D.begun, av, .int .i64 0, .int .i64 t] av acts' w') :
    ∃ av', DepX w' (ext F w w') db kb m t shv cv lv av' sh bvs lbs nvs { D with acts := acts' } ∧ Kept F w w' := by
  obtain ⟨av', q1, q2, q3, q4⟩ := hB
  have on : ∀ t, t ≠ 114 → t ≠ 301 → ∀ P, Onl w F (fun k => k = db ∨ av.ownBlock = some k) t P := fun t n1 n2 P => (Onl.blk h.blk (Ne.symm n1)).or (Onl.own h.act (Ne.symm n2))
  refine ⟨av', ⟨by simpa using q1, Rw.onl h.shr q3 h.inSh (on _ (by decide) (by decide) _), (h.shf.kept q3 (on _ (by decide) (by decide) _) (on _ (by decide) (by decide) _)).wider ext_in, Rw.onl h.con q3 h.inC (on _ (by decide) (by decide) _), Rw.onl h.ler q3 h.inL (on _ (by decide) (by decide) _), (h.lef.kept q3 (on _ (by decide) (by decide) _) (on _ (by decide) (by decide) _)).wider ext_in, q2, .inl h.inD, h.inSh.ext _ _, h.inC.ext _ _, h.inL.ext _ _, In.home h.inA q4 q2, h.m0, h.m8⟩, q3.mono (fun k _ e => ?_)⟩
  rcases e with rfl | e
  · exact h.inD
  · exact h.inA k e
theorem ext_mono {w1 : World} (hs : w.heap.size ≤ w1.heap.size) : ∀ k, ext F w1 w' k → ext F w w' k := fun _ hk => hk.elim .inl (fun q => .inr ⟨Nat.le_trans hs q.1, q.2⟩)
theorem ext_more {w2 : World} (hs : w'.heap.size ≤ w2.heap.size) : ∀ k, ext F w w' k → ext F w w2 k := fun _ hk => hk.elim .inl (fun q => .inr ⟨q.1, Nat.lt_of_lt_of_le q.2 hs⟩)
/-- the depot behind the item -/
def DepQ (w : World) (G : Nat → Prop) (db kb m t : Nat) (shv cv : Value) (sh lbs : Nat → Nat) (n : Nat) (D' : Dps) (w' : World) : Prop :=
  w.heap.size ≤ w'.heap.size ∧ ∃ lv' av' bvs' lbs' nvs', DepX w' (ext G w w') db kb m t shv cv lv' av' sh bvs' lbs' nvs' D' ∧ (D'.n = n → lbs' = lbs)
theorem DepQ.kept {n : Nat} {D' : Dps} {w1 w2 : World} (h : DepQ w G db kb m t shv cv sh lbs n D' w1) (hk : Kept S w1 w2) (hS : ∀ k, S k → k < w.heap.size ∧ ¬ G k) : DepQ w G db kb m t shv cv sh lbs n D' w2 := by
  obtain ⟨h0, lv', av', bvs', lbs', nvs', h1, h2⟩ := h
  refine ⟨Nat.le_trans h0 hk.size, lv', av', bvs', lbs', nvs', (h1.kept hk (fun _ _ => Onl.dis (fun k hk hs => ?_))).wider (ext_more hk.size), h2⟩
  obtain ⟨q1, q2⟩ := hS k hs
  rcases hk with hk | hk
  · exact q2 hk
  · omega
theorem DopP.q {n : Nat} {X : Dps × ByteArray} {r : Ending} {w1 w2 : World} (h : DopP w2 G db kb m t shv cv sh lbs n nvs X r w') (hs : w.heap.size ≤ w2.heap.size) (hk : Kept G w1 w2) (hz : w1.heap.size ≤ w2.heap.size) : ∃ v, r = .returned v ∧ Bs w' 5 v X.2 ∧ DepQ w G db kb m t shv cv sh lbs n X.1 w' ∧ Kept G w1 w' ∧ Fresh w1.heap.size v := by
  obtain ⟨v, lv', av', bvs', lbs', nvs', h1, h2, h3, h4, h5, _, h7⟩ := h
  exact ⟨v, h1, h2, ⟨Nat.le_trans hs h4.size, lv', av', bvs', lbs', nvs', h3.wider (ext_mono hs), h7⟩, hk.next h4 (fun _ _ q => q.1), h5.mono hz⟩
theorem DepX.off (h : DepX w F db kb m t shv cv lv av sh bvs lbs nvs D) (hk : Kept S w w') (hS : ∀ k, F k → ¬ S k) : DepX w' F db kb m t shv cv lv av sh bvs lbs nvs D := h.kept hk (fun _ _ => Onl.dis hS)
theorem bs_nil {v : Value} {b : ByteArray} (h : Bs w 5 v b) (hv : v = .slice none 0 0) : b = ⟨#[]⟩ := by
  subst hv
  obtain ⟨_, h1, _⟩ | ⟨_, _, _, _, h1, _⟩ := h
  · exact ByteArray.size_eq_zero_iff.1 h1
  · injection h1 with h1 _ _; cases h1

/-- an item is done -/
theorem mem_item (h : MemY K w F G H db kb m t shv cv lv av sh bvs lbs nvs wv gv wk s) {W : Wps} {wb : Nat} {v bv : Value} (hW : WkX w H wb (lpOf lbs s.D.n (some W)) v bv W)
    (ho : OkD m s.D) (hw : OkW m s.D W) (hd : W.done < W.rq.items) :
    Calls Tryz.prog 92 #[.pointer (some ⟨db, 0, none⟩), .pointer (some ⟨wb, 0, none⟩)] w
      fun r w' => r = .returned (.tuple #[]) ∧ ItemP w G db kb m t shv cv sh lbs s.D.n wb v (lpOf lbs s.D.n (some W)) bv W.done W.body (itemP K m s.D W) w' := by
  have hSw : ¬ G wb := fun q => h.gh _ q hW.inW
  have hSb : ∀ k, bv.ownBlock = some k → ¬ G k := fun k q g => h.gh _ g (hW.inB k q)
  have hgw : ∀ k, G k → ¬ (k = wb) := fun k g e => hSw (e ▸ g)
  have hwl := hW.blk.lt
  have hQ : ∀ D' w1 w2, DepQ w G db kb m t shv cv sh lbs s.D.n D' w1 → Kept (fun k => k = wb ∨ bv.ownBlock = some k) w1 w2 → DepQ w G db kb m t shv cv sh lbs s.D.n D' w2 := fun D' w1 w2 q hk => q.kept hk (fun k e => by
    rcases e with rfl | e
    · exact ⟨hwl, hSw⟩
    · exact ⟨Rw.lt hW.bod e, hSb k e⟩)
  have hfin : ∀ (X : Dps × ByteArray) (w' : World) (bv' : Value), Wl w' wb v (lpOf lbs s.D.n (some W)) ((W.done : Int) + 1) bv' → Bs w' 5 bv' (W.body ++ X.2) → DepQ w G db kb m t shv cv sh lbs s.D.n X.1 w' → Kept (fun k => (k = wb ∨ bv.ownBlock = some k) ∨ G k) w w' → Home w bv bv' → ItemP w G db kb m t shv cv sh lbs s.D.n wb v (lpOf lbs s.D.n (some W)) bv W.done W.body X w' := by
    rintro X w' bv' q1 q2 ⟨_, lv', av', bvs', lbs', nvs', q3, q4⟩ q5 q6
    exact ⟨bv', lv', av', bvs', lbs', nvs', q1, q2, q3, q5, q6, q4⟩
  have htold := itemTold K s.D m h.dep.m0 ho W
  have hbd := hw.bd
  obtain ⟨rq, lsd, done, body⟩ := W
  cases rq with
  | find id ns tt =>
    obtain ⟨a, c, rfl, hr1, hr2⟩ := hW.rq
    obtain ⟨o1, o2, o3, o4, o5, o6⟩ := hw.rq
    have hdl : done < ns.length := hd
    have en : ns.getD done ⟨#[]⟩ = ns[done] := getD_at _ _ hdl
    simp only [itemP, en] at htold ⊢
    refine (doItem_find db wb id ns.length c done tt (lpOf lbs s.D.n (some ⟨.find id ns tt, lsd, done, body⟩)) a bv body (dFind m s.D ns[done] lsd).2 ns G (DepQ w G db kb m t shv cv sh lbs s.D.n (dFind m s.D ns[done] lsd).1) w hW.blk hW.bod rfl hdl (by omega) hr1 (by simp only at hbd; omega) hSw hSb (hQ _) (fun w1 hk1 => ?_)).mono ?_
    · have hd1 := (h.dep.off hk1 hgw).kept ((Kept.refl (fun _ => False) w1).drew) (fun _ _ => Onl.dis (fun _ _ h => h))
      refine (dfind_any hd1 ho ns[done] (o4 _ (List.getElem_mem hdl)) lsd _ rfl (fun q => (hw.ls q).2.1) (fun q => (hw.ls q).2.2)).mono ?_
      intro r w' q
      exact q.q hk1.size (Kept.refl _ _).drew (Nat.le_refl _)
    · rintro r w' ⟨q0, bv', q1, q2, q3, q4, q5⟩
      exact ⟨q0, hfin _ _ _ q1 q2 q3 q4 q5⟩
  | read id ns =>
    obtain ⟨a, c, rfl, hr1, hr2⟩ := hW.rq
    obtain ⟨o1, o2, o3, o4⟩ := hw.rq
    have hdl : done < ns.length := hd
    have en : ns.getD done ⟨#[]⟩ = ns[done] := getD_at _ _ hdl
    have hl : lsd = false := by cases lsd with | false => rfl | true => exact absurd (hw.ls rfl).1 (by simp [Req.isF])
    subst hl
    simp only [itemP, en] at htold ⊢
    refine (doItem_rd db wb id ns.length c done a bv body (dRead m s.D ns[done]).2 ns G (DepQ w G db kb m t shv cv sh lbs s.D.n (dRead m s.D ns[done]).1) w hW.blk hW.bod rfl hdl (by omega) hr1 (by simp only at hbd; omega) hSw hSb (hQ _) (fun w1 hk1 => ?_)).mono ?_
    · refine (dread_any (h.dep.off hk1 hgw) ho ns[done] (o4 _ (List.getElem_mem hdl))).mono ?_
      intro r w' q
      exact q.q hk1.size (Kept.refl _ _) (Nat.le_refl _)
    · rintro r w' ⟨q0, bv', q1, q2, q3, q4, q5⟩
      exact ⟨q0, hfin _ _ _ q1 q2 q3 q4 q5⟩
  | update id bs =>
    obtain ⟨a, c, rfl, hr1, hr2⟩ := hW.rq
    obtain ⟨o1, o2, o3, o4⟩ := hw.rq
    have hdl : done < bs.length := hd
    have en : bs.getD done (⟨#[]⟩, ⟨#[]⟩) = bs[done] := getD_at _ _ hdl
    have hl : lsd = false := by cases lsd with | false => rfl | true => exact absurd (hw.ls rfl).1 (by simp [Req.isF])
    subst hl
    have hrm := hw.rm
    simp only [Req.lays, en] at hrm
    simp only [itemP, en] at htold ⊢
    refine (doItem_upd db wb id bs.length c done a bv body (dUpd K m s.D bs[done].1 bs[done].2).2 bs G (DepQ w G db kb m t shv cv sh lbs s.D.n (dUpd K m s.D bs[done].1 bs[done].2).1) w hW.blk hW.bod rfl hdl (by omega) hr1 (by simp only at hbd; omega) hSw hSb (hQ _) (fun w1 hk1 => ?_)).mono ?_
    · obtain ⟨z1, z2⟩ := o4 _ (List.getElem_mem hdl)
      refine (dupd_any K (h.tb.kept hk1 (fun e => h.nf (e ▸ h.hf _ hW.inW))) (h.dep.off hk1 hgw) ho bs[done].1 bs[done].2 z1 z2 hrm).mono ?_
      intro r w' q
      exact q.q hk1.size (Kept.refl _ _) (Nat.le_refl _)
    · rintro r w' ⟨q0, bv', q1, q2, q3, q4, q5⟩
      exact ⟨q0, hfin _ _ _ q1 q2 q3 q4 q5⟩
  | get id key =>
    have hv : v = getRq id key := hW.rq
    subst hv
    have hd0 : done = 0 := by have : done < 1 := hd; omega
    subst hd0
    have hl : lsd = false := by cases lsd with | false => rfl | true => exact absurd (hw.ls rfl).1 (by simp [Req.isF])
    subst hl
    have hbv := hW.z rfl rfl
    have hb0 : body = ⟨#[]⟩ := bs_nil hW.bod hbv
    subst hbv
    subst hb0
    simp only [itemP] at htold ⊢
    refine (doItem_get db wb id key (dGet s.D key).2 w hW.blk (by omega) (fun w1 hk1 => dget_any (h.dep.off hk1 hgw) ho key)).mono ?_
    rintro r w' ⟨q0, bv', q1, q2, q3, q4⟩
    have e1 : (dGet s.D key).1 = s.D := by unfold dGet; split <;> rfl
    refine ⟨q0, hfin _ _ bv' q1 (by rw [show (⟨#[]⟩ : ByteArray) ++ (dGet s.D key).2 = (dGet s.D key).2 from ByteArray.empty_append]; exact q2) ?_ (q3.mono (fun k _ e => .inl (.inl e))) ?_⟩
    · rw [e1]
      exact ⟨q3.size, lv, av, bvs, lbs, nvs, (h.dep.off q3 hgw).wider ext_in, fun _ => rfl⟩
    · rcases hb : bv'.ownBlock with _ | k
      · exact .inl (by rw [hb]; rfl)
      · exact .inr ⟨k, q4 k hb, hb⟩
  | put id key val =>
    have hv : v = putRq id key val := hW.rq
    subst hv
    have hd0 : done = 0 := by have : done < 1 := hd; omega
    subst hd0
    have hl : lsd = false := by cases lsd with | false => rfl | true => exact absurd (hw.ls rfl).1 (by simp [Req.isF])
    subst hl
    have hbv := hW.z rfl rfl
    have hb0 : body = ⟨#[]⟩ := bs_nil hW.bod hbv
    subst hbv
    subst hb0
    simp only [itemP] at htold ⊢
    refine (doItem_put db wb id key val (fun w1 w2 => Booked w1 db 4 114 #[shv, cv, lv, .int .i64 s.D.begun, av, .int .i64 0, .int .i64 t] av (actPut s.D.acts key val) w2) w hW.blk (fun w1 hk1 hw1 => ?_)).mono ?_
    · have hd1 := h.dep.off hk1 hgw
      refine (dput_any hd1 ho key val).mono ?_
      rintro r w' ⟨q1, q2⟩
      refine ⟨q1, q2, ?_⟩
      obtain ⟨av', _, _, p3, _⟩ := q2
      refine hw1.kept p3 ?_
      rintro (e | e)
      · exact hw1.ne hd1.blk (by decide) e
      · exact Rw.ne hd1.act hw1 (by decide) e
    · rintro r w' ⟨q0, w1, w2, bv', q1, q2, q3, q4, q5, q6⟩
      obtain ⟨av', d1, d2⟩ := (h.dep.off q1 hgw).booked q2
      have hs12 := d2.size
      have hK : Kept (fun k => (k = wb ∨ (Value.slice none 0 0).ownBlock = some k) ∨ G k) w w' := ((q1.mono (fun k _ e => .inl (.inl e))).next d2 (fun k _ e => .inr e)).next q3 (fun k _ e => .inl (.inl e))
      refine ⟨q0, hfin _ _ bv' q4 q5 ?_ hK ?_⟩
      · refine ⟨hK.size, lv, av', bvs, lbs, nvs, ((d1.wider (ext_mono q1.size)).off q3 (fun k g e => ?_)).wider (ext_more q3.size), fun _ => rfl⟩
        rcases g with g | g
        · exact hgw k g e
        · omega
      · rcases hb : bv'.ownBlock with _ | k
        · exact .inl (by rw [hb]; rfl)
        · exact .inr ⟨k, Nat.le_trans (Nat.le_trans q1.size hs12) (q6 k hb), hb⟩
  | release id l =>
    have hv : v = relRq id l := hW.rq
    subst hv
    have hd0 : done = 0 := by have : done < 1 := hd; omega
    subst hd0
    have hl : lsd = false := by cases lsd with | false => rfl | true => exact absurd (hw.ls rfl).1 (by simp [Req.isF])
    subst hl
    simp only [itemP] at htold ⊢
    refine (doItem_rel db wb id l bv body (dRel m s.D l).2 G (DepQ w G db kb m t shv cv sh lbs s.D.n (dRel m s.D l).1) w hW.blk hW.bod (by simp only at hbd; omega) hSw hSb (hQ _) (fun w1 hk1 => ?_)).mono ?_
    · refine (drel_any (h.dep.off hk1 hgw) ho (fun k g => Nat.lt_of_lt_of_le (h.lt k (h.gf k g)) hk1.size) l).mono ?_
      intro r w' q
      obtain ⟨v, p1, p2, p3, p4, _⟩ := q.q (w := w) (w1 := w1) hk1.size (Kept.refl _ _) (Nat.le_refl _)
      exact ⟨v, p1, p2, p3, p4⟩
    · rintro r w' ⟨q0, bv', q1, q2, q3, q4, q5⟩
      exact ⟨q0, hfin _ _ _ q1 q2 q3 q4 q5⟩
end
end Go.Proofs.YthpmcilljbmoiaaGreatDoor
namespace Go.Proofs.YthpmcilljbmoiaaGreatDoor
open Go.RowKit

def Req.kind : Req → Nat
  | .find _ _ _ => 1
  | .read _ _ => 2
  | .update _ _ => 3
  | .get _ _ => 4
  | .put _ _ _ => 5
  | .release _ _ => 6
def Req.num : Req → Nat
  | .find id _ _ => id
  | .read id _ => id
  | .update id _ => id
  | .get id _ => id
  | .put id _ _ => id
  | .release id _ => id
theorem OkR.num {q : Req} (h : OkR q) : q.num < 65536 := by
  cases q with
  | find id ns t => exact h.1
  | read id ns => exact h.1
  | update id bs => exact h.1
  | get id key => exact h
  | put id key val => exact h.1
  | release id l => exact h.1
theorem Req.kind_lt (q : Req) : q.kind < 100 := by cases q <;> (simp only [Req.kind]; omega)
theorem RqX.reply {w : World} {H : Nat → Prop} {v : Value} {q : Req} (h : RqX w H v q) : ∃ T x, v = .iface T x ∧ ∀ w, (method 446 T x "Reply").run Tryz.prog w = .ok (255, .agg #[.int .i64 q.kind, .int .i64 q.num]) w := by
  cases q with
  | find id ns t => obtain ⟨a, c, rfl, _⟩ := h; exact ⟨_, _, rfl, method_find_reply id ns.length c t a⟩
  | read id ns => obtain ⟨a, c, rfl, _⟩ := h; exact ⟨_, _, rfl, method_read_reply id ns.length c a⟩
  | update id bs => obtain ⟨a, c, rfl, _⟩ := h; exact ⟨_, _, rfl, method_upd_reply id bs.length c a⟩
  | get id key => obtain rfl : v = _ := h; exact ⟨_, _, rfl, method_get_reply id key⟩
  | put id key val => obtain rfl : v = _ := h; exact ⟨_, _, rfl, method_put_reply id key val⟩
  | release id l => obtain rfl : v = _ := h; exact ⟨_, _, rfl, method_rel_reply id l⟩
/-- a step does an item, or tells -/
theorem step_item_any (db kb wb : Nat) (q : Req) (v : Value) (d : Nat) (lp : Option Addr) (H : Nat → Prop) (wv gv cl bv : Value) (w : World) (R : Ending → World → Prop) (hq : RqX w H v q) (hl : lp = none ∨ q.isF = true) (hB : Cn w kb wv gv (.pointer (some ⟨wb, 0, none⟩)) cl) (hW : Wl w wb v lp (d : Int) bv) (hd : d < q.items)
    (HD : Hid (∀ w1, Below w.heap.size w w1 → Calls Tryz.prog 92 #[.pointer (some ⟨db, 0, none⟩), .pointer (some ⟨wb, 0, none⟩)] w1 fun r w' => r = .returned (.tuple #[]) ∧ R (.returned (.int .i64 2)) w')) :
    Calls Tryz.prog 49 #[.pointer (some ⟨db, 0, none⟩), .pointer (some ⟨kb, 0, none⟩)] w R := by
  cases q with
  | find id ns t => obtain ⟨a, c, rfl, _⟩ := hq; exact step_list_item db kb wb ns.length c d a lp _ _ wv gv cl bv w R (method_find_items id ns.length c t a) hB hW hd HD
  | read id ns => obtain ⟨a, c, rfl, _⟩ := hq; exact step_list_item db kb wb ns.length c d a lp _ _ wv gv cl bv w R (method_read_items id ns.length c a) hB hW hd HD
  | update id bs => obtain ⟨a, c, rfl, _⟩ := hq; exact step_upd_item db kb wb id bs.length c d a lp _ _ wv gv cl bv w R (method_upd_items id bs.length c a) hB hW hd HD
  | get id key =>
    obtain rfl : v = _ := hq
    obtain rfl : lp = none := hl.resolve_right (by simp [Req.isF])
    obtain rfl : d = 0 := by have : d < 1 := hd; omega
    exact step_item db kb wb _ _ wv gv cl bv w R (method_get_items id key) hB hW HD
  | put id key val =>
    obtain rfl : v = _ := hq
    obtain rfl : lp = none := hl.resolve_right (by simp [Req.isF])
    obtain rfl : d = 0 := by have : d < 1 := hd; omega
    exact step_item db kb wb _ _ wv gv cl bv w R (method_put_items id key val) hB hW HD
  | release id l =>
    obtain rfl : v = _ := hq
    obtain rfl : lp = none := hl.resolve_right (by simp [Req.isF])
    obtain rfl : d = 0 := by have : d < 1 := hd; omega
    exact step_item db kb wb _ _ wv gv cl bv w R (method_rel_items id l) hB hW HD
theorem step_told_any (db kb wb : Nat) (q : Req) (v : Value) (d : Nat) (lp : Option Addr) (H : Nat → Prop) (wv gv cl bv : Value) (w : World) (R : Ending → World → Prop) (hq : RqX w H v q) (hl : lp = none ∨ q.isF = true) (hB : Cn w kb wv gv (.pointer (some ⟨wb, 0, none⟩)) cl) (hW : Wl w wb v lp (d : Int) bv) (hd : d = q.items)
    (HD : Hid (∀ w1, Below w.heap.size w w1 → Calls Tryz.prog 93 #[.pointer (some ⟨db, 0, none⟩), .pointer (some ⟨kb, 0, none⟩)] w1 fun r w' => r = .returned (.tuple #[]) ∧ R (.returned (.int .i64 3)) w')) :
    Calls Tryz.prog 49 #[.pointer (some ⟨db, 0, none⟩), .pointer (some ⟨kb, 0, none⟩)] w R := by
  cases q with
  | find id ns t => obtain ⟨a, c, rfl, _⟩ := hq; exact step_list_told db kb wb ns.length c d a lp _ _ wv gv cl bv w R (method_find_items id ns.length c t a) hB hW hd HD
  | read id ns => obtain ⟨a, c, rfl, _⟩ := hq; exact step_list_told db kb wb ns.length c d a lp _ _ wv gv cl bv w R (method_read_items id ns.length c a) hB hW hd HD
  | update id bs => obtain ⟨a, c, rfl, _⟩ := hq; exact step_upd_told db kb wb id bs.length c d a lp _ _ wv gv cl bv w R (method_upd_items id bs.length c a) hB hW hd HD
  | get id key =>
    obtain rfl : v = _ := hq
    obtain rfl : lp = none := hl.resolve_right (by simp [Req.isF])
    obtain rfl : d = 1 := hd
    exact step_reply db kb wb _ _ wv gv cl bv w R (method_get_items id key) hB hW HD
  | put id key val =>
    obtain rfl : v = _ := hq
    obtain rfl : lp = none := hl.resolve_right (by simp [Req.isF])
    obtain rfl : d = 1 := hd
    exact step_reply db kb wb _ _ wv gv cl bv w R (method_put_items id key val) hB hW HD
  | release id l =>
    obtain rfl : v = _ := hq
    obtain rfl : lp = none := hl.resolve_right (by simp [Req.isF])
    obtain rfl : d = 1 := hd
    exact step_reply db kb wb _ _ wv gv cl bv w R (method_rel_items id l) hB hW HD
/-- a reply has gone out -/
def toldP (s : Pst) (W : Wps) : Pst :=
  ⟨if W.lsd = true then { s.D with les := upd s.D.les (s.D.n - 1) { s.D.les (s.D.n - 1) with given := true, dl := ((0 : Nat) : Int) + (s.D.les (s.D.n - 1)).ttl } } else s.D, { s.C with going := s.C.going ++ frm (W.rq.kind + 128) W.rq.num W.body, work := none }⟩
section
variable {K : List Nat} {w w' : World} {F G H S : Nat → Prop} {db kb m t : Nat} {shv cv lv av : Value} {sh : Nat → Nat} {bvs : Nat → Value} {lbs : Nat → Nat} {nvs : Nat → Value} {wv gv wk : Value} {s : Pst} {D : Dps}
/-- something has gone out, nothing is under way -/
theorem MemY.sent (h : MemY K w F G H db kb m t shv cv lv av sh bvs lbs nvs wv gv wk s) {wG : World} {lv' av' : Value} {bvs' : Nat → Value} {lbs' : Nat → Nat} {nvs' : Nat → Value} {D' : Dps} (hd : DepX wG (ext G w wG) db kb m t shv cv lv' av' sh bvs' lbs' nvs' D') (hk : Kept G w wG)
    {wv' gv' : Value} {go wt : ByteArray} {cl : Bool} (hC : Cn w' kb wv' gv' (.pointer none) (.bool cl)) (hw : Bs w' 5 wv' wt) (hwo : ∀ k, wv'.ownBlock = some k → wv.ownBlock = some k) (hg : Bs w' 5 gv' go) (hk2 : Kept (fun k => k = kb ∨ gv.ownBlock = some k) wG w') (hh : Home wG gv gv') :
    MemX K w' (ext F w w') db kb m t ⟨D', ⟨wt, go, none, cl⟩⟩ ∧ Kept F w w' := by
  have hc := h.con
  have hkF : Kept F w w' := (hk.mono (fun k _ q => h.gf k q)).next hk2 (fun k _ q => by
    rcases q with rfl | q
    · exact h.hf _ hc.inK
    · exact h.hf _ (hc.inG k q))
  have hoff : ∀ k, (k = kb ∨ gv.ownBlock = some k) → k < w.heap.size ∧ ¬ G k := by
    rintro k (rfl | q)
    · exact ⟨hc.blk.lt, fun g => h.gh _ g hc.inK⟩
    · exact ⟨Rw.lt hc.gg q, fun g => h.gh _ g (hc.inG k q)⟩
  refine ⟨h.next (H' := fun k => H k ∨ gv'.ownBlock = some k) (wv' := wv') (gv' := gv') (wk' := .pointer none) hkF ((hd.off hk2 (fun k g q => ?_)).wider (ext_more hk2.size)) ⟨hC, hw, hg, .inl hc.inK, fun k q => .inl (hc.inV k (hwo k q)), fun k q => .inr q, fun k q e => ?_, rfl⟩ ?_, hkF⟩
  · obtain ⟨q1, q2⟩ := hoff k q
    rcases g with g | g
    · exact q2 g
    · omega
  · rcases hh with e2 | ⟨k2, l2, e2⟩
    · rw [e2] at e; exact hc.ap k (hwo k q) e
    · rw [e2] at e; injection e with e; subst e
      have := Rw.lt hc.wt (hwo k2 q)
      have := hk.size
      omega
  · rintro k (q | q)
    · exact .inl q
    · rcases hh with e | ⟨k2, l2, e⟩
      · rw [e] at q; exact .inl (hc.inG k q)
      · have hk2' := q
        rw [e] at q; injection q with q; subst q
        obtain ⟨cs, hb⟩ := Rw.blk hg hk2'
        exact .inr ⟨Nat.le_trans hk.size l2, hb.lt, _, _, hb, .inl (by decide)⟩
theorem lsd_lp {lbs : Nat → Nat} {n : Nat} {W : Wps} (h : W.lsd = false) : lpOf lbs n (some W) = none := by unfold lpOf; simp [h]
theorem OkW.lp {W : Wps} (h : OkW m D W) : lpOf lbs D.n (some W) = none ∨ W.rq.isF = true := by
  cases hl : W.lsd with
  | false => exact .inl (lsd_lp hl)
  | true => exact .inr (h.ls hl).1
/-- the reply -/
theorem mem_reply (h : MemY K w F G H db kb m t shv cv lv av sh bvs lbs nvs wv gv wk s) {W : Wps} {wb : Nat} {v bv : Value} (hwk : wk = .pointer (some ⟨wb, 0, none⟩)) (hW : WkX w H wb (lpOf lbs s.D.n (some W)) v bv W)
    (ho : OkD m s.D) (hw : OkW m s.D W) (hg : s.C.going.size ≤ 200000) :
    Calls Tryz.prog 93 #[.pointer (some ⟨db, 0, none⟩), .pointer (some ⟨kb, 0, none⟩)] w
      fun r w' => r = .returned (.tuple #[]) ∧ MemX K w' (ext F w w') db kb m t (toldP s W) ∧ Kept F w w' := by
  subst hwk
  have hc := h.con
  obtain ⟨T, x, hv, hm⟩ := hW.rq.reply
  subst hv
  have hblk := hW.blk
  cases hl : W.lsd with
  | false =>
    rw [lsd_lp hl] at hblk
    refine (reply_of db kb wb W.rq.kind W.rq.num T x wv gv _ bv _ s.C.going W.body w hm hc.blk hblk hc.gg hW.bod W.rq.kind_lt hw.rq.num hw.bd hg).mono ?_
    rintro r w' ⟨q0, gv', q1, q2, q3, q4⟩
    have hwt : Bs w' 5 wv s.C.wait := hc.wt.kept q3 (fun k q e => by
      rcases e with rfl | e
      · exact bs_ne_cn hc.wt hc.blk (by decide) q
      · exact hc.ap k q e)
    have := h.sent (h.dep.wider (F' := ext G w w) ext_in) (Kept.refl _ _) q1 hwt (fun _ q => q) q2 q3 q4
    unfold toldP
    rw [hl]
    exact ⟨q0, this⟩
  | true =>
    have hlp : lpOf lbs s.D.n (some W) = some ⟨lbs (s.D.n - 1), 0, none⟩ := by unfold lpOf; simp [hl]
    rw [hlp] at hblk
    obtain ⟨_, hn0, _⟩ := hw.ls hl
    have he : s.D.n - 1 < s.D.n := by omega
    have hL := h.dep.lef.at_ _ he
    have hGl := h.dep.lef.inL _ he
    refine (reply_lease db kb wb W.rq.kind W.rq.num (lbs (s.D.n - 1)) ((0 : Nat) : Int) T x wv gv _ bv _ s.C.going W.body (fun k => k = lbs (s.D.n - 1)) (fun wG => Lm wG (lbs (s.D.n - 1)) { s.D.les (s.D.n - 1) with given := true, dl := ((0 : Nat) : Int) + (s.D.les (s.D.n - 1)).ttl } (nvs (s.D.n - 1))) w hm (h.dep.blk.cell 5)
      (give_any _ 0 _ _ w hL (by omega) (ho.ttl _ he)) (fun e => h.gh _ hGl (e ▸ hc.inK)) (fun e => h.gh _ hGl (e ▸ hW.inW)) (fun k q e => h.gh _ hGl (e ▸ hc.inG k q)) (fun k q e => h.gh _ hGl (e ▸ hW.inB k q)) hc.blk hblk hc.gg hW.bod W.rq.kind_lt hw.rq.num hw.bd hg).mono ?_
    rintro r w' ⟨q0, wG, gv', g1, g2, q1, q2, q3, q4⟩
    obtain ⟨d1, d2⟩ := h.dep.lease _ he _ _ g2 (fun k e => .inl e) g1 (.inl rfl)
    have hwt : Bs w' 5 wv s.C.wait := (hc.wt.kept g2 (fun k q e => h.gh _ hGl (e ▸ hc.inV k q))).kept q3 (fun k q e => by
      rcases e with rfl | e
      · exact bs_ne_cn hc.wt hc.blk (by decide) q
      · exact hc.ap k q e)
    have := h.sent d1 (d2.mono (fun k _ q => q.1)) q1 hwt (fun _ q => q) q2 q3 q4
    unfold toldP
    rw [hl]
    exact ⟨q0, this⟩
end
end Go.Proofs.YthpmcilljbmoiaaGreatDoor
namespace Go.Proofs.YthpmcilljbmoiaaGreatDoor
open Go.RowKit

set_option maxRecDepth 100000 in
theorem begin_wait (db kb : Nat) (wv gv cl : Value) (s : ByteArray) (w : World) (hB : Cn w kb wv gv (.pointer none) cl) (hw : Bs w 5 wv s) (hsz : s.size ≤ 6000) (hc : cutF s = none) :
    Calls Tryz.prog 91 #[.pointer (some ⟨db, 0, none⟩), .pointer (some ⟨kb, 0, none⟩)] w
      fun r w' => r = .returned (.int .i64 0) ∧ Below w.heap.size w w' := by
  have HC := hide (cut_any kb wv gv (.pointer none) cl s w hB hw hsz)
  unfold CutP at HC
  rw [hc] at HC
  clear hw hB
  go_enter Tryz.func91, Tryz.ntmps91
  go_wp2_with (go_at_call 128; refine HC.out.mono ?_; rintro e w1 ⟨rfl, k1⟩)
  go_ret
  exact ⟨rfl, k1⟩
set_option maxRecDepth 100000 in
set_option maxHeartbeats 400000 in
theorem begin_ok (db kb : Nat) (wv gv cl : Value) (s inside rest : ByteArray) (q : Req) (S : Nat → Prop) (P : Value → Nat → World → Prop) (w : World) (hB : Cn w kb wv gv (.pointer none) cl) (hw : Bs w 5 wv s) (hsz : s.size ≤ 6000) (hiz : inside.size ≤ 6000) (hc : cutF s = some (inside, rest)) (hp : ps inside = some q) (hSk : ¬ S kb) (hSw : ∀ k, wv.ownBlock = some k → ¬ S k)
    (HK : Hid (∀ v w2, Kept (fun k => k = kb) w w2 → RqV w2 w.heap.size v (some q) → Calls Tryz.prog 132 #[.pointer (some ⟨db, 0, none⟩), v] w2 fun r w' => ∃ wb, r = .returned (.pointer (some ⟨wb, 0, none⟩)) ∧ P v wb w' ∧ Kept S w2 w')) :
    Calls Tryz.prog 91 #[.pointer (some ⟨db, 0, none⟩), .pointer (some ⟨kb, 0, none⟩)] w
      fun r w' => r = .returned (.int .i64 1) ∧ ∃ wv' wb v w3, Cn w' kb wv' gv (.pointer (some ⟨wb, 0, none⟩)) cl ∧ Bs w' 5 wv' rest ∧ wv'.ownBlock = wv.ownBlock ∧ P v wb w3 ∧ Kept (fun k => k = kb) w3 w' ∧ Kept (fun k => k = kb ∨ S k) w w3 ∧ Cn w3 kb wv' gv (.pointer none) cl := by
  have HC := hide (cut_any kb wv gv (.pointer none) cl s w hB hw hsz)
  unfold CutP at HC
  rw [hc] at HC
  have HP : Hid (∀ iv w1, Bs w1 5 iv inside → Calls Tryz.prog 129 #[iv] w1 fun r w' => ∃ v, r = .returned (.tuple #[v, .bool true]) ∧ RqV w' w1.heap.size v (some q) ∧ Below w1.heap.size w1 w') := fun iv w1 hb => by
    have := parse_f iv inside w1 hb hiz
    rw [hp] at this
    exact this
  have hlt := hB.lt
  clear hw hsz hc hp hB
  go_enter Tryz.func91, Tryz.ntmps91
  go_wp2_with (first | (go_at_call 128; refine HC.out.mono ?_; rintro e w1 ⟨iv, wv1, rfl, hB1, b1, i1, k1, o1⟩) | (go_at_call 129; refine (HP.out iv w1 i1).mono ?_; rintro e w2 ⟨v2, rfl, r2, k2⟩) | (go_at_call 132; refine (HK.out v2 w2 (k1.below k2) (r2.mono k1.size)).mono ?_; rintro e w3 ⟨wb, rfl, p3, k3⟩; have hB3 := (hB1.below k2 hB1.lt).kept k3 hSk; have e2 : w3.cell? ⟨kb, 2, none⟩ = some (.pointer none) := hB3.cell 2; have e3 := hB3.frozen 2))
  go_ret
  have hK : Kept (fun k => k = kb) w3 (w3.setCell ⟨kb, 2, none⟩ (.pointer (some ⟨wb, 0, none⟩))) := (Kept.refl _ _).set _ _ (fun _ => rfl)
  have b3 := (b1.below k2).kept k3 (fun k hk => hSw k (o1 ▸ hk))
  have hne := bs_ne_cn b3 hB3 (by decide)
  exact ⟨rfl, wv1, wb, v2, w3, by simpa using hB3.set 2 (.pointer (some ⟨wb, 0, none⟩)), b3.kept hK (fun k hk e => by subst e; exact hne hk), o1, p3, hK, ((k1.below k2).mono (fun _ _ h => .inl h)).next k3 (fun _ _ h => .inr h), hB3⟩

/-- what begins -/
def begP (D : Dps) (q : Req) : Dps × Wps := match q with
  | .find id ns t => if D.n < 20 then ({ D with n := D.n + 1, les := upd D.les D.n ⟨D.begun + 1, t, [], false, 0⟩, begun := D.begun + 1 }, ⟨.find id ns t, true, 0, b8 1 ++ num4b (D.begun + 1) ++ b8 ns.length⟩)
    else (D, ⟨.find id ns t, false, 0, b8 0 ++ num4b 0 ++ b8 ns.length⟩)
  | .read id ns => (D, ⟨.read id ns, false, 0, b8 ns.length⟩)
  | .update id bs => (D, ⟨.update id bs, false, 0, b8 bs.length⟩)
  | .get id key => (D, ⟨.get id key, false, 0, ⟨#[]⟩⟩)
  | .put id key val => (D, ⟨.put id key val, false, 0, ⟨#[]⟩⟩)
  | .release id l => (D, ⟨.release id l, false, 0, ⟨#[]⟩⟩)
theorem RqV.x {w : World} {B : Nat} {v : Value} {q : Req} (h : RqV w B v (some q)) : RqX w (fun k => B ≤ k) v q := by
  cases q with
  | find id ns t => obtain ⟨a, c, e, g1, g2⟩ := h; exact ⟨a, c, e, g1, fun k hk => g2 k hk⟩
  | read id ns => obtain ⟨a, c, e, g1, g2⟩ := h; exact ⟨a, c, e, g1, fun k hk => g2 k hk⟩
  | update id bs => obtain ⟨a, c, e, g1, g2⟩ := h; exact ⟨a, c, e, g1, fun k hk => g2 k hk⟩
  | get id key => exact h
  | put id key val => exact h
  | release id l => exact h
/-- new lists -/
def NewL (B : Nat) (w : World) : Nat → Prop := fun k => B ≤ k ∧ ∃ t cs, Blk w k t cs ∧ (t = 9 ∨ t = 253)
theorem RqX.lst {w : World} {B : Nat} {v : Value} {q : Req} (h : RqX w (fun k => B ≤ k) v q) : RqX w (NewL B w) v q := by
  cases q with
  | find id ns t => obtain ⟨a, c, e, g1, g2⟩ := h; exact ⟨a, c, e, g1, fun k hk => ⟨g2 k hk, by obtain ⟨cs, hb⟩ := Rw.blk g1 hk; exact ⟨_, cs, hb, .inl rfl⟩⟩⟩
  | read id ns => obtain ⟨a, c, e, g1, g2⟩ := h; exact ⟨a, c, e, g1, fun k hk => ⟨g2 k hk, by obtain ⟨cs, hb⟩ := Rw.blk g1 hk; exact ⟨_, cs, hb, .inl rfl⟩⟩⟩
  | update id bs => obtain ⟨a, c, e, g1, g2⟩ := h; exact ⟨a, c, e, g1, fun k hk => ⟨g2 k hk, by obtain ⟨cs, hb⟩ := Rw.blk g1 hk; exact ⟨_, cs, hb, .inr rfl⟩⟩⟩
  | get id key => exact h
  | put id key val => exact h
  | release id l => exact h
section
variable {K : List Nat} {w w' : World} {F G H S : Nat → Prop} {db kb m t : Nat} {shv cv lv av : Value} {sh : Nat → Nat} {bvs : Nat → Value} {lbs : Nat → Nat} {nvs : Nat → Value} {wv gv wk : Value} {s : Pst} {D : Dps}
/-- a lease has begun -/
theorem DepX.leased (h : DepX w F db kb m t shv cv lv av sh bvs lbs nvs D) {tt : Nat} {lv' : Value} (q1 : Blk w' db 114 ((#[shv, cv, lv, .int .i64 D.begun, av, .int .i64 0, .int .i64 t].setIfInBounds 3 (.int .i64 ((D.begun : Int) + 1))).setIfInBounds 2 lv')) (q2 : Rw w' 173 1 lv' (D.n + 1) (ptrs lbs D.n ++ [.pointer (some ⟨w.heap.size, 0, none⟩)]))
    (q3 : Lm w' w.heap.size ⟨D.begun + 1, tt, [], false, 0⟩ (.slice none 0 0)) (q4 : Kept (fun k => k = db ∨ lv.ownBlock = some k) w w') (q5 : Home w lv lv') :
    DepX w' (ext F w w') db kb m t shv cv lv' av sh bvs (upd lbs D.n w.heap.size) (upd nvs D.n (.slice none 0 0)) { D with n := D.n + 1, les := upd D.les D.n ⟨D.begun + 1, tt, [], false, 0⟩, begun := D.begun + 1 } := by
  have on : ∀ t, t ≠ 114 → t ≠ 173 → ∀ P, Onl w F (fun k => k = db ∨ lv.ownBlock = some k) t P := fun t n1 n2 P => (Onl.blk h.blk (Ne.symm n1)).or (Onl.own h.ler (Ne.symm n2))
  have e1 : ptrs (upd lbs D.n w.heap.size) (D.n + 1) = ptrs lbs D.n ++ [.pointer (some ⟨w.heap.size, 0, none⟩)] := by
    rw [ptrs_add lbs _ _ (fun i hi => upd_other _ _ _ _ (by omega)), upd_same]
  refine ⟨by simpa using q1, Rw.onl h.shr q4 h.inSh (on _ (by decide) (by decide) _), (h.shf.kept q4 (on _ (by decide) (by decide) _) (on _ (by decide) (by decide) _)).wider ext_in, Rw.onl h.con q4 h.inC (on _ (by decide) (by decide) _), by rw [e1]; exact q2, h.lef.add _ _ (Nat.le_refl _) q3 (h.lef.kept q4 (on _ (by decide) (by decide) _) (on _ (by decide) (by decide) _)), Rw.onl h.act q4 h.inA (on _ (by decide) (by decide) _), .inl h.inD, h.inSh.ext _ _, h.inC.ext _ _, In.home h.inL q5 q2, h.inA.ext _ _, h.m0, h.m8⟩
/-- the lease that is begun -/
theorem DepX.newest {lb tt : Nat} {lv' : Value} (h : DepX w F db kb m t shv cv lv' av sh bvs (upd lbs D.n lb) (upd nvs D.n (.slice none 0 0)) { D with n := D.n + 1, les := upd D.les D.n ⟨D.begun + 1, tt, [], false, 0⟩, begun := D.begun + 1 }) : Lm w lb ⟨D.begun + 1, tt, [], false, 0⟩ (.slice none 0 0) := by
  have hL : Lm w (upd lbs D.n lb D.n) (upd D.les D.n (⟨D.begun + 1, tt, [], false, 0⟩ : Le) D.n) (upd nvs D.n (.slice none 0 0) D.n) := h.lef.at_ D.n (Nat.lt_succ_self _)
  rw [upd_same, upd_same, upd_same] at hL
  exact hL
theorem tellNew {lb tt bg : Nat} (hbg : bg ≤ 100000) (h : Lm w lb ⟨bg + 1, tt, [], false, 0⟩ (.slice none 0 0)) : Calls Tryz.prog 180 #[.pointer (some ⟨lb, 0, none⟩)] w fun r w' => ∃ v, r = .returned v ∧ Bs w' 5 v (b8 1 ++ num4b (bg + 1)) ∧ Below w.heap.size w w' ∧ Fresh w.heap.size v := by
  have hn : (⟨bg + 1, tt, [], false, 0⟩ : Le).num < 4294967296 := by simp only; omega
  exact tell_some lb ⟨bg + 1, tt, [], false, 0⟩ (.slice none 0 0) w h hn
/-- a request under way, just begun -/
def WorkP (w : World) (G : Nat → Prop) (db kb m t : Nat) (shv cv : Value) (sh : Nat → Nat) (X : Dps × Wps) (v : Value) (wb : Nat) (w' : World) : Prop :=
  ∃ bv lv' av' bvs' lbs' nvs', Wl w' wb v (lpOf lbs' X.1.n (some X.2)) 0 bv ∧ Bs w' 5 bv X.2.body ∧ RqX w' (fun k => w.heap.size ≤ k) v X.2.rq ∧ w.heap.size ≤ wb ∧ Fresh w.heap.size bv ∧ DepX w' (ext G w w') db kb m t shv cv lv' av' sh bvs' lbs' nvs' X.1 ∧ (X.2.rq.sing = true → bv = .slice none 0 0) ∧ (∀ i, i < X.1.n → ∀ k, (nvs' i).ownBlock = some k → k < w.heap.size)
theorem RqX.below {w w' : World} {H : Nat → Prop} {v : Value} {q : Req} (h : RqX w H v q) (hk : Below w.heap.size w w') : RqX w' H v q := h.onl (Kept.ofBelow (S := fun _ => False) hk) (Onl.dis (fun _ _ h => h)) (Onl.dis (fun _ _ h => h))
set_option maxHeartbeats 1000000 in
theorem work_any (h : DepX w G db kb m t shv cv lv av sh bvs lbs nvs D) (hlt : ∀ k, G k → k < w.heap.size) (hn20 : D.n ≤ 20) (hbg : D.begun ≤ 100000) (q : Req) (hq : OkR q) (hkb : ¬ G kb) (v : Value) (w2 : World) (hk2 : Kept (fun k => k = kb) w w2) (hv : RqV w2 w.heap.size v (some q)) :
    Calls Tryz.prog 132 #[.pointer (some ⟨db, 0, none⟩), v] w2 fun r w' => ∃ wb, r = .returned (.pointer (some ⟨wb, 0, none⟩)) ∧ WorkP w G db kb m t shv cv sh (begP D q) v wb w' ∧ Kept G w2 w' := by
  have hd2 := h.off hk2 (fun k g e => hkb (e ▸ g))
  have hx := hv.x
  have hs2 := hk2.size
  have hnv : ∀ i, i < D.n → ∀ k, (nvs i).ownBlock = some k → k < w.heap.size := fun i hi k e => hlt k (h.lef.inN i hi k e)
  have plain : ∀ (W : Wps), W.rq = q → W.lsd = false → ∀ wb w' bv, w2.heap.size ≤ wb → Wl w' wb v none 0 bv → Bs w' 5 bv W.body → Below w2.heap.size w2 w' → Fresh w2.heap.size bv → (q.sing = true → bv = .slice none 0 0) → WorkP w G db kb m t shv cv sh (D, W) v wb w' := fun W e1 e2 wb w' bv g0 g1 g2 g3 g4 g5 =>
    ⟨bv, lv, av, bvs, lbs, nvs, by simp only [lsd_lp e2]; exact g1, g2, by rw [e1]; exact hx.below g3, Nat.le_trans hs2 g0, g4.mono hs2, (hd2.below g3).wider ext_in, by rw [e1]; exact g5, hnv⟩
  cases q with
  | find id ns tt =>
    obtain ⟨a, c, rfl, hr1, hr2⟩ := hv
    obtain ⟨o1, o2, o3, o4, o5, o6⟩ := hq
    have hSl : ∀ k, (k = db ∨ lv.ownBlock = some k) → k < w2.heap.size := by
      rintro k (rfl | e)
      · exact hd2.blk.lt
      · exact Rw.lt hd2.ler e
    have hSG : ∀ k, (k = db ∨ lv.ownBlock = some k) → G k := by
      rintro k (rfl | e)
      · exact h.inD
      · exact h.inL k e
    have hst : ∀ w', Kept (fun k => k = db ∨ lv.ownBlock = some k) w2 w' → RqX w' (fun k => w.heap.size ≤ k) (findRq id ns.length c tt a) (.find id ns tt) := fun w' hk => hx.onl hk ((Onl.blk hd2.blk (by decide)).or (Onl.own hd2.ler (by decide))) ((Onl.blk hd2.blk (by decide)).or (Onl.own hd2.ler (by decide)))
    by_cases hn : D.n < 20
    · have eb : begP D (.find id ns tt) = ({ D with n := D.n + 1, les := upd D.les D.n ⟨D.begun + 1, tt, [], false, 0⟩, begun := D.begun + 1 }, ⟨.find id ns tt, true, 0, b8 1 ++ num4b (D.begun + 1) ++ b8 ns.length⟩) := if_pos hn
      rw [eb]
      refine (work_find db id ns.length c tt a (fun k => k = db ∨ lv.ownBlock = some k) (fun lp w' => ∃ lb lv', lp = some ⟨lb, 0, none⟩ ∧ w2.heap.size ≤ w'.heap.size ∧ DepX w' (fun k => G k ∨ (w2.heap.size < k ∧ k < w'.heap.size)) db kb m t shv cv lv' av sh bvs (upd lbs D.n lb) (upd nvs D.n (.slice none 0 0)) { D with n := D.n + 1, les := upd D.les D.n ⟨D.begun + 1, tt, [], false, 0⟩, begun := D.begun + 1 }) (fun _ => b8 1 ++ num4b (D.begun + 1)) w2 (by omega) hSl
        (fun w1 hb1 hl1 => ?_) (fun lp w1 hQ => ?_) (fun lp w1 w3 hQ hk => ?_) (fun lp => ?_)).mono ?_
      · have hd1 := hd2.below hb1
        refine (begin_lease db 2 D.n D.begun tt lv _ _ _ w1 hd1.blk (by decide) (by decide) rfl rfl hd1.ler hn hbg).mono ?_
        rintro r w' ⟨q0, lv', q1, q2, q3, q4, q5⟩
        refine ⟨_, q0, ⟨w1.heap.size, lv', rfl, Nat.le_trans hb1.size q4.size, (hd1.leased q1 q2 q3 q4 q5).wider (fun k hk => ?_)⟩, q4⟩
        rcases hk with hk | hk
        · exact .inl hk
        · exact .inr ⟨Nat.lt_of_lt_of_le hl1 hk.1, hk.2⟩
      · obtain ⟨lb, lv', rfl, _, hd⟩ := hQ
        exact tellNew hbg hd.newest
      · obtain ⟨lb, lv', e, hz, hd⟩ := hQ
        refine ⟨lb, lv', e, Nat.le_trans hz hk.size, (hd.off hk (fun k g e => ?_)).wider (fun k g => ?_)⟩
        · rcases g with g | g
          · have := hlt k g; omega
          · omega
        · rcases g with g | g
          · exact .inl g
          · exact .inr ⟨g.1, Nat.lt_of_lt_of_le g.2 hk.size⟩
      · show (b8 1 ++ num4b (D.begun + 1)).size ≤ 100
        simp only [num4b, ByteArray.size_append, b8_size]; omega
      · rintro r w' ⟨q0, lp, bv, q1, q2, ⟨lb, lv', rfl, hz, hd⟩, q4, q5⟩
        refine ⟨_, q0, ⟨bv, lv', av, bvs, upd lbs D.n lb, upd nvs D.n (.slice none 0 0), ?_, q2, hst w' q4, hs2, q5.mono hs2, hd.wider (fun k g => ?_), fun e => absurd e (by simp [Req.sing]), fun i hi k e => ?_⟩, q4.mono (fun k _ e => hSG k e)⟩
        · have e4 : lpOf (upd lbs D.n lb) (D.n + 1) (some ⟨.find id ns tt, true, 0, b8 1 ++ num4b (D.begun + 1) ++ b8 ns.length⟩) = some ⟨lb, 0, none⟩ := by
            simp only [lpOf, if_true, Nat.add_sub_cancel]
            rw [upd_same]
          simp only [e4]
          exact q1
        · rcases g with g | g
          · exact .inl g
          · exact .inr ⟨by omega, g.2⟩
        · by_cases hin : i = D.n
          · subst hin; rw [upd_same] at e; simp [Value.ownBlock] at e
          · rw [upd_other _ _ _ _ hin] at e
            exact hnv i (by have : i < D.n + 1 := hi; omega) k e
    · have eb : begP D (.find id ns tt) = (D, ⟨.find id ns tt, false, 0, b8 0 ++ num4b 0 ++ b8 ns.length⟩) := if_neg hn
      rw [eb]
      refine (work_find db id ns.length c tt a (fun k => k = db ∨ lv.ownBlock = some k) (fun lp w' => lp = none ∧ DepX w' G db kb m t shv cv lv av sh bvs lbs nvs D) (fun _ => b8 0 ++ num4b 0) w2 (by omega) hSl
        (fun w1 hb1 hl1 => ?_) (fun lp w1 hQ => ?_) (fun lp w1 w3 hQ hk => ?_) (fun lp => ?_)).mono ?_
      · have hd1 := hd2.below hb1
        refine (begin_full db 2 D.n lv _ _ tt _ w1 hd1.blk rfl hd1.ler (by omega) (by omega)).mono ?_
        rintro r w' ⟨q0, rfl⟩
        exact ⟨_, q0, ⟨rfl, hd1⟩, Kept.refl _ _⟩
      · obtain ⟨rfl, hd⟩ := hQ
        exact tell_none w1
      · exact ⟨hQ.1, hQ.2.off hk (fun k g e => by have := hlt k g; omega)⟩
      · show (b8 0 ++ num4b 0).size ≤ 100
        simp only [num4b, ByteArray.size_append, b8_size]; omega
      · rintro r w' ⟨q0, lp, bv, q1, q2, ⟨rfl, hd⟩, q4, q5⟩
        refine ⟨_, q0, ⟨bv, lv, av, bvs, lbs, nvs, by simp only [lsd_lp]; exact q1, q2, hst w' q4, hs2, q5.mono hs2, hd.wider ext_in, fun e => absurd e (by simp [Req.sing]), hnv⟩, q4.mono (fun k _ e => hSG k e)⟩
  | read id ns =>
    obtain ⟨a, c, rfl, hr1, hr2⟩ := hv
    obtain ⟨o1, o2, o3, o4⟩ := hq
    refine (work_read db id ns.length c a w2 (by omega)).mono ?_
    rintro r w' ⟨q0, bv, q1, q2, q3, q4⟩
    exact ⟨_, q0, plain ⟨.read id ns, false, 0, b8 ns.length⟩ rfl rfl _ _ bv (Nat.le_refl _) q1 q2 q3 q4 (fun e => absurd e (by simp [Req.sing])), Kept.ofBelow q3⟩
  | update id bs =>
    obtain ⟨a, c, rfl, hr1, hr2⟩ := hv
    obtain ⟨o1, o2, o3, o4⟩ := hq
    refine (work_upd db id bs.length c a w2 (by omega)).mono ?_
    rintro r w' ⟨q0, bv, q1, q2, q3, q4⟩
    exact ⟨_, q0, plain ⟨.update id bs, false, 0, b8 bs.length⟩ rfl rfl _ _ bv (Nat.le_refl _) q1 q2 q3 q4 (fun e => absurd e (by simp [Req.sing])), Kept.ofBelow q3⟩
  | get id key =>
    obtain rfl : v = _ := hv
    refine (work_plain db _ _ _ rfl w2 (ta_get_Find id key) (ta_get_Read id key) (ta_get_Update id key)).mono ?_
    rintro r w' ⟨q0, q1, q2⟩
    exact ⟨_, q0, plain ⟨.get id key, false, 0, ⟨#[]⟩⟩ rfl rfl _ _ _ (Nat.le_refl _) q1 (Bs.nil _ _) q2 (fun k e => by simp [Value.ownBlock] at e) (fun _ => rfl), Kept.ofBelow q2⟩
  | put id key val =>
    obtain rfl : v = _ := hv
    refine (work_plain db _ _ _ rfl w2 (ta_put_Find id key val) (ta_put_Read id key val) (ta_put_Update id key val)).mono ?_
    rintro r w' ⟨q0, q1, q2⟩
    exact ⟨_, q0, plain ⟨.put id key val, false, 0, ⟨#[]⟩⟩ rfl rfl _ _ _ (Nat.le_refl _) q1 (Bs.nil _ _) q2 (fun k e => by simp [Value.ownBlock] at e) (fun _ => rfl), Kept.ofBelow q2⟩
  | release id l =>
    obtain rfl : v = _ := hv
    refine (work_rel db id l w2).mono ?_
    rintro r w' ⟨q0, q1, q2⟩
    exact ⟨_, q0, plain ⟨.release id l, false, 0, ⟨#[]⟩⟩ rfl rfl _ _ _ (Nat.le_refl _) q1 (Bs.nil _ _) q2 (fun k e => by simp [Value.ownBlock] at e) (fun _ => rfl), Kept.ofBelow q2⟩
theorem begP_rq (D : Dps) (q : Req) : (begP D q).2.rq = q := by
  cases q <;> simp only [begP]
  split <;> rfl
theorem begP_done (D : Dps) (q : Req) : (begP D q).2.done = 0 := by
  cases q <;> simp only [begP]
  split <;> rfl
/-- begin: a request -/
theorem mem_begin (h : MemY K w F G H db kb m t shv cv lv av sh bvs lbs nvs wv gv wk s) (hw : s.C.work = none) {inside rest : ByteArray} {q : Req} (hn20 : s.D.n ≤ 20) (hbg : s.D.begun ≤ 100000) (hsz : s.C.wait.size ≤ 6000) (hiz : inside.size ≤ 6000) (hc : cutF s.C.wait = some (inside, rest)) (hp : ps inside = some q) (hq : OkR q) :
    Calls Tryz.prog 91 #[.pointer (some ⟨db, 0, none⟩), .pointer (some ⟨kb, 0, none⟩)] w
      fun r w' => r = .returned (.int .i64 1) ∧ MemX K w' (ext F w w') db kb m t ⟨(begP s.D q).1, { s.C with wait := rest, work := some (begP s.D q).2 }⟩ ∧ Kept F w w' := by
  have hC := h.con
  have hcur := hC.cur
  rw [hw] at hcur
  obtain rfl : wk = _ := hcur
  have hkb : ¬ G kb := fun g => h.gh _ g hC.inK
  have hkl := hC.blk.lt
  refine (begin_ok db kb wv gv _ s.C.wait inside rest q G (WorkP w G db kb m t shv cv sh (begP s.D q)) w hC.blk hC.wt hsz hiz hc hp hkb (fun k e g => h.gh _ g (hC.inV k e)) (fun v w2 hk2 hv => work_any h.dep (fun k g => h.lt k (h.gf k g)) hn20 hbg q hq hkb v w2 hk2 hv)).mono ?_
  rintro r w' ⟨q0, wv', wb, v, w3, c1, c2, c3, ⟨bv, lv', av', bvs', lbs', nvs', p1, p2, p3, p4, p5, p6, p7, p8⟩, k4, k5, c4⟩
  have hkF : Kept F w w' := (k5.mono (fun k _ e => by
    rcases e with rfl | e
    · exact h.hf _ hC.inK
    · exact h.gf k e)).next k4 (fun k _ e => e ▸ h.hf _ hC.inK)
  have hs3 := k5.size
  have hs4 := k4.size
  have hd : DepX w' (ext G w w') db kb m t shv cv lv' av' sh bvs' lbs' nvs' (begP s.D q).1 := (p6.off k4 (fun k g e => by
    rcases g with g | g
    · exact hkb (e ▸ g)
    · omega)).wider (ext_more hs4)
  have e1 := begP_rq s.D q
  have e2 := begP_done s.D q
  have hgk : ∀ k, gv.ownBlock = some k → k ≠ kb := fun k e e2 => bs_ne_cn hC.gg hC.blk (by decide) (e2 ▸ e)
  have hg3 : Bs w3 5 gv s.C.going := hC.gg.kept k5 (fun k e q => by
    rcases q with q | q
    · exact hgk k e q
    · exact h.gh _ q (hC.inG k e))
  have hwb : wb ≠ kb := by omega
  have hrq := (p3.onl k4 (Onl.blk c4 (by decide)) (Onl.blk c4 (by decide))).lst
  have hW := p1.kept k4 hwb
  have hbod := p2.kept k4 (fun k e q => by have := p5 k e; omega)
  refine ⟨q0, h.next (H' := fun k => H k ∨ (k = wb ∨ bv.ownBlock = some k ∨ NewL w.heap.size w' k)) (wv' := wv') (gv' := gv) (wk' := .pointer (some ⟨wb, 0, none⟩)) hkF hd ⟨c1, c2, hg3.kept k4 hgk, .inl hC.inK, fun k e => .inl (hC.inV k (c3 ▸ e)), fun k e => .inl (hC.inG k e), fun k e => hC.ap k (c3 ▸ e), ?_⟩ ?_, hkF⟩
  · refine ⟨wb, v, bv, rfl, ⟨by rw [e2]; exact hW, hrq.wider (fun k e => .inr (.inr (.inr e))), hbod, .inr (.inl rfl), fun k e => .inr (.inr (.inl e)), fun e _ => p7 e⟩, fun k e => ⟨fun e2 => ?_, fun e2 => ?_⟩⟩
    · have := p5 k e
      have := Rw.lt hC.wt (c3 ▸ e2)
      omega
    · have := p5 k e
      have := Rw.lt hC.gg e2
      omega
  · rintro k (e | rfl | e | ⟨l1, t, cs, hb, ht⟩)
    · exact .inl e
    · exact .inr ⟨p4, hW.lt, _, _, hW, .inl (by decide)⟩
    · obtain ⟨cs, hb⟩ := Rw.blk hbod e
      exact .inr ⟨p5 k e, hb.lt, _, _, hb, .inl (by decide)⟩
    · refine .inr ⟨l1, hb.lt, t, cs, hb, ?_⟩
      rcases ht with rfl | rfl
      · exact .inr ⟨rfl, fun i hi e => by have := p8 i hi k e; omega⟩
      · exact .inl (by decide)
end
end Go.Proofs.YthpmcilljbmoiaaGreatDoor
