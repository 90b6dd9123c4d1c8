import Derived.Test.YthpmcilljbmoiaaGreatDoorZ22
import Derived.Test.YthpmcilljbmoiaaGreatDoorZ03
import Derived.Test.YthpmcilljbmoiaaGreatDoorZ08
namespace Go.Proofs.YthpmcilljbmoiaaGreatDoor
open Go.RowKit

/-- which shard a name belongs to -/
def shIx (m : Nat) (nm : ByteArray) : Nat := if h : 2 < nm.size then nm[2].toNat % m else 0
theorem shIx_lt {m : Nat} (hm : 0 < m) (nm : ByteArray) : shIx m nm < m := by
  unfold shIx
  split
  · exact Nat.mod_lt _ hm
  · exact hm
/-- a pin more, a mark, a pin less -/
def pinUp (l : List Bl) (nm : ByteArray) : List Bl := match ixB l nm with
  | none => l
  | some i => if h : i < l.length then pinsAt l i h (l[i].pn + 1) else l
def mkUp (l : List Bl) (nm : ByteArray) : List Bl := match ixB l nm with
  | none => l
  | some i => if h : i < l.length then marked l i h else l
def unUp (l : List Bl) (nm : ByteArray) : List Bl := match ixB l nm with
  | none => l
  | some i => if h : i < l.length then (if l[i].pn = 0 then l else pinsAt l i h (l[i].pn - 1)) else l
/-- the bytes of a name -/
def bsAt (l : List Bl) (nm : ByteArray) : ByteArray := match ixB l nm with
  | none => ⟨#[]⟩
  | some i => if h : i < l.length then l[i].bs else ⟨#[]⟩
theorem pinUp_at {l : List Bl} {nm : ByteArray} {i : Nat} (hx : ixB l nm = some i) (h : i < l.length) : pinUp l nm = pinsAt l i h (l[i].pn + 1) := by
  unfold pinUp; rw [hx]; exact dif_pos h
theorem mkUp_at {l : List Bl} {nm : ByteArray} {i : Nat} (hx : ixB l nm = some i) (h : i < l.length) : mkUp l nm = marked l i h := by
  unfold mkUp; rw [hx]; exact dif_pos h
theorem bsAt_at {l : List Bl} {nm : ByteArray} {i : Nat} (hx : ixB l nm = some i) (h : i < l.length) : bsAt l nm = l[i].bs := by
  unfold bsAt; rw [hx]; exact dif_pos h
theorem unUp_none {l : List Bl} {nm : ByteArray} (hx : ixB l nm = none) : unUp l nm = l := by unfold unUp; rw [hx]
theorem unUp_zero {l : List Bl} {nm : ByteArray} {i : Nat} (hx : ixB l nm = some i) (h : i < l.length) (hp : l[i].pn = 0) : unUp l nm = l := by
  unfold unUp; rw [hx]; simp only; rw [dif_pos h, if_pos hp]
theorem unUp_at {l : List Bl} {nm : ByteArray} {i : Nat} (hx : ixB l nm = some i) (h : i < l.length) (hp : 0 < l[i].pn) : unUp l nm = pinsAt l i h (l[i].pn - 1) := by
  unfold unUp; rw [hx]; simp only; rw [dif_pos h, if_neg (by omega)]

/-- what the items do to a depot and what they tell -/
def dFind (m : Nat) (D : Dps) (nm : ByteArray) (lsd : Bool) : Dps × ByteArray :=
  if (ixB (D.shs (shIx m nm)) nm).isSome = true then
    (if lsd = true then ({ D with shs := upd D.shs (shIx m nm) (pinUp (D.shs (shIx m nm)) nm), les := upd D.les (D.n - 1) { D.les (D.n - 1) with names := (D.les (D.n - 1)).names ++ [nm] } }, b8 1) else (D, b8 1))
  else (D, b8 0)
def dRead (m : Nat) (D : Dps) (nm : ByteArray) : Dps × ByteArray :=
  if (ixB (D.shs (shIx m nm)) nm).isSome = true then
    ({ D with shs := upd D.shs (shIx m nm) (mkUp (D.shs (shIx m nm)) nm) }, b8 1 ++ b8 ((bsAt (D.shs (shIx m nm)) nm).size / 256) ++ b8 ((bsAt (D.shs (shIx m nm)) nm).size % 256) ++ bsAt (D.shs (shIx m nm)) nm)
  else (D, b8 0)
def dUpd (K : List Nat) (m : Nat) (D : Dps) (nm bs : ByteArray) : Dps × ByteArray :=
  if nameStr K bs = nm then
    (if (ixB (D.shs (shIx m nm)) nm).isSome = true then ({ D with shs := upd D.shs (shIx m nm) (mkUp (D.shs (shIx m nm)) nm) }, b8 1)
    else ({ D with shs := upd D.shs (shIx m nm) (D.shs (shIx m nm) ++ [⟨nm, bs, false, 0⟩]) }, b8 1))
  else (D, b8 2)
def unAll (m : Nat) (f : Nat → List Bl) (nms : List ByteArray) : Nat → List Bl := nms.foldl (fun f nm => upd f (shIx m nm) (unUp (f (shIx m nm)) nm)) f
def dRel (m : Nat) (D : Dps) (num : Nat) : Dps × ByteArray := match gix D.les num D.n 0 with
  | none => (D, b8 0)
  | some e => ({ D with shs := unAll m D.shs (D.les e).names, n := D.n - 1, les := remF D.les e }, b8 1)

/-- bounds of a depot -/
structure OkD (m : Nat) (D : Dps) : Prop where
  len : ∀ j, j < m → (D.shs j).length ≤ 1000
  pn : ∀ j, j < m → ∀ b ∈ D.shs j, b.pn < 10000 ∧ b.bs.size ≤ 120
  held : ∀ j, j < m → heldN (D.shs j) ≤ 4000
  nms : ∀ i, i < D.n → (D.les i).names.length ≤ 1000 ∧ ∀ nm ∈ (D.les i).names, nm.size = 34
  ttl : ∀ i, i < D.n → (D.les i).ttl ≤ 1000
  n20 : D.n ≤ 20
  bg : D.begun ≤ 100000
  ac : D.acts.length ≤ 32
  av : ∀ a ∈ D.acts, a.2.size ≤ 50

section
variable {w w' : World} {F S : Nat → Prop} {db kb m t : Nat} {shv cv lv av : Value} {sh : Nat → Nat} {bvs : Nat → Value} {lbs : Nat → Nat} {nvs : Nat → Value} {D : Dps}
theorem DepX.rest (h : DepX w F db kb m t shv cv lv av sh bvs lbs nvs D) (hk : Kept S w w') (hS : ∀ t, t ∈ dtys → t ≠ 123 → t ≠ 186 → t ≠ 273 → t ≠ 9 → Onl w F S t (fun _ => False))
    {F' : Nat → Prop} (hF : ∀ k, F k → F' k) {bvs' : Nat → Value} {nvs' : Nat → Value} {shs' : Nat → List Bl} {les' : Nat → Le} (hs : ShF w' F' m sh bvs' shs') (hl : LeF w' F' D.n lbs nvs' les') : DepX w' F' db kb m t shv cv lv av sh bvs' lbs nvs' { D with shs := shs', les := les' } :=
  ⟨h.blk.onl hk h.inD (hS _ (by decide) (by decide) (by decide) (by decide) (by decide)), Rw.onl h.shr hk h.inSh (hS _ (by decide) (by decide) (by decide) (by decide) (by decide)), hs, Rw.onl h.con hk h.inC (hS _ (by decide) (by decide) (by decide) (by decide) (by decide)), Rw.onl h.ler hk h.inL (hS _ (by decide) (by decide) (by decide) (by decide) (by decide)), hl, Rw.onl h.act hk h.inA (hS _ (by decide) (by decide) (by decide) (by decide) (by decide)), hF _ h.inD, fun k q => hF k (h.inSh k q), fun k q => hF k (h.inC k q), fun k q => hF k (h.inL k q), fun k q => hF k (h.inA k q), h.m0, h.m8⟩
theorem DepX.dsS (h : DepX w F db kb m t shv cv lv av sh bvs lbs nvs D) (j : Nat) (hj : j < m) : DS w F D.n nvs (sh j) := ⟨h.shf.inS j hj, _, _, (h.shf.at_ j hj).1, by decide, fun e => absurd e (by decide)⟩
theorem DepX.dsB (h : DepX w F db kb m t shv cv lv av sh bvs lbs nvs D) (j : Nat) (hj : j < m) (k : Nat) (hk : (bvs j).ownBlock = some k) : DS w F D.n nvs k := by
  obtain ⟨cs, hb⟩ := Rw.blk (h.shf.at_ j hj).2 hk
  exact ⟨h.shf.inB j hj k hk, _, _, hb, by decide, fun e => absurd e (by decide)⟩
theorem DepX.dsL (h : DepX w F db kb m t shv cv lv av sh bvs lbs nvs D) (i : Nat) (hi : i < D.n) : DS w F D.n nvs (lbs i) := ⟨h.lef.inL i hi, _, _, (h.lef.at_ i hi).1, by decide, fun e => absurd e (by decide)⟩
theorem DepX.dsN (h : DepX w F db kb m t shv cv lv av sh bvs lbs nvs D) (i : Nat) (hi : i < D.n) (k : Nat) (hk : (nvs i).ownBlock = some k) : DS w F D.n nvs k := by
  obtain ⟨cs, hb⟩ := Rw.blk (h.lef.at_ i hi).2 hk
  exact ⟨h.lef.inN i hi k hk, _, _, hb, by decide, fun _ => ⟨i, hi, hk⟩⟩
theorem DepX.dsD (h : DepX w F db kb m t shv cv lv av sh bvs lbs nvs D) : DS w F D.n nvs db := ⟨h.inD, _, _, h.blk, by decide, fun e => absurd e (by decide)⟩
theorem DepX.dsV (h : DepX w F db kb m t shv cv lv av sh bvs lbs nvs D) (k : Nat) (hk : lv.ownBlock = some k ∨ av.ownBlock = some k) : DS w F D.n nvs k := by
  rcases hk with hk | hk
  · obtain ⟨cs, hb⟩ := Rw.blk h.ler hk
    exact ⟨h.inL k hk, _, _, hb, by decide, fun e => absurd e (by decide)⟩
  · obtain ⟨cs, hb⟩ := Rw.blk h.act hk
    exact ⟨h.inA k hk, _, _, hb, by decide, fun e => absurd e (by decide)⟩
/-- a shard has turned -/
theorem DepX.shard (h : DepX w F db kb m t shv cv lv av sh bvs lbs nvs D) (j : Nat) (hj : j < m) (l' : List Bl) (bv' : Value) (hk : Kept S w w') (hS : ∀ k, S k → k = sh j ∨ (bvs j).ownBlock = some k) (hs : Sh w' (sh j) l' 4000 (heldN l') (pinN l') bv') (hb : Home w (bvs j) bv') :
    DepX w' (ext F w w') db kb m t shv cv lv av sh (upd bvs j bv') lbs nvs { D with shs := upd D.shs j l' } ∧ Kept (DS w F D.n nvs) w w' := by
  have hk' : Kept (fun k => k = sh j ∨ (bvs j).ownBlock = some k) w w' := hk.mono (fun k _ e => hS k e)
  have h0 := h.shf.at_ j hj
  refine ⟨h.rest hk' (fun t _ n1 n2 _ _ => (Onl.blk h0.1 (Ne.symm n1)).or (Onl.own h0.2 (Ne.symm n2))) (fun k q => .inl q) (h.shf.put j hj l' bv' hk' (Onl.self.or (Onl.own h0.2 (by decide))) ((Onl.blk h0.1 (by decide)).or Onl.self) hs hb) ((h.lef.kept hk' ((Onl.blk h0.1 (by decide)).or (Onl.own h0.2 (by decide))) ((Onl.blk h0.1 (by decide)).or (Onl.own h0.2 (by decide)))).wider (fun k q => .inl q)), hk'.mono (fun k _ e => ?_)⟩
  rcases e with rfl | e
  · exact h.dsS j hj
  · exact h.dsB j hj k e
/-- a shard and a lease have turned -/
theorem DepX.both (h : DepX w F db kb m t shv cv lv av sh bvs lbs nvs D) (j : Nat) (hj : j < m) (e : Nat) (he : e < D.n) (l' : List Bl) (bv' : Value) (x' : Le) (nv' : Value) (hk : Kept S w w') (hS : ∀ k, S k → (k = sh j ∨ (bvs j).ownBlock = some k) ∨ (k = lbs e ∨ (nvs e).ownBlock = some k)) (hs : Sh w' (sh j) l' 4000 (heldN l') (pinN l') bv') (hb : Home w (bvs j) bv') (hx : Lm w' (lbs e) x' nv') (hn : Home w (nvs e) nv') :
    DepX w' (ext F w w') db kb m t shv cv lv av sh (upd bvs j bv') lbs (upd nvs e nv') { D with shs := upd D.shs j l', les := upd D.les e x' } ∧ Kept (DS w F D.n nvs) w w' := by
  have hk' : Kept (fun k => (k = sh j ∨ (bvs j).ownBlock = some k) ∨ (k = lbs e ∨ (nvs e).ownBlock = some k)) w w' := hk.mono (fun k _ e => hS k e)
  have h0 := h.shf.at_ j hj
  have h1 := h.lef.at_ e he
  refine ⟨h.rest hk' (fun t _ n1 n2 n3 n4 => ((Onl.blk h0.1 (Ne.symm n1)).or (Onl.own h0.2 (Ne.symm n2))).or ((Onl.blk h1.1 (Ne.symm n3)).or (Onl.own h1.2 (Ne.symm n4)))) (fun k q => .inl q)
    (h.shf.put j hj l' bv' hk' ((Onl.self.or (Onl.own h0.2 (by decide))).or ((Onl.blk h1.1 (by decide)).or (Onl.own h1.2 (by decide)))) (((Onl.blk h0.1 (by decide)).or Onl.self).or ((Onl.blk h1.1 (by decide)).or (Onl.own h1.2 (by decide)))) hs hb)
    (h.lef.put e he x' nv' hk' (((Onl.blk h0.1 (by decide)).or (Onl.own h0.2 (by decide))).or (Onl.self.or (Onl.own h1.2 (by decide)))) (((Onl.blk h0.1 (by decide)).or (Onl.own h0.2 (by decide))).or ((Onl.blk h1.1 (by decide)).or Onl.self)) hx hn), hk'.mono (fun k _ q => ?_)⟩
  rcases q with (rfl | q) | (rfl | q)
  · exact h.dsS j hj
  · exact h.dsB j hj k q
  · exact h.dsL e he
  · exact h.dsN e he k q
/-- a lease has turned -/
theorem DepX.lease (h : DepX w F db kb m t shv cv lv av sh bvs lbs nvs D) (e : Nat) (he : e < D.n) (x' : Le) (nv' : Value) (hk : Kept S w w') (hS : ∀ k, S k → k = lbs e ∨ (nvs e).ownBlock = some k) (hx : Lm w' (lbs e) x' nv') (hn : Home w (nvs e) nv') :
    DepX w' (ext F w w') db kb m t shv cv lv av sh bvs lbs (upd nvs e nv') { D with les := upd D.les e x' } ∧ Kept (DS w F D.n nvs) w w' := by
  have hk' : Kept (fun k => k = lbs e ∨ (nvs e).ownBlock = some k) w w' := hk.mono (fun k _ e => hS k e)
  have h1 := h.lef.at_ e he
  refine ⟨h.rest hk' (fun t _ _ _ n3 n4 => (Onl.blk h1.1 (Ne.symm n3)).or (Onl.own h1.2 (Ne.symm n4))) (fun k q => .inl q)
    ((h.shf.kept hk' ((Onl.blk h1.1 (by decide)).or (Onl.own h1.2 (by decide))) ((Onl.blk h1.1 (by decide)).or (Onl.own h1.2 (by decide)))).wider (fun k q => .inl q))
    (h.lef.put e he x' nv' hk' (Onl.self.or (Onl.own h1.2 (by decide))) ((Onl.blk h1.1 (by decide)).or Onl.self) hx hn), hk'.mono (fun k _ q => ?_)⟩
  rcases q with rfl | q
  · exact h.dsL e he
  · exact h.dsN e he k q

/-- where the names of the leases lie -/
def Nvp (w : World) (n' : Nat) (nvs' : Nat → Value) (n : Nat) (nvs : Nat → Value) : Prop := ∀ i, i < n' → ∀ k, (nvs' i).ownBlock = some k → k < w.heap.size → ∃ j, j < n ∧ (nvs j).ownBlock = some k
theorem Nvp.refl (w : World) (n : Nat) (nvs : Nat → Value) : Nvp w n nvs n nvs := fun i hi _ hk _ => ⟨i, hi, hk⟩
theorem Nvp.upd {n : Nat} (e : Nat) (he : e < n) {nv' : Value} (hn : Home w (nvs e) nv') : Nvp w n (upd nvs e nv') n nvs := fun i hi k hk hl => by
  by_cases hie : i = e
  · subst hie; rw [upd_same] at hk; exact ⟨i, he, hn.old k hl hk⟩
  · rw [upd_other _ _ _ _ hie] at hk; exact ⟨i, hi, hk⟩
/-- what a doing of the depot comes to -/
def DopP (w : World) (F : Nat → Prop) (db kb m t : Nat) (shv cv : Value) (sh : Nat → Nat) (lbs : Nat → Nat) (n : Nat) (nvs : Nat → Value) (X : Dps × ByteArray) (r : Ending) (w' : World) : Prop :=
  ∃ v lv' av' bvs' lbs' nvs', r = .returned v ∧ Bs w' 5 v X.2 ∧ DepX w' (ext F w w') db kb m t shv cv lv' av' sh bvs' lbs' nvs' X.1 ∧ Kept (DS w F n nvs) w w' ∧ Fresh w.heap.size v ∧ Nvp w X.1.n nvs' n nvs ∧ (X.1.n = n → lbs' = lbs)
theorem ext_in {w w' : World} {F : Nat → Prop} : ∀ k, F k → ext F w w' k := fun _ h => .inl h
theorem DepX.same (h : DepX w F db kb m t shv cv lv av sh bvs lbs nvs D) {v : Value} {told : ByteArray} (hv : Bs w' 5 v told) (hb : Below w.heap.size w w') (hf : Fresh w.heap.size v) : DopP w F db kb m t shv cv sh lbs D.n nvs (D, told) (.returned v) w' :=
  ⟨v, lv, av, bvs, lbs, nvs, rfl, hv, (h.below hb).wider ext_in, Kept.ofBelow hb, hf, Nvp.refl _ _ _, fun _ => rfl⟩
theorem shIx_sof (h : DepX w F db kb m t shv cv lv av sh bvs lbs nvs D) (nm : ByteArray) (hn : nm.size = 34) : SOf w db (sh (shIx m nm)) nm := by
  obtain ⟨b, off, cap, hp⟩ := h.shp
  have := hp.sof nm (by omega)
  unfold shIx
  rw [dif_pos (by omega)]
  exact this

/-- Read of a name -/
theorem dread_any (h : DepX w F db kb m t shv cv lv av sh bvs lbs nvs D) (ho : OkD m D) (nm : ByteArray) (hn : nm.size = 34) :
    Calls Tryz.prog 134 #[.pointer (some ⟨db, 0, none⟩), .string nm] w fun r w' => DopP w F db kb m t shv cv sh lbs D.n nvs (dRead m D nm) r w' := by
  have hj := shIx_lt h.m0 nm
  have hso := shIx_sof h nm hn
  have hS := h.shf.at_ _ hj
  unfold dRead
  cases hx : ixB (D.shs (shIx m nm)) nm with
  | none =>
    rw [if_neg (by simp)]
    refine (read_no nm hso hS (ho.len _ hj) hx).mono ?_
    rintro r w' ⟨v, rfl, q1, q2, q3⟩
    exact h.same q1 q2 q3
  | some i =>
    have hi := ixB_lt _ _ _ hx
    rw [if_pos (show (some i).isSome = true from rfl), mkUp_at hx hi, bsAt_at hx hi]
    have hb := ho.pn _ hj _ (List.getElem_mem hi)
    refine (read_yes nm i hi hso hS (ho.len _ hj) hx (by omega)).mono ?_
    rintro r w' ⟨v, rfl, q1, q2, q3, q4⟩
    rw [← held_marked _ i hi, ← pin_marked _ i hi] at q2
    obtain ⟨g1, g2⟩ := h.shard _ hj _ _ q3 (fun k e => .inr e) q2 (.inl rfl)
    exact ⟨v, lv, av, _, lbs, nvs, rfl, q1, g1, g2, q4, Nvp.refl _ _ _, fun _ => rfl⟩
/-- Find of a name -/
theorem dfind_any (h : DepX w F db kb m t shv cv lv av sh bvs lbs nvs D) (ho : OkD m D) (nm : ByteArray) (hn : nm.size = 34) (lsd : Bool) (lp : Option Addr) (hlp : lp = if lsd = true then some ⟨lbs (D.n - 1), 0, none⟩ else none) (hl0 : lsd = true → 0 < D.n) (hln : lsd = true → (D.les (D.n - 1)).names.length < 1000) :
    Calls Tryz.prog 133 #[.pointer (some ⟨db, 0, none⟩), .string nm, .pointer lp] w fun r w' => DopP w F db kb m t shv cv sh lbs D.n nvs (dFind m D nm lsd) r w' := by
  have hj := shIx_lt h.m0 nm
  have hso := shIx_sof h nm hn
  have hS := h.shf.at_ _ hj
  unfold dFind
  cases hx : ixB (D.shs (shIx m nm)) nm with
  | none =>
    rw [if_neg (by simp)]
    refine (find_no nm lp hso hS (ho.len _ hj) hx).mono ?_
    rintro r w' ⟨v, rfl, q1, q2, q3⟩
    exact h.same q1 q2 q3
  | some i =>
    have hi := ixB_lt _ _ _ hx
    rw [if_pos (show (some i).isSome = true from rfl), pinUp_at hx hi]
    cases lsd with
    | false =>
      rw [if_neg (by simp)] at hlp
      rw [if_neg (by simp), hlp]
      refine (find_held nm i hso hS (ho.len _ hj) hx).mono ?_
      rintro r w' ⟨v, rfl, q1, q2, q3⟩
      exact h.same q1 q2 q3
    | true =>
      rw [if_pos rfl] at hlp
      rw [if_pos rfl, hlp]
      have h0 := hl0 rfl
      have hb := ho.pn _ hj _ (List.getElem_mem hi)
      have hL := h.lef.at_ (D.n - 1) (by omega)
      have hpl := pin_le (D.shs (shIx m nm))
      have hhl := ho.held _ hj
      have hlen := hln rfl
      refine (find_pin nm i _ _ _ hi hso hS hL (ho.len _ hj) hx (by omega) (by omega) ⟨by omega, by omega⟩ (by omega)).mono ?_
      rintro r w' ⟨v, nv', rfl, q1, q2, q3, q4, q5, q6⟩
      rw [← held_pinsAt _ i hi ((D.shs (shIx m nm))[i].pn + 1), ← pin_more _ i hi] at q2
      obtain ⟨g1, g2⟩ := h.both _ hj (D.n - 1) (by omega) _ _ _ _ q4 (fun k e => e) q2 (.inl rfl) q3 q5
      exact ⟨v, lv, av, _, lbs, _, rfl, q1, g1, g2, q6, Nvp.upd (n := D.n) (D.n - 1) (by omega) q5, fun _ => rfl⟩
/-- the table of the sum -/
def Tb (K : List Nat) (w : World) : Prop := (∀ i, K.getD i 0 < 4294967296) ∧ ∀ i, i < 64 → w.cell? ⟨0, i, none⟩ = some (.int .u32 (K.getD i 0 : Nat))
theorem Tb.kept {K : List Nat} (h : Tb K w) (hk : Kept S w w') (hS : ¬ S 0) : Tb K w' := ⟨h.1, fun i hi => hk.cell (h.2 i hi) hS⟩
theorem Tb.below {K : List Nat} (h : Tb K w) (hk : Below w.heap.size w w') : Tb K w' := h.kept (Kept.ofBelow (S := fun _ => False) hk) (fun h => h)
/-- Update of a blob -/
theorem dupd_any (K : List Nat) (hT : Tb K w) (h : DepX w F db kb m t shv cv lv av sh bvs lbs nvs D) (ho : OkD m D) (nm bs : ByteArray) (hn : nm.size = 34) (hbs : bs.size ≤ 120) (hroom : ∀ j, j < m → heldN (D.shs j) + bs.size ≤ 4000) :
    Calls Tryz.prog 135 #[.pointer (some ⟨db, 0, none⟩), .agg #[.string nm, .string bs]] w fun r w' => DopP w F db kb m t shv cv sh lbs D.n nvs (dUpd K m D nm bs) r w' := by
  have hj := shIx_lt h.m0 nm
  have hso := shIx_sof h nm hn
  have hS := h.shf.at_ _ hj
  have hno : ∀ w1, Below w.heap.size w w1 → Calls Tryz.prog 84 #[.string bs] w1 fun r w' => r = .returned (.string (nameStr K bs)) ∧ Below w1.heap.size w1 w' := fun w1 hb => namesOf_any K bs w1 hbs hT.1 (hT.below hb).2
  unfold dUpd
  by_cases he : nameStr K bs = nm
  · rw [if_pos he]
    rw [he] at hno
    cases hx : ixB (D.shs (shIx m nm)) nm with
    | none =>
      rw [if_neg (by simp)]
      have hpl := pin_le (D.shs (shIx m nm))
      have hr := hroom _ hj
      refine (update_right nm bs (DS w F D.n nvs) (fun w' => ∃ w2 bv', DepX w2 (ext F w w2) db kb m t shv cv lv av sh (upd bvs (shIx m nm) bv') lbs nvs { D with shs := upd D.shs (shIx m nm) (D.shs (shIx m nm) ++ [⟨nm, bs, false, 0⟩]) } ∧ Below w2.heap.size w2 w') hso hno (fun w1 hb => ?_) (fun w1 w2 ⟨w3, bv', q1, q2⟩ hb => ⟨w3, bv', q1, q2.trans (hb.mono q2.size)⟩)).mono ?_
      · refine (store_new nm bs hx (hS.below hb) (ho.len _ hj) (by omega) (by omega) (by omega) ⟨by omega, by omega⟩ (by omega)).mono ?_
        rintro r w' ⟨q1, bv', q2, q3, q4⟩
        have e1 : ((heldN (D.shs (shIx m nm)) : Int) + bs.size) = (heldN (D.shs (shIx m nm) ++ [⟨nm, bs, false, 0⟩]) : Int) := by rw [held_app]; simp
        rw [e1, ← pin_app (D.shs (shIx m nm)) nm bs false] at q2
        obtain ⟨g1, g2⟩ := h.shard (w' := w') _ hj _ bv' ((Kept.ofBelow hb).next q3 (fun _ _ h => h)) (fun k e => e) q2 ((Home.refl w _).trans hb.size q4)
        exact ⟨q1, ⟨w', bv', g1, Below.refl _ _⟩, g2⟩
      · rintro r w' ⟨v, rfl, q1, ⟨w2, bv', q2, q3⟩, q4, q5⟩
        refine ⟨v, lv, av, _, lbs, nvs, rfl, q1, (q2.below q3).wider (fun k hk => ?_), q4, q5, Nvp.refl _ _ _, fun _ => rfl⟩
        rcases hk with hk | hk
        · exact .inl hk
        · exact .inr ⟨hk.1, Nat.lt_of_lt_of_le hk.2 q3.size⟩
    | some i =>
      have hi := ixB_lt _ _ _ hx
      rw [if_pos (show (some i).isSome = true from rfl), mkUp_at hx hi]
      refine (update_right nm bs (DS w F D.n nvs) (fun w' => ∃ w2, DepX w2 (ext F w w2) db kb m t shv cv lv av sh (upd bvs (shIx m nm) (bvs (shIx m nm))) lbs nvs { D with shs := upd D.shs (shIx m nm) (marked (D.shs (shIx m nm)) i hi) } ∧ Below w2.heap.size w2 w') hso hno (fun w1 hb => ?_) (fun w1 w2 ⟨w3, q1, q2⟩ hb => ⟨w3, q1, q2.trans (hb.mono q2.size)⟩)).mono ?_
      · refine (store_old nm bs i hi hx (hS.below hb) (ho.len _ hj)).mono ?_
        rintro r w' ⟨q1, q2, q3⟩
        rw [← held_marked _ i hi, ← pin_marked _ i hi] at q2
        obtain ⟨g1, g2⟩ := h.shard (w' := w') _ hj _ _ ((Kept.ofBelow hb).next q3 (fun _ _ h => h)) (fun k e => .inr e) q2 (.inl rfl)
        exact ⟨q1, ⟨w', g1, Below.refl _ _⟩, g2⟩
      · rintro r w' ⟨v, rfl, q1, ⟨w2, q2, q3⟩, q4, q5⟩
        refine ⟨v, lv, av, _, lbs, nvs, rfl, q1, (q2.below q3).wider (fun k hk => ?_), q4, q5, Nvp.refl _ _ _, fun _ => rfl⟩
        rcases hk with hk | hk
        · exact .inl hk
        · exact .inr ⟨hk.1, Nat.lt_of_lt_of_le hk.2 q3.size⟩
  · rw [if_neg he]
    refine (update_wrong nm bs (nameStr K bs) hno he).mono ?_
    rintro r w' ⟨v, rfl, q1, q2, q3⟩
    exact h.same q1 q2 q3
end
end Go.Proofs.YthpmcilljbmoiaaGreatDoor
namespace Go.Proofs.YthpmcilljbmoiaaGreatDoor
open Go.RowKit

theorem upd_self {α : Type} (f : Nat → α) (j : Nat) : upd f j (f j) = f := funext fun i => by
  by_cases h : i = j
  · subst h; exact upd_same _ _ _
  · exact upd_other _ _ _ _ h
theorem unUp_cases (l : List Bl) (nm : ByteArray) : unUp l nm = l ∨ ∃ i, ∃ h : i < l.length, ixB l nm = some i ∧ 0 < l[i].pn ∧ unUp l nm = pinsAt l i h (l[i].pn - 1) := by
  cases hx : ixB l nm with
  | none => exact .inl (unUp_none hx)
  | some i =>
    have hi := ixB_lt _ _ _ hx
    by_cases hp : l[i].pn = 0
    · exact .inl (unUp_zero hx hi hp)
    · exact .inr ⟨i, hi, rfl, by omega, unUp_at hx hi (by omega)⟩
/-- bounds of the shards -/
structure OkS (m : Nat) (f : Nat → List Bl) : Prop where
  len : ∀ j, j < m → (f j).length ≤ 1000
  pn : ∀ j, j < m → ∀ b ∈ f j, b.pn < 10000 ∧ b.bs.size ≤ 120
  held : ∀ j, j < m → heldN (f j) ≤ 4000
theorem OkD.oks {m : Nat} {D : Dps} (h : OkD m D) : OkS m D.shs := ⟨h.len, h.pn, h.held⟩
theorem OkS.un {m : Nat} {f : Nat → List Bl} (h : OkS m f) (k : Nat) (nm : ByteArray) : OkS m (upd f k (unUp (f k) nm)) := by
  rcases unUp_cases (f k) nm with e | ⟨i, hi, _, hp, e⟩
  · rw [e, upd_self]; exact h
  · rw [e]
    refine ⟨fun j hj => ?_, fun j hj b hb => ?_, fun j hj => ?_⟩
    · by_cases hjk : j = k
      · subst hjk; rw [upd_same, pinsAt, List.length_set]; exact h.len j hj
      · rw [upd_other _ _ _ _ hjk]; exact h.len j hj
    · by_cases hjk : j = k
      · subst hjk
        rw [upd_same, pinsAt] at hb
        rcases List.mem_or_eq_of_mem_set hb with hb | rfl
        · exact h.pn j hj b hb
        · have := h.pn j hj _ (List.getElem_mem hi)
          exact ⟨by show (f j)[i].pn - 1 < 10000; omega, this.2⟩
      · rw [upd_other _ _ _ _ hjk] at hb; exact h.pn j hj b hb
    · by_cases hjk : j = k
      · subst hjk; rw [upd_same, held_pinsAt]; exact h.held j hj
      · rw [upd_other _ _ _ _ hjk]; exact h.held j hj
theorem unAll_take (m : Nat) (f : Nat → List Bl) (nms : List ByteArray) (k : Nat) (hk : k < nms.length) : unAll m f (nms.take (k + 1)) = upd (unAll m f (nms.take k)) (shIx m nms[k]) (unUp (unAll m f (nms.take k) (shIx m nms[k])) nms[k]) := by
  unfold unAll
  rw [List.take_add_one, List.getElem?_eq_getElem hk, Option.toList_some, List.foldl_append]
  rfl
theorem OkS.all {m : Nat} : ∀ {f : Nat → List Bl} (nms : List ByteArray), OkS m f → OkS m (unAll m f nms)
  | _, [], h => h
  | _, nm :: r, h => OkS.all r (h.un (shIx m nm) nm)
section
variable {w w' : World} {F S : Nat → Prop} {db kb m t : Nat} {shv cv lv av : Value} {sh : Nat → Nat} {bvs : Nat → Value} {lbs : Nat → Nat} {nvs : Nat → Value} {D : Dps}
/-- a lease has ended -/
theorem DepX.ended (h : DepX w F db kb m t shv cv lv av sh bvs lbs nvs D) (e : Nat) (he : e < D.n) {ov : Value} (hE : Ended w db 2 114 #[shv, cv, lv, .int .i64 D.begun, av, .int .i64 0, .int .i64 t] lv lbs D.n e (D.les e).names (.returned ov) w') :
    ∃ lv', DepX w' F db kb m t shv cv lv' av sh bvs (lrem lbs e) (remF nvs e) { D with n := D.n - 1, les := remF D.les e } ∧ Kept (fun k => k = db ∨ lv.ownBlock = some k) w w' ∧ Rw w' 9 1 ov (D.les e).names.length ((D.les e).names.map Value.string) ∧ Fresh w.heap.size ov := by
  obtain ⟨ov', lv', q1, q2, q3, q4, q5, q6, q7⟩ := hE
  injection q1 with q1
  subst q1
  have on : ∀ t, t ≠ 114 → t ≠ 173 → ∀ P, Onl w F (fun k => k = db ∨ lv.ownBlock = some k) t P := fun t n1 n2 P => (Onl.blk h.blk (Ne.symm n1)).or (Onl.own h.ler (Ne.symm n2))
  refine ⟨lv', ⟨by simpa using q4, Rw.onl h.shr q7 h.inSh (on _ (by decide) (by decide) _), h.shf.kept q7 (on _ (by decide) (by decide) _) (on _ (by decide) (by decide) _), Rw.onl h.con q7 h.inC (on _ (by decide) (by decide) _), q5, (h.lef.kept q7 (on _ (by decide) (by decide) _) (on _ (by decide) (by decide) _)).rem e he, Rw.onl h.act q7 h.inA (on _ (by decide) (by decide) _), h.inD, h.inSh, h.inC, fun k hk => h.inL k (q6 ▸ hk), h.inA, h.m0, h.m8⟩, q7, q2, q3⟩
theorem gix_lt (les : Nat → Le) (num : Nat) : ∀ n i e, gix les num n i = some e → i ≤ e ∧ e < i + n
  | 0, i, e, h => by simp [gix] at h
  | n + 1, i, e, h => by
    unfold gix at h
    split at h
    · injection h with h; omega
    · have := gix_lt les num n (i + 1) e h
      omega
theorem Nvp.rem (n : Nat) (nvs : Nat → Value) (e : Nat) : Nvp w (n - 1) (remF nvs e) n nvs := fun i hi k hk _ => by
  unfold remF at hk
  split at hk
  · exact ⟨i, by omega, hk⟩
  · exact ⟨i + 1, by omega, hk⟩
/-- Release of a lease -/
theorem drel_any (h : DepX w F db kb m t shv cv lv av sh bvs lbs nvs D) (ho : OkD m D) (_hlt : ∀ k, F k → k < w.heap.size) (num : Nat) :
    Calls Tryz.prog 138 #[.pointer (some ⟨db, 0, none⟩), .int .i64 num] w fun r w' => DopP w F db kb m t shv cv sh lbs D.n nvs (dRel m D num) r w' := by
  have hn20 := ho.n20
  have hG := given_any db 2 D.n num lv lbs D.les nvs w (h.blk.cell 2) h.ler (fun i hi => h.lef.at_ i hi) (by omega)
  unfold dRel
  cases hg : gix D.les num D.n 0 with
  | none =>
    rw [hg] at hG
    refine (release_no db num w hG).mono ?_
    rintro r w' ⟨v, rfl, q1, q2, q3⟩
    exact h.same q1 q2 q3
  | some e =>
    rw [hg] at hG
    have he : e < D.n := by have := gix_lt _ _ _ _ _ hg; omega
    have hnm := ho.nms e he
    have hEnd := end_lease db 2 D.n e 114 _ lv lbs D.les nvs w h.blk (by decide) (by decide) rfl h.ler he (fun i hi hie => h.lef.inj i e hi he hie) (fun i hi => h.lef.at_ i hi) (by omega) hnm.1
    refine (release_yes db num (lbs e) (fun ov w1 => Ended w db 2 114 #[shv, cv, lv, .int .i64 D.begun, av, .int .i64 0, .int .i64 t] lv lbs D.n e (D.les e).names (.returned ov) w1)
      (fun w1 => ∃ lv', DepX w1 F db kb m t shv cv lv' av sh bvs (lrem lbs e) (remF nvs e) { D with shs := unAll m D.shs (D.les e).names, n := D.n - 1, les := remF D.les e } ∧ Kept (DS w F D.n nvs) w w1) w hG (hEnd.mono (fun r w1 hE => ?_)) (fun ov w1 hE => ?_)).mono ?_
    · obtain ⟨ov, lv', q1, q2⟩ := id hE
      exact ⟨ov, q1, by rw [q1] at hE; exact hE⟩
    · obtain ⟨lv', g1, g2, g3, g4⟩ := h.ended e he hE
      have hK1 : Kept (DS w F D.n nvs) w w1 := g2.mono (fun k _ q => by
        rcases q with rfl | q
        · exact h.dsD
        · exact h.dsV k (.inl q))
      refine (unpin_list db ov (D.les e).names (fun k w2 => DepX w2 F db kb m t shv cv lv' av sh bvs (lrem lbs e) (remF nvs e) { D with shs := unAll m D.shs ((D.les e).names.take k), n := D.n - 1, les := remF D.les e } ∧ Rw w2 9 1 ov (D.les e).names.length ((D.les e).names.map Value.string) ∧ Kept (DS w F D.n nvs) w w2) w1 hnm.1 ⟨g1, g3, hK1⟩ (fun k w2 q => q.2.1) (fun k hk w2 hE2 => ?_)).mono ?_
      · obtain ⟨p1, p2, p3⟩ := hE2
        have hok : OkS m (unAll m D.shs ((D.les e).names.take k)) := OkS.all _ ho.oks
        have hnz : ((D.les e).names[k]).size = 34 := hnm.2 _ (List.getElem_mem hk)
        have hj := shIx_lt (m := m) p1.m0 ((D.les e).names[k])
        refine ⟨sh (shIx m ((D.les e).names[k])), ?_, fun w3 ⟨r1, r2, r3⟩ => ?_⟩
        · refine (shIx_sof p1 _ hnz w2 (Below.refl _ _)).mono ?_
          rintro r w3 ⟨s1, s2⟩
          exact ⟨s1, p1.below s2, Rw.below p2 s2, p3.below s2⟩
        · have hS : Sh w3 (sh (shIx m ((D.les e).names[k]))) (unAll m D.shs ((D.les e).names.take k) (shIx m ((D.les e).names[k]))) 4000 (heldN (unAll m D.shs ((D.les e).names.take k) (shIx m ((D.les e).names[k])))) (pinN (unAll m D.shs ((D.les e).names.take k) (shIx m ((D.les e).names[k])))) (bvs (shIx m ((D.les e).names[k]))) := r1.shf.at_ _ hj
          rw [unAll_take m D.shs _ k hk]
          rcases unUp_cases (unAll m D.shs ((D.les e).names.take k) (shIx m ((D.les e).names[k]))) ((D.les e).names[k]) with eU | ⟨i, hi, hx, hp, eU⟩
          · rw [eU, upd_self]
            cases hx : ixB (unAll m D.shs ((D.les e).names.take k) (shIx m ((D.les e).names[k]))) ((D.les e).names[k]) with
            | none =>
              refine (unpin_none _ hx hS (hok.len _ hj)).mono ?_
              rintro r w4 ⟨s1, rfl⟩
              exact ⟨s1, r1, r2, r3⟩
            | some i =>
              have hi := ixB_lt _ _ _ hx
              by_cases hp : (unAll m D.shs ((D.les e).names.take k) (shIx m ((D.les e).names[k])))[i].pn = 0
              · refine (unpin_zero _ i hi hx hS (hok.len _ hj) hp).mono ?_
                rintro r w4 ⟨s1, rfl⟩
                exact ⟨s1, r1, r2, r3⟩
              · rw [unUp_at hx hi (by omega)] at eU
                have := congrArg (fun l => l[i]?.map Bl.pn) eU
                simp only [pinsAt, List.getElem?_set_self hi, List.getElem?_eq_getElem hi, Option.map_some] at this
                injection this with this
                omega
          · have hb := hok.pn _ hj _ (List.getElem_mem hi)
            have hpl := pin_le (unAll m D.shs ((D.les e).names.take k) (shIx m ((D.les e).names[k])))
            have hhl := hok.held _ hj
            refine (unpin_at _ i hi hx hS (hok.len _ hj) hb.1 hp (by omega) ⟨by omega, by omega⟩).mono ?_
            rintro r w4 ⟨s1, s2, s3⟩
            rw [← held_pinsAt _ i hi _, ← pin_less _ i hi hp, ← eU] at s2
            obtain ⟨d1, d2⟩ := r1.shard (w' := w4) _ hj _ _ s3 (fun k q => q) s2 (.inl rfl)
            rw [upd_self] at d1
            have hks : Kept (fun q => q = sh (shIx m ((D.les e).names[k])) ∨ (bvs (shIx m ((D.les e).names[k]))).ownBlock = some q) w3 w4 := s3
            refine ⟨s1, ?_, Rw.kept r2 hks (fun q hq hs => ?_), r3.next hks (fun q _ hs => ?_)⟩
            · refine ⟨d1.blk, d1.shr, ⟨d1.shf.at_, d1.shf.inj, d1.shf.dis, r1.shf.inS, r1.shf.inB⟩, d1.con, d1.ler, ⟨d1.lef.at_, d1.lef.inj, d1.lef.dis, r1.lef.inL, r1.lef.inN⟩, d1.act, r1.inD, r1.inSh, r1.inC, r1.inL, r1.inA, r1.m0, r1.m8⟩
            · rcases hs with rfl | hs
              · exact Rw.ne r2 hS.1 (by decide) hq
              · exact Rw.ne2 hS.2 r2 (by decide) hs hq
            · rcases hs with rfl | hs
              · exact h.dsS _ hj
              · exact h.dsB _ hj q hs
      · rintro r w2 ⟨q1, q2, q3, q4⟩
        rw [List.take_length] at q2
        exact ⟨q1, lv', q2, q4⟩
    · rintro r w' ⟨v, w1, rfl, q1, ⟨lv', q2, q3⟩, q4, q5⟩
      refine ⟨v, lv', av, bvs, lrem lbs e, remF nvs e, rfl, q1, (q2.below q4).wider ext_in, q3.below q4, q5.mono q3.size, Nvp.rem _ _ _, fun hq => ?_⟩
      have : D.n - 1 = D.n := hq
      omega
end
end Go.Proofs.YthpmcilljbmoiaaGreatDoor
namespace Go.Proofs.YthpmcilljbmoiaaGreatDoor
open Go.RowKit

/-- what is left for a reader, and whether it has failed -/
abbrev RS := ByteArray × Bool
def Rf (w : World) (rb : Nat) (x : RS) : Prop := ∃ rv, Blk w rb 293 #[rv, .bool x.2] ∧ Bs w 5 rv x.1
theorem Rf.below {w w' : World} {rb : Nat} {x : RS} (h : Rf w rb x) (hk : Below w.heap.size w w') : Rf w' rb x := by
  obtain ⟨rv, h1, h2⟩ := h
  exact ⟨rv, h1.below hk h1.lt, h2.below hk⟩
theorem Rf.lt {w : World} {rb : Nat} {x : RS} (h : Rf w rb x) : rb < w.heap.size := by
  obtain ⟨rv, h1, h2⟩ := h
  exact h1.lt
theorem Rf.kept {S : Nat → Prop} {w w' : World} {rb : Nat} {x : RS} (h : Rf w rb x) (hk : Kept S w w') (hS : ∀ k, S k → k ≠ rb ∧ ∀ t cs, Blk w k t cs → t ≠ 5) : Rf w' rb x := by
  obtain ⟨rv, h1, h2⟩ := h
  refine ⟨rv, h1.kept hk (fun e => (hS _ e).1 rfl), h2.kept hk (fun k hkk e => ?_)⟩
  obtain ⟨rfl, _, _⟩ | ⟨b, off, cap, cur, rfl, hb, _⟩ := id h2
  · simp [Value.ownBlock] at hkk
  · simp [Value.ownBlock] at hkk
    subst hkk
    exact (hS _ e).2 _ _ hb rfl
/-- the next n bytes -/
def tk (n : Nat) (x : RS) : ByteArray × RS := if x.2 = true ∨ x.1.size < n then (⟨#[]⟩, (x.1, true)) else (x.1.extract 0 n, (x.1.extract n x.1.size, false))
def nb (n : Nat) (x : RS) : Nat × RS := (num (tk n x).1, (tk n x).2)
def wi (lo hi : Nat) (x : RS) : Nat × RS := if (nb 1 x).1 < lo ∨ hi < (nb 1 x).1 then (0, ((nb 1 x).2.1, true)) else nb 1 x
def na (x : RS) : ByteArray × RS := if (tk 34 x).2.2 = false ∧ 120 < num ((tk 34 x).1.extract 0 2) then ((tk 34 x).1, ((tk 34 x).2.1, true)) else tk 34 x
theorem tk_le (n : Nat) (x : RS) : (tk n x).2.1.size ≤ x.1.size := by
  unfold tk
  split
  · exact Nat.le_refl _
  · simp only [ByteArray.size_extract]; omega
theorem tk_size (n : Nat) (x : RS) (h : (tk n x).2.2 = false) : (tk n x).1.size = n := by
  unfold tk at h ⊢
  split at h
  · simp at h
  · rename_i hx
    rw [if_neg hx]
    simp only [ByteArray.size_extract]
    omega
theorem tk_or (n : Nat) (x : RS) : (tk n x).1.size = n ∨ (tk n x).1 = ⟨#[]⟩ := by
  unfold tk
  split
  · exact .inr rfl
  · left
    simp only [ByteArray.size_extract]
    omega

set_option maxRecDepth 100000 in
set_option maxHeartbeats 400000 in
theorem take_f (rb : Nat) (x : RS) (n : Nat) (w : World) (h : Rf w rb x) (hs : x.1.size ≤ 6000) (_hn : n ≤ 6000) :
    Calls Tryz.prog 219 #[.pointer (some ⟨rb, 0, none⟩), .int .i64 n] w
      fun r w' => r = .returned (.string (tk n x).1) ∧ Rf w' rb (tk n x).2 ∧ Kept (fun k => k = rb) w w' := by
  obtain ⟨s, f⟩ := x
  by_cases hx : f = true ∨ s.size < n
  · have e : tk n (s, f) = (⟨#[]⟩, (s, true)) := by unfold tk; rw [if_pos hx]
    rw [e]
    clear e
    obtain ⟨rv, hB, hr⟩ := h
    obtain ⟨a, c, rfl, hc⟩ := hr.shape
    have c0 : w.cell? ⟨rb, 0, none⟩ = some (.slice a s.size c) := hB.cell 0
    have c1 : w.cell? ⟨rb, 1, none⟩ = some (.bool f) := hB.cell 1
    have f1 := hB.frozen 1
    have hk : Kept (fun k => k = rb) w (w.setCell ⟨rb, 1, none⟩ (.bool true)) := (Kept.refl _ _).set _ _ (fun _ => rfl)
    have hne := bs_ne_cn hr hB (by decide)
    have hfin : Rf (w.setCell ⟨rb, 1, none⟩ (.bool true)) rb (s, true) := ⟨_, by simpa using hB.set 1 (.bool true), hr.kept hk (fun k hkk e => by subst e; exact hne hkk)⟩
    have HF := hide hfin
    clear hfin hr hB
    cases f with
    | true =>
      go_enter Tryz.func219, Tryz.ntmps219
      go_wp2
      go_ret
      exact ⟨rfl, HF.out, hk⟩
    | false =>
      have hlt : (s.size : Int) < (n : Int) := by simp at hx; omega
      go_enter Tryz.func219, Tryz.ntmps219
      go_wp2
      go_ret
      exact ⟨rfl, HF.out, hk⟩
  · have hf : f = false := by cases f <;> simp_all
    subst hf
    have hn' : n ≤ s.size := by simp at hx; omega
    have e : tk n (s, false) = (s.extract 0 n, (s.extract n s.size, false)) := by unfold tk; rw [if_neg hx]
    rw [e]
    exact take_ok rb s n w h hn' hs
theorem num_nil : num ⟨#[]⟩ = 0 := rfl
set_option maxRecDepth 100000 in
theorem numOf0 (w : World) : Calls Tryz.prog 176 #[.string ⟨#[]⟩] w fun r w' => r = .returned (.int .i64 0) ∧ w = w' := by
  go_enter Tryz.func176, Tryz.ntmps176
  go_wp2
  refine wp_loop_rounds 1 ?_
  rw [rounds_succ]
  go_wp2
  go_ret
  exact ⟨rfl, rfl⟩
set_option maxRecDepth 100000 in
set_option maxHeartbeats 400000 in
theorem number_f (rb : Nat) (x : RS) (n : Nat) (w : World) (h : Rf w rb x) (hs : x.1.size ≤ 6000) (hn3 : n = 1 ∨ n = 2 ∨ n = 4) :
    Calls Tryz.prog 215 #[.pointer (some ⟨rb, 0, none⟩), .int .i64 n] w
      fun r w' => r = .returned (.int .i64 (nb n x).1) ∧ Rf w' rb (nb n x).2 ∧ Kept (fun k => k = rb) w w' := by
  have HC := hide (take_f rb x n w h hs (by omega))
  have HN : Hid (∀ w, Calls Tryz.prog 176 #[.string (tk n x).1] w fun r w' => r = .returned (.int .i64 (num (tk n x).1)) ∧ w = w') := by
    intro w
    rcases tk_or n x with hz | hz
    · rcases hn3 with rfl | rfl | rfl
      · exact numOf1 _ w hz
      · exact numOf2 _ w hz
      · exact numOf4 _ w hz
    · rw [hz]; exact numOf0 w
  have e : nb n x = (num (tk n x).1, (tk n x).2) := rfl
  rw [e]
  clear hn3 e h
  generalize (tk n x).1 = S at *
  generalize (tk n x).2 = X at *
  go_enter Tryz.func215, Tryz.ntmps215
  go_wp2_with (first | (go_at_call 219; refine HC.out.mono ?_; rintro e w1 ⟨rfl, hr1, hk1⟩) | (go_at_call 176; refine (HN.out _).mono ?_; rintro e w2 ⟨rfl, rfl⟩))
  go_ret
  exact ⟨rfl, hr1, hk1⟩
set_option maxRecDepth 100000 in
set_option maxHeartbeats 400000 in
theorem within_f (rb : Nat) (x : RS) (lo hi : Nat) (w : World) (h : Rf w rb x) (hs : x.1.size ≤ 6000) :
    Calls Tryz.prog 216 #[.pointer (some ⟨rb, 0, none⟩), .int .i64 lo, .int .i64 hi] w
      fun r w' => r = .returned (.int .i64 (wi lo hi x).1) ∧ Rf w' rb (wi lo hi x).2 ∧ Kept (fun k => k = rb) w w' := by
  have HC : Hid (Calls Tryz.prog 215 #[.pointer (some ⟨rb, 0, none⟩), .int .i64 1] w fun r w' => r = .returned (.int .i64 (nb 1 x).1) ∧ (Rf w' rb (nb 1 x).2 ∧ Kept (fun k => k = rb) w w') ∧ (∃ v, w'.cell? ⟨rb, 1, none⟩ = some v) ∧ w'.frozen? ⟨rb, 1, none⟩ = false) := by
    refine (number_f rb x 1 w h hs (.inl rfl)).mono ?_
    rintro e w' ⟨q1, q2, q3⟩
    obtain ⟨rv, hB, hr⟩ := id q2
    exact ⟨q1, ⟨q2, q3⟩, ⟨_, hB.cell 1⟩, hB.frozen 1⟩
  by_cases hx : (nb 1 x).1 < lo ∨ hi < (nb 1 x).1
  · have e : wi lo hi x = (0, ((nb 1 x).2.1, true)) := by unfold wi; rw [if_pos hx]
    rw [e]
    clear e h
    generalize nb 1 x = NX at *
    obtain ⟨v, X⟩ := NX
    simp only at hx HC ⊢
    have fin : Hid (∀ w1, (Rf w1 rb X ∧ Kept (fun k => k = rb) w w1) → Rf (w1.setCell ⟨rb, 1, none⟩ (.bool true)) rb (X.1, true) ∧ Kept (fun k => k = rb) w (w1.setCell ⟨rb, 1, none⟩ (.bool true))) := fun w1 ⟨h1, h2⟩ => by
      obtain ⟨rv, hB, hr⟩ := h1
      have hk : Kept (fun k => k = rb) w1 (w1.setCell ⟨rb, 1, none⟩ (.bool true)) := (Kept.refl _ _).set _ _ (fun _ => rfl)
      exact ⟨⟨_, by simpa using hB.set 1 (.bool true), hr.kept hk (fun k hkk e => by subst e; exact bs_ne_cn hr hB (by decide) hkk)⟩, h2.trans hk⟩
    by_cases h1 : v < lo
    · have i1 : (v : Int) < (lo : Int) := by omega
      go_enter Tryz.func216, Tryz.ntmps216
      go_wp2_with (go_at_call 215; refine HC.out.mono ?_; rintro e w1 ⟨rfl, hr1, ⟨u, hc1⟩, hf1⟩)
      go_ret
      exact ⟨rfl, fin.out _ hr1⟩
    · have i1 : ¬ ((v : Int) < (lo : Int)) := by omega
      have i2 : (hi : Int) < (v : Int) := by omega
      go_enter Tryz.func216, Tryz.ntmps216
      go_wp2_with (go_at_call 215; refine HC.out.mono ?_; rintro e w1 ⟨rfl, hr1, ⟨u, hc1⟩, hf1⟩)
      go_ret
      exact ⟨rfl, fin.out _ hr1⟩
  · have e : wi lo hi x = nb 1 x := by unfold wi; rw [if_neg hx]
    rw [e]
    clear e h
    generalize nb 1 x = NX at *
    obtain ⟨v, X⟩ := NX
    simp only at hx HC ⊢
    have i1 : ¬ ((v : Int) < (lo : Int)) := by omega
    have i2 : ¬ ((hi : Int) < (v : Int)) := by omega
    go_enter Tryz.func216, Tryz.ntmps216
    go_wp2_with (go_at_call 215; refine HC.out.mono ?_; rintro e w1 ⟨rfl, hr1, ⟨u, hc1⟩, hf1⟩)
    go_ret
    exact ⟨rfl, hr1⟩
set_option maxRecDepth 100000 in
set_option maxHeartbeats 400000 in
theorem name_f (rb : Nat) (x : RS) (w : World) (h : Rf w rb x) (hs : x.1.size ≤ 6000) :
    Calls Tryz.prog 232 #[.pointer (some ⟨rb, 0, none⟩)] w
      fun r w' => r = .returned (.string (na x).1) ∧ Rf w' rb (na x).2 ∧ Kept (fun k => k = rb) w w' := by
  have HC : Hid (Calls Tryz.prog 219 #[.pointer (some ⟨rb, 0, none⟩), .int .i64 34] w fun r w' => r = .returned (.string (tk 34 x).1) ∧ (Rf w' rb (tk 34 x).2 ∧ Kept (fun k => k = rb) w w') ∧ w'.cell? ⟨rb, 1, none⟩ = some (.bool (tk 34 x).2.2) ∧ w'.frozen? ⟨rb, 1, none⟩ = false) := by
    refine (take_f rb x 34 w h hs (by omega)).mono ?_
    rintro e w' ⟨q1, q2, q3⟩
    obtain ⟨rv, hB, hr⟩ := id q2
    exact ⟨q1, ⟨q2, q3⟩, hB.cell 1, hB.frozen 1⟩
  have hsz := tk_size 34 x
  have fin : Hid (∀ X : RS, ∀ w1, (Rf w1 rb X ∧ Kept (fun k => k = rb) w w1) → Rf (w1.setCell ⟨rb, 1, none⟩ (.bool true)) rb (X.1, true) ∧ Kept (fun k => k = rb) w (w1.setCell ⟨rb, 1, none⟩ (.bool true))) := fun X w1 ⟨h1, h2⟩ => by
    obtain ⟨rv, hB, hr⟩ := h1
    have hk : Kept (fun k => k = rb) w1 (w1.setCell ⟨rb, 1, none⟩ (.bool true)) := (Kept.refl _ _).set _ _ (fun _ => rfl)
    exact ⟨⟨_, by simpa using hB.set 1 (.bool true), hr.kept hk (fun k hkk e => by subst e; exact bs_ne_cn hr hB (by decide) hkk)⟩, h2.trans hk⟩
  unfold na
  clear h
  generalize tk 34 x = TX at *
  obtain ⟨S, X⟩ := TX
  simp only at HC hsz ⊢
  cases hX : X.2 with
  | true =>
    rw [hX] at HC
    rw [if_neg (by simp)]
    go_enter Tryz.func232, Tryz.ntmps232
    go_wp2_with (go_at_call 219; refine HC.out.mono ?_; rintro e w1 ⟨rfl, hr1, hc1, hf1⟩)
    go_ret
    exact ⟨rfl, hr1⟩
  | false =>
    rw [hX] at HC
    have HL := hide (fun w => length_any S w (by have := hsz hX; omega))
    by_cases hl : 120 < num (S.extract 0 2)
    · rw [if_pos ⟨rfl, hl⟩]
      have i1 : (120 : Int) < (num (S.extract 0 2) : Int) := by omega
      generalize num (S.extract 0 2) = L at *
      go_enter Tryz.func232, Tryz.ntmps232
      go_wp2_with (first | (go_at_call 219; refine HC.out.mono ?_; rintro e w1 ⟨rfl, hr1, hc1, hf1⟩) | (go_at_call 239; refine (HL.out _).mono ?_; rintro e w2 ⟨rfl, rfl⟩))
      go_ret
      exact ⟨rfl, fin.out _ _ hr1⟩
    · rw [if_neg (fun e => hl e.2)]
      have i1 : ¬ ((120 : Int) < (num (S.extract 0 2) : Int)) := by omega
      generalize num (S.extract 0 2) = L at *
      go_enter Tryz.func232, Tryz.ntmps232
      go_wp2_with (first | (go_at_call 219; refine HC.out.mono ?_; rintro e w1 ⟨rfl, hr1, hc1, hf1⟩) | (go_at_call 239; refine (HL.out _).mono ?_; rintro e w2 ⟨rfl, rfl⟩))
      go_ret
      exact ⟨rfl, hr1⟩
end Go.Proofs.YthpmcilljbmoiaaGreatDoor
