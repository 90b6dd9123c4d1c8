import Derived.Test.YthpmcilljbmoiaaGreatDoorZ31
namespace Go.Proofs.YthpmcilljbmoiaaGreatDoor
open Go.RowKit

/-- a step -/
def stepP (K : List Nat) (m : Nat) (s : Pst) : Nat × Pst := match s.C.work with
  | some W => if W.done < W.rq.items then (2, ⟨(itemP K m s.D W).1, { s.C with work := some { W with done := W.done + 1, body := W.body ++ (itemP K m s.D W).2 } }⟩) else (3, toldP s W)
  | none => match cutF s.C.wait with
    | none => (0, s)
    | some (i, r) => match ps i with
      | none => (4, ⟨s.D, ⟨⟨#[]⟩, s.C.going ++ frm 255 (refNum i) (b8 1), none, true⟩⟩)
      | some q => (1, ⟨(begP s.D q).1, { s.C with wait := r, work := some (begP s.D q).2 }⟩)
/-- bounds -/
structure OkP (m : Nat) (s : Pst) : Prop where
  d : OkD m s.D
  w : ∀ W, s.C.work = some W → OkW m s.D W ∧ W.done ≤ W.rq.items
  g : s.C.going.size ≤ 200000
  wt : s.C.wait.size ≤ 6000
theorem cutF_size {s i r : ByteArray} (h : cutF s = some (i, r)) : i.size ≤ s.size := by
  unfold cutF at h
  split at h
  · cases h
  · split at h
    · injection h with h; injection h with h1 h2; subst h1; exact Nat.zero_le _
    · split at h
      · cases h
      · injection h with h; injection h with h1 h2; subst h1; rw [ByteArray.size_extract]; omega
section
variable {K : List Nat} {w w' : World} {F : Nat → Prop} {db kb m t : Nat} {s : Pst}
theorem MemX.back {w1 : World} {s' : Pst} (h : MemX K w F db kb m t s) (hb : Below w.heap.size w w1) (h' : MemX K w' (ext F w1 w') db kb m t s' ∧ Kept F w1 w') : MemX K w' (ext F w w') db kb m t s' ∧ Kept F w w' := by
  have hl := h.lt
  obtain ⟨G, H, shv, cv, lv, av, sh, bvs, lbs, nvs, wv, gv, wk, h⟩ := h
  refine ⟨h'.1.wider (ext_mono hb.size) (fun k q => ?_) (fun q => ?_), (Kept.ofBelow hb).trans h'.2⟩
  · rcases q with q | q
    · exact Nat.lt_of_lt_of_le (hl k q) (Nat.le_trans hb.size h'.2.size)
    · exact q.2
  · rcases q with q | q
    · exact h.nf q
    · have := h.tb.lt; omega
theorem itemP_n (K : List Nat) (m : Nat) (D : Dps) (W : Wps) (h : W.rq.isF = true) : (itemP K m D W).1.n = D.n := by
  obtain ⟨rq, lsd, done, body⟩ := W
  cases rq <;> simp [Req.isF] at h
  simp only [itemP, dFind]
  split
  · split <;> rfl
  · rfl
/-- a step of the program is a step of the state -/
theorem step_mem (h : MemX K w F db kb m t s) (ho : OkP m s) (hq : ∀ i r q, cutF s.C.wait = some (i, r) → ps i = some q → OkR q) :
    Calls Tryz.prog 49 #[.pointer (some ⟨db, 0, none⟩), .pointer (some ⟨kb, 0, none⟩)] w
      fun r w' => r = .returned (.int .i64 ((stepP K m s).1 : Int)) ∧ MemX K w' (ext F w w') db kb m t (stepP K m s).2 ∧ Kept F w w' := by
  have hX := h
  obtain ⟨G, H, shv, cv, lv, av, sh, bvs, lbs, nvs, wv, gv, wk, h⟩ := h
  have hC := h.con
  have hcur := hC.cur
  cases hw : s.C.work with
  | some W =>
    obtain ⟨hW0, hdn⟩ := ho.w W hw
    rw [hw] at hcur
    obtain ⟨wb, v, bv, rfl, hW, hap⟩ := hcur
    by_cases hd : W.done < W.rq.items
    · have es : stepP K m s = (2, ⟨(itemP K m s.D W).1, { s.C with work := some { W with done := W.done + 1, body := W.body ++ (itemP K m s.D W).2 } }⟩) := by unfold stepP; rw [hw]; exact if_pos hd
      rw [es]
      refine step_item_any db kb wb W.rq v W.done _ H wv gv _ bv w _ hW.rq hW0.lp hC.blk hW.blk hd (fun w1 hb => ?_)
      have h1 := h.below hb
      have hW1 := hW.kept (Kept.ofBelow (S := fun _ => False) hb) (fun _ _ h => h)
      refine (mem_item h1 hW1 ho.d hW0 hd).mono ?_
      rintro r w' ⟨q0, q1⟩
      exact ⟨q0, rfl, hX.back hb (h1.item hw rfl hW1 hap (fun e => itemP_n K m s.D W (hW0.ls e).1) q1)⟩
    · have es : stepP K m s = (3, toldP s W) := by unfold stepP; rw [hw]; exact if_neg hd
      rw [es]
      refine step_told_any db kb wb W.rq v W.done _ H wv gv _ bv w _ hW.rq hW0.lp hC.blk hW.blk (by omega) (fun w1 hb => ?_)
      have h1 := h.below hb
      have hW1 := hW.kept (Kept.ofBelow (S := fun _ => False) hb) (fun _ _ h => h)
      refine (mem_reply h1 rfl hW1 ho.d hW0 ho.g).mono ?_
      rintro r w' ⟨q0, q1⟩
      exact ⟨q0, rfl, hX.back hb q1⟩
  | none =>
    rw [hw] at hcur
    obtain rfl : wk = _ := hcur
    refine step_begin db kb wv gv _ w _ hC.blk ?_
    cases hc : cutF s.C.wait with
    | none =>
      have es : stepP K m s = (0, s) := by unfold stepP; rw [hw]; simp only; rw [hc]
      rw [es]
      refine (begin_wait db kb wv gv _ s.C.wait w hC.blk hC.wt ho.wt hc).mono ?_
      rintro r w' ⟨q0, q1⟩
      exact ⟨0, q0, q0, hX.back q1 ⟨(hX.below q1).wider ext_in (fun k q => q.elim ((hX.below q1).lt k) (fun q => q.2)) (fun q => q.elim h.nf (fun q => by omega)), Kept.refl _ _⟩⟩
    | some p =>
      obtain ⟨i, r⟩ := p
      have hiz : i.size ≤ 6000 := Nat.le_trans (cutF_size hc) ho.wt
      cases hp : ps i with
      | none =>
        have es : stepP K m s = (4, ⟨s.D, ⟨⟨#[]⟩, s.C.going ++ frm 255 (refNum i) (b8 1), none, true⟩⟩) := by unfold stepP; rw [hw]; simp only; rw [hc]; simp only; rw [hp]
        rw [es]
        refine (begin_refused db kb wv gv _ s.C.wait i r s.C.going w hC.blk hC.wt hC.gg ho.wt ho.g hc hp hiz).mono ?_
        rintro e w' ⟨q0, gv', q1, q2, q3, q4⟩
        exact ⟨4, q0, q0, h.sent (h.dep.wider (F' := ext G w w) ext_in) (Kept.refl _ _) q1 (Bs.nil _ _) (fun k e => by simp [Value.ownBlock] at e) q2 q3 q4⟩
      | some q =>
        have es : stepP K m s = (1, ⟨(begP s.D q).1, { s.C with wait := r, work := some (begP s.D q).2 }⟩) := by unfold stepP; rw [hw]; simp only; rw [hc]; simp only; rw [hp]
        rw [es]
        refine (mem_begin h hw ho.d.n20 ho.d.bg ho.wt hiz hc hp (hq i r q hc hp)).mono ?_
        rintro e w' ⟨q0, q1⟩
        exact ⟨1, q0, q0, q1⟩
end
end Go.Proofs.YthpmcilljbmoiaaGreatDoor
namespace Go.Proofs.YthpmcilljbmoiaaGreatDoor
open Go.RowKit

theorem foldl_num : ∀ (l : List UInt8) (a : Nat), l.foldl (fun n b => n * 256 + b.toNat) a < (a + 1) * 256 ^ l.length
  | [], a => by simp
  | b :: l, a => by
    have h := foldl_num l (a * 256 + b.toNat)
    have hb := b.toNat_lt
    simp only [List.foldl_cons, List.length_cons]
    refine Nat.lt_of_lt_of_le h ?_
    rw [Nat.pow_succ, Nat.mul_comm (256 ^ l.length) 256, ← Nat.mul_assoc]
    exact Nat.mul_le_mul_right _ (by omega)
theorem num_lt (s : ByteArray) : num s < 256 ^ s.size := by
  have h := foldl_num s.data.toList 0
  have e : s.data.toList.length = s.size := by rw [Array.length_toList]; rfl
  rw [e] at h
  unfold num
  omega
theorem tk_f {n : Nat} {x : RS} (h : (tk n x).2.2 = false) : x.2 = false ∧ (tk n x).1.size = n ∧ (tk n x).2.1.size + n = x.1.size := by
  unfold tk at h ⊢
  split at h
  · simp at h
  · next hc =>
    rw [if_neg hc]
    have h1 : ¬ x.2 = true := fun e => hc (.inl e)
    have h2 : ¬ x.1.size < n := fun e => hc (.inr e)
    refine ⟨by simpa using h1, ?_, ?_⟩
    · simp only [ByteArray.size_extract]; omega
    · simp only [ByteArray.size_extract]; omega
theorem nb_f {n : Nat} {x : RS} (h : (nb n x).2.2 = false) : x.2 = false ∧ (nb n x).1 < 256 ^ n ∧ (nb n x).2.1.size + n = x.1.size := by
  obtain ⟨h1, h2, h3⟩ := tk_f (n := n) (x := x) h
  exact ⟨h1, by have := num_lt (tk n x).1; rw [h2] at this; exact this, h3⟩
theorem wi_f {lo hi : Nat} {x : RS} (h : (wi lo hi x).2.2 = false) : x.2 = false ∧ lo ≤ (wi lo hi x).1 ∧ (wi lo hi x).1 ≤ hi ∧ (wi lo hi x).2.1.size + 1 = x.1.size := by
  unfold wi at h ⊢
  split at h
  · simp at h
  · next hc =>
    rw [if_neg hc]
    obtain ⟨h1, h2, h3⟩ := nb_f h
    exact ⟨h1, by omega, by omega, h3⟩
theorem na_f {x : RS} (h : (na x).2.2 = false) : x.2 = false ∧ (na x).1.size = 34 ∧ num ((na x).1.extract 0 2) ≤ 120 ∧ (na x).2.1.size + 34 = x.1.size := by
  obtain ⟨h5, h6⟩ := na_ok x h
  unfold na at h ⊢
  split at h
  · simp at h
  · next hc =>
    rw [if_neg hc]
    obtain ⟨h1, h2, h3⟩ := tk_f h
    refine ⟨h1, h2, ?_, h3⟩
    unfold na at h6
    rw [if_neg hc] at h6
    exact h6
theorem lsN_f {x : RS} : ∀ n, (lsN n x).2.2 = false → x.2 = false ∧ (∀ y ∈ (lsN n x).1, y.size = 34) ∧ (lsN n x).2.1.size + 34 * n = x.1.size
  | 0, h => ⟨h, fun y hy => by simp [lsN] at hy, by simp [lsN]⟩
  | n + 1, h => by
    have h' : (na (lsN n x).2).2.2 = false := h
    obtain ⟨g1, g2, g3, g4⟩ := na_f h'
    obtain ⟨i1, i2, i3⟩ := lsN_f n g1
    refine ⟨i1, fun y hy => ?_, ?_⟩
    · rw [lsN] at hy
      rcases List.mem_append.1 hy with hy | hy
      · exact i2 y hy
      · simp at hy; subst hy; exact g2
    · rw [lsN]
      show (na (lsN n x).2).2.1.size + 34 * (n + 1) = x.1.size
      omega
/-- the bytes of blobs -/
def bytesN (l : List (ByteArray × ByteArray)) : Nat := (l.map fun b => b.2.size).sum
theorem bo_f {x : RS} (h : (bo x).2.2 = false) : x.2 = false ∧ (bo x).1.1.size = 34 ∧ (bo x).1.2.size ≤ 120 ∧ (bo x).2.1.size + 34 + (bo x).1.2.size = x.1.size := by
  unfold bo at h ⊢
  split at h
  · next hc => rw [hc] at h; cases h
  · next hc =>
    rw [if_neg hc]
    obtain ⟨g1, g2, g3, g4⟩ := na_f (x := x) (by simpa using hc)
    obtain ⟨k1, k2, k3⟩ := tk_f h
    refine ⟨g1, g2, ?_, ?_⟩
    · show (tk _ _).1.size ≤ 120
      rw [k2]; exact g3
    · show (tk _ _).2.1.size + 34 + (tk _ _).1.size = _
      rw [k2]; omega
theorem bsN_f {x : RS} : ∀ n, (bsN n x).2.2 = false → x.2 = false ∧ (∀ y ∈ (bsN n x).1, y.1.size = 34 ∧ y.2.size ≤ 120) ∧ (bsN n x).2.1.size + 34 * n + bytesN (bsN n x).1 = x.1.size
  | 0, h => ⟨h, fun y hy => by simp [bsN] at hy, by simp [bsN, bytesN]⟩
  | n + 1, h => by
    have h' : (bo (bsN n x).2).2.2 = false := h
    obtain ⟨g1, g2, g3, g4⟩ := bo_f h'
    obtain ⟨i1, i2, i3⟩ := bsN_f n g1
    refine ⟨i1, fun y hy => ?_, ?_⟩
    · rw [bsN] at hy
      rcases List.mem_append.1 hy with hy | hy
      · exact i2 y hy
      · simp at hy; subst hy; exact ⟨g2, g3⟩
    · rw [bsN]
      show (bo (bsN n x).2).2.1.size + 34 * (n + 1) + bytesN ((bsN n x).1 ++ [(bo (bsN n x).2).1]) = x.1.size
      have e : bytesN ((bsN n x).1 ++ [(bo (bsN n x).2).1]) = bytesN (bsN n x).1 + (bo (bsN n x).2).1.2.size := by simp [bytesN]
      rw [e]
      omega
/-- what a request still stores -/
def Req.bytes (q : Req) (d : Nat) : Nat := match q with
  | .update _ bs => bytesN (bs.drop d)
  | _ => 0
theorem Req.bytes_next (q : Req) (d : Nat) (hd : d < q.items) : q.lays d + q.bytes (d + 1) = q.bytes d := by
  cases q with
  | update id bs =>
    have hd' : d < bs.length := hd
    simp only [Req.lays, Req.bytes, getD_at _ _ hd']
    rw [List.drop_eq_getElem_cons hd']
    simp only [bytesN, List.map_cons, List.sum_cons]
  | find id ns t => rfl
  | read id ns => rfl
  | get id key => rfl
  | put id key val => rfl
  | release id l => rfl
/-- what a well formed request is -/
theorem ps_ok {s : ByteArray} {q : Req} (h : ps s = some q) : OkR q ∧ 3 * (q.items + 2) ≤ s.size + 2 ∧ q.bytes 0 ≤ s.size := by
  unfold ps at h
  split at h
  · cases h
  · next hc =>
    have hf : (rq (s, false)).2.2 = false := by
      cases e : (rq (s, false)).2.2 with
      | false => rfl
      | true => exact absurd (.inl e) hc
    generalize hk : (nb 1 (s, false)) = a at *
    generalize hi : (nb 2 a.2) = b at *
    have er : rq (s, false) = rqk a.1 b.1 b.2 := by unfold rq; rw [hk, hi]
    rw [er] at h hf
    have fin : b.2.2 = false → b.1 < 65536 ∧ b.2.1.size + 3 = s.size := fun hb => by
      rw [← hi] at hb ⊢
      obtain ⟨g1, g2, g3⟩ := nb_f hb
      rw [← hk] at g1 g3
      obtain ⟨k1, k2, k3⟩ := nb_f g1
      refine ⟨g2, ?_⟩
      rw [← hk]
      have : (s, false).1.size = s.size := rfl
      omega
    unfold rqk at h hf
    split at h
    · next c1 =>
      rw [if_pos c1] at hf
      injection h with h; subst h
      have hf' : (lsN (wi 1 16 (wi 1 100 b.2).2).1 (wi 1 16 (wi 1 100 b.2).2).2).2.2 = false := hf
      obtain ⟨l1, l2, l3⟩ := lsN_f _ hf'
      obtain ⟨v1, v2, v3, v4⟩ := wi_f l1
      obtain ⟨u1, u2, u3, u4⟩ := wi_f v1
      obtain ⟨f1, f2⟩ := fin u1
      have hlen : (li (wi 1 100 b.2).2).1.length = (wi 1 16 (wi 1 100 b.2).2).1 := lsN_len _ _
      refine ⟨⟨f1, by rw [hlen]; exact v2, by rw [hlen]; exact v3, l2, u2, u3⟩, ?_, Nat.zero_le _⟩
      show 3 * ((li (wi 1 100 b.2).2).1.length + 2) ≤ _
      rw [hlen]; omega
    · next c1 =>
      rw [if_neg c1] at hf
      split at h
      · next c2 =>
        rw [if_pos c2] at hf
        injection h with h; subst h
        have hf' : (lsN (wi 1 16 b.2).1 (wi 1 16 b.2).2).2.2 = false := hf
        obtain ⟨l1, l2, l3⟩ := lsN_f _ hf'
        obtain ⟨v1, v2, v3, v4⟩ := wi_f l1
        obtain ⟨f1, f2⟩ := fin v1
        have hlen : (li b.2).1.length = (wi 1 16 b.2).1 := lsN_len _ _
        refine ⟨⟨f1, by rw [hlen]; exact v2, by rw [hlen]; exact v3, l2⟩, ?_, Nat.zero_le _⟩
        show 3 * ((li b.2).1.length + 2) ≤ _
        rw [hlen]; omega
      · next c2 =>
        rw [if_neg c2] at hf
        split at h
        · next c3 =>
          rw [if_pos c3] at hf
          injection h with h; subst h
          have hf' : (bsN (wi 1 16 b.2).1 (wi 1 16 b.2).2).2.2 = false := hf
          obtain ⟨l1, l2, l3⟩ := bsN_f _ hf'
          obtain ⟨v1, v2, v3, v4⟩ := wi_f l1
          obtain ⟨f1, f2⟩ := fin v1
          have hlen : (bl b.2).1.length = (wi 1 16 b.2).1 := bsN_len _ _
          refine ⟨⟨f1, by rw [hlen]; exact v2, by rw [hlen]; exact v3, l2⟩, ?_, ?_⟩
          · show 3 * ((bl b.2).1.length + 2) ≤ _
            rw [hlen]; omega
          · show bytesN ((bl b.2).1.drop 0) ≤ s.size
            rw [List.drop_zero]
            have : bytesN (bl b.2).1 = bytesN (bsN (wi 1 16 b.2).1 (wi 1 16 b.2).2).1 := rfl
            omega
        · next c3 =>
          rw [if_neg c3] at hf
          split at h
          · next c4 =>
            rw [if_pos c4] at hf
            injection h with h; subst h
            obtain ⟨v1, v2, v3⟩ := tk_f hf
            obtain ⟨f1, f2⟩ := fin v1
            exact ⟨f1, by show 3 * (1 + 2) ≤ _; omega, Nat.zero_le _⟩
          · next c4 =>
            rw [if_neg c4] at hf
            split at h
            · next c5 =>
              rw [if_pos c5] at hf
              injection h with h; subst h
              obtain ⟨v1, v2, v3⟩ := tk_f hf
              obtain ⟨u1, u2, u3, u4⟩ := wi_f v1
              obtain ⟨t1, t2, t3⟩ := tk_f u1
              obtain ⟨f1, f2⟩ := fin t1
              exact ⟨⟨f1, by rw [v2]; exact u3⟩, by show 3 * (1 + 2) ≤ _; omega, Nat.zero_le _⟩
            · next c5 =>
              rw [if_neg c5] at hf
              split at h
              · next c6 =>
                rw [if_pos c6] at hf
                injection h with h; subst h
                obtain ⟨v1, v2, v3⟩ := nb_f hf
                obtain ⟨f1, f2⟩ := fin v1
                exact ⟨⟨f1, v2⟩, by show 3 * (1 + 2) ≤ _; omega, Nat.zero_le _⟩
              · cases h
end Go.Proofs.YthpmcilljbmoiaaGreatDoor
namespace Go.Proofs.YthpmcilljbmoiaaGreatDoor
open Go.RowKit

/-- bounds of a shard -/
def ShOk (t : Nat) (l : List Bl) : Prop := l.length ≤ t ∧ ∀ b ∈ l, b.pn ≤ t ∧ b.bs.size ≤ 120
theorem ShOk.mono {t t' : Nat} {l : List Bl} (h : ShOk t l) (ht : t ≤ t') : ShOk t' l := ⟨Nat.le_trans h.1 ht, fun b hb => ⟨Nat.le_trans (h.2 b hb).1 ht, (h.2 b hb).2⟩⟩
theorem ShOk.set {t : Nat} {l : List Bl} (h : ShOk t l) (i : Nat) (b : Bl) (hb : b.pn ≤ t + 1 ∧ b.bs.size ≤ 120) : ShOk (t + 1) (l.set i b) := by
  refine ⟨by rw [List.length_set]; exact Nat.le_succ_of_le h.1, fun x hx => ?_⟩
  rcases List.mem_or_eq_of_mem_set hx with hx | rfl
  · exact ⟨Nat.le_succ_of_le (h.2 x hx).1, (h.2 x hx).2⟩
  · exact hb
theorem pinUp_ok {t : Nat} {l : List Bl} (h : ShOk t l) (nm : ByteArray) : ShOk (t + 1) (pinUp l nm) ∧ heldN (pinUp l nm) = heldN l := by
  cases hx : ixB l nm with
  | none => unfold pinUp; rw [hx]; exact ⟨h.mono (Nat.le_succ _), rfl⟩
  | some i =>
    have hi := ixB_lt _ _ _ hx
    have hb := h.2 _ (List.getElem_mem hi)
    rw [pinUp_at hx hi]
    exact ⟨h.set i _ ⟨Nat.succ_le_succ hb.1, hb.2⟩, held_pinsAt _ _ hi _⟩
theorem mkUp_ok {t : Nat} {l : List Bl} (h : ShOk t l) (nm : ByteArray) : ShOk (t + 1) (mkUp l nm) ∧ heldN (mkUp l nm) = heldN l := by
  cases hx : ixB l nm with
  | none => unfold mkUp; rw [hx]; exact ⟨h.mono (Nat.le_succ _), rfl⟩
  | some i =>
    have hi := ixB_lt _ _ _ hx
    have hb := h.2 _ (List.getElem_mem hi)
    rw [mkUp_at hx hi]
    exact ⟨h.set i _ ⟨Nat.le_succ_of_le hb.1, hb.2⟩, held_marked _ _ hi⟩
theorem unUp_ok {t : Nat} {l : List Bl} (h : ShOk t l) (nm : ByteArray) : ShOk t (unUp l nm) ∧ heldN (unUp l nm) = heldN l := by
  rcases unUp_cases l nm with e | ⟨i, hi, _, hp, e⟩
  · rw [e]; exact ⟨h, rfl⟩
  · rw [e]
    have hb := h.2 _ (List.getElem_mem hi)
    refine ⟨⟨by rw [pinsAt, List.length_set]; exact h.1, fun x hx => ?_⟩, held_pinsAt _ _ hi _⟩
    rw [pinsAt] at hx
    rcases List.mem_or_eq_of_mem_set hx with hx | rfl
    · exact h.2 x hx
    · exact ⟨Nat.le_trans (Nat.sub_le _ _) hb.1, hb.2⟩
/-- bounds of a depot behind t steps -/
structure InvD (m t : Nat) (D : Dps) : Prop where
  sh : ∀ j, j < m → ShOk t (D.shs j)
  nms : ∀ i, i < D.n → (D.les i).names.length ≤ t ∧ ∀ nm ∈ (D.les i).names, nm.size = 34
  ttl : ∀ i, i < D.n → (D.les i).ttl ≤ 100
  n20 : D.n ≤ 20
  bg : D.begun ≤ t
  ac : D.acts.length ≤ 32
  av : ∀ a ∈ D.acts, a.2.size ≤ 50
theorem InvD.mono {m t t' : Nat} {D : Dps} (h : InvD m t D) (ht : t ≤ t') : InvD m t' D :=
  ⟨fun j hj => (h.sh j hj).mono ht, fun i hi => ⟨Nat.le_trans (h.nms i hi).1 ht, (h.nms i hi).2⟩, h.ttl, h.n20, Nat.le_trans h.bg ht, h.ac, h.av⟩
theorem upd_all {α : Type} {P : Nat → α → Prop} {f : Nat → α} {j : Nat} {x : α} {m : Nat} (h : ∀ i, i < m → i ≠ j → P i (f i)) (hx : j < m → P j x) : ∀ i, i < m → P i (upd f j x i) := fun i hi => by
  by_cases e : i = j
  · subst e; rw [upd_same]; exact hx hi
  · rw [upd_other _ _ _ _ e]; exact h i hi e
/-- a shard turns -/
theorem InvD.shard {m t : Nat} {D : Dps} (h : InvD m t D) (k : Nat) (l : List Bl) (hl : ShOk (t + 1) l) : InvD m (t + 1) { D with shs := upd D.shs k l } :=
  have h' := h.mono (Nat.le_succ t)
  ⟨upd_all (P := fun _ l => ShOk (t + 1) l) (fun j hj _ => h'.sh j hj) (fun _ => hl), h'.nms, h'.ttl, h'.n20, h'.bg, h'.ac, h'.av⟩
theorem dFind_ok {m t : Nat} {D : Dps} (hm : 0 < m) (h : InvD m t D) (nm : ByteArray) (hn : nm.size = 34) (lsd : Bool) : InvD m (t + 1) (dFind m D nm lsd).1 ∧ (∀ j, j < m → heldN ((dFind m D nm lsd).1.shs j) = heldN (D.shs j)) := by
  have h' := h.mono (Nat.le_succ t)
  unfold dFind
  split
  · split
    · have hp := pinUp_ok (h.sh _ (shIx_lt hm nm)) nm
      refine ⟨⟨upd_all (P := fun _ l => ShOk (t + 1) l) (fun j hj _ => h'.sh j hj) (fun _ => hp.1), upd_all (P := fun _ (e : Le) => e.names.length ≤ t + 1 ∧ ∀ nm ∈ e.names, nm.size = 34) (fun i hi _ => h'.nms i hi) (fun hi => ?_), upd_all (P := fun _ (e : Le) => e.ttl ≤ 100) (fun i hi _ => h'.ttl i hi) (fun hi => h.ttl _ hi), h'.n20, h'.bg, h'.ac, h'.av⟩, upd_all (P := fun j l => heldN l = heldN (D.shs j)) (fun _ _ _ => rfl) (fun _ => hp.2)⟩
      have hh := h.nms _ hi
      refine ⟨?_, fun x hx => ?_⟩
      · show ((D.les (D.n - 1)).names ++ [nm]).length ≤ t + 1
        rw [List.length_append, List.length_singleton]; exact Nat.succ_le_succ hh.1
      · rcases List.mem_append.1 hx with hx | hx
        · exact hh.2 x hx
        · simp at hx; subst hx; exact hn
    · exact ⟨h', fun _ _ => rfl⟩
  · exact ⟨h', fun _ _ => rfl⟩
theorem dRead_ok {m t : Nat} {D : Dps} (hm : 0 < m) (h : InvD m t D) (nm : ByteArray) : InvD m (t + 1) (dRead m D nm).1 ∧ (∀ j, j < m → heldN ((dRead m D nm).1.shs j) = heldN (D.shs j)) := by
  unfold dRead
  split
  · have hp := mkUp_ok (h.sh _ (shIx_lt hm nm)) nm
    exact ⟨h.shard _ _ hp.1, upd_all (P := fun j l => heldN l = heldN (D.shs j)) (fun _ _ _ => rfl) (fun _ => hp.2)⟩
  · exact ⟨h.mono (Nat.le_succ t), fun _ _ => rfl⟩
theorem dUpd_ok {K : List Nat} {m t : Nat} {D : Dps} (hm : 0 < m) (h : InvD m t D) (nm bs : ByteArray) (hb : bs.size ≤ 120) : InvD m (t + 1) (dUpd K m D nm bs).1 ∧ (∀ j, j < m → heldN ((dUpd K m D nm bs).1.shs j) ≤ heldN (D.shs j) + bs.size) := by
  have hs := h.sh _ (shIx_lt hm nm)
  unfold dUpd
  split
  · split
    · have hp := mkUp_ok hs nm
      exact ⟨h.shard _ _ hp.1, upd_all (P := fun j l => heldN l ≤ heldN (D.shs j) + bs.size) (fun _ _ _ => Nat.le_add_right _ _) (fun _ => by rw [hp.2]; exact Nat.le_add_right _ _)⟩
    · refine ⟨h.shard _ _ ⟨by rw [List.length_append, List.length_singleton]; exact Nat.succ_le_succ hs.1, fun b hb2 => ?_⟩, upd_all (P := fun j l => heldN l ≤ heldN (D.shs j) + bs.size) (fun _ _ _ => Nat.le_add_right _ _) (fun _ => by rw [held_app]; exact Nat.le_refl _)⟩
      rcases List.mem_append.1 hb2 with hb2 | hb2
      · exact ⟨Nat.le_succ_of_le (hs.2 b hb2).1, (hs.2 b hb2).2⟩
      · simp at hb2; subst hb2; exact ⟨Nat.zero_le _, hb⟩
  · exact ⟨h.mono (Nat.le_succ t), fun _ _ => Nat.le_add_right _ _⟩
theorem unAll_ok {m t : Nat} : ∀ (nms : List ByteArray) (f : Nat → List Bl), (∀ j, j < m → ShOk t (f j)) → (∀ j, j < m → ShOk t (unAll m f nms j)) ∧ ∀ j, j < m → heldN (unAll m f nms j) = heldN (f j)
  | [], f, h => ⟨h, fun _ _ => rfl⟩
  | nm :: r, f, h => by
    have hstep : ∀ j, j < m → ShOk t (upd f (shIx m nm) (unUp (f (shIx m nm)) nm) j) := upd_all (P := fun _ l => ShOk t l) (fun j hj _ => h j hj) (fun hj => (unUp_ok (h _ hj) nm).1)
    have hheld : ∀ j, j < m → heldN (upd f (shIx m nm) (unUp (f (shIx m nm)) nm) j) = heldN (f j) := upd_all (P := fun j l => heldN l = heldN (f j)) (fun _ _ _ => rfl) (fun hj => (unUp_ok (h _ hj) nm).2)
    obtain ⟨i1, i2⟩ := unAll_ok r (upd f (shIx m nm) (unUp (f (shIx m nm)) nm)) hstep
    exact ⟨i1, fun j hj => (i2 j hj).trans (hheld j hj)⟩
theorem remF_all {α : Type} {P : α → Prop} {f : Nat → α} {n e : Nat} (h : ∀ i, i < n → P (f i)) : ∀ i, i < n - 1 → P (remF f e i) := fun i hi => by
  unfold remF
  split
  · exact h i (by omega)
  · exact h (i + 1) (by omega)
theorem dRel_ok {m t : Nat} {D : Dps} (h : InvD m t D) (l : Nat) : InvD m (t + 1) (dRel m D l).1 ∧ (∀ j, j < m → heldN ((dRel m D l).1.shs j) = heldN (D.shs j)) := by
  unfold dRel
  split
  · exact ⟨h.mono (Nat.le_succ t), fun _ _ => rfl⟩
  · next e _ =>
    obtain ⟨i1, i2⟩ := unAll_ok (D.les e).names D.shs h.sh
    have h' := h.mono (Nat.le_succ t)
    exact ⟨⟨fun j hj => (i1 j hj).mono (Nat.le_succ t), remF_all (P := fun (e : Le) => e.names.length ≤ t + 1 ∧ ∀ nm ∈ e.names, nm.size = 34) h'.nms, remF_all (P := fun (e : Le) => e.ttl ≤ 100) h'.ttl, Nat.le_trans (Nat.sub_le _ _) h.n20, h'.bg, h'.ac, h'.av⟩, i2⟩
theorem actPut_ok {acts : List (ByteArray × ByteArray)} (ha : acts.length ≤ 32) (hv : ∀ a ∈ acts, a.2.size ≤ 50) (key val : ByteArray) (hval : val.size ≤ 50) : (actPut acts key val).length ≤ 32 ∧ ∀ a ∈ actPut acts key val, a.2.size ≤ 50 := by
  unfold actPut
  split
  · refine ⟨by rw [List.length_set]; exact ha, fun a hx => ?_⟩
    rcases List.mem_or_eq_of_mem_set hx with hx | rfl
    · exact hv a hx
    · exact hval
  · split
    · next hl =>
      refine ⟨by rw [List.length_append, List.length_singleton]; omega, fun a hx => ?_⟩
      rcases List.mem_append.1 hx with hx | hx
      · exact hv a hx
      · simp at hx; subst hx; exact hval
    · refine ⟨by rw [List.length_append, List.length_singleton, List.length_tail]; omega, fun a hx => ?_⟩
      rcases List.mem_append.1 hx with hx | hx
      · exact hv a (List.mem_of_mem_tail hx)
      · simp at hx; subst hx; exact hval
theorem itemP_ok {K : List Nat} {m t : Nat} {D : Dps} (hm : 0 < m) (h : InvD m t D) (W : Wps) (hr : OkR W.rq) (hd : W.done < W.rq.items) : InvD m (t + 1) (itemP K m D W).1 ∧ (∀ j, j < m → heldN ((itemP K m D W).1.shs j) ≤ heldN (D.shs j) + W.rq.lays W.done) := by
  obtain ⟨rq, lsd, done, body⟩ := W
  cases rq with
  | find id ns tt =>
    have hd' : done < ns.length := hd
    simp only [itemP, getD_at _ _ hd']
    obtain ⟨i1, i2⟩ := dFind_ok hm h ns[done] (hr.2.2.2.1 _ (List.getElem_mem hd')) lsd
    exact ⟨i1, fun j hj => by rw [i2 j hj]; exact Nat.le_add_right _ _⟩
  | read id ns =>
    have hd' : done < ns.length := hd
    simp only [itemP, getD_at _ _ hd']
    obtain ⟨i1, i2⟩ := dRead_ok hm h ns[done]
    exact ⟨i1, fun j hj => by rw [i2 j hj]; exact Nat.le_add_right _ _⟩
  | update id bs =>
    have hd' : done < bs.length := hd
    simp only [itemP, Req.lays, getD_at _ _ hd']
    exact dUpd_ok hm h _ _ (hr.2.2.2 _ (List.getElem_mem hd')).2
  | get id key =>
    have e : (itemP K m D ⟨.get id key, lsd, done, body⟩).1 = D := by simp only [itemP, dGet]; split <;> rfl
    rw [e]
    exact ⟨h.mono (Nat.le_succ t), fun _ _ => Nat.le_add_right _ _⟩
  | put id key val =>
    have h' := h.mono (Nat.le_succ t)
    have ha := actPut_ok h.ac h.av key val hr.2
    exact ⟨⟨h'.sh, h'.nms, h'.ttl, h'.n20, h'.bg, ha.1, ha.2⟩, fun _ _ => Nat.le_add_right _ _⟩
  | release id l =>
    obtain ⟨i1, i2⟩ := dRel_ok h l
    exact ⟨i1, fun j hj => by rw [show (itemP K m D ⟨.release id l, lsd, done, body⟩).1 = (dRel m D l).1 from rfl, i2 j hj]; exact Nat.le_add_right _ _⟩
/-- what is still to be stored, what is told so far -/
def pend : Option Wps → Nat
  | none => 0
  | some W => W.rq.bytes W.done
def bodyN : Option Wps → Nat
  | none => 0
  | some W => W.body.size
/-- bounds behind t steps and L bytes -/
structure Ivp (m t L : Nat) (s : Pst) : Prop where
  d : InvD m t s.D
  held : ∀ j, j < m → heldN (s.D.shs j) + pend s.C.work + s.C.wait.size ≤ L
  wt : s.C.wait.size ≤ L
  go : s.C.going.size + bodyN s.C.work ≤ 130 * t
  wk : ∀ W, s.C.work = some W → OkR W.rq ∧ W.done ≤ W.rq.items ∧ W.body.size ≤ 6 + 123 * W.done ∧ (W.lsd = true → W.rq.isF = true ∧ 0 < s.D.n)
  cl : s.C.closed = true → s.C.wait.size = 0
theorem OkR.items {q : Req} (h : OkR q) : 1 ≤ q.items ∧ q.items ≤ 16 := by
  cases q with
  | find id ns t => exact ⟨h.2.1, h.2.2.1⟩
  | read id ns => exact ⟨h.2.1, h.2.2.1⟩
  | update id bs => exact ⟨h.2.1, h.2.2.1⟩
  | get id key => exact ⟨Nat.le_refl _, by show 1 ≤ 16; omega⟩
  | put id key val => exact ⟨Nat.le_refl _, by show 1 ≤ 16; omega⟩
  | release id l => exact ⟨Nat.le_refl _, by show 1 ≤ 16; omega⟩
theorem InvD.okD {m t L : Nat} {D : Dps} (h : InvD m t D) (ht : t < 1000) (hh : ∀ j, j < m → heldN (D.shs j) ≤ L) (hL : L ≤ 4000) : OkD m D :=
  ⟨fun j hj => Nat.le_trans (h.sh j hj).1 (by omega), fun j hj b hb => ⟨by have := ((h.sh j hj).2 b hb).1; omega, ((h.sh j hj).2 b hb).2⟩, fun j hj => Nat.le_trans (hh j hj) hL, fun i hi => ⟨by have := (h.nms i hi).1; omega, (h.nms i hi).2⟩, fun i hi => Nat.le_trans (h.ttl i hi) (by omega), h.n20, by have := h.bg; omega, h.ac, h.av⟩
theorem Ivp.okP {m t L : Nat} {s : Pst} (h : Ivp m t L s) (ht : t < 1000) (hL : L ≤ 4000) : OkP m s := by
  refine ⟨h.d.okD ht (fun j hj => by have := h.held j hj; omega) hL, fun W hW => ?_, by have := h.go; omega, by have := h.wt; omega⟩
  obtain ⟨w1, w2, w3, w4⟩ := h.wk W hW
  have hi := w1.items
  refine ⟨⟨w1, fun e => ⟨(w4 e).1, (w4 e).2, ?_⟩, by omega, fun j hj => ?_⟩, w2⟩
  · have h0 := (w4 e).2
    have := (h.d.nms (s.D.n - 1) (by omega)).1
    omega
  · have := h.held j hj
    rw [hW] at this
    by_cases hd : W.done < W.rq.items
    · have hb := W.rq.bytes_next W.done hd
      simp only [pend] at this
      omega
    · have : W.rq.lays W.done = 0 := by
        cases e : W.rq with
        | update id bs =>
          rw [e] at hd
          have hd' : ¬ W.done < bs.length := hd
          simp only [Req.lays]
          rw [List.getD_eq_getElem?_getD, List.getElem?_eq_none (by omega)]
          rfl
        | find id ns t => rfl
        | read id ns => rfl
        | get id key => rfl
        | put id key val => rfl
        | release id l => rfl
      have := h.held j hj
      omega
theorem num4b_size (n : Nat) : (num4b n).size = 4 := by simp only [num4b, ByteArray.size_append, b8_size]
theorem begP_body (D : Dps) (q : Req) : (begP D q).2.body.size ≤ 6 := by
  have e0 : (⟨#[]⟩ : ByteArray).size = 0 := rfl
  cases q <;> simp only [begP]
  · split <;> simp only [ByteArray.size_append, b8_size, num4b_size] <;> omega
  all_goals first | (rw [b8_size]; omega) | (rw [e0]; omega)
theorem begP_ok {m t : Nat} {D : Dps} (h : InvD m t D) (q : Req) (hq : OkR q) : InvD m (t + 1) (begP D q).1 ∧ (∀ j, (begP D q).1.shs j = D.shs j) ∧ ((begP D q).2.lsd = true → q.isF = true ∧ 0 < (begP D q).1.n) := by
  have h' := h.mono (Nat.le_succ t)
  cases q with
  | find id ns tt =>
    simp only [begP]
    split
    · next hn =>
      have hs : ∀ i, i < D.n + 1 → i ≠ D.n → i < D.n := fun i h1 h2 => by omega
      exact ⟨⟨h'.sh, upd_all (P := fun _ (e : Le) => e.names.length ≤ t + 1 ∧ ∀ nm ∈ e.names, nm.size = 34) (fun i hi hne => h'.nms i (hs i hi hne)) (fun _ => ⟨Nat.zero_le _, fun x hx => by simp at hx⟩), upd_all (P := fun _ (e : Le) => e.ttl ≤ 100) (fun i hi hne => h'.ttl i (hs i hi hne)) (fun _ => hq.2.2.2.2.2), hn, Nat.succ_le_succ h.bg, h.ac, h.av⟩, fun _ => rfl, fun _ => ⟨rfl, Nat.succ_pos _⟩⟩
    · exact ⟨h', fun _ => rfl, fun e => by simp at e⟩
  | read id ns => exact ⟨h', fun _ => rfl, fun e => by simp [begP] at e⟩
  | update id bs => exact ⟨h', fun _ => rfl, fun e => by simp [begP] at e⟩
  | get id key => exact ⟨h', fun _ => rfl, fun e => by simp [begP] at e⟩
  | put id key val => exact ⟨h', fun _ => rfl, fun e => by simp [begP] at e⟩
  | release id l => exact ⟨h', fun _ => rfl, fun e => by simp [begP] at e⟩
theorem cutF_some {s i r : ByteArray} (h : cutF s = some (i, r)) (hi : ps i ≠ none) : r.size + (i.size + 2) = s.size := by
  unfold cutF at h
  split at h
  · cases h
  · split at h
    · injection h with h; injection h with h1 h2; subst h1; exact absurd ps_nil hi
    · split at h
      · cases h
      · injection h with h; injection h with h1 h2; subst h1; subst h2
        rw [ByteArray.size_extract, ByteArray.size_extract]; omega
/-- what is left to do -/
def remW : Option Wps → Nat
  | none => 0
  | some W => W.rq.items - W.done + 1
def meas (s : Pst) : Nat := 3 * remW s.C.work + s.C.wait.size + (if s.C.closed = true then 0 else 1)
theorem cutF_two {s i r : ByteArray} (h : cutF s = some (i, r)) : 2 ≤ s.size := by
  unfold cutF at h
  split at h
  · cases h
  · omega
theorem step_inv {K : List Nat} {m t L : Nat} {s : Pst} (hm : 0 < m) (h : Ivp m t L s) (hok : OkD m s.D) : Ivp m (t + 1) L (stepP K m s).2 ∧ ((stepP K m s).1 = 0 → (stepP K m s).2 = s) ∧ ((stepP K m s).1 ≠ 0 → meas (stepP K m s).2 + 3 ≤ meas s) := by
  cases hw : s.C.work with
  | some W =>
    obtain ⟨w1, w2, w3, w4⟩ := h.wk W hw
    have hheld := h.held
    have hgo := h.go
    rw [hw] at hheld hgo
    by_cases hd : W.done < W.rq.items
    · have es : stepP K m s = (2, ⟨(itemP K m s.D W).1, { s.C with work := some { W with done := W.done + 1, body := W.body ++ (itemP K m s.D W).2 } }⟩) := by unfold stepP; rw [hw]; exact if_pos hd
      rw [es]
      obtain ⟨i1, i2⟩ := itemP_ok (K := K) hm h.d W w1 hd
      have ht := itemTold K s.D m hm hok W
      have hb := W.rq.bytes_next W.done hd
      refine ⟨⟨i1, fun j hj => ?_, h.wt, ?_, fun W' hW' => ?_, h.cl⟩, fun e => by simp at e, fun _ => ?_⟩
      · have a1 := i2 j hj
        have a2 := hheld j hj
        simp only [pend] at a2 ⊢
        omega
      · simp only [bodyN] at hgo ⊢
        rw [ByteArray.size_append]
        omega
      · injection hW' with hW'
        subst hW'
        refine ⟨w1, hd, ?_, fun e => ⟨(w4 e).1, ?_⟩⟩
        · show (W.body ++ (itemP K m s.D W).2).size ≤ 6 + 123 * (W.done + 1)
          rw [ByteArray.size_append]; omega
        · show 0 < (itemP K m s.D W).1.n
          rw [itemP_n K m s.D W (w4 e).1]; exact (w4 e).2
      · simp only [meas, hw, remW]
        omega
    · have es : stepP K m s = (3, toldP s W) := by unfold stepP; rw [hw]; exact if_neg hd
      rw [es]
      have hd' := h.d.mono (Nat.le_succ t)
      refine ⟨⟨?_, fun j hj => ?_, h.wt, ?_, fun W' hW' => (by cases hW'), h.cl⟩, fun e => by simp at e, fun _ => ?_⟩
      · simp only [toldP]
        split
        · exact ⟨hd'.sh, upd_all (P := fun _ (e : Le) => e.names.length ≤ t + 1 ∧ ∀ nm ∈ e.names, nm.size = 34) (fun i hi _ => hd'.nms i hi) (fun hi => hd'.nms _ hi), upd_all (P := fun _ (e : Le) => e.ttl ≤ 100) (fun i hi _ => hd'.ttl i hi) (fun hi => hd'.ttl _ hi), hd'.n20, hd'.bg, hd'.ac, hd'.av⟩
        · exact hd'
      · have a2 := hheld j hj
        have e1 : ((toldP s W).D).shs = s.D.shs := by simp only [toldP]; split <;> rfl
        rw [e1]
        simp only [toldP, pend] at a2 ⊢
        omega
      · simp only [bodyN] at hgo
        simp only [toldP, bodyN]
        rw [ByteArray.size_append, frm_size]
        omega
      · simp only [meas, toldP, hw, remW]
        omega
  | none =>
    have hheld := h.held
    have hgo := h.go
    rw [hw] at hheld hgo
    simp only [pend] at hheld
    simp only [bodyN] at hgo
    cases hc : cutF s.C.wait with
    | none =>
      have es : stepP K m s = (0, s) := by unfold stepP; rw [hw]; simp only; rw [hc]
      rw [es]
      exact ⟨⟨h.d.mono (Nat.le_succ t), h.held, h.wt, Nat.le_trans h.go (by omega), h.wk, h.cl⟩, fun _ => rfl, fun e => absurd rfl e⟩
    | some p =>
      obtain ⟨i, r⟩ := p
      have h2 := cutF_two hc
      have hncl : ¬ s.C.closed = true := fun e => by have := h.cl e; omega
      cases hp : ps i with
      | none =>
        have es : stepP K m s = (4, ⟨s.D, ⟨⟨#[]⟩, s.C.going ++ frm 255 (refNum i) (b8 1), none, true⟩⟩) := by unfold stepP; rw [hw]; simp only; rw [hc]; simp only; rw [hp]
        rw [es]
        have e0 : (⟨#[]⟩ : ByteArray).size = 0 := rfl
        refine ⟨⟨h.d.mono (Nat.le_succ t), fun j hj => ?_, by simp only [e0]; omega, ?_, fun W' hW' => (by cases hW'), fun _ => rfl⟩, fun e => by simp at e, fun _ => ?_⟩
        · have := hheld j hj
          simp only [pend, e0]
          omega
        · simp only [bodyN]
          rw [ByteArray.size_append, frm_size, b8_size]
          omega
        · simp only [meas, hw, remW, e0, if_neg hncl]
          simp
          omega
      | some q =>
        have es : stepP K m s = (1, ⟨(begP s.D q).1, { s.C with wait := r, work := some (begP s.D q).2 }⟩) := by unfold stepP; rw [hw]; simp only; rw [hc]; simp only; rw [hp]
        rw [es]
        obtain ⟨p1, p2, p3⟩ := ps_ok hp
        have hsz := cutF_some hc (by rw [hp]; simp)
        obtain ⟨b1, b2, b3⟩ := begP_ok h.d q p1
        have hbd := begP_body s.D q
        have e1 := begP_rq s.D q
        have e2 := begP_done s.D q
        have hwt := h.wt
        refine ⟨⟨b1, fun j hj => ?_, by show r.size ≤ L; omega, ?_, fun W' hW' => ?_, fun e => absurd e hncl⟩, fun e => by simp at e, fun _ => ?_⟩
        · have := hheld j hj
          simp only [b2, pend, e1, e2]
          omega
        · simp only [bodyN]
          omega
        · injection hW' with hW'
          subst hW'
          simp only [e1, e2]
          exact ⟨p1, Nat.zero_le _, by omega, b3⟩
        · simp only [meas, hw, remW, if_neg hncl, e1, e2]
          omega
/-- bytes come in -/
def feedP (s : Pst) (x : ByteArray) : Pst := if s.C.closed = true then s else { s with C := { s.C with wait := s.C.wait ++ x } }
theorem feed_inv {m t L : Nat} {s : Pst} (h : Ivp m t L s) (x : ByteArray) : Ivp m t (L + x.size) (feedP s x) ∧ meas (feedP s x) ≤ meas s + x.size := by
  unfold feedP
  split
  · exact ⟨⟨h.d, fun j hj => by have := h.held j hj; omega, by have := h.wt; omega, h.go, h.wk, h.cl⟩, Nat.le_add_right _ _⟩
  · next hc =>
    refine ⟨⟨h.d, fun j hj => ?_, ?_, h.go, h.wk, fun e => absurd e hc⟩, ?_⟩
    · have := h.held j hj
      simp only [ByteArray.size_append]; omega
    · have := h.wt
      simp only [ByteArray.size_append]; omega
    · simp only [meas, ByteArray.size_append, if_neg hc]; omega
theorem cutF_app {s i r : ByteArray} (h : cutF s = some (i, r)) (x : ByteArray) : cutF (s ++ x) = some (i, r ++ x) := by
  have h2 := cutF_two h
  have hx2 : (s ++ x).extract 0 2 = s.extract 0 2 := by
    rw [ByteArray.extract_append, Nat.zero_sub, show 2 - s.size = 0 by omega, ByteArray.extract_same, ByteArray.append_empty]
  unfold cutF at h ⊢
  rw [if_neg (by omega)] at h
  rw [if_neg (by rw [ByteArray.size_append]; omega), hx2]
  split at h
  · next hc =>
    rw [if_pos hc]
    injection h with h; injection h with h1 h2; subst h1; subst h2
    rfl
  · next hc =>
    rw [if_neg hc]
    split at h
    · cases h
    · next hl =>
      rw [if_neg (by rw [ByteArray.size_append]; omega)]
      injection h with h; injection h with h1 h3; subst h1; subst h3
      generalize 2 + num (s.extract 0 2) = k at hl ⊢
      have e1 : (s ++ x).extract 2 k = s.extract 2 k := by
        rw [ByteArray.extract_append, show k - s.size = 0 by omega, show 2 - s.size = 0 by omega, ByteArray.extract_same, ByteArray.append_empty]
      have e3 : s.extract 0 k ++ s.extract k s.size = s := by
        rw [ByteArray.extract_append_extract, show min 0 k = 0 by omega, show max k s.size = s.size by omega, ByteArray.extract_zero_size]
      have e4 : s ++ x = s.extract 0 k ++ (s.extract k s.size ++ x) := by rw [← ByteArray.append_assoc, e3]
      have e2 : (s ++ x).extract k (s ++ x).size = s.extract k s.size ++ x := by
        have hz : (s.extract 0 k).size = k := by rw [ByteArray.size_extract]; omega
        have := ByteArray.extract_append_eq_right (a := s.extract 0 k) (b := s.extract k s.size ++ x) (i := k) (j := (s ++ x).size) hz.symm (by rw [e4, ByteArray.size_append])
        rw [← e4] at this
        exact this
      rw [e1, e2]
/-- a step that is one is the same with more behind -/
theorem step_feed {K : List Nat} {m : Nat} {s : Pst} (x : ByteArray) (h : (stepP K m s).1 ≠ 0) : stepP K m (feedP s x) = ((stepP K m s).1, feedP (stepP K m s).2 x) := by
  by_cases hcl : s.C.closed = true
  · have e1 : feedP s x = s := if_pos hcl
    rw [e1]
    have e2 : (stepP K m s).2.C.closed = true := by
      unfold stepP
      split
      · split
        · exact hcl
        · simp only [toldP]; exact hcl
      · split
        · exact hcl
        · split
          · rfl
          · exact hcl
    rw [show feedP (stepP K m s).2 x = (stepP K m s).2 from if_pos e2]
  · have e1 : feedP s x = { s with C := { s.C with wait := s.C.wait ++ x } } := if_neg hcl
    rw [e1]
    cases hw : s.C.work with
    | some W =>
      by_cases hd : W.done < W.rq.items
      · have es : stepP K m s = (2, ⟨(itemP K m s.D W).1, { s.C with work := some { W with done := W.done + 1, body := W.body ++ (itemP K m s.D W).2 } }⟩) := by unfold stepP; rw [hw]; exact if_pos hd
        rw [es]
        unfold stepP feedP
        simp only [hw, if_pos hd, if_neg hcl]
      · have es : stepP K m s = (3, toldP s W) := by unfold stepP; rw [hw]; exact if_neg hd
        rw [es]
        unfold stepP feedP toldP
        simp only [hw, if_neg hd, if_neg hcl]
    | none =>
      cases hc : cutF s.C.wait with
      | none =>
        have es : stepP K m s = (0, s) := by unfold stepP; rw [hw]; simp only; rw [hc]
        rw [es] at h
        exact absurd rfl h
      | some p =>
        obtain ⟨i, r⟩ := p
        have hca := cutF_app hc x
        cases hp : ps i with
        | none =>
          have es : stepP K m s = (4, ⟨s.D, ⟨⟨#[]⟩, s.C.going ++ frm 255 (refNum i) (b8 1), none, true⟩⟩) := by unfold stepP; rw [hw]; simp only; rw [hc]; simp only; rw [hp]
          rw [es]
          unfold stepP feedP
          simp only [hw, hca, hp, if_true]
        | some q =>
          have es : stepP K m s = (1, ⟨(begP s.D q).1, { s.C with wait := r, work := some (begP s.D q).2 }⟩) := by unfold stepP; rw [hw]; simp only; rw [hc]; simp only; rw [hp]
          rw [es]
          unfold stepP feedP
          simp only [hw, hca, hp, if_neg hcl]
/-- steps -/
def runP (K : List Nat) (m : Nat) : Nat → Pst → Pst
  | 0, s => s
  | k + 1, s => (stepP K m (runP K m k s)).2
/-- each of these steps is one -/
def Real (K : List Nat) (m i : Nat) (s : Pst) : Prop := ∀ k, k < i → (stepP K m (runP K m k s)).1 ≠ 0
theorem run_feed {K : List Nat} {m : Nat} {s : Pst} (x : ByteArray) : ∀ i, Real K m i s → runP K m i (feedP s x) = feedP (runP K m i s) x ∧ Real K m i (feedP s x)
  | 0, _ => ⟨rfl, fun k hk => by omega⟩
  | i + 1, h => by
    obtain ⟨i1, i2⟩ := run_feed x i (fun k hk => h k (by omega))
    have hi := h i (Nat.lt_succ_self i)
    have hs := step_feed x hi
    refine ⟨?_, fun k hk => ?_⟩
    · show (stepP K m (runP K m i (feedP s x))).2 = _
      rw [i1, hs]
      rfl
    · by_cases e : k = i
      · subst e; rw [i1, hs]; exact hi
      · exact i2 k (by omega)
theorem run_end {K : List Nat} {m i : Nat} {s : Pst} (h : (stepP K m (runP K m i s)).2 = runP K m i s) : ∀ k, runP K m (i + k) s = runP K m i s
  | 0 => rfl
  | k + 1 => by
    show (stepP K m (runP K m (i + k) s)).2 = _
    rw [run_end h k]; exact h
/-- where a run stands: i steps of what began as s0, p has come in -/
structure Rch (K : List Nat) (m : Nat) (s0 : Pst) (p : ByteArray) (i : Nat) (s : Pst) : Prop where
  run : s = runP K m i (feedP s0 p)
  real : Real K m i (feedP s0 p)
  ms : 3 * i + meas s ≤ p.size + 1
  inv : Ivp m i p.size s
section
variable {K : List Nat} {m : Nat} {s0 s : Pst} {p : ByteArray} {i : Nat}
theorem Rch.okP (h : Rch K m s0 p i s) (hp : p.size ≤ 2900) : OkP m s := h.inv.okP (by have := h.ms; omega) (by omega)
theorem Rch.step (hm : 0 < m) (h : Rch K m s0 p i s) (hp : p.size ≤ 2900) (hs : (stepP K m s).1 ≠ 0) : Rch K m s0 p (i + 1) (stepP K m s).2 := by
  obtain ⟨g1, g2, g3⟩ := step_inv (K := K) hm h.inv (h.okP hp).d
  have hr := h.run
  refine ⟨by show _ = (stepP K m (runP K m i (feedP s0 p))).2; rw [← hr], fun k hk => ?_, ?_, g1⟩
  · by_cases e : k = i
    · subst e; rw [← hr]; exact hs
    · exact h.real k (by omega)
  · have := g3 hs
    have := h.ms
    omega
theorem Rch.none (hm : 0 < m) (h : Rch K m s0 p i s) (hp : p.size ≤ 2900) (hs : (stepP K m s).1 = 0) : (stepP K m s).2 = s := (step_inv (K := K) hm h.inv (h.okP hp).d).2.1 hs
theorem feed_feed (s : Pst) (x y : ByteArray) : feedP (feedP s x) y = feedP s (x ++ y) := by
  by_cases hc : s.C.closed = true
  · rw [show feedP s x = s from if_pos hc, show feedP s y = s from if_pos hc, show feedP s (x ++ y) = s from if_pos hc]
  · rw [show feedP s x = { s with C := { s.C with wait := s.C.wait ++ x } } from if_neg hc, show feedP s (x ++ y) = { s with C := { s.C with wait := s.C.wait ++ (x ++ y) } } from if_neg hc, ← ByteArray.append_assoc]
    exact if_neg hc
theorem Rch.feed (h : Rch K m s0 p i s) (x : ByteArray) : Rch K m s0 (p ++ x) i (feedP s x) := by
  obtain ⟨g1, g2⟩ := run_feed x i h.real
  obtain ⟨f1, f2⟩ := feed_inv h.inv x
  rw [feed_feed] at g1 g2
  refine ⟨?_, g2, ?_, by rw [ByteArray.size_append]; exact f1⟩
  · rw [g1, ← h.run]
  · rw [ByteArray.size_append]
    have := h.ms
    omega
/-- two runs of the same that have come to an end stand at the same -/
theorem Rch.same {s' : Pst} {i' : Nat} (hm : 0 < m) (hp : p.size ≤ 2900) (h : Rch K m s0 p i s) (h' : Rch K m s0 p i' s') (he : (stepP K m s).1 = 0) (he' : (stepP K m s').1 = 0) : s = s' := by
  have n1 := h.none hm hp he
  have n2 := h'.none hm hp he'
  rw [h.run] at n1
  rw [h'.run] at n2
  rcases Nat.le_total i i' with hl | hl
  · obtain ⟨k, rfl⟩ := Nat.exists_eq_add_of_le hl
    rw [h.run, h'.run, run_end n1 k]
  · obtain ⟨k, rfl⟩ := Nat.exists_eq_add_of_le hl
    rw [h.run, h'.run, run_end n2 k]
end
/-- a depot's beginning -/
def s00 : Pst := ⟨⟨fun _ => [], 0, fun _ => ⟨0, 0, [], false, 0⟩, 0, []⟩, ⟨⟨#[]⟩, ⟨#[]⟩, none, false⟩⟩
theorem rch0 (K : List Nat) (m : Nat) : Rch K m s00 ⟨#[]⟩ 0 s00 := by
  refine ⟨?_, fun k hk => by omega, Nat.le_refl _, ⟨⟨fun j _ => ⟨Nat.le_refl _, fun b hb => (by cases hb)⟩, fun i hi => absurd hi (Nat.not_lt_zero _), fun i hi => absurd hi (Nat.not_lt_zero _), Nat.zero_le _, Nat.le_refl _, Nat.zero_le _, fun a ha => (by cases ha)⟩, fun j _ => Nat.le_refl _, Nat.le_refl _, Nat.le_refl _, fun W hW => (by cases hW), fun e => (by cases e)⟩⟩
  show s00 = feedP s00 _
  rfl
/-- the first to be told is an Update -/
def FirstU (s : Pst) : Prop := (∃ W, s.C.work = some W ∧ W.rq.kind = 3 ∧ s.C.going = ⟨#[]⟩) ∨ ∃ id body rest, s.C.going = frm 131 id body ++ rest
theorem FirstU.step {K : List Nat} {m : Nat} {s : Pst} (h : FirstU s) : FirstU (stepP K m s).2 := by
  rcases h with ⟨W, hw, hk, hg⟩ | ⟨id, body, rest, hg⟩
  · by_cases hd : W.done < W.rq.items
    · have es : stepP K m s = (2, ⟨(itemP K m s.D W).1, { s.C with work := some { W with done := W.done + 1, body := W.body ++ (itemP K m s.D W).2 } }⟩) := by unfold stepP; rw [hw]; exact if_pos hd
      rw [es]
      exact .inl ⟨_, rfl, hk, hg⟩
    · have es : stepP K m s = (3, toldP s W) := by unfold stepP; rw [hw]; exact if_neg hd
      rw [es]
      refine .inr ⟨W.rq.num, W.body, ⟨#[]⟩, ?_⟩
      simp only [toldP, hg, hk]
      rw [show (⟨#[]⟩ : ByteArray) = ByteArray.empty from rfl, ByteArray.empty_append, ByteArray.append_empty]
  · have key : ∃ more, (stepP K m s).2.C.going = s.C.going ++ more := by
      have e0 : s.C.going = s.C.going ++ ⟨#[]⟩ := by rw [show (⟨#[]⟩ : ByteArray) = ByteArray.empty from rfl, ByteArray.append_empty]
      unfold stepP
      split
      · split
        · exact ⟨_, e0⟩
        · exact ⟨_, rfl⟩
      · split
        · exact ⟨_, e0⟩
        · split
          · exact ⟨_, rfl⟩
          · exact ⟨_, e0⟩
    obtain ⟨more, hm⟩ := key
    exact .inr ⟨id, body, rest ++ more, by rw [hm, hg, ByteArray.append_assoc]⟩
theorem FirstU.run {K : List Nat} {m : Nat} {s : Pst} {j : Nat} (h : FirstU (runP K m j s)) : ∀ k, FirstU (runP K m (j + k) s)
  | 0 => h
  | k + 1 => (FirstU.run h k).step
theorem FirstU.fin {K : List Nat} {m : Nat} {s : Pst} (h : FirstU s) (he : (stepP K m s).1 = 0) : ∃ id body rest, s.C.going = frm 131 id body ++ rest := by
  rcases h with ⟨W, hw, hk, hg⟩ | h
  · exfalso
    unfold stepP at he
    rw [hw] at he
    simp only at he
    split at he <;> simp at he
  · exact h
/-- the stream's first request is an Update -/
theorem first_begin {K : List Nat} {m : Nat} {S i r : ByteArray} {id : Nat} {bs : List (ByteArray × ByteArray)} (hc : cutF S = some (i, r)) (hp : ps i = some (.update id bs)) : (stepP K m (feedP s00 S)).1 = 1 ∧ FirstU (runP K m 1 (feedP s00 S)) := by
  have e : feedP s00 S = ⟨s00.D, ⟨S, ⟨#[]⟩, none, false⟩⟩ := by
    unfold feedP s00
    simp only [Bool.false_eq_true, if_false]
    rw [show (⟨#[]⟩ : ByteArray) ++ S = S from ByteArray.empty_append]
  have es : stepP K m (feedP s00 S) = (1, ⟨(begP s00.D (.update id bs)).1, ⟨r, ⟨#[]⟩, some (begP s00.D (.update id bs)).2, false⟩⟩) := by
    rw [e]
    unfold stepP
    simp only [hc, hp]
  refine ⟨by rw [es], ?_⟩
  show FirstU (stepP K m (feedP s00 S)).2
  rw [es]
  exact .inl ⟨_, rfl, rfl, rfl⟩
theorem Rch.first {K : List Nat} {m i : Nat} {s : Pst} {S a r : ByteArray} {id : Nat} {bs : List (ByteArray × ByteArray)} (h : Rch K m s00 S i s) (hc : cutF S = some (a, r)) (hp : ps a = some (.update id bs)) (he : (stepP K m s).1 = 0) : ∃ id body rest, s.C.going = frm 131 id body ++ rest := by
  obtain ⟨g1, g2⟩ := first_begin (K := K) (m := m) hc hp
  have hr := h.run
  cases i with
  | zero =>
    rw [show runP K m 0 (feedP s00 S) = feedP s00 S from rfl] at hr
    rw [hr, g1] at he
    cases he
  | succ k =>
    have := g2.run k
    rw [Nat.add_comm 1 k, ← hr] at this
    exact this.fin he
end Go.Proofs.YthpmcilljbmoiaaGreatDoor
