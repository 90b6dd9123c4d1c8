import Derived.Test.YthpmcilljbmoiaaGreatDoorZ38
namespace Go.Proofs.YthpmcilljbmoiaaGreatDoor
open Go.RowKit

theorem tk_app (a b : ByteArray) (n : Nat) (ha : a.size = n) : tk n (a ++ b, false) = (a, (b, false)) := by
  unfold tk
  rw [if_neg (by simp only [Bool.false_eq_true, ByteArray.size_append, false_or]; omega)]
  simp only
  rw [ByteArray.extract_append_eq_left ha.symm, ByteArray.extract_append_eq_right ha.symm (by rw [ByteArray.size_append])]
theorem nb_app (a b : ByteArray) (n : Nat) (ha : a.size = n) : nb n (a ++ b, false) = (num a, (b, false)) := by
  unfold nb; rw [tk_app a b n ha]
theorem wi_app (lo hi : Nat) (a b : ByteArray) (ha : a.size = 1) (h1 : lo ≤ num a) (h2 : num a ≤ hi) : wi lo hi (a ++ b, false) = (num a, (b, false)) := by
  unfold wi
  rw [nb_app a b 1 ha, if_neg (by simp only; omega)]
theorem na_app (a b : ByteArray) (ha : a.size = 34) (h1 : num (a.extract 0 2) ≤ 120) : na (a ++ b, false) = (a, (b, false)) := by
  unfold na
  rw [tk_app a b 34 ha, if_neg (by simp only; omega)]
theorem bo_app (a s b : ByteArray) (ha : a.size = 34) (h1 : num (a.extract 0 2) = s.size) (hs : s.size ≤ 120) : bo ((a ++ s) ++ b, false) = ((a, s), (b, false)) := by
  unfold bo
  rw [ByteArray.append_assoc, na_app a (s ++ b) ha (by omega)]
  simp only [Bool.false_eq_true, if_false]
  rw [h1, tk_app s b s.size rfl]
theorem name_num (K : List Nat) (s : ByteArray) (hs : s.size ≤ 120) : num ((nameStr K s).extract 0 2) = s.size := by
  have : (nameStr K s).extract 0 2 = b8 0 ++ b8 s.size := by
    unfold nameStr
    apply ByteArray.ext
    apply Array.ext'
    rw [extract_list]
    have hj0 : s.size / 256 = 0 := by omega
    rw [nameBytes, hj0]
    simp [strOf, b8]
  rw [this, num_b8s _ _ (by omega) (by omega)]
  omega
theorem bsN_app (K : List Nat) (l : List ByteArray) (hl : ∀ x ∈ l, x.size ≤ 120) (b : ByteArray) : ∀ k, k ≤ l.length → bsN k (brsB K l ++ b, false) = ((l.take k).map (fun s => (nameStr K s, s)), (brsB K (l.drop k) ++ b, false))
  | 0, _ => by simp [bsN]
  | k + 1, hk => by
    have hk' : k < l.length := hk
    have ih := bsN_app K l hl b k (by omega)
    have hs := hl _ (List.getElem_mem hk')
    rw [bsN, ih]
    simp only
    rw [List.drop_eq_getElem_cons hk']
    have e : brsB K (l[k] :: l.drop (k + 1)) ++ b = (nameStr K l[k] ++ l[k]) ++ (brsB K (l.drop (k + 1)) ++ b) := by
      simp only [brsB, List.map_cons, cat]
      rw [ByteArray.append_assoc]
    rw [e, bo_app _ _ _ (nameStr_size K _) (name_num K _ hs) hs]
    simp only
    rw [List.take_add_one, List.getElem?_eq_getElem hk', Option.toList_some, List.map_append]
    rfl
/-- the stream's first request -/
theorem ps_first (K : List Nat) (l : List ByteArray) (hl : ∀ x ∈ l, x.size ≤ 120) (h1 : 1 ≤ l.length) (h2 : l.length ≤ 12) : ps (ins 3 1 (b8 l.length ++ brsB K l)) = some (.update 1 (l.map fun s => (nameStr K s, s))) := by
  have er : rq (ins 3 1 (b8 l.length ++ brsB K l), false) = (some (.update 1 (l.map fun s => (nameStr K s, s))), (⟨#[]⟩, false)) := by
    unfold rq ins
    rw [nb_app (b8 3) _ 1 rfl]
    simp only
    rw [nb_app (b8 (1 / 256) ++ b8 (1 % 256)) _ 2 (two_size _ _)]
    simp only
    rw [num_b8 3 (by omega), num_b8s _ _ (by omega) (by omega)]
    unfold rqk
    rw [if_neg (by omega), if_neg (by omega), if_pos rfl]
    have e : bl (b8 l.length ++ brsB K l, false) = (l.map (fun s => (nameStr K s, s)), (⟨#[]⟩, false)) := by
      unfold bl
      rw [wi_app 1 16 (b8 l.length) _ rfl (by rw [num_b8 _ (by omega)]; omega) (by rw [num_b8 _ (by omega)]; omega), num_b8 _ (by omega)]
      simp only
      have := bsN_app K l hl ⟨#[]⟩ l.length (Nat.le_refl _)
      rw [List.take_length, List.drop_length, app_empty] at this
      rw [this]
      rfl
    rw [e]
  unfold ps
  rw [er]
  simp only [Bool.false_eq_true, false_or]
  rw [if_neg (by decide)]
theorem cutF_frm (kind id : Nat) (body rest : ByteArray) (hb : 3 + body.size ≤ 2000) : cutF (frm kind id body ++ rest) = some (ins kind id body, rest) := by
  have hz := ins_size kind id body
  have e : frm kind id body ++ rest = (b8 ((3 + body.size) / 256) ++ b8 ((3 + body.size) % 256)) ++ (ins kind id body ++ rest) := by rw [frm_split, ByteArray.append_assoc]
  have h0 := two_size ((3 + body.size) / 256) ((3 + body.size) % 256)
  obtain ⟨p1, p2, p3, p4⟩ := three_parts _ (ins kind id body) rest 2 (3 + body.size) h0 hz
  rw [← e] at p1 p2 p3 p4
  have hn : num ((frm kind id body ++ rest).extract 0 2) = 3 + body.size := by
    rw [p1, num_b8s _ _ (by omega) (by omega)]; omega
  unfold cutF
  rw [hn, if_neg (by omega), if_neg (by omega), if_neg (by omega), p2, p3]
def keyS : ByteArray := ⟨#[107, 101, 121, 49]⟩
def putS : ByteArray := ⟨#[107, 101, 121, 49, 2, 104, 105]⟩
/-- the stream -/
def strm (K : List Nat) (l : List ByteArray) (raw : ByteArray) : ByteArray :=
  frm 3 1 (b8 l.length ++ brsB K l) ++ frm 5 2 putS ++ frm 1 3 ((⟨#[7]⟩ : ByteArray) ++ (b8 l.length ++ nmsB K l)) ++ frm 4 4 keyS ++ raw
section
variable {K : List Nat} {l : List ByteArray} {raw : ByteArray}
theorem brs_size (hl : ∀ x ∈ l, x.size ≤ 120) (h2 : l.length ≤ 12) : (b8 l.length ++ brsB K l).size ≤ 1849 := by
  have := cat_bound (fun s => nameStr K s ++ s) 154 l (fun x hx => by rw [ByteArray.size_append, nameStr_size]; have := hl x hx; omega)
  rw [ByteArray.size_append, b8_size]
  have h3 : (brsB K l).size ≤ 154 * l.length := this
  have : 154 * l.length ≤ 154 * 12 := Nat.mul_le_mul_left _ h2
  omega
theorem nms_size (h2 : l.length ≤ 12) : (b8 l.length ++ nmsB K l).size ≤ 409 := by
  have := cat_bound (nameStr K) 34 l (fun x _ => by rw [nameStr_size]; omega)
  rw [ByteArray.size_append, b8_size]
  have h3 : (nmsB K l).size ≤ 34 * l.length := this
  have : 34 * l.length ≤ 34 * 12 := Nat.mul_le_mul_left _ h2
  omega
theorem strm_size (hl : ∀ x ∈ l, x.size ≤ 120) (h2 : l.length ≤ 12) (hr : raw.size ≤ 500) : (strm K l raw).size ≤ 2900 := by
  have h3 := brs_size (K := K) hl h2
  have h4 := nms_size (K := K) (l := l) h2
  have e1 : putS.size = 7 := rfl
  have e2 : keyS.size = 4 := rfl
  have e3 : (⟨#[7]⟩ : ByteArray).size = 1 := rfl
  unfold strm
  simp only [ByteArray.size_append, frm_size] at *
  omega
theorem strm_first (hl : ∀ x ∈ l, x.size ≤ 120) (h1 : 1 ≤ l.length) (h2 : l.length ≤ 12) : ∃ i r, cutF (strm K l raw) = some (i, r) ∧ ps i = some (.update 1 (l.map fun s => (nameStr K s, s))) := by
  have h3 := brs_size (K := K) hl h2
  refine ⟨_, frm 5 2 putS ++ (frm 1 3 ((⟨#[7]⟩ : ByteArray) ++ (b8 l.length ++ nmsB K l)) ++ (frm 4 4 keyS ++ raw)), ?_, ps_first K l hl h1 h2⟩
  rw [← cutF_frm 3 1 _ _ (by omega)]
  unfold strm
  simp only [ByteArray.append_assoc]
end
end Go.Proofs.YthpmcilljbmoiaaGreatDoor
