import Derived.WalkKit
import Derived.Test.YthpmcilljbmoiaaGreatDoorReadReq
import Derived.Test.YthpmcilljbmoiaaGreatDoorClient
namespace Go.Proofs.YthpmcilljbmoiaaGreatDoor
open Go.RowKit

/-- f 0 + .. + f (n - 1) -/
def tot (f : Nat → Nat) : Nat → Nat
  | 0 => 0
  | n + 1 => tot f n + f n
theorem tot_congr (f g : Nat → Nat) : ∀ n, (∀ i, i < n → f i = g i) → tot f n = tot g n
  | 0, _ => rfl
  | n + 1, h => by
    have := tot_congr f g n (fun i hi => h i (by omega))
    simp only [tot, this, h n (by omega)]
theorem tot_zero (f : Nat → Nat) : ∀ n, (∀ i, i < n → f i = 0) → tot f n = 0
  | 0, _ => rfl
  | n + 1, h => by
    have := tot_zero f n (fun i hi => h i (by omega))
    simp only [tot, this, h n (by omega)]
theorem tot_at (f : Nat → Nat) : ∀ n k, k < n → f k ≤ tot f n
  | 0, k, h => by omega
  | n + 1, k, h => by
    simp only [tot]
    by_cases hk : k = n
    · subst hk; omega
    · have := tot_at f n k (by omega)
      omega
/-- one of them is one less -/
theorem tot_less (f g : Nat → Nat) (k : Nat) : ∀ n, k < n → (∀ i, i < n → i ≠ k → g i = f i) → f k = g k + 1 → tot f n = tot g n + 1
  | 0, h, _, _ => by omega
  | n + 1, h, hg, hk => by
    simp only [tot]
    by_cases hkn : k = n
    · subst hkn
      have := tot_congr f g k (fun i hi => (hg i (by omega) (by omega)).symm)
      omega
    · have := tot_less f g k n (by omega) (fun i hi => hg i (by omega)) hk
      have := hg n (by omega) (by omega)
      omega
theorem tot_more (f g : Nat → Nat) (k d : Nat) : ∀ n, k < n → (∀ i, i < n → i ≠ k → g i = f i) → g k = f k + d → tot g n = tot f n + d
  | 0, h, _, _ => by omega
  | n + 1, h, hg, hk => by
    simp only [tot]
    by_cases hkn : k = n
    · subst hkn
      have := tot_congr f g k (fun i hi => (hg i (by omega) (by omega)).symm)
      omega
    · have := tot_more f g k d n (by omega) (fun i hi => hg i (by omega)) hk
      have := hg n (by omega) (by omega)
      omega
/-- who goes round from t on meets all -/
theorem round_all (t n c : Nat) (hc : c < n) : ∃ j, j < n ∧ (t + j) % n = c := by
  have hn : 0 < n := by omega
  have h1 := Nat.mod_lt t hn
  have h2 := Nat.div_add_mod t n
  by_cases h : t % n ≤ c
  · refine ⟨c - t % n, by omega, ?_⟩
    rw [show t + (c - t % n) = c + n * (t / n) by omega, Nat.add_mul_mod_self_left, Nat.mod_eq_of_lt hc]
  · refine ⟨c + n - t % n, by omega, ?_⟩
    rw [show t + (c + n - t % n) = c + n + n * (t / n) by omega, Nat.add_mul_mod_self_left, Nat.add_mod_right, Nat.mod_eq_of_lt hc]
end Go.Proofs.YthpmcilljbmoiaaGreatDoor
namespace Go.Proofs.YthpmcilljbmoiaaGreatDoor
open Go.RowKit

/-- names of blobs, n of them -/
def nms (N : Nat → ByteArray) (n : Nat) : List ByteArray := (List.range n).map N
def Nok (N : Nat → ByteArray) : Prop := ∀ j, j < 8 → (N j).size = 34 ∧ num ((N j).extract 0 2) ≤ 120
theorem nms_len (N : Nat → ByteArray) (n : Nat) : (nms N n).length = n := by simp [nms]
theorem nms_ok {N : Nat → ByteArray} (hN : Nok N) (n : Nat) (hn : n ≤ 8) : ∀ x ∈ nms N n, x.size = 34 ∧ num (x.extract 0 2) ≤ 120 := by
  intro x hx
  simp only [nms, List.mem_map, List.mem_range] at hx
  obtain ⟨j, hj, rfl⟩ := hx
  exact hN j (by omega)
def bodyOf (N : Nat → ByteArray) (n : Nat) : ByteArray := b8 n ++ (cat (nms N n) ++ ⟨#[]⟩)
theorem app_empty (s : ByteArray) : s ++ (⟨#[]⟩ : ByteArray) = s := ByteArray.append_empty
theorem bodyOf_size {N : Nat → ByteArray} (hN : Nok N) (n : Nat) (hn : n ≤ 8) : (bodyOf N n).size = 1 + 34 * n := by
  rw [bodyOf, app_empty, ByteArray.size_append, cat_size _ (fun x hx => (nms_ok hN n hn x hx).1), nms_len]
  rfl
/-- a request: its number, how many names -/
abbrev Rq := Nat × Nat
def fr (N : Nat → ByteArray) (x : Rq) : ByteArray := frm 2 x.1 (bodyOf N x.2)
def frs (N : Nat → ByteArray) : List Rq → ByteArray
  | [] => ⟨#[]⟩
  | x :: q => fr N x ++ frs N q
theorem frs_add (N : Nat → ByteArray) : ∀ (q : List Rq) (x : Rq), frs N (q ++ [x]) = frs N q ++ fr N x
  | [], x => by rw [List.nil_append, frs, frs, frs, app_empty, empty_app]
  | y :: q, x => by rw [List.cons_append, frs, frs_add N q x, frs, ByteArray.append_assoc]
def zer : Nat → ByteArray
  | 0 => ⟨#[]⟩
  | n + 1 => zer n ++ b8 0
theorem zer_size : ∀ n, (zer n).size = n
  | 0 => rfl
  | n + 1 => by rw [zer, ByteArray.size_append, zer_size n]; rfl
def rep (x : Rq) : ByteArray := frm 130 x.1 (b8 x.2 ++ zer x.2)
theorem rep_size (x : Rq) : (rep x).size = 6 + x.2 := by
  rw [rep, frm_size, ByteArray.size_append, zer_size, b8_size]; omega
def reps : List Rq → ByteArray
  | [] => ⟨#[]⟩
  | x :: q => rep x ++ reps q
theorem reps_add : ∀ (q : List Rq) (x : Rq), reps (q ++ [x]) = reps q ++ rep x
  | [], x => by rw [List.nil_append, reps, reps, reps, app_empty, empty_app]
  | y :: q, x => by rw [List.cons_append, reps, reps_add q x, reps, ByteArray.append_assoc]
def okR (x : Rq) : Prop := x.1 < 65536 ∧ 1 ≤ x.2 ∧ x.2 ≤ 8

theorem three_parts (a b c : ByteArray) (l m : Nat) (ha : a.size = l) (hb : b.size = m) :
    (a ++ (b ++ c)).extract 0 l = a ∧ (a ++ (b ++ c)).extract l (l + m) = b ∧ (a ++ (b ++ c)).extract (l + m) (a ++ (b ++ c)).size = c ∧ (a ++ (b ++ c)).size = l + m + c.size := by
  have hz : (a ++ (b ++ c)).size = l + m + c.size := by rw [ByteArray.size_append, ByteArray.size_append, ha, hb]; omega
  have q1 : a.data.toList.length = l := by rw [← ha]; rfl
  have q2 : b.data.toList.length = m := by rw [← hb]; rfl
  refine ⟨extract_left _ _ _ ha.symm, ?_, ?_, hz⟩
  · apply ByteArray.ext
    apply Array.ext'
    rw [extract_list, Nat.add_sub_cancel_left]
    simp only [ByteArray.data_append, Array.toList_append]
    rw [← q1, List.drop_left, ← q2, List.take_left]
  · rw [hz]
    have e : a ++ (b ++ c) = (a ++ b) ++ c := (ByteArray.append_assoc).symm
    rw [e]
    have h2 : (a ++ b).size = l + m := by rw [ByteArray.size_append, ha, hb]
    exact extract_right _ _ _ _ h2.symm (by rw [h2])
/-- what stands at the front of frames -/
theorem front (N : Nat → ByteArray) (hN : Nok N) (x : Rq) (q : List Rq) (hx : okR x) (s : ByteArray) (hs : s = frs N (x :: q)) :
    num (s.extract 0 2) = 3 + (bodyOf N x.2).size ∧ 2 + (3 + (bodyOf N x.2).size) ≤ s.size ∧ s.extract 2 (2 + (3 + (bodyOf N x.2).size)) = b8 2 ++ ((b8 (x.1 / 256) ++ b8 (x.1 % 256)) ++ (b8 x.2 ++ (cat (nms N x.2) ++ ⟨#[]⟩))) ∧ s.extract (2 + (3 + (bodyOf N x.2).size)) s.size = frs N q := by
  have hb := bodyOf_size hN x.2 hx.2.2
  have h8 := hx.2.2
  have e : s = (b8 ((3 + (bodyOf N x.2).size) / 256) ++ b8 ((3 + (bodyOf N x.2).size) % 256)) ++ (ins 2 x.1 (bodyOf N x.2) ++ frs N q) := by
    rw [hs, frs, fr, frm_split, ByteArray.append_assoc]
  have hn : num (b8 ((3 + (bodyOf N x.2).size) / 256) ++ b8 ((3 + (bodyOf N x.2).size) % 256)) = 3 + (bodyOf N x.2).size := by
    rw [num_b8s _ _ (by omega) (by omega)]; omega
  obtain ⟨p1, p2, p3, p4⟩ := three_parts (b8 ((3 + (bodyOf N x.2).size) / 256) ++ b8 ((3 + (bodyOf N x.2).size) % 256)) (ins 2 x.1 (bodyOf N x.2)) (frs N q) 2 (3 + (bodyOf N x.2).size) (two_size _ _) (ins_size _ _ _)
  rw [← e] at p1 p2 p3 p4
  refine ⟨by rw [p1, hn], by omega, ?_, p3⟩
  rw [p2]
  rfl
end Go.Proofs.YthpmcilljbmoiaaGreatDoor
