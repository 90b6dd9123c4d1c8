import Derived.Test.YthpmcilljbmoiaaGreatDoorActs
namespace Go.Proofs.YthpmcilljbmoiaaGreatDoor
open Go.RowKit

theorem infoAct : (Tryz.prog.info? 301).map (fun i => (i.zero, i.size, i.bytes)) = some (some (.agg #[.string ⟨#[]⟩, .string ⟨#[]⟩]), 2, 32) := by kernel_rfl

theorem Ac.shape {w : World} {av : Value} {acts : List (ByteArray × ByteArray)} (h : Ac w av acts) : ∃ a c, av = .slice a acts.length c ∧ acts.length ≤ c := by
  obtain ⟨rfl, h1, h2⟩ | ⟨b, off, cap, cur, rfl, hb, h1, h2, h3, h4, h5⟩ := h
  · exact ⟨none, 0, by rw [h1], by omega⟩
  · exact ⟨_, _, rfl, h1⟩

set_option maxRecDepth 100000 in
set_option maxHeartbeats 400000 in
theorem bookGet_none (db o : Nat) (av : Value) (acts : List (ByteArray × ByteArray)) (key : ByteArray) (w : World) (hlt : db < w.heap.size) (hc : w.cell? ⟨db, o, none⟩ = some av) (ha : Ac w av acts) (hn : acts.length ≤ 33) (hx : actIx acts key = -1) :
    Calls Tryz.prog 188 #[.pointer (some ⟨db, o, none⟩), .string key] w
      fun r w' => r = .returned (.tuple #[.string ⟨#[]⟩, .bool false]) ∧ Below w.heap.size w w' := by
  have HC := hide (find_any db o av acts key w hlt hc ha hn)
  rw [hx] at HC
  clear ha
  go_enter Tryz.func188, Tryz.ntmps188
  go_wp2_with (go_at_call 189; refine HC.out.mono ?_; rintro e w1 ⟨rfl, hb1⟩)
  go_ret2
  exact ⟨rfl, hb1⟩

set_option maxRecDepth 100000 in
set_option maxHeartbeats 400000 in
theorem bookGet_at (db o : Nat) (av : Value) (acts : List (ByteArray × ByteArray)) (key : ByteArray) (i : Nat) (hi : i < acts.length) (w : World) (hlt : db < w.heap.size) (hc : w.cell? ⟨db, o, none⟩ = some av) (ha : Ac w av acts) (hn : acts.length ≤ 33) (hx : actIx acts key = i) :
    Calls Tryz.prog 188 #[.pointer (some ⟨db, o, none⟩), .string key] w
      fun r w' => r = .returned (.tuple #[.string acts[i].2, .bool true]) ∧ Below w.heap.size w w' := by
  have HC := hide (find_any db o av acts key w hlt hc ha hn)
  rw [hx] at HC
  obtain ⟨rfl, h1, h2⟩ | ⟨b, off, cap, cur, rfl, hb, h1, h2, h3, h4, h5⟩ := ha
  · omega
  have q2 : w.cell? ⟨b, off + i * 2 + 1, none⟩ = some (.string acts[i].2) := by rw [hb.cell, Nat.add_assoc, h5 _ (by omega), actCells_val acts i hi]
  have hbl := hb.lt
  generalize acts[i].2 = y at *
  generalize hna : acts.length = n at *
  clear h4 h5 hb h3 h2
  go_enter Tryz.func188, Tryz.ntmps188
  go_wp2_with (go_at_call 189; refine HC.out.mono ?_; rintro e w1 ⟨rfl, hb1⟩; have c1 := (hb1.cell (p := ⟨db, o, none⟩) hlt).trans hc; have c2 := (hb1.cell (p := ⟨b, off + i * 2 + 1, none⟩) hbl).trans q2)
  go_ret2
  exact ⟨rfl, hb1⟩

theorem actCells_set (l : List (ByteArray × ByteArray)) (i : Nat) (v : ByteArray) : ∀ (h : i < l.length), actCells (l.set i (l[i].1, v)) = (actCells l).set (i * 2 + 1) (.string v) := by
  induction l generalizing i with
  | nil => intro h; simp at h
  | cons a l ih =>
    intro h
    cases i with
    | zero => rfl
    | succ i =>
      have := ih i (by simpa using h)
      simp only [actCells, List.flatMap_cons, List.set_cons_succ, List.getElem_cons_succ] at *
      rw [this, show (i + 1) * 2 + 1 = (i * 2 + 1) + 2 by omega]
      rfl

set_option maxRecDepth 100000 in
set_option maxHeartbeats 400000 in
theorem bookPut_at (db o : Nat) (t : TypeId) (cs : Array Value) (av : Value) (acts : List (ByteArray × ByteArray)) (key val : ByteArray) (i : Nat) (hi : i < acts.length) (w : World) (hB : Blk w db t cs) (hc : w.cell? ⟨db, o, none⟩ = some av) (ha : Ac w av acts) (hn : acts.length ≤ 33) (hx : actIx acts key = i) :
    Calls Tryz.prog 137 #[.pointer (some ⟨db, o, none⟩), .string key, .string val] w
      fun r w' => r = .returned (.tuple #[]) ∧ Ac w' av (acts.set i (acts[i].1, val)) ∧ Kept (fun k => av.ownBlock = some k) w w' := by
  have hlt := hB.lt
  have HC := hide (find_any db o av acts key w hlt hc ha hn)
  rw [hx] at HC
  obtain ⟨rfl, h1, h2⟩ | ⟨b, off, cap, cur, rfl, hb, h1, h2, h3, h4, h5⟩ := ha
  · omega
  have HS := hide (actCells_set acts i val hi)
  have H5 := hide h5
  have hbl := hb.lt
  have hbs : off + i * 2 + 1 < cur.size := by omega
  clear h5
  go_enter Tryz.func137, Tryz.ntmps137
  go_wp2_with (go_at_call 189; refine HC.out.mono ?_; rintro e w1 ⟨rfl, hb1⟩; have c1 := (hb1.cell (p := ⟨db, o, none⟩) hlt).trans hc; have hb2 := hb.below hb1 hbl; have c2 : w1.cell? ⟨b, off + i * 2 + 1, none⟩ = some cur[off + i * 2 + 1] := (by rw [hb2.cell, Array.getElem?_eq_getElem hbs]); have f2 := hb2.frozen (off + i * 2 + 1))
  refine bodyPost_ret (results_none rfl _ _ _) rfl ⟨rfl, .inr ⟨b, off, cap, _, by rw [List.length_set], hb2.set _ _, by rw [List.length_set]; exact h1, h2, by simpa using h3, by rw [HS.out, List.length_set, List.length_set]; exact h4, fun j hj => ?_⟩, ?_⟩
  · rw [HS.out, Array.getElem?_setIfInBounds, List.getElem?_set]
    rw [List.length_set] at hj
    by_cases e : i * 2 + 1 = j
    · rw [if_pos (by omega), if_pos e, if_pos hbs, if_pos (by omega)]
    · rw [if_neg (by omega), if_neg e]
      exact H5.out j hj
  · exact (Kept.ofBelow hb1).set _ _ (fun _ => rfl)
end Go.Proofs.YthpmcilljbmoiaaGreatDoor
