import Derived.Test.YthpmcilljbmoiaaGreatDoorZReqGet
namespace Go.Proofs.YthpmcilljbmoiaaGreatDoor
open Go.RowKit

set_option maxRecDepth 100000 in
set_option maxHeartbeats 400000 in
theorem parse_of (iv : Value) (s z : ByteArray) (T : TypeId) (v : Value) (w : World) (h : Bs w 5 iv s) (hz : z.size = 0)
    (HR : Hid (∀ w rb, Rd w rb s → Calls Tryz.prog 177 #[.pointer (some ⟨rb, 0, none⟩)] w
      fun r w' => r = .returned (.iface T v) ∧ Rd w' rb z ∧ Kept (fun k => k = rb) w w')) :
    Calls Tryz.prog 129 #[iv] w
      fun r w' => r = .returned (.tuple #[.iface T v, .bool true]) ∧ Below w.heap.size w w' := by
  obtain ⟨a, c, rfl, hc⟩ := h.shape
  have hA := Below.alloc (Below.refl w.heap.size w) (Nat.le_refl _) (.cells #[.slice a s.size c, .bool false] 293)
  have hr : Rd (w.alloc (.cells #[.slice a s.size c, .bool false] 293)) w.heap.size s := ⟨_, Blk.new _ _ _, h.below hA⟩
  have HC := hide (HR.out _ _ hr)
  clear HR hr
  go_enter Tryz.func129, Tryz.ntmps129
  go_wp2_with (go_at_call 177; refine HC.out.mono ?_; rintro e w1 ⟨rfl, ⟨rv, hb, hz1⟩, hk1⟩; obtain ⟨a1, c1, rfl, _⟩ := hz1.shape; rw [hz] at hb; have c0 : w1.cell? ⟨w.heap.size, 0, none⟩ = some (.slice a1 0 c1) := hb.cell 0; have c1 : w1.cell? ⟨w.heap.size, 1, none⟩ = some (.bool false) := hb.cell 1)
  go_ret2
  exact ⟨rfl, hA.trans (hk1.toBelow (fun k hk e => by omega) (by simp))⟩
end Go.Proofs.YthpmcilljbmoiaaGreatDoor
namespace Go.Proofs.YthpmcilljbmoiaaGreatDoor
open Go.RowKit

/-- the cells of actions -/
def actCells (l : List (ByteArray × ByteArray)) : List Value := l.flatMap fun a => [.string a.1, .string a.2]
/-- where a key stands -/
def actIx (l : List (ByteArray × ByteArray)) (key : ByteArray) : Int := match l.findIdx? (fun a => decide (a.1 = key)) with | some i => i | none => -1
theorem actCells_len (l : List (ByteArray × ByteArray)) : (actCells l).length = l.length * 2 := by
  induction l with
  | nil => rfl
  | cons a l ih => simp only [actCells, List.flatMap_cons, List.length_append, List.length_cons, List.length_nil] at *; omega
theorem actCells_key (l : List (ByteArray × ByteArray)) : ∀ (i : Nat) (h : i < l.length), (actCells l)[i * 2]? = some (.string l[i].1) := by
  induction l with
  | nil => intro i h; simp at h
  | cons a l ih =>
    intro i h
    cases i with
    | zero => rfl
    | succ i =>
      have := ih i (by simpa using h)
      simp only [actCells, List.flatMap_cons] at *
      rw [show (i + 1) * 2 = i * 2 + 2 by omega]
      simpa using this
theorem actCells_val (l : List (ByteArray × ByteArray)) : ∀ (i : Nat) (h : i < l.length), (actCells l)[i * 2 + 1]? = some (.string l[i].2) := by
  induction l with
  | nil => intro i h; simp at h
  | cons a l ih =>
    intro i h
    cases i with
    | zero => rfl
    | succ i =>
      have := ih i (by simpa using h)
      simp only [actCells, List.flatMap_cons] at *
      rw [show (i + 1) * 2 + 1 = i * 2 + 1 + 2 by omega]
      simpa using this

theorem str_same (a b : ByteArray) (h : a = b) : (a.toList == b.toList) = true := by subst h; simp
theorem str_other (a b : ByteArray) (h : a ≠ b) : (a.toList == b.toList) = false := by
  rw [beq_eq_false_iff_ne]
  intro e
  rw [ByteArray.toList_eq, ByteArray.toList_eq] at e
  exact h (ByteArray.ext (Array.ext' e))
theorem actIx_at (l : List (ByteArray × ByteArray)) (key : ByteArray) (i : Nat) (hi : i < l.length) (hk : l[i].1 = key) (hno : ∀ j (h : j < l.length), j < i → l[j].1 ≠ key) : actIx l key = i := by
  have : l.findIdx? (fun a => decide (a.1 = key)) = some i := by
    rw [List.findIdx?_eq_some_iff_getElem]
    exact ⟨hi, by simp [hk], fun j hj => by simpa using hno j (by omega) hj⟩
  simp [actIx, this]
theorem actIx_none (l : List (ByteArray × ByteArray)) (key : ByteArray) (hno : ∀ j (h : j < l.length), l[j].1 ≠ key) : actIx l key = -1 := by
  have : l.findIdx? (fun a => decide (a.1 = key)) = none := by
    rw [List.findIdx?_eq_none_iff]
    intro x hx
    obtain ⟨j, hj, rfl⟩ := List.getElem_of_mem hx
    simpa using hno j hj
  simp [actIx, this]

set_option maxRecDepth 100000 in
set_option maxHeartbeats 400000 in
theorem index_any (b off n cap kb : Nat) (key : ByteArray) (acts : List (ByteArray × ByteArray)) (w : World) (hb : b < w.heap.size) (hkl : kb < w.heap.size) (hkey : w.cell? ⟨kb, 0, none⟩ = some (.string key)) (hn : acts.length = n) (hn33 : n ≤ 33)
    (hcells : ∀ i (h : i < acts.length), w.cell? ⟨b, off + i * 2, none⟩ = some (.string acts[i].1) ∧ w.cell? ⟨b, off + i * 2 + 1, none⟩ = some (.string acts[i].2)) :
    Calls Tryz.prog 221 #[.slice (some ⟨b, off, none⟩) n cap, .func (.func 222) #[] #[.pointer (some ⟨kb, 0, none⟩)]] w
      fun r w' => r = .returned (.int .i64 (actIx acts key)) ∧ Below w.heap.size w w' := by
  have HK := hide hcells
  clear hcells
  go_enter Tryz.func221, Tryz.ntmps221
  go_wp2
  go_loopw [8] (fun iv wr => ∃ i : Nat, i ≤ n ∧ iv = .int .i64 i ∧ Below w.heap.size w wr ∧ Hid (∀ j (h : j < acts.length), j < i → acts[j].1 ≠ key)) (fun iv _ => n - (intOf iv).toNat)
  case atStart => exact ⟨0, by omega, rfl, Below.refl _ _, fun j _ h => by omega⟩
  case round =>
    obtain ⟨i, hi, rfl, hbl, hno⟩ := hrel
    have hkey' : wr.cell? ⟨kb, 0, none⟩ = some (.string key) := by rw [hbl.cell hkl]; exact hkey
    have hsz := hbl.size
    by_cases h : i < n
    · obtain ⟨q1, q2⟩ := HK.out i (by omega)
      have q1' : wr.cell? ⟨b, off + i * 2, none⟩ = some (.string acts[i].1) := by rw [hbl.cell hb]; exact q1
      have q2' : wr.cell? ⟨b, off + i * 2 + 1, none⟩ = some (.string acts[i].2) := by rw [hbl.cell hb]; exact q2
      clear q1 q2
      have hkl' : kb < wr.heap.size := by omega
      by_cases hk : acts[i].1 = key
      · have hbb := str_same _ _ hk
        generalize acts[i].2 = y at *
        have HX := hide (actIx_at acts key i (by omega) hk (fun j h hj => hno.out j h hj))
        generalize acts[i].1 = x at *
        clear hk
        go_wp2
        go_ret
        exact ⟨by rw [HX.out]; rfl, hbl.alloc hsz _⟩
      · have hbb := str_other _ _ hk
        have HX : Hid (∀ j (h : j < acts.length), j < i + 1 → acts[j].1 ≠ key) := fun j h hj => by
          rcases Nat.lt_succ_iff_lt_or_eq.1 hj with h1 | h1
          · exact hno.out j h h1
          · subst h1; exact hk
        clear hk
        generalize acts[i].2 = y at *
        generalize acts[i].1 = x at *
        go_wp2
        exact ⟨⟨i + 1, by omega, by simp, hbl.alloc hsz _, HX⟩, by simp [intOf]; omega⟩
    · have HX := hide (actIx_none acts key (fun j hj => hno.out j hj (by omega)))
      have hin : i = n := by omega
      subst hin
      go_wp2
      go_ret
      exact ⟨by rw [HX.out]; rfl, hbl⟩

/-- actions in memory -/
abbrev Ac (w : World) (av : Value) (acts : List (ByteArray × ByteArray)) : Prop := Rw w 301 2 av acts.length (actCells acts)

set_option maxRecDepth 100000 in
set_option maxHeartbeats 400000 in
theorem find_any (db o : Nat) (av : Value) (acts : List (ByteArray × ByteArray)) (key : ByteArray) (w : World) (hlt : db < w.heap.size) (hc : w.cell? ⟨db, o, none⟩ = some av) (ha : Ac w av acts) (hn : acts.length ≤ 33) :
    Calls Tryz.prog 189 #[.pointer (some ⟨db, o, none⟩), .string key] w
      fun r w' => r = .returned (.int .i64 (actIx acts key)) ∧ Below w.heap.size w w' := by
  have hA := Below.alloc (Below.refl w.heap.size w) (Nat.le_refl _) (.cells #[.string key] 9)
  obtain ⟨rfl, h1, h2⟩ | ⟨b, off, cap, cur, rfl, hb, h1, h2, h3, h4, h5⟩ := ha
  · have hnil : acts = [] := List.eq_nil_of_length_eq_zero h1
    subst hnil
    go_enter Tryz.func189, Tryz.ntmps189
    go_wp2
    refine wp_loop_rounds 1 ?_
    rw [rounds_succ]
    go_wp2
    go_ret
    exact ⟨rfl, hA⟩
  · have hb' := hb.below hA hb.lt
    have HC := hide (index_any b off acts.length cap w.heap.size key acts (w.alloc (.cells #[.string key] 9)) hb'.lt (by simp) ((Blk.new w 9 #[.string key]).cell 0) rfl hn (fun i h => ⟨by rw [hb'.cell, h5 _ (by omega), actCells_key acts i h], by rw [hb'.cell, Nat.add_assoc, h5 _ (by omega), actCells_val acts i h]⟩))
    generalize hna : acts.length = n at *
    clear hna hb hb' h2 h3 h4 h5
    go_enter Tryz.func189, Tryz.ntmps189
    go_wp2_with (go_at_call 221; refine HC.out.mono ?_; rintro e w1 ⟨rfl, hb1⟩)
    go_ret
    exact ⟨rfl, hA.trans (hb1.mono (by simp))⟩
end Go.Proofs.YthpmcilljbmoiaaGreatDoor
namespace Go.Proofs.YthpmcilljbmoiaaGreatDoor
open Go.RowKit

theorem infoAct : (Tryz.prog.info? 301).map (fun i => (i.zero, i.size, i.bytes)) = some (some (.agg #[.string ⟨#[]⟩, .string ⟨#[]⟩]), 2, 32) := by kernel_rfl

theorem Ac.shape {w : World} {av : Value} {acts : List (ByteArray × ByteArray)} (h : Ac w av acts) : ∃ a c, av = .slice a acts.length c ∧ acts.length ≤ c := by
  obtain ⟨rfl, h1, h2⟩ | ⟨b, off, cap, cur, rfl, hb, h1, h2, h3, h4, h5⟩ := h
  · exact ⟨none, 0, by rw [h1], by omega⟩
  · exact ⟨_, _, rfl, h1⟩

set_option maxRecDepth 100000 in
set_option maxHeartbeats 400000 in
theorem bookGet_none (db o : Nat) (av : Value) (acts : List (ByteArray × ByteArray)) (key : ByteArray) (w : World) (hlt : db < w.heap.size) (hc : w.cell? ⟨db, o, none⟩ = some av) (ha : Ac w av acts) (hn : acts.length ≤ 33) (hx : actIx acts key = -1) :
    Calls Tryz.prog 188 #[.pointer (some ⟨db, o, none⟩), .string key] w
      fun r w' => r = .returned (.tuple #[.string ⟨#[]⟩, .bool false]) ∧ Below w.heap.size w w' := by
  have HC := hide (find_any db o av acts key w hlt hc ha hn)
  rw [hx] at HC
  clear ha
  go_enter Tryz.func188, Tryz.ntmps188
  go_wp2_with (go_at_call 189; refine HC.out.mono ?_; rintro e w1 ⟨rfl, hb1⟩)
  go_ret2
  exact ⟨rfl, hb1⟩

set_option maxRecDepth 100000 in
set_option maxHeartbeats 400000 in
theorem bookGet_at (db o : Nat) (av : Value) (acts : List (ByteArray × ByteArray)) (key : ByteArray) (i : Nat) (hi : i < acts.length) (w : World) (hlt : db < w.heap.size) (hc : w.cell? ⟨db, o, none⟩ = some av) (ha : Ac w av acts) (hn : acts.length ≤ 33) (hx : actIx acts key = i) :
    Calls Tryz.prog 188 #[.pointer (some ⟨db, o, none⟩), .string key] w
      fun r w' => r = .returned (.tuple #[.string acts[i].2, .bool true]) ∧ Below w.heap.size w w' := by
  have HC := hide (find_any db o av acts key w hlt hc ha hn)
  rw [hx] at HC
  obtain ⟨rfl, h1, h2⟩ | ⟨b, off, cap, cur, rfl, hb, h1, h2, h3, h4, h5⟩ := ha
  · omega
  have q2 : w.cell? ⟨b, off + i * 2 + 1, none⟩ = some (.string acts[i].2) := by rw [hb.cell, Nat.add_assoc, h5 _ (by omega), actCells_val acts i hi]
  have hbl := hb.lt
  generalize acts[i].2 = y at *
  generalize hna : acts.length = n at *
  clear h4 h5 hb h3 h2
  go_enter Tryz.func188, Tryz.ntmps188
  go_wp2_with (go_at_call 189; refine HC.out.mono ?_; rintro e w1 ⟨rfl, hb1⟩; have c1 := (hb1.cell (p := ⟨db, o, none⟩) hlt).trans hc; have c2 := (hb1.cell (p := ⟨b, off + i * 2 + 1, none⟩) hbl).trans q2)
  go_ret2
  exact ⟨rfl, hb1⟩

theorem actCells_set (l : List (ByteArray × ByteArray)) (i : Nat) (v : ByteArray) : ∀ (h : i < l.length), actCells (l.set i (l[i].1, v)) = (actCells l).set (i * 2 + 1) (.string v) := by
  induction l generalizing i with
  | nil => intro h; simp at h
  | cons a l ih =>
    intro h
    cases i with
    | zero => rfl
    | succ i =>
      have := ih i (by simpa using h)
      simp only [actCells, List.flatMap_cons, List.set_cons_succ, List.getElem_cons_succ] at *
      rw [this, show (i + 1) * 2 + 1 = (i * 2 + 1) + 2 by omega]
      rfl

set_option maxRecDepth 100000 in
set_option maxHeartbeats 400000 in
theorem bookPut_at (db o : Nat) (t : TypeId) (cs : Array Value) (av : Value) (acts : List (ByteArray × ByteArray)) (key val : ByteArray) (i : Nat) (hi : i < acts.length) (w : World) (hB : Blk w db t cs) (hc : w.cell? ⟨db, o, none⟩ = some av) (ha : Ac w av acts) (hn : acts.length ≤ 33) (hx : actIx acts key = i) :
    Calls Tryz.prog 137 #[.pointer (some ⟨db, o, none⟩), .string key, .string val] w
      fun r w' => r = .returned (.tuple #[]) ∧ Ac w' av (acts.set i (acts[i].1, val)) ∧ Kept (fun k => av.ownBlock = some k) w w' := by
  have hlt := hB.lt
  have HC := hide (find_any db o av acts key w hlt hc ha hn)
  rw [hx] at HC
  obtain ⟨rfl, h1, h2⟩ | ⟨b, off, cap, cur, rfl, hb, h1, h2, h3, h4, h5⟩ := ha
  · omega
  have HS := hide (actCells_set acts i val hi)
  have H5 := hide h5
  have hbl := hb.lt
  have hbs : off + i * 2 + 1 < cur.size := by omega
  clear h5
  go_enter Tryz.func137, Tryz.ntmps137
  go_wp2_with (go_at_call 189; refine HC.out.mono ?_; rintro e w1 ⟨rfl, hb1⟩; have c1 := (hb1.cell (p := ⟨db, o, none⟩) hlt).trans hc; have hb2 := hb.below hb1 hbl; have c2 : w1.cell? ⟨b, off + i * 2 + 1, none⟩ = some cur[off + i * 2 + 1] := (by rw [hb2.cell, Array.getElem?_eq_getElem hbs]); have f2 := hb2.frozen (off + i * 2 + 1))
  refine bodyPost_ret (results_none rfl _ _ _) rfl ⟨rfl, .inr ⟨b, off, cap, _, by rw [List.length_set], hb2.set _ _, by rw [List.length_set]; exact h1, h2, by simpa using h3, by rw [HS.out, List.length_set, List.length_set]; exact h4, fun j hj => ?_⟩, ?_⟩
  · rw [HS.out, Array.getElem?_setIfInBounds, List.getElem?_set]
    rw [List.length_set] at hj
    by_cases e : i * 2 + 1 = j
    · rw [if_pos (by omega), if_pos e, if_pos hbs, if_pos (by omega)]
    · rw [if_neg (by omega), if_neg e]
      exact H5.out j hj
  · exact (Kept.ofBelow hb1).set _ _ (fun _ => rfl)
end Go.Proofs.YthpmcilljbmoiaaGreatDoor
