import Derived.Test.YthpmcilljbmoiaaGreatDoorParse
namespace Go.Proofs.YthpmcilljbmoiaaGreatDoor
open Go.RowKit

/-- the cells of actions -/
def actCells (l : List (ByteArray × ByteArray)) : List Value := l.flatMap fun a => [.string a.1, .string a.2]
/-- where a key stands -/
def actIx (l : List (ByteArray × ByteArray)) (key : ByteArray) : Int := match l.findIdx? (fun a => decide (a.1 = key)) with | some i => i | none => -1
theorem actCells_len (l : List (ByteArray × ByteArray)) : (actCells l).length = l.length * 2 := by
  induction l with
  | nil => rfl
  | cons a l ih => simp only [actCells, List.flatMap_cons, List.length_append, List.length_cons, List.length_nil] at *; omega
theorem actCells_key (l : List (ByteArray × ByteArray)) : ∀ (i : Nat) (h : i < l.length), (actCells l)[i * 2]? = some (.string l[i].1) := by
  induction l with
  | nil => intro i h; simp at h
  | cons a l ih =>
    intro i h
    cases i with
    | zero => rfl
    | succ i =>
      have := ih i (by simpa using h)
      simp only [actCells, List.flatMap_cons] at *
      rw [show (i + 1) * 2 = i * 2 + 2 by omega]
      simpa using this
theorem actCells_val (l : List (ByteArray × ByteArray)) : ∀ (i : Nat) (h : i < l.length), (actCells l)[i * 2 + 1]? = some (.string l[i].2) := by
  induction l with
  | nil => intro i h; simp at h
  | cons a l ih =>
    intro i h
    cases i with
    | zero => rfl
    | succ i =>
      have := ih i (by simpa using h)
      simp only [actCells, List.flatMap_cons] at *
      rw [show (i + 1) * 2 + 1 = i * 2 + 1 + 2 by omega]
      simpa using this

theorem str_same (a b : ByteArray) (h : a = b) : (a.toList == b.toList) = true := by subst h; simp
theorem str_other (a b : ByteArray) (h : a ≠ b) : (a.toList == b.toList) = false := by
  rw [beq_eq_false_iff_ne]
  intro e
  rw [ByteArray.toList_eq, ByteArray.toList_eq] at e
  exact h (ByteArray.ext (Array.ext' e))
theorem actIx_at (l : List (ByteArray × ByteArray)) (key : ByteArray) (i : Nat) (hi : i < l.length) (hk : l[i].1 = key) (hno : ∀ j (h : j < l.length), j < i → l[j].1 ≠ key) : actIx l key = i := by
  have : l.findIdx? (fun a => decide (a.1 = key)) = some i := by
    rw [List.findIdx?_eq_some_iff_getElem]
    exact ⟨hi, by simp [hk], fun j hj => by simpa using hno j (by omega) hj⟩
  simp [actIx, this]
theorem actIx_none (l : List (ByteArray × ByteArray)) (key : ByteArray) (hno : ∀ j (h : j < l.length), l[j].1 ≠ key) : actIx l key = -1 := by
  have : l.findIdx? (fun a => decide (a.1 = key)) = none := by
    rw [List.findIdx?_eq_none_iff]
    intro x hx
    obtain ⟨j, hj, rfl⟩ := List.getElem_of_mem hx
    simpa using hno j hj
  simp [actIx, this]

set_option maxRecDepth 100000 in
set_option maxHeartbeats 400000 in
theorem index_any (b off n cap kb : Nat) (key : ByteArray) (acts : List (ByteArray × ByteArray)) (w : World) (hb : b < w.heap.size) (hkl : kb < w.heap.size) (hkey : w.cell? ⟨kb, 0, none⟩ = some (.string key)) (hn : acts.length = n) (hn33 : n ≤ 33)
    (hcells : ∀ i (h : i < acts.length), w.cell? ⟨b, off + i * 2, none⟩ = some (.string acts[i].1) ∧ w.cell? ⟨b, off + i * 2 + 1, none⟩ = some (.string acts[i].2)) :
    Calls Tryz.prog 221 #[.slice (some ⟨b, off, none⟩) n cap, .func (.func 222) #[] #[.pointer (some ⟨kb, 0, none⟩)]] w
      fun r w' => r = .returned (.int .i64 (actIx acts key)) ∧ Below w.heap.size w w' := by
  have HK := hide hcells
  clear hcells
  go_enter Tryz.func221, Tryz.ntmps221
  go_wp2
  go_loopw [8] (fun iv wr => ∃ i : Nat, i ≤ n ∧ iv = .int .i64 i ∧ Below w.heap.size w wr ∧ Hid (∀ j (h : j < acts.length), j < i → acts[j].1 ≠ key)) (fun iv _ => n - (intOf iv).toNat)
  case atStart => exact ⟨0, by omega, rfl, Below.refl _ _, fun j _ h => by omega⟩
  case round =>
    obtain ⟨i, hi, rfl, hbl, hno⟩ := hrel
    have hkey' : wr.cell? ⟨kb, 0, none⟩ = some (.string key) := by rw [hbl.cell hkl]; exact hkey
    have hsz := hbl.size
    by_cases h : i < n
    · obtain ⟨q1, q2⟩ := HK.out i (by omega)
      have q1' : wr.cell? ⟨b, off + i * 2, none⟩ = some (.string acts[i].1) := by rw [hbl.cell hb]; exact q1
      have q2' : wr.cell? ⟨b, off + i * 2 + 1, none⟩ = some (.string acts[i].2) := by rw [hbl.cell hb]; exact q2
      clear q1 q2
      have hkl' : kb < wr.heap.size := by omega
      by_cases hk : acts[i].1 = key
      · have hbb := str_same _ _ hk
        generalize acts[i].2 = y at *
        have HX := hide (actIx_at acts key i (by omega) hk (fun j h hj => hno.out j h hj))
        generalize acts[i].1 = x at *
        clear hk
        go_wp2
        go_ret
        exact ⟨by rw [HX.out]; rfl, hbl.alloc hsz _⟩
      · have hbb := str_other _ _ hk
        have HX : Hid (∀ j (h : j < acts.length), j < i + 1 → acts[j].1 ≠ key) := fun j h hj => by
          rcases Nat.lt_succ_iff_lt_or_eq.1 hj with h1 | h1
          · exact hno.out j h h1
          · subst h1; exact hk
        clear hk
        generalize acts[i].2 = y at *
        generalize acts[i].1 = x at *
        go_wp2
        exact ⟨⟨i + 1, by omega, by simp, hbl.alloc hsz _, HX⟩, by simp [intOf]; omega⟩
    · have HX := hide (actIx_none acts key (fun j hj => hno.out j hj (by omega)))
      have hin : i = n := by omega
      subst hin
      go_wp2
      go_ret
      exact ⟨by rw [HX.out]; rfl, hbl⟩

/-- actions in memory -/
abbrev Ac (w : World) (av : Value) (acts : List (ByteArray × ByteArray)) : Prop := Rw w 301 2 av acts.length (actCells acts)

set_option maxRecDepth 100000 in
set_option maxHeartbeats 400000 in
theorem find_any (db o : Nat) (av : Value) (acts : List (ByteArray × ByteArray)) (key : ByteArray) (w : World) (hlt : db < w.heap.size) (hc : w.cell? ⟨db, o, none⟩ = some av) (ha : Ac w av acts) (hn : acts.length ≤ 33) :
    Calls Tryz.prog 189 #[.pointer (some ⟨db, o, none⟩), .string key] w
      fun r w' => r = .returned (.int .i64 (actIx acts key)) ∧ Below w.heap.size w w' := by
  have hA := Below.alloc (Below.refl w.heap.size w) (Nat.le_refl _) (.cells #[.string key] 9)
  obtain ⟨rfl, h1, h2⟩ | ⟨b, off, cap, cur, rfl, hb, h1, h2, h3, h4, h5⟩ := ha
  · have hnil : acts = [] := List.eq_nil_of_length_eq_zero h1
    subst hnil
    go_enter Tryz.func189, Tryz.ntmps189
    go_wp2
    refine wp_loop_rounds 1 ?_
    rw [rounds_succ]
    go_wp2
    go_ret
    exact ⟨rfl, hA⟩
  · have hb' := hb.below hA hb.lt
    have HC := hide (index_any b off acts.length cap w.heap.size key acts (w.alloc (.cells #[.string key] 9)) hb'.lt (by simp) ((Blk.new w 9 #[.string key]).cell 0) rfl hn (fun i h => ⟨by rw [hb'.cell, h5 _ (by omega), actCells_key acts i h], by rw [hb'.cell, Nat.add_assoc, h5 _ (by omega), actCells_val acts i h]⟩))
    generalize hna : acts.length = n at *
    clear hna hb hb' h2 h3 h4 h5
    go_enter Tryz.func189, Tryz.ntmps189
    go_wp2_with (go_at_call 221; refine HC.out.mono ?_; rintro e w1 ⟨rfl, hb1⟩)
    go_ret
    exact ⟨rfl, hA.trans (hb1.mono (by simp))⟩
end Go.Proofs.YthpmcilljbmoiaaGreatDoor
