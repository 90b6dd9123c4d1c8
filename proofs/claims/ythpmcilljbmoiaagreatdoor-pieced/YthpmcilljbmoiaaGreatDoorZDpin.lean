import Derived.Test.YthpmcilljbmoiaaGreatDoorZ13
import Derived.Test.YthpmcilljbmoiaaGreatDoorZ18
import Derived.Deep.CutBlock
import Derived.Deep.DeepCutAuto
namespace Go.Proofs.YthpmcilljbmoiaaGreatDoor
open Go.RowKit

variable {w : World} {db sb : Nat} {l : List Bl} {room held pinned : Int} {bv : Value}
set_option maxRecDepth 100000 in
set_option maxHeartbeats 1000000 in
/-- Find of a blob that is held, under a lease -/
theorem find_pin (nm : ByteArray) (i lb : Nat) (x : Le) (nv : Value) (hi : i < l.length) (hso : SOf w db sb nm) (hS : Sh w sb l room held pinned bv) (hL : Lm w lb x nv) (hl : l.length ≤ 1000) (hx : ixB l nm = some i) (hp : l[i].pn < 10000) (hb : l[i].bs.size ≤ 200) (hz : 0 ≤ pinned ∧ pinned ≤ 50000) (hn : x.names.length ≤ 1000) :
    Calls Tryz.prog 133 #[.pointer (some ⟨db, 0, none⟩), .string nm, .pointer (some ⟨lb, 0, none⟩)] w
      fun r w' => ∃ v nv', r = .returned v ∧ Bs w' 5 v (b8 1) ∧ Sh w' sb (pinsAt l i hi (l[i].pn + 1)) room held (pinned + pinDelta l i hi) bv ∧ Lm w' lb { x with names := x.names ++ [nm] } nv' ∧ Kept (fun k => (k = sb ∨ bv.ownBlock = some k) ∨ (k = lb ∨ nv.ownBlock = some k)) w w' ∧ Home w nv nv' ∧ Fresh w.heap.size v := by
  have H1 := hide (hso w (Below.refl _ _))
  have H2 : Hid (∀ w1, Below w.heap.size w w1 → Calls Tryz.prog 182 #[.pointer (some ⟨sb, 0, none⟩), .string nm] w1 fun r w' => r = .returned (.bool true) ∧ w1 = w') := fun w1 hb => by
    have := holds_sh nm (hS.below hb) hl
    rw [hx] at this
    exact this
  have nL : ∀ k, (k = sb ∨ bv.ownBlock = some k) → k ≠ lb ∧ nv.ownBlock ≠ some k := fun k e => by
    rcases e with rfl | e
    · exact ⟨hS.1.ne hL.1 (by decide), Rw.ne hL.2 hS.1 (by decide)⟩
    · exact ⟨fun e2 => Rw.ne hS.2 hL.1 (by decide) (e2 ▸ e), Rw.ne2 hS.2 hL.2 (by decide) e⟩
  have H3 : Hid (∀ w1, Below w.heap.size w w1 → Calls Tryz.prog 184 #[.pointer (some ⟨sb, 0, none⟩), .string nm] w1 fun r w' => r = .returned (.bool true) ∧ Sh w' sb (pinsAt l i hi (l[i].pn + 1)) room held (pinned + pinDelta l i hi) bv ∧ Kept (fun k => k = sb ∨ bv.ownBlock = some k) w w' ∧ Lm w' lb x nv) := fun w1 hbl => by
    refine (pin_sh nm i hi hx (hS.below hbl) hl hp hb hz).mono ?_
    rintro e w' ⟨q1, q2, q3⟩
    exact ⟨q1, q2, (Kept.ofBelow hbl).next q3 (fun _ _ h => h), (hL.below hbl).kept q3 (fun e => (nL _ e).1 rfl) (fun k hk e => (nL k e).2 hk)⟩
  have H4 : Hid (∀ w1, Sh w1 sb (pinsAt l i hi (l[i].pn + 1)) room held (pinned + pinDelta l i hi) bv → Kept (fun k => k = sb ∨ bv.ownBlock = some k) w w1 → Lm w1 lb x nv → Calls Tryz.prog 185 #[.pointer (some ⟨lb, 0, none⟩), .string nm] w1 fun r w' => r = .returned (.tuple #[]) ∧ ∃ nv', Sh w' sb (pinsAt l i hi (l[i].pn + 1)) room held (pinned + pinDelta l i hi) bv ∧ Lm w' lb { x with names := x.names ++ [nm] } nv' ∧ Kept (fun k => (k = sb ∨ bv.ownBlock = some k) ∨ (k = lb ∨ nv.ownBlock = some k)) w w' ∧ Home w nv nv') := fun w1 h1 h2 h3 => by
    refine (ljoin_any lb nm x nv w1 h3 hn).mono ?_
    rintro e w' ⟨q1, nv', q2, q3, q4⟩
    refine ⟨q1, nv', h1.kept q3 (fun e => ?_) (fun k hk e => ?_), q2, (h2.mono (fun _ _ h => .inl h)).next q3 (fun _ _ h => .inr h), (Home.refl w nv).trans h2.size q4⟩
    · rcases e with e | e
      · exact (nL sb (.inl rfl)).1 e
      · exact (nL sb (.inl rfl)).2 e
    · rcases e with e | e
      · exact (nL k (.inr hk)).1 e
      · exact (nL k (.inr hk)).2 e
  have H5 := hide yes_any
  clear hso hS hL nL
  generalize pinsAt l i hi (l[i].pn + 1) = L' at *
  generalize pinned + pinDelta l i hi = P' at *
  generalize ({ x with names := x.names ++ [nm] } : Le) = x' at *
  go_enter Tryz.func133, Tryz.ntmps133
  go_wp2_with (first | (go_at_call 140; refine H1.out.mono ?_; rintro e w1 ⟨rfl, k1⟩) | (go_at_call 182; refine (H2.out w1 k1).mono ?_; rintro e w2 ⟨rfl, rfl⟩) | (go_at_call 184; refine (H3.out w1 k1).mono ?_; rintro e w3 ⟨rfl, s3, k3, l3⟩) | (go_at_call 185; refine (H4.out w3 s3 k3 l3).mono ?_; rintro e w4 ⟨rfl, nv4, s4, l4, k4, o4⟩) | (go_at_call 186; refine (H5.out _).mono ?_; rintro e w5 ⟨v, rfl, b5, k5, f5⟩))
  go_ret
  exact ⟨v, nv4, rfl, b5, s4.below k5, l4.below k5, k4.below k5, o4, f5.mono k4.size⟩

theorem Bs.oneB (w : World) (k : Nat) (hk : k < 256) : Bs (w.alloc (.cells #[.int .u8 (k : Int)] 5)) 5 (.slice (some ⟨w.heap.size, 0, none⟩) 1 1) (b8 k) := Bs.one w k k rfl hk
set_option maxRecDepth 100000 in
set_option maxHeartbeats 1000000 in
/-- the bytes have another name -/
theorem update_wrong (nm bs nm' : ByteArray) (hno : ∀ w1, Below w.heap.size w w1 → Calls Tryz.prog 84 #[.string bs] w1 fun r w' => r = .returned (.string nm') ∧ Below w1.heap.size w1 w') (hne : nm' ≠ nm) :
    Calls Tryz.prog 135 #[.pointer (some ⟨db, 0, none⟩), .agg #[.string nm, .string bs]] w fun r w' => ∃ v, r = .returned v ∧ Bs w' 5 v (b8 2) ∧ Below w.heap.size w w' ∧ Fresh w.heap.size v := by
  have hA := Below.alloc (Below.refl w.heap.size w) (Nat.le_refl _) (.cells #[.string nm, .string bs] 253)
  have hN1 := Blk.new w 253 #[.string nm, .string bs]
  have HO : Hid (Calls Tryz.prog 84 #[.string bs] (World.drew (w.alloc (.cells #[.string nm, .string bs] 253))) fun r w' => r = .returned (.string nm') ∧ Below w.heap.size w w' ∧ w'.cell? ⟨w.heap.size, 0, none⟩ = some (.string nm)) := by
    refine (hno _ hA.drew).mono ?_
    rintro e w' ⟨q1, q2⟩
    exact ⟨q1, hA.drew.trans (q2.mono hA.size), (hN1.drew.below q2 (by simp)).cell 0⟩
  have hbb := str_other _ _ hne
  clear hno
  go_enter Tryz.func135, Tryz.ntmps135
  go_wp2
  generalize w.alloc (.cells #[.string nm, .string bs] 253) = W1 at *
  have c0 : W1.cell? ⟨w.heap.size, 0, none⟩ = some (.string nm) := hN1.cell 0
  have c1 : W1.cell? ⟨w.heap.size, 1, none⟩ = some (.string bs) := hN1.cell 1
  go_region_with (go_at_call 84; refine HO.out.mono ?_; rintro e w2 ⟨rfl, k2, e0⟩)
  all_goals
    go_wp2
    go_ret
    refine ⟨_, rfl, Bs.oneB w2 2 (by omega), k2.alloc k2.size _, fun k hk => ?_⟩
    simp [Value.ownBlock] at hk
    have := k2.size
    omega
end Go.Proofs.YthpmcilljbmoiaaGreatDoor
