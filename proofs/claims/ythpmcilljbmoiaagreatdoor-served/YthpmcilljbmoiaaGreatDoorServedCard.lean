import Derived.Test.YthpmcilljbmoiaaGreatDoorServedA
import Derived.Test.YthpmcilljbmoiaaGreatDoorCards
import Derived.Test.YthpmcilljbmoiaaGreatDoorTie
import Derived.WalkKit
import Derived.ProofKit
import Derived.OpenShut
import Derived.Deep.DeepHandedRow
import Derived.Deep.Matrix
import Derived.ChangeSlices
import Derived.Lib.LaidTab
import Derived.Carry

namespace Go.Proofs.YthpmcilljbmoiaaGreatDoor.served
open Go.ChangeMaps Go.ChangeShapes Go.WideShapes Go.ChangeAt Go.RowKit Go.Deep

theorem own : ownKnob Tryz.prog.godebug = none := by kernel_rfl
theorem cellsInt : Tryz.prog.cellsOf 3 = 1 := by kernel_rfl
theorem cellsInts : Tryz.prog.cellsOf 30 = 1 := by kernel_rfl
theorem laidOut : laidOutB Tryz.prog = true := by kernel_rfl
theorem gTab : Tryz.prog.globalNamed "depot/sum.roundWords" = some 0 := by kernel_rfl
theorem gTabType : (Tryz.prog.globals[0]?).map (·.type) = some 278 := by kernel_rfl
theorem cellsTab : Tryz.prog.cellsOf 278 = 64 := by kernel_rfl
theorem cellsWord : Tryz.prog.cellsOf 165 = 1 := by kernel_rfl

/-- the table's words -/
def Kn : List Nat := [1116352408, 1899447441, 3049323471, 3921009573, 961987163, 1508970993, 2453635748, 2870763221, 3624381080, 310598401, 607225278, 1426881987, 1925078388, 2162078206, 2614888103, 3248222580, 3835390401, 4022224774, 264347078, 604807628, 770255983, 1249150122, 1555081692, 1996064986, 2554220882, 2821834349, 2952996808, 3210313671, 3336571891, 3584528711, 113926993, 338241895, 666307205, 773529912, 1294757372, 1396182291, 1695183700, 1986661051, 2177026350, 2456956037, 2730485921, 2820302411, 3259730800, 3345764771, 3516065817, 3600352804, 4094571909, 275423344, 430227734, 506948616, 659060556, 883997877, 958139571, 1322822218, 1537002063, 1747873779, 1955562222, 2024104815, 2227730452, 2361852424, 2428436474, 2756734187, 3204031479, 3329325298]
def Kz : List Int := Kn.map fun n : Nat => (n : Int)
theorem laid_eq : Rows.servedRow.laid = [("depot/sum.roundWords", Lib.tabData .u32 Kz)] := rfl
theorem Kz_get (i : Nat) : Kz.getD i 0 = (Kn.getD i 0 : Nat) := by
  simp only [Kz, List.getD_eq_getElem?_getD, List.getElem?_map]
  cases Kn[i]? <;> rfl
theorem Kn_lt (i : Nat) : Kn.getD i 0 < 4294967296 := by
  have h : ∀ x ∈ Kn, x < 4294967296 := by decide
  rw [List.getD_eq_getElem?_getD]
  cases e : Kn[i]? with
  | none => decide
  | some x => exact h x (List.mem_of_getElem? e)
theorem table {W : World} (h : laidMetH Tryz.prog Rows.servedRow.laid W) (i : Nat) (hi : i < 64) : W.cell? ⟨0, i, none⟩ = some (.int .u32 (Kn.getD i 0 : Nat)) := by
  rw [laid_eq] at h
  have := (Lib.tabIs_of_head (rest := []) gTab gTabType Tryz.underlying278 Tryz.underlying165 cellsWord cellsTab h).cell gTab i (by rw [show Kz.length = 64 from rfl]; exact hi)
  rw [this, Kz_get]
theorem range_of {n : Int} (h : (Lit.int .i64 n).wf = true) : -9223372036854775808 ≤ n ∧ n ≤ 9223372036854775807 := by
  simp only [Lit.wf, Bool.and_eq_true, decide_eq_true_eq] at h
  exact h
theorem range_get {l : List Int} (h : ∀ n ∈ l, (Lit.int .i64 n).wf = true) (k : Nat) : -9223372036854775808 ≤ l.getD k 0 ∧ l.getD k 0 ≤ 9223372036854775807 := by
  rw [List.getD_eq_getElem?_getD]
  cases e : l[k]? with
  | none => decide
  | some x => exact range_of (h x (List.mem_of_getElem? e))
theorem spot_none {w : World} {a : Addr} {v : Value} (h : w.cell? (a.add 0) = some v) : a = ⟨a.block, a.off, none⟩ := by
  obtain ⟨b, off, spot⟩ := a
  have hs : spot = none := by simpa [Addr.add] using World.cell?_spot h
  subst hs
  rfl
theorem at_lit {w : World} {a : Addr} {i : Nat} {v : Value} (hs : a = ⟨a.block, a.off, none⟩) (h : w.cell? (a.add i) = some v) : w.cell? ⟨a.block, a.off + i, none⟩ = some v := by
  rw [hs, Addr.add_lit] at h
  exact h

set_option maxRecDepth 100000 in
theorem contract (H : Type) (enc : TypeId × Value → H) (W : World) (base : Nat) (args : Array Value) (ds gs : List (DataW H)) (before : List MemPlace)
    (hval : ∀ (j : Nat) t v, Tryz.f10.params[j]? = some t → args[j]? = some v → Value.okWide Tryz.prog W .any base t v)
    (hW : DataW.Whole enc Tryz.prog Tryz.f10.params.toList Rows.servedSpec.vars false W args.toList ds gs before) (hL : laidMetH Tryz.prog Rows.servedRow.laid W) :
    Calls Tryz.prog 10 args W fun e W' => ∃ v, e = .returned v ∧ Rows.servedSpec.post enc Tryz.prog Tryz.f10 false true false false W args v W' := by
  have hW' := hW
  obtain ⟨p, q, hA0, hV, rfl, hfz, hnd⟩ := hW
  have hA : DataW.TrodAll enc Tryz.prog W 0 (fun _ => true) true Tryz.f10.params.toList args.toList ds p := hA0
  rw [Tryz.params10] at hA hval
  obtain ⟨v0, vs0, d0, ds0, p0, q0, hargs, rfl, rfl, h0, r0⟩ := trodAll_cons hA
  obtain ⟨v1, vs1, d1, ds1, p1, q1, hargs1, rfl, rfl, h1, r1⟩ := trodAll_cons r0
  obtain ⟨rfl, rfl, rfl⟩ := trodAll_nil r1
  obtain rfl : args = #[v0, v1] := by cases args; simp_all
  obtain ⟨rfl, rfl⟩ := trodVars_none hV
  obtain ⟨a0, n0, c0, rfl⟩ := okWide_slice Tryz.underlying64 (hval 0 64 v0 rfl rfl)
  obtain ⟨a1, n1, c1, rfl⟩ := okWide_slice Tryz.underlying30 (hval 1 30 v1 rfl rfl)
  have h0k := h0
  have h1k := h1
  obtain ⟨fuel0, hf0⟩ := h0
  obtain ⟨fuel1, hf1⟩ := h1
  clear hA0
  simp only [List.append_nil] at hW'
  have hlt : ∀ x ∈ p0 ++ p1, x.block < W.heap.size := fun x hx => by simpa using hW'.lt x (by simpa using hx)
  have fin : ∀ L sz st, Args2 W a0 n0 L sz a1 n1 st → Calls Tryz.prog 10 #[.slice a0 n0 c0, .slice a1 n1 c1] W fun e W' => ∃ v, e = .returned v ∧ Rows.servedSpec.post enc Tryz.prog Tryz.f10 false true false false W #[.slice a0 n0 c0, .slice a1 n1 c1] v W' := fun L sz st hS => by
    refine (served_any Kn Kn_lt a0 n0 c0 L sz a1 n1 c1 st W (table hL) hS).mono fun e W' ⟨he, hb⟩ => ?_
    subst he
    exact ⟨_, rfl, _, _, _, [], _, [], hW', trodAll_mk1 (shut_bool Tryz.underlying4 _), trodAll_mk2 (Below.trod laidOut (by kernel_rfl) (of_decide_eq_true (by kernel_rfl)) h0k hb (fun x hx => hlt x (List.mem_append_left _ hx))) (Below.trod laidOut (by kernel_rfl) (of_decide_eq_true (by kernel_rfl)) h1k hb (fun x hx => hlt x (List.mem_append_right _ hx))), rfl, hb.frame _, fun h => by cases h⟩
  have part1 : ∃ st : Nat → Int, (∀ s, s < n1 → ∃ b off, a1 = some ⟨b, off, none⟩ ∧ W.cell? ⟨b, off + s, none⟩ = some (.int .i64 (st s))) ∧ ∀ s, -9223372036854775808 ≤ st s ∧ st s ≤ 9223372036854775807 := by
    rcases open_ints Tryz.underlying30 Tryz.underlying3 cellsInt hf1 with ⟨hcs, hx⟩ | ⟨a, len, cap, zs, hcs, _, hl, hm, hz, hx, hcell, hwf⟩
    · simp [Value.cells] at hcs
      obtain ⟨rfl, rfl, rfl⟩ := hcs
      exact ⟨fun _ => 0, fun s hs => by omega, fun _ => (by decide : (-9223372036854775808 : Int) ≤ 0 ∧ (0 : Int) ≤ 9223372036854775807)⟩
    · simp [Value.cells] at hcs
      obtain ⟨rfl, rfl, rfl⟩ := hcs
      simp only [if_true] at hz
      refine ⟨fun s => zs.getD s 0, fun s hs => ?_, range_get hwf⟩
      have hsp := spot_none (hcell 0 (by omega))
      exact ⟨a.block, a.off, by rw [← hsp], at_lit hsp (hcell s (by omega))⟩
  have part0 : ∃ (L : Nat → Nat) (sz : Nat → Nat → Int), (∀ r, r < n0 → ∃ b off A C, a0 = some ⟨b, off, none⟩ ∧ W.cell? ⟨b, off + r, none⟩ = some (.slice A (L r) C) ∧ ∀ k, k < L r → ∃ b' off', A = some ⟨b', off', none⟩ ∧ W.cell? ⟨b', off' + k, none⟩ = some (.int .i64 (sz r k))) ∧ ∀ r k, -9223372036854775808 ≤ sz r k ∧ sz r k ≤ 9223372036854775807 := by
    rcases open_int_rows Tryz.underlying64 Tryz.underlying30 Tryz.underlying3 cellsInts cellsInt hf0 with ⟨hcs, hx⟩ | ⟨a, len, cap, A, L, C, Z, hcs, _, hl, hm, hx, hrow⟩
    · simp [Value.cells] at hcs
      obtain ⟨rfl, rfl, rfl⟩ := hcs
      exact ⟨fun _ => 0, fun _ _ => 0, fun r hr => by omega, fun _ _ => (by decide : (-9223372036854775808 : Int) ≤ 0 ∧ (0 : Int) ≤ 9223372036854775807)⟩
    · simp [Value.cells] at hcs
      obtain ⟨rfl, rfl, rfl⟩ := hcs
      refine ⟨L, fun r k => if r < c0 then (Z r).getD k 0 else 0, fun r hr => ?_, fun r k => ?_⟩
      · obtain ⟨g1, g2, g3, g4, g5, g6, g7⟩ := hrow r (by omega)
        have hsp := spot_none (hrow 0 (by omega)).1
        refine ⟨a.block, a.off, A r, C r, by rw [← hsp], at_lit hsp g1, fun k hk => ?_⟩
        cases hAr : A r with
        | none => have := g6 hAr; omega
        | some a' =>
          have hsp' := spot_none ((g7 a' hAr).2 0 (by omega))
          refine ⟨a'.block, a'.off, by rw [← hsp'], ?_⟩
          simp only [if_pos (show r < c0 by omega)]
          exact at_lit hsp' ((g7 a' hAr).2 k (by omega))
      · by_cases hr : r < c0
        · simp only [if_pos hr]
          exact range_get (hrow r hr).2.2.2.2.1 k
        · simp only [if_neg hr]
          decide
  obtain ⟨L, sz, q1, q2⟩ := part0
  obtain ⟨st, q3, q4⟩ := part1
  exact fin L sz st ⟨q1, q2, q3, q4⟩

theorem laid_met (os : Os) : laidMet Tryz.prog Rows.servedRow.laid (World.forCall ({ World.holding Tryz.prog os ⟨#[], #[], []⟩ with heap := (World.holding Tryz.prog os ⟨#[], #[], []⟩).heap.modify 0 fun | .cells _ t frozen => .cells (Kz.map fun z => Value.int .u32 z).toArray t frozen | o => o } : World) (fun _ _ => 0) ⟨#[], #[.slice none 0 0, .slice none 0 0], []⟩).memory :=
  laidMet_of_run' 8 (by kernel_rfl) (by kernel_rfl)
theorem reads (os : Os) {H : Type} (enc : TypeId × Value → H) : ∃ places, DataW.whole enc Tryz.prog (World.forCall ({ World.holding Tryz.prog os ⟨#[], #[], []⟩ with heap := (World.holding Tryz.prog os ⟨#[], #[], []⟩).heap.modify 0 fun | .cells _ t frozen => .cells (Kz.map fun z => Value.int .u32 z).toArray t frozen | o => o } : World) (fun _ _ => 0) ⟨#[], #[.slice none 0 0, .slice none 0 0], []⟩).memory Tryz.f10.params.toList Rows.servedSpec.vars false #[Value.slice none 0 0, Value.slice none 0 0].toList 8 = some ([.nil, .nil], [], places) :=
  ⟨[], by kernel_rfl⟩

set_option maxRecDepth 100000 in
theorem lifted (os : Os) (started : os.Started) (H : Type) (enc : TypeId × Value → H) (F : Stop.Interp) :
    ReturnsInHanded {} Tryz.checked os 10 .any ((OpenSpec.ofChange Rows.servedSpec).preRow enc Tryz.prog Tryz.f10 Rows.servedRow.domain false Rows.servedRow.laid) (((OpenSpec.ofChange Rows.servedSpec).at F).post enc Tryz.prog Tryz.f10 false true false false) := by
  obtain ⟨places, hx⟩ := reads os enc
  refine returnsInHanded_of_row (C := Tryz.checked) (s := OpenSpec.ofChange Rows.servedSpec) own started (by kernel_rfl) Tryz.func10
    (witness_row_at (enc := enc) (C := Tryz.checked) false ({ World.holding Tryz.prog os ⟨#[], #[], []⟩ with heap := (World.holding Tryz.prog os ⟨#[], #[], []⟩).heap.modify 0 fun | .cells _ t frozen => .cells (Kz.map fun z => Value.int .u32 z).toArray t frozen | o => o } : World) #[.slice none 0 0, .slice none 0 0] rfl (by kernel_rfl) (by kernel_rfl) (by kernel_rfl)
      (OpenSpec.preRow_of_cond 8 hx (by kernel_rfl) (fun k hk => by cases hk) (by kernel_rfl) (laid_met os))) ?_
  intro W base args ds gs before hval hW _ _ _ hL _ _
  exact contract H enc W base args ds gs before hval hW hL

theorem said : Rows.ServedSaid :=
  OpenClaim.holds_of_cond 10 Tryz.f10 rfl rfl rfl rfl rfl rfl rfl ⟨rfl, rfl, rfl, rfl, rfl⟩ rfl rfl rfl rfl rfl (by kernel_rfl) Tryz.func10 (by kernel_rfl)
    (of_decide_eq_true (by kernel_rfl)) (by unfold Func.isWrapper; first | (rw [if_pos (by decide +kernel)]; kernel_rfl) | (rw [if_neg (by decide +kernel)]; exact ⟨rfl, rfl⟩))
    (fun os started H enc _ F => by rw [OpenClaim.pre_eq_preRow]; exact lifted os started H enc F)

theorem plain (f : FuncId) (fn : Func) (hf : Tryz.pinned.checked.prog.funcNamed Rows.servedRow.func = some f) (hfn : Tryz.pinned.checked.prog.funcs[f]? = some fn) :
    true = Tryz.pinned.checked.prog.looks [] ∧ ∀ (j : Nat) t, fn.params[j]? = some t → Tryz.pinned.checked.prog.wantsStandIn t = false := by
  obtain rfl : f = 10 := Option.some.inj ((show Tryz.prog.funcNamed Rows.servedRow.func = some 10 by kernel_rfl).symm.trans hf) |>.symm
  obtain rfl : fn = Tryz.f10 := (Option.some.inj (Tryz.func10.symm.trans hfn)).symm
  refine ⟨by kernel_rfl, fun j t ht => ?_⟩
  rw [Tryz.params10] at ht
  have hm : t = 64 ∨ t = 30 := by simpa using Array.mem_of_getElem? ht
  rcases hm with rfl | rfl
  · exact (show Tryz.prog.wantsStandIn 64 = false by kernel_rfl)
  · exact (show Tryz.prog.wantsStandIn 30 = false by kernel_rfl)

theorem card : Rows.ServedCardSaid :=
  ⟨Claim7.tied_new_at .later [.data] true (Claim7.new_of_sixth said Rows.servedCard.stood.harness true rfl ⟨rfl, rfl⟩ (by kernel_rfl) rfl plain) (by kernel_rfl), (fun _ h => by cases h), served_row_tie, (fun h => by cases h), (by kernel_rfl)⟩
end Go.Proofs.YthpmcilljbmoiaaGreatDoor.served
namespace Go.Proofs.YthpmcilljbmoiaaGreatDoor
theorem served_card_holds : Rows.ServedCardSaid := served.card
end Go.Proofs.YthpmcilljbmoiaaGreatDoor
