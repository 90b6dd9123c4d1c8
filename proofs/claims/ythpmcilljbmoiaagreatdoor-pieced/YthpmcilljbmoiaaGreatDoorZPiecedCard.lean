import Derived.Test.YthpmcilljbmoiaaGreatDoorZMpz
import Derived.Test.YthpmcilljbmoiaaGreatDoorCards
import Derived.Test.YthpmcilljbmoiaaGreatDoorTie
import Derived.WalkKit
import Derived.ProofKit
import Derived.OpenShut
import Derived.Deep.DeepHandedRow
import Derived.Deep.Strs
import Derived.ChangeMaps5
import Derived.ChangeSlices
import Derived.Lib.LaidTab
import Derived.Carry
namespace Go.Proofs.YthpmcilljbmoiaaGreatDoor.pieced
open Go.ChangeMaps Go.ChangeShapes Go.WideShapes Go.ChangeAt Go.RowKit Go.Deep

theorem own : ownKnob Tryz.prog.godebug = none := by kernel_rfl
theorem cellsInt : Tryz.prog.cellsOf 3 = 1 := by kernel_rfl
theorem cellsStr : Tryz.prog.cellsOf 9 = 1 := by kernel_rfl
theorem laidOut : laidOutB Tryz.prog = true := by kernel_rfl
theorem gTab : Tryz.prog.globalNamed "depot/sum.roundWords" = some 0 := by kernel_rfl
theorem gTabType : (Tryz.prog.globals[0]?).map (·.type) = some 278 := by kernel_rfl
theorem cellsTab : Tryz.prog.cellsOf 278 = 64 := by kernel_rfl
theorem cellsWord : Tryz.prog.cellsOf 165 = 1 := by kernel_rfl

/-- the table's words -/
def Kn : List Nat := [1116352408, 1899447441, 3049323471, 3921009573, 961987163, 1508970993, 2453635748, 2870763221, 3624381080, 310598401, 607225278, 1426881987, 1925078388, 2162078206, 2614888103, 3248222580, 3835390401, 4022224774, 264347078, 604807628, 770255983, 1249150122, 1555081692, 1996064986, 2554220882, 2821834349, 2952996808, 3210313671, 3336571891, 3584528711, 113926993, 338241895, 666307205, 773529912, 1294757372, 1396182291, 1695183700, 1986661051, 2177026350, 2456956037, 2730485921, 2820302411, 3259730800, 3345764771, 3516065817, 3600352804, 4094571909, 275423344, 430227734, 506948616, 659060556, 883997877, 958139571, 1322822218, 1537002063, 1747873779, 1955562222, 2024104815, 2227730452, 2361852424, 2428436474, 2756734187, 3204031479, 3329325298]
def Kz : List Int := Kn.map fun n : Nat => (n : Int)
theorem laid_eq : Rows.piecedRow.laid = [("depot/sum.roundWords", Lib.tabData .u32 Kz)] := rfl
theorem Kz_get (i : Nat) : Kz.getD i 0 = (Kn.getD i 0 : Nat) := by
  simp only [Kz, List.getD_eq_getElem?_getD, List.getElem?_map]
  cases Kn[i]? <;> rfl
theorem Kn_lt (i : Nat) : Kn.getD i 0 < 4294967296 := by
  have h : ∀ x ∈ Kn, x < 4294967296 := by decide
  rw [List.getD_eq_getElem?_getD]
  cases e : Kn[i]? with
  | none => decide
  | some x => exact h x (List.mem_of_getElem? e)
theorem table {W : World} (h : laidMetH Tryz.prog Rows.piecedRow.laid W) (i : Nat) (hi : i < 64) : W.cell? ⟨0, i, none⟩ = some (.int .u32 (Kn.getD i 0 : Nat)) := by
  rw [laid_eq] at h
  have := (Lib.tabIs_of_head (rest := []) gTab gTabType Tryz.underlying278 Tryz.underlying165 cellsWord cellsTab h).cell gTab i (by rw [show Kz.length = 64 from rfl]; exact hi)
  rw [this, Kz_get]
theorem range_of {n : Int} (h : (Lit.int .i64 n).wf = true) : -9223372036854775808 ≤ n ∧ n ≤ 9223372036854775807 := by
  simp only [Lit.wf, Bool.and_eq_true, decide_eq_true_eq] at h
  exact h
theorem range_get {l : List Int} (h : ∀ n ∈ l, (Lit.int .i64 n).wf = true) (k : Nat) : -9223372036854775808 ≤ l.getD k 0 ∧ l.getD k 0 ≤ 9223372036854775807 := by
  rw [List.getD_eq_getElem?_getD]
  cases e : l[k]? with
  | none => decide
  | some x => exact range_of (h x (List.mem_of_getElem? e))
theorem spot_none {w : World} {a : Addr} {v : Value} (h : w.cell? (a.add 0) = some v) : a = ⟨a.block, a.off, none⟩ := by
  obtain ⟨b, off, spot⟩ := a
  have hs : spot = none := by simpa [Addr.add] using World.cell?_spot h
  subst hs
  rfl
theorem at_lit {w : World} {a : Addr} {i : Nat} {v : Value} (hs : a = ⟨a.block, a.off, none⟩) (h : w.cell? (a.add i) = some v) : w.cell? ⟨a.block, a.off + i, none⟩ = some v := by
  rw [hs, Addr.add_lit] at h
  exact h

set_option maxRecDepth 100000 in
theorem contract (H : Type) (enc : TypeId × Value → H) (W : World) (base : Nat) (args : Array Value) (ds gs : List (DataW H)) (before : List MemPlace)
    (hval : ∀ (j : Nat) t v, Tryz.f9.params[j]? = some t → args[j]? = some v → Value.okWide Tryz.prog W .any base t v)
    (hW : DataW.Whole enc Tryz.prog Tryz.f9.params.toList Rows.piecedSpec.vars false W args.toList ds gs before) (hL : laidMetH Tryz.prog Rows.piecedRow.laid W) :
    Calls Tryz.prog 9 args W fun e W' => ∃ v, e = .returned v ∧ Rows.piecedSpec.post enc Tryz.prog Tryz.f9 false true false false W args v W' := by
  have hW' := hW
  obtain ⟨p, q, hA0, hV, rfl, hfz, hnd⟩ := hW
  have hA : DataW.TrodAll enc Tryz.prog W 0 (fun _ => true) true Tryz.f9.params.toList args.toList ds p := hA0
  rw [Tryz.params9] at hA hval
  obtain ⟨v0, vs0, d0, ds0, p0, q0, hargs, rfl, rfl, h0, r0⟩ := trodAll_cons hA
  obtain ⟨v1, vs1, d1, ds1, p1, q1, hargs1, rfl, rfl, h1, r1⟩ := trodAll_cons r0
  obtain ⟨v2, vs2, d2, ds2, p2, q2, hargs2, rfl, rfl, h2, r2⟩ := trodAll_cons r1
  obtain ⟨v3, vs3, d3, ds3, p3, q3, hargs3, rfl, rfl, h3, r3⟩ := trodAll_cons r2
  obtain ⟨rfl, rfl, rfl⟩ := trodAll_nil r3
  obtain rfl : args = #[v0, v1, v2, v3] := by cases args; simp_all
  obtain ⟨rfl, rfl⟩ := trodVars_none hV
  obtain ⟨z, rfl, rfl, rfl, hzw⟩ := open_int Tryz.underlying3 (hval 0 3 v0 rfl rfl) h0
  obtain ⟨raw, rfl, rfl, rfl, hrz⟩ := open_string Tryz.underlying9 (hval 2 9 v2 rfl rfl) h2
  obtain ⟨a1, n1, c1, rfl⟩ := okWide_slice Tryz.underlying25 (hval 1 25 v1 rfl rfl)
  obtain ⟨a3, n3, c3, rfl⟩ := okWide_slice Tryz.underlying30 (hval 3 30 v3 rfl rfl)
  have h1k := h1
  have h3k := h3
  obtain ⟨fuel1, hf1⟩ := h1
  obtain ⟨fuel3, hf3⟩ := h3
  clear hA0
  simp only [List.append_nil, List.nil_append] at hW'
  have hlt : ∀ x ∈ p1 ++ p3, x.block < W.heap.size := fun x hx => by simpa using hW'.lt x (by simpa using hx)
  have hzr := range_of hzw
  have hT : Tb Kn W := ⟨Kn_lt, table hL⟩
  have fin : ∀ Sx cz, Txt W a1 n1 Sx → Ivs W a3 n3 cz → (∀ i, -9223372036854775808 ≤ cz i ∧ cz i ≤ 9223372036854775807) → Calls Tryz.prog 9 #[.int .i64 z, .slice a1 n1 c1, .string raw, .slice a3 n3 c3] W fun e W' => ∃ v, e = .returned v ∧ Rows.piecedSpec.post enc Tryz.prog Tryz.f9 false true false false W #[.int .i64 z, .slice a1 n1 c1, .string raw, .slice a3 n3 c3] v W' := fun Sx cz hS hC hcz => by
    refine (pieced_any Kn z hzr.1 hzr.2 a1 n1 c1 Sx raw a3 n3 c3 cz hcz W hT hS hC).mono fun e W' ⟨he, hb⟩ => ?_
    subst he
    exact ⟨_, rfl, _, _, _, [], _, [], hW', trodAll_mk1 (shut_bool Tryz.underlying4 _), trodAll_mk4 (shut_int Tryz.underlying3 hzw) (Below.trod laidOut (by kernel_rfl) (of_decide_eq_true (by kernel_rfl)) h1k hb (fun x hx => hlt x (List.mem_append_left _ hx))) (shut_string Tryz.underlying9 hrz) (Below.trod laidOut (by kernel_rfl) (of_decide_eq_true (by kernel_rfl)) h3k hb (fun x hx => hlt x (List.mem_append_right _ hx))), rfl, hb.frame _, fun h => by cases h⟩
  have part3 : ∃ cz : Nat → Int, Ivs W a3 n3 cz ∧ ∀ s, -9223372036854775808 ≤ cz s ∧ cz s ≤ 9223372036854775807 := by
    rcases open_ints Tryz.underlying30 Tryz.underlying3 cellsInt hf3 with ⟨hcs, hx⟩ | ⟨a, len, cap, zs, hcs, _, hl, hm, hz, hx, hcell, hwf⟩
    · simp [Value.cells] at hcs
      obtain ⟨rfl, rfl, rfl⟩ := hcs
      exact ⟨fun _ => 0, .inl rfl, fun _ => (by decide : (-9223372036854775808 : Int) ≤ 0 ∧ (0 : Int) ≤ 9223372036854775807)⟩
    · simp [Value.cells] at hcs
      obtain ⟨rfl, rfl, rfl⟩ := hcs
      simp only [if_true] at hz
      by_cases h0 : n3 = 0
      · exact ⟨fun _ => 0, .inl h0, fun _ => (by decide : (-9223372036854775808 : Int) ≤ 0 ∧ (0 : Int) ≤ 9223372036854775807)⟩
      · have hsp := spot_none (hcell 0 (by omega))
        have hc : ∀ s, s < n3 → W.cell? ⟨a.block, a.off + s, none⟩ = some (.int .i64 (zs.getD s 0)) := fun s hs => at_lit hsp (hcell s (by omega))
        exact ⟨fun s => zs.getD s 0, .inr ⟨a.block, a.off, by rw [← hsp], World.block_lt_of_cell? W ⟨a.block, a.off + 0, none⟩ (hc 0 (by omega)), hc⟩, range_get hwf⟩
  obtain ⟨cz, g1, g2⟩ := part3
  rcases open_strs Tryz.underlying25 Tryz.underlying9 cellsStr hf1 with ⟨hcs, hx⟩ | ⟨a, len', cap', mm, Sx, hcs, _, hl, hm, hmm, hx, hcell⟩
  · simp [Value.cells] at hcs
    obtain ⟨rfl, rfl, rfl⟩ := hcs
    exact fin (fun _ => ⟨#[]⟩) cz (.inl rfl) g1 g2
  · simp [Value.cells] at hcs
    obtain ⟨rfl, rfl, rfl⟩ := hcs
    simp only [if_true] at hmm
    subst hmm
    by_cases hl0 : n1 = 0
    · exact fin (fun _ => ⟨#[]⟩) cz (.inl hl0) g1 g2
    · obtain ⟨b, off, spot⟩ := a
      have hspot : spot = none := by simpa [Addr.add] using World.cell?_spot (hcell 0 (by omega)).1
      subst hspot
      have hcell' : ∀ j, j < mm → W.cell? ⟨b, off + j, none⟩ = some (.string (Sx j)) := fun j hj => by rw [← Addr.add_lit]; exact (hcell j hj).1
      exact fin Sx cz (.inr ⟨b, off, rfl, World.block_lt_of_cell? _ _ (hcell' 0 (by omega)), fun i hi => hcell' i (by omega)⟩) g1 g2

theorem laid_met (os : Os) : laidMet Tryz.prog Rows.piecedRow.laid (World.forCall ({ World.holding Tryz.prog os ⟨#[], #[], []⟩ with heap := (World.holding Tryz.prog os ⟨#[], #[], []⟩).heap.modify 0 fun | .cells _ t frozen => .cells (Kz.map fun z => Value.int .u32 z).toArray t frozen | o => o } : World) (fun _ _ => 0) ⟨#[], #[.int .i64 0, .slice none 0 0, .string ⟨#[]⟩, .slice none 0 0], []⟩).memory :=
  laidMet_of_run' 8 (by kernel_rfl) (by kernel_rfl)
theorem reads (os : Os) {H : Type} (enc : TypeId × Value → H) : ∃ places, DataW.whole enc Tryz.prog (World.forCall ({ World.holding Tryz.prog os ⟨#[], #[], []⟩ with heap := (World.holding Tryz.prog os ⟨#[], #[], []⟩).heap.modify 0 fun | .cells _ t frozen => .cells (Kz.map fun z => Value.int .u32 z).toArray t frozen | o => o } : World) (fun _ _ => 0) ⟨#[], #[.int .i64 0, .slice none 0 0, .string ⟨#[]⟩, .slice none 0 0], []⟩).memory Tryz.f9.params.toList Rows.piecedSpec.vars false #[Value.int .i64 0, Value.slice none 0 0, Value.string ⟨#[]⟩, Value.slice none 0 0].toList 8 = some ([.lit (.int .i64 0), .nil, .lit (.string []), .nil], [], places) :=
  ⟨[], by kernel_rfl⟩

set_option maxRecDepth 100000 in
theorem lifted (os : Os) (started : os.Started) (H : Type) (enc : TypeId × Value → H) (F : Stop.Interp) :
    ReturnsInHanded {} Tryz.checked os 9 .any ((OpenSpec.ofChange Rows.piecedSpec).preRow enc Tryz.prog Tryz.f9 Rows.piecedRow.domain false Rows.piecedRow.laid) (((OpenSpec.ofChange Rows.piecedSpec).at F).post enc Tryz.prog Tryz.f9 false true false false) := by
  obtain ⟨places, hx⟩ := reads os enc
  refine returnsInHanded_of_row (C := Tryz.checked) (s := OpenSpec.ofChange Rows.piecedSpec) own started (by kernel_rfl) Tryz.func9
    (witness_row_at (enc := enc) (C := Tryz.checked) false ({ World.holding Tryz.prog os ⟨#[], #[], []⟩ with heap := (World.holding Tryz.prog os ⟨#[], #[], []⟩).heap.modify 0 fun | .cells _ t frozen => .cells (Kz.map fun z => Value.int .u32 z).toArray t frozen | o => o } : World) #[.int .i64 0, .slice none 0 0, .string ⟨#[]⟩, .slice none 0 0] rfl (by kernel_rfl) (by kernel_rfl) (by kernel_rfl)
      (OpenSpec.preRow_of_cond 8 hx (by kernel_rfl) (fun k hk => by cases hk) (by kernel_rfl) (laid_met os))) ?_
  intro W base args ds gs before hval hW _ _ _ hL _ _
  exact contract H enc W base args ds gs before hval hW hL

theorem said : Rows.PiecedSaid :=
  OpenClaim.holds_of_cond 9 Tryz.f9 rfl rfl rfl rfl rfl rfl rfl ⟨rfl, rfl, rfl, rfl, rfl⟩ rfl rfl rfl rfl rfl (by kernel_rfl) Tryz.func9 (by kernel_rfl)
    (of_decide_eq_true (by kernel_rfl)) (by unfold Func.isWrapper; first | (rw [if_pos (by decide +kernel)]; kernel_rfl) | (rw [if_neg (by decide +kernel)]; exact ⟨rfl, rfl⟩))
    (fun os started H enc _ F => by rw [OpenClaim.pre_eq_preRow]; exact lifted os started H enc F)

theorem plain (f : FuncId) (fn : Func) (hf : Tryz.pinned.checked.prog.funcNamed Rows.piecedRow.func = some f) (hfn : Tryz.pinned.checked.prog.funcs[f]? = some fn) :
    true = Tryz.pinned.checked.prog.looks [] ∧ ∀ (j : Nat) t, fn.params[j]? = some t → Tryz.pinned.checked.prog.wantsStandIn t = false := by
  obtain rfl : f = 9 := Option.some.inj ((show Tryz.prog.funcNamed Rows.piecedRow.func = some 9 by kernel_rfl).symm.trans hf) |>.symm
  obtain rfl : fn = Tryz.f9 := (Option.some.inj (Tryz.func9.symm.trans hfn)).symm
  refine ⟨by kernel_rfl, fun j t ht => ?_⟩
  rw [Tryz.params9] at ht
  have hm : t = 3 ∨ t = 25 ∨ t = 9 ∨ t = 30 := by simpa using Array.mem_of_getElem? ht
  rcases hm with rfl | rfl | rfl | rfl
  · exact (show Tryz.prog.wantsStandIn 3 = false by kernel_rfl)
  · exact (show Tryz.prog.wantsStandIn 25 = false by kernel_rfl)
  · exact (show Tryz.prog.wantsStandIn 9 = false by kernel_rfl)
  · exact (show Tryz.prog.wantsStandIn 30 = false by kernel_rfl)

theorem card : Rows.PiecedCardSaid :=
  ⟨Claim7.tied_new_at .later [.data] true (Claim7.new_of_sixth said Rows.piecedCard.stood.harness true rfl ⟨rfl, rfl⟩ (by kernel_rfl) rfl plain) (by kernel_rfl), (fun _ h => by cases h), pieced_row_tie, (fun h => by cases h), (by kernel_rfl)⟩
end Go.Proofs.YthpmcilljbmoiaaGreatDoor.pieced
namespace Go.Proofs.YthpmcilljbmoiaaGreatDoor
theorem pieced_card_holds : Rows.PiecedCardSaid := pieced.card
end Go.Proofs.YthpmcilljbmoiaaGreatDoor
