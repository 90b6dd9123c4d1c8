import Derived.Test.YthpmcilljbmoiaaDoorOfRef
namespace Go.Proofs.YthpmcilljbmoiaaDoor
open Go.RowKit Word

theorem name_join (n : Nat) (hn : n ≤ 120) (sb : List Nat) : strOf (be 2 n) ++ strOf sb = strOf (nameBytes n sb) := by
  apply ByteArray.ext
  rw [ByteArray.data_append]
  simp only [strOf, be, nameBytes, List.nil_append, List.cons_append, List.map_cons, List.map_nil]
  rw [show n / 256 % 256 = n / 256 by omega, show n % 256 = n by omega]
  simp

/-- a whole row is read at a step of a region that draws -/
theorem step_load_row {P : Program} {ops : Array Oper} {o : Oper} {a : Act} {w : World} {K : Act → World → Prop} {Q : Exit → Act → World → Prop} {E : Prop}
    (hgd : o.guard = none) (ty : TypeId) (x : Operand) (ho : o.op = .load ty x)
    (g : Nat) (hx : a.eval x = .pointer (some ⟨g, 0, none⟩)) (t : TypeId) (cs : Array Value) (d : TypeDesc) (hg : w.heap[g]? = some (.cells cs t (0, 0)))
    (hu : P.underlying ty = some d) (hd : (match d with | .struct _ | .array _ _ => true | _ => false) = true) (hi : (P.info? ty).map (·.size) = some cs.size)
    (hK : K (a.put o.dst (.agg cs)) w) : if Region.wanted o (yielded ops a.tmps) = true then Oper.wp P o a w K Q else E := by
  rw [if_pos (by simp [Region.wanted, hgd])]
  unfold Oper.wp execOp
  simp only [ho, hx, Instr.loadAt, Instr.sureAddr, Sem.run_bind, Sem.run_pure, Result.andThen_ok, run_loadVar_row w g t ty cs (0, 0) d hg hu hd hi]
  exact hK

set_option maxRecDepth 100000 in
set_option maxHeartbeats 1000000 in
theorem sumsName_any (s : ByteArray) (w : World) (hs : s.size ≤ 120) :
    Calls Tryd.prog 22 #[.agg (c64 (Hl ++ Kl)), .string s] w
      fun r w' => r = .returned (.string (nameStr Kl s)) ∧ Below w.heap.size w w' := by
  go_enter Tryd.func22, Tryd.ntmps22
  go_wp2_with fail
  have y0 : Blk (w.alloc (.cells (c64 (Hl ++ Kl)) 56)) w.heap.size 56 (c64 (Hl ++ Kl)) := Blk.at w _ _ _ rfl
  have hb0 : Below w.heap.size w (w.alloc (.cells (c64 (Hl ++ Kl)) 56)) := (Below.refl w.heap.size w).alloc (Nat.le_refl _) _
  generalize w.alloc (.cells (c64 (Hl ++ Kl)) 56) = w0 at *
  generalize hB : w.heap.size = B at *
  have HB := hide hB
  clear hB
  have z0d : Blk w0.drew B 56 (c64 (Hl ++ Kl)) := y0.drew
  refine wp_region_any (by kernel_rfl) ?_
  change wpAny _ _ _ _ _ _ _ (World.drew _)
  refine wpAny_take (i := 0) (v := .string s) rfl (by kernel_rfl) (by kernel_rfl) (by kernel_rfl) (fun _ _ _ h => h) (Or.inl ⟨by rfl, fun w => by go_simp⟩) ?_
  refine wpAny_take (i := 1) (v := .int .i64 s.size) rfl (by kernel_rfl) (by kernel_rfl) (by kernel_rfl) (fun _ _ _ h => h) (Or.inl ⟨by rfl, fun w => by go_simp⟩) ?_
  refine wpAny_take (i := 4) (v := .string s) rfl (by kernel_rfl) (by kernel_rfl) (by kernel_rfl) (fun _ _ _ h => h) (Or.inl ⟨by rfl, fun w => by go_simp⟩) ?_
  refine wpAny_ready (rs := [2, 3]) (by kernel_rfl) (by simp) (AllReady.cons rfl (fun K hK => ?_) (AllReady.cons rfl (fun K hK => ?_) AllReady.nil))
  · go_simp
    refine (bytes2_any s.size _ hs).mono ?_
    rintro e w1 ⟨rfl, hb1⟩
    refine hK _ _ ?_
    clear hK K
    have z1 := z0d.below hb1 z0d.lt
    refine wpAny_ready (rs := [3]) (by kernel_rfl) (by simp) (AllReady.cons rfl (fun K hK => ?_) AllReady.nil)
    refine step_load_row rfl 56 (.tmp 2) rfl B rfl 56 _ _ z1 Tryd.underlying56 rfl (by rw [info72, c64_size]; rfl) ?_
    go_simp
    refine hK _ _ ?_
    clear hK K
    refine wpAny_ready (rs := [5]) (by kernel_rfl) (by simp) (AllReady.cons rfl (fun K hK => ?_) AllReady.nil)
    go_simp
    refine (ofRef_any s _ hs).mono ?_
    rintro e w2 ⟨rfl, hb2⟩
    refine hK _ _ ?_
    clear hK K
    refine wpAny_ready (rs := [6]) (by kernel_rfl) (by simp) (AllReady.cons rfl (fun K hK => ?_) AllReady.nil)
    go_simp
    refine hK _ _ ?_
    clear hK K
    refine wpAny_ready (rs := [7]) (by kernel_rfl) (by simp) (AllReady.cons rfl (fun K hK => ?_) AllReady.nil)
    go_simp
    refine hK _ _ ?_
    clear hK K
    refine wpAny_done (by kernel_rfl) ?_ _
    go_wp2
    go_ret
    have hj := name_join s.size hs (sumBytes (hashTo Kl (pad (nats s)) (rows s.size / 64)))
    have hlt := y0.lt
    have s1 := hb1.size
    refine ⟨?_, ?_⟩
    · exact congrArg (fun x => Ending.returned (Value.string x)) hj
    · rw [HB.out]; exact (hb0.drew.trans (hb1.mono (by simp; omega))).trans (hb2.mono (by simp at s1; omega))
  · refine step_load_row rfl 56 (.tmp 2) rfl B rfl 56 _ _ z0d Tryd.underlying56 rfl (by rw [info72, c64_size]; rfl) ?_
    go_simp
    refine hK _ _ ?_
    clear hK K
    refine wpAny_ready (rs := [2]) (by kernel_rfl) (by simp) (AllReady.cons rfl (fun K hK => ?_) AllReady.nil)
    go_simp
    refine (bytes2_any s.size _ hs).mono ?_
    rintro e w1 ⟨rfl, hb1⟩
    refine hK _ _ ?_
    clear hK K
    refine wpAny_ready (rs := [5]) (by kernel_rfl) (by simp) (AllReady.cons rfl (fun K hK => ?_) AllReady.nil)
    go_simp
    refine (ofRef_any s _ hs).mono ?_
    rintro e w2 ⟨rfl, hb2⟩
    refine hK _ _ ?_
    clear hK K
    refine wpAny_ready (rs := [6]) (by kernel_rfl) (by simp) (AllReady.cons rfl (fun K hK => ?_) AllReady.nil)
    go_simp
    refine hK _ _ ?_
    clear hK K
    refine wpAny_ready (rs := [7]) (by kernel_rfl) (by simp) (AllReady.cons rfl (fun K hK => ?_) AllReady.nil)
    go_simp
    refine hK _ _ ?_
    clear hK K
    refine wpAny_done (by kernel_rfl) ?_ _
    go_wp2
    go_ret
    have hj := name_join s.size hs (sumBytes (hashTo Kl (pad (nats s)) (rows s.size / 64)))
    have hlt := y0.lt
    have s1 := hb1.size
    refine ⟨?_, ?_⟩
    · exact congrArg (fun x => Ending.returned (Value.string x)) hj
    · rw [HB.out]; exact (hb0.drew.trans (hb1.mono (by simp; omega))).trans (hb2.mono (by simp at s1; omega))

set_option maxRecDepth 100000 in
set_option maxHeartbeats 1000000 in
theorem nameRef_any (s : ByteArray) (w : World) (hs : s.size ≤ 120) :
    Calls Tryd.prog 7 #[.string s] w
      fun r w' => r = .returned (.tuple #[.string (nameStr Kl s), .int .i64 0]) ∧ Below w.heap.size w w' := by
  go_enter Tryd.func7, Tryd.ntmps7
  go_wp2_with fail
  refine (newSums_any _).mono ?_
  rintro e w1 ⟨rfl, hb1⟩
  have hsz : (Tryd.prog.info? 56).map (·.size) = some (c64 (Hl ++ Kl)).size := by rw [info72, c64_size]; rfl
  have ho : (Tryd.zeroCells56 : Array Value).size = (c64 (Hl ++ Kl)).size := by rw [c64_size]; rfl
  have x0 : Blk (w1.alloc (.cells Tryd.zeroCells56 56)) w1.heap.size 56 Tryd.zeroCells56 := Blk.new _ _ _
  have n0 := x0.row (c64 (Hl ++ Kl))
  have hbel : Below w.heap.size w ((w1.alloc (.cells Tryd.zeroCells56 56)).setRow w1.heap.size (c64 (Hl ++ Kl))) := below_row (hb1.alloc hb1.size _) hb1.size _
  have hle : w.heap.size ≤ ((w1.alloc (.cells Tryd.zeroCells56 56)).setRow w1.heap.size (c64 (Hl ++ Kl))).heap.size := hbel.size
  go_wp2_with (first | (refine wpList_store_row rfl 56 _ _ rfl w1.heap.size (c64 (Hl ++ Kl)) rfl rfl 56 _ x0 hsz ho (c64_one _) ?_) | (refine wpList_load_row rfl 56 _ rfl w1.heap.size rfl 56 _ (0, 0) _ n0 Tryd.underlying56 rfl hsz ?_) | (go_at_call 22; refine (sumsName_any s _ hs).mono ?_; rintro e w2 ⟨rfl, hb2⟩))
  go_ret2
  exact ⟨rfl, hbel.trans (hb2.mono hle)⟩

set_option maxHeartbeats 1000000 in
theorem nameRef_long (s : ByteArray) (w : World) (hs : 120 < s.size) :
    Calls Tryd.prog 7 #[.string s] w
      fun r w' => r = .returned (.tuple #[.string ⟨#[]⟩, .int .i64 4]) ∧ Below w.heap.size w w' := by
  go_enter Tryd.func7, Tryd.ntmps7
  go_wp2
  go_ret2
  exact ⟨rfl, Below.refl _ _⟩
end Go.Proofs.YthpmcilljbmoiaaDoor
