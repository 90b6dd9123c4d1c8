import Derived.Test.YthpmcilljbmoiaaDoorNameRef
namespace Go.Proofs.YthpmcilljbmoiaaDoor
open Go.RowKit Word

set_option maxRecDepth 100000 in
set_option maxHeartbeats 1000000 in
theorem named_any (s : ByteArray) (w : World)
    (hT : ∀ i, i < 64 → w.cell? ⟨0, i, none⟩ = some (.int .u32 (Kl.getD i 0 : Nat))) :
    Calls Tryd.prog 3 #[.string s] w
      fun r w' => r = .returned (.bool true) ∧ Below w.heap.size w w' := by
  by_cases hs : s.size ≤ 120
  · have HC := hide (name_any Kl s w hs Kl_lt hT)
    clear hT
    go_enter Tryd.func3, Tryd.ntmps3
    go_wp2_with (first | (go_at_call 6; refine HC.out.mono ?_; rintro e w1 ⟨rfl, hb1⟩) | (go_at_call 7; refine (nameRef_any s _ hs).mono ?_; rintro e w2 ⟨rfl, hb2⟩) | go_in)
    go_ret
    exact ⟨rfl, hb1.trans (hb2.mono hb1.size)⟩
  · have HC := hide (name_long s w (by omega))
    have HR := hide (fun w' => nameRef_long s w' (by omega))
    clear hT
    go_enter Tryd.func3, Tryd.ntmps3
    go_wp2_with (first | (go_at_call 6; refine HC.out.mono ?_; rintro e w1 ⟨rfl, hb1⟩) | (go_at_call 7; refine (HR.out _).mono ?_; rintro e w2 ⟨rfl, hb2⟩) | go_in)
    go_ret
    exact ⟨rfl, hb1.trans (hb2.mono hb1.size)⟩
end Go.Proofs.YthpmcilljbmoiaaDoor
