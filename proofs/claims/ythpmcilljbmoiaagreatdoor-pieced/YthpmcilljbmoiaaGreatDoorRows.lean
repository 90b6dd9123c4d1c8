/-
  NARROWER THAN 'FOR EVERY INPUT', by the rows' own cells (each row's printed sentence says how): Shards: laid · Talks: laid · Dropped: laid · Refusal: laid · Acted: laid · All: laid · Pieced: laid · Served: laid.
  DERIVED. THE GIVEN ROWS OF THIS SEAT. 8 by the template 'for every input the law returns true; each argument reads behind the call as it read before'; 0 by the template 'total and deterministic' (their statements: YthpmcilljbmoiaaGreatDoorTotals.lean).
  GIVEN WITH THE SEED: the statements are not yours to turn. If you find one false, say at which input.
  Laid BY PROGRAM, IN A SANDBOX (cutbox-rows.mjs): the forced cells as the released guide's own fill.sh prints them over the translation 6b94ea982ac6088b… (all of the seat's roots in one cut). By AI agents, Wed Nov 11 2026. No macro, syntax, notation, axiom, sorry.
-/
import Derived.Test.YthpmcilljbmoiaaGreatDoorChecked
import GoSem.Claim
import GoSem.ClaimJoined
import GoSem.ClaimMapViews
import Derived.JoinedTies
import Derived.KernelRfl
namespace Go.Proofs.YthpmcilljbmoiaaGreatDoor
/- THE CELL 'sum', in the pinned program and in every row, IS THE sha256 OF THE DUMP (.gsa) THAT YthpmcilljbmoiaaGreatDoorProg.lean LOADS. Nothing in Lean hashes anything: it is a label: what it is worth is what the hold of that sum in a sandbox is worth. -/
noncomputable def Tryz.pinned : Pinned := { name := "ythpmcilljbmoiaagreatdoor", sum := "6b94ea982ac6088b45dc2b898af0558865b38696cc2ebb4be6a7f45738970e2e", checked := Tryz.checked }
namespace Rows
def none {H : Type} : Left H := { results := [], args := [] }

/- WHAT THE LISTED PACKAGE-LEVEL VARIABLES READ AS WHEN THE CALL BEGINS. Each datum BY PROGRAM (the guide's laid-datum.mjs) off the statement by which the dump's own 'gosem.cut.vars' lays the variable. In a bare row this is a premise. The card (YthpmcilljbmoiaaGreatDoorCards.lean) ties it to the program's text. -/
def laid_depot_sum_roundWords {H : Type} : DataW H := .agg [.lit (.int .u32 1116352408), .lit (.int .u32 1899447441), .lit (.int .u32 3049323471), .lit (.int .u32 3921009573), .lit (.int .u32 961987163), .lit (.int .u32 1508970993), .lit (.int .u32 2453635748), .lit (.int .u32 2870763221), .lit (.int .u32 3624381080), .lit (.int .u32 310598401), .lit (.int .u32 607225278), .lit (.int .u32 1426881987), .lit (.int .u32 1925078388), .lit (.int .u32 2162078206), .lit (.int .u32 2614888103), .lit (.int .u32 3248222580), .lit (.int .u32 3835390401), .lit (.int .u32 4022224774), .lit (.int .u32 264347078), .lit (.int .u32 604807628), .lit (.int .u32 770255983), .lit (.int .u32 1249150122), .lit (.int .u32 1555081692), .lit (.int .u32 1996064986), .lit (.int .u32 2554220882), .lit (.int .u32 2821834349), .lit (.int .u32 2952996808), .lit (.int .u32 3210313671), .lit (.int .u32 3336571891), .lit (.int .u32 3584528711), .lit (.int .u32 113926993), .lit (.int .u32 338241895), .lit (.int .u32 666307205), .lit (.int .u32 773529912), .lit (.int .u32 1294757372), .lit (.int .u32 1396182291), .lit (.int .u32 1695183700), .lit (.int .u32 1986661051), .lit (.int .u32 2177026350), .lit (.int .u32 2456956037), .lit (.int .u32 2730485921), .lit (.int .u32 2820302411), .lit (.int .u32 3259730800), .lit (.int .u32 3345764771), .lit (.int .u32 3516065817), .lit (.int .u32 3600352804), .lit (.int .u32 4094571909), .lit (.int .u32 275423344), .lit (.int .u32 430227734), .lit (.int .u32 506948616), .lit (.int .u32 659060556), .lit (.int .u32 883997877), .lit (.int .u32 958139571), .lit (.int .u32 1322822218), .lit (.int .u32 1537002063), .lit (.int .u32 1747873779), .lit (.int .u32 1955562222), .lit (.int .u32 2024104815), .lit (.int .u32 2227730452), .lit (.int .u32 2361852424), .lit (.int .u32 2428436474), .lit (.int .u32 2756734187), .lit (.int .u32 3204031479), .lit (.int .u32 3329325298)]

/-- 'depotlaw.Shards': WHATEVER THE INPUT: true; the input reads as it did. -/
def shardsSpec : ChangeSpec := { name := "shards", fn := fun _ => fun
  | [d] => { results := [.lit (.bool true)], args := [d] }
  | _ => none }
def shardsRow : OpenClaim := { program := "ythpmcilljbmoiaagreatdoor", sum := "6b94ea982ac6088b45dc2b898af0558865b38696cc2ebb4be6a7f45738970e2e", func := "depot/depotlaw.Shards", spec := "shards", inPlace := ["(*sync.WaitGroup).Go", "(*sync.WaitGroup).Add", "internal/race.ReleaseMerge", "internal/race.Disable", "internal/race.Enable", "internal/synctest.IsInBubble", "internal/synctest.Associate[sync.WaitGroup]", "sync.fatal", "sync/atomic.OrUint64", "sync/atomic.AddUint64", "internal/race.Read", "sync/atomic.LoadUint64", "sync/atomic.StoreUint64", "internal/synctest.Disassociate[sync.WaitGroup]", "sync.runtime_Semrelease", "(*sync.WaitGroup).Go$1", "(*sync.WaitGroup).Go$1$1", "(*sync.WaitGroup).Done", "(*sync.WaitGroup).Wait", "internal/race.Acquire", "internal/synctest.IsAssociated[sync.WaitGroup]", "sync/atomic.CompareAndSwapUint64", "internal/race.Write", "sync.runtime_SemacquireWaitGroup"], unfollowed := true, recurses := true, named := ["depot/sum.roundWords"], apart := false, laid := [("depot/sum.roundWords", laid_depot_sum_roundWords)] }
def ShardsSaid : Prop := shardsRow.holds Tryz.pinned (OpenSpec.ofChange shardsSpec)

/-- ITS FALSE NEIGHBOUR: 'it returns false'. Refute it at one input. -/
def shardsWrong : ChangeSpec := { name := "shards", fn := fun _ => fun
  | [d] => { results := [.lit (.bool false)], args := [d] }
  | _ => none }
def ShardsWrongFalsely : Prop := shardsRow.holds Tryz.pinned (OpenSpec.ofChange shardsWrong)

/-- 'depotlaw.Talks': WHATEVER THE INPUT: true; the input reads as it did. -/
def talksSpec : ChangeSpec := { name := "talks", fn := fun _ => fun
  | [d] => { results := [.lit (.bool true)], args := [d] }
  | _ => none }
def talksRow : OpenClaim := { program := "ythpmcilljbmoiaagreatdoor", sum := "6b94ea982ac6088b45dc2b898af0558865b38696cc2ebb4be6a7f45738970e2e", func := "depot/depotlaw.Talks", spec := "talks", inPlace := ["(*sync.WaitGroup).Go", "(*sync.WaitGroup).Add", "internal/race.ReleaseMerge", "internal/race.Disable", "internal/race.Enable", "internal/synctest.IsInBubble", "internal/synctest.Associate[sync.WaitGroup]", "sync.fatal", "sync/atomic.OrUint64", "sync/atomic.AddUint64", "internal/race.Read", "sync/atomic.LoadUint64", "sync/atomic.StoreUint64", "internal/synctest.Disassociate[sync.WaitGroup]", "sync.runtime_Semrelease", "(*sync.WaitGroup).Go$1", "(*sync.WaitGroup).Go$1$1", "(*sync.WaitGroup).Done", "(*sync.WaitGroup).Wait", "internal/race.Acquire", "internal/synctest.IsAssociated[sync.WaitGroup]", "sync/atomic.CompareAndSwapUint64", "internal/race.Write", "sync.runtime_SemacquireWaitGroup"], unfollowed := true, recurses := true, named := ["depot/sum.roundWords"], apart := false, laid := [("depot/sum.roundWords", laid_depot_sum_roundWords)] }
def TalksSaid : Prop := talksRow.holds Tryz.pinned (OpenSpec.ofChange talksSpec)

/-- ITS FALSE NEIGHBOUR: 'it returns false'. Refute it at one input. -/
def talksWrong : ChangeSpec := { name := "talks", fn := fun _ => fun
  | [d] => { results := [.lit (.bool false)], args := [d] }
  | _ => none }
def TalksWrongFalsely : Prop := talksRow.holds Tryz.pinned (OpenSpec.ofChange talksWrong)

/-- 'depotkeep.Dropped': WHATEVER THE INPUT: true; the input reads as it did. -/
def droppedSpec : ChangeSpec := { name := "dropped", fn := fun _ => fun
  | [d1, d2] => { results := [.lit (.bool true)], args := [d1, d2] }
  | _ => none }
def droppedRow : OpenClaim := { program := "ythpmcilljbmoiaagreatdoor", sum := "6b94ea982ac6088b45dc2b898af0558865b38696cc2ebb4be6a7f45738970e2e", func := "depot/depotkeep.Dropped", spec := "dropped", inPlace := ["(*sync.WaitGroup).Go", "(*sync.WaitGroup).Add", "internal/race.ReleaseMerge", "internal/race.Disable", "internal/race.Enable", "internal/synctest.IsInBubble", "internal/synctest.Associate[sync.WaitGroup]", "sync.fatal", "sync/atomic.OrUint64", "sync/atomic.AddUint64", "internal/race.Read", "sync/atomic.LoadUint64", "sync/atomic.StoreUint64", "internal/synctest.Disassociate[sync.WaitGroup]", "sync.runtime_Semrelease", "(*sync.WaitGroup).Go$1", "(*sync.WaitGroup).Go$1$1", "(*sync.WaitGroup).Done", "(*sync.WaitGroup).Wait", "internal/race.Acquire", "internal/synctest.IsAssociated[sync.WaitGroup]", "sync/atomic.CompareAndSwapUint64", "internal/race.Write", "sync.runtime_SemacquireWaitGroup"], unfollowed := true, recurses := true, named := ["depot/sum.roundWords"], apart := false, laid := [("depot/sum.roundWords", laid_depot_sum_roundWords)] }
def DroppedSaid : Prop := droppedRow.holds Tryz.pinned (OpenSpec.ofChange droppedSpec)

/-- ITS FALSE NEIGHBOUR: 'it returns false'. Refute it at one input. -/
def droppedWrong : ChangeSpec := { name := "dropped", fn := fun _ => fun
  | [d1, d2] => { results := [.lit (.bool false)], args := [d1, d2] }
  | _ => none }
def DroppedWrongFalsely : Prop := droppedRow.holds Tryz.pinned (OpenSpec.ofChange droppedWrong)

/-- 'depotkeep.Refusal': WHATEVER THE INPUT: true; the input reads as it did. -/
def refusalSpec : ChangeSpec := { name := "refusal", fn := fun _ => fun
  | [d1, d2, d3, d4] => { results := [.lit (.bool true)], args := [d1, d2, d3, d4] }
  | _ => none }
def refusalRow : OpenClaim := { program := "ythpmcilljbmoiaagreatdoor", sum := "6b94ea982ac6088b45dc2b898af0558865b38696cc2ebb4be6a7f45738970e2e", func := "depot/depotkeep.Refusal", spec := "refusal", inPlace := ["(*sync.WaitGroup).Go", "(*sync.WaitGroup).Add", "internal/race.ReleaseMerge", "internal/race.Disable", "internal/race.Enable", "internal/synctest.IsInBubble", "internal/synctest.Associate[sync.WaitGroup]", "sync.fatal", "sync/atomic.OrUint64", "sync/atomic.AddUint64", "internal/race.Read", "sync/atomic.LoadUint64", "sync/atomic.StoreUint64", "internal/synctest.Disassociate[sync.WaitGroup]", "sync.runtime_Semrelease", "(*sync.WaitGroup).Go$1", "(*sync.WaitGroup).Go$1$1", "(*sync.WaitGroup).Done", "(*sync.WaitGroup).Wait", "internal/race.Acquire", "internal/synctest.IsAssociated[sync.WaitGroup]", "sync/atomic.CompareAndSwapUint64", "internal/race.Write", "sync.runtime_SemacquireWaitGroup"], unfollowed := true, recurses := true, named := ["depot/sum.roundWords"], apart := false, laid := [("depot/sum.roundWords", laid_depot_sum_roundWords)] }
def RefusalSaid : Prop := refusalRow.holds Tryz.pinned (OpenSpec.ofChange refusalSpec)

/-- ITS FALSE NEIGHBOUR: 'it returns false'. Refute it at one input. -/
def refusalWrong : ChangeSpec := { name := "refusal", fn := fun _ => fun
  | [d1, d2, d3, d4] => { results := [.lit (.bool false)], args := [d1, d2, d3, d4] }
  | _ => none }
def RefusalWrongFalsely : Prop := refusalRow.holds Tryz.pinned (OpenSpec.ofChange refusalWrong)

/-- 'depotkeep.Acted': WHATEVER THE INPUT: true; the input reads as it did. -/
def actedSpec : ChangeSpec := { name := "acted", fn := fun _ => fun
  | [d1, d2] => { results := [.lit (.bool true)], args := [d1, d2] }
  | _ => none }
def actedRow : OpenClaim := { program := "ythpmcilljbmoiaagreatdoor", sum := "6b94ea982ac6088b45dc2b898af0558865b38696cc2ebb4be6a7f45738970e2e", func := "depot/depotkeep.Acted", spec := "acted", unfollowed := true, recurses := true, named := ["depot/sum.roundWords"], apart := false, laid := [("depot/sum.roundWords", laid_depot_sum_roundWords)] }
def ActedSaid : Prop := actedRow.holds Tryz.pinned (OpenSpec.ofChange actedSpec)

/-- ITS FALSE NEIGHBOUR: 'it returns false'. Refute it at one input. -/
def actedWrong : ChangeSpec := { name := "acted", fn := fun _ => fun
  | [d1, d2] => { results := [.lit (.bool false)], args := [d1, d2] }
  | _ => none }
def ActedWrongFalsely : Prop := actedRow.holds Tryz.pinned (OpenSpec.ofChange actedWrong)

/-- 'depotlaw.All': WHATEVER THE INPUT: true; the input reads as it did. -/
def allSpec : ChangeSpec := { name := "all", fn := fun _ => fun
  | [d] => { results := [.lit (.bool true)], args := [d] }
  | _ => none }
def allRow : OpenClaim := { program := "ythpmcilljbmoiaagreatdoor", sum := "6b94ea982ac6088b45dc2b898af0558865b38696cc2ebb4be6a7f45738970e2e", func := "depot/depotlaw.All", spec := "all", inPlace := ["(*sync.WaitGroup).Go", "(*sync.WaitGroup).Add", "internal/race.ReleaseMerge", "internal/race.Disable", "internal/race.Enable", "internal/synctest.IsInBubble", "internal/synctest.Associate[sync.WaitGroup]", "sync.fatal", "sync/atomic.OrUint64", "sync/atomic.AddUint64", "internal/race.Read", "sync/atomic.LoadUint64", "sync/atomic.StoreUint64", "internal/synctest.Disassociate[sync.WaitGroup]", "sync.runtime_Semrelease", "(*sync.WaitGroup).Go$1", "(*sync.WaitGroup).Go$1$1", "(*sync.WaitGroup).Done", "(*sync.WaitGroup).Wait", "internal/race.Acquire", "internal/synctest.IsAssociated[sync.WaitGroup]", "sync/atomic.CompareAndSwapUint64", "internal/race.Write", "sync.runtime_SemacquireWaitGroup"], unfollowed := true, recurses := true, named := ["depot/sum.roundWords"], apart := false, laid := [("depot/sum.roundWords", laid_depot_sum_roundWords)] }
def AllSaid : Prop := allRow.holds Tryz.pinned (OpenSpec.ofChange allSpec)

/-- ITS FALSE NEIGHBOUR: 'it returns false'. Refute it at one input. -/
def allWrong : ChangeSpec := { name := "all", fn := fun _ => fun
  | [d] => { results := [.lit (.bool false)], args := [d] }
  | _ => none }
def AllWrongFalsely : Prop := allRow.holds Tryz.pinned (OpenSpec.ofChange allWrong)

/-- 'depotkeep.Pieced': WHATEVER THE INPUT: true; the input reads as it did. -/
def piecedSpec : ChangeSpec := { name := "pieced", fn := fun _ => fun
  | [d1, d2, d3, d4] => { results := [.lit (.bool true)], args := [d1, d2, d3, d4] }
  | _ => none }
def piecedRow : OpenClaim := { program := "ythpmcilljbmoiaagreatdoor", sum := "6b94ea982ac6088b45dc2b898af0558865b38696cc2ebb4be6a7f45738970e2e", func := "depot/depotkeep.Pieced", spec := "pieced", unfollowed := true, recurses := true, named := ["depot/sum.roundWords"], apart := false, laid := [("depot/sum.roundWords", laid_depot_sum_roundWords)] }
def PiecedSaid : Prop := piecedRow.holds Tryz.pinned (OpenSpec.ofChange piecedSpec)

/-- ITS FALSE NEIGHBOUR: 'it returns false'. Refute it at one input. -/
def piecedWrong : ChangeSpec := { name := "pieced", fn := fun _ => fun
  | [d1, d2, d3, d4] => { results := [.lit (.bool false)], args := [d1, d2, d3, d4] }
  | _ => none }
def PiecedWrongFalsely : Prop := piecedRow.holds Tryz.pinned (OpenSpec.ofChange piecedWrong)

/-- 'depotkeep.Served': WHATEVER THE INPUT: true; the input reads as it did. -/
def servedSpec : ChangeSpec := { name := "served", fn := fun _ => fun
  | [d1, d2] => { results := [.lit (.bool true)], args := [d1, d2] }
  | _ => none }
def servedRow : OpenClaim := { program := "ythpmcilljbmoiaagreatdoor", sum := "6b94ea982ac6088b45dc2b898af0558865b38696cc2ebb4be6a7f45738970e2e", func := "depot/depotkeep.Served", spec := "served", unfollowed := true, recurses := true, named := ["depot/sum.roundWords"], apart := false, laid := [("depot/sum.roundWords", laid_depot_sum_roundWords)] }
def ServedSaid : Prop := servedRow.holds Tryz.pinned (OpenSpec.ofChange servedSpec)

/-- ITS FALSE NEIGHBOUR: 'it returns false'. Refute it at one input. -/
def servedWrong : ChangeSpec := { name := "served", fn := fun _ => fun
  | [d1, d2] => { results := [.lit (.bool false)], args := [d1, d2] }
  | _ => none }
def ServedWrongFalsely : Prop := servedRow.holds Tryz.pinned (OpenSpec.ofChange servedWrong)

/- THE SECOND FORM. 'bulk': how many values and letters a reading holds, each counted each time it is reached (what is shared counts as often as it is met; a slice's spare places count too). A statement '..UptoSaid' is the law's where the arguments, and the package variables that the reading takes, are together of bulk at most 1048576: NARROWER than '..Said'. Prove '..Said' where nothing that the law and all that it calls make is longer than what came in: it says more and counts as full. Else prove '..UptoSaid'. A law counts once. -/
mutual
def uptoBulk {H : Type} : DataW H → Nat
  | .lit (.string bytes) => bytes.length + 1
  | .lit _ => 1
  | .nil => 1
  | .ptr d => uptoBulk d + 1
  | .slice elems spare => uptoBulkAll elems + uptoBulkAll spare + 1
  | .agg parts => uptoBulkAll parts + 1
  | .iface _ d => uptoBulk d + 1
  | .map entries => uptoBulkEntries entries + 1
  | .held _ => 1
def uptoBulkAll {H : Type} : List (DataW H) → Nat
  | [] => 0
  | d :: r => uptoBulk d + uptoBulkAll r
def uptoBulkEntries {H : Type} : List (Lit × DataW H) → Nat
  | [] => 0
  | x :: r => uptoBulkEntry x + uptoBulkEntries r
def uptoBulkEntry {H : Type} : Lit × DataW H → Nat
  | (.string bytes, d) => bytes.length + uptoBulk d + 1
  | (_, d) => uptoBulk d + 1
 end
def uptoSmall : (H : Type) → List (DataW H) → Bool := fun _ ds => decide (uptoBulkAll ds ≤ 1048576)
def OpenSpec.upto (s : _root_.Go.ChangeSpec) : _root_.Go.OpenSpec := { _root_.Go.OpenSpec.ofChange s with cond := some uptoSmall }

/-- 'depotlaw.Shards', WHERE WHAT IT READS IS OF BULK AT MOST 1048576: true; the input reads as it did. -/
def shardsUptoRow : OpenClaim := { program := "ythpmcilljbmoiaagreatdoor", sum := "6b94ea982ac6088b45dc2b898af0558865b38696cc2ebb4be6a7f45738970e2e", func := "depot/depotlaw.Shards", spec := "shards", inPlace := ["(*sync.WaitGroup).Go", "(*sync.WaitGroup).Add", "internal/race.ReleaseMerge", "internal/race.Disable", "internal/race.Enable", "internal/synctest.IsInBubble", "internal/synctest.Associate[sync.WaitGroup]", "sync.fatal", "sync/atomic.OrUint64", "sync/atomic.AddUint64", "internal/race.Read", "sync/atomic.LoadUint64", "sync/atomic.StoreUint64", "internal/synctest.Disassociate[sync.WaitGroup]", "sync.runtime_Semrelease", "(*sync.WaitGroup).Go$1", "(*sync.WaitGroup).Go$1$1", "(*sync.WaitGroup).Done", "(*sync.WaitGroup).Wait", "internal/race.Acquire", "internal/synctest.IsAssociated[sync.WaitGroup]", "sync/atomic.CompareAndSwapUint64", "internal/race.Write", "sync.runtime_SemacquireWaitGroup"], unfollowed := true, recurses := true, named := ["depot/sum.roundWords"], apart := false, laid := [("depot/sum.roundWords", laid_depot_sum_roundWords)], narrowed := true }
def ShardsUptoSaid : Prop := shardsUptoRow.holds Tryz.pinned (OpenSpec.upto shardsSpec)

/-- 'depotlaw.Talks', WHERE WHAT IT READS IS OF BULK AT MOST 1048576: true; the input reads as it did. -/
def talksUptoRow : OpenClaim := { program := "ythpmcilljbmoiaagreatdoor", sum := "6b94ea982ac6088b45dc2b898af0558865b38696cc2ebb4be6a7f45738970e2e", func := "depot/depotlaw.Talks", spec := "talks", inPlace := ["(*sync.WaitGroup).Go", "(*sync.WaitGroup).Add", "internal/race.ReleaseMerge", "internal/race.Disable", "internal/race.Enable", "internal/synctest.IsInBubble", "internal/synctest.Associate[sync.WaitGroup]", "sync.fatal", "sync/atomic.OrUint64", "sync/atomic.AddUint64", "internal/race.Read", "sync/atomic.LoadUint64", "sync/atomic.StoreUint64", "internal/synctest.Disassociate[sync.WaitGroup]", "sync.runtime_Semrelease", "(*sync.WaitGroup).Go$1", "(*sync.WaitGroup).Go$1$1", "(*sync.WaitGroup).Done", "(*sync.WaitGroup).Wait", "internal/race.Acquire", "internal/synctest.IsAssociated[sync.WaitGroup]", "sync/atomic.CompareAndSwapUint64", "internal/race.Write", "sync.runtime_SemacquireWaitGroup"], unfollowed := true, recurses := true, named := ["depot/sum.roundWords"], apart := false, laid := [("depot/sum.roundWords", laid_depot_sum_roundWords)], narrowed := true }
def TalksUptoSaid : Prop := talksUptoRow.holds Tryz.pinned (OpenSpec.upto talksSpec)

/-- 'depotkeep.Dropped', WHERE WHAT IT READS IS OF BULK AT MOST 1048576: true; the input reads as it did. -/
def droppedUptoRow : OpenClaim := { program := "ythpmcilljbmoiaagreatdoor", sum := "6b94ea982ac6088b45dc2b898af0558865b38696cc2ebb4be6a7f45738970e2e", func := "depot/depotkeep.Dropped", spec := "dropped", inPlace := ["(*sync.WaitGroup).Go", "(*sync.WaitGroup).Add", "internal/race.ReleaseMerge", "internal/race.Disable", "internal/race.Enable", "internal/synctest.IsInBubble", "internal/synctest.Associate[sync.WaitGroup]", "sync.fatal", "sync/atomic.OrUint64", "sync/atomic.AddUint64", "internal/race.Read", "sync/atomic.LoadUint64", "sync/atomic.StoreUint64", "internal/synctest.Disassociate[sync.WaitGroup]", "sync.runtime_Semrelease", "(*sync.WaitGroup).Go$1", "(*sync.WaitGroup).Go$1$1", "(*sync.WaitGroup).Done", "(*sync.WaitGroup).Wait", "internal/race.Acquire", "internal/synctest.IsAssociated[sync.WaitGroup]", "sync/atomic.CompareAndSwapUint64", "internal/race.Write", "sync.runtime_SemacquireWaitGroup"], unfollowed := true, recurses := true, named := ["depot/sum.roundWords"], apart := false, laid := [("depot/sum.roundWords", laid_depot_sum_roundWords)], narrowed := true }
def DroppedUptoSaid : Prop := droppedUptoRow.holds Tryz.pinned (OpenSpec.upto droppedSpec)

/-- 'depotkeep.Refusal', WHERE WHAT IT READS IS OF BULK AT MOST 1048576: true; the input reads as it did. -/
def refusalUptoRow : OpenClaim := { program := "ythpmcilljbmoiaagreatdoor", sum := "6b94ea982ac6088b45dc2b898af0558865b38696cc2ebb4be6a7f45738970e2e", func := "depot/depotkeep.Refusal", spec := "refusal", inPlace := ["(*sync.WaitGroup).Go", "(*sync.WaitGroup).Add", "internal/race.ReleaseMerge", "internal/race.Disable", "internal/race.Enable", "internal/synctest.IsInBubble", "internal/synctest.Associate[sync.WaitGroup]", "sync.fatal", "sync/atomic.OrUint64", "sync/atomic.AddUint64", "internal/race.Read", "sync/atomic.LoadUint64", "sync/atomic.StoreUint64", "internal/synctest.Disassociate[sync.WaitGroup]", "sync.runtime_Semrelease", "(*sync.WaitGroup).Go$1", "(*sync.WaitGroup).Go$1$1", "(*sync.WaitGroup).Done", "(*sync.WaitGroup).Wait", "internal/race.Acquire", "internal/synctest.IsAssociated[sync.WaitGroup]", "sync/atomic.CompareAndSwapUint64", "internal/race.Write", "sync.runtime_SemacquireWaitGroup"], unfollowed := true, recurses := true, named := ["depot/sum.roundWords"], apart := false, laid := [("depot/sum.roundWords", laid_depot_sum_roundWords)], narrowed := true }
def RefusalUptoSaid : Prop := refusalUptoRow.holds Tryz.pinned (OpenSpec.upto refusalSpec)

/-- 'depotkeep.Acted', WHERE WHAT IT READS IS OF BULK AT MOST 1048576: true; the input reads as it did. -/
def actedUptoRow : OpenClaim := { program := "ythpmcilljbmoiaagreatdoor", sum := "6b94ea982ac6088b45dc2b898af0558865b38696cc2ebb4be6a7f45738970e2e", func := "depot/depotkeep.Acted", spec := "acted", unfollowed := true, recurses := true, named := ["depot/sum.roundWords"], apart := false, laid := [("depot/sum.roundWords", laid_depot_sum_roundWords)], narrowed := true }
def ActedUptoSaid : Prop := actedUptoRow.holds Tryz.pinned (OpenSpec.upto actedSpec)

/-- 'depotlaw.All', WHERE WHAT IT READS IS OF BULK AT MOST 1048576: true; the input reads as it did. -/
def allUptoRow : OpenClaim := { program := "ythpmcilljbmoiaagreatdoor", sum := "6b94ea982ac6088b45dc2b898af0558865b38696cc2ebb4be6a7f45738970e2e", func := "depot/depotlaw.All", spec := "all", inPlace := ["(*sync.WaitGroup).Go", "(*sync.WaitGroup).Add", "internal/race.ReleaseMerge", "internal/race.Disable", "internal/race.Enable", "internal/synctest.IsInBubble", "internal/synctest.Associate[sync.WaitGroup]", "sync.fatal", "sync/atomic.OrUint64", "sync/atomic.AddUint64", "internal/race.Read", "sync/atomic.LoadUint64", "sync/atomic.StoreUint64", "internal/synctest.Disassociate[sync.WaitGroup]", "sync.runtime_Semrelease", "(*sync.WaitGroup).Go$1", "(*sync.WaitGroup).Go$1$1", "(*sync.WaitGroup).Done", "(*sync.WaitGroup).Wait", "internal/race.Acquire", "internal/synctest.IsAssociated[sync.WaitGroup]", "sync/atomic.CompareAndSwapUint64", "internal/race.Write", "sync.runtime_SemacquireWaitGroup"], unfollowed := true, recurses := true, named := ["depot/sum.roundWords"], apart := false, laid := [("depot/sum.roundWords", laid_depot_sum_roundWords)], narrowed := true }
def AllUptoSaid : Prop := allUptoRow.holds Tryz.pinned (OpenSpec.upto allSpec)

/-- 'depotkeep.Pieced', WHERE WHAT IT READS IS OF BULK AT MOST 1048576: true; the input reads as it did. -/
def piecedUptoRow : OpenClaim := { program := "ythpmcilljbmoiaagreatdoor", sum := "6b94ea982ac6088b45dc2b898af0558865b38696cc2ebb4be6a7f45738970e2e", func := "depot/depotkeep.Pieced", spec := "pieced", unfollowed := true, recurses := true, named := ["depot/sum.roundWords"], apart := false, laid := [("depot/sum.roundWords", laid_depot_sum_roundWords)], narrowed := true }
def PiecedUptoSaid : Prop := piecedUptoRow.holds Tryz.pinned (OpenSpec.upto piecedSpec)

/-- 'depotkeep.Served', WHERE WHAT IT READS IS OF BULK AT MOST 1048576: true; the input reads as it did. -/
def servedUptoRow : OpenClaim := { program := "ythpmcilljbmoiaagreatdoor", sum := "6b94ea982ac6088b45dc2b898af0558865b38696cc2ebb4be6a7f45738970e2e", func := "depot/depotkeep.Served", spec := "served", unfollowed := true, recurses := true, named := ["depot/sum.roundWords"], apart := false, laid := [("depot/sum.roundWords", laid_depot_sum_roundWords)], narrowed := true }
def ServedUptoSaid : Prop := servedUptoRow.holds Tryz.pinned (OpenSpec.upto servedSpec)

end Rows
end Go.Proofs.YthpmcilljbmoiaaGreatDoor
