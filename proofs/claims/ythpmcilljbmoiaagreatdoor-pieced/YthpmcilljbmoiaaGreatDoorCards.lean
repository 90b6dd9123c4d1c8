/-
  DERIVED. GIVEN WITH THE SEED: THE CARDS: each row of YthpmcilljbmoiaaGreatDoorRows.lean that lists a variable, with what it lists TIED to the program's text (the seventh form; the later family's looks); each row that meets fmt, with fmt's text TOLD by the authors' own Lean function (tested against real Go, not proved from fmt's source: count such statements apart). THE CARD IS WHAT COUNTS. Prove the row's statement (the work); the ties are given (YthpmcilljbmoiaaGreatDoorTie.lean); close each card by the builder's one call (the guide's Derived/Test/ToyasCard.lean, 'card_holds'). Laid BY PROGRAM, IN A SANDBOX (cutbox-door.mjs). By AI agents, Wed Nov 11 2026. No macro, syntax, notation, axiom, sorry.
-/
import Derived.Test.YthpmcilljbmoiaaGreatDoorRows
import GoSem.ClaimSeven
namespace Go.Proofs.YthpmcilljbmoiaaGreatDoor
namespace Rows

/-- THE TIED CARD OF 'depotlaw.Shards'. -/
def shardsCard : Claim7 := { stood := { row := shardsRow, standIns := [], harness := (true, "2f6f1d92e80b791b804715bdd22c5e7e852f540dcc531101675b19ec3d9a6805"), looks := true }, kinds := [], alts := [], goes := true, laidByText := true, laidKinds := [.data], laidTests := true, laidLooks := .later }
def ShardsCardSaid : Prop := Claim7.holds Tryz.pinned (.plain (OpenSpec.ofChange shardsSpec)) shardsCard

/-- THE TIED CARD OF 'depotlaw.Talks'. -/
def talksCard : Claim7 := { stood := { row := talksRow, standIns := [], harness := (true, "2f6f1d92e80b791b804715bdd22c5e7e852f540dcc531101675b19ec3d9a6805"), looks := true }, kinds := [], alts := [], goes := true, laidByText := true, laidKinds := [.data], laidTests := true, laidLooks := .later }
def TalksCardSaid : Prop := Claim7.holds Tryz.pinned (.plain (OpenSpec.ofChange talksSpec)) talksCard

/-- THE TIED CARD OF 'depotkeep.Dropped'. -/
def droppedCard : Claim7 := { stood := { row := droppedRow, standIns := [], harness := (true, "2f6f1d92e80b791b804715bdd22c5e7e852f540dcc531101675b19ec3d9a6805"), looks := true }, kinds := [], alts := [], goes := true, laidByText := true, laidKinds := [.data], laidTests := true, laidLooks := .later }
def DroppedCardSaid : Prop := Claim7.holds Tryz.pinned (.plain (OpenSpec.ofChange droppedSpec)) droppedCard

/-- THE TIED CARD OF 'depotkeep.Refusal'. -/
def refusalCard : Claim7 := { stood := { row := refusalRow, standIns := [], harness := (true, "2f6f1d92e80b791b804715bdd22c5e7e852f540dcc531101675b19ec3d9a6805"), looks := true }, kinds := [], alts := [], goes := true, laidByText := true, laidKinds := [.data], laidTests := true, laidLooks := .later }
def RefusalCardSaid : Prop := Claim7.holds Tryz.pinned (.plain (OpenSpec.ofChange refusalSpec)) refusalCard

/-- THE TIED CARD OF 'depotkeep.Acted'. -/
def actedCard : Claim7 := { stood := { row := actedRow, standIns := [], harness := (true, "2f6f1d92e80b791b804715bdd22c5e7e852f540dcc531101675b19ec3d9a6805"), looks := true }, kinds := [], alts := [], goes := true, laidByText := true, laidKinds := [.data], laidTests := true, laidLooks := .later }
def ActedCardSaid : Prop := Claim7.holds Tryz.pinned (.plain (OpenSpec.ofChange actedSpec)) actedCard

/-- THE TIED CARD OF 'depotlaw.All'. -/
def allCard : Claim7 := { stood := { row := allRow, standIns := [], harness := (true, "2f6f1d92e80b791b804715bdd22c5e7e852f540dcc531101675b19ec3d9a6805"), looks := true }, kinds := [], alts := [], goes := true, laidByText := true, laidKinds := [.data], laidTests := true, laidLooks := .later }
def AllCardSaid : Prop := Claim7.holds Tryz.pinned (.plain (OpenSpec.ofChange allSpec)) allCard

/-- THE TIED CARD OF 'depotkeep.Pieced'. -/
def piecedCard : Claim7 := { stood := { row := piecedRow, standIns := [], harness := (true, "2f6f1d92e80b791b804715bdd22c5e7e852f540dcc531101675b19ec3d9a6805"), looks := true }, kinds := [], alts := [], goes := true, laidByText := true, laidKinds := [.data], laidTests := true, laidLooks := .later }
def PiecedCardSaid : Prop := Claim7.holds Tryz.pinned (.plain (OpenSpec.ofChange piecedSpec)) piecedCard

/-- THE TIED CARD OF 'depotkeep.Served'. -/
def servedCard : Claim7 := { stood := { row := servedRow, standIns := [], harness := (true, "2f6f1d92e80b791b804715bdd22c5e7e852f540dcc531101675b19ec3d9a6805"), looks := true }, kinds := [], alts := [], goes := true, laidByText := true, laidKinds := [.data], laidTests := true, laidLooks := .later }
def ServedCardSaid : Prop := Claim7.holds Tryz.pinned (.plain (OpenSpec.ofChange servedSpec)) servedCard

/-- THE SECOND FORM's CARD OF 'depotlaw.Shards'. -/
def shardsUptoCard : Claim7 := { stood := { row := shardsUptoRow, standIns := [], harness := (true, "2f6f1d92e80b791b804715bdd22c5e7e852f540dcc531101675b19ec3d9a6805"), looks := true }, kinds := [], alts := [], goes := true, laidByText := true, laidKinds := [.data], laidTests := true, laidLooks := .later }
def ShardsUptoCardSaid : Prop := Claim7.holds Tryz.pinned (.plain (OpenSpec.upto shardsSpec)) shardsUptoCard

/-- THE SECOND FORM's CARD OF 'depotlaw.Talks'. -/
def talksUptoCard : Claim7 := { stood := { row := talksUptoRow, standIns := [], harness := (true, "2f6f1d92e80b791b804715bdd22c5e7e852f540dcc531101675b19ec3d9a6805"), looks := true }, kinds := [], alts := [], goes := true, laidByText := true, laidKinds := [.data], laidTests := true, laidLooks := .later }
def TalksUptoCardSaid : Prop := Claim7.holds Tryz.pinned (.plain (OpenSpec.upto talksSpec)) talksUptoCard

/-- THE SECOND FORM's CARD OF 'depotkeep.Dropped'. -/
def droppedUptoCard : Claim7 := { stood := { row := droppedUptoRow, standIns := [], harness := (true, "2f6f1d92e80b791b804715bdd22c5e7e852f540dcc531101675b19ec3d9a6805"), looks := true }, kinds := [], alts := [], goes := true, laidByText := true, laidKinds := [.data], laidTests := true, laidLooks := .later }
def DroppedUptoCardSaid : Prop := Claim7.holds Tryz.pinned (.plain (OpenSpec.upto droppedSpec)) droppedUptoCard

/-- THE SECOND FORM's CARD OF 'depotkeep.Refusal'. -/
def refusalUptoCard : Claim7 := { stood := { row := refusalUptoRow, standIns := [], harness := (true, "2f6f1d92e80b791b804715bdd22c5e7e852f540dcc531101675b19ec3d9a6805"), looks := true }, kinds := [], alts := [], goes := true, laidByText := true, laidKinds := [.data], laidTests := true, laidLooks := .later }
def RefusalUptoCardSaid : Prop := Claim7.holds Tryz.pinned (.plain (OpenSpec.upto refusalSpec)) refusalUptoCard

/-- THE SECOND FORM's CARD OF 'depotkeep.Acted'. -/
def actedUptoCard : Claim7 := { stood := { row := actedUptoRow, standIns := [], harness := (true, "2f6f1d92e80b791b804715bdd22c5e7e852f540dcc531101675b19ec3d9a6805"), looks := true }, kinds := [], alts := [], goes := true, laidByText := true, laidKinds := [.data], laidTests := true, laidLooks := .later }
def ActedUptoCardSaid : Prop := Claim7.holds Tryz.pinned (.plain (OpenSpec.upto actedSpec)) actedUptoCard

/-- THE SECOND FORM's CARD OF 'depotlaw.All'. -/
def allUptoCard : Claim7 := { stood := { row := allUptoRow, standIns := [], harness := (true, "2f6f1d92e80b791b804715bdd22c5e7e852f540dcc531101675b19ec3d9a6805"), looks := true }, kinds := [], alts := [], goes := true, laidByText := true, laidKinds := [.data], laidTests := true, laidLooks := .later }
def AllUptoCardSaid : Prop := Claim7.holds Tryz.pinned (.plain (OpenSpec.upto allSpec)) allUptoCard

/-- THE SECOND FORM's CARD OF 'depotkeep.Pieced'. -/
def piecedUptoCard : Claim7 := { stood := { row := piecedUptoRow, standIns := [], harness := (true, "2f6f1d92e80b791b804715bdd22c5e7e852f540dcc531101675b19ec3d9a6805"), looks := true }, kinds := [], alts := [], goes := true, laidByText := true, laidKinds := [.data], laidTests := true, laidLooks := .later }
def PiecedUptoCardSaid : Prop := Claim7.holds Tryz.pinned (.plain (OpenSpec.upto piecedSpec)) piecedUptoCard

/-- THE SECOND FORM's CARD OF 'depotkeep.Served'. -/
def servedUptoCard : Claim7 := { stood := { row := servedUptoRow, standIns := [], harness := (true, "2f6f1d92e80b791b804715bdd22c5e7e852f540dcc531101675b19ec3d9a6805"), looks := true }, kinds := [], alts := [], goes := true, laidByText := true, laidKinds := [.data], laidTests := true, laidLooks := .later }
def ServedUptoCardSaid : Prop := Claim7.holds Tryz.pinned (.plain (OpenSpec.upto servedSpec)) servedUptoCard
end Rows
end Go.Proofs.YthpmcilljbmoiaaGreatDoor
