/-
  DERIVED. GIVEN WITH THE SEED: THE CARDS: each row of YthpmcilljbmoiaaDoorRows.lean that lists a variable, with what it lists TIED to the program's text (the seventh form; the later family's looks); each row that meets fmt, with fmt's text TOLD by the authors' own Lean function (tested against real Go, not proved from fmt's source: count such statements apart). THE CARD IS WHAT COUNTS. Prove the row's statement (the work); the ties are given (YthpmcilljbmoiaaDoorTie.lean); close each card by the builder's one call (the guide's Derived/Test/ToyasCard.lean, 'card_holds'). Laid BY PROGRAM, IN A SANDBOX (cutbox-door.mjs). By AI agents, Wed Nov 11 2026. No macro, syntax, notation, axiom, sorry.
-/
import Derived.Test.YthpmcilljbmoiaaDoorRows
import GoSem.ClaimSeven
namespace Go.Proofs.YthpmcilljbmoiaaDoor
namespace Rows

/-- THE TIED CARD OF 'depotlaw.Named'. -/
def namedCard : Claim7 := { stood := { row := namedRow, standIns := [], harness := (true, "2a710794bd47c381b77a26bdb021396599893fb81697e0863bb87416c62a73bb"), looks := false }, kinds := [], alts := [], laidByText := true, laidKinds := [.data], laidTests := true, laidLooks := .later }
def NamedCardSaid : Prop := Claim7.holds Tryd.pinned (.plain (OpenSpec.ofChange namedSpec)) namedCard

/-- THE TIED CARD OF 'depotkeep.Bulked'. -/
def bulkedCard : Claim7 := { stood := { row := bulkedRow, standIns := [], harness := (true, "2a710794bd47c381b77a26bdb021396599893fb81697e0863bb87416c62a73bb"), looks := false }, kinds := [], alts := [], goes := true, laidByText := true, laidKinds := [.data], laidTests := true, laidLooks := .later }
def BulkedCardSaid : Prop := Claim7.holds Tryd.pinned (.plain (OpenSpec.ofChange bulkedSpec)) bulkedCard

/-- THE TIED CARD OF 'depotkeep.Chances'. -/
def chancesCard : Claim7 := { stood := { row := chancesRow, standIns := [], harness := (true, "2a710794bd47c381b77a26bdb021396599893fb81697e0863bb87416c62a73bb"), looks := false }, kinds := [], alts := [], goes := true, laidByText := true, laidKinds := [.data], laidTests := true, laidLooks := .later }
def ChancesCardSaid : Prop := Claim7.holds Tryd.pinned (.plain (OpenSpec.ofChange chancesSpec)) chancesCard

/-- THE SECOND FORM's CARD OF 'depotlaw.Named'. -/
def namedUptoCard : Claim7 := { stood := { row := namedUptoRow, standIns := [], harness := (true, "2a710794bd47c381b77a26bdb021396599893fb81697e0863bb87416c62a73bb"), looks := false }, kinds := [], alts := [], laidByText := true, laidKinds := [.data], laidTests := true, laidLooks := .later }
def NamedUptoCardSaid : Prop := Claim7.holds Tryd.pinned (.plain (OpenSpec.upto namedSpec)) namedUptoCard

/-- THE SECOND FORM's CARD OF 'depotkeep.Bulked'. -/
def bulkedUptoCard : Claim7 := { stood := { row := bulkedUptoRow, standIns := [], harness := (true, "2a710794bd47c381b77a26bdb021396599893fb81697e0863bb87416c62a73bb"), looks := false }, kinds := [], alts := [], goes := true, laidByText := true, laidKinds := [.data], laidTests := true, laidLooks := .later }
def BulkedUptoCardSaid : Prop := Claim7.holds Tryd.pinned (.plain (OpenSpec.upto bulkedSpec)) bulkedUptoCard

/-- THE SECOND FORM's CARD OF 'depotkeep.Chances'. -/
def chancesUptoCard : Claim7 := { stood := { row := chancesUptoRow, standIns := [], harness := (true, "2a710794bd47c381b77a26bdb021396599893fb81697e0863bb87416c62a73bb"), looks := false }, kinds := [], alts := [], goes := true, laidByText := true, laidKinds := [.data], laidTests := true, laidLooks := .later }
def ChancesUptoCardSaid : Prop := Claim7.holds Tryd.pinned (.plain (OpenSpec.upto chancesSpec)) chancesUptoCard
end Rows
end Go.Proofs.YthpmcilljbmoiaaDoor
