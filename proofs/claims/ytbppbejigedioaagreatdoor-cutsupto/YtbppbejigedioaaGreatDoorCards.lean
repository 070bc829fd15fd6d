/-
  DERIVED. GIVEN WITH THE SEED: THE CARDS: each row of YtbppbejigedioaaGreatDoorRows.lean that lists a variable, with what it lists TIED to the program's text (the seventh form; the later family's looks); each row that meets fmt, with fmt's text TOLD by the authors' own Lean function (tested against real Go, not proved from fmt's source: count such statements apart). THE CARD IS WHAT COUNTS. Prove the row's statement (the work); the ties are given (YtbppbejigedioaaGreatDoorTie.lean); close each card by the builder's one call (the guide's Derived/Test/ToyasCard.lean, 'card_holds'). Laid BY PROGRAM, IN A SANDBOX (cutbox-door.mjs). By AI agents, Wed Nov 11 2026. No macro, syntax, notation, axiom, sorry.
-/
import Derived.Test.YtbppbejigedioaaGreatDoorRows
import GoSem.ClaimSeven
namespace Go.Proofs.YtbppbejigedioaaGreatDoor
namespace Rows

/-- THE TIED CARD OF 'cutterlaw.Checks'. -/
def checksCard : Claim7 := { stood := { row := checksRow, standIns := [], harness := (true, "d01f6470764eec9ccad4c409185da30fbac2dea415ade8c7bd701e3660d4fff4"), looks := true }, kinds := [], alts := [], goes := true, laidByText := true, laidKinds := [.data, .handle, .pinned], laidTests := true, laidLooks := .later }
def ChecksCardSaid : Prop := Claim7.holds Tryz.pinned (.plain (OpenSpec.ofChange checksSpec)) checksCard

/-- THE TIED CARD OF 'cutterlaw.Classing'. -/
def classingCard : Claim7 := { stood := { row := classingRow, standIns := [], harness := (true, "d01f6470764eec9ccad4c409185da30fbac2dea415ade8c7bd701e3660d4fff4"), looks := true }, kinds := [], alts := [], goes := true, laidByText := true, laidKinds := [.data, .handle, .pinned], laidTests := true, laidLooks := .later }
def ClassingCardSaid : Prop := Claim7.holds Tryz.pinned (.plain (OpenSpec.ofChange classingSpec)) classingCard

/-- THE TIED CARD OF 'cutterlaw.Cuts'. -/
def cutsCard : Claim7 := { stood := { row := cutsRow, standIns := [], harness := (true, "d01f6470764eec9ccad4c409185da30fbac2dea415ade8c7bd701e3660d4fff4"), looks := true }, kinds := [], alts := [], goes := true, laidByText := true, laidKinds := [.data, .data, .data, .handle, .pinned], laidTests := true, laidLooks := .later }
def CutsCardSaid : Prop := Claim7.holds Tryz.pinned (.plain (OpenSpec.ofChange cutsSpec)) cutsCard

/-- THE TIED CARD OF 'cutterlaw.Framed'. -/
def framedCard : Claim7 := { stood := { row := framedRow, standIns := [], harness := (true, "d01f6470764eec9ccad4c409185da30fbac2dea415ade8c7bd701e3660d4fff4"), looks := true }, kinds := [], alts := [], goes := true, laidByText := true, laidKinds := [.data, .data, .data, .handle, .pinned], laidTests := true, laidLooks := .later }
def FramedCardSaid : Prop := Claim7.holds Tryz.pinned (.plain (OpenSpec.ofChange framedSpec)) framedCard

/-- THE TIED CARD OF 'cutterlaw.Plain'. -/
def plainCard : Claim7 := { stood := { row := plainRow, standIns := [], harness := (true, "d01f6470764eec9ccad4c409185da30fbac2dea415ade8c7bd701e3660d4fff4"), looks := true }, kinds := [], alts := [], goes := true, laidByText := true, laidKinds := [.data, .data, .data, .handle, .pinned], laidTests := true, laidLooks := .later }
def PlainCardSaid : Prop := Claim7.holds Tryz.pinned (.plain (OpenSpec.ofChange plainSpec)) plainCard

/-- THE TIED CARD OF 'cutterlaw.Pair'. -/
def pairCard : Claim7 := { stood := { row := pairRow, standIns := [], harness := (true, "d01f6470764eec9ccad4c409185da30fbac2dea415ade8c7bd701e3660d4fff4"), looks := true }, kinds := [], alts := [], goes := true, laidByText := true, laidKinds := [.data, .data, .data, .handle, .pinned], laidTests := true, laidLooks := .later }
def PairCardSaid : Prop := Claim7.holds Tryz.pinned (.plain (OpenSpec.ofChange pairSpec)) pairCard

/-- THE TIED CARD OF 'cutterlaw.Default'. -/
def defaultCard : Claim7 := { stood := { row := defaultRow, standIns := [], harness := (true, "d01f6470764eec9ccad4c409185da30fbac2dea415ade8c7bd701e3660d4fff4"), looks := true }, kinds := [], alts := [], goes := true, laidByText := true, laidKinds := [.data, .data, .data, .handle, .pinned], laidTests := true, laidLooks := .later }
def DefaultCardSaid : Prop := Claim7.holds Tryz.pinned (.plain (OpenSpec.ofChange defaultSpec)) defaultCard

/-- THE TIED CARD OF 'cutterlaw.Early'. -/
def earlyCard : Claim7 := { stood := { row := earlyRow, standIns := [], harness := (true, "d01f6470764eec9ccad4c409185da30fbac2dea415ade8c7bd701e3660d4fff4"), looks := true }, kinds := [], alts := [], goes := true, laidByText := true, laidKinds := [.data, .data, .data, .handle, .pinned], laidTests := true, laidLooks := .later }
def EarlyCardSaid : Prop := Claim7.holds Tryz.pinned (.plain (OpenSpec.ofChange earlySpec)) earlyCard

/-- THE TIED CARD OF 'cutterlaw.Nexts'. -/
def nextsCard : Claim7 := { stood := { row := nextsRow, standIns := [], harness := (true, "d01f6470764eec9ccad4c409185da30fbac2dea415ade8c7bd701e3660d4fff4"), looks := true }, kinds := [], alts := [], goes := true, laidByText := true, laidKinds := [.data, .data, .data, .handle, .pinned], laidTests := true, laidLooks := .later }
def NextsCardSaid : Prop := Claim7.holds Tryz.pinned (.plain (OpenSpec.ofChange nextsSpec)) nextsCard

/-- THE TIED CARD OF 'cutterlaw.Nearest'. -/
def nearestCard : Claim7 := { stood := { row := nearestRow, standIns := [], harness := (true, "d01f6470764eec9ccad4c409185da30fbac2dea415ade8c7bd701e3660d4fff4"), looks := true }, kinds := [], alts := [], goes := true, laidByText := true, laidKinds := [.data, .data, .data, .handle, .pinned], laidTests := true, laidLooks := .later }
def NearestCardSaid : Prop := Claim7.holds Tryz.pinned (.plain (OpenSpec.ofChange nearestSpec)) nearestCard

/-- THE TIED CARD OF 'cutterlaw.Shares'. -/
def sharesCard : Claim7 := { stood := { row := sharesRow, standIns := [], harness := (true, "d01f6470764eec9ccad4c409185da30fbac2dea415ade8c7bd701e3660d4fff4"), looks := true }, kinds := [], alts := [], goes := true, laidByText := true, laidKinds := [.data, .data, .data, .handle, .pinned], laidTests := true, laidLooks := .later }
def SharesCardSaid : Prop := Claim7.holds Tryz.pinned (.plain (OpenSpec.ofChange sharesSpec)) sharesCard

/-- THE TIED CARD OF 'cutterlaw.Alike'. -/
def alikeCard : Claim7 := { stood := { row := alikeRow, standIns := [], harness := (true, "d01f6470764eec9ccad4c409185da30fbac2dea415ade8c7bd701e3660d4fff4"), looks := true }, kinds := [], alts := [], goes := true, laidByText := true, laidKinds := [.data, .data, .data, .handle, .pinned], laidTests := true, laidLooks := .later }
def AlikeCardSaid : Prop := Claim7.holds Tryz.pinned (.plain (OpenSpec.ofChange alikeSpec)) alikeCard

/-- THE SECOND FORM's CARD OF 'cutterlaw.Checks'. -/
def checksUptoCard : Claim7 := { stood := { row := checksUptoRow, standIns := [], harness := (true, "d01f6470764eec9ccad4c409185da30fbac2dea415ade8c7bd701e3660d4fff4"), looks := true }, kinds := [], alts := [], goes := true, laidByText := true, laidKinds := [.data, .handle, .pinned], laidTests := true, laidLooks := .later }
def ChecksUptoCardSaid : Prop := Claim7.holds Tryz.pinned (.plain (OpenSpec.upto checksSpec)) checksUptoCard

/-- THE SECOND FORM's CARD OF 'cutterlaw.Classing'. -/
def classingUptoCard : Claim7 := { stood := { row := classingUptoRow, standIns := [], harness := (true, "d01f6470764eec9ccad4c409185da30fbac2dea415ade8c7bd701e3660d4fff4"), looks := true }, kinds := [], alts := [], goes := true, laidByText := true, laidKinds := [.data, .handle, .pinned], laidTests := true, laidLooks := .later }
def ClassingUptoCardSaid : Prop := Claim7.holds Tryz.pinned (.plain (OpenSpec.upto classingSpec)) classingUptoCard

/-- THE SECOND FORM's CARD OF 'cutterlaw.Cuts'. -/
def cutsUptoCard : Claim7 := { stood := { row := cutsUptoRow, standIns := [], harness := (true, "d01f6470764eec9ccad4c409185da30fbac2dea415ade8c7bd701e3660d4fff4"), looks := true }, kinds := [], alts := [], goes := true, laidByText := true, laidKinds := [.data, .data, .data, .handle, .pinned], laidTests := true, laidLooks := .later }
def CutsUptoCardSaid : Prop := Claim7.holds Tryz.pinned (.plain (OpenSpec.upto cutsSpec)) cutsUptoCard

/-- THE SECOND FORM's CARD OF 'cutterlaw.Framed'. -/
def framedUptoCard : Claim7 := { stood := { row := framedUptoRow, standIns := [], harness := (true, "d01f6470764eec9ccad4c409185da30fbac2dea415ade8c7bd701e3660d4fff4"), looks := true }, kinds := [], alts := [], goes := true, laidByText := true, laidKinds := [.data, .data, .data, .handle, .pinned], laidTests := true, laidLooks := .later }
def FramedUptoCardSaid : Prop := Claim7.holds Tryz.pinned (.plain (OpenSpec.upto framedSpec)) framedUptoCard

/-- THE SECOND FORM's CARD OF 'cutterlaw.Plain'. -/
def plainUptoCard : Claim7 := { stood := { row := plainUptoRow, standIns := [], harness := (true, "d01f6470764eec9ccad4c409185da30fbac2dea415ade8c7bd701e3660d4fff4"), looks := true }, kinds := [], alts := [], goes := true, laidByText := true, laidKinds := [.data, .data, .data, .handle, .pinned], laidTests := true, laidLooks := .later }
def PlainUptoCardSaid : Prop := Claim7.holds Tryz.pinned (.plain (OpenSpec.upto plainSpec)) plainUptoCard

/-- THE SECOND FORM's CARD OF 'cutterlaw.Pair'. -/
def pairUptoCard : Claim7 := { stood := { row := pairUptoRow, standIns := [], harness := (true, "d01f6470764eec9ccad4c409185da30fbac2dea415ade8c7bd701e3660d4fff4"), looks := true }, kinds := [], alts := [], goes := true, laidByText := true, laidKinds := [.data, .data, .data, .handle, .pinned], laidTests := true, laidLooks := .later }
def PairUptoCardSaid : Prop := Claim7.holds Tryz.pinned (.plain (OpenSpec.upto pairSpec)) pairUptoCard

/-- THE SECOND FORM's CARD OF 'cutterlaw.Default'. -/
def defaultUptoCard : Claim7 := { stood := { row := defaultUptoRow, standIns := [], harness := (true, "d01f6470764eec9ccad4c409185da30fbac2dea415ade8c7bd701e3660d4fff4"), looks := true }, kinds := [], alts := [], goes := true, laidByText := true, laidKinds := [.data, .data, .data, .handle, .pinned], laidTests := true, laidLooks := .later }
def DefaultUptoCardSaid : Prop := Claim7.holds Tryz.pinned (.plain (OpenSpec.upto defaultSpec)) defaultUptoCard

/-- THE SECOND FORM's CARD OF 'cutterlaw.Early'. -/
def earlyUptoCard : Claim7 := { stood := { row := earlyUptoRow, standIns := [], harness := (true, "d01f6470764eec9ccad4c409185da30fbac2dea415ade8c7bd701e3660d4fff4"), looks := true }, kinds := [], alts := [], goes := true, laidByText := true, laidKinds := [.data, .data, .data, .handle, .pinned], laidTests := true, laidLooks := .later }
def EarlyUptoCardSaid : Prop := Claim7.holds Tryz.pinned (.plain (OpenSpec.upto earlySpec)) earlyUptoCard

/-- THE SECOND FORM's CARD OF 'cutterlaw.Nexts'. -/
def nextsUptoCard : Claim7 := { stood := { row := nextsUptoRow, standIns := [], harness := (true, "d01f6470764eec9ccad4c409185da30fbac2dea415ade8c7bd701e3660d4fff4"), looks := true }, kinds := [], alts := [], goes := true, laidByText := true, laidKinds := [.data, .data, .data, .handle, .pinned], laidTests := true, laidLooks := .later }
def NextsUptoCardSaid : Prop := Claim7.holds Tryz.pinned (.plain (OpenSpec.upto nextsSpec)) nextsUptoCard

/-- THE SECOND FORM's CARD OF 'cutterlaw.Nearest'. -/
def nearestUptoCard : Claim7 := { stood := { row := nearestUptoRow, standIns := [], harness := (true, "d01f6470764eec9ccad4c409185da30fbac2dea415ade8c7bd701e3660d4fff4"), looks := true }, kinds := [], alts := [], goes := true, laidByText := true, laidKinds := [.data, .data, .data, .handle, .pinned], laidTests := true, laidLooks := .later }
def NearestUptoCardSaid : Prop := Claim7.holds Tryz.pinned (.plain (OpenSpec.upto nearestSpec)) nearestUptoCard

/-- THE SECOND FORM's CARD OF 'cutterlaw.Shares'. -/
def sharesUptoCard : Claim7 := { stood := { row := sharesUptoRow, standIns := [], harness := (true, "d01f6470764eec9ccad4c409185da30fbac2dea415ade8c7bd701e3660d4fff4"), looks := true }, kinds := [], alts := [], goes := true, laidByText := true, laidKinds := [.data, .data, .data, .handle, .pinned], laidTests := true, laidLooks := .later }
def SharesUptoCardSaid : Prop := Claim7.holds Tryz.pinned (.plain (OpenSpec.upto sharesSpec)) sharesUptoCard

/-- THE SECOND FORM's CARD OF 'cutterlaw.Alike'. -/
def alikeUptoCard : Claim7 := { stood := { row := alikeUptoRow, standIns := [], harness := (true, "d01f6470764eec9ccad4c409185da30fbac2dea415ade8c7bd701e3660d4fff4"), looks := true }, kinds := [], alts := [], goes := true, laidByText := true, laidKinds := [.data, .data, .data, .handle, .pinned], laidTests := true, laidLooks := .later }
def AlikeUptoCardSaid : Prop := Claim7.holds Tryz.pinned (.plain (OpenSpec.upto alikeSpec)) alikeUptoCard
end Rows
end Go.Proofs.YtbppbejigedioaaGreatDoor
