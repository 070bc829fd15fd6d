/-
  DERIVED. GIVEN WITH THE SEED: THE CARDS: each row of YtbppbejigedioabGreatDoorRows.lean that lists a variable, with what it lists TIED to the program's text (the seventh form; the later family's looks); each row that meets fmt, with fmt's text TOLD by the authors' own Lean function (tested against real Go, not proved from fmt's source: count such statements apart). THE CARD IS WHAT COUNTS. Prove the row's statement (the work); the ties are given (YtbppbejigedioabGreatDoorTie.lean); close each card by the builder's one call (the guide's Derived/Test/ToyasCard.lean, 'card_holds'). Laid BY PROGRAM, IN A SANDBOX (cutbox-door.mjs). By AI agents, Wed Nov 11 2026. No macro, syntax, notation, axiom, sorry.
-/
import Derived.Test.YtbppbejigedioabGreatDoorRows
import GoSem.ClaimSeven
namespace Go.Proofs.YtbppbejigedioabGreatDoor
namespace Rows

/-- THE TIED CARD OF 'cutterlaw.Streams'. -/
def streamsCard : Claim7 := { stood := { row := streamsRow, standIns := [], harness := (true, "f1f31b8ed17b65af6153af4dffcc2a825a181202cfc9c2a2cd28a3bbfbad0784"), looks := true }, kinds := [], alts := [], goes := true, laidByText := true, laidKinds := [.data, .data, .data, .handle, .pinned], laidTests := true, laidLooks := .later }
def StreamsCardSaid : Prop := Claim7.holds Tryz.pinned (.plain (OpenSpec.ofChange streamsSpec)) streamsCard

/-- THE TIED CARD OF 'cutterlaw.Pieces'. -/
def piecesCard : Claim7 := { stood := { row := piecesRow, standIns := [], harness := (true, "f1f31b8ed17b65af6153af4dffcc2a825a181202cfc9c2a2cd28a3bbfbad0784"), looks := true }, kinds := [], alts := [], goes := true, laidByText := true, laidKinds := [.data, .data, .data, .handle, .pinned], laidTests := true, laidLooks := .later }
def PiecesCardSaid : Prop := Claim7.holds Tryz.pinned (.plain (OpenSpec.ofChange piecesSpec)) piecesCard

/-- THE TIED CARD OF 'cutterlaw.Soon'. -/
def soonCard : Claim7 := { stood := { row := soonRow, standIns := [], harness := (true, "f1f31b8ed17b65af6153af4dffcc2a825a181202cfc9c2a2cd28a3bbfbad0784"), looks := true }, kinds := [], alts := [], goes := true, laidByText := true, laidKinds := [.data, .data, .data, .handle, .pinned], laidTests := true, laidLooks := .later }
def SoonCardSaid : Prop := Claim7.holds Tryz.pinned (.plain (OpenSpec.ofChange soonSpec)) soonCard

/-- THE TIED CARD OF 'cutterlaw.Own'. -/
def ownCard : Claim7 := { stood := { row := ownRow, standIns := [], harness := (true, "f1f31b8ed17b65af6153af4dffcc2a825a181202cfc9c2a2cd28a3bbfbad0784"), looks := true }, kinds := [], alts := [], goes := true, laidByText := true, laidKinds := [.data, .data, .data, .handle, .pinned], laidTests := true, laidLooks := .later }
def OwnCardSaid : Prop := Claim7.holds Tryz.pinned (.plain (OpenSpec.ofChange ownSpec)) ownCard

/-- THE TIED CARD OF 'cutterlaw.All'. -/
def allCard : Claim7 := { stood := { row := allRow, standIns := [], harness := (true, "f1f31b8ed17b65af6153af4dffcc2a825a181202cfc9c2a2cd28a3bbfbad0784"), looks := true }, kinds := [], alts := [], goes := true, laidByText := true, laidKinds := [.data, .data, .data, .handle, .pinned], laidTests := true, laidLooks := .later }
def AllCardSaid : Prop := Claim7.holds Tryz.pinned (.plain (OpenSpec.ofChange allSpec)) allCard

/-- THE SECOND FORM's CARD OF 'cutterlaw.Streams'. -/
def streamsUptoCard : Claim7 := { stood := { row := streamsUptoRow, standIns := [], harness := (true, "f1f31b8ed17b65af6153af4dffcc2a825a181202cfc9c2a2cd28a3bbfbad0784"), looks := true }, kinds := [], alts := [], goes := true, laidByText := true, laidKinds := [.data, .data, .data, .handle, .pinned], laidTests := true, laidLooks := .later }
def StreamsUptoCardSaid : Prop := Claim7.holds Tryz.pinned (.plain (OpenSpec.upto streamsSpec)) streamsUptoCard

/-- THE SECOND FORM's CARD OF 'cutterlaw.Pieces'. -/
def piecesUptoCard : Claim7 := { stood := { row := piecesUptoRow, standIns := [], harness := (true, "f1f31b8ed17b65af6153af4dffcc2a825a181202cfc9c2a2cd28a3bbfbad0784"), looks := true }, kinds := [], alts := [], goes := true, laidByText := true, laidKinds := [.data, .data, .data, .handle, .pinned], laidTests := true, laidLooks := .later }
def PiecesUptoCardSaid : Prop := Claim7.holds Tryz.pinned (.plain (OpenSpec.upto piecesSpec)) piecesUptoCard

/-- THE SECOND FORM's CARD OF 'cutterlaw.Soon'. -/
def soonUptoCard : Claim7 := { stood := { row := soonUptoRow, standIns := [], harness := (true, "f1f31b8ed17b65af6153af4dffcc2a825a181202cfc9c2a2cd28a3bbfbad0784"), looks := true }, kinds := [], alts := [], goes := true, laidByText := true, laidKinds := [.data, .data, .data, .handle, .pinned], laidTests := true, laidLooks := .later }
def SoonUptoCardSaid : Prop := Claim7.holds Tryz.pinned (.plain (OpenSpec.upto soonSpec)) soonUptoCard

/-- THE SECOND FORM's CARD OF 'cutterlaw.Own'. -/
def ownUptoCard : Claim7 := { stood := { row := ownUptoRow, standIns := [], harness := (true, "f1f31b8ed17b65af6153af4dffcc2a825a181202cfc9c2a2cd28a3bbfbad0784"), looks := true }, kinds := [], alts := [], goes := true, laidByText := true, laidKinds := [.data, .data, .data, .handle, .pinned], laidTests := true, laidLooks := .later }
def OwnUptoCardSaid : Prop := Claim7.holds Tryz.pinned (.plain (OpenSpec.upto ownSpec)) ownUptoCard

/-- THE SECOND FORM's CARD OF 'cutterlaw.All'. -/
def allUptoCard : Claim7 := { stood := { row := allUptoRow, standIns := [], harness := (true, "f1f31b8ed17b65af6153af4dffcc2a825a181202cfc9c2a2cd28a3bbfbad0784"), looks := true }, kinds := [], alts := [], goes := true, laidByText := true, laidKinds := [.data, .data, .data, .handle, .pinned], laidTests := true, laidLooks := .later }
def AllUptoCardSaid : Prop := Claim7.holds Tryz.pinned (.plain (OpenSpec.upto allSpec)) allUptoCard
end Rows
end Go.Proofs.YtbppbejigedioabGreatDoor
