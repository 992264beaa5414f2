/-
  DERIVED. GIVEN WITH THE SEED: THE CARDS: each row of YtpnnlhegncbfaaaDoorRows.lean that lists a variable, with what it lists TIED to the program's text (the seventh form; the later family's looks); each row that meets fmt, with fmt's text TOLD by the authors' own Lean function (tested against real Go, not proved from fmt's source: count such statements apart). THE CARD IS WHAT COUNTS. Prove the row's statement (the work); the ties are given (YtpnnlhegncbfaaaDoorTie.lean); close each card by the builder's one call (the guide's Derived/Test/ToyasCard.lean, 'card_holds'). Laid BY PROGRAM, IN A SANDBOX (cutbox-door.mjs). By AI agents, Wed Nov 11 2026. No macro, syntax, notation, axiom, sorry.
-/
import Derived.Test.YtpnnlhegncbfaaaDoorRows
import GoSem.ClaimSeven
namespace Go.Proofs.YtpnnlhegncbfaaaDoor
namespace Rows

/-- THE TIED CARD OF 'crossdocklaw09.DeflateBack'. -/
def deflateBackCard : Claim7 := { stood := { row := deflateBackRow, standIns := [], harness := (true, "b4d01164e72633836344a83f8243b64c6c1780fa1a6fdd62da5139cdbe932a6d"), looks := true }, kinds := [], alts := [], laidByText := true, laidKinds := [.data], laidTests := true, laidLooks := .later }
def DeflateBackCardSaid : Prop := Claim7.holds Tryd.pinned (.plain (OpenSpec.ofChange deflateBackSpec)) deflateBackCard

/-- THE TIED CARD OF 'crossdocklaw10.GzipPacks'. -/
def gzipPacksCard : Claim7 := { stood := { row := gzipPacksRow, standIns := [], harness := (true, "b4d01164e72633836344a83f8243b64c6c1780fa1a6fdd62da5139cdbe932a6d"), looks := true }, kinds := [], alts := [], laidByText := true, laidKinds := [.data], laidTests := true, laidLooks := .later }
def GzipPacksCardSaid : Prop := Claim7.holds Tryd.pinned (.plain (OpenSpec.ofChange gzipPacksSpec)) gzipPacksCard

/-- THE SECOND FORM's CARD OF 'crossdocklaw09.DeflateBack'. -/
def deflateBackUptoCard : Claim7 := { stood := { row := deflateBackUptoRow, standIns := [], harness := (true, "b4d01164e72633836344a83f8243b64c6c1780fa1a6fdd62da5139cdbe932a6d"), looks := true }, kinds := [], alts := [], laidByText := true, laidKinds := [.data], laidTests := true, laidLooks := .later }
def DeflateBackUptoCardSaid : Prop := Claim7.holds Tryd.pinned (.plain (OpenSpec.upto deflateBackSpec)) deflateBackUptoCard

/-- THE SECOND FORM's CARD OF 'crossdocklaw10.GzipPacks'. -/
def gzipPacksUptoCard : Claim7 := { stood := { row := gzipPacksUptoRow, standIns := [], harness := (true, "b4d01164e72633836344a83f8243b64c6c1780fa1a6fdd62da5139cdbe932a6d"), looks := true }, kinds := [], alts := [], laidByText := true, laidKinds := [.data], laidTests := true, laidLooks := .later }
def GzipPacksUptoCardSaid : Prop := Claim7.holds Tryd.pinned (.plain (OpenSpec.upto gzipPacksSpec)) gzipPacksUptoCard
end Rows
end Go.Proofs.YtpnnlhegncbfaaaDoor
