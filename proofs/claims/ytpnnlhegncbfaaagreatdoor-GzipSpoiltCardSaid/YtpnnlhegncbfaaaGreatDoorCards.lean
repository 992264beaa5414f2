/-
  DERIVED. GIVEN WITH THE SEED: THE CARDS: each row of YtpnnlhegncbfaaaGreatDoorRows.lean that lists a variable, with what it lists TIED to the program's text (the seventh form; the later family's looks); each row that meets fmt, with fmt's text TOLD by the authors' own Lean function (tested against real Go, not proved from fmt's source: count such statements apart). THE CARD IS WHAT COUNTS. Prove the row's statement (the work); the ties are given (YtpnnlhegncbfaaaGreatDoorTie.lean); close each card by the builder's one call (the guide's Derived/Test/ToyasCard.lean, 'card_holds'). Laid BY PROGRAM, IN A SANDBOX (cutbox-door.mjs). By AI agents, Wed Nov 11 2026. No macro, syntax, notation, axiom, sorry.
-/
import Derived.Test.YtpnnlhegncbfaaaGreatDoorRows
import GoSem.ClaimSeven
namespace Go.Proofs.YtpnnlhegncbfaaaGreatDoor
namespace Rows

/-- THE TIED CARD OF 'crossdocklaw10.GzipUnpacks'. -/
def gzipUnpacksCard : Claim7 := { stood := { row := gzipUnpacksRow, standIns := [], harness := (true, "4136f30e3ab2d6e530d0df2f9f8243793f44ffe546157a65d169aaa6353d4b8b"), looks := true }, kinds := [], alts := [], laidByText := true, laidKinds := [.data, .data], laidTests := true, laidLooks := .later }
def GzipUnpacksCardSaid : Prop := Claim7.holds Tryz.pinned (.plain (OpenSpec.ofChange gzipUnpacksSpec)) gzipUnpacksCard

/-- THE TIED CARD OF 'crossdocklaw10.GzipBack'. -/
def gzipBackCard : Claim7 := { stood := { row := gzipBackRow, standIns := [], harness := (true, "4136f30e3ab2d6e530d0df2f9f8243793f44ffe546157a65d169aaa6353d4b8b"), looks := true }, kinds := [], alts := [], laidByText := true, laidKinds := [.data, .data], laidTests := true, laidLooks := .later }
def GzipBackCardSaid : Prop := Claim7.holds Tryz.pinned (.plain (OpenSpec.ofChange gzipBackSpec)) gzipBackCard

/-- THE TIED CARD OF 'crossdocklaw10.GzipSpoilt'. -/
def gzipSpoiltCard : Claim7 := { stood := { row := gzipSpoiltRow, standIns := [], harness := (true, "4136f30e3ab2d6e530d0df2f9f8243793f44ffe546157a65d169aaa6353d4b8b"), looks := true }, kinds := [], alts := [], laidByText := true, laidKinds := [.data, .data], laidTests := true, laidLooks := .later }
def GzipSpoiltCardSaid : Prop := Claim7.holds Tryz.pinned (.plain (OpenSpec.ofChange gzipSpoiltSpec)) gzipSpoiltCard

/-- THE SECOND FORM's CARD OF 'crossdocklaw10.GzipUnpacks'. -/
def gzipUnpacksUptoCard : Claim7 := { stood := { row := gzipUnpacksUptoRow, standIns := [], harness := (true, "4136f30e3ab2d6e530d0df2f9f8243793f44ffe546157a65d169aaa6353d4b8b"), looks := true }, kinds := [], alts := [], laidByText := true, laidKinds := [.data, .data], laidTests := true, laidLooks := .later }
def GzipUnpacksUptoCardSaid : Prop := Claim7.holds Tryz.pinned (.plain (OpenSpec.upto gzipUnpacksSpec)) gzipUnpacksUptoCard

/-- THE SECOND FORM's CARD OF 'crossdocklaw10.GzipBack'. -/
def gzipBackUptoCard : Claim7 := { stood := { row := gzipBackUptoRow, standIns := [], harness := (true, "4136f30e3ab2d6e530d0df2f9f8243793f44ffe546157a65d169aaa6353d4b8b"), looks := true }, kinds := [], alts := [], laidByText := true, laidKinds := [.data, .data], laidTests := true, laidLooks := .later }
def GzipBackUptoCardSaid : Prop := Claim7.holds Tryz.pinned (.plain (OpenSpec.upto gzipBackSpec)) gzipBackUptoCard

/-- THE SECOND FORM's CARD OF 'crossdocklaw10.GzipSpoilt'. -/
def gzipSpoiltUptoCard : Claim7 := { stood := { row := gzipSpoiltUptoRow, standIns := [], harness := (true, "4136f30e3ab2d6e530d0df2f9f8243793f44ffe546157a65d169aaa6353d4b8b"), looks := true }, kinds := [], alts := [], laidByText := true, laidKinds := [.data, .data], laidTests := true, laidLooks := .later }
def GzipSpoiltUptoCardSaid : Prop := Claim7.holds Tryz.pinned (.plain (OpenSpec.upto gzipSpoiltSpec)) gzipSpoiltUptoCard
end Rows
end Go.Proofs.YtpnnlhegncbfaaaGreatDoor
