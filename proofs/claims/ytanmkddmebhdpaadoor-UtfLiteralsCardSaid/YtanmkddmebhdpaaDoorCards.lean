/-
  DERIVED. GIVEN WITH THE SEED: THE CARDS: each row of YtanmkddmebhdpaaDoorRows.lean that lists a variable, with what it lists TIED to the program's text (the seventh form; the later family's looks); each row that meets fmt, with fmt's text TOLD by the authors' own Lean function (tested against real Go, not proved from fmt's source: count such statements apart). THE CARD IS WHAT COUNTS. Prove the row's statement (the work); the ties are given (YtanmkddmebhdpaaDoorTie.lean); close each card by the builder's one call (the guide's Derived/Test/ToyasCard.lean, 'card_holds'). Laid BY PROGRAM, IN A SANDBOX (cutbox-door.mjs). By AI agents, Wed Nov 11 2026. No macro, syntax, notation, axiom, sorry.
-/
import Derived.Test.YtanmkddmebhdpaaDoorRows
import GoSem.ClaimSeven
namespace Go.Proofs.YtanmkddmebhdpaaDoor
namespace Rows

/-- THE TIED CARD OF 'crossdocklaw11.UtfLiterals'. -/
def utfLiteralsCard : Claim7 := { stood := { row := utfLiteralsRow, standIns := [], harness := (true, "9796b4025355d14c4067fe7da5c05629584ecd0c55dbe0c908f5b4380eb642df"), looks := true }, kinds := [], alts := [], laidByText := true, laidKinds := [.data, .pinned], laidTests := true, laidLooks := .later }
def UtfLiteralsCardSaid : Prop := Claim7.holds Tryd.pinned (.plain (OpenSpec.ofChange utfLiteralsSpec)) utfLiteralsCard

/-- THE TIED CARD OF 'crossdocklaw11.UtfBack'. -/
def utfBackCard : Claim7 := { stood := { row := utfBackRow, standIns := [], harness := (true, "9796b4025355d14c4067fe7da5c05629584ecd0c55dbe0c908f5b4380eb642df"), looks := true }, kinds := [], alts := [], laidByText := true, laidKinds := [.data, .pinned], laidTests := true, laidLooks := .later }
def UtfBackCardSaid : Prop := Claim7.holds Tryd.pinned (.plain (OpenSpec.ofChange utfBackSpec)) utfBackCard

/-- THE TIED CARD OF 'crossdocklaw11.UtfJoins'. -/
def utfJoinsCard : Claim7 := { stood := { row := utfJoinsRow, standIns := [], harness := (true, "9796b4025355d14c4067fe7da5c05629584ecd0c55dbe0c908f5b4380eb642df"), looks := true }, kinds := [], alts := [], laidByText := true, laidKinds := [.data, .pinned], laidTests := true, laidLooks := .later }
def UtfJoinsCardSaid : Prop := Claim7.holds Tryd.pinned (.plain (OpenSpec.ofChange utfJoinsSpec)) utfJoinsCard

/-- THE SECOND FORM's CARD OF 'crossdocklaw11.UtfLiterals'. -/
def utfLiteralsUptoCard : Claim7 := { stood := { row := utfLiteralsUptoRow, standIns := [], harness := (true, "9796b4025355d14c4067fe7da5c05629584ecd0c55dbe0c908f5b4380eb642df"), looks := true }, kinds := [], alts := [], laidByText := true, laidKinds := [.data, .pinned], laidTests := true, laidLooks := .later }
def UtfLiteralsUptoCardSaid : Prop := Claim7.holds Tryd.pinned (.plain (OpenSpec.upto utfLiteralsSpec)) utfLiteralsUptoCard

/-- THE SECOND FORM's CARD OF 'crossdocklaw11.UtfBack'. -/
def utfBackUptoCard : Claim7 := { stood := { row := utfBackUptoRow, standIns := [], harness := (true, "9796b4025355d14c4067fe7da5c05629584ecd0c55dbe0c908f5b4380eb642df"), looks := true }, kinds := [], alts := [], laidByText := true, laidKinds := [.data, .pinned], laidTests := true, laidLooks := .later }
def UtfBackUptoCardSaid : Prop := Claim7.holds Tryd.pinned (.plain (OpenSpec.upto utfBackSpec)) utfBackUptoCard

/-- THE SECOND FORM's CARD OF 'crossdocklaw11.UtfJoins'. -/
def utfJoinsUptoCard : Claim7 := { stood := { row := utfJoinsUptoRow, standIns := [], harness := (true, "9796b4025355d14c4067fe7da5c05629584ecd0c55dbe0c908f5b4380eb642df"), looks := true }, kinds := [], alts := [], laidByText := true, laidKinds := [.data, .pinned], laidTests := true, laidLooks := .later }
def UtfJoinsUptoCardSaid : Prop := Claim7.holds Tryd.pinned (.plain (OpenSpec.upto utfJoinsSpec)) utfJoinsUptoCard
end Rows
end Go.Proofs.YtanmkddmebhdpaaDoor
