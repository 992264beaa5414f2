/-
  DERIVED. GIVEN WITH THE SEED: THE CARDS: each row of YtbklcelnnmhgkaaDoorRows.lean that lists a variable, with what it lists TIED to the program's text (the seventh form; the later family's looks); each row that meets fmt, with fmt's text TOLD by the authors' own Lean function (tested against real Go, not proved from fmt's source: count such statements apart). THE CARD IS WHAT COUNTS. Prove the row's statement (the work); the ties are given (YtbklcelnnmhgkaaDoorTie.lean); close each card by the builder's one call (the guide's Derived/Test/ToyasCard.lean, 'card_holds'). Laid BY PROGRAM, IN A SANDBOX (cutbox-door.mjs). By AI agents, Wed Nov 11 2026. No macro, syntax, notation, axiom, sorry.
-/
import Derived.Test.YtbklcelnnmhgkaaDoorRows
import GoSem.ClaimSeven
namespace Go.Proofs.YtbklcelnnmhgkaaDoor
namespace Rows

/-- THE TIED CARD OF 'crossdocklaw05.DigestTells'. -/
def digestTellsCard : Claim7 := { stood := { row := digestTellsRow, standIns := [], harness := (true, "a413b187cd136830482edae3fc3cef3ea0d679e6cedf23948e432dcec90080fc"), looks := true }, kinds := [], alts := [], laidByText := true, laidKinds := [.data, .data], laidTests := true, laidLooks := .later }
def DigestTellsCardSaid : Prop := Claim7.holds Tryd.pinned (.plain (OpenSpec.ofChange digestTellsSpec)) digestTellsCard

/-- THE TIED CARD OF 'crossdocklaw05.DigestTakes'. -/
def digestTakesCard : Claim7 := { stood := { row := digestTakesRow, standIns := [], harness := (true, "a413b187cd136830482edae3fc3cef3ea0d679e6cedf23948e432dcec90080fc"), looks := true }, kinds := [], alts := [], laidByText := true, laidKinds := [.data, .data], laidTests := true, laidLooks := .later }
def DigestTakesCardSaid : Prop := Claim7.holds Tryd.pinned (.plain (OpenSpec.ofChange digestTakesSpec)) digestTakesCard

/-- THE TIED CARD OF 'crossdocklaw05.DigestVerifies'. -/
def digestVerifiesCard : Claim7 := { stood := { row := digestVerifiesRow, standIns := [], harness := (true, "a413b187cd136830482edae3fc3cef3ea0d679e6cedf23948e432dcec90080fc"), looks := true }, kinds := [], alts := [], laidByText := true, laidKinds := [.data, .data], laidTests := true, laidLooks := .later }
def DigestVerifiesCardSaid : Prop := Claim7.holds Tryd.pinned (.plain (OpenSpec.ofChange digestVerifiesSpec)) digestVerifiesCard

/-- THE TIED CARD OF 'crossdocklaw05.DigestChains'. -/
def digestChainsCard : Claim7 := { stood := { row := digestChainsRow, standIns := [], harness := (true, "a413b187cd136830482edae3fc3cef3ea0d679e6cedf23948e432dcec90080fc"), looks := true }, kinds := [], alts := [], laidByText := true, laidKinds := [.data, .data], laidTests := true, laidLooks := .later }
def DigestChainsCardSaid : Prop := Claim7.holds Tryd.pinned (.plain (OpenSpec.ofChange digestChainsSpec)) digestChainsCard

/-- THE SECOND FORM's CARD OF 'crossdocklaw05.DigestTells'. -/
def digestTellsUptoCard : Claim7 := { stood := { row := digestTellsUptoRow, standIns := [], harness := (true, "a413b187cd136830482edae3fc3cef3ea0d679e6cedf23948e432dcec90080fc"), looks := true }, kinds := [], alts := [], laidByText := true, laidKinds := [.data, .data], laidTests := true, laidLooks := .later }
def DigestTellsUptoCardSaid : Prop := Claim7.holds Tryd.pinned (.plain (OpenSpec.upto digestTellsSpec)) digestTellsUptoCard

/-- THE SECOND FORM's CARD OF 'crossdocklaw05.DigestTakes'. -/
def digestTakesUptoCard : Claim7 := { stood := { row := digestTakesUptoRow, standIns := [], harness := (true, "a413b187cd136830482edae3fc3cef3ea0d679e6cedf23948e432dcec90080fc"), looks := true }, kinds := [], alts := [], laidByText := true, laidKinds := [.data, .data], laidTests := true, laidLooks := .later }
def DigestTakesUptoCardSaid : Prop := Claim7.holds Tryd.pinned (.plain (OpenSpec.upto digestTakesSpec)) digestTakesUptoCard

/-- THE SECOND FORM's CARD OF 'crossdocklaw05.DigestVerifies'. -/
def digestVerifiesUptoCard : Claim7 := { stood := { row := digestVerifiesUptoRow, standIns := [], harness := (true, "a413b187cd136830482edae3fc3cef3ea0d679e6cedf23948e432dcec90080fc"), looks := true }, kinds := [], alts := [], laidByText := true, laidKinds := [.data, .data], laidTests := true, laidLooks := .later }
def DigestVerifiesUptoCardSaid : Prop := Claim7.holds Tryd.pinned (.plain (OpenSpec.upto digestVerifiesSpec)) digestVerifiesUptoCard

/-- THE SECOND FORM's CARD OF 'crossdocklaw05.DigestChains'. -/
def digestChainsUptoCard : Claim7 := { stood := { row := digestChainsUptoRow, standIns := [], harness := (true, "a413b187cd136830482edae3fc3cef3ea0d679e6cedf23948e432dcec90080fc"), looks := true }, kinds := [], alts := [], laidByText := true, laidKinds := [.data, .data], laidTests := true, laidLooks := .later }
def DigestChainsUptoCardSaid : Prop := Claim7.holds Tryd.pinned (.plain (OpenSpec.upto digestChainsSpec)) digestChainsUptoCard
end Rows
end Go.Proofs.YtbklcelnnmhgkaaDoor
