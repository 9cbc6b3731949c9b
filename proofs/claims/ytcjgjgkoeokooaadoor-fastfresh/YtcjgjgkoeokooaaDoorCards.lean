/-
  DERIVED. GIVEN WITH THE SEED: THE CARDS: each row of YtcjgjgkoeokooaaDoorRows.lean that lists a variable, with what it lists TIED to the program's text (the seventh form; the later family's looks); each row that meets fmt, with fmt's text TOLD by the authors' own Lean function (tested against real Go, not proved from fmt's source: count such statements apart). THE CARD IS WHAT COUNTS. Prove the row's statement (the work); the ties are given (YtcjgjgkoeokooaaDoorTie.lean); close each card by the builder's one call (the guide's Derived/Test/ToyasCard.lean, 'card_holds'). Laid BY PROGRAM, IN A SANDBOX (cutbox-door.mjs). By AI agents, Wed Nov 11 2026. No macro, syntax, notation, axiom, sorry.
-/
import Derived.Test.YtcjgjgkoeokooaaDoorRows
import GoSem.ClaimSeven
namespace Go.Proofs.YtcjgjgkoeokooaaDoor
namespace Rows

/-- THE TIED CARD OF 'conclavelaw04.FastMuls'. -/
def fastMulsCard : Claim7 := { stood := { row := fastMulsRow, standIns := [], harness := (true, "7b6faa0e1fa243f1e964513797782feac3ff542520dea5336c2a9554ffb93552"), looks := false }, kinds := [], alts := [], laidByText := true, laidKinds := [.data, .data], laidTests := true, laidLooks := .later }
def FastMulsCardSaid : Prop := Claim7.holds Tryd.pinned (.plain (OpenSpec.ofChange fastMulsSpec)) fastMulsCard

/-- THE TIED CARD OF 'conclavelaw04.FastTransforms'. -/
def fastTransformsCard : Claim7 := { stood := { row := fastTransformsRow, standIns := [], harness := (true, "7b6faa0e1fa243f1e964513797782feac3ff542520dea5336c2a9554ffb93552"), looks := false }, kinds := [], alts := [], laidByText := true, laidKinds := [.data, .data], laidTests := true, laidLooks := .later }
def FastTransformsCardSaid : Prop := Claim7.holds Tryd.pinned (.plain (OpenSpec.ofChange fastTransformsSpec)) fastTransformsCard

/-- THE TIED CARD OF 'conclavelaw04.FastPowers'. -/
def fastPowersCard : Claim7 := { stood := { row := fastPowersRow, standIns := [], harness := (true, "7b6faa0e1fa243f1e964513797782feac3ff542520dea5336c2a9554ffb93552"), looks := false }, kinds := [], alts := [], laidByText := true, laidKinds := [.data, .data], laidTests := true, laidLooks := .later }
def FastPowersCardSaid : Prop := Claim7.holds Tryd.pinned (.plain (OpenSpec.ofChange fastPowersSpec)) fastPowersCard

/-- THE TIED CARD OF 'conclavelaw04.FastBack'. -/
def fastBackCard : Claim7 := { stood := { row := fastBackRow, standIns := [], harness := (true, "7b6faa0e1fa243f1e964513797782feac3ff542520dea5336c2a9554ffb93552"), looks := false }, kinds := [], alts := [], laidByText := true, laidKinds := [.data, .data], laidTests := true, laidLooks := .later }
def FastBackCardSaid : Prop := Claim7.holds Tryd.pinned (.plain (OpenSpec.ofChange fastBackSpec)) fastBackCard

/-- THE TIED CARD OF 'conclavelaw04.FastRounds'. -/
def fastRoundsCard : Claim7 := { stood := { row := fastRoundsRow, standIns := [], harness := (true, "7b6faa0e1fa243f1e964513797782feac3ff542520dea5336c2a9554ffb93552"), looks := false }, kinds := [], alts := [], laidByText := true, laidKinds := [.data, .data], laidTests := true, laidLooks := .later }
def FastRoundsCardSaid : Prop := Claim7.holds Tryd.pinned (.plain (OpenSpec.ofChange fastRoundsSpec)) fastRoundsCard

/-- THE TIED CARD OF 'conclavelaw04.FastFresh'. -/
def fastFreshCard : Claim7 := { stood := { row := fastFreshRow, standIns := [], harness := (true, "7b6faa0e1fa243f1e964513797782feac3ff542520dea5336c2a9554ffb93552"), looks := false }, kinds := [], alts := [], laidByText := true, laidKinds := [.data, .data], laidTests := true, laidLooks := .later }
def FastFreshCardSaid : Prop := Claim7.holds Tryd.pinned (.plain (OpenSpec.ofChange fastFreshSpec)) fastFreshCard

/-- THE SECOND FORM's CARD OF 'conclavelaw04.FastMuls'. -/
def fastMulsUptoCard : Claim7 := { stood := { row := fastMulsUptoRow, standIns := [], harness := (true, "7b6faa0e1fa243f1e964513797782feac3ff542520dea5336c2a9554ffb93552"), looks := false }, kinds := [], alts := [], laidByText := true, laidKinds := [.data, .data], laidTests := true, laidLooks := .later }
def FastMulsUptoCardSaid : Prop := Claim7.holds Tryd.pinned (.plain (OpenSpec.upto fastMulsSpec)) fastMulsUptoCard

/-- THE SECOND FORM's CARD OF 'conclavelaw04.FastTransforms'. -/
def fastTransformsUptoCard : Claim7 := { stood := { row := fastTransformsUptoRow, standIns := [], harness := (true, "7b6faa0e1fa243f1e964513797782feac3ff542520dea5336c2a9554ffb93552"), looks := false }, kinds := [], alts := [], laidByText := true, laidKinds := [.data, .data], laidTests := true, laidLooks := .later }
def FastTransformsUptoCardSaid : Prop := Claim7.holds Tryd.pinned (.plain (OpenSpec.upto fastTransformsSpec)) fastTransformsUptoCard

/-- THE SECOND FORM's CARD OF 'conclavelaw04.FastPowers'. -/
def fastPowersUptoCard : Claim7 := { stood := { row := fastPowersUptoRow, standIns := [], harness := (true, "7b6faa0e1fa243f1e964513797782feac3ff542520dea5336c2a9554ffb93552"), looks := false }, kinds := [], alts := [], laidByText := true, laidKinds := [.data, .data], laidTests := true, laidLooks := .later }
def FastPowersUptoCardSaid : Prop := Claim7.holds Tryd.pinned (.plain (OpenSpec.upto fastPowersSpec)) fastPowersUptoCard

/-- THE SECOND FORM's CARD OF 'conclavelaw04.FastBack'. -/
def fastBackUptoCard : Claim7 := { stood := { row := fastBackUptoRow, standIns := [], harness := (true, "7b6faa0e1fa243f1e964513797782feac3ff542520dea5336c2a9554ffb93552"), looks := false }, kinds := [], alts := [], laidByText := true, laidKinds := [.data, .data], laidTests := true, laidLooks := .later }
def FastBackUptoCardSaid : Prop := Claim7.holds Tryd.pinned (.plain (OpenSpec.upto fastBackSpec)) fastBackUptoCard

/-- THE SECOND FORM's CARD OF 'conclavelaw04.FastRounds'. -/
def fastRoundsUptoCard : Claim7 := { stood := { row := fastRoundsUptoRow, standIns := [], harness := (true, "7b6faa0e1fa243f1e964513797782feac3ff542520dea5336c2a9554ffb93552"), looks := false }, kinds := [], alts := [], laidByText := true, laidKinds := [.data, .data], laidTests := true, laidLooks := .later }
def FastRoundsUptoCardSaid : Prop := Claim7.holds Tryd.pinned (.plain (OpenSpec.upto fastRoundsSpec)) fastRoundsUptoCard

/-- THE SECOND FORM's CARD OF 'conclavelaw04.FastFresh'. -/
def fastFreshUptoCard : Claim7 := { stood := { row := fastFreshUptoRow, standIns := [], harness := (true, "7b6faa0e1fa243f1e964513797782feac3ff542520dea5336c2a9554ffb93552"), looks := false }, kinds := [], alts := [], laidByText := true, laidKinds := [.data, .data], laidTests := true, laidLooks := .later }
def FastFreshUptoCardSaid : Prop := Claim7.holds Tryd.pinned (.plain (OpenSpec.upto fastFreshSpec)) fastFreshUptoCard
end Rows
end Go.Proofs.YtcjgjgkoeokooaaDoor
