/-
  NARROWER THAN 'FOR EVERY INPUT', by the rows' own cells (each row's printed sentence says how): FastMuls: laid · FastTransforms: laid · FastPowers: laid · FastBack: laid · FastRounds: laid · FastFresh: laid.
  DERIVED. THE GIVEN ROWS OF THIS SEAT. 6 by the template 'for every input the law returns true; each argument reads behind the call as it read before'; 0 by the template 'total and deterministic' (their statements: YtcjgjgkoeokooaaDoorTotals.lean).
  GIVEN WITH THE SEED: the statements are not yours to turn. If you find one false, say at which input.
  Laid BY PROGRAM, IN A SANDBOX (cutbox-rows.mjs): the forced cells as the released guide's own fill.sh prints them over the translation 5c387c4263509564… (all of the seat's roots in one cut). By AI agents, Wed Nov 11 2026. No macro, syntax, notation, axiom, sorry.
-/
import Derived.Test.YtcjgjgkoeokooaaDoorChecked
import GoSem.Claim
import GoSem.ClaimJoined
import GoSem.ClaimMapViews
import Derived.JoinedTies
import Derived.KernelRfl
namespace Go.Proofs.YtcjgjgkoeokooaaDoor
/- THE CELL 'sum', in the pinned program and in every row, IS THE sha256 OF THE DUMP (.gsa) THAT YtcjgjgkoeokooaaDoorProg.lean LOADS. Nothing in Lean hashes anything: it is a label: what it is worth is what the hold of that sum in a sandbox is worth. -/
noncomputable def Tryd.pinned : Pinned := { name := "ytcjgjgkoeokooaadoor", sum := "5c387c4263509564fb8f93336983e5f123b8000e431b8f89465c2a51422ccf1c", checked := Tryd.checked }
namespace Rows
def none {H : Type} : Left H := { results := [], args := [] }

/- WHAT THE LISTED PACKAGE-LEVEL VARIABLES READ AS WHEN THE CALL BEGINS. Each datum BY PROGRAM (the guide's laid-datum.mjs) off the statement by which the dump's own 'gosem.cut.vars' lays the variable. In a bare row this is a premise. The card (YtcjgjgkoeokooaaDoorCards.lean) ties it to the program's text. -/
def laid_math_bits_deBruijn32tab {H : Type} : DataW H := .agg [.lit (.int .u8 0), .lit (.int .u8 1), .lit (.int .u8 28), .lit (.int .u8 2), .lit (.int .u8 29), .lit (.int .u8 14), .lit (.int .u8 24), .lit (.int .u8 3), .lit (.int .u8 30), .lit (.int .u8 22), .lit (.int .u8 20), .lit (.int .u8 15), .lit (.int .u8 25), .lit (.int .u8 17), .lit (.int .u8 4), .lit (.int .u8 8), .lit (.int .u8 31), .lit (.int .u8 27), .lit (.int .u8 13), .lit (.int .u8 23), .lit (.int .u8 21), .lit (.int .u8 19), .lit (.int .u8 16), .lit (.int .u8 7), .lit (.int .u8 26), .lit (.int .u8 12), .lit (.int .u8 18), .lit (.int .u8 6), .lit (.int .u8 11), .lit (.int .u8 5), .lit (.int .u8 10), .lit (.int .u8 9)]
def laid_math_bits_deBruijn64tab {H : Type} : DataW H := .agg [.lit (.int .u8 0), .lit (.int .u8 1), .lit (.int .u8 56), .lit (.int .u8 2), .lit (.int .u8 57), .lit (.int .u8 49), .lit (.int .u8 28), .lit (.int .u8 3), .lit (.int .u8 61), .lit (.int .u8 58), .lit (.int .u8 42), .lit (.int .u8 50), .lit (.int .u8 38), .lit (.int .u8 29), .lit (.int .u8 17), .lit (.int .u8 4), .lit (.int .u8 62), .lit (.int .u8 47), .lit (.int .u8 59), .lit (.int .u8 36), .lit (.int .u8 45), .lit (.int .u8 43), .lit (.int .u8 51), .lit (.int .u8 22), .lit (.int .u8 53), .lit (.int .u8 39), .lit (.int .u8 33), .lit (.int .u8 30), .lit (.int .u8 24), .lit (.int .u8 18), .lit (.int .u8 12), .lit (.int .u8 5), .lit (.int .u8 63), .lit (.int .u8 55), .lit (.int .u8 48), .lit (.int .u8 27), .lit (.int .u8 60), .lit (.int .u8 41), .lit (.int .u8 37), .lit (.int .u8 16), .lit (.int .u8 46), .lit (.int .u8 35), .lit (.int .u8 44), .lit (.int .u8 21), .lit (.int .u8 52), .lit (.int .u8 32), .lit (.int .u8 23), .lit (.int .u8 11), .lit (.int .u8 54), .lit (.int .u8 26), .lit (.int .u8 40), .lit (.int .u8 15), .lit (.int .u8 34), .lit (.int .u8 20), .lit (.int .u8 31), .lit (.int .u8 10), .lit (.int .u8 25), .lit (.int .u8 14), .lit (.int .u8 19), .lit (.int .u8 9), .lit (.int .u8 13), .lit (.int .u8 8), .lit (.int .u8 7), .lit (.int .u8 6)]

/-- 'conclavelaw04.FastMuls': WHATEVER THE INPUT: true; the input reads as it did. -/
def fastMulsSpec : ChangeSpec := { name := "fastMuls", fn := fun _ => fun
  | [d1, d2, d3] => { results := [.lit (.bool true)], args := [d1, d2, d3] }
  | _ => none }
def fastMulsRow : OpenClaim := { program := "ytcjgjgkoeokooaadoor", sum := "5c387c4263509564fb8f93336983e5f123b8000e431b8f89465c2a51422ccf1c", func := "conclave/conclavelaw04.FastMuls", spec := "fastMuls", inPlace := ["math/bits.Sub64", "math/bits.Add64"], recurses := true, named := ["math/bits.deBruijn32tab", "math/bits.deBruijn64tab"], apart := false, laid := [("math/bits.deBruijn32tab", laid_math_bits_deBruijn32tab), ("math/bits.deBruijn64tab", laid_math_bits_deBruijn64tab)] }
def FastMulsSaid : Prop := fastMulsRow.holds Tryd.pinned (OpenSpec.ofChange fastMulsSpec)

/-- ITS FALSE NEIGHBOUR: 'it returns false'. Refute it at one input. -/
def fastMulsWrong : ChangeSpec := { name := "fastMuls", fn := fun _ => fun
  | [d1, d2, d3] => { results := [.lit (.bool false)], args := [d1, d2, d3] }
  | _ => none }
def FastMulsWrongFalsely : Prop := fastMulsRow.holds Tryd.pinned (OpenSpec.ofChange fastMulsWrong)

/-- 'conclavelaw04.FastTransforms': WHATEVER THE INPUT: true; the input reads as it did. -/
def fastTransformsSpec : ChangeSpec := { name := "fastTransforms", fn := fun _ => fun
  | [d1, d2, d3] => { results := [.lit (.bool true)], args := [d1, d2, d3] }
  | _ => none }
def fastTransformsRow : OpenClaim := { program := "ytcjgjgkoeokooaadoor", sum := "5c387c4263509564fb8f93336983e5f123b8000e431b8f89465c2a51422ccf1c", func := "conclave/conclavelaw04.FastTransforms", spec := "fastTransforms", inPlace := ["math/bits.Sub64", "math/bits.Add64"], named := ["math/bits.deBruijn32tab", "math/bits.deBruijn64tab"], apart := false, laid := [("math/bits.deBruijn32tab", laid_math_bits_deBruijn32tab), ("math/bits.deBruijn64tab", laid_math_bits_deBruijn64tab)] }
def FastTransformsSaid : Prop := fastTransformsRow.holds Tryd.pinned (OpenSpec.ofChange fastTransformsSpec)

/-- ITS FALSE NEIGHBOUR: 'it returns false'. Refute it at one input. -/
def fastTransformsWrong : ChangeSpec := { name := "fastTransforms", fn := fun _ => fun
  | [d1, d2, d3] => { results := [.lit (.bool false)], args := [d1, d2, d3] }
  | _ => none }
def FastTransformsWrongFalsely : Prop := fastTransformsRow.holds Tryd.pinned (OpenSpec.ofChange fastTransformsWrong)

/-- 'conclavelaw04.FastPowers': WHATEVER THE INPUT: true; the input reads as it did. -/
def fastPowersSpec : ChangeSpec := { name := "fastPowers", fn := fun _ => fun
  | [d1, d2, d3] => { results := [.lit (.bool true)], args := [d1, d2, d3] }
  | _ => none }
def fastPowersRow : OpenClaim := { program := "ytcjgjgkoeokooaadoor", sum := "5c387c4263509564fb8f93336983e5f123b8000e431b8f89465c2a51422ccf1c", func := "conclave/conclavelaw04.FastPowers", spec := "fastPowers", inPlace := ["math/bits.Sub64", "math/bits.Add64"], recurses := true, named := ["math/bits.deBruijn32tab", "math/bits.deBruijn64tab"], apart := false, laid := [("math/bits.deBruijn32tab", laid_math_bits_deBruijn32tab), ("math/bits.deBruijn64tab", laid_math_bits_deBruijn64tab)] }
def FastPowersSaid : Prop := fastPowersRow.holds Tryd.pinned (OpenSpec.ofChange fastPowersSpec)

/-- ITS FALSE NEIGHBOUR: 'it returns false'. Refute it at one input. -/
def fastPowersWrong : ChangeSpec := { name := "fastPowers", fn := fun _ => fun
  | [d1, d2, d3] => { results := [.lit (.bool false)], args := [d1, d2, d3] }
  | _ => none }
def FastPowersWrongFalsely : Prop := fastPowersRow.holds Tryd.pinned (OpenSpec.ofChange fastPowersWrong)

/-- 'conclavelaw04.FastBack': WHATEVER THE INPUT: true; the input reads as it did. -/
def fastBackSpec : ChangeSpec := { name := "fastBack", fn := fun _ => fun
  | [d1, d2, d3] => { results := [.lit (.bool true)], args := [d1, d2, d3] }
  | _ => none }
def fastBackRow : OpenClaim := { program := "ytcjgjgkoeokooaadoor", sum := "5c387c4263509564fb8f93336983e5f123b8000e431b8f89465c2a51422ccf1c", func := "conclave/conclavelaw04.FastBack", spec := "fastBack", inPlace := ["math/bits.Sub64", "math/bits.Add64"], recurses := true, named := ["math/bits.deBruijn32tab", "math/bits.deBruijn64tab"], apart := false, laid := [("math/bits.deBruijn32tab", laid_math_bits_deBruijn32tab), ("math/bits.deBruijn64tab", laid_math_bits_deBruijn64tab)] }
def FastBackSaid : Prop := fastBackRow.holds Tryd.pinned (OpenSpec.ofChange fastBackSpec)

/-- ITS FALSE NEIGHBOUR: 'it returns false'. Refute it at one input. -/
def fastBackWrong : ChangeSpec := { name := "fastBack", fn := fun _ => fun
  | [d1, d2, d3] => { results := [.lit (.bool false)], args := [d1, d2, d3] }
  | _ => none }
def FastBackWrongFalsely : Prop := fastBackRow.holds Tryd.pinned (OpenSpec.ofChange fastBackWrong)

/-- 'conclavelaw04.FastRounds': WHATEVER THE INPUT: true; the input reads as it did. -/
def fastRoundsSpec : ChangeSpec := { name := "fastRounds", fn := fun _ => fun
  | [d1, d2, d3] => { results := [.lit (.bool true)], args := [d1, d2, d3] }
  | _ => none }
def fastRoundsRow : OpenClaim := { program := "ytcjgjgkoeokooaadoor", sum := "5c387c4263509564fb8f93336983e5f123b8000e431b8f89465c2a51422ccf1c", func := "conclave/conclavelaw04.FastRounds", spec := "fastRounds", inPlace := ["math/bits.Sub64", "math/bits.Add64"], recurses := true, named := ["math/bits.deBruijn32tab", "math/bits.deBruijn64tab"], apart := false, laid := [("math/bits.deBruijn32tab", laid_math_bits_deBruijn32tab), ("math/bits.deBruijn64tab", laid_math_bits_deBruijn64tab)] }
def FastRoundsSaid : Prop := fastRoundsRow.holds Tryd.pinned (OpenSpec.ofChange fastRoundsSpec)

/-- ITS FALSE NEIGHBOUR: 'it returns false'. Refute it at one input. -/
def fastRoundsWrong : ChangeSpec := { name := "fastRounds", fn := fun _ => fun
  | [d1, d2, d3] => { results := [.lit (.bool false)], args := [d1, d2, d3] }
  | _ => none }
def FastRoundsWrongFalsely : Prop := fastRoundsRow.holds Tryd.pinned (OpenSpec.ofChange fastRoundsWrong)

/-- 'conclavelaw04.FastFresh': WHATEVER THE INPUT: true; the input reads as it did. -/
def fastFreshSpec : ChangeSpec := { name := "fastFresh", fn := fun _ => fun
  | [d1, d2, d3] => { results := [.lit (.bool true)], args := [d1, d2, d3] }
  | _ => none }
def fastFreshRow : OpenClaim := { program := "ytcjgjgkoeokooaadoor", sum := "5c387c4263509564fb8f93336983e5f123b8000e431b8f89465c2a51422ccf1c", func := "conclave/conclavelaw04.FastFresh", spec := "fastFresh", inPlace := ["math/bits.Sub64", "math/bits.Add64"], recurses := true, named := ["math/bits.deBruijn32tab", "math/bits.deBruijn64tab"], apart := false, laid := [("math/bits.deBruijn32tab", laid_math_bits_deBruijn32tab), ("math/bits.deBruijn64tab", laid_math_bits_deBruijn64tab)] }
def FastFreshSaid : Prop := fastFreshRow.holds Tryd.pinned (OpenSpec.ofChange fastFreshSpec)

/-- ITS FALSE NEIGHBOUR: 'it returns false'. Refute it at one input. -/
def fastFreshWrong : ChangeSpec := { name := "fastFresh", fn := fun _ => fun
  | [d1, d2, d3] => { results := [.lit (.bool false)], args := [d1, d2, d3] }
  | _ => none }
def FastFreshWrongFalsely : Prop := fastFreshRow.holds Tryd.pinned (OpenSpec.ofChange fastFreshWrong)

/- THE SECOND FORM. 'bulk': how many values and letters a reading holds, each counted each time it is reached (what is shared counts as often as it is met; a slice's spare places count too). A statement '..UptoSaid' is the law's where the arguments, and the package variables that the reading takes, are together of bulk at most 1048576: NARROWER than '..Said'. Prove '..Said' where nothing that the law and all that it calls make is longer than what came in: it says more and counts as full. Else prove '..UptoSaid'. A law counts once. -/
mutual
def uptoBulk {H : Type} : DataW H → Nat
  | .lit (.string bytes) => bytes.length + 1
  | .lit _ => 1
  | .nil => 1
  | .ptr d => uptoBulk d + 1
  | .slice elems spare => uptoBulkAll elems + uptoBulkAll spare + 1
  | .agg parts => uptoBulkAll parts + 1
  | .iface _ d => uptoBulk d + 1
  | .map entries => uptoBulkEntries entries + 1
  | .held _ => 1
def uptoBulkAll {H : Type} : List (DataW H) → Nat
  | [] => 0
  | d :: r => uptoBulk d + uptoBulkAll r
def uptoBulkEntries {H : Type} : List (Lit × DataW H) → Nat
  | [] => 0
  | x :: r => uptoBulkEntry x + uptoBulkEntries r
def uptoBulkEntry {H : Type} : Lit × DataW H → Nat
  | (.string bytes, d) => bytes.length + uptoBulk d + 1
  | (_, d) => uptoBulk d + 1
 end
def uptoSmall : (H : Type) → List (DataW H) → Bool := fun _ ds => decide (uptoBulkAll ds ≤ 1048576)
def OpenSpec.upto (s : _root_.Go.ChangeSpec) : _root_.Go.OpenSpec := { _root_.Go.OpenSpec.ofChange s with cond := some uptoSmall }

/-- 'conclavelaw04.FastMuls', WHERE WHAT IT READS IS OF BULK AT MOST 1048576: true; the input reads as it did. -/
def fastMulsUptoRow : OpenClaim := { program := "ytcjgjgkoeokooaadoor", sum := "5c387c4263509564fb8f93336983e5f123b8000e431b8f89465c2a51422ccf1c", func := "conclave/conclavelaw04.FastMuls", spec := "fastMuls", inPlace := ["math/bits.Sub64", "math/bits.Add64"], recurses := true, named := ["math/bits.deBruijn32tab", "math/bits.deBruijn64tab"], apart := false, laid := [("math/bits.deBruijn32tab", laid_math_bits_deBruijn32tab), ("math/bits.deBruijn64tab", laid_math_bits_deBruijn64tab)], narrowed := true }
def FastMulsUptoSaid : Prop := fastMulsUptoRow.holds Tryd.pinned (OpenSpec.upto fastMulsSpec)

/-- 'conclavelaw04.FastTransforms', WHERE WHAT IT READS IS OF BULK AT MOST 1048576: true; the input reads as it did. -/
def fastTransformsUptoRow : OpenClaim := { program := "ytcjgjgkoeokooaadoor", sum := "5c387c4263509564fb8f93336983e5f123b8000e431b8f89465c2a51422ccf1c", func := "conclave/conclavelaw04.FastTransforms", spec := "fastTransforms", inPlace := ["math/bits.Sub64", "math/bits.Add64"], named := ["math/bits.deBruijn32tab", "math/bits.deBruijn64tab"], apart := false, laid := [("math/bits.deBruijn32tab", laid_math_bits_deBruijn32tab), ("math/bits.deBruijn64tab", laid_math_bits_deBruijn64tab)], narrowed := true }
def FastTransformsUptoSaid : Prop := fastTransformsUptoRow.holds Tryd.pinned (OpenSpec.upto fastTransformsSpec)

/-- 'conclavelaw04.FastPowers', WHERE WHAT IT READS IS OF BULK AT MOST 1048576: true; the input reads as it did. -/
def fastPowersUptoRow : OpenClaim := { program := "ytcjgjgkoeokooaadoor", sum := "5c387c4263509564fb8f93336983e5f123b8000e431b8f89465c2a51422ccf1c", func := "conclave/conclavelaw04.FastPowers", spec := "fastPowers", inPlace := ["math/bits.Sub64", "math/bits.Add64"], recurses := true, named := ["math/bits.deBruijn32tab", "math/bits.deBruijn64tab"], apart := false, laid := [("math/bits.deBruijn32tab", laid_math_bits_deBruijn32tab), ("math/bits.deBruijn64tab", laid_math_bits_deBruijn64tab)], narrowed := true }
def FastPowersUptoSaid : Prop := fastPowersUptoRow.holds Tryd.pinned (OpenSpec.upto fastPowersSpec)

/-- 'conclavelaw04.FastBack', WHERE WHAT IT READS IS OF BULK AT MOST 1048576: true; the input reads as it did. -/
def fastBackUptoRow : OpenClaim := { program := "ytcjgjgkoeokooaadoor", sum := "5c387c4263509564fb8f93336983e5f123b8000e431b8f89465c2a51422ccf1c", func := "conclave/conclavelaw04.FastBack", spec := "fastBack", inPlace := ["math/bits.Sub64", "math/bits.Add64"], recurses := true, named := ["math/bits.deBruijn32tab", "math/bits.deBruijn64tab"], apart := false, laid := [("math/bits.deBruijn32tab", laid_math_bits_deBruijn32tab), ("math/bits.deBruijn64tab", laid_math_bits_deBruijn64tab)], narrowed := true }
def FastBackUptoSaid : Prop := fastBackUptoRow.holds Tryd.pinned (OpenSpec.upto fastBackSpec)

/-- 'conclavelaw04.FastRounds', WHERE WHAT IT READS IS OF BULK AT MOST 1048576: true; the input reads as it did. -/
def fastRoundsUptoRow : OpenClaim := { program := "ytcjgjgkoeokooaadoor", sum := "5c387c4263509564fb8f93336983e5f123b8000e431b8f89465c2a51422ccf1c", func := "conclave/conclavelaw04.FastRounds", spec := "fastRounds", inPlace := ["math/bits.Sub64", "math/bits.Add64"], recurses := true, named := ["math/bits.deBruijn32tab", "math/bits.deBruijn64tab"], apart := false, laid := [("math/bits.deBruijn32tab", laid_math_bits_deBruijn32tab), ("math/bits.deBruijn64tab", laid_math_bits_deBruijn64tab)], narrowed := true }
def FastRoundsUptoSaid : Prop := fastRoundsUptoRow.holds Tryd.pinned (OpenSpec.upto fastRoundsSpec)

/-- 'conclavelaw04.FastFresh', WHERE WHAT IT READS IS OF BULK AT MOST 1048576: true; the input reads as it did. -/
def fastFreshUptoRow : OpenClaim := { program := "ytcjgjgkoeokooaadoor", sum := "5c387c4263509564fb8f93336983e5f123b8000e431b8f89465c2a51422ccf1c", func := "conclave/conclavelaw04.FastFresh", spec := "fastFresh", inPlace := ["math/bits.Sub64", "math/bits.Add64"], recurses := true, named := ["math/bits.deBruijn32tab", "math/bits.deBruijn64tab"], apart := false, laid := [("math/bits.deBruijn32tab", laid_math_bits_deBruijn32tab), ("math/bits.deBruijn64tab", laid_math_bits_deBruijn64tab)], narrowed := true }
def FastFreshUptoSaid : Prop := fastFreshUptoRow.holds Tryd.pinned (OpenSpec.upto fastFreshSpec)

end Rows
end Go.Proofs.YtcjgjgkoeokooaaDoor
