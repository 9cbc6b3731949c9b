/-
  No cell of these rows narrows 'for every input' (looked for: loops, veiled, ifaces, maps, wideKeys, modest, calm, conditions, laid).
  DERIVED. THE GIVEN ROWS OF THIS SEAT. 5 by the template 'for every input the law returns true; each argument reads behind the call as it read before'; 0 by the template 'total and deterministic' (their statements: YtjhididlcdepdaaGreatTotals.lean).
  GIVEN WITH THE SEED: the statements are not yours to turn. If you find one false, say at which input.
  Laid BY PROGRAM, IN A SANDBOX (cutbox-rows.mjs): the forced cells as the released guide's own fill.sh prints them over the translation adf3afe1eb4d8c0a… (all of the seat's roots in one cut). By AI agents, Wed Nov 11 2026. No macro, syntax, notation, axiom, sorry.
-/
import Derived.Test.YtjhididlcdepdaaGreatChecked
import GoSem.Claim
import GoSem.ClaimJoined
import GoSem.ClaimMapViews
import Derived.JoinedTies
import Derived.KernelRfl
namespace Go.Proofs.YtjhididlcdepdaaGreat
/- THE CELL 'sum', in the pinned program and in every row, IS THE sha256 OF THE DUMP (.gsa) THAT YtjhididlcdepdaaGreatProg.lean LOADS. Nothing in Lean hashes anything: it is a label: what it is worth is what the hold of that sum in a sandbox is worth. -/
noncomputable def Tryz.pinned : Pinned := { name := "ytjhididlcdepdaagreat", sum := "adf3afe1eb4d8c0a485956c99891f2e73abb76dfd33fbb95158703b00738e786", checked := Tryz.checked }
namespace Rows
def none {H : Type} : Left H := { results := [], args := [] }

/-- 'conclavelaw18.RegainRecovers': WHATEVER THE INPUT: true; the input reads as it did. -/
def regainRecoversSpec : ChangeSpec := { name := "regainRecovers", fn := fun _ => fun
  | [d1, d2, d3] => { results := [.lit (.bool true)], args := [d1, d2, d3] }
  | _ => none }
def regainRecoversRow : OpenClaim := { program := "ytjhididlcdepdaagreat", sum := "adf3afe1eb4d8c0a485956c99891f2e73abb76dfd33fbb95158703b00738e786", func := "conclave/conclavelaw18.RegainRecovers", spec := "regainRecovers", inPlace := ["math/bits.Sub64", "math/bits.Add64"], unfollowed := true, recurses := true, named := ["math/bits.divideError", "math/bits.overflowError"], apart := false }
def RegainRecoversSaid : Prop := regainRecoversRow.holds Tryz.pinned (OpenSpec.ofChange regainRecoversSpec)

/-- ITS FALSE NEIGHBOUR: 'it returns false'. Refute it at one input. -/
def regainRecoversWrong : ChangeSpec := { name := "regainRecovers", fn := fun _ => fun
  | [d1, d2, d3] => { results := [.lit (.bool false)], args := [d1, d2, d3] }
  | _ => none }
def RegainRecoversWrongFalsely : Prop := regainRecoversRow.holds Tryz.pinned (OpenSpec.ofChange regainRecoversWrong)

/-- 'conclavelaw18.RegainChecks': WHATEVER THE INPUT: true; the input reads as it did. -/
def regainChecksSpec : ChangeSpec := { name := "regainChecks", fn := fun _ => fun
  | [d1, d2, d3] => { results := [.lit (.bool true)], args := [d1, d2, d3] }
  | _ => none }
def regainChecksRow : OpenClaim := { program := "ytjhididlcdepdaagreat", sum := "adf3afe1eb4d8c0a485956c99891f2e73abb76dfd33fbb95158703b00738e786", func := "conclave/conclavelaw18.RegainChecks", spec := "regainChecks", inPlace := ["math/bits.Sub64", "math/bits.Add64"], unfollowed := true, recurses := true, named := ["math/bits.divideError", "math/bits.overflowError"], apart := false }
def RegainChecksSaid : Prop := regainChecksRow.holds Tryz.pinned (OpenSpec.ofChange regainChecksSpec)

/-- ITS FALSE NEIGHBOUR: 'it returns false'. Refute it at one input. -/
def regainChecksWrong : ChangeSpec := { name := "regainChecks", fn := fun _ => fun
  | [d1, d2, d3] => { results := [.lit (.bool false)], args := [d1, d2, d3] }
  | _ => none }
def RegainChecksWrongFalsely : Prop := regainChecksRow.holds Tryz.pinned (OpenSpec.ofChange regainChecksWrong)

/-- 'conclavelaw18.RegainTells': WHATEVER THE INPUT: true; the input reads as it did. -/
def regainTellsSpec : ChangeSpec := { name := "regainTells", fn := fun _ => fun
  | [d1, d2, d3] => { results := [.lit (.bool true)], args := [d1, d2, d3] }
  | _ => none }
def regainTellsRow : OpenClaim := { program := "ytjhididlcdepdaagreat", sum := "adf3afe1eb4d8c0a485956c99891f2e73abb76dfd33fbb95158703b00738e786", func := "conclave/conclavelaw18.RegainTells", spec := "regainTells", inPlace := ["math/bits.Sub64", "math/bits.Add64"], unfollowed := true, recurses := true, named := ["math/bits.divideError", "math/bits.overflowError"], apart := false }
def RegainTellsSaid : Prop := regainTellsRow.holds Tryz.pinned (OpenSpec.ofChange regainTellsSpec)

/-- ITS FALSE NEIGHBOUR: 'it returns false'. Refute it at one input. -/
def regainTellsWrong : ChangeSpec := { name := "regainTells", fn := fun _ => fun
  | [d1, d2, d3] => { results := [.lit (.bool false)], args := [d1, d2, d3] }
  | _ => none }
def RegainTellsWrongFalsely : Prop := regainTellsRow.holds Tryz.pinned (OpenSpec.ofChange regainTellsWrong)

/-- 'conclavelaw18.RegainTurns': WHATEVER THE INPUT: true; the input reads as it did. -/
def regainTurnsSpec : ChangeSpec := { name := "regainTurns", fn := fun _ => fun
  | [d1, d2, d3] => { results := [.lit (.bool true)], args := [d1, d2, d3] }
  | _ => none }
def regainTurnsRow : OpenClaim := { program := "ytjhididlcdepdaagreat", sum := "adf3afe1eb4d8c0a485956c99891f2e73abb76dfd33fbb95158703b00738e786", func := "conclave/conclavelaw18.RegainTurns", spec := "regainTurns", inPlace := ["math/bits.Sub64", "math/bits.Add64"], unfollowed := true, recurses := true, named := ["math/bits.divideError", "math/bits.overflowError"], apart := false }
def RegainTurnsSaid : Prop := regainTurnsRow.holds Tryz.pinned (OpenSpec.ofChange regainTurnsSpec)

/-- ITS FALSE NEIGHBOUR: 'it returns false'. Refute it at one input. -/
def regainTurnsWrong : ChangeSpec := { name := "regainTurns", fn := fun _ => fun
  | [d1, d2, d3] => { results := [.lit (.bool false)], args := [d1, d2, d3] }
  | _ => none }
def RegainTurnsWrongFalsely : Prop := regainTurnsRow.holds Tryz.pinned (OpenSpec.ofChange regainTurnsWrong)

/-- 'conclavelaw18.RegainFresh': WHATEVER THE INPUT: true; the input reads as it did. -/
def regainFreshSpec : ChangeSpec := { name := "regainFresh", fn := fun _ => fun
  | [d1, d2, d3] => { results := [.lit (.bool true)], args := [d1, d2, d3] }
  | _ => none }
def regainFreshRow : OpenClaim := { program := "ytjhididlcdepdaagreat", sum := "adf3afe1eb4d8c0a485956c99891f2e73abb76dfd33fbb95158703b00738e786", func := "conclave/conclavelaw18.RegainFresh", spec := "regainFresh", inPlace := ["math/bits.Sub64", "math/bits.Add64"], unfollowed := true, recurses := true, named := ["math/bits.divideError", "math/bits.overflowError"], apart := false }
def RegainFreshSaid : Prop := regainFreshRow.holds Tryz.pinned (OpenSpec.ofChange regainFreshSpec)

/-- ITS FALSE NEIGHBOUR: 'it returns false'. Refute it at one input. -/
def regainFreshWrong : ChangeSpec := { name := "regainFresh", fn := fun _ => fun
  | [d1, d2, d3] => { results := [.lit (.bool false)], args := [d1, d2, d3] }
  | _ => none }
def RegainFreshWrongFalsely : Prop := regainFreshRow.holds Tryz.pinned (OpenSpec.ofChange regainFreshWrong)

/- THE SECOND FORM. 'bulk': how many values and letters a reading holds, each counted each time it is reached (what is shared counts as often as it is met; a slice's spare places count too). A statement '..UptoSaid' is the law's where the arguments, and the package variables that the reading takes, are together of bulk at most 1048576: NARROWER than '..Said'. Prove '..Said' where nothing that the law and all that it calls make is longer than what came in: it says more and counts as full. Else prove '..UptoSaid'. A law counts once. -/
mutual
def uptoBulk {H : Type} : DataW H → Nat
  | .lit (.string bytes) => bytes.length + 1
  | .lit _ => 1
  | .nil => 1
  | .ptr d => uptoBulk d + 1
  | .slice elems spare => uptoBulkAll elems + uptoBulkAll spare + 1
  | .agg parts => uptoBulkAll parts + 1
  | .iface _ d => uptoBulk d + 1
  | .map entries => uptoBulkEntries entries + 1
  | .held _ => 1
def uptoBulkAll {H : Type} : List (DataW H) → Nat
  | [] => 0
  | d :: r => uptoBulk d + uptoBulkAll r
def uptoBulkEntries {H : Type} : List (Lit × DataW H) → Nat
  | [] => 0
  | x :: r => uptoBulkEntry x + uptoBulkEntries r
def uptoBulkEntry {H : Type} : Lit × DataW H → Nat
  | (.string bytes, d) => bytes.length + uptoBulk d + 1
  | (_, d) => uptoBulk d + 1
 end
def uptoSmall : (H : Type) → List (DataW H) → Bool := fun _ ds => decide (uptoBulkAll ds ≤ 1048576)
def OpenSpec.upto (s : _root_.Go.ChangeSpec) : _root_.Go.OpenSpec := { _root_.Go.OpenSpec.ofChange s with cond := some uptoSmall }

/-- 'conclavelaw18.RegainRecovers', WHERE WHAT IT READS IS OF BULK AT MOST 1048576: true; the input reads as it did. -/
def regainRecoversUptoRow : OpenClaim := { program := "ytjhididlcdepdaagreat", sum := "adf3afe1eb4d8c0a485956c99891f2e73abb76dfd33fbb95158703b00738e786", func := "conclave/conclavelaw18.RegainRecovers", spec := "regainRecovers", inPlace := ["math/bits.Sub64", "math/bits.Add64"], unfollowed := true, recurses := true, named := ["math/bits.divideError", "math/bits.overflowError"], apart := false, narrowed := true }
def RegainRecoversUptoSaid : Prop := regainRecoversUptoRow.holds Tryz.pinned (OpenSpec.upto regainRecoversSpec)

/-- 'conclavelaw18.RegainChecks', WHERE WHAT IT READS IS OF BULK AT MOST 1048576: true; the input reads as it did. -/
def regainChecksUptoRow : OpenClaim := { program := "ytjhididlcdepdaagreat", sum := "adf3afe1eb4d8c0a485956c99891f2e73abb76dfd33fbb95158703b00738e786", func := "conclave/conclavelaw18.RegainChecks", spec := "regainChecks", inPlace := ["math/bits.Sub64", "math/bits.Add64"], unfollowed := true, recurses := true, named := ["math/bits.divideError", "math/bits.overflowError"], apart := false, narrowed := true }
def RegainChecksUptoSaid : Prop := regainChecksUptoRow.holds Tryz.pinned (OpenSpec.upto regainChecksSpec)

/-- 'conclavelaw18.RegainTells', WHERE WHAT IT READS IS OF BULK AT MOST 1048576: true; the input reads as it did. -/
def regainTellsUptoRow : OpenClaim := { program := "ytjhididlcdepdaagreat", sum := "adf3afe1eb4d8c0a485956c99891f2e73abb76dfd33fbb95158703b00738e786", func := "conclave/conclavelaw18.RegainTells", spec := "regainTells", inPlace := ["math/bits.Sub64", "math/bits.Add64"], unfollowed := true, recurses := true, named := ["math/bits.divideError", "math/bits.overflowError"], apart := false, narrowed := true }
def RegainTellsUptoSaid : Prop := regainTellsUptoRow.holds Tryz.pinned (OpenSpec.upto regainTellsSpec)

/-- 'conclavelaw18.RegainTurns', WHERE WHAT IT READS IS OF BULK AT MOST 1048576: true; the input reads as it did. -/
def regainTurnsUptoRow : OpenClaim := { program := "ytjhididlcdepdaagreat", sum := "adf3afe1eb4d8c0a485956c99891f2e73abb76dfd33fbb95158703b00738e786", func := "conclave/conclavelaw18.RegainTurns", spec := "regainTurns", inPlace := ["math/bits.Sub64", "math/bits.Add64"], unfollowed := true, recurses := true, named := ["math/bits.divideError", "math/bits.overflowError"], apart := false, narrowed := true }
def RegainTurnsUptoSaid : Prop := regainTurnsUptoRow.holds Tryz.pinned (OpenSpec.upto regainTurnsSpec)

/-- 'conclavelaw18.RegainFresh', WHERE WHAT IT READS IS OF BULK AT MOST 1048576: true; the input reads as it did. -/
def regainFreshUptoRow : OpenClaim := { program := "ytjhididlcdepdaagreat", sum := "adf3afe1eb4d8c0a485956c99891f2e73abb76dfd33fbb95158703b00738e786", func := "conclave/conclavelaw18.RegainFresh", spec := "regainFresh", inPlace := ["math/bits.Sub64", "math/bits.Add64"], unfollowed := true, recurses := true, named := ["math/bits.divideError", "math/bits.overflowError"], apart := false, narrowed := true }
def RegainFreshUptoSaid : Prop := regainFreshUptoRow.holds Tryz.pinned (OpenSpec.upto regainFreshSpec)

end Rows
end Go.Proofs.YtjhididlcdepdaaGreat
