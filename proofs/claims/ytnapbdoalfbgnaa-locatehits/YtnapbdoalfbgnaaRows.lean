/-
  No cell of these rows narrows 'for every input' (looked for: loops, veiled, ifaces, maps, wideKeys, modest, calm, conditions, laid).
  DERIVED. THE GIVEN ROWS OF THIS SEAT. 4 by the template 'for every input the law returns true; each argument reads behind the call as it read before'; 0 by the template 'total and deterministic' (their statements: YtnapbdoalfbgnaaTotals.lean).
  GIVEN WITH THE SEED: the statements are not yours to turn. If you find one false, say at which input.
  Laid BY PROGRAM, IN A SANDBOX (cutbox-rows.mjs): the forced cells as the released guide's own fill.sh prints them over the translation 85916fc3b890f820… (all of the seat's roots in one cut). By AI agents, Wed Nov 11 2026. No macro, syntax, notation, axiom, sorry.
-/
import Derived.Test.YtnapbdoalfbgnaaChecked
import GoSem.Claim
import GoSem.ClaimJoined
import GoSem.ClaimMapViews
import Derived.JoinedTies
import Derived.KernelRfl
namespace Go.Proofs.Ytnapbdoalfbgnaa
/- THE CELL 'sum', in the pinned program and in every row, IS THE sha256 OF THE DUMP (.gsa) THAT YtnapbdoalfbgnaaProg.lean LOADS. Nothing in Lean hashes anything: it is a label: what it is worth is what the hold of that sum in a sandbox is worth. -/
noncomputable def Try.pinned : Pinned := { name := "ytnapbdoalfbgnaa", sum := "85916fc3b890f820700a511182e1f80fdcf64097b1fdb6b38b34a53a20fb250a", checked := Try.checked }
namespace Rows
def none {H : Type} : Left H := { results := [], args := [] }

/-- 'conclavelaw17.LocateDecodes': WHATEVER THE INPUT: true; the input reads as it did. -/
def locateDecodesSpec : ChangeSpec := { name := "locateDecodes", fn := fun _ => fun
  | [d1, d2] => { results := [.lit (.bool true)], args := [d1, d2] }
  | _ => none }
def locateDecodesRow : OpenClaim := { program := "ytnapbdoalfbgnaa", sum := "85916fc3b890f820700a511182e1f80fdcf64097b1fdb6b38b34a53a20fb250a", func := "conclave/conclavelaw17.LocateDecodes", spec := "locateDecodes", inPlace := ["math/bits.Sub64", "math/bits.Add64"], unfollowed := true, recurses := true, apart := false }
def LocateDecodesSaid : Prop := locateDecodesRow.holds Try.pinned (OpenSpec.ofChange locateDecodesSpec)

/-- ITS FALSE NEIGHBOUR: 'it returns false'. Refute it at one input. -/
def locateDecodesWrong : ChangeSpec := { name := "locateDecodes", fn := fun _ => fun
  | [d1, d2] => { results := [.lit (.bool false)], args := [d1, d2] }
  | _ => none }
def LocateDecodesWrongFalsely : Prop := locateDecodesRow.holds Try.pinned (OpenSpec.ofChange locateDecodesWrong)

/-- 'conclavelaw17.LocateHits': WHATEVER THE INPUT: true; the input reads as it did. -/
def locateHitsSpec : ChangeSpec := { name := "locateHits", fn := fun _ => fun
  | [d1, d2, d3] => { results := [.lit (.bool true)], args := [d1, d2, d3] }
  | _ => none }
def locateHitsRow : OpenClaim := { program := "ytnapbdoalfbgnaa", sum := "85916fc3b890f820700a511182e1f80fdcf64097b1fdb6b38b34a53a20fb250a", func := "conclave/conclavelaw17.LocateHits", spec := "locateHits", inPlace := ["math/bits.Sub64", "math/bits.Add64"], unfollowed := true, recurses := true, apart := false }
def LocateHitsSaid : Prop := locateHitsRow.holds Try.pinned (OpenSpec.ofChange locateHitsSpec)

/-- ITS FALSE NEIGHBOUR: 'it returns false'. Refute it at one input. -/
def locateHitsWrong : ChangeSpec := { name := "locateHits", fn := fun _ => fun
  | [d1, d2, d3] => { results := [.lit (.bool false)], args := [d1, d2, d3] }
  | _ => none }
def LocateHitsWrongFalsely : Prop := locateHitsRow.holds Try.pinned (OpenSpec.ofChange locateHitsWrong)

/-- 'conclavelaw17.LocateOne': WHATEVER THE INPUT: true; the input reads as it did. -/
def locateOneSpec : ChangeSpec := { name := "locateOne", fn := fun _ => fun
  | [d1, d2] => { results := [.lit (.bool true)], args := [d1, d2] }
  | _ => none }
def locateOneRow : OpenClaim := { program := "ytnapbdoalfbgnaa", sum := "85916fc3b890f820700a511182e1f80fdcf64097b1fdb6b38b34a53a20fb250a", func := "conclave/conclavelaw17.LocateOne", spec := "locateOne", inPlace := ["math/bits.Sub64", "math/bits.Add64"], unfollowed := true, recurses := true, apart := false }
def LocateOneSaid : Prop := locateOneRow.holds Try.pinned (OpenSpec.ofChange locateOneSpec)

/-- ITS FALSE NEIGHBOUR: 'it returns false'. Refute it at one input. -/
def locateOneWrong : ChangeSpec := { name := "locateOne", fn := fun _ => fun
  | [d1, d2] => { results := [.lit (.bool false)], args := [d1, d2] }
  | _ => none }
def LocateOneWrongFalsely : Prop := locateOneRow.holds Try.pinned (OpenSpec.ofChange locateOneWrong)

/-- 'conclavelaw17.LocateFewer': WHATEVER THE INPUT: true; the input reads as it did. -/
def locateFewerSpec : ChangeSpec := { name := "locateFewer", fn := fun _ => fun
  | [d1, d2, d3] => { results := [.lit (.bool true)], args := [d1, d2, d3] }
  | _ => none }
def locateFewerRow : OpenClaim := { program := "ytnapbdoalfbgnaa", sum := "85916fc3b890f820700a511182e1f80fdcf64097b1fdb6b38b34a53a20fb250a", func := "conclave/conclavelaw17.LocateFewer", spec := "locateFewer", inPlace := ["math/bits.Sub64", "math/bits.Add64"], unfollowed := true, recurses := true, apart := false }
def LocateFewerSaid : Prop := locateFewerRow.holds Try.pinned (OpenSpec.ofChange locateFewerSpec)

/-- ITS FALSE NEIGHBOUR: 'it returns false'. Refute it at one input. -/
def locateFewerWrong : ChangeSpec := { name := "locateFewer", fn := fun _ => fun
  | [d1, d2, d3] => { results := [.lit (.bool false)], args := [d1, d2, d3] }
  | _ => none }
def LocateFewerWrongFalsely : Prop := locateFewerRow.holds Try.pinned (OpenSpec.ofChange locateFewerWrong)

/- THE SECOND FORM. 'bulk': how many values and letters a reading holds, each counted each time it is reached (what is shared counts as often as it is met; a slice's spare places count too). A statement '..UptoSaid' is the law's where the arguments, and the package variables that the reading takes, are together of bulk at most 1048576: NARROWER than '..Said'. Prove '..Said' where nothing that the law and all that it calls make is longer than what came in: it says more and counts as full. Else prove '..UptoSaid'. A law counts once. -/
mutual
def uptoBulk {H : Type} : DataW H → Nat
  | .lit (.string bytes) => bytes.length + 1
  | .lit _ => 1
  | .nil => 1
  | .ptr d => uptoBulk d + 1
  | .slice elems spare => uptoBulkAll elems + uptoBulkAll spare + 1
  | .agg parts => uptoBulkAll parts + 1
  | .iface _ d => uptoBulk d + 1
  | .map entries => uptoBulkEntries entries + 1
  | .held _ => 1
def uptoBulkAll {H : Type} : List (DataW H) → Nat
  | [] => 0
  | d :: r => uptoBulk d + uptoBulkAll r
def uptoBulkEntries {H : Type} : List (Lit × DataW H) → Nat
  | [] => 0
  | x :: r => uptoBulkEntry x + uptoBulkEntries r
def uptoBulkEntry {H : Type} : Lit × DataW H → Nat
  | (.string bytes, d) => bytes.length + uptoBulk d + 1
  | (_, d) => uptoBulk d + 1
 end
def uptoSmall : (H : Type) → List (DataW H) → Bool := fun _ ds => decide (uptoBulkAll ds ≤ 1048576)
def OpenSpec.upto (s : _root_.Go.ChangeSpec) : _root_.Go.OpenSpec := { _root_.Go.OpenSpec.ofChange s with cond := some uptoSmall }

/-- 'conclavelaw17.LocateDecodes', WHERE WHAT IT READS IS OF BULK AT MOST 1048576: true; the input reads as it did. -/
def locateDecodesUptoRow : OpenClaim := { program := "ytnapbdoalfbgnaa", sum := "85916fc3b890f820700a511182e1f80fdcf64097b1fdb6b38b34a53a20fb250a", func := "conclave/conclavelaw17.LocateDecodes", spec := "locateDecodes", inPlace := ["math/bits.Sub64", "math/bits.Add64"], unfollowed := true, recurses := true, apart := false, narrowed := true }
def LocateDecodesUptoSaid : Prop := locateDecodesUptoRow.holds Try.pinned (OpenSpec.upto locateDecodesSpec)

/-- 'conclavelaw17.LocateHits', WHERE WHAT IT READS IS OF BULK AT MOST 1048576: true; the input reads as it did. -/
def locateHitsUptoRow : OpenClaim := { program := "ytnapbdoalfbgnaa", sum := "85916fc3b890f820700a511182e1f80fdcf64097b1fdb6b38b34a53a20fb250a", func := "conclave/conclavelaw17.LocateHits", spec := "locateHits", inPlace := ["math/bits.Sub64", "math/bits.Add64"], unfollowed := true, recurses := true, apart := false, narrowed := true }
def LocateHitsUptoSaid : Prop := locateHitsUptoRow.holds Try.pinned (OpenSpec.upto locateHitsSpec)

/-- 'conclavelaw17.LocateOne', WHERE WHAT IT READS IS OF BULK AT MOST 1048576: true; the input reads as it did. -/
def locateOneUptoRow : OpenClaim := { program := "ytnapbdoalfbgnaa", sum := "85916fc3b890f820700a511182e1f80fdcf64097b1fdb6b38b34a53a20fb250a", func := "conclave/conclavelaw17.LocateOne", spec := "locateOne", inPlace := ["math/bits.Sub64", "math/bits.Add64"], unfollowed := true, recurses := true, apart := false, narrowed := true }
def LocateOneUptoSaid : Prop := locateOneUptoRow.holds Try.pinned (OpenSpec.upto locateOneSpec)

/-- 'conclavelaw17.LocateFewer', WHERE WHAT IT READS IS OF BULK AT MOST 1048576: true; the input reads as it did. -/
def locateFewerUptoRow : OpenClaim := { program := "ytnapbdoalfbgnaa", sum := "85916fc3b890f820700a511182e1f80fdcf64097b1fdb6b38b34a53a20fb250a", func := "conclave/conclavelaw17.LocateFewer", spec := "locateFewer", inPlace := ["math/bits.Sub64", "math/bits.Add64"], unfollowed := true, recurses := true, apart := false, narrowed := true }
def LocateFewerUptoSaid : Prop := locateFewerUptoRow.holds Try.pinned (OpenSpec.upto locateFewerSpec)

end Rows
end Go.Proofs.Ytnapbdoalfbgnaa
