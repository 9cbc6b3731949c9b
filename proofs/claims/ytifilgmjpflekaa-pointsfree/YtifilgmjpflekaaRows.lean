/-
  No cell of these rows narrows 'for every input' (looked for: loops, veiled, ifaces, maps, wideKeys, modest, calm, conditions, laid).
  DERIVED. THE GIVEN ROWS OF THIS SEAT. 4 by the template 'for every input the law returns true; each argument reads behind the call as it read before'; 0 by the template 'total and deterministic' (their statements: YtifilgmjpflekaaTotals.lean).
  GIVEN WITH THE SEED: the statements are not yours to turn. If you find one false, say at which input.
  Laid BY PROGRAM, IN A SANDBOX (cutbox-rows.mjs): the forced cells as the released guide's own fill.sh prints them over the translation db6dc0cd819bc34b… (all of the seat's roots in one cut). By AI agents, Wed Nov 11 2026. No macro, syntax, notation, axiom, sorry.
-/
import Derived.Test.YtifilgmjpflekaaChecked
import GoSem.Claim
import GoSem.ClaimJoined
import GoSem.ClaimMapViews
import Derived.JoinedTies
import Derived.KernelRfl
namespace Go.Proofs.Ytifilgmjpflekaa
/- THE CELL 'sum', in the pinned program and in every row, IS THE sha256 OF THE DUMP (.gsa) THAT YtifilgmjpflekaaProg.lean LOADS. Nothing in Lean hashes anything: it is a label: what it is worth is what the hold of that sum in a sandbox is worth. -/
noncomputable def Try.pinned : Pinned := { name := "ytifilgmjpflekaa", sum := "db6dc0cd819bc34b139605b1e3be6c72537673ed38c8f3f41de8f25d5ce2e89c", checked := Try.checked }
namespace Rows
def none {H : Type} : Left H := { results := [], args := [] }

/-- 'conclavelaw13.PointsAll': WHATEVER THE INPUT: true; the input reads as it did. -/
def pointsAllSpec : ChangeSpec := { name := "pointsAll", fn := fun _ => fun
  | [d1, d2] => { results := [.lit (.bool true)], args := [d1, d2] }
  | _ => none }
def pointsAllRow : OpenClaim := { program := "ytifilgmjpflekaa", sum := "db6dc0cd819bc34b139605b1e3be6c72537673ed38c8f3f41de8f25d5ce2e89c", func := "conclave/conclavelaw13.PointsAll", spec := "pointsAll", inPlace := ["math/bits.Sub64", "math/bits.Add64"], unfollowed := true, recurses := true, apart := false }
def PointsAllSaid : Prop := pointsAllRow.holds Try.pinned (OpenSpec.ofChange pointsAllSpec)

/-- ITS FALSE NEIGHBOUR: 'it returns false'. Refute it at one input. -/
def pointsAllWrong : ChangeSpec := { name := "pointsAll", fn := fun _ => fun
  | [d1, d2] => { results := [.lit (.bool false)], args := [d1, d2] }
  | _ => none }
def PointsAllWrongFalsely : Prop := pointsAllRow.holds Try.pinned (OpenSpec.ofChange pointsAllWrong)

/-- 'conclavelaw13.PointsRows': WHATEVER THE INPUT: true; the input reads as it did. -/
def pointsRowsSpec : ChangeSpec := { name := "pointsRows", fn := fun _ => fun
  | [d] => { results := [.lit (.bool true)], args := [d] }
  | _ => none }
def pointsRowsRow : OpenClaim := { program := "ytifilgmjpflekaa", sum := "db6dc0cd819bc34b139605b1e3be6c72537673ed38c8f3f41de8f25d5ce2e89c", func := "conclave/conclavelaw13.PointsRows", spec := "pointsRows", inPlace := ["math/bits.Sub64", "math/bits.Add64"], unfollowed := true, recurses := true, apart := false }
def PointsRowsSaid : Prop := pointsRowsRow.holds Try.pinned (OpenSpec.ofChange pointsRowsSpec)

/-- ITS FALSE NEIGHBOUR: 'it returns false'. Refute it at one input. -/
def pointsRowsWrong : ChangeSpec := { name := "pointsRows", fn := fun _ => fun
  | [d] => { results := [.lit (.bool false)], args := [d] }
  | _ => none }
def PointsRowsWrongFalsely : Prop := pointsRowsRow.holds Try.pinned (OpenSpec.ofChange pointsRowsWrong)

/-- 'conclavelaw13.PointsApart': WHATEVER THE INPUT: true; the input reads as it did. -/
def pointsApartSpec : ChangeSpec := { name := "pointsApart", fn := fun _ => fun
  | [d] => { results := [.lit (.bool true)], args := [d] }
  | _ => none }
def pointsApartRow : OpenClaim := { program := "ytifilgmjpflekaa", sum := "db6dc0cd819bc34b139605b1e3be6c72537673ed38c8f3f41de8f25d5ce2e89c", func := "conclave/conclavelaw13.PointsApart", spec := "pointsApart", inPlace := ["math/bits.Sub64", "math/bits.Add64"], unfollowed := true, recurses := true, apart := false }
def PointsApartSaid : Prop := pointsApartRow.holds Try.pinned (OpenSpec.ofChange pointsApartSpec)

/-- ITS FALSE NEIGHBOUR: 'it returns false'. Refute it at one input. -/
def pointsApartWrong : ChangeSpec := { name := "pointsApart", fn := fun _ => fun
  | [d] => { results := [.lit (.bool false)], args := [d] }
  | _ => none }
def PointsApartWrongFalsely : Prop := pointsApartRow.holds Try.pinned (OpenSpec.ofChange pointsApartWrong)

/-- 'conclavelaw13.PointsFree': WHATEVER THE INPUT: true; the input reads as it did. -/
def pointsFreeSpec : ChangeSpec := { name := "pointsFree", fn := fun _ => fun
  | [d1, d2] => { results := [.lit (.bool true)], args := [d1, d2] }
  | _ => none }
def pointsFreeRow : OpenClaim := { program := "ytifilgmjpflekaa", sum := "db6dc0cd819bc34b139605b1e3be6c72537673ed38c8f3f41de8f25d5ce2e89c", func := "conclave/conclavelaw13.PointsFree", spec := "pointsFree", inPlace := ["math/bits.Sub64", "math/bits.Add64"], unfollowed := true, recurses := true, apart := false }
def PointsFreeSaid : Prop := pointsFreeRow.holds Try.pinned (OpenSpec.ofChange pointsFreeSpec)

/-- ITS FALSE NEIGHBOUR: 'it returns false'. Refute it at one input. -/
def pointsFreeWrong : ChangeSpec := { name := "pointsFree", fn := fun _ => fun
  | [d1, d2] => { results := [.lit (.bool false)], args := [d1, d2] }
  | _ => none }
def PointsFreeWrongFalsely : Prop := pointsFreeRow.holds Try.pinned (OpenSpec.ofChange pointsFreeWrong)

/- THE SECOND FORM. 'bulk': how many values and letters a reading holds, each counted each time it is reached (what is shared counts as often as it is met; a slice's spare places count too). A statement '..UptoSaid' is the law's where the arguments, and the package variables that the reading takes, are together of bulk at most 1048576: NARROWER than '..Said'. Prove '..Said' where nothing that the law and all that it calls make is longer than what came in: it says more and counts as full. Else prove '..UptoSaid'. A law counts once. -/
mutual
def uptoBulk {H : Type} : DataW H → Nat
  | .lit (.string bytes) => bytes.length + 1
  | .lit _ => 1
  | .nil => 1
  | .ptr d => uptoBulk d + 1
  | .slice elems spare => uptoBulkAll elems + uptoBulkAll spare + 1
  | .agg parts => uptoBulkAll parts + 1
  | .iface _ d => uptoBulk d + 1
  | .map entries => uptoBulkEntries entries + 1
  | .held _ => 1
def uptoBulkAll {H : Type} : List (DataW H) → Nat
  | [] => 0
  | d :: r => uptoBulk d + uptoBulkAll r
def uptoBulkEntries {H : Type} : List (Lit × DataW H) → Nat
  | [] => 0
  | x :: r => uptoBulkEntry x + uptoBulkEntries r
def uptoBulkEntry {H : Type} : Lit × DataW H → Nat
  | (.string bytes, d) => bytes.length + uptoBulk d + 1
  | (_, d) => uptoBulk d + 1
 end
def uptoSmall : (H : Type) → List (DataW H) → Bool := fun _ ds => decide (uptoBulkAll ds ≤ 1048576)
def OpenSpec.upto (s : _root_.Go.ChangeSpec) : _root_.Go.OpenSpec := { _root_.Go.OpenSpec.ofChange s with cond := some uptoSmall }

/-- 'conclavelaw13.PointsAll', WHERE WHAT IT READS IS OF BULK AT MOST 1048576: true; the input reads as it did. -/
def pointsAllUptoRow : OpenClaim := { program := "ytifilgmjpflekaa", sum := "db6dc0cd819bc34b139605b1e3be6c72537673ed38c8f3f41de8f25d5ce2e89c", func := "conclave/conclavelaw13.PointsAll", spec := "pointsAll", inPlace := ["math/bits.Sub64", "math/bits.Add64"], unfollowed := true, recurses := true, apart := false, narrowed := true }
def PointsAllUptoSaid : Prop := pointsAllUptoRow.holds Try.pinned (OpenSpec.upto pointsAllSpec)

/-- 'conclavelaw13.PointsRows', WHERE WHAT IT READS IS OF BULK AT MOST 1048576: true; the input reads as it did. -/
def pointsRowsUptoRow : OpenClaim := { program := "ytifilgmjpflekaa", sum := "db6dc0cd819bc34b139605b1e3be6c72537673ed38c8f3f41de8f25d5ce2e89c", func := "conclave/conclavelaw13.PointsRows", spec := "pointsRows", inPlace := ["math/bits.Sub64", "math/bits.Add64"], unfollowed := true, recurses := true, apart := false, narrowed := true }
def PointsRowsUptoSaid : Prop := pointsRowsUptoRow.holds Try.pinned (OpenSpec.upto pointsRowsSpec)

/-- 'conclavelaw13.PointsApart', WHERE WHAT IT READS IS OF BULK AT MOST 1048576: true; the input reads as it did. -/
def pointsApartUptoRow : OpenClaim := { program := "ytifilgmjpflekaa", sum := "db6dc0cd819bc34b139605b1e3be6c72537673ed38c8f3f41de8f25d5ce2e89c", func := "conclave/conclavelaw13.PointsApart", spec := "pointsApart", inPlace := ["math/bits.Sub64", "math/bits.Add64"], unfollowed := true, recurses := true, apart := false, narrowed := true }
def PointsApartUptoSaid : Prop := pointsApartUptoRow.holds Try.pinned (OpenSpec.upto pointsApartSpec)

/-- 'conclavelaw13.PointsFree', WHERE WHAT IT READS IS OF BULK AT MOST 1048576: true; the input reads as it did. -/
def pointsFreeUptoRow : OpenClaim := { program := "ytifilgmjpflekaa", sum := "db6dc0cd819bc34b139605b1e3be6c72537673ed38c8f3f41de8f25d5ce2e89c", func := "conclave/conclavelaw13.PointsFree", spec := "pointsFree", inPlace := ["math/bits.Sub64", "math/bits.Add64"], unfollowed := true, recurses := true, apart := false, narrowed := true }
def PointsFreeUptoSaid : Prop := pointsFreeUptoRow.holds Try.pinned (OpenSpec.upto pointsFreeSpec)

end Rows
end Go.Proofs.Ytifilgmjpflekaa
