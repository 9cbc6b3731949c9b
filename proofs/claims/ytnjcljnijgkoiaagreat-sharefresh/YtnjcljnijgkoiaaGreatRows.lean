/-
  No cell of these rows narrows 'for every input' (looked for: loops, veiled, ifaces, maps, wideKeys, modest, calm, conditions, laid).
  DERIVED. THE GIVEN ROWS OF THIS SEAT. 4 by the template 'for every input the law returns true; each argument reads behind the call as it read before'; 0 by the template 'total and deterministic' (their statements: YtnjcljnijgkoiaaGreatTotals.lean).
  GIVEN WITH THE SEED: the statements are not yours to turn. If you find one false, say at which input.
  Laid BY PROGRAM, IN A SANDBOX (cutbox-rows.mjs): the forced cells as the released guide's own fill.sh prints them over the translation 50ad8c7f3a7dd777… (all of the seat's roots in one cut). By AI agents, Wed Nov 11 2026. No macro, syntax, notation, axiom, sorry.
-/
import Derived.Test.YtnjcljnijgkoiaaGreatChecked
import GoSem.Claim
import GoSem.ClaimJoined
import GoSem.ClaimMapViews
import Derived.JoinedTies
import Derived.KernelRfl
namespace Go.Proofs.YtnjcljnijgkoiaaGreat
/- THE CELL 'sum', in the pinned program and in every row, IS THE sha256 OF THE DUMP (.gsa) THAT YtnjcljnijgkoiaaGreatProg.lean LOADS. Nothing in Lean hashes anything: it is a label: what it is worth is what the hold of that sum in a sandbox is worth. -/
noncomputable def Tryz.pinned : Pinned := { name := "ytnjcljnijgkoiaagreat", sum := "50ad8c7f3a7dd7776e4435e30a0508850170812e43b719ddc3bda8f284270a0d", checked := Tryz.checked }
namespace Rows
def none {H : Type} : Left H := { results := [], args := [] }

/-- 'conclavelaw14.ShareAll': WHATEVER THE INPUT: true; the input reads as it did. -/
def shareAllSpec : ChangeSpec := { name := "shareAll", fn := fun _ => fun
  | [d1, d2, d3] => { results := [.lit (.bool true)], args := [d1, d2, d3] }
  | _ => none }
def shareAllRow : OpenClaim := { program := "ytnjcljnijgkoiaagreat", sum := "50ad8c7f3a7dd7776e4435e30a0508850170812e43b719ddc3bda8f284270a0d", func := "conclave/conclavelaw14.ShareAll", spec := "shareAll", inPlace := ["math/bits.Sub64", "math/bits.Add64"], unfollowed := true, recurses := true, apart := false }
def ShareAllSaid : Prop := shareAllRow.holds Tryz.pinned (OpenSpec.ofChange shareAllSpec)

/-- ITS FALSE NEIGHBOUR: 'it returns false'. Refute it at one input. -/
def shareAllWrong : ChangeSpec := { name := "shareAll", fn := fun _ => fun
  | [d1, d2, d3] => { results := [.lit (.bool false)], args := [d1, d2, d3] }
  | _ => none }
def ShareAllWrongFalsely : Prop := shareAllRow.holds Tryz.pinned (OpenSpec.ofChange shareAllWrong)

/-- 'conclavelaw14.ShareOpens': WHATEVER THE INPUT: true; the input reads as it did. -/
def shareOpensSpec : ChangeSpec := { name := "shareOpens", fn := fun _ => fun
  | [d1, d2, d3] => { results := [.lit (.bool true)], args := [d1, d2, d3] }
  | _ => none }
def shareOpensRow : OpenClaim := { program := "ytnjcljnijgkoiaagreat", sum := "50ad8c7f3a7dd7776e4435e30a0508850170812e43b719ddc3bda8f284270a0d", func := "conclave/conclavelaw14.ShareOpens", spec := "shareOpens", inPlace := ["math/bits.Sub64", "math/bits.Add64"], unfollowed := true, recurses := true, apart := false }
def ShareOpensSaid : Prop := shareOpensRow.holds Tryz.pinned (OpenSpec.ofChange shareOpensSpec)

/-- ITS FALSE NEIGHBOUR: 'it returns false'. Refute it at one input. -/
def shareOpensWrong : ChangeSpec := { name := "shareOpens", fn := fun _ => fun
  | [d1, d2, d3] => { results := [.lit (.bool false)], args := [d1, d2, d3] }
  | _ => none }
def ShareOpensWrongFalsely : Prop := shareOpensRow.holds Tryz.pinned (OpenSpec.ofChange shareOpensWrong)

/-- 'conclavelaw14.ShareRows': WHATEVER THE INPUT: true; the input reads as it did. -/
def shareRowsSpec : ChangeSpec := { name := "shareRows", fn := fun _ => fun
  | [d1, d2] => { results := [.lit (.bool true)], args := [d1, d2] }
  | _ => none }
def shareRowsRow : OpenClaim := { program := "ytnjcljnijgkoiaagreat", sum := "50ad8c7f3a7dd7776e4435e30a0508850170812e43b719ddc3bda8f284270a0d", func := "conclave/conclavelaw14.ShareRows", spec := "shareRows", inPlace := ["math/bits.Sub64", "math/bits.Add64"], unfollowed := true, recurses := true, apart := false }
def ShareRowsSaid : Prop := shareRowsRow.holds Tryz.pinned (OpenSpec.ofChange shareRowsSpec)

/-- ITS FALSE NEIGHBOUR: 'it returns false'. Refute it at one input. -/
def shareRowsWrong : ChangeSpec := { name := "shareRows", fn := fun _ => fun
  | [d1, d2] => { results := [.lit (.bool false)], args := [d1, d2] }
  | _ => none }
def ShareRowsWrongFalsely : Prop := shareRowsRow.holds Tryz.pinned (OpenSpec.ofChange shareRowsWrong)

/-- 'conclavelaw14.ShareFresh': WHATEVER THE INPUT: true; the input reads as it did. -/
def shareFreshSpec : ChangeSpec := { name := "shareFresh", fn := fun _ => fun
  | [d1, d2] => { results := [.lit (.bool true)], args := [d1, d2] }
  | _ => none }
def shareFreshRow : OpenClaim := { program := "ytnjcljnijgkoiaagreat", sum := "50ad8c7f3a7dd7776e4435e30a0508850170812e43b719ddc3bda8f284270a0d", func := "conclave/conclavelaw14.ShareFresh", spec := "shareFresh", inPlace := ["math/bits.Sub64", "math/bits.Add64"], unfollowed := true, recurses := true, apart := false }
def ShareFreshSaid : Prop := shareFreshRow.holds Tryz.pinned (OpenSpec.ofChange shareFreshSpec)

/-- ITS FALSE NEIGHBOUR: 'it returns false'. Refute it at one input. -/
def shareFreshWrong : ChangeSpec := { name := "shareFresh", fn := fun _ => fun
  | [d1, d2] => { results := [.lit (.bool false)], args := [d1, d2] }
  | _ => none }
def ShareFreshWrongFalsely : Prop := shareFreshRow.holds Tryz.pinned (OpenSpec.ofChange shareFreshWrong)

/- THE SECOND FORM. 'bulk': how many values and letters a reading holds, each counted each time it is reached (what is shared counts as often as it is met; a slice's spare places count too). A statement '..UptoSaid' is the law's where the arguments, and the package variables that the reading takes, are together of bulk at most 1048576: NARROWER than '..Said'. Prove '..Said' where nothing that the law and all that it calls make is longer than what came in: it says more and counts as full. Else prove '..UptoSaid'. A law counts once. -/
mutual
def uptoBulk {H : Type} : DataW H → Nat
  | .lit (.string bytes) => bytes.length + 1
  | .lit _ => 1
  | .nil => 1
  | .ptr d => uptoBulk d + 1
  | .slice elems spare => uptoBulkAll elems + uptoBulkAll spare + 1
  | .agg parts => uptoBulkAll parts + 1
  | .iface _ d => uptoBulk d + 1
  | .map entries => uptoBulkEntries entries + 1
  | .held _ => 1
def uptoBulkAll {H : Type} : List (DataW H) → Nat
  | [] => 0
  | d :: r => uptoBulk d + uptoBulkAll r
def uptoBulkEntries {H : Type} : List (Lit × DataW H) → Nat
  | [] => 0
  | x :: r => uptoBulkEntry x + uptoBulkEntries r
def uptoBulkEntry {H : Type} : Lit × DataW H → Nat
  | (.string bytes, d) => bytes.length + uptoBulk d + 1
  | (_, d) => uptoBulk d + 1
 end
def uptoSmall : (H : Type) → List (DataW H) → Bool := fun _ ds => decide (uptoBulkAll ds ≤ 1048576)
def OpenSpec.upto (s : _root_.Go.ChangeSpec) : _root_.Go.OpenSpec := { _root_.Go.OpenSpec.ofChange s with cond := some uptoSmall }

/-- 'conclavelaw14.ShareAll', WHERE WHAT IT READS IS OF BULK AT MOST 1048576: true; the input reads as it did. -/
def shareAllUptoRow : OpenClaim := { program := "ytnjcljnijgkoiaagreat", sum := "50ad8c7f3a7dd7776e4435e30a0508850170812e43b719ddc3bda8f284270a0d", func := "conclave/conclavelaw14.ShareAll", spec := "shareAll", inPlace := ["math/bits.Sub64", "math/bits.Add64"], unfollowed := true, recurses := true, apart := false, narrowed := true }
def ShareAllUptoSaid : Prop := shareAllUptoRow.holds Tryz.pinned (OpenSpec.upto shareAllSpec)

/-- 'conclavelaw14.ShareOpens', WHERE WHAT IT READS IS OF BULK AT MOST 1048576: true; the input reads as it did. -/
def shareOpensUptoRow : OpenClaim := { program := "ytnjcljnijgkoiaagreat", sum := "50ad8c7f3a7dd7776e4435e30a0508850170812e43b719ddc3bda8f284270a0d", func := "conclave/conclavelaw14.ShareOpens", spec := "shareOpens", inPlace := ["math/bits.Sub64", "math/bits.Add64"], unfollowed := true, recurses := true, apart := false, narrowed := true }
def ShareOpensUptoSaid : Prop := shareOpensUptoRow.holds Tryz.pinned (OpenSpec.upto shareOpensSpec)

/-- 'conclavelaw14.ShareRows', WHERE WHAT IT READS IS OF BULK AT MOST 1048576: true; the input reads as it did. -/
def shareRowsUptoRow : OpenClaim := { program := "ytnjcljnijgkoiaagreat", sum := "50ad8c7f3a7dd7776e4435e30a0508850170812e43b719ddc3bda8f284270a0d", func := "conclave/conclavelaw14.ShareRows", spec := "shareRows", inPlace := ["math/bits.Sub64", "math/bits.Add64"], unfollowed := true, recurses := true, apart := false, narrowed := true }
def ShareRowsUptoSaid : Prop := shareRowsUptoRow.holds Tryz.pinned (OpenSpec.upto shareRowsSpec)

/-- 'conclavelaw14.ShareFresh', WHERE WHAT IT READS IS OF BULK AT MOST 1048576: true; the input reads as it did. -/
def shareFreshUptoRow : OpenClaim := { program := "ytnjcljnijgkoiaagreat", sum := "50ad8c7f3a7dd7776e4435e30a0508850170812e43b719ddc3bda8f284270a0d", func := "conclave/conclavelaw14.ShareFresh", spec := "shareFresh", inPlace := ["math/bits.Sub64", "math/bits.Add64"], unfollowed := true, recurses := true, apart := false, narrowed := true }
def ShareFreshUptoSaid : Prop := shareFreshUptoRow.holds Tryz.pinned (OpenSpec.upto shareFreshSpec)

end Rows
end Go.Proofs.YtnjcljnijgkoiaaGreat
