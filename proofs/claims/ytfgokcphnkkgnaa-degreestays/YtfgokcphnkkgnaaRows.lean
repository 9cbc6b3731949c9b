/-
  No cell of these rows narrows 'for every input' (looked for: loops, veiled, ifaces, maps, wideKeys, modest, calm, conditions, laid).
  DERIVED. THE GIVEN ROWS OF THIS SEAT. 4 by the template 'for every input the law returns true; each argument reads behind the call as it read before'; 0 by the template 'total and deterministic' (their statements: YtfgokcphnkkgnaaTotals.lean).
  GIVEN WITH THE SEED: the statements are not yours to turn. If you find one false, say at which input.
  Laid BY PROGRAM, IN A SANDBOX (cutbox-rows.mjs): the forced cells as the released guide's own fill.sh prints them over the translation 32f3546214cd7812… (all of the seat's roots in one cut). By AI agents, Wed Nov 11 2026. No macro, syntax, notation, axiom, sorry.
-/
import Derived.Test.YtfgokcphnkkgnaaChecked
import GoSem.Claim
import GoSem.ClaimJoined
import GoSem.ClaimMapViews
import Derived.JoinedTies
import Derived.KernelRfl
namespace Go.Proofs.Ytfgokcphnkkgnaa
/- THE CELL 'sum', in the pinned program and in every row, IS THE sha256 OF THE DUMP (.gsa) THAT YtfgokcphnkkgnaaProg.lean LOADS. Nothing in Lean hashes anything: it is a label: what it is worth is what the hold of that sum in a sandbox is worth. -/
noncomputable def Try.pinned : Pinned := { name := "ytfgokcphnkkgnaa", sum := "32f3546214cd7812d2f8b0d0e1b857c72f4a79b53fa749831181ef28f86bb671", checked := Try.checked }
namespace Rows
def none {H : Type} : Left H := { results := [], args := [] }

/-- 'conclavelaw10.DegreeAll': WHATEVER THE INPUT: true; the input reads as it did. -/
def degreeAllSpec : ChangeSpec := { name := "degreeAll", fn := fun _ => fun
  | [d] => { results := [.lit (.bool true)], args := [d] }
  | _ => none }
def degreeAllRow : OpenClaim := { program := "ytfgokcphnkkgnaa", sum := "32f3546214cd7812d2f8b0d0e1b857c72f4a79b53fa749831181ef28f86bb671", func := "conclave/conclavelaw10.DegreeAll", spec := "degreeAll", unfollowed := true, recurses := true, apart := false }
def DegreeAllSaid : Prop := degreeAllRow.holds Try.pinned (OpenSpec.ofChange degreeAllSpec)

/-- ITS FALSE NEIGHBOUR: 'it returns false'. Refute it at one input. -/
def degreeAllWrong : ChangeSpec := { name := "degreeAll", fn := fun _ => fun
  | [d] => { results := [.lit (.bool false)], args := [d] }
  | _ => none }
def DegreeAllWrongFalsely : Prop := degreeAllRow.holds Try.pinned (OpenSpec.ofChange degreeAllWrong)

/-- 'conclavelaw10.DegreeUses': WHATEVER THE INPUT: true; the input reads as it did. -/
def degreeUsesSpec : ChangeSpec := { name := "degreeUses", fn := fun _ => fun
  | [d] => { results := [.lit (.bool true)], args := [d] }
  | _ => none }
def degreeUsesRow : OpenClaim := { program := "ytfgokcphnkkgnaa", sum := "32f3546214cd7812d2f8b0d0e1b857c72f4a79b53fa749831181ef28f86bb671", func := "conclave/conclavelaw10.DegreeUses", spec := "degreeUses", apart := false }
def DegreeUsesSaid : Prop := degreeUsesRow.holds Try.pinned (OpenSpec.ofChange degreeUsesSpec)

/-- ITS FALSE NEIGHBOUR: 'it returns false'. Refute it at one input. -/
def degreeUsesWrong : ChangeSpec := { name := "degreeUses", fn := fun _ => fun
  | [d] => { results := [.lit (.bool false)], args := [d] }
  | _ => none }
def DegreeUsesWrongFalsely : Prop := degreeUsesRow.holds Try.pinned (OpenSpec.ofChange degreeUsesWrong)

/-- 'conclavelaw10.DegreeAfter': WHATEVER THE INPUT: true; the input reads as it did. -/
def degreeAfterSpec : ChangeSpec := { name := "degreeAfter", fn := fun _ => fun
  | [d1, d2] => { results := [.lit (.bool true)], args := [d1, d2] }
  | _ => none }
def degreeAfterRow : OpenClaim := { program := "ytfgokcphnkkgnaa", sum := "32f3546214cd7812d2f8b0d0e1b857c72f4a79b53fa749831181ef28f86bb671", func := "conclave/conclavelaw10.DegreeAfter", spec := "degreeAfter", unfollowed := true, recurses := true, apart := false }
def DegreeAfterSaid : Prop := degreeAfterRow.holds Try.pinned (OpenSpec.ofChange degreeAfterSpec)

/-- ITS FALSE NEIGHBOUR: 'it returns false'. Refute it at one input. -/
def degreeAfterWrong : ChangeSpec := { name := "degreeAfter", fn := fun _ => fun
  | [d1, d2] => { results := [.lit (.bool false)], args := [d1, d2] }
  | _ => none }
def DegreeAfterWrongFalsely : Prop := degreeAfterRow.holds Try.pinned (OpenSpec.ofChange degreeAfterWrong)

/-- 'conclavelaw10.DegreeStays': WHATEVER THE INPUT: true; the input reads as it did. -/
def degreeStaysSpec : ChangeSpec := { name := "degreeStays", fn := fun _ => fun
  | [d] => { results := [.lit (.bool true)], args := [d] }
  | _ => none }
def degreeStaysRow : OpenClaim := { program := "ytfgokcphnkkgnaa", sum := "32f3546214cd7812d2f8b0d0e1b857c72f4a79b53fa749831181ef28f86bb671", func := "conclave/conclavelaw10.DegreeStays", spec := "degreeStays", unfollowed := true, recurses := true, apart := false }
def DegreeStaysSaid : Prop := degreeStaysRow.holds Try.pinned (OpenSpec.ofChange degreeStaysSpec)

/-- ITS FALSE NEIGHBOUR: 'it returns false'. Refute it at one input. -/
def degreeStaysWrong : ChangeSpec := { name := "degreeStays", fn := fun _ => fun
  | [d] => { results := [.lit (.bool false)], args := [d] }
  | _ => none }
def DegreeStaysWrongFalsely : Prop := degreeStaysRow.holds Try.pinned (OpenSpec.ofChange degreeStaysWrong)

/- THE SECOND FORM. 'bulk': how many values and letters a reading holds, each counted each time it is reached (what is shared counts as often as it is met; a slice's spare places count too). A statement '..UptoSaid' is the law's where the arguments, and the package variables that the reading takes, are together of bulk at most 1048576: NARROWER than '..Said'. Prove '..Said' where nothing that the law and all that it calls make is longer than what came in: it says more and counts as full. Else prove '..UptoSaid'. A law counts once. -/
mutual
def uptoBulk {H : Type} : DataW H → Nat
  | .lit (.string bytes) => bytes.length + 1
  | .lit _ => 1
  | .nil => 1
  | .ptr d => uptoBulk d + 1
  | .slice elems spare => uptoBulkAll elems + uptoBulkAll spare + 1
  | .agg parts => uptoBulkAll parts + 1
  | .iface _ d => uptoBulk d + 1
  | .map entries => uptoBulkEntries entries + 1
  | .held _ => 1
def uptoBulkAll {H : Type} : List (DataW H) → Nat
  | [] => 0
  | d :: r => uptoBulk d + uptoBulkAll r
def uptoBulkEntries {H : Type} : List (Lit × DataW H) → Nat
  | [] => 0
  | x :: r => uptoBulkEntry x + uptoBulkEntries r
def uptoBulkEntry {H : Type} : Lit × DataW H → Nat
  | (.string bytes, d) => bytes.length + uptoBulk d + 1
  | (_, d) => uptoBulk d + 1
 end
def uptoSmall : (H : Type) → List (DataW H) → Bool := fun _ ds => decide (uptoBulkAll ds ≤ 1048576)
def OpenSpec.upto (s : _root_.Go.ChangeSpec) : _root_.Go.OpenSpec := { _root_.Go.OpenSpec.ofChange s with cond := some uptoSmall }

/-- 'conclavelaw10.DegreeAll', WHERE WHAT IT READS IS OF BULK AT MOST 1048576: true; the input reads as it did. -/
def degreeAllUptoRow : OpenClaim := { program := "ytfgokcphnkkgnaa", sum := "32f3546214cd7812d2f8b0d0e1b857c72f4a79b53fa749831181ef28f86bb671", func := "conclave/conclavelaw10.DegreeAll", spec := "degreeAll", unfollowed := true, recurses := true, apart := false, narrowed := true }
def DegreeAllUptoSaid : Prop := degreeAllUptoRow.holds Try.pinned (OpenSpec.upto degreeAllSpec)

/-- 'conclavelaw10.DegreeUses', WHERE WHAT IT READS IS OF BULK AT MOST 1048576: true; the input reads as it did. -/
def degreeUsesUptoRow : OpenClaim := { program := "ytfgokcphnkkgnaa", sum := "32f3546214cd7812d2f8b0d0e1b857c72f4a79b53fa749831181ef28f86bb671", func := "conclave/conclavelaw10.DegreeUses", spec := "degreeUses", apart := false, narrowed := true }
def DegreeUsesUptoSaid : Prop := degreeUsesUptoRow.holds Try.pinned (OpenSpec.upto degreeUsesSpec)

/-- 'conclavelaw10.DegreeAfter', WHERE WHAT IT READS IS OF BULK AT MOST 1048576: true; the input reads as it did. -/
def degreeAfterUptoRow : OpenClaim := { program := "ytfgokcphnkkgnaa", sum := "32f3546214cd7812d2f8b0d0e1b857c72f4a79b53fa749831181ef28f86bb671", func := "conclave/conclavelaw10.DegreeAfter", spec := "degreeAfter", unfollowed := true, recurses := true, apart := false, narrowed := true }
def DegreeAfterUptoSaid : Prop := degreeAfterUptoRow.holds Try.pinned (OpenSpec.upto degreeAfterSpec)

/-- 'conclavelaw10.DegreeStays', WHERE WHAT IT READS IS OF BULK AT MOST 1048576: true; the input reads as it did. -/
def degreeStaysUptoRow : OpenClaim := { program := "ytfgokcphnkkgnaa", sum := "32f3546214cd7812d2f8b0d0e1b857c72f4a79b53fa749831181ef28f86bb671", func := "conclave/conclavelaw10.DegreeStays", spec := "degreeStays", unfollowed := true, recurses := true, apart := false, narrowed := true }
def DegreeStaysUptoSaid : Prop := degreeStaysUptoRow.holds Try.pinned (OpenSpec.upto degreeStaysSpec)

end Rows
end Go.Proofs.Ytfgokcphnkkgnaa
