/-
  No cell of these rows narrows 'for every input' (looked for: loops, veiled, ifaces, maps, wideKeys, modest, calm, conditions, laid).
  DERIVED. THE GIVEN ROWS OF THIS SEAT. 4 by the template 'for every input the law returns true; each argument reads behind the call as it read before'; 0 by the template 'total and deterministic' (their statements: YtnakbpaiidolbaaGreatTotals.lean).
  GIVEN WITH THE SEED: the statements are not yours to turn. If you find one false, say at which input.
  Laid BY PROGRAM, IN A SANDBOX (cutbox-rows.mjs): the forced cells as the released guide's own fill.sh prints them over the translation 406a11b4db4aed0d… (all of the seat's roots in one cut). By AI agents, Wed Nov 11 2026. No macro, syntax, notation, axiom, sorry.
-/
import Derived.Test.YtnakbpaiidolbaaGreatChecked
import GoSem.Claim
import GoSem.ClaimJoined
import GoSem.ClaimMapViews
import Derived.JoinedTies
import Derived.KernelRfl
namespace Go.Proofs.YtnakbpaiidolbaaGreat
/- THE CELL 'sum', in the pinned program and in every row, IS THE sha256 OF THE DUMP (.gsa) THAT YtnakbpaiidolbaaGreatProg.lean LOADS. Nothing in Lean hashes anything: it is a label: what it is worth is what the hold of that sum in a sandbox is worth. -/
noncomputable def Tryz.pinned : Pinned := { name := "ytnakbpaiidolbaagreat", sum := "406a11b4db4aed0dd37c578051ebbea38df8da4bc6d3cc8a7e615604d01c69f1", checked := Tryz.checked }
namespace Rows
def none {H : Type} : Left H := { results := [], args := [] }

/-- 'conclavelaw16.ReplyReplies': WHATEVER THE INPUT: true; the input reads as it did. -/
def replyRepliesSpec : ChangeSpec := { name := "replyReplies", fn := fun _ => fun
  | [d1, d2, d3] => { results := [.lit (.bool true)], args := [d1, d2, d3] }
  | _ => none }
def replyRepliesRow : OpenClaim := { program := "ytnakbpaiidolbaagreat", sum := "406a11b4db4aed0dd37c578051ebbea38df8da4bc6d3cc8a7e615604d01c69f1", func := "conclave/conclavelaw16.ReplyReplies", spec := "replyReplies", inPlace := ["math/bits.Sub64", "math/bits.Add64"], unfollowed := true, recurses := true, apart := false }
def ReplyRepliesSaid : Prop := replyRepliesRow.holds Tryz.pinned (OpenSpec.ofChange replyRepliesSpec)

/-- ITS FALSE NEIGHBOUR: 'it returns false'. Refute it at one input. -/
def replyRepliesWrong : ChangeSpec := { name := "replyReplies", fn := fun _ => fun
  | [d1, d2, d3] => { results := [.lit (.bool false)], args := [d1, d2, d3] }
  | _ => none }
def ReplyRepliesWrongFalsely : Prop := replyRepliesRow.holds Tryz.pinned (OpenSpec.ofChange replyRepliesWrong)

/-- 'conclavelaw16.ReplyPolys': WHATEVER THE INPUT: true; the input reads as it did. -/
def replyPolysSpec : ChangeSpec := { name := "replyPolys", fn := fun _ => fun
  | [d1, d2, d3] => { results := [.lit (.bool true)], args := [d1, d2, d3] }
  | _ => none }
def replyPolysRow : OpenClaim := { program := "ytnakbpaiidolbaagreat", sum := "406a11b4db4aed0dd37c578051ebbea38df8da4bc6d3cc8a7e615604d01c69f1", func := "conclave/conclavelaw16.ReplyPolys", spec := "replyPolys", inPlace := ["math/bits.Sub64", "math/bits.Add64"], unfollowed := true, recurses := true, apart := false }
def ReplyPolysSaid : Prop := replyPolysRow.holds Tryz.pinned (OpenSpec.ofChange replyPolysSpec)

/-- ITS FALSE NEIGHBOUR: 'it returns false'. Refute it at one input. -/
def replyPolysWrong : ChangeSpec := { name := "replyPolys", fn := fun _ => fun
  | [d1, d2, d3] => { results := [.lit (.bool false)], args := [d1, d2, d3] }
  | _ => none }
def ReplyPolysWrongFalsely : Prop := replyPolysRow.holds Tryz.pinned (OpenSpec.ofChange replyPolysWrong)

/-- 'conclavelaw16.ReplyLies': WHATEVER THE INPUT: true; the input reads as it did. -/
def replyLiesSpec : ChangeSpec := { name := "replyLies", fn := fun _ => fun
  | [d1, d2, d3] => { results := [.lit (.bool true)], args := [d1, d2, d3] }
  | _ => none }
def replyLiesRow : OpenClaim := { program := "ytnakbpaiidolbaagreat", sum := "406a11b4db4aed0dd37c578051ebbea38df8da4bc6d3cc8a7e615604d01c69f1", func := "conclave/conclavelaw16.ReplyLies", spec := "replyLies", inPlace := ["math/bits.Sub64", "math/bits.Add64"], unfollowed := true, recurses := true, apart := false }
def ReplyLiesSaid : Prop := replyLiesRow.holds Tryz.pinned (OpenSpec.ofChange replyLiesSpec)

/-- ITS FALSE NEIGHBOUR: 'it returns false'. Refute it at one input. -/
def replyLiesWrong : ChangeSpec := { name := "replyLies", fn := fun _ => fun
  | [d1, d2, d3] => { results := [.lit (.bool false)], args := [d1, d2, d3] }
  | _ => none }
def ReplyLiesWrongFalsely : Prop := replyLiesRow.holds Tryz.pinned (OpenSpec.ofChange replyLiesWrong)

/-- 'conclavelaw16.ReplyFresh': WHATEVER THE INPUT: true; the input reads as it did. -/
def replyFreshSpec : ChangeSpec := { name := "replyFresh", fn := fun _ => fun
  | [d1, d2, d3] => { results := [.lit (.bool true)], args := [d1, d2, d3] }
  | _ => none }
def replyFreshRow : OpenClaim := { program := "ytnakbpaiidolbaagreat", sum := "406a11b4db4aed0dd37c578051ebbea38df8da4bc6d3cc8a7e615604d01c69f1", func := "conclave/conclavelaw16.ReplyFresh", spec := "replyFresh", inPlace := ["math/bits.Sub64", "math/bits.Add64"], unfollowed := true, recurses := true, apart := false }
def ReplyFreshSaid : Prop := replyFreshRow.holds Tryz.pinned (OpenSpec.ofChange replyFreshSpec)

/-- ITS FALSE NEIGHBOUR: 'it returns false'. Refute it at one input. -/
def replyFreshWrong : ChangeSpec := { name := "replyFresh", fn := fun _ => fun
  | [d1, d2, d3] => { results := [.lit (.bool false)], args := [d1, d2, d3] }
  | _ => none }
def ReplyFreshWrongFalsely : Prop := replyFreshRow.holds Tryz.pinned (OpenSpec.ofChange replyFreshWrong)

/- THE SECOND FORM. 'bulk': how many values and letters a reading holds, each counted each time it is reached (what is shared counts as often as it is met; a slice's spare places count too). A statement '..UptoSaid' is the law's where the arguments, and the package variables that the reading takes, are together of bulk at most 1048576: NARROWER than '..Said'. Prove '..Said' where nothing that the law and all that it calls make is longer than what came in: it says more and counts as full. Else prove '..UptoSaid'. A law counts once. -/
mutual
def uptoBulk {H : Type} : DataW H → Nat
  | .lit (.string bytes) => bytes.length + 1
  | .lit _ => 1
  | .nil => 1
  | .ptr d => uptoBulk d + 1
  | .slice elems spare => uptoBulkAll elems + uptoBulkAll spare + 1
  | .agg parts => uptoBulkAll parts + 1
  | .iface _ d => uptoBulk d + 1
  | .map entries => uptoBulkEntries entries + 1
  | .held _ => 1
def uptoBulkAll {H : Type} : List (DataW H) → Nat
  | [] => 0
  | d :: r => uptoBulk d + uptoBulkAll r
def uptoBulkEntries {H : Type} : List (Lit × DataW H) → Nat
  | [] => 0
  | x :: r => uptoBulkEntry x + uptoBulkEntries r
def uptoBulkEntry {H : Type} : Lit × DataW H → Nat
  | (.string bytes, d) => bytes.length + uptoBulk d + 1
  | (_, d) => uptoBulk d + 1
 end
def uptoSmall : (H : Type) → List (DataW H) → Bool := fun _ ds => decide (uptoBulkAll ds ≤ 1048576)
def OpenSpec.upto (s : _root_.Go.ChangeSpec) : _root_.Go.OpenSpec := { _root_.Go.OpenSpec.ofChange s with cond := some uptoSmall }

/-- 'conclavelaw16.ReplyReplies', WHERE WHAT IT READS IS OF BULK AT MOST 1048576: true; the input reads as it did. -/
def replyRepliesUptoRow : OpenClaim := { program := "ytnakbpaiidolbaagreat", sum := "406a11b4db4aed0dd37c578051ebbea38df8da4bc6d3cc8a7e615604d01c69f1", func := "conclave/conclavelaw16.ReplyReplies", spec := "replyReplies", inPlace := ["math/bits.Sub64", "math/bits.Add64"], unfollowed := true, recurses := true, apart := false, narrowed := true }
def ReplyRepliesUptoSaid : Prop := replyRepliesUptoRow.holds Tryz.pinned (OpenSpec.upto replyRepliesSpec)

/-- 'conclavelaw16.ReplyPolys', WHERE WHAT IT READS IS OF BULK AT MOST 1048576: true; the input reads as it did. -/
def replyPolysUptoRow : OpenClaim := { program := "ytnakbpaiidolbaagreat", sum := "406a11b4db4aed0dd37c578051ebbea38df8da4bc6d3cc8a7e615604d01c69f1", func := "conclave/conclavelaw16.ReplyPolys", spec := "replyPolys", inPlace := ["math/bits.Sub64", "math/bits.Add64"], unfollowed := true, recurses := true, apart := false, narrowed := true }
def ReplyPolysUptoSaid : Prop := replyPolysUptoRow.holds Tryz.pinned (OpenSpec.upto replyPolysSpec)

/-- 'conclavelaw16.ReplyLies', WHERE WHAT IT READS IS OF BULK AT MOST 1048576: true; the input reads as it did. -/
def replyLiesUptoRow : OpenClaim := { program := "ytnakbpaiidolbaagreat", sum := "406a11b4db4aed0dd37c578051ebbea38df8da4bc6d3cc8a7e615604d01c69f1", func := "conclave/conclavelaw16.ReplyLies", spec := "replyLies", inPlace := ["math/bits.Sub64", "math/bits.Add64"], unfollowed := true, recurses := true, apart := false, narrowed := true }
def ReplyLiesUptoSaid : Prop := replyLiesUptoRow.holds Tryz.pinned (OpenSpec.upto replyLiesSpec)

/-- 'conclavelaw16.ReplyFresh', WHERE WHAT IT READS IS OF BULK AT MOST 1048576: true; the input reads as it did. -/
def replyFreshUptoRow : OpenClaim := { program := "ytnakbpaiidolbaagreat", sum := "406a11b4db4aed0dd37c578051ebbea38df8da4bc6d3cc8a7e615604d01c69f1", func := "conclave/conclavelaw16.ReplyFresh", spec := "replyFresh", inPlace := ["math/bits.Sub64", "math/bits.Add64"], unfollowed := true, recurses := true, apart := false, narrowed := true }
def ReplyFreshUptoSaid : Prop := replyFreshUptoRow.holds Tryz.pinned (OpenSpec.upto replyFreshSpec)

end Rows
end Go.Proofs.YtnakbpaiidolbaaGreat
