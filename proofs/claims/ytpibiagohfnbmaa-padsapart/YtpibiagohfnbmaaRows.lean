/-
  No cell of these rows narrows 'for every input' (looked for: loops, veiled, ifaces, maps, wideKeys, modest, calm, conditions, laid).
  DERIVED. THE GIVEN ROWS OF THIS SEAT. 3 by the template 'for every input the law returns true; each argument reads behind the call as it read before'; 0 by the template 'total and deterministic' (their statements: YtpibiagohfnbmaaTotals.lean).
  GIVEN WITH THE SEED: the statements are not yours to turn. If you find one false, say at which input.
  Laid BY PROGRAM, IN A SANDBOX (cutbox-rows.mjs): the forced cells as the released guide's own fill.sh prints them over the translation 58cfb84cb30f0725… (all of the seat's roots in one cut). By AI agents, Wed Nov 11 2026. No macro, syntax, notation, axiom, sorry.
-/
import Derived.Test.YtpibiagohfnbmaaChecked
import GoSem.Claim
import GoSem.ClaimJoined
import GoSem.ClaimMapViews
import Derived.JoinedTies
import Derived.KernelRfl
namespace Go.Proofs.Ytpibiagohfnbmaa
/- THE CELL 'sum', in the pinned program and in every row, IS THE sha256 OF THE DUMP (.gsa) THAT YtpibiagohfnbmaaProg.lean LOADS. Nothing in Lean hashes anything: it is a label: what it is worth is what the hold of that sum in a sandbox is worth. -/
noncomputable def Try.pinned : Pinned := { name := "ytpibiagohfnbmaa", sum := "58cfb84cb30f072545d7fd50dec3c556436ed745b415bbe927b22fb3dd8518ed", checked := Try.checked }
namespace Rows
def none {H : Type} : Left H := { results := [], args := [] }

/-- 'conclavelaw19.PadsTakes': WHATEVER THE INPUT: true; the input reads as it did. -/
def padsTakesSpec : ChangeSpec := { name := "padsTakes", fn := fun _ => fun
  | [d1, d2, d3] => { results := [.lit (.bool true)], args := [d1, d2, d3] }
  | _ => none }
def padsTakesRow : OpenClaim := { program := "ytpibiagohfnbmaa", sum := "58cfb84cb30f072545d7fd50dec3c556436ed745b415bbe927b22fb3dd8518ed", func := "conclave/conclavelaw19.PadsTakes", spec := "padsTakes", apart := false }
def PadsTakesSaid : Prop := padsTakesRow.holds Try.pinned (OpenSpec.ofChange padsTakesSpec)

/-- ITS FALSE NEIGHBOUR: 'it returns false'. Refute it at one input. -/
def padsTakesWrong : ChangeSpec := { name := "padsTakes", fn := fun _ => fun
  | [d1, d2, d3] => { results := [.lit (.bool false)], args := [d1, d2, d3] }
  | _ => none }
def PadsTakesWrongFalsely : Prop := padsTakesRow.holds Try.pinned (OpenSpec.ofChange padsTakesWrong)

/-- 'conclavelaw19.PadsChain': WHATEVER THE INPUT: true; the input reads as it did. -/
def padsChainSpec : ChangeSpec := { name := "padsChain", fn := fun _ => fun
  | [d1, d2, d3] => { results := [.lit (.bool true)], args := [d1, d2, d3] }
  | _ => none }
def padsChainRow : OpenClaim := { program := "ytpibiagohfnbmaa", sum := "58cfb84cb30f072545d7fd50dec3c556436ed745b415bbe927b22fb3dd8518ed", func := "conclave/conclavelaw19.PadsChain", spec := "padsChain", apart := false }
def PadsChainSaid : Prop := padsChainRow.holds Try.pinned (OpenSpec.ofChange padsChainSpec)

/-- ITS FALSE NEIGHBOUR: 'it returns false'. Refute it at one input. -/
def padsChainWrong : ChangeSpec := { name := "padsChain", fn := fun _ => fun
  | [d1, d2, d3] => { results := [.lit (.bool false)], args := [d1, d2, d3] }
  | _ => none }
def PadsChainWrongFalsely : Prop := padsChainRow.holds Try.pinned (OpenSpec.ofChange padsChainWrong)

/-- 'conclavelaw19.PadsApart': WHATEVER THE INPUT: true; the input reads as it did. -/
def padsApartSpec : ChangeSpec := { name := "padsApart", fn := fun _ => fun
  | [d1, d2] => { results := [.lit (.bool true)], args := [d1, d2] }
  | _ => none }
def padsApartRow : OpenClaim := { program := "ytpibiagohfnbmaa", sum := "58cfb84cb30f072545d7fd50dec3c556436ed745b415bbe927b22fb3dd8518ed", func := "conclave/conclavelaw19.PadsApart", spec := "padsApart", apart := false }
def PadsApartSaid : Prop := padsApartRow.holds Try.pinned (OpenSpec.ofChange padsApartSpec)

/-- ITS FALSE NEIGHBOUR: 'it returns false'. Refute it at one input. -/
def padsApartWrong : ChangeSpec := { name := "padsApart", fn := fun _ => fun
  | [d1, d2] => { results := [.lit (.bool false)], args := [d1, d2] }
  | _ => none }
def PadsApartWrongFalsely : Prop := padsApartRow.holds Try.pinned (OpenSpec.ofChange padsApartWrong)

/- THE SECOND FORM. 'bulk': how many values and letters a reading holds, each counted each time it is reached (what is shared counts as often as it is met; a slice's spare places count too). A statement '..UptoSaid' is the law's where the arguments, and the package variables that the reading takes, are together of bulk at most 1048576: NARROWER than '..Said'. Prove '..Said' where nothing that the law and all that it calls make is longer than what came in: it says more and counts as full. Else prove '..UptoSaid'. A law counts once. -/
mutual
def uptoBulk {H : Type} : DataW H → Nat
  | .lit (.string bytes) => bytes.length + 1
  | .lit _ => 1
  | .nil => 1
  | .ptr d => uptoBulk d + 1
  | .slice elems spare => uptoBulkAll elems + uptoBulkAll spare + 1
  | .agg parts => uptoBulkAll parts + 1
  | .iface _ d => uptoBulk d + 1
  | .map entries => uptoBulkEntries entries + 1
  | .held _ => 1
def uptoBulkAll {H : Type} : List (DataW H) → Nat
  | [] => 0
  | d :: r => uptoBulk d + uptoBulkAll r
def uptoBulkEntries {H : Type} : List (Lit × DataW H) → Nat
  | [] => 0
  | x :: r => uptoBulkEntry x + uptoBulkEntries r
def uptoBulkEntry {H : Type} : Lit × DataW H → Nat
  | (.string bytes, d) => bytes.length + uptoBulk d + 1
  | (_, d) => uptoBulk d + 1
 end
def uptoSmall : (H : Type) → List (DataW H) → Bool := fun _ ds => decide (uptoBulkAll ds ≤ 1048576)
def OpenSpec.upto (s : _root_.Go.ChangeSpec) : _root_.Go.OpenSpec := { _root_.Go.OpenSpec.ofChange s with cond := some uptoSmall }

/-- 'conclavelaw19.PadsTakes', WHERE WHAT IT READS IS OF BULK AT MOST 1048576: true; the input reads as it did. -/
def padsTakesUptoRow : OpenClaim := { program := "ytpibiagohfnbmaa", sum := "58cfb84cb30f072545d7fd50dec3c556436ed745b415bbe927b22fb3dd8518ed", func := "conclave/conclavelaw19.PadsTakes", spec := "padsTakes", apart := false, narrowed := true }
def PadsTakesUptoSaid : Prop := padsTakesUptoRow.holds Try.pinned (OpenSpec.upto padsTakesSpec)

/-- 'conclavelaw19.PadsChain', WHERE WHAT IT READS IS OF BULK AT MOST 1048576: true; the input reads as it did. -/
def padsChainUptoRow : OpenClaim := { program := "ytpibiagohfnbmaa", sum := "58cfb84cb30f072545d7fd50dec3c556436ed745b415bbe927b22fb3dd8518ed", func := "conclave/conclavelaw19.PadsChain", spec := "padsChain", apart := false, narrowed := true }
def PadsChainUptoSaid : Prop := padsChainUptoRow.holds Try.pinned (OpenSpec.upto padsChainSpec)

/-- 'conclavelaw19.PadsApart', WHERE WHAT IT READS IS OF BULK AT MOST 1048576: true; the input reads as it did. -/
def padsApartUptoRow : OpenClaim := { program := "ytpibiagohfnbmaa", sum := "58cfb84cb30f072545d7fd50dec3c556436ed745b415bbe927b22fb3dd8518ed", func := "conclave/conclavelaw19.PadsApart", spec := "padsApart", apart := false, narrowed := true }
def PadsApartUptoSaid : Prop := padsApartUptoRow.holds Try.pinned (OpenSpec.upto padsApartSpec)

end Rows
end Go.Proofs.Ytpibiagohfnbmaa
