/-
  No cell of these rows narrows 'for every input' (looked for: loops, veiled, ifaces, maps, wideKeys, modest, calm, conditions, laid).
  DERIVED. THE GIVEN ROWS OF THIS SEAT. 4 by the template 'for every input the law returns true; each argument reads behind the call as it read before'; 0 by the template 'total and deterministic' (their statements: YtipobchbnjgenaaGreatTotals.lean).
  GIVEN WITH THE SEED: the statements are not yours to turn. If you find one false, say at which input.
  Laid BY PROGRAM, IN A SANDBOX (cutbox-rows.mjs): the forced cells as the released guide's own fill.sh prints them over the translation abfb9a34ab75c3d1… (all of the seat's roots in one cut). By AI agents, Wed Nov 11 2026. No macro, syntax, notation, axiom, sorry.
-/
import Derived.Test.YtipobchbnjgenaaGreatChecked
import GoSem.Claim
import GoSem.ClaimJoined
import GoSem.ClaimMapViews
import Derived.JoinedTies
import Derived.KernelRfl
namespace Go.Proofs.YtipobchbnjgenaaGreat
/- THE CELL 'sum', in the pinned program and in every row, IS THE sha256 OF THE DUMP (.gsa) THAT YtipobchbnjgenaaGreatProg.lean LOADS. Nothing in Lean hashes anything: it is a label: what it is worth is what the hold of that sum in a sandbox is worth. -/
noncomputable def Tryz.pinned : Pinned := { name := "ytipobchbnjgenaagreat", sum := "abfb9a34ab75c3d17606280dcef5f02c096ea8956174f59e07bf25cea6a4e7c7", checked := Tryz.checked }
namespace Rows
def none {H : Type} : Left H := { results := [], args := [] }

/-- 'conclavelaw24.WorkerPlays': WHATEVER THE INPUT: true; the input reads as it did. -/
def workerPlaysSpec : ChangeSpec := { name := "workerPlays", fn := fun _ => fun
  | [d1, d2, d3] => { results := [.lit (.bool true)], args := [d1, d2, d3] }
  | _ => none }
def workerPlaysRow : OpenClaim := { program := "ytipobchbnjgenaagreat", sum := "abfb9a34ab75c3d17606280dcef5f02c096ea8956174f59e07bf25cea6a4e7c7", func := "conclave/conclavelaw24.WorkerPlays", spec := "workerPlays", unfollowed := true, recurses := true, apart := false }
def WorkerPlaysSaid : Prop := workerPlaysRow.holds Tryz.pinned (OpenSpec.ofChange workerPlaysSpec)

/-- ITS FALSE NEIGHBOUR: 'it returns false'. Refute it at one input. -/
def workerPlaysWrong : ChangeSpec := { name := "workerPlays", fn := fun _ => fun
  | [d1, d2, d3] => { results := [.lit (.bool false)], args := [d1, d2, d3] }
  | _ => none }
def WorkerPlaysWrongFalsely : Prop := workerPlaysRow.holds Tryz.pinned (OpenSpec.ofChange workerPlaysWrong)

/-- 'conclavelaw24.WorkerNil': WHATEVER THE INPUT: true; the input reads as it did. -/
def workerNilSpec : ChangeSpec := { name := "workerNil", fn := fun _ => fun
  | [d1, d2] => { results := [.lit (.bool true)], args := [d1, d2] }
  | _ => none }
def workerNilRow : OpenClaim := { program := "ytipobchbnjgenaagreat", sum := "abfb9a34ab75c3d17606280dcef5f02c096ea8956174f59e07bf25cea6a4e7c7", func := "conclave/conclavelaw24.WorkerNil", spec := "workerNil", unfollowed := true, recurses := true, apart := false }
def WorkerNilSaid : Prop := workerNilRow.holds Tryz.pinned (OpenSpec.ofChange workerNilSpec)

/-- ITS FALSE NEIGHBOUR: 'it returns false'. Refute it at one input. -/
def workerNilWrong : ChangeSpec := { name := "workerNil", fn := fun _ => fun
  | [d1, d2] => { results := [.lit (.bool false)], args := [d1, d2] }
  | _ => none }
def WorkerNilWrongFalsely : Prop := workerNilRow.holds Tryz.pinned (OpenSpec.ofChange workerNilWrong)

/-- 'conclavelaw24.WorkerOnce': WHATEVER THE INPUT: true; the input reads as it did. -/
def workerOnceSpec : ChangeSpec := { name := "workerOnce", fn := fun _ => fun
  | [d1, d2, d3] => { results := [.lit (.bool true)], args := [d1, d2, d3] }
  | _ => none }
def workerOnceRow : OpenClaim := { program := "ytipobchbnjgenaagreat", sum := "abfb9a34ab75c3d17606280dcef5f02c096ea8956174f59e07bf25cea6a4e7c7", func := "conclave/conclavelaw24.WorkerOnce", spec := "workerOnce", unfollowed := true, recurses := true, apart := false }
def WorkerOnceSaid : Prop := workerOnceRow.holds Tryz.pinned (OpenSpec.ofChange workerOnceSpec)

/-- ITS FALSE NEIGHBOUR: 'it returns false'. Refute it at one input. -/
def workerOnceWrong : ChangeSpec := { name := "workerOnce", fn := fun _ => fun
  | [d1, d2, d3] => { results := [.lit (.bool false)], args := [d1, d2, d3] }
  | _ => none }
def WorkerOnceWrongFalsely : Prop := workerOnceRow.holds Tryz.pinned (OpenSpec.ofChange workerOnceWrong)

/-- 'conclavelaw24.WorkerFresh': WHATEVER THE INPUT: true; the input reads as it did. -/
def workerFreshSpec : ChangeSpec := { name := "workerFresh", fn := fun _ => fun
  | [d1, d2, d3] => { results := [.lit (.bool true)], args := [d1, d2, d3] }
  | _ => none }
def workerFreshRow : OpenClaim := { program := "ytipobchbnjgenaagreat", sum := "abfb9a34ab75c3d17606280dcef5f02c096ea8956174f59e07bf25cea6a4e7c7", func := "conclave/conclavelaw24.WorkerFresh", spec := "workerFresh", unfollowed := true, recurses := true, apart := false }
def WorkerFreshSaid : Prop := workerFreshRow.holds Tryz.pinned (OpenSpec.ofChange workerFreshSpec)

/-- ITS FALSE NEIGHBOUR: 'it returns false'. Refute it at one input. -/
def workerFreshWrong : ChangeSpec := { name := "workerFresh", fn := fun _ => fun
  | [d1, d2, d3] => { results := [.lit (.bool false)], args := [d1, d2, d3] }
  | _ => none }
def WorkerFreshWrongFalsely : Prop := workerFreshRow.holds Tryz.pinned (OpenSpec.ofChange workerFreshWrong)

/- THE SECOND FORM. 'bulk': how many values and letters a reading holds, each counted each time it is reached (what is shared counts as often as it is met; a slice's spare places count too). A statement '..UptoSaid' is the law's where the arguments, and the package variables that the reading takes, are together of bulk at most 1048576: NARROWER than '..Said'. Prove '..Said' where nothing that the law and all that it calls make is longer than what came in: it says more and counts as full. Else prove '..UptoSaid'. A law counts once. -/
mutual
def uptoBulk {H : Type} : DataW H → Nat
  | .lit (.string bytes) => bytes.length + 1
  | .lit _ => 1
  | .nil => 1
  | .ptr d => uptoBulk d + 1
  | .slice elems spare => uptoBulkAll elems + uptoBulkAll spare + 1
  | .agg parts => uptoBulkAll parts + 1
  | .iface _ d => uptoBulk d + 1
  | .map entries => uptoBulkEntries entries + 1
  | .held _ => 1
def uptoBulkAll {H : Type} : List (DataW H) → Nat
  | [] => 0
  | d :: r => uptoBulk d + uptoBulkAll r
def uptoBulkEntries {H : Type} : List (Lit × DataW H) → Nat
  | [] => 0
  | x :: r => uptoBulkEntry x + uptoBulkEntries r
def uptoBulkEntry {H : Type} : Lit × DataW H → Nat
  | (.string bytes, d) => bytes.length + uptoBulk d + 1
  | (_, d) => uptoBulk d + 1
 end
def uptoSmall : (H : Type) → List (DataW H) → Bool := fun _ ds => decide (uptoBulkAll ds ≤ 1048576)
def OpenSpec.upto (s : _root_.Go.ChangeSpec) : _root_.Go.OpenSpec := { _root_.Go.OpenSpec.ofChange s with cond := some uptoSmall }

/-- 'conclavelaw24.WorkerPlays', WHERE WHAT IT READS IS OF BULK AT MOST 1048576: true; the input reads as it did. -/
def workerPlaysUptoRow : OpenClaim := { program := "ytipobchbnjgenaagreat", sum := "abfb9a34ab75c3d17606280dcef5f02c096ea8956174f59e07bf25cea6a4e7c7", func := "conclave/conclavelaw24.WorkerPlays", spec := "workerPlays", unfollowed := true, recurses := true, apart := false, narrowed := true }
def WorkerPlaysUptoSaid : Prop := workerPlaysUptoRow.holds Tryz.pinned (OpenSpec.upto workerPlaysSpec)

/-- 'conclavelaw24.WorkerNil', WHERE WHAT IT READS IS OF BULK AT MOST 1048576: true; the input reads as it did. -/
def workerNilUptoRow : OpenClaim := { program := "ytipobchbnjgenaagreat", sum := "abfb9a34ab75c3d17606280dcef5f02c096ea8956174f59e07bf25cea6a4e7c7", func := "conclave/conclavelaw24.WorkerNil", spec := "workerNil", unfollowed := true, recurses := true, apart := false, narrowed := true }
def WorkerNilUptoSaid : Prop := workerNilUptoRow.holds Tryz.pinned (OpenSpec.upto workerNilSpec)

/-- 'conclavelaw24.WorkerOnce', WHERE WHAT IT READS IS OF BULK AT MOST 1048576: true; the input reads as it did. -/
def workerOnceUptoRow : OpenClaim := { program := "ytipobchbnjgenaagreat", sum := "abfb9a34ab75c3d17606280dcef5f02c096ea8956174f59e07bf25cea6a4e7c7", func := "conclave/conclavelaw24.WorkerOnce", spec := "workerOnce", unfollowed := true, recurses := true, apart := false, narrowed := true }
def WorkerOnceUptoSaid : Prop := workerOnceUptoRow.holds Tryz.pinned (OpenSpec.upto workerOnceSpec)

/-- 'conclavelaw24.WorkerFresh', WHERE WHAT IT READS IS OF BULK AT MOST 1048576: true; the input reads as it did. -/
def workerFreshUptoRow : OpenClaim := { program := "ytipobchbnjgenaagreat", sum := "abfb9a34ab75c3d17606280dcef5f02c096ea8956174f59e07bf25cea6a4e7c7", func := "conclave/conclavelaw24.WorkerFresh", spec := "workerFresh", unfollowed := true, recurses := true, apart := false, narrowed := true }
def WorkerFreshUptoSaid : Prop := workerFreshUptoRow.holds Tryz.pinned (OpenSpec.upto workerFreshSpec)

end Rows
end Go.Proofs.YtipobchbnjgenaaGreat
