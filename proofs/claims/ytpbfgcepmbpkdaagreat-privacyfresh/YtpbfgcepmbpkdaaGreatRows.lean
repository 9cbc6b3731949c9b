/-
  No cell of these rows narrows 'for every input' (looked for: loops, veiled, ifaces, maps, wideKeys, modest, calm, conditions, laid).
  DERIVED. THE GIVEN ROWS OF THIS SEAT. 5 by the template 'for every input the law returns true; each argument reads behind the call as it read before'; 0 by the template 'total and deterministic' (their statements: YtpbfgcepmbpkdaaGreatTotals.lean).
  GIVEN WITH THE SEED: the statements are not yours to turn. If you find one false, say at which input.
  Laid BY PROGRAM, IN A SANDBOX (cutbox-rows.mjs): the forced cells as the released guide's own fill.sh prints them over the translation e66f2684acfb6209… (all of the seat's roots in one cut). By AI agents, Wed Nov 11 2026. No macro, syntax, notation, axiom, sorry.
-/
import Derived.Test.YtpbfgcepmbpkdaaGreatChecked
import GoSem.Claim
import GoSem.ClaimJoined
import GoSem.ClaimMapViews
import Derived.JoinedTies
import Derived.KernelRfl
namespace Go.Proofs.YtpbfgcepmbpkdaaGreat
/- THE CELL 'sum', in the pinned program and in every row, IS THE sha256 OF THE DUMP (.gsa) THAT YtpbfgcepmbpkdaaGreatProg.lean LOADS. Nothing in Lean hashes anything: it is a label: what it is worth is what the hold of that sum in a sandbox is worth. -/
noncomputable def Tryz.pinned : Pinned := { name := "ytpbfgcepmbpkdaagreat", sum := "e66f2684acfb6209346b32cc20fd185121717ace08b95428a116181ac29b5b59", checked := Tryz.checked }
namespace Rows
def none {H : Type} : Left H := { results := [], args := [] }

/-- 'conclavelaw15.PrivacyTwins': WHATEVER THE INPUT: true; the input reads as it did. -/
def privacyTwinsSpec : ChangeSpec := { name := "privacyTwins", fn := fun _ => fun
  | [d1, d2, d3] => { results := [.lit (.bool true)], args := [d1, d2, d3] }
  | _ => none }
def privacyTwinsRow : OpenClaim := { program := "ytpbfgcepmbpkdaagreat", sum := "e66f2684acfb6209346b32cc20fd185121717ace08b95428a116181ac29b5b59", func := "conclave/conclavelaw15.PrivacyTwins", spec := "privacyTwins", inPlace := ["math/bits.Sub64", "math/bits.Add64"], unfollowed := true, recurses := true, named := ["math/bits.divideError", "math/bits.overflowError"], apart := false }
def PrivacyTwinsSaid : Prop := privacyTwinsRow.holds Tryz.pinned (OpenSpec.ofChange privacyTwinsSpec)

/-- ITS FALSE NEIGHBOUR: 'it returns false'. Refute it at one input. -/
def privacyTwinsWrong : ChangeSpec := { name := "privacyTwins", fn := fun _ => fun
  | [d1, d2, d3] => { results := [.lit (.bool false)], args := [d1, d2, d3] }
  | _ => none }
def PrivacyTwinsWrongFalsely : Prop := privacyTwinsRow.holds Tryz.pinned (OpenSpec.ofChange privacyTwinsWrong)

/-- 'conclavelaw15.PrivacySeen': WHATEVER THE INPUT: true; the input reads as it did. -/
def privacySeenSpec : ChangeSpec := { name := "privacySeen", fn := fun _ => fun
  | [d1, d2, d3] => { results := [.lit (.bool true)], args := [d1, d2, d3] }
  | _ => none }
def privacySeenRow : OpenClaim := { program := "ytpbfgcepmbpkdaagreat", sum := "e66f2684acfb6209346b32cc20fd185121717ace08b95428a116181ac29b5b59", func := "conclave/conclavelaw15.PrivacySeen", spec := "privacySeen", inPlace := ["math/bits.Sub64", "math/bits.Add64"], unfollowed := true, recurses := true, named := ["math/bits.divideError", "math/bits.overflowError"], apart := false }
def PrivacySeenSaid : Prop := privacySeenRow.holds Tryz.pinned (OpenSpec.ofChange privacySeenSpec)

/-- ITS FALSE NEIGHBOUR: 'it returns false'. Refute it at one input. -/
def privacySeenWrong : ChangeSpec := { name := "privacySeen", fn := fun _ => fun
  | [d1, d2, d3] => { results := [.lit (.bool false)], args := [d1, d2, d3] }
  | _ => none }
def PrivacySeenWrongFalsely : Prop := privacySeenRow.holds Tryz.pinned (OpenSpec.ofChange privacySeenWrong)

/-- 'conclavelaw15.PrivacySame': WHATEVER THE INPUT: true; the input reads as it did. -/
def privacySameSpec : ChangeSpec := { name := "privacySame", fn := fun _ => fun
  | [d1, d2, d3] => { results := [.lit (.bool true)], args := [d1, d2, d3] }
  | _ => none }
def privacySameRow : OpenClaim := { program := "ytpbfgcepmbpkdaagreat", sum := "e66f2684acfb6209346b32cc20fd185121717ace08b95428a116181ac29b5b59", func := "conclave/conclavelaw15.PrivacySame", spec := "privacySame", inPlace := ["math/bits.Sub64", "math/bits.Add64"], unfollowed := true, recurses := true, named := ["math/bits.divideError", "math/bits.overflowError"], apart := false }
def PrivacySameSaid : Prop := privacySameRow.holds Tryz.pinned (OpenSpec.ofChange privacySameSpec)

/-- ITS FALSE NEIGHBOUR: 'it returns false'. Refute it at one input. -/
def privacySameWrong : ChangeSpec := { name := "privacySame", fn := fun _ => fun
  | [d1, d2, d3] => { results := [.lit (.bool false)], args := [d1, d2, d3] }
  | _ => none }
def PrivacySameWrongFalsely : Prop := privacySameRow.holds Tryz.pinned (OpenSpec.ofChange privacySameWrong)

/-- 'conclavelaw15.PrivacyBack': WHATEVER THE INPUT: true; the input reads as it did. -/
def privacyBackSpec : ChangeSpec := { name := "privacyBack", fn := fun _ => fun
  | [d1, d2, d3] => { results := [.lit (.bool true)], args := [d1, d2, d3] }
  | _ => none }
def privacyBackRow : OpenClaim := { program := "ytpbfgcepmbpkdaagreat", sum := "e66f2684acfb6209346b32cc20fd185121717ace08b95428a116181ac29b5b59", func := "conclave/conclavelaw15.PrivacyBack", spec := "privacyBack", inPlace := ["math/bits.Sub64", "math/bits.Add64"], unfollowed := true, recurses := true, named := ["math/bits.divideError", "math/bits.overflowError"], apart := false }
def PrivacyBackSaid : Prop := privacyBackRow.holds Tryz.pinned (OpenSpec.ofChange privacyBackSpec)

/-- ITS FALSE NEIGHBOUR: 'it returns false'. Refute it at one input. -/
def privacyBackWrong : ChangeSpec := { name := "privacyBack", fn := fun _ => fun
  | [d1, d2, d3] => { results := [.lit (.bool false)], args := [d1, d2, d3] }
  | _ => none }
def PrivacyBackWrongFalsely : Prop := privacyBackRow.holds Tryz.pinned (OpenSpec.ofChange privacyBackWrong)

/-- 'conclavelaw15.PrivacyFresh': WHATEVER THE INPUT: true; the input reads as it did. -/
def privacyFreshSpec : ChangeSpec := { name := "privacyFresh", fn := fun _ => fun
  | [d1, d2, d3] => { results := [.lit (.bool true)], args := [d1, d2, d3] }
  | _ => none }
def privacyFreshRow : OpenClaim := { program := "ytpbfgcepmbpkdaagreat", sum := "e66f2684acfb6209346b32cc20fd185121717ace08b95428a116181ac29b5b59", func := "conclave/conclavelaw15.PrivacyFresh", spec := "privacyFresh", inPlace := ["math/bits.Sub64", "math/bits.Add64"], unfollowed := true, recurses := true, named := ["math/bits.divideError", "math/bits.overflowError"], apart := false }
def PrivacyFreshSaid : Prop := privacyFreshRow.holds Tryz.pinned (OpenSpec.ofChange privacyFreshSpec)

/-- ITS FALSE NEIGHBOUR: 'it returns false'. Refute it at one input. -/
def privacyFreshWrong : ChangeSpec := { name := "privacyFresh", fn := fun _ => fun
  | [d1, d2, d3] => { results := [.lit (.bool false)], args := [d1, d2, d3] }
  | _ => none }
def PrivacyFreshWrongFalsely : Prop := privacyFreshRow.holds Tryz.pinned (OpenSpec.ofChange privacyFreshWrong)

/- THE SECOND FORM. 'bulk': how many values and letters a reading holds, each counted each time it is reached (what is shared counts as often as it is met; a slice's spare places count too). A statement '..UptoSaid' is the law's where the arguments, and the package variables that the reading takes, are together of bulk at most 1048576: NARROWER than '..Said'. Prove '..Said' where nothing that the law and all that it calls make is longer than what came in: it says more and counts as full. Else prove '..UptoSaid'. A law counts once. -/
mutual
def uptoBulk {H : Type} : DataW H → Nat
  | .lit (.string bytes) => bytes.length + 1
  | .lit _ => 1
  | .nil => 1
  | .ptr d => uptoBulk d + 1
  | .slice elems spare => uptoBulkAll elems + uptoBulkAll spare + 1
  | .agg parts => uptoBulkAll parts + 1
  | .iface _ d => uptoBulk d + 1
  | .map entries => uptoBulkEntries entries + 1
  | .held _ => 1
def uptoBulkAll {H : Type} : List (DataW H) → Nat
  | [] => 0
  | d :: r => uptoBulk d + uptoBulkAll r
def uptoBulkEntries {H : Type} : List (Lit × DataW H) → Nat
  | [] => 0
  | x :: r => uptoBulkEntry x + uptoBulkEntries r
def uptoBulkEntry {H : Type} : Lit × DataW H → Nat
  | (.string bytes, d) => bytes.length + uptoBulk d + 1
  | (_, d) => uptoBulk d + 1
 end
def uptoSmall : (H : Type) → List (DataW H) → Bool := fun _ ds => decide (uptoBulkAll ds ≤ 1048576)
def OpenSpec.upto (s : _root_.Go.ChangeSpec) : _root_.Go.OpenSpec := { _root_.Go.OpenSpec.ofChange s with cond := some uptoSmall }

/-- 'conclavelaw15.PrivacyTwins', WHERE WHAT IT READS IS OF BULK AT MOST 1048576: true; the input reads as it did. -/
def privacyTwinsUptoRow : OpenClaim := { program := "ytpbfgcepmbpkdaagreat", sum := "e66f2684acfb6209346b32cc20fd185121717ace08b95428a116181ac29b5b59", func := "conclave/conclavelaw15.PrivacyTwins", spec := "privacyTwins", inPlace := ["math/bits.Sub64", "math/bits.Add64"], unfollowed := true, recurses := true, named := ["math/bits.divideError", "math/bits.overflowError"], apart := false, narrowed := true }
def PrivacyTwinsUptoSaid : Prop := privacyTwinsUptoRow.holds Tryz.pinned (OpenSpec.upto privacyTwinsSpec)

/-- 'conclavelaw15.PrivacySeen', WHERE WHAT IT READS IS OF BULK AT MOST 1048576: true; the input reads as it did. -/
def privacySeenUptoRow : OpenClaim := { program := "ytpbfgcepmbpkdaagreat", sum := "e66f2684acfb6209346b32cc20fd185121717ace08b95428a116181ac29b5b59", func := "conclave/conclavelaw15.PrivacySeen", spec := "privacySeen", inPlace := ["math/bits.Sub64", "math/bits.Add64"], unfollowed := true, recurses := true, named := ["math/bits.divideError", "math/bits.overflowError"], apart := false, narrowed := true }
def PrivacySeenUptoSaid : Prop := privacySeenUptoRow.holds Tryz.pinned (OpenSpec.upto privacySeenSpec)

/-- 'conclavelaw15.PrivacySame', WHERE WHAT IT READS IS OF BULK AT MOST 1048576: true; the input reads as it did. -/
def privacySameUptoRow : OpenClaim := { program := "ytpbfgcepmbpkdaagreat", sum := "e66f2684acfb6209346b32cc20fd185121717ace08b95428a116181ac29b5b59", func := "conclave/conclavelaw15.PrivacySame", spec := "privacySame", inPlace := ["math/bits.Sub64", "math/bits.Add64"], unfollowed := true, recurses := true, named := ["math/bits.divideError", "math/bits.overflowError"], apart := false, narrowed := true }
def PrivacySameUptoSaid : Prop := privacySameUptoRow.holds Tryz.pinned (OpenSpec.upto privacySameSpec)

/-- 'conclavelaw15.PrivacyBack', WHERE WHAT IT READS IS OF BULK AT MOST 1048576: true; the input reads as it did. -/
def privacyBackUptoRow : OpenClaim := { program := "ytpbfgcepmbpkdaagreat", sum := "e66f2684acfb6209346b32cc20fd185121717ace08b95428a116181ac29b5b59", func := "conclave/conclavelaw15.PrivacyBack", spec := "privacyBack", inPlace := ["math/bits.Sub64", "math/bits.Add64"], unfollowed := true, recurses := true, named := ["math/bits.divideError", "math/bits.overflowError"], apart := false, narrowed := true }
def PrivacyBackUptoSaid : Prop := privacyBackUptoRow.holds Tryz.pinned (OpenSpec.upto privacyBackSpec)

/-- 'conclavelaw15.PrivacyFresh', WHERE WHAT IT READS IS OF BULK AT MOST 1048576: true; the input reads as it did. -/
def privacyFreshUptoRow : OpenClaim := { program := "ytpbfgcepmbpkdaagreat", sum := "e66f2684acfb6209346b32cc20fd185121717ace08b95428a116181ac29b5b59", func := "conclave/conclavelaw15.PrivacyFresh", spec := "privacyFresh", inPlace := ["math/bits.Sub64", "math/bits.Add64"], unfollowed := true, recurses := true, named := ["math/bits.divideError", "math/bits.overflowError"], apart := false, narrowed := true }
def PrivacyFreshUptoSaid : Prop := privacyFreshUptoRow.holds Tryz.pinned (OpenSpec.upto privacyFreshSpec)

end Rows
end Go.Proofs.YtpbfgcepmbpkdaaGreat
