import Derived.Test.YtpibiagohfnbmaaBunQ
set_option linter.unusedVariables false
set_option linter.unusedSimpArgs false
set_option maxRecDepth 100000
set_option maxHeartbeats 4000000
namespace Go.Proofs.Ytpibiagohfnbmaa
open Go.RowKit Fld
def Wd (zs : List Int) : Prop := zs.length <= 17592186043904 ∧ ∀ x ∈ zs, 0 <= x ∧ x <= 18446744073709551615
theorem Wd.row {w : World} {base n : Nat} {v : Value} {zs : List Int} (h : Wd zs) (hO : w.ownsRow base 49 1 v n (vals zs)) : Rw w v zs := rw_of_own hO h.1 h.2
theorem wd_nil : Wd [] := ⟨by simp, by simp⟩
end Go.Proofs.Ytpibiagohfnbmaa
