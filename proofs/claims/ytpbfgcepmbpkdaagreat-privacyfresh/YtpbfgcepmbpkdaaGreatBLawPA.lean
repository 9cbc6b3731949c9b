/-
  What the statements of polynomials take: lists of words; the statements' own 'anchored'.
-/
import Derived.Test.YtpbfgcepmbpkdaaGreatBunQ
import Derived.Test.YtpbfgcepmbpkdaaGreatBunW
namespace Go.Proofs.YtpbfgcepmbpkdaaGreat
open Go.RowKit Fld
set_option linter.unusedVariables false

/-- A list of words, of a length that memory has. -/
def Wd (zs : List Int) : Prop := zs.length ≤ 17592186043904 ∧ ∀ x ∈ zs, 0 ≤ x ∧ x ≤ 18446744073709551615
theorem Wd.row {w : World} {base n : Nat} {v : Value} {zs : List Int} (h : Wd zs) (hO : w.ownsRow base 50 1 v n (vals zs)) : Rw w v zs := rw_of_own hO h.1 h.2
theorem wd_nil : Wd [] := ⟨by simp, by simp⟩
theorem wd_els {p : Int} {zs : List Int} (h : Els p zs) (hp : p ≤ 18446744073709551615) (hl : zs.length ≤ 17592186043904) : Wd zs := ⟨hl, els_words h hp⟩
end Go.Proofs.YtpbfgcepmbpkdaaGreat
