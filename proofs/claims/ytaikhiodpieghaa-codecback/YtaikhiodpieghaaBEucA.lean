import Derived.Test.YtaikhiodpieghaaBunP
set_option linter.unusedVariables false
set_option linter.unusedSimpArgs false
set_option maxRecDepth 100000
set_option maxHeartbeats 4000000
namespace Go.Proofs.Ytaikhiodpieghaa.Fld
def sr (p : Int) : Setoid (Nat -> Int) := ⟨Al p, ⟨Al.refl p, Al.symm, Al.trans⟩⟩
def Pl (p : Int) : Type := Quotient (sr p)
def pu (p : Int) (f : Nat -> Int) : Pl p := Quotient.mk (sr p) f
def pl (p : Int) (xs : List Int) : Pl p := pu p (co xs)
end Go.Proofs.Ytaikhiodpieghaa.Fld
