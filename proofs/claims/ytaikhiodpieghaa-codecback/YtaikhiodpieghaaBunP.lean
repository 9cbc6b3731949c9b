import Derived.KernelRfl
set_option linter.unusedVariables false
set_option linter.unusedSimpArgs false
set_option maxRecDepth 100000
set_option maxHeartbeats 4000000
namespace Go.Proofs.Ytaikhiodpieghaa.Fld
theorem prime_of (q s : Nat) (hq : 0 < q) (hs : q < s * s) (h : ∀ d, d < s -> d ∣ q -> d = 1 ∨ d = q) : ∀ d, d ∣ q -> d = 1 ∨ d = q := by
 intro d hd
 by_cases hl : d < s
 · exact h d hl hd
 · obtain ⟨e, he⟩ := hd
   have hes : e < s := by
    apply Nat.lt_of_not_le
    intro hc
    have := Nat.mul_le_mul (Nat.le_of_not_lt hl) hc
    omega
   rcases h e hes ⟨d, by rw [he, Nat.mul_comm]⟩ with h1 | h1
   · right; rw [he, h1, Nat.mul_one]
   · left
     rw [h1] at he
     have : d * q = 1 * q := by omega
     exact Nat.eq_of_mul_eq_mul_right hq this
theorem p2 : ∀ d, d ∣ 2 -> d = 1 ∨ d = 2 := prime_of 2 2 (by decide) (by decide) (by decide)
theorem p5 : ∀ d, d ∣ 5 -> d = 1 ∨ d = 5 := prime_of 5 3 (by decide) (by decide) (by decide)
end Go.Proofs.Ytaikhiodpieghaa.Fld
namespace Go.Proofs.Ytaikhiodpieghaa.Fld
def add (p a b : Int) : Int := (a + b) % p
def El (p a : Int) : Prop := 0 <= a ∧ a < p
def Md (p : Int) (wd : Bool) : Prop := (p = 2013265921 ∧ wd = false) ∨ (p = 18446744069414584321 ∧ wd = true)
theorem Md.bounds {p : Int} {wd : Bool} (h : Md p wd) : 2 <= p ∧ p < 18446744073709551616 := by
 rcases h with ⟨h, _⟩ | ⟨h, _⟩ <;> omega
end Go.Proofs.Ytaikhiodpieghaa.Fld
namespace Go.Proofs.Ytaikhiodpieghaa.Fld
def ev (t : Int) : Nat -> (Nat -> Int) -> Int
 | 0, _ => 0
 | n + 1, f => f 0 + t * ev t n (fun i => f (i + 1))
def Al (p : Int) (f g : Nat -> Int) : Prop := ∀ i, f i % p = g i % p
theorem Al.refl (p : Int) (f : Nat -> Int) : Al p f f := fun _ => rfl
theorem Al.symm {p : Int} {f g : Nat -> Int} (h : Al p f g) : Al p g f := fun i => (h i).symm
theorem Al.trans {p : Int} {f g h : Nat -> Int} (h1 : Al p f g) (h2 : Al p g h) : Al p f h := fun i => (h1 i).trans (h2 i)
end Go.Proofs.Ytaikhiodpieghaa.Fld
namespace Go.Proofs.Ytaikhiodpieghaa.Fld
def co (xs : List Int) (i : Nat) : Int := xs.getD i 0
def mk (n : Nat) (c : Nat -> Int) : List Int := (List.range n).map c
end Go.Proofs.Ytaikhiodpieghaa.Fld
namespace Go.Proofs.Ytaikhiodpieghaa.Fld
def vl (p t : Int) (xs : List Int) : Int := ev t xs.length (co xs) % p
def hn (p t : Int) (xs : List Int) (i : Nat) : Int := ev t (xs.length - i) (fun j => co xs (i + j)) % p
end Go.Proofs.Ytaikhiodpieghaa.Fld
