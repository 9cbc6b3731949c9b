import Derived.KernelRfl
set_option linter.unusedVariables false
set_option linter.unusedSimpArgs false
set_option maxRecDepth 100000
set_option maxHeartbeats 4000000
namespace Go.Proofs.Ytcglbbglapomgaa.Fld
theorem prime_of (q s : Nat) (hq : 0 < q) (hs : q < s * s) (h : ∀ d, d < s -> d ∣ q -> d = 1 ∨ d = q) : ∀ d, d ∣ q -> d = 1 ∨ d = q := by
 intro d hd
 by_cases hl : d < s
 · exact h d hl hd
 · obtain ⟨e, he⟩ := hd
   have hes : e < s := by
    apply Nat.lt_of_not_le
    intro hc
    have := Nat.mul_le_mul (Nat.le_of_not_lt hl) hc
    omega
   rcases h e hes ⟨d, by rw [he, Nat.mul_comm]⟩ with h1 | h1
   · right; rw [he, h1, Nat.mul_one]
   · left
     rw [h1] at he
     have : d * q = 1 * q := by omega
     exact Nat.eq_of_mul_eq_mul_right hq this
theorem p2 : ∀ d, d ∣ 2 -> d = 1 ∨ d = 2 := prime_of 2 2 (by decide) (by decide) (by decide)
end Go.Proofs.Ytcglbbglapomgaa.Fld
namespace Go.Proofs.Ytcglbbglapomgaa.Fld
def add (p a b : Int) : Int := (a + b) % p
end Go.Proofs.Ytcglbbglapomgaa.Fld
namespace Go.Proofs.Ytcglbbglapomgaa.Fld
def By (bs : List Int) : Prop := ∀ b ∈ bs, 0 <= b ∧ b <= 255
theorem By.nil : By [] := fun b h => by cases h
theorem By.tail {b : Int} {bs : List Int} (h : By (b :: bs)) : By bs := fun x hx => h x (List.mem_cons_of_mem _ hx)
end Go.Proofs.Ytcglbbglapomgaa.Fld
namespace Go.Proofs.Ytcglbbglapomgaa.Fld
end Go.Proofs.Ytcglbbglapomgaa.Fld
