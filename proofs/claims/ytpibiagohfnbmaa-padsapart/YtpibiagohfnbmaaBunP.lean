import Derived.KernelRfl
set_option linter.unusedVariables false
set_option linter.unusedSimpArgs false
set_option maxRecDepth 100000
set_option maxHeartbeats 4000000
namespace Go.Proofs.Ytpibiagohfnbmaa.Fld
theorem prime_of (q s : Nat) (hq : 0 < q) (hs : q < s * s) (h : ∀ d, d < s -> d ∣ q -> d = 1 ∨ d = q) : ∀ d, d ∣ q -> d = 1 ∨ d = q := by
 intro d hd
 by_cases hl : d < s
 · exact h d hl hd
 · obtain ⟨e, he⟩ := hd
   have hes : e < s := by
    apply Nat.lt_of_not_le
    intro hc
    have := Nat.mul_le_mul (Nat.le_of_not_lt hl) hc
    omega
   rcases h e hes ⟨d, by rw [he, Nat.mul_comm]⟩ with h1 | h1
   · right; rw [he, h1, Nat.mul_one]
   · left
     rw [h1] at he
     have : d * q = 1 * q := by omega
     exact Nat.eq_of_mul_eq_mul_right hq this
theorem p2 : ∀ d, d ∣ 2 -> d = 1 ∨ d = 2 := prime_of 2 2 (by decide) (by decide) (by decide)
end Go.Proofs.Ytpibiagohfnbmaa.Fld
namespace Go.Proofs.Ytpibiagohfnbmaa.Fld
def add (p a b : Int) : Int := (a + b) % p
def Wd (a : Int) : Prop := 0 <= a ∧ a < 18446744073709551616
def Md (p : Int) (wd : Bool) : Prop := (p = 2013265921 ∧ wd = false) ∨ (p = 18446744069414584321 ∧ wd = true)
theorem Md.bounds {p : Int} {wd : Bool} (h : Md p wd) : 2 <= p ∧ p < 18446744073709551616 := by
 rcases h with ⟨h, _⟩ | ⟨h, _⟩ <;> omega
end Go.Proofs.Ytpibiagohfnbmaa.Fld
namespace Go.Proofs.Ytpibiagohfnbmaa.Fld
def ev (t : Int) : Nat -> (Nat -> Int) -> Int
 | 0, _ => 0
 | n + 1, f => f 0 + t * ev t n (fun i => f (i + 1))
end Go.Proofs.Ytpibiagohfnbmaa.Fld
namespace Go.Proofs.Ytpibiagohfnbmaa.Fld
def co (xs : List Int) (i : Nat) : Int := xs.getD i 0
theorem co_at {xs : List Int} {i : Nat} (h : i < xs.length) : co xs i = xs[i] := by simp [co, List.getD_eq_getElem?_getD, h]
theorem ext_co {xs ys : List Int} (hl : xs.length = ys.length) (h : ∀ i, i < xs.length -> co xs i = co ys i) : xs = ys := by
 apply List.ext_getElem hl
 intro i h1 h2
 have := h i h1
 rw [co_at h1, co_at h2] at this; exact this
def mk (n : Nat) (c : Nat -> Int) : List Int := (List.range n).map c
end Go.Proofs.Ytpibiagohfnbmaa.Fld
namespace Go.Proofs.Ytpibiagohfnbmaa.Fld
def hn (p t : Int) (xs : List Int) (i : Nat) : Int := ev t (xs.length - i) (fun j => co xs (i + j)) % p
end Go.Proofs.Ytpibiagohfnbmaa.Fld
