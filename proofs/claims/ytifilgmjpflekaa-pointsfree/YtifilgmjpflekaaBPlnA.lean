/-
  Layer 12, plain: plans; how many replies they need; the widest one; a plan without some workers.
-/
import Derived.Test.YtifilgmjpflekaaRows
namespace Go.Proofs.Ytifilgmjpflekaa.Pln
set_option linter.unusedVariables false

/-- A plan; its field as a number. -/
structure Pn where
  f : Int
  n : Int
  k : Int
  t : Int
  s : Int
  e : Int
  w : Int
  d : Int
def may (fd : Int → Bool) (p : Pn) : Bool := fd p.f && decide (1 ≤ p.n ∧ p.n ≤ 64 ∧ 1 ≤ p.k ∧ p.k ≤ 64 ∧ 1 ≤ p.w ∧ p.w ≤ 64 ∧ 0 ≤ p.t ∧ p.k + p.t ≤ 64 ∧ 0 ≤ p.s ∧ p.s ≤ 64 ∧ 0 ≤ p.e ∧ p.e ≤ 64 ∧ 0 ≤ p.d ∧ p.d ≤ 1024)
theorem may_iff {fd : Int → Bool} {p : Pn} : may fd p = true ↔ fd p.f = true ∧ (1 ≤ p.n ∧ p.n ≤ 64 ∧ 1 ≤ p.k ∧ p.k ≤ 64 ∧ 1 ≤ p.w ∧ p.w ≤ 64 ∧ 0 ≤ p.t ∧ p.k + p.t ≤ 64 ∧ 0 ≤ p.s ∧ p.s ≤ 64 ∧ 0 ≤ p.e ∧ p.e ≤ 64 ∧ 0 ≤ p.d ∧ p.d ≤ 1024) := by
  unfold may; rw [Bool.and_eq_true, decide_eq_true_iff]
def dg (p : Pn) : Int := p.d * (p.k + p.t - 1)
def need (p : Pn) : Int := dg p + 2 * p.e + 1
def spare (p : Pn) : Int := p.n - (dg p + p.s + 2 * p.e + 1)
def acc (p : Pn) : Prop := dg p + p.s + 2 * p.e + 1 ≤ p.n
theorem dg_bound {fd : Int → Bool} {p : Pn} (h : may fd p = true) : 0 ≤ dg p ∧ dg p ≤ 64512 := by
  have := (may_iff.1 h).2
  refine ⟨Int.mul_nonneg (by omega) (by omega), ?_⟩
  have h1 : p.d * (p.k + p.t - 1) ≤ 1024 * (p.k + p.t - 1) := Int.mul_le_mul_of_nonneg_right (by omega) (by omega)
  unfold dg
  omega
theorem spare_acc {p : Pn} : acc p ↔ 0 ≤ spare p := by unfold acc spare; omega
/-- The greatest K up to a number; 0, if there is none. -/
def wide (p : Pn) : Nat → Nat
  | 0 => 0
  | k + 1 => if dg { p with k := ((k + 1 : Nat) : Int) } + p.s + 2 * p.e + 1 ≤ p.n then k + 1 else wide p k
theorem wide_le (p : Pn) : ∀ n, wide p n ≤ n
  | 0 => Nat.le_refl _
  | n + 1 => by
    show (if _ then _ else _) ≤ _
    split
    · exact Nat.le_refl _
    · exact Nat.le_trans (wide_le p n) (Nat.le_succ _)
theorem wide_acc (p : Pn) : ∀ n, 0 < wide p n → acc { p with k := (wide p n : Int) }
  | 0, h => absurd h (Nat.lt_irrefl _)
  | n + 1, h => by
    by_cases c : dg { p with k := ((n + 1 : Nat) : Int) } + p.s + 2 * p.e + 1 ≤ p.n
    · rw [show wide p (n + 1) = n + 1 from if_pos c]; exact c
    · have e : wide p (n + 1) = wide p n := if_neg c
      rw [e] at h ⊢; exact wide_acc p n h
theorem wide_most (p : Pn) : ∀ n k : Nat, 1 ≤ k → k ≤ n → acc { p with k := (k : Int) } → k ≤ wide p n
  | 0, k, h1, h2, _ => by omega
  | n + 1, k, h1, h2, h => by
    by_cases c : dg { p with k := ((n + 1 : Nat) : Int) } + p.s + 2 * p.e + 1 ≤ p.n
    · rw [show wide p (n + 1) = n + 1 from if_pos c]; exact h2
    · rw [show wide p (n + 1) = wide p n from if_neg c]
      by_cases e : k = n + 1
      · subst e; exact absurd h c
      · exact wide_most p n k h1 (by omega) h
/-- Fewer data blocks ask for no more workers. -/
theorem acc_k {p : Pn} {k : Int} (hd : 0 ≤ p.d) (h : acc p) (hk : k ≤ p.k) : acc { p with k := k } := by
  have : p.d * (k + p.t - 1) ≤ p.d * (p.k + p.t - 1) := Int.mul_le_mul_of_nonneg_left (by omega) hd
  unfold acc dg at *
  dsimp only
  omega
/-- So the greatest one is found from either side: there is one, if 1 is one. -/
theorem wide_one {p : Pn} (hd : 0 ≤ p.d) {n : Nat} (hn : 1 ≤ n) : 0 < wide p n ↔ acc { p with k := 1 } := by
  refine ⟨fun h => ?_, fun h => wide_most p n 1 (Nat.le_refl _) hn h⟩
  have := acc_k (p := { p with k := (wide p n : Int) }) (k := 1) hd (wide_acc p n h) (by show (1 : Int) ≤ (wide p n : Int); omega)
  exact this
theorem acc_n {p : Pn} {n : Int} (h : acc p) (hn : p.n ≤ n) : acc { p with n := n } := by
  unfold acc dg at *; dsimp only; omega
theorem acc_t {p : Pn} {t : Int} (hd : 0 ≤ p.d) (h : acc p) (ht : t ≤ p.t) : acc { p with t := t } := by
  have : p.d * (p.k + t - 1) ≤ p.d * (p.k + p.t - 1) := Int.mul_le_mul_of_nonneg_left (by omega) hd
  unfold acc dg at *
  dsimp only
  omega
theorem acc_s {p : Pn} {s : Int} (h : acc p) (hs : s ≤ p.s) : acc { p with s := s } := by
  unfold acc dg at *; dsimp only; omega
theorem acc_e {p : Pn} {e : Int} (h : acc p) (he : e ≤ p.e) : acc { p with e := e } := by
  unfold acc dg at *; dsimp only; omega
theorem acc_d {p : Pn} {d : Int} (hk : 1 ≤ p.k + p.t) (h : acc p) (hd : d ≤ p.d) : acc { p with d := d } := by
  have : d * (p.k + p.t - 1) ≤ p.d * (p.k + p.t - 1) := Int.mul_le_mul_of_nonneg_right hd (by omega)
  unfold acc dg at *
  dsimp only
  omega
theorem acc_need {p : Pn} (h : acc p) : need p ≤ p.n - p.s := by unfold acc at h; unfold need; omega
def less (p : Pn) (c : Int) : Pn := { p with n := p.n - c, e := p.e - min c p.e }
theorem less_acc {fd : Int → Bool} {p : Pn} (hm : may fd p = true) (h : acc p) {c : Int} (h0 : 0 ≤ c) (hc : c ≤ p.e) : may fd (less p c) = true ∧ acc (less p c) := by
  have hb := dg_bound hm
  have h2 := may_iff.1 hm
  have h3 : dg (less p c) = dg p := rfl
  have h1 : p.e - min c p.e = p.e - c := by omega
  unfold acc at h ⊢
  rw [h3]
  refine ⟨may_iff.2 ⟨h2.1, ?_⟩, ?_⟩
  · unfold less; dsimp only; omega
  · unfold less; dsimp only; omega

end Go.Proofs.Ytifilgmjpflekaa.Pln
