/-
  Polynomials: the program's division.
-/
import Derived.Test.YtifilgmjpflekaaBunQ
import Derived.Test.YtifilgmjpflekaaBunW
import Derived.WalkMore
namespace Go.Proofs.Ytifilgmjpflekaa
open Go.RowKit Fld
set_option linter.unusedVariables false

namespace Fld
/-- What the division keeps: nothing of the quotient below k, nothing of the rest from k + m on. -/
def DI (p : Int) (xs qs A R : List Int) (m k : Nat) : Prop :=
  Els p A ∧ Els p R ∧ (∀ i, i < k → co A i = 0) ∧ (∀ i, k + m ≤ i → co R i = 0) ∧ Al p (fun i => cv (co A) (co qs) i + co R i) (co xs)
theorem co_rep (n i : Nat) : co (List.replicate n 0) i = 0 := by
  unfold co
  rw [List.getD_eq_getElem?_getD, List.getElem?_replicate]
  split <;> rfl
theorem els_rep {p : Int} (hp : 0 < p) (n : Nat) : Els p (List.replicate n 0) := fun x hx => by rw [List.eq_of_mem_replicate hx]; exact ⟨Int.le_refl 0, hp⟩
theorem DI.start {p : Int} {xs qs : List Int} {n m : Nat} (hp : 0 < p) (hx : Els p xs) (h : (tr xs).length ≤ n + m) : DI p xs qs (List.replicate n 0) (tr xs) m n :=
  ⟨els_rep hp n, hx.tr hp, fun i _ => co_rep n i, fun i hi => by rw [co_tr]; exact tr_out xs i (by omega), fun i => by
    show (cv (co (List.replicate n 0)) (co qs) i + co (tr xs) i) % p = co xs i % p
    rw [cv_zero_left _ i _ (fun j _ => co_rep n j), Int.zero_add, co_tr]⟩
theorem DI.skip {p : Int} {xs qs A R : List Int} {m k : Nat} (h : DI p xs qs A R m (k + 1)) (h0 : co R (k + m) = 0) : DI p xs qs A R m k :=
  ⟨h.1, h.2.1, fun i hi => h.2.2.1 i (by omega), fun i hi => by
    by_cases he : i = k + m
    · rw [he]; exact h0
    · exact h.2.2.2.1 i (by omega), h.2.2.2.2⟩
theorem neg_mod (p r c q : Int) : (r + sub p 0 c * q) % p = (r - c * q) % p := by
  unfold sub
  rw [Int.add_emod, Int.mul_emod, Int.emod_emod_of_dvd _ (Int.dvd_refl p), ← Int.mul_emod, ← Int.add_emod, Int.sub_mul, Int.zero_mul]
  congr 1; omega
theorem top_gone {p r q iv : Int} (hi : (q * iv) % p = 1 % p) : (r - (r * iv) % p * q) % p = 0 := by
  have e : ((r * iv) % p * q) % p = r % p := by
    rw [Int.mul_emod, Int.emod_emod_of_dvd _ (Int.dvd_refl p), ← Int.mul_emod, Int.mul_assoc, Int.mul_comm iv q, Int.mul_emod, hi, ← Int.mul_emod, Int.mul_one]
  rw [Int.sub_emod, e, Int.sub_self]; rfl
theorem DI.step {p c iv : Int} {xs qs A R : List Int} {m k : Nat} (hp : 0 < p) (hq : qs.length = m + 1) (hi : (co qs m * iv) % p = 1 % p) (hc : c = (co R (k + m) * iv) % p) (hA : k < A.length) (hR : k + m < R.length)
    (h : DI p xs qs A R m (k + 1)) : DI p xs qs (A.set k c) (gr p (sub p 0 c) k qs R qs.length) m k := by
  obtain ⟨h1, h2, h3, h4, h5⟩ := h
  refine ⟨Els.of_co fun i _ => ?_, els_gr hp h2 _, fun i hi' => ?_, fun i hi' => ?_, div_step h5 (d := k) (c := c) (fun i => ?_) (fun i => ?_)⟩
  · rw [co_set _ _ _ _ hA]; split
    · rw [hc]; exact emod_el hp _
    · exact h1.co hp i
  · rw [co_set _ _ _ _ hA, if_neg (by omega)]; exact h3 i (by omega)
  · rw [co_gr]
    by_cases he : i = k + m
    · subst he
      have e : k + m - k = m := by omega
      rw [if_pos (by omega), e, neg_mod, hc]
      exact top_gone hi
    · rw [if_neg (by omega)]; exact h4 i (by omega)
  · rw [co_set _ _ _ _ hA]
    unfold pt
    by_cases he : i = k
    · rw [if_pos he, if_pos he, he, h3 k (by omega), Int.zero_add]
    · rw [if_neg he, if_neg he, Int.add_zero]
  · rw [co_gr]
    by_cases hk : k ≤ i
    · rw [if_pos hk]
      by_cases hr : i < k + qs.length
      · rw [if_pos (by omega), Int.emod_emod_of_dvd _ (Int.dvd_refl p), neg_mod]
      · rw [if_neg (by omega), co_out qs (i - k) (by omega), Int.mul_zero, Int.sub_zero]
    · rw [if_neg (by omega), if_neg hk, Int.sub_zero]
theorem DI.fin {p : Int} {wd : Bool} {xs qs A R : List Int} {m n : Nat} (hm : Md p wd) (hx : Els p xs) (tq : tr qs = qs) (hq : qs.length = m + 1) (hA : A.length = n) (hn : n = 0 ∨ n + m = (tr xs).length)
    (h : DI p xs qs A R m 0) : Dv p xs qs A (tr R) := by
  have hp : 0 < p := by have := hm.bounds; omega
  obtain ⟨h1, h2, h3, h4, h5⟩ := h
  refine ⟨h1, h2.tr hp, ?_, tr_tr R, ?_, fun i => ?_⟩
  · by_cases hA0 : A = []
    · rw [hA0]; rfl
    apply tr_full
    right
    have hA1 := List.length_pos_iff.2 hA0
    intro h0
    have e := h5 ((n - 1) + m)
    have e1 : cv (co A) (co qs) ((n - 1) + m) = co A (n - 1) * co qs m := cv_top (n := m) (n - 1) (f := co A) (g := co qs) (fun i hi => co_out _ _ (by omega)) (fun i hi => co_out _ _ (by omega))
    rw [hA] at h0
    simp only [e1, h0, Int.zero_mul, Int.zero_add] at e
    rw [h4 _ (by omega), Int.zero_emod] at e
    have hne : tr xs ≠ [] := by intro h; rw [h] at hn; simp at hn; omega
    have e2 := tr_last xs hne
    have e3 : (tr xs).length - 1 = (n - 1) + m := by omega
    rw [e3] at e2
    rw [(hx.co hp _).mod] at e
    exact e2 e.symm
  · rw [tq, hq]
    by_cases hR : tr R = []
    · rw [hR]; simp
    · have := tr_last R hR
      have hR1 := List.length_pos_iff.2 hR
      apply Nat.lt_of_not_le
      intro hc
      exact this (h4 _ (by omega))
  · show (cv (co A) (co qs) i + co (tr R) i) % p = co xs i % p
    rw [co_tr]; exact h5 i
end Fld

theorem inv_one {p a : Int} {wd : Bool} (hm : Md p wd) (ha : El p a) (h0 : a ≠ 0) : (a * inv p a) % p = 1 % p := by
  have h := mul_inv hm a ha h0
  have h1 := one_el hm
  unfold mul at h
  rw [h, Int.emod_eq_of_lt h1.1 h1.2]
theorem Inv_yes3 (f p a : Int) (wd : Bool) (w : World) (h : Fi f p wd) (ha : El p a) (h0 : a ≠ 0) :
    Calls Try.prog 103 #[.int .u8 f, .int .u64 a] w fun x w' => x = .returned (.tuple #[.int .u64 (inv p a), .int .i64 0]) ∧ Below w.heap.size w w' := by
  have := Inv_of f a _ 0 w (Div_yes f p 1 a wd w h (one_el h.md) ha (by have := ha.1; omega))
  have e : mul p 1 (inv p a) = inv p a := by
    have h := inv_el (p := p) (a := a) h.pos
    unfold mul; rw [Int.one_mul]; exact Int.emod_eq_of_lt h.1 h.2
  rw [e] at this; exact this

/-- Two lists of the call's own: one written, then other memory made. -/
theorem two_set {w wr w4 w5 : World} {bq br gq g nq nr i : Nat} {A R : List Int} {c : Int} {T : TypeId} (hq : wr.ownsRow bq T 1 (.slice (some ⟨gq, 0, none⟩) nq nq) nq (vals A)) (hr : wr.ownsRow br T 1 (.slice (some ⟨g, 0, none⟩) nr nr) nr (vals R)) (hne : gq ≠ g)
    (hB : Below w.heap.size w wr) (hbq : w.heap.size ≤ gq) (hb4 : Below wr.heap.size wr w4) (hb5 : Below (w4.setCell ⟨gq, i, none⟩ (.int .u64 c)).heap.size (w4.setCell ⟨gq, i, none⟩ (.int .u64 c)) w5) :
    w5.ownsRow bq T 1 (.slice (some ⟨gq, 0, none⟩) nq nq) nq (vals (A.set i c)) ∧ w5.ownsRow br T 1 (.slice (some ⟨g, 0, none⟩) nr nr) nr (vals R) ∧ Below w.heap.size w w5 := by
  have h1 := spoil_step (x := c) (k := i) (own_below hq hb4) (grown_refl w4 (some gq)) (.inl rfl)
  have h2 := (own_below hr hb4).kept h1.2 (.inr (by intro e; cases e; exact hne rfl))
  exact ⟨own_below h1.1 hb5, own_below h2 hb5, Below.next ((Below.next hB hb4).setCell (p := ⟨gq, i, none⟩) hbq _) hb5⟩

end Go.Proofs.Ytifilgmjpflekaa
