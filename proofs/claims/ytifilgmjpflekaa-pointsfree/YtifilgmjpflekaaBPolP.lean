/-
  Polynomials: the document's own DivMod.
-/
import Derived.Test.YtifilgmjpflekaaBunJ
import Derived.Test.YtifilgmjpflekaaBPolN
namespace Go.Proofs.Ytifilgmjpflekaa
open Go.RowKit Fld
set_option linter.unusedVariables false

namespace Fld
/-- R, with c times the first j of q taken from the place d on. -/
def le (p c : Int) (d : Nat) (qs R : List Int) (j : Nat) : List Int := mk R.length (fun i => if d ≤ i ∧ i < d + j then sub p (co R i) (mul p c (co qs (i - d))) else co R i)
theorem le_len (p c : Int) (d : Nat) (qs R : List Int) (j : Nat) : (le p c d qs R j).length = R.length := mk_len _ _
theorem co_le (p c : Int) (d : Nat) (qs R : List Int) (j i : Nat) : co (le p c d qs R j) i = if d ≤ i ∧ i < d + j ∧ i < R.length then sub p (co R i) (mul p c (co qs (i - d))) else co R i := by
  unfold le
  rw [co_mk]
  by_cases h : i < R.length
  · rw [if_pos h]
    by_cases h2 : d ≤ i ∧ i < d + j
    · rw [if_pos h2, if_pos ⟨h2.1, h2.2, h⟩]
    · rw [if_neg h2, if_neg (fun h3 => h2 ⟨h3.1, h3.2.1⟩)]
  · rw [if_neg h, if_neg (fun h3 => h h3.2.2), co_out _ _ (by omega)]
theorem le_zero (p c : Int) (d : Nat) (qs R : List Int) : le p c d qs R 0 = R := ext_co (le_len _ _ _ _ _ _) (fun i hi => by rw [co_le, if_neg (by omega)])
theorem els_le {p c : Int} (hp : 0 < p) {d : Nat} {qs R : List Int} (hR : Els p R) (j : Nat) : Els p (le p c d qs R j) := Els.of_co (fun i hi => by
  rw [co_le]; split
  · exact sub_el hp
  · exact hR.co hp i)
theorem le_at (p c : Int) (d : Nat) (qs R : List Int) (j : Nat) : co (le p c d qs R j) (d + j) = co R (d + j) := by rw [co_le, if_neg (by omega)]
theorem le_step {p c z : Int} {d j : Nat} {qs R : List Int} (h : d + j < R.length) (hz : z = sub p (co R (d + j)) (mul p c (co qs j))) : (le p c d qs R j).set (d + j) z = le p c d qs R (j + 1) := by
  apply ext_co (by rw [List.length_set, le_len, le_len])
  intro i hi
  rw [co_set _ _ _ _ (by rw [le_len]; exact h), co_le, co_le]
  by_cases he : i = d + j
  · subst he
    have e : d + j - d = j := by omega
    rw [if_pos rfl, if_pos (by omega), e, hz]
  · rw [if_neg he]
    by_cases h2 : d ≤ i ∧ i < d + j ∧ i < R.length
    · rw [if_pos h2, if_pos (by omega)]
    · rw [if_neg h2, if_neg (by omega)]

/-- What the document's division keeps: R trimmed, nothing of the quotient at the places that R still reaches. -/
def DJ (p : Int) (xs qs A R : List Int) (m : Nat) : Prop := Els p A ∧ Els p R ∧ tr R = R ∧ (∀ i, i + m < R.length → co A i = 0) ∧ Al p (fun i => cv (co A) (co qs) i + co R i) (co xs)
theorem DJ.start {p : Int} {xs qs : List Int} {n m : Nat} (hp : 0 < p) (hx : Els p xs) : DJ p xs qs (List.replicate n 0) (tr xs) m :=
  ⟨els_rep hp n, hx.tr hp, tr_tr xs, fun i _ => co_rep n i, fun i => by
    show (cv (co (List.replicate n 0)) (co qs) i + co (tr xs) i) % p = co xs i % p
    rw [cv_zero_left _ i _ (fun j _ => co_rep n j), Int.zero_add, co_tr]⟩
theorem sub_mul_mod (p r c q : Int) : sub p r (mul p c q) = (r - c * q) % p := by
  unfold sub mul
  rw [Int.sub_emod, Int.emod_emod_of_dvd _ (Int.dvd_refl p), ← Int.sub_emod]
theorem DJ.step {p c iv : Int} {xs qs A R : List Int} {m d : Nat} (hp : 0 < p) (hq : qs.length = m + 1) (hi : (co qs m * iv) % p = 1 % p) (hc : c = (co R (d + m) * iv) % p) (hA : d < A.length) (hR : R.length = d + m + 1)
    (h : DJ p xs qs A R m) : DJ p xs qs (A.set d c) (tr (le p c d qs R qs.length)) m ∧ (tr (le p c d qs R qs.length)).length < R.length := by
  obtain ⟨h1, h2, h3, h4, h5⟩ := h
  have htop : co (le p c d qs R qs.length) (d + m) = 0 := by
    have e : d + m - d = m := by omega
    rw [co_le, if_pos (by omega), e, sub_mul_mod, hc]
    exact top_gone hi
  have hlen : (tr (le p c d qs R qs.length)).length < R.length := by
    by_cases hn : tr (le p c d qs R qs.length) = []
    · rw [hn, hR]; simp
    · have h6 := tr_last _ hn
      have h7 := List.length_pos_iff.2 hn
      have h8 := tr_len (le p c d qs R qs.length)
      rw [le_len] at h8
      apply Nat.lt_of_not_le
      intro hcn
      have e : (tr (le p c d qs R qs.length)).length - 1 = d + m := by omega
      rw [e] at h6
      exact h6 htop
  refine ⟨⟨Els.of_co fun i _ => ?_, (els_le hp h2 _).tr hp, tr_tr _, fun i hi' => ?_, ?_⟩, hlen⟩
  · rw [co_set _ _ _ _ hA]; split
    · rw [hc]; exact emod_el hp _
    · exact h1.co hp i
  · rw [co_set _ _ _ _ hA, if_neg (by omega)]; exact h4 i (by omega)
  · refine div_step (A' := co (A.set d c)) (R' := co (tr (le p c d qs R qs.length))) h5 (d := d) (c := c) (fun i => ?_) (fun i => ?_)
    · rw [co_set _ _ _ _ hA]
      unfold pt
      by_cases he : i = d
      · rw [if_pos he, if_pos he, he, h4 d (by omega), Int.zero_add]
      · rw [if_neg he, if_neg he, Int.add_zero]
    · rw [co_tr, co_le]
      by_cases hk : d ≤ i
      · rw [if_pos hk]
        by_cases hr : i < d + qs.length
        · rw [if_pos (by omega), sub_mul_mod, Int.emod_emod_of_dvd _ (Int.dvd_refl p)]
        · rw [if_neg (by omega), co_out qs (i - d) (by omega), Int.mul_zero, Int.sub_zero]
      · rw [if_neg (by omega), if_neg hk, Int.sub_zero]
theorem DJ.fin {p : Int} {xs qs A R : List Int} {m : Nat} (hp : 0 < p) (tq : tr qs = qs) (hq : qs.length = m + 1) (hR : R.length < m + 1) (h : DJ p xs qs A R m) : Dv p xs qs (tr A) R := by
  obtain ⟨h1, h2, h3, h4, h5⟩ := h
  refine ⟨h1.tr hp, h2, tr_tr A, h3, by rw [tq, hq]; exact hR, fun i => ?_⟩
  have e : cv (co (tr A)) (co qs) i = cv (co A) (co qs) i := cv_congr i (fun j _ => co_tr A j) (fun j _ => rfl)
  show (cv (co (tr A)) (co qs) i + co R i) % p = _
  rw [e]; exact h5 i
end Fld

theorem own_other {wr : World} {base g k n : Nat} {v u : Value} {xs : List Value} {T : TypeId} (h : wr.ownsRow base T 1 v n xs) (hne : v.ownBlock ≠ some g) : (wr.setCell ⟨g, k, none⟩ u).ownsRow base T 1 v n xs := by
  refine ⟨h.1, ?_⟩
  rcases h.2 with h1 | ⟨g', cap, cur, rfl, h2, h3, h4⟩
  · exact .inl h1
  · refine .inr ⟨g', cap, cur, rfl, h2, ?_, h4⟩
    rw [Below.heap_setCell wr _ _ _ (fun e => hne (by show some g' = some g; rw [e]))]; exact h3
theorem own_drewN {wr : World} {base n : Nat} {v : Value} {xs : List Value} {T : TypeId} (h : wr.ownsRow base T 1 v n xs) (nq : Nat) : (wr.drewN nq).ownsRow base T 1 v n xs := own_below h (below_drewN (Below.refl _ wr) nq)
theorem own_here {wr : World} {base g k n cap : Nat} {ys : List Int} {z : Int} {T : TypeId} (h : wr.ownsRow base T 1 (.slice (some ⟨g, 0, none⟩) n cap) n (vals ys)) : (wr.setCell ⟨g, k, none⟩ (.int .u64 z)).ownsRow base T 1 (.slice (some ⟨g, 0, none⟩) n cap) n (vals (ys.set k z)) :=
  (spoil_step h (grown_refl wr (some g)) (.inl rfl)).1

/-- A call that answers two lists, in memory of its own, and an error. -/
def PartsD (k : FuncId) (args : Array Value) (W : World) (S : List Int → List Int → Prop) (e0 : Int) : Prop :=
  Calls Try.prog k args W fun e w' => ∃ vq vr A B, e = .returned (.tuple #[vq, vr, .int .i64 e0]) ∧ S A B ∧ w'.ownsRow W.heap.size 25 1 vq A.length (vals A) ∧ w'.ownsRow W.heap.size 25 1 vr B.length (vals B) ∧ Below W.heap.size W w'
theorem PartsD.none {k : FuncId} {args : Array Value} {W : World} {S : List Int → List Int → Prop} {e0 : Int} (hS : S [] []) (h : Calls Try.prog k args W fun e w' => e = .returned (.tuple #[.slice none 0 0, .slice none 0 0, .int .i64 e0]) ∧ Below W.heap.size W w') : PartsD k args W S e0 :=
  h.mono fun e w' ⟨he, hb⟩ => ⟨_, _, [], [], he, hS, World.ownsRow_nil _ _ _ _, World.ownsRow_nil _ _ _ _, hb⟩

end Go.Proofs.Ytifilgmjpflekaa
