/-
  Polynomials as lists: trimmed lists, and that quotient and remainder are the only ones.
-/
import Derived.Test.YtdegpefhegmamabPolA
namespace Go.Proofs.Ytdegpefhegmamab.Fld
set_option linter.unusedVariables false

/-- The coefficient at a place. -/
def co (xs : List Int) (i : Nat) : Int := xs.getD i 0
theorem co_nil (i : Nat) : co [] i = 0 := rfl
theorem co_zero (x : Int) (xs : List Int) : co (x :: xs) 0 = x := rfl
theorem co_succ (x : Int) (xs : List Int) (i : Nat) : co (x :: xs) (i + 1) = co xs i := rfl
theorem co_out (xs : List Int) (i : Nat) (h : xs.length ≤ i) : co xs i = 0 := by simp [co, List.getD_eq_getElem?_getD, h]
theorem co_at {xs : List Int} {i : Nat} (h : i < xs.length) : co xs i = xs[i] := by simp [co, List.getD_eq_getElem?_getD, h]

theorem ext_co {xs ys : List Int} (hl : xs.length = ys.length) (h : ∀ i, i < xs.length → co xs i = co ys i) : xs = ys := by
  apply List.ext_getElem hl
  intro i h1 h2
  have := h i h1
  rw [co_at h1, co_at h2] at this; exact this

/-- Without the noughts at its end. -/
def tr : List Int → List Int
  | [] => []
  | x :: xs => if tr xs = [] then (if x = 0 then [] else [x]) else x :: tr xs

theorem co_tr (xs : List Int) : ∀ i, co (tr xs) i = co xs i := by
  induction xs with
  | nil => intro i; rfl
  | cons x xs ih =>
    intro i
    unfold tr
    split
    · rename_i h
      rw [h] at ih
      split
      · rename_i h0
        cases i with
        | zero => rw [co_zero, h0]; rfl
        | succ i => rw [co_succ, ← ih i]; rfl
      · cases i with
        | zero => rfl
        | succ i => rw [co_succ, co_succ, ← ih i]
    · cases i with
      | zero => rfl
      | succ i => rw [co_succ, co_succ, ih i]

theorem tr_len (xs : List Int) : (tr xs).length ≤ xs.length := by
  induction xs with
  | nil => exact Nat.le_refl _
  | cons x xs ih =>
    unfold tr
    split
    · split <;> simp
    · simpa using ih

theorem tr_last (xs : List Int) : tr xs ≠ [] → co xs ((tr xs).length - 1) ≠ 0 := by
  induction xs with
  | nil => intro h; exact absurd rfl h
  | cons x xs ih =>
    intro hne
    unfold tr at hne ⊢
    split
    · rename_i h
      rw [if_pos h] at hne
      split
      · rename_i h0; rw [if_pos h0] at hne; exact absurd rfl hne
      · rename_i h0; exact h0
    · rename_i h
      have := ih h
      cases he : tr xs with
      | nil => exact absurd he h
      | cons y ys =>
        rw [he] at this
        simp only [List.length_cons, Nat.add_sub_cancel] at this ⊢
        exact this

theorem tr_out (xs : List Int) (i : Nat) (h : (tr xs).length ≤ i) : co xs i = 0 := by rw [← co_tr]; exact co_out _ _ h

theorem tr_nil {xs : List Int} (h : ∀ i, co xs i = 0) : tr xs = [] := by
  cases he : tr xs with
  | nil => rfl
  | cons y ys =>
    have hne : tr xs ≠ [] := by rw [he]; exact List.cons_ne_nil _ _
    exact absurd (h _) (tr_last xs hne)

/-- Lists of the same coefficients are trimmed to the same. -/
theorem tr_eq {xs ys : List Int} (h : ∀ i, co xs i = co ys i) : tr xs = tr ys := by
  have hl : (tr xs).length = (tr ys).length := by
    have one : ∀ as bs : List Int, (∀ i, co as i = co bs i) → (tr as).length ≤ (tr bs).length := by
      intro as bs hh
      by_cases hn : tr as = []
      · rw [hn]; exact Nat.zero_le _
      · have h1 := tr_last as hn
        have hp : 0 < (tr as).length := List.length_pos_iff.2 hn
        by_cases hc : (tr as).length ≤ (tr bs).length
        · exact hc
        · exact absurd ((hh _).trans (tr_out bs _ (by omega))) h1
    exact Nat.le_antisymm (one xs ys h) (one ys xs (fun i => (h i).symm))
  exact ext_co hl (fun i _ => by rw [co_tr, co_tr]; exact h i)

theorem tr_tr (xs : List Int) : tr (tr xs) = tr xs := tr_eq (co_tr xs)

/-- How a walk finds what is trimmed. -/
theorem take_tr {xs : List Int} {n : Nat} (hn : n ≤ xs.length) (h0 : ∀ i, n ≤ i → i < xs.length → co xs i = 0) (h1 : n = 0 ∨ co xs (n - 1) ≠ 0) : xs.take n = tr xs := by
  have hz : ∀ i, n ≤ i → co xs i = 0 := fun i hi => by
    by_cases h : i < xs.length
    · exact h0 i hi h
    · exact co_out _ _ (by omega)
  have hl : (tr xs).length = n := by
    apply Nat.le_antisymm
    · by_cases hc : (tr xs).length ≤ n
      · exact hc
      · have hne : tr xs ≠ [] := by intro e; rw [e] at hc; simp at hc
        exact absurd (hz _ (by omega)) (tr_last xs hne)
    · rcases h1 with rfl | h1
      · exact Nat.zero_le _
      · by_cases hc : n ≤ (tr xs).length
        · exact hc
        · exact absurd (tr_out xs (n - 1) (by omega)) h1
  apply ext_co
  · rw [hl, List.length_take]; omega
  · intro i hi
    rw [List.length_take] at hi
    rw [co_tr]
    unfold co
    rw [List.getD_eq_getElem?_getD, List.getD_eq_getElem?_getD, List.getElem?_take_of_lt (by omega)]

/-- A list of n coefficients. -/
def mk (n : Nat) (c : Nat → Int) : List Int := (List.range n).map c
theorem mk_len (n : Nat) (c : Nat → Int) : (mk n c).length = n := by simp [mk]
theorem co_mk (n : Nat) (c : Nat → Int) (i : Nat) : co (mk n c) i = if i < n then c i else 0 := by
  by_cases h : i < n
  · rw [if_pos h, co_at (by rw [mk_len]; exact h)]; simp [mk]
  · rw [if_neg h]; exact co_out _ _ (by rw [mk_len]; omega)
theorem co_mk_of (n : Nat) (c : Nat → Int) (h : ∀ i, n ≤ i → c i = 0) (i : Nat) : co (mk n c) i = c i := by
  rw [co_mk]; split
  · rfl
  · exact (h i (by omega)).symm
theorem mk_snoc (n : Nat) (c : Nat → Int) : mk n c ++ [c n] = mk (n + 1) c := by simp [mk, List.range_succ]

/-- All are elements. -/
def Els (p : Int) (xs : List Int) : Prop := ∀ x ∈ xs, El p x
theorem Els.co {p : Int} {xs : List Int} (h : Els p xs) (hp : 0 < p) (i : Nat) : El p (co xs i) := by
  by_cases hi : i < xs.length
  · rw [co_at hi]; exact h _ (List.getElem_mem hi)
  · rw [co_out _ _ (by omega)]; exact ⟨Int.le_refl 0, hp⟩
theorem Els.of_co {p : Int} {xs : List Int} (h : ∀ i, i < xs.length → El p (Fld.co xs i)) : Els p xs := by
  intro x hx
  obtain ⟨i, hi, rfl⟩ := List.getElem_of_mem hx
  have := h i hi
  rw [co_at hi] at this; exact this
theorem Els.tr {p : Int} {xs : List Int} (h : Els p xs) (hp : 0 < p) : Els p (tr xs) := Els.of_co (fun i _ => by rw [co_tr]; exact h.co hp i)
theorem Els.mk {p : Int} {c : Nat → Int} (n : Nat) (h : ∀ i, i < n → El p (c i)) : Els p (Fld.mk n c) := Els.of_co (fun i hi => by
  rw [mk_len] at hi; rw [co_mk, if_pos hi]; exact h i hi)
theorem El.mod {p x : Int} (h : El p x) : x % p = x := Int.emod_eq_of_lt h.1 h.2

/-- Elements alike by p are the same. -/
theorem Al.eq {p : Int} {xs ys : List Int} (hp : 0 < p) (hx : Els p xs) (hy : Els p ys) (h : Al p (Fld.co xs) (Fld.co ys)) : Fld.tr xs = Fld.tr ys :=
  tr_eq (fun i => by have := h i; rw [(hx.co hp i).mod, (hy.co hp i).mod] at this; exact this)

/-- What is 0 by p, of a product with what has an inverse. -/
theorem no_div {p : Int} {wd : Bool} (hm : Md p wd) (a b : Int) (hb : b % p ≠ 0) (h : (a * b) % p = 0) : a % p = 0 := by
  have hp : 0 < p := by have := hm.bounds; omega
  have he : El p (b % p) := ⟨Int.emod_nonneg _ (by omega), Int.emod_lt_of_pos _ hp⟩
  have hi := mul_inv hm (b % p) he hb
  have e : mul p (mul p a (b % p)) (inv p (b % p)) = 0 := by
    have : mul p a (b % p) = 0 := by unfold mul; rw [mul_emod_right]; exact h
    rw [this]; simp [mul]
  rw [ring_assoc, hi] at e
  unfold mul at e
  rw [Int.mul_one] at e; exact e

theorem cv_mod_end {p : Int} {f g : Nat → Int} {n m : Nat} (hf : ∀ i, n < i → f i % p = 0) (hg : ∀ i, m < i → g i % p = 0) : cv f g (n + m) % p = (f n * g m) % p := by
  have h1 : Al p f (fun i => f i % p) := (Al.mod p f).symm
  have h2 : Al p g (fun i => g i % p) := (Al.mod p g).symm
  rw [al_cv h2 (n + m) h1, cv_top n (f := fun i => f i % p) (g := fun i => g i % p) hf hg, ← Int.mul_emod]

/-- A product with q (its top coefficient at m, not 0) that has nothing from m on is of 0. -/
theorem only_zero {p : Int} {wd : Bool} (hm : Md p wd) (f q : Nat → Int) (N m : Nat) (hf : ∀ i, N ≤ i → f i % p = 0) (hq : ∀ i, m < i → q i % p = 0) (hq0 : q m % p ≠ 0)
    (h : ∀ i, m ≤ i → cv f q i % p = 0) : ∀ i, f i % p = 0 := by
  have key : ∀ d n, n + d = N → ∀ i, n ≤ i → f i % p = 0 := by
    intro d
    induction d with
    | zero => intro n hn i hi; exact hf i (by omega)
    | succ d ih =>
      intro n hn i hi
      have h1 := ih (n + 1) (by omega)
      by_cases he : i = n
      · subst he
        have h2 := cv_mod_end (f := f) (g := q) (n := i) (m := m) (fun j hj => h1 j (by omega)) hq
        rw [h (i + m) (by omega)] at h2
        exact no_div hm _ _ hq0 h2.symm
      · exact h1 i (by omega)
  intro i
  exact key N 0 (by omega) i (Nat.zero_le _)

/-- Quotient and remainder are the only ones. -/
theorem div_only {p : Int} {wd : Bool} (hm : Md p wd) {a b c d q : List Int} (ha : Els p a) (hb : Els p b) (hc : Els p c) (hd : Els p d) (hq : Els p q) (m : Nat) (hql : (tr q).length = m + 1)
    (hbl : (tr b).length ≤ m) (hdl : (tr d).length ≤ m) (h : Al p (fun i => cv (co a) (co q) i + co b i) (fun i => cv (co c) (co q) i + co d i)) : tr a = tr c ∧ tr b = tr d := by
  have hp : 0 < p := by have := hm.bounds; omega
  have hq0 : co q m % p ≠ 0 := by
    have hne : tr q ≠ [] := by intro e; rw [e] at hql; simp at hql
    have := tr_last q hne
    rw [hql, Nat.add_sub_cancel] at this
    rw [(hq.co hp m).mod]; exact this
  have hq1 : ∀ i, m < i → co q i % p = 0 := fun i hi => by rw [tr_out q i (by omega)]; rfl
  have hsub : ∀ i, cv (fun i => co a i - co c i) (co q) i = cv (co a) (co q) i - cv (co c) (co q) i := by
    intro i
    have e1 := cv_add_left (co q) i (co a) (fun i => -1 * co c i)
    have e2 := cv_smul_left (-1) (co q) i (co c)
    have e3 : cv (fun i => co a i - co c i) (co q) i = cv (fun i => co a i + -1 * co c i) (co q) i := cv_congr i (fun j _ => by omega) (fun j _ => rfl)
    rw [e3, e1, e2]; omega
  have hzero : ∀ i, m ≤ i → cv (fun i => co a i - co c i) (co q) i % p = 0 := by
    intro i hi
    have h1 : (cv (co a) (co q) i + co b i) % p = (cv (co c) (co q) i + co d i) % p := h i
    rw [tr_out b i (by omega), tr_out d i (by omega), Int.add_zero, Int.add_zero] at h1
    rw [hsub, Int.sub_emod, h1, Int.sub_self]; rfl
  have hz := only_zero hm (fun i => co a i - co c i) (co q) (a.length + c.length) m (fun i hi => by
    show (co a i - co c i) % p = 0
    rw [co_out a i (by omega), co_out c i (by omega)]; rfl) hq1 hq0 hzero
  have hac : Al p (co a) (co c) := fun i => by
    have e : (co a i - co c i) % p = 0 := hz i
    have : co a i = (co a i - co c i) + co c i := by omega
    rw [this, Int.add_emod, e, Int.zero_add, Int.emod_emod_of_dvd _ (Int.dvd_refl p)]
  refine ⟨Al.eq hp ha hc hac, Al.eq hp hb hd fun i => ?_⟩
  have h1 : (cv (co a) (co q) i + co b i) % p = (cv (co c) (co q) i + co d i) % p := h i
  have h2 := al_cv (Al.refl p (co q)) i hac
  have h3 : co b i = (cv (co a) (co q) i + co b i) - cv (co a) (co q) i := by omega
  have h4 : co d i = (cv (co c) (co q) i + co d i) - cv (co c) (co q) i := by omega
  rw [h3, h4, Int.sub_emod, h1, h2, ← Int.sub_emod]

/-- p with q in the place of x. -/
def into (q : Nat → Int) : List Int → Nat → Int
  | [] => fun _ => 0
  | x :: xs => fun i => (if i = 0 then x else 0) + cv q (into q xs) i

end Go.Proofs.Ytdegpefhegmamab.Fld
