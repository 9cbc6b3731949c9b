/-
  Polynomials by a prime: which list is which polynomial, and that it is the only one; sums, products, values, quotients.
-/
import Derived.Test.YtdegpefhegmamabPolC
namespace Go.Proofs.Ytdegpefhegmamab.Fld
set_option linter.unusedVariables false

/-- The trimmed list of elements that has these coefficients, by p. -/
def Is (p : Int) (zs : List Int) (F : Nat → Int) : Prop := Els p zs ∧ tr zs = zs ∧ Al p (co zs) F
theorem Is.only {p : Int} (hp : 0 < p) {xs ys : List Int} {F : Nat → Int} (hx : Is p xs F) (hy : Is p ys F) : xs = ys := by
  have := Al.eq hp hx.1 hy.1 (hx.2.2.trans hy.2.2.symm)
  rw [hx.2.1, hy.2.1] at this; exact this
theorem Is.al {p : Int} {zs : List Int} {F G : Nat → Int} (h : Is p zs F) (k : Al p F G) : Is p zs G := ⟨h.1, h.2.1, h.2.2.trans k⟩
theorem is_tr {p : Int} (hp : 0 < p) {zs : List Int} (h : Els p zs) : Is p (tr zs) (co zs) := ⟨h.tr hp, tr_tr zs, fun i => by rw [co_tr]⟩
theorem emod_el {p : Int} (hp : 0 < p) (a : Int) : El p (a % p) := ⟨Int.emod_nonneg _ (by omega), Int.emod_lt_of_pos _ hp⟩
theorem els_mk_mod {p : Int} (hp : 0 < p) (N : Nat) (F : Nat → Int) : Els p (mk N (fun i => F i % p)) := Els.mk N (fun i _ => emod_el hp _)
theorem al_mk {p : Int} {N : Nat} {F : Nat → Int} (h : ∀ i, N ≤ i → F i % p = 0) : Al p (co (mk N (fun i => F i % p))) F := fun i => by
  rw [co_mk]
  by_cases hi : i < N
  · rw [if_pos hi, Int.emod_emod_of_dvd _ (Int.dvd_refl p)]
  · rw [if_neg hi, h i (by omega)]; exact Int.zero_emod p
theorem is_mk {p : Int} (hp : 0 < p) {N : Nat} {F : Nat → Int} (h : ∀ i, N ≤ i → F i % p = 0) : Is p (tr (mk N (fun i => F i % p))) F :=
  (is_tr hp (els_mk_mod hp N F)).al (al_mk h)
theorem last_ne {xs : List Int} (h : tr xs = xs) (hne : xs ≠ []) : co xs (xs.length - 1) ≠ 0 := by
  have := tr_last xs (by rw [h]; exact hne)
  rw [h] at this; exact this
theorem tr_full {xs : List Int} (h : xs = [] ∨ co xs (xs.length - 1) ≠ 0) : tr xs = xs := by
  have := take_tr (xs := xs) (n := xs.length) (Nat.le_refl _) (fun i h1 h2 => by omega) (by rcases h with h | h; exact .inl (by rw [h]; rfl); exact .inr h)
  rw [List.take_length] at this; exact this.symm

/-- A sum with c times the second. -/
def sm (p c : Int) (xs ys : List Int) : List Int := mk (max xs.length ys.length) (fun i => (co xs i + c * co ys i) % p)
theorem sm_len (p c : Int) (xs ys : List Int) : (sm p c xs ys).length = max xs.length ys.length := mk_len _ _
theorem els_sm {p : Int} (hp : 0 < p) (c : Int) (xs ys : List Int) : Els p (sm p c xs ys) := els_mk_mod hp _ (fun i => co xs i + c * co ys i)
theorem al_sm (p c : Int) (xs ys : List Int) : Al p (co (sm p c xs ys)) (fun i => co xs i + c * co ys i) :=
  al_mk (F := fun i => co xs i + c * co ys i) (fun i hi => by
    show (co xs i + c * co ys i) % p = 0
    rw [co_out xs i (by omega), co_out ys i (by omega), Int.mul_zero]; exact Int.zero_emod p)
theorem is_sm {p : Int} (hp : 0 < p) (c : Int) (xs ys : List Int) : Is p (tr (sm p c xs ys)) (fun i => co xs i + c * co ys i) := (is_tr hp (els_sm hp c xs ys)).al (al_sm p c xs ys)
theorem is_add {p : Int} (hp : 0 < p) (xs ys : List Int) : Is p (tr (sm p 1 xs ys)) (fun i => co xs i + co ys i) := (is_sm hp 1 xs ys).al (fun i => by show (co xs i + 1 * co ys i) % p = _; rw [Int.one_mul])
theorem is_sub {p : Int} (hp : 0 < p) (xs ys : List Int) : Is p (tr (sm p (sub p 0 1) xs ys)) (fun i => co xs i - co ys i) := (is_sm hp _ xs ys).al (fun i => by
  show (co xs i + (0 - 1) % p * co ys i) % p = (co xs i - co ys i) % p
  rw [Int.add_emod, Int.mul_emod, Int.emod_emod_of_dvd _ (Int.dvd_refl p), ← Int.mul_emod, ← Int.add_emod]
  congr 1; omega)

/-- A product, place by place. -/
def prd (p : Int) (xs ys : List Int) : List Int := if xs = [] ∨ ys = [] then [] else mk (xs.length + ys.length - 1) (fun k => cv (co xs) (co ys) k % p)
theorem els_prd {p : Int} (hp : 0 < p) (xs ys : List Int) : Els p (prd p xs ys) := by
  unfold prd; split
  · intro x hx; cases hx
  · exact els_mk_mod hp _ _
theorem al_prd (p : Int) (xs ys : List Int) : Al p (co (prd p xs ys)) (cv (co xs) (co ys)) := by
  unfold prd; split
  · rename_i h
    intro i
    have : cv (co xs) (co ys) i = 0 := by
      rcases h with rfl | rfl
      · exact cv_zero_left _ i _ (fun j _ => rfl)
      · rw [cv_comm]; exact cv_zero_left _ i _ (fun j _ => rfl)
    rw [this]; rfl
  · rename_i h
    refine al_mk (F := cv (co xs) (co ys)) (fun i hi => ?_)
    have h1 : xs.length ≠ 0 := fun e => h (.inl (List.length_eq_zero_iff.1 e))
    rw [cv_end (m := xs.length) (n := ys.length) i (fun j hj => co_out _ _ hj) (fun j hj => co_out _ _ hj) (by omega)]; exact Int.zero_emod p
theorem prd_len (p : Int) (xs ys : List Int) (h1 : xs ≠ []) (h2 : ys ≠ []) : (prd p xs ys).length = xs.length + ys.length - 1 := by
  unfold prd; rw [if_neg (by intro h; rcases h with h | h; exact h1 h; exact h2 h), mk_len]
theorem prd_len_le (p : Int) (xs ys : List Int) : (prd p xs ys).length ≤ xs.length + ys.length - 1 := by
  unfold prd; split
  · exact Nat.zero_le _
  · rw [mk_len]; exact Nat.le_refl _
theorem is_prd_tr {p : Int} (hp : 0 < p) (xs ys : List Int) : Is p (tr (prd p xs ys)) (cv (co xs) (co ys)) := (is_tr hp (els_prd hp xs ys)).al (al_prd p xs ys)
theorem is_prd {p : Int} {wd : Bool} (hm : Md p wd) {xs ys : List Int} (hx : Els p xs) (hy : Els p ys) (tx : tr xs = xs) (ty : tr ys = ys) : Is p (prd p xs ys) (cv (co xs) (co ys)) := by
  have hp : 0 < p := by have := hm.bounds; omega
  refine ⟨els_prd hp xs ys, tr_full ?_, al_prd p xs ys⟩
  by_cases h1 : xs = []
  · left; unfold prd; rw [if_pos (.inl h1)]
  by_cases h2 : ys = []
  · left; unfold prd; rw [if_pos (.inr h2)]
  right
  have l1 := List.length_pos_iff.2 h1
  have l2 := List.length_pos_iff.2 h2
  have a1 := last_ne tx h1
  have a2 := last_ne ty h2
  rw [prd_len p xs ys h1 h2]
  unfold prd
  rw [if_neg (by intro h; rcases h with h | h; exact h1 h; exact h2 h), co_mk, if_pos (by omega)]
  have e : xs.length + ys.length - 1 - 1 = (xs.length - 1) + (ys.length - 1) := by omega
  rw [e, cv_top (n := ys.length - 1) (xs.length - 1) (fun i hi => co_out _ _ (by omega)) (fun i hi => co_out _ _ (by omega))]
  intro h0
  have := no_div hm _ _ (by rw [(hy.co hp _).mod]; exact a2) h0
  rw [(hx.co hp _).mod] at this; exact a1 this
theorem cv_tr (xs ys : List Int) : cv (co (tr xs)) (co (tr ys)) = cv (co xs) (co ys) := funext fun i => cv_congr i (fun j _ => co_tr xs j) (fun j _ => co_tr ys j)

theorem cv_single (c : Int) (g : Nat → Int) (k : Nat) : cv (co [c]) g k = c * g k := by
  cases k with
  | zero => rfl
  | succ k =>
    show c * g (k + 1) + cv (fun i => co [c] (i + 1)) g k = c * g (k + 1)
    rw [cv_zero_left g k (fun i => co [c] (i + 1)) (fun i _ => rfl), Int.add_zero]
theorem is_scale {p : Int} (hp : 0 < p) (c : Int) (xs : List Int) : Is p (tr (sm p c [] xs)) (cv (co [c]) (co xs)) := (is_sm hp c [] xs).al (fun i => by
  show (co [] i + c * co xs i) % p = _
  rw [cv_single, co_nil, Int.zero_add])

/-- A polynomial's value. -/
def vl (p t : Int) (xs : List Int) : Int := ev t xs.length (co xs) % p
theorem vl_el {p : Int} (hp : 0 < p) (t : Int) (xs : List Int) : El p (vl p t xs) := emod_el hp _
theorem vl_is {p t : Int} {zs : List Int} {F : Nat → Int} {N : Nat} (h : Al p (co zs) F) (hF : ∀ i, N ≤ i → F i = 0) : vl p t zs = ev t N F % p := by
  unfold vl
  rw [← ev_more t zs.length N (co zs) (fun i hi => co_out _ _ hi), Al.ev t _ h, Nat.add_comm, ev_more t N zs.length F hF]

/-- The value, from the high end. -/
def hn (p t : Int) (xs : List Int) (i : Nat) : Int := ev t (xs.length - i) (fun j => co xs (i + j)) % p
theorem hn_el {p : Int} (hp : 0 < p) (t : Int) (xs : List Int) (i : Nat) : El p (hn p t xs i) := emod_el hp _
theorem hn_top (p t : Int) (xs : List Int) : hn p t xs xs.length = 0 := by unfold hn; rw [Nat.sub_self]; exact Int.zero_emod p
theorem hn_zero (p t : Int) (xs : List Int) : hn p t xs 0 = vl p t xs := by
  unfold hn vl
  rw [Nat.sub_zero, ev_congr t xs.length (g := co xs) (fun j _ => by rw [Nat.zero_add])]
theorem hn_step {p t : Int} {xs : List Int} {i : Nat} (h : i < xs.length) : add p (mul p (hn p t xs (i + 1)) t) (co xs i) = hn p t xs i := by
  unfold hn add mul
  have e : xs.length - i = (xs.length - (i + 1)) + 1 := by omega
  rw [e]
  show _ = (co xs (i + 0) + t * ev t (xs.length - (i + 1)) (fun j => co xs (i + (j + 1)))) % p
  have e2 : ev t (xs.length - (i + 1)) (fun j => co xs (i + (j + 1))) = ev t (xs.length - (i + 1)) (fun j => co xs (i + 1 + j)) := ev_congr t _ (fun j _ => by congr 1; omega)
  rw [e2, Int.add_emod, Int.emod_emod_of_dvd _ (Int.dvd_refl p), Int.mul_emod, Int.emod_emod_of_dvd _ (Int.dvd_refl p), ← Int.mul_emod, ← Int.add_emod, Nat.add_zero]
  rw [Int.mul_comm t, Int.add_comm]
  rfl

/-- The value, from the low end. -/
def lw (p t : Int) (xs : List Int) (k : Nat) : Int := ev t k (co xs) % p
theorem lw_el {p : Int} (hp : 0 < p) (t : Int) (xs : List Int) (i : Nat) : El p (lw p t xs i) := emod_el hp _
def px (p t : Int) (k : Nat) : Int := t ^ k % p
theorem px_el {p : Int} (hp : 0 < p) (t : Int) (k : Nat) : El p (px p t k) := emod_el hp _
theorem px_zero {p : Int} (hp : 1 < p) (t : Int) : px p t 0 = 1 := by unfold px; rw [Int.pow_zero]; exact Int.emod_eq_of_lt (by omega) hp
theorem px_step (p t : Int) (k : Nat) : mul p (px p t k) t = px p t (k + 1) := by
  unfold px mul
  rw [Int.mul_emod, Int.emod_emod_of_dvd _ (Int.dvd_refl p), ← Int.mul_emod, ← Int.pow_succ]
theorem lw_zero (p t : Int) (xs : List Int) : lw p t xs 0 = 0 := Int.zero_emod p
theorem lw_step (p t : Int) (xs : List Int) (k : Nat) : add p (lw p t xs k) (mul p (co xs k) (px p t k)) = lw p t xs (k + 1) := by
  unfold lw px add mul
  rw [ev_snoc, ← Int.add_emod, Int.add_emod, Int.mul_emod, Int.emod_emod_of_dvd _ (Int.dvd_refl p), ← Int.mul_emod, ← Int.add_emod]

/-- Quotient and remainder. -/
def Dv (p : Int) (xs ys a b : List Int) : Prop := Els p a ∧ Els p b ∧ tr a = a ∧ tr b = b ∧ b.length < (tr ys).length ∧ Al p (fun i => cv (co a) (co ys) i + co b i) (co xs)
theorem Dv.only {p : Int} {wd : Bool} (hm : Md p wd) {xs ys a b c d : List Int} (hy : Els p ys) (h : Dv p xs ys a b) (k : Dv p xs ys c d) : a = c ∧ b = d := by
  obtain ⟨h1, h2, h3, h4, h5, h6⟩ := h
  obtain ⟨k1, k2, k3, k4, k5, k6⟩ := k
  have := div_only hm h1 h2 k1 k2 hy ((tr ys).length - 1) (by omega) (by rw [h4]; omega) (by rw [k4]; omega) (h6.trans k6.symm)
  rw [h3, h4, k3, k4] at this; exact this
theorem top_ne {p : Int} (hp : 0 < p) {ys : List Int} (hy : Els p ys) (h : 0 < (tr ys).length) : co ys ((tr ys).length - 1) % p ≠ 0 := by
  rw [(hy.co hp _).mod]; exact tr_last ys (List.length_pos_iff.1 h)
/-- The quotient is as much shorter than what was divided as the divisor is long. -/
theorem Dv.len {p : Int} {wd : Bool} (hm : Md p wd) {xs ys a b : List Int} (hy : Els p ys) (h : Dv p xs ys a b) (hne : a ≠ []) : a.length + (tr ys).length - 1 ≤ xs.length := by
  have hp : 0 < p := by have := hm.bounds; omega
  obtain ⟨h1, h2, h3, h4, h5, h6⟩ := h
  have l1 := List.length_pos_iff.2 hne
  have e := h6 ((a.length - 1) + ((tr ys).length - 1))
  have e1 : cv (co a) (co ys) ((a.length - 1) + ((tr ys).length - 1)) = _ := cv_top (n := (tr ys).length - 1) (a.length - 1) (f := co a) (g := co ys) (fun i hi => co_out _ _ (by omega)) (fun i hi => tr_out ys i (by omega))
  have e2 : co b ((a.length - 1) + ((tr ys).length - 1)) = 0 := co_out _ _ (by omega)
  simp only [e1, e2, Int.add_zero] at e
  by_cases hc : a.length + (tr ys).length - 1 ≤ xs.length
  · exact hc
  · rw [co_out xs _ (by omega), Int.zero_emod] at e
    have := no_div hm _ _ (top_ne hp hy (by omega)) e
    rw [(h1.co hp _).mod] at this
    exact absurd this (last_ne h3 hne)

end Go.Proofs.Ytdegpefhegmamab.Fld
