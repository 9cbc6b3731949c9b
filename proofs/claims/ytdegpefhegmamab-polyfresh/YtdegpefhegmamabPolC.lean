/-
  Polynomials: what the loops of products, values, quotients and of a polynomial put into another keep.
-/
import Derived.Test.YtdegpefhegmamabPolB
namespace Go.Proofs.Ytdegpefhegmamab.Fld
set_option linter.unusedVariables false

/-- c at the place d, 0 elsewhere. -/
def pt (d : Nat) (c : Int) (i : Nat) : Int := if i = d then c else 0
theorem cv_pt (c : Int) (g : Nat → Int) (k : Nat) : ∀ d, cv (pt d c) g k = if d ≤ k then c * g (k - d) else 0 := by
  induction k with
  | zero =>
    intro d
    show pt d c 0 * g 0 = _
    unfold pt
    by_cases h : d = 0
    · subst h; rw [if_pos rfl, if_pos (Nat.le_refl _)]
    · rw [if_neg (fun e => h e.symm), if_neg (by omega), Int.zero_mul]
  | succ k ih =>
    intro d
    show pt d c 0 * g (k + 1) + cv (fun i => pt d c (i + 1)) g k = _
    cases d with
    | zero =>
      rw [cv_zero_left g k _ (fun i _ => by unfold pt; rw [if_neg (by omega)]), if_pos (Nat.zero_le _)]
      unfold pt
      rw [if_pos rfl]; simp
    | succ d =>
      have e : cv (fun i => pt (d + 1) c (i + 1)) g k = cv (pt d c) g k := cv_congr k (fun i _ => by unfold pt; by_cases h : i = d <;> simp [h]) (fun i _ => rfl)
      have e2 : k + 1 - (d + 1) = k - d := by omega
      rw [e, ih d, e2]
      unfold pt
      rw [if_neg (by omega), Int.zero_mul, Int.zero_add]
      by_cases h : d ≤ k
      · rw [if_pos h, if_pos (by omega)]
      · rw [if_neg h, if_neg (by omega)]

theorem co_take (xs : List Int) (n i : Nat) : co (xs.take n) i = if i < n then co xs i else 0 := by
  by_cases h : i < n
  · rw [if_pos h]; unfold co; rw [List.getD_eq_getElem?_getD, List.getD_eq_getElem?_getD, List.getElem?_take_of_lt h]
  · rw [if_neg h]; exact co_out _ _ (by rw [List.length_take]; omega)
theorem co_take_succ (xs : List Int) (n : Nat) (i : Nat) : co (xs.take (n + 1)) i = co (xs.take n) i + pt n (co xs n) i := by
  rw [co_take, co_take]; unfold pt
  by_cases h : i = n
  · subst h; rw [if_pos (by omega), if_neg (by omega), if_pos rfl, Int.zero_add]
  · rw [if_neg h, Int.add_zero]
    by_cases h2 : i < n
    · rw [if_pos h2, if_pos (by omega)]
    · rw [if_neg h2, if_neg (by omega)]

/-- The product's rows: one coefficient more. -/
theorem cv_row (xs : List Int) (g : Nat → Int) (n k : Nat) : cv (co (xs.take (n + 1))) g k = cv (co (xs.take n)) g k + if n ≤ k then co xs n * g (k - n) else 0 := by
  rw [← cv_pt, ← cv_add_left]
  exact cv_congr k (fun i _ => co_take_succ xs n i) (fun i _ => rfl)
theorem cv_row0 (xs : List Int) (g : Nat → Int) (k : Nat) : cv (co (xs.take 0)) g k = 0 := cv_zero_left g k _ (fun i _ => by rw [List.take_zero]; rfl)

/-- What the inner loop keeps: the rows before n, and of the row n what belongs to the first j. -/
def rw' (xs ys : List Int) (n j k : Nat) : Int := cv (co (xs.take n)) (co ys) k + if n ≤ k ∧ k < n + j then co xs n * co ys (k - n) else 0
theorem rw_start (xs ys : List Int) (n k : Nat) : rw' xs ys n 0 k = cv (co (xs.take n)) (co ys) k := by
  unfold rw'; rw [if_neg (by omega), Int.add_zero]
theorem rw_end (xs ys : List Int) (n k : Nat) : rw' xs ys n ys.length k = cv (co (xs.take (n + 1))) (co ys) k := by
  unfold rw'; rw [cv_row]
  congr 1
  by_cases h : n ≤ k
  · by_cases h2 : k < n + ys.length
    · rw [if_pos ⟨h, h2⟩, if_pos h]
    · rw [if_neg (by omega), if_pos h, co_out ys (k - n) (by omega), Int.mul_zero]
  · rw [if_neg (by omega), if_neg h]
theorem rw_step (xs ys : List Int) (n j k : Nat) : rw' xs ys n (j + 1) k = if k = n + j then rw' xs ys n j k + co xs n * co ys j else rw' xs ys n j k := by
  unfold rw'
  by_cases h : k = n + j
  · subst h
    have e : n + j - n = j := by omega
    rw [if_pos rfl, if_pos (by omega), if_neg (by omega), e]; omega
  · rw [if_neg h]
    congr 1
    by_cases h2 : n ≤ k ∧ k < n + j
    · rw [if_pos h2, if_pos (by omega)]
    · rw [if_neg h2, if_neg (by omega)]

/-- The value, from the low end. -/
theorem ev_snoc (t : Int) (n : Nat) : ∀ f : Nat → Int, ev t (n + 1) f = ev t n f + f n * t ^ n := by
  induction n with
  | zero => intro f; show f 0 + t * 0 = 0 + f 0 * t ^ 0; rw [Int.mul_zero, Int.pow_zero, Int.mul_one]; omega
  | succ n ih =>
    intro f
    show f 0 + t * ev t (n + 1) (fun i => f (i + 1)) = f 0 + t * ev t n (fun i => f (i + 1)) + f (n + 1) * t ^ (n + 1)
    rw [ih (fun i => f (i + 1)), Int.mul_add, Int.pow_succ, Int.add_assoc]
    congr 2
    rw [Int.mul_left_comm, Int.mul_comm (t ^ n) t]

/-- One step of a division: c times q, d places up, moved from the rest to the quotient. -/
theorem div_step {p c : Int} {A A' R R' P q : Nat → Int} {d : Nat} (h : Al p (fun i => cv A q i + R i) P) (hA : ∀ i, A' i = A i + pt d c i)
    (hR : ∀ i, R' i % p = (R i - if d ≤ i then c * q (i - d) else 0) % p) : Al p (fun i => cv A' q i + R' i) P := by
  intro i
  have e1 : cv A' q i = cv A q i + if d ≤ i then c * q (i - d) else 0 := by
    rw [← cv_pt, ← cv_add_left]; exact cv_congr i (fun j _ => hA j) (fun j _ => rfl)
  have h1 : (cv A q i + R i) % p = P i % p := h i
  show (cv A' q i + R' i) % p = P i % p
  rw [e1, Int.add_emod, hR i, ← Int.add_emod, ← h1]
  congr 1; omega

theorem into_end (q : Nat → Int) (m : Nat) (hq : ∀ i, m < i → q i = 0) : ∀ (xs : List Int) (i : Nat), (xs.length - 1) * m < i → into q xs i = 0 := by
  intro xs
  induction xs with
  | nil => intro i _; rfl
  | cons x xs ih =>
    intro i hi
    show (if i = 0 then x else 0) + cv q (into q xs) i = 0
    have hpos : 0 < i := by omega
    rw [if_neg (by omega), Int.zero_add]
    simp only [List.length_cons, Nat.add_sub_cancel] at hi
    cases hx : xs with
    | nil => rw [cv_comm]; exact cv_zero_left q i _ (fun j _ => rfl)
    | cons y ys =>
      rw [← hx]
      have hl : xs.length = ys.length + 1 := by rw [hx]; rfl
      have e : xs.length * m = (xs.length - 1) * m + m := by rw [hl, Nat.add_sub_cancel, Nat.add_mul, Nat.one_mul]
      exact cv_end (m := m + 1) (n := (xs.length - 1) * m + 1) i (fun j hj => hq j (by omega)) (fun j hj => ih j (by omega)) (by omega)

/-- Values go through it. -/
theorem ev_into (t : Int) (q : Nat → Int) (m : Nat) (hq : ∀ i, m < i → q i = 0) : ∀ (xs : List Int) (N : Nat), (xs.length - 1) * m < N → ev t N (into q xs) = ev (ev t (m + 1) q) xs.length (co xs) := by
  intro xs
  induction xs with
  | nil => intro N _; exact ev_zero t N _ (fun i _ => rfl)
  | cons x xs ih =>
    intro N hN
    show ev t N (fun i => (if i = 0 then x else 0) + cv q (into q xs) i) = x + ev t (m + 1) q * ev (ev t (m + 1) q) xs.length (co xs)
    rw [ev_add t N (fun i => if i = 0 then x else 0) (cv q (into q xs))]
    have e1 : ev t N (fun i => if i = 0 then x else 0) = x := by
      cases N with
      | zero => omega
      | succ N =>
        show (if (0 : Nat) = 0 then x else 0) + t * ev t N (fun i => if i + 1 = 0 then x else 0) = x
        rw [ev_zero t N _ (fun i _ => if_neg (by omega))]; simp
    rw [e1]
    congr 1
    cases hx : xs with
    | nil =>
      rw [ev_zero t N _ (fun i _ => by rw [cv_comm]; exact cv_zero_left q i _ (fun j _ => rfl))]
      exact (Int.mul_zero _).symm
    | cons y ys =>
      rw [← hx]
      have hl : xs.length = ys.length + 1 := by rw [hx]; rfl
      have e : xs.length * m = (xs.length - 1) * m + m := by rw [hl, Nat.add_sub_cancel, Nat.add_mul, Nat.one_mul]
      simp only [List.length_cons, Nat.add_sub_cancel] at hN
      have hend := into_end q m hq xs
      have h1 := ev_mul t (into q xs) ((xs.length - 1) * m + 1) (fun i hi => hend i (by omega)) (m + 1) q (fun i hi => hq i (by omega))
      rw [ih ((xs.length - 1) * m + 1) (by omega)] at h1
      rw [← h1]
      obtain ⟨r, hr⟩ : ∃ r, (m + 1) + ((xs.length - 1) * m + 1) = N + r ∨ N = (m + 1) + ((xs.length - 1) * m + 1) + r := by
        by_cases hc : N ≤ (m + 1) + ((xs.length - 1) * m + 1)
        · exact ⟨_, .inl (Nat.add_sub_of_le hc).symm⟩
        · exact ⟨N - ((m + 1) + ((xs.length - 1) * m + 1)), .inr (by omega)⟩
      have hz : ∀ i, m + (xs.length - 1) * m < i → cv q (into q xs) i = 0 := fun i hi =>
        cv_end (m := m + 1) (n := (xs.length - 1) * m + 1) i (fun j hj => hq j (by omega)) (fun j hj => hend j (by omega)) (by omega)
      rcases hr with hr | hr
      · rw [hr, ev_more t N r _ (fun i hi => hz i (by omega))]
      · rw [hr, ev_more t _ r _ (fun i hi => hz i (by omega))]

end Go.Proofs.Ytdegpefhegmamab.Fld
