/-
  Polynomials as their coefficients: products, values, degrees; then by a prime.
-/
import Derived.Test.YtdegpefhegmamabModL
namespace Go.Proofs.Ytdegpefhegmamab.Fld
set_option linter.unusedVariables false

/-- The product of two, coefficient by coefficient. -/
def cv (f g : Nat → Int) : Nat → Int
  | 0 => f 0 * g 0
  | k + 1 => f 0 * g (k + 1) + cv (fun i => f (i + 1)) g k

theorem cv_congr {g g' : Nat → Int} (k : Nat) : ∀ {f f' : Nat → Int}, (∀ i, i ≤ k → f i = f' i) → (∀ i, i ≤ k → g i = g' i) → cv f g k = cv f' g' k := by
  induction k with
  | zero => intro f f' hf hg; show f 0 * g 0 = f' 0 * g' 0; rw [hf 0 (Nat.le_refl _), hg 0 (Nat.le_refl _)]
  | succ k ih =>
    intro f f' hf hg
    show f 0 * g (k + 1) + cv (fun i => f (i + 1)) g k = f' 0 * g' (k + 1) + cv (fun i => f' (i + 1)) g' k
    rw [hf 0 (by omega), hg (k + 1) (Nat.le_refl _), ih (fun i hi => hf (i + 1) (by omega)) (fun i hi => hg i (by omega))]

theorem cv_add_right (g h : Nat → Int) (k : Nat) : ∀ f, cv f (fun i => g i + h i) k = cv f g k + cv f h k := by
  induction k with
  | zero => intro f; exact Int.mul_add _ _ _
  | succ k ih =>
    intro f
    show f 0 * (g (k + 1) + h (k + 1)) + cv (fun i => f (i + 1)) (fun i => g i + h i) k = f 0 * g (k + 1) + cv (fun i => f (i + 1)) g k + (f 0 * h (k + 1) + cv (fun i => f (i + 1)) h k)
    rw [ih, Int.mul_add]; omega

theorem cv_add_left (g : Nat → Int) (k : Nat) : ∀ f h : Nat → Int, cv (fun i => f i + h i) g k = cv f g k + cv h g k := by
  induction k with
  | zero => intro f h; exact Int.add_mul _ _ _
  | succ k ih =>
    intro f h
    show (f 0 + h 0) * g (k + 1) + cv (fun i => f (i + 1) + h (i + 1)) g k = f 0 * g (k + 1) + cv (fun i => f (i + 1)) g k + (h 0 * g (k + 1) + cv (fun i => h (i + 1)) g k)
    rw [ih (fun i => f (i + 1)) (fun i => h (i + 1)), Int.add_mul]; omega

theorem cv_smul_left (c : Int) (g : Nat → Int) (k : Nat) : ∀ f : Nat → Int, cv (fun i => c * f i) g k = c * cv f g k := by
  induction k with
  | zero => intro f; exact Int.mul_assoc _ _ _
  | succ k ih =>
    intro f
    show c * f 0 * g (k + 1) + cv (fun i => c * f (i + 1)) g k = c * (f 0 * g (k + 1) + cv (fun i => f (i + 1)) g k)
    rw [ih (fun i => f (i + 1)), Int.mul_add, Int.mul_assoc]

theorem cv_peel (k : Nat) : ∀ (f g : Nat → Int), cv f g (k + 1) = f (k + 1) * g 0 + cv f (fun i => g (i + 1)) k := by
  induction k with
  | zero =>
    intro f g
    show f 0 * g 1 + f 1 * g 0 = f 1 * g 0 + f 0 * g 1
    omega
  | succ k ih =>
    intro f g
    show f 0 * g (k + 1 + 1) + cv (fun i => f (i + 1)) g (k + 1) = f (k + 1 + 1) * g 0 + (f 0 * g (k + 1 + 1) + cv (fun i => f (i + 1)) (fun i => g (i + 1)) k)
    rw [ih (fun i => f (i + 1)) g]; omega

theorem cv_comm (k : Nat) : ∀ (f g : Nat → Int), cv f g k = cv g f k := by
  induction k with
  | zero => intro f g; exact Int.mul_comm _ _
  | succ k ih =>
    intro f g
    rw [cv_peel k g f, ← ih (fun i => f (i + 1)) g]
    show f 0 * g (k + 1) + cv (fun i => f (i + 1)) g k = g (k + 1) * f 0 + cv (fun i => f (i + 1)) g k
    rw [Int.mul_comm (g (k + 1))]

theorem cv_smul_right (c : Int) (f g : Nat → Int) (k : Nat) : cv f (fun i => c * g i) k = c * cv f g k := by
  rw [cv_comm, cv_smul_left, cv_comm]

theorem cv_assoc (h : Nat → Int) (k : Nat) : ∀ (f g : Nat → Int), cv (cv f g) h k = cv f (cv g h) k := by
  induction k with
  | zero => intro f g; exact Int.mul_assoc _ _ _
  | succ k ih =>
    intro f g
    show f 0 * g 0 * h (k + 1) + cv (fun i => f 0 * g (i + 1) + cv (fun i => f (i + 1)) g i) h k = f 0 * (g 0 * h (k + 1) + cv (fun i => g (i + 1)) h k) + cv (fun i => f (i + 1)) (cv g h) k
    have e1 := cv_add_left h k (fun i => f 0 * g (i + 1)) (cv (fun i => f (i + 1)) g)
    have e2 := cv_smul_left (f 0) h k (fun i => g (i + 1))
    rw [e1, e2, ih, Int.mul_add, Int.mul_assoc]; omega

theorem cv_zero_left (g : Nat → Int) (k : Nat) : ∀ f : Nat → Int, (∀ i, i ≤ k → f i = 0) → cv f g k = 0 := by
  induction k with
  | zero => intro f h; show f 0 * g 0 = 0; rw [h 0 (Nat.le_refl _), Int.zero_mul]
  | succ k ih =>
    intro f h
    show f 0 * g (k + 1) + cv (fun i => f (i + 1)) g k = 0
    rw [h 0 (by omega), ih _ (fun i hi => h (i + 1) (by omega)), Int.zero_mul]; rfl

/-- Where both end, the product does. -/
theorem cv_end {g : Nat → Int} {n : Nat} (k : Nat) : ∀ {m : Nat} {f : Nat → Int}, (∀ i, m ≤ i → f i = 0) → (∀ i, n ≤ i → g i = 0) → m + n ≤ k + 1 → cv f g k = 0 := by
  induction k with
  | zero =>
    intro m f hf hg h
    show f 0 * g 0 = 0
    by_cases h0 : m = 0
    · rw [hf 0 (by omega), Int.zero_mul]
    · rw [hg 0 (by omega), Int.mul_zero]
  | succ k ih =>
    intro m f hf hg h
    show f 0 * g (k + 1) + cv (fun i => f (i + 1)) g k = 0
    cases m with
    | zero => rw [hf 0 (Nat.le_refl _), cv_zero_left g k _ (fun i _ => hf (i + 1) (Nat.zero_le _)), Int.zero_mul]; rfl
    | succ m => rw [hg (k + 1) (by omega), ih (m := m) (fun i hi => hf (i + 1) (by omega)) hg (by omega), Int.mul_zero]; rfl

/-- The product's top coefficient. -/
theorem cv_top {g : Nat → Int} {n : Nat} (m : Nat) : ∀ {f : Nat → Int}, (∀ i, m < i → f i = 0) → (∀ i, n < i → g i = 0) → cv f g (m + n) = f m * g n := by
  induction m with
  | zero =>
    intro f hf hg
    rw [Nat.zero_add]
    cases n with
    | zero => rfl
    | succ n =>
      show f 0 * g (n + 1) + cv (fun i => f (i + 1)) g n = _
      rw [cv_zero_left g n _ (fun i _ => hf (i + 1) (by omega))]; omega
  | succ m ih =>
    intro f hf hg
    have e : m + 1 + n = (m + n) + 1 := by omega
    rw [e]
    show f 0 * g (m + n + 1) + cv (fun i => f (i + 1)) g (m + n) = _
    rw [hg (m + n + 1) (by omega), ih (fun i hi => hf (i + 1) (by omega)) hg, Int.mul_zero, Int.zero_add]

/-- The value, from n coefficients. -/
def ev (t : Int) : Nat → (Nat → Int) → Int
  | 0, _ => 0
  | n + 1, f => f 0 + t * ev t n (fun i => f (i + 1))

theorem ev_congr (t : Int) (n : Nat) : ∀ {f g : Nat → Int}, (∀ i, i < n → f i = g i) → ev t n f = ev t n g := by
  induction n with
  | zero => intro f g _; rfl
  | succ n ih =>
    intro f g h
    show f 0 + t * ev t n _ = g 0 + t * ev t n _
    rw [h 0 (by omega), ih (fun i hi => h (i + 1) (by omega))]

theorem ev_add (t : Int) (n : Nat) : ∀ f g : Nat → Int, ev t n (fun i => f i + g i) = ev t n f + ev t n g := by
  induction n with
  | zero => intro f g; rfl
  | succ n ih =>
    intro f g
    show f 0 + g 0 + t * ev t n (fun i => f (i + 1) + g (i + 1)) = f 0 + t * ev t n (fun i => f (i + 1)) + (g 0 + t * ev t n (fun i => g (i + 1)))
    rw [ih (fun i => f (i + 1)) (fun i => g (i + 1)), Int.mul_add]; omega

theorem ev_smul (t c : Int) (n : Nat) : ∀ f : Nat → Int, ev t n (fun i => c * f i) = c * ev t n f := by
  induction n with
  | zero => intro f; exact (Int.mul_zero c).symm
  | succ n ih =>
    intro f
    show c * f 0 + t * ev t n (fun i => c * f (i + 1)) = c * (f 0 + t * ev t n (fun i => f (i + 1)))
    rw [ih (fun i => f (i + 1)), Int.mul_add, ← Int.mul_assoc, ← Int.mul_assoc, Int.mul_comm t c]

theorem ev_zero (t : Int) (n : Nat) : ∀ f : Nat → Int, (∀ i, i < n → f i = 0) → ev t n f = 0 := by
  induction n with
  | zero => intro f _; rfl
  | succ n ih =>
    intro f h
    show f 0 + t * ev t n _ = 0
    rw [h 0 (by omega), ih _ (fun i hi => h (i + 1) (by omega)), Int.mul_zero]; rfl

theorem ev_more (t : Int) (n : Nat) : ∀ (m : Nat) (f : Nat → Int), (∀ i, n ≤ i → f i = 0) → ev t (n + m) f = ev t n f := by
  induction n with
  | zero => intro m f h; exact ev_zero t _ f (fun i _ => h i (Nat.zero_le _))
  | succ n ih =>
    intro m f h
    have e : n + 1 + m = (n + m) + 1 := by omega
    rw [e]
    show f 0 + t * ev t (n + m) _ = f 0 + t * ev t n _
    rw [ih m _ (fun i hi => h (i + 1) (by omega))]

/-- Values go through products. -/
theorem ev_mul (t : Int) (g : Nat → Int) (n : Nat) (hg : ∀ i, n ≤ i → g i = 0) (m : Nat) : ∀ f : Nat → Int, (∀ i, m ≤ i → f i = 0) → ev t (m + n) (cv f g) = ev t m f * ev t n g := by
  induction m with
  | zero => intro f h; rw [ev_zero t _ _ (fun i _ => cv_zero_left g i f (fun j _ => h j (Nat.zero_le _)))]; exact (Int.zero_mul _).symm
  | succ m ih =>
    intro f h
    have e : m + 1 + n = (m + n) + 1 := by omega
    rw [e]
    have h1 := ih (fun i => f (i + 1)) (fun i hi => h (i + 1) (by omega))
    have h2 : ev t (m + n + 1) (fun i => f 0 * g i) = f 0 * ev t n g := by
      rw [ev_smul]; congr 1
      have e2 : m + n + 1 = n + (m + 1) := by omega
      rw [e2, ev_more t n (m + 1) g hg]
    have h3 : ev t (m + n + 1) (cv f g) = ev t (m + n + 1) (fun i => f 0 * g i) + t * ev t (m + n) (cv (fun i => f (i + 1)) g) := by
      show f 0 * g 0 + t * ev t (m + n) (fun i => f 0 * g (i + 1) + cv (fun i => f (i + 1)) g i) = f 0 * g 0 + t * ev t (m + n) (fun i => f 0 * g (i + 1)) + t * ev t (m + n) (cv (fun i => f (i + 1)) g)
      rw [ev_add t (m + n) (fun i => f 0 * g (i + 1)) (cv (fun i => f (i + 1)) g), Int.mul_add]; omega
    rw [h3, h2, h1]
    show _ = (f 0 + t * ev t m (fun i => f (i + 1))) * ev t n g
    rw [Int.add_mul, Int.mul_assoc]

/-- Alike by p. -/
def Al (p : Int) (f g : Nat → Int) : Prop := ∀ i, f i % p = g i % p
theorem Al.refl (p : Int) (f : Nat → Int) : Al p f f := fun _ => rfl
theorem Al.symm {p : Int} {f g : Nat → Int} (h : Al p f g) : Al p g f := fun i => (h i).symm
theorem Al.trans {p : Int} {f g h : Nat → Int} (h1 : Al p f g) (h2 : Al p g h) : Al p f h := fun i => (h1 i).trans (h2 i)
theorem Al.add {p : Int} {f f' g g' : Nat → Int} (h1 : Al p f f') (h2 : Al p g g') : Al p (fun i => f i + g i) (fun i => f' i + g' i) := fun i => by
  show (f i + g i) % p = (f' i + g' i) % p
  rw [Int.add_emod, h1 i, h2 i, ← Int.add_emod]
theorem Al.sub {p : Int} {f f' g g' : Nat → Int} (h1 : Al p f f') (h2 : Al p g g') : Al p (fun i => f i - g i) (fun i => f' i - g' i) := fun i => by
  show (f i - g i) % p = (f' i - g' i) % p
  rw [Int.sub_emod, h1 i, h2 i, ← Int.sub_emod]
theorem Al.mod (p : Int) (f : Nat → Int) : Al p (fun i => f i % p) f := fun i => Int.emod_emod_of_dvd _ (Int.dvd_refl p)
theorem al_cv {p : Int} {g g' : Nat → Int} (h2 : Al p g g') (k : Nat) : ∀ {f f' : Nat → Int}, Al p f f' → cv f g k % p = cv f' g' k % p := by
  induction k with
  | zero => intro f f' h1; show (f 0 * g 0) % p = (f' 0 * g' 0) % p; rw [Int.mul_emod, h1 0, h2 0, ← Int.mul_emod]
  | succ k ih =>
    intro f f' h1
    show (f 0 * g (k + 1) + cv (fun i => f (i + 1)) g k) % p = (f' 0 * g' (k + 1) + cv (fun i => f' (i + 1)) g' k) % p
    rw [Int.add_emod, ih (f := fun i => f (i + 1)) (f' := fun i => f' (i + 1)) (fun i => h1 (i + 1)), Int.mul_emod, h1 0, h2 (k + 1), ← Int.mul_emod, ← Int.add_emod]
theorem Al.cv {p : Int} {f f' g g' : Nat → Int} (h1 : Al p f f') (h2 : Al p g g') : Al p (cv f g) (cv f' g') := fun k => al_cv h2 k h1
theorem Al.ev {p : Int} (t : Int) (n : Nat) : ∀ {f f' : Nat → Int}, Al p f f' → ev t n f % p = ev t n f' % p := by
  induction n with
  | zero => intro f f' _; rfl
  | succ n ih =>
    intro f f' h
    show (f 0 + t * Fld.ev t n (fun i => f (i + 1))) % p = (f' 0 + t * Fld.ev t n (fun i => f' (i + 1))) % p
    rw [Int.add_emod, h 0, Int.mul_emod, ih (f := fun i => f (i + 1)) (f' := fun i => f' (i + 1)) (fun i => h (i + 1)), ← Int.mul_emod, ← Int.add_emod]

end Go.Proofs.Ytdegpefhegmamab.Fld
