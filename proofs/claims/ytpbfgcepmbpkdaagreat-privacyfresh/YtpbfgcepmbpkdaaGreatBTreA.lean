/-
  Products of factors, laid out as a tree; where they are 0; remainders and values; slopes. Plain arithmetic.
-/
import Derived.Test.YtpbfgcepmbpkdaaGreatBEucA
namespace Go.Proofs.YtpbfgcepmbpkdaaGreat.Fld
set_option linter.unusedVariables false

/-- The factor of an element. -/
def fac (p x : Int) : List Int := [sub p 0 x, 1]
theorem fac_tm {p x : Int} {wd : Bool} (hm : Md p wd) : Tm p (fac p x) := by
  have hb := hm.bounds
  refine ⟨fun y hy => ?_, tr_full (.inr (show (1 : Int) ≠ 0 by decide))⟩
  have : y = sub p 0 x ∨ y = 1 := by simpa [fac] using hy
  rcases this with rfl | rfl
  · exact emod_el (by omega) _
  · exact ⟨by decide, by omega⟩
/-- The product of the factors. -/
def zr (p : Int) : List Int → Pl p
  | [] => pl p [1]
  | x :: xs => qm (pl p (fac p x)) (zr p xs)
theorem zr_append (p : Int) (xs ys : List Int) : zr p (xs ++ ys) = qm (zr p xs) (zr p ys) := by
  induction xs with
  | nil => show zr p ys = qm (pl p [1]) (zr p ys); rw [pl_one_mul]
  | cons x xs ih => show qm (pl p (fac p x)) (zr p (xs ++ ys)) = qm (qm (pl p (fac p x)) (zr p xs)) (zr p ys); rw [ih, qm_assoc]
theorem zr_snoc (p : Int) (xs : List Int) (x : Int) : zr p (xs ++ [x]) = qm (zr p xs) (pl p (fac p x)) := by
  rw [zr_append]
  show qm (zr p xs) (qm (pl p (fac p x)) (pl p [1])) = _
  rw [pl_mul_one]
/-- The product as a list. -/
def zl (p : Int) : List Int → List Int
  | [] => [1]
  | x :: xs => prd p (fac p x) (zl p xs)
theorem zl_facts {p : Int} {wd : Bool} (hm : Md p wd) (xs : List Int) : Tm p (zl p xs) ∧ pl p (zl p xs) = zr p xs ∧ (zl p xs).length = xs.length + 1 := by
  induction xs with
  | nil =>
    have hb := hm.bounds
    exact ⟨Tm.single ⟨by decide, by omega⟩ (by decide), rfl, rfl⟩
  | cons x xs ih =>
    have hf := fac_tm (x := x) hm
    have hi := (is_prd hm hf.1 ih.1.1 hf.2 ih.1.2).tm
    refine ⟨hi.1, ?_, ?_⟩
    · show pl p (prd p (fac p x) (zl p xs)) = qm (pl p (fac p x)) (zr p xs)
      rw [pl_mul, ih.2.1]
    · show (prd p (fac p x) (zl p xs)).length = _
      rw [prd_len p _ _ (by simp [fac]) (fun e => by rw [e] at ih; simp at ih), ih.2.2]
      simp [fac]; omega
theorem zl_only {p : Int} {wd : Bool} (hm : Md p wd) {xs zs : List Int} (hz : Tm p zs) (h : pl p zs = zr p xs) : zs = zl p xs := by
  have hp : 0 < p := by have := hm.bounds; omega
  exact hz.only hp (zl_facts hm xs).1 (h.trans (zl_facts hm xs).2.1.symm)
theorem vl_mul {p t : Int} {xs ys zs : List Int} (h : pl p zs = qm (pl p xs) (pl p ys)) : vl p t zs = (vl p t xs * vl p t ys) % p := by
  have h1 : vl p t zs = ev t (xs.length + ys.length) (cv (co xs) (co ys)) % p := vl_is (pu_al (show pu p (co zs) = pu p (cv (co xs) (co ys)) from h)) (fun i hi => cv_end i (fun j hj => co_out xs j hj) (fun j hj => co_out ys j hj) (by omega))
  rw [h1, ev_mul t (co ys) ys.length (fun i hi => co_out _ _ hi) xs.length (co xs) (fun i hi => co_out _ _ hi), Int.mul_emod]; rfl
theorem vl_add {p t : Int} {xs ys zs : List Int} (h : pl p zs = qa (pl p xs) (pl p ys)) : vl p t zs = (vl p t xs + vl p t ys) % p := by
  have h1 : vl p t zs = ev t (xs.length + ys.length) (fun i => co xs i + co ys i) % p := vl_is (pu_al (show pu p (co zs) = pu p (fun i => co xs i + co ys i) from h)) (fun i hi => by show co xs i + co ys i = 0; rw [co_out xs i (by omega), co_out ys i (by omega)]; rfl)
  rw [h1, ev_add t _ (co xs) (co ys), ev_more t xs.length ys.length (co xs) (fun i hi => co_out _ _ hi), Nat.add_comm, ev_more t ys.length xs.length (co ys) (fun i hi => co_out _ _ hi), Int.add_emod]; rfl
theorem vl_fac {p t x : Int} : vl p t (fac p x) = (t - x) % p := by
  show (sub p 0 x + t * (1 + t * 0)) % p = _
  unfold sub
  rw [Int.mul_zero, Int.add_zero, Int.mul_one, Int.add_emod, Int.emod_emod_of_dvd _ (Int.dvd_refl p), ← Int.add_emod]
  congr 1; omega
/-- The product is 0 at the elements, and nowhere else. -/
theorem zl_root {p t : Int} {wd : Bool} (hm : Md p wd) (ht : El p t) {xs : List Int} (hx : Els p xs) : vl p t (zl p xs) = 0 ↔ t ∈ xs := by
  have hb := hm.bounds
  induction xs with
  | nil =>
    constructor
    · intro h
      have e : vl p t [1] = 1 := by
        show (1 + t * 0) % p = 1
        rw [Int.mul_zero]; exact Int.emod_eq_of_lt (by decide) (by omega)
      exact absurd ((show vl p t [1] = 0 from h).symm.trans e) (by decide)
    · intro h; cases h
  | cons x xs ih =>
    have hxe := hx x List.mem_cons_self
    have ih := ih (fun y hy => hx y (List.mem_cons_of_mem _ hy))
    have e : vl p t (zl p (x :: xs)) = ((t - x) % p * vl p t (zl p xs)) % p := by
      have := vl_mul (p := p) (t := t) (zs := zl p (x :: xs)) (xs := fac p x) (ys := zl p xs) (by show pl p (prd p (fac p x) (zl p xs)) = _; rw [pl_mul])
      rw [this, vl_fac]
    have ev0 : vl p t (zl p xs) % p = vl p t (zl p xs) := (vl_el (by omega) t (zl p xs)).mod
    constructor
    · intro h
      rw [h] at e
      by_cases h0 : vl p t (zl p xs) = 0
      · exact List.mem_cons_of_mem _ (ih.1 h0)
      · have := no_div hm _ _ (by rw [ev0]; exact h0) e.symm
        rw [Int.emod_emod_of_dvd _ (Int.dvd_refl p)] at this
        have : t = x := by
          have h1 := ht.1; have h2 := ht.2; have h3 := hxe.1; have h4 := hxe.2
          have h5 := Int.emod_emod_of_dvd (t - x) (Int.dvd_refl p)
          by_cases hge : 0 ≤ t - x
          · rw [Int.emod_eq_of_lt hge (by omega)] at this; omega
          · have h6 : (t - x + p) % p = 0 := by rw [Int.add_emod_right]; exact this
            rw [Int.emod_eq_of_lt (by omega) (by omega)] at h6; omega
        rw [this]; exact List.mem_cons_self
    · intro h
      rw [e]
      rcases List.mem_cons.1 h with rfl | h
      · rw [Int.sub_self, Int.zero_emod, Int.zero_mul]; exact Int.zero_emod p
      · rw [ih.2 h, Int.mul_zero]; exact Int.zero_emod p
/-- A remainder has the value, where the divisor is 0. -/
theorem rem_vl {p t : Int} {P M Q R : List Int} (h : Dv p P M Q R) (h0 : vl p t M = 0) : vl p t P = vl p t R := by
  have e := h.rg.2.2.2
  have h1 := vl_add (p := p) (t := t) (zs := P) (xs := prd p Q M) (ys := R) (by rw [pl_mul, e])
  have h2 := vl_mul (p := p) (t := t) (zs := prd p Q M) (xs := Q) (ys := M) (pl_mul p Q M)
  rw [h1, h2, h0, Int.mul_zero, Int.zero_emod, Int.zero_add]
  unfold vl
  exact Int.emod_emod_of_dvd _ (Int.dvd_refl p)
/-- The remainder by a factor is the value. -/
theorem rem_fac {p x : Int} {wd : Bool} (hm : Md p wd) (hx : El p x) {P Q R : List Int} (h : Dv p P (fac p x) Q R) : R = tr [vl p x P] := by
  have hp : 0 < p := by have := hm.bounds; omega
  have hl := h.rg.2.2.1
  rw [(fac_tm hm).2] at hl
  have hl : R.length < 2 := hl
  have hv := rem_vl (t := x) h (by rw [vl_fac, Int.sub_self]; exact Int.zero_emod p)
  have ht := h.rg.2.1
  match R, hl, ht, hv with
  | [], _, _, hv => rw [hv]; rfl
  | [r], _, ht, hv =>
    have hr := ht.1 r (List.mem_singleton.2 rfl)
    have e : vl p x [r] = r := by
      show (r + x * 0) % p = r
      rw [Int.mul_zero, Int.add_zero]; exact hr.mod
    rw [hv, e]; exact ht.2.symm
  | _ :: _ :: _, hl, _, _ => simp at hl; omega
/-- A piece of the elements. -/
def ck (xs : List Int) (s i : Nat) : List Int := (xs.drop (i * s)).take s
theorem ck_two (xs : List Int) (s i : Nat) : ck xs (2 * s) i = ck xs s (2 * i) ++ ck xs s (2 * i + 1) := by
  unfold ck
  have e1 : 2 * i * s = i * (2 * s) := by rw [Nat.mul_comm 2 i, Nat.mul_assoc]
  have e2 : (2 * i + 1) * s = i * (2 * s) + s := by rw [Nat.add_mul, e1, Nat.one_mul]
  rw [e1, e2, Nat.two_mul, List.take_add, List.drop_drop]
theorem ck_out (xs : List Int) (s i : Nat) (h : xs.length ≤ i * s) : ck xs s i = [] := by
  unfold ck; rw [List.drop_eq_nil_of_le h]; simp
theorem ck_one (xs : List Int) (i : Nat) (h : i < xs.length) : ck xs 1 i = [xs.getD i 0] := by
  unfold ck
  rw [Nat.mul_one]
  have : xs.drop i = xs[i] :: xs.drop (i + 1) := List.drop_eq_getElem_cons h
  rw [this, List.getD_eq_getElem?_getD, List.getElem?_eq_getElem h]; rfl
theorem ck_all (xs : List Int) (s : Nat) (h : xs.length ≤ s) : ck xs s 0 = xs := by
  unfold ck; rw [Nat.zero_mul, List.drop_zero, List.take_of_length_le h]
/-- How many pieces. -/
def cn (n s : Nat) : Nat := (n + (s - 1)) / s
theorem cn_lt {n s i : Nat} (hs : 0 < s) : i < cn n s ↔ i * s < n := by
  unfold cn
  rw [Nat.lt_iff_add_one_le, Nat.le_div_iff_mul_le hs, Nat.add_mul, Nat.one_mul]; omega
/-- The product of a piece out of two halves. -/
theorem zl_two {p : Int} {wd : Bool} (hm : Md p wd) (xs : List Int) (s i : Nat) : prd p (zl p (ck xs s (2 * i))) (zl p (ck xs s (2 * i + 1))) = zl p (ck xs (2 * s) i) := by
  have h1 := zl_facts hm (ck xs s (2 * i))
  have h2 := zl_facts hm (ck xs s (2 * i + 1))
  have hi := (is_prd hm h1.1.1 h2.1.1 h1.1.2 h2.1.2).tm
  exact zl_only hm hi.1 (by rw [pl_mul, h1.2.1, h2.2.1, ck_two, zr_append])
theorem zl_left {p : Int} (xs : List Int) (s i : Nat) (h : xs.length ≤ (2 * i + 1) * s) : zl p (ck xs (2 * s) i) = zl p (ck xs s (2 * i)) := by
  rw [ck_two, ck_out xs s (2 * i + 1) h, List.append_nil]

/-- Coefficients of the slope. -/
def sf (F : Nat → Int) : Nat → Int := fun i => ((i : Int) + 1) * F (i + 1)
theorem sf_cv (g : Nat → Int) (k : Nat) : ∀ f : Nat → Int, sf (cv f g) k = cv (sf f) g k + cv f (sf g) k := by
  induction k with
  | zero =>
    intro f
    show ((0 : Nat) + 1 : Int) * (f 0 * g 1 + f 1 * g 0) = (((0 : Nat) + 1 : Int) * f 1) * g 0 + f 0 * (((0 : Nat) + 1 : Int) * g 1)
    simp; omega
  | succ k ih =>
    intro f
    have ih' : ((k : Int) + 1) * cv (fun i => f (i + 1)) g (k + 1) = cv (sf fun i => f (i + 1)) g k + cv (fun i => f (i + 1)) (sf g) k := ih (fun i => f (i + 1))
    -- the slope of f: f shifted, and what is left
    have hE : cv (sf f) g (k + 1) = cv (fun i => f (i + 1)) g (k + 1) + cv (sf fun i => f (i + 1)) g k := by
      have h1 : cv (sf f) g (k + 1) = cv (fun i => f (i + 1) + (i : Int) * f (i + 1)) g (k + 1) := cv_congr _ (fun i _ => by show ((i : Int) + 1) * f (i + 1) = _; rw [Int.add_mul, Int.one_mul]; omega) (fun i _ => rfl)
      rw [h1, cv_add_left g (k + 1) (fun i => f (i + 1)) (fun i => (i : Int) * f (i + 1))]
      congr 1
      show ((0 : Nat) : Int) * f 1 * g (k + 1) + cv (fun i => ((i + 1 : Nat) : Int) * f (i + 1 + 1)) g k = cv (sf fun i => f (i + 1)) g k
      have h2 : cv (fun i => ((i + 1 : Nat) : Int) * f (i + 1 + 1)) g k = cv (sf fun i => f (i + 1)) g k := cv_congr _ (fun i _ => by show ((i + 1 : Nat) : Int) * f (i + 1 + 1) = ((i : Int) + 1) * f (i + 1 + 1); congr 1) (fun i _ => rfl)
      rw [h2]; simp
    rw [hE]
    show ((k + 1 : Nat) + 1 : Int) * (f 0 * g (k + 1 + 1) + cv (fun i => f (i + 1)) g (k + 1)) = cv (fun i => f (i + 1)) g (k + 1) + cv (sf fun i => f (i + 1)) g k + (f 0 * (((k + 1 : Nat) + 1 : Int) * g (k + 1 + 1)) + cv (fun i => f (i + 1)) (sf g) k)
    have e3 : (((k + 1 : Nat) : Int) + 1) * (f 0 * g (k + 1 + 1)) = f 0 * ((((k + 1 : Nat) : Int) + 1) * g (k + 1 + 1)) := by rw [← Int.mul_assoc, Int.mul_comm _ (f 0), Int.mul_assoc]
    have e4 : (((k + 1 : Nat) : Int) + 1) * cv (fun i => f (i + 1)) g (k + 1) = cv (fun i => f (i + 1)) g (k + 1) + ((k : Int) + 1) * cv (fun i => f (i + 1)) g (k + 1) := by
      have : (((k + 1 : Nat) : Int) + 1) = 1 + ((k : Int) + 1) := by omega
      rw [this, Int.add_mul, Int.one_mul]
    rw [Int.mul_add, e3, e4, ih']; omega
theorem al_sf {p : Int} {F G : Nat → Int} (h : Al p F G) : Al p (sf F) (sf G) := fun i => by
  show (((i : Int) + 1) * F (i + 1)) % p = (((i : Int) + 1) * G (i + 1)) % p
  rw [Int.mul_emod, h (i + 1), ← Int.mul_emod]
/-- The slope as a list. -/
def slp (p : Int) (xs : List Int) : List Int := tr (mk (xs.length - 1) (fun i => (((i : Int) + 1) * co xs (i + 1)) % p))
theorem is_slp {p : Int} (hp : 0 < p) (xs : List Int) : Is p (slp p xs) (sf (co xs)) := is_mk (F := sf (co xs)) hp (fun i hi => by
  show (((i : Int) + 1) * co xs (i + 1)) % p = 0
  rw [co_out xs (i + 1) (by omega), Int.mul_zero]; exact Int.zero_emod p)
/-- The slope of a product. -/
theorem slp_mul {p : Int} (hp : 0 < p) {xs ys zs : List Int} (h : pl p zs = qm (pl p xs) (pl p ys)) : pl p (slp p zs) = qa (qm (pl p (slp p xs)) (pl p ys)) (qm (pl p xs) (pl p (slp p ys))) := by
  have h1 : Al p (co zs) (cv (co xs) (co ys)) := pu_al (show pu p (co zs) = pu p (cv (co xs) (co ys)) from h)
  rw [(is_slp hp zs).tm.2, (is_slp hp xs).tm.2, (is_slp hp ys).tm.2]
  show pu p (sf (co zs)) = pu p (fun i => cv (sf (co xs)) (co ys) i + cv (co xs) (sf (co ys)) i)
  exact pu_eq ((al_sf h1).trans (fun i => by rw [sf_cv]))

end Go.Proofs.YtpbfgcepmbpkdaaGreat.Fld
