/-
  Polynomials through points: how many roots there are, that the polynomial through points is the only one, Lagrange's polynomials, weights, changes of places. Plain arithmetic.
-/
import Derived.Test.YtpbfgcepmbpkdaaGreatBTreA
import Derived.Test.YtpbfgcepmbpkdaaGreatBunW
namespace Go.Proofs.YtpbfgcepmbpkdaaGreat.Fld
set_option linter.unusedVariables false

/-- What is left of a polynomial when the factor of an element is taken out of it. -/
def sq (p t : Int) (P : List Int) : List Int := tr (mk (P.length - 1) (fun i => hn p t P (i + 1)))
theorem cv_fac (p t : Int) (g : Nat → Int) (k : Nat) : cv (co (fac p t)) g (k + 1) = sub p 0 t * g (k + 1) + g k := by
  show sub p 0 t * g (k + 1) + cv (fun i => co (fac p t) (i + 1)) g k = _
  have : cv (fun i => co (fac p t) (i + 1)) g k = 1 * g k := by
    rw [← cv_single 1 g k]
    exact cv_congr k (fun i _ => by cases i <;> rfl) (fun i _ => rfl)
  rw [this, Int.one_mul]
theorem hn_out {p t : Int} {P : List Int} {i : Nat} (h : P.length ≤ i) : hn p t P i = 0 := by
  unfold hn
  rw [show P.length - i = 0 by omega]; exact Int.zero_emod p
theorem hn_eq {p t : Int} (P : List Int) (i : Nat) : (sub p 0 t * hn p t P (i + 1) + hn p t P i) % p = co P i % p := by
  by_cases h : i < P.length
  · rw [← hn_step h]
    unfold sub add mul
    have e1 : ((0 - t) % p * hn p t P (i + 1) + (hn p t P (i + 1) * t % p + co P i) % p) % p = ((0 - t) * hn p t P (i + 1) + (hn p t P (i + 1) * t + co P i)) % p := by
      simp [Int.add_emod, Int.mul_emod]
    rw [e1]
    congr 1
    rw [Int.sub_mul, Int.zero_mul, Int.mul_comm t]; omega
  · rw [hn_out (by omega), hn_out (by omega), co_out P i (by omega), Int.mul_zero, Int.add_zero]
/-- A polynomial that is 0 at an element has its factor. -/
theorem fac_out {p t : Int} (hp : 0 < p) {P : List Int} (h0 : vl p t P = 0) : Tm p (sq p t P) ∧ pl p P = qm (pl p (fac p t)) (pl p (sq p t P)) := by
  have he : Els p (mk (P.length - 1) (fun i => hn p t P (i + 1))) := Els.mk _ (fun i _ => hn_el hp t P (i + 1))
  refine ⟨Tm.tr hp he, ?_⟩
  unfold sq
  rw [pl_tr]
  have hc : ∀ i, co (mk (P.length - 1) (fun i => hn p t P (i + 1))) i = hn p t P (i + 1) := fun i => by
    rw [co_mk]
    split
    · rfl
    · rw [hn_out (by omega)]
  show pu p (co P) = pu p (cv (co (fac p t)) (co (mk (P.length - 1) (fun i => hn p t P (i + 1)))))
  refine pu_eq (fun i => ?_)
  cases i with
  | zero =>
    show _ = (sub p 0 t * co (mk (P.length - 1) (fun i => hn p t P (i + 1))) 0) % p
    rw [hc, ← hn_eq P 0, hn_zero, h0, Int.add_zero]
  | succ i => rw [cv_fac, hc, hc, ← hn_eq P (i + 1)]
theorem ne_mod {p a b : Int} (ha : El p a) (hb : El p b) (h : a ≠ b) : (a - b) % p ≠ 0 := by
  intro h0
  have h1 := ha.1; have h2 := ha.2; have h3 := hb.1; have h4 := hb.2
  by_cases hge : 0 ≤ a - b
  · rw [Int.emod_eq_of_lt hge (by omega)] at h0; omega
  · have h6 : (a - b + p) % p = 0 := by rw [Int.add_emod_right]; exact h0
    rw [Int.emod_eq_of_lt (by omega) (by omega)] at h6; omega
/-- A polynomial that is 0 at as many unlike elements as it is long is 0. -/
theorem roots_zero {p : Int} {wd : Bool} (hm : Md p wd) : ∀ (xs P : List Int), Els p xs → xs.Nodup → Tm p P → P.length ≤ xs.length → (∀ x ∈ xs, vl p x P = 0) → P = [] := by
  have hp : 0 < p := by have := hm.bounds; omega
  intro xs
  induction xs with
  | nil => intro P _ _ _ hl _; exact List.length_eq_zero_iff.1 (by simpa using hl)
  | cons x xs ih =>
    intro P hx hn hP hl h0
    apply Classical.byContradiction
    intro hne
    have hq := fac_out (t := x) hp (h0 x List.mem_cons_self)
    have hlen := prod_len hm hP (fac_tm hm) hq.1 hq.2 hne
    have hf : (fac p x).length = 2 := rfl
    have hxs := List.nodup_cons.1 hn
    refine hlen.2.1 (ih _ (fun y hy => hx y (List.mem_cons_of_mem _ hy)) hxs.2 hq.1 (by simp at hl; omega) (fun y hy => ?_))
    have e := vl_mul (p := p) (t := y) (zs := P) (xs := fac p x) (ys := sq p x P) hq.2
    rw [h0 y (List.mem_cons_of_mem _ hy), vl_fac, Int.mul_comm] at e
    have hyx : y ≠ x := fun e => hxs.1 (by rw [← e]; exact hy)
    have := no_div hm _ _ (by rw [Int.emod_emod_of_dvd _ (Int.dvd_refl p)]; exact ne_mod (hx y (List.mem_cons_of_mem _ hy)) (hx x List.mem_cons_self) hyx) e.symm
    rwa [(vl_el hp y _).mod] at this

/-- The polynomial through points. -/
def Thr (p : Int) (xs ys T : List Int) : Prop := Tm p T ∧ T.length ≤ xs.length ∧ ∀ i, i < xs.length → vl p (co xs i) T = co ys i
theorem Thr.only {p : Int} {wd : Bool} (hm : Md p wd) {xs ys T U : List Int} (hx : Els p xs) (hn : xs.Nodup) (hT : Thr p xs ys T) (hU : Thr p xs ys U) : T = U := by
  have hp : 0 < p := by have := hm.bounds; omega
  have hD := is_sub hp T U
  have hl : (tr (sm p (sub p 0 1) T U)).length ≤ xs.length := by
    refine Nat.le_trans (tr_len _) ?_
    rw [sm_len]; have := hT.2.1; have := hU.2.1; omega
  have hs : pl p T = qa (pl p (tr (sm p (sub p 0 1) T U))) (pl p U) := by
    rw [hD.tm.2]
    exact pu_eq (fun i => by show co T i % p = (co T i - co U i + co U i) % p; congr 1; omega)
  have h0 := roots_zero hm xs _ hx hn hD.tm.1 hl (fun x hx' => by
    obtain ⟨i, hi, rfl⟩ := List.mem_iff_getElem.1 hx'
    have e := vl_add (p := p) (t := xs[i]) hs
    have e1 := hT.2.2 i hi
    have e2 := hU.2.2 i hi
    rw [co_at hi] at e1 e2
    rw [e1, e2] at e
    have hy : El p (co ys i) := by rw [← e1]; exact vl_el hp _ _
    have hv := vl_el hp xs[i] (tr (sm p (sub p 0 1) T U))
    generalize vl p xs[i] (tr (sm p (sub p 0 1) T U)) = d at *
    generalize co ys i = y at *
    have h1 := hv.1; have h2 := hv.2; have h3 := hy.1; have h4 := hy.2
    by_cases hlt : d + y < p
    · rw [Int.emod_eq_of_lt (by omega) hlt] at e; omega
    · rw [emod_sub_self _ _ (by omega) (by omega)] at e; omega)
  rw [h0] at hs
  rw [pl_nil_add] at hs
  exact hT.1.only hp hU.1 hs

theorem nodup_inj {xs : List Int} (hn : xs.Nodup) {i j : Nat} (hi : i < xs.length) (hj : j < xs.length) (h : xs[i] = xs[j]) : i = j := by
  have hp := List.pairwise_iff_getElem.1 hn
  rcases Nat.lt_trichotomy i j with h1 | h1 | h1
  · exact absurd h (hp i j hi hj h1)
  · exact h1
  · exact absurd h.symm (hp j i hj hi h1)
/-- The list without the element at a place. -/
theorem mem_erase {xs : List Int} {i j : Nat} (hi : i < xs.length) (hj : j < xs.length) (h : j ≠ i) : xs[j] ∈ xs.eraseIdx i := List.mem_eraseIdx_iff_getElem?.2 ⟨j, h, List.getElem?_eq_getElem hj⟩
theorem not_mem_erase {xs : List Int} {i : Nat} (hi : i < xs.length) (hn : xs.Nodup) : xs[i] ∉ xs.eraseIdx i := by
  intro h
  obtain ⟨j, hj, he⟩ := List.mem_eraseIdx_iff_getElem?.1 h
  have hj2 : j < xs.length := by
    apply Nat.lt_of_not_le; intro hc; rw [List.getElem?_eq_none hc] at he; cases he
  rw [List.getElem?_eq_getElem hj2] at he
  injection he with he
  exact hj (nodup_inj hn hj2 hi he)
theorem els_erase {p : Int} {xs : List Int} (h : Els p xs) (i : Nat) : Els p (xs.eraseIdx i) := fun x hx => h x (List.mem_of_mem_eraseIdx hx)
/-- The product of what an element has over others; the weight; the value of Lagrange's polynomial. -/
def dp (p x : Int) (zs : List Int) : Int := vl p x (zl p zs)
def wt (p : Int) (xs : List Int) (i : Nat) : Int := inv p (dp p (co xs i) (xs.eraseIdx i))
def bs (p : Int) (xs : List Int) (x : Int) (i : Nat) : Int := mul p (wt p xs i) (dp p x (xs.eraseIdx i))
theorem dp_el {p : Int} (hp : 0 < p) (x : Int) (zs : List Int) : El p (dp p x zs) := vl_el hp _ _
theorem dp_nil {p : Int} {wd : Bool} (hm : Md p wd) (x : Int) : dp p x [] = 1 := by
  have hb := hm.bounds
  show (1 + x * 0) % p = 1
  rw [Int.mul_zero]; exact Int.emod_eq_of_lt (by decide) (by omega)
theorem dp_snoc {p : Int} {wd : Bool} (hm : Md p wd) (x : Int) (zs : List Int) (z : Int) : dp p x (zs ++ [z]) = mul p (dp p x zs) (sub p x z) := by
  have e := vl_mul (p := p) (t := x) (zs := zl p (zs ++ [z])) (xs := zl p zs) (ys := fac p z) (by rw [(zl_facts hm _).2.1, (zl_facts hm _).2.1, zr_snoc])
  rw [vl_fac] at e
  exact e
theorem dp_cons {p : Int} {wd : Bool} (hm : Md p wd) (x : Int) (zs : List Int) (z : Int) : dp p x (z :: zs) = mul p (sub p x z) (dp p x zs) := by
  have e := vl_mul (p := p) (t := x) (zs := zl p (z :: zs)) (xs := fac p z) (ys := zl p zs) (by show pl p (prd p (fac p z) (zl p zs)) = _; rw [pl_mul])
  rw [vl_fac] at e
  exact e
theorem dp_un {p : Int} {wd : Bool} (hm : Md p wd) {xs : List Int} (hx : Els p xs) (hn : xs.Nodup) {i : Nat} (hi : i < xs.length) : Un p (dp p (co xs i) (xs.eraseIdx i)) := by
  have hp : 0 < p := by have := hm.bounds; omega
  refine ⟨dp_el hp _ _, fun h => ?_⟩
  have he : El p (co xs i) := hx.co hp i
  have := (zl_root hm he (els_erase hx i)).1 h
  rw [co_at hi] at this
  exact not_mem_erase hi hn this
theorem bs_el {p : Int} (hp : 0 < p) (xs : List Int) (x : Int) (i : Nat) : El p (bs p xs x i) := mul_el hp
/-- At the places it is 1 or 0. -/
theorem bs_here {p : Int} {wd : Bool} (hm : Md p wd) {xs : List Int} (hx : Els p xs) (hn : xs.Nodup) {i : Nat} (hi : i < xs.length) : bs p xs (co xs i) i = 1 := by
  unfold bs wt
  rw [ring_comm]
  have := dp_un hm hx hn hi
  exact mul_inv hm _ this.1 this.2
theorem bs_far {p : Int} {wd : Bool} (hm : Md p wd) {xs : List Int} (hx : Els p xs) {i j : Nat} (hi : i < xs.length) (hj : j < xs.length) (h : j ≠ i) : bs p xs (co xs j) i = 0 := by
  have hp : 0 < p := by have := hm.bounds; omega
  unfold bs
  have : dp p (co xs j) (xs.eraseIdx i) = 0 := (zl_root hm (hx.co hp j) (els_erase hx i)).2 (by rw [co_at hj]; exact mem_erase hi hj h)
  rw [this]; exact mul_zero_right p _

/-- A multiple. -/
def sc (p c : Int) (xs : List Int) : List Int := tr (sm p c [] xs)
theorem sc_facts {p : Int} (hp : 0 < p) (c : Int) (xs : List Int) : Tm p (sc p c xs) ∧ pl p (sc p c xs) = qm (pl p [c]) (pl p xs) ∧ (sc p c xs).length ≤ xs.length := by
  have h := is_scale hp c xs
  refine ⟨h.tm.1, h.tm.2, Nat.le_trans (tr_len _) ?_⟩
  rw [sm_len]; simp
theorem vl_one (p t c : Int) : vl p t [c] = c % p := by
  show (c + t * 0) % p = c % p
  rw [Int.mul_zero, Int.add_zero]
theorem vl_sc {p : Int} (hp : 0 < p) (t c : Int) (xs : List Int) : vl p t (sc p c xs) = mul p c (vl p t xs) := by
  rw [vl_mul (sc_facts hp c xs).2.1, vl_one]
  exact mul_emod_left c _ p
/-- Lagrange's polynomials put together: of the first k places. -/
def tp (p : Int) (xs ys : List Int) : Nat → List Int
  | 0 => []
  | k + 1 => tr (sm p 1 (tp p xs ys k) (sc p (mul p (wt p xs k) (co ys k)) (zl p (xs.eraseIdx k))))
/-- A sum of products. -/
def ds (p : Int) (f g : Nat → Int) : Nat → Int
  | 0 => 0
  | k + 1 => add p (ds p f g k) (mul p (f k) (g k))
theorem ds_el {p : Int} (hp : 0 < p) (f g : Nat → Int) (k : Nat) : El p (ds p f g k) := by
  cases k with
  | zero => exact ⟨Int.le_refl 0, hp⟩
  | succ k => exact add_el hp
theorem ds_congr {p : Int} {f g f' g' : Nat → Int} (k : Nat) (hf : ∀ i, i < k → f i = f' i) (hg : ∀ i, i < k → g i = g' i) : ds p f g k = ds p f' g' k := by
  induction k with
  | zero => rfl
  | succ k ih => show add p _ _ = add p _ _; rw [ih (fun i hi => hf i (by omega)) (fun i hi => hg i (by omega)), hf k (by omega), hg k (by omega)]
theorem tp_tm {p : Int} (hp : 0 < p) (xs ys : List Int) (k : Nat) : Tm p (tp p xs ys k) := by
  cases k with
  | zero => exact Tm.nil p
  | succ k => exact (is_add hp _ _).tm.1
theorem tp_len {p : Int} {wd : Bool} (hm : Md p wd) (xs ys : List Int) (k : Nat) (hk : k ≤ xs.length) : (tp p xs ys k).length ≤ xs.length := by
  have hp : 0 < p := by have := hm.bounds; omega
  induction k with
  | zero => exact Nat.zero_le _
  | succ k ih =>
    refine Nat.le_trans (tr_len _) ?_
    rw [sm_len]
    have h1 := (sc_facts hp (mul p (wt p xs k) (co ys k)) (zl p (xs.eraseIdx k))).2.2
    rw [(zl_facts hm _).2.2, List.length_eraseIdx, if_pos (by omega)] at h1
    have := ih (by omega)
    omega
theorem vl_tp {p : Int} {wd : Bool} (hm : Md p wd) (t : Int) (xs ys : List Int) (k : Nat) : vl p t (tp p xs ys k) = ds p (bs p xs t) (co ys) k := by
  have hp : 0 < p := by have := hm.bounds; omega
  induction k with
  | zero => exact Int.zero_emod p
  | succ k ih =>
    have h := vl_add (p := p) (t := t) (zs := tp p xs ys (k + 1)) (xs := tp p xs ys k) (ys := sc p (mul p (wt p xs k) (co ys k)) (zl p (xs.eraseIdx k))) (by show pl p (tr (sm p 1 (tp p xs ys k) (sc p (mul p (wt p xs k) (co ys k)) (zl p (xs.eraseIdx k))))) = _; rw [pl_tr, pl_add])
    rw [h, ih, vl_sc hp]
    show add p _ _ = add p _ _
    congr 1
    show mul p (mul p (wt p xs k) (co ys k)) (dp p t (xs.eraseIdx k)) = mul p (mul p (wt p xs k) (dp p t (xs.eraseIdx k))) (co ys k)
    rw [ring_assoc, ring_comm p (co ys k), ← ring_assoc]
theorem ds_zero {p : Int} (f g : Nat → Int) (k : Nat) (h : ∀ i, i < k → f i = 0) : ds p f g k = 0 := by
  induction k with
  | zero => rfl
  | succ k ih =>
    show add p _ _ = 0
    rw [ih (fun i hi => h i (by omega)), h k (by omega), mul_zero_left]; exact Int.zero_emod p
theorem ds_one {p : Int} (hp : 0 < p) (f g : Nat → Int) (n j : Nat) (hj : j < n) (h1 : f j = 1) (h0 : ∀ i, i < n → i ≠ j → f i = 0) (hg : El p (g j)) : ds p f g n = g j := by
  induction n with
  | zero => omega
  | succ n ih =>
    show add p _ _ = _
    by_cases e : j = n
    · subst e
      rw [ds_zero f g j (fun i hi => h0 i (by omega) (by omega)), h1]
      unfold add mul
      rw [Int.one_mul, Int.zero_add, Int.emod_emod_of_dvd _ (Int.dvd_refl p)]; exact hg.mod
    · rw [ih (by omega) (fun i hi hne => h0 i (by omega) hne), h0 n (by omega) (by omega), mul_zero_left]
      unfold add
      rw [Int.add_zero]; exact hg.mod
/-- Together they are the polynomial through the points. -/
theorem tp_thr {p : Int} {wd : Bool} (hm : Md p wd) {xs ys : List Int} (hx : Els p xs) (hy : Els p ys) (hn : xs.Nodup) : Thr p xs ys (tp p xs ys xs.length) := by
  have hp : 0 < p := by have := hm.bounds; omega
  refine ⟨tp_tm hp xs ys _, tp_len hm xs ys _ (Nat.le_refl _), fun i hi => ?_⟩
  rw [vl_tp hm]
  exact ds_one hp _ _ _ i hi (bs_here hm hx hn hi) (fun j hj hne => bs_far hm hx hj hi (fun e => hne e.symm)) (hy.co hp i)
/-- The value elsewhere. -/
theorem Thr.value {p : Int} {wd : Bool} (hm : Md p wd) {xs ys T : List Int} (hx : Els p xs) (hy : Els p ys) (hn : xs.Nodup) (hT : Thr p xs ys T) (t : Int) : vl p t T = ds p (bs p xs t) (co ys) xs.length := by
  rw [hT.only hm hx hn (tp_thr hm hx hy hn), vl_tp hm]
/-- A polynomial is the one through its values. -/
theorem Thr.of {p : Int} {xs T : List Int} (hT : Tm p T) (hl : T.length ≤ xs.length) : Thr p xs (xs.map (fun x => vl p x T)) T := ⟨hT, hl, fun i hi => by
  unfold co
  rw [map_getD _ _ _ hi]⟩
/-- Lagrange's polynomial of a place, and its values. -/
def lag (p : Int) (xs : List Int) (i : Nat) : List Int := sc p (wt p xs i) (zl p (xs.eraseIdx i))
/-- The slope of the product, at a place: the product of the differences. -/
theorem zr_take_out (p : Int) (xs : List Int) (i : Nat) (hi : i < xs.length) : zr p xs = qm (pl p (fac p xs[i])) (zr p (xs.eraseIdx i)) := by
  induction xs generalizing i with
  | nil => simp at hi
  | cons x xs ih =>
    cases i with
    | zero => rfl
    | succ i =>
      have h := ih i (by simp at hi; omega)
      show qm (pl p (fac p x)) (zr p xs) = qm (pl p (fac p (xs[i]'(by simp at hi; omega)))) (qm (pl p (fac p x)) (zr p (xs.eraseIdx i)))
      rw [h, qm_left]
theorem slp_fac {p x : Int} {wd : Bool} (hm : Md p wd) : slp p (fac p x) = [1] := by
  have hb := hm.bounds
  have : slp p (fac p x) = tr [1 % p] := by
    show tr (mk 1 (fun i => (((i : Int) + 1) * co (fac p x) (i + 1)) % p)) = _
    rfl
  rw [this, Int.emod_eq_of_lt (by decide) (by omega)]; rfl
theorem slp_place {p : Int} {wd : Bool} (hm : Md p wd) {xs : List Int} {i : Nat} (hi : i < xs.length) : vl p (co xs i) (slp p (zl p xs)) = dp p (co xs i) (xs.eraseIdx i) := by
  have hp : 0 < p := by have := hm.bounds; omega
  have h := slp_mul hp (zs := zl p xs) (xs := fac p xs[i]) (ys := zl p (xs.eraseIdx i)) (by rw [(zl_facts hm _).2.1, (zl_facts hm _).2.1]; exact zr_take_out p xs i hi)
  rw [slp_fac hm, pl_one_mul] at h
  have e := vl_add (p := p) (t := co xs i) (zs := slp p (zl p xs)) (xs := zl p (xs.eraseIdx i)) (ys := prd p (fac p xs[i]) (slp p (zl p (xs.eraseIdx i)))) (by rw [h, pl_mul])
  have e2 := vl_mul (p := p) (t := co xs i) (zs := prd p (fac p xs[i]) (slp p (zl p (xs.eraseIdx i)))) (pl_mul p _ _)
  rw [vl_fac, co_at hi, Int.sub_self, Int.zero_emod, Int.zero_mul, Int.zero_emod] at e2
  rw [co_at hi] at e ⊢
  rw [e, e2, Int.add_zero]
  exact (dp_el hp _ _).mod

end Go.Proofs.YtpbfgcepmbpkdaaGreat.Fld
