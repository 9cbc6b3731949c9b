import Derived.Test.YtnapbdoalfbgnaaGreatBEucA
import Derived.Test.YtnapbdoalfbgnaaGreatBunW
import Derived.Test.YtnapbdoalfbgnaaGreatBunP
set_option linter.unusedVariables false
set_option linter.unusedSimpArgs false
set_option maxRecDepth 100000
set_option maxHeartbeats 4000000
namespace Go.Proofs.YtnapbdoalfbgnaaGreat.Fld
def sq (p t : Int) (P : List Int) : List Int := tr (mk (P.length - 1) (fun i => hn p t P (i + 1)))
theorem cv_fac (p t : Int) (g : Nat → Int) (k : Nat) : cv (co (fac p t)) g (k + 1) = sub p 0 t * g (k + 1) + g k := by
 show sub p 0 t * g (k + 1) + cv (fun i => co (fac p t) (i + 1)) g k = _
 have : cv (fun i => co (fac p t) (i + 1)) g k = 1 * g k := by
  rw [← cv_single 1 g k]
  exact cv_congr k (fun i _ => by cases i <;> rfl) (fun i _ => rfl)
 rw [this, Int.one_mul]
theorem hn_out {p t : Int} {P : List Int} {i : Nat} (h : P.length ≤ i) : hn p t P i = 0 := by
 unfold hn
 rw [show P.length - i = 0 by omega]; exact Int.zero_emod p
theorem hn_eq {p t : Int} (P : List Int) (i : Nat) : (sub p 0 t * hn p t P (i + 1) + hn p t P i) % p = co P i % p := by
 by_cases h : i < P.length
 · rw [← hn_step h]
   unfold sub add mul
   have e1 : ((0 - t) % p * hn p t P (i + 1) + (hn p t P (i + 1) * t % p + co P i) % p) % p = ((0 - t) * hn p t P (i + 1) + (hn p t P (i + 1) * t + co P i)) % p := by
    simp [Int.add_emod, Int.mul_emod]
   rw [e1]
   congr 1
   rw [Int.sub_mul, Int.zero_mul, Int.mul_comm t]; omega
 · rw [hn_out (by omega), hn_out (by omega), co_out P i (by omega), Int.mul_zero, Int.add_zero]
theorem fac_out {p t : Int} (hp : 0 < p) {P : List Int} (h0 : vl p t P = 0) : Tm p (sq p t P) ∧ pl p P = qm (pl p (fac p t)) (pl p (sq p t P)) := by
 have he : Els p (mk (P.length - 1) (fun i => hn p t P (i + 1))) := Els.mk _ (fun i _ => hn_el hp t P (i + 1))
 refine ⟨Tm.tr hp he, ?_⟩
 unfold sq
 rw [pl_tr]
 have hc : ∀ i, co (mk (P.length - 1) (fun i => hn p t P (i + 1))) i = hn p t P (i + 1) := fun i => by
  rw [co_mk]
  split
  · rfl
  · rw [hn_out (by omega)]
 show pu p (co P) = pu p (cv (co (fac p t)) (co (mk (P.length - 1) (fun i => hn p t P (i + 1)))))
 refine pu_eq (fun i => ?_)
 cases i with
 | zero =>
  show _ = (sub p 0 t * co (mk (P.length - 1) (fun i => hn p t P (i + 1))) 0) % p
  rw [hc, ← hn_eq P 0, hn_zero, h0, Int.add_zero]
 | succ i => rw [cv_fac, hc, hc, ← hn_eq P (i + 1)]
theorem ne_mod {p a b : Int} (ha : El p a) (hb : El p b) (h : a ≠ b) : (a - b) % p ≠ 0 := by
 intro h0
 have h1 := ha.1; have h2 := ha.2; have h3 := hb.1; have h4 := hb.2
 by_cases hge : 0 ≤ a - b
 · rw [Int.emod_eq_of_lt hge (by omega)] at h0; omega
 · have h6 : (a - b + p) % p = 0 := by rw [Int.add_emod_right]; exact h0
   rw [Int.emod_eq_of_lt (by omega) (by omega)] at h6; omega
theorem roots_zero {p : Int} {wd : Bool} (hm : Md p wd) : ∀ (xs P : List Int), Els p xs → xs.Nodup → Tm p P → P.length ≤ xs.length → (∀ x ∈ xs, vl p x P = 0) → P = [] := by
 have hp : 0 < p := by have := hm.bounds; omega
 intro xs
 induction xs with
 | nil => intro P _ _ _ hl _; exact List.length_eq_zero_iff.1 (by simpa using hl)
 | cons x xs ih =>
  intro P hx hn hP hl h0
  apply Classical.byContradiction
  intro hne
  have hq := fac_out (t := x) hp (h0 x List.mem_cons_self)
  have hlen := prod_len hm hP (fac_tm hm) hq.1 hq.2 hne
  have hf : (fac p x).length = 2 := rfl
  have hxs := List.nodup_cons.1 hn
  refine hlen.2.1 (ih _ (fun y hy => hx y (List.mem_cons_of_mem _ hy)) hxs.2 hq.1 (by simp at hl; omega) (fun y hy => ?_))
  have e := vl_mul (p := p) (t := y) (zs := P) (xs := fac p x) (ys := sq p x P) hq.2
  rw [h0 y (List.mem_cons_of_mem _ hy), vl_fac, Int.mul_comm] at e
  have hyx : y ≠ x := fun e => hxs.1 (by rw [← e]; exact hy)
  have := no_div hm _ _ (by rw [Int.emod_emod_of_dvd _ (Int.dvd_refl p)]; exact ne_mod (hx y (List.mem_cons_of_mem _ hy)) (hx x List.mem_cons_self) hyx) e.symm
  rwa [(vl_el hp y _).mod] at this
def Thr (p : Int) (xs ys T : List Int) : Prop := Tm p T ∧ T.length ≤ xs.length ∧ ∀ i, i < xs.length → vl p (co xs i) T = co ys i
theorem nodup_inj {xs : List Int} (hn : xs.Nodup) {i j : Nat} (hi : i < xs.length) (hj : j < xs.length) (h : xs[i] = xs[j]) : i = j := by
 have hp := List.pairwise_iff_getElem.1 hn
 rcases Nat.lt_trichotomy i j with h1 | h1 | h1
 · exact absurd h (hp i j hi hj h1)
 · exact h1
 · exact absurd h.symm (hp j i hj hi h1)
theorem mem_erase {xs : List Int} {i j : Nat} (hi : i < xs.length) (hj : j < xs.length) (h : j ≠ i) : xs[j] ∈ xs.eraseIdx i := List.mem_eraseIdx_iff_getElem?.2 ⟨j, h, List.getElem?_eq_getElem hj⟩
theorem not_mem_erase {xs : List Int} {i : Nat} (hi : i < xs.length) (hn : xs.Nodup) : xs[i] ∉ xs.eraseIdx i := by
 intro h
 obtain ⟨j, hj, he⟩ := List.mem_eraseIdx_iff_getElem?.1 h
 have hj2 : j < xs.length := by
  apply Nat.lt_of_not_le; intro hc; rw [List.getElem?_eq_none hc] at he; cases he
 rw [List.getElem?_eq_getElem hj2] at he
 injection he with he
 exact hj (nodup_inj hn hj2 hi he)
theorem els_erase {p : Int} {xs : List Int} (h : Els p xs) (i : Nat) : Els p (xs.eraseIdx i) := fun x hx => h x (List.mem_of_mem_eraseIdx hx)
def dp (p x : Int) (zs : List Int) : Int := vl p x (zl p zs)
def wt (p : Int) (xs : List Int) (i : Nat) : Int := inv p (dp p (co xs i) (xs.eraseIdx i))
def bs (p : Int) (xs : List Int) (x : Int) (i : Nat) : Int := mul p (wt p xs i) (dp p x (xs.eraseIdx i))
theorem dp_el {p : Int} (hp : 0 < p) (x : Int) (zs : List Int) : El p (dp p x zs) := vl_el hp _ _
theorem dp_nil {p : Int} {wd : Bool} (hm : Md p wd) (x : Int) : dp p x [] = 1 := by
 have hb := hm.bounds
 show (1 + x * 0) % p = 1
 rw [Int.mul_zero]; exact Int.emod_eq_of_lt (by decide) (by omega)
theorem dp_cons {p : Int} {wd : Bool} (hm : Md p wd) (x : Int) (zs : List Int) (z : Int) : dp p x (z :: zs) = mul p (sub p x z) (dp p x zs) := by
 have e := vl_mul (p := p) (t := x) (zs := zl p (z :: zs)) (xs := fac p z) (ys := zl p zs) (by show pl p (prd p (fac p z) (zl p zs)) = _; rw [pl_mul])
 rw [vl_fac] at e
 exact e
theorem dp_un {p : Int} {wd : Bool} (hm : Md p wd) {xs : List Int} (hx : Els p xs) (hn : xs.Nodup) {i : Nat} (hi : i < xs.length) : Un p (dp p (co xs i) (xs.eraseIdx i)) := by
 have hp : 0 < p := by have := hm.bounds; omega
 refine ⟨dp_el hp _ _, fun h => ?_⟩
 have he : El p (co xs i) := hx.co hp i
 have := (zl_root hm he (els_erase hx i)).1 h
 rw [co_at hi] at this
 exact not_mem_erase hi hn this
theorem bs_el {p : Int} (hp : 0 < p) (xs : List Int) (x : Int) (i : Nat) : El p (bs p xs x i) := mul_el hp
theorem bs_here {p : Int} {wd : Bool} (hm : Md p wd) {xs : List Int} (hx : Els p xs) (hn : xs.Nodup) {i : Nat} (hi : i < xs.length) : bs p xs (co xs i) i = 1 := by
 unfold bs wt
 rw [ring_comm]
 have := dp_un hm hx hn hi
 exact mul_inv hm _ this.1 this.2
theorem bs_far {p : Int} {wd : Bool} (hm : Md p wd) {xs : List Int} (hx : Els p xs) {i j : Nat} (hi : i < xs.length) (hj : j < xs.length) (h : j ≠ i) : bs p xs (co xs j) i = 0 := by
 have hp : 0 < p := by have := hm.bounds; omega
 unfold bs
 have : dp p (co xs j) (xs.eraseIdx i) = 0 := (zl_root hm (hx.co hp j) (els_erase hx i)).2 (by rw [co_at hj]; exact mem_erase hi hj h)
 rw [this]; exact mul_zero_right p _
def sc (p c : Int) (xs : List Int) : List Int := tr (sm p c [] xs)
theorem sc_facts {p : Int} (hp : 0 < p) (c : Int) (xs : List Int) : Tm p (sc p c xs) ∧ pl p (sc p c xs) = qm (pl p [c]) (pl p xs) ∧ (sc p c xs).length ≤ xs.length := by
 have h := is_scale hp c xs
 refine ⟨h.tm.1, h.tm.2, Nat.le_trans (tr_len _) ?_⟩
 rw [sm_len]; simp
theorem vl_one (p t c : Int) : vl p t [c] = c % p := by
 show (c + t * 0) % p = c % p
 rw [Int.mul_zero, Int.add_zero]
theorem vl_sc {p : Int} (hp : 0 < p) (t c : Int) (xs : List Int) : vl p t (sc p c xs) = mul p c (vl p t xs) := by
 rw [vl_mul (sc_facts hp c xs).2.1, vl_one]
 exact mul_emod_left c _ p
def tp (p : Int) (xs ys : List Int) : Nat → List Int
 | 0 => []
 | k + 1 => tr (sm p 1 (tp p xs ys k) (sc p (mul p (wt p xs k) (co ys k)) (zl p (xs.eraseIdx k))))
def ds (p : Int) (f g : Nat → Int) : Nat → Int
 | 0 => 0
 | k + 1 => add p (ds p f g k) (mul p (f k) (g k))
theorem ds_el {p : Int} (hp : 0 < p) (f g : Nat → Int) (k : Nat) : El p (ds p f g k) := by
 cases k with
 | zero => exact ⟨Int.le_refl 0, hp⟩
 | succ k => exact add_el hp
theorem ds_congr {p : Int} {f g f' g' : Nat → Int} (k : Nat) (hf : ∀ i, i < k → f i = f' i) (hg : ∀ i, i < k → g i = g' i) : ds p f g k = ds p f' g' k := by
 induction k with
 | zero => rfl
 | succ k ih => show add p _ _ = add p _ _; rw [ih (fun i hi => hf i (by omega)) (fun i hi => hg i (by omega)), hf k (by omega), hg k (by omega)]
theorem tp_tm {p : Int} (hp : 0 < p) (xs ys : List Int) (k : Nat) : Tm p (tp p xs ys k) := by
 cases k with
 | zero => exact Tm.nil p
 | succ k => exact (is_add hp _ _).tm.1
theorem tp_len {p : Int} {wd : Bool} (hm : Md p wd) (xs ys : List Int) (k : Nat) (hk : k ≤ xs.length) : (tp p xs ys k).length ≤ xs.length := by
 have hp : 0 < p := by have := hm.bounds; omega
 induction k with
 | zero => exact Nat.zero_le _
 | succ k ih =>
  refine Nat.le_trans (tr_len _) ?_
  rw [sm_len]
  have h1 := (sc_facts hp (mul p (wt p xs k) (co ys k)) (zl p (xs.eraseIdx k))).2.2
  rw [(zl_facts hm _).2.2, List.length_eraseIdx, if_pos (by omega)] at h1
  have := ih (by omega)
  omega
theorem vl_tp {p : Int} {wd : Bool} (hm : Md p wd) (t : Int) (xs ys : List Int) (k : Nat) : vl p t (tp p xs ys k) = ds p (bs p xs t) (co ys) k := by
 have hp : 0 < p := by have := hm.bounds; omega
 induction k with
 | zero => exact Int.zero_emod p
 | succ k ih =>
  have h := vl_add (p := p) (t := t) (zs := tp p xs ys (k + 1)) (xs := tp p xs ys k) (ys := sc p (mul p (wt p xs k) (co ys k)) (zl p (xs.eraseIdx k))) (by show pl p (tr (sm p 1 (tp p xs ys k) (sc p (mul p (wt p xs k) (co ys k)) (zl p (xs.eraseIdx k))))) = _; rw [pl_tr, pl_add])
  rw [h, ih, vl_sc hp]
  show add p _ _ = add p _ _
  congr 1
  show mul p (mul p (wt p xs k) (co ys k)) (dp p t (xs.eraseIdx k)) = mul p (mul p (wt p xs k) (dp p t (xs.eraseIdx k))) (co ys k)
  rw [ring_assoc, ring_comm p (co ys k), ← ring_assoc]
theorem ds_zero {p : Int} (f g : Nat → Int) (k : Nat) (h : ∀ i, i < k → f i = 0) : ds p f g k = 0 := by
 induction k with
 | zero => rfl
 | succ k ih =>
  show add p _ _ = 0
  rw [ih (fun i hi => h i (by omega)), h k (by omega), mul_zero_left]; exact Int.zero_emod p
theorem ds_one {p : Int} (hp : 0 < p) (f g : Nat → Int) (n j : Nat) (hj : j < n) (h1 : f j = 1) (h0 : ∀ i, i < n → i ≠ j → f i = 0) (hg : El p (g j)) : ds p f g n = g j := by
 induction n with
 | zero => omega
 | succ n ih =>
  show add p _ _ = _
  by_cases e : j = n
  · subst e
    rw [ds_zero f g j (fun i hi => h0 i (by omega) (by omega)), h1]
    unfold add mul
    rw [Int.one_mul, Int.zero_add, Int.emod_emod_of_dvd _ (Int.dvd_refl p)]; exact hg.mod
  · rw [ih (by omega) (fun i hi hne => h0 i (by omega) hne), h0 n (by omega) (by omega), mul_zero_left]
    unfold add
    rw [Int.add_zero]; exact hg.mod
theorem tp_thr {p : Int} {wd : Bool} (hm : Md p wd) {xs ys : List Int} (hx : Els p xs) (hy : Els p ys) (hn : xs.Nodup) : Thr p xs ys (tp p xs ys xs.length) := by
 have hp : 0 < p := by have := hm.bounds; omega
 refine ⟨tp_tm hp xs ys _, tp_len hm xs ys _ (Nat.le_refl _), fun i hi => ?_⟩
 rw [vl_tp hm]
 exact ds_one hp _ _ _ i hi (bs_here hm hx hn hi) (fun j hj hne => bs_far hm hx hj hi (fun e => hne e.symm)) (hy.co hp i)
theorem zr_take_out (p : Int) (xs : List Int) (i : Nat) (hi : i < xs.length) : zr p xs = qm (pl p (fac p xs[i])) (zr p (xs.eraseIdx i)) := by
 induction xs generalizing i with
 | nil => simp at hi
 | cons x xs ih =>
  cases i with
  | zero => rfl
  | succ i =>
   have h := ih i (by simp at hi; omega)
   show qm (pl p (fac p x)) (zr p xs) = qm (pl p (fac p (xs[i]'(by simp at hi; omega)))) (qm (pl p (fac p x)) (zr p (xs.eraseIdx i)))
   rw [h, qm_left]
theorem slp_fac {p x : Int} {wd : Bool} (hm : Md p wd) : slp p (fac p x) = [1] := by
 have hb := hm.bounds
 have : slp p (fac p x) = tr [1 % p] := by
  show tr (mk 1 (fun i => (((i : Int) + 1) * co (fac p x) (i + 1)) % p)) = _
  rfl
 rw [this, Int.emod_eq_of_lt (by decide) (by omega)]; rfl
theorem slp_place {p : Int} {wd : Bool} (hm : Md p wd) {xs : List Int} {i : Nat} (hi : i < xs.length) : vl p (co xs i) (slp p (zl p xs)) = dp p (co xs i) (xs.eraseIdx i) := by
 have hp : 0 < p := by have := hm.bounds; omega
 have h := slp_mul hp (zs := zl p xs) (xs := fac p xs[i]) (ys := zl p (xs.eraseIdx i)) (by rw [(zl_facts hm _).2.1, (zl_facts hm _).2.1]; exact zr_take_out p xs i hi)
 rw [slp_fac hm, pl_one_mul] at h
 have e := vl_add (p := p) (t := co xs i) (zs := slp p (zl p xs)) (xs := zl p (xs.eraseIdx i)) (ys := prd p (fac p xs[i]) (slp p (zl p (xs.eraseIdx i)))) (by rw [h, pl_mul])
 have e2 := vl_mul (p := p) (t := co xs i) (zs := prd p (fac p xs[i]) (slp p (zl p (xs.eraseIdx i)))) (pl_mul p _ _)
 rw [vl_fac, co_at hi, Int.sub_self, Int.zero_emod, Int.zero_mul, Int.zero_emod] at e2
 rw [co_at hi] at e ⊢
 rw [e, e2, Int.add_zero]
 exact (dp_el hp _ _).mod
end Go.Proofs.YtnapbdoalfbgnaaGreat.Fld
namespace Go.Proofs.YtnapbdoalfbgnaaGreat.Fld
def pd (p : Int) : List Int → Int
 | [] => 1
 | x :: l => mul p x (pd p l)
theorem pd_el {p : Int} {wd : Bool} (hm : Md p wd) (l : List Int) : El p (pd p l) := by
 have hb := hm.bounds
 cases l with
 | nil => exact ⟨by show (0 : Int) ≤ 1; decide, by show (1 : Int) < p; omega⟩
 | cons x l => exact mul_el (by omega)
theorem one_mul_el {p a : Int} (ha : El p a) : mul p 1 a = a := by rw [ring_comm]; exact mul_one_el ha
theorem pd_append {p : Int} {wd : Bool} (hm : Md p wd) (l m : List Int) : pd p (l ++ m) = mul p (pd p l) (pd p m) := by
 induction l with
 | nil => exact (one_mul_el (pd_el hm m)).symm
 | cons x l ih => show mul p x (pd p (l ++ m)) = mul p (mul p x (pd p l)) (pd p m); rw [ih, ring_assoc]
theorem pd_one {p x : Int} (hx : El p x) : pd p [x] = x := mul_one_el hx
theorem pd_snoc {p x : Int} {wd : Bool} (hm : Md p wd) (l : List Int) (hx : El p x) : pd p (l ++ [x]) = mul p (pd p l) x := by rw [pd_append hm, pd_one hx]
def ot (p : Int) (l : List Int) (i : Nat) : Int := mul p (pd p (l.take i)) (pd p (l.drop (i + 1)))
theorem ot_el {p : Int} (hp : 0 < p) (l : List Int) (i : Nat) : El p (ot p l i) := mul_el hp
theorem ot_erase {p : Int} {wd : Bool} (hm : Md p wd) (l : List Int) (i : Nat) : ot p l i = pd p (l.eraseIdx i) := by
 rw [List.eraseIdx_eq_take_drop_succ, pd_append hm]; rfl
theorem pd_ahead {p : Int} {wd : Bool} (hm : Md p wd) {l : List Int} (hl : Els p l) {i : Nat} (hi : i < l.length) : pd p (l.take (i + 1)) = mul p (pd p (l.take i)) (co l i) := by
 have he : El p (co l i) := hl.co (by have := hm.bounds; omega) i
 rw [List.take_succ_eq_append_getElem hi, pd_snoc hm _ (by rw [← co_at hi]; exact he), co_at hi]
theorem pd_behind {p : Int} {wd : Bool} (hm : Md p wd) {l : List Int} {i : Nat} (hi : i < l.length) : pd p (l.drop i) = mul p (pd p (l.drop (i + 1))) (co l i) := by
 rw [List.drop_eq_getElem_cons hi, co_at hi, ring_comm]; rfl
theorem ot_whole {p : Int} {wd : Bool} (hm : Md p wd) {l : List Int} (hl : Els p l) {i : Nat} (hi : i < l.length) : mul p (co l i) (ot p l i) = pd p l := by
 have e : pd p l = mul p (pd p (l.take i)) (pd p (l.drop i)) := by rw [← pd_append hm, List.take_append_drop]
 rw [e, pd_behind hm hi]
 unfold ot
 rw [← ring_assoc, ring_comm p (co l i), ring_assoc, ring_comm p (co l i)]
theorem pd_un {p : Int} {wd : Bool} (hm : Md p wd) (l : List Int) (h : ∀ x ∈ l, Un p x) : Un p (pd p l) := by
 have hb := hm.bounds
 induction l with
 | nil => exact ⟨pd_el hm [], by show (1 : Int) ≠ 0; decide⟩
 | cons x l ih => exact Un.mul hm (h x List.mem_cons_self) (ih (fun y hy => h y (List.mem_cons_of_mem _ hy)))
theorem ot_inv {p : Int} {wd : Bool} (hm : Md p wd) {l : List Int} (h : ∀ x ∈ l, Un p x) {i : Nat} (hi : i < l.length) : mul p (inv p (pd p l)) (ot p l i) = inv p (co l i) := by
 have hb := hm.bounds
 have hu : Un p (co l i) := by rw [co_at hi]; exact h _ (List.getElem_mem hi)
 have hw := pd_un hm l h
 refine inv_eq hm hu (mul_el (by omega)) ?_
 rw [ring_comm p (inv p (pd p l)), ← ring_assoc, ot_whole hm (fun x hx => (h x hx).1) hi]
 exact mul_inv hm _ hw.1 hw.2
theorem dp_pd {p x : Int} {wd : Bool} (hm : Md p wd) (zs : List Int) : dp p x zs = pd p (zs.map (fun z => sub p x z)) := by
 induction zs with
 | nil => exact dp_nil hm x
 | cons z zs ih => rw [dp_cons hm, ih]; rfl
theorem map_erase (g : Int → Int) (xs : List Int) (i : Nat) : (xs.map g).eraseIdx i = (xs.eraseIdx i).map g := by
 rw [List.eraseIdx_eq_take_drop_succ, List.eraseIdx_eq_take_drop_succ, List.map_append, List.map_take, List.map_drop]
theorem ot_diff {p x : Int} {wd : Bool} (hm : Md p wd) (xs : List Int) (i : Nat) : ot p (xs.map (fun z => sub p x z)) i = dp p x (xs.eraseIdx i) := by
 rw [ot_erase hm, map_erase, dp_pd hm]
def wts (p : Int) (xs : List Int) : List Int := mk xs.length (wt p xs)
def bsl (p : Int) (xs : List Int) (x : Int) : List Int := mk xs.length (bs p xs x)
theorem wts_len (p : Int) (xs : List Int) : (wts p xs).length = xs.length := mk_len _ _
theorem bsl_len (p : Int) (xs : List Int) (x : Int) : (bsl p xs x).length = xs.length := mk_len _ _
theorem wt_el {p : Int} (hp : 0 < p) (xs : List Int) (i : Nat) : El p (wt p xs i) := pow_el hp
theorem wts_els {p : Int} (hp : 0 < p) (xs : List Int) : Els p (wts p xs) := Els.mk _ (fun i _ => wt_el hp xs i)
theorem wts_at {p : Int} {xs : List Int} {i : Nat} (hi : i < xs.length) : co (wts p xs) i = wt p xs i := by unfold wts; rw [co_mk, if_pos hi]
theorem bsl_at {p : Int} {xs : List Int} {x : Int} {i : Nat} (hi : i < xs.length) : co (bsl p xs x) i = bs p xs x i := by unfold bsl; rw [co_mk, if_pos hi]
end Go.Proofs.YtnapbdoalfbgnaaGreat.Fld
namespace Go.Proofs.YtnapbdoalfbgnaaGreat.Rnk
def sm (f : Nat → Int) : Nat → Int
 | 0 => 0
 | n + 1 => sm f n + f n
end Go.Proofs.YtnapbdoalfbgnaaGreat.Rnk
namespace Go.Proofs.YtnapbdoalfbgnaaGreat.Rnk
open Go.Proofs.YtnapbdoalfbgnaaGreat.Fld
end Go.Proofs.YtnapbdoalfbgnaaGreat.Rnk
namespace Go.Proofs.YtnapbdoalfbgnaaGreat.Fld
def offp (p : Int) (P xs ys : List Int) : List Nat := (List.range xs.length).filter (fun i => decide (vl p (co xs i) P ≠ co ys i))
def onp (p : Int) (P xs ys : List Int) : List Nat := (List.range xs.length).filter (fun i => !decide (vl p (co xs i) P ≠ co ys i))
theorem offp_mem {p : Int} {P xs ys : List Int} {i : Nat} : i ∈ offp p P xs ys ↔ i < xs.length ∧ vl p (co xs i) P ≠ co ys i := by
 unfold offp; rw [List.mem_filter, List.mem_range, decide_eq_true_iff]
theorem onp_mem {p : Int} {P xs ys : List Int} {i : Nat} : i ∈ onp p P xs ys ↔ i < xs.length ∧ vl p (co xs i) P = co ys i := by
 unfold onp; rw [List.mem_filter, List.mem_range]; simp
theorem on_off (p : Int) (P xs ys : List Int) : (offp p P xs ys).length + (onp p P xs ys).length = xs.length := by
 have e : ∀ (q : Nat → Bool) (l : List Nat), (l.filter q).length + (l.filter (fun i => !q i)).length = l.length := fun q l => by
  induction l with
  | nil => rfl
  | cons a l ih => by_cases h : q a = true <;> simp [h] <;> omega
 have := e (fun i => decide (vl p (co xs i) P ≠ co ys i)) (List.range xs.length)
 rw [List.length_range] at this
 exact this
theorem mk_co (xs : List Int) : (List.range xs.length).map (co xs) = xs := ext_co (by simp) (fun i hi => by
 have := co_mk xs.length (co xs) i
 rw [if_pos (by simpa using hi)] at this
 exact this)
theorem sub_places (xs : List Int) (q : Nat → Bool) : (((List.range xs.length).filter q).map (co xs)).Sublist xs := by
 have h := (List.filter_sublist (l := List.range xs.length) (p := q)).map (co xs)
 rwa [mk_co] at h
def Dec (p : Int) (D w : Nat) (xs ys P : List Int) : Prop := Tm p P ∧ P.length ≤ D ∧ (offp p P xs ys).length ≤ w
theorem key {p : Int} {wd : Bool} (hm : Md p wd) {xs ys P Q L : List Int} (hx : Els p xs) (hn : xs.Nodup) {w : Nat} (hw : (offp p P xs ys).length ≤ w) (h1 : Q.length + w ≤ xs.length) (h2 : P = [] ∨ L = [] ∨ P.length + L.length + w ≤ xs.length + 1) (h : ∀ i, i < xs.length → vl p (co xs i) Q = (co ys i * vl p (co xs i) L) % p) : pl p Q = qm (pl p P) (pl p L) := by
 have hp : 0 < p := by have := hm.bounds; omega
 have hD := is_sub hp Q (prd p P L)
 have hs : pl p Q = qa (pl p (tr (sm p (sub p 0 1) Q (prd p P L)))) (pl p (prd p P L)) := by
  rw [hD.tm.2]
  exact pu_eq (fun i => by show co Q i % p = (co Q i - co (prd p P L) i + co (prd p P L) i) % p; congr 1; omega)
 have hpl : (prd p P L).length + w ≤ xs.length := by
  by_cases e1 : P = []
  · have : (prd p P L).length = 0 := by rw [e1]; unfold prd; simp
    omega
  · by_cases e2 : L = []
    · have : (prd p P L).length = 0 := by rw [e2]; unfold prd; simp
      omega
    · rw [prd_len p P L e1 e2]
      have := List.length_pos_iff.2 e1
      rcases h2 with c | c | c
      · exact absurd c e1
      · exact absurd c e2
      · omega
 have hzs := sub_places xs (fun i => !decide (vl p (co xs i) P ≠ co ys i))
 have hlen : xs.length ≤ ((onp p P xs ys).map (co xs)).length + w := by
  rw [List.length_map]; have := on_off p P xs ys; omega
 have h0 := roots_zero hm ((onp p P xs ys).map (co xs)) _ (fun x hx' => hx x (hzs.subset hx')) (hzs.nodup hn) hD.tm.1 (by
  refine Nat.le_trans (tr_len _) ?_
  rw [sm_len]; omega) (fun x hx' => by
  obtain ⟨i, hi, rfl⟩ := List.mem_map.1 hx'
  obtain ⟨h3, h4⟩ := onp_mem.1 hi
  have e := vl_add (p := p) (t := co xs i) hs
  rw [vl_mul (p := p) (t := co xs i) (pl_mul p P L), h4, h i h3] at e
  have hv := vl_el hp (co xs i) (tr (sm p (sub p 0 1) Q (prd p P L)))
  have hy : El p ((co ys i * vl p (co xs i) L) % p) := emod_el hp _
  generalize vl p (co xs i) (tr (sm p (sub p 0 1) Q (prd p P L))) = d at *
  generalize (co ys i * vl p (co xs i) L) % p = y at *
  have g1 := hv.1; have g2 := hv.2; have g3 := hy.1; have g4 := hy.2
  by_cases hlt : d + y < p
  · rw [Int.emod_eq_of_lt (by omega) hlt] at e; omega
  · rw [emod_sub_self _ _ (by omega) (by omega)] at e; omega)
 rw [h0, pl_nil_add, pl_mul] at hs
 exact hs
theorem key_dv {p : Int} {wd : Bool} (hm : Md p wd) {xs ys P Q L : List Int} (hx : Els p xs) (hn : xs.Nodup) (hP : Tm p P) (hL : tr L ≠ []) {w : Nat} (hw : (offp p P xs ys).length ≤ w) (h1 : Q.length + w ≤ xs.length) (h2 : P = [] ∨ L = [] ∨ P.length + L.length + w ≤ xs.length + 1) (h : ∀ i, i < xs.length → vl p (co xs i) Q = (co ys i * vl p (co xs i) L) % p) : Dv p Q L P [] :=
 Dv.of hP (Tm.nil p) (by rw [List.length_nil]; exact List.length_pos_iff.2 hL) (by rw [pl_add_nil]; exact (key hm hx hn hw h1 h2 h).symm)
def lct (p : Int) (w : Nat) (P xs ys : List Int) : List Int := zl p ((offp p P xs ys).map (co xs) ++ List.replicate (w - (offp p P xs ys).length) 0)
theorem lct_facts {p : Int} {wd : Bool} (hm : Md p wd) {xs ys P : List Int} (hx : Els p xs) {w : Nat} (hw : (offp p P xs ys).length ≤ w) : Tm p (lct p w P xs ys) ∧ (lct p w P xs ys).length = w + 1 ∧ co (lct p w P xs ys) w = 1 ∧ ∀ i, i < xs.length → vl p (co xs i) (prd p P (lct p w P xs ys)) = (co ys i * vl p (co xs i) (lct p w P xs ys)) % p := by
 have hp : 0 < p := by have := hm.bounds; omega
 have hl : ((offp p P xs ys).map (co xs) ++ List.replicate (w - (offp p P xs ys).length) 0).length = w := by rw [List.length_append, List.length_map, List.length_replicate]; omega
 have h1 := zl_facts hm ((offp p P xs ys).map (co xs) ++ List.replicate (w - (offp p P xs ys).length) 0)
 have h2 := zl_top hm ((offp p P xs ys).map (co xs) ++ List.replicate (w - (offp p P xs ys).length) 0)
 rw [hl] at h1 h2
 refine ⟨h1.1, h1.2.2, h2, fun i hi => ?_⟩
 rw [vl_mul (p := p) (t := co xs i) (pl_mul p P _)]
 by_cases e : vl p (co xs i) P = co ys i
 · rw [e]
 · have he : Els p ((offp p P xs ys).map (co xs) ++ List.replicate (w - (offp p P xs ys).length) 0) := fun z hz => by
    rcases List.mem_append.1 hz with c | c
    · obtain ⟨j, _, rfl⟩ := List.mem_map.1 c
      exact hx.co hp j
    · rw [(List.mem_replicate.1 c).2]; exact ⟨Int.le_refl _, hp⟩
   have : vl p (co xs i) (lct p w P xs ys) = 0 := (zl_root hm (hx.co hp i) he).2 (List.mem_append_left _ (List.mem_map.2 ⟨i, offp_mem.2 ⟨hi, e⟩, rfl⟩))
   rw [this, Int.mul_zero, Int.mul_zero]
theorem tr_ne {p : Int} {L : List Int} (h : Tm p L) (h0 : L ≠ []) : tr L ≠ [] := by rw [h.2]; exact h0
theorem Dec.only {p : Int} {wd : Bool} (hm : Md p wd) {D w : Nat} {xs ys P R : List Int} (hx : Els p xs) (hn : xs.Nodup) (hl : D + 2 * w ≤ xs.length) (hP : Dec p D w xs ys P) (hR : Dec p D w xs ys R) : P = R := by
 obtain ⟨f1, f2, f3, f4⟩ := lct_facts hm (ys := ys) (P := R) hx hR.2.2
 have hne : lct p w R xs ys ≠ [] := fun e => by rw [e] at f2; cases f2
 have hq : (prd p R (lct p w R xs ys)).length + w ≤ xs.length := by
  by_cases e : R = []
  · have : (prd p R (lct p w R xs ys)).length = 0 := by rw [e]; unfold prd; simp
    omega
  · rw [prd_len p _ _ e hne, f2]; have := hR.2.1; have := List.length_pos_iff.2 e; omega
 have a := key_dv hm hx hn hP.1 (tr_ne f1 hne) hP.2.2 hq (.inr (.inr (by rw [f2]; have := hP.2.1; omega))) f4
 have b := key_dv hm hx hn hR.1 (tr_ne f1 hne) hR.2.2 hq (.inr (.inr (by rw [f2]; have := hR.2.1; omega))) f4
 exact (Dv.only hm f1.1 a b).1
theorem Dec.row {p : Int} {wd : Bool} (hm : Md p wd) {D w stop : Nat} {xs ys P T : List Int} {A B : R3} (hx : Els p xs) (hn : xs.Nodup) (h1 : D + w ≤ stop) (h2 : stop + w ≤ xs.length) (hT : Thr p xs ys T) (hP : Dec p D w xs ys P) (hF : Fnd p stop (zl p xs) T A B) : B.v ≠ [] ∧ Dv p B.x B.v P [] := by
 have hp : 0 < p := by have := hm.bounds; omega
 obtain ⟨z1, z2, z3⟩ := zl_facts hm xs
 have zt : tr (zl p xs) = zl p xs := z1.2
 have hc := hF.case hm z1.1 hT.1.1
 rw [zt, z3] at hc
 rcases hc with ⟨c, _⟩ | ⟨hi, c1, c2, c3⟩
 · omega
 have hmade := (hF.made hm z1.1 hT.1.1)
 have hv : B.v ≠ [] := fun e => by
  have hu : B.u ≠ [] := hmade.2.2.1.resolve_right (fun h => h e)
  have hb := hmade.1
  rw [e, pl_nil_left, pl_add_nil] at hb
  have hz : zl p xs ≠ [] := fun e' => by rw [e'] at z3; cases z3
  have hpr := (is_prd hm hi.su.1 z1.1 hi.su.2 z1.2).tm
  have : B.x = prd p B.u (zl p xs) := hi.sx.only hp hpr.1 (hb.trans (pl_mul p _ _).symm)
  rw [this, prd_len p _ _ hu hz, z3] at c3
  have := List.length_pos_iff.2 hu
  omega
 refine ⟨hv, ?_⟩
 have hvl := (hF.vlen hm z1.1 hT.1.1 (by rw [zt]; intro e; rw [e] at z3; cases z3)).resolve_right hv
 rw [zt, z3] at hvl
 refine key_dv hm hx hn hP.1 (tr_ne hi.sv hv) hP.2.2 (by omega) (.inr (.inr (by have := hP.2.1; omega))) (fun i hi' => ?_)
 have e1 := vl_add (p := p) (t := co xs i) (zs := B.x) (xs := prd p B.u (zl p xs)) (ys := prd p B.v T) (by rw [pl_mul, pl_mul]; exact hmade.1)
 rw [vl_mul (p := p) (t := co xs i) (pl_mul p B.u (zl p xs)), vl_mul (p := p) (t := co xs i) (pl_mul p B.v T), (zl_root hm (hx.co hp i) hx).2 (by rw [co_at hi']; exact List.getElem_mem hi'), hT.2.2 i hi'] at e1
 rw [e1, Int.mul_zero, Int.zero_emod, Int.zero_add, Int.emod_emod_of_dvd _ (Int.dvd_refl p), Int.mul_comm]
end Go.Proofs.YtnapbdoalfbgnaaGreat.Fld
namespace Go.Proofs.YtnapbdoalfbgnaaGreat.Rnk
open Go.Proofs.YtnapbdoalfbgnaaGreat.Fld
def aq (n : Nat) (X : Nat → Int) : List Int := mk n X
def al (n w : Nat) (X : Nat → Int) : List Int := mk w (fun k => X (n + k)) ++ [1]
end Go.Proofs.YtnapbdoalfbgnaaGreat.Rnk
