import Derived.Test.YtjhididlcdepdaaGreatBunW
set_option linter.unusedVariables false
set_option linter.unusedSimpArgs false
set_option maxRecDepth 100000
set_option maxHeartbeats 4000000
namespace Go.Proofs.YtjhididlcdepdaaGreat.Fld
def sq (p t : Int) (P : List Int) : List Int := tr (mk (P.length - 1) (fun i => hn p t P (i + 1)))
theorem cv_fac (p t : Int) (g : Nat -> Int) (k : Nat) : cv (co (fac p t)) g (k + 1) = sub p 0 t * g (k + 1) + g k := by
 show sub p 0 t * g (k + 1) + cv (fun i => co (fac p t) (i + 1)) g k = _
 have : cv (fun i => co (fac p t) (i + 1)) g k = 1 * g k := by
  rw [<- cv_single 1 g k]
  exact cv_congr k (fun i _ => by cases i <;> rfl) (fun i _ => rfl)
 rw [this, Int.one_mul]
theorem hn_out {p t : Int} {P : List Int} {i : Nat} (h : P.length <= i) : hn p t P i = 0 := by
 unfold hn
 rw [show P.length - i = 0 by omega]; exact Int.zero_emod p
theorem hn_eq {p t : Int} (P : List Int) (i : Nat) : (sub p 0 t * hn p t P (i + 1) + hn p t P i) % p = co P i % p := by
 by_cases h : i < P.length
 · rw [<- hn_step h]
   unfold sub add mul
   have e1 : ((0 - t) % p * hn p t P (i + 1) + (hn p t P (i + 1) * t % p + co P i) % p) % p = ((0 - t) * hn p t P (i + 1) + (hn p t P (i + 1) * t + co P i)) % p := by
    simp [Int.add_emod, Int.mul_emod]
   rw [e1]
   congr 1
   rw [Int.sub_mul, Int.zero_mul, Int.mul_comm t]; omega
 · rw [hn_out (by omega), hn_out (by omega), co_out P i (by omega), Int.mul_zero, Int.add_zero]
theorem fac_out {p t : Int} (hp : 0 < p) {P : List Int} (h0 : vl p t P = 0) : Tm p (sq p t P) ∧ pl p P = qm (pl p (fac p t)) (pl p (sq p t P)) := by
 have he : Els p (mk (P.length - 1) (fun i => hn p t P (i + 1))) := Els.mk _ (fun i _ => hn_el hp t P (i + 1))
 refine ⟨Tm.tr hp he, ?_⟩
 unfold sq
 rw [pl_tr]
 have hc : ∀ i, co (mk (P.length - 1) (fun i => hn p t P (i + 1))) i = hn p t P (i + 1) := fun i => by
  rw [co_mk]
  split
  · rfl
  · rw [hn_out (by omega)]
 show pu p (co P) = pu p (cv (co (fac p t)) (co (mk (P.length - 1) (fun i => hn p t P (i + 1)))))
 refine pu_eq (fun i => ?_)
 cases i with
 | zero =>
  show _ = (sub p 0 t * co (mk (P.length - 1) (fun i => hn p t P (i + 1))) 0) % p
  rw [hc, <- hn_eq P 0, hn_zero, h0, Int.add_zero]
 | succ i => rw [cv_fac, hc, hc, <- hn_eq P (i + 1)]
theorem ne_mod {p a b : Int} (ha : El p a) (hb : El p b) (h : a ≠ b) : (a - b) % p ≠ 0 := by
 intro h0
 have h1 := ha.1; have h2 := ha.2; have h3 := hb.1; have h4 := hb.2
 by_cases hge : 0 <= a - b
 · rw [Int.emod_eq_of_lt hge (by omega)] at h0; omega
 · have h6 : (a - b + p) % p = 0 := by rw [Int.add_emod_right]; exact h0
   rw [Int.emod_eq_of_lt (by omega) (by omega)] at h6; omega
theorem roots_zero {p : Int} {wd : Bool} (hm : Md p wd) : ∀ (xs P : List Int), Els p xs -> xs.Nodup -> Tm p P -> P.length <= xs.length -> (∀ x ∈ xs, vl p x P = 0) -> P = [] := by
 have hp : 0 < p := by have := hm.bounds; omega
 intro xs
 induction xs with
 | nil => intro P _ _ _ hl _; exact List.length_eq_zero_iff.1 (by simpa using hl)
 | cons x xs ih =>
  intro P hx hn hP hl h0
  apply Classical.byContradiction
  intro hne
  have hq := fac_out (t := x) hp (h0 x List.mem_cons_self)
  have hlen := prod_len hm hP (fac_tm hm) hq.1 hq.2 hne
  have hf : (fac p x).length = 2 := rfl
  have hxs := List.nodup_cons.1 hn
  refine hlen.2.1 (ih _ (fun y hy => hx y (List.mem_cons_of_mem _ hy)) hxs.2 hq.1 (by simp at hl; omega) (fun y hy => ?_))
  have e := vl_mul (p := p) (t := y) (zs := P) (xs := fac p x) (ys := sq p x P) hq.2
  rw [h0 y (List.mem_cons_of_mem _ hy), vl_fac, Int.mul_comm] at e
  have hyx : y ≠ x := fun e => hxs.1 (by rw [<- e]; exact hy)
  have := no_div hm _ _ (by rw [Int.emod_emod_of_dvd _ (Int.dvd_refl p)]; exact ne_mod (hx y (List.mem_cons_of_mem _ hy)) (hx x List.mem_cons_self) hyx) e.symm
  rwa [(vl_el hp y _).mod] at this
def Thr (p : Int) (xs ys T : List Int) : Prop := Tm p T ∧ T.length <= xs.length ∧ ∀ i, i < xs.length -> vl p (co xs i) T = co ys i
theorem nodup_inj {xs : List Int} (hn : xs.Nodup) {i j : Nat} (hi : i < xs.length) (hj : j < xs.length) (h : xs[i] = xs[j]) : i = j := by
 have hp := List.pairwise_iff_getElem.1 hn
 rcases Nat.lt_trichotomy i j with h1 | h1 | h1
 · exact absurd h (hp i j hi hj h1)
 · exact h1
 · exact absurd h.symm (hp j i hj hi h1)
theorem mem_erase {xs : List Int} {i j : Nat} (hi : i < xs.length) (hj : j < xs.length) (h : j ≠ i) : xs[j] ∈ xs.eraseIdx i := List.mem_eraseIdx_iff_getElem?.2 ⟨j, h, List.getElem?_eq_getElem hj⟩
theorem not_mem_erase {xs : List Int} {i : Nat} (hi : i < xs.length) (hn : xs.Nodup) : xs[i] ∉ xs.eraseIdx i := by
 intro h
 obtain ⟨j, hj, he⟩ := List.mem_eraseIdx_iff_getElem?.1 h
 have hj2 : j < xs.length := by
  apply Nat.lt_of_not_le; intro hc; rw [List.getElem?_eq_none hc] at he; cases he
 rw [List.getElem?_eq_getElem hj2] at he
 injection he with he
 exact hj (nodup_inj hn hj2 hi he)
theorem els_erase {p : Int} {xs : List Int} (h : Els p xs) (i : Nat) : Els p (xs.eraseIdx i) := fun x hx => h x (List.mem_of_mem_eraseIdx hx)
def dp (p x : Int) (zs : List Int) : Int := vl p x (zl p zs)
def wt (p : Int) (xs : List Int) (i : Nat) : Int := inv p (dp p (co xs i) (xs.eraseIdx i))
def bs (p : Int) (xs : List Int) (x : Int) (i : Nat) : Int := mul p (wt p xs i) (dp p x (xs.eraseIdx i))
theorem dp_el {p : Int} (hp : 0 < p) (x : Int) (zs : List Int) : El p (dp p x zs) := vl_el hp _ _
theorem dp_nil {p : Int} {wd : Bool} (hm : Md p wd) (x : Int) : dp p x [] = 1 := by
 have hb := hm.bounds
 show (1 + x * 0) % p = 1
 rw [Int.mul_zero]; exact Int.emod_eq_of_lt (by decide) (by omega)
theorem dp_cons {p : Int} {wd : Bool} (hm : Md p wd) (x : Int) (zs : List Int) (z : Int) : dp p x (z :: zs) = mul p (sub p x z) (dp p x zs) := by
 have e := vl_mul (p := p) (t := x) (zs := zl p (z :: zs)) (xs := fac p z) (ys := zl p zs) (by show pl p (prd p (fac p z) (zl p zs)) = _; rw [pl_mul])
 rw [vl_fac] at e
 exact e
theorem dp_un {p : Int} {wd : Bool} (hm : Md p wd) {xs : List Int} (hx : Els p xs) (hn : xs.Nodup) {i : Nat} (hi : i < xs.length) : Un p (dp p (co xs i) (xs.eraseIdx i)) := by
 have hp : 0 < p := by have := hm.bounds; omega
 refine ⟨dp_el hp _ _, fun h => ?_⟩
 have he : El p (co xs i) := hx.co hp i
 have := (zl_root hm he (els_erase hx i)).1 h
 rw [co_at hi] at this
 exact not_mem_erase hi hn this
theorem bs_el {p : Int} (hp : 0 < p) (xs : List Int) (x : Int) (i : Nat) : El p (bs p xs x i) := mul_el hp
theorem bs_here {p : Int} {wd : Bool} (hm : Md p wd) {xs : List Int} (hx : Els p xs) (hn : xs.Nodup) {i : Nat} (hi : i < xs.length) : bs p xs (co xs i) i = 1 := by
 unfold bs wt
 rw [ring_comm]
 have := dp_un hm hx hn hi
 exact mul_inv hm _ this.1 this.2
theorem bs_far {p : Int} {wd : Bool} (hm : Md p wd) {xs : List Int} (hx : Els p xs) {i j : Nat} (hi : i < xs.length) (hj : j < xs.length) (h : j ≠ i) : bs p xs (co xs j) i = 0 := by
 have hp : 0 < p := by have := hm.bounds; omega
 unfold bs
 have : dp p (co xs j) (xs.eraseIdx i) = 0 := (zl_root hm (hx.co hp j) (els_erase hx i)).2 (by rw [co_at hj]; exact mem_erase hi hj h)
 rw [this]; exact mul_zero_right p _
def sc (p c : Int) (xs : List Int) : List Int := tr (sm p c [] xs)
theorem sc_facts {p : Int} (hp : 0 < p) (c : Int) (xs : List Int) : Tm p (sc p c xs) ∧ pl p (sc p c xs) = qm (pl p [c]) (pl p xs) ∧ (sc p c xs).length <= xs.length := by
 have h := is_scale hp c xs
 refine ⟨h.tm.1, h.tm.2, Nat.le_trans (tr_len _) ?_⟩
 rw [sm_len]; simp
theorem vl_one (p t c : Int) : vl p t [c] = c % p := by
 show (c + t * 0) % p = c % p
 rw [Int.mul_zero, Int.add_zero]
theorem vl_sc {p : Int} (hp : 0 < p) (t c : Int) (xs : List Int) : vl p t (sc p c xs) = mul p c (vl p t xs) := by
 rw [vl_mul (sc_facts hp c xs).2.1, vl_one]
 exact mul_emod_left c _ p
def tp (p : Int) (xs ys : List Int) : Nat -> List Int
 | 0 => []
 | k + 1 => tr (sm p 1 (tp p xs ys k) (sc p (mul p (wt p xs k) (co ys k)) (zl p (xs.eraseIdx k))))
def ds (p : Int) (f g : Nat -> Int) : Nat -> Int
 | 0 => 0
 | k + 1 => add p (ds p f g k) (mul p (f k) (g k))
theorem ds_el {p : Int} (hp : 0 < p) (f g : Nat -> Int) (k : Nat) : El p (ds p f g k) := by
 cases k with
 | zero => exact ⟨Int.le_refl 0, hp⟩
 | succ k => exact add_el hp
theorem ds_congr {p : Int} {f g f' g' : Nat -> Int} (k : Nat) (hf : ∀ i, i < k -> f i = f' i) (hg : ∀ i, i < k -> g i = g' i) : ds p f g k = ds p f' g' k := by
 induction k with
 | zero => rfl
 | succ k ih => show add p _ _ = add p _ _; rw [ih (fun i hi => hf i (by omega)) (fun i hi => hg i (by omega)), hf k (by omega), hg k (by omega)]
theorem tp_tm {p : Int} (hp : 0 < p) (xs ys : List Int) (k : Nat) : Tm p (tp p xs ys k) := by
 cases k with
 | zero => exact Tm.nil p
 | succ k => exact (is_add hp _ _).tm.1
theorem tp_len {p : Int} {wd : Bool} (hm : Md p wd) (xs ys : List Int) (k : Nat) (hk : k <= xs.length) : (tp p xs ys k).length <= xs.length := by
 have hp : 0 < p := by have := hm.bounds; omega
 induction k with
 | zero => exact Nat.zero_le _
 | succ k ih =>
  refine Nat.le_trans (tr_len _) ?_
  rw [sm_len]
  have h1 := (sc_facts hp (mul p (wt p xs k) (co ys k)) (zl p (xs.eraseIdx k))).2.2
  rw [(zl_facts hm _).2.2, List.length_eraseIdx, if_pos (by omega)] at h1
  have := ih (by omega)
  omega
theorem vl_tp {p : Int} {wd : Bool} (hm : Md p wd) (t : Int) (xs ys : List Int) (k : Nat) : vl p t (tp p xs ys k) = ds p (bs p xs t) (co ys) k := by
 have hp : 0 < p := by have := hm.bounds; omega
 induction k with
 | zero => exact Int.zero_emod p
 | succ k ih =>
  have h := vl_add (p := p) (t := t) (zs := tp p xs ys (k + 1)) (xs := tp p xs ys k) (ys := sc p (mul p (wt p xs k) (co ys k)) (zl p (xs.eraseIdx k))) (by show pl p (tr (sm p 1 (tp p xs ys k) (sc p (mul p (wt p xs k) (co ys k)) (zl p (xs.eraseIdx k))))) = _; rw [pl_tr, pl_add])
  rw [h, ih, vl_sc hp]
  show add p _ _ = add p _ _
  congr 1
  show mul p (mul p (wt p xs k) (co ys k)) (dp p t (xs.eraseIdx k)) = mul p (mul p (wt p xs k) (dp p t (xs.eraseIdx k))) (co ys k)
  rw [ring_assoc, ring_comm p (co ys k), <- ring_assoc]
theorem ds_zero {p : Int} (f g : Nat -> Int) (k : Nat) (h : ∀ i, i < k -> f i = 0) : ds p f g k = 0 := by
 induction k with
 | zero => rfl
 | succ k ih =>
  show add p _ _ = 0
  rw [ih (fun i hi => h i (by omega)), h k (by omega), mul_zero_left]; exact Int.zero_emod p
theorem ds_one {p : Int} (hp : 0 < p) (f g : Nat -> Int) (n j : Nat) (hj : j < n) (h1 : f j = 1) (h0 : ∀ i, i < n -> i ≠ j -> f i = 0) (hg : El p (g j)) : ds p f g n = g j := by
 induction n with
 | zero => omega
 | succ n ih =>
  show add p _ _ = _
  by_cases e : j = n
  · subst e
    rw [ds_zero f g j (fun i hi => h0 i (by omega) (by omega)), h1]
    unfold add mul
    rw [Int.one_mul, Int.zero_add, Int.emod_emod_of_dvd _ (Int.dvd_refl p)]; exact hg.mod
  · rw [ih (by omega) (fun i hi hne => h0 i (by omega) hne), h0 n (by omega) (by omega), mul_zero_left]
    unfold add
    rw [Int.add_zero]; exact hg.mod
theorem tp_thr {p : Int} {wd : Bool} (hm : Md p wd) {xs ys : List Int} (hx : Els p xs) (hy : Els p ys) (hn : xs.Nodup) : Thr p xs ys (tp p xs ys xs.length) := by
 have hp : 0 < p := by have := hm.bounds; omega
 refine ⟨tp_tm hp xs ys _, tp_len hm xs ys _ (Nat.le_refl _), fun i hi => ?_⟩
 rw [vl_tp hm]
 exact ds_one hp _ _ _ i hi (bs_here hm hx hn hi) (fun j hj hne => bs_far hm hx hj hi (fun e => hne e.symm)) (hy.co hp i)
theorem zr_take_out (p : Int) (xs : List Int) (i : Nat) (hi : i < xs.length) : zr p xs = qm (pl p (fac p xs[i])) (zr p (xs.eraseIdx i)) := by
 induction xs generalizing i with
 | nil => simp at hi
 | cons x xs ih =>
  cases i with
  | zero => rfl
  | succ i =>
   have h := ih i (by simp at hi; omega)
   show qm (pl p (fac p x)) (zr p xs) = qm (pl p (fac p (xs[i]'(by simp at hi; omega)))) (qm (pl p (fac p x)) (zr p (xs.eraseIdx i)))
   rw [h, qm_left]
theorem slp_fac {p x : Int} {wd : Bool} (hm : Md p wd) : slp p (fac p x) = [1] := by
 have hb := hm.bounds
 have : slp p (fac p x) = tr [1 % p] := by
  show tr (mk 1 (fun i => (((i : Int) + 1) * co (fac p x) (i + 1)) % p)) = _
  rfl
 rw [this, Int.emod_eq_of_lt (by decide) (by omega)]; rfl
theorem slp_place {p : Int} {wd : Bool} (hm : Md p wd) {xs : List Int} {i : Nat} (hi : i < xs.length) : vl p (co xs i) (slp p (zl p xs)) = dp p (co xs i) (xs.eraseIdx i) := by
 have hp : 0 < p := by have := hm.bounds; omega
 have h := slp_mul hp (zs := zl p xs) (xs := fac p xs[i]) (ys := zl p (xs.eraseIdx i)) (by rw [(zl_facts hm _).2.1, (zl_facts hm _).2.1]; exact zr_take_out p xs i hi)
 rw [slp_fac hm, pl_one_mul] at h
 have e := vl_add (p := p) (t := co xs i) (zs := slp p (zl p xs)) (xs := zl p (xs.eraseIdx i)) (ys := prd p (fac p xs[i]) (slp p (zl p (xs.eraseIdx i)))) (by rw [h, pl_mul])
 have e2 := vl_mul (p := p) (t := co xs i) (zs := prd p (fac p xs[i]) (slp p (zl p (xs.eraseIdx i)))) (pl_mul p _ _)
 rw [vl_fac, co_at hi, Int.sub_self, Int.zero_emod, Int.zero_mul, Int.zero_emod] at e2
 rw [co_at hi] at e ⊢
 rw [e, e2, Int.add_zero]
 exact (dp_el hp _ _).mod
end Go.Proofs.YtjhididlcdepdaaGreat.Fld
namespace Go.Proofs.YtjhididlcdepdaaGreat.Fld
def pd (p : Int) : List Int -> Int
 | [] => 1
 | x :: l => mul p x (pd p l)
theorem pd_el {p : Int} {wd : Bool} (hm : Md p wd) (l : List Int) : El p (pd p l) := by
 have hb := hm.bounds
 cases l with
 | nil => exact ⟨by show (0 : Int) <= 1; decide, by show (1 : Int) < p; omega⟩
 | cons x l => exact mul_el (by omega)
theorem one_mul_el {p a : Int} (ha : El p a) : mul p 1 a = a := by rw [ring_comm]; exact mul_one_el ha
theorem pd_append {p : Int} {wd : Bool} (hm : Md p wd) (l m : List Int) : pd p (l ++ m) = mul p (pd p l) (pd p m) := by
 induction l with
 | nil => exact (one_mul_el (pd_el hm m)).symm
 | cons x l ih => show mul p x (pd p (l ++ m)) = mul p (mul p x (pd p l)) (pd p m); rw [ih, ring_assoc]
theorem pd_one {p x : Int} (hx : El p x) : pd p [x] = x := mul_one_el hx
theorem pd_snoc {p x : Int} {wd : Bool} (hm : Md p wd) (l : List Int) (hx : El p x) : pd p (l ++ [x]) = mul p (pd p l) x := by rw [pd_append hm, pd_one hx]
def ot (p : Int) (l : List Int) (i : Nat) : Int := mul p (pd p (l.take i)) (pd p (l.drop (i + 1)))
theorem ot_el {p : Int} (hp : 0 < p) (l : List Int) (i : Nat) : El p (ot p l i) := mul_el hp
theorem ot_erase {p : Int} {wd : Bool} (hm : Md p wd) (l : List Int) (i : Nat) : ot p l i = pd p (l.eraseIdx i) := by
 rw [List.eraseIdx_eq_take_drop_succ, pd_append hm]; rfl
theorem pd_ahead {p : Int} {wd : Bool} (hm : Md p wd) {l : List Int} (hl : Els p l) {i : Nat} (hi : i < l.length) : pd p (l.take (i + 1)) = mul p (pd p (l.take i)) (co l i) := by
 have he : El p (co l i) := hl.co (by have := hm.bounds; omega) i
 rw [List.take_succ_eq_append_getElem hi, pd_snoc hm _ (by rw [<- co_at hi]; exact he), co_at hi]
theorem pd_behind {p : Int} {wd : Bool} (hm : Md p wd) {l : List Int} {i : Nat} (hi : i < l.length) : pd p (l.drop i) = mul p (pd p (l.drop (i + 1))) (co l i) := by
 rw [List.drop_eq_getElem_cons hi, co_at hi, ring_comm]; rfl
theorem ot_whole {p : Int} {wd : Bool} (hm : Md p wd) {l : List Int} (hl : Els p l) {i : Nat} (hi : i < l.length) : mul p (co l i) (ot p l i) = pd p l := by
 have e : pd p l = mul p (pd p (l.take i)) (pd p (l.drop i)) := by rw [<- pd_append hm, List.take_append_drop]
 rw [e, pd_behind hm hi]
 unfold ot
 rw [<- ring_assoc, ring_comm p (co l i), ring_assoc, ring_comm p (co l i)]
theorem pd_un {p : Int} {wd : Bool} (hm : Md p wd) (l : List Int) (h : ∀ x ∈ l, Un p x) : Un p (pd p l) := by
 have hb := hm.bounds
 induction l with
 | nil => exact ⟨pd_el hm [], by show (1 : Int) ≠ 0; decide⟩
 | cons x l ih => exact Un.mul hm (h x List.mem_cons_self) (ih (fun y hy => h y (List.mem_cons_of_mem _ hy)))
theorem ot_inv {p : Int} {wd : Bool} (hm : Md p wd) {l : List Int} (h : ∀ x ∈ l, Un p x) {i : Nat} (hi : i < l.length) : mul p (inv p (pd p l)) (ot p l i) = inv p (co l i) := by
 have hb := hm.bounds
 have hu : Un p (co l i) := by rw [co_at hi]; exact h _ (List.getElem_mem hi)
 have hw := pd_un hm l h
 refine inv_eq hm hu (mul_el (by omega)) ?_
 rw [ring_comm p (inv p (pd p l)), <- ring_assoc, ot_whole hm (fun x hx => (h x hx).1) hi]
 exact mul_inv hm _ hw.1 hw.2
theorem dp_pd {p x : Int} {wd : Bool} (hm : Md p wd) (zs : List Int) : dp p x zs = pd p (zs.map (fun z => sub p x z)) := by
 induction zs with
 | nil => exact dp_nil hm x
 | cons z zs ih => rw [dp_cons hm, ih]; rfl
theorem map_erase (g : Int -> Int) (xs : List Int) (i : Nat) : (xs.map g).eraseIdx i = (xs.eraseIdx i).map g := by
 rw [List.eraseIdx_eq_take_drop_succ, List.eraseIdx_eq_take_drop_succ, List.map_append, List.map_take, List.map_drop]
theorem ot_diff {p x : Int} {wd : Bool} (hm : Md p wd) (xs : List Int) (i : Nat) : ot p (xs.map (fun z => sub p x z)) i = dp p x (xs.eraseIdx i) := by
 rw [ot_erase hm, map_erase, dp_pd hm]
def wts (p : Int) (xs : List Int) : List Int := mk xs.length (wt p xs)
def bsl (p : Int) (xs : List Int) (x : Int) : List Int := mk xs.length (bs p xs x)
theorem wts_len (p : Int) (xs : List Int) : (wts p xs).length = xs.length := mk_len _ _
theorem bsl_len (p : Int) (xs : List Int) (x : Int) : (bsl p xs x).length = xs.length := mk_len _ _
theorem wt_el {p : Int} (hp : 0 < p) (xs : List Int) (i : Nat) : El p (wt p xs i) := pow_el hp
theorem wts_els {p : Int} (hp : 0 < p) (xs : List Int) : Els p (wts p xs) := Els.mk _ (fun i _ => wt_el hp xs i)
theorem wts_at {p : Int} {xs : List Int} {i : Nat} (hi : i < xs.length) : co (wts p xs) i = wt p xs i := by unfold wts; rw [co_mk, if_pos hi]
theorem bsl_at {p : Int} {xs : List Int} {x : Int} {i : Nat} (hi : i < xs.length) : co (bsl p xs x) i = bs p xs x i := by unfold bsl; rw [co_mk, if_pos hi]
end Go.Proofs.YtjhididlcdepdaaGreat.Fld
namespace Go.Proofs.YtjhididlcdepdaaGreat.Shr
open Go.Proofs.YtjhididlcdepdaaGreat.Fld
def col (bl : List (List Int)) (t : Nat) : List Int := bl.map (fun b => co b t)
theorem col_len (bl : List (List Int)) (t : Nat) : (col bl t).length = bl.length := List.length_map ..
theorem col_at {bl : List (List Int)} {t k : Nat} (hk : k < bl.length) : co (col bl t) k = co bl[k] t := by
 rw [co_at (by rw [col_len]; exact hk)]; unfold col; rw [List.getElem_map]
def py (p : Int) (xs : List Int) (bl : List (List Int)) (t : Nat) : List Int := tp p xs (col bl t) xs.length
end Go.Proofs.YtjhididlcdepdaaGreat.Shr
namespace Go.Proofs.YtjhididlcdepdaaGreat.Fld
def offp (p : Int) (P xs ys : List Int) : List Nat := (List.range xs.length).filter (fun i => decide (vl p (co xs i) P ≠ co ys i))
def onp (p : Int) (P xs ys : List Int) : List Nat := (List.range xs.length).filter (fun i => !decide (vl p (co xs i) P ≠ co ys i))
theorem offp_mem {p : Int} {P xs ys : List Int} {i : Nat} : i ∈ offp p P xs ys ↔ i < xs.length ∧ vl p (co xs i) P ≠ co ys i := by
 unfold offp; rw [List.mem_filter, List.mem_range, decide_eq_true_iff]
theorem onp_mem {p : Int} {P xs ys : List Int} {i : Nat} : i ∈ onp p P xs ys ↔ i < xs.length ∧ vl p (co xs i) P = co ys i := by
 unfold onp; rw [List.mem_filter, List.mem_range]; simp
theorem on_off (p : Int) (P xs ys : List Int) : (offp p P xs ys).length + (onp p P xs ys).length = xs.length := by
 have e : ∀ (q : Nat -> Bool) (l : List Nat), (l.filter q).length + (l.filter (fun i => !q i)).length = l.length := fun q l => by
  induction l with
  | nil => rfl
  | cons a l ih => by_cases h : q a = true <;> simp [h] <;> omega
 have := e (fun i => decide (vl p (co xs i) P ≠ co ys i)) (List.range xs.length)
 rw [List.length_range] at this
 exact this
theorem mk_co (xs : List Int) : (List.range xs.length).map (co xs) = xs := ext_co (by simp) (fun i hi => by
 have := co_mk xs.length (co xs) i
 rw [if_pos (by simpa using hi)] at this
 exact this)
theorem sub_places (xs : List Int) (q : Nat -> Bool) : (((List.range xs.length).filter q).map (co xs)).Sublist xs := by
 have h := (List.filter_sublist (l := List.range xs.length) (p := q)).map (co xs)
 rwa [mk_co] at h
def Dec (p : Int) (D w : Nat) (xs ys P : List Int) : Prop := Tm p P ∧ P.length <= D ∧ (offp p P xs ys).length <= w
theorem key {p : Int} {wd : Bool} (hm : Md p wd) {xs ys P Q L : List Int} (hx : Els p xs) (hn : xs.Nodup) {w : Nat} (hw : (offp p P xs ys).length <= w) (h1 : Q.length + w <= xs.length) (h2 : P = [] ∨ L = [] ∨ P.length + L.length + w <= xs.length + 1) (h : ∀ i, i < xs.length -> vl p (co xs i) Q = (co ys i * vl p (co xs i) L) % p) : pl p Q = qm (pl p P) (pl p L) := by
 have hp : 0 < p := by have := hm.bounds; omega
 have hD := is_sub hp Q (prd p P L)
 have hs : pl p Q = qa (pl p (tr (sm p (sub p 0 1) Q (prd p P L)))) (pl p (prd p P L)) := by
  rw [hD.tm.2]
  exact pu_eq (fun i => by show co Q i % p = (co Q i - co (prd p P L) i + co (prd p P L) i) % p; congr 1; omega)
 have hpl : (prd p P L).length + w <= xs.length := by
  by_cases e1 : P = []
  · have : (prd p P L).length = 0 := by rw [e1]; unfold prd; simp
    omega
  · by_cases e2 : L = []
    · have : (prd p P L).length = 0 := by rw [e2]; unfold prd; simp
      omega
    · rw [prd_len p P L e1 e2]
      have := List.length_pos_iff.2 e1
      rcases h2 with c | c | c
      · exact absurd c e1
      · exact absurd c e2
      · omega
 have hzs := sub_places xs (fun i => !decide (vl p (co xs i) P ≠ co ys i))
 have hlen : xs.length <= ((onp p P xs ys).map (co xs)).length + w := by
  rw [List.length_map]; have := on_off p P xs ys; omega
 have h0 := roots_zero hm ((onp p P xs ys).map (co xs)) _ (fun x hx' => hx x (hzs.subset hx')) (hzs.nodup hn) hD.tm.1 (by
  refine Nat.le_trans (tr_len _) ?_
  rw [sm_len]; omega) (fun x hx' => by
  obtain ⟨i, hi, rfl⟩ := List.mem_map.1 hx'
  obtain ⟨h3, h4⟩ := onp_mem.1 hi
  have e := vl_add (p := p) (t := co xs i) hs
  rw [vl_mul (p := p) (t := co xs i) (pl_mul p P L), h4, h i h3] at e
  have hv := vl_el hp (co xs i) (tr (sm p (sub p 0 1) Q (prd p P L)))
  have hy : El p ((co ys i * vl p (co xs i) L) % p) := emod_el hp _
  generalize vl p (co xs i) (tr (sm p (sub p 0 1) Q (prd p P L))) = d at *
  generalize (co ys i * vl p (co xs i) L) % p = y at *
  have g1 := hv.1; have g2 := hv.2; have g3 := hy.1; have g4 := hy.2
  by_cases hlt : d + y < p
  · rw [Int.emod_eq_of_lt (by omega) hlt] at e; omega
  · rw [emod_sub_self _ _ (by omega) (by omega)] at e; omega)
 rw [h0, pl_nil_add, pl_mul] at hs
 exact hs
theorem key_dv {p : Int} {wd : Bool} (hm : Md p wd) {xs ys P Q L : List Int} (hx : Els p xs) (hn : xs.Nodup) (hP : Tm p P) (hL : tr L ≠ []) {w : Nat} (hw : (offp p P xs ys).length <= w) (h1 : Q.length + w <= xs.length) (h2 : P = [] ∨ L = [] ∨ P.length + L.length + w <= xs.length + 1) (h : ∀ i, i < xs.length -> vl p (co xs i) Q = (co ys i * vl p (co xs i) L) % p) : Dv p Q L P [] :=
 Dv.of hP (Tm.nil p) (by rw [List.length_nil]; exact List.length_pos_iff.2 hL) (by rw [pl_add_nil]; exact (key hm hx hn hw h1 h2 h).symm)
def lct (p : Int) (w : Nat) (P xs ys : List Int) : List Int := zl p ((offp p P xs ys).map (co xs) ++ List.replicate (w - (offp p P xs ys).length) 0)
theorem lct_facts {p : Int} {wd : Bool} (hm : Md p wd) {xs ys P : List Int} (hx : Els p xs) {w : Nat} (hw : (offp p P xs ys).length <= w) : Tm p (lct p w P xs ys) ∧ (lct p w P xs ys).length = w + 1 ∧ co (lct p w P xs ys) w = 1 ∧ ∀ i, i < xs.length -> vl p (co xs i) (prd p P (lct p w P xs ys)) = (co ys i * vl p (co xs i) (lct p w P xs ys)) % p := by
 have hp : 0 < p := by have := hm.bounds; omega
 have hl : ((offp p P xs ys).map (co xs) ++ List.replicate (w - (offp p P xs ys).length) 0).length = w := by rw [List.length_append, List.length_map, List.length_replicate]; omega
 have h1 := zl_facts hm ((offp p P xs ys).map (co xs) ++ List.replicate (w - (offp p P xs ys).length) 0)
 have h2 := zl_top hm ((offp p P xs ys).map (co xs) ++ List.replicate (w - (offp p P xs ys).length) 0)
 rw [hl] at h1 h2
 refine ⟨h1.1, h1.2.2, h2, fun i hi => ?_⟩
 rw [vl_mul (p := p) (t := co xs i) (pl_mul p P _)]
 by_cases e : vl p (co xs i) P = co ys i
 · rw [e]
 · have he : Els p ((offp p P xs ys).map (co xs) ++ List.replicate (w - (offp p P xs ys).length) 0) := fun z hz => by
    rcases List.mem_append.1 hz with c | c
    · obtain ⟨j, _, rfl⟩ := List.mem_map.1 c
      exact hx.co hp j
    · rw [(List.mem_replicate.1 c).2]; exact ⟨Int.le_refl _, hp⟩
   have : vl p (co xs i) (lct p w P xs ys) = 0 := (zl_root hm (hx.co hp i) he).2 (List.mem_append_left _ (List.mem_map.2 ⟨i, offp_mem.2 ⟨hi, e⟩, rfl⟩))
   rw [this, Int.mul_zero, Int.mul_zero]
theorem tr_ne {p : Int} {L : List Int} (h : Tm p L) (h0 : L ≠ []) : tr L ≠ [] := by rw [h.2]; exact h0
theorem Dec.only {p : Int} {wd : Bool} (hm : Md p wd) {D w : Nat} {xs ys P R : List Int} (hx : Els p xs) (hn : xs.Nodup) (hl : D + 2 * w <= xs.length) (hP : Dec p D w xs ys P) (hR : Dec p D w xs ys R) : P = R := by
 obtain ⟨f1, f2, f3, f4⟩ := lct_facts hm (ys := ys) (P := R) hx hR.2.2
 have hne : lct p w R xs ys ≠ [] := fun e => by rw [e] at f2; cases f2
 have hq : (prd p R (lct p w R xs ys)).length + w <= xs.length := by
  by_cases e : R = []
  · have : (prd p R (lct p w R xs ys)).length = 0 := by rw [e]; unfold prd; simp
    omega
  · rw [prd_len p _ _ e hne, f2]; have := hR.2.1; have := List.length_pos_iff.2 e; omega
 have a := key_dv hm hx hn hP.1 (tr_ne f1 hne) hP.2.2 hq (.inr (.inr (by rw [f2]; have := hP.2.1; omega))) f4
 have b := key_dv hm hx hn hR.1 (tr_ne f1 hne) hR.2.2 hq (.inr (.inr (by rw [f2]; have := hR.2.1; omega))) f4
 exact (Dv.only hm f1.1 a b).1
theorem Dec.row {p : Int} {wd : Bool} (hm : Md p wd) {D w stop : Nat} {xs ys P T : List Int} {A B : R3} (hx : Els p xs) (hn : xs.Nodup) (h1 : D + w <= stop) (h2 : stop + w <= xs.length) (hT : Thr p xs ys T) (hP : Dec p D w xs ys P) (hF : Fnd p stop (zl p xs) T A B) : B.v ≠ [] ∧ Dv p B.x B.v P [] := by
 have hp : 0 < p := by have := hm.bounds; omega
 obtain ⟨z1, z2, z3⟩ := zl_facts hm xs
 have zt : tr (zl p xs) = zl p xs := z1.2
 have hc := hF.case hm z1.1 hT.1.1
 rw [zt, z3] at hc
 rcases hc with ⟨c, _⟩ | ⟨hi, c1, c2, c3⟩
 · omega
 have hmade := (hF.made hm z1.1 hT.1.1)
 have hv : B.v ≠ [] := fun e => by
  have hu : B.u ≠ [] := hmade.2.2.1.resolve_right (fun h => h e)
  have hb := hmade.1
  rw [e, pl_nil_left, pl_add_nil] at hb
  have hz : zl p xs ≠ [] := fun e' => by rw [e'] at z3; cases z3
  have hpr := (is_prd hm hi.su.1 z1.1 hi.su.2 z1.2).tm
  have : B.x = prd p B.u (zl p xs) := hi.sx.only hp hpr.1 (hb.trans (pl_mul p _ _).symm)
  rw [this, prd_len p _ _ hu hz, z3] at c3
  have := List.length_pos_iff.2 hu
  omega
 refine ⟨hv, ?_⟩
 have hvl := (hF.vlen hm z1.1 hT.1.1 (by rw [zt]; intro e; rw [e] at z3; cases z3)).resolve_right hv
 rw [zt, z3] at hvl
 refine key_dv hm hx hn hP.1 (tr_ne hi.sv hv) hP.2.2 (by omega) (.inr (.inr (by have := hP.2.1; omega))) (fun i hi' => ?_)
 have e1 := vl_add (p := p) (t := co xs i) (zs := B.x) (xs := prd p B.u (zl p xs)) (ys := prd p B.v T) (by rw [pl_mul, pl_mul]; exact hmade.1)
 rw [vl_mul (p := p) (t := co xs i) (pl_mul p B.u (zl p xs)), vl_mul (p := p) (t := co xs i) (pl_mul p B.v T), (zl_root hm (hx.co hp i) hx).2 (by rw [co_at hi']; exact List.getElem_mem hi'), hT.2.2 i hi'] at e1
 rw [e1, Int.mul_zero, Int.zero_emod, Int.zero_add, Int.emod_emod_of_dvd _ (Int.dvd_refl p), Int.mul_comm]
theorem Dec.some {p : Int} {wd : Bool} (hm : Md p wd) {D w : Nat} {xs ys P : List Int} (hx : Els p xs) (hP : Dec p D w xs ys P) : ∃ Q L : List Int, Els p Q ∧ Tm p L ∧ Q.length <= D + w ∧ L.length = w + 1 ∧ co L w = 1 ∧ ∀ i, i < xs.length -> vl p (co xs i) Q = (co ys i * vl p (co xs i) L) % p := by
 have hp : 0 < p := by have := hm.bounds; omega
 obtain ⟨f1, f2, f3, f4⟩ := lct_facts hm (ys := ys) (P := P) hx hP.2.2
 refine ⟨prd p P (lct p w P xs ys), lct p w P xs ys, els_prd hp _ _, f1, ?_, f2, f3, f4⟩
 refine Nat.le_trans (prd_len_le _ _ _) ?_
 rw [f2]; have := hP.2.1; omega
end Go.Proofs.YtjhididlcdepdaaGreat.Fld
namespace Go.Proofs.YtjhididlcdepdaaGreat.Fld
def Crs (p : Int) (X Y : R3) : Prop := qm (pl p X.u) (pl p Y.v) = qa (qm (pl p Y.u) (pl p X.v)) (pl p [1]) ∨ qm (pl p Y.u) (pl p X.v) = qa (qm (pl p X.u) (pl p Y.v)) (pl p [1])
theorem crs_eq {p : Int} {zu zv yu yv q : Pl p} {xu xv : Pl p} (eu : qa zu (qm q yu) = xu) (ev : qa zv (qm q yv) = xv) : qm xu yv = qa (qm zu yv) (qm q (qm yu yv)) ∧ qm yu xv = qa (qm yu zv) (qm q (qm yu yv)) := by
 rw [<- eu, <- ev]
 constructor
 · rw [qa_qm, qm_assoc]
 · rw [qm_qa, qm_left]
theorem Crs.next {p : Int} {X Y Z : R3} (h : Crs p X Y) (k : Nx p X Y Z) : Crs p Y Z := by
 obtain ⟨q, hd, ku, kv, eu, ev⟩ := k
 obtain ⟨h1, h2⟩ := crs_eq eu ev
 rcases h with h | h
 · right
   rw [h1, h2, qa_assoc, qa_comm (qm (pl p q) _), <- qa_assoc] at h
   exact qa_cancel h
 · left
   rw [h1, h2, qa_assoc, qa_comm (qm (pl p q) _), <- qa_assoc] at h
   exact qa_cancel h
theorem Ds.crs {p : Int} {stop : Nat} : ∀ (n : Nat) {X Y A B : R3}, Crs p X Y -> Ds p stop n X Y A B -> stop < X.x.length -> Crs p A B := by
 intro n
 induction n with
 | zero => intro X Y A B _ h; exact absurd h id
 | succ n ih =>
  intro X Y A B hi h hs
  rcases h with ⟨h1, rfl, rfl⟩ | ⟨h1, h2, rfl, rfl⟩ | ⟨h1, h2, Z, hz, h3⟩
  · omega
  · exact hi
  · exact ih (hi.next hz) h3 h2
theorem Fnd.crs {p : Int} {stop : Nat} {a b : List Int} {A B : R3} (h : Fnd p stop a b A B) (hs : stop < (tr a).length) : Crs p A B := by
 obtain ⟨n, h⟩ := h
 refine Ds.crs n (.inl ?_) h hs
 show qm (pl p [1]) (pl p [1]) = qa (qm (pl p []) (pl p [])) (pl p [1])
 rw [pl_one_mul, pl_nil_left, pl_nil_add]
theorem take_off {p : Int} {x b k l : Pl p} (h : qa x (qm b k) = qm b l) : x = qm (qa l (qm (pl p (neg1 p)) k)) b := by
 have e := neg_cancel (qm b k)
 have e2 : qa (qa x (qm b k)) (qm (pl p (neg1 p)) (qm b k)) = x := by rw [qa_assoc, e, pl_add_nil]
 rw [h] at e2
 rw [<- e2, qa_qm, qm_comm l b, qm_comm (qm (pl p (neg1 p)) k) b, qm_left b]
theorem Crs.dd {p : Int} {A B : R3} (h : Crs p A B) {W H : List Int} (e : qm (pl p B.u) (pl p W) = qm (pl p B.v) (pl p H)) : Dd p B.v W := by
 rcases h with h | h
 · have e1 : qm (pl p W) (qm (pl p A.u) (pl p B.v)) = qa (pl p W) (qm (pl p B.v) (qm (pl p H) (pl p A.v))) := by
    rw [h, qm_qa, pl_mul_one, qa_comm, <- qm_assoc (pl p W), qm_comm (pl p W), e, qm_assoc]
   rw [<- qm_assoc, qm_comm (qm (pl p W) (pl p A.u)), qm_comm (pl p W) (pl p A.u)] at e1
   have e2 := take_off (p := p) (x := pl p W) (b := pl p B.v) (k := qm (pl p H) (pl p A.v)) (l := qm (pl p A.u) (pl p W)) e1.symm
   exact ⟨sm p 1 (prd p A.u W) (prd p (neg1 p) (prd p H A.v)), by rw [pl_add, pl_mul, pl_mul, pl_mul]; exact e2⟩
 · have e1 : qm (pl p W) (qm (pl p B.u) (pl p A.v)) = qa (pl p W) (qm (pl p B.v) (qm (pl p A.u) (pl p W))) := by
    rw [h, qm_qa, pl_mul_one, qa_comm, qm_left (pl p W), qm_comm (pl p W), qm_left (pl p A.u)]
   rw [<- qm_assoc, qm_comm (pl p W), e, qm_assoc] at e1
   have e2 := take_off (p := p) (x := pl p W) (b := pl p B.v) (k := qm (pl p A.u) (pl p W)) (l := qm (pl p H) (pl p A.v)) e1.symm
   exact ⟨sm p 1 (prd p H A.v) (prd p (neg1 p) (prd p A.u W)), by rw [pl_add, pl_mul, pl_mul, pl_mul]; exact e2⟩
theorem fac_away {p : Int} {wd : Bool} (hm : Md p wd) {z a b : List Int} (hz : Tm p z) (hne : z ≠ []) (h : qm (pl p z) (pl p a) = qm (pl p z) (pl p b)) : pl p a = pl p b := by
 have hp : 0 < p := by have := hm.bounds; omega
 have hd := nz_tm hp (sm p 1 a (prd p (neg1 p) b))
 rw [pl_add, pl_mul] at hd
 have h0 : pl p (prd p z (nz p (sm p 1 a (prd p (neg1 p) b)))) = pl p [] := by
  rw [pl_mul, hd.2, qm_qa, qm_left, h, neg_cancel]
 have hpr := (is_prd hm hz.1 hd.1.1 hz.2 hd.1.2).tm
 have h1 := hpr.1.only hp (Tm.nil p) h0
 have h2 : nz p (sm p 1 a (prd p (neg1 p) b)) = [] := Classical.byContradiction fun e => by
  have := prd_len p z _ hne e
  rw [h1] at this
  have := List.length_pos_iff.2 hne
  have := List.length_pos_iff.2 e
  simp at *
  omega
 have h3 := hd.2
 rw [h2] at h3
 have h4 : qa (qa (pl p a) (qm (pl p (neg1 p)) (pl p b))) (pl p b) = pl p a := by rw [qa_assoc, qa_comm (qm (pl p (neg1 p)) _), neg_cancel, pl_add_nil]
 rw [<- h3, pl_nil_add] at h4
 exact h4.symm
theorem roots_zr {p : Int} {wd : Bool} (hm : Md p wd) : ∀ (xs P : List Int), Els p xs -> xs.Nodup -> (∀ x ∈ xs, vl p x P = 0) -> ∃ H : List Int, pl p P = qm (zr p xs) (pl p H) := by
 have hp : 0 < p := by have := hm.bounds; omega
 intro xs
 induction xs with
 | nil => intro P _ _ _; exact ⟨P, (pl_one_mul _).symm⟩
 | cons x xs ih =>
  intro P hx hn h0
  have hq := fac_out (t := x) hp (h0 x List.mem_cons_self)
  have hxs := List.nodup_cons.1 hn
  obtain ⟨H, hH⟩ := ih (sq p x P) (fun y hy => hx y (List.mem_cons_of_mem _ hy)) hxs.2 (fun y hy => by
   have e := vl_mul (p := p) (t := y) (zs := P) (xs := fac p x) (ys := sq p x P) hq.2
   rw [h0 y (List.mem_cons_of_mem _ hy), vl_fac, Int.mul_comm] at e
   have hyx : y ≠ x := fun e => hxs.1 (by rw [<- e]; exact hy)
   have := no_div hm _ _ (by rw [Int.emod_emod_of_dvd _ (Int.dvd_refl p)]; exact ne_mod (hx y (List.mem_cons_of_mem _ hy)) (hx x List.mem_cons_self) hyx) e.symm
   rwa [(vl_el hp y _).mod] at this)
  exact ⟨H, by show _ = qm (qm (pl p (fac p x)) (zr p xs)) (pl p H); rw [hq.2, hH, qm_assoc]⟩
theorem row_at {p : Int} {wd : Bool} (hm : Md p wd) {stop : Nat} {xs ys T : List Int} {A B : R3} (hx : Els p xs) (hT : Thr p xs ys T) (hF : Fnd p stop (zl p xs) T A B) {i : Nat} (hi : i < xs.length) : vl p (co xs i) B.x = (co ys i * vl p (co xs i) B.v) % p := by
 have hp : 0 < p := by have := hm.bounds; omega
 have hmade := hF.made hm (zl_facts hm xs).1.1 hT.1.1
 have e1 := vl_add (p := p) (t := co xs i) (zs := B.x) (xs := prd p B.u (zl p xs)) (ys := prd p B.v T) (by rw [pl_mul, pl_mul]; exact hmade.1)
 rw [vl_mul (p := p) (t := co xs i) (pl_mul p B.u (zl p xs)), vl_mul (p := p) (t := co xs i) (pl_mul p B.v T), (zl_root hm (hx.co hp i) hx).2 (by rw [co_at hi]; exact List.getElem_mem hi), hT.2.2 i hi] at e1
 rw [e1, Int.mul_zero, Int.zero_emod, Int.zero_add, Int.emod_emod_of_dvd _ (Int.dvd_refl p), Int.mul_comm]
theorem row_ne {p : Int} {wd : Bool} (hm : Md p wd) {stop : Nat} {xs ys T : List Int} {A B : R3} (hx : Els p xs) (h2 : stop <= xs.length) (hT : Thr p xs ys T) (hF : Fnd p stop (zl p xs) T A B) : B.v ≠ [] ∧ Tm p B.x ∧ Tm p B.v ∧ B.x.length <= stop ∧ B.v.length + stop <= xs.length + 1 ∧ Crs p A B := by
 have hp : 0 < p := by have := hm.bounds; omega
 obtain ⟨z1, z2, z3⟩ := zl_facts hm xs
 have zt : tr (zl p xs) = zl p xs := z1.2
 have hc := hF.case hm z1.1 hT.1.1
 rw [zt, z3] at hc
 have hcr := hF.crs (by rw [zt, z3]; omega)
 rcases hc with ⟨c, _⟩ | ⟨hi, c1, c2, c3⟩
 · omega
 have hmade := (hF.made hm z1.1 hT.1.1)
 have hv : B.v ≠ [] := fun e => by
  have hu : B.u ≠ [] := hmade.2.2.1.resolve_right (fun h => h e)
  have hb := hmade.1
  rw [e, pl_nil_left, pl_add_nil] at hb
  have hz : zl p xs ≠ [] := fun e' => by rw [e'] at z3; cases z3
  have hpr := (is_prd hm hi.su.1 z1.1 hi.su.2 z1.2).tm
  have : B.x = prd p B.u (zl p xs) := hi.sx.only hp hpr.1 (hb.trans (pl_mul p _ _).symm)
  rw [this, prd_len p _ _ hu hz, z3] at c3
  have := List.length_pos_iff.2 hu
  omega
 have hvl := (hF.vlen hm z1.1 hT.1.1 (by rw [zt]; intro e; rw [e] at z3; cases z3)).resolve_right hv
 rw [zt, z3] at hvl
 exact ⟨hv, hi.sx, hi.sv, c3, hvl, hcr⟩
theorem Dec.tells {p : Int} {wd : Bool} (hm : Md p wd) {D w stop : Nat} {xs ys P T : List Int} {A B : R3} (hx : Els p xs) (hn : xs.Nodup) (h1 : D + w <= stop) (h2 : stop + w <= xs.length) (hT : Thr p xs ys T) (hP : Dec p D w xs ys P) (hF : Fnd p stop (zl p xs) T A B) :
 Dv p B.x B.v P [] ∧ B.v.length <= w + 1 ∧ ∀ i, i < xs.length -> (vl p (co xs i) B.v = 0 ↔ vl p (co xs i) P ≠ co ys i) := by
 have hp : 0 < p := by have := hm.bounds; omega
 obtain ⟨hv, hdv⟩ := hP.row hm hx hn h1 h2 hT hF
 obtain ⟨_, tx, tv, l1, l2, hcr⟩ := row_ne hm hx (by omega) hT hF
 obtain ⟨z1, z2, z3⟩ := zl_facts hm xs
 have hzne : zl p xs ≠ [] := fun e' => by rw [e'] at z3; cases z3
 have hpr := hdv.rg.2.2.2
 rw [pl_add_nil] at hpr
 have hmade := (hF.made hm z1.1 hT.1.1).1
 have hsub := sub_places xs (fun i => decide (vl p (co xs i) P ≠ co ys i))
 obtain ⟨o1, o2, o3⟩ := zl_facts hm ((offp p P xs ys).map (co xs))
 have hoE : Els p ((offp p P xs ys).map (co xs)) := fun x hx' => hx x (hsub.subset hx')
 obtain ⟨H, hH⟩ := roots_zr hm xs (prd p (zl p ((offp p P xs ys).map (co xs))) (sm p 1 P (prd p (neg1 p) T))) hx hn (fun x hx' => by
  obtain ⟨i, hi, rfl⟩ := List.mem_iff_getElem.1 hx'
  rw [<- co_at hi, vl_mul (p := p) (t := co xs i) (pl_mul p _ _)]
  by_cases e : vl p (co xs i) P = co ys i
  · rw [vl_add (p := p) (t := co xs i) (pl_add p _ _), vl_mul (p := p) (t := co xs i) (pl_mul p (neg1 p) T), e, hT.2.2 i hi]
    have hn1 : vl p (co xs i) (neg1 p) = p - 1 := by
     rw [show neg1 p = [p - 1] from rfl, vl_one]; exact Int.emod_eq_of_lt (by have := hm.bounds; omega) (by omega)
    rw [hn1]
    have : (co ys i + (p - 1) * co ys i % p) % p = 0 := by
     rw [Int.add_emod, Int.emod_emod_of_dvd _ (Int.dvd_refl p), <- Int.add_emod, Int.sub_mul, Int.one_mul, show co ys i + (p * co ys i - co ys i) = p * co ys i by omega, Int.mul_emod_right]
    rw [this, Int.mul_zero, Int.zero_emod]
  · rw [(zl_root hm (hx.co hp i) hoE).2 (List.mem_map.2 ⟨i, offp_mem.2 ⟨hi, e⟩, rfl⟩), Int.zero_mul, Int.zero_emod])
 rw [pl_mul, pl_add, pl_mul, <- z2] at hH
 have key1 : qm (pl p B.u) (pl p (zl p ((offp p P xs ys).map (co xs)))) = qm (pl p B.v) (pl p H) := by
  have e0 : qa (qm (pl p B.v) (qa (pl p P) (qm (pl p (neg1 p)) (pl p T)))) (pl p []) = qm (pl p B.u) (pl p (zl p xs)) := by
   rw [pl_add_nil, qm_qa, qm_comm (pl p B.v) (pl p P), hpr, hmade, qa_assoc, qm_left (pl p B.v), neg_cancel, pl_add_nil]
  rw [pl_add_nil] at e0
  rw [<- pl_mul, <- pl_mul]
  refine fac_away hm z1 hzne ?_
  rw [pl_mul, pl_mul, <- qm_assoc, qm_comm (pl p (zl p xs)) (pl p B.u), <- e0, qm_left (pl p (zl p xs)), <- hH, qm_assoc, qm_comm (qa (pl p P) _)]
 have hdd := hcr.dd key1
 have hone : zl p ((offp p P xs ys).map (co xs)) ≠ [] := fun e => by rw [e] at o3; cases o3
 have hlen := Dd.len hm tv o1 hdd hone
 rw [o3, List.length_map] at hlen
 refine ⟨hdv, by have := hP.2.2; omega, fun i hi => ⟨fun h0 e => ?_, fun e => ?_⟩⟩
 · obtain ⟨k, hk⟩ := hdd
   have h3 := vl_mul (p := p) (t := co xs i) hk
   rw [h0, Int.mul_zero, Int.zero_emod] at h3
   obtain ⟨j, hj, hji⟩ := List.mem_map.1 ((zl_root hm (hx.co hp i) hoE).1 h3)
   obtain ⟨hj1, hj2⟩ := offp_mem.1 hj
   have : j = i := nodup_inj hn hj1 hi (by rw [<- co_at hj1, <- co_at hi]; exact hji)
   rw [this] at hj2
   exact hj2 e
 · have h3 := row_at hm hx hT hF hi
   have h4 := vl_mul (p := p) (t := co xs i) hpr.symm
   rw [h3] at h4
   apply Classical.byContradiction
   intro h0
   have h5 : ((vl p (co xs i) P - co ys i) * vl p (co xs i) B.v) % p = 0 := by rw [Int.sub_mul, Int.sub_emod, <- h4, Int.sub_self, Int.zero_emod]
   have h6 := no_div hm _ _ (by rw [(vl_el hp _ _).mod]; exact h0) h5
   have h7 := vl_el hp (co xs i) P
   have h8 : El p (co ys i) := by rw [<- hT.2.2 i hi]; exact vl_el hp _ _
   exact ne_mod h7 h8 e h6
theorem Dec.of_row {p : Int} {wd : Bool} (hm : Md p wd) {D w stop : Nat} {xs ys P T : List Int} {A B : R3} (hx : Els p xs) (hn : xs.Nodup) (h2 : stop <= xs.length) (hT : Thr p xs ys T) (hF : Fnd p stop (zl p xs) T A B) (hdv : Dv p B.x B.v P []) (l1 : P.length <= D) (l2 : B.v.length <= w + 1) : Dec p D w xs ys P := by
 have hp : 0 < p := by have := hm.bounds; omega
 obtain ⟨hv, tx, tv, _, _, _⟩ := row_ne hm hx h2 hT hF
 have hpr := hdv.rg.2.2.2
 rw [pl_add_nil] at hpr
 refine ⟨hdv.rg.1, l1, ?_⟩
 apply Classical.byContradiction
 intro hc
 have hsub := sub_places xs (fun i => decide (vl p (co xs i) P ≠ co ys i))
 refine hv (roots_zero hm ((offp p P xs ys).map (co xs)) _ (fun x hx' => hx x (hsub.subset hx')) (hsub.nodup hn) tv (by rw [List.length_map]; omega) (fun x hx' => ?_))
 obtain ⟨i, hi, rfl⟩ := List.mem_map.1 hx'
 obtain ⟨hi1, e⟩ := offp_mem.1 hi
 have h3 := row_at hm hx hT hF hi1
 have h4 := vl_mul (p := p) (t := co xs i) hpr.symm
 rw [h3] at h4
 apply Classical.byContradiction
 intro h0
 have h5 : ((vl p (co xs i) P - co ys i) * vl p (co xs i) B.v) % p = 0 := by rw [Int.sub_mul, Int.sub_emod, <- h4, Int.sub_self, Int.zero_emod]
 have h6 := no_div hm _ _ (by rw [(vl_el hp _ _).mod]; exact h0) h5
 have h7 := vl_el hp (co xs i) P
 have h8 : El p (co ys i) := by rw [<- hT.2.2 i hi1]; exact vl_el hp _ _
 exact ne_mod h7 h8 e h6
end Go.Proofs.YtjhididlcdepdaaGreat.Fld
namespace Go.Proofs.YtjhididlcdepdaaGreat.Rnk
def sm (f : Nat -> Int) : Nat -> Int
 | 0 => 0
 | n + 1 => sm f n + f n
theorem sm_congr {f g : Nat -> Int} : ∀ {n : Nat}, (∀ k, k < n -> f k = g k) -> sm f n = sm g n
 | 0, _ => rfl
 | n + 1, h => by
  show sm f n + f n = sm g n + g n
  rw [sm_congr (fun k hk => h k (by omega)), h n (by omega)]
theorem sm_add (f g : Nat -> Int) : ∀ n, sm (fun k => f k + g k) n = sm f n + sm g n
 | 0 => rfl
 | n + 1 => by
  show sm _ n + (f n + g n) = sm f n + f n + (sm g n + g n)
  rw [sm_add f g n]; omega
theorem sm_one (f : Nat -> Int) (a : Nat) (t : Int) : ∀ n, a < n -> sm (fun k => if k = a then f k + t else f k) n = sm f n + t
 | 0, h => absurd h (by omega)
 | n + 1, h => by
  show sm _ n + (if n = a then f n + t else f n) = sm f n + f n + t
  by_cases e : n = a
  · rw [if_pos e, sm_congr (g := f) (fun k hk => if_neg (by omega))]; omega
  · rw [if_neg e, sm_one f a t n (by omega)]; omega
theorem sm_dvd {p : Int} {f g : Nat -> Int} : ∀ {n : Nat}, (∀ k, k < n -> p ∣ f k - g k) -> p ∣ sm f n - sm g n
 | 0, _ => ⟨0, by simp [sm]⟩
 | n + 1, h => by
  show p ∣ sm f n + f n - (sm g n + g n)
  rw [show sm f n + f n - (sm g n + g n) = (sm f n - sm g n) + (f n - g n) by omega]
  exact Int.dvd_add (sm_dvd (fun k hk => h k (by omega))) (h n (by omega))
def Ind (p : Int) (r c : Nat) (M : Nat -> Nat -> Int) : Prop := ∀ x : Nat -> Int, (∀ m, m < c -> p ∣ sm (fun k => x k * M k m) r) -> ∀ k, k < r -> p ∣ x k
end Go.Proofs.YtjhididlcdepdaaGreat.Rnk
namespace Go.Proofs.YtjhididlcdepdaaGreat.Rnk
open Go.Proofs.YtjhididlcdepdaaGreat.Fld
def mx (l : List (List Int)) (k m : Nat) : Int := co (l.getD k []) m
theorem getD_set {α : Type} (l : List α) (d v : α) {a : Nat} (ha : a < l.length) (k : Nat) : (l.set a v).getD k d = if k = a then v else l.getD k d := by
 rw [List.getD_eq_getElem?_getD, List.getD_eq_getElem?_getD, List.getElem?_set]
 by_cases e : k = a
 · subst e; rw [if_pos rfl, if_pos rfl, if_pos ha]; rfl
 · rw [if_neg (fun h => e h.symm), if_neg e]
def swp {α : Type} (d : α) (l : List α) (a b : Nat) : List α := (l.set a (l.getD b d)).set b (l.getD a d)
theorem swp_len {α : Type} (d : α) (l : List α) (a b : Nat) : (swp d l a b).length = l.length := by unfold swp; rw [List.length_set, List.length_set]
theorem swp_at {α : Type} (d : α) (l : List α) {a b : Nat} (ha : a < l.length) (hb : b < l.length) (k : Nat) : (swp d l a b).getD k d = if k = b then l.getD a d else if k = a then l.getD b d else l.getD k d := by
 unfold swp
 rw [getD_set _ _ _ (by rw [List.length_set]; exact hb), getD_set _ _ _ ha]
theorem mod_sub (p a : Int) : p ∣ a % p - a := ⟨-(a / p), by rw [Int.mul_neg]; have := Int.mul_ediv_add_emod a p; omega⟩
theorem sm_times (c : Int) (f : Nat -> Int) : ∀ n, c * sm f n = sm (fun k => c * f k) n
 | 0 => Int.mul_zero c
 | n + 1 => by
  show c * (sm f n + f n) = sm _ n + c * f n
  rw [Int.mul_add, sm_times c f n]
theorem sm_nought : ∀ n, sm (fun _ => (0 : Int)) n = 0
 | 0 => rfl
 | n + 1 => by show sm _ n + 0 = 0; rw [sm_nought n]; rfl
theorem sm_split (f : Nat -> Int) (a : Nat) : ∀ n, sm f (a + n) = sm f a + sm (fun m => f (a + m)) n
 | 0 => (Int.add_zero _).symm
 | n + 1 => by
  show sm f (a + n) + f (a + n) = sm f a + (sm _ n + f (a + n))
  rw [sm_split f a n]; omega
structure Slv (p : Int) (T W : Nat) (X : Nat -> Nat -> Int) (i : Nat) (A : Nat -> Nat -> Int) : Prop where
 els : ∀ r m, r < T -> m < T + W -> El p (A r m)
 ind : ∀ n, n <= T -> Ind p n n A
 unit : ∀ r m, r < T -> m < i -> A r m = if r = m then 1 else 0
 sol : ∀ r w, r < T -> w < W -> p ∣ sm (fun t => A r t * X t w) T - A r (T + w)
def Sf (u : Nat) (a x : Nat -> Int) : Int := sm (fun m => a m * x m) u - a u
theorem sf_dvd {p : Int} {u : Nat} {a b x : Nat -> Int} (h : ∀ m, m <= u -> p ∣ a m - b m) : p ∣ Sf u a x - Sf u b x := by
 have h1 : p ∣ sm (fun m => a m * x m) u - sm (fun m => b m * x m) u := sm_dvd (fun m hm => by
  rw [<- Int.sub_mul]; exact Int.dvd_trans (h m (by omega)) (Int.dvd_mul_right _ _))
 have h2 := Int.dvd_sub h1 (h u (Nat.le_refl _))
 rwa [show sm (fun m => a m * x m) u - sm (fun m => b m * x m) u - (a u - b u) = Sf u a x - Sf u b x by unfold Sf; omega] at h2
theorem sf_off (u : Nat) (a b x : Nat -> Int) (c : Int) : Sf u (fun m => a m - c * b m) x = Sf u a x - c * Sf u b x := by
 unfold Sf
 have e : sm (fun m => (a m - c * b m) * x m) u = sm (fun m => a m * x m) u + sm (fun m => -c * (b m * x m)) u := by
  rw [<- sm_add]
  refine sm_congr (fun m _ => ?_)
  rw [Int.sub_mul, Int.neg_mul, Int.mul_assoc]; omega
 rw [e, <- sm_times, Int.mul_sub, Int.neg_mul]
 show _ - (a u - c * b u) = _
 omega
theorem sf_times (u : Nat) (a x : Nat -> Int) (d : Int) : Sf u (fun m => d * a m) x = d * Sf u a x := by
 unfold Sf
 rw [Int.mul_sub, sm_times]
 congr 1
 exact sm_congr (fun m _ => Int.mul_assoc _ _ _)
def Sol (p : Int) (r u : Nat) (l : List (List Int)) (x : Nat -> Int) : Prop := ∀ k, k < r -> p ∣ Sf u (mx l k) x
theorem mx_set {l : List (List Int)} {k : Nat} (hk : k < l.length) (row : List Int) (i m : Nat) : mx (l.set k row) i m = if i = k then co row m else mx l i m := by
 unfold mx; rw [getD_set _ _ _ hk]
 by_cases e : i = k
 · rw [if_pos e, if_pos e]
 · rw [if_neg e, if_neg e]
theorem mx_swp {l : List (List Int)} {a b : Nat} (ha : a < l.length) (hb : b < l.length) (k m : Nat) : mx (swp [] l a b) k m = if k = b then mx l a m else if k = a then mx l b m else mx l k m := by
 unfold mx; rw [swp_at _ _ ha hb]
 by_cases e : k = b
 · rw [if_pos e, if_pos e]
 · rw [if_neg e, if_neg e]
   by_cases e' : k = a
   · rw [if_pos e', if_pos e']
   · rw [if_neg e', if_neg e']
structure Gau (p : Int) (r u j : Nat) (ps : List Nat) (l0 l : List (List Int)) : Prop where
 len : l.length = r
 cols : ∀ k, k < r -> (l.getD k []).length = u + 1
 els : ∀ k, k < r -> Els p (l.getD k [])
 le : ps.length <= r
 low : ∀ c ∈ ps, c < j
 nd : ps.Nodup
 unit : ∀ i (h : i < ps.length) k, k < r -> mx l k ps[i] = if k = i then 1 else 0
 zero : ∀ k m, ps.length <= k -> k < r -> m < j -> mx l k m = 0
 sols : ∀ x, Sol p r u l x ↔ Sol p r u l0 x
theorem Gau.first {p : Int} {r u : Nat} {l : List (List Int)} (h1 : l.length = r) (h2 : ∀ k, k < r -> (l.getD k []).length = u + 1) (h3 : ∀ k, k < r -> Els p (l.getD k [])) : Gau p r u 0 [] l l :=
 ⟨h1, h2, h3, Nat.zero_le _, fun c hc => absurd hc List.not_mem_nil, List.nodup_nil, fun i h => absurd h (Nat.not_lt_zero _), fun _ _ _ _ h => absurd h (by omega), fun x => Iff.rfl⟩
theorem Gau.turn {p : Int} {r u j : Nat} {ps : List Nat} {l0 l : List (List Int)} (h : Gau p r u j ps l0 l) {i : Nat} (hn : ps.length <= i) (hi : i < r) : Gau p r u j ps l0 (swp [] l i ps.length) := by
 have li : i < l.length := by rw [h.len]; exact hi
 have ln : ps.length < l.length := by rw [h.len]; omega
 have at' := swp_at ([] : List Int) l li ln
 have mx' := fun k m => mx_swp (l := l) li ln k m
 refine ⟨(swp_len _ _ _ _).trans h.len, fun k hk => ?_, fun k hk => ?_, h.le, h.low, h.nd, fun a ha k hk => ?_, fun k m h1 h2 h3 => ?_, fun x => ?_⟩
 · rw [at']; split
   · exact h.cols _ hi
   · split
     · exact h.cols _ (by omega)
     · exact h.cols _ hk
 · rw [at']; split
   · exact h.els _ hi
   · split
     · exact h.els _ (by omega)
     · exact h.els _ hk
 · rw [mx']
   by_cases e : k = ps.length
   · rw [if_pos e, h.unit a ha i hi, if_neg (by omega), if_neg (by omega)]
   · rw [if_neg e]
     by_cases e' : k = i
     · rw [if_pos e', h.unit a ha ps.length (by omega), if_neg (by omega), if_neg (by omega)]
     · rw [if_neg e']; exact h.unit a ha k hk
 · rw [mx']; split
   · exact h.zero _ m hn hi h3
   · split
     · exact h.zero _ m (Nat.le_refl _) (by omega) h3
     · exact h.zero _ m h1 h2 h3
 · rw [<- h.sols x]
   have f1 : ∀ k, k ≠ ps.length -> k ≠ i -> mx (swp [] l i ps.length) k = mx l k := fun k g1 g2 => funext fun m => by rw [mx', if_neg g1, if_neg g2]
   have f2 : mx (swp [] l i ps.length) ps.length = mx l i := funext fun m => by rw [mx', if_pos rfl]
   have f3 : mx (swp [] l i ps.length) i = mx l ps.length := funext fun m => by
    rw [mx']
    by_cases e : i = ps.length
    · rw [if_pos e]; rw [<- e]
    · rw [if_neg e, if_pos rfl]
   constructor
   · intro hs k hk
     by_cases e : k = ps.length
     · have := hs i hi; rw [f3] at this; rw [e]; exact this
     · by_cases e' : k = i
       · have := hs ps.length (by omega); rw [f2] at this; rw [e']; exact this
       · have := hs k hk; rwa [f1 k e e'] at this
   · intro hs k hk
     by_cases e : k = ps.length
     · rw [e, f2]; exact hs i hi
     · by_cases e' : k = i
       · rw [e', f3]; exact hs ps.length (by omega)
       · rw [f1 k e e']; exact hs k hk
theorem Gau.row {p : Int} {r u j : Nat} {ps : List Nat} {l0 l : List (List Int)} (h : Gau p r u j ps l0 l) {k : Nat} (hk : k < r) {row : List Int} (h1 : row.length = u + 1) (h2 : Els p row) (h3 : ∀ i (hi : i < ps.length), co row ps[i] = mx l k ps[i]) (h4 : ps.length <= k -> ∀ m, m < j -> co row m = 0) (h5 : ∀ x, Sol p r u (l.set k row) x ↔ Sol p r u l x) : Gau p r u j ps l0 (l.set k row) := by
 have lk : k < l.length := by rw [h.len]; exact hk
 refine ⟨(List.length_set ..).trans h.len, fun i hi => ?_, fun i hi => ?_, h.le, h.low, h.nd, fun i hi a ha => ?_, fun i m g1 g2 g3 => ?_, fun x => (h5 x).trans (h.sols x)⟩
 · rw [getD_set _ _ _ lk]; split
   · exact h1
   · exact h.cols _ hi
 · rw [getD_set _ _ _ lk]; split
   · exact h2
   · exact h.els _ hi
 · rw [mx_set lk]
   by_cases e : a = k
   · rw [if_pos e, h3 i hi, h.unit i hi k hk, e]
   · rw [if_neg e]; exact h.unit i hi a ha
 · rw [mx_set lk]
   by_cases e : i = k
   · rw [if_pos e]; exact h4 (by omega) m g3
   · rw [if_neg e]; exact h.zero i m g1 g2 g3
theorem els_co {p : Int} {row : List Int} (h : ∀ m, m < row.length -> El p (co row m)) : Els p row := fun x hx => by
 obtain ⟨m, hm, rfl⟩ := List.mem_iff_getElem.1 hx
 have := h m hm
 rwa [co_at hm] at this
theorem low_lt {p : Int} {r u j : Nat} {ps : List Nat} {l0 l : List (List Int)} (h : Gau p r u j ps l0 l) {i : Nat} (hi : i < ps.length) : ps[i] < j := h.low _ (List.getElem_mem hi)
theorem Gau.one {p : Int} (hp : 0 < p) {r u j : Nat} {ps : List Nat} {l0 l : List (List Int)} (h : Gau p r u j ps l0 l) (hj : j <= u) (hn : ps.length < r) {y d : Int} (hd : p ∣ y * d - 1) {row : List Int} (h1 : row.length = u + 1) (h2 : ∀ m, m <= u -> co row m = mul p (mx l ps.length m) d) : Gau p r u j ps l0 (l.set ps.length row) := by
 have lk : ps.length < l.length := by rw [h.len]; exact hn
 refine h.row hn h1 (els_co (fun m hm => by rw [h2 m (by omega)]; exact mul_el hp)) (fun i hi => ?_) (fun _ m hm => ?_) (fun x => ?_)
 · have := low_lt h hi
   rw [h2 _ (by omega), h.unit i hi _ hn, if_neg (by omega)]; unfold mul; simp
 · rw [h2 m (by omega), h.zero _ m (Nat.le_refl _) hn hm]; unfold mul; simp
 · have f1 : ∀ k, k ≠ ps.length -> mx (l.set ps.length row) k = mx l k := fun k hk => funext fun m => by rw [mx_set lk, if_neg hk]
   have f2 : p ∣ Sf u (mx (l.set ps.length row) ps.length) x - d * Sf u (mx l ps.length) x := by
    rw [<- sf_times]
    refine sf_dvd (fun m hm => ?_)
    rw [mx_set lk, if_pos rfl, h2 m hm, Int.mul_comm d]
    exact mod_sub p _
   constructor
   · intro hs k hk
     by_cases e : k = ps.length
     · have g1 := hs _ hn
       have g2 : p ∣ d * Sf u (mx l ps.length) x := (Int.dvd_iff_dvd_of_dvd_sub f2).1 g1
       have g3 : p ∣ y * (d * Sf u (mx l ps.length) x) := Int.dvd_trans g2 (Int.dvd_mul_left _ _)
       have g4 : p ∣ (y * d - 1) * Sf u (mx l ps.length) x := Int.dvd_trans hd (Int.dvd_mul_right _ _)
       rw [Int.sub_mul, Int.one_mul, Int.mul_assoc] at g4
       rw [e]; exact (Int.dvd_iff_dvd_of_dvd_sub g4).1 g3
     · have := hs k hk; rwa [f1 k e] at this
   · intro hs k hk
     by_cases e : k = ps.length
     · rw [e]; exact (Int.dvd_iff_dvd_of_dvd_sub f2).2 (Int.dvd_trans (hs _ hn) (Int.dvd_mul_left _ _))
     · rw [f1 k e]; exact hs k hk
theorem Gau.off {p : Int} (hp : 0 < p) {r u j : Nat} {ps : List Nat} {l0 l : List (List Int)} (h : Gau p r u j ps l0 l) (hj : j <= u) (hn : ps.length < r) {k : Nat} (hk : k < r) (hne : k ≠ ps.length) {c : Int} {row : List Int} (h1 : row.length = u + 1) (h2 : ∀ m, m <= u -> co row m = sub p (mx l k m) (mul p c (mx l ps.length m))) : Gau p r u j ps l0 (l.set k row) := by
 have lk : k < l.length := by rw [h.len]; exact hk
 have same : ∀ m, m <= u -> mx l ps.length m = 0 -> co row m = mx l k m := fun m hm h0 => by
  rw [h2 m hm, h0]
  have he : El p (mx l k m) := (h.els k hk).co hp m
  unfold sub mul; rw [Int.mul_zero, Int.zero_emod, Int.sub_zero]; exact Int.emod_eq_of_lt he.1 he.2
 refine h.row hk h1 (els_co (fun m hm => by rw [h2 m (by omega)]; exact sub_el hp)) (fun i hi => ?_) (fun hge m hm => ?_) (fun x => ?_)
 · have := low_lt h hi
   exact same _ (by omega) (by rw [h.unit i hi _ hn, if_neg (by omega)])
 · rw [same m (by omega) (h.zero _ m (Nat.le_refl _) hn hm)]; exact h.zero k m hge hk hm
 · have f1 : ∀ i, i ≠ k -> mx (l.set k row) i = mx l i := fun i hi => funext fun m => by rw [mx_set lk, if_neg hi]
   have f2 : p ∣ Sf u (mx (l.set k row) k) x - (Sf u (mx l k) x - c * Sf u (mx l ps.length) x) := by
    rw [<- sf_off]
    refine sf_dvd (fun m hm => ?_)
    rw [mx_set lk, if_pos rfl, h2 m hm]
    unfold sub mul
    have e1 := mod_sub p (mx l k m - c * mx l ps.length m % p)
    have e2 := mod_sub p (c * mx l ps.length m)
    have e3 := Int.dvd_sub e1 e2
    rwa [show (mx l k m - c * mx l ps.length m % p) % p - (mx l k m - c * mx l ps.length m % p) - (c * mx l ps.length m % p - c * mx l ps.length m) = (mx l k m - c * mx l ps.length m % p) % p - (mx l k m - c * mx l ps.length m) by omega] at e3
   constructor
   · intro hs i hi
     have g0 := hs _ hn
     rw [f1 _ (fun e => hne e.symm)] at g0
     by_cases e : i = k
     · have g1 := (Int.dvd_iff_dvd_of_dvd_sub f2).1 (hs k hk)
       have g2 := Int.dvd_add g1 (Int.dvd_trans g0 (Int.dvd_mul_left c _))
       rw [Int.sub_add_cancel] at g2
       rw [e]; exact g2
     · have := hs i hi; rwa [f1 i e] at this
   · intro hs i hi
     by_cases e : i = k
     · rw [e]; exact (Int.dvd_iff_dvd_of_dvd_sub f2).2 (Int.dvd_sub (hs k hk) (Int.dvd_trans (hs _ hn) (Int.dvd_mul_left c _)))
     · rw [f1 i e]; exact hs i hi
theorem Gau.found {p : Int} {r u j : Nat} {ps : List Nat} {l0 l : List (List Int)} (h : Gau p r u j ps l0 l) (hn : ps.length < r) (h0 : ∀ k, k < r -> mx l k j = if k = ps.length then 1 else 0) : Gau p r u (j + 1) (ps ++ [j]) l0 l := by
 refine ⟨h.len, h.cols, h.els, by rw [List.length_append, List.length_singleton]; exact hn, fun c hc => ?_, ?_, fun i hi k hk => ?_, fun k m g1 g2 g3 => ?_, h.sols⟩
 · rcases List.mem_append.1 hc with e | e
   · have := h.low c e; omega
   · rw [List.mem_singleton.1 e]; omega
 · refine List.nodup_append.2 ⟨h.nd, by simp, fun a ha b hb => ?_⟩
   have := h.low a ha
   rw [List.mem_singleton.1 hb]; omega
 · by_cases e : i < ps.length
   · rw [List.getElem_append_left e]; exact h.unit i e k hk
   · have hi' : i = ps.length := by rw [List.length_append, List.length_singleton] at hi; omega
     subst hi'
     rw [List.getElem_append_right (Nat.le_refl _)]
     simp only [Nat.sub_self, List.getElem_singleton]
     exact h0 k hk
 · rw [List.length_append, List.length_singleton] at g1
   by_cases e : m = j
   · rw [e, h0 k g2, if_neg (by omega)]
   · exact h.zero k m (by omega) g2 (by omega)
theorem Gau.none {p : Int} {r u j : Nat} {ps : List Nat} {l0 l : List (List Int)} (h : Gau p r u j ps l0 l) (h0 : ∀ k, ps.length <= k -> k < r -> mx l k j = 0) : Gau p r u (j + 1) ps l0 l :=
 ⟨h.len, h.cols, h.els, h.le, fun c hc => by have := h.low c hc; omega, h.nd, h.unit, fun k m g1 g2 g3 => by
  by_cases e : m = j
  · rw [e]; exact h0 k g1 g2
  · exact h.zero k m g1 g2 (by omega), h.sols⟩
theorem sf_zero {p : Int} {u : Nat} {a x : Nat -> Int} (h : ∀ m, m < u -> a m = 0) : Sf u a x = - a u := by
 unfold Sf
 rw [sm_congr (g := fun _ => (0 : Int)) (fun m hm => by rw [h m hm, Int.zero_mul]), sm_nought]; omega
theorem Gau.no {p : Int} (hp : 0 < p) {r u : Nat} {ps : List Nat} {l0 l : List (List Int)} (h : Gau p r u u ps l0 l) {i : Nat} (h1 : ps.length <= i) (h2 : i < r) (h3 : mx l i u ≠ 0) (x : Nat -> Int) : ¬ Sol p r u l0 x := fun hs => by
 have := (h.sols x).2 hs i h2
 rw [sf_zero (p := p) (fun m hm => h.zero i m h1 h2 hm)] at this
 have h4 : p ∣ mx l i u := Int.dvd_neg.1 this
 have he : El p (mx l i u) := (h.els i h2).co hp u
 have g1 := he.1; have g2 := he.2
 have := Int.le_of_dvd (by omega) h4
 omega
theorem Gau.yes {p : Int} {r u : Nat} {ps : List Nat} {l0 l : List (List Int)} (h : Gau p r u (u + 1) ps l0 l) (hu : ∀ c ∈ ps, c < u) {x : Nat -> Int} (h1 : ∀ i (hi : i < ps.length), x ps[i] = mx l i u) (h2 : ∀ m, m < u -> m ∉ ps -> x m = 0) : Sol p r u l0 x := by
 refine (h.sols x).1 (fun k hk => ?_)
 by_cases e : k < ps.length
 · have hc := hu _ (List.getElem_mem e)
   have e1 : sm (fun m => mx l k m * x m) u = mx l k u := by
    have e2 := sm_one (fun _ => (0 : Int)) ps[k] (mx l k u) u hc
    rw [sm_nought, Int.zero_add] at e2
    rw [<- e2]
    refine sm_congr (fun m hm => ?_)
    by_cases c : m = ps[k]
    · rw [if_pos c, c, h.unit k e k hk, if_pos rfl, Int.one_mul, h1 k e]
    · rw [if_neg c]
      by_cases c2 : m ∈ ps
      · obtain ⟨i, hi, rfl⟩ := List.mem_iff_getElem.1 c2
        rw [h.unit i hi k hk, if_neg (fun e' => c (by subst e'; rfl)), Int.zero_mul]
      · rw [h2 m hm c2, Int.mul_zero]
   unfold Sf
   rw [e1, Int.sub_self]; exact ⟨0, by simp⟩
 · rw [sf_zero (p := p) (fun m hm => h.zero k m (by omega) hk (by omega)), h.zero k u (by omega) hk (by omega)]; exact ⟨0, by simp⟩
theorem ev_sm (t : Int) (F : Nat -> Int) : ∀ n, ev t n F = sm (fun k => F k * t ^ k) n
 | 0 => rfl
 | n + 1 => by rw [ev_snoc, ev_sm t F n]; rfl
def wrow (p : Int) (n w : Nat) (x y : Int) (m : Nat) : Int := if m < n then px p x m else if m < n + w then sub p 0 (mul p y (px p x (m - n))) else mul p y (px p x w)
def wraw (n w : Nat) (x y : Int) (m : Nat) : Int := if m < n then x ^ m else if m < n + w then -(y * x ^ (m - n)) else y * x ^ w
theorem times_dvd (p y z : Int) : p ∣ (y * (z % p)) % p - y * z := by
 have h1 := mod_sub p (y * (z % p))
 have h2 : p ∣ y * (z % p) - y * z := by rw [<- Int.mul_sub]; exact Int.dvd_trans (mod_sub p z) (Int.dvd_mul_left _ _)
 have := Int.dvd_add h1 h2
 rwa [show (y * (z % p)) % p - y * (z % p) + (y * (z % p) - y * z) = (y * (z % p)) % p - y * z by omega] at this
theorem wrow_raw (p : Int) (n w : Nat) (x y : Int) (m : Nat) : p ∣ wrow p n w x y m - wraw n w x y m := by
 unfold wrow wraw
 by_cases h1 : m < n
 · rw [if_pos h1, if_pos h1]; exact mod_sub p _
 · rw [if_neg h1, if_neg h1]
   by_cases h2 : m < n + w
   · rw [if_pos h2, if_pos h2]
     unfold sub mul px
     have e1 := mod_sub p (0 - (y * (x ^ (m - n) % p)) % p)
     have e2 := times_dvd p y (x ^ (m - n))
     have := Int.dvd_sub e1 e2
     rwa [show (0 - (y * (x ^ (m - n) % p)) % p) % p - (0 - (y * (x ^ (m - n) % p)) % p) - ((y * (x ^ (m - n) % p)) % p - y * x ^ (m - n)) = (0 - (y * (x ^ (m - n) % p)) % p) % p - -(y * x ^ (m - n)) by omega] at this
   · rw [if_neg h2, if_neg h2]; exact times_dvd p y _
def aq (n : Nat) (X : Nat -> Int) : List Int := mk n X
def al (n w : Nat) (X : Nat -> Int) : List Int := mk w (fun k => X (n + k)) ++ [1]
theorem al_len (n w : Nat) (X : Nat -> Int) : (al n w X).length = w + 1 := by unfold al; rw [List.length_append, mk_len]; rfl
theorem al_co (n w : Nat) (X : Nat -> Int) (k : Nat) (hk : k <= w) : co (al n w X) k = if k < w then X (n + k) else 1 := by
 have e : al n w X = mk (w + 1) (fun k => if k < w then X (n + k) else 1) := by
  rw [<- mk_snoc]
  unfold al mk
  rw [if_neg (Nat.lt_irrefl w)]
  congr 1
  exact List.map_congr_left (fun k hk => by rw [if_pos (List.mem_range.1 hk)])
 rw [e, co_mk, if_pos (by omega)]
theorem raw_sf (n w : Nat) (x y : Int) (X : Nat -> Int) : Sf (n + w) (wraw n w x y) X = ev x n (co (aq n X)) - y * ev x (w + 1) (co (al n w X)) := by
 have e0 : wraw n w x y (n + w) = y * x ^ w := by unfold wraw; rw [if_neg (by omega), if_neg (by omega)]
 have e1 : sm (fun m => wraw n w x y m * X m) n = ev x n (co (aq n X)) := by
  rw [ev_sm]
  refine sm_congr (fun m hm => ?_)
  unfold wraw aq; rw [if_pos hm, co_mk, if_pos hm, Int.mul_comm]
 have e2 : sm (fun m => wraw n w x y (n + m) * X (n + m)) w = -(y * ev x w (co (al n w X))) := by
  rw [ev_sm, <- Int.neg_mul, sm_times]
  refine sm_congr (fun m hm => ?_)
  unfold wraw
  rw [if_neg (by omega), if_pos (by omega), al_co n w X m (by omega), if_pos hm, Nat.add_sub_cancel_left, Int.neg_mul, Int.neg_mul, Int.mul_assoc, Int.mul_comm (x ^ m)]
 unfold Sf
 rw [sm_split, e0, e1, e2, ev_snoc, al_co n w X w (Nat.le_refl _), if_neg (Nat.lt_irrefl w), Int.one_mul, Int.mul_add]
 omega
theorem eq_dvd (p a b : Int) : a % p = b % p ↔ p ∣ a - b := by
 rw [Int.emod_eq_emod_iff_emod_sub_eq_zero]; exact ⟨Int.dvd_of_emod_eq_zero, Int.emod_eq_zero_of_dvd⟩
theorem row_sol {p : Int} (n w : Nat) (x y : Int) (X : Nat -> Int) : p ∣ Sf (n + w) (wrow p n w x y) X ↔ vl p x (aq n X) = (y * vl p x (al n w X)) % p := by
 have h1 : p ∣ Sf (n + w) (wrow p n w x y) X - Sf (n + w) (wraw n w x y) X := sf_dvd (fun m _ => wrow_raw p n w x y m)
 rw [Int.dvd_iff_dvd_of_dvd_sub h1, raw_sf]
 unfold vl
 rw [al_len, show (aq n X).length = n from mk_len _ _]
 have h2 : (y * (ev x (w + 1) (co (al n w X)) % p)) % p = (y * ev x (w + 1) (co (al n w X))) % p := (eq_dvd p _ _).2 (by rw [<- Int.mul_sub]; exact Int.dvd_trans (mod_sub p _) (Int.dvd_mul_left _ _))
 rw [h2]; exact (eq_dvd p _ _).symm
theorem rows_sol {p : Int} {r n w : Nat} {xs ys : List Int} {l : List (List Int)} (hr : r = xs.length) (hl : ∀ k m, k < r -> m <= n + w -> mx l k m = wrow p n w (co xs k) (co ys k) m) (X : Nat -> Int) : Sol p r (n + w) l X ↔ ∀ i, i < xs.length -> vl p (co xs i) (aq n X) = (co ys i * vl p (co xs i) (al n w X)) % p := by
 have e : ∀ k, k < r -> (p ∣ Sf (n + w) (mx l k) X ↔ p ∣ Sf (n + w) (wrow p n w (co xs k) (co ys k)) X) := fun k hk => by
  have : p ∣ Sf (n + w) (mx l k) X - Sf (n + w) (wrow p n w (co xs k) (co ys k)) X := sf_dvd (fun m hm => by rw [hl k m hk hm, Int.sub_self]; exact ⟨0, by simp⟩)
  exact Int.dvd_iff_dvd_of_dvd_sub this
 subst hr
 exact ⟨fun h i hi => (row_sol n w _ _ X).1 ((e i hi).1 (h i hi)), fun h i hi => (e i hi).2 ((row_sol n w _ _ X).2 (h i hi))⟩
theorem al_tr {p : Int} (n w : Nat) (X : Nat -> Int) : tr (al n w X) ≠ [] := by
 have : tr (al n w X) = al n w X := tr_full (.inr (by
  rw [al_len, Nat.add_sub_cancel, al_co n w X w (Nat.le_refl _), if_neg (Nat.lt_irrefl w)]; decide))
 rw [this]; intro e; have := al_len n w X; rw [e] at this; cases this
theorem welch_some {p : Int} {wd : Bool} (hm : Md p wd) {D w r : Nat} {xs ys P : List Int} {l : List (List Int)} (hx : Els p xs) (hr : r = xs.length) (hl : ∀ k m, k < r -> m <= D + w + w -> mx l k m = wrow p (D + w) w (co xs k) (co ys k) m) (hP : Dec p D w xs ys P) : ∃ X, Sol p r (D + w + w) l X := by
 obtain ⟨Q, L, _, _, h3, h4, h5, h6⟩ := Dec.some hm hx hP
 refine ⟨fun m => if m < D + w then co Q m else co L (m - (D + w)), (rows_sol hr hl _).2 (fun i hi => ?_)⟩
 have eL : al (D + w) w (fun m => if m < D + w then co Q m else co L (m - (D + w))) = L := ext_co (by rw [al_len, h4]) (fun k hk => by
  rw [al_len] at hk
  rw [al_co _ _ _ k (by omega)]
  by_cases c : k < w
  · rw [if_pos c, if_neg (by omega), Nat.add_sub_cancel_left]
  · rw [if_neg c, show k = w by omega, h5])
 have eQ : vl p (co xs i) (aq (D + w) (fun m => if m < D + w then co Q m else co L (m - (D + w)))) = vl p (co xs i) Q := vl_pl (pu_eq (fun k => by
  unfold aq; rw [co_mk]
  by_cases c : k < D + w
  · rw [if_pos c, if_pos c]
  · rw [if_neg c, co_out _ _ (by omega)]))
 rw [eL, eQ]; exact h6 i hi
theorem welch_only {p : Int} {wd : Bool} (hm : Md p wd) {D w r : Nat} {xs ys P : List Int} {l : List (List Int)} (hx : Els p xs) (hn : xs.Nodup) (hr : r = xs.length) (hl : ∀ k m, k < r -> m <= D + w + w -> mx l k m = wrow p (D + w) w (co xs k) (co ys k) m) (hd : D + 2 * w <= xs.length) (hP : Dec p D w xs ys P) {X : Nat -> Int} (hX : Sol p r (D + w + w) l X) : Dv p (aq (D + w) X) (al (D + w) w X) P [] :=
 key_dv hm hx hn hP.1 (al_tr (p := p) _ _ _) hP.2.2 (by unfold aq; rw [mk_len]; omega) (.inr (.inr (by rw [al_len]; have := hP.2.1; omega))) ((rows_sol hr hl X).1 hX)
end Go.Proofs.YtjhididlcdepdaaGreat.Rnk
