/-
  Products of a list but for one of its elements; inverses by one inverse; the document's walks over all places but one. Plain arithmetic.
-/
import Derived.Test.YtpbfgcepmbpkdaaGreatBIntA
namespace Go.Proofs.YtpbfgcepmbpkdaaGreat.Fld
set_option linter.unusedVariables false

/-- The product of a list. -/
def pd (p : Int) : List Int → Int
  | [] => 1
  | x :: l => mul p x (pd p l)
theorem pd_el {p : Int} {wd : Bool} (hm : Md p wd) (l : List Int) : El p (pd p l) := by
  have hb := hm.bounds
  cases l with
  | nil => exact ⟨by show (0 : Int) ≤ 1; decide, by show (1 : Int) < p; omega⟩
  | cons x l => exact mul_el (by omega)
theorem one_mul_el {p a : Int} (ha : El p a) : mul p 1 a = a := by rw [ring_comm]; exact mul_one_el ha
theorem pd_append {p : Int} {wd : Bool} (hm : Md p wd) (l m : List Int) : pd p (l ++ m) = mul p (pd p l) (pd p m) := by
  induction l with
  | nil => exact (one_mul_el (pd_el hm m)).symm
  | cons x l ih => show mul p x (pd p (l ++ m)) = mul p (mul p x (pd p l)) (pd p m); rw [ih, ring_assoc]
theorem pd_one {p x : Int} (hx : El p x) : pd p [x] = x := mul_one_el hx
theorem pd_snoc {p x : Int} {wd : Bool} (hm : Md p wd) (l : List Int) (hx : El p x) : pd p (l ++ [x]) = mul p (pd p l) x := by rw [pd_append hm, pd_one hx]
/-- All but the one at a place. -/
def ot (p : Int) (l : List Int) (i : Nat) : Int := mul p (pd p (l.take i)) (pd p (l.drop (i + 1)))
theorem ot_el {p : Int} (hp : 0 < p) (l : List Int) (i : Nat) : El p (ot p l i) := mul_el hp
theorem ot_erase {p : Int} {wd : Bool} (hm : Md p wd) (l : List Int) (i : Nat) : ot p l i = pd p (l.eraseIdx i) := by
  rw [List.eraseIdx_eq_take_drop_succ, pd_append hm]; rfl
theorem pd_ahead {p : Int} {wd : Bool} (hm : Md p wd) {l : List Int} (hl : Els p l) {i : Nat} (hi : i < l.length) : pd p (l.take (i + 1)) = mul p (pd p (l.take i)) (co l i) := by
  have he : El p (co l i) := hl.co (by have := hm.bounds; omega) i
  rw [List.take_succ_eq_append_getElem hi, pd_snoc hm _ (by rw [← co_at hi]; exact he), co_at hi]
theorem pd_behind {p : Int} {wd : Bool} (hm : Md p wd) {l : List Int} {i : Nat} (hi : i < l.length) : pd p (l.drop i) = mul p (pd p (l.drop (i + 1))) (co l i) := by
  rw [List.drop_eq_getElem_cons hi, co_at hi, ring_comm]; rfl
theorem ot_whole {p : Int} {wd : Bool} (hm : Md p wd) {l : List Int} (hl : Els p l) {i : Nat} (hi : i < l.length) : mul p (co l i) (ot p l i) = pd p l := by
  have e : pd p l = mul p (pd p (l.take i)) (pd p (l.drop i)) := by rw [← pd_append hm, List.take_append_drop]
  rw [e, pd_behind hm hi]
  unfold ot
  rw [← ring_assoc, ring_comm p (co l i), ring_assoc, ring_comm p (co l i)]
theorem pd_un {p : Int} {wd : Bool} (hm : Md p wd) (l : List Int) (h : ∀ x ∈ l, Un p x) : Un p (pd p l) := by
  have hb := hm.bounds
  induction l with
  | nil => exact ⟨pd_el hm [], by show (1 : Int) ≠ 0; decide⟩
  | cons x l ih => exact Un.mul hm (h x List.mem_cons_self) (ih (fun y hy => h y (List.mem_cons_of_mem _ hy)))
/-- One inverse serves all. -/
theorem ot_inv {p : Int} {wd : Bool} (hm : Md p wd) {l : List Int} (h : ∀ x ∈ l, Un p x) {i : Nat} (hi : i < l.length) : mul p (inv p (pd p l)) (ot p l i) = inv p (co l i) := by
  have hb := hm.bounds
  have hu : Un p (co l i) := by rw [co_at hi]; exact h _ (List.getElem_mem hi)
  have hw := pd_un hm l h
  refine inv_eq hm hu (mul_el (by omega)) ?_
  rw [ring_comm p (inv p (pd p l)), ← ring_assoc, ot_whole hm (fun x hx => (h x hx).1) hi]
  exact mul_inv hm _ hw.1 hw.2

/-- The product of differences, as one of a list. -/
theorem dp_pd {p x : Int} {wd : Bool} (hm : Md p wd) (zs : List Int) : dp p x zs = pd p (zs.map (fun z => sub p x z)) := by
  induction zs with
  | nil => exact dp_nil hm x
  | cons z zs ih => rw [dp_cons hm, ih]; rfl
theorem map_erase (g : Int → Int) (xs : List Int) (i : Nat) : (xs.map g).eraseIdx i = (xs.eraseIdx i).map g := by
  rw [List.eraseIdx_eq_take_drop_succ, List.eraseIdx_eq_take_drop_succ, List.map_append, List.map_take, List.map_drop]
theorem ot_diff {p x : Int} {wd : Bool} (hm : Md p wd) (xs : List Int) (i : Nat) : ot p (xs.map (fun z => sub p x z)) i = dp p x (xs.eraseIdx i) := by
  rw [ot_erase hm, map_erase, dp_pd hm]

/-- The list of the weights, and of a basis. -/
def wts (p : Int) (xs : List Int) : List Int := mk xs.length (wt p xs)
def bsl (p : Int) (xs : List Int) (x : Int) : List Int := mk xs.length (bs p xs x)
theorem wts_len (p : Int) (xs : List Int) : (wts p xs).length = xs.length := mk_len _ _
theorem bsl_len (p : Int) (xs : List Int) (x : Int) : (bsl p xs x).length = xs.length := mk_len _ _
theorem wt_el {p : Int} (hp : 0 < p) (xs : List Int) (i : Nat) : El p (wt p xs i) := pow_el hp
theorem wts_els {p : Int} (hp : 0 < p) (xs : List Int) : Els p (wts p xs) := Els.mk _ (fun i _ => wt_el hp xs i)
theorem bsl_els {p : Int} (hp : 0 < p) (xs : List Int) (x : Int) : Els p (bsl p xs x) := Els.mk _ (fun i _ => bs_el hp xs x i)
theorem wts_at {p : Int} {xs : List Int} {i : Nat} (hi : i < xs.length) : co (wts p xs) i = wt p xs i := by unfold wts; rw [co_mk, if_pos hi]
theorem bsl_at {p : Int} {xs : List Int} {x : Int} {i : Nat} (hi : i < xs.length) : co (bsl p xs x) i = bs p xs x i := by unfold bsl; rw [co_mk, if_pos hi]

/-- All places but one, up to a place. -/
def bt (xs : List Int) (i k : Nat) : List Int := (xs.take k).eraseIdx i
theorem bt_zero (xs : List Int) (i : Nat) : bt xs i 0 = [] := by unfold bt; rw [List.take_zero]; rfl
theorem bt_self {xs : List Int} {i : Nat} (hi : i < xs.length) : bt xs i (i + 1) = bt xs i i := by
  unfold bt
  have h1 : (xs.take i).length = i := by rw [List.length_take]; omega
  rw [List.take_succ_eq_append_getElem hi, List.eraseIdx_append_of_length_le (by omega), h1, Nat.sub_self, List.eraseIdx_of_length_le (l := xs.take i) (by omega)]
  simp
theorem bt_step {xs : List Int} {i k : Nat} (hk : k < xs.length) (h : k ≠ i) : bt xs i (k + 1) = bt xs i k ++ [co xs k] := by
  unfold bt
  have h1 : (xs.take k).length = k := by rw [List.length_take]; omega
  rw [List.take_succ_eq_append_getElem hk, co_at hk]
  by_cases hlt : i < k
  · rw [List.eraseIdx_append_of_lt_length (by omega)]
  · rw [List.eraseIdx_append_of_length_le (by omega), List.eraseIdx_of_length_le (l := xs.take k) (by omega), List.eraseIdx_of_length_le (by simp; omega)]
theorem bt_all (xs : List Int) (i : Nat) : bt xs i xs.length = xs.eraseIdx i := by unfold bt; rw [List.take_length]

end Go.Proofs.YtpbfgcepmbpkdaaGreat.Fld
