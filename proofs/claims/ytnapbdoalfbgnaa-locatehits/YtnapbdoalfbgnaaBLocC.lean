import Derived.Test.YtnapbdoalfbgnaaBIntA
import Derived.Test.YtnapbdoalfbgnaaBunAB
set_option linter.unusedVariables false
set_option linter.unusedSimpArgs false
set_option maxRecDepth 100000
set_option maxHeartbeats 4000000
namespace Go.Proofs.Ytnapbdoalfbgnaa.Rnk
open Go.Proofs.Ytnapbdoalfbgnaa.Fld
theorem ev_sm (t : Int) (F : Nat → Int) : ∀ n, ev t n F = sm (fun k => F k * t ^ k) n
 | 0 => rfl
 | n + 1 => by rw [ev_snoc, ev_sm t F n]; rfl
def wrow (p : Int) (n w : Nat) (x y : Int) (m : Nat) : Int := if m < n then px p x m else if m < n + w then sub p 0 (mul p y (px p x (m - n))) else mul p y (px p x w)
def wraw (n w : Nat) (x y : Int) (m : Nat) : Int := if m < n then x ^ m else if m < n + w then -(y * x ^ (m - n)) else y * x ^ w
theorem times_dvd (p y z : Int) : p ∣ (y * (z % p)) % p - y * z := by
 have h1 := mod_sub p (y * (z % p))
 have h2 : p ∣ y * (z % p) - y * z := by rw [← Int.mul_sub]; exact Int.dvd_trans (mod_sub p z) (Int.dvd_mul_left _ _)
 have := Int.dvd_add h1 h2
 rwa [show (y * (z % p)) % p - y * (z % p) + (y * (z % p) - y * z) = (y * (z % p)) % p - y * z by omega] at this
theorem wrow_raw (p : Int) (n w : Nat) (x y : Int) (m : Nat) : p ∣ wrow p n w x y m - wraw n w x y m := by
 unfold wrow wraw
 by_cases h1 : m < n
 · rw [if_pos h1, if_pos h1]; exact mod_sub p _
 · rw [if_neg h1, if_neg h1]
   by_cases h2 : m < n + w
   · rw [if_pos h2, if_pos h2]
     unfold sub mul px
     have e1 := mod_sub p (0 - (y * (x ^ (m - n) % p)) % p)
     have e2 := times_dvd p y (x ^ (m - n))
     have := Int.dvd_sub e1 e2
     rwa [show (0 - (y * (x ^ (m - n) % p)) % p) % p - (0 - (y * (x ^ (m - n) % p)) % p) - ((y * (x ^ (m - n) % p)) % p - y * x ^ (m - n)) = (0 - (y * (x ^ (m - n) % p)) % p) % p - -(y * x ^ (m - n)) by omega] at this
   · rw [if_neg h2, if_neg h2]; exact times_dvd p y _
def aq (n : Nat) (X : Nat → Int) : List Int := mk n X
def al (n w : Nat) (X : Nat → Int) : List Int := mk w (fun k => X (n + k)) ++ [1]
theorem al_len (n w : Nat) (X : Nat → Int) : (al n w X).length = w + 1 := by unfold al; rw [List.length_append, mk_len]; rfl
theorem al_co (n w : Nat) (X : Nat → Int) (k : Nat) (hk : k ≤ w) : co (al n w X) k = if k < w then X (n + k) else 1 := by
 have e : al n w X = mk (w + 1) (fun k => if k < w then X (n + k) else 1) := by
  rw [← mk_snoc]
  unfold al mk
  rw [if_neg (Nat.lt_irrefl w)]
  congr 1
  exact List.map_congr_left (fun k hk => by rw [if_pos (List.mem_range.1 hk)])
 rw [e, co_mk, if_pos (by omega)]
theorem raw_sf (n w : Nat) (x y : Int) (X : Nat → Int) : Sf (n + w) (wraw n w x y) X = ev x n (co (aq n X)) - y * ev x (w + 1) (co (al n w X)) := by
 have e0 : wraw n w x y (n + w) = y * x ^ w := by unfold wraw; rw [if_neg (by omega), if_neg (by omega)]
 have e1 : sm (fun m => wraw n w x y m * X m) n = ev x n (co (aq n X)) := by
  rw [ev_sm]
  refine sm_congr (fun m hm => ?_)
  unfold wraw aq; rw [if_pos hm, co_mk, if_pos hm, Int.mul_comm]
 have e2 : sm (fun m => wraw n w x y (n + m) * X (n + m)) w = -(y * ev x w (co (al n w X))) := by
  rw [ev_sm, ← Int.neg_mul, sm_times]
  refine sm_congr (fun m hm => ?_)
  unfold wraw
  rw [if_neg (by omega), if_pos (by omega), al_co n w X m (by omega), if_pos hm, Nat.add_sub_cancel_left, Int.neg_mul, Int.neg_mul, Int.mul_assoc, Int.mul_comm (x ^ m)]
 unfold Sf
 rw [sm_split, e0, e1, e2, ev_snoc, al_co n w X w (Nat.le_refl _), if_neg (Nat.lt_irrefl w), Int.one_mul, Int.mul_add]
 omega
theorem eq_dvd (p a b : Int) : a % p = b % p ↔ p ∣ a - b := by
 rw [Int.emod_eq_emod_iff_emod_sub_eq_zero]; exact ⟨Int.dvd_of_emod_eq_zero, Int.emod_eq_zero_of_dvd⟩
theorem row_sol {p : Int} (n w : Nat) (x y : Int) (X : Nat → Int) : p ∣ Sf (n + w) (wrow p n w x y) X ↔ vl p x (aq n X) = (y * vl p x (al n w X)) % p := by
 have h1 : p ∣ Sf (n + w) (wrow p n w x y) X - Sf (n + w) (wraw n w x y) X := sf_dvd (fun m _ => wrow_raw p n w x y m)
 rw [Int.dvd_iff_dvd_of_dvd_sub h1, raw_sf]
 unfold vl
 rw [al_len, show (aq n X).length = n from mk_len _ _]
 have h2 : (y * (ev x (w + 1) (co (al n w X)) % p)) % p = (y * ev x (w + 1) (co (al n w X))) % p := (eq_dvd p _ _).2 (by rw [← Int.mul_sub]; exact Int.dvd_trans (mod_sub p _) (Int.dvd_mul_left _ _))
 rw [h2]; exact (eq_dvd p _ _).symm
theorem rows_sol {p : Int} {r n w : Nat} {xs ys : List Int} {l : List (List Int)} (hr : r = xs.length) (hl : ∀ k m, k < r → m ≤ n + w → mx l k m = wrow p n w (co xs k) (co ys k) m) (X : Nat → Int) : Sol p r (n + w) l X ↔ ∀ i, i < xs.length → vl p (co xs i) (aq n X) = (co ys i * vl p (co xs i) (al n w X)) % p := by
 have e : ∀ k, k < r → (p ∣ Sf (n + w) (mx l k) X ↔ p ∣ Sf (n + w) (wrow p n w (co xs k) (co ys k)) X) := fun k hk => by
  have : p ∣ Sf (n + w) (mx l k) X - Sf (n + w) (wrow p n w (co xs k) (co ys k)) X := sf_dvd (fun m hm => by rw [hl k m hk hm, Int.sub_self]; exact ⟨0, by simp⟩)
  exact Int.dvd_iff_dvd_of_dvd_sub this
 subst hr
 exact ⟨fun h i hi => (row_sol n w _ _ X).1 ((e i hi).1 (h i hi)), fun h i hi => (e i hi).2 ((row_sol n w _ _ X).2 (h i hi))⟩
theorem al_tr {p : Int} (n w : Nat) (X : Nat → Int) : tr (al n w X) ≠ [] := by
 have : tr (al n w X) = al n w X := tr_full (.inr (by
  rw [al_len, Nat.add_sub_cancel, al_co n w X w (Nat.le_refl _), if_neg (Nat.lt_irrefl w)]; decide))
 rw [this]; intro e; have := al_len n w X; rw [e] at this; cases this
theorem welch_some {p : Int} {wd : Bool} (hm : Md p wd) {D w r : Nat} {xs ys P : List Int} {l : List (List Int)} (hx : Els p xs) (hr : r = xs.length) (hl : ∀ k m, k < r → m ≤ D + w + w → mx l k m = wrow p (D + w) w (co xs k) (co ys k) m) (hP : Dec p D w xs ys P) : ∃ X, Sol p r (D + w + w) l X := by
 obtain ⟨Q, L, _, _, h3, h4, h5, h6⟩ := Dec.some hm hx hP
 refine ⟨fun m => if m < D + w then co Q m else co L (m - (D + w)), (rows_sol hr hl _).2 (fun i hi => ?_)⟩
 have eL : al (D + w) w (fun m => if m < D + w then co Q m else co L (m - (D + w))) = L := ext_co (by rw [al_len, h4]) (fun k hk => by
  rw [al_len] at hk
  rw [al_co _ _ _ k (by omega)]
  by_cases c : k < w
  · rw [if_pos c, if_neg (by omega), Nat.add_sub_cancel_left]
  · rw [if_neg c, show k = w by omega, h5])
 have eQ : vl p (co xs i) (aq (D + w) (fun m => if m < D + w then co Q m else co L (m - (D + w)))) = vl p (co xs i) Q := vl_pl (pu_eq (fun k => by
  unfold aq; rw [co_mk]
  by_cases c : k < D + w
  · rw [if_pos c, if_pos c]
  · rw [if_neg c, co_out _ _ (by omega)]))
 rw [eL, eQ]; exact h6 i hi
theorem welch_only {p : Int} {wd : Bool} (hm : Md p wd) {D w r : Nat} {xs ys P : List Int} {l : List (List Int)} (hx : Els p xs) (hn : xs.Nodup) (hr : r = xs.length) (hl : ∀ k m, k < r → m ≤ D + w + w → mx l k m = wrow p (D + w) w (co xs k) (co ys k) m) (hd : D + 2 * w ≤ xs.length) (hP : Dec p D w xs ys P) {X : Nat → Int} (hX : Sol p r (D + w + w) l X) : Dv p (aq (D + w) X) (al (D + w) w X) P [] :=
 key_dv hm hx hn hP.1 (al_tr (p := p) _ _ _) hP.2.2 (by unfold aq; rw [mk_len]; omega) (.inr (.inr (by rw [al_len]; have := hP.2.1; omega))) ((rows_sol hr hl X).1 hX)
end Go.Proofs.Ytnapbdoalfbgnaa.Rnk
