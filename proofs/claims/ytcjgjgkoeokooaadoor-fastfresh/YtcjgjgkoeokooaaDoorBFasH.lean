/-
  Layer 4, products by halves: plain arithmetic.
-/
import Derived.Test.YtcjgjgkoeokooaaDoorBFasG
namespace Go.Proofs.YtcjgjgkoeokooaaDoor
open Go.RowKit Fld
set_option linter.unusedVariables false

/-- A product, noughts at its end as they may come. -/
def HV (p : Int) (xs ys zs : List Int) : Prop := Els p zs ∧ Al p (co zs) (cv (co xs) (co ys)) ∧ zs.length ≤ xs.length + ys.length - 1 ∧ (tr xs = xs → tr ys = ys → tr zs = zs)
theorem HV.comm {p : Int} {xs ys zs : List Int} (h : HV p xs ys zs) : HV p ys xs zs :=
  ⟨h.1, h.2.1.trans (fun i => by rw [cv_comm]), by have := h.2.2.1; omega, fun h1 h2 => h.2.2.2 h2 h1⟩
theorem HV.of_prd {p : Int} {wd : Bool} (hm : Md p wd) {xs ys : List Int} (hx : Els p xs) (hy : Els p ys) : HV p xs ys (prd p (tr xs) (tr ys)) := by
  have hp : 0 < p := by have := hm.bounds; omega
  have i := is_prd hm (hx.tr hp) (hy.tr hp) (tr_tr xs) (tr_tr ys)
  rw [cv_tr] at i
  refine ⟨i.1, i.2.2, ?_, fun _ _ => i.2.1⟩
  have := prd_len_le p (tr xs) (tr ys)
  have := tr_len xs
  have := tr_len ys
  omega
theorem HV.whole {p : Int} {wd : Bool} (hm : Md p wd) {xs ys zs : List Int} (hx : Els p xs) (hy : Els p ys) (h1 : xs ≠ []) (h2 : ys ≠ []) (hz : Els p zs) (ha : Al p (co zs) (cv (co xs) (co ys))) (hl : zs.length = xs.length + ys.length - 1) : HV p xs ys zs := by
  have hp : 0 < p := by have := hm.bounds; omega
  refine ⟨hz, ha, by omega, fun t1 t2 => ?_⟩
  have e : zs = prd p xs ys := by
    apply ext_co (by rw [hl, prd_len p xs ys h1 h2])
    intro i hi
    have e2 : co (prd p xs ys) i = cv (co xs) (co ys) i % p := by
      unfold prd
      rw [if_neg (by intro h; rcases h with h | h; exact h1 h; exact h2 h), co_mk, if_pos (by omega)]
    rw [e2, ← ha i, (hz.co hp i).mod]
  rw [e]
  exact (is_prd hm hx hy t1 t2).2.1
/-- Of trimmed factors it is the product. -/
theorem HV.only {p : Int} {wd : Bool} (hm : Md p wd) {xs ys zs : List Int} (hx : Els p xs) (hy : Els p ys) (t1 : tr xs = xs) (t2 : tr ys = ys) (h : HV p xs ys zs) : zs = prd p xs ys :=
  Is.only (F := cv (co xs) (co ys)) (by have := hm.bounds; omega) ⟨h.1, h.2.2.2 t1 t2, h.2.1⟩ (is_prd hm hx hy t1 t2)

theorem al_gr {p : Int} {off : Nat} {xs ys : List Int} (h : off + xs.length ≤ ys.length) : Al p (co (gr p 1 off xs ys xs.length)) (fun i => co ys i + sh off (co xs) i) := fun i => by
  show co (gr p 1 off xs ys xs.length) i % p = (co ys i + sh off (co xs) i) % p
  rw [co_gr]
  unfold sh
  by_cases h1 : i < off
  · rw [if_neg (by omega), if_pos h1, Int.add_zero]
  · rw [if_neg h1]
    by_cases h2 : i < off + xs.length
    · rw [if_pos (by omega), Int.one_mul, Int.emod_emod_of_dvd _ (Int.dvd_refl p)]
    · rw [if_neg (by omega), co_out xs (i - off) (by omega), Int.add_zero]
theorem al_sh {p : Int} {F G : Nat → Int} (h : Al p F G) (off : Nat) : Al p (sh off F) (sh off G) := fun i => by
  unfold sh; split
  · rfl
  · exact h _
theorem co_nought (n i : Nat) : co (List.replicate n 0) i = 0 := by
  unfold co
  rw [List.getD_eq_getElem?_getD, List.getElem?_replicate]
  split <;> rfl
theorem els_nought {p : Int} (hp : 0 < p) (n : Nat) : Els p (List.replicate n 0) := fun x hx => by rw [List.eq_of_mem_replicate hx]; exact ⟨Int.le_refl 0, hp⟩
theorem take_ne {xs : List Int} {n : Nat} (h0 : 0 < n) (h : n ≤ xs.length) : xs ≠ [] := by intro e; rw [e] at h; simp at h; omega

theorem one_facts {p : Int} {wd : Bool} (hm : Md p wd) {xs ys z1 z2 : List Int} {n N : Nat} (hx : Els p xs) (hy : Els p ys) (h0 : 0 < n) (hn : n < xs.length) (hy0 : ys ≠ []) (hN : N = xs.length + ys.length - 1)
    (a : HV p (xs.take n) ys z1) (b : HV p (xs.drop n) ys z2) :
    0 + z1.length ≤ N ∧ n + z2.length ≤ N ∧ HV p xs ys (gr p 1 n z2 (gr p 1 0 z1 (List.replicate N 0) z1.length) z2.length) := by
  have hp : 0 < p := by have := hm.bounds; omega
  have ly := List.length_pos_iff.2 hy0
  have l1 : (xs.take n).length = n := by rw [List.length_take]; omega
  have l2 : (xs.drop n).length = xs.length - n := List.length_drop
  have m1 := a.2.2.1
  have m2 := b.2.2.1
  rw [l1] at m1
  rw [l2] at m2
  have f1 : 0 + z1.length ≤ N := by omega
  have f2 : n + z2.length ≤ N := by omega
  refine ⟨f1, f2, HV.whole hm hx hy (take_ne h0 (by omega)) hy0 (els_gr hp (els_gr hp (els_nought hp N) _) _) ?_ (by rw [gr_len, gr_len, List.length_replicate, hN])⟩
  have g1 := al_gr (p := p) (off := 0) (xs := z1) (ys := List.replicate N 0) (by rw [List.length_replicate]; exact f1)
  have g2 := al_gr (p := p) (off := n) (xs := z2) (ys := gr p 1 0 z1 (List.replicate N 0) z1.length) (by rw [gr_len, List.length_replicate]; exact f2)
  refine g2.trans (fun i => ?_)
  show (co (gr p 1 0 z1 (List.replicate N 0) z1.length) i + sh n (co z2) i) % p = cv (co xs) (co ys) i % p
  have e1 : co (gr p 1 0 z1 (List.replicate N 0) z1.length) i % p = cv (co (xs.take n)) (co ys) i % p := by
    rw [g1 i]
    show (co (List.replicate N 0) i + sh 0 (co z1) i) % p = _
    rw [co_nought, Int.zero_add]
    exact a.2.1 i
  have e2 : cv (co xs) (co ys) i = cv (co (xs.take n)) (co ys) i + sh n (cv (co (xs.drop n)) (co ys)) i := by
    rw [← cv_sh, ← cv_add_left (co ys) i (co (xs.take n)) (sh n (co (xs.drop n)))]
    exact cv_congr i (fun j _ => co_halves xs n j) (fun _ _ => rfl)
  rw [e2, Int.add_emod, e1, al_sh b.2.1 n i, ← Int.add_emod]

theorem add_alike {p a b c d : Int} (h1 : a % p = c % p) (h2 : b % p = d % p) : (a + b) % p = (c + d) % p := by rw [Int.add_emod, h1, h2, ← Int.add_emod]
theorem is_len {p : Int} (hp : 0 < p) {zs : List Int} {F : Nat → Int} (h : Is p zs F) {K : Nat} (hF : ∀ i, K ≤ i → F i % p = 0) : zs.length ≤ K := by
  apply Nat.le_of_not_lt
  intro hc
  have hne : zs ≠ [] := by intro e; rw [e] at hc; simp at hc
  have h1 := last_ne h.2.1 hne
  have h2 := h.2.2 (zs.length - 1)
  rw [(h.1.co hp _).mod, hF _ (by omega)] at h2
  exact h1 h2

theorem both_facts {p : Int} {wd : Bool} (hm : Md p wd) {xs ys sp sq' z0 z1 zm m1 m2 : List Int} {n N : Nat} (hx : Els p xs) (hy : Els p ys) (hn : n < ys.length) (hl : ys.length ≤ xs.length) (h2n : 2 * n ≤ xs.length + 1) (h33 : 33 ≤ ys.length) (hN : N = xs.length + ys.length - 1)
    (a : HV p (xs.take n) (ys.take n) z0) (b : HV p (xs.drop n) (ys.drop n) z1) (c : Is p sp (fun i => co (xs.take n) i + co (xs.drop n) i)) (d : Is p sq' (fun i => co (ys.take n) i + co (ys.drop n) i))
    (e : HV p sp sq' zm) (k1 : Is p m1 (fun i => co zm i - co z0 i)) (k2 : Is p m2 (fun i => co m1 i - co z1 i)) :
    0 + z0.length ≤ N ∧ n + m2.length ≤ N ∧ 2 * n + z1.length ≤ N ∧ HV p xs ys (gr p 1 (2 * n) z1 (gr p 1 n m2 (gr p 1 0 z0 (List.replicate N 0) z0.length) m2.length) z1.length) := by
  have hp : 0 < p := by have := hm.bounds; omega
  have l1 : (xs.take n).length = n := by rw [List.length_take]; omega
  have l2 : (xs.drop n).length = xs.length - n := List.length_drop
  have l3 : (ys.take n).length = n := by rw [List.length_take]; omega
  have l4 : (ys.drop n).length = ys.length - n := List.length_drop
  have q1 := a.2.2.1
  have q2 := b.2.2.1
  rw [l1, l3] at q1
  rw [l2, l4] at q2
  have f1 : 0 + z0.length ≤ N := by omega
  have f3 : 2 * n + z1.length ≤ N := by omega
  have hM : Al p (co m2) (fun i => cv (fun i => co (xs.take n) i + co (xs.drop n) i) (fun i => co (ys.take n) i + co (ys.drop n) i) i - cv (co (xs.take n)) (co (ys.take n)) i - cv (co (xs.drop n)) (co (ys.drop n)) i) :=
    k2.2.2.trans ((k1.2.2.trans ((e.2.1.trans (c.2.2.cv d.2.2)).sub a.2.1)).sub b.2.1)
  have hM2 : ∀ i, cv (fun i => co (xs.take n) i + co (xs.drop n) i) (fun i => co (ys.take n) i + co (ys.drop n) i) i - cv (co (xs.take n)) (co (ys.take n)) i - cv (co (xs.drop n)) (co (ys.drop n)) i = cv (co (xs.take n)) (co (ys.drop n)) i + cv (co (xs.drop n)) (co (ys.take n)) i := by
    intro i
    rw [cv_add_left _ i (co (xs.take n)) (co (xs.drop n)), cv_add_right (co (ys.take n)) (co (ys.drop n)) i (co (xs.take n)), cv_add_right (co (ys.take n)) (co (ys.drop n)) i (co (xs.drop n))]; omega
  have f2 : m2.length ≤ xs.length - 1 := is_len hp ⟨k2.1, k2.2.1, hM⟩ (fun i hi => by
    rw [hM2, cv_end (m := n) (n := ys.length - n) i (fun j hj => co_out _ _ (by omega)) (fun j hj => co_out _ _ (by omega)) (by omega), cv_end (m := xs.length - n) (n := n) i (fun j hj => co_out _ _ (by omega)) (fun j hj => co_out _ _ (by omega)) (by omega)]
    exact Int.zero_emod p)
  have f2' : n + m2.length ≤ N := by omega
  refine ⟨f1, f2', f3, HV.whole hm hx hy (take_ne (n := 1) (by decide) (by omega)) (take_ne (n := 1) (by decide) (by omega)) (els_gr hp (els_gr hp (els_gr hp (els_nought hp N) _) _) _) ?_ (by rw [gr_len, gr_len, gr_len, List.length_replicate, hN])⟩
  have g1 := al_gr (p := p) (off := 0) (xs := z0) (ys := List.replicate N 0) (by rw [List.length_replicate]; exact f1)
  have g2 := al_gr (p := p) (off := n) (xs := m2) (ys := gr p 1 0 z0 (List.replicate N 0) z0.length) (by rw [gr_len, List.length_replicate]; exact f2')
  have g3 := al_gr (p := p) (off := 2 * n) (xs := z1) (ys := gr p 1 n m2 (gr p 1 0 z0 (List.replicate N 0) z0.length) m2.length) (by rw [gr_len, gr_len, List.length_replicate]; exact f3)
  refine g3.trans (fun i => ?_)
  have e1 : co (gr p 1 0 z0 (List.replicate N 0) z0.length) i % p = cv (co (xs.take n)) (co (ys.take n)) i % p := by
    rw [g1 i]
    show (co (List.replicate N 0) i + sh 0 (co z0) i) % p = _
    rw [co_nought, Int.zero_add]
    exact a.2.1 i
  have hnn : n + n = 2 * n := by omega
  have hk := kara (F := co xs) (G := co ys) (h := n) (co_halves xs n) (co_halves ys n) i
  rw [hnn] at hk
  show (co (gr p 1 n m2 (gr p 1 0 z0 (List.replicate N 0) z0.length) m2.length) i + sh (2 * n) (co z1) i) % p = _
  rw [hk]
  refine add_alike ?_ (al_sh b.2.1 (2 * n) i)
  rw [g2 i]
  exact add_alike e1 (al_sh hM n i)

end Go.Proofs.YtcjgjgkoeokooaaDoor
