/- Texts laid together: RnkA, RnkB, RnkC. -/
import Derived.Test.YtpbfgcepmbpkdaaGreatBunP
import Derived.Test.YtpbfgcepmbpkdaaGreatBIntA
namespace Go.Proofs.YtpbfgcepmbpkdaaGreat.Rnk
set_option linter.unusedVariables false

def sm (f : Nat → Int) : Nat → Int
  | 0 => 0
  | n + 1 => sm f n + f n
theorem sm_congr {f g : Nat → Int} : ∀ {n : Nat}, (∀ k, k < n → f k = g k) → sm f n = sm g n
  | 0, _ => rfl
  | n + 1, h => by
    show sm f n + f n = sm g n + g n
    rw [sm_congr (fun k hk => h k (by omega)), h n (by omega)]
theorem sm_add (f g : Nat → Int) : ∀ n, sm (fun k => f k + g k) n = sm f n + sm g n
  | 0 => rfl
  | n + 1 => by
    show sm _ n + (f n + g n) = sm f n + f n + (sm g n + g n)
    rw [sm_add f g n]; omega
theorem sm_one (f : Nat → Int) (a : Nat) (t : Int) : ∀ n, a < n → sm (fun k => if k = a then f k + t else f k) n = sm f n + t
  | 0, h => absurd h (by omega)
  | n + 1, h => by
    show sm _ n + (if n = a then f n + t else f n) = sm f n + f n + t
    by_cases e : n = a
    · rw [if_pos e, sm_congr (g := f) (fun k hk => if_neg (by omega))]; omega
    · rw [if_neg e, sm_one f a t n (by omega)]; omega
/-- Two places turned. -/
theorem sm_swap (f : Nat → Int) {a b n : Nat} (ha : a < n) (hb : b < n) (hab : a ≠ b) : sm (fun k => if k = a then f b else if k = b then f a else f k) n = sm f n := by
  have e : sm (fun k => if k = a then f b else if k = b then f a else f k) n = sm (fun k => if k = a then (fun k => if k = b then f k + (f a - f b) else f k) k + (f b - f a) else (fun k => if k = b then f k + (f a - f b) else f k) k) n := by
    refine sm_congr (fun k hk => ?_)
    dsimp only
    by_cases h1 : k = a
    · subst h1; rw [if_pos rfl, if_pos rfl, if_neg hab]; omega
    · rw [if_neg h1, if_neg h1]
      by_cases h2 : k = b
      · subst h2; rw [if_pos rfl, if_pos rfl]; omega
      · rw [if_neg h2, if_neg h2]
  rw [e, sm_one _ a _ n ha, sm_one f b _ n hb]; omega
theorem sm_dvd {p : Int} {f g : Nat → Int} : ∀ {n : Nat}, (∀ k, k < n → p ∣ f k - g k) → p ∣ sm f n - sm g n
  | 0, _ => ⟨0, by simp [sm]⟩
  | n + 1, h => by
    show p ∣ sm f n + f n - (sm g n + g n)
    rw [show sm f n + f n - (sm g n + g n) = (sm f n - sm g n) + (f n - g n) by omega]
    exact Int.dvd_add (sm_dvd (fun k hk => h k (by omega))) (h n (by omega))

/-- No factors but noughts make of these rows a row of noughts. -/
def Ind (p : Int) (r c : Nat) (M : Nat → Nat → Int) : Prop := ∀ x : Nat → Int, (∀ m, m < c → p ∣ sm (fun k => x k * M k m) r) → ∀ k, k < r → p ∣ x k
theorem ind_cong {p : Int} {r c : Nat} {M N : Nat → Nat → Int} (h : ∀ k m, k < r → m < c → p ∣ M k m - N k m) (hi : Ind p r c M) : Ind p r c N := fun x hx => hi x (fun m hm => by
  have h1 : p ∣ sm (fun k => x k * M k m) r - sm (fun k => x k * N k m) r := sm_dvd (fun k hk => by
    rw [← Int.mul_sub]; exact Int.dvd_trans (h k m hk hm) (Int.dvd_mul_left _ _))
  have := Int.dvd_add h1 (hx m hm)
  rwa [Int.sub_add_cancel] at this)
/-- So many times a row taken off another one. -/
theorem ind_off {p : Int} {r c : Nat} {M : Nat → Nat → Int} {a b : Nat} (ha : a < r) (hb : b < r) (hab : a ≠ b) (t : Int) (hi : Ind p r c M) : Ind p r c (fun k m => if k = a then M a m - t * M b m else M k m) := by
  intro x hx
  have key := hi (fun k => if k = b then x k + -(t * x a) else x k) (fun m hm => by
    have h1 := hx m hm
    have e1 : sm (fun k => x k * (if k = a then M a m - t * M b m else M k m)) r = sm (fun k => x k * M k m) r + -(x a * (t * M b m)) := by
      rw [← sm_one (fun k => x k * M k m) a _ r ha]
      refine sm_congr (fun k hk => ?_)
      by_cases e : k = a
      · rw [if_pos e, if_pos e, e, Int.mul_sub]; omega
      · rw [if_neg e, if_neg e]
    have e2 : sm (fun k => (if k = b then x k + -(t * x a) else x k) * M k m) r = sm (fun k => x k * M k m) r + -(x a * (t * M b m)) := by
      rw [← sm_one (fun k => x k * M k m) b _ r hb]
      refine sm_congr (fun k hk => ?_)
      by_cases e : k = b
      · rw [if_pos e, if_pos e, e, Int.add_mul, Int.neg_mul, Int.mul_assoc, Int.mul_left_comm t (x a)]
      · rw [if_neg e, if_neg e]
    rw [e2, ← e1]; exact h1)
  have ka : p ∣ x a := by have := key a ha; rwa [if_neg hab] at this
  intro k hk
  have := key k hk
  by_cases e : k = b
  · rw [if_pos e] at this
    have h2 := Int.dvd_add this (Int.dvd_trans ka (Int.dvd_mul_left t (x a)))
    rwa [Int.add_assoc, Int.add_left_neg, Int.add_zero] at h2
  · rwa [if_neg e] at this
/-- Two rows turned. -/
theorem ind_turn {p : Int} {r c : Nat} {M : Nat → Nat → Int} {a b : Nat} (ha : a < r) (hb : b < r) (hab : a ≠ b) (hi : Ind p r c M) : Ind p r c (fun k m => if k = a then M b m else if k = b then M a m else M k m) := by
  intro x hx
  have key := hi (fun k => if k = a then x b else if k = b then x a else x k) (fun m hm => by
    have h1 := hx m hm
    have e : sm (fun k => (if k = a then x b else if k = b then x a else x k) * M k m) r = sm (fun k => x k * (if k = a then M b m else if k = b then M a m else M k m)) r := by
      rw [← sm_swap (fun k => x k * (if k = a then M b m else if k = b then M a m else M k m)) ha hb hab]
      refine sm_congr (fun k hk => ?_)
      by_cases h2 : k = a
      · subst h2
        rw [if_pos rfl, if_pos rfl, if_neg (fun e => hab e.symm), if_pos rfl]
      · rw [if_neg h2, if_neg h2]
        by_cases h3 : k = b
        · subst h3; rw [if_pos rfl, if_pos rfl, if_pos rfl]
        · rw [if_neg h3, if_neg h3, if_neg h2, if_neg h3]
    rw [e]; exact h1)
  intro k hk
  by_cases h2 : k = a
  · subst h2
    have := key b hb
    rwa [if_neg (fun e => hab e.symm), if_pos rfl] at this
  · by_cases h3 : k = b
    · subst h3
      have := key a ha
      rwa [if_pos rfl] at this
    · have := key k hk
      rwa [if_neg h2, if_neg h3] at this
theorem sm_zero {p : Int} {f : Nat → Int} {n : Nat} (h : ∀ k, k < n → p ∣ f k) : p ∣ sm f n := by
  have := sm_dvd (p := p) (f := f) (g := fun _ => 0) (n := n) (fun k hk => by rw [Int.sub_zero]; exact h k hk)
  have e : ∀ n, sm (fun _ => (0 : Int)) n = 0 := fun n => by
    induction n with
    | zero => rfl
    | succ n ih => show sm _ n + 0 = 0; rw [ih]; rfl
  rwa [e, Int.sub_zero] at this
/-- None of them is a row of noughts. -/
theorem ind_some {p : Int} (hp : 1 < p) {r c : Nat} {M : Nat → Nat → Int} (hi : Ind p r c M) {a : Nat} (ha : a < r) (h : ∀ m, m < c → p ∣ M a m) : False := by
  have := hi (fun k => if k = a then 1 else 0) (fun m hm => sm_zero (fun k hk => by
    by_cases e : k = a
    · rw [if_pos e, Int.one_mul, e]; exact h m hm
    · rw [if_neg e, Int.zero_mul]; exact ⟨0, by simp⟩)) a ha
  rw [if_pos rfl] at this
  have := Int.le_of_dvd (by omega) this
  omega

end Go.Proofs.YtpbfgcepmbpkdaaGreat.Rnk

namespace Go.Proofs.YtpbfgcepmbpkdaaGreat.Rnk
open Go.Proofs.YtpbfgcepmbpkdaaGreat.Fld
set_option linter.unusedVariables false

theorem sm_times (c : Int) (f : Nat → Int) : ∀ n, c * sm f n = sm (fun k => c * f k) n
  | 0 => Int.mul_zero c
  | n + 1 => by
    show c * (sm f n + f n) = sm _ n + c * f n
    rw [Int.mul_add, sm_times c f n]
theorem sm_nought : ∀ n, sm (fun _ => (0 : Int)) n = 0
  | 0 => rfl
  | n + 1 => by show sm _ n + 0 = 0; rw [sm_nought n]; rfl
/-- Sums of sums, the other way round. -/
theorem sm_sm (f : Nat → Nat → Int) (r : Nat) : ∀ n, sm (fun k => sm (fun j => f k j) n) r = sm (fun j => sm (fun k => f k j) r) n
  | 0 => sm_nought r
  | n + 1 => by
    show sm (fun k => sm (fun j => f k j) n + f k n) r = sm _ n + sm (fun k => f k n) r
    rw [sm_add, sm_sm f r n]
theorem ds_sm (p : Int) (f g : Nat → Int) : ∀ n, p ∣ ds p f g n - sm (fun k => f k * g k) n
  | 0 => ⟨0, by simp [ds, sm]⟩
  | n + 1 => by
    have h := ds_sm p f g n
    show p ∣ add p (ds p f g n) (mul p (f n) (g n)) - (sm (fun k => f k * g k) n + f n * g n)
    unfold add mul
    have h1 : p ∣ (ds p f g n + f n * g n % p) % p - (ds p f g n + f n * g n % p) := ⟨-((ds p f g n + f n * g n % p) / p), by rw [Int.mul_neg]; have := Int.mul_ediv_add_emod (ds p f g n + f n * g n % p) p; omega⟩
    have h2 : p ∣ f n * g n % p - f n * g n := ⟨-(f n * g n / p), by rw [Int.mul_neg]; have := Int.mul_ediv_add_emod (f n * g n) p; omega⟩
    have := Int.dvd_add (Int.dvd_add h1 h2) h
    rwa [show (ds p f g n + f n * g n % p) % p - (ds p f g n + f n * g n % p) + (f n * g n % p - f n * g n) + (ds p f g n - sm (fun k => f k * g k) n) = (ds p f g n + f n * g n % p) % p - (sm (fun k => f k * g k) n + f n * g n) by omega] at this
theorem sm_split (f : Nat → Int) (a : Nat) : ∀ n, sm f (a + n) = sm f a + sm (fun m => f (a + m)) n
  | 0 => (Int.add_zero _).symm
  | n + 1 => by
    show sm f (a + n) + f (a + n) = sm f a + (sm _ n + f (a + n))
    rw [sm_split f a n]; omega
end Go.Proofs.YtpbfgcepmbpkdaaGreat.Rnk

namespace Go.Proofs.YtpbfgcepmbpkdaaGreat.Rnk
open Go.Proofs.YtpbfgcepmbpkdaaGreat.Fld
set_option linter.unusedVariables false

def mx (l : List (List Int)) (k m : Nat) : Int := co (l.getD k []) m
theorem getD_set {α : Type} (l : List α) (d v : α) {a : Nat} (ha : a < l.length) (k : Nat) : (l.set a v).getD k d = if k = a then v else l.getD k d := by
  rw [List.getD_eq_getElem?_getD, List.getD_eq_getElem?_getD, List.getElem?_set]
  by_cases e : k = a
  · subst e; rw [if_pos rfl, if_pos rfl, if_pos ha]; rfl
  · rw [if_neg (fun h => e h.symm), if_neg e]
/-- Two entries turned: l[a], l[b] = l[b], l[a]. -/
def swp {α : Type} (d : α) (l : List α) (a b : Nat) : List α := (l.set a (l.getD b d)).set b (l.getD a d)
theorem swp_len {α : Type} (d : α) (l : List α) (a b : Nat) : (swp d l a b).length = l.length := by unfold swp; rw [List.length_set, List.length_set]
theorem swp_at {α : Type} (d : α) (l : List α) {a b : Nat} (ha : a < l.length) (hb : b < l.length) (k : Nat) : (swp d l a b).getD k d = if k = b then l.getD a d else if k = a then l.getD b d else l.getD k d := by
  unfold swp
  rw [getD_set _ _ _ (by rw [List.length_set]; exact hb), getD_set _ _ _ ha]
/-- What the document's Rank keeps: r independent rows of c elements; those from n on have noughts in the first j columns. -/
structure Eli (p : Int) (r c j n : Nat) (l : List (List Int)) : Prop where
  len : l.length = r
  cols : ∀ k, k < r → (l.getD k []).length = c
  els : ∀ k, k < r → Els p (l.getD k [])
  ind : Ind p r c (mx l)
  zero : ∀ k m, n ≤ k → k < r → m < j → mx l k m = 0
  le : n ≤ r
theorem Eli.first {p : Int} {r c : Nat} {l : List (List Int)} (h1 : l.length = r) (h2 : ∀ k, k < r → (l.getD k []).length = c) (h3 : ∀ k, k < r → Els p (l.getD k [])) (h4 : Ind p r c (mx l)) : Eli p r c 0 0 l := ⟨h1, h2, h3, h4, fun _ _ _ _ h => absurd h (by omega), Nat.zero_le _⟩
/-- A row is brought to the place n. -/
theorem Eli.turn {p : Int} {r c j n : Nat} {l : List (List Int)} (h : Eli p r c j n l) {i : Nat} (hn : n ≤ i) (hi : i < r) : Eli p r c j n (swp [] l i n) := by
  have li : i < l.length := by rw [h.len]; exact hi
  have ln : n < l.length := by rw [h.len]; omega
  have at' := swp_at ([] : List Int) l li ln
  refine ⟨(swp_len _ _ _ _).trans h.len, fun k hk => ?_, fun k hk => ?_, ?_, fun k m h1 h2 h3 => ?_, h.le⟩
  · rw [at']; split
    · exact h.cols _ hi
    · split
      · exact h.cols _ (by omega)
      · exact h.cols _ hk
  · rw [at']; split
    · exact h.els _ hi
    · split
      · exact h.els _ (by omega)
      · exact h.els _ hk
  · by_cases e : i = n
    · subst e
      refine ind_cong (fun k m _ _ => ?_) h.ind
      have : mx (swp [] l i i) k m = mx l k m := by
        unfold mx; rw [at']
        by_cases c : k = i
        · rw [if_pos c, c]
        · rw [if_neg c, if_neg c]
      rw [this, Int.sub_self]; exact ⟨0, by simp⟩
    · refine ind_cong (fun k m _ _ => ?_) (ind_turn (a := n) (b := i) (by omega) hi (fun e' => e e'.symm) h.ind)
      have : mx (swp [] l i n) k m = if k = n then mx l i m else if k = i then mx l n m else mx l k m := by
        unfold mx; rw [at']
        by_cases c : k = n
        · rw [if_pos c, if_pos c]
        · rw [if_neg c, if_neg c]
          by_cases c' : k = i
          · rw [if_pos c', if_pos c']
          · rw [if_neg c', if_neg c']
      rw [this, Int.sub_self]; exact ⟨0, by simp⟩
  · unfold mx; rw [at']; split
    · exact h.zero _ m hn hi h3
    · split
      · exact h.zero _ m (Nat.le_refl _) (by omega) h3
      · exact h.zero _ m h1 h2 h3
theorem mod_sub (p a : Int) : p ∣ a % p - a := ⟨-(a / p), by rw [Int.mul_neg]; have := Int.mul_ediv_add_emod a p; omega⟩
/-- So many times the row n is taken off a later one. -/
theorem Eli.off {p : Int} (hp : 0 < p) {r c j n : Nat} {l : List (List Int)} (h : Eli p r c j n l) {k : Nat} (hn : n < k) (hk : k < r) {t : Int} {row : List Int} (h1 : row.length = c) (h2 : ∀ m, m < c → co row m = sub p (mx l k m) (mul p t (mx l n m))) : Eli p r c j n (l.set k row) := by
  have lk : k < l.length := by rw [h.len]; exact hk
  have at' := fun i => getD_set l ([] : List Int) row lk i
  refine ⟨(List.length_set ..).trans h.len, fun i hi => ?_, fun i hi => ?_, ?_, fun i m g1 g2 g3 => ?_, h.le⟩
  · rw [at']; split
    · exact h1
    · exact h.cols _ hi
  · rw [at']; split
    · intro x hx
      obtain ⟨m, hm, rfl⟩ := List.mem_iff_getElem.1 hx
      have := h2 m (by omega)
      rw [co_at hm] at this
      rw [this]; exact sub_el hp
    · exact h.els _ hi
  · refine ind_cong (fun i m hi hm => ?_) (ind_off (a := k) (b := n) hk (by omega) (by omega) t h.ind)
    unfold mx; rw [at']
    by_cases e : i = k
    · rw [if_pos e, if_pos e, h2 m hm]
      unfold sub mul mx
      have e1 := mod_sub p (co (l.getD k []) m - t * co (l.getD n []) m % p)
      have e2 := mod_sub p (t * co (l.getD n []) m)
      have e3 := Int.dvd_add (Int.dvd_neg.2 e1) e2
      rwa [show -((co (l.getD k []) m - t * co (l.getD n []) m % p) % p - (co (l.getD k []) m - t * co (l.getD n []) m % p)) + (t * co (l.getD n []) m % p - t * co (l.getD n []) m) = co (l.getD k []) m - t * co (l.getD n []) m - (co (l.getD k []) m - t * co (l.getD n []) m % p) % p by omega] at e3
    · rw [if_neg e, if_neg e, Int.sub_self]; exact ⟨0, by simp⟩
  · unfold mx; rw [at']
    by_cases e : i = k
    · rw [if_pos e]
      by_cases hm : m < c
      · rw [h2 m hm, h.zero k m (by omega) hk g3, h.zero n m (Nat.le_refl _) (by omega) g3]
        unfold sub mul; simp
      · unfold co; rw [List.getD_eq_getElem?_getD, List.getElem?_eq_none (by omega)]; rfl
    · rw [if_neg e]; exact h.zero i m g1 g2 g3
theorem Eli.found {p : Int} {r c j n : Nat} {l : List (List Int)} (h : Eli p r c j n l) (hn : n < r) (h0 : ∀ k, n < k → k < r → mx l k j = 0) : Eli p r c (j + 1) (n + 1) l := ⟨h.len, h.cols, h.els, h.ind, fun k m h1 h2 h3 => by
  by_cases e : m = j
  · subst e; exact h0 k h1 h2
  · exact h.zero k m (by omega) h2 (by omega), hn⟩
theorem Eli.none {p : Int} {r c j n : Nat} {l : List (List Int)} (h : Eli p r c j n l) (h0 : ∀ k, n ≤ k → k < r → mx l k j = 0) : Eli p r c (j + 1) n l := ⟨h.len, h.cols, h.els, h.ind, fun k m h1 h2 h3 => by
  by_cases e : m = j
  · subst e; exact h0 k h1 h2
  · exact h.zero k m h1 h2 (by omega), h.le⟩
theorem Eli.all {p : Int} (hp : 1 < p) {r c n : Nat} {l : List (List Int)} (h : Eli p r c c n l) : n = r := by
  rcases Nat.lt_or_eq_of_le h.le with h1 | h1
  · exact (ind_some hp h.ind h1 (fun m hm => by rw [h.zero n m (Nat.le_refl _) h1 hm]; exact ⟨0, by simp⟩)).elim
  · exact h1

end Go.Proofs.YtpbfgcepmbpkdaaGreat.Rnk

