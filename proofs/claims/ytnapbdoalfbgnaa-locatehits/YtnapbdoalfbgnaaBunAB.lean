import Derived.Test.YtnapbdoalfbgnaaBunP
import Derived.Test.YtnapbdoalfbgnaaBIntA
set_option linter.unusedVariables false
set_option linter.unusedSimpArgs false
set_option maxRecDepth 100000
set_option maxHeartbeats 4000000
namespace Go.Proofs.Ytnapbdoalfbgnaa.Rnk
def sm (f : Nat → Int) : Nat → Int
 | 0 => 0
 | n + 1 => sm f n + f n
theorem sm_congr {f g : Nat → Int} : ∀ {n : Nat}, (∀ k, k < n → f k = g k) → sm f n = sm g n
 | 0, _ => rfl
 | n + 1, h => by
  show sm f n + f n = sm g n + g n
  rw [sm_congr (fun k hk => h k (by omega)), h n (by omega)]
theorem sm_add (f g : Nat → Int) : ∀ n, sm (fun k => f k + g k) n = sm f n + sm g n
 | 0 => rfl
 | n + 1 => by
  show sm _ n + (f n + g n) = sm f n + f n + (sm g n + g n)
  rw [sm_add f g n]; omega
theorem sm_one (f : Nat → Int) (a : Nat) (t : Int) : ∀ n, a < n → sm (fun k => if k = a then f k + t else f k) n = sm f n + t
 | 0, h => absurd h (by omega)
 | n + 1, h => by
  show sm _ n + (if n = a then f n + t else f n) = sm f n + f n + t
  by_cases e : n = a
  · rw [if_pos e, sm_congr (g := f) (fun k hk => if_neg (by omega))]; omega
  · rw [if_neg e, sm_one f a t n (by omega)]; omega
theorem sm_dvd {p : Int} {f g : Nat → Int} : ∀ {n : Nat}, (∀ k, k < n → p ∣ f k - g k) → p ∣ sm f n - sm g n
 | 0, _ => ⟨0, by simp [sm]⟩
 | n + 1, h => by
  show p ∣ sm f n + f n - (sm g n + g n)
  rw [show sm f n + f n - (sm g n + g n) = (sm f n - sm g n) + (f n - g n) by omega]
  exact Int.dvd_add (sm_dvd (fun k hk => h k (by omega))) (h n (by omega))
end Go.Proofs.Ytnapbdoalfbgnaa.Rnk
namespace Go.Proofs.Ytnapbdoalfbgnaa.Rnk
open Go.Proofs.Ytnapbdoalfbgnaa.Fld
theorem sm_times (c : Int) (f : Nat → Int) : ∀ n, c * sm f n = sm (fun k => c * f k) n
 | 0 => Int.mul_zero c
 | n + 1 => by
  show c * (sm f n + f n) = sm _ n + c * f n
  rw [Int.mul_add, sm_times c f n]
theorem sm_nought : ∀ n, sm (fun _ => (0 : Int)) n = 0
 | 0 => rfl
 | n + 1 => by show sm _ n + 0 = 0; rw [sm_nought n]; rfl
theorem sm_split (f : Nat → Int) (a : Nat) : ∀ n, sm f (a + n) = sm f a + sm (fun m => f (a + m)) n
 | 0 => (Int.add_zero _).symm
 | n + 1 => by
  show sm f (a + n) + f (a + n) = sm f a + (sm _ n + f (a + n))
  rw [sm_split f a n]; omega
def mx (l : List (List Int)) (k m : Nat) : Int := co (l.getD k []) m
theorem getD_set {α : Type} (l : List α) (d v : α) {a : Nat} (ha : a < l.length) (k : Nat) : (l.set a v).getD k d = if k = a then v else l.getD k d := by
 rw [List.getD_eq_getElem?_getD, List.getD_eq_getElem?_getD, List.getElem?_set]
 by_cases e : k = a
 · subst e; rw [if_pos rfl, if_pos rfl, if_pos ha]; rfl
 · rw [if_neg (fun h => e h.symm), if_neg e]
def swp {α : Type} (d : α) (l : List α) (a b : Nat) : List α := (l.set a (l.getD b d)).set b (l.getD a d)
theorem swp_len {α : Type} (d : α) (l : List α) (a b : Nat) : (swp d l a b).length = l.length := by unfold swp; rw [List.length_set, List.length_set]
theorem swp_at {α : Type} (d : α) (l : List α) {a b : Nat} (ha : a < l.length) (hb : b < l.length) (k : Nat) : (swp d l a b).getD k d = if k = b then l.getD a d else if k = a then l.getD b d else l.getD k d := by
 unfold swp
 rw [getD_set _ _ _ (by rw [List.length_set]; exact hb), getD_set _ _ _ ha]
theorem mod_sub (p a : Int) : p ∣ a % p - a := ⟨-(a / p), by rw [Int.mul_neg]; have := Int.mul_ediv_add_emod a p; omega⟩
def Sf (u : Nat) (a x : Nat → Int) : Int := sm (fun m => a m * x m) u - a u
theorem sf_dvd {p : Int} {u : Nat} {a b x : Nat → Int} (h : ∀ m, m ≤ u → p ∣ a m - b m) : p ∣ Sf u a x - Sf u b x := by
 have h1 : p ∣ sm (fun m => a m * x m) u - sm (fun m => b m * x m) u := sm_dvd (fun m hm => by
  rw [← Int.sub_mul]; exact Int.dvd_trans (h m (by omega)) (Int.dvd_mul_right _ _))
 have h2 := Int.dvd_sub h1 (h u (Nat.le_refl _))
 rwa [show sm (fun m => a m * x m) u - sm (fun m => b m * x m) u - (a u - b u) = Sf u a x - Sf u b x by unfold Sf; omega] at h2
theorem sf_off (u : Nat) (a b x : Nat → Int) (c : Int) : Sf u (fun m => a m - c * b m) x = Sf u a x - c * Sf u b x := by
 unfold Sf
 have e : sm (fun m => (a m - c * b m) * x m) u = sm (fun m => a m * x m) u + sm (fun m => -c * (b m * x m)) u := by
  rw [← sm_add]
  refine sm_congr (fun m _ => ?_)
  rw [Int.sub_mul, Int.neg_mul, Int.mul_assoc]; omega
 rw [e, ← sm_times, Int.mul_sub, Int.neg_mul]
 show _ - (a u - c * b u) = _
 omega
theorem sf_times (u : Nat) (a x : Nat → Int) (d : Int) : Sf u (fun m => d * a m) x = d * Sf u a x := by
 unfold Sf
 rw [Int.mul_sub, sm_times]
 congr 1
 exact sm_congr (fun m _ => Int.mul_assoc _ _ _)
def Sol (p : Int) (r u : Nat) (l : List (List Int)) (x : Nat → Int) : Prop := ∀ k, k < r → p ∣ Sf u (mx l k) x
theorem mx_set {l : List (List Int)} {k : Nat} (hk : k < l.length) (row : List Int) (i m : Nat) : mx (l.set k row) i m = if i = k then co row m else mx l i m := by
 unfold mx; rw [getD_set _ _ _ hk]
 by_cases e : i = k
 · rw [if_pos e, if_pos e]
 · rw [if_neg e, if_neg e]
theorem mx_swp {l : List (List Int)} {a b : Nat} (ha : a < l.length) (hb : b < l.length) (k m : Nat) : mx (swp [] l a b) k m = if k = b then mx l a m else if k = a then mx l b m else mx l k m := by
 unfold mx; rw [swp_at _ _ ha hb]
 by_cases e : k = b
 · rw [if_pos e, if_pos e]
 · rw [if_neg e, if_neg e]
   by_cases e' : k = a
   · rw [if_pos e', if_pos e']
   · rw [if_neg e', if_neg e']
structure Gau (p : Int) (r u j : Nat) (ps : List Nat) (l0 l : List (List Int)) : Prop where
 len : l.length = r
 cols : ∀ k, k < r → (l.getD k []).length = u + 1
 els : ∀ k, k < r → Els p (l.getD k [])
 le : ps.length ≤ r
 low : ∀ c ∈ ps, c < j
 nd : ps.Nodup
 unit : ∀ i (h : i < ps.length) k, k < r → mx l k ps[i] = if k = i then 1 else 0
 zero : ∀ k m, ps.length ≤ k → k < r → m < j → mx l k m = 0
 sols : ∀ x, Sol p r u l x ↔ Sol p r u l0 x
theorem Gau.first {p : Int} {r u : Nat} {l : List (List Int)} (h1 : l.length = r) (h2 : ∀ k, k < r → (l.getD k []).length = u + 1) (h3 : ∀ k, k < r → Els p (l.getD k [])) : Gau p r u 0 [] l l :=
 ⟨h1, h2, h3, Nat.zero_le _, fun c hc => absurd hc List.not_mem_nil, List.nodup_nil, fun i h => absurd h (Nat.not_lt_zero _), fun _ _ _ _ h => absurd h (by omega), fun x => Iff.rfl⟩
theorem Gau.turn {p : Int} {r u j : Nat} {ps : List Nat} {l0 l : List (List Int)} (h : Gau p r u j ps l0 l) {i : Nat} (hn : ps.length ≤ i) (hi : i < r) : Gau p r u j ps l0 (swp [] l i ps.length) := by
 have li : i < l.length := by rw [h.len]; exact hi
 have ln : ps.length < l.length := by rw [h.len]; omega
 have at' := swp_at ([] : List Int) l li ln
 have mx' := fun k m => mx_swp (l := l) li ln k m
 refine ⟨(swp_len _ _ _ _).trans h.len, fun k hk => ?_, fun k hk => ?_, h.le, h.low, h.nd, fun a ha k hk => ?_, fun k m h1 h2 h3 => ?_, fun x => ?_⟩
 · rw [at']; split
   · exact h.cols _ hi
   · split
     · exact h.cols _ (by omega)
     · exact h.cols _ hk
 · rw [at']; split
   · exact h.els _ hi
   · split
     · exact h.els _ (by omega)
     · exact h.els _ hk
 · rw [mx']
   by_cases e : k = ps.length
   · rw [if_pos e, h.unit a ha i hi, if_neg (by omega), if_neg (by omega)]
   · rw [if_neg e]
     by_cases e' : k = i
     · rw [if_pos e', h.unit a ha ps.length (by omega), if_neg (by omega), if_neg (by omega)]
     · rw [if_neg e']; exact h.unit a ha k hk
 · rw [mx']; split
   · exact h.zero _ m hn hi h3
   · split
     · exact h.zero _ m (Nat.le_refl _) (by omega) h3
     · exact h.zero _ m h1 h2 h3
 · rw [← h.sols x]
   have f1 : ∀ k, k ≠ ps.length → k ≠ i → mx (swp [] l i ps.length) k = mx l k := fun k g1 g2 => funext fun m => by rw [mx', if_neg g1, if_neg g2]
   have f2 : mx (swp [] l i ps.length) ps.length = mx l i := funext fun m => by rw [mx', if_pos rfl]
   have f3 : mx (swp [] l i ps.length) i = mx l ps.length := funext fun m => by
    rw [mx']
    by_cases e : i = ps.length
    · rw [if_pos e]; rw [← e]
    · rw [if_neg e, if_pos rfl]
   constructor
   · intro hs k hk
     by_cases e : k = ps.length
     · have := hs i hi; rw [f3] at this; rw [e]; exact this
     · by_cases e' : k = i
       · have := hs ps.length (by omega); rw [f2] at this; rw [e']; exact this
       · have := hs k hk; rwa [f1 k e e'] at this
   · intro hs k hk
     by_cases e : k = ps.length
     · rw [e, f2]; exact hs i hi
     · by_cases e' : k = i
       · rw [e', f3]; exact hs ps.length (by omega)
       · rw [f1 k e e']; exact hs k hk
theorem Gau.row {p : Int} {r u j : Nat} {ps : List Nat} {l0 l : List (List Int)} (h : Gau p r u j ps l0 l) {k : Nat} (hk : k < r) {row : List Int} (h1 : row.length = u + 1) (h2 : Els p row) (h3 : ∀ i (hi : i < ps.length), co row ps[i] = mx l k ps[i]) (h4 : ps.length ≤ k → ∀ m, m < j → co row m = 0) (h5 : ∀ x, Sol p r u (l.set k row) x ↔ Sol p r u l x) : Gau p r u j ps l0 (l.set k row) := by
 have lk : k < l.length := by rw [h.len]; exact hk
 refine ⟨(List.length_set ..).trans h.len, fun i hi => ?_, fun i hi => ?_, h.le, h.low, h.nd, fun i hi a ha => ?_, fun i m g1 g2 g3 => ?_, fun x => (h5 x).trans (h.sols x)⟩
 · rw [getD_set _ _ _ lk]; split
   · exact h1
   · exact h.cols _ hi
 · rw [getD_set _ _ _ lk]; split
   · exact h2
   · exact h.els _ hi
 · rw [mx_set lk]
   by_cases e : a = k
   · rw [if_pos e, h3 i hi, h.unit i hi k hk, e]
   · rw [if_neg e]; exact h.unit i hi a ha
 · rw [mx_set lk]
   by_cases e : i = k
   · rw [if_pos e]; exact h4 (by omega) m g3
   · rw [if_neg e]; exact h.zero i m g1 g2 g3
theorem els_co {p : Int} {row : List Int} (h : ∀ m, m < row.length → El p (co row m)) : Els p row := fun x hx => by
 obtain ⟨m, hm, rfl⟩ := List.mem_iff_getElem.1 hx
 have := h m hm
 rwa [co_at hm] at this
theorem low_lt {p : Int} {r u j : Nat} {ps : List Nat} {l0 l : List (List Int)} (h : Gau p r u j ps l0 l) {i : Nat} (hi : i < ps.length) : ps[i] < j := h.low _ (List.getElem_mem hi)
theorem Gau.one {p : Int} (hp : 0 < p) {r u j : Nat} {ps : List Nat} {l0 l : List (List Int)} (h : Gau p r u j ps l0 l) (hj : j ≤ u) (hn : ps.length < r) {y d : Int} (hd : p ∣ y * d - 1) {row : List Int} (h1 : row.length = u + 1) (h2 : ∀ m, m ≤ u → co row m = mul p (mx l ps.length m) d) : Gau p r u j ps l0 (l.set ps.length row) := by
 have lk : ps.length < l.length := by rw [h.len]; exact hn
 refine h.row hn h1 (els_co (fun m hm => by rw [h2 m (by omega)]; exact mul_el hp)) (fun i hi => ?_) (fun _ m hm => ?_) (fun x => ?_)
 · have := low_lt h hi
   rw [h2 _ (by omega), h.unit i hi _ hn, if_neg (by omega)]; unfold mul; simp
 · rw [h2 m (by omega), h.zero _ m (Nat.le_refl _) hn hm]; unfold mul; simp
 · have f1 : ∀ k, k ≠ ps.length → mx (l.set ps.length row) k = mx l k := fun k hk => funext fun m => by rw [mx_set lk, if_neg hk]
   have f2 : p ∣ Sf u (mx (l.set ps.length row) ps.length) x - d * Sf u (mx l ps.length) x := by
    rw [← sf_times]
    refine sf_dvd (fun m hm => ?_)
    rw [mx_set lk, if_pos rfl, h2 m hm, Int.mul_comm d]
    exact mod_sub p _
   constructor
   · intro hs k hk
     by_cases e : k = ps.length
     · have g1 := hs _ hn
       have g2 : p ∣ d * Sf u (mx l ps.length) x := (Int.dvd_iff_dvd_of_dvd_sub f2).1 g1
       have g3 : p ∣ y * (d * Sf u (mx l ps.length) x) := Int.dvd_trans g2 (Int.dvd_mul_left _ _)
       have g4 : p ∣ (y * d - 1) * Sf u (mx l ps.length) x := Int.dvd_trans hd (Int.dvd_mul_right _ _)
       rw [Int.sub_mul, Int.one_mul, Int.mul_assoc] at g4
       rw [e]; exact (Int.dvd_iff_dvd_of_dvd_sub g4).1 g3
     · have := hs k hk; rwa [f1 k e] at this
   · intro hs k hk
     by_cases e : k = ps.length
     · rw [e]; exact (Int.dvd_iff_dvd_of_dvd_sub f2).2 (Int.dvd_trans (hs _ hn) (Int.dvd_mul_left _ _))
     · rw [f1 k e]; exact hs k hk
theorem Gau.off {p : Int} (hp : 0 < p) {r u j : Nat} {ps : List Nat} {l0 l : List (List Int)} (h : Gau p r u j ps l0 l) (hj : j ≤ u) (hn : ps.length < r) {k : Nat} (hk : k < r) (hne : k ≠ ps.length) {c : Int} {row : List Int} (h1 : row.length = u + 1) (h2 : ∀ m, m ≤ u → co row m = sub p (mx l k m) (mul p c (mx l ps.length m))) : Gau p r u j ps l0 (l.set k row) := by
 have lk : k < l.length := by rw [h.len]; exact hk
 have same : ∀ m, m ≤ u → mx l ps.length m = 0 → co row m = mx l k m := fun m hm h0 => by
  rw [h2 m hm, h0]
  have he : El p (mx l k m) := (h.els k hk).co hp m
  unfold sub mul; rw [Int.mul_zero, Int.zero_emod, Int.sub_zero]; exact Int.emod_eq_of_lt he.1 he.2
 refine h.row hk h1 (els_co (fun m hm => by rw [h2 m (by omega)]; exact sub_el hp)) (fun i hi => ?_) (fun hge m hm => ?_) (fun x => ?_)
 · have := low_lt h hi
   exact same _ (by omega) (by rw [h.unit i hi _ hn, if_neg (by omega)])
 · rw [same m (by omega) (h.zero _ m (Nat.le_refl _) hn hm)]; exact h.zero k m hge hk hm
 · have f1 : ∀ i, i ≠ k → mx (l.set k row) i = mx l i := fun i hi => funext fun m => by rw [mx_set lk, if_neg hi]
   have f2 : p ∣ Sf u (mx (l.set k row) k) x - (Sf u (mx l k) x - c * Sf u (mx l ps.length) x) := by
    rw [← sf_off]
    refine sf_dvd (fun m hm => ?_)
    rw [mx_set lk, if_pos rfl, h2 m hm]
    unfold sub mul
    have e1 := mod_sub p (mx l k m - c * mx l ps.length m % p)
    have e2 := mod_sub p (c * mx l ps.length m)
    have e3 := Int.dvd_sub e1 e2
    rwa [show (mx l k m - c * mx l ps.length m % p) % p - (mx l k m - c * mx l ps.length m % p) - (c * mx l ps.length m % p - c * mx l ps.length m) = (mx l k m - c * mx l ps.length m % p) % p - (mx l k m - c * mx l ps.length m) by omega] at e3
   constructor
   · intro hs i hi
     have g0 := hs _ hn
     rw [f1 _ (fun e => hne e.symm)] at g0
     by_cases e : i = k
     · have g1 := (Int.dvd_iff_dvd_of_dvd_sub f2).1 (hs k hk)
       have g2 := Int.dvd_add g1 (Int.dvd_trans g0 (Int.dvd_mul_left c _))
       rw [Int.sub_add_cancel] at g2
       rw [e]; exact g2
     · have := hs i hi; rwa [f1 i e] at this
   · intro hs i hi
     by_cases e : i = k
     · rw [e]; exact (Int.dvd_iff_dvd_of_dvd_sub f2).2 (Int.dvd_sub (hs k hk) (Int.dvd_trans (hs _ hn) (Int.dvd_mul_left c _)))
     · rw [f1 i e]; exact hs i hi
theorem Gau.found {p : Int} {r u j : Nat} {ps : List Nat} {l0 l : List (List Int)} (h : Gau p r u j ps l0 l) (hn : ps.length < r) (h0 : ∀ k, k < r → mx l k j = if k = ps.length then 1 else 0) : Gau p r u (j + 1) (ps ++ [j]) l0 l := by
 refine ⟨h.len, h.cols, h.els, by rw [List.length_append, List.length_singleton]; exact hn, fun c hc => ?_, ?_, fun i hi k hk => ?_, fun k m g1 g2 g3 => ?_, h.sols⟩
 · rcases List.mem_append.1 hc with e | e
   · have := h.low c e; omega
   · rw [List.mem_singleton.1 e]; omega
 · refine List.nodup_append.2 ⟨h.nd, by simp, fun a ha b hb => ?_⟩
   have := h.low a ha
   rw [List.mem_singleton.1 hb]; omega
 · by_cases e : i < ps.length
   · rw [List.getElem_append_left e]; exact h.unit i e k hk
   · have hi' : i = ps.length := by rw [List.length_append, List.length_singleton] at hi; omega
     subst hi'
     rw [List.getElem_append_right (Nat.le_refl _)]
     simp only [Nat.sub_self, List.getElem_singleton]
     exact h0 k hk
 · rw [List.length_append, List.length_singleton] at g1
   by_cases e : m = j
   · rw [e, h0 k g2, if_neg (by omega)]
   · exact h.zero k m (by omega) g2 (by omega)
theorem Gau.none {p : Int} {r u j : Nat} {ps : List Nat} {l0 l : List (List Int)} (h : Gau p r u j ps l0 l) (h0 : ∀ k, ps.length ≤ k → k < r → mx l k j = 0) : Gau p r u (j + 1) ps l0 l :=
 ⟨h.len, h.cols, h.els, h.le, fun c hc => by have := h.low c hc; omega, h.nd, h.unit, fun k m g1 g2 g3 => by
  by_cases e : m = j
  · rw [e]; exact h0 k g1 g2
  · exact h.zero k m g1 g2 (by omega), h.sols⟩
theorem sf_zero {p : Int} {u : Nat} {a x : Nat → Int} (h : ∀ m, m < u → a m = 0) : Sf u a x = - a u := by
 unfold Sf
 rw [sm_congr (g := fun _ => (0 : Int)) (fun m hm => by rw [h m hm, Int.zero_mul]), sm_nought]; omega
theorem Gau.no {p : Int} (hp : 0 < p) {r u : Nat} {ps : List Nat} {l0 l : List (List Int)} (h : Gau p r u u ps l0 l) {i : Nat} (h1 : ps.length ≤ i) (h2 : i < r) (h3 : mx l i u ≠ 0) (x : Nat → Int) : ¬ Sol p r u l0 x := fun hs => by
 have := (h.sols x).2 hs i h2
 rw [sf_zero (p := p) (fun m hm => h.zero i m h1 h2 hm)] at this
 have h4 : p ∣ mx l i u := Int.dvd_neg.1 this
 have he : El p (mx l i u) := (h.els i h2).co hp u
 have g1 := he.1; have g2 := he.2
 have := Int.le_of_dvd (by omega) h4
 omega
theorem Gau.yes {p : Int} {r u : Nat} {ps : List Nat} {l0 l : List (List Int)} (h : Gau p r u (u + 1) ps l0 l) (hu : ∀ c ∈ ps, c < u) {x : Nat → Int} (h1 : ∀ i (hi : i < ps.length), x ps[i] = mx l i u) (h2 : ∀ m, m < u → m ∉ ps → x m = 0) : Sol p r u l0 x := by
 refine (h.sols x).1 (fun k hk => ?_)
 by_cases e : k < ps.length
 · have hc := hu _ (List.getElem_mem e)
   have e1 : sm (fun m => mx l k m * x m) u = mx l k u := by
    have e2 := sm_one (fun _ => (0 : Int)) ps[k] (mx l k u) u hc
    rw [sm_nought, Int.zero_add] at e2
    rw [← e2]
    refine sm_congr (fun m hm => ?_)
    by_cases c : m = ps[k]
    · rw [if_pos c, c, h.unit k e k hk, if_pos rfl, Int.one_mul, h1 k e]
    · rw [if_neg c]
      by_cases c2 : m ∈ ps
      · obtain ⟨i, hi, rfl⟩ := List.mem_iff_getElem.1 c2
        rw [h.unit i hi k hk, if_neg (fun e' => c (by subst e'; rfl)), Int.zero_mul]
      · rw [h2 m hm c2, Int.mul_zero]
   unfold Sf
   rw [e1, Int.sub_self]; exact ⟨0, by simp⟩
 · rw [sf_zero (p := p) (fun m hm => h.zero k m (by omega) hk (by omega)), h.zero k u (by omega) hk (by omega)]; exact ⟨0, by simp⟩
end Go.Proofs.Ytnapbdoalfbgnaa.Rnk
