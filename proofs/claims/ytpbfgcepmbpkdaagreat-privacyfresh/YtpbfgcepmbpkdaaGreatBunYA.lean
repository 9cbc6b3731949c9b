/- Texts laid together: GauA, GauB, GauC. -/
import Derived.Test.YtpbfgcepmbpkdaaGreatBunAB
import Derived.Test.YtpbfgcepmbpkdaaGreatBunP
namespace Go.Proofs.YtpbfgcepmbpkdaaGreat.Rnk
open Go.Proofs.YtpbfgcepmbpkdaaGreat.Fld
set_option linter.unusedVariables false

theorem bs_mid {p : Int} {wd : Bool} (hm : Md p wd) {xs ws : List Int} (hx : Els p xs) (hn : xs.Nodup) (hw : Els p ws) (hv : ws.Nodup) {a : Nat} (hl : a + ws.length ≤ xs.length) (hd : ∀ w ∈ ws, w ∉ xs) : Ind p ws.length ws.length (fun k m => bs p xs (co ws k) (a + m)) := by
  have hp : 0 < p := by have := hm.bounds; omega
  intro x h i hi
  have hz : Els p (xs.take a ++ xs.drop (a + ws.length) ++ ws.eraseIdx i) := fun z hz => by
    rcases List.mem_append.1 hz with h1 | h1
    · rcases List.mem_append.1 h1 with h1 | h1
      · exact hx z (List.mem_of_mem_take h1)
      · exact hx z (List.mem_of_mem_drop h1)
    · exact els_erase hw i z h1
  generalize hZ : xs.take a ++ xs.drop (a + ws.length) ++ ws.eraseIdx i = zs at hz
  have hzl : zs.length + 1 ≤ xs.length := by
    rw [← hZ, List.length_append, List.length_append, List.length_take, List.length_drop, List.length_eraseIdx_of_lt hi]; omega
  obtain ⟨t1, t2, t3⟩ := zl_facts hm zs
  have hT := Thr.of (p := p) (xs := xs) (T := zl p zs) t1 (by omega)
  have hv0 : Els p (xs.map (fun x => vl p x (zl p zs))) := fun y hy => by
    obtain ⟨u, _, rfl⟩ := List.mem_map.1 hy
    exact vl_el hp _ _
  have val := fun t => Thr.value hm hx hv0 hn hT t
  -- its values at the other places are noughts
  have y0 : ∀ j, j < xs.length → (j < a ∨ a + ws.length ≤ j) → co (xs.map (fun x => vl p x (zl p zs))) j = 0 := fun j hjl hj => by
    rw [co_at (by simpa using hjl), List.getElem_map]
    refine (zl_root hm (hx _ (List.getElem_mem hjl)) hz).2 ?_
    rw [← hZ]
    refine List.mem_append_left _ ?_
    rcases hj with hj | hj
    · exact List.mem_append_left _ (List.mem_iff_getElem.2 ⟨j, by rw [List.length_take]; omega, by rw [List.getElem_take]⟩)
    · refine List.mem_append_right _ (List.mem_iff_getElem.2 ⟨j - (a + ws.length), by rw [List.length_drop]; omega, ?_⟩)
      rw [List.getElem_drop]
      congr 1; omega
  generalize hY : co (xs.map (fun x => vl p x (zl p zs))) = Y at val y0
  have at_w : ∀ t, p ∣ vl p t (zl p zs) - sm (fun m => bs p xs t (a + m) * Y (a + m)) ws.length := fun t => by
    have h1 := ds_sm p (bs p xs t) Y xs.length
    rw [← val t] at h1
    have e : sm (fun k => bs p xs t k * Y k) xs.length = sm (fun m => bs p xs t (a + m) * Y (a + m)) ws.length := by
      have s1 := sm_split (fun k => bs p xs t k * Y k) (a + ws.length) (xs.length - (a + ws.length))
      rw [show a + ws.length + (xs.length - (a + ws.length)) = xs.length by omega] at s1
      rw [s1, sm_split (fun k => bs p xs t k * Y k) a ws.length]
      rw [sm_congr (f := fun m => (fun k => bs p xs t k * Y k) (a + ws.length + m)) (g := fun _ => (0 : Int)) (fun k hk => by
        show bs p xs t (a + ws.length + k) * Y (a + ws.length + k) = 0
        rw [y0 _ (by omega) (by omega), Int.mul_zero])]
      rw [sm_congr (f := fun k => bs p xs t k * Y k) (n := a) (g := fun _ => (0 : Int)) (fun k hk => by
        rw [y0 k (by omega) (by omega), Int.mul_zero])]
      rw [sm_nought, sm_nought, Int.zero_add, Int.add_zero]
    rwa [e] at h1
  have all : p ∣ sm (fun k => x k * vl p (co ws k) (zl p zs)) ws.length := by
    have h1 : p ∣ sm (fun k => x k * vl p (co ws k) (zl p zs)) ws.length - sm (fun k => x k * sm (fun m => bs p xs (co ws k) (a + m) * Y (a + m)) ws.length) ws.length := sm_dvd (fun k hk => by
      rw [← Int.mul_sub]; exact Int.dvd_trans (at_w _) (Int.dvd_mul_left _ _))
    have h2 : p ∣ sm (fun k => x k * sm (fun m => bs p xs (co ws k) (a + m) * Y (a + m)) ws.length) ws.length := by
      rw [sm_congr (g := fun k => sm (fun m => x k * (bs p xs (co ws k) (a + m) * Y (a + m))) ws.length) (fun k hk => sm_times _ _ _), sm_sm]
      refine sm_zero (fun m hm' => ?_)
      rw [sm_congr (g := fun k => Y (a + m) * (x k * bs p xs (co ws k) (a + m))) (fun k hk => by rw [← Int.mul_assoc, Int.mul_comm]), ← sm_times]
      exact Int.dvd_trans (h m hm') (Int.dvd_mul_left _ _)
    have := Int.dvd_add h1 h2
    rwa [Int.sub_add_cancel] at this
  have one : sm (fun k => x k * vl p (co ws k) (zl p zs)) ws.length = x i * vl p (co ws i) (zl p zs) := by
    have e := sm_one (fun _ => (0 : Int)) i (x i * vl p (co ws i) (zl p zs)) ws.length hi
    rw [sm_nought, Int.zero_add] at e
    rw [← e]
    refine sm_congr (fun k hk => ?_)
    by_cases c : k = i
    · rw [if_pos c, c]
    · rw [if_neg c]
      have : vl p (co ws k) (zl p zs) = 0 := by
        rw [co_at hk]
        refine (zl_root hm (hw _ (List.getElem_mem hk)) hz).2 ?_
        rw [← hZ]
        exact List.mem_append_right _ (mem_erase hi hk c)
      rw [this, Int.mul_zero]
  rw [one] at all
  have un : Un p (vl p (co ws i) (zl p zs)) := ⟨vl_el hp _ _, fun e => by
    have := (zl_root hm (hw.co hp i) hz).1 e
    rw [← hZ, co_at hi] at this
    rcases List.mem_append.1 this with h1 | h1
    · rcases List.mem_append.1 h1 with h1 | h1
      · exact hd _ (List.getElem_mem hi) (List.mem_of_mem_take h1)
      · exact hd _ (List.getElem_mem hi) (List.mem_of_mem_drop h1)
    · exact not_mem_erase hi hv h1⟩
  have e := mul_inv hm _ un.1 un.2
  unfold Fld.mul at e
  have h3 : p ∣ x i * vl p (co ws i) (zl p zs) * inv p (vl p (co ws i) (zl p zs)) := Int.dvd_trans all (Int.dvd_mul_right _ _)
  rw [Int.mul_assoc] at h3
  have h4 := Int.mul_ediv_add_emod (vl p (co ws i) (zl p zs) * inv p (vl p (co ws i) (zl p zs))) p
  rw [e] at h4
  rw [← h4, Int.mul_add, Int.mul_one] at h3
  have h5 : p ∣ x i * (p * (vl p (co ws i) (zl p zs) * inv p (vl p (co ws i) (zl p zs)) / p)) := by
    rw [Int.mul_left_comm]; exact Int.dvd_mul_right _ _
  exact (Int.dvd_add_right h5).1 h3

theorem mod_dvd (p a : Int) : p ∣ a % p - a := ⟨-(a / p), by rw [Int.mul_neg]; have := Int.mul_ediv_add_emod a p; omega⟩
/-- A row made so many times what it was, and back by another factor. -/
theorem ind_scale {p : Int} {r c : Nat} {M : Nat → Nat → Int} {a : Nat} (ha : a < r) (s t : Int) (hst : p ∣ s * t - 1) (hi : Ind p r c M) : Ind p r c (fun k m => if k = a then M a m * s else M k m) := by
  intro x hx
  have key := hi (fun k => if k = a then x a * s else x k) (fun m hm => by
    have h1 := hx m hm
    have e : sm (fun k => (if k = a then x a * s else x k) * M k m) r = sm (fun k => x k * (if k = a then M a m * s else M k m)) r := sm_congr (fun k hk => by
      by_cases e : k = a
      · rw [if_pos e, if_pos e, e, Int.mul_assoc, Int.mul_comm s]
      · rw [if_neg e, if_neg e])
    rw [e]; exact h1)
  intro k hk
  have := key k hk
  by_cases e : k = a
  · rw [if_pos e] at this
    have h1 : p ∣ x a * s * t := Int.dvd_trans this (Int.dvd_mul_right _ _)
    have h2 : p ∣ x a * (s * t - 1) := Int.dvd_trans hst (Int.dvd_mul_left _ _)
    have h3 := Int.dvd_sub h1 h2
    rw [Int.mul_sub, Int.mul_one, Int.mul_assoc] at h3
    rw [e]
    rwa [show x a * (s * t) - (x a * (s * t) - x a) = x a by omega] at h3
  · rwa [if_neg e] at this
theorem ind_part {p : Int} {r c : Nat} {M N : Nat → Nat → Int} (h : ∀ k m, k < r → m < c → M k m = N k m) (hi : Ind p r c M) : Ind p r c N :=
  ind_cong (fun k m hk hm => by rw [h k m hk hm, Int.sub_self]; exact ⟨0, by simp⟩) hi

/-- What is kept while equations are solved: T of them, with W places to the right of the T factors; X is what is looked for; the first i unknown ones stand alone. -/
structure Slv (p : Int) (T W : Nat) (X : Nat → Nat → Int) (i : Nat) (A : Nat → Nat → Int) : Prop where
  els : ∀ r m, r < T → m < T + W → El p (A r m)
  ind : ∀ n, n ≤ T → Ind p n n A
  unit : ∀ r m, r < T → m < i → A r m = if r = m then 1 else 0
  sol : ∀ r w, r < T → w < W → p ∣ sm (fun t => A r t * X t w) T - A r (T + w)
theorem Slv.pivot {p : Int} (hp : 1 < p) {T W : Nat} {X : Nat → Nat → Int} {i : Nat} {A : Nat → Nat → Int} (h : Slv p T W X i A) (hi : i < T) : Un p (A i i) := by
  refine ⟨h.els i i hi (by omega), fun e => ind_some hp (h.ind (i + 1) (by omega)) (a := i) (by omega) (fun m hm => ?_)⟩
  by_cases c : m = i
  · rw [c, e]; exact ⟨0, by simp⟩
  · rw [h.unit i m hi (by omega), if_neg (fun e => c e.symm)]; exact ⟨0, by simp⟩
/-- Within a round: the row i has its 1, and the first j others have a nought there. -/
structure Slw (p : Int) (T W : Nat) (X : Nat → Nat → Int) (i j : Nat) (A : Nat → Nat → Int) : Prop extends Slv p T W X i A where
  one : A i i = 1
  none : ∀ r, r < T → r < j → r ≠ i → A r i = 0
/-- The row i scaled. -/
theorem Slv.scale {p : Int} {wd : Bool} (hm : Md p wd) {T W : Nat} {X : Nat → Nat → Int} {i : Nat} {A B : Nat → Nat → Int} (h : Slv p T W X i A) (hi : i < T) (hB : ∀ r m, r < T → m < T + W → B r m = if r = i ∧ i ≤ m then mul p (A i m) (inv p (A i i)) else A r m) : Slw p T W X i 0 B := by
  have hp : 0 < p := by have := hm.bounds; omega
  have hp1 : 1 < p := by have := hm.bounds; omega
  have un := h.pivot hp1 hi
  have e := mul_inv hm _ un.1 un.2
  have hB2 : ∀ r m, r < T → m < T + W → B r m = if r = i then mul p (A i m) (inv p (A i i)) else A r m := fun r m h1 h2 => by
    rw [hB r m h1 h2]
    by_cases c : r = i
    · by_cases c2 : i ≤ m
      · rw [if_pos ⟨c, c2⟩, if_pos c]
      · rw [if_neg (fun x => c2 x.2), if_pos c, c, h.unit i m hi (by omega), if_neg (by omega)]
        unfold mul; simp
    · rw [if_neg (fun x => c x.1), if_neg c]
  have hst : p ∣ inv p (A i i) * A i i - 1 := by
    have := mod_dvd p (A i i * inv p (A i i))
    unfold mul at e
    rw [e, Int.mul_comm] at this
    have := (Int.dvd_neg).2 this
    rwa [Int.neg_sub] at this
  refine ⟨⟨fun r m h1 h2 => ?_, fun n hn => ?_, fun r m h1 h2 => ?_, fun r w h1 h2 => ?_⟩, ?_, fun r _ h1 => absurd h1 (by omega)⟩
  · rw [hB2 r m h1 h2]; split
    · exact mul_el hp
    · exact h.els r m h1 h2
  · by_cases c : i < n
    · refine ind_cong (fun k m hk hm' => ?_) (ind_scale c (inv p (A i i)) (A i i) hst (h.ind n hn))
      rw [hB2 k m (by omega) (by omega)]
      by_cases c2 : k = i
      · rw [if_pos c2, if_pos c2]
        have := (Int.dvd_neg).2 (mod_dvd p (A i m * inv p (A i i)))
        rwa [Int.neg_sub] at this
      · rw [if_neg c2, if_neg c2, Int.sub_self]; exact ⟨0, by simp⟩
    · refine ind_part (fun k m hk hm' => ?_) (h.ind n hn)
      rw [hB2 k m (by omega) (by omega), if_neg (by omega)]
  · rw [hB2 r m h1 (by omega)]
    by_cases c : r = i
    · rw [if_pos c, h.unit i m hi h2, if_neg (by omega), if_neg (by omega)]; unfold mul; simp
    · rw [if_neg c]; exact h.unit r m h1 h2
  · rw [hB2 r (T + w) h1 (by omega)]
    by_cases c : r = i
    · rw [if_pos c]
      have s := h.sol i w hi h2
      have s1 : p ∣ inv p (A i i) * (sm (fun t => A i t * X t w) T - A i (T + w)) := Int.dvd_trans s (Int.dvd_mul_left _ _)
      rw [Int.mul_sub, sm_times] at s1
      have s2 : p ∣ sm (fun t => B r t * X t w) T - sm (fun t => inv p (A i i) * (A i t * X t w)) T := sm_dvd (fun t ht => by
        rw [hB2 r t h1 (by omega), if_pos c]
        have := mod_dvd p (A i t * inv p (A i i))
        rw [show mul p (A i t) (inv p (A i i)) * X t w - inv p (A i i) * (A i t * X t w) = (A i t * inv p (A i i) % p - A i t * inv p (A i i)) * X t w by
          unfold mul; rw [Int.sub_mul]; congr 1; rw [← Int.mul_assoc, Int.mul_comm (inv p (A i i))]]
        exact Int.dvd_trans this (Int.dvd_mul_right _ _))
      have s3 := (Int.dvd_neg).2 (mod_dvd p (A i (T + w) * inv p (A i i)))
      have := Int.dvd_add (Int.dvd_add s1 s2) s3
      unfold mul
      rw [Int.mul_comm (inv p (A i i)) (A i (T + w))] at this
      rwa [show sm (fun t => inv p (A i i) * (A i t * X t w)) T - A i (T + w) * inv p (A i i) + (sm (fun t => B r t * X t w) T - sm (fun t => inv p (A i i) * (A i t * X t w)) T) + -(A i (T + w) * inv p (A i i) % p - A i (T + w) * inv p (A i i)) = sm (fun t => B r t * X t w) T - A i (T + w) * inv p (A i i) % p by omega] at this
    · rw [if_neg c, sm_congr (g := fun t => A r t * X t w) (fun t ht => by rw [hB2 r t h1 (by omega), if_neg c])]
      exact h.sol r w h1 h2
  · rw [hB2 i i hi (by omega), if_pos rfl]; exact e
theorem Slw.skip {p : Int} {T W : Nat} {X : Nat → Nat → Int} {i : Nat} {A : Nat → Nat → Int} (h : Slw p T W X i i A) : Slw p T W X i (i + 1) A :=
  ⟨h.toSlv, h.one, fun r h1 h2 h3 => h.none r h1 (by omega) h3⟩
/-- So many times the row i taken off the row j. -/
theorem Slw.off {p : Int} {wd : Bool} (hm : Md p wd) {T W : Nat} {X : Nat → Nat → Int} {i j : Nat} {A B : Nat → Nat → Int} (h : Slw p T W X i j A) (hi : i < T) (hj : j < T) (hij : j ≠ i) (hB : ∀ r m, r < T → m < T + W → B r m = if r = j ∧ i ≤ m then sub p (A j m) (mul p (A j i) (A i m)) else A r m) : Slw p T W X i (j + 1) B := by
  have hp : 0 < p := by have := hm.bounds; omega
  have hB2 : ∀ r m, r < T → m < T + W → p ∣ B r m - (if r = j then A j m - A j i * A i m else A r m) := fun r m h1 h2 => by
    rw [hB r m h1 h2]
    by_cases c : r = j
    · by_cases c2 : i ≤ m
      · rw [if_pos ⟨c, c2⟩, if_pos c]
        unfold sub mul
        have a1 := mod_dvd p (A j m - A j i * A i m % p)
        have a2 := (Int.dvd_neg).2 (mod_dvd p (A j i * A i m))
        have := Int.dvd_add a1 a2
        rwa [show (A j m - A j i * A i m % p) % p - (A j m - A j i * A i m % p) + -(A j i * A i m % p - A j i * A i m) = (A j m - A j i * A i m % p) % p - (A j m - A j i * A i m) by omega] at this
      · rw [if_neg (fun x => c2 x.2), if_pos c, c, h.unit i m hi (by omega), if_neg (by omega)]
        exact ⟨0, by simp⟩
    · rw [if_neg (fun x => c x.1), if_neg c, Int.sub_self]; exact ⟨0, by simp⟩
  have hel : ∀ r m, r < T → m < T + W → El p (B r m) := fun r m h1 h2 => by
    rw [hB r m h1 h2]; split
    · exact sub_el hp
    · exact h.els r m h1 h2
  refine ⟨⟨hel, fun n hn => ?_, fun r m h1 h2 => ?_, fun r w h1 h2 => ?_⟩, ?_, fun r h1 h2 h3 => ?_⟩
  · by_cases c : j < n
    · by_cases c2 : i < n
      · refine ind_cong (fun k m hk hm' => ?_) (ind_off c c2 hij (A j i) (h.ind n hn))
        have := (Int.dvd_neg).2 (hB2 k m (by omega) (by omega))
        rwa [Int.neg_sub] at this
      · refine ind_part (fun k m hk hm' => ?_) (h.ind n hn)
        rw [hB k m (by omega) (by omega), if_neg (by omega)]
    · refine ind_part (fun k m hk hm' => ?_) (h.ind n hn)
      rw [hB k m (by omega) (by omega), if_neg (by omega)]
  · rw [hB r m h1 (by omega), if_neg (by omega)]; exact h.unit r m h1 h2
  · by_cases c : r = j
    · subst c
      have s1 := h.sol r w h1 h2
      have s2 : p ∣ A r i * (sm (fun t => A i t * X t w) T - A i (T + w)) := Int.dvd_trans (h.sol i w hi h2) (Int.dvd_mul_left _ _)
      rw [Int.mul_sub, sm_times] at s2
      have s3 : p ∣ sm (fun t => B r t * X t w) T - sm (fun t => A r t * X t w + -(A r i * (A i t * X t w))) T := sm_dvd (fun t ht => by
        have := hB2 r t h1 (by omega)
        rw [if_pos rfl] at this
        rw [show B r t * X t w - (A r t * X t w + -(A r i * (A i t * X t w))) = (B r t - (A r t - A r i * A i t)) * X t w by
          rw [Int.sub_mul, Int.sub_mul, Int.mul_assoc]; omega]
        exact Int.dvd_trans this (Int.dvd_mul_right _ _))
      rw [sm_add] at s3
      have s4 : sm (fun t => -(A r i * (A i t * X t w))) T = -sm (fun t => A r i * (A i t * X t w)) T := by
        have := sm_times (-1) (fun t => A r i * (A i t * X t w)) T
        rw [Int.neg_mul, Int.one_mul] at this
        rw [this]
        exact sm_congr (fun t ht => by rw [Int.neg_mul, Int.one_mul])
      rw [s4] at s3
      have s5 := hB2 r (T + w) h1 (by omega)
      rw [if_pos rfl] at s5
      have := Int.dvd_sub (Int.dvd_sub (Int.dvd_add s3 s1) s2) s5
      rwa [show sm (fun t => B r t * X t w) T - (sm (fun t => A r t * X t w) T + -sm (fun t => A r i * (A i t * X t w)) T) + (sm (fun t => A r t * X t w) T - A r (T + w)) - (sm (fun k => A r i * (A i k * X k w)) T - A r i * A i (T + w)) - (B r (T + w) - (A r (T + w) - A r i * A i (T + w))) = sm (fun t => B r t * X t w) T - B r (T + w) by omega] at this
    · rw [sm_congr (g := fun t => A r t * X t w) (fun t ht => by rw [hB r t h1 (by omega), if_neg (fun x => c x.1)]), hB r (T + w) h1 (by omega), if_neg (fun x => c x.1)]
      exact h.sol r w h1 h2
  · rw [hB i i hi (by omega), if_neg (fun x => hij x.1.symm)]; exact h.one
  · rw [hB r i h1 (by omega)]
    by_cases c : r = j
    · rw [if_pos ⟨c, Nat.le_refl _⟩, h.one]
      unfold sub mul
      obtain ⟨e1, e2⟩ := h.els j i hj (by omega)
      rw [Int.mul_one, Int.emod_eq_of_lt e1 e2, Int.sub_self]; rfl
    · rw [if_neg (fun x => c x.1)]; exact h.none r h1 (by omega) h3
theorem Slw.next {p : Int} {T W : Nat} {X : Nat → Nat → Int} {i : Nat} {A : Nat → Nat → Int} (h : Slw p T W X i T A) (hi : i < T) : Slv p T W X (i + 1) A :=
  ⟨h.els, h.ind, fun r m h1 h2 => by
    by_cases c : m = i
    · subst c
      by_cases c2 : r = m
      · rw [if_pos c2, c2]; exact h.one
      · rw [if_neg c2]; exact h.none r h1 h1 c2
    · exact h.unit r m h1 (by omega), h.sol⟩
/-- What is found. -/
theorem Slv.found {p : Int} {wd : Bool} (hm : Md p wd) {T W : Nat} {X : Nat → Nat → Int} {A : Nat → Nat → Int} (h : Slv p T W X T A) (hX : ∀ t w, t < T → w < W → El p (X t w)) {r w : Nat} (hr : r < T) (hw : w < W) : A r (T + w) = X r w := by
  have s := h.sol r w hr hw
  have e : sm (fun t => A r t * X t w) T = X r w := by
    have e := sm_one (fun _ => (0 : Int)) r (X r w) T hr
    rw [sm_nought, Int.zero_add] at e
    rw [← e]
    refine sm_congr (fun t ht => ?_)
    rw [h.unit r t hr ht]
    by_cases c : t = r
    · rw [if_pos c.symm, if_pos c, c, Int.one_mul]
    · rw [if_neg (fun e => c e.symm), if_neg c, Int.zero_mul]
  rw [e] at s
  obtain ⟨a1, a2⟩ := hX r w hr hw
  obtain ⟨b1, b2⟩ := h.els r (T + w) hr (by omega)
  have s' := Int.emod_emod_of_dvd (X r w) (Int.dvd_refl p)
  have := Int.emod_eq_emod_iff_emod_sub_eq_zero.2 (Int.emod_eq_zero_of_dvd s)
  rw [Int.emod_eq_of_lt a1 a2, Int.emod_eq_of_lt b1 b2] at this
  exact this.symm

end Go.Proofs.YtpbfgcepmbpkdaaGreat.Rnk

namespace Go.Proofs.YtpbfgcepmbpkdaaGreat.Rnk
open Go.Proofs.YtpbfgcepmbpkdaaGreat.Fld
set_option linter.unusedVariables false

/-- A list in which a piece is another one. -/
def seg (zs : List Int) (o n : Nat) (f : Nat → Int) : List Int := mk zs.length (fun k => if o ≤ k ∧ k < o + n then f (k - o) else co zs k)
theorem seg_len (zs : List Int) (o n : Nat) (f : Nat → Int) : (seg zs o n f).length = zs.length := mk_len _ _
theorem seg_co {zs : List Int} {o n : Nat} {f : Nat → Int} {k : Nat} (hk : k < zs.length) : co (seg zs o n f) k = if o ≤ k ∧ k < o + n then f (k - o) else co zs k := by
  unfold seg; rw [co_mk, if_pos hk]
theorem seg_zero (zs : List Int) (o : Nat) (f : Nat → Int) : seg zs o 0 f = zs := ext_co (seg_len _ _ _ _) (fun k hk => by
  rw [seg_len] at hk
  rw [seg_co hk, if_neg (by omega)])
theorem seg_set {zs : List Int} {o k : Nat} {f : Nat → Int} (h : o + k < zs.length) : (seg zs o k f).set (o + k) (f k) = seg zs o (k + 1) f := ext_co (by rw [List.length_set, seg_len, seg_len]) (fun i hi => by
  rw [List.length_set, seg_len] at hi
  show ((seg zs o k f).set (o + k) (f k)).getD i 0 = _
  rw [getD_set _ _ _ (by rw [seg_len]; exact h)]
  show (if i = o + k then f k else co (seg zs o k f) i) = _
  rw [seg_co hi, seg_co hi]
  by_cases c : i = o + k
  · rw [if_pos c, if_pos (by omega), c, Nat.add_sub_cancel_left]
  · rw [if_neg c]
    by_cases c2 : o ≤ i ∧ i < o + k
    · rw [if_pos c2, if_pos (by omega)]
    · rw [if_neg c2, if_neg (by omega)])
theorem seg_here {zs : List Int} {o k j : Nat} {f : Nat → Int} (h : o + j < zs.length) (hj : k ≤ j) : co (seg zs o k f) (o + j) = co zs (o + j) := by
  rw [seg_co h, if_neg (by omega)]
theorem seg_els {p : Int} (hp : 0 < p) {zs : List Int} {o n : Nat} {f : Nat → Int} (h : Els p zs) (hf : ∀ k, k < n → El p (f k)) : Els p (seg zs o n f) := Els.mk _ (fun k hk => by
  split
  · exact hf _ (by omega)
  · exact h.co hp k)
/-- Entries of rows that lie one behind the other. -/
def fl (s : Nat) (zs : List Int) (r m : Nat) : Int := co zs (r * s + m)
theorem fl_lt {T s r m : Nat} (hr : r < T) (hm : m < s) : r * s + m < T * s := by
  have : (r + 1) * s ≤ T * s := Nat.mul_le_mul_right s (by omega)
  rw [Nat.add_mul, Nat.one_mul] at this
  omega
theorem fl_end {T s r m : Nat} (hr : r < T) (hm : m ≤ s) : r * s + m ≤ T * s := by
  have : (r + 1) * s ≤ T * s := Nat.mul_le_mul_right s (by omega)
  rw [Nat.add_mul, Nat.one_mul] at this
  omega
theorem fl_apart {s r j m i : Nat} (hm : m < s) (hi : i ≤ s) : (j * s + i ≤ r * s + m ∧ r * s + m < j * s + i + (s - i)) ↔ (r = j ∧ i ≤ m) := by
  constructor
  · rintro ⟨h1, h2⟩
    have hr : r = j := by
      rcases Nat.lt_trichotomy r j with c | c | c
      · have := fl_lt c hm; omega
      · exact c
      · have := fl_end (m := s) c (Nat.le_refl s)
        omega
    subst hr
    exact ⟨rfl, by omega⟩
  · rintro ⟨rfl, h⟩
    omega
theorem fl_seg {T s : Nat} {zs : List Int} (hl : zs.length = T * s) {j i : Nat} (hi : i ≤ s) (f : Nat → Int) {r m : Nat} (hr : r < T) (hm : m < s) : fl s (seg zs (j * s + i) (s - i) f) r m = if r = j ∧ i ≤ m then f (m - i) else fl s zs r m := by
  unfold fl
  rw [seg_co (by rw [hl]; exact fl_lt hr hm)]
  by_cases c : r = j ∧ i ≤ m
  · rw [if_pos c, if_pos ((fl_apart hm hi).2 c)]
    obtain ⟨rfl, h⟩ := c
    congr 1; omega
  · rw [if_neg c, if_neg (fun h => c ((fl_apart hm hi).1 h))]
/-- A piece of a row. -/
theorem fl_mid {T s : Nat} {zs : List Int} (hl : zs.length = T * s) {j i n : Nat} (hi : i + n ≤ s) (f : Nat → Int) {r m : Nat} (hr : r < T) (hm : m < s) : fl s (seg zs (j * s + i) n f) r m = if r = j ∧ i ≤ m ∧ m < i + n then f (m - i) else fl s zs r m := by
  unfold fl
  rw [seg_co (by rw [hl]; exact fl_lt hr hm)]
  by_cases c : r = j ∧ i ≤ m ∧ m < i + n
  · obtain ⟨rfl, h1, h2⟩ := c
    rw [if_pos (show r * s + i ≤ r * s + m ∧ r * s + m < r * s + i + n from ⟨by omega, by omega⟩), if_pos (show r = r ∧ i ≤ m ∧ m < i + n from ⟨rfl, h1, h2⟩)]
    congr 1; omega
  · have hc : ¬ (j * s + i ≤ r * s + m ∧ r * s + m < j * s + i + n) := fun h => by
      obtain ⟨c1, c2⟩ := (fl_apart (j := j) (i := i) hm (by omega)).1 ⟨h.1, by omega⟩
      subst c1
      exact c ⟨rfl, c2, by omega⟩
    rw [if_neg c, if_neg hc]

end Go.Proofs.YtpbfgcepmbpkdaaGreat.Rnk

namespace Go.Proofs.YtpbfgcepmbpkdaaGreat.Rnk
open Go.Proofs.YtpbfgcepmbpkdaaGreat.Fld
set_option linter.unusedVariables false

/-- A piece made so many times what it was. -/
def scl (q : Int) (zs : List Int) (o n : Nat) (c : Int) : List Int := seg zs o n (fun k => mul q (co zs (o + k)) c)
/-- So many times a piece taken off another one. -/
def tko (q : Int) (zs : List Int) (o n : Nat) (c : Int) (o2 : Nat) : List Int := seg zs o n (fun k => sub q (co zs (o + k)) (mul q c (co zs (o2 + k))))
structure Ev (q : Int) (T W s : Nat) (X : Nat → Nat → Int) (i : Nat) (zs : List Int) : Prop where
  els : Els q zs
  len : zs.length = T * s
  slv : Slv q T W X i (fl s zs)
structure Ew (q : Int) (T W s : Nat) (X : Nat → Nat → Int) (i j : Nat) (zs : List Int) : Prop where
  els : Els q zs
  len : zs.length = T * s
  slw : Slw q T W X i j (fl s zs)
theorem Ev.scale {q : Int} {wd : Bool} (hm : Md q wd) {T W s : Nat} (hs : s = T + W) {X : Nat → Nat → Int} {i : Nat} {zs : List Int} (h : Ev q T W s X i zs) (hi : i < T) : Ew q T W s X i 0 (scl q zs (i * s + i) (s - i) (inv q (co zs (i * s + i)))) := by
  have hp : 0 < q := by have := hm.bounds; omega
  refine ⟨seg_els hp h.els (fun k hk => mul_el hp), by unfold scl; rw [seg_len]; exact h.len, ?_⟩
  refine h.slv.scale hm hi (fun r m hr hm' => ?_)
  unfold scl
  rw [fl_seg h.len (by omega) _ hr (by omega)]
  by_cases c : r = i ∧ i ≤ m
  · rw [if_pos c, if_pos c]
    show mul q (co zs (i * s + i + (m - i))) _ = mul q (co zs (i * s + m)) _
    rw [show i * s + i + (m - i) = i * s + m by omega]; rfl
  · rw [if_neg c, if_neg c]
theorem Ew.skip {q : Int} {T W s : Nat} {X : Nat → Nat → Int} {i : Nat} {zs : List Int} (h : Ew q T W s X i i zs) : Ew q T W s X i (i + 1) zs := ⟨h.els, h.len, h.slw.skip⟩
theorem Ew.off {q : Int} {wd : Bool} (hm : Md q wd) {T W s : Nat} (hs : s = T + W) {X : Nat → Nat → Int} {i j : Nat} {zs : List Int} (h : Ew q T W s X i j zs) (hi : i < T) (hj : j < T) (hij : j ≠ i) : Ew q T W s X i (j + 1) (tko q zs (j * s + i) (s - i) (co zs (j * s + i)) (i * s + i)) := by
  have hp : 0 < q := by have := hm.bounds; omega
  refine ⟨seg_els hp h.els (fun k hk => sub_el hp), by unfold tko; rw [seg_len]; exact h.len, ?_⟩
  refine h.slw.off hm hi hj hij (fun r m hr hm' => ?_)
  unfold tko
  rw [fl_seg h.len (by omega) _ hr (by omega)]
  by_cases c : r = j ∧ i ≤ m
  · rw [if_pos c, if_pos c]
    show sub q (co zs (j * s + i + (m - i))) (mul q _ (co zs (i * s + i + (m - i)))) = sub q (co zs (j * s + m)) (mul q (co zs (j * s + i)) (co zs (i * s + m)))
    rw [show j * s + i + (m - i) = j * s + m by omega, show i * s + i + (m - i) = i * s + m by omega]
  · rw [if_neg c, if_neg c]
theorem Ew.next {q : Int} {T W s : Nat} {X : Nat → Nat → Int} {i : Nat} {zs : List Int} (h : Ew q T W s X i T zs) (hi : i < T) : Ev q T W s X (i + 1) zs := ⟨h.els, h.len, h.slw.next hi⟩
/-- What stands to the right at the end. -/
theorem Ev.found {q : Int} {wd : Bool} (hm : Md q wd) {T W s : Nat} {X : Nat → Nat → Int} {zs : List Int} (h : Ev q T W s X T zs) (hX : ∀ t w, t < T → w < W → El q (X t w)) {r w : Nat} (hr : r < T) (hw : w < W) : co zs (r * s + T + w) = X r w := by
  have := h.slv.found hm hX hr hw
  rw [show r * s + T + w = r * s + (T + w) by omega]
  exact this
theorem rows_apart {T s i j : Nat} (hij : j ≠ i) {m : Nat} (hm : m ≤ s) : i * s + m + (s - m) ≤ j * s + m ∨ j * s + m + (s - m) ≤ i * s + m := by
  rcases Nat.lt_or_gt_of_ne hij with c | c
  · right
    have := fl_end (T := i) (s := s) (r := j) (m := s) c (Nat.le_refl s)
    omega
  · left
    have := fl_end (T := j) (s := s) (r := i) (m := s) c (Nat.le_refl s)
    omega

end Go.Proofs.YtpbfgcepmbpkdaaGreat.Rnk

