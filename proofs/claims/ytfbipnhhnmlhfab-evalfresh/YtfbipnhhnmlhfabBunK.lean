/- Texts laid together: EvlD, EvlE. -/
import Derived.Test.YtfbipnhhnmlhfabBEvlC
import Derived.Test.YtfbipnhhnmlhfabBunH
namespace Go.Proofs.Ytfbipnhhnmlhfab
open Go.RowKit Fld Slp
set_option linter.unusedVariables false
set_option linter.unusedSimpArgs false

/-- Which of two errors goes ahead. -/
def ahd (d e : Int) : Int := if d = 0 ∨ (e ≠ 0 ∧ e < d) then e else d
theorem ahd_zero {d e : Int} (h : ahd d e = 0) : d = 0 ∧ e = 0 := by
  unfold ahd at h
  split at h
  · rename_i h1; omega
  · rename_i h1; omega
theorem ahd_fold : ∀ (es : List Int) (d : Int), (∀ e ∈ es, e = 0 ∨ e = 2 ∨ e = 3) → (d = 0 ∨ d = 2 ∨ d = 3 ∨ d = 4) → es.foldl ahd d = if d = 2 ∨ 2 ∈ es then 2 else if d = 3 ∨ 3 ∈ es then 3 else d
  | [], d, _, hd => by
    rcases hd with rfl | rfl | rfl | rfl <;> simp
  | e :: es, d, he, hd => by
    have h0 := he e (by simp)
    rw [List.foldl_cons, ahd_fold es (ahd d e) (fun x hx => he x (List.mem_cons_of_mem _ hx)) (by unfold ahd; split <;> omega)]
    by_cases h2 : (2 : Int) ∈ es
    · simp [h2]
    · by_cases h3 : (3 : Int) ∈ es
      · rcases hd with rfl | rfl | rfl | rfl <;> rcases h0 with rfl | rfl | rfl <;> simp [ahd, h2, h3]
      · rcases hd with rfl | rfl | rfl | rfl <;> rcases h0 with rfl | rfl | rfl <;> simp [ahd, h2, h3]
/-- The error behind so many rows. -/
def erK (f : Int) (q : Pr) (e0 : Int) (xss : List (List Int)) (k : Nat) : Int := ((xss.take k).map (rwE f q)).foldl ahd e0
theorem erK_next (f : Int) (q : Pr) (e0 : Int) {xss : List (List Int)} {k : Nat} (h : k < xss.length) : erK f q e0 xss (k + 1) = ahd (erK f q e0 xss k) (rwE f q (xss.getD k [])) := by
  unfold erK
  rw [List.take_succ_eq_append_getElem h, List.map_append, List.foldl_append, List.getD_eq_getElem?_getD, List.getElem?_eq_getElem h]; rfl
theorem erK_zero (f : Int) (q : Pr) (e0 : Int) (xss : List (List Int)) : ∀ k, k ≤ xss.length → erK f q e0 xss k = 0 → e0 = 0 ∧ ∀ i, i < k → rwE f q (xss.getD i []) = 0
  | 0, _, h => ⟨h, fun i hi => by omega⟩
  | k + 1, hk, h => by
    rw [erK_next f q e0 (by omega)] at h
    obtain ⟨h1, h2⟩ := ahd_zero h
    obtain ⟨h3, h4⟩ := erK_zero f q e0 xss k (by omega) h1
    refine ⟨h3, fun i hi => ?_⟩
    by_cases e : i = k
    · rw [e]; exact h2
    · exact h4 i (by omega)
/-- The rows' own error; Many's; what it answers. -/
def maR (f : Int) (q : Pr) (xss : List (List Int)) : Int := if 2 ∈ xss.map (rwE f q) then 2 else if 3 ∈ xss.map (rwE f q) then 3 else 0
def maE (f : Int) (q : Pr) (xss : List (List Int)) : Int := if (mayB q && inF f []) = true then (if maR f q xss = 0 then (if 4096 < xss.length then 4 else 0) else maR f q xss) else 2
def maL (f : Int) (q : Pr) (xss : List (List Int)) : List (List Int) := if maE f q xss = 0 then xss.map (rnO (Rf f) q) else []
theorem es_in (f : Int) (q : Pr) (xss : List (List Int)) : ∀ e ∈ xss.map (rwE f q), e = 0 ∨ e = 2 ∨ e = 3 := fun e he => by
  obtain ⟨xs, _, rfl⟩ := List.mem_map.1 he
  exact rwE_one f q xs
theorem erK_all (f : Int) (q : Pr) (e0 : Int) (xss : List (List Int)) : erK f q e0 xss xss.length = (xss.map (rwE f q)).foldl ahd e0 := by unfold erK; rw [List.take_length]
theorem erK_end (f : Int) (q : Pr) (xss : List (List Int)) (hg : (mayB q && inF f []) = true) : erK f q (if 4096 < xss.length then 4 else 0) xss xss.length = maE f q xss := by
  rw [erK_all, ahd_fold _ _ (es_in f q xss) (by split <;> simp)]
  unfold maE
  rw [if_pos hg]
  unfold maR
  by_cases h2 : (2 : Int) ∈ xss.map (rwE f q)
  · rw [if_pos (.inr h2), if_pos h2]; rfl
  · by_cases h3 : (3 : Int) ∈ xss.map (rwE f q)
    · rw [if_neg h2, if_pos h3]
      by_cases hl : 4096 < xss.length
      · rw [if_pos hl, if_neg (by simp [h2]), if_pos (.inr h3)]; rfl
      · rw [if_neg hl, if_neg (by simp [h2]), if_pos (.inr h3)]; rfl
    · rw [if_neg h2, if_neg h3, if_pos rfl]
      by_cases hl : 4096 < xss.length
      · rw [if_pos hl, if_neg (by simp [h2]), if_neg (by simp [h3])]
      · rw [if_neg hl, if_neg (by simp [h2]), if_neg (by simp [h3])]
theorem erK_doc (f : Int) (q : Pr) (xss : List (List Int)) (hg : (mayB q && inF f []) = true) : erK f q 0 xss xss.length = maR f q xss := by
  rw [erK_all, ahd_fold _ _ (es_in f q xss) (by simp)]
  unfold maR
  by_cases h2 : (2 : Int) ∈ xss.map (rwE f q)
  · rw [if_pos (.inr h2), if_pos h2]
  · by_cases h3 : (3 : Int) ∈ xss.map (rwE f q)
    · rw [if_neg (by simp [h2]), if_pos (.inr h3), if_neg h2, if_pos h3]
    · rw [if_neg (by simp [h2]), if_neg (by simp [h3]), if_neg h2, if_neg h3]
theorem erK_two (f : Int) (q : Pr) (xss : List (List Int)) (k : Nat) : erK f q 2 xss k = 2 := by
  unfold erK
  rw [ahd_fold _ _ (fun e he => by obtain ⟨xs, _, rfl⟩ := List.mem_map.1 he; exact rwE_one f q xs) (by simp), if_pos (.inl rfl)]
theorem maR_one (f : Int) (q : Pr) (xss : List (List Int)) : maR f q xss = 0 ∨ maR f q xss = 2 ∨ maR f q xss = 3 := by
  unfold maR
  split
  · simp
  · split <;> simp
theorem maE_zero {f : Int} {q : Pr} {xss : List (List Int)} (h : maE f q xss = 0) : mayB q = true ∧ xss.length ≤ 4096 ∧ ∀ xs ∈ xss, rwE f q xs = 0 := by
  unfold maE at h
  split at h
  · rename_i hg
    rw [Bool.and_eq_true] at hg
    split at h
    · rename_i hr
      split at h
      · cases h
      · refine ⟨hg.1, by omega, fun xs hx => ?_⟩
        have hm : rwE f q xs ∈ xss.map (rwE f q) := List.mem_map.2 ⟨xs, hx, rfl⟩
        unfold maR at hr
        rcases rwE_one f q xs with h0 | h0 | h0
        · exact h0
        · rw [h0] at hm; rw [if_pos hm] at hr; cases hr
        · rw [h0] at hm
          split at hr
          · cases hr
          · first | (rw [if_pos hm] at hr; cases hr) | cases hr
    · rename_i hr; exact absurd h hr
  · cases h

end Go.Proofs.Ytfbipnhhnmlhfab

namespace Go.Proofs.Ytfbipnhhnmlhfab
open Go.RowKit Fld Slp
set_option linter.unusedVariables false
set_option linter.unusedSimpArgs false

/-- The greatest degree, of the first so many; no lower than 0. -/
def grK (xss : List (List Int)) (k : Nat) : Int := (xss.take k).foldl (fun m xs => max m (((tr xs).length : Int) - 1)) (-1)
def topK (xss : List (List Int)) (k : Nat) : Nat := (xss.take k).foldl (fun m xs => max m ((tr xs).length - 1)) 0
def top (xss : List (List Int)) : Nat := topK xss xss.length
theorem grK_next {xss : List (List Int)} {k : Nat} (h : k < xss.length) : grK xss (k + 1) = max (grK xss k) (((tr (xss.getD k [])).length : Int) - 1) := by
  unfold grK
  rw [List.take_succ_eq_append_getElem h, List.foldl_append, List.getD_eq_getElem?_getD, List.getElem?_eq_getElem h]; rfl
theorem topK_next {xss : List (List Int)} {k : Nat} (h : k < xss.length) : topK xss (k + 1) = max (topK xss k) ((tr (xss.getD k [])).length - 1) := by
  unfold topK
  rw [List.take_succ_eq_append_getElem h, List.foldl_append, List.getD_eq_getElem?_getD, List.getElem?_eq_getElem h]; rfl
theorem gr_top (xss : List (List Int)) : ∀ k, k ≤ xss.length → (topK xss k : Int) = max (grK xss k) 0 ∧ -1 ≤ grK xss k
  | 0, _ => ⟨by show (0 : Int) = max (-1) 0; decide, by show (-1 : Int) ≤ -1; decide⟩
  | k + 1, h => by
    obtain ⟨h1, h2⟩ := gr_top xss k (by omega)
    rw [grK_next (by omega), topK_next (by omega)]
    omega
theorem gr_le (xss : List (List Int)) (B : Int) (hB : -1 ≤ B) : ∀ k, k ≤ xss.length → (∀ i, i < k → ((tr (xss.getD i [])).length : Int) - 1 ≤ B) → grK xss k ≤ B
  | 0, _, _ => by simpa [grK] using hB
  | k + 1, h, hi => by
    have h1 := gr_le xss B hB k (by omega) (fun i hi' => hi i (by omega))
    have h2 := hi k (by omega)
    rw [grK_next (by omega)]; omega
theorem top_ge (xss : List (List Int)) : ∀ k, k ≤ xss.length → ∀ i, i < k → (tr (xss.getD i [])).length - 1 ≤ topK xss k
  | 0, _, i, h => by omega
  | k + 1, hk, i, h => by
    rw [topK_next (by omega)]
    by_cases e : i = k
    · subst e; omega
    · have := top_ge xss k (by omega) i (by omega); omega
theorem top_bound (xss : List (List Int)) : ∀ k, k ≤ xss.length → (∀ i, i < k → (xss.getD i []).length ≤ 17592186043904) → topK xss k ≤ 17592186043904
  | 0, _, _ => by simp [topK]
  | k + 1, h, hi => by
    have h1 := top_bound xss k (by omega) (fun i hi' => hi i (by omega))
    have h2 := hi k (by omega)
    have h3 := tr_len (xss.getD k [])
    rw [topK_next (by omega)]; omega
/-- The lists' own error; Compose's; what it answers. -/
def lgB (xss : List (List Int)) : Bool := xss.any (fun xs => decide (4096 < xs.length))
def cpE (f : Int) (q : Pr) (xss : List (List Int)) : Int := if xss.all (inF f) = true then (if (xss.length : Int) = q.inp then (if lgB xss = true then 4 else if ofE q = 0 then (if 4096 ≤ ofV q * (top xss : Int) then 4 else 0) else ofE q) else 3) else 2
def coE (f : Int) (q : Pr) (xss : List (List Int)) : Int := if (mayB q && inF f []) = true then cpE f q xss else 2
def coL (f : Int) (q : Pr) (xss : List (List Int)) : List (List Int) := if coE f q xss = 0 then rnO (Rt f) (trP q) (xss.map tr) else []
theorem of_le {q : Pr} (h : ofE q = 0) : 0 ≤ ofV q ∧ ofV q ≤ 1024 ∧ ofV q = (dgO q : Int) := by
  unfold ofV
  rw [if_pos h]
  have h1 := cpO_cap q
  unfold ofE at h
  split at h
  · split at h
    · cases h
    · rename_i hc
      have : cpO q ≤ 1025 := by rw [h1]; unfold cap9; omega
      unfold cap9 at h1
      omega
  · cases h
theorem of_one {q : Pr} (hm : mayB q = true) : ofE q = 0 ∨ ofE q = 4 := by
  unfold ofE
  rw [if_pos hm]
  split
  · exact .inr rfl
  · exact .inl rfl
theorem lg_no {xss : List (List Int)} (h : lgB xss = false) : ∀ xs ∈ xss, xs.length ≤ 4096 := fun xs hx => by
  unfold lgB at h
  have := List.any_eq_false.1 h xs hx
  simp at this
  exact this
theorem lg_yes {xss : List (List Int)} {k : Nat} (hk : k < xss.length) (h : 4096 < (xss.getD k []).length) : lgB xss = true := by
  unfold lgB
  rw [List.any_eq_true]
  exact ⟨_, getD_mem hk, by simpa using h⟩
theorem lg_all {xss : List (List Int)} (h : ∀ i, i < xss.length → (xss.getD i []).length ≤ 4096) : lgB xss = false := by
  unfold lgB
  rw [List.any_eq_false]
  intro xs hx
  obtain ⟨i, hi, rfl⟩ := List.mem_iff_getElem.1 hx
  have := h i hi
  rw [List.getD_eq_getElem?_getD, List.getElem?_eq_getElem hi] at this
  simpa using this
theorem all_in {f : Int} {xss : List (List Int)} (h : ∀ i, i < xss.length → inF f (xss.getD i []) = true) : xss.all (inF f) = true := chk_all h
theorem all_out {f : Int} {xss : List (List Int)} {k : Nat} (hk : k < xss.length) (h : inF f (xss.getD k []) = false) : xss.all (inF f) = false := by
  rw [List.all_eq_false]
  exact ⟨_, getD_mem hk, by rw [h]; decide⟩
theorem cpE_zero {f : Int} {q : Pr} {xss : List (List Int)} (hm : mayB q = true) (h : cpE f q xss = 0) : xss.all (inF f) = true ∧ (xss.length : Int) = q.inp ∧ (∀ xs ∈ xss, xs.length ≤ 4096) ∧ ofE q = 0 ∧ dgO q * top xss ≤ 4095 := by
  unfold cpE at h
  split at h
  · rename_i h1
    split at h
    · rename_i h2
      split at h
      · cases h
      · rename_i h3
        have h3' : lgB xss = false := by simpa using h3
        split at h
        · rename_i h4
          split at h
          · cases h
          · rename_i h5
            refine ⟨h1, h2, lg_no h3', h4, ?_⟩
            have := (of_le h4).2.2
            rw [this] at h5
            have h6 : ((dgO q * top xss : Nat) : Int) < 4096 := by rw [Int.natCast_mul]; omega
            omega
        · rename_i h4; exact absurd h h4
    · cases h
  · cases h

end Go.Proofs.Ytfbipnhhnmlhfab

