import Derived.Test.YtnakbpaiidolbaaGreatBEvlC
import Derived.Test.YtnakbpaiidolbaaGreatBunH
namespace Go.Proofs.YtnakbpaiidolbaaGreat
open Go.RowKit Fld Slp
set_option linter.unusedVariables false
set_option linter.unusedSimpArgs false
end Go.Proofs.YtnakbpaiidolbaaGreat
namespace Go.Proofs.YtnakbpaiidolbaaGreat
open Go.RowKit Fld Slp
set_option linter.unusedVariables false
set_option linter.unusedSimpArgs false
def grK (xss : List (List Int)) (k : Nat) : Int := (xss.take k).foldl (fun m xs => max m (((tr xs).length : Int) - 1)) (-1)
def topK (xss : List (List Int)) (k : Nat) : Nat := (xss.take k).foldl (fun m xs => max m ((tr xs).length - 1)) 0
def top (xss : List (List Int)) : Nat := topK xss xss.length
theorem grK_next {xss : List (List Int)} {k : Nat} (h : k < xss.length) : grK xss (k + 1) = max (grK xss k) (((tr (xss.getD k [])).length : Int) - 1) := by
 unfold grK
 rw [List.take_succ_eq_append_getElem h, List.foldl_append, List.getD_eq_getElem?_getD, List.getElem?_eq_getElem h]; rfl
theorem topK_next {xss : List (List Int)} {k : Nat} (h : k < xss.length) : topK xss (k + 1) = max (topK xss k) ((tr (xss.getD k [])).length - 1) := by
 unfold topK
 rw [List.take_succ_eq_append_getElem h, List.foldl_append, List.getD_eq_getElem?_getD, List.getElem?_eq_getElem h]; rfl
theorem gr_top (xss : List (List Int)) : ∀ k, k ≤ xss.length → (topK xss k : Int) = max (grK xss k) 0 ∧ -1 ≤ grK xss k
 | 0, _ => ⟨by show (0 : Int) = max (-1) 0; decide, by show (-1 : Int) ≤ -1; decide⟩
 | k + 1, h => by
  obtain ⟨h1, h2⟩ := gr_top xss k (by omega)
  rw [grK_next (by omega), topK_next (by omega)]
  omega
theorem gr_le (xss : List (List Int)) (B : Int) (hB : -1 ≤ B) : ∀ k, k ≤ xss.length → (∀ i, i < k → ((tr (xss.getD i [])).length : Int) - 1 ≤ B) → grK xss k ≤ B
 | 0, _, _ => by simpa [grK] using hB
 | k + 1, h, hi => by
  have h1 := gr_le xss B hB k (by omega) (fun i hi' => hi i (by omega))
  have h2 := hi k (by omega)
  rw [grK_next (by omega)]; omega
theorem top_bound (xss : List (List Int)) : ∀ k, k ≤ xss.length → (∀ i, i < k → (xss.getD i []).length ≤ 17592186043904) → topK xss k ≤ 17592186043904
 | 0, _, _ => by simp [topK]
 | k + 1, h, hi => by
  have h1 := top_bound xss k (by omega) (fun i hi' => hi i (by omega))
  have h2 := hi k (by omega)
  have h3 := tr_len (xss.getD k [])
  rw [topK_next (by omega)]; omega
def lgB (xss : List (List Int)) : Bool := xss.any (fun xs => decide (4096 < xs.length))
def cpE (f : Int) (q : Pr) (xss : List (List Int)) : Int := if xss.all (inF f) = true then (if (xss.length : Int) = q.inp then (if lgB xss = true then 4 else if ofE q = 0 then (if 4096 ≤ ofV q * (top xss : Int) then 4 else 0) else ofE q) else 3) else 2
def coE (f : Int) (q : Pr) (xss : List (List Int)) : Int := if (mayB q && inF f []) = true then cpE f q xss else 2
def coL (f : Int) (q : Pr) (xss : List (List Int)) : List (List Int) := if coE f q xss = 0 then rnO (Rt f) (trP q) (xss.map tr) else []
theorem of_le {q : Pr} (h : ofE q = 0) : 0 ≤ ofV q ∧ ofV q ≤ 1024 ∧ ofV q = (dgO q : Int) := by
 unfold ofV
 rw [if_pos h]
 have h1 := cpO_cap q
 unfold ofE at h
 split at h
 · split at h
   · cases h
   · rename_i hc
     have : cpO q ≤ 1025 := by rw [h1]; unfold cap9; omega
     unfold cap9 at h1
     omega
 · cases h
theorem of_one {q : Pr} (hm : mayB q = true) : ofE q = 0 ∨ ofE q = 4 := by
 unfold ofE
 rw [if_pos hm]
 split
 · exact .inr rfl
 · exact .inl rfl
theorem lg_no {xss : List (List Int)} (h : lgB xss = false) : ∀ xs ∈ xss, xs.length ≤ 4096 := fun xs hx => by
 unfold lgB at h
 have := List.any_eq_false.1 h xs hx
 simp at this
 exact this
theorem lg_yes {xss : List (List Int)} {k : Nat} (hk : k < xss.length) (h : 4096 < (xss.getD k []).length) : lgB xss = true := by
 unfold lgB
 rw [List.any_eq_true]
 exact ⟨_, getD_mem hk, by simpa using h⟩
theorem lg_all {xss : List (List Int)} (h : ∀ i, i < xss.length → (xss.getD i []).length ≤ 4096) : lgB xss = false := by
 unfold lgB
 rw [List.any_eq_false]
 intro xs hx
 obtain ⟨i, hi, rfl⟩ := List.mem_iff_getElem.1 hx
 have := h i hi
 rw [List.getD_eq_getElem?_getD, List.getElem?_eq_getElem hi] at this
 simpa using this
theorem all_in {f : Int} {xss : List (List Int)} (h : ∀ i, i < xss.length → inF f (xss.getD i []) = true) : xss.all (inF f) = true := chk_all h
theorem all_out {f : Int} {xss : List (List Int)} {k : Nat} (hk : k < xss.length) (h : inF f (xss.getD k []) = false) : xss.all (inF f) = false := by
 rw [List.all_eq_false]
 exact ⟨_, getD_mem hk, by rw [h]; decide⟩
theorem cpE_zero {f : Int} {q : Pr} {xss : List (List Int)} (hm : mayB q = true) (h : cpE f q xss = 0) : xss.all (inF f) = true ∧ (xss.length : Int) = q.inp ∧ (∀ xs ∈ xss, xs.length ≤ 4096) ∧ ofE q = 0 ∧ dgO q * top xss ≤ 4095 := by
 unfold cpE at h
 split at h
 · rename_i h1
   split at h
   · rename_i h2
     split at h
     · cases h
     · rename_i h3
       have h3' : lgB xss = false := by simpa using h3
       split at h
       · rename_i h4
         split at h
         · cases h
         · rename_i h5
           refine ⟨h1, h2, lg_no h3', h4, ?_⟩
           have := (of_le h4).2.2
           rw [this] at h5
           have h6 : ((dgO q * top xss : Nat) : Int) < 4096 := by rw [Int.natCast_mul]; omega
           omega
       · rename_i h4; exact absurd h h4
   · cases h
 · cases h
end Go.Proofs.YtnakbpaiidolbaaGreat
namespace Go.Proofs.YtnakbpaiidolbaaGreat
open Go.RowKit Fld Slp
set_option linter.unusedVariables false
set_option linter.unusedSimpArgs false
end Go.Proofs.YtnakbpaiidolbaaGreat
