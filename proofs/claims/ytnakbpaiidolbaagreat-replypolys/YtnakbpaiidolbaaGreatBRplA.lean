import Derived.Test.YtnakbpaiidolbaaGreatBunK
import Derived.Test.YtnakbpaiidolbaaGreatBunHA
namespace Go.Proofs.YtnakbpaiidolbaaGreat
open Go.RowKit Fld Slp Pln Shr
set_option linter.unusedVariables false
set_option linter.unusedSimpArgs false
def fitQ (p : Pn) (q : Pr) : Bool := mayP p && (decide (ofE q = 0) && (decide (q.inp = p.w) && decide (ofV q ≤ p.d)))
def ftQ (p : Pn) (q : Pr) : Int := if fitQ p q = true then 0 else 2
def rpE (p : Pn) (q : Pr) (xs : List Int) : Int := if fitQ p q = true then evE p.f q xs else 2
def rpL (p : Pn) (q : Pr) (xs : List Int) : List Int := if rpE p q xs = 0 then rnO (Rf p.f) q xs else []
def cmE (p : Pn) (q : Pr) (dl pl : List (List Int)) : Int := if fitQ p q = true then (if bkE p dl pl [] = 0 then coE p.f q (polL p dl pl) else bkE p dl pl []) else 2
def cmL (p : Pn) (q : Pr) (dl pl : List (List Int)) : List (List Int) := if cmE p q dl pl = 0 then coL p.f q (polL p dl pl) else []
def hnE (p : Pn) (q : Pr) (dl pl : List (List Int)) (i : Int) : Int := if fitQ p q = true then bkE p dl pl [i] else 2
def hnL (p : Pn) (q : Pr) (dl pl : List (List Int)) (i : Int) : List Int := if hnE p q dl pl i = 0 then rnO (Rf p.f) q (shaL p dl pl i) else []
theorem fit_facts {p : Pn} {q : Pr} (h : fitQ p q = true) : mayP p = true ∧ mayB q = true ∧ ofE q = 0 ∧ q.inp = p.w ∧ ofV q ≤ p.d := by
 unfold fitQ at h
 rw [Bool.and_eq_true, Bool.and_eq_true, Bool.and_eq_true] at h
 obtain ⟨h1, h2, h3, h4⟩ := h
 have h2 := of_decide_eq_true h2
 refine ⟨h1, ?_, h2, of_decide_eq_true h3, of_decide_eq_true h4⟩
 cases hm : mayB q with
 | true => rfl
 | false => unfold ofE at h2; rw [hm] at h2; simp at h2
theorem ftQ_yes {p : Pn} {q : Pr} (h : fitQ p q = true) : ftQ p q = 0 := if_pos h
theorem ftQ_no {p : Pn} {q : Pr} (h : fitQ p q = false) : ftQ p q = 2 := by unfold ftQ; rw [h]; rfl
end Go.Proofs.YtnakbpaiidolbaaGreat
