import Derived.Test.YtnakbpaiidolbaaGreatBunS
import Derived.Test.YtnakbpaiidolbaaGreatBunQ
namespace Go.Proofs.YtnakbpaiidolbaaGreat
open Go.RowKit Fld Slp
set_option linter.unusedVariables false
set_option linter.unusedSimpArgs false
def Rf (f : Int) : Rg Int := ⟨0, add (pOf f), sub (pOf f), mul (pOf f), fun c => c % pOf f⟩
def Rq (f : Int) : Rg (List Int) := ⟨[], addL f, subL f, mulL f, fun c => [c % pOf f]⟩
def Rt (f : Int) : Rg (List Int) := ⟨[], addL f, subL f, mulL f, fun c => tr [c % pOf f]⟩
theorem els_one {p : Int} (hp : 0 < p) (c : Int) : Els p [c % p] := fun x hx => by
 rw [List.mem_singleton.1 hx]; exact emod_el hp c
theorem els_nil (p : Int) : Els p [] := fun x hx => by cases hx
def Lim (p : Int) (x : List Int) : Prop := Els p x ∧ x.length ≤ 4096
theorem lim_er {f p : Int} {wd : Bool} (h : Fi f p wd) {x y : List Int} (hx : Lim p x) (hy : Lim p y) : er f x y = 0 := er_yes h (allIn_of hx.1) (allIn_of hy.1) hx.2 hy.2
theorem lim_tr {p : Int} (hp : 0 < p) {x : List Int} (h : Lim p x) : Lim p (tr x) := ⟨h.1.tr hp, Nat.le_trans (tr_len x) h.2⟩
theorem lim_add {f p : Int} {wd : Bool} (h : Fi f p wd) {x y : List Int} (hx : Lim p x) (hy : Lim p y) : Lim p (addL f x y) ∧ tr (addL f x y) = addL f (tr x) (tr y) := by
 have hp := h.pos
 have e1 : addL f x y = tr (sm p 1 x y) := by unfold addL; rw [if_pos (lim_er h hx hy), pOf_eq h]
 have e2 : addL f (tr x) (tr y) = tr (sm p 1 (tr x) (tr y)) := by unfold addL; rw [if_pos (lim_er h (lim_tr hp hx) (lim_tr hp hy)), pOf_eq h]
 refine ⟨⟨by rw [e1]; exact (els_sm hp 1 x y).tr hp, by rw [e1]; refine Nat.le_trans (tr_len _) ?_; rw [sm_len]; exact Nat.max_le.2 ⟨hx.2, hy.2⟩⟩, ?_⟩
 rw [e1, e2, tr_tr]
 refine Is.only hp (is_add hp x y) ((is_add hp (tr x) (tr y)).al (fun i => ?_))
 show (co (tr x) i + co (tr y) i) % p = (co x i + co y i) % p
 rw [co_tr, co_tr]
theorem lim_sub {f p : Int} {wd : Bool} (h : Fi f p wd) {x y : List Int} (hx : Lim p x) (hy : Lim p y) : Lim p (subL f x y) ∧ tr (subL f x y) = subL f (tr x) (tr y) := by
 have hp := h.pos
 have e1 : subL f x y = tr (sm p (sub p 0 1) x y) := by unfold subL; rw [if_pos (lim_er h hx hy), pOf_eq h]
 have e2 : subL f (tr x) (tr y) = tr (sm p (sub p 0 1) (tr x) (tr y)) := by unfold subL; rw [if_pos (lim_er h (lim_tr hp hx) (lim_tr hp hy)), pOf_eq h]
 refine ⟨⟨by rw [e1]; exact (els_sm hp _ x y).tr hp, by rw [e1]; refine Nat.le_trans (tr_len _) ?_; rw [sm_len]; exact Nat.max_le.2 ⟨hx.2, hy.2⟩⟩, ?_⟩
 rw [e1, e2, tr_tr]
 refine Is.only hp (is_sub hp x y) ((is_sub hp (tr x) (tr y)).al (fun i => ?_))
 show (co (tr x) i - co (tr y) i) % p = (co x i - co y i) % p
 rw [co_tr, co_tr]
theorem lim_mul {f p : Int} {wd : Bool} (h : Fi f p wd) {x y : List Int} (hx : Lim p x) (hy : Lim p y) : Lim p (mulL f x y) ∧ tr (mulL f x y) = mulL f (tr x) (tr y) := by
 have hp := h.pos
 have m1 : mulE f x y = if 4096 < (tr x).length + (tr y).length - 1 then 4 else 0 := by unfold mulE; rw [if_pos (lim_er h hx hy)]
 have m2 : mulE f (tr x) (tr y) = mulE f x y := by rw [m1]; unfold mulE; rw [if_pos (lim_er h (lim_tr hp hx) (lim_tr hp hy)), tr_tr, tr_tr]
 have e2 : mulL f (tr x) (tr y) = mulL f x y := by unfold mulL; rw [m2, tr_tr, tr_tr]
 rw [e2]
 by_cases hc : 4096 < (tr x).length + (tr y).length - 1
 · have e1 : mulL f x y = [] := by unfold mulL; rw [m1, if_pos hc]; rfl
   rw [e1]
   exact ⟨⟨els_nil p, by simp⟩, rfl⟩
 · have e1 : mulL f x y = prd p (tr x) (tr y) := by unfold mulL; rw [m1, if_neg hc, if_pos rfl, pOf_eq h]
   rw [e1]
   exact ⟨⟨els_prd hp _ _, by have := prd_len_le p (tr x) (tr y); omega⟩, (is_prd h.md (hx.1.tr hp) (hy.1.tr hp) (tr_tr x) (tr_tr y)).2.1⟩
theorem out_tr {f p : Int} {wd : Bool} (h : Fi f p wd) (q : Pr) (xss : List (List Int)) (hx : ∀ x ∈ xss, Lim p x) : (rnO (Rq f) q xss).map tr = rnO (Rt f) q (xss.map tr) := by
 refine rn_out (Rq f) (Rt f) (Lim p) tr ⟨els_nil p, by simp [Rq]⟩ (fun x y hx hy => lim_add h hx hy) (fun x y hx hy => lim_sub h hx hy) (fun x y hx hy => lim_mul h hx hy) (fun c => ?_) rfl q xss hx
 exact ⟨⟨by show Els p [c % pOf f]; rw [pOf_eq h]; exact els_one h.pos c, by show [c % pOf f].length ≤ 4096; simp⟩, rfl⟩
theorem lim_all {f p : Int} {wd : Bool} (h : Fi f p wd) (os : List O4) (l : List (List Int)) (hx : ∀ x ∈ l, Lim p x) : ∀ x ∈ rnL (Rq f) l os, Lim p x :=
 rn_all (Rq f) (Lim p) ⟨els_nil p, by simp [Rq]⟩ (fun x y hx hy => (lim_add h hx hy).1) (fun x y hx hy => (lim_sub h hx hy).1) (fun x y hx hy => (lim_mul h hx hy).1) (fun c => ⟨by show Els p [c % pOf f]; rw [pOf_eq h]; exact els_one h.pos c, by show [c % pOf f].length ≤ 4096; simp⟩) os l hx
theorem lim_allT {f p : Int} {wd : Bool} (h : Fi f p wd) (os : List O4) (l : List (List Int)) (hx : ∀ x ∈ l, Lim p x) : ∀ x ∈ rnL (Rt f) l os, Lim p x :=
 rn_all (Rt f) (Lim p) ⟨els_nil p, by simp [Rt]⟩ (fun x y hx hy => (lim_add h hx hy).1) (fun x y hx hy => (lim_sub h hx hy).1) (fun x y hx hy => (lim_mul h hx hy).1) (fun c => by
  show Lim p (tr [c % pOf f])
  rw [pOf_eq h]; exact lim_tr h.pos ⟨els_one h.pos c, by simp⟩) os l hx
theorem el_all {f p : Int} {wd : Bool} (h : Fi f p wd) (os : List O4) (l : List Int) (hx : ∀ x ∈ l, El p x) : ∀ x ∈ rnL (Rf f) l os, El p x := by
 have hp := h.pos
 have hb := h.md.bounds
 refine rn_all (Rf f) (El p) ⟨by simp [Rf], by show (0 : Int) < p; exact hp⟩ (fun x y hx hy => ?_) (fun x y hx hy => ?_) (fun x y hx hy => ?_) (fun c => ?_) os l hx
 · show El p (add (pOf f) x y); rw [pOf_eq h]; exact add_el hp
 · show El p (sub (pOf f) x y); rw [pOf_eq h]; exact sub_el hp
 · show El p (mul (pOf f) x y); rw [pOf_eq h]; exact mul_el hp
 · show El p (c % pOf f); rw [pOf_eq h]; exact emod_el hp c
theorem op_kinds {p : Pr} (hm : mayB p = true) : ∀ o ∈ p.ops, o.k = 1 ∨ o.k = 2 ∨ o.k = 3 ∨ o.k = 4 := fun o ho => by
 obtain ⟨⟨i0, i1, l1, l3⟩, mo, mu⟩ := mayB_iff.1 hm
 obtain ⟨i, hi, rfl⟩ := List.mem_iff_getElem.1 ho
 have := opsM_get p.inp p.ops 0 i hi mo
 unfold opM at this
 split at this
 · rename_i h; omega
 · split at this
   · rename_i h; omega
   · cases this
end Go.Proofs.YtnakbpaiidolbaaGreat
