import Derived.Test.YtjhididlcdepdaaGreatBunS
import Derived.Test.YtjhididlcdepdaaGreatBunYP
set_option linter.unusedVariables false
set_option linter.unusedSimpArgs false
set_option maxRecDepth 100000
set_option maxHeartbeats 4000000
namespace Go.Proofs.YtjhididlcdepdaaGreat
open Go.RowKit Fld Slp
def Rf (f : Int) : Rg Int := ⟨0, add (pOf f), sub (pOf f), mul (pOf f), fun c => c % pOf f⟩
def Rt (f : Int) : Rg (List Int) := ⟨[], addL f, subL f, mulL f, fun c => tr [c % pOf f]⟩
def Ru (f : Int) : Rg (List Int) := ⟨[], fun x y => tr (sm (pOf f) 1 x y), fun x y => tr (sm (pOf f) (sub (pOf f) 0 1) x y), fun x y => prd (pOf f) (tr x) (tr y), fun c => tr [c % pOf f]⟩
theorem els_one {p : Int} (hp : 0 < p) (c : Int) : Els p [c % p] := fun x hx => by
 rw [List.mem_singleton.1 hx]; exact emod_el hp c
theorem els_nil (p : Int) : Els p [] := fun x hx => by cases hx
def Lim (p : Int) (x : List Int) : Prop := Els p x ∧ x.length <= 4096
theorem lim_er {f p : Int} {wd : Bool} (h : Fi f p wd) {x y : List Int} (hx : Lim p x) (hy : Lim p y) : er f x y = 0 := er_yes h (allIn_of hx.1) (allIn_of hy.1) hx.2 hy.2
theorem lim_tr {p : Int} (hp : 0 < p) {x : List Int} (h : Lim p x) : Lim p (tr x) := ⟨h.1.tr hp, Nat.le_trans (tr_len x) h.2⟩
theorem lim_add {f p : Int} {wd : Bool} (h : Fi f p wd) {x y : List Int} (hx : Lim p x) (hy : Lim p y) : Lim p (addL f x y) ∧ tr (addL f x y) = addL f (tr x) (tr y) := by
 have hp := h.pos
 have e1 : addL f x y = tr (sm p 1 x y) := by unfold addL; rw [if_pos (lim_er h hx hy), pOf_eq h]
 have e2 : addL f (tr x) (tr y) = tr (sm p 1 (tr x) (tr y)) := by unfold addL; rw [if_pos (lim_er h (lim_tr hp hx) (lim_tr hp hy)), pOf_eq h]
 refine ⟨⟨by rw [e1]; exact (els_sm hp 1 x y).tr hp, by rw [e1]; refine Nat.le_trans (tr_len _) ?_; rw [sm_len]; exact Nat.max_le.2 ⟨hx.2, hy.2⟩⟩, ?_⟩
 rw [e1, e2, tr_tr]
 refine Is.only hp (is_add hp x y) ((is_add hp (tr x) (tr y)).al (fun i => ?_))
 show (co (tr x) i + co (tr y) i) % p = (co x i + co y i) % p
 rw [co_tr, co_tr]
theorem lim_sub {f p : Int} {wd : Bool} (h : Fi f p wd) {x y : List Int} (hx : Lim p x) (hy : Lim p y) : Lim p (subL f x y) ∧ tr (subL f x y) = subL f (tr x) (tr y) := by
 have hp := h.pos
 have e1 : subL f x y = tr (sm p (sub p 0 1) x y) := by unfold subL; rw [if_pos (lim_er h hx hy), pOf_eq h]
 have e2 : subL f (tr x) (tr y) = tr (sm p (sub p 0 1) (tr x) (tr y)) := by unfold subL; rw [if_pos (lim_er h (lim_tr hp hx) (lim_tr hp hy)), pOf_eq h]
 refine ⟨⟨by rw [e1]; exact (els_sm hp _ x y).tr hp, by rw [e1]; refine Nat.le_trans (tr_len _) ?_; rw [sm_len]; exact Nat.max_le.2 ⟨hx.2, hy.2⟩⟩, ?_⟩
 rw [e1, e2, tr_tr]
 refine Is.only hp (is_sub hp x y) ((is_sub hp (tr x) (tr y)).al (fun i => ?_))
 show (co (tr x) i - co (tr y) i) % p = (co x i - co y i) % p
 rw [co_tr, co_tr]
theorem lim_mul {f p : Int} {wd : Bool} (h : Fi f p wd) {x y : List Int} (hx : Lim p x) (hy : Lim p y) : Lim p (mulL f x y) ∧ tr (mulL f x y) = mulL f (tr x) (tr y) := by
 have hp := h.pos
 have m1 : mulE f x y = if 4096 < (tr x).length + (tr y).length - 1 then 4 else 0 := by unfold mulE; rw [if_pos (lim_er h hx hy)]
 have m2 : mulE f (tr x) (tr y) = mulE f x y := by rw [m1]; unfold mulE; rw [if_pos (lim_er h (lim_tr hp hx) (lim_tr hp hy)), tr_tr, tr_tr]
 have e2 : mulL f (tr x) (tr y) = mulL f x y := by unfold mulL; rw [m2, tr_tr, tr_tr]
 rw [e2]
 by_cases hc : 4096 < (tr x).length + (tr y).length - 1
 · have e1 : mulL f x y = [] := by unfold mulL; rw [m1, if_pos hc]; rfl
   rw [e1]
   exact ⟨⟨els_nil p, by simp⟩, rfl⟩
 · have e1 : mulL f x y = prd p (tr x) (tr y) := by unfold mulL; rw [m1, if_neg hc, if_pos rfl, pOf_eq h]
   rw [e1]
   exact ⟨⟨els_prd hp _ _, by have := prd_len_le p (tr x) (tr y); omega⟩, (is_prd h.md (hx.1.tr hp) (hy.1.tr hp) (tr_tr x) (tr_tr y)).2.1⟩
theorem lim_allT {f p : Int} {wd : Bool} (h : Fi f p wd) (os : List O4) (l : List (List Int)) (hx : ∀ x ∈ l, Lim p x) : ∀ x ∈ rnL (Rt f) l os, Lim p x :=
 rn_all (Rt f) (Lim p) ⟨els_nil p, by simp [Rt]⟩ (fun x y hx hy => (lim_add h hx hy).1) (fun x y hx hy => (lim_sub h hx hy).1) (fun x y hx hy => (lim_mul h hx hy).1) (fun c => by
  show Lim p (tr [c % pOf f])
  rw [pOf_eq h]; exact lim_tr h.pos ⟨els_one h.pos c, by simp⟩) os l hx
theorem el_all {f p : Int} {wd : Bool} (h : Fi f p wd) (os : List O4) (l : List Int) (hx : ∀ x ∈ l, El p x) : ∀ x ∈ rnL (Rf f) l os, El p x := by
 have hp := h.pos
 have hb := h.md.bounds
 refine rn_all (Rf f) (El p) ⟨by simp [Rf], by show (0 : Int) < p; exact hp⟩ (fun x y hx hy => ?_) (fun x y hx hy => ?_) (fun x y hx hy => ?_) (fun c => ?_) os l hx
 · show El p (add (pOf f) x y); rw [pOf_eq h]; exact add_el hp
 · show El p (sub (pOf f) x y); rw [pOf_eq h]; exact sub_el hp
 · show El p (mul (pOf f) x y); rw [pOf_eq h]; exact mul_el hp
 · show El p (c % pOf f); rw [pOf_eq h]; exact emod_el hp c
theorem rn_same {α : Type} (R Q : Rg α) (P : α -> Prop) (f : α -> Nat) (D B : Nat) (ez : R.z = Q.z) (ec : ∀ c, R.cs c = Q.cs c)
 (ea : ∀ x y, P x -> P y -> f x <= B -> f y <= B -> R.ad x y = Q.ad x y ∧ R.su x y = Q.su x y) (em : ∀ x y, P x -> P y -> f x + f y <= B -> R.mu x y = Q.mu x y)
 (hz : P Q.z) (fz : f Q.z = 0) (ha : ∀ x y, P x -> P y -> P (Q.ad x y) ∧ f (Q.ad x y) <= max (f x) (f y)) (hs : ∀ x y, P x -> P y -> P (Q.su x y) ∧ f (Q.su x y) <= max (f x) (f y)) (hu : ∀ x y, P x -> P y -> P (Q.mu x y) ∧ f (Q.mu x y) <= f x + f y) (hc : ∀ c, P (Q.cs c) ∧ f (Q.cs c) = 0)
 (os : List O4) (l : List α) (d : List Nat) (hk : ∀ o ∈ os, o.k = 1 ∨ o.k = 2 ∨ o.k = 3 ∨ o.k = 4) (hl : l.length = d.length) (h1 : ∀ v, P (l.getD v Q.z)) (h2 : ∀ v, f (l.getD v Q.z) <= d.getD v 0 * D)
 (hB : ∀ i, i < os.length -> (dgL id d os).getD (d.length + i) 0 * D <= B) : ∀ i, i <= os.length -> rnL R l (os.take i) = rnL Q l (os.take i) := by
 intro i
 induction i with
 | zero => intro _; rfl
 | succ i ih =>
  intro hi
  have hi' : i < os.length := by omega
  rw [rnL_next R os l hi', rnL_next Q os l hi', ih (by omega)]
  congr 1
  have key := rn_deg Q P f D hz fz ha hs hu hc (os.take i) l d (fun o ho => hk o (List.mem_of_mem_take ho)) hl h1 h2
  have hd := hB i hi'
  rw [dgL_at id os d hi'] at hd
  generalize rnL Q l (os.take i) = L at *
  generalize dgL id d (os.take i) = E at *
  have hd' : dgS E os[i] * D <= B := hd
  have ka := key os[i].a.toNat
  have kb := key os[i].b.toNat
  unfold dgS at hd'
  unfold rnS
  rw [ez]
  rcases hk os[i] (List.getElem_mem hi') with h | h | h | h
  · rw [if_pos (.inl h)] at hd'
    rw [if_pos h, if_pos h]
    have m1 : E.getD os[i].a.toNat 0 * D <= max (E.getD os[i].a.toNat 0) (E.getD os[i].b.toNat 0) * D := Nat.mul_le_mul_right _ (Nat.le_max_left _ _)
    have m2 : E.getD os[i].b.toNat 0 * D <= max (E.getD os[i].a.toNat 0) (E.getD os[i].b.toNat 0) * D := Nat.mul_le_mul_right _ (Nat.le_max_right _ _)
    rw [(ea _ _ ka.1 kb.1 (by omega) (by omega)).1]
  · have k1 : ¬ os[i].k = 1 := by omega
    rw [if_pos (.inr h)] at hd'
    rw [if_neg k1, if_pos h, if_neg k1, if_pos h]
    have m1 : E.getD os[i].a.toNat 0 * D <= max (E.getD os[i].a.toNat 0) (E.getD os[i].b.toNat 0) * D := Nat.mul_le_mul_right _ (Nat.le_max_left _ _)
    have m2 : E.getD os[i].b.toNat 0 * D <= max (E.getD os[i].a.toNat 0) (E.getD os[i].b.toNat 0) * D := Nat.mul_le_mul_right _ (Nat.le_max_right _ _)
    rw [(ea _ _ ka.1 kb.1 (by omega) (by omega)).2]
  · have k1 : ¬ os[i].k = 1 := by omega
    have k2 : ¬ os[i].k = 2 := by omega
    have k3 : ¬ (os[i].k = 1 ∨ os[i].k = 2) := by omega
    rw [if_neg k3, if_pos h, Nat.add_mul] at hd'
    rw [if_neg k1, if_neg k2, if_pos h, if_neg k1, if_neg k2, if_pos h, em _ _ ka.1 kb.1 (by omega)]
  · have k1 : ¬ os[i].k = 1 := by omega
    have k2 : ¬ os[i].k = 2 := by omega
    have k3 : ¬ os[i].k = 3 := by omega
    rw [if_neg k1, if_neg k2, if_neg k3, if_neg k1, if_neg k2, if_neg k3, ec]
theorem op_kinds {p : Pr} (hm : mayB p = true) : ∀ o ∈ p.ops, o.k = 1 ∨ o.k = 2 ∨ o.k = 3 ∨ o.k = 4 := fun o ho => by
 obtain ⟨⟨i0, i1, l1, l3⟩, mo, mu⟩ := mayB_iff.1 hm
 obtain ⟨i, hi, rfl⟩ := List.mem_iff_getElem.1 ho
 have := opsM_get p.inp p.ops 0 i hi mo
 unfold opM at this
 split at this
 · rename_i h; omega
 · split at this
   · rename_i h; omega
   · cases this
theorem wt_deg {p : Pr} (hm : mayB p = true) : ∀ u, (wtd p).getD u false = true -> (dgs p).getD u 0 <= dgO p := by
 refine wt_least hm (fun u => (dgs p).getD u 0 <= dgO p) (fun v hv => mxl_le.1 (Nat.le_refl (dgO p)) _ (List.mem_map.2 ⟨v, hv, rfl⟩)) (fun i hi h hk => ?_)
 have e : (dgs p).getD (p.inp.toNat + i) 0 = dgS (dgL id (List.replicate p.inp.toNat 1) (p.ops.take i)) p.ops[i] := by
  have := dgL_at id p.ops (List.replicate p.inp.toNat 1) hi
  rw [List.length_replicate] at this
  exact this
 have ha := may_args hm i hi hk
 have ea : ∀ v, v < p.inp.toNat + i -> (dgL id (List.replicate p.inp.toNat 1) (p.ops.take i)).getD v 0 = (dgs p).getD v 0 := fun v hv => dgL_arg id p.ops _ (by omega) (by rw [List.length_replicate]; exact hv)
 rw [e] at h
 unfold dgS at h
 rw [ea _ ha.2.1, ea _ ha.2.2] at h
 rcases op_kinds hm _ (List.getElem_mem hi) with h1 | h1 | h1 | h1
 · rw [if_pos (.inl h1)] at h; omega
 · rw [if_pos (.inr h1)] at h; omega
 · rw [if_neg (by omega), if_pos h1] at h; omega
 · exact absurd h1 hk
def rwE (f : Int) (q : Pr) (xs : List Int) : Int := if inF f xs = true then (if (xs.length : Int) = q.inp then 0 else 3) else 2
def evE (f : Int) (q : Pr) (xs : List Int) : Int := if mayB q = true then rwE f q xs else 2
def stL (f : Int) (q : Pr) (xs : List Int) : List Int := if evE f q xs = 0 then rns (Rf f) q xs else []
def ruL (f : Int) (q : Pr) (xs : List Int) : List Int := if evE f q xs = 0 then rnO (Rf f) q xs else []
theorem rwE_zero {f : Int} {q : Pr} {xs : List Int} (h : rwE f q xs = 0) : inF f xs = true ∧ (xs.length : Int) = q.inp := by
 unfold rwE at h
 split at h
 · rename_i h1
   split at h
   · rename_i h2; exact ⟨h1, h2⟩
   · cases h
 · cases h
theorem evE_zero {f : Int} {q : Pr} {xs : List Int} (h : evE f q xs = 0) : mayB q = true ∧ inF f xs = true ∧ (xs.length : Int) = q.inp := by
 unfold evE at h
 split at h
 · rename_i h1; exact ⟨h1, rwE_zero h⟩
 · cases h
theorem rwE_one (f : Int) (q : Pr) (xs : List Int) : rwE f q xs = 0 ∨ rwE f q xs = 2 ∨ rwE f q xs = 3 := by
 unfold rwE
 split
 · split
   · exact .inl rfl
   · exact .inr (.inr rfl)
 · exact .inr (.inl rfl)
theorem rnO_len {α : Type} (R : Rg α) (q : Pr) (xs : List α) : (rnO R q xs).length = q.outs.length := by unfold rnO; simp
end Go.Proofs.YtjhididlcdepdaaGreat
