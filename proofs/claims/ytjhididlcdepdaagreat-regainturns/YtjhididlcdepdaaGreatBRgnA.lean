import Derived.Test.YtjhididlcdepdaaGreatBLocE
import Derived.Test.YtjhididlcdepdaaGreatBunAT
set_option linter.unusedVariables false
set_option linter.unusedSimpArgs false
set_option maxRecDepth 100000
set_option maxHeartbeats 4000000
namespace Go.Proofs.YtjhididlcdepdaaGreat
open Go.RowKit Fld Pln
structure Rp where
 w : Int
 vs : List Int
def isW (p : Pn) (i : Int) : Bool := decide (0 ≤ i) && decide (i < p.n)
def asB (p : Pn) (n : Int) : Bool := mayP p && (decide (0 ≤ n) && decide (n ≤ 64))
def mrB (p : Pn) (n : Int) (r : Rp) : Bool := asB p n && (isW p r.w && (decide ((r.vs.length : Int) = n) && inF p.f r.vs))
def wks (l : List Rp) : List Int := l.map Rp.w
def rvE (p : Pn) (n : Int) (l : List Rp) : Int := if (asB p n && l.all (mrB p n)) = true then (if (wks l).Nodup then (if (l.length : Int) < need p then 7 else 0) else 6) else 2
def xsR (p : Pn) (l : List Rp) : List Int := l.map (fun r => p.k + p.t + r.w)
def ysR (o : Nat) (l : List Rp) : List Int := l.map (fun r => co r.vs o)
theorem xsR_len (p : Pn) (l : List Rp) : (xsR p l).length = l.length := by unfold xsR; rw [List.length_map]
theorem ysR_len (o : Nat) (l : List Rp) : (ysR o l).length = l.length := by unfold ysR; rw [List.length_map]
def nrp : Rp := ⟨0, []⟩
theorem co_mapR {α : Type} (g : α → Int) (d : α) {l : List α} {i : Nat} (h : i < l.length) : co (l.map g) i = g (l.getD i d) := by
 rw [co_at (by rw [List.length_map]; exact h), List.getElem_map, List.getD_eq_getElem?_getD, List.getElem?_eq_getElem h]; rfl
theorem xsR_at (p : Pn) {l : List Rp} {i : Nat} (h : i < l.length) : co (xsR p l) i = p.k + p.t + (l.getD i nrp).w := co_mapR _ nrp h
theorem ysR_at (o : Nat) {l : List Rp} {i : Nat} (h : i < l.length) : co (ysR o l) i = co (l.getD i nrp).vs o := co_mapR _ nrp h
theorem getD_inR {l : List Rp} {i : Nat} (h : i < l.length) : l.getD i nrp ∈ l := by
 rw [List.getD_eq_getElem?_getD, List.getElem?_eq_getElem h]; exact List.getElem_mem h
theorem in_atR {l : List Rp} {r : Rp} (h : r ∈ l) : ∃ i, i < l.length ∧ l.getD i nrp = r := by
 obtain ⟨i, hi, rfl⟩ := List.mem_iff_getElem.1 h
 exact ⟨i, hi, by rw [List.getD_eq_getElem?_getD, List.getElem?_eq_getElem hi]; rfl⟩
theorem asB_iff {p : Pn} {n : Int} : asB p n = true ↔ mayP p = true ∧ 0 ≤ n ∧ n ≤ 64 := by
 unfold asB; rw [Bool.and_eq_true, Bool.and_eq_true, decide_eq_true_iff, decide_eq_true_iff]
theorem isW_iff {p : Pn} {i : Int} : isW p i = true ↔ 0 ≤ i ∧ i < p.n := by
 unfold isW; rw [Bool.and_eq_true, decide_eq_true_iff, decide_eq_true_iff]
theorem mrB_iff {p : Pn} {n : Int} {r : Rp} : mrB p n r = true ↔ asB p n = true ∧ (0 ≤ r.w ∧ r.w < p.n) ∧ (r.vs.length : Int) = n ∧ inF p.f r.vs = true := by
 unfold mrB; rw [Bool.and_eq_true, Bool.and_eq_true, Bool.and_eq_true, isW_iff, decide_eq_true_iff]
theorem rvE_zero {p : Pn} {n : Int} {l : List Rp} (h : rvE p n l = 0) : asB p n = true ∧ (∀ r ∈ l, mrB p n r = true) ∧ (wks l).Nodup ∧ need p ≤ l.length := by
 unfold rvE at h
 by_cases h1 : (asB p n && l.all (mrB p n)) = true
 · rw [if_pos h1] at h
   rw [Bool.and_eq_true, List.all_eq_true] at h1
   by_cases h2 : (wks l).Nodup
   · rw [if_pos h2] at h
     by_cases h3 : (l.length : Int) < need p
     · rw [if_pos h3] at h; exact absurd h (by decide)
     · exact ⟨h1.1, h1.2, h2, by omega⟩
   · rw [if_neg h2] at h; exact absurd h (by decide)
 · rw [if_neg h1] at h; exact absurd h (by decide)
theorem nodup_few {l : List Int} {n : Nat} (h : l.Nodup) (hb : ∀ x ∈ l, 0 ≤ x ∧ x < n) : l.length ≤ n := by
 have h1 : (l.map Int.toNat).Nodup := by
  refine List.pairwise_map.2 (h.imp_of_mem (fun {a b} ha hb' hab e => hab ?_))
  have := hb a ha
  have := hb b hb'
  omega
 have h2 := List.Nodup.length_le_of_subset h1 (l₂ := List.range n) (fun x hx => by
  obtain ⟨y, hy, rfl⟩ := List.mem_map.1 hx
  have := hb y hy
  exact List.mem_range.2 (by omega))
 rw [List.length_map, List.length_range] at h2
 exact h2
structure Rvf (p : Pn) (n : Int) (l : List Rp) (q : Int) (wd : Bool) : Prop where
 may : mayP p = true
 fld : Fi p.f q wd
 lo : 0 ≤ n
 hi : n ≤ 64
 wk : ∀ r ∈ l, 0 ≤ r.w ∧ r.w < p.n
 vl : ∀ r ∈ l, (r.vs.length : Int) = n ∧ Els q r.vs
 dif : (wks l).Nodup
 few : l.length ≤ 64
 nd : need p ≤ l.length
 xe : Els q (xsR p l)
 xn : (xsR p l).Nodup
 ye : ∀ o, Els q (ysR o l)
 dc : ∀ o, dcE p.f (xsR p l) (ysR o l) (dg p) p.e = 0
theorem co_els {q : Int} (h0 : 0 < q) {xs : List Int} (h : Els q xs) (i : Nat) : El q (co xs i) := by
 by_cases hi : i < xs.length
 · rw [co_at hi]; exact h _ (List.getElem_mem hi)
 · rw [co_out xs i (by omega)]; exact ⟨by omega, h0⟩
theorem rv_facts {p : Pn} {n : Int} {l : List Rp} (hw : ∀ r ∈ l, Wd r.vs) (h : rvE p n l = 0) : ∃ q wd, Rvf p n l q wd := by
 obtain ⟨h1, h2, h3, h4⟩ := rvE_zero h
 obtain ⟨hm, n0, n1⟩ := asB_iff.1 h1
 obtain ⟨q, wd, hf⟩ := may_field hm
 obtain ⟨⟨a0, a1⟩, ⟨k0, k1⟩, ⟨t0, t1⟩, _, ⟨e0, e1⟩, _⟩ := may_facts hm
 have hd := dg_bound hm
 have hk : ∀ r ∈ l, 0 ≤ r.w ∧ r.w < p.n := fun r hr => (mrB_iff.1 (h2 r hr)).2.1
 have hv : ∀ r ∈ l, (r.vs.length : Int) = n ∧ Els q r.vs := fun r hr => by
  obtain ⟨_, _, g1, g2⟩ := mrB_iff.1 (h2 r hr)
  rw [inF_yes hf] at g2
  exact ⟨g1, els_of g2 (hw r hr).2⟩
 have hq : 1000 < q := by have := hf.big; omega
 have hxe : Els q (xsR p l) := fun x hx => by
  obtain ⟨r, hr, rfl⟩ := List.mem_map.1 hx
  have := hk r hr
  exact ⟨by omega, by omega⟩
 have hxn : (xsR p l).Nodup := by
  refine List.pairwise_map.2 ((List.pairwise_map.1 h3).imp (fun {a b} hab e => hab ?_))
  omega
 have hye : ∀ o, Els q (ysR o l) := fun o x hx => by
  obtain ⟨r, hr, rfl⟩ := List.mem_map.1 hx
  exact co_els (by omega) (hv r hr).2 o
 have hfew : l.length ≤ 64 := by
  have := nodup_few (n := 64) h3 (fun x hx => by
   obtain ⟨r, hr, rfl⟩ := List.mem_map.1 hx
   have := hk r hr
   omega)
  unfold wks at this
  rw [List.length_map] at this
  exact this
 refine ⟨q, wd, hm, hf, n0, n1, hk, hv, h3, hfew, h4, hxe, hxn, hye, fun o => ?_⟩
 refine dcE_ok (by omega) ?_ ?_
 · rw [bad_end (by rw [inF_yes hf]; exact allIn_of hxe) (by rw [inF_yes hf]; exact allIn_of (hye o)) (by rw [xsR_len, ysR_len]) (by rw [xsR_len]; omega), if_pos hxn]
 · rw [xsR_len]; unfold need at h4; omega
noncomputable def pick (D : List Int → Prop) : Option (List Int) := by
 classical exact if h : ∃ R, D R then some h.choose else none
noncomputable def dcP (p : Pn) (l : List Rp) (o : Nat) : Option (List Int) := pick (fun R => Dec (pOf p.f) (dg p + 1).toNat p.e.toNat (xsR p l) (ysR o l) R)
noncomputable def dcL (p : Pn) (l : List Rp) (o : Nat) : List Int := (dcP p l o).getD []
theorem dcP_some {p : Pn} {l : List Rp} {o : Nat} (h : (dcP p l o).isSome = true) : Dec (pOf p.f) (dg p + 1).toNat p.e.toNat (xsR p l) (ysR o l) (dcL p l o) := by
 unfold dcL
 unfold dcP pick at h ⊢
 split at h
 · rename_i hx
   rw [dif_pos hx]
   exact hx.choose_spec
 · cases h
theorem dcP_none {p : Pn} {l : List Rp} {o : Nat} (h : (dcP p l o).isSome = false) (R : List Int) : ¬ Dec (pOf p.f) (dg p + 1).toNat p.e.toNat (xsR p l) (ysR o l) R := fun hR => by
 unfold dcP pick at h
 rw [dif_pos ⟨R, hR⟩] at h
 cases h
theorem dcL_none {p : Pn} {l : List Rp} {o : Nat} (h : (dcP p l o).isSome = false) : dcL p l o = [] := by
 unfold dcL
 cases hc : dcP p l o with
 | none => rfl
 | some x => rw [hc] at h; cases h
theorem Rvf.only {p : Pn} {n : Int} {l : List Rp} {q : Int} {wd : Bool} (h : Rvf p n l q wd) {o : Nat} {R : List Int} (hR : Dec (pOf p.f) (dg p + 1).toNat p.e.toNat (xsR p l) (ysR o l) R) : (dcP p l o).isSome = true ∧ dcL p l o = R := by
 have h1 : (dcP p l o).isSome = true := by
  cases hc : (dcP p l o).isSome with
  | true => rfl
  | false => exact absurd hR (dcP_none hc R)
 refine ⟨h1, ?_⟩
 have h2 := dcP_some h1
 obtain ⟨_, _, _, _, _, _, _⟩ := may_facts h.may
 have hd := dg_bound h.may
 have hn := h.nd
 rw [pOf_eq h.fld] at hR h2
 exact Dec.only h.fld.md h.xe h.xn (by rw [xsR_len]; unfold need at hn; omega) h2 hR
theorem Rvf.told {p : Pn} {n : Int} {l : List Rp} {q : Int} {wd : Bool} (h : Rvf p n l q wd) {o : Nat} {P a : List Int} {k : Bool} (hD : Dcd p.f (xsR p l) (ysR o l) (dg p) p.e P a k) : (k = true ∧ (dcP p l o).isSome = true ∧ P = dcL p l o ∧ a = ofI (pOf p.f) (dcL p l o) (xsR p l) (ysR o l)) ∨ (k = false ∧ (dcP p l o).isSome = false ∧ P = [] ∧ a = []) := by
 rcases hD.2 (h.dc o) with ⟨h1, h2, h3⟩ | ⟨h1, h2, h3, h4⟩
 · obtain ⟨g1, g2⟩ := h.only h2
   exact .inl ⟨h1, g1, g2.symm, by rw [g2]; exact h3⟩
 · refine .inr ⟨h1, ?_, h2, h3⟩
   cases hc : (dcP p l o).isSome with
   | false => rfl
   | true => exact absurd (dcP_some hc) (h4 _)
def Wro (p : Pn) (l : List Rp) (n : Nat) (j : Nat) : Prop := ∃ o, o < n ∧ ∃ r, r ∈ l ∧ r.w = (j : Int) ∧ vl (pOf p.f) (p.k + p.t + r.w) (dcL p l o) ≠ co r.vs o
noncomputable def wrB (p : Pn) (l : List Rp) (n : Nat) (j : Nat) : Bool := by classical exact decide (Wro p l n j)
theorem wrB_iff {p : Pn} {l : List Rp} {n j : Nat} : wrB p l n j = true ↔ Wro p l n j := by unfold wrB; exact @decide_eq_true_iff _ (Classical.propDecidable _)
def mkd (b : Nat → Bool) : List Int := ((List.range 64).filter b).map (fun (i : Nat) => (i : Int))
noncomputable def wrL (p : Pn) (l : List Rp) (n : Nat) : List Int := mkd (wrB p l n)
theorem wrB_mono {p : Pn} {l : List Rp} {n m j : Nat} (h : wrB p l n j = true) (hm : n ≤ m) : wrB p l m j = true := by
 obtain ⟨o, ho, h⟩ := wrB_iff.1 h
 exact wrB_iff.2 ⟨o, by omega, h⟩
theorem filter_mono {α : Type} {a b : α → Bool} : ∀ (l : List α), (∀ x ∈ l, a x = true → b x = true) → (l.filter a).length ≤ (l.filter b).length
 | [], _ => Nat.le_refl _
 | x :: l, h => by
  have ih := filter_mono l (fun y hy => h y (List.mem_cons_of_mem _ hy))
  have h1 := h x List.mem_cons_self
  by_cases h2 : a x = true
  · simp [h2, h1 h2]; omega
  · by_cases h3 : b x = true <;> simp [h2, h3] <;> omega
theorem wrL_mono (p : Pn) (l : List Rp) {n m : Nat} (h : n ≤ m) : (wrL p l n).length ≤ (wrL p l m).length := by
 unfold wrL mkd
 rw [List.length_map, List.length_map]
 exact filter_mono _ (fun j _ hj => wrB_mono hj h)
theorem mkd_len (b : Nat → Bool) : (mkd b).length ≤ 64 := by
 unfold mkd
 rw [List.length_map]
 have := List.length_filter_le b (List.range 64)
 rw [List.length_range] at this
 exact this
theorem wrB_zero (p : Pn) (l : List Rp) (j : Nat) : wrB p l 0 j = false := by
 cases h : wrB p l 0 j with
 | false => rfl
 | true => obtain ⟨o, ho, _⟩ := wrB_iff.1 h; omega
theorem wrB_next {p : Pn} {l : List Rp} {o j : Nat} : wrB p l (o + 1) j = true ↔ wrB p l o j = true ∨ ∃ i ∈ offp (pOf p.f) (dcL p l o) (xsR p l) (ysR o l), (l.getD i nrp).w = (j : Int) := by
 rw [wrB_iff, wrB_iff]
 constructor
 · rintro ⟨o', ho, r, hr, hj, hv⟩
   by_cases e : o' < o
   · exact .inl ⟨o', e, r, hr, hj, hv⟩
   · obtain rfl : o' = o := by omega
     obtain ⟨i, hi, rfl⟩ := in_atR hr
     refine .inr ⟨i, offp_mem.2 ⟨by rw [xsR_len]; exact hi, ?_⟩, hj⟩
     rw [xsR_at p hi, ysR_at o' hi]; exact hv
 · rintro (⟨o', ho, h⟩ | ⟨i, hi, hj⟩)
   · exact ⟨o', by omega, h⟩
   · obtain ⟨h1, h2⟩ := offp_mem.1 hi
     rw [xsR_len] at h1
     rw [xsR_at p h1, ysR_at o h1] at h2
     exact ⟨o, by omega, _, getD_inR h1, hj, h2⟩
def Fine (p : Pn) (l : List Rp) (n : Nat) : Prop := (∀ o, o < n → (dcP p l o).isSome = true) ∧ ((wrL p l n).length : Int) ≤ p.e
noncomputable def fnB (p : Pn) (l : List Rp) (n : Nat) : Bool := by classical exact decide (Fine p l n)
theorem fnB_iff {p : Pn} {l : List Rp} {n : Nat} : fnB p l n = true ↔ Fine p l n := by unfold fnB; exact @decide_eq_true_iff _ (Classical.propDecidable _)
theorem fnB_no {p : Pn} {l : List Rp} {n : Nat} (h : ¬ Fine p l n) : fnB p l n = false := by
 cases hc : fnB p l n with
 | false => rfl
 | true => exact absurd (fnB_iff.1 hc) h
theorem Fine.less {p : Pn} {l : List Rp} {n m : Nat} (h : Fine p l m) (hn : n ≤ m) : Fine p l n :=
 ⟨fun o ho => h.1 o (by omega), by have := wrL_mono p l hn; have := h.2; omega⟩
theorem fine_zero {p : Pn} {l : List Rp} (h : 0 ≤ p.e) : Fine p l 0 := by
 refine ⟨fun o ho => by omega, ?_⟩
 have : wrL p l 0 = [] := by
  unfold wrL mkd
  rw [List.filter_eq_nil_iff.2 (fun j _ => by rw [wrB_zero]; decide)]
  rfl
 rw [this]; exact h
noncomputable def rcE (p : Pn) (n : Int) (l : List Rp) : Int := if rvE p n l = 0 then (if fnB p l n.toNat = true then 0 else 180) else rvE p n l
noncomputable def plL (p : Pn) (l : List Rp) (n : Nat) : List (List Int) := (List.range n).map (dcL p l)
noncomputable def rcP (p : Pn) (n : Int) (l : List Rp) : List (List Int) := if rcE p n l = 0 then plL p l n.toNat else []
def rwR (q : Int) (Ps : List (List Int)) (x : Int) : List Int := Ps.map (vl q x)
noncomputable def rcR (p : Pn) (n : Int) (l : List Rp) : List (List Int) := if rcE p n l = 0 then (datL p).map (rwR (pOf p.f) (plL p l n.toNat)) else []
noncomputable def rcW (p : Pn) (n : Int) (l : List Rp) : List Int := if rcE p n l = 0 then wrL p l n.toNat else []
theorem rcE_zero {p : Pn} {n : Int} {l : List Rp} (h : rcE p n l = 0) : rvE p n l = 0 ∧ Fine p l n.toNat := by
 unfold rcE at h
 by_cases h1 : rvE p n l = 0
 · rw [if_pos h1] at h
   refine ⟨h1, ?_⟩
   cases hc : fnB p l n.toNat with
   | true => exact fnB_iff.1 hc
   | false => rw [hc] at h; exact absurd h (by decide)
 · rw [if_neg h1] at h; exact absurd h h1
theorem rc_yes {p : Pn} {n : Int} {l : List Rp} (h : rvE p n l = 0) (hf : Fine p l n.toNat) : rcE p n l = 0 ∧ rcP p n l = plL p l n.toNat ∧ rcR p n l = (datL p).map (rwR (pOf p.f) (plL p l n.toNat)) ∧ rcW p n l = wrL p l n.toNat := by
 have e : rcE p n l = 0 := by unfold rcE; rw [if_pos h, if_pos (fnB_iff.2 hf)]
 exact ⟨e, if_pos e, if_pos e, if_pos e⟩
theorem rc_err {p : Pn} {n : Int} {l : List Rp} (h : rcE p n l ≠ 0) : rcP p n l = [] ∧ rcR p n l = [] ∧ rcW p n l = [] := ⟨if_neg h, if_neg h, if_neg h⟩
theorem rc_many {p : Pn} {n : Int} {l : List Rp} (h : rvE p n l = 0) (hf : ¬ Fine p l n.toNat) : rcE p n l = 180 := by
 unfold rcE; rw [if_pos h, fnB_no hf]; rfl
theorem rc_bad {p : Pn} {n : Int} {l : List Rp} (h : rvE p n l ≠ 0) : rcE p n l = rvE p n l := if_neg h
theorem range_filter {α : Type} (g : α → Bool) (d : α) : ∀ l : List α, ((List.range l.length).filter (fun i => g (l.getD i d))).length = (l.filter g).length
 | [] => rfl
 | x :: l => by
  have ih := range_filter g d l
  rw [List.length_cons, List.range_succ_eq_map, List.filter_cons, List.filter_cons]
  have e : (List.map Nat.succ (List.range l.length)).filter (fun i => g ((x :: l).getD i d)) = ((List.range l.length).filter (fun i => g (l.getD i d))).map Nat.succ := by
   rw [List.filter_map]; rfl
  rw [e]
  have e0 : (x :: l).getD 0 d = x := rfl
  rw [e0]
  by_cases h : g x = true
  · rw [if_pos h, if_pos h, List.length_cons, List.length_cons, List.length_map, ih]
  · rw [if_neg h, if_neg h, List.length_map, ih]
theorem offp_count (p : Pn) (q : Int) (P : List Int) (l : List Rp) (o : Nat) : (offp q P (xsR p l) (ysR o l)).length = (l.filter (fun r => decide (vl q (p.k + p.t + r.w) P ≠ co r.vs o))).length := by
 rw [← range_filter _ nrp]
 unfold offp
 rw [xsR_len]
 congr 1
 refine List.filter_congr (fun i hi => ?_)
 have hi := List.mem_range.1 hi
 rw [xsR_at p hi, ysR_at o hi]
section turn
variable {p : Pn} {n : Int} {l l' : List Rp} (h : l.Perm l')
include h
theorem rvE_perm : rvE p n l = rvE p n l' := by
 have e1 : l.all (mrB p n) = l'.all (mrB p n) := by
  rw [Bool.eq_iff_iff, List.all_eq_true, List.all_eq_true]
  exact ⟨fun g r hr => g r (h.mem_iff.2 hr), fun g r hr => g r (h.mem_iff.1 hr)⟩
 have e2 : (wks l).Nodup ↔ (wks l').Nodup := (h.map Rp.w).nodup_iff
 unfold rvE
 rw [e1, h.length_eq]
 by_cases h2 : (wks l).Nodup
 · rw [if_pos h2, if_pos (e2.1 h2)]
 · rw [if_neg h2, if_neg (fun c => h2 (e2.2 c))]
theorem dcP_perm (o : Nat) : dcP p l o = dcP p l' o := by
 unfold dcP
 congr 1
 funext R
 unfold Dec
 rw [offp_count, offp_count, (h.filter _).length_eq]
theorem dcL_perm (o : Nat) : dcL p l o = dcL p l' o := by unfold dcL; rw [dcP_perm h]
theorem wrB_perm (m : Nat) : wrB p l m = wrB p l' m := by
 funext j
 rw [Bool.eq_iff_iff, wrB_iff, wrB_iff]
 unfold Wro
 constructor
 · rintro ⟨o, ho, r, hr, h1, h2⟩
   exact ⟨o, ho, r, h.mem_iff.1 hr, h1, by rw [← dcL_perm h]; exact h2⟩
 · rintro ⟨o, ho, r, hr, h1, h2⟩
   exact ⟨o, ho, r, h.mem_iff.2 hr, h1, by rw [dcL_perm h]; exact h2⟩
theorem rc_perm : rcE p n l = rcE p n l' ∧ rcR p n l = rcR p n l' ∧ rcP p n l = rcP p n l' ∧ rcW p n l = rcW p n l' := by
 have e1 := rvE_perm (p := p) (n := n) h
 have e2 : dcL p l = dcL p l' := funext (dcL_perm h)
 have e3 : wrL p l n.toNat = wrL p l' n.toNat := by unfold wrL; rw [wrB_perm h]
 have e4 : fnB p l n.toNat = fnB p l' n.toNat := by
  rw [Bool.eq_iff_iff, fnB_iff, fnB_iff]
  unfold Fine
  rw [e3]
  simp only [dcP_perm h]
 have e5 : rcE p n l = rcE p n l' := by unfold rcE; rw [e1, e4]
 refine ⟨e5, ?_, ?_, ?_⟩
 · unfold rcR plL; rw [e5, e2]
 · unfold rcP plL; rw [e5, e2]
 · unfold rcW; rw [e5, e3]
end turn
end Go.Proofs.YtjhididlcdepdaaGreat
