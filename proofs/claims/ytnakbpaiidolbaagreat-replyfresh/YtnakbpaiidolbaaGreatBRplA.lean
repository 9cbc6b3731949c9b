import Derived.Test.YtnakbpaiidolbaaGreatBunK
import Derived.Test.YtnakbpaiidolbaaGreatBunHA
namespace Go.Proofs.YtnakbpaiidolbaaGreat
open Go.RowKit Fld Slp Pln Shr
set_option linter.unusedVariables false
set_option linter.unusedSimpArgs false
def fitQ (p : Pn) (q : Pr) : Bool := mayP p && (decide (ofE q = 0) && (decide (q.inp = p.w) && decide (ofV q ≤ p.d)))
def ftQ (p : Pn) (q : Pr) : Int := if fitQ p q = true then 0 else 2
def rpE (p : Pn) (q : Pr) (xs : List Int) : Int := if fitQ p q = true then evE p.f q xs else 2
def rpL (p : Pn) (q : Pr) (xs : List Int) : List Int := if rpE p q xs = 0 then rnO (Rf p.f) q xs else []
def rsE (p : Pn) (q : Pr) (dl : List (List Int)) : Int := if fitQ p q = true then (if elsB p.f dl = true then (if blkB p.w p.k dl = true then 0 else 3) else 2) else 2
def rsL (p : Pn) (q : Pr) (dl : List (List Int)) : List (List Int) := if rsE p q dl = 0 then dl.map (rnO (Rf p.f) q) else []
def cmE (p : Pn) (q : Pr) (dl pl : List (List Int)) : Int := if fitQ p q = true then (if bkE p dl pl [] = 0 then coE p.f q (polL p dl pl) else bkE p dl pl []) else 2
def cmL (p : Pn) (q : Pr) (dl pl : List (List Int)) : List (List Int) := if cmE p q dl pl = 0 then coL p.f q (polL p dl pl) else []
def hnE (p : Pn) (q : Pr) (dl pl : List (List Int)) (i : Int) : Int := if fitQ p q = true then bkE p dl pl [i] else 2
def hnL (p : Pn) (q : Pr) (dl pl : List (List Int)) (i : Int) : List Int := if hnE p q dl pl i = 0 then rnO (Rf p.f) q (shaL p dl pl i) else []
theorem fit_facts {p : Pn} {q : Pr} (h : fitQ p q = true) : mayP p = true ∧ mayB q = true ∧ ofE q = 0 ∧ q.inp = p.w ∧ ofV q ≤ p.d := by
 unfold fitQ at h
 rw [Bool.and_eq_true, Bool.and_eq_true, Bool.and_eq_true] at h
 obtain ⟨h1, h2, h3, h4⟩ := h
 have h2 := of_decide_eq_true h2
 refine ⟨h1, ?_, h2, of_decide_eq_true h3, of_decide_eq_true h4⟩
 cases hm : mayB q with
 | true => rfl
 | false => unfold ofE at h2; rw [hm] at h2; simp at h2
theorem ftQ_yes {p : Pn} {q : Pr} (h : fitQ p q = true) : ftQ p q = 0 := if_pos h
theorem ftQ_no {p : Pn} {q : Pr} (h : fitQ p q = false) : ftQ p q = 2 := by unfold ftQ; rw [h]; rfl
theorem fi_inF {p : Pn} (h : mayP p = true) : inF p.f [] = true := by
 obtain ⟨q, wd, hf⟩ := may_field h
 rw [inF_yes hf]; rfl
theorem pol_lim {p : Pn} {dl pl : List (List Int)} (w1 : ∀ b ∈ dl, Wd b) (w2 : ∀ b ∈ pl, Wd b) (hz : bkE p dl pl [] = 0) : ∃ q wd, Fi p.f q wd ∧ (polL p dl pl).length = p.w.toNat ∧ (∀ x ∈ polL p dl pl, Tm q x ∧ x.length ≤ (p.k + p.t).toNat) := by
 obtain ⟨hm, ⟨q, wd, hf, he⟩, hw, hd, hp, hwho⟩ := bk_zero hz
 obtain ⟨i1, i2, i3, i4, i5, i6⟩ := inn_facts hm hf
 have hb : ∀ b ∈ dl ++ pl, Els q b := fun b hb => els_of (he b hb) (by
  rcases List.mem_append.1 hb with h | h
  · exact (w1 b h).2
  · exact (w2 b h).2)
 refine ⟨q, wd, hf, by unfold polL pys; rw [if_pos hz]; simp, fun x hx => ?_⟩
 unfold polL pys at hx
 rw [if_pos hz, pOf_eq hf] at hx
 obtain ⟨t, _, rfl⟩ := List.mem_map.1 hx
 have hT := py_thr hf.md i1 i2 hb t
 exact ⟨hT.1, by rw [← i3]; exact hT.2.1⟩
theorem shr_here {p : Int} {wd : Bool} (hm : Md p wd) {xs : List Int} (hx : Els p xs) (hn : xs.Nodup) {w : Nat} {bl : List (List Int)} (hb : ∀ b ∈ bl, Els p b) (hw : ∀ b ∈ bl, b.length = w) (hk : bl.length = xs.length) {i : Nat} (hi : i < bl.length) : shr p xs w bl (co xs i) = bl[i] := by
 refine ext_co ((shr_len _ _ _ _ _).trans (hw _ (List.getElem_mem hi)).symm) (fun t ht => ?_)
 rw [shr_len] at ht
 rw [shr_at ht]
 have := (py_thr hm hx hn hb t).2.2 i (by omega)
 rw [col_at hi] at this
 exact this
theorem top_le {xss : List (List Int)} {B : Nat} (h : ∀ x ∈ xss, x.length - 1 ≤ B) : top xss ≤ B := by
 have h1 := (gr_top xss xss.length (Nat.le_refl _)).1
 have h2 := gr_le xss (B : Int) (by omega) xss.length (Nat.le_refl _) (fun i hi => by
  have hm : xss.getD i [] ∈ xss := by rw [List.getD_eq_getElem?_getD, List.getElem?_eq_getElem hi]; exact List.getElem_mem hi
  have := h _ hm
  have := tr_len (xss.getD i [])
  omega)
 unfold top
 omega
theorem cm_case {p : Pn} {q : Pr} {dl pl : List (List Int)} (w1 : ∀ b ∈ dl, Wd b) (w2 : ∀ b ∈ pl, Wd b) (hf : fitQ p q = true) (hz : bkE p dl pl [] = 0) : cmE p q dl pl = (if 4096 ≤ ofV q * (top (polL p dl pl) : Int) then 4 else 0) ∧ (top (polL p dl pl) : Int) ≤ p.k + p.t - 1 ∧ cmE p q dl pl = cpE p.f q (polL p dl pl) := by
 obtain ⟨hm, hmb, hoe, hin, hov⟩ := fit_facts hf
 obtain ⟨r, wd, hr, hl, hx⟩ := pol_lim w1 w2 hz
 obtain ⟨_, ⟨k0, k1⟩, ⟨t0, t1⟩, _, _, _, ⟨v0, v1⟩⟩ := may_facts hm
 have e1 : cmE p q dl pl = cpE p.f q (polL p dl pl) := by
  unfold cmE coE; rw [if_pos hf, if_pos hz, hmb, fi_inF hm]; rfl
 have e2 : (polL p dl pl).all (inF p.f) = true := List.all_eq_true.2 (fun x hx' => by rw [inF_yes hr]; exact allIn_of (hx x hx').1.1)
 have e3 : lgB (polL p dl pl) = false := lg_all (fun i hi => by
  have hm : (polL p dl pl).getD i [] ∈ polL p dl pl := by rw [List.getD_eq_getElem?_getD, List.getElem?_eq_getElem hi]; exact List.getElem_mem hi
  have := (hx _ hm).2
  omega)
 have e4 : top (polL p dl pl) ≤ (p.k + p.t).toNat - 1 := top_le (fun x hx' => by have := (hx x hx').2; omega)
 refine ⟨?_, by omega, e1⟩
 rw [e1]
 unfold cpE
 rw [if_pos e2, if_pos (by rw [hl, hin]; omega), e3, if_neg (by decide), if_pos hoe]
theorem cm_four {p : Pn} {q : Pr} {dl pl : List (List Int)} (w1 : ∀ b ∈ dl, Wd b) (w2 : ∀ b ∈ pl, Wd b) (hf : fitQ p q = true) (hz : bkE p dl pl [] = 0) : cmE p q dl pl = 0 ∨ (cmE p q dl pl = 4 ∧ 4096 ≤ p.d * (p.k + p.t - 1)) := by
 obtain ⟨h1, h2, _⟩ := cm_case w1 w2 hf hz
 obtain ⟨hm, _, hoe, _, hov⟩ := fit_facts hf
 obtain ⟨h0, _, _⟩ := of_le hoe
 rw [h1]
 split
 · rename_i hc
   have a1 : ofV q * (top (polL p dl pl) : Int) ≤ p.d * (top (polL p dl pl) : Int) := Int.mul_le_mul_of_nonneg_right hov (by omega)
   have a2 : p.d * (top (polL p dl pl) : Int) ≤ p.d * (p.k + p.t - 1) := Int.mul_le_mul_of_nonneg_left h2 (by omega)
   exact .inr ⟨rfl, by omega⟩
 · exact .inl rfl
theorem cm_facts {p : Pn} {q : Pr} {dl pl : List (List Int)} (w1 : ∀ b ∈ dl, Wd b) (w2 : ∀ b ∈ pl, Wd b) (hf : fitQ p q = true) (hz : bkE p dl pl [] = 0) (hc : cmE p q dl pl = 0) : ∃ r wd, Fi p.f r wd ∧ (cmL p q dl pl).length = q.outs.length ∧ (∀ z ∈ cmL p q dl pl, Lim r z ∧ (z.length : Int) - 1 ≤ dg p) ∧ (∀ i (hi : i < dl.length), (cmL p q dl pl).map (vl r (i : Int)) = rnO (Rf p.f) q dl[i]) ∧ (∀ x : Int, (cmL p q dl pl).map (vl r x) = rnO (Rf p.f) q (shr r (innL p) p.w.toNat (dl ++ pl) x)) := by
 obtain ⟨hm, hmb, hoe, hin, hov⟩ := fit_facts hf
 obtain ⟨h0, h1', h2'⟩ := of_le hoe
 obtain ⟨c1, c2, c3⟩ := cm_case w1 w2 hf hz
 obtain ⟨_, ⟨r, wd, hr, he⟩, hw, hd, hp, _⟩ := bk_zero hz
 obtain ⟨i1, i2, i3, i4, i5, i6⟩ := inn_facts hm hr
 obtain ⟨_, ⟨k0, k1⟩, ⟨t0, t1⟩, _, _, _, ⟨v0, v1⟩⟩ := may_facts hm
 obtain ⟨r', wd', hr', hl, hx⟩ := pol_lim w1 w2 hz
 have hrr : r' = r := by rw [← pOf_eq hr', pOf_eq hr]
 subst hrr
 have hb : ∀ b ∈ dl ++ pl, Els r' b := fun b hb => els_of (he b hb) (by
  rcases List.mem_append.1 hb with h | h
  · exact (w1 b h).2
  · exact (w2 b h).2)
 have hbl : (dl ++ pl).length = (innL p).length := by rw [List.length_append]; omega
 have hlim : ∀ x ∈ polL p dl pl, Lim r' x := fun x hx' => ⟨(hx x hx').1.1, by have := (hx x hx').2; omega⟩
 have hcz : cpE p.f q (polL p dl pl) = 0 := by rw [← c3]; exact hc
 have hce : coE p.f q (polL p dl pl) = 0 := by unfold coE; rw [hmb, fi_inF hm]; exact hcz
 have hco : coL p.f q (polL p dl pl) = rnO (Rt p.f) (trP q) ((polL p dl pl).map tr) := by unfold coL; rw [if_pos hce]
 have hcm : cmL p q dl pl = coL p.f q (polL p dl pl) := by unfold cmL; rw [if_pos hc]
 have hV : ∀ x : Int, (polL p dl pl).map (vl r' x) = shr r' (innL p) p.w.toNat (dl ++ pl) x := fun x => by
  unfold polL; rw [if_pos hz, pOf_eq hr]; exact shr_pys _ _ _ _ _
 have hM : ∀ x : Int, (cmL p q dl pl).map (vl r' x) = rnO (Rf p.f) q (shr r' (innL p) p.w.toNat (dl ++ pl) x) := fun x => by
  rw [hcm, (meets_facts hr hmb hcz hlim hco x).2.1, hV]
 refine ⟨r', wd, hr, by rw [hcm]; exact (meets_facts hr hmb hcz hlim hco 0).1, fun z hz' => ?_, fun i hi => ?_, hM⟩
 · rw [hcm] at hz'
   have h3 := (meets_facts hr hmb hcz hlim hco 0).2.2 z hz'
   refine ⟨?_, ?_⟩
   · rw [hco] at hz'
     obtain ⟨v, _, rfl⟩ := List.mem_map.1 hz'
     have hal := lim_allT hr (trP q).ops ((polL p dl pl).map tr) (fun x hx' => by obtain ⟨y, hy, rfl⟩ := List.mem_map.1 hx'; exact lim_tr hr.pos (hlim y hy))
     rw [List.getD_eq_getElem?_getD]
     cases e : (rns (Rt p.f) (trP q) ((polL p dl pl).map tr))[v.toNat]? with
     | none => exact ⟨els_nil r', by simp [Rt]⟩
     | some x => exact hal x (List.mem_of_getElem? e)
   · have a1 : ofV q * (top (polL p dl pl) : Int) ≤ p.d * (top (polL p dl pl) : Int) := Int.mul_le_mul_of_nonneg_right hov (by omega)
     have a2 : p.d * (top (polL p dl pl) : Int) ≤ p.d * (p.k + p.t - 1) := Int.mul_le_mul_of_nonneg_left c2 (by omega)
     have a3 : ofV q * (top (polL p dl pl) : Int) = ((dgO q * top (polL p dl pl) : Nat) : Int) := by rw [h2', Int.natCast_mul]
     unfold dg
     have a4 : 0 ≤ p.d * (p.k + p.t - 1) := Int.le_trans (Int.mul_nonneg h0 (by omega)) (Int.le_trans a1 a2)
     omega
 · have hi2 : i < (dl ++ pl).length := by rw [List.length_append]; omega
   have e0 : co (innL p) i = (i : Int) := by
    unfold innL; rw [show co (pts 0 (p.k + p.t).toNat) i = (pts 0 (p.k + p.t).toNat).getD i 0 from rfl, pts_at 0 (by omega)]; omega
   have := shr_here hr.md i1 i2 hb hw hbl hi2
   rw [e0] at this
   rw [hM, this, List.getElem_append_left hi]
theorem hst_eq {p : Pn} {q : Pr} {dl pl : List (List Int)} {r : Int} {wd : Bool} (hr : Fi p.f r wd) (hf : fitQ p q = true) (hz : bkE p dl pl [] = 0) {i : Int} (h0 : 0 ≤ i) (h1 : i < p.n) : hnE p q dl pl i = 0 ∧ hnL p q dl pl i = rnO (Rf p.f) q (shr r (innL p) p.w.toNat (dl ++ pl) (co (outL p) i.toNat)) := by
 have hb : bkE p dl pl [i] = 0 := by
  rw [← hz]; unfold bkE
  have : whoB p.n [i] = whoB p.n [] := by simp [whoB, h0, h1]
  rw [this]
 have he : hnE p q dl pl i = 0 := by unfold hnE; rw [if_pos hf]; exact hb
 refine ⟨he, ?_⟩
 unfold hnL shaL
 rw [if_pos he, if_pos hb, pOf_eq hr]
end Go.Proofs.YtnakbpaiidolbaaGreat
