import Derived.Test.YtjhididlcdepdaaGreatBunK
import Derived.Test.YtjhididlcdepdaaGreatBunHA
set_option linter.unusedVariables false
set_option linter.unusedSimpArgs false
set_option maxRecDepth 100000
set_option maxHeartbeats 4000000
namespace Go.Proofs.YtjhididlcdepdaaGreat
open Go.RowKit Fld Slp Pln Shr
def fitQ (p : Pn) (q : Pr) : Bool := mayP p && (decide (ofE q = 0) && (decide (q.inp = p.w) && decide (ofV q <= p.d)))
def ftQ (p : Pn) (q : Pr) : Int := if fitQ p q = true then 0 else 2
def rpE (p : Pn) (q : Pr) (xs : List Int) : Int := if fitQ p q = true then evE p.f q xs else 2
def rpL (p : Pn) (q : Pr) (xs : List Int) : List Int := if rpE p q xs = 0 then rnO (Rf p.f) q xs else []
def rsE (p : Pn) (q : Pr) (dl : List (List Int)) : Int := if fitQ p q = true then (if elsB p.f dl = true then (if blkB p.w p.k dl = true then 0 else 3) else 2) else 2
def rsL (p : Pn) (q : Pr) (dl : List (List Int)) : List (List Int) := if rsE p q dl = 0 then dl.map (rnO (Rf p.f) q) else []
def cmE (p : Pn) (q : Pr) (dl pl : List (List Int)) : Int := if fitQ p q = true then (if bkE p dl pl [] = 0 then coE p.f q (polL p dl pl) else bkE p dl pl []) else 2
def cmL (p : Pn) (q : Pr) (dl pl : List (List Int)) : List (List Int) := if cmE p q dl pl = 0 then coL p.f q (polL p dl pl) else []
theorem fit_facts {p : Pn} {q : Pr} (h : fitQ p q = true) : mayP p = true ∧ mayB q = true ∧ ofE q = 0 ∧ q.inp = p.w ∧ ofV q <= p.d := by
 unfold fitQ at h
 rw [Bool.and_eq_true, Bool.and_eq_true, Bool.and_eq_true] at h
 obtain ⟨h1, h2, h3, h4⟩ := h
 have h2 := of_decide_eq_true h2
 refine ⟨h1, ?_, h2, of_decide_eq_true h3, of_decide_eq_true h4⟩
 cases hm : mayB q with
 | true => rfl
 | false => unfold ofE at h2; rw [hm] at h2; simp at h2
theorem ftQ_yes {p : Pn} {q : Pr} (h : fitQ p q = true) : ftQ p q = 0 := if_pos h
theorem ftQ_no {p : Pn} {q : Pr} (h : fitQ p q = false) : ftQ p q = 2 := by unfold ftQ; rw [h]; rfl
theorem fi_inF {p : Pn} (h : mayP p = true) : inF p.f [] = true := by
 obtain ⟨q, wd, hf⟩ := may_field h
 rw [inF_yes hf]; rfl
theorem pol_lim {p : Pn} {dl pl : List (List Int)} (w1 : ∀ b ∈ dl, Wd b) (w2 : ∀ b ∈ pl, Wd b) (hz : bkE p dl pl [] = 0) : ∃ q wd, Fi p.f q wd ∧ (polL p dl pl).length = p.w.toNat ∧ (∀ x ∈ polL p dl pl, Tm q x ∧ x.length <= (p.k + p.t).toNat) := by
 obtain ⟨hm, ⟨q, wd, hf, he⟩, hw, hd, hp, hwho⟩ := bk_zero hz
 obtain ⟨i1, i2, i3, i4, i5, i6⟩ := inn_facts hm hf
 have hb : ∀ b ∈ dl ++ pl, Els q b := fun b hb => els_of (he b hb) (by
  rcases List.mem_append.1 hb with h | h
  · exact (w1 b h).2
  · exact (w2 b h).2)
 refine ⟨q, wd, hf, by unfold polL pys; rw [if_pos hz]; simp, fun x hx => ?_⟩
 unfold polL pys at hx
 rw [if_pos hz, pOf_eq hf] at hx
 obtain ⟨t, _, rfl⟩ := List.mem_map.1 hx
 have hT := py_thr hf.md i1 i2 hb t
 exact ⟨hT.1, by rw [<- i3]; exact hT.2.1⟩
theorem shr_here {p : Int} {wd : Bool} (hm : Md p wd) {xs : List Int} (hx : Els p xs) (hn : xs.Nodup) {w : Nat} {bl : List (List Int)} (hb : ∀ b ∈ bl, Els p b) (hw : ∀ b ∈ bl, b.length = w) (hk : bl.length = xs.length) {i : Nat} (hi : i < bl.length) : shr p xs w bl (co xs i) = bl[i] := by
 refine ext_co ((shr_len _ _ _ _ _).trans (hw _ (List.getElem_mem hi)).symm) (fun t ht => ?_)
 rw [shr_len] at ht
 rw [shr_at ht]
 have := (py_thr hm hx hn hb t).2.2 i (by omega)
 rw [col_at hi] at this
 exact this
theorem top_le {xss : List (List Int)} {B : Nat} (h : ∀ x ∈ xss, x.length - 1 <= B) : top xss <= B := by
 have h1 := (gr_top xss xss.length (Nat.le_refl _)).1
 have h2 := gr_le xss (B : Int) (by omega) xss.length (Nat.le_refl _) (fun i hi => by
  have hm : xss.getD i [] ∈ xss := by rw [List.getD_eq_getElem?_getD, List.getElem?_eq_getElem hi]; exact List.getElem_mem hi
  have := h _ hm
  have := tr_len (xss.getD i [])
  omega)
 unfold top
 omega
theorem cm_case {p : Pn} {q : Pr} {dl pl : List (List Int)} (w1 : ∀ b ∈ dl, Wd b) (w2 : ∀ b ∈ pl, Wd b) (hf : fitQ p q = true) (hz : bkE p dl pl [] = 0) : cmE p q dl pl = (if 4096 <= ofV q * (top (polL p dl pl) : Int) then 4 else 0) ∧ (top (polL p dl pl) : Int) <= p.k + p.t - 1 ∧ cmE p q dl pl = cpE p.f q (polL p dl pl) := by
 obtain ⟨hm, hmb, hoe, hin, hov⟩ := fit_facts hf
 obtain ⟨r, wd, hr, hl, hx⟩ := pol_lim w1 w2 hz
 obtain ⟨_, ⟨k0, k1⟩, ⟨t0, t1⟩, _, _, _, ⟨v0, v1⟩⟩ := may_facts hm
 have e1 : cmE p q dl pl = cpE p.f q (polL p dl pl) := by
  unfold cmE coE; rw [if_pos hf, if_pos hz, hmb, fi_inF hm]; rfl
 have e2 : (polL p dl pl).all (inF p.f) = true := List.all_eq_true.2 (fun x hx' => by rw [inF_yes hr]; exact allIn_of (hx x hx').1.1)
 have e3 : lgB (polL p dl pl) = false := lg_all (fun i hi => by
  have hm : (polL p dl pl).getD i [] ∈ polL p dl pl := by rw [List.getD_eq_getElem?_getD, List.getElem?_eq_getElem hi]; exact List.getElem_mem hi
  have := (hx _ hm).2
  omega)
 have e4 : top (polL p dl pl) <= (p.k + p.t).toNat - 1 := top_le (fun x hx' => by have := (hx x hx').2; omega)
 refine ⟨?_, by omega, e1⟩
 rw [e1]
 unfold cpE
 rw [if_pos e2, if_pos (by rw [hl, hin]; omega), e3, if_neg (by decide), if_pos hoe]
theorem cm_four {p : Pn} {q : Pr} {dl pl : List (List Int)} (w1 : ∀ b ∈ dl, Wd b) (w2 : ∀ b ∈ pl, Wd b) (hf : fitQ p q = true) (hz : bkE p dl pl [] = 0) : cmE p q dl pl = 0 ∨ (cmE p q dl pl = 4 ∧ 4096 <= p.d * (p.k + p.t - 1)) := by
 obtain ⟨h1, h2, _⟩ := cm_case w1 w2 hf hz
 obtain ⟨hm, _, hoe, _, hov⟩ := fit_facts hf
 obtain ⟨h0, _, _⟩ := of_le hoe
 rw [h1]
 split
 · rename_i hc
   have a1 : ofV q * (top (polL p dl pl) : Int) <= p.d * (top (polL p dl pl) : Int) := Int.mul_le_mul_of_nonneg_right hov (by omega)
   have a2 : p.d * (top (polL p dl pl) : Int) <= p.d * (p.k + p.t - 1) := Int.mul_le_mul_of_nonneg_left h2 (by omega)
   exact .inr ⟨rfl, by omega⟩
 · exact .inl rfl
theorem cm_facts {p : Pn} {q : Pr} {dl pl : List (List Int)} (w1 : ∀ b ∈ dl, Wd b) (w2 : ∀ b ∈ pl, Wd b) (hf : fitQ p q = true) (hz : bkE p dl pl [] = 0) (hc : cmE p q dl pl = 0) : ∃ r wd, Fi p.f r wd ∧ (cmL p q dl pl).length = q.outs.length ∧ (∀ z ∈ cmL p q dl pl, Lim r z ∧ (z.length : Int) - 1 <= dg p) ∧ (∀ i (hi : i < dl.length), (cmL p q dl pl).map (vl r (i : Int)) = rnO (Rf p.f) q dl[i]) ∧ (∀ x : Int, (cmL p q dl pl).map (vl r x) = rnO (Rf p.f) q (shr r (innL p) p.w.toNat (dl ++ pl) x)) := by
 obtain ⟨hm, hmb, hoe, hin, hov⟩ := fit_facts hf
 obtain ⟨h0, h1', h2'⟩ := of_le hoe
 obtain ⟨c1, c2, c3⟩ := cm_case w1 w2 hf hz
 obtain ⟨_, ⟨r, wd, hr, he⟩, hw, hd, hp, _⟩ := bk_zero hz
 obtain ⟨i1, i2, i3, i4, i5, i6⟩ := inn_facts hm hr
 obtain ⟨_, ⟨k0, k1⟩, ⟨t0, t1⟩, _, _, _, ⟨v0, v1⟩⟩ := may_facts hm
 obtain ⟨r', wd', hr', hl, hx⟩ := pol_lim w1 w2 hz
 have hrr : r' = r := by rw [<- pOf_eq hr', pOf_eq hr]
 subst hrr
 have hb : ∀ b ∈ dl ++ pl, Els r' b := fun b hb => els_of (he b hb) (by
  rcases List.mem_append.1 hb with h | h
  · exact (w1 b h).2
  · exact (w2 b h).2)
 have hbl : (dl ++ pl).length = (innL p).length := by rw [List.length_append]; omega
 have hlim : ∀ x ∈ polL p dl pl, Lim r' x := fun x hx' => ⟨(hx x hx').1.1, by have := (hx x hx').2; omega⟩
 have hcz : cpE p.f q (polL p dl pl) = 0 := by rw [<- c3]; exact hc
 have hce : coE p.f q (polL p dl pl) = 0 := by unfold coE; rw [hmb, fi_inF hm]; exact hcz
 have hco : coL p.f q (polL p dl pl) = rnO (Rt p.f) (trP q) ((polL p dl pl).map tr) := by unfold coL; rw [if_pos hce]
 have hcm : cmL p q dl pl = coL p.f q (polL p dl pl) := by unfold cmL; rw [if_pos hc]
 have hV : ∀ x : Int, (polL p dl pl).map (vl r' x) = shr r' (innL p) p.w.toNat (dl ++ pl) x := fun x => by
  unfold polL; rw [if_pos hz, pOf_eq hr]; exact shr_pys _ _ _ _ _
 have hM : ∀ x : Int, (cmL p q dl pl).map (vl r' x) = rnO (Rf p.f) q (shr r' (innL p) p.w.toNat (dl ++ pl) x) := fun x => by
  rw [hcm, (meets_facts hr hmb hcz hlim hco x).2.1, hV]
 refine ⟨r', wd, hr, by rw [hcm]; exact (meets_facts hr hmb hcz hlim hco 0).1, fun z hz' => ?_, fun i hi => ?_, hM⟩
 · rw [hcm] at hz'
   have h3 := (meets_facts hr hmb hcz hlim hco 0).2.2 z hz'
   refine ⟨?_, ?_⟩
   · rw [hco] at hz'
     obtain ⟨v, _, rfl⟩ := List.mem_map.1 hz'
     have hal := lim_allT hr (trP q).ops ((polL p dl pl).map tr) (fun x hx' => by obtain ⟨y, hy, rfl⟩ := List.mem_map.1 hx'; exact lim_tr hr.pos (hlim y hy))
     rw [List.getD_eq_getElem?_getD]
     cases e : (rns (Rt p.f) (trP q) ((polL p dl pl).map tr))[v.toNat]? with
     | none => exact ⟨els_nil r', by simp [Rt]⟩
     | some x => exact hal x (List.mem_of_getElem? e)
   · have a1 : ofV q * (top (polL p dl pl) : Int) <= p.d * (top (polL p dl pl) : Int) := Int.mul_le_mul_of_nonneg_right hov (by omega)
     have a2 : p.d * (top (polL p dl pl) : Int) <= p.d * (p.k + p.t - 1) := Int.mul_le_mul_of_nonneg_left c2 (by omega)
     have a3 : ofV q * (top (polL p dl pl) : Int) = ((dgO q * top (polL p dl pl) : Nat) : Int) := by rw [h2', Int.natCast_mul]
     unfold dg
     have a4 : 0 <= p.d * (p.k + p.t - 1) := Int.le_trans (Int.mul_nonneg h0 (by omega)) (Int.le_trans a1 a2)
     omega
 · have hi2 : i < (dl ++ pl).length := by rw [List.length_append]; omega
   have e0 : co (innL p) i = (i : Int) := by
    unfold innL; rw [show co (pts 0 (p.k + p.t).toNat) i = (pts 0 (p.k + p.t).toNat).getD i 0 from rfl, pts_at 0 (by omega)]; omega
   have := shr_here hr.md i1 i2 hb hw hbl hi2
   rw [e0] at this
   rw [hM, this, List.getElem_append_left hi]
end Go.Proofs.YtjhididlcdepdaaGreat
namespace Go.Proofs.YtjhididlcdepdaaGreat
open Go.RowKit Fld Pln Slp Shr
def hsL (p : Pn) (q : Pr) (dl pl : List (List Int)) : List (List Int) := (outL p).map (fun x => rnO (Rf p.f) q (shr (pOf p.f) (innL p) p.w.toNat (dl ++ pl) x))
theorem hsL_len (p : Pn) (q : Pr) (dl pl : List (List Int)) : (hsL p q dl pl).length = p.n.toNat := by unfold hsL outL; rw [List.length_map, pts_len]
theorem hsL_at (p : Pn) (q : Pr) (dl pl : List (List Int)) {i : Nat} (h : i < p.n.toNat) : (hsL p q dl pl).getD i [] = rnO (Rf p.f) q (shr (pOf p.f) (innL p) p.w.toNat (dl ++ pl) (p.k + p.t + i)) := by
 have h1 : i < (outL p).length := by unfold outL; rw [pts_len]; exact h
 have h2 : (outL p)[i] = p.k + p.t + i := by
  have := pts_at (p.k + p.t) (n := p.n.toNat) h
  change (outL p).getD i 0 = _ at this
  rw [List.getD_eq_getElem?_getD, List.getElem?_eq_getElem h1] at this
  exact this
 unfold hsL
 rw [List.getD_eq_getElem?_getD, List.getElem?_map, List.getElem?_eq_getElem h1, Option.map_some, h2]; rfl
def wrN (p : Pn) (hs : List (List Int)) (l : List Rp) : List Nat := (List.range p.n.toNat).filter (fun i => decide ((l.getD i nrp).vs ≠ hs.getD i []))
theorem wrN_mem {p : Pn} {hs : List (List Int)} {l : List Rp} {i : Nat} : i ∈ wrN p hs l ↔ i < p.n.toNat ∧ (l.getD i nrp).vs ≠ hs.getD i [] := by
 unfold wrN; rw [List.mem_filter, List.mem_range, decide_eq_true_iff]
theorem mapL_at {g : List Int -> Int} {l : List (List Int)} {zs : List Int} (h : l.map g = zs) {i : Nat} (hi : i < l.length) : g (l.getD i []) = co zs i := by
 subst h
 show _ = (l.map g).getD i 0
 rw [List.getD_eq_getElem?_getD, List.getD_eq_getElem?_getD, List.getElem?_map, List.getElem?_eq_getElem hi]; rfl
theorem filter_range {n m : Nat} {b : Nat -> Bool} (h : n <= m) (hb : ∀ j, n <= j -> b j = false) : (List.range m).filter b = (List.range n).filter b := by
 have e : m = n + (m - n) := by omega
 have e2 : (List.map (fun x => n + x) (List.range (m - n))).filter b = [] := List.filter_eq_nil_iff.2 (fun j hj => by
  obtain ⟨i, _, rfl⟩ := List.mem_map.1 hj
  rw [hb _ (by omega)]; decide)
 rw [e, List.range_add, List.filter_append, e2, List.append_nil]
theorem mayB_len {q : Pr} (h : mayB q = true) : q.outs.length <= 64 := by
 by_cases hc : 0 <= q.inp ∧ q.inp <= 64 ∧ q.ops.length <= 256 ∧ q.outs.length <= 64
 · exact hc.2.2.2
 · rw [mayB_no hc] at h; cases h
theorem tells {p : Pn} {q : Pr} {dl pl : List (List Int)} (w1 : ∀ b ∈ dl, Wd b) (w2 : ∀ b ∈ pl, Wd b) (ha : acc p) (hf : fitQ p q = true) (hz : bkE p dl pl [] = 0) {l : List Rp} (hww : ∀ r ∈ l, Wd r.vs) (hlen : l.length = p.n.toNat) (hw : ∀ i, i < p.n.toNat -> (l.getD i nrp).w = (i : Int)) (hmr : ∀ r ∈ l, mrB p q.outs.length r = true) (hE : (wrN p (hsL p q dl pl) l).length <= p.e.toNat) :
 rcE p q.outs.length l = 0 ∧ rcR p q.outs.length l = dl.map (rnO (Rf p.f) q) ∧ rcW p q.outs.length l = (wrN p (hsL p q dl pl) l).map (fun (i : Nat) => (i : Int)) := by
 obtain ⟨hm, hmb, hoe, hin, hov⟩ := fit_facts hf
 obtain ⟨⟨n0, n1⟩, ⟨k0, k1⟩, ⟨t0, t1⟩, ⟨s0, _⟩, ⟨e0, e1⟩, ⟨d0, _⟩, _⟩ := may_facts hm
 have hdg := dg_bound hm
 have hneed := acc_need ha
 have ho64 := mayB_len hmb
 have hc : cmE p q dl pl = 0 := by
  rcases cm_four w1 w2 hf hz with h | ⟨_, h⟩
  · exact h
  · exfalso
    unfold need at hneed
    unfold dg at hneed hdg
    omega
 obtain ⟨r, wd, hr, hcl, hcd, hdat, hwrk⟩ := cm_facts w1 w2 hf hz hc
 have hq := pOf_eq hr
 have hdl := (bk_zero hz).2.2.2.1
 have hmem : ∀ r ∈ l, ∃ i, i < p.n.toNat ∧ l.getD i nrp = r := fun r' hr' => by
  obtain ⟨i, hi, h⟩ := in_atR hr'
  exact ⟨i, by omega, h⟩
 have hwk : wks l = (List.range p.n.toNat).map (fun (i : Nat) => (i : Int)) := by
  refine ext_co (by unfold wks; simp [hlen]) (fun i hi => ?_)
  have hi' : i < p.n.toNat := by unfold wks at hi; rw [List.length_map] at hi; omega
  unfold wks
  rw [co_mapR Rp.w nrp (by omega), hw i hi', co_mapR _ 0 (by rw [List.length_range]; exact hi')]
  simp [List.getD_eq_getElem?_getD, hi']
 have hnod : (wks l).Nodup := by
  rw [hwk]
  exact List.pairwise_map.2 (List.nodup_range.imp (fun {a b} h e => h (by omega)))
 have hrv : rvE p q.outs.length l = 0 := rvE_of (asB_iff.2 ⟨hm, by omega, by omega⟩) hmr hnod (by omega)
 obtain ⟨r', wd', hR⟩ := rv_facts hww hrv
 have hlv : ∀ i, i < p.n.toNat -> (l.getD i nrp).vs.length = q.outs.length := fun i hi => by
  have := (hR.vl _ (getD_inR (show i < l.length by omega))).1
  omega
 have hon : ∀ i o, i < p.n.toNat -> o < q.outs.length -> vl r (p.k + p.t + i) ((cmL p q dl pl).getD o []) = co ((hsL p q dl pl).getD i []) o := fun i o hi ho => by
  rw [hsL_at p q dl pl hi, hq]
  exact mapL_at (hwrk _) (by omega)
 have hhl : ∀ i, i < p.n.toNat -> ((hsL p q dl pl).getD i []).length = q.outs.length := fun i hi => by rw [hsL_at p q dl pl hi, rnO_len]
 have hdec : ∀ o, o < q.outs.length -> Dec (pOf p.f) (dg p + 1).toNat p.e.toNat (xsR p l) (ysR o l) (tr ((cmL p q dl pl).getD o [])) := fun o ho => by
  have hmz : (cmL p q dl pl).getD o [] ∈ cmL p q dl pl := by
   rw [List.getD_eq_getElem?_getD, List.getElem?_eq_getElem (by omega)]; exact List.getElem_mem _
  obtain ⟨c1, c2⟩ := hcd _ hmz
  rw [hq]
  refine ⟨Tm.tr hr.pos c1.1, ?_, ?_⟩
  · have := tr_len ((cmL p q dl pl).getD o [])
    omega
  · refine Nat.le_trans (List.Nodup.length_le_of_subset ((List.nodup_range).filter _) (l₂ := wrN p (hsL p q dl pl) l) (fun i hi => ?_)) hE
    obtain ⟨h1, h2⟩ := offp_mem.1 hi
    rw [xsR_len] at h1
    have hi' : i < p.n.toNat := by omega
    rw [xsR_at p h1, ysR_at o h1, hw i hi', vl_tr, hon i o hi' ho] at h2
    exact wrN_mem.2 ⟨hi', fun e => h2 (by rw [e])⟩
 have hso : ∀ o, o < q.outs.length -> (dcP p l o).isSome = true ∧ dcL p l o = tr ((cmL p q dl pl).getD o []) := fun o ho => hR.only (hdec o ho)
 have hwro : ∀ j, wrB p l q.outs.length j = true ↔ j ∈ wrN p (hsL p q dl pl) l := fun j => by
  rw [wrB_iff, wrN_mem]
  constructor
  · rintro ⟨o, ho, r', hr', hj, hv⟩
    obtain ⟨i, hi, rfl⟩ := hmem _ hr'
    rw [hw i hi] at hj hv
    have hij : i = j := by omega
    subst hij
    rw [(hso o ho).2, vl_tr, hq, hon i o hi ho] at hv
    exact ⟨hi, fun e => hv (by rw [e])⟩
  · rintro ⟨hj, hne⟩
    have hex : ∃ o, o < q.outs.length ∧ co (l.getD j nrp).vs o ≠ co ((hsL p q dl pl).getD j []) o := by
     apply Classical.byContradiction
     intro hno
     refine hne (ext_co (by rw [hlv j hj, hhl j hj]) (fun o ho => ?_))
     rw [hlv j hj] at ho
     apply Classical.byContradiction
     intro hc'
     exact hno ⟨o, ho, hc'⟩
    obtain ⟨o, ho, hv⟩ := hex
    refine ⟨o, ho, _, getD_inR (show j < l.length by omega), hw j hj, ?_⟩
    rw [hw j hj, (hso o ho).2, vl_tr, hq, hon j o hj ho]
    exact fun e => hv e.symm
 have hwl : wrL p l q.outs.length = (wrN p (hsL p q dl pl) l).map (fun (i : Nat) => (i : Int)) := by
  unfold wrL mkd
  congr 1
  rw [filter_range (n := p.n.toNat) (by omega) (fun j hj => by
   cases hb : wrB p l q.outs.length j with
   | false => rfl
   | true => have := (wrN_mem.1 ((hwro j).1 hb)).1; omega)]
  unfold wrN
  refine List.filter_congr (fun j hj => ?_)
  rw [Bool.eq_iff_iff, hwro j, wrN_mem, decide_eq_true_iff]
  exact ⟨fun h => h.2, fun h => ⟨List.mem_range.1 hj, h⟩⟩
 have hfine : Fine p l (q.outs.length : Int).toNat := by
  rw [Int.toNat_natCast]
  refine ⟨fun o ho => (hso o ho).1, ?_⟩
  rw [hwl, List.length_map]
  omega
 obtain ⟨g1, g2, g3, g4⟩ := rc_yes hrv hfine
 rw [Int.toNat_natCast] at g2 g3 g4
 refine ⟨g1, ?_, by rw [g4, hwl]⟩
 rw [g3]
 unfold datL
 rw [if_pos hm]
 refine List.ext_getElem (by rw [List.length_map, List.length_map, pts_len, hdl]) (fun i hi hi2 => ?_)
 rw [List.length_map] at hi2
 rw [List.getElem_map, List.getElem_map]
 have hk : i < p.k.toNat := by omega
 have hx : (pts 0 p.k.toNat)[i]'(by rw [pts_len]; exact hk) = (i : Int) := by
  have := pts_at 0 (n := p.k.toNat) hk
  rw [List.getD_eq_getElem?_getD, List.getElem?_eq_getElem (by rw [pts_len]; exact hk)] at this
  have h0 : (0 : Int) + (i : Int) = (i : Int) := by omega
  rw [h0] at this
  exact this
 rw [hx, <- hdat i hi2]
 unfold rwR plL
 rw [List.map_map]
 refine List.ext_getElem (by rw [List.length_map, List.length_map, List.length_range, hcl]) (fun o ho ho2 => ?_)
 rw [List.length_map, List.length_range] at ho
 rw [List.getElem_map, List.getElem_map, List.getElem_range]
 show vl (pOf p.f) (i : Int) (dcL p l o) = _
 rw [(hso o ho).2, vl_tr, hq]
 congr 1
 rw [List.getD_eq_getElem?_getD, List.getElem?_eq_getElem (by omega)]; rfl
def lieS (p : Pn) (n : Int) (l : List (List Int)) (r : Rp) : List (List Int) := if mrB p n r = true then l.set r.w.toNat r.vs else l
def lieL (p : Pn) (n : Int) (hs : List (List Int)) (lies : List Rp) (k : Nat) : List (List Int) := (lies.take k).foldl (lieS p n) hs
theorem lieL_zero (p : Pn) (n : Int) (hs : List (List Int)) (lies : List Rp) : lieL p n hs lies 0 = hs := by unfold lieL; rfl
theorem lieL_next (p : Pn) (n : Int) (hs : List (List Int)) {lies : List Rp} {k : Nat} (h : k < lies.length) : lieL p n hs lies (k + 1) = lieS p n (lieL p n hs lies k) (lies.getD k nrp) := by
 unfold lieL
 rw [List.take_succ_eq_append_getElem h, List.foldl_append, List.getD_eq_getElem?_getD, List.getElem?_eq_getElem h]; rfl
theorem lieS_len (p : Pn) (n : Int) (l : List (List Int)) (r : Rp) : (lieS p n l r).length = l.length := by
 unfold lieS; split
 · rw [List.length_set]
 · rfl
theorem lieL_len (p : Pn) (n : Int) (hs : List (List Int)) (lies : List Rp) : ∀ k, (lieL p n hs lies k).length = hs.length := fun k => by
 unfold lieL
 generalize lies.take k = t
 induction t generalizing hs with
 | nil => rfl
 | cons r t ih => rw [List.foldl_cons, ih, lieS_len]
theorem lieL_at (p : Pn) (n : Int) (hs : List (List Int)) (lies : List Rp) (k : Nat) (hk : k <= lies.length) : ∀ i, i < hs.length -> (lieL p n hs lies k).getD i [] = hs.getD i [] ∨ ∃ r ∈ lies.take k, mrB p n r = true ∧ r.w.toNat = i ∧ (lieL p n hs lies k).getD i [] = r.vs := by
 induction k with
 | zero => intro i hi; left; rw [lieL_zero]
 | succ k ih =>
  intro i hi
  have hlt : k < lies.length := by omega
  rw [lieL_next p n hs hlt]
  have hin : ∀ r ∈ lies.take k, r ∈ lies.take (k + 1) := fun r hr => by rw [List.take_succ_eq_append_getElem hlt]; exact List.mem_append_left _ hr
  have hme : lies.getD k nrp ∈ lies.take (k + 1) := by
   rw [List.take_succ_eq_append_getElem hlt, List.getD_eq_getElem?_getD, List.getElem?_eq_getElem hlt]
   exact List.mem_append_right _ (by simp)
  by_cases hm : mrB p n (lies.getD k nrp) = true
  · by_cases e : (lies.getD k nrp).w.toNat = i
    · right
      refine ⟨_, hme, hm, e, ?_⟩
      unfold lieS
      rw [if_pos hm, e, List.getD_eq_getElem?_getD, List.getElem?_set_self (by rw [lieL_len]; exact hi)]; rfl
    · have e2 : (lieS p n (lieL p n hs lies k) (lies.getD k nrp)).getD i [] = (lieL p n hs lies k).getD i [] := by
       unfold lieS
       rw [if_pos hm, List.getD_eq_getElem?_getD, List.getElem?_set_ne e, <- List.getD_eq_getElem?_getD]
      rw [e2]
      rcases ih (by omega) i hi with h | ⟨r, h1, h2⟩
      · exact .inl h
      · exact .inr ⟨r, hin r h1, h2⟩
  · have e2 : lieS p n (lieL p n hs lies k) (lies.getD k nrp) = lieL p n hs lies k := by unfold lieS; rw [if_neg hm]
    rw [e2]
    rcases ih (by omega) i hi with h | ⟨r, h1, h2⟩
    · exact .inl h
    · exact .inr ⟨r, hin r h1, h2⟩
def rpsN (l : List (List Int)) : List Rp := (List.range l.length).map (fun (i : Nat) => (⟨(i : Int), l.getD i []⟩ : Rp))
theorem rpsN_len (l : List (List Int)) : (rpsN l).length = l.length := by unfold rpsN; rw [List.length_map, List.length_range]
theorem rpsN_at {l : List (List Int)} {i : Nat} (h : i < l.length) : (rpsN l).getD i nrp = ⟨(i : Int), l.getD i []⟩ := by
 unfold rpsN
 rw [List.getD_eq_getElem?_getD, List.getElem?_map, List.getElem?_range h]; rfl
theorem tells_lies {p : Pn} {q : Pr} {dl pl : List (List Int)} (w1 : ∀ b ∈ dl, Wd b) (w2 : ∀ b ∈ pl, Wd b) (ha : acc p) (hf : fitQ p q = true) (hz : bkE p dl pl [] = 0) {lies : List Rp} (hlw : ∀ r ∈ lies, Wd r.vs) (hhw : ∀ b ∈ hsL p q dl pl, Wd b ∧ inF p.f b = true) {k : Nat} (hk : k <= lies.length) (hke : (k : Int) <= p.e) :
 rcE p q.outs.length (rpsN (lieL p q.outs.length (hsL p q dl pl) lies k)) = 0 ∧ rcR p q.outs.length (rpsN (lieL p q.outs.length (hsL p q dl pl) lies k)) = dl.map (rnO (Rf p.f) q) ∧ rcW p q.outs.length (rpsN (lieL p q.outs.length (hsL p q dl pl) lies k)) = (wrN p (hsL p q dl pl) (rpsN (lieL p q.outs.length (hsL p q dl pl) lies k))).map (fun (i : Nat) => (i : Int)) := by
 obtain ⟨hm, hmb, hoe, hin, hov⟩ := fit_facts hf
 obtain ⟨⟨n0, n1⟩, _⟩ := may_facts hm
 have ho64 := mayB_len hmb
 have hl := lieL_len p q.outs.length (hsL p q dl pl) lies k
 rw [hsL_len] at hl
 have hat := lieL_at p q.outs.length (hsL p q dl pl) lies k hk
 rw [hsL_len] at hat
 generalize lieL p q.outs.length (hsL p q dl pl) lies k = L at *
 have hmemh : ∀ i, i < p.n.toNat -> (hsL p q dl pl).getD i [] ∈ hsL p q dl pl := fun i hi => by
  rw [List.getD_eq_getElem?_getD, List.getElem?_eq_getElem (by rw [hsL_len]; exact hi)]; exact List.getElem_mem _
 have hval : ∀ i, i < p.n.toNat -> Wd (L.getD i []) ∧ mrB p q.outs.length ⟨(i : Int), L.getD i []⟩ = true := fun i hi => by
  have hask : asB p q.outs.length = true := asB_iff.2 ⟨hm, by omega, by omega⟩
  rcases hat i hi with h | ⟨r, h1, h2, h3, h4⟩
  · rw [h]
    obtain ⟨g1, g2⟩ := hhw _ (hmemh i hi)
    refine ⟨g1, mrB_iff.2 ⟨hask, ⟨by show (0 : Int) <= (i : Int); omega, by show (i : Int) < p.n; omega⟩, ?_, g2⟩⟩
    dsimp only
    rw [hsL_at p q dl pl hi, rnO_len]
  · rw [h4]
    obtain ⟨g1, g2, g3, g4⟩ := mrB_iff.1 h2
    exact ⟨hlw r (List.mem_of_mem_take h1), mrB_iff.2 ⟨hask, ⟨by show (0 : Int) <= (i : Int); omega, by show (i : Int) < p.n; omega⟩, g3, g4⟩⟩
 have hmem : ∀ r ∈ rpsN L, ∃ i, i < p.n.toNat ∧ r = ⟨(i : Int), L.getD i []⟩ := fun r hr => by
  unfold rpsN at hr
  obtain ⟨i, hi, rfl⟩ := List.mem_map.1 hr
  exact ⟨i, by have := List.mem_range.1 hi; omega, rfl⟩
 refine tells w1 w2 ha hf hz (fun r hr => ?_) (by rw [rpsN_len]; exact hl) (fun i hi => by rw [rpsN_at (by omega)]) (fun r hr => ?_) ?_
 · obtain ⟨i, hi, rfl⟩ := hmem r hr
   exact (hval i hi).1
 · obtain ⟨i, hi, rfl⟩ := hmem r hr
   exact (hval i hi).2
 · have h1 := List.Nodup.length_le_of_subset ((List.nodup_range (n := p.n.toNat)).filter (fun i => decide (((rpsN L).getD i nrp).vs ≠ (hsL p q dl pl).getD i []))) (l₂ := (lies.take k).map (fun r => r.w.toNat)) (fun i hi => by
    obtain ⟨hi, hne⟩ := wrN_mem.1 hi
    rw [rpsN_at (by omega)] at hne
    rcases hat i hi with h | ⟨r, h1, h2, h3, h4⟩
    · exact absurd h hne
    · exact List.mem_map.2 ⟨r, h1, h3⟩)
   rw [List.length_map, List.length_take] at h1
   unfold wrN
   omega
end Go.Proofs.YtjhididlcdepdaaGreat
