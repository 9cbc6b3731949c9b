import Derived.Test.YtnakbpaiidolbaaGreatBRplA
import Derived.Test.YtnakbpaiidolbaaGreatBLawVE
import Derived.Test.YtnakbpaiidolbaaGreatBunYO
namespace Go.Proofs.YtnakbpaiidolbaaGreat
open Go.RowKit Fld Slp Pln Shr
set_option linter.unusedVariables false
set_option linter.unusedSimpArgs false
def noT (p : Pn) : Pn := { p with t := 0 }
theorem may_noT {p : Pn} (h : mayP p = true) : mayP (noT p) = true := by
 unfold mayP may noT at *
 simp only [Bool.and_eq_true, decide_eq_true_eq] at h ⊢
 obtain ⟨h1, h2⟩ := h
 exact ⟨h1, by omega⟩
theorem ok_noT {p : Pn} (h : Ok8p p) : Ok8p (noT p) := by
 obtain ⟨h0, h1, h2, h3, h4⟩ := h
 exact ⟨h0, h1, h2, ⟨by show (-9223372036854775808 : Int) ≤ 0; decide, by show (0 : Int) ≤ 9223372036854775807; decide⟩, h4⟩
theorem rs_prog {p : Pn} {q : Pr} {dl : List (List Int)} (hf : fitQ p q = true) : bkE (noT p) dl [] [0] = rsE p q dl := by
 obtain ⟨hm, _⟩ := fit_facts hf
 obtain ⟨⟨n0, n1⟩, _⟩ := may_facts hm
 have h1 := may_noT hm
 unfold bkE rsE
 rw [h1, if_pos hf]
 have e1 : elsB (noT p).f [] = true := rfl
 have e2 : whoB (noT p).n [0] = true := whoB_iff.2 (fun x hx => by
  have : x = 0 := by simpa using hx
  subst this
  exact ⟨by decide, by show (0 : Int) < p.n; omega⟩)
 have e3 : blkB (noT p).w (noT p).t [] = true := rfl
 rw [e1, e2, e3]
 show (if (true && elsB p.f dl && true && true) = true then (if (blkB p.w p.k dl && true) = true then 0 else 3) else 2) = _
 rw [Bool.and_true, Bool.and_true, Bool.true_and, Bool.and_true]
def zpd (p : Pn) : List (List Int) := List.replicate p.t.toNat (List.replicate p.w.toNat 0)
theorem zpd_in {p : Pn} (hm : mayP p = true) : elsB p.f (zpd p) = true ∧ blkB p.w p.t (zpd p) = true := by
 obtain ⟨r, wd, hr⟩ := may_field hm
 obtain ⟨_, _, ⟨t0, _⟩, _, _, _, ⟨v0, v1⟩⟩ := may_facts hm
 refine ⟨(elsB_iff hr).2 (fun b hb => ?_), blkB_iff.2 ⟨fun b hb => ?_, ?_⟩⟩
 · rw [(List.mem_replicate.1 hb).2]
   exact allIn_of (fun x hx => by rw [(List.mem_replicate.1 hx).2]; exact ⟨by decide, hr.pos⟩)
 · rw [(List.mem_replicate.1 hb).2, List.length_replicate]; omega
 · unfold zpd; rw [List.length_replicate]; omega
theorem rs_doc {p : Pn} {q : Pr} {dl : List (List Int)} (hf : fitQ p q = true) : bkE p dl (zpd p) [] = rsE p q dl := by
 obtain ⟨hm, _⟩ := fit_facts hf
 obtain ⟨z1, z2⟩ := zpd_in hm
 unfold bkE rsE
 rw [hm, z1, z2, if_pos hf]
 have e2 : whoB p.n [] = true := rfl
 rw [e2, Bool.and_true, Bool.and_true, Bool.true_and, Bool.and_true]
theorem rs_zero {p : Pn} {q : Pr} {dl : List (List Int)} (h : rsE p q dl = 0) : fitQ p q = true ∧ dl.length = p.k.toNat ∧ dl.length ≤ 64 ∧ ∀ b ∈ dl, rwE p.f q b = 0 ∧ evE p.f q b = 0 ∧ ruL p.f q b = rnO (Rf p.f) q b := by
 unfold rsE at h
 split at h
 · rename_i hf
   split at h
   · rename_i he
     split at h
     · rename_i hb
       obtain ⟨hm, hmb, _, hin, _⟩ := fit_facts hf
       obtain ⟨_, ⟨k0, k1⟩, _⟩ := may_facts hm
       obtain ⟨b1, b2⟩ := blkB_iff.1 hb
       refine ⟨hf, by omega, by omega, fun b hb' => ?_⟩
       have r0 : rwE p.f q b = 0 := by
        unfold rwE
        rw [if_pos (List.all_eq_true.1 he b hb'), if_pos (by rw [b1 b hb', hin])]
       have r1 : evE p.f q b = 0 := by unfold evE; rw [if_pos hmb]; exact r0
       exact ⟨r0, r1, by unfold ruL; rw [if_pos r1]⟩
     · cases h
   · cases h
 · cases h
theorem rs_many {p : Pn} {q : Pr} {dl : List (List Int)} (h : rsE p q dl = 0) : maE p.f q dl = 0 ∧ maL p.f q dl = rsL p q dl := by
 obtain ⟨hf, _, hl, hb⟩ := rs_zero h
 obtain ⟨hm, hmb, _⟩ := fit_facts hf
 have e1 : maR p.f q dl = 0 := by
  unfold maR
  have h2 : ∀ c : Int, c ≠ 0 → c ∉ dl.map (rwE p.f q) := fun c hc hm' => by
   obtain ⟨b, hb', e⟩ := List.mem_map.1 hm'
   rw [(hb b hb').1] at e
   exact hc e.symm
  rw [if_neg (h2 2 (by decide)), if_neg (h2 3 (by decide))]
 have e2 : maE p.f q dl = 0 := by
  unfold maE
  rw [hmb, fi_inF hm, e1, if_pos (by rfl), if_pos rfl, if_neg (by omega)]
 exact ⟨e2, by unfold maL rsL; rw [if_pos e2, if_pos h]⟩
theorem rsE_no {p : Pn} {q : Pr} {dl : List (List Int)} (h : fitQ p q = false) : rsE p q dl = 2 ∧ rsL p q dl = [] := by
 have e : rsE p q dl = 2 := by unfold rsE; rw [h]; rfl
 exact ⟨e, by unfold rsL; rw [e]; rfl⟩
theorem rsL_no {p : Pn} {q : Pr} {dl : List (List Int)} (h : rsE p q dl ≠ 0) : rsL p q dl = [] := if_neg h
theorem rp_yes {p : Pn} {q : Pr} {xs : List Int} (h : fitQ p q = true) : rpE p q xs = evE p.f q xs ∧ rpL p q xs = ruL p.f q xs := by
 have e : rpE p q xs = evE p.f q xs := if_pos h
 exact ⟨e, by unfold rpL ruL; rw [e]⟩
theorem rp_no {p : Pn} {q : Pr} {xs : List Int} (h : fitQ p q = false) : rpE p q xs = 2 ∧ rpL p q xs = [] := by
 have e : rpE p q xs = 2 := by unfold rpE; rw [h]; rfl
 exact ⟨e, by unfold rpL; rw [e]; rfl⟩
theorem cm_no {p : Pn} {q : Pr} {dl pl : List (List Int)} (h : fitQ p q = false) : cmE p q dl pl = 2 ∧ cmL p q dl pl = [] := by
 have e : cmE p q dl pl = 2 := by unfold cmE; rw [h]; rfl
 exact ⟨e, by unfold cmL; rw [e]; rfl⟩
theorem cm_bad {p : Pn} {q : Pr} {dl pl : List (List Int)} (h : fitQ p q = true) (hz : bkE p dl pl [] ≠ 0) : cmE p q dl pl = bkE p dl pl [] ∧ cmL p q dl pl = [] := by
 have e : cmE p q dl pl = bkE p dl pl [] := by unfold cmE; rw [if_pos h, if_neg hz]
 exact ⟨e, by unfold cmL; rw [e, if_neg hz]⟩
theorem cm_yes {p : Pn} {q : Pr} {dl pl : List (List Int)} (h : fitQ p q = true) (hz : bkE p dl pl [] = 0) : cmE p q dl pl = coE p.f q (polL p dl pl) ∧ cmL p q dl pl = coL p.f q (polL p dl pl) := by
 have e : cmE p q dl pl = coE p.f q (polL p dl pl) := by unfold cmE; rw [if_pos h, if_pos hz]
 refine ⟨e, ?_⟩
 unfold cmL
 rw [e]
 split
 · rfl
 · rename_i hc; unfold coL; rw [if_neg hc]
theorem hn_no {p : Pn} {q : Pr} {dl pl : List (List Int)} {i : Int} (h : fitQ p q = false) : hnE p q dl pl i = 2 ∧ hnL p q dl pl i = [] := by
 have e : hnE p q dl pl i = 2 := by unfold hnE; rw [h]; rfl
 exact ⟨e, by unfold hnL; rw [e]; rfl⟩
theorem hn_bad {p : Pn} {q : Pr} {dl pl : List (List Int)} {i : Int} (h : fitQ p q = true) (hz : bkE p dl pl [i] ≠ 0) : hnE p q dl pl i = bkE p dl pl [i] ∧ hnL p q dl pl i = [] := by
 have e : hnE p q dl pl i = bkE p dl pl [i] := by unfold hnE; rw [if_pos h]
 exact ⟨e, by unfold hnL; rw [e, if_neg hz]⟩
theorem hn_yes {p : Pn} {q : Pr} {dl pl : List (List Int)} {i : Int} (w1 : ∀ b ∈ dl, Wd b) (w2 : ∀ b ∈ pl, Wd b) (h : fitQ p q = true) (hz : bkE p dl pl [i] = 0) : evE p.f q (shaL p dl pl i) = 0 ∧ ruL p.f q (shaL p dl pl i) = hnL p q dl pl i ∧ hnE p q dl pl i = 0 := by
 obtain ⟨r, wd, hm, hf, _⟩ := bk_facts hz w1 w2
 obtain ⟨_, hmb, _, hin, _⟩ := fit_facts h
 obtain ⟨_, _, _, _, _, _, v0, v1⟩ := may_facts hm
 have e0 : hnE p q dl pl i = 0 := by unfold hnE; rw [if_pos h]; exact hz
 have es : shaL p dl pl i = shr r (innL p) p.w.toNat (dl ++ pl) (co (outL p) i.toNat) := by unfold shaL; rw [if_pos hz, pOf_eq hf]
 have e1 : evE p.f q (shaL p dl pl i) = 0 := by
  unfold evE rwE
  rw [if_pos hmb, inF_yes hf, es, if_pos (allIn_of (shr_els hf.pos _ _ _ _)), if_pos (by rw [shr_len, hin]; omega)]
 exact ⟨e1, by unfold ruL hnL; rw [if_pos e1, if_pos e0], e0⟩
theorem rp_wd (p : Pn) (q : Pr) {xs : List Int} (hw : ∀ x ∈ xs, 0 ≤ x ∧ x ≤ 18446744073709551615) : Wd (rpL p q xs) := by
 cases hf : fitQ p q with
 | false => rw [(rp_no hf).2]; exact wd_nil
 | true => rw [(rp_yes hf).2]; have := (ru_wd p.f q xs hw).1; exact ⟨by omega, this.2⟩
theorem rs_wd (p : Pn) (q : Pr) {dl : List (List Int)} (hw : ∀ b ∈ dl, ∀ x ∈ b, 0 ≤ x ∧ x ≤ 18446744073709551615) : (rsL p q dl).length ≤ 64 ∧ ∀ i, Wd ((rsL p q dl).getD i []) := by
 by_cases h : rsE p q dl = 0
 · obtain ⟨_, _, hl, _⟩ := rs_zero h
   obtain ⟨e1, e2⟩ := rs_many h
   refine ⟨by unfold rsL; rw [if_pos h, List.length_map]; exact hl, ?_⟩
   rw [← e2]; exact (ma_wd hw).2
 · rw [rsL_no h]; exact ⟨by simp, fun i => by simp; exact wd_nil⟩
theorem cm_wd (p : Pn) (q : Pr) {dl pl : List (List Int)} (w1 : ∀ b ∈ dl, Wd b) (w2 : ∀ b ∈ pl, Wd b) : (cmL p q dl pl).length ≤ 64 ∧ ∀ i, Wd ((cmL p q dl pl).getD i []) := by
 have h0 : ([] : List (List Int)).length ≤ 64 ∧ ∀ i, Wd (([] : List (List Int)).getD i []) := ⟨by simp, fun i => by simp; exact wd_nil⟩
 cases hf : fitQ p q with
 | false => rw [(cm_no hf).2]; exact h0
 | true =>
  by_cases hz : bkE p dl pl [] = 0
  · rw [(cm_yes hf hz).2]
    obtain ⟨⟨q1, _⟩, _, _⟩ := ans_wd (p := p) w1 w2
    exact co_wd (fun xs hx => (q1 xs hx).2)
  · rw [(cm_bad hf hz).2]; exact h0
theorem hn_wd (p : Pn) (q : Pr) {dl pl : List (List Int)} (i : Int) (w1 : ∀ b ∈ dl, Wd b) (w2 : ∀ b ∈ pl, Wd b) : Wd (hnL p q dl pl i) := by
 cases hf : fitQ p q with
 | false => rw [(hn_no hf).2]; exact wd_nil
 | true =>
  by_cases hz : bkE p dl pl [i] = 0
  · obtain ⟨_, e2, _⟩ := hn_yes w1 w2 hf hz
    obtain ⟨_, _, q5⟩ := ans_wd (p := p) w1 w2
    rw [← e2]
    have := (ru_wd p.f q (shaL p dl pl i) (q5 i).2).1
    exact ⟨by omega, this.2⟩
  · rw [(hn_bad hf hz).2]; exact wd_nil
end Go.Proofs.YtnakbpaiidolbaaGreat
namespace Go.Proofs.YtnakbpaiidolbaaGreat
open Go.RowKit Fld Slp Pln Shr
set_option linter.unusedVariables false
set_option linter.unusedSimpArgs false
theorem rs_of_bk {p : Pn} {q : Pr} {dl pl : List (List Int)} (hf : fitQ p q = true) (hz : bkE p dl pl [] = 0) : rsE p q dl = 0 := by
 unfold bkE at hz
 split at hz
 · rename_i h1
   split at hz
   · rename_i h2
     simp only [Bool.and_eq_true] at h1 h2
     unfold rsE
     rw [if_pos hf, if_pos h1.1.1.2, if_pos h2.1]
   · cases hz
 · cases hz
theorem map_at {g : List Int → Int} {l : List (List Int)} {zs : List Int} (h : l.map g = zs) {i : Nat} (hi : i < l.length) : g (l.getD i []) = co zs i := by
 subst h
 show _ = (l.map g).getD i 0
 rw [List.getD_eq_getElem?_getD, List.getD_eq_getElem?_getD, List.getElem?_map, List.getElem?_eq_getElem hi]; rfl
structure Lies (p : Pn) (q : Pr) (dl pl : List (List Int)) (m : Nat) : Prop where
 len : (cmL p q dl pl).length = m
 rlen : (rsL p q dl).length = p.k.toNat
 low : ∀ i, i < m → ((cmL p q dl pl).getD i []).length ≤ 4096 ∧ (((cmL p q dl pl).getD i []).length : Int) - 1 ≤ dg p
 data : ∀ i k : Nat, i < m → k < p.k.toNat → valE p.f (k : Int) ((cmL p q dl pl).getD i []) = co ((rsL p q dl).getD k []) i
 rows : ∀ k : Nat, k < p.k.toNat → ((rsL p q dl).getD k []).length = m
 hon : ∀ n : Nat, n < p.n.toNat → hnE p q dl pl (n : Int) = 0 ∧ (hnL p q dl pl (n : Int)).length = m
 work : ∀ n i : Nat, n < p.n.toNat → i < m → valE p.f (co (outL p) n) ((cmL p q dl pl).getD i []) = co (hnL p q dl pl (n : Int)) i
theorem lies_facts {p : Pn} {q : Pr} {dl pl : List (List Int)} (w1 : ∀ b ∈ dl, Wd b) (w2 : ∀ b ∈ pl, Wd b) (hf : fitQ p q = true) (hz : bkE p dl pl [] = 0) (hc : cmE p q dl pl = 0) : Lies p q dl pl q.outs.length := by
 obtain ⟨r, wd, hr, hl, hlow, hdata, hwork⟩ := cm_facts w1 w2 hf hz hc
 obtain ⟨hm, _⟩ := fit_facts hf
 have h64 := may_facts hm
 obtain ⟨i1, i2, i3, i4, i5, i6⟩ := inn_facts hm hr
 have hrs := rs_of_bk hf hz
 obtain ⟨_, hdl, _, _⟩ := rs_zero hrs
 have hrl : rsL p q dl = dl.map (rnO (Rf p.f) q) := if_pos hrs
 have hmem : ∀ i, i < q.outs.length → (cmL p q dl pl).getD i [] ∈ cmL p q dl pl := fun i hi => by
  rw [List.getD_eq_getElem?_getD, List.getElem?_eq_getElem (by omega)]; exact List.getElem_mem _
 have hval : ∀ (i : Nat) (x : Int), i < q.outs.length → El r x → valE p.f x ((cmL p q dl pl).getD i []) = vl r x ((cmL p q dl pl).getD i []) := fun i x hi hx => by
  have hL := (hlow _ (hmem i hi)).1
  have h1 : er p.f ((cmL p q dl pl).getD i []) [x] = 0 := er_yes hr (allIn_of hL.1) (allIn1 hx) hL.2 (by simp)
  unfold valE; rw [if_pos h1, pOf_eq hr]
 have hrow : ∀ k : Nat, (hk : k < dl.length) → (rsL p q dl).getD k [] = rnO (Rf p.f) q dl[k] := fun k hk => by
  rw [hrl, List.getD_eq_getElem?_getD, List.getElem?_map, List.getElem?_eq_getElem hk]; rfl
 refine ⟨hl, by rw [hrl, List.length_map, hdl], fun i hi => ⟨(hlow _ (hmem i hi)).1.2, (hlow _ (hmem i hi)).2⟩, fun i k hi hk => ?_, fun k hk => ?_, fun n hn => ?_, fun n i hn hi => ?_⟩
 · have hk' : k < dl.length := by omega
   have hel : El r (k : Int) := ⟨by omega, by
    rcases hr.md with ⟨h, _⟩ | ⟨h, _⟩ <;> (rw [h]; omega)⟩
   rw [hval i _ hi hel, hrow k hk']
   exact map_at (hdata k hk') (by omega)
 · have hk' : k < dl.length := by omega
   rw [hrow k hk', rnO_len]
 · obtain ⟨e1, e2⟩ := hst_eq hr hf hz (i := (n : Int)) (by omega) (by omega)
   exact ⟨e1, by rw [e2, rnO_len]⟩
 · obtain ⟨e1, e2⟩ := hst_eq hr hf hz (i := (n : Int)) (by omega) (by omega)
   have hel : El r (co (outL p) n) := i4 _ (by
    show (outL p).getD n 0 ∈ _
    rw [List.getD_eq_getElem?_getD, List.getElem?_eq_getElem (by omega)]; exact List.getElem_mem _)
   rw [hval i _ hi hel, e2]
   exact map_at (hwork _) (by omega)
theorem co_word {xs : List Int} (h : ∀ x ∈ xs, 0 ≤ x ∧ x ≤ 18446744073709551615) (i : Nat) : 0 ≤ co xs i ∧ co xs i ≤ 18446744073709551615 := by
 show 0 ≤ xs.getD i 0 ∧ xs.getD i 0 ≤ _
 by_cases hi : i < xs.length
 · rw [List.getD_eq_getElem?_getD, List.getElem?_eq_getElem hi]; exact h _ (List.getElem_mem hi)
 · rw [List.getD_eq_getElem?_getD, List.getElem?_eq_none (by omega)]; decide
theorem out_wd {p : Pn} (hm : mayP p = true) : Wd (outL p) := by
 have h := may_facts hm
 exact pts_wd (by omega) (by omega)
theorem out_row {p : Pn} (hm : mayP p = true) {W : World} {base m : Nat} {v : Value} (h : W.ownsRow base 58 1 v m (vals (outL p))) : Row W v (outL p) := ((out_wd hm).row h).1
theorem out_len (p : Pn) : (outL p).length = p.n.toNat := pts_len _ _
theorem out_word {p : Pn} (hm : mayP p = true) (n : Nat) : 0 ≤ co (outL p) n ∧ co (outL p) n ≤ 18446744073709551615 := co_word (out_wd hm).2 n
end Go.Proofs.YtnakbpaiidolbaaGreat
