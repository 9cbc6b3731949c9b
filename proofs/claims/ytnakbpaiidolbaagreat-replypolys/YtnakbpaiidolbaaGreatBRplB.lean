import Derived.Test.YtnakbpaiidolbaaGreatBRplA
import Derived.Test.YtnakbpaiidolbaaGreatBLawVE
import Derived.Test.YtnakbpaiidolbaaGreatBunYO
namespace Go.Proofs.YtnakbpaiidolbaaGreat
open Go.RowKit Fld Slp Pln Shr
set_option linter.unusedVariables false
set_option linter.unusedSimpArgs false
theorem rp_yes {p : Pn} {q : Pr} {xs : List Int} (h : fitQ p q = true) : rpE p q xs = evE p.f q xs ∧ rpL p q xs = ruL p.f q xs := by
 have e : rpE p q xs = evE p.f q xs := if_pos h
 exact ⟨e, by unfold rpL ruL; rw [e]⟩
theorem rp_no {p : Pn} {q : Pr} {xs : List Int} (h : fitQ p q = false) : rpE p q xs = 2 ∧ rpL p q xs = [] := by
 have e : rpE p q xs = 2 := by unfold rpE; rw [h]; rfl
 exact ⟨e, by unfold rpL; rw [e]; rfl⟩
theorem cm_no {p : Pn} {q : Pr} {dl pl : List (List Int)} (h : fitQ p q = false) : cmE p q dl pl = 2 ∧ cmL p q dl pl = [] := by
 have e : cmE p q dl pl = 2 := by unfold cmE; rw [h]; rfl
 exact ⟨e, by unfold cmL; rw [e]; rfl⟩
theorem cm_bad {p : Pn} {q : Pr} {dl pl : List (List Int)} (h : fitQ p q = true) (hz : bkE p dl pl [] ≠ 0) : cmE p q dl pl = bkE p dl pl [] ∧ cmL p q dl pl = [] := by
 have e : cmE p q dl pl = bkE p dl pl [] := by unfold cmE; rw [if_pos h, if_neg hz]
 exact ⟨e, by unfold cmL; rw [e, if_neg hz]⟩
theorem cm_yes {p : Pn} {q : Pr} {dl pl : List (List Int)} (h : fitQ p q = true) (hz : bkE p dl pl [] = 0) : cmE p q dl pl = coE p.f q (polL p dl pl) ∧ cmL p q dl pl = coL p.f q (polL p dl pl) := by
 have e : cmE p q dl pl = coE p.f q (polL p dl pl) := by unfold cmE; rw [if_pos h, if_pos hz]
 refine ⟨e, ?_⟩
 unfold cmL
 rw [e]
 split
 · rfl
 · rename_i hc; unfold coL; rw [if_neg hc]
theorem hn_no {p : Pn} {q : Pr} {dl pl : List (List Int)} {i : Int} (h : fitQ p q = false) : hnE p q dl pl i = 2 ∧ hnL p q dl pl i = [] := by
 have e : hnE p q dl pl i = 2 := by unfold hnE; rw [h]; rfl
 exact ⟨e, by unfold hnL; rw [e]; rfl⟩
theorem hn_bad {p : Pn} {q : Pr} {dl pl : List (List Int)} {i : Int} (h : fitQ p q = true) (hz : bkE p dl pl [i] ≠ 0) : hnE p q dl pl i = bkE p dl pl [i] ∧ hnL p q dl pl i = [] := by
 have e : hnE p q dl pl i = bkE p dl pl [i] := by unfold hnE; rw [if_pos h]
 exact ⟨e, by unfold hnL; rw [e, if_neg hz]⟩
theorem hn_yes {p : Pn} {q : Pr} {dl pl : List (List Int)} {i : Int} (w1 : ∀ b ∈ dl, Wd b) (w2 : ∀ b ∈ pl, Wd b) (h : fitQ p q = true) (hz : bkE p dl pl [i] = 0) : evE p.f q (shaL p dl pl i) = 0 ∧ ruL p.f q (shaL p dl pl i) = hnL p q dl pl i ∧ hnE p q dl pl i = 0 := by
 obtain ⟨r, wd, hm, hf, _⟩ := bk_facts hz w1 w2
 obtain ⟨_, hmb, _, hin, _⟩ := fit_facts h
 obtain ⟨_, _, _, _, _, _, v0, v1⟩ := may_facts hm
 have e0 : hnE p q dl pl i = 0 := by unfold hnE; rw [if_pos h]; exact hz
 have es : shaL p dl pl i = shr r (innL p) p.w.toNat (dl ++ pl) (co (outL p) i.toNat) := by unfold shaL; rw [if_pos hz, pOf_eq hf]
 have e1 : evE p.f q (shaL p dl pl i) = 0 := by
  unfold evE rwE
  rw [if_pos hmb, inF_yes hf, es, if_pos (allIn_of (shr_els hf.pos _ _ _ _)), if_pos (by rw [shr_len, hin]; omega)]
 exact ⟨e1, by unfold ruL hnL; rw [if_pos e1, if_pos e0], e0⟩
theorem cm_wd (p : Pn) (q : Pr) {dl pl : List (List Int)} (w1 : ∀ b ∈ dl, Wd b) (w2 : ∀ b ∈ pl, Wd b) : (cmL p q dl pl).length ≤ 64 ∧ ∀ i, Wd ((cmL p q dl pl).getD i []) := by
 have h0 : ([] : List (List Int)).length ≤ 64 ∧ ∀ i, Wd (([] : List (List Int)).getD i []) := ⟨by simp, fun i => by simp; exact wd_nil⟩
 cases hf : fitQ p q with
 | false => rw [(cm_no hf).2]; exact h0
 | true =>
  by_cases hz : bkE p dl pl [] = 0
  · rw [(cm_yes hf hz).2]
    obtain ⟨⟨q1, _⟩, _, _⟩ := ans_wd (p := p) w1 w2
    exact co_wd (fun xs hx => (q1 xs hx).2)
  · rw [(cm_bad hf hz).2]; exact h0
theorem hn_wd (p : Pn) (q : Pr) {dl pl : List (List Int)} (i : Int) (w1 : ∀ b ∈ dl, Wd b) (w2 : ∀ b ∈ pl, Wd b) : Wd (hnL p q dl pl i) := by
 cases hf : fitQ p q with
 | false => rw [(hn_no hf).2]; exact wd_nil
 | true =>
  by_cases hz : bkE p dl pl [i] = 0
  · obtain ⟨_, e2, _⟩ := hn_yes w1 w2 hf hz
    obtain ⟨_, _, q5⟩ := ans_wd (p := p) w1 w2
    rw [← e2]
    have := (ru_wd p.f q (shaL p dl pl i) (q5 i).2).1
    exact ⟨by omega, this.2⟩
  · rw [(hn_bad hf hz).2]; exact wd_nil
end Go.Proofs.YtnakbpaiidolbaaGreat
