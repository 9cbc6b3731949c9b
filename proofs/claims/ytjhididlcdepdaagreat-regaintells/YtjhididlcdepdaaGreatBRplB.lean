import Derived.Test.YtjhididlcdepdaaGreatBRplA
import Derived.Test.YtjhididlcdepdaaGreatBLawVE
import Derived.Test.YtjhididlcdepdaaGreatBunHE
set_option linter.unusedVariables false
set_option linter.unusedSimpArgs false
set_option maxRecDepth 100000
set_option maxHeartbeats 4000000
namespace Go.Proofs.YtjhididlcdepdaaGreat
open Go.RowKit Fld Slp Pln Shr
def zpd (p : Pn) : List (List Int) := List.replicate p.t.toNat (List.replicate p.w.toNat 0)
theorem zpd_in {p : Pn} (hm : mayP p = true) : elsB p.f (zpd p) = true ∧ blkB p.w p.t (zpd p) = true := by
 obtain ⟨r, wd, hr⟩ := may_field hm
 obtain ⟨_, _, ⟨t0, _⟩, _, _, _, ⟨v0, v1⟩⟩ := may_facts hm
 refine ⟨(elsB_iff hr).2 (fun b hb => ?_), blkB_iff.2 ⟨fun b hb => ?_, ?_⟩⟩
 · rw [(List.mem_replicate.1 hb).2]
   exact allIn_of (fun x hx => by rw [(List.mem_replicate.1 hx).2]; exact ⟨by decide, hr.pos⟩)
 · rw [(List.mem_replicate.1 hb).2, List.length_replicate]; omega
 · unfold zpd; rw [List.length_replicate]; omega
theorem rs_doc {p : Pn} {q : Pr} {dl : List (List Int)} (hf : fitQ p q = true) : bkE p dl (zpd p) [] = rsE p q dl := by
 obtain ⟨hm, _⟩ := fit_facts hf
 obtain ⟨z1, z2⟩ := zpd_in hm
 unfold bkE rsE
 rw [hm, z1, z2, if_pos hf]
 have e2 : whoB p.n [] = true := rfl
 rw [e2, Bool.and_true, Bool.and_true, Bool.true_and, Bool.and_true]
theorem rs_zero {p : Pn} {q : Pr} {dl : List (List Int)} (h : rsE p q dl = 0) : fitQ p q = true ∧ dl.length = p.k.toNat ∧ dl.length ≤ 64 ∧ ∀ b ∈ dl, rwE p.f q b = 0 ∧ evE p.f q b = 0 ∧ ruL p.f q b = rnO (Rf p.f) q b := by
 unfold rsE at h
 split at h
 · rename_i hf
   split at h
   · rename_i he
     split at h
     · rename_i hb
       obtain ⟨hm, hmb, _, hin, _⟩ := fit_facts hf
       obtain ⟨_, ⟨k0, k1⟩, _⟩ := may_facts hm
       obtain ⟨b1, b2⟩ := blkB_iff.1 hb
       refine ⟨hf, by omega, by omega, fun b hb' => ?_⟩
       have r0 : rwE p.f q b = 0 := by
        unfold rwE
        rw [if_pos (List.all_eq_true.1 he b hb'), if_pos (by rw [b1 b hb', hin])]
       have r1 : evE p.f q b = 0 := by unfold evE; rw [if_pos hmb]; exact r0
       exact ⟨r0, r1, by unfold ruL; rw [if_pos r1]⟩
     · cases h
   · cases h
 · cases h
theorem rs_many {p : Pn} {q : Pr} {dl : List (List Int)} (h : rsE p q dl = 0) : maE p.f q dl = 0 ∧ maL p.f q dl = rsL p q dl := by
 obtain ⟨hf, _, hl, hb⟩ := rs_zero h
 obtain ⟨hm, hmb, _⟩ := fit_facts hf
 have e1 : maR p.f q dl = 0 := by
  unfold maR
  have h2 : ∀ c : Int, c ≠ 0 → c ∉ dl.map (rwE p.f q) := fun c hc hm' => by
   obtain ⟨b, hb', e⟩ := List.mem_map.1 hm'
   rw [(hb b hb').1] at e
   exact hc e.symm
  rw [if_neg (h2 2 (by decide)), if_neg (h2 3 (by decide))]
 have e2 : maE p.f q dl = 0 := by
  unfold maE
  rw [hmb, fi_inF hm, e1, if_pos (by rfl), if_pos rfl, if_neg (by omega)]
 exact ⟨e2, by unfold maL rsL; rw [if_pos e2, if_pos h]⟩
theorem rsE_no {p : Pn} {q : Pr} {dl : List (List Int)} (h : fitQ p q = false) : rsE p q dl = 2 ∧ rsL p q dl = [] := by
 have e : rsE p q dl = 2 := by unfold rsE; rw [h]; rfl
 exact ⟨e, by unfold rsL; rw [e]; rfl⟩
theorem rsL_no {p : Pn} {q : Pr} {dl : List (List Int)} (h : rsE p q dl ≠ 0) : rsL p q dl = [] := if_neg h
theorem rp_yes {p : Pn} {q : Pr} {xs : List Int} (h : fitQ p q = true) : rpE p q xs = evE p.f q xs ∧ rpL p q xs = ruL p.f q xs := by
 have e : rpE p q xs = evE p.f q xs := if_pos h
 exact ⟨e, by unfold rpL ruL; rw [e]⟩
theorem rp_no {p : Pn} {q : Pr} {xs : List Int} (h : fitQ p q = false) : rpE p q xs = 2 ∧ rpL p q xs = [] := by
 have e : rpE p q xs = 2 := by unfold rpE; rw [h]; rfl
 exact ⟨e, by unfold rpL; rw [e]; rfl⟩
theorem rp_wd (p : Pn) (q : Pr) {xs : List Int} (hw : ∀ x ∈ xs, 0 ≤ x ∧ x ≤ 18446744073709551615) : Wd (rpL p q xs) := by
 cases hf : fitQ p q with
 | false => rw [(rp_no hf).2]; exact wd_nil
 | true => rw [(rp_yes hf).2]; have := (ru_wd p.f q xs hw).1; exact ⟨by omega, this.2⟩
theorem rs_wd (p : Pn) (q : Pr) {dl : List (List Int)} (hw : ∀ b ∈ dl, ∀ x ∈ b, 0 ≤ x ∧ x ≤ 18446744073709551615) : (rsL p q dl).length ≤ 64 ∧ ∀ i, Wd ((rsL p q dl).getD i []) := by
 by_cases h : rsE p q dl = 0
 · obtain ⟨_, _, hl, _⟩ := rs_zero h
   obtain ⟨e1, e2⟩ := rs_many h
   refine ⟨by unfold rsL; rw [if_pos h, List.length_map]; exact hl, ?_⟩
   rw [← e2]; exact (ma_wd hw).2
 · rw [rsL_no h]; exact ⟨by simp, fun i => by simp; exact wd_nil⟩
end Go.Proofs.YtjhididlcdepdaaGreat
