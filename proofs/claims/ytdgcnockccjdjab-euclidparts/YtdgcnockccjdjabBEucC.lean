/-
  Euclid: what products, differences and quotients answer here; the errors; the program's check, less and byTop.
-/
import Derived.Test.YtdgcnockccjdjabBEucB
import Derived.Test.YtdgcnockccjdjabBLawPA
import Derived.Test.YtdgcnockccjdjabBPolP
namespace Go.Proofs.Ytdgcnockccjdjab
open Go.RowKit Fld
set_option linter.unusedVariables false

namespace Fld
/-- Divided by an element. -/
theorem div_const {p : Int} {wd : Bool} (hm : Md p wd) {xs A B : List Int} {c : Int} (hc : El p c) (h0 : c ≠ 0) (h : Dv p xs [c] A B) : B = [] ∧ Tm p A ∧ pl p A = qm (pl p [inv p c]) (pl p xs) ∧ (inv p c * c) % p = 1 % p := by
  have hp : 0 < p := by have := hm.bounds; omega
  have hi := inv_one hm hc h0
  have hr := h.rg
  have hB : B = [] := by
    have := hr.2.2.1
    rw [(Tm.single hc h0).2, List.length_singleton] at this
    exact List.length_eq_zero_iff.1 (by omega)
  rw [hB, pl_add_nil] at hr
  have e : (inv p c * c) % p = 1 % p := by rw [Int.mul_comm]; exact hi
  refine ⟨hB, hr.1, ?_, e⟩
  have hb := hm.bounds
  have e1 : (1 : Int) % p = 1 := Int.emod_eq_of_lt (by omega) (by omega)
  rw [← hr.2.2.2, qm_left, ← pl_two, e, e1, pl_mul_one]
theorem mon_mk {p : Int} {wd : Bool} (hm : Md p wd) {r g : List Int} {d : Int} (tr' : Tm p r) (tg : Tm p g) (hr : r ≠ []) (hd : (d * co r (r.length - 1)) % p = 1 % p) (hg : pl p g = qm (pl p [d]) (pl p r)) : Mon p r g := by
  have hp : 0 < p := by have := hm.bounds; omega
  have hb := hm.bounds
  have e1 : (1 : Int) % p = 1 := Int.emod_eq_of_lt (by omega) (by omega)
  have hb' : pl p r = qm (pl p [co r (r.length - 1)]) (pl p g) := by
    rw [hg, ← qm_assoc, ← pl_two, Int.mul_comm, hd, e1, pl_one_mul]
  have hgn : g ≠ [] := fun e => hr (tr'.only hp (Tm.nil p) (by rw [hb', e, pl_nil_right]))
  have h2 := nz_tm hp [d]
  have h3 := prod_len hm tg h2.1 tr' (by rw [h2.2]; exact hg) hgn
  have h4 := nz_len p [d]
  rw [List.length_singleton] at h4
  have h5 := List.length_pos_iff.2 h3.1
  have hl : g.length = r.length := by omega
  refine .inr ⟨hr, tg, hl, ?_, d, _, hd, hg, hb'⟩
  have e : co g (g.length - 1) % p = cv (co [d]) (co r) (g.length - 1) % p := pu_al hg (g.length - 1)
  rw [cv_single, hl, hd, e1, (tg.1.co hp _).mod] at e
  rw [hl]; exact e
theorem last_el {p : Int} (hp : 0 < p) {r : List Int} (h : Tm p r) (hr : r ≠ []) : El p (co r (r.length - 1)) ∧ co r (r.length - 1) ≠ 0 := ⟨h.1.co hp _, last_ne h.2 hr⟩
theorem mon_div {p : Int} {wd : Bool} (hm : Md p wd) {r A B : List Int} (tr' : Tm p r) (hr : r ≠ []) (h : Dv p r [co r (r.length - 1)] A B) : Mon p r A := by
  have hp : 0 < p := by have := hm.bounds; omega
  have hl := last_el hp tr' hr
  have := div_const hm hl.1 hl.2 h
  exact mon_mk hm tr' this.2.1 hr this.2.2.2 this.2.2.1
theorem mon_scale {p : Int} {wd : Bool} (hm : Md p wd) {r g : List Int} (tr' : Tm p r) (hr : r ≠ []) (h : Is p g (cv (co [inv p (co r (r.length - 1))]) (co r))) : Mon p r g := by
  have hp : 0 < p := by have := hm.bounds; omega
  have hl := last_el hp tr' hr
  have hi := inv_one hm hl.1 hl.2
  exact mon_mk hm tr' h.tm.1 hr (by rw [Int.mul_comm]; exact hi) h.tm.2
end Fld

theorem mul_facts {f p : Int} {wd : Bool} (h : Fi f p wd) {xs ys : List Int} (hx : Tm p xs) (hy : Tm p ys) (l1 : xs.length ≤ 4096) (l2 : ys.length ≤ 4096) (l : xs.length + ys.length ≤ 4097) :
    mulE f xs ys = 0 ∧ Tm p (mulL f xs ys) ∧ pl p (mulL f xs ys) = qm (pl p xs) (pl p ys) ∧ (mulL f xs ys).length ≤ 4096 := by
  have he := er_yes h (allIn_of hx.1) (allIn_of hy.1) l1 l2
  have h0 : mulE f xs ys = 0 := by unfold mulE; rw [if_pos he, hx.2, hy.2, if_neg (by omega)]
  have e : mulL f xs ys = prd p xs ys := by unfold mulL; rw [h0, if_pos rfl, pOf_eq h, hx.2, hy.2]
  have hi := (is_prd h.md hx.1 hy.1 hx.2 hy.2).tm
  exact ⟨h0, by rw [e]; exact hi.1, by rw [e]; exact hi.2, mulL_len f xs ys⟩
theorem sub_facts {f p : Int} {wd : Bool} (h : Fi f p wd) {xs ys : List Int} (hx : Els p xs) (hy : Els p ys) (l1 : xs.length ≤ 4096) (l2 : ys.length ≤ 4096) :
    er f xs ys = 0 ∧ Tm p (subL f xs ys) ∧ qa (pl p (subL f xs ys)) (pl p ys) = pl p xs := by
  have he := er_yes h (allIn_of hx) (allIn_of hy) l1 l2
  have e : subL f xs ys = tr (sm p (sub p 0 1) xs ys) := by unfold subL; rw [if_pos he, pOf_eq h]
  have hi := (is_sub h.pos xs ys).tm
  refine ⟨he, by rw [e]; exact hi.1, ?_⟩
  rw [e, hi.2]
  show qa (pu p _) (pu p (co ys)) = pu p (co xs)
  rw [qa_pu]; congr 1; funext i; exact Int.sub_add_cancel _ _

/-- The errors of two lists. -/
def chE (f : Int) (xs ys : List Int) : Int := if er f xs ys = 2 then 2 else if 2048 < xs.length ∨ 2048 < ys.length then 4 else 0
def stE (f : Int) (xs ys : List Int) (s : Int) : Int := if s < 0 then 2 else chE f xs ys
theorem er_four {f : Int} {xs ys : List Int} (h : er f xs ys = 4) : 4096 < xs.length ∨ 4096 < ys.length := by
  unfold er erb at h
  split at h
  · split at h
    · assumption
    · cases h
  · cases h
theorem er_cases (f : Int) (xs ys : List Int) : er f xs ys = 0 ∨ er f xs ys = 2 ∨ er f xs ys = 4 := erb_ne _ _ _ _
theorem chE_ne {f : Int} {xs ys : List Int} (h : er f xs ys ≠ 0) : chE f xs ys = er f xs ys := by
  unfold chE
  rcases er_cases f xs ys with e | e | e
  · exact absurd e h
  · rw [if_pos e, e]
  · rw [if_neg (by omega), e]
    have := er_four e
    rw [if_pos (by omega)]
theorem chE_cases (f : Int) (xs ys : List Int) : chE f xs ys = 0 ∨ chE f xs ys = 2 ∨ chE f xs ys = 4 := by
  unfold chE; split
  · exact .inr (.inl rfl)
  · split
    · exact .inr (.inr rfl)
    · exact .inl rfl
theorem chE_zero {f : Int} {xs ys : List Int} (h : chE f xs ys = 0) : ∃ p wd, Fi f p wd ∧ allIn p xs = true ∧ allIn p ys = true ∧ xs.length ≤ 2048 ∧ ys.length ≤ 2048 := by
  by_cases he : er f xs ys = 0
  · obtain ⟨p, wd, hf, i1, i2, _, _⟩ := er_zero he
    refine ⟨p, wd, hf, i1, i2, ?_⟩
    unfold chE at h
    rw [if_neg (by omega)] at h
    split at h
    · cases h
    · omega
  · rw [chE_ne he] at h; exact absurd h he
theorem chE_yes {f p : Int} {wd : Bool} {xs ys : List Int} (h : Fi f p wd) (h1 : Els p xs) (h2 : Els p ys) (l1 : xs.length ≤ 2048) (l2 : ys.length ≤ 2048) : chE f xs ys = 0 := by
  unfold chE
  rw [er_yes h (allIn_of h1) (allIn_of h2) (by omega) (by omega), if_neg (by decide), if_neg (by omega)]
theorem stE_zero {f s : Int} {xs ys : List Int} (h : stE f xs ys s = 0) : 0 ≤ s ∧ chE f xs ys = 0 := by
  unfold stE at h
  split at h
  · cases h
  · exact ⟨by omega, h⟩

set_option maxHeartbeats 200000 in
theorem eCheck_any (f : Int) (v1 v2 : Value) (xs ys : List Int) (w : World) (h1 : Rw w v1 xs) (h2 : Rw w v2 ys) :
    Calls Try.prog 28 #[.int .u8 f, v1, v2] w fun e w' => e = .returned (.int .i64 (chE f xs ys)) ∧ Below w.heap.size w w' := by
  obtain ⟨a1, c1, rfl, _⟩ := h1.spell
  obtain ⟨a2, c2, rfl, _⟩ := h2.spell
  have hk := hide (pAdd_any f _ _ xs ys w h1 h2)
  unfold Gives at hk
  have l1 := h1.len
  have l2 := h2.len
  clear h1 h2
  by_cases he : er f xs ys = 0
  · have HC : Hid (chE f xs ys = if 2048 < xs.length ∨ 2048 < ys.length then 4 else 0) := by show _ = _; unfold chE; rw [if_neg (by omega)]
    rw [he] at hk
    rw [HC.out]
    clear HC he
    generalize xs.length = n1 at *
    generalize ys.length = n2 at *
    generalize addL f xs ys = zs at *
    by_cases hn : 2048 < n1 ∨ 2048 < n2
    · rw [if_pos hn]
      have hmx : (2048 : Int) < max (n1 : Int) (n2 : Int) := by omega
      go_enter Try.func28, Try.ntmps28
      go_wp2_with (go_at_call 35; refine hk.out.mono ?_; rintro e w1 ⟨v', rfl, _, hb⟩)
      all_goals (go_ret; exact ⟨rfl, hb⟩)
    · rw [if_neg hn]
      have hmx : ¬ (2048 : Int) < max (n1 : Int) (n2 : Int) := by omega
      go_enter Try.func28, Try.ntmps28
      go_wp2_with (go_at_call 35; refine hk.out.mono ?_; rintro e w1 ⟨v', rfl, _, hb⟩)
      all_goals (go_ret; exact ⟨rfl, hb⟩)
  · have ht : (er f xs ys != 0) = true := bne_iff_ne.2 he
    rw [chE_ne he]
    clear he
    generalize er f xs ys = e0 at *
    generalize addL f xs ys = zs at *
    go_enter Try.func28, Try.ntmps28
    go_wp2_with (go_at_call 35; refine hk.out.mono ?_; rintro e w1 ⟨v', rfl, _, hb⟩)
    go_ret
    exact ⟨rfl, hb⟩

set_option maxHeartbeats 200000 in
theorem eStop_any (f : Int) (v1 v2 : Value) (xs ys : List Int) (s : Int) (w : World) (h1 : Rw w v1 xs) (h2 : Rw w v2 ys) :
    Calls Try.prog 12 #[.int .u8 f, v1, v2, .int .i64 s] w fun e w' => e = .returned (.int .i64 (stE f xs ys s)) ∧ Below w.heap.size w w' := by
  have hk := hide (eCheck_any f v1 v2 xs ys w h1 h2)
  unfold stE
  clear h1 h2
  generalize chE f xs ys = e0 at *
  by_cases hs : s < 0
  · rw [if_pos hs]
    go_enter Try.func12, Try.ntmps12
    go_wp2
    go_ret
    exact ⟨rfl, Below.refl _ _⟩
  · rw [if_neg hs]
    go_enter Try.func12, Try.ntmps12
    go_wp2_with (go_at_call 28; refine hk.out.mono ?_; rintro e w1 ⟨rfl, hb⟩)
    go_ret
    exact ⟨rfl, hb⟩

set_option maxHeartbeats 200000 in
theorem less_any (f p : Int) (wd : Bool) (v1 v2 v3 : Value) (xs qs ys : List Int) (w : World) (h : Fi f p wd) (h1 : Rw w v1 xs) (h2 : Rw w v2 qs) (h3 : Rw w v3 ys) (t1 : Tm p xs) (t2 : Tm p qs) (t3 : Tm p ys) (l1 : xs.length ≤ 4096) (l2 : qs.length ≤ 4096) (l3 : ys.length ≤ 4096) (l : qs.length + ys.length ≤ 4097) :
    Calls Try.prog 36 #[.int .u8 f, v1, v2, v3] w fun e w' => ∃ v' zs, e = .returned v' ∧ Rw w' v' zs ∧ Tm p zs ∧ qa (pl p zs) (qm (pl p qs) (pl p ys)) = pl p xs ∧ Below w.heap.size w w' := by
  have hmf := mul_facts h t2 t3 l2 l3 l
  have hm := hide (pMul_any f v2 v3 qs ys w h2 h3)
  unfold Gives at hm
  rw [hmf.1] at hm
  have hsf := sub_facts h t1.1 hmf.2.1.1 l1 hmf.2.2.2
  have HW := hide (mulL_wd f qs ys)
  have HWs := hide (subL_wd f xs (mulL f qs ys))
  have hs := hide (fun W v (hb : Below w.heap.size w W) (hr : Rw W v (mulL f qs ys)) => pSub_any f v1 v xs (mulL f qs ys) W (h1.below hb) hr)
  unfold Gives at hs
  rw [hsf.1] at hs
  have HF := hide (show Tm p (subL f xs (mulL f qs ys)) ∧ qa (pl p (subL f xs (mulL f qs ys))) (qm (pl p qs) (pl p ys)) = pl p xs from ⟨hsf.2.1, by rw [← hmf.2.2.1]; exact hsf.2.2⟩)
  clear h1 h2 h3 h hmf hsf t1 t2 t3
  generalize subL f xs (mulL f qs ys) = Z at *
  generalize mulL f qs ys = M at *
  go_enter Try.func36, Try.ntmps36
  go_wp2_with (first
    | (go_at_call 43; refine hm.out.mono ?_; rintro e w1 ⟨u, rfl, hO, hb⟩; have HR := hide (HW.out.row hO); clear hO)
    | (go_at_call 44; refine (hs.out _ _ hb HR.out).mono ?_; rintro e w2 ⟨u2, rfl, hO, hb2⟩; have HR2 := hide (HWs.out.row hO); clear hO))
  go_ret
  exact ⟨_, Z, rfl, HR2.out, HF.out.1, HF.out.2, Below.next hb hb2⟩

theorem Tm.wd {p : Int} {zs : List Int} (h : Tm p zs) (hp : p ≤ 18446744073709551615) (hl : zs.length ≤ 17592186043904) : Wd zs := wd_els h.1 hp hl
theorem dv_wd {p : Int} {wd : Bool} (hm : Md p wd) (hp : p ≤ 18446744073709551615) {xs ys A B : List Int} (hy : Els p ys) (h : Dv p xs ys A B) (l1 : xs.length ≤ 4096) (l2 : ys.length ≤ 4096) : Wd A ∧ Wd B := by
  have := h.rg
  have hl := tr_len ys
  refine ⟨wd_els this.1.1 hp ?_, wd_els this.2.1.1 hp (by omega)⟩
  by_cases hn : A = []
  · rw [hn]; simp
  · have := h.len hm hy hn; omega

set_option maxHeartbeats 400000 in
theorem byTop_any (f p : Int) (wd : Bool) (v : Value) (xs : List Int) (w : World) (h : Fi f p wd) (h1 : Rw w v xs) (t1 : Tm p xs) (l1 : xs.length ≤ 4096) :
    Calls Try.prog 16 #[.int .u8 f, v] w fun e w' => ∃ v' g, e = .returned v' ∧ Rw w' v' g ∧ Mon p xs g ∧ Below w.heap.size w w' := by
  have hd := hide (Degree_any v xs w h1)
  by_cases hn : xs = []
  · subst hn
    obtain ⟨a1, c1, rfl, _⟩ := h1.spell
    clear h1
    have e : (((tr ([] : List Int)).length : Int) - 1) = -1 := rfl
    rw [e] at hd
    clear e
    go_enter Try.func16, Try.ntmps16
    go_wp2_with (go_at_call 13; refine hd.out.mono ?_; rintro e w1 ⟨rfl, hb⟩)
    go_ret
    exact ⟨_, [], rfl, rw0 _, .inl ⟨rfl, rfl⟩, hb⟩
  · have hpos := List.length_pos_iff.2 hn
    obtain ⟨m, hm⟩ : ∃ m, xs.length = m + 1 := ⟨xs.length - 1, by omega⟩
    obtain ⟨a1, c1, rfl, hc1⟩ := h1.spell
    obtain ⟨b, off, rfl⟩ : ∃ b off, a1 = some ⟨b, off, none⟩ := by
      obtain ⟨⟨a, c, he, _, _, hc⟩, _⟩ := h1
      cases he
      obtain ⟨b, o, h3, _⟩ := hc hn
      exact ⟨b, o, h3⟩
    have h2 := h1.one (k := m) (by omega)
    have hl := last_el h.pos t1 hn
    have hmm : xs.length - 1 = m := by omega
    have HM := hide (fun A B (hv : Dv p xs [co xs m] A B) => mon_div h.md t1 hn (by rw [hmm]; exact hv))
    rw [hmm] at hl
    have hE : divE f xs [co xs m] = 0 := by
      unfold divE
      rw [er_yes h (allIn_of t1.1) (allIn_of (Tm.single hl.1 hl.2).1) l1 (by simp), if_pos rfl, (Tm.single hl.1 hl.2).2, if_neg (by simp)]
    have hv := hide (fun W (hb : Below w.heap.size w W) => pDivMod_any f _ _ xs [co xs m] W (h1.below hb) (h2.below hb))
    unfold Parts at hv
    rw [hE] at hv
    have HS := hide (fun A B (hs : DvE f xs [co xs m] A B) => show Dv p xs [co xs m] A B by have := hs.2 hE; rw [pOf_eq h] at this; exact this)
    have HWd := hide (fun A B (hv : Dv p xs [co xs m] A B) => (dv_wd h.md h.top (Tm.single hl.1 hl.2).1 hv l1 (by simp)).1)
    have e : (((tr xs).length : Int) - 1) = (m : Int) := by rw [t1.2]; omega
    rw [e] at hd
    have hm4 : m < 4096 := by omega
    rw [hm] at hc1 hd hv ⊢
    clear h1 h2 h hl hE e l1 hmm
    generalize co xs m = c at *
    go_enter Try.func16, Try.ntmps16
    go_wp2_with (go_at_call 13; refine hd.out.mono ?_; rintro e w1 ⟨rfl, hb⟩)
    refine (hv.out _ hb).mono ?_; rintro e w2 ⟨vq, vr, A, B, b', rfl, hS, hOq, hOr, _, _, hb2⟩
    have HV := hide (HS.out A B hS)
    have HR := hide ((HWd.out A B HV.out).row hOq)
    clear hOq hOr
    go_wp2
    go_ret
    exact ⟨_, A, rfl, HR.out, HM.out A B HV.out, Below.next hb hb2⟩

end Go.Proofs.Ytdgcnockccjdjab
