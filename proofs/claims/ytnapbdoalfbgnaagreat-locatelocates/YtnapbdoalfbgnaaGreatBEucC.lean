import Derived.Test.YtnapbdoalfbgnaaGreatBEucA
import Derived.Test.YtnapbdoalfbgnaaGreatBLawPA
import Derived.Test.YtnapbdoalfbgnaaGreatBunTC
set_option linter.unusedVariables false
set_option linter.unusedSimpArgs false
set_option maxRecDepth 100000
set_option maxHeartbeats 4000000
namespace Go.Proofs.YtnapbdoalfbgnaaGreat
open Go.RowKit Fld
namespace Fld
end Fld
theorem mul_facts {f p : Int} {wd : Bool} (h : Fi f p wd) {xs ys : List Int} (hx : Tm p xs) (hy : Tm p ys) (l1 : xs.length ≤ 4096) (l2 : ys.length ≤ 4096) (l : xs.length + ys.length ≤ 4097) :
 mulE f xs ys = 0 ∧ Tm p (mulL f xs ys) ∧ pl p (mulL f xs ys) = qm (pl p xs) (pl p ys) ∧ (mulL f xs ys).length ≤ 4096 := by
 have he := er_yes h (allIn_of hx.1) (allIn_of hy.1) l1 l2
 have h0 : mulE f xs ys = 0 := by unfold mulE; rw [if_pos he, hx.2, hy.2, if_neg (by omega)]
 have e : mulL f xs ys = prd p xs ys := by unfold mulL; rw [h0, if_pos rfl, pOf_eq h, hx.2, hy.2]
 have hi := (is_prd h.md hx.1 hy.1 hx.2 hy.2).tm
 exact ⟨h0, by rw [e]; exact hi.1, by rw [e]; exact hi.2, mulL_len f xs ys⟩
theorem sub_facts {f p : Int} {wd : Bool} (h : Fi f p wd) {xs ys : List Int} (hx : Els p xs) (hy : Els p ys) (l1 : xs.length ≤ 4096) (l2 : ys.length ≤ 4096) :
 er f xs ys = 0 ∧ Tm p (subL f xs ys) ∧ qa (pl p (subL f xs ys)) (pl p ys) = pl p xs := by
 have he := er_yes h (allIn_of hx) (allIn_of hy) l1 l2
 have e : subL f xs ys = tr (sm p (sub p 0 1) xs ys) := by unfold subL; rw [if_pos he, pOf_eq h]
 have hi := (is_sub h.pos xs ys).tm
 refine ⟨he, by rw [e]; exact hi.1, ?_⟩
 rw [e, hi.2]
 show qa (pu p _) (pu p (co ys)) = pu p (co xs)
 rw [qa_pu]; congr 1; funext i; exact Int.sub_add_cancel _ _
def chE (f : Int) (xs ys : List Int) : Int := if er f xs ys = 2 then 2 else if 2048 < xs.length ∨ 2048 < ys.length then 4 else 0
def stE (f : Int) (xs ys : List Int) (s : Int) : Int := if s < 0 then 2 else chE f xs ys
theorem er_four {f : Int} {xs ys : List Int} (h : er f xs ys = 4) : 4096 < xs.length ∨ 4096 < ys.length := by
 unfold er erb at h
 split at h
 · split at h
   · assumption
   · cases h
 · cases h
theorem er_cases (f : Int) (xs ys : List Int) : er f xs ys = 0 ∨ er f xs ys = 2 ∨ er f xs ys = 4 := erb_ne _ _ _ _
theorem chE_ne {f : Int} {xs ys : List Int} (h : er f xs ys ≠ 0) : chE f xs ys = er f xs ys := by
 unfold chE
 rcases er_cases f xs ys with e | e | e
 · exact absurd e h
 · rw [if_pos e, e]
 · rw [if_neg (by omega), e]
   have := er_four e
   rw [if_pos (by omega)]
theorem chE_zero {f : Int} {xs ys : List Int} (h : chE f xs ys = 0) : ∃ p wd, Fi f p wd ∧ allIn p xs = true ∧ allIn p ys = true ∧ xs.length ≤ 2048 ∧ ys.length ≤ 2048 := by
 by_cases he : er f xs ys = 0
 · obtain ⟨p, wd, hf, i1, i2, _, _⟩ := er_zero he
   refine ⟨p, wd, hf, i1, i2, ?_⟩
   unfold chE at h
   rw [if_neg (by omega)] at h
   split at h
   · cases h
   · omega
 · rw [chE_ne he] at h; exact absurd h he
theorem chE_yes {f p : Int} {wd : Bool} {xs ys : List Int} (h : Fi f p wd) (h1 : Els p xs) (h2 : Els p ys) (l1 : xs.length ≤ 2048) (l2 : ys.length ≤ 2048) : chE f xs ys = 0 := by
 unfold chE
 rw [er_yes h (allIn_of h1) (allIn_of h2) (by omega) (by omega), if_neg (by decide), if_neg (by omega)]
theorem stE_zero {f s : Int} {xs ys : List Int} (h : stE f xs ys s = 0) : 0 ≤ s ∧ chE f xs ys = 0 := by
 unfold stE at h
 split at h
 · cases h
 · exact ⟨by omega, h⟩
theorem eCheck_any (f : Int) (v1 v2 : Value) (xs ys : List Int) (w : World) (h1 : Rw w v1 xs) (h2 : Rw w v2 ys) :
 Calls Tryz.prog 118 #[.int .u8 f, v1, v2] w fun e w' => e = .returned (.int .i64 (chE f xs ys)) ∧ Below w.heap.size w w' := by
 obtain ⟨a1, c1, rfl, _⟩ := h1.spell
 obtain ⟨a2, c2, rfl, _⟩ := h2.spell
 have hk := hide (pAdd_any f _ _ xs ys w h1 h2)
 unfold Gives at hk
 have l1 := h1.len
 have l2 := h2.len
 clear h1 h2
 by_cases he : er f xs ys = 0
 · have HC : Hid (chE f xs ys = if 2048 < xs.length ∨ 2048 < ys.length then 4 else 0) := by show _ = _; unfold chE; rw [if_neg (by omega)]
   rw [he] at hk
   rw [HC.out]
   clear HC he
   generalize xs.length = n1 at *
   generalize ys.length = n2 at *
   generalize addL f xs ys = zs at *
   by_cases hn : 2048 < n1 ∨ 2048 < n2
   · rw [if_pos hn]
     have hmx : (2048 : Int) < max (n1 : Int) (n2 : Int) := by omega
     go_enter Tryz.func118, Tryz.ntmps118
     go_wp2_with (go_at_call 58; refine hk.out.mono ?_; rintro e w1 ⟨v', rfl, _, hb⟩)
     all_goals (go_ret; exact ⟨rfl, hb⟩)
   · rw [if_neg hn]
     have hmx : ¬ (2048 : Int) < max (n1 : Int) (n2 : Int) := by omega
     go_enter Tryz.func118, Tryz.ntmps118
     go_wp2_with (go_at_call 58; refine hk.out.mono ?_; rintro e w1 ⟨v', rfl, _, hb⟩)
     all_goals (go_ret; exact ⟨rfl, hb⟩)
 · have ht : (er f xs ys != 0) = true := bne_iff_ne.2 he
   rw [chE_ne he]
   clear he
   generalize er f xs ys = e0 at *
   generalize addL f xs ys = zs at *
   go_enter Tryz.func118, Tryz.ntmps118
   go_wp2_with (go_at_call 58; refine hk.out.mono ?_; rintro e w1 ⟨v', rfl, _, hb⟩)
   go_ret
   exact ⟨rfl, hb⟩
theorem eStop_any (f : Int) (v1 v2 : Value) (xs ys : List Int) (s : Int) (w : World) (h1 : Rw w v1 xs) (h2 : Rw w v2 ys) :
 Calls Tryz.prog 99 #[.int .u8 f, v1, v2, .int .i64 s] w fun e w' => e = .returned (.int .i64 (stE f xs ys s)) ∧ Below w.heap.size w w' := by
 have hk := hide (eCheck_any f v1 v2 xs ys w h1 h2)
 unfold stE
 clear h1 h2
 generalize chE f xs ys = e0 at *
 by_cases hs : s < 0
 · rw [if_pos hs]
   go_enter Tryz.func99, Tryz.ntmps99
   go_wp2
   go_ret
   exact ⟨rfl, Below.refl _ _⟩
 · rw [if_neg hs]
   go_enter Tryz.func99, Tryz.ntmps99
   go_wp2_with (go_at_call 118; refine hk.out.mono ?_; rintro e w1 ⟨rfl, hb⟩)
   go_ret
   exact ⟨rfl, hb⟩
theorem less_any (f p : Int) (wd : Bool) (v1 v2 v3 : Value) (xs qs ys : List Int) (w : World) (h : Fi f p wd) (h1 : Rw w v1 xs) (h2 : Rw w v2 qs) (h3 : Rw w v3 ys) (t1 : Tm p xs) (t2 : Tm p qs) (t3 : Tm p ys) (l1 : xs.length ≤ 4096) (l2 : qs.length ≤ 4096) (l3 : ys.length ≤ 4096) (l : qs.length + ys.length ≤ 4097) :
 Calls Tryz.prog 130 #[.int .u8 f, v1, v2, v3] w fun e w' => ∃ v' zs, e = .returned v' ∧ Rw w' v' zs ∧ Tm p zs ∧ qa (pl p zs) (qm (pl p qs) (pl p ys)) = pl p xs ∧ Below w.heap.size w w' := by
 have hmf := mul_facts h t2 t3 l2 l3 l
 have hm := hide (pMul_any f v2 v3 qs ys w h2 h3)
 unfold Gives at hm
 rw [hmf.1] at hm
 have hsf := sub_facts h t1.1 hmf.2.1.1 l1 hmf.2.2.2
 have HW := hide (mulL_wd f qs ys)
 have HWs := hide (subL_wd f xs (mulL f qs ys))
 have hs := hide (fun W v (hb : Below w.heap.size w W) (hr : Rw W v (mulL f qs ys)) => pSub_any f v1 v xs (mulL f qs ys) W (h1.below hb) hr)
 unfold Gives at hs
 rw [hsf.1] at hs
 have HF := hide (show Tm p (subL f xs (mulL f qs ys)) ∧ qa (pl p (subL f xs (mulL f qs ys))) (qm (pl p qs) (pl p ys)) = pl p xs from ⟨hsf.2.1, by rw [← hmf.2.2.1]; exact hsf.2.2⟩)
 clear h1 h2 h3 h hmf hsf t1 t2 t3
 generalize subL f xs (mulL f qs ys) = Z at *
 generalize mulL f qs ys = M at *
 go_enter Tryz.func130, Tryz.ntmps130
 go_wp2_with (first
  | (go_at_call 60; refine hm.out.mono ?_; rintro e w1 ⟨u, rfl, hO, hb⟩; have HR := hide (HW.out.row hO); clear hO)
  | (go_at_call 88; refine (hs.out _ _ hb HR.out).mono ?_; rintro e w2 ⟨u2, rfl, hO, hb2⟩; have HR2 := hide (HWs.out.row hO); clear hO))
 go_ret
 exact ⟨_, Z, rfl, HR2.out, HF.out.1, HF.out.2, Below.next hb hb2⟩
theorem Tm.wd {p : Int} {zs : List Int} (h : Tm p zs) (hp : p ≤ 18446744073709551615) (hl : zs.length ≤ 17592186043904) : Wd zs := wd_els h.1 hp hl
theorem dv_wd {p : Int} {wd : Bool} (hm : Md p wd) (hp : p ≤ 18446744073709551615) {xs ys A B : List Int} (hy : Els p ys) (h : Dv p xs ys A B) (l1 : xs.length ≤ 4096) (l2 : ys.length ≤ 4096) : Wd A ∧ Wd B := by
 have := h.rg
 have hl := tr_len ys
 refine ⟨wd_els this.1.1 hp ?_, wd_els this.2.1.1 hp (by omega)⟩
 by_cases hn : A = []
 · rw [hn]; simp
 · have := h.len hm hy hn; omega
end Go.Proofs.YtnapbdoalfbgnaaGreat
