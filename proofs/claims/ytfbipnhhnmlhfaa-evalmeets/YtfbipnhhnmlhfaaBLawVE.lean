/-
  The statements of layer 11: EvalComposes walked.
-/
import Derived.Test.YtfbipnhhnmlhfaaBLawVC
import Derived.Test.YtfbipnhhnmlhfaaBEvrC
namespace Go.Proofs.Ytfbipnhhnmlhfaa
open Go.RowKit Fld Slp
set_option linter.unusedVariables false
set_option linter.unusedSimpArgs false

/-- What the error 0 of Compose says. -/
theorem coE_zero {f : Int} {q : Pr} {xss : List (List Int)} (h : coE f q xss = 0) : mayB q = true ∧ inF f [] = true ∧ cpE f q xss = 0 := by
  unfold coE at h
  split at h
  · rename_i hg
    rw [Bool.and_eq_true] at hg
    exact ⟨hg.1, hg.2, h⟩
  · cases h
theorem co_lim {f : Int} {q : Pr} {xss : List (List Int)} (hw : ∀ xs ∈ xss, ∀ x ∈ xs, 0 ≤ x ∧ x ≤ 18446744073709551615) (h : coE f q xss = 0) : ∃ p wd, Fi f p wd ∧ ∀ xs ∈ xss, Lim p xs := by
  obtain ⟨hm, hn, hc⟩ := coE_zero h
  obtain ⟨hin, _, hlm, _, _⟩ := cpE_zero hm hc
  obtain ⟨p, wd, hf, _⟩ := inF_fi hn
  refine ⟨p, wd, hf, fun xs hx => ?_⟩
  have h1 := List.all_eq_true.1 hin xs hx
  rw [inF_yes hf] at h1
  exact ⟨els_of h1 (hw xs hx), hlm xs hx⟩
/-- What comes of Compose are words. -/
theorem co_wd {f : Int} {q : Pr} {xss : List (List Int)} (hw : ∀ xs ∈ xss, ∀ x ∈ xs, 0 ≤ x ∧ x ≤ 18446744073709551615) : (coL f q xss).length ≤ 64 ∧ ∀ i, Wd ((coL f q xss).getD i []) := by
  by_cases he : coE f q xss = 0
  · have e1 : coL f q xss = rnO (Rt f) (trP q) (xss.map tr) := by unfold coL; rw [if_pos he]
    obtain ⟨p, wd, hf, hx⟩ := co_lim hw he
    have hxt : ∀ xs ∈ xss.map tr, Lim p xs := fun xs hxs => by
      obtain ⟨ys, hy, rfl⟩ := List.mem_map.1 hxs
      exact lim_tr hf.pos (hx ys hy)
    have hall := lim_allT hf (trP q).ops (xss.map tr) hxt
    obtain ⟨⟨t0, t1, t2, t3⟩, _, _⟩ := mayB_iff.1 (tr_may (coE_zero he).1)
    rw [e1]
    refine ⟨by rw [rnO_len]; exact t3, fun i => lim_wd hf.top (wd_getD (P := Lim p) (fun xs hxs => ?_) ⟨els_nil p, by simp⟩ i)⟩
    obtain ⟨v, _, rfl⟩ := List.mem_map.1 hxs
    exact wd_getD (P := Lim p) hall ⟨els_nil p, by simp⟩ v.toNat
  · have e1 : coL f q xss = [] := by unfold coL; rw [if_neg he]
    rw [e1]
    exact ⟨by simp, fun i => by simp; exact wd_nil⟩

set_option maxRecDepth 100000 in
set_option maxHeartbeats 1000000 in
theorem evalComposes_any (f : Int) (w : World) (vp vi : Value) (q : Pr) (xss : List (List Int)) (hf0 : 0 ≤ f) (hf1 : f ≤ 255) (hp : Pm w vp q) (hr : Rws w vi xss) (hlr : xss.length ≤ 5864062014634) : Calls Try.prog 5 #[.int .u8 f, vp, vi] w fun e w' => e = .returned (.bool true) ∧ Below w.heap.size w w' := by
  have HA := hide (fun W' (hb : Below w.heap.size w W') => qCompose f q _ _ xss W' (hp.below hb) (hr.below hb))
  have HB := hide (fun W' (hb : Below w.heap.size w W') => dCompose f q _ _ xss W' (hp.below hb) (hr.below hb) hlr)
  have HX := hide (fun W' => anch11 W')
  unfold GivesL11 at HA HB
  unfold Anch11 at HX
  obtain ⟨u1, u2⟩ := co_wd (f := f) (q := q) hr.wordsL
  have HU1 := hide u1
  have HU2 := hide u2
  clear u1 u2
  obtain ⟨vo, vu, rfl, ho, hu⟩ := hp.form
  obtain ⟨ao, co', rfl, _⟩ := ho.spell
  obtain ⟨au, cu, rfl, _⟩ := hu.spell
  obtain ⟨ai, ci, rfl, hlen, hcap, hcell⟩ := hr
  have hA := alloc_below w (.cells #[.int .i64 q.inp, .slice ao q.ops.length co', .slice au q.outs.length cu] 25)
  have hN := heap_alloc_new w (.cells #[.int .i64 q.inp, .slice ao q.ops.length co', .slice au q.outs.length cu] 25)
  clear ho hu hp hcell
  generalize coL f q xss = rs at *
  generalize coE f q xss = er at *
  go_enter Try.func5, Try.ntmps5
  go_wp2_with (first
    | (go_at_call 18; refine (HA.out _ hA).mono ?_; rintro e w1 ⟨v1, us1, rfl, ho1, hb1⟩; have HR1 := hide (ho1.rws HU2.out (by have := HU1.out; omega)); have hB1 := Below.next hA hb1; have n1 := (hb1.block _ (Array.getElem?_eq_some_iff.1 hN).1).trans hN; obtain ⟨p0, p1, p2⟩ := cell3 n1; clear ho1)
    | (go_at_call 19; refine (HB.out _ hB1).mono ?_; rintro e w2 ⟨v2, us2, rfl, ho2, hb2⟩; have HR2 := hide (ho2.rws HU2.out (by have := HU1.out; omega)); have hB2 := Below.next hB1 hb2; clear ho2)
    | (go_at_call 17; refine (Rows_any _ _ _ _ (HR1.out.below hb2) HR2.out).mono ?_; rintro e w5 ⟨rfl, hb5⟩; have hB5 := Below.next hB2 hb5)
    | (go_at_call 14; refine (HX.out _).mono ?_; rintro e w7 ⟨rfl, hb7⟩; have hB7 := Below.next hB5 hb7))
  go_ret
  exact ⟨rfl, hB7⟩

end Go.Proofs.Ytfbipnhhnmlhfaa
