/-
  The statements of layer 11: EvalMany walked.
-/
import Derived.Test.YtfbipnhhnmlhfaaBunI
import Derived.Test.YtfbipnhhnmlhfaaBEvrB
import Derived.Test.YtfbipnhhnmlhfaaBTreD
namespace Go.Proofs.Ytfbipnhhnmlhfaa
open Go.RowKit Fld Slp
set_option linter.unusedVariables false
set_option linter.unusedSimpArgs false

/-- What comes of Many are words. -/
theorem ma_wd {f : Int} {q : Pr} {xss : List (List Int)} (hw : ∀ xs ∈ xss, ∀ x ∈ xs, 0 ≤ x ∧ x ≤ 18446744073709551615) : (maL f q xss).length ≤ 4096 ∧ ∀ i, Wd ((maL f q xss).getD i []) := by
  by_cases he : maE f q xss = 0
  · have e1 : maL f q xss = xss.map (rnO (Rf f) q) := by unfold maL; rw [if_pos he]
    obtain ⟨hm, hl, hall⟩ := maE_zero he
    rw [e1]
    refine ⟨by simpa using hl, fun i => ?_⟩
    rw [List.getD_eq_getElem?_getD, List.getElem?_map]
    cases hx : xss[i]? with
    | none => exact wd_nil
    | some xs =>
      have hmem := List.mem_of_getElem? hx
      have h2 : evE f q xs = 0 := by unfold evE; rw [if_pos hm]; exact hall xs hmem
      have h3 := (ru_wd f q xs (hw xs hmem)).1
      have e2 : ruL f q xs = rnO (Rf f) q xs := by unfold ruL; rw [if_pos h2]
      rw [e2] at h3
      exact ⟨by simp only [Option.map_some, Option.getD_some]; omega, h3.2⟩
  · have e1 : maL f q xss = [] := by unfold maL; rw [if_neg he]
    rw [e1]
    exact ⟨by simp, fun i => by simp; exact wd_nil⟩

theorem Rws.wordsL {w : World} {v : Value} {xss : List (List Int)} (h : Rws w v xss) : ∀ xs ∈ xss, ∀ x ∈ xs, 0 ≤ x ∧ x ≤ 18446744073709551615 := fun xs hx => by
  obtain ⟨ao, cap, rfl, hl, hc, hcell⟩ := h
  obtain ⟨i, hi, rfl⟩ := List.mem_iff_getElem.1 hx
  obtain ⟨b, off, rfl, hbl, hcc⟩ := hcell (by intro e; rw [e] at hi; simp at hi)
  obtain ⟨u, _, hr⟩ := hcc i hi
  rw [List.getD_eq_getElem?_getD, List.getElem?_eq_getElem hi] at hr
  exact hr.words
theorem Rows_any (v1 v2 : Value) (xss : List (List Int)) (w : World) (h1 : Rws w v1 xss) (h2 : Rws w v2 xss) : Calls Try.prog 17 #[v1, v2] w fun e w' => e = .returned (.bool true) ∧ Below w.heap.size w w' :=
  (Rows_quiet v1 v2 xss w h1 h2).mono fun e w' ⟨he, m, hw⟩ => ⟨he, by rw [hw]; exact drewN_below w m⟩

set_option maxRecDepth 100000 in
set_option maxHeartbeats 1000000 in
theorem evalMany_any (f : Int) (w : World) (vp vi : Value) (q : Pr) (xss : List (List Int)) (hf0 : 0 ≤ f) (hf1 : f ≤ 255) (hp : Pm w vp q) (hr : Rws w vi xss) (hlr : xss.length ≤ 5864062014634) : Calls Try.prog 4 #[.int .u8 f, vp, vi] w fun e w' => e = .returned (.bool true) ∧ Below w.heap.size w w' := by
  have HA := hide (fun W' (hb : Below w.heap.size w W') => eMany f q _ _ xss W' (hp.below hb) (hr.below hb))
  have HB := hide (fun W' (hb : Below w.heap.size w W') => dMany f q _ _ xss W' (hp.below hb) (hr.below hb))
  have HX := hide (fun W' => anch11 W')
  unfold GivesL11 at HA HB
  unfold Anch11 at HX
  obtain ⟨u1, u2⟩ := ma_wd (f := f) (q := q) hr.wordsL
  have HU1 := hide u1
  have HU2 := hide u2
  clear u1 u2
  obtain ⟨vo, vu, rfl, ho, hu⟩ := hp.form
  obtain ⟨ao, co', rfl, _⟩ := ho.spell
  obtain ⟨au, cu, rfl, _⟩ := hu.spell
  obtain ⟨ai, ci, rfl, hlen, hcap, hcell⟩ := hr
  have hA := alloc_below w (.cells #[.int .i64 q.inp, .slice ao q.ops.length co', .slice au q.outs.length cu] 25)
  have hN := heap_alloc_new w (.cells #[.int .i64 q.inp, .slice ao q.ops.length co', .slice au q.outs.length cu] 25)
  clear ho hu hp hcell
  generalize maL f q xss = rs at *
  generalize maE f q xss = er at *
  go_enter Try.func4, Try.ntmps4
  go_wp2_with (first
    | (go_at_call 15; refine (HA.out _ hA).mono ?_; rintro e w1 ⟨v1, us1, rfl, ho1, hb1⟩; have HR1 := hide (ho1.rws HU2.out (by have := HU1.out; omega)); have hB1 := Below.next hA hb1; have n1 := (hb1.block _ (Array.getElem?_eq_some_iff.1 hN).1).trans hN; obtain ⟨p0, p1, p2⟩ := cell3 n1; clear ho1)
    | (go_at_call 16; refine (HB.out _ hB1).mono ?_; rintro e w2 ⟨v2, us2, rfl, ho2, hb2⟩; have HR2 := hide (ho2.rws HU2.out (by have := HU1.out; omega)); have hB2 := Below.next hB1 hb2; clear ho2)
    | (go_at_call 17; refine (Rows_any _ _ _ _ (HR1.out.below hb2) HR2.out).mono ?_; rintro e w5 ⟨rfl, hb5⟩; have hB5 := Below.next hB2 hb5)
    | (go_at_call 14; refine (HX.out _).mono ?_; rintro e w7 ⟨rfl, hb7⟩; have hB7 := Below.next hB5 hb7))
  go_ret
  exact ⟨rfl, hB7⟩

end Go.Proofs.Ytfbipnhhnmlhfaa
