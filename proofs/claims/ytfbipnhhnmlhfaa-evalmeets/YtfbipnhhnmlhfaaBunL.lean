/- Texts laid together: SlxD, SlxE. -/
import Derived.Test.YtfbipnhhnmlhfaaBunX
namespace Go.Proofs.Ytfbipnhhnmlhfaa
open Go.RowKit Fld Slp
set_option linter.unusedVariables false
set_option linter.unusedSimpArgs false

theorem aftAt_in {q : Pr} {n : Nat} (hu : Iw q.outs) (h0 : 0 ≤ q.inp) (h1 : q.inp ≤ 64) (ho : q.ops.length ≤ 256) (hn : n ≤ 256) (k : Nat) : -9223372036854775808 ≤ (aftAt q n).getD k 0 ∧ (aftAt q n).getD k 0 ≤ 9223372036854775807 := by
  by_cases hk : k < q.outs.length
  · rw [aft_low hk]; exact hu _ (List.getElem_mem hk)
  · by_cases h2 : k < q.outs.length + n
    · rw [aft_high hk h2]; omega
    · rw [List.getD_eq_getElem?_getD, List.getElem?_eq_none (by rw [aftAt_len]; omega)]
      decide
theorem aft_ok {p q : Pr} (hp : ∀ o ∈ p.ops, Ok4 o) (hq : ∀ o ∈ q.ops, Ok4 o) (hu : Iw q.outs) (hE : aftE p q = 0) : (∀ o ∈ (aftF p q).ops, Ok4 o) ∧ Iw (aftF p q).outs := by
  obtain ⟨hm, hm2, hl, hlen⟩ := aftE_zero hE
  obtain ⟨⟨j0, j1, l2, l4⟩, _, _⟩ := mayB_iff.1 hm2
  have hin := fun k => aftAt_in (q := q) (n := p.ops.length) hu j0 j1 l2 (by omega) k
  constructor
  · intro o ho
    rcases List.mem_append.1 ho with ho | ho
    · exact hq o ho
    · obtain ⟨x, hx, rfl⟩ := List.mem_map.1 ho
      unfold shO
      split
      · exact hp x hx
      · exact ⟨(hp x hx).1, hin _, hin _, (hp x hx).2.2.2⟩
  · intro v hv
    obtain ⟨x, hx, rfl⟩ := List.mem_map.1 hv
    exact hin _
theorem aft_pm {w w' : World} {v1 v2 vo vu : Value} {p q : Pr} {B : Nat} (h1 : Pm w v1 p) (h2 : Pm w v2 q) (ho : w'.ownsRow B 68 4 vo (aftP p q).ops.length ((aftP p q).ops.flatMap opw)) (hu : w'.ownsRow B 3 1 vu (aftP p q).outs.length ((aftP p q).outs.flatMap iw)) :
    Pm w' (.agg #[.int .i64 (aftP p q).inp, vo, vu]) (aftP p q) := by
  by_cases hE : aftE p q = 0
  · have eP : aftP p q = aftF p q := by unfold aftP; rw [if_pos hE]
    rw [eP] at ho hu ⊢
    obtain ⟨hm, hm2, hl, hlen⟩ := aftE_zero hE
    obtain ⟨⟨j0, j1, l2, l4⟩, _, _⟩ := mayB_iff.1 hm2
    obtain ⟨⟨i0, i1, l1, l3⟩, _, _⟩ := mayB_iff.1 hm
    obtain ⟨k1, k2⟩ := aft_ok h1.okb h2.okb h2.oub hE
    have n1 : (aftF p q).ops.length ≤ 140737488500000 := by unfold aftF; simp; omega
    have n2 : (aftF p q).outs.length ≤ 140737488500000 := by unfold aftF; simp; omega
    exact ⟨⟨vo, vu, rfl, lm_of_own opw_len (by decide) ho n1, lm_of_own iw_len (by decide) hu n2⟩, by show _ ∧ _; unfold aftF; constructor <;> simp <;> omega, k1, k2⟩
  · have eP : aftP p q = pz := by unfold aftP; rw [if_neg hE]
    rw [eP] at ho hu ⊢
    exact ⟨⟨vo, vu, rfl, lm_of_own opw_len (by decide) ho (by decide), lm_of_own iw_len (by decide) hu (by decide)⟩, by decide, (fun o ho => by cases ho), (fun x hx => by cases hx)⟩

end Go.Proofs.Ytfbipnhhnmlhfaa

namespace Go.Proofs.Ytfbipnhhnmlhfaa
open Go.RowKit Fld Slp
set_option linter.unusedVariables false
set_option linter.unusedSimpArgs false

set_option maxRecDepth 100000 in
set_option maxHeartbeats 1000000 in
theorem dAfter_no (w : World) (v1 v2 : Value) (p q : Pr) (h1 : Pm w v1 p) (h2 : Pm w v2 q) (hE : ¬ aftE p q = 0) : IsAfter 25 v1 v2 w p q := by
  unfold IsAfter
  have eP : aftP p q = pz := by unfold aftP; rw [if_neg hE]
  rw [eP]
  have M1 := hide (fun W (hb : Below w.heap.size w W) => dMay v1 p W (h1.below hb))
  have M2 := hide (fun W (hb : Below w.heap.size w W) => dMay v2 q W (h2.below hb))
  obtain ⟨vo, vu, rfl, ho, hu⟩ := h1.form
  obtain ⟨xo, xu, rfl, go, gu⟩ := h2.form
  obtain ⟨ao, co, rfl, _⟩ := ho.spell
  obtain ⟨au, cu, rfl, _⟩ := hu.spell
  obtain ⟨bo, do_, rfl, _⟩ := go.spell
  obtain ⟨bu, du, rfl, _⟩ := gu.spell
  obtain ⟨k1, k2, k3, hB⟩ := alloc3 w (.cells #[.int .i64 p.inp, .slice ao p.ops.length co, .slice au p.outs.length cu] 25) (.cells #[.int .i64 q.inp, .slice bo q.ops.length do_, .slice bu q.outs.length du] 25) (.cells #[.int .i64 0, .slice none 0 0, .slice none 0 0] 25)
  have B0 : Bx w (((w.alloc (.cells #[.int .i64 p.inp, .slice ao p.ops.length co, .slice au p.outs.length cu] 25)).alloc (.cells #[.int .i64 q.inp, .slice bo q.ops.length do_, .slice bu q.outs.length du] 25)).alloc (.cells #[.int .i64 0, .slice none 0 0, .slice none 0 0] 25)) p q _ _ _ _ _ _ _ := ⟨k1, k2, k3, hB⟩
  clear k1 k2 k3 hB h1 h2 ho hu go gu
  have HE := hide hE
  clear hE
  have HR : Hid (∀ W r, Bx w W p q (.slice ao p.ops.length co) (.slice au p.outs.length cu) (.slice bo q.ops.length do_) (.slice bu q.outs.length du) (.int .i64 0) (.slice none 0 0) (.slice none 0 0) → r = aftE p q → ∀ tmps : Array Value, tmps.getD 4 undef = .pointer (some ⟨w.heap.size + 1 + 1, 0, none⟩) → tmps.getD 5 undef = .int .i64 r → bodyPost Try.prog Try.f25 (fun e w' => ∃ vo vu, e = .returned (.tuple #[.agg #[.int .i64 pz.inp, vo, vu], .int .i64 (aftE p q)]) ∧ w'.ownsRow w.heap.size 68 4 vo pz.ops.length (pz.ops.flatMap opw) ∧ w'.ownsRow w.heap.size 3 1 vu pz.outs.length (pz.outs.flatMap iw) ∧ Below w.heap.size w w') .ret ⟨tmps, []⟩ W) := by
    intro W r hB hr tmps t4 t5
    subst hr
    exact bodyPost_ret (res_ct (a := 4) (b := 5) rfl t4 t5 (load_prog hB.r)) rfl ⟨_, _, rfl, own_nil _ _ _ _, own_nil _ _ _ _, hB.b⟩
  cases hm : mayB p with
  | false =>
    have e1 : aftE p q = 2 := by unfold aftE; rw [if_neg (fun h => by rw [hm] at h; cases h.1)]
    rw [hm] at M1
    clear hm
    go_enter Try.func25, Try.ntmps25
    go_wp2_with (first
      | (go_at_call 20; refine (M1.out _ B0.b).mono ?_; rintro e w1 ⟨rfl, hb1⟩; have B1 := B0.below hb1; obtain ⟨r0, r1, r2⟩ := cell3 B1.r; have rf := fun k => Lib.frozen_of_heap B1.r k))
    exact HR.out _ _ (B1.setr _ _ _) e1.symm _ rfl rfl
  | true =>
    rw [hm] at M1
    cases hm2 : mayB q with
    | false =>
      have e1 : aftE p q = 2 := by unfold aftE; rw [if_neg (fun h => by rw [hm2] at h; cases h.2.1)]
      rw [hm2] at M2
      clear hm hm2
      go_enter Try.func25, Try.ntmps25
      go_wp2_with (first
        | (go_at_call 20; refine (M1.out _ B0.b).mono ?_; clear M1; rintro e w1 ⟨rfl, hb1⟩; have B1 := B0.below hb1; obtain ⟨q0, q1, q2⟩ := cell3 B1.q)
        | (go_at_call 20; refine (M2.out _ B1.b).mono ?_; rintro e w2 ⟨rfl, hb2⟩; have B2 := B1.below hb2; obtain ⟨r0, r1, r2⟩ := cell3 B2.r; have rf := fun k => Lib.frozen_of_heap B2.r k))
      exact HR.out _ _ (B2.setr _ _ _) e1.symm _ rfl rfl
    | true =>
      rw [hm2] at M2
      by_cases hl : (q.outs.length : Int) = p.inp
      · have hs : 256 < p.ops.length + q.ops.length := by
          apply Classical.byContradiction; intro hc
          exact HE.out (by unfold aftE; rw [if_pos ⟨hm, hm2, hl⟩, if_neg hc])
        have e1 : aftE p q = 4 := by unfold aftE; rw [if_pos ⟨hm, hm2, hl⟩, if_pos hs]
        have l1 := (mayB_iff.1 hm).1.2.2.1
        have l2 := (mayB_iff.1 hm2).1.2.2.1
        have g0 : IntKind.i64.wrap ((p.ops.length : Int) + (q.ops.length : Int)) = (p.ops.length : Int) + (q.ops.length : Int) := by rw [IntKind.wrap_i64]; omega
        have g1 : (256 : Int) < (p.ops.length : Int) + (q.ops.length : Int) := by omega
        clear hm hm2
        go_enter Try.func25, Try.ntmps25
        go_wp2_with (first
          | (go_at_call 20; refine (M1.out _ B0.b).mono ?_; clear M1; rintro e w1 ⟨rfl, hb1⟩; have B1 := B0.below hb1; obtain ⟨q0, q1, q2⟩ := cell3 B1.q)
          | (go_at_call 20; refine (M2.out _ B1.b).mono ?_; rintro e w2 ⟨rfl, hb2⟩; have B2 := B1.below hb2; obtain ⟨p0, p1, p2⟩ := cell3 B2.p; obtain ⟨q3, q4, q5⟩ := cell3 B2.q; obtain ⟨r0, r1, r2⟩ := cell3 B2.r; have rf := fun k => Lib.frozen_of_heap B2.r k))
        exact HR.out _ _ (B2.setr _ _ _) e1.symm _ rfl rfl
      · have e1 : aftE p q = 2 := by unfold aftE; rw [if_neg (fun h => hl h.2.2)]
        clear hm hm2
        go_enter Try.func25, Try.ntmps25
        go_wp2_with (first
          | (go_at_call 20; refine (M1.out _ B0.b).mono ?_; clear M1; rintro e w1 ⟨rfl, hb1⟩; have B1 := B0.below hb1; obtain ⟨q0, q1, q2⟩ := cell3 B1.q)
          | (go_at_call 20; refine (M2.out _ B1.b).mono ?_; rintro e w2 ⟨rfl, hb2⟩; have B2 := B1.below hb2; obtain ⟨p0, p1, p2⟩ := cell3 B2.p; obtain ⟨q3, q4, q5⟩ := cell3 B2.q; obtain ⟨r0, r1, r2⟩ := cell3 B2.r; have rf := fun k => Lib.frozen_of_heap B2.r k))
        exact HR.out _ _ (B2.setr _ _ _) e1.symm _ rfl rfl

end Go.Proofs.Ytfbipnhhnmlhfaa

