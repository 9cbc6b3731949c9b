/-
  Layer 9: whether two programs are the same, both.
-/
import Derived.Test.YtfbipnhhnmlhfabBSlwC
namespace Go.Proofs.Ytfbipnhhnmlhfab
open Go.RowKit Fld Slp
set_option linter.unusedVariables false
set_option linter.unusedSimpArgs false

theorem pr_eq {p q : Pr} (h1 : p.inp = q.inp) (h2 : p.ops = q.ops) (h3 : p.outs = q.outs) : p = q := by cases p; cases q; simp_all
theorem is_true {r : Bool} {P : Prop} (h : r = true ↔ P) (hp : P) : r = true := h.2 hp
theorem is_false {r : Bool} {P : Prop} (h : r = true ↔ P) (hp : ¬ P) : r = false := by
  cases r with
  | true => exact absurd (h.1 rfl) hp
  | false => rfl
def IsSame (N : Nat) (v1 v2 : Value) (w : World) (p q : Pr) : Prop :=
  Calls Try.prog N #[v1, v2] w fun e w' => ∃ r : Bool, e = .returned (.bool r) ∧ (r = true ↔ p = q) ∧ Below w.heap.size w w'

set_option maxRecDepth 100000 in
set_option maxHeartbeats 400000 in
theorem dSame (v1 v2 : Value) (p q : Pr) (w : World) (h1 : Pm w v1 p) (h2 : Pm w v2 q) : IsSame 12 v1 v2 w p q := by
  unfold IsSame
  obtain ⟨vo, vu, rfl, ho, hu⟩ := h1.form
  obtain ⟨xo, xu, rfl, go, gu⟩ := h2.form
  obtain ⟨ao, co, rfl, _⟩ := ho.spell
  obtain ⟨au, cu, rfl, _⟩ := hu.spell
  obtain ⟨bo, do_, rfl, _⟩ := go.spell
  obtain ⟨bu, du, rfl, _⟩ := gu.spell
  have b1 := ho.len
  have b2 := go.len
  have HU := hide (fun W (hb : Below w.heap.size w W) => dInts _ _ _ _ W (hu.below hb) (gu.below hb))
  have HB : Hid (Below w.heap.size w ((w.alloc (.cells #[.int .i64 p.inp, .slice ao p.ops.length co, .slice au p.outs.length cu] 25)).alloc (.cells #[.int .i64 q.inp, .slice bo q.ops.length do_, .slice bu q.outs.length du] 25))) := Below.next (alloc_below w _) (alloc_below _ _)
  clear hu gu h1 h2
  by_cases c1 : p.inp = q.inp
  · have hd : (p.inp != q.inp) = false := by rw [c1]; simp
    have HC := hide c1
    clear c1
    by_cases hl : p.ops.length = q.ops.length
    · have HL := hide hl
      obtain ⟨n, HN⟩ : ∃ n, Hid (q.ops.length = n) := ⟨_, rfl⟩
      rw [HN.out] at hl go b2 HB ⊢
      rw [hl] at ho b1 HB ⊢
      clear hl
      go_enter Try.func12, Try.ntmps12
      go_wp2
      have hL := ho.below HB.out
      have hG := go.below HB.out
      have p1 : ((w.alloc (.cells #[.int .i64 p.inp, .slice ao n co, .slice au p.outs.length cu] 25)).alloc (.cells #[.int .i64 q.inp, .slice bo n do_, .slice bu q.outs.length du] 25)).cell? ⟨w.heap.size, 1, none⟩ = some (.slice ao n co) := by simp [go_sem]
      have p2 : ((w.alloc (.cells #[.int .i64 p.inp, .slice ao n co, .slice au p.outs.length cu] 25)).alloc (.cells #[.int .i64 q.inp, .slice bo n do_, .slice bu q.outs.length du] 25)).cell? ⟨w.heap.size, 2, none⟩ = some (.slice au p.outs.length cu) := by simp [go_sem]
      have q1 : ((w.alloc (.cells #[.int .i64 p.inp, .slice ao n co, .slice au p.outs.length cu] 25)).alloc (.cells #[.int .i64 q.inp, .slice bo n do_, .slice bu q.outs.length du] 25)).cell? ⟨w.heap.size + 1, 1, none⟩ = some (.slice bo n do_) := by simp [go_sem]
      have q2 : ((w.alloc (.cells #[.int .i64 p.inp, .slice ao n co, .slice au p.outs.length cu] 25)).alloc (.cells #[.int .i64 q.inp, .slice bo n do_, .slice bu q.outs.length du] 25)).cell? ⟨w.heap.size + 1, 2, none⟩ = some (.slice bu q.outs.length du) := by simp [go_sem]
      have hB0 := HB.out
      generalize ((w.alloc (.cells #[.int .i64 p.inp, .slice ao n co, .slice au p.outs.length cu] 25)).alloc (.cells #[.int .i64 q.inp, .slice bo n do_, .slice bu q.outs.length du] 25)) = w0 at *
      clear HB ho go
      go_loopw [5] (fun vi wr => ∃ j : Nat, j ≤ n ∧ vi = .int .i64 j ∧ Below w0.heap.size w0 wr ∧ (∀ i, i < j → p.ops[i]? = q.ops[i]?)) (fun vi _ => n - (intOf vi).toNat)
      case atStart => exact ⟨0, Nat.zero_le _, rfl, Below.refl _ _, fun i hi => by omega⟩
      case round =>
        obtain ⟨j, hj, rfl, hBr, hall⟩ := hrel
        have r1 := (hBr.cell (cell_in p1)).trans p1
        have r2 := (hBr.cell (cell_in p2)).trans p2
        have s1 := (hBr.cell (cell_in q1)).trans q1
        have s2 := (hBr.cell (cell_in q2)).trans q2
        by_cases hlt : j < n
        · have l1 : j < p.ops.length := by rw [HL.out, HN.out]; exact hlt
          have l2 : j < q.ops.length := by rw [HN.out]; exact hlt
          obtain ⟨x1, o1, c1', hv1, _, _⟩ := hL.form (by omega)
          obtain ⟨x2, o2, c2', hv2, _, _⟩ := hG.form (by omega)
          injection hv1 with e1 e1b e1c
          subst e1
          clear e1b e1c
          injection hv2 with e2 e2b e2c
          subst e2
          clear e2b e2c
          obtain ⟨ca, cb, cc, cd⟩ := hL.op hBr l1
          obtain ⟨da, db, dc, dd⟩ := hG.op hBr l2
          have HA := hide hall
          have HX : Hid (p.ops[j]? = q.ops[j]? ↔ p.ops[j] = q.ops[j]) := by show _ ↔ _; rw [List.getElem?_eq_getElem l1, List.getElem?_eq_getElem l2]; simp
          have hlt2 : (j : Int) < (n : Int) := by omega
          have hge2 : (0 : Int) ≤ (j : Int) := by omega
          clear hall
          have hg := op_guard
          by_cases hm : p.ops[j] = q.ops[j]
          · have HM := hide hm
            have hd := op_same hm
            clear hm
            generalize p.ops[j] = x at *
            generalize q.ops[j] = y at *
            go_wp2_with fail
            go_quiet (fail)
            go_wp2
            go_roundw
            case rel =>
              refine ⟨j + 1, by omega, by go_num, below_drewN hBr _, fun i hi => ?_⟩
              rcases Nat.lt_or_ge i j with h | h
              · exact HA.out i h
              · obtain rfl : i = j := by omega
                exact HX.out.2 HM.out
            case measure => simp [intOf]; omega
          · have HM := hide hm
            have hd := op_other hm
            clear hm
            generalize p.ops[j] = x at *
            generalize q.ops[j] = y at *
            go_wp2_with fail
            go_quiet (fail)
            go_wp2
            go_ret
            refine ⟨false, rfl, ⟨fun h => (by cases h), fun h => absurd (HX.out.1 (by rw [h])) HM.out⟩, hB0.trans ((below_drewN hBr _).mono hB0.size)⟩
        · obtain rfl : j = n := by omega
          have C2 : Hid (p.ops = q.ops) := by
            show _ = _
            apply List.ext_getElem?
            intro i
            rcases Nat.lt_or_ge i j with h | h
            · exact hall i h
            · rw [List.getElem?_eq_none (by rw [HL.out, HN.out]; exact h), List.getElem?_eq_none (by rw [HN.out]; exact h)]
          have hB1 := hB0.trans (hBr.mono hB0.size)
          clear hall
          go_wp2_with (first
            | (go_at_call 36; refine (HU.out _ hB1).mono ?_; rintro e w2 ⟨r2, rfl, hr2, hb2⟩; have HR := hide hr2; clear hr2))
          go_ret
          exact ⟨r2, rfl, ⟨fun h => pr_eq HC.out C2.out (HR.out.1 h), fun h => HR.out.2 (by rw [h])⟩, Below.next hB1 hb2⟩
    · have HL := hide hl
      have hd2 : (((p.ops.length : Nat) : Int) != ((q.ops.length : Nat) : Int)) = true := bne_iff_ne.2 (by omega)
      clear hl ho go
      go_enter Try.func12, Try.ntmps12
      go_wp2
      go_ret
      exact ⟨false, rfl, ⟨fun h => (by cases h), fun h => absurd (by rw [h]) HL.out⟩, HB.out⟩
  · have hd : (p.inp != q.inp) = true := bne_iff_ne.2 c1
    have HC := hide c1
    clear c1
    go_enter Try.func12, Try.ntmps12
    go_wp2
    go_ret
    exact ⟨false, rfl, ⟨fun h => (by cases h), fun h => absurd (by rw [h]) HC.out⟩, HB.out⟩

end Go.Proofs.Ytfbipnhhnmlhfab
