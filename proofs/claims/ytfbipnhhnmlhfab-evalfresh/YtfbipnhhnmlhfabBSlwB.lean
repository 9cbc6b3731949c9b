/-
  Layer 9: whether a step, a program may be: the document's; whether two programs are the same, both.
-/
import Derived.Test.YtfbipnhhnmlhfabBunM
import Derived.Deep.RegionHeld3
import Derived.Laws.StructEq
namespace Go.Proofs.Ytfbipnhhnmlhfab
open Go.RowKit Fld Slp
set_option linter.unusedVariables false
set_option linter.unusedSimpArgs false

theorem below_drewN {B : Nat} {a w : World} (h : Below B a w) (n : Nat) : Below B a (w.drewN n) := h.trans ⟨rfl, rfl, rfl, Nat.le_refl _, fun _ _ => rfl⟩

set_option maxHeartbeats 200000 in
theorem dOp (o : O4) (own : Int) (w : World) : Calls Try.prog 45 #[opv o, .int .i64 own] w fun e w' => e = .returned (.bool (opM o own)) ∧ Below w.heap.size w w' := by
  obtain ⟨k, a, b, c⟩ := o
  unfold opv
  go_enter Try.func45, Try.ntmps45
  go_wp2
  all_goals
    go_ret
    refine ⟨?_, alloc_below _ _⟩
    simp_all [opM]
    try first | rfl | (intros; omega)

set_option maxRecDepth 100000 in
set_option maxHeartbeats 400000 in
theorem dMay (v : Value) (p : Pr) (w : World) (h : Pm w v p) : Calls Try.prog 26 #[v] w fun e w' => e = .returned (.bool (mayB p)) ∧ Below w.heap.size w w' := by
  obtain ⟨vo, vu, rfl, h1, h2⟩ := h.form
  have HK := hide h
  by_cases hc : 0 ≤ p.inp ∧ p.inp ≤ 64 ∧ p.ops.length ≤ 256 ∧ p.outs.length ≤ 64
  · obtain ⟨c1, c2, c3, c4⟩ := hc
    obtain ⟨ao, co, rfl, ho⟩ := h1.spell
    obtain ⟨au, cu, rfl, hu⟩ := h2.spell
    go_enter Try.func26, Try.ntmps26
    go_wp2
    have hB0 := alloc_below w (.cells #[.int .i64 p.inp, .slice ao p.ops.length co, .slice au p.outs.length cu] 25)
    have hL0 := (Lm.below h1 hB0)
    have hU0 := (Lm.below h2 hB0)
    have p0 : (w.alloc (.cells #[.int .i64 p.inp, .slice ao p.ops.length co, .slice au p.outs.length cu] 25)).cell? ⟨w.heap.size, 0, none⟩ = some (.int .i64 p.inp) := by simp [go_sem]
    have p1 : (w.alloc (.cells #[.int .i64 p.inp, .slice ao p.ops.length co, .slice au p.outs.length cu] 25)).cell? ⟨w.heap.size, 1, none⟩ = some (.slice ao p.ops.length co) := by simp [go_sem]
    have p2 : (w.alloc (.cells #[.int .i64 p.inp, .slice ao p.ops.length co, .slice au p.outs.length cu] 25)).cell? ⟨w.heap.size, 2, none⟩ = some (.slice au p.outs.length cu) := by simp [go_sem]
    have hs0 : w.heap.size + 1 = (w.alloc (.cells #[.int .i64 p.inp, .slice ao p.ops.length co, .slice au p.outs.length cu] 25)).heap.size := by simp
    generalize (w.alloc (.cells #[.int .i64 p.inp, .slice ao p.ops.length co, .slice au p.outs.length cu] 25)) = w0 at *
    clear h1 h2 h
    go_loopw [3] (fun vi wr => ∃ j : Nat, j ≤ p.ops.length ∧ vi = .int .i64 j ∧ Below w0.heap.size w0 wr ∧ (∀ i (hi : i < p.ops.length), i < j → opM p.ops[i] (p.inp + ((0 + i : Nat) : Int)) = true)) (fun vi _ => p.ops.length - (intOf vi).toNat)
    case atStart => exact ⟨0, Nat.zero_le _, rfl, Below.refl _ _, fun i _ hi => by omega⟩
    case round =>
      obtain ⟨j, hj, rfl, hBr, hall⟩ := hrel
      have q0 := (hBr.cell (p := ⟨w.heap.size, 0, none⟩) (by rw [← hs0]; exact Nat.lt_succ_self _)).trans p0
      have q1 := (hBr.cell (p := ⟨w.heap.size, 1, none⟩) (by rw [← hs0]; exact Nat.lt_succ_self _)).trans p1
      have q2 := (hBr.cell (p := ⟨w.heap.size, 2, none⟩) (by rw [← hs0]; exact Nat.lt_succ_self _)).trans p2
      by_cases hlt : j < p.ops.length
      · obtain ⟨b, off, co', hv, _, hbl⟩ := hL0.form (by omega)
        cases hv
        obtain ⟨ca, cb, cc, cd⟩ := hL0.op hBr hlt
        have HS : Hid (∀ W', Below wr.heap.size wr W' → W'.cell? ⟨w.heap.size, 1, none⟩ = some (.slice (some ⟨b, off, none⟩) p.ops.length co) ∧ W'.cell? ⟨w.heap.size, 0, none⟩ = some (.int .i64 p.inp) ∧ W'.cell? ⟨b, off + j * 4, none⟩ = some (.int .u8 p.ops[j].k) ∧ W'.cell? ⟨b, off + j * 4 + 1, none⟩ = some (.int .i64 p.ops[j].a) ∧ W'.cell? ⟨b, off + j * 4 + 2, none⟩ = some (.int .i64 p.ops[j].b) ∧ W'.cell? ⟨b, off + j * 4 + 3, none⟩ = some (.int .u64 p.ops[j].c)) := fun W' hb => ⟨(hb.cell (cell_in q1)).trans q1, (hb.cell (cell_in q0)).trans q0, (hb.cell (cell_in ca)).trans ca, (hb.cell (cell_in cb)).trans cb, (hb.cell (cell_in cc)).trans cc, (hb.cell (cell_in cd)).trans cd⟩
        have hS0 := HS.out wr.drew (Below.refl _ wr).drew
        have HA := hide hall
        have hwr : w0.heap.size ≤ wr.heap.size := hBr.size
        have hlt2 : (j : Int) < (p.ops.length : Int) := by omega
        have hge2 : (0 : Int) ≤ (j : Int) := by omega
        clear hall
        have HW : Hid (IntKind.i64.wrap (p.inp + (j : Int)) = p.inp + (j : Int)) := by show _ = _; rw [IntKind.wrap_i64]; omega
        cases hm : opM p.ops[j] (p.inp + (j : Int)) with
        | true =>
          have HM : Hid (opM p.ops[j] (IntKind.i64.wrap (p.inp + (j : Int))) = true) := by show _ = _; rw [HW.out]; exact hm
          clear hm
          go_wp2
          go_region_held3 (fun W' => W'.cell? ⟨w.heap.size, 1, none⟩ = some (.slice (some ⟨b, off, none⟩) p.ops.length co) ∧ W'.cell? ⟨w.heap.size, 0, none⟩ = some (.int .i64 p.inp) ∧ W'.cell? ⟨b, off + j * 4, none⟩ = some (.int .u8 p.ops[j].k) ∧ W'.cell? ⟨b, off + j * 4 + 1, none⟩ = some (.int .i64 p.ops[j].a) ∧ W'.cell? ⟨b, off + j * 4 + 2, none⟩ = some (.int .i64 p.ops[j].b) ∧ W'.cell? ⟨b, off + j * 4 + 3, none⟩ = some (.int .u64 p.ops[j].c)) (first | with_reducible exact hS1 | with_reducible exact hS0) (first
            | (go_at_call 45; refine (dOp p.ops[j] _ _).mono ?_; rintro e w1 ⟨rfl, hb1⟩; rw [HM.out]; have hS1 := HS.out w1 ((Below.refl _ wr).drew.trans hb1)))
          go_wp2
          go_roundw
          case rel =>
            refine ⟨j + 1, by omega, by go_num, hBr.trans ((((Below.refl _ wr).drew).trans hb1).mono hwr), fun i hi hlt' => ?_⟩
            rcases Nat.lt_or_ge i j with h | h
            · exact HA.out i hi h
            · obtain rfl : i = j := by omega
              rw [Nat.zero_add, ← HW.out]; exact HM.out
          case measure => simp [intOf]; omega
        | false =>
          have HM : Hid (opM p.ops[j] (IntKind.i64.wrap (p.inp + (j : Int))) = false) := by show _ = _; rw [HW.out]; exact hm
          clear hm
          go_wp2
          go_region_held3 (fun W' => W'.cell? ⟨w.heap.size, 1, none⟩ = some (.slice (some ⟨b, off, none⟩) p.ops.length co) ∧ W'.cell? ⟨w.heap.size, 0, none⟩ = some (.int .i64 p.inp) ∧ W'.cell? ⟨b, off + j * 4, none⟩ = some (.int .u8 p.ops[j].k) ∧ W'.cell? ⟨b, off + j * 4 + 1, none⟩ = some (.int .i64 p.ops[j].a) ∧ W'.cell? ⟨b, off + j * 4 + 2, none⟩ = some (.int .i64 p.ops[j].b) ∧ W'.cell? ⟨b, off + j * 4 + 3, none⟩ = some (.int .u64 p.ops[j].c)) (first | with_reducible exact hS1 | with_reducible exact hS0) (first
            | (go_at_call 45; refine (dOp p.ops[j] _ _).mono ?_; rintro e w1 ⟨rfl, hb1⟩; rw [HM.out]; have hS1 := HS.out w1 ((Below.refl _ wr).drew.trans hb1)))
          go_wp2
          go_ret
          refine ⟨?_, hB0.trans ((hBr.trans ((((Below.refl _ wr).drew).trans hb1).mono hwr)).mono (by omega))⟩
          rw [mayB_ops (opsM_no p.ops 0 j hlt (by rw [Nat.zero_add, ← HW.out]; exact HM.out))]; rfl
      · obtain rfl : j = p.ops.length := by omega
        have HA : Hid (opsM p.inp 0 p.ops = true) := opsM_all p.ops 0 (fun i hi => hall i hi hi)
        clear hall hlt
        go_wp2
        go_loopw [4] (fun vi w2 => ∃ j : Nat, j ≤ p.outs.length ∧ vi = .int .i64 j ∧ Below w0.heap.size w0 w2 ∧ (∀ i (hi : i < p.outs.length), i < j → 0 ≤ p.outs[i] ∧ p.outs[i] < p.inp + p.ops.length)) (fun vi _ => p.outs.length - (intOf vi).toNat)
        case atStart => exact ⟨0, Nat.zero_le _, rfl, hBr, fun i _ hi => by omega⟩
        case round =>
          clear q0 q1 q2 hBr
          obtain ⟨j, hj, rfl, hBr, hall⟩ := hrel
          have q0 := (hBr.cell (p := ⟨w.heap.size, 0, none⟩) (by rw [← hs0]; exact Nat.lt_succ_self _)).trans p0
          have q1 := (hBr.cell (p := ⟨w.heap.size, 1, none⟩) (by rw [← hs0]; exact Nat.lt_succ_self _)).trans p1
          have q2 := (hBr.cell (p := ⟨w.heap.size, 2, none⟩) (by rw [← hs0]; exact Nat.lt_succ_self _)).trans p2
          by_cases hlt : j < p.outs.length
          · obtain ⟨b, off, cu', hv, _, hbl⟩ := hU0.form (by omega)
            cases hv
            have ca := hU0.int hBr hlt
            have HB := hide hall
            clear hall
            have hlt2 : (j : Int) < (p.outs.length : Int) := by omega
            have hge2 : (0 : Int) ≤ (j : Int) := by omega
            by_cases h1 : p.outs[j] < 0
            · have hd1 : decide (p.outs[j] < 0) = true := decide_eq_true h1
              go_wp2_with fail
              go_quiet (fail)
              go_wp2
              go_ret
              refine ⟨?_, hB0.trans ((hBr.trans (below_drewN (Below.refl _ _) _)).mono (by omega))⟩
              rw [mayB_outs (outM_no hlt (fun hc => by omega))]; rfl
            · have hd1 : decide (p.outs[j] < 0) = false := decide_eq_false h1
              have hw : IntKind.i64.wrap (p.inp + (p.ops.length : Int)) = p.inp + (p.ops.length : Int) := by rw [IntKind.wrap_i64]; omega
              by_cases h2 : p.inp + (p.ops.length : Int) ≤ p.outs[j]
              · go_wp2_with fail
                go_quiet (fail)
                go_wp2
                go_ret
                refine ⟨?_, hB0.trans ((hBr.trans (below_drewN (Below.refl _ _) _)).mono (by omega))⟩
                rw [mayB_outs (outM_no hlt (fun hc => by omega))]; rfl
              · go_wp2_with fail
                go_quiet (fail)
                go_wp2
                go_roundw
                case rel =>
                  refine ⟨j + 1, by omega, by go_num, hBr.trans (below_drewN (Below.refl _ _) _), fun i hi hlt' => ?_⟩
                  rcases Nat.lt_or_ge i j with h | h
                  · exact HB.out i hi h
                  · obtain rfl : i = j := by omega
                    omega
                case measure => simp [intOf]; omega
          · obtain rfl : j = p.outs.length := by omega
            go_wp2
            go_ret
            refine ⟨?_, hB0.trans (hBr.mono (by omega))⟩
            rw [mayB_iff.2 ⟨⟨c1, c2, c3, c4⟩, HA.out, outM_all (fun i hi => hall i hi hi)⟩]; rfl
  · rw [mayB_no hc]
    obtain ⟨ao, co, rfl, ho⟩ := h1.spell
    obtain ⟨au, cu, rfl, hu⟩ := h2.spell
    clear h1 h2 HK h
    obtain ⟨inp, ops, outs⟩ := p
    dsimp only at *
    generalize ops.length = no at *
    generalize outs.length = nu at *
    by_cases c1 : inp < 0
    · go_enter Try.func26, Try.ntmps26
      go_wp2
      go_ret
      exact ⟨rfl, alloc_below _ _⟩
    by_cases c2 : 64 < inp
    · go_enter Try.func26, Try.ntmps26
      go_wp2
      go_ret
      exact ⟨rfl, alloc_below _ _⟩
    by_cases c3 : 256 < (no : Int)
    · go_enter Try.func26, Try.ntmps26
      go_wp2
      go_ret
      exact ⟨rfl, alloc_below _ _⟩
    have c4 : 64 < (nu : Int) := by omega
    clear hc
    go_enter Try.func26, Try.ntmps26
    go_wp2
    go_ret
    exact ⟨rfl, alloc_below _ _⟩

end Go.Proofs.Ytfbipnhhnmlhfab
