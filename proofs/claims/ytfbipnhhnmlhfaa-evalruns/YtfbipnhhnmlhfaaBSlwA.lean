/-
  Layer 9: programs in memory; whether a step, a program may be: the program's calls.
-/
import Derived.Test.YtfbipnhhnmlhfaaBLmA
import Derived.Test.YtfbipnhhnmlhfaaBunS
import Derived.BigQuiet
namespace Go.Proofs.Ytfbipnhhnmlhfaa
open Go.RowKit Fld Slp
set_option linter.unusedVariables false
set_option linter.unusedSimpArgs false

/-- A step as it lies in memory. -/
def opw (o : O4) : List Value := [.int .u8 o.k, .int .i64 o.a, .int .i64 o.b, .int .u64 o.c]
theorem opw_len (o : O4) : (opw o).length = 4 := rfl
/-- A step's numbers are of their kinds. -/
def Ok4 (o : O4) : Prop := (0 ≤ o.k ∧ o.k ≤ 255) ∧ (-9223372036854775808 ≤ o.a ∧ o.a ≤ 9223372036854775807) ∧ (-9223372036854775808 ≤ o.b ∧ o.b ≤ 9223372036854775807) ∧ (0 ≤ o.c ∧ o.c ≤ 18446744073709551615)
def opv (o : O4) : Value := .agg #[.int .u8 o.k, .int .i64 o.a, .int .i64 o.b, .int .u64 o.c]

set_option maxHeartbeats 200000 in
theorem sIsValue (v n : Int) (w : World) : Calls Try.prog 61 #[.int .i64 v, .int .i64 n] w fun e w' => e = .returned (.bool (decide (0 ≤ v ∧ v < n))) ∧ w' = w := by
  by_cases h1 : 0 ≤ v <;> by_cases h2 : v < n
  all_goals
    go_enter Try.func61, Try.ntmps61
    go_wp2
    go_ret
    simp [h1, h2]

set_option maxHeartbeats 200000 in
theorem sMayBeStep (o : O4) (own : Int) (w : World) : Calls Try.prog 60 #[opv o, .int .i64 own] w fun e w' => e = .returned (.bool (opM o own)) ∧ Below w.heap.size w w' := by
  obtain ⟨k, a, b, c⟩ := o
  unfold opv
  go_enter Try.func60, Try.ntmps60
  go_wp2_with (first
    | (go_at_call 61; refine (sIsValue _ _ _).mono ?_; rintro e w1 ⟨rfl, rfl⟩))
  all_goals
    go_ret
    refine ⟨?_, alloc_below _ _⟩
    simp_all [opM]
    try first | rfl | (intros; omega)

/-- A program in memory, for reading. -/
structure Pm (w : World) (v : Value) (p : Pr) : Prop where
  form : ∃ vo vu, v = .agg #[.int .i64 p.inp, vo, vu] ∧ Lm opw 4 w vo p.ops ∧ Lm iw 1 w vu p.outs
  inb : -9223372036854775808 ≤ p.inp ∧ p.inp ≤ 9223372036854775807
  okb : ∀ o ∈ p.ops, Ok4 o
  oub : Iw p.outs
theorem Pm.below {w w' : World} {v : Value} {p : Pr} (h : Pm w v p) (hb : Below w.heap.size w w') : Pm w' v p := by
  obtain ⟨vo, vu, rfl, h1, h2⟩ := h.form
  exact ⟨⟨vo, vu, rfl, h1.below hb, h2.below hb⟩, h.inb, h.okb, h.oub⟩
/-- A step's cells, and a number's, as the walk spells them. -/
theorem Lm.op {w wr : World} {b off n cap j : Nat} {os : List O4} (h : Lm opw 4 w (.slice (some ⟨b, off, none⟩) n cap) os) (hb : Below w.heap.size w wr) (hj : j < os.length) :
    wr.cell? ⟨b, off + j * 4, none⟩ = some (.int .u8 os[j].k) ∧ wr.cell? ⟨b, off + j * 4 + 1, none⟩ = some (.int .i64 os[j].a) ∧ wr.cell? ⟨b, off + j * 4 + 2, none⟩ = some (.int .i64 os[j].b) ∧ wr.cell? ⟨b, off + j * 4 + 3, none⟩ = some (.int .u64 os[j].c) := by
  have hx : os[j]? = some os[j] := List.getElem?_eq_getElem hj
  have key : ∀ i u, (opw os[j])[i]? = some u → wr.cell? ⟨b, off + (j * 4 + i), none⟩ = some u := fun i u hu => by
    obtain ⟨hbl, hc⟩ := h.at_ hx hu
    exact (hb.cell (p := ⟨b, off + (j * 4 + i), none⟩) hbl).trans hc
  exact ⟨key 0 _ rfl, key 1 _ rfl, key 2 _ rfl, key 3 _ rfl⟩
theorem Lm.int {w wr : World} {b off n cap j : Nat} {xs : List Int} (h : Lm iw 1 w (.slice (some ⟨b, off, none⟩) n cap) xs) (hb : Below w.heap.size w wr) (hj : j < xs.length) : wr.cell? ⟨b, off + j, none⟩ = some (.int .i64 xs[j]) := by
  have hx : xs[j]? = some xs[j] := List.getElem?_eq_getElem hj
  obtain ⟨hbl, hc⟩ := h.at_ hx (j := 0) (u := .int .i64 xs[j]) rfl
  have := (hb.cell (p := ⟨b, off + (j * 1 + 0), none⟩) hbl).trans hc
  rwa [Nat.mul_one, Nat.add_zero] at this
/-- A program laid out as the value of a parameter. -/
def pmv (p : Pr) (ao au : Option Addr) (co cu : Nat) : Array Value := #[.int .i64 p.inp, .slice ao p.ops.length co, .slice au p.outs.length cu]
theorem opsM_no {inp : Int} : ∀ (os : List O4) (i j : Nat) (hj : j < os.length), opM os[j] (inp + ((i + j : Nat) : Int)) = false → opsM inp i os = false
  | [], i, j, hj, _ => by simp at hj
  | o :: os, i, j, hj, h => by
    show (opM o (inp + i) && opsM inp (i + 1) os) = false
    cases j with
    | zero => have h' : opM o (inp + ((i + 0 : Nat) : Int)) = false := h; rw [Nat.add_zero] at h'; rw [h']; rfl
    | succ j =>
      rw [opsM_no os (i + 1) j (by simpa using hj) (by rw [show i + 1 + j = i + (j + 1) by omega]; exact h)]; simp
theorem opsM_all {inp : Int} : ∀ (os : List O4) (i : Nat), (∀ j (hj : j < os.length), opM os[j] (inp + ((i + j : Nat) : Int)) = true) → opsM inp i os = true
  | [], i, _ => rfl
  | o :: os, i, h => by
    show (opM o (inp + i) && opsM inp (i + 1) os) = true
    rw [Bool.and_eq_true]
    refine ⟨by have := h 0 (by simp); simpa using this, opsM_all os (i + 1) (fun j hj => ?_)⟩
    have := h (j + 1) (by simpa using hj)
    rw [show i + 1 + j = i + (j + 1) by omega]; exact this
theorem mayB_no {p : Pr} (h : ¬ (0 ≤ p.inp ∧ p.inp ≤ 64 ∧ p.ops.length ≤ 256 ∧ p.outs.length ≤ 64)) : mayB p = false := by
  unfold mayB; rw [decide_eq_false h]; rfl
theorem mayB_ops {p : Pr} (h : opsM p.inp 0 p.ops = false) : mayB p = false := by unfold mayB; rw [h]; simp
theorem mayB_outs {p : Pr} (h : outM p.inp p.ops.length p.outs = false) : mayB p = false := by unfold mayB; rw [h]; simp
theorem outM_no {inp : Int} {n : Nat} {outs : List Int} {j : Nat} (hj : j < outs.length) (h : ¬ (0 ≤ outs[j] ∧ outs[j] < inp + n)) : outM inp n outs = false := by
  cases hc : outM inp n outs with
  | false => rfl
  | true => exact absurd (of_decide_eq_true (List.all_eq_true.1 hc _ (List.getElem_mem hj))) h
theorem outM_all {inp : Int} {n : Nat} {outs : List Int} (h : ∀ j (hj : j < outs.length), 0 ≤ outs[j] ∧ outs[j] < inp + n) : outM inp n outs = true := by
  unfold outM
  rw [List.all_eq_true]
  intro v hv
  obtain ⟨j, hj, rfl⟩ := List.mem_iff_getElem.1 hv
  exact decide_eq_true (h j hj)

set_option maxRecDepth 100000 in
set_option maxHeartbeats 400000 in
theorem sMay (v : Value) (p : Pr) (w : World) (h : Pm w v p) : Calls Try.prog 51 #[v] w fun e w' => e = .returned (.bool (mayB p)) ∧ Below w.heap.size w w' := by
  obtain ⟨vo, vu, rfl, h1, h2⟩ := h.form
  have HK := hide h
  by_cases hc : 0 ≤ p.inp ∧ p.inp ≤ 64 ∧ p.ops.length ≤ 256 ∧ p.outs.length ≤ 64
  · obtain ⟨c1, c2, c3, c4⟩ := hc
    obtain ⟨ao, co, rfl, ho⟩ := h1.spell
    obtain ⟨au, cu, rfl, hu⟩ := h2.spell
    go_enter Try.func51, Try.ntmps51
    go_wp2
    have hB0 := alloc_below w (.cells #[.int .i64 p.inp, .slice ao p.ops.length co, .slice au p.outs.length cu] 25)
    have hL0 := (Lm.below h1 hB0)
    have hU0 := (Lm.below h2 hB0)
    have p0 : (w.alloc (.cells #[.int .i64 p.inp, .slice ao p.ops.length co, .slice au p.outs.length cu] 25)).cell? ⟨w.heap.size, 0, none⟩ = some (.int .i64 p.inp) := by simp [go_sem]
    have p1 : (w.alloc (.cells #[.int .i64 p.inp, .slice ao p.ops.length co, .slice au p.outs.length cu] 25)).cell? ⟨w.heap.size, 1, none⟩ = some (.slice ao p.ops.length co) := by simp [go_sem]
    have p2 : (w.alloc (.cells #[.int .i64 p.inp, .slice ao p.ops.length co, .slice au p.outs.length cu] 25)).cell? ⟨w.heap.size, 2, none⟩ = some (.slice au p.outs.length cu) := by simp [go_sem]
    have hs0 : w.heap.size + 1 = (w.alloc (.cells #[.int .i64 p.inp, .slice ao p.ops.length co, .slice au p.outs.length cu] 25)).heap.size := by simp
    generalize (w.alloc (.cells #[.int .i64 p.inp, .slice ao p.ops.length co, .slice au p.outs.length cu] 25)) = w0 at *
    clear h1 h2 h
    go_loopw [30] (fun vi wr => ∃ j : Nat, j ≤ p.ops.length ∧ vi = .int .i64 j ∧ Below w0.heap.size w0 wr ∧ (∀ i (hi : i < p.ops.length), i < j → opM p.ops[i] (p.inp + ((0 + i : Nat) : Int)) = true)) (fun vi _ => p.ops.length - (intOf vi).toNat)
    case atStart => exact ⟨0, Nat.zero_le _, rfl, Below.refl _ _, fun i _ hi => by omega⟩
    case round =>
      obtain ⟨j, hj, rfl, hBr, hall⟩ := hrel
      by_cases hlt : j < p.ops.length
      · obtain ⟨b, off, co', hv, _, hbl⟩ := hL0.form (by omega)
        cases hv
        obtain ⟨ca, cb, cc, cd⟩ := hL0.op hBr hlt
        have q0 := (hBr.cell (p := ⟨w.heap.size, 0, none⟩) (by rw [← hs0]; exact Nat.lt_succ_self _)).trans p0
        have q1 : ∀ o : Obj, (wr.alloc o).cell? ⟨w.heap.size, 0, none⟩ = some (.int .i64 p.inp) := fun o => ((alloc_below wr o).cell (p := ⟨w.heap.size, 0, none⟩) (cell_in q0)).trans q0
        have HA := hide hall
        have hwr : w0.heap.size ≤ wr.heap.size := hBr.size
        clear hall
        cases hm : opM p.ops[j] (p.inp + (j : Int)) with
        | true =>
          have HM := hide hm
          clear hm
          go_wp2_with (first
            | (go_at_call 60; refine (sMayBeStep p.ops[j] _ _).mono ?_; rintro e w1 ⟨rfl, hb1⟩; rw [HM.out]))
          go_roundw
          case rel =>
            refine ⟨j + 1, by omega, by go_num, hBr.trans (((alloc_below wr _).trans (hb1.mono (by simp))).mono hwr), fun i hi hlt' => ?_⟩
            rcases Nat.lt_or_ge i j with h | h
            · exact HA.out i hi h
            · obtain rfl : i = j := by omega
              rw [Nat.zero_add]; exact HM.out
          case measure => simp [intOf]; omega
        | false =>
          have HM := hide hm
          clear hm
          go_wp2_with (first
            | (go_at_call 60; refine (sMayBeStep p.ops[j] _ _).mono ?_; rintro e w1 ⟨rfl, hb1⟩; rw [HM.out]))
          go_ret
          refine ⟨?_, hB0.trans ((hBr.trans (((alloc_below wr _).trans (hb1.mono (by simp))).mono hwr)).mono (by omega))⟩
          rw [mayB_ops (opsM_no p.ops 0 j hlt (by rw [Nat.zero_add]; exact HM.out))]; rfl
      · obtain rfl : j = p.ops.length := by omega
        have HA : Hid (opsM p.inp 0 p.ops = true) := opsM_all p.ops 0 (fun i hi => hall i hi hi)
        clear hall hlt
        have q1 := (hBr.cell (p := ⟨w.heap.size, 1, none⟩) (by rw [← hs0]; exact Nat.lt_succ_self _)).trans p1
        have q2 := (hBr.cell (p := ⟨w.heap.size, 2, none⟩) (by rw [← hs0]; exact Nat.lt_succ_self _)).trans p2
        have q0 := (hBr.cell (p := ⟨w.heap.size, 0, none⟩) (by rw [← hs0]; exact Nat.lt_succ_self _)).trans p0
        go_wp2
        go_loop [46] (fun vi => ∃ j : Nat, j ≤ p.outs.length ∧ vi = .int .i64 j ∧ (∀ i (hi : i < p.outs.length), i < j → 0 ≤ p.outs[i] ∧ p.outs[i] < p.inp + p.ops.length)) (fun vi => p.outs.length - (intOf vi).toNat)
        case atStart => exact ⟨0, Nat.zero_le _, rfl, fun i _ hi => by omega⟩
        case round =>
          obtain ⟨j, hj, rfl, hall⟩ := hrel
          by_cases hlt : j < p.outs.length
          · obtain ⟨b, off, cu', hv, _, hbl⟩ := hU0.form (by omega)
            cases hv
            have ca := hU0.int hBr hlt
            have HB := hide hall
            clear hall
            by_cases hm : 0 ≤ p.outs[j] ∧ p.outs[j] < p.inp + p.ops.length
            · have HM := hide hm
              have HD : Hid (decide (0 ≤ p.outs[j] ∧ p.outs[j] < p.inp + p.ops.length) = true) := decide_eq_true hm
              clear hm
              go_wp2_with (first
                | (go_at_call 61; refine (sIsValue _ _ _).mono ?_; rintro e w1 ⟨rfl, rfl⟩; rw [HD.out]))
              go_round
              case rel =>
                refine ⟨j + 1, by omega, by go_num, fun i hi hlt' => ?_⟩
                rcases Nat.lt_or_ge i j with h | h
                · exact HB.out i hi h
                · obtain rfl : i = j := by omega
                  exact HM.out
              case measure => simp [intOf]; omega
            · have HM := hide hm
              have HD : Hid (decide (0 ≤ p.outs[j] ∧ p.outs[j] < p.inp + p.ops.length) = false) := decide_eq_false hm
              clear hm
              go_wp2_with (first
                | (go_at_call 61; refine (sIsValue _ _ _).mono ?_; rintro e w1 ⟨rfl, rfl⟩; rw [HD.out]))
              go_ret
              refine ⟨?_, hB0.trans (hBr.mono (by omega))⟩
              rw [mayB_outs (outM_no hlt HM.out)]; rfl
          · obtain rfl : j = p.outs.length := by omega
            go_wp2
            go_ret
            refine ⟨?_, hB0.trans (hBr.mono (by omega))⟩
            rw [mayB_iff.2 ⟨⟨c1, c2, c3, c4⟩, HA.out, outM_all (fun i hi => hall i hi hi)⟩]; rfl
  · rw [mayB_no hc]
    obtain ⟨ao, co, rfl, ho⟩ := h1.spell
    obtain ⟨au, cu, rfl, hu⟩ := h2.spell
    clear h1 h2 HK h
    obtain ⟨inp, ops, outs⟩ := p
    dsimp only at *
    generalize ops.length = no at *
    generalize outs.length = nu at *
    by_cases c1 : inp < 0
    · go_enter Try.func51, Try.ntmps51
      go_wp2
      go_ret
      exact ⟨rfl, alloc_below _ _⟩
    by_cases c2 : 64 < inp
    · go_enter Try.func51, Try.ntmps51
      go_wp2
      go_ret
      exact ⟨rfl, alloc_below _ _⟩
    by_cases c3 : 256 < (no : Int)
    · go_enter Try.func51, Try.ntmps51
      go_wp2
      go_ret
      exact ⟨rfl, alloc_below _ _⟩
    have c4 : 64 < (nu : Int) := by omega
    clear hc
    go_enter Try.func51, Try.ntmps51
    go_wp2
    go_ret
    exact ⟨rfl, alloc_below _ _⟩

end Go.Proofs.Ytfbipnhhnmlhfaa
