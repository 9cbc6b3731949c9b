/-
  Layer 9: whether two lists, two programs are the same, both.
-/
import Derived.Test.YtfbipnhhnmlhfabBSlwB
namespace Go.Proofs.Ytfbipnhhnmlhfab
open Go.RowKit Fld Slp
set_option linter.unusedVariables false
set_option linter.unusedSimpArgs false

set_option maxRecDepth 100000 in
set_option maxHeartbeats 400000 in
theorem dInts (v1 v2 : Value) (xs ys : List Int) (w : World) (h1 : Lm iw 1 w v1 xs) (h2 : Lm iw 1 w v2 ys) : Calls Try.prog 36 #[v1, v2] w fun e w' => ∃ r : Bool, e = .returned (.bool r) ∧ (r = true ↔ xs = ys) ∧ Below w.heap.size w w' := by
  obtain ⟨a1, c1, rfl, hc1⟩ := h1.spell
  obtain ⟨a2, c2, rfl, hc2⟩ := h2.spell
  have b1 := h1.len
  have b2 := h2.len
  by_cases hl : xs.length = ys.length
  · have HL := hide hl
    obtain ⟨n, HN⟩ : ∃ n, Hid (ys.length = n) := ⟨_, rfl⟩
    rw [HN.out] at hl h2 b2 hc2 ⊢
    rw [hl] at h1 b1 hc1 ⊢
    clear hl
    go_enter Try.func36, Try.ntmps36
    go_wp2
    go_loopw [5] (fun vi wr => ∃ j : Nat, j ≤ n ∧ vi = .int .i64 j ∧ Below w.heap.size w wr ∧ (∀ i, i < j → xs[i]? = ys[i]?)) (fun vi _ => n - (intOf vi).toNat)
    case atStart => exact ⟨0, Nat.zero_le _, rfl, Below.refl _ _, fun i hi => by omega⟩
    case round =>
      obtain ⟨j, hj, rfl, hBr, hall⟩ := hrel
      by_cases hlt : j < n
      · have l1 : j < xs.length := by rw [HL.out, HN.out]; exact hlt
        have l2 : j < ys.length := by rw [HN.out]; exact hlt
        obtain ⟨x1, o1, c1', hv1, _, _⟩ := h1.form (by omega)
        obtain ⟨x2, o2, c2', hv2, _, _⟩ := h2.form (by omega)
        injection hv1 with e1 e1b e1c
        subst e1
        clear e1b e1c
        injection hv2 with e2 e2b e2c
        subst e2
        clear e2b e2c
        have ca := h1.int hBr l1
        have cb := h2.int hBr l2
        have HA := hide hall
        have HX : Hid (xs[j]? = ys[j]? ↔ xs[j] = ys[j]) := by show _ ↔ _; rw [List.getElem?_eq_getElem l1, List.getElem?_eq_getElem l2]; simp
        have hlt2 : (j : Int) < (n : Int) := by omega
        have hge2 : (0 : Int) ≤ (j : Int) := by omega
        clear hall
        by_cases hm : xs[j] = ys[j]
        · have HM := hide hm
          have hd : (xs[j] != ys[j]) = false := by rw [hm]; simp
          clear hm
          generalize xs[j] = x at *
          generalize ys[j] = y at *
          go_wp2
          go_quiet (fail)
          go_wp2
          go_roundw
          case rel =>
            refine ⟨j + 1, by omega, by go_num, below_drewN hBr _, fun i hi => ?_⟩
            rcases Nat.lt_or_ge i j with h | h
            · exact HA.out i h
            · obtain rfl : i = j := by omega
              exact HX.out.2 HM.out
          case measure => simp [intOf]; omega
        · have HM := hide hm
          have hd : (xs[j] != ys[j]) = true := bne_iff_ne.2 hm
          clear hm
          generalize xs[j] = x at *
          generalize ys[j] = y at *
          go_wp2
          go_quiet (fail)
          go_wp2
          go_ret
          refine ⟨false, rfl, ⟨fun h => (by cases h), fun h => absurd (HX.out.1 (by rw [h])) HM.out⟩, below_drewN hBr _⟩
      · obtain rfl : j = n := by omega
        go_wp2
        go_ret
        refine ⟨true, rfl, ⟨fun _ => ?_, fun _ => rfl⟩, hBr⟩
        apply List.ext_getElem?
        intro i
        rcases Nat.lt_or_ge i j with h | h
        · exact hall i h
        · rw [List.getElem?_eq_none (by rw [HL.out, HN.out]; exact h), List.getElem?_eq_none (by rw [HN.out]; exact h)]
  · have HL := hide hl
    have hd : (((xs.length : Nat) : Int) != ((ys.length : Nat) : Int)) = true := bne_iff_ne.2 (by omega)
    clear h1 h2
    clear hl
    go_enter Try.func36, Try.ntmps36
    go_wp2
    go_ret
    exact ⟨false, rfl, ⟨fun h => (by cases h), fun h => absurd (congrArg List.length h) (by first | exact HL.out | (intro hc; exact HL.out hc))⟩, Below.refl _ _⟩

/-- Two steps held against each other. -/
def same4 (o q : O4) : Bool := (o.k == q.k) && ((o.a == q.a) && ((o.b == q.b) && (o.c == q.c)))
theorem same4_iff (o q : O4) : same4 o q = true ↔ o = q := by
  cases o; cases q
  simp [same4]
theorem op_part (o q : O4) (W : World) : (Op.eqFields 9999 #[.int .u8 o.k, .int .i64 o.a, .int .i64 o.b, .int .u64 o.c] #[.int .u8 q.k, .int .i64 q.a, .int .i64 q.b, .int .u64 q.c] (Try.prog.fieldsOf 67).toList).run Try.prog W = .ok (same4 o q) W := by
  have u1 := Try.underlying65
  have u2 := Try.underlying3
  have u3 := Try.underlying36
  unfold Program.fieldsOf
  rw [Try.underlying67]
  unfold same4
  by_cases h1 : o.k = q.k <;> by_cases h2 : o.a = q.a <;> by_cases h3 : o.b = q.b <;> by_cases h4 : o.c = q.c <;> simp [go_sem, Op.eqFields, u1, u2, u3, h1, h2, h3, h4]

theorem op_neq (o q : O4) (W : World) : (binOp .neq 67 (.agg #[.int .u8 o.k, .int .i64 o.a, .int .i64 o.b, .int .u64 o.c]) (.agg #[.int .u8 q.k, .int .i64 q.a, .int .i64 q.b, .int .u64 q.c])).run Try.prog W = .ok (.bool (!same4 o q)) W := by
  rw [run_neq_struct, show (10000 : Nat) = 9999 + 1 from rfl, run_equalIn_agg _ 9999 _ _ _ (by kernel_rfl) (by kernel_rfl), op_part]; rfl
theorem op_same {o q : O4} (h : o = q) (W : World) : (binOp .neq 67 (.agg #[.int .u8 o.k, .int .i64 o.a, .int .i64 o.b, .int .u64 o.c]) (.agg #[.int .u8 q.k, .int .i64 q.a, .int .i64 q.b, .int .u64 q.c])).run Try.prog W = .ok (.bool false) W := by
  rw [op_neq, (same4_iff o q).2 h]; rfl
theorem op_other {o q : O4} (h : ¬ o = q) (W : World) : (binOp .neq 67 (.agg #[.int .u8 o.k, .int .i64 o.a, .int .i64 o.b, .int .u64 o.c]) (.agg #[.int .u8 q.k, .int .i64 q.a, .int .i64 q.b, .int .u64 q.c])).run Try.prog W = .ok (.bool true) W := by
  rw [op_neq]
  cases hs : same4 o q with
  | true => exact absurd ((same4_iff o q).1 hs) h
  | false => rfl
theorem op_guard (op : BinOp) (x y : Operand) (xs ys : Array Value) (W : World) : (eqGuard op 67 x y (.agg xs) (.agg ys)).run Try.prog W = .ok () W := run_eqGuard_agg _ _ _ _ _ _ _ (by kernel_rfl)

end Go.Proofs.Ytfbipnhhnmlhfab
