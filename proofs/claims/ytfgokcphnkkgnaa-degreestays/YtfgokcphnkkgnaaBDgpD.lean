/-
  Layer 10: a list cloned, looked through: the library's calls; All, the program's.
-/
import Derived.Test.YtfgokcphnkkgnaaBDgpC
import Derived.Test.YtfgokcphnkkgnaaBunY
import Derived.Lib.SliceRun
namespace Go.Proofs.Ytfgokcphnkkgnaa
open Go.RowKit Fld Slp
set_option linter.unusedVariables false
set_option linter.unusedSimpArgs false

/-- A piece of an array, from its start on, is a list. -/
theorem lm_of_ar {T : TypeId} {w : World} {g : Nat} {l : List Int} (h : Ar (Value.int .i64) T 320 w g (ar9 0 l)) (hl : l.length ≤ 320) : Lm iw 1 w (.slice (some ⟨g, 0, none⟩) l.length 320) l := by
  refine ⟨some ⟨g, 0, none⟩, 320, rfl, ⟨hl, by omega, fun h => by cases h⟩, fun hne => ⟨g, 0, rfl, h.lt, fun i x hx j u hu => ?_⟩⟩
  have hi := (List.getElem?_eq_some_iff.1 hx).1
  cases j with
  | succ j => simp [iw] at hu
  | zero =>
    have e : u = .int .i64 x := by simpa [iw] using hu.symm
    have := h.cell i 0 (by omega)
    rw [ar9_get, List.getD_eq_getElem?_getD, hx] at this
    rw [e, Nat.mul_one, Nat.add_zero, Nat.zero_add]
    exact this

set_option maxRecDepth 100000 in
set_option maxHeartbeats 200000 in
theorem lCloneI (v : Value) (xs : List Int) (w : World) (h : Lm iw 1 w v xs) (hl : xs.length ≤ 100000) : Calls Try.prog 22 #[v] w fun e w' => ∃ v', e = .returned v' ∧ w'.ownsRow w.heap.size 3 1 v' xs.length (xs.flatMap iw) ∧ Below w.heap.size w w' := by
  obtain ⟨a, c, rfl, hc⟩ := h.spell
  cases a with
  | none =>
    obtain ⟨h1, h2, rfl⟩ := h.none_
    subst h2
    clear h hc hl h1
    have hq := Lib.run_eql_slice_nil (P := Try.prog)
    go_enter Try.func22, Try.ntmps22
    go_wp2
    go_ret
    exact ⟨_, rfl, own_nil _ _ _ _, Below.refl _ _⟩
  | some ad =>
    have hB := alloc_below w (.cells #[] 3)
    obtain ⟨v', W', hr, ho, hb, hg, _⟩ := appI (w.alloc (.cells #[] 3)) w.heap.size _ [] xs (.slice (some ad) xs.length c) (own_zero w 3 1 w.heap.size (Nat.le_refl _)) (h.below hB) (by simp; omega) hB.size
    rw [List.nil_append, List.length_nil, Nat.zero_add] at ho
    have HO := hide ho
    have hq := Lib.run_eql_slice_nil (P := Try.prog)
    clear ho h
    go_enter Try.func22, Try.ntmps22
    go_wp2_with (at_builtin; refine Lib.wpList_append_run _ rfl _ _ _ _ rfl _ _ rfl rfl _ _ hr ?_)
    go_ret
    exact ⟨_, rfl, HO.out, hB.trans hb⟩

set_option maxRecDepth 100000 in
set_option maxHeartbeats 200000 in
theorem lIndexI (v : Value) (xs : List Int) (x : Int) (w : World) (h : Lm iw 1 w v xs) : Calls Try.prog 31 #[v, .int .i64 x] w fun e w' => ∃ r : Int, e = .returned (.int .i64 r) ∧ (0 ≤ r ↔ x ∈ xs) ∧ w' = w := by
  obtain ⟨a, c, rfl, hc⟩ := h.spell
  have hl := h.len
  go_enter Try.func31, Try.ntmps31
  go_wp2
  go_loop [8] (fun vi => ∃ j : Nat, j ≤ xs.length ∧ vi = .int .i64 j ∧ Hid (¬ x ∈ xs.take j)) (fun vi => xs.length - (intOf vi).toNat)
  case atStart => exact ⟨0, Nat.zero_le _, rfl, by show ¬ _; simp⟩
  case round =>
    obtain ⟨j, hj, rfl, HN⟩ := hrel
    by_cases hlt : j < xs.length
    · obtain ⟨b, off, c', hv, _, hbl⟩ := h.form (by omega)
      cases hv
      have ca := h.int (Below.refl _ w) hlt
      have HT := hide (List.take_succ_eq_append_getElem hlt)
      have HM := hide (List.getElem_mem hlt)
      have hj1 : (j : Int) < (xs.length : Int) := by omega
      have hj0 : (0 : Int) ≤ (j : Int) := by omega
      generalize xs[j] = y at *
      by_cases he : x = y
      · subst he
        go_wp2_with fail
        go_ret
        exact ⟨_, rfl, ⟨fun _ => HM.out, fun _ => by omega⟩, rfl⟩
      · have hd : (x == y) = false := by simpa using he
        have HE := hide he
        clear he
        go_wp2_with fail
        go_round
        case rel => exact ⟨j + 1, by omega, by go_num, by
          show ¬ _
          rw [HT.out]
          intro hm
          rcases List.mem_append.1 hm with hm | hm
          · exact HN.out hm
          · exact HE.out (List.mem_singleton.1 hm)⟩
        case measure => simp [intOf]; omega
    · obtain rfl : j = xs.length := by omega
      rw [List.take_length] at HN
      go_wp2_with fail
      go_ret
      exact ⟨_, rfl, ⟨fun h => absurd h (by decide), fun h => absurd h HN.out⟩, rfl⟩

set_option maxRecDepth 100000 in
set_option maxHeartbeats 200000 in
theorem lContainsI (v : Value) (xs : List Int) (x : Int) (w : World) (h : Lm iw 1 w v xs) : Calls Try.prog 23 #[v, .int .i64 x] w fun e w' => e = .returned (.bool (decide (x ∈ xs))) ∧ w' = w := by
  obtain ⟨a, c, rfl, hc⟩ := h.spell
  have HI := hide (lIndexI _ xs x w h)
  clear h
  by_cases hm : x ∈ xs
  · rw [decide_eq_true hm]
    go_enter Try.func23, Try.ntmps23
    go_wp2_with (go_at_call 31; refine HI.out.mono ?_; rintro e w1 ⟨r, rfl, hr, hw1⟩; subst hw1; have hr0 : 0 ≤ r := hr.2 hm; clear hr hm)
    go_ret
    exact ⟨rfl, rfl⟩
  · rw [decide_eq_false hm]
    go_enter Try.func23, Try.ntmps23
    go_wp2_with (go_at_call 31; refine HI.out.mono ?_; rintro e w1 ⟨r, rfl, hr, hw1⟩; subst hw1; have hr0 : ¬ 0 ≤ r := fun h => hm (hr.1 h); have hr1 : decide (0 ≤ r) = false := decide_eq_false hr0; clear hr hm)
    go_ret
    exact ⟨rfl, rfl⟩

end Go.Proofs.Ytfgokcphnkkgnaa
