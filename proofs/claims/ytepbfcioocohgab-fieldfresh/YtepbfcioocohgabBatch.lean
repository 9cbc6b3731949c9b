/-
  The field's Batch, and the document's own.
-/
import Derived.Test.YtepbfcioocohgabInvs
import Derived.Test.YtepbfcioocohgabRefC
namespace Go.Proofs.Ytepbfcioocohgab
open Go.RowKit Fld
set_option linter.unusedVariables false

set_option maxHeartbeats 200000 in
theorem Batch_no (f : Int) (v : Value) (xs : List Int) (w : World) (h : Bad f xs) (hr : Row w v xs) :
    Calls Try.prog 6 #[.int .u8 f, v] w fun e w' => e = .returned (.tuple #[.slice none 0 0, .int .i64 2]) ∧ Below w.heap.size w w' := by
  have hx := hide (check_no f v xs w h hr)
  clear h hr
  go_enter Try.func6, Try.ntmps6
  go_wp2_with (go_at_call 12; refine hx.out.mono ?_; rintro e w1 ⟨rfl, hb⟩)
  go_ret2
  exact ⟨rfl, hb.alloc hb.size _⟩

theorem allIn_el {p : Int} {xs : List Int} (h : allIn p xs = true) (hw : ∀ x ∈ xs, 0 ≤ x ∧ x ≤ 18446744073709551615) (i : Nat) (hi : i < xs.length) : El p (xs.getD i 0) := by
  unfold allIn at h
  rw [List.all_eq_true] at h
  rw [getD_at hi]
  exact ⟨(hw _ (List.getElem_mem hi)).1, by simpa using h _ (List.getElem_mem hi)⟩

theorem own_from {w : World} {base base' e size n : Nat} {v : Value} {xs : List Value} (h : w.ownsRow base e size v n xs) (hb : base' ≤ base) : w.ownsRow base' e size v n xs := by
  refine ⟨h.1, ?_⟩
  rcases h.2 with h1 | ⟨g, cap, cur, h1, h2, h3⟩
  · exact .inl h1
  · exact .inr ⟨g, cap, cur, h1, Nat.le_trans hb h2, h3⟩

theorem ne_snoc {x : Int} {xs : List Int} {k : Nat} (h : ∀ i, i < k → xs.getD i 0 ≠ 0) (hx : xs.getD k 0 = x) (hne : x ≠ 0) : ∀ i, i < k + 1 → xs.getD i 0 ≠ 0 := by
  intro i hi
  by_cases he : i = k
  · rw [he, hx]; exact hne
  · exact h i (by omega)

set_option maxHeartbeats 400000 in
theorem Batch_in (f p : Int) (wd : Bool) (v : Value) (xs : List Int) (w : World) (h : Fi f p wd) (hr : Row w v xs) (hi : allIn p xs = true) :
    Calls Try.prog 6 #[.int .u8 f, v] w fun e w' => ((∃ i, i < xs.length ∧ xs.getD i 0 = 0) ∧ e = .returned (.tuple #[.slice none 0 0, .int .i64 5]) ∧ Below w.heap.size w w') ∨
      ((∀ i, i < xs.length → xs.getD i 0 ≠ 0) ∧ ∃ v', e = .returned (.tuple #[v', .int .i64 0]) ∧ w'.ownsRow w.heap.size 31 1 v' xs.length (vals (xs.map (inv p))) ∧ Below w.heap.size w w') := by
  have hx := hide (check_yes f p wd v xs w h hr hi)
  have hI := hide (fun W (hW : Below w.heap.size w W) (hn : ∀ i, i < xs.length → xs.getD i 0 ≠ 0) => inverses_any p wd v xs W h.md (hr.below hW) (fun i hl => ⟨allIn_el hi (by obtain ⟨_, _, _, _, g, _⟩ := hr; exact g) i hl, hn i hl⟩))
  obtain ⟨ao, cap, rfl, hlen, hw, hc⟩ := hr
  clear h hi
  go_enter Try.func6, Try.ntmps6
  go_wp2_with (go_at_call 12; refine hx.out.mono ?_; rintro e w1 ⟨rfl, hb⟩)
  have hB := hb.alloc hb.size (.cells #[.int .u64 p, .bool wd] 39)
  have hb0 := Boxed.first w1 p wd 39
  have hc0 := hb0.1
  have hc1 := hb0.2.1
  clear hb0
  go_loop [20] (fun vi => ∃ k : Nat, k ≤ xs.length ∧ vi = .int .i64 k ∧ ∀ i, i < k → xs.getD i 0 ≠ 0) (fun vi => xs.length - (intOf vi).toNat)
  case atStart => exact ⟨0, Nat.zero_le _, rfl, fun i hi => by omega⟩
  case round =>
    obtain ⟨k, hk, rfl, hall⟩ := hrel
    by_cases hlt : k < xs.length
    · obtain ⟨b, off, rfl, hbl, hcell⟩ := hc (by intro h; rw [h] at hlt; simp at hlt)
      have hck := (hB.cell (p := ⟨b, off + k, none⟩) hbl).trans (hcell k hlt)
      have HA := hide hall
      clear hall hcell hc
      by_cases hz : xs.getD k 0 = 0
      · have HZ := hide hz
        rw [hz] at hck
        clear hz
        go_wp2
        go_ret2
        exact .inl ⟨⟨k, hlt, HZ.out⟩, rfl, hB⟩
      · generalize hxx : xs.getD k 0 = x at *
        have HX := hide hxx
        have HN := hide hz
        have ht : (x == 0) = false := beq_eq_false_iff_ne.2 hz
        clear hxx hz
        go_wp2
        go_round
        case rel => exact ⟨k + 1, by omega, by go_num, ne_snoc HA.out HX.out HN.out⟩
        case measure => simp [intOf]; omega
    · have HN := hide (fun i (hi : i < xs.length) => hall i (by omega))
      clear hall hc
      go_wp2_with (go_at_call 13; refine (hI.out _ hB HN.out).mono ?_; rintro e w2 ⟨v', rfl, hown, hb2⟩)
      go_ret2
      exact .inr ⟨HN.out, v', rfl, own_from hown (by have := hB.size; simp at this ⊢; omega), hB.trans (hb2.mono hB.size)⟩

end Go.Proofs.Ytepbfcioocohgab
