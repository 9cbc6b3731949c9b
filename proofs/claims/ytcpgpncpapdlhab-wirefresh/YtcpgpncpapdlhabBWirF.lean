/-
  Layer 8: the count and the elements that a reader stands at; counts written and read, the program's and the document's.
-/
import Derived.Test.YtcpgpncpapdlhabBWirE
import Derived.Test.YtcpgpncpapdlhabBInF
import Derived.Laws.MakeOwn
namespace Go.Proofs.Ytcpgpncpapdlhab
open Go.RowKit Fld
set_option linter.unusedVariables false

/-- The function that a reader at the block g is. -/
def rdF (g : Nat) : Value := .func (.func 25) #[] #[.pointer (some ⟨g, 0, none⟩)]

set_option maxHeartbeats 200000 in
theorem wNextCount (g : Nat) (bs : List Int) (w0 w : World) (hR : Rdr w0 w g bs) :
    Calls Try.prog 15 #[rdF g] w fun e w' => e = .returned (.tuple #[.int .i64 (rcN bs), .int .i64 (rcE bs)]) ∧ (rcE bs = 0 → Rdr w0 w' g (bs.drop 4)) ∧ Kq (fun j => j < w.heap.size ∧ j ≠ g) w w' := by
  unfold rdF
  by_cases h4 : bs.length < 4
  · have H := hide (wNext_short 4 g bs w0 w hR h4 (by decide))
    have e1 : rcE bs = 7 := by unfold rcE; rw [if_pos h4]
    have e2 : rcN bs = 0 := by unfold rcN; rw [if_neg (by rw [e1]; decide)]
    rw [e1, e2]
    clear hR e1 e2
    go_enter Try.func15, Try.ntmps15
    go_wp2_with (go_at_call 25; refine H.out.mono ?_; rintro e w1 ⟨rfl, hw1⟩; subst hw1)
    go_ret2
    exact ⟨rfl, (fun h => by cases h), Kq.refl _ _⟩
  · have H := hide (wNext_long 4 g bs w0 w hR (by omega) (by decide) (by decide))
    have hy : By bs := by obtain ⟨_, ⟨v, _, hv⟩, _, _⟩ := hR; exact hv.by
    have hb := tk8_bd (hy.take 4)
    rw [List.length_take, Nat.min_eq_left (by omega), show (256 : Int) ^ 4 = 4294967296 by decide] at hb
    obtain ⟨b0, b1⟩ := hb
    clear hR hy
    by_cases hm : 2147483647 < tk8 (bs.take 4)
    · have e1 : rcE bs = 8 := by unfold rcE; rw [if_neg h4, if_pos hm]
      have e2 : rcN bs = 0 := by unfold rcN; rw [if_neg (by rw [e1]; decide)]
      rw [e1, e2]
      clear e1 e2
      generalize tk8 (bs.take 4) = n at *
      go_enter Try.func15, Try.ntmps15
      go_wp2_with (go_at_call 25; refine H.out.mono ?_; rintro e w1 ⟨rfl, hr1, hk1⟩)
      go_ret2
      exact ⟨rfl, (fun h => by cases h), hk1⟩
    · have e1 : rcE bs = 0 := by unfold rcE; rw [if_neg h4, if_neg hm]
      have e2 : rcN bs = tk8 (bs.take 4) := by unfold rcN; rw [if_pos e1]
      rw [e1, e2]
      clear e1 e2
      generalize tk8 (bs.take 4) = n at *
      go_enter Try.func15, Try.ntmps15
      go_wp2_with (go_at_call 25; refine H.out.mono ?_; rintro e w1 ⟨rfl, hr1, hk1⟩)
      go_ret2
      exact ⟨rfl, (fun _ => hr1), hk1⟩

set_option maxHeartbeats 200000 in
theorem wReadCount (v : Value) (bs : List Int) (w : World) (h : Rb w v bs) :
    Calls Try.prog 24 #[v] w fun e w' => e = .returned (.tuple #[.int .i64 (rcN bs), .int .i64 (rcS bs), .int .i64 (rcE bs)]) ∧ Below w.heap.size w w' := by
  have H1 := hide (wReader v bs w w h (Below.refl _ _))
  have H2 := hide (fun g W (hr : Rdr w W g bs) => wNextCount g bs w W hr)
  unfold rdF at H2
  obtain ⟨ao, cap, rfl, _⟩ := h.spell
  clear h
  rcases rcE_or bs with he | he | he
  · have e2 : rcS bs = 4 := by unfold rcS; rw [if_pos he]
    rw [he, e2]
    rw [he] at H2
    clear he e2
    generalize rcN bs = n at *
    go_enter Try.func24, Try.ntmps24
    go_wp2_with (first
      | (go_at_call 16; refine H1.out.mono ?_; rintro e w1 ⟨g, rfl, hr1, hg1, hb1⟩)
      | (go_at_call 15; refine (H2.out _ _ hr1).mono ?_; rintro e w2 ⟨rfl, hr2, hk2⟩))
    go_ret3
    exact ⟨rfl, hb1.trans (hk2.below (fun j hj => ⟨Nat.lt_of_lt_of_le hj hb1.size, by omega⟩))⟩
  all_goals
    have e2 : rcS bs = 0 := by unfold rcS; rw [if_neg (by rw [he]; decide)]
    have e3 : rcN bs = 0 := by unfold rcN; rw [if_neg (by rw [he]; decide)]
    rw [he, e2, e3]
    rw [he, e3] at H2
    clear he e2 e3
    go_enter Try.func24, Try.ntmps24
    go_wp2_with (first
      | (go_at_call 16; refine H1.out.mono ?_; rintro e w1 ⟨g, rfl, hr1, hg1, hb1⟩)
      | (go_at_call 15; refine (H2.out _ _ hr1).mono ?_; rintro e w2 ⟨rfl, hr2, hk2⟩))
    go_ret3
    exact ⟨rfl, hb1.trans (hk2.below (fun j hj => ⟨Nat.lt_of_lt_of_le hj hb1.size, by omega⟩))⟩

/-- A call that answers bytes of its own and an error. -/
def GivesB (N : Nat) (args : Array Value) (w : World) (e : Int) (bs : List Int) : Prop :=
  Calls Try.prog N args w fun r w' => ∃ v', r = .returned (.tuple #[v', .int .i64 e]) ∧ w'.ownsRow w.heap.size 5 1 v' bs.length (valb bs) ∧ Below w.heap.size w w'

theorem ctL_len {n : Int} (h : ctE n = 0) : (ctL n).length = 4 := by unfold ctL; rw [if_pos h, wd8_len]
theorem ctE_or (n : Int) : (0 ≤ n ∧ n ≤ 2147483647 ∧ ctE n = 0 ∧ ctL n = wd8 n 4) ∨ (¬ (0 ≤ n ∧ n ≤ 2147483647) ∧ ctE n = 2 ∧ ctL n = []) := by
  by_cases h : 0 ≤ n ∧ n ≤ 2147483647
  · have e : ctE n = 0 := by unfold ctE; rw [if_pos h]
    exact .inl ⟨h.1, h.2, e, by unfold ctL; rw [if_pos e]⟩
  · have e : ctE n = 2 := by unfold ctE; rw [if_neg h]
    exact .inr ⟨h, e, by unfold ctL; rw [if_neg (by rw [e]; decide)]⟩

theorem Rb.take {w : World} {ao : Option Addr} {n cap : Nat} {bs : List Int} (h : Rb w (.slice ao n cap) bs) {k : Nat} (hk : k ≤ bs.length) : Rb w (.slice ao k cap) (bs.take k) := by
  obtain ⟨ao', cap', h1, h2, h3, h4⟩ := h
  cases h1
  have hl : (bs.take k).length = k := by rw [List.length_take]; omega
  refine ⟨ao, cap, by rw [hl], ⟨by omega, by have := h2.2.1; omega, h2.2.2⟩, h3.take k, fun hne => ?_⟩
  have hk0 : 0 < k := by apply Nat.pos_of_ne_zero; intro h0; rw [h0] at hne; simp at hne
  obtain ⟨b, off, rfl, hb, hc⟩ := h4 (by intro h; rw [h] at hk; simp at hk; omega)
  refine ⟨b, off, rfl, hb, fun i hi => ?_⟩
  rw [hl] at hi
  rw [getD_take hi]; exact hc i (by omega)

end Go.Proofs.Ytcpgpncpapdlhab
