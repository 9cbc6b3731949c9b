import Derived.Test.YtnapbdoalfbgnaaGreatBLocO
import Derived.Test.YtnapbdoalfbgnaaGreatBLodA
import Derived.Test.YtnapbdoalfbgnaaGreatBunAE
import Derived.Test.YtnapbdoalfbgnaaGreatBunYP
set_option linter.unusedVariables false
set_option linter.unusedSimpArgs false
set_option maxRecDepth 100000
set_option maxHeartbeats 4000000
namespace Go.Proofs.YtnapbdoalfbgnaaGreat
open Go.RowKit Go.Shelf Fld
def adE (B : Int) (I : Bool) (L : Nat) : Int := if I = true then (if 4096 < L ∧ (B = 0 ∨ B = 6) then 4 else B) else 2
theorem bad_five (f : Int) (xs ys : List Int) (n : Nat) : bad f xs ys n = 0 ∨ bad f xs ys n = 2 ∨ bad f xs ys n = 3 ∨ bad f xs ys n = 4 ∨ bad f xs ys n = 6 := by
 unfold bad
 split
 · split
   · split
     · exact .inr (.inr (.inr (.inl rfl)))
     · split
       · exact .inl rfl
       · exact .inr (.inr (.inr (.inr rfl)))
   · exact .inr (.inr (.inl rfl))
 · exact .inr (.inl rfl)
theorem adE_eq (f : Int) (P xs ys : List Int) : adE (bad f xs ys ys.length) (inF f P) P.length = agE f P xs ys := by
 unfold agE adE er erb
 cases hI : inF f P with
 | false =>
  rw [if_neg (by decide), Bool.false_and, if_neg (by decide)]
  rcases bad_five f xs ys ys.length with e | e | e | e | e <;> rw [e] <;> decide
 | true =>
  obtain ⟨p, wd, hf, _⟩ := inF_fi hI
  have h0 : inF f [0] = true := by rw [inF_yes hf]; exact allIn_of (fun x hx => by rw [List.mem_singleton.1 hx]; exact ⟨by decide, hf.pos⟩)
  rw [h0, if_pos rfl, Bool.true_and, if_pos rfl]
  by_cases hl : 4096 < P.length
  · rw [if_pos (show 4096 < P.length ∨ 4096 < [(0 : Int)].length from .inl hl)]
    rcases bad_five f xs ys ys.length with e | e | e | e | e <;> rw [e] <;> simp [hl] <;> decide
  · rw [if_neg (show ¬ (4096 < P.length ∨ 4096 < [(0 : Int)].length) by simp; omega)]
    rcases bad_five f xs ys ys.length with e | e | e | e | e <;> rw [e] <;> simp [hl] <;> decide
theorem dAgree (f : Int) (vP v1 v2 : Value) (P xs ys : List Int) (w : World) (h0 : Rw w vP P) (h1 : Rw w v1 xs) (h2 : Rw w v2 ys) :
 Calls Tryz.prog 7 #[.int .u8 f, vP, v1, v2] w fun e w' => e = .returned (.tuple #[.int .i64 (agV f P xs ys), .int .i64 (agE f P xs ys)]) ∧ Below w.heap.size w w' := by
 have HB := hide (dBad f v1 v2 xs ys ys.length w h1 h2 h2.len)
 have HI := hide (fun W (hb : Below w.heap.size w W) => rIn_any f vP P W (h0.below hb).1)
 have hAE := adE_eq f P xs ys
 have hl0 := h0.len
 have hl1 := h1.len
 have hl2 := h2.len
 have HV : Hid (∀ W, Below w.heap.size w W → agE f P xs ys = 0 → ∃ m : Nat, m ≤ xs.length ∧ agV f P xs ys = (xs.length : Int) - (m : Int) ∧ Calls Tryz.prog 21 #[.int .u8 f, vP, v1, v2] W fun e w' => ∃ a c, e = .returned (.slice a m c) ∧ Below W.heap.size W w') := fun W hb hz => by
  obtain ⟨z1, z2⟩ := fst2_zero (show fst2 (bad f xs ys ys.length) (er f P [0]) = 0 from hz)
  obtain ⟨p, wd, hf, i1, i2, e1, l5, _⟩ := bad_zero z1
  obtain ⟨p', wd', hf', j1, _, l4, _⟩ := er_zero z2
  have hpp : p' = p := by rw [← pOf_eq hf', pOf_eq hf]
  rw [hpp] at j1
  refine ⟨(offp p P xs ys).length, offp_len _ _ _ _, by unfold agV; rw [if_pos hz, pOf_eq hf], ?_⟩
  refine (dOff f p wd vP v1 v2 P xs ys W hf (h0.below hb) (h1.below hb) (h2.below hb) (els_of j1 h0.words) l4 (els_of i1 h1.words) e1 l5).mono ?_
  rintro e w' ⟨v', rfl, ho, hb'⟩
  obtain ⟨a, c, rfl⟩ := own_form ho
  exact ⟨a, c, rfl, hb'⟩
 have HVn : Hid (agE f P xs ys ≠ 0 → agV f P xs ys = 0) := fun h => by unfold agV; rw [if_neg h]
 obtain ⟨a0, c0, rfl, _⟩ := h0.spell
 obtain ⟨a1, c1, rfl, _⟩ := h1.spell
 obtain ⟨a2, c2, rfl, _⟩ := h2.spell
 clear h0 h1 h2
 generalize agE f P xs ys = AE at *
 generalize agV f P xs ys = AV at *
 generalize bad f xs ys ys.length = B at *
 generalize inF f P = I at *
 generalize P.length = L at *
 generalize xs.length = n at *
 generalize ys.length = ny at *
 by_cases hz : AE = 0
 · subst hz
   have hIt : I = true := by
    cases I
    · exact absurd hAE (by unfold adE; rw [if_neg (by decide)]; decide)
    · rfl
   subst hIt
   have hL : ¬ (4096 : Int) < (L : Int) := by
    intro c
    unfold adE at hAE
    rw [if_pos rfl] at hAE
    by_cases q : 4096 < L ∧ (B = 0 ∨ B = 6)
    · rw [if_pos q] at hAE; exact absurd hAE (by decide)
    · rw [if_neg q] at hAE; exact q ⟨by omega, .inl hAE⟩
   have hB0 : B = 0 := by
    unfold adE at hAE
    rw [if_pos rfl, if_neg (by omega)] at hAE; exact hAE
   subst hB0
   clear hAE HVn
   go_enter Tryz.func7, Tryz.ntmps7
   go_wp2_with (first
    | (go_at_call 14; refine HB.out.mono ?_; rintro e w1 ⟨rfl, hb1⟩)
    | (go_at_call 20; refine (HI.out _ hb1).mono ?_; rintro e w2 ⟨rfl, hw2⟩; rw [hw2]; clear hw2))
   obtain ⟨m, hm, rfl, HOf'⟩ := HV.out _ hb1 (by first | trivial | rfl)
   have HOf := hide HOf'
   clear HOf' HV
   refine HOf.out.mono ?_
   rintro e w3 ⟨a3, c3, rfl, hb3⟩
   go_wp2_with fail
   go_ret2
   exact ⟨rfl, Below.next hb1 hb3⟩
 · obtain rfl := HVn.out hz
   have hz2 : (AE != 0) = true := bne_iff_ne.2 hz
   clear HV HVn
   cases I with
   | false =>
    obtain rfl : AE = 2 := by rw [← hAE]; rfl
    clear hAE
    by_cases hL : (4096 : Int) < (L : Int)
    · go_enter Tryz.func7, Tryz.ntmps7
      go_wp2_with (first
       | (go_at_call 14; refine HB.out.mono ?_; rintro e w1 ⟨rfl, hb1⟩)
       | (go_at_call 20; refine (HI.out _ hb1).mono ?_; rintro e w2 ⟨rfl, hw2⟩; rw [hw2]; clear hw2))
      go_ret2
      exact ⟨rfl, hb1⟩
    · go_enter Tryz.func7, Tryz.ntmps7
      go_wp2_with (first
       | (go_at_call 14; refine HB.out.mono ?_; rintro e w1 ⟨rfl, hb1⟩)
       | (go_at_call 20; refine (HI.out _ hb1).mono ?_; rintro e w2 ⟨rfl, hw2⟩; rw [hw2]; clear hw2))
      go_ret2
      exact ⟨rfl, hb1⟩
   | true =>
    unfold adE at hAE
    rw [if_pos rfl] at hAE
    by_cases hL : (4096 : Int) < (L : Int)
    · by_cases hb0 : B = 0
      · subst hb0
        obtain rfl : AE = 4 := by rw [← hAE, if_pos ⟨by omega, .inl rfl⟩]
        clear hAE
        go_enter Tryz.func7, Tryz.ntmps7
        go_wp2_with (first
         | (go_at_call 14; refine HB.out.mono ?_; rintro e w1 ⟨rfl, hb1⟩)
         | (go_at_call 20; refine (HI.out _ hb1).mono ?_; rintro e w2 ⟨rfl, hw2⟩; rw [hw2]; clear hw2))
        go_ret2
        exact ⟨rfl, hb1⟩
      · by_cases hb6 : B = 6
        · subst hb6
          obtain rfl : AE = 4 := by rw [← hAE, if_pos ⟨by omega, .inr rfl⟩]
          clear hAE
          go_enter Tryz.func7, Tryz.ntmps7
          go_wp2_with (first
           | (go_at_call 14; refine HB.out.mono ?_; rintro e w1 ⟨rfl, hb1⟩)
           | (go_at_call 20; refine (HI.out _ hb1).mono ?_; rintro e w2 ⟨rfl, hw2⟩; rw [hw2]; clear hw2))
          go_ret2
          exact ⟨rfl, hb1⟩
        · obtain rfl : AE = B := by rw [← hAE, if_neg (by omega)]
          have q0 : (AE == 0) = false := beq_eq_false_iff_ne.2 hb0
          have q6 : (AE == 6) = false := beq_eq_false_iff_ne.2 hb6
          clear hAE
          go_enter Tryz.func7, Tryz.ntmps7
          go_wp2_with (first
           | (go_at_call 14; refine HB.out.mono ?_; rintro e w1 ⟨rfl, hb1⟩)
           | (go_at_call 20; refine (HI.out _ hb1).mono ?_; rintro e w2 ⟨rfl, hw2⟩; rw [hw2]; clear hw2))
          go_ret2
          exact ⟨rfl, hb1⟩
    · obtain rfl : AE = B := by rw [← hAE, if_neg (by omega)]
      clear hAE
      go_enter Tryz.func7, Tryz.ntmps7
      go_wp2_with (first
       | (go_at_call 14; refine HB.out.mono ?_; rintro e w1 ⟨rfl, hb1⟩)
       | (go_at_call 20; refine (HI.out _ hb1).mono ?_; rintro e w2 ⟨rfl, hw2⟩; rw [hw2]; clear hw2))
      go_ret2
      exact ⟨rfl, hb1⟩
end Go.Proofs.YtnapbdoalfbgnaaGreat
