import Derived.Test.YtnapbdoalfbgnaaBLawLA
import Derived.Test.YtnapbdoalfbgnaaBOpenXB
import Derived.Test.YtnapbdoalfbgnaaBLocE
import Derived.Test.YtnapbdoalfbgnaaBunQ
set_option linter.unusedVariables false
set_option linter.unusedSimpArgs false
set_option maxRecDepth 100000
set_option maxHeartbeats 4000000
namespace Go.Proofs.Ytnapbdoalfbgnaa
open Go.RowKit Fld
theorem dc_none : dcE 0 [] [] 0 0 = 2 := by decide +kernel
theorem gDecode_none (W : World) : Calls Try.prog 7 #[.int .u8 0, .slice none 0 0, .slice none 0 0, .int .i64 0, .int .i64 0] W fun e w' => ∃ vp va ok, e = .returned (.tuple #[vp, va, .bool ok, .int .i64 2]) ∧ Below W.heap.size W w' := by
 have := gDecode 0 _ _ [] [] 0 0 W (rw0 W) (rw0 W) (by decide) (by decide)
 unfold GivesD at this
 rw [dc_none] at this
 exact this.mono fun e w' ⟨vp, va, P, a, ok, he, _, _, _, hb⟩ => ⟨vp, va, ok, he, hb⟩
def hitB (f : Int) (xs P : List Int) (k : Int) : Prop := er f P [] = 0 ∧ bad f xs [] xs.length = 0 ∧ 0 ≤ k ∧ k ≤ 100 ∧ (P.length : Int) + 2 * k ≤ xs.length
theorem locHits_no (f : Int) (v1 v2 vt : Value) (xs ys : List Int) (d k : Int) (w : World) (h1 : Rw w v1 xs) (h2 : Rw w v2 ys) (hd : -9223372036854775808 ≤ d ∧ d ≤ 9223372036854775807) (hk : -9223372036854775808 ≤ k ∧ k ≤ 9223372036854775807) (hno : ¬ hitB f xs (tr ys) k) :
 Calls Try.prog 4 #[.int .u8 f, .agg #[v1, v2, .int .i64 d, .int .i64 k], vt] w fun e w' => e = .returned (.bool true) ∧ Below w.heap.size w w' := by
 have HT := hide (fun W (hb : Below w.heap.size w W) => rTrim_any v2 ys W (h2.below hb))
 have HWd : Hid (∀ W b v n, W.ownsRow b 40 1 v n (vals (tr ys)) → Rw W v (tr ys)) := fun W b v n hO => rw_of_own hO (Nat.le_trans (tr_len ys) h2.len) (fun x hx => by
  have h9 := h2.words
  obtain ⟨i, hi, rfl⟩ := List.mem_iff_getElem.1 hx
  rw [← co_at hi, co_tr]
  by_cases e : i < ys.length
  · rw [co_at e]; exact h9 _ (List.getElem_mem e)
  · rw [co_out _ _ (by omega)]; decide)
 have HB3 := hide (fun W v (hr : Rw W v (tr ys)) => rBad_any f v _ (tr ys) [] W hr (rw0 W))
 have HB7 := hide (fun W (hb : Below w.heap.size w W) => dBad f v1 _ xs [] xs.length W (h1.below hb) (rw0 W) h1.len)
 have hl1 := h1.len
 have htl : (tr ys).length ≤ 17592186043904 := Nat.le_trans (tr_len ys) h2.len
 unfold hitB at hno
 obtain ⟨b0, B0'⟩ := pts_box w v1 v2 d k
 have K0 := hide b0
 have B0 := hide B0'
 obtain ⟨a1, c1, rfl, _⟩ := h1.spell
 obtain ⟨a2, c2, rfl, _⟩ := h2.spell
 obtain ⟨k0, k1, k2, k3⟩ := cell_four b0
 clear h1 h2 b0 B0'
 generalize er f (tr ys) [] = e3 at *
 generalize bad f xs [] xs.length = e7 at *
 generalize tr ys = P at *
 generalize hpl : P.length = lp at *
 generalize xs.length = nx at *
 generalize ys.length = ny at *
 go_enter Try.func4, Try.ntmps4
 go_wp2_with fail
 refine (HT.out _ B0.out).mono ?_
 rintro e w1 ⟨v3, rfl, hO3, hb1⟩
 have hB1 := Below.next B0.out hb1
 have K1 := hide (kept K0.out hb1)
 obtain ⟨m0, m1, m2, m3⟩ := cell_four K1.out
 have R3 := hide (HWd.out _ _ _ _ hO3)
 obtain ⟨a3, c3, rfl⟩ := own_form hO3
 clear k0 k1 k2 k3 hO3 HT HWd
 by_cases q1 : e3 = 0
 · subst q1
   by_cases q2 : e7 = 0
   · subst q2
     by_cases q3 : k < 0
     · go_wp2_with (first
        | (go_at_call 13; refine (HB3.out _ _ R3.out).mono ?_; rintro e w2 ⟨rfl, hw⟩; rw [hw]; clear hw)
        | (go_at_call 14; refine (HB7.out _ hB1).mono ?_; rintro e w3 ⟨rfl, hb3⟩; have hB3 := Below.next hB1 hb3; obtain ⟨p0, p1, p2, p3⟩ := cell_four (kept K1.out hb3))
        | (go_at_call 7; refine (gDecode_none _).mono ?_; rintro e w4 ⟨vp, va, ok, rfl, hb4⟩; have hB4 := Below.next hB3 hb4)
        | (go_at_call 11; refine (anch17 _).mono ?_; rintro e w5 ⟨rfl, hb5⟩; have hB5 := Below.next hB4 hb5))
       go_ret
       exact ⟨rfl, hB5⟩
     · by_cases q4 : 100 < k
       · go_wp2_with (first
          | (go_at_call 13; refine (HB3.out _ _ R3.out).mono ?_; rintro e w2 ⟨rfl, hw⟩; rw [hw]; clear hw)
          | (go_at_call 14; refine (HB7.out _ hB1).mono ?_; rintro e w3 ⟨rfl, hb3⟩; have hB3 := Below.next hB1 hb3; obtain ⟨p0, p1, p2, p3⟩ := cell_four (kept K1.out hb3))
          | (go_at_call 7; refine (gDecode_none _).mono ?_; rintro e w4 ⟨vp, va, ok, rfl, hb4⟩; have hB4 := Below.next hB3 hb4)
          | (go_at_call 11; refine (anch17 _).mono ?_; rintro e w5 ⟨rfl, hb5⟩; have hB5 := Below.next hB4 hb5))
         go_ret
         exact ⟨rfl, hB5⟩
       · have q5 : (nx : Int) < (lp : Int) + 2 * k := by
          apply Classical.byContradiction
          intro c
          exact hno ⟨rfl, rfl, by omega, by omega, by omega⟩
         clear hno
         go_wp2_with (first
          | (go_at_call 13; refine (HB3.out _ _ R3.out).mono ?_; rintro e w2 ⟨rfl, hw⟩; rw [hw]; clear hw)
          | (go_at_call 14; refine (HB7.out _ hB1).mono ?_; rintro e w3 ⟨rfl, hb3⟩; have hB3 := Below.next hB1 hb3; obtain ⟨p0, p1, p2, p3⟩ := cell_four (kept K1.out hb3))
          | (go_at_call 7; refine (gDecode_none _).mono ?_; rintro e w4 ⟨vp, va, ok, rfl, hb4⟩; have hB4 := Below.next hB3 hb4)
          | (go_at_call 11; refine (anch17 _).mono ?_; rintro e w5 ⟨rfl, hb5⟩; have hB5 := Below.next hB4 hb5))
         go_ret
         exact ⟨rfl, hB5⟩
   · have q2' : (e7 != 0) = true := bne_iff_ne.2 q2
     clear hno
     go_wp2_with (first
      | (go_at_call 13; refine (HB3.out _ _ R3.out).mono ?_; rintro e w2 ⟨rfl, hw⟩; rw [hw]; clear hw)
      | (go_at_call 14; refine (HB7.out _ hB1).mono ?_; rintro e w3 ⟨rfl, hb3⟩; have hB3 := Below.next hB1 hb3; obtain ⟨p0, p1, p2, p3⟩ := cell_four (kept K1.out hb3))
      | (go_at_call 7; refine (gDecode_none _).mono ?_; rintro e w4 ⟨vp, va, ok, rfl, hb4⟩; have hB4 := Below.next hB3 hb4)
      | (go_at_call 11; refine (anch17 _).mono ?_; rintro e w5 ⟨rfl, hb5⟩; have hB5 := Below.next hB4 hb5))
     go_ret
     exact ⟨rfl, hB5⟩
 · have q1' : (e3 != 0) = true := bne_iff_ne.2 q1
   clear hno
   go_wp2_with (first
    | (go_at_call 13; refine (HB3.out _ _ R3.out).mono ?_; rintro e w2 ⟨rfl, hw⟩; rw [hw]; clear hw)
    | (go_at_call 14; refine (HB7.out _ hB1).mono ?_; rintro e w3 ⟨rfl, hb3⟩; have hB3 := Below.next hB1 hb3; obtain ⟨p0, p1, p2, p3⟩ := cell_four (kept K1.out hb3))
    | (go_at_call 7; refine (gDecode_none _).mono ?_; rintro e w4 ⟨vp, va, ok, rfl, hb4⟩; have hB4 := Below.next hB1 hb4)
    | (go_at_call 11; refine (anch17 _).mono ?_; rintro e w5 ⟨rfl, hb5⟩; have hB5 := Below.next hB4 hb5))
   go_ret
   exact ⟨rfl, hB5⟩
end Go.Proofs.Ytnapbdoalfbgnaa
