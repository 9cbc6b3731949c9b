/-
  PolyDivides' walk.
-/
import Derived.Test.YtdegpefhegmamaaLawPBack
import Derived.Test.YtdegpefhegmamaaPolP
import Derived.Test.YtdegpefhegmamaaPolQ
namespace Go.Proofs.Ytdegpefhegmamaa
open Go.RowKit Fld
set_option linter.unusedVariables false

theorem DvE.wd {f : Int} {xs ys A B : List Int} (hx : ∀ x ∈ xs, 0 ≤ x ∧ x ≤ 18446744073709551615) (hy : ∀ x ∈ ys, 0 ≤ x ∧ x ≤ 18446744073709551615) (h : DvE f xs ys A B) : Wd A ∧ Wd B := by
  by_cases he : divE f xs ys = 0
  · obtain ⟨p, wd, hf, i1, i2, m1, m2⟩ := er_zero (divE_zero he).1
    have h1 := h.2 he
    rw [pOf_eq hf] at h1
    have := back_facts hf (els_of i1 hx) (els_of i2 hy) m1 m2 h1
    exact ⟨this.2.2.2.2.1, this.2.2.2.2.2⟩
  · have h1 := h.1 he
    rw [h1.1, h1.2]; exact ⟨wd_nil, wd_nil⟩
theorem intoE_zero {f : Int} {xs ys : List Int} (h : intoE f xs ys = 0) : er f xs ys = 0 := by
  unfold intoE at h
  by_cases he : er f xs ys = 0
  · exact he
  · rw [if_neg he] at h; exact absurd h he
theorem intoL_wd (f : Int) (xs ys : List Int) : Wd (intoL f xs ys) := by
  unfold intoL; split
  · rename_i he
    obtain ⟨p, wd, h, _, _, m1, m2⟩ := er_zero (intoE_zero he)
    rw [pOf_eq h]
    refine wd_els ((els_mk_mod h.pos _ (into (co (tr ys)) (tr xs))).tr h.pos) h.top (Nat.le_trans (tr_len _) ?_)
    rw [mk_len]
    have n1 := tr_len xs
    have n2 := tr_len ys
    have := Nat.mul_le_mul (show (tr xs).length ≤ 4096 by omega) (show (tr ys).length ≤ 4096 by omega)
    omega
  · exact wd_nil

set_option maxRecDepth 100000 in
set_option maxHeartbeats 1000000 in
theorem pdivs_any (f : Int) (v1 v2 : Value) (xs ys : List Int) (w : World) (h1 : Rw w v1 xs) (h2 : Rw w v2 ys) :
    Calls Try.prog 6 #[.int .u8 f, v1, v2] w fun e w' => e = .returned (.bool true) ∧ Below w.heap.size w w' := by
  have g1 := hide (pDivMod_any f v1 v2 xs ys w h1 h2)
  have g2 := hide (fun W (hb : Below w.heap.size w W) => dDivMod_any f v1 v2 xs ys W (h1.below hb) (h2.below hb))
  have g3 := hide (fun W (hb : Below w.heap.size w W) => pInto_any f v1 v2 xs ys W (h1.below hb) (h2.below hb))
  have g4 := hide (fun W (hb : Below w.heap.size w W) => dInto_any f v1 v2 xs ys W (h1.below hb) (h2.below hb))
  unfold Parts at g1
  unfold PartsD at g2
  unfold Gives at g3 g4
  have d1 := hide (intoL_wd f xs ys)
  have HO := hide (fun A B C D (h : DvE f xs ys A B) (k : DvE f xs ys C D) => h.only h2.words k)
  have HWd := hide (fun A B (h : DvE f xs ys A B) => h.wd h1.words h2.words)
  generalize intoL f xs ys = M at *
  generalize intoE f xs ys = e1 at *
  generalize divE f xs ys = e0 at *
  clear h1 h2
  go_enter Try.func6, Try.ntmps6
  go_wp2_with fail
  refine g1.out.mono ?_; rintro e w1 ⟨u1, u2, A, B, b, rfl, hS, hOq, hOr, _, _, hb1⟩
  have R1 := hide ((HWd.out A B hS).1.row hOq).1
  have R2 := hide ((HWd.out A B hS).2.row hOr).1
  clear hOq hOr
  go_wp2_with fail
  refine (g2.out _ hb1).mono ?_; rintro e w2 ⟨u3, u4, C, D, rfl, hT, hOq, hOr, hb⟩
  obtain ⟨rfl, rfl⟩ := HO.out A B C D hS hT
  have R3 := hide ((HWd.out A B hS).1.row hOq).1
  have R4 := hide ((HWd.out A B hS).2.row hOr).1
  have R1 := hide (R1.out.below hb)
  have R2 := hide (R2.out.below hb)
  have hb2 := Below.next hb1 hb
  clear hOq hOr hb hS hT
  go_wp2_with fail
  refine (g3.out _ hb2).mono ?_; rintro e w3 ⟨u5, rfl, hO5, hb⟩
  have R1 := hide (R1.out.below hb)
  have R2 := hide (R2.out.below hb)
  have R3 := hide (R3.out.below hb)
  have R4 := hide (R4.out.below hb)
  have R5 := hide (d1.out.row hO5).1
  have hb3 := Below.next hb2 hb
  clear hO5 hb
  go_wp2_with fail
  refine (g4.out _ hb3).mono ?_; rintro e w4 ⟨u6, rfl, hO6, hb⟩
  have R1 := hide (R1.out.below hb)
  have R2 := hide (R2.out.below hb)
  have R3 := hide (R3.out.below hb)
  have R4 := hide (R4.out.below hb)
  have R5 := hide (R5.out.below hb)
  have R6 := hide (d1.out.row hO6).1
  have hb4 := Below.next hb3 hb
  clear hO6 hb
  go_wp2_with fail
  refine (Same_yes u1 u3 A _ R1.out R3.out).mono ?_; rintro e w5 ⟨rfl, hb⟩
  have R2 := hide (R2.out.below hb)
  have R4 := hide (R4.out.below hb)
  have R5 := hide (R5.out.below hb)
  have R6 := hide (R6.out.below hb)
  have hb5 := Below.next hb4 hb
  clear hb
  go_wp2_with fail
  refine (Same_yes u2 u4 B _ R2.out R4.out).mono ?_; rintro e w6 ⟨rfl, hb⟩
  have R5 := hide (R5.out.below hb)
  have R6 := hide (R6.out.below hb)
  have hb6 := Below.next hb5 hb
  clear hb
  go_wp2_with fail
  refine (Same_yes u5 u6 M _ R5.out R6.out).mono ?_; rintro e w7 ⟨rfl, hb⟩
  have hb7 := Below.next hb6 hb
  go_wp2
  go_ret
  exact ⟨by simp, hb7⟩

end Go.Proofs.Ytdegpefhegmamaa
