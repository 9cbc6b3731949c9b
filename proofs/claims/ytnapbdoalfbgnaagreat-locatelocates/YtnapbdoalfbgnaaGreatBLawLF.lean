import Derived.Test.YtnapbdoalfbgnaaGreatBLawLA
import Derived.Test.YtnapbdoalfbgnaaGreatBLodH
import Derived.Test.YtnapbdoalfbgnaaGreatBLodI
set_option linter.unusedVariables false
set_option linter.unusedSimpArgs false
set_option maxRecDepth 100000
set_option maxHeartbeats 4000000
namespace Go.Proofs.YtnapbdoalfbgnaaGreat
open Go.RowKit Fld
theorem zeroL_wd17 (f : Int) (xs : List Int) : Wd (zeroL f xs) := by
 unfold zeroL
 by_cases he : chk f [xs] = 0
 · obtain ⟨p, wd, hf, _, hl⟩ := chk_one he
   rw [if_pos he, pOf_eq hf]; exact zl_wd hf.md hf.top xs (by omega)
 · rw [if_neg he]; exact wd_nil
theorem lcL_wd (f : Int) (xs at' : List Int) : Wd (lcL f xs at') := by
 unfold lcL
 split
 · exact zeroL_wd17 f _
 · exact wd_nil
theorem locLocates_any (f : Int) (v1 v2 : Value) (ao : Option Addr) (ln cp : Nat) (xs ys at' : List Int) (d k : Int) (w : World) (h1 : Rw w v1 xs) (h2 : Rw w v2 ys) (h3 : Lm iw 1 w (.slice ao ln cp) at') (hi : Iw at') (hb8 : at'.length * 8 ≤ 140737488351232) :
 Calls Tryz.prog 3 #[.int .u8 f, .agg #[v1, v2, .int .i64 d, .int .i64 k], .slice ao ln cp] w fun e w' => e = .returned (.bool true) ∧ Below w.heap.size w w' := by
 obtain ⟨ao', cp', e9, _⟩ := h3.spell
 injection e9 with e91 e92 e93
 subst e92
 clear e91 e93
 have HG := hide (fun W (hb : Below w.heap.size w W) => gLocator f v1 ao cp xs at' W (h1.below hb) (h3.below hb) hi hb8)
 have HD := hide (fun W (hb : Below w.heap.size w W) => dLocator f v1 ao cp xs at' W (h1.below hb) (h3.below hb) hi hb8)
 unfold Gives at HG HD
 have HGa := hide (fun W (hb : Below w.heap.size w W) => gAgree f v2 v1 v2 ys xs ys W (h2.below hb) (h1.below hb) (h2.below hb))
 have HDa := hide (fun W (hb : Below w.heap.size w W) => dAgree f v2 v1 v2 ys xs ys W (h2.below hb) (h1.below hb) (h2.below hb))
 have HW := hide (lcL_wd f xs at')
 obtain ⟨b0, B0'⟩ := pts_box w v1 v2 d k
 have K0 := hide b0
 have B0 := hide B0'
 obtain ⟨a1, c1, rfl, _⟩ := h1.spell
 obtain ⟨a2, c2, rfl, _⟩ := h2.spell
 obtain ⟨k0, k1, k2, k3⟩ := cell_four b0
 clear h1 h2 h3 hi b0 B0'
 generalize lcE f xs at' = e1 at *
 generalize lcL f xs at' = L at *
 generalize agV f ys xs ys = m1 at *
 generalize agE f ys xs ys = m2 at *
 generalize xs.length = nx at *
 generalize ys.length = ny at *
 generalize at'.length = na at *
 obtain ⟨ll, Hll⟩ : ∃ n, Hid (L.length = n) := ⟨_, rfl⟩
 rw [Hll.out] at HG HD
 have he : (e1 == e1) = true := by simp
 have hm1 : (m1 == m1) = true := by simp
 have hm2 : (m2 == m2) = true := by simp
 go_enter Tryz.func3, Tryz.ntmps3
 go_wp2_with fail
 refine (HG.out _ B0.out).mono ?_
 rintro e w1 ⟨va, rfl, o1, hb1⟩
 have hB1 := Below.next B0.out hb1
 have K1 := hide (kept K0.out hb1)
 obtain ⟨m0, m1', m2', m3⟩ := cell_four K1.out
 obtain ⟨aa, ca, rfl⟩ := own_form o1
 have R1 := hide (HW.out.row o1)
 clear k0 k1 k2 k3 o1 HG
 go_wp2_with fail
 refine (HD.out _ hB1).mono ?_
 rintro e w2 ⟨vb, rfl, o2, hb2⟩
 have hB2 := Below.next hB1 hb2
 have K2 := hide (kept K1.out hb2)
 obtain ⟨p0, p1, p2, p3⟩ := cell_four K2.out
 obtain ⟨ab, cb, rfl⟩ := own_form o2
 have R2 := hide (HW.out.row o2)
 have R12 := hide (R1.out.below hb2)
 clear m0 m1' m2' m3 o2 HD K0 K1
 go_wp2_with fail
 refine (HGa.out _ hB2).mono ?_
 rintro e w3 ⟨rfl, hb3⟩
 have hB3 := Below.next hB2 hb3
 have K3 := hide (kept K2.out hb3)
 obtain ⟨q0, q1, q2, q3⟩ := cell_four K3.out
 clear p0 p1 p2 p3 HGa
 go_wp2_with fail
 refine (HDa.out _ hB3).mono ?_
 rintro e w4 ⟨rfl, hb4⟩
 have hB4 := Below.next hB3 hb4
 have hb24 := Below.next hb3 hb4
 clear q0 q1 q2 q3 HDa
 go_wp2_with (first
  | (go_at_call 8; refine (Same_yes _ _ L _ (R12.out.below hb24).1 (R2.out.below hb24).1).mono ?_; rintro e w5 ⟨rfl, hb5⟩; have hB5 := Below.next hB4 hb5)
  | (go_at_call 9; refine (anch17 _).mono ?_; rintro e w6 ⟨rfl, hb6⟩; have hB6 := Below.next hB5 hb6))
 go_ret
 exact ⟨rfl, hB6⟩
end Go.Proofs.YtnapbdoalfbgnaaGreat
