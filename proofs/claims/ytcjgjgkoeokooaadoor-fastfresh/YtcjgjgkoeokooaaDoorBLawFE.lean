/-
  FastRounds' walk.
-/
import Derived.Test.YtcjgjgkoeokooaaDoorBAppZ
import Derived.Test.YtcjgjgkoeokooaaDoorBLawFD
namespace Go.Proofs.YtcjgjgkoeokooaaDoor
open Go.RowKit Fld
set_option linter.unusedVariables false

theorem rd_tr {p : Int} {wd : Bool} (hm : Md p wd) {A B : List Int} (hA : Els p A) (hB : Els p B) {N : Nat} (h : A.length + B.length ≤ N) : tr (rdL p N (over N A) (over N B)) = prd p (tr A) (tr B) := by
  have hp : 0 < p := by have := hm.bounds; omega
  have i1 := is_tr hp (els_rdL hp N (over N A) (over N B))
  have i2 := is_prd hm (hA.tr hp) (hB.tr hp) (tr_tr A) (tr_tr B)
  rw [cv_tr] at i2
  refine (i1.al (fun i => ?_)).only hp i2
  unfold rdL
  rw [co_mk]
  by_cases hi : i < N
  · rw [if_pos hi, Int.emod_emod_of_dvd _ (Int.dvd_refl p), rd_low (m := A.length) (l := B.length) (fun j hj => by rw [co_over]; exact co_out _ _ hj) (fun j hj => by rw [co_over]; exact co_out _ _ hj) (by omega)]
    congr 1
    exact cv_congr i (fun j _ => co_over _ _ _) (fun j _ => co_over _ _ _)
  · rw [if_neg hi, cv_end (m := A.length) (n := B.length) i (fun j hj => co_out _ _ hj) (fun j hj => co_out _ _ hj) (by omega)]
theorem mul_yes {f p : Int} {wd : Bool} (h : Fi f p wd) {A B : List Int} (hA : Els p A) (hB : Els p B) (hl : A.length ≤ 512 ∧ B.length ≤ 512) : mulE f A B = 0 ∧ mulL f A B = prd p (tr A) (tr B) := by
  have he := er_els h hA hB (by omega) (by omega)
  have t1 := tr_len A
  have t2 := tr_len B
  have e1 : mulE f A B = 0 := by unfold mulE; rw [if_pos he, if_neg (by omega)]
  exact ⟨e1, by unfold mulL; rw [if_pos e1, pOf_eq h]⟩
theorem prd_comm {p : Int} {wd : Bool} (hm : Md p wd) {A B : List Int} (hA : Els p A) (hB : Els p B) : prd p (tr B) (tr A) = prd p (tr A) (tr B) := by
  have hp : 0 < p := by have := hm.bounds; omega
  have i1 := is_prd hm (hA.tr hp) (hB.tr hp) (tr_tr A) (tr_tr B)
  have i2 := is_prd hm (hB.tr hp) (hA.tr hp) (tr_tr B) (tr_tr A)
  exact (i2.al (fun i => by rw [cv_comm])).only hp i1
theorem fr_facts {f p : Int} {wd : Bool} (h : Fi f p wd) {A B : List Int} (hA : Els p A) (hB : Els p B) {K1 K2 n1 n2 M : Nat} (h1 : K1 ≤ 8) (h2 : K2 ≤ 8) (e1 : n1 = 2 ^ K1) (e2 : n2 = 2 ^ K2) (l1 : A.length = n1) (l2 : B.length = n2) (hM : (n1 < n2 ∧ M = n2) ∨ (¬ n1 < n2 ∧ M = n1)) :
    rdE f (over (2 * M) A) (over (2 * M) B) = 0 ∧ tr (rdM f (over (2 * M) A) (over (2 * M) B)) = mulL f A B ∧ mulE f A B = 0 ∧ mulE f B A = 0 ∧ mulL f B A = mulL f A B := by
  have hp := h.pos
  obtain ⟨L, hL, hLe⟩ : ∃ L, L ≤ 9 ∧ 2 * M = 2 ^ L := by
    rcases hM with ⟨_, hM⟩ | ⟨_, hM⟩
    · exact ⟨K2 + 1, by omega, by rw [hM, e2, two_pow]⟩
    · exact ⟨K1 + 1, by omega, by rw [hM, e1, two_pow]⟩
  have b1 : n1 ≤ 256 := by rw [e1]; exact Nat.pow_le_pow_right (n := 2) (by decide) h1
  have b2 : n2 ≤ 256 := by rw [e2]; exact Nat.pow_le_pow_right (n := 2) (by decide) h2
  have o1 : (over (2 * M) A).length = 2 * M := over_len (by omega)
  have o2 : (over (2 * M) B).length = 2 * M := over_len (by omega)
  have r1 := rdE_yes h (els_over hp (n := 2 * M) hA) (els_over hp (n := 2 * M) hB) (L := L) (by omega) (o1.trans hLe) (o2.trans o1.symm)
  obtain ⟨m1, m2⟩ := mul_yes h hA hB (by omega)
  obtain ⟨m3, m4⟩ := mul_yes h hB hA (by omega)
  refine ⟨r1, ?_, m1, m3, ?_⟩
  · have : rdM f (over (2 * M) A) (over (2 * M) B) = rdL p (2 * M) (over (2 * M) A) (over (2 * M) B) := by unfold rdM; rw [if_pos r1, pOf_eq h, o1]
    rw [this, m2]
    exact rd_tr h.md hA hB (by omega)
  · rw [m4, m2]; exact prd_comm h.md hA hB
theorem vals_over (N : Nat) (A : List Int) : vals A ++ List.replicate (N - A.length) (.int .u64 0) = vals (over N A) := by simp [vals, over]

def capOf : Value → Nat
  | .slice _ _ c => c
  | _ => 0
/-- A copy with noughts appended. -/
theorem copy_zeros (w : World) (base : Nat) (u : Value) (A : List Int) (N k : Nat) (hO : w.ownsRow base 39 1 u A.length (vals A)) (hA : 0 < A.length) (hN : N ≤ 4096) (hk : A.length + k = N) (h0 : 0 < k) (hb : base ≤ w.heap.size) :
    ∃ g g' cap' w', u = .slice (some ⟨g, 0, none⟩) A.length (capOf u) ∧ base ≤ g ∧ (Builtin.append_ #[22, 3] 22 #[u, .int .i64 (k : Int)]).run Tryd.prog w = .ok (.slice (some ⟨g', 0, none⟩) N cap') w' ∧ w'.ownsRow base 39 1 (.slice (some ⟨g', 0, none⟩) N cap') N (vals (over N A)) ∧ w.grownBy w' (some g) := by
  obtain ⟨i0, hi0, hz0, hz1, hz2⟩ := info_parts u64_info
  rcases hO.2 with ⟨h, h2⟩ | ⟨g, cap, cur, h, hbg, _⟩
  · omega
  · subst h
    obtain ⟨g', cap', w', hr, ho, hg⟩ := run_zeros_own (P := Tryd.prog) w base 22 3 22 39 i0 (.int .u64 0) 8 .i64 .i64 Tryd.underlying22 Tryd.underlying3 hi0 hz0 hz1 hz2 (.int .u64 0) rfl rfl g A.length cap (vals A) hO k h0 (by unfold maxLen; omega) (by omega) hb
    have e : k = N - A.length := by omega
    rw [hk] at hr ho
    rw [e, vals_over] at ho
    exact ⟨g, g', cap', w', rfl, hbg, hr, ho, hg⟩

set_option maxRecDepth 100000 in
set_option maxHeartbeats 1000000 in
theorem frounds_any (f : Int) (v1 v2 : Value) (xs ys : List Int) (w : World) (hf : 0 ≤ f ∧ f ≤ 255) (h1 : Rw w v1 xs) (h2 : Rw w v2 ys) (hT : Tb w) :
    Calls Tryd.prog 7 #[.int .u8 f, v1, v2] w fun e w' => e = .returned (.bool true) ∧ Below w.heap.size w w' := by
  obtain ⟨p, wd, LL, gb, hB⟩ := pick_lb f hf.1
  have hp0 := hB.fi.pos
  have hp1 := hB.fi.top
  have L1 := hide (flist_any f p wd v1 xs 8 w hf hB.fi (by decide) h1)
  have L2 := hide (fun W (hb : Below w.heap.size w W) => flist_any f p wd v2 ys 8 W hf hB.fi (by decide) (h2.below hb))
  have GR := hide (fun W u v zs us (r : Rw W u zs) (s : Rw W v us) (hb : Below w.heap.size w W) => fRound_any (pick f) u v zs us W r s (hT.below hb))
  have GM := hide (fun W u v zs us (r : Rw W u zs) (s : Rw W v us) (hb : Below w.heap.size w W) => fMul_any (pick f) u v zs us W r s (hT.below hb))
  have GK := hide (fun W u v zs us (r : Rw W u zs) (s : Rw W v us) => fKara_any (pick f) u v zs us W r s)
  have ga := hide (fun W (hb : Below w.heap.size w W) => anch4 W (hT.below hb))
  have FF := hide (fun A B (hA : Els p A) (hB' : Els p B) K1 K2 n1 n2 M (h1 : K1 ≤ 8) (h2 : K2 ≤ 8) (e1 : n1 = 2 ^ K1) (e2 : n2 = 2 ^ K2) (l1 : A.length = n1) (l2 : B.length = n2) hM => fr_facts hB.fi hA hB' h1 h2 e1 e2 l1 l2 (M := M) hM)
  have WR := hide (fun zs us => rdM_wd (pick f) zs us)
  have WM := hide (fun zs us => mulL_wd (pick f) zs us)
  unfold Gives at GR GK
  unfold Gets at GM
  obtain ⟨a1, c1, rfl, _⟩ := h1.spell
  obtain ⟨a2, c2, rfl, _⟩ := h2.spell
  clear h1 h2 hT hB
  generalize pick f = g at *
  go_enter Tryd.func7, Tryd.ntmps7
  go_wp2_with fail
  refine L1.out.mono ?_; rintro e w1 ⟨K1, b1, n1, rfl, hK1, hn1, o1, hs1, hb1⟩
  have HN1 := hide hn1
  have hle1 : n1 ≤ 256 := by rw [hn1]; exact Nat.pow_le_pow_right (n := 2) (by decide) hK1
  have hge1 : 1 ≤ n1 := by rw [hn1]; exact Nat.pow_pos (by decide)
  obtain ⟨A, HA⟩ : ∃ A, Hid (lsL p n1 xs = A) := ⟨_, rfl⟩
  have EA : Hid (Els p A) := by rw [← HA.out]; exact els_lsL hp0 n1 xs
  have LA : Hid (A.length = n1) := by rw [← HA.out]; exact lsL_len p n1 xs
  rw [HA.out] at o1
  have RA := hide (rw_of_own o1 (by rw [LA.out]; omega) (els_words EA.out hp1))
  clear o1 hn1 HA
  go_wp2_with fail
  refine (L2.out _ hb1).mono ?_; rintro e w2 ⟨K2, b2, n2, rfl, hK2, hn2, o2, hs2, hb⟩
  have HN2 := hide hn2
  have hle2 : n2 ≤ 256 := by rw [hn2]; exact Nat.pow_le_pow_right (n := 2) (by decide) hK2
  have hge2 : 1 ≤ n2 := by rw [hn2]; exact Nat.pow_pos (by decide)
  obtain ⟨B, HB⟩ : ∃ B, Hid (lsL p n2 ys = B) := ⟨_, rfl⟩
  have EB : Hid (Els p B) := by rw [← HB.out]; exact els_lsL hp0 n2 ys
  have LB : Hid (B.length = n2) := by rw [← HB.out]; exact lsL_len p n2 ys
  rw [HB.out] at o2
  have RB := hide (rw_of_own o2 (by rw [LB.out]; omega) (els_words EB.out hp1))
  have RA := hide (RA.out.below hb)
  have hb2 := Below.next hb1 hb
  clear o2 hn2 HB hb hb1
  obtain ⟨M, HM⟩ : ∃ M, Hid ((n1 < n2 ∧ M = n2) ∨ (¬ n1 < n2 ∧ M = n1)) := by
    by_cases h : n1 < n2
    · exact ⟨n2, .inl ⟨h, rfl⟩⟩
    · exact ⟨n1, .inr ⟨h, rfl⟩⟩
  have F := hide (FF.out A B EA.out EB.out K1 K2 n1 n2 M hK1 hK2 HN1.out HN2.out LA.out LB.out HM.out)
  obtain ⟨k1, hk1, hk1'⟩ : ∃ k : Nat, 2 * (M : Int) - (n1 : Int) = (k : Int) ∧ n1 + k = 2 * M := ⟨2 * M - n1, by have := HM.out; omega, by have := HM.out; omega⟩
  obtain ⟨k2, hk2, hk2'⟩ : ∃ k : Nat, 2 * (M : Int) - (n2 : Int) = (k : Int) ∧ n2 + k = 2 * M := ⟨2 * M - n2, by have := HM.out; omega, by have := HM.out; omega⟩
  have hM1 : M ≤ 256 := by have := HM.out; omega
  have p1 : 0 < k1 := by have := HM.out; omega
  have p2 : 0 < k2 := by have := HM.out; omega
  have LO1 : Hid ((over (2 * M) A).length = 2 * M) := over_len (by rw [LA.out]; omega)
  have LO2 : Hid ((over (2 * M) B).length = 2 * M) := over_len (by rw [LB.out]; omega)
  have EO1 : Hid (Els p (over (2 * M) A)) := els_over hp0 EA.out
  have EO2 : Hid (Els p (over (2 * M) B)) := els_over hp0 EB.out
  have hcase := HM.out
  clear FF HM
  have HC1 := hide (Copy_any _ A w2 RA.out.1)
  have HZ1 := hide (fun W base u (hO : W.ownsRow base 39 1 u A.length (vals A)) hb => copy_zeros W base u A (2 * M) k1 hO (by rw [LA.out]; omega) (by omega) (by rw [LA.out]; exact hk1') p1 hb)
  have HZ2 := hide (fun W base u (hO : W.ownsRow base 39 1 u B.length (vals B)) hb => copy_zeros W base u B (2 * M) k2 hO (by rw [LB.out]; omega) (by omega) (by rw [LB.out]; exact hk2') p2 hb)
  have m0 : (0 : Int) ≤ (M : Int) := Int.natCast_nonneg _
  have m1 : (M : Int) ≤ 256 := by omega
  obtain ⟨NN, HNN⟩ : ∃ NN, Hid (2 * M = NN) := ⟨_, rfl⟩
  rw [HNN.out] at F HZ1 HZ2 LO1 LO2 EO1 EO2
  have hNN : NN ≤ 512 := by have := HNN.out; omega
  clear hk1' hk2' HNN
  have hmx : max (n1 : Int) (n2 : Int) = (M : Int) := by omega
  clear hcase
  go_wp2_with fail
  refine HC1.out.mono ?_; rintro e w3 ⟨u3, rfl, o3, hb3⟩
  obtain ⟨g3, gc, cc, w4, hu3, hg3, hr4, o4, g4⟩ := HZ1.out w3 w2.heap.size u3 o3 hb3.size
  have hb4 := hb3.grown g4 hb3.size (fun k hk => by cases hk; exact hg3)
  have hB4 := Below.next hb2 hb4
  have O4 := hide o4
  have RB4 := hide (RB.out.below hb4)
  have RA4 := hide (RA.out.below hb4)
  clear o3 o4 g4 hb3 hu3
  go_wp2_with (at_builtin; refine Lib.wpList_append_run _ rfl _ _ _ _ rfl _ _ rfl rfl _ _ hr4 ?_)
  refine (Copy_any _ B w4 RB4.out.1).mono ?_; rintro e w5 ⟨u5, rfl, o5, hb5⟩
  obtain ⟨g5, gd, cd, w6, hu5, hg5, hr6, o6, g6⟩ := HZ2.out w5 w4.heap.size u5 o5 hb5.size
  have hb6 := hb5.grown g6 hb5.size (fun k hk => by cases hk; exact hg5)
  have hB6 := Below.next hB4 hb6
  have RC := hide ((rw_of_own O4.out (by rw [LO1.out]; omega) (els_words EO1.out hp1)).below hb6)
  have RD := hide (rw_of_own o6 (by rw [LO2.out]; omega) (els_words EO2.out hp1))
  have RA6 := hide (RA4.out.below hb6)
  have RB6 := hide (RB4.out.below hb6)
  clear o5 o6 g6 hb5 hu5 O4 RA4 RB4 RA RB hb2 hb4 hB4
  go_wp2_with (at_builtin; refine Lib.wpList_append_run _ rfl _ _ _ _ rfl _ _ rfl rfl _ _ hr6 ?_)
  have t7 := hide (GR.out _ _ _ _ _ RC.out RD.out hB6)
  rw [F.out.1] at t7
  refine t7.out.mono ?_; rintro e w7 ⟨u7, rfl, o7, hb⟩
  have RR := hide ((WR.out _ _).row o7)
  have RA7 := hide (RA6.out.below hb)
  have RB7 := hide (RB6.out.below hb)
  have hB7 := Below.next hB6 hb
  clear o7 hb hB6 t7 RC RD RA6 RB6
  have t8 := hide (GM.out _ _ _ _ _ RA7.out RB7.out hB7)
  rw [F.out.2.2.1] at t8
  go_wp2_with fail
  refine t8.out.mono ?_; rintro e w8 ⟨u8, rfl, r8, hb⟩
  have RM := hide r8.1
  have RR := hide (RR.out.below hb)
  have RA8 := hide (RA7.out.below hb)
  have RB8 := hide (RB7.out.below hb)
  have hB8 := Below.next hB7 hb
  clear r8 hb hB7 t8 RA7 RB7
  have t9 := hide (GK.out _ _ _ _ _ RB8.out RA8.out)
  rw [F.out.2.2.2.1, F.out.2.2.2.2] at t9
  go_wp2_with fail
  refine t9.out.mono ?_; rintro e w9 ⟨u9, rfl, o9, hb⟩
  have RK := hide ((WM.out _ _).row o9).1
  have RM := hide (RM.out.below hb)
  have RR := hide (RR.out.below hb)
  have hB9 := Below.next hB8 hb
  clear o9 hb hB8 t9 RA8 RB8
  go_wp2_with fail
  refine (ga.out _ hB9).mono ?_; rintro e w10 ⟨rfl, hb⟩
  have RK := hide (RK.out.below hb)
  have RM := hide (RM.out.below hb)
  have RR := hide (RR.out.below hb)
  have hB10 := Below.next hB9 hb
  clear hb hB9
  have t11 := hide (rTrim_any _ _ _ RR.out)
  rw [F.out.2.1] at t11
  go_wp2_with fail
  refine t11.out.mono ?_; rintro e w11 ⟨u11, rfl, o11, hb⟩
  have RT := hide ((WM.out _ _).row o11).1
  have RK := hide (RK.out.below hb)
  have RM := hide (RM.out.below hb)
  have hB11 := Below.next hB10 hb
  clear o11 hb hB10 t11 RR
  go_wp2_with fail
  refine (Same_yes _ _ _ _ RT.out RM.out).mono ?_; rintro e w12 ⟨rfl, hb⟩
  have RK := hide (RK.out.below hb)
  have RM := hide (RM.out.below hb)
  have hB12 := Below.next hB11 hb
  clear hb hB11 RT
  go_wp2_with fail
  refine (Same_yes _ _ _ _ RM.out RK.out).mono ?_; rintro e w13 ⟨rfl, hb⟩
  have hB13 := Below.next hB12 hb
  go_wp2
  go_ret
  exact ⟨by simp, hB13⟩

end Go.Proofs.YtcjgjgkoeokooaaDoor
