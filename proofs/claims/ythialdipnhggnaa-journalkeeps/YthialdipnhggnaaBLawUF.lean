import Derived.Test.YthialdipnhggnaaBLawUE
set_option linter.unusedVariables false
set_option linter.unusedSimpArgs false
set_option maxRecDepth 100000
set_option maxHeartbeats 4000000
namespace Go.Proofs.Ythialdipnhggnaa
open Go.RowKit Fld
theorem journalKeeps_any (v : Value) (rs : List (List Int)) (f : Int) (u : Value) (cs : List Int) (w : World) (h : Bz w v rs) (hf : 0 <= f ∧ f <= 255) (hu : Rb w u cs) (hl : cs.length <= 140737488351232) :
 Calls Try.prog 6 #[v, .int .u8 f, u] w fun e w' => e = .returned (.bool true) ∧ Below w.heap.size w w' := by
 have HZ := hide (fun W (hb : Below w.heap.size w W) => h.below hb)
 have HU := hide (fun W (hb : Below w.heap.size w W) => hu.below hb)
 have hrl := h.len
 obtain ⟨ar, cr, rfl, hcr⟩ := h.spell
 obtain ⟨au, cu, rfl, hcu⟩ := hu.spell
 clear h hu
 have ga := hide (fun W => anch23 W)
 have HN := hide (one_new w)
 have HF := hide (fun W D (h : One w W D) i (hi : i <= 9223372036854775807) => one_fuse h i hi)
 have HM := hide (fun W D (h : One w W D) => one_mend h)
 have HA := hide (fun W D (h : One w W D) (hn : D.n + 100000 < 4611686018427387904) u r (hu : Rb w u r) => one_append h hn hu)
 have HO := hide (fun W D (h : One w W D) (hn : D.n < 4611686018427387904) => one_open h hn)
 have HB := hide (fun W D (h : One w W D) => one_blocks h)
 go_enter Try.func6, Try.ntmps6
 go_upto_block 0 with (first
  | (go_at_call 13; refine HN.out.mono ?_; rintro e w1 ⟨rfl, ho1⟩; have HF1 := hide (HF.out _ _ ho1 f (by omega)); clear ho1)
  | (go_at_call 19; refine HF1.out.mono ?_; rintro e w2 ⟨rfl, ho2⟩; have HO2 := hide ho2; clear ho2))
 have HJ : Hid (Jex sum8 (fuN dk0 f) (rs.take 0)) := hide (jex_new.of_l (fuN_l _ _) (fuN_ok dk0_ok f))
 go_cut [8, 9, 10] from 24 to 52 (fun v8 v9 v10 wx => ∃ (k : Nat) (E : Dsk), k <= rs.length ∧ k <= 200 ∧ v8 = .int .i64 k ∧ E.n <= 100000 * 201 ∧ Hid (Jkp sum8 E (rs.take k)) ∧ Hid (jrW (rs.take k) <= 32 * k) ∧ Hid (One w wx E))
 case first =>
  clear HU HF HM HO HB
  go_wp2_with fail
  go_loopw [8, 9] (fun vd vi wr => ∃ (k : Nat) (E : Dsk), k <= rs.length ∧ k <= 200 ∧ vd = .int .i64 k ∧ vi = .int .i64 k ∧ E.n <= 100000 * k ∧ Hid (Jex sum8 E (rs.take k)) ∧ Hid (jrW (rs.take k) <= 32 * k) ∧ Hid (One w wr E)) (fun _ vi _ => rs.length - (intOf vi).toNat)
  case atStart => exact ⟨0, _, Nat.zero_le _, Nat.zero_le _, rfl, rfl, by rw [fuN_n]; exact Nat.zero_le _, HJ, hide (Nat.zero_le _), HO2⟩
  case round =>
   clear HJ HO2
   obtain ⟨k, E, hk, hk2, rfl, rfl, hEn, HJ, HW, HE⟩ := hrel
   have ii0 : (0 : Int) <= (k : Int) := by omega
   by_cases hlt : k < rs.length
   · have ii1 : (k : Int) < (rs.length : Int) := by omega
     by_cases h200 : k < 200
     · have ii2 : (k : Int) < 200 := by omega
       obtain ⟨b, off, u, rfl, hb, hc, hrb⟩ := (HZ.out w (Below.refl _ w)).at_ hlt
       have hc := (HE.out.low.cell (p := ⟨b, off + k, none⟩) hb).trans hc
       have HA1 := hide (HA.out _ _ HE.out (by omega) _ _ hrb)
       have hrl2 := hrb.len
       obtain ⟨a1, c1, rfl, _⟩ := hrb.spell
       clear HZ HA hrb
       have hEn2 := apN23_n E (rs.getD k [])
       by_cases hr : (rs.getD k []).length <= 1000
       · have HK := hide (HJ.out.keep hlt h200 HW.out hr)
         have HJk := hide HJ.out.kp
         clear HJ HE
         generalize rs.getD k [] = r at *
         generalize apN23 sum8 E r = E' at *
         rcases HK.out with ⟨e0, hJ, hW⟩ | ⟨e0, hJ⟩
         · rw [e0] at HA1
           have HJ' := hide hJ
           have HW' := hide hW
           clear HK e0 hJ hW HW
           go_wp2_with (go_at_call 15; refine HA1.out.mono ?_; rintro e w3 ⟨rfl, ho3⟩; have HO3 := hide ho3; clear ho3)
           go_roundw
           case rel => exact ⟨k + 1, E', by omega, by omega, by go_num, by go_num, by omega, HJ', HW', HO3⟩
           case measure => simp [intOf]; omega
         · rw [e0] at HA1
           have HJ' := hide hJ
           clear HK e0 hJ
           go_wp2_with (go_at_call 15; refine HA1.out.mono ?_; rintro e w3 ⟨rfl, ho3⟩; have HO3 := hide ho3; clear ho3)
           go_meet
           exact ⟨k, E', hk, hk2, rfl, by omega, HJ', HW, HO3⟩
       · have hr' : (1000 : Int) < ((rs.getD k []).length : Int) := by omega
         generalize rs.getD k [] = r at *
         clear HA1 HJ HW
         go_wp2_with (go_at_call 12; refine (ga.out _).mono ?_; rintro e w5 ⟨rfl, hb5⟩; have HT5 := hide (HE.out.below hb5); clear hb5)
         go_ret
         exact ⟨by simp, HT5.out.low⟩
     · have hk200 : k = 200 := by omega
       subst hk200
       clear HZ HA
       go_wp2
       go_meet
       exact ⟨200, E, hk, hk2, rfl, by omega, hide HJ.out.kp, HW, HE⟩
   · have hkl : k = rs.length := by omega
     subst hkl
     clear HZ HA
     go_wp2
     go_meet
     exact ⟨_, E, hk, hk2, rfl, by omega, hide HJ.out.kp, HW, HE⟩
 case rest =>
  obtain ⟨k, E, hk, hk2, rfl, hEn, HJ2, HW, HE⟩ := hcut
  clear HA HN HJ HO2
  go_upto_block 2 with fail
  go_cut [11] from 53 to 73 (fun _ wx => ∃ E : Dsk, E.n <= 100000 * 252 ∧ Hid (Jkp sum8 E (rs.take k)) ∧ Hid (One w wx E))
  case first =>
   go_wp2_with fail
   go_loopw [11] (fun vi wr => ∃ (j : Nat) (E : Dsk), j <= cs.length ∧ j <= 50 ∧ vi = .int .i64 j ∧ E.n <= 100000 * (j + 201) ∧ Hid (Jkp sum8 E (rs.take k)) ∧ Hid (One w wr E)) (fun vi _ => cs.length - (intOf vi).toNat)
   case atStart => exact ⟨0, E, Nat.zero_le _, Nat.zero_le _, rfl, by omega, HJ2, HE⟩
   case round =>
    clear HJ2 HE hEn
    clear E
    obtain ⟨j, E, hj, hj2, rfl, hEn, HJ, HE⟩ := hrel
    have ii0 : (0 : Int) <= (j : Int) := by omega
    by_cases hlt : j < cs.length
    · have ii1 : (j : Int) < (cs.length : Int) := by omega
      by_cases h50 : j < 50
      · have ii2 : (j : Int) < 50 := by omega
        obtain ⟨b, off, cap', hv, _, _⟩ := (HU.out w (Below.refl _ w)).form (by omega)
        injection hv with hv1 hv2 hv3
        subst hv1 hv3
        obtain ⟨hb, hc, hx⟩ := (HU.out w (Below.refl _ w)).at_ hlt
        have HC := hide (fun W D (h : One w W D) => (h.low.cell (p := ⟨b, off + j, none⟩) hb).trans hc)
        clear hc
        generalize cs.getD j 0 = i at *
        have HM1 := hide (HM.out _ _ HE.out)
        have HF1 := hide (fun W (h : One w W (mdN E)) => HF.out _ _ h i (by omega))
        have HJ1 := hide (HJ.out.cut i)
        have hn1 := cut_n E i
        have hn2 : (fuN (mdN E) i).n < 4611686018427387904 := by rw [fuN_n, mdN_n]; omega
        have HO1 := hide (fun W (h : One w W (fuN (mdN E) i)) => HO.out _ _ h hn2)
        clear HU HM HF HO HE HJ hn2
        generalize opN23 sum8 (fuN (mdN E) i) = E' at *
        have hn3 : E'.n <= 100000 * (j + 202) := by omega
        go_wp2_with (first
         | (go_at_call 21; refine HM1.out.mono ?_; rintro e w3 ⟨rfl, ho3⟩; have hc3 := HC.out _ _ ho3; have HF2 := hide (HF1.out _ ho3); clear ho3)
         | (go_at_call 19; refine HF2.out.mono ?_; rintro e w4 ⟨rfl, ho4⟩; have HO2 := hide (HO1.out _ ho4); clear ho4)
         | (go_at_call 17; refine HO2.out.mono ?_; rintro e w5 ⟨a5, c5, rfl, ho5, _⟩; have HO5 := hide ho5; clear ho5))
        go_roundw
        case rel => exact ⟨j + 1, E', by omega, by omega, by go_num, hn3, HJ1, HO5⟩
        case measure => simp [intOf]; omega
      · have hj50 : j = 50 := by omega
        subst hj50
        clear HU HF HM HO
        go_wp2
        go_meet
        exact ⟨E, by omega, HJ, HE⟩
    · have hjl : j = cs.length := by omega
      subst hjl
      clear HU HF HM HO
      go_wp2
      go_meet
      exact ⟨E, by omega, HJ, HE⟩
  case rest =>
   clear HJ2 HE hEn
   clear E
   obtain ⟨E, hEn, HJ, HE⟩ := hcut
   clear HU HF
   have HM1 := hide (HM.out _ _ HE.out)
   obtain ⟨q1, q2, q3⟩ := HJ.out.last
   have HO1 := hide (fun W (h : One w W (mdN E)) => HO.out _ _ h (by rw [mdN_n]; omega))
   rw [q1, q2] at HO1
   have Q3 := hide q3
   have hlk : (rs.take k).length = k := by rw [List.length_take]; omega
   simp only [hlk] at HO1
   clear q1 q2 q3 HM HO HE HJ
   generalize opN23 sum8 (mdN E) = E' at *
   have kk1 : (k : Int) <= (rs.length : Int) := by omega
   have kk2 : decide (rs.length < k) = false := decide_eq_false (by omega)
   go_upto_block 4 with (first
    | (go_at_call 21; refine HM1.out.mono ?_; rintro e w3 ⟨rfl, ho3⟩; have HO2 := hide (HO1.out _ ho3); clear ho3)
    | (go_at_call 17; refine HO2.out.mono ?_; rintro e w5 ⟨a5, c5, rfl, ho5, hz5⟩; have HO5 := hide ho5; have HZ5 := hide (fun W (hb : Below w5.heap.size w5 W) => hz5.below hb); clear ho5 hz5))
   clear HM1 HO1 HO2
   clear kk1 kk2
   go_wp2_with fail
   go_loopw [14] (fun vi wr => ∃ i : Nat, i <= k ∧ vi = .int .i64 i ∧ Below w5.heap.size w5 wr) (fun vi _ => k - (intOf vi).toNat)
   case atStart => exact ⟨0, Nat.zero_le _, rfl, Below.refl _ _⟩
   case round =>
    obtain ⟨i, hi, rfl, hB⟩ := hrel
    have ii0 : (0 : Int) <= (i : Int) := by omega
    by_cases hlt : i < k
    · have ii1 : (i : Int) < (k : Int) := by omega
      have ii2 : (i : Int) < (rs.length : Int) := by omega
      have hB1 : Below w5.heap.size w5 wr.drew := Below.next hB (Below.refl _ wr).drew
      obtain ⟨b1, o1, u1, rfl, hb1, hc1, hr1⟩ := (HZ5.out _ hB1).at_ (k := i) (by omega)
      obtain ⟨b2, o2, u2, rfl, hb2, hc2, hr2⟩ := (HZ.out _ (HO5.out.below hB1).low).at_ (k := i) (by omega)
      rw [getD_take23 hlt] at hr1
      have hS := rSame8 _ _ _ _ _ hr1 hr2
      rw [decide_eq_true rfl] at hS
      have HS := hide hS
      obtain ⟨a1, l1, rfl, _⟩ := hr1.spell
      obtain ⟨a2, l2, rfl, _⟩ := hr2.spell
      have hS0 := And.intro hc1 hc2
      generalize rs.getD i [] = r at *
      clear hc1 hc2 hr1 hr2 hS HZ HZ5 HO5
      go_upto_region 29 with fail
      refine wp_region_held_drew (S := (fun V => V.cell? ⟨b1, o1 + i, none⟩ = some (.slice a1 r.length l1) ∧ V.cell? ⟨b2, o2 + i, none⟩ = some (.slice a2 r.length l2))) (by kernel_rfl) (by ((try dsimp only) <;> (with_reducible exact hS0))) (fun hHeld => ?_)
      refine tkY 0 ?_
      refine tkY 1 ?_
      refine tkY 2 ?_
      refine tkY 3 ?_
      refine tkY 4 ?_
      refine tkY 5 ?_
      refine tkY 6 ?_
      refine tkY 7 ?_
      refine rd1 8 (fun K hK => ?_)
      (try simp only [ly0, ly1, ly2, ly3, ly4, ly5, ly6, ly7])
      go_simp
      (go_at_call 27; refine HS.out.mono ?_; rintro e w7 ⟨rfl, hw7⟩; rw [hw7]; clear hw7)
      first | refine hK.out _ _ ?k15 (fun hHeld => ?_) | (go_wp2_with fail; refine hK.out _ _ ?k15 (fun hHeld => ?_))
      case k15 => ((try dsimp only) <;> (with_reducible exact hS0))
      clear hK K
      (try simp only [ly0, ly1, ly2, ly3, ly4, ly5, ly6, ly7])
      refine tkY 9 ?_
      refine wpAnyH_done (by kernel_rfl) ?_ _
      clear hS0
      go_wp2
      go_roundw
      case rel => exact ⟨i + 1, by omega, by go_num, hB1⟩
      case measure => simp [intOf]; omega
    · obtain rfl : i = k := by omega
      have HO6 := hide (HO5.out.below hB)
      have HZ6 := hide (HZ5.out _ hB)
      clear HZ HZ5 HO5 hB
      go_wp2_with fail
      go_loopw [15, 16] (fun vs vi wq => ∃ j : Nat, j <= i ∧ vi = .int .i64 j ∧ vs = .int .i64 ((jrW (rs.take j) : Nat) : Int) ∧ wq = wr) (fun _ vi _ => i - (intOf vi).toNat)
      case atStart => exact ⟨0, Nat.zero_le _, rfl, rfl, rfl⟩
      case round =>
       obtain ⟨j, hj, rfl, rfl, rfl⟩ := hrel
       have jj0 : (0 : Int) <= (j : Int) := by omega
       by_cases hlt : j < i
       · have jj1 : (j : Int) < (i : Int) := by omega
         obtain ⟨b1, o1, u1, rfl, hb1, hc1, hr1⟩ := HZ6.out.at_ (k := j) (by omega)
         rw [getD_take23 hlt] at hr1
         have HS := hide (gSize23 _ _ _ hr1)
         have hm := jrW_mono (rs := rs) (show j + 1 <= i by omega)
         have hn := jrW_snoc (rs := rs) (k := j) (by omega)
         have hw := HW.out
         obtain ⟨a1, l1, rfl, _⟩ := hr1.spell
         clear hr1 HZ6 HO6 Q3 HW
         generalize rs.getD j [] = r at *
         generalize jrW (rs.take j) = m1 at *
         generalize jrN r.length = m3 at *
         have m1b : (m1 : Int) + m3 <= 6400 := by omega
         have HN := hide hn
         clear hm hw hn
         go_wp2_with (go_at_call 10; refine HS.out.mono ?_; rintro e w7 ⟨rfl, hw7⟩; rw [hw7]; clear hw7)
         go_roundw
         case rel => exact ⟨j + 1, by omega, by go_num, by rw [HN.out]; go_num, trivial⟩
         case measure => simp [intOf]; omega
       · obtain rfl : j = i := by omega
         have HB1 := hide (fun W (h : One w W E') => HB.out _ _ h)
         rw [Q3.out] at HB1
         clear HZ6 HB Q3 HW
         generalize jrW (rs.take j) = m at *
         go_wp2_with (first
          | (go_at_call 12; refine (ga.out _).mono ?_; rintro e w8 ⟨rfl, hb8⟩; have HO8 := hide (HO6.out.below hb8); have HB8 := hide (HB1.out _ HO8.out); clear hb8)
          | (go_at_call 26; refine HB8.out.mono ?_; rintro e w9 ⟨a9, c9, rfl, hb9⟩; have HO9 := hide (HO8.out.below hb9); clear hb9))
         go_ret
         exact ⟨by simp, HO9.out.low⟩
end Go.Proofs.Ythialdipnhggnaa
