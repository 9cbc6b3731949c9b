/-
  Euclid: the program's Ratio, or its errors.
-/
import Derived.Test.YtdgcnockccjdjabBEucG
namespace Go.Proofs.Ytdgcnockccjdjab
open Go.RowKit Fld
set_option linter.unusedVariables false

set_option maxRecDepth 100000 in
set_option maxHeartbeats 400000 in
theorem eRatio_any (f : Int) (vg vm : Value) (g m : List Int) (s : Int) (w : World) (h1 : Rw w vg g) (h2 : Rw w vm m) :
    Calls Try.prog 5 #[.int .u8 f, vg, vm, .int .i64 s] w fun e w' => ∃ v1 v2 n d ok, e = .returned (.tuple #[v1, v2, .bool ok, .int .i64 (raE f g m s)]) ∧ Rw w' v1 n ∧ Rw w' v2 d ∧ RaE f g m s n d ok ∧ Below w.heap.size w w' := by
  have hk := hide (eStop_any f vg vm g m s w h1 h2)
  by_cases he : stE f g m s = 0
  · obtain ⟨hs, hc⟩ := stE_zero he
    obtain ⟨p, wd, hf, i1, i2, lg, lm⟩ := chE_zero hc
    have e1 := els_of i1 h1.words
    have e2 := els_of i2 h2.words
    have hdg := hide (fun W (hb : Below w.heap.size w W) => Degree_any vm m W (h2.below hb))
    by_cases hn : tr m = []
    · have hE : raE f g m s = 5 := by unfold raE; rw [if_pos he, if_pos hn]
      have HP : Hid (RaE f g m s [] [] false) := ⟨fun _ => ⟨rfl, rfl, rfl⟩, fun h0 => by rw [hE] at h0; cases h0⟩
      have e : (((tr m).length : Int) - 1) = -1 := by rw [hn]; rfl
      rw [e] at hdg
      rw [hE]
      rw [he] at hk
      clear h1 h2 hf he e e1 e2 hn hE hc
      go_enter Try.func5, Try.ntmps5
      go_wp2_with fail
      refine hk.out.mono ?_; rintro e w1 ⟨rfl, hb1⟩
      go_wp2_with fail
      refine (hdg.out _ hb1).mono ?_; rintro e w9 ⟨rfl, hb9⟩
      go_wp2
      refine bodyPost_ret (v := .tuple #[.slice none 0 0, .slice none 0 0, .bool false, .int .i64 5]) ?_ rfl ⟨_, _, _, _, _, rfl, rw0 _, rw0 _, HP.out, Below.next hb1 hb9⟩
      simp [results, Try.results5, go_sem]
    · have hE : raE f g m s = 0 := by unfold raE; rw [if_pos he, if_neg hn]
      have HP : Hid (∀ A B n d ok, Fnd p s.toNat m g A B → Ra p B.x B.v n d ok → RaE f g m s n d ok) := fun A B n d ok hv hr => ⟨fun h0 => absurd hE h0, fun _ => ⟨A, B, by rw [pOf_eq hf]; exact hv, by rw [pOf_eq hf]; exact hr⟩⟩
      have hd := hide (fun W (hb : Below w.heap.size w W) => descend_any f p wd vm vg m g s W hf (h2.below hb) (h1.below hb) e2 e1 lm lg hs)
      have HE : Hid (∀ A B, Fnd p s.toNat m g A B → divE f B.x B.v = if B.v = [] then 5 else 0) := fun A B hv => by
        have hl := hv.alen hf.md e2 e1 lm lg
        have ht := hv.tm hf.md e2 e1
        exact div_ok hf ht.1.1 ht.2.2.1 (by omega) (by omega)
      have HT := hide (fun W v A B (hv : Fnd p s.toNat m g A B) (hr : Rw W v B.v) => byTop_any f p wd v B.v W hf hr (hv.tm hf.md e2 e1).2.2.1 (by have := hv.alen hf.md e2 e1 lm lg; omega))
      have HDV : Hid (∀ A B n t, Fnd p s.toNat m g A B → B.v ≠ [] → DvE f B.x B.v n t → Dv p B.x B.v n t ∧ Wd n ∧ Wd t ∧ tr t = t) := fun A B n t hv h0 hs => by
        have hl := hv.alen hf.md e2 e1 lm lg
        have ht := hv.tm hf.md e2 e1
        have hdv := hs.dv hf (by rw [HE.out A B hv, if_neg h0])
        have hw := dv_wd hf.md hf.top ht.2.2.1.1 hdv (by omega) (by omega)
        exact ⟨hdv, hw.1, hw.2, hdv.rg.2.1.2⟩
      have hpos := List.length_pos_iff.2 hn
      have ht : ¬ ((tr m).length : Int) - 1 < 0 := by omega
      rw [hE]
      rw [he] at hk
      clear h1 h2 hf he e1 e2 hn hE hpos hc
      generalize (tr m).length = nm at *
      go_enter Try.func5, Try.ntmps5
      go_wp2_with fail
      refine hk.out.mono ?_; rintro e w1 ⟨rfl, hb1⟩
      go_wp2_with fail
      refine (hdg.out _ hb1).mono ?_; rintro e w9 ⟨rfl, hb9⟩
      have hb1 := Below.next hb1 hb9
      clear hb9
      go_wp2_with fail
      refine (hd.out _ hb1).mono ?_; rintro e w2 ⟨c0, c1, c2, d0, d1, d2, A, B, rfl, RA, RB, hv, hb2⟩
      obtain ⟨x1, y1, rfl, _⟩ := RA.1.spell
      obtain ⟨x2, y2, rfl, _⟩ := RA.2.1.spell
      obtain ⟨x3, y3, rfl, _⟩ := RA.2.2.spell
      obtain ⟨x4, y4, rfl, _⟩ := RB.1.spell
      obtain ⟨x5, y5, rfl, _⟩ := RB.2.1.spell
      obtain ⟨x6, y6, rfl, _⟩ := RB.2.2.spell
      have hb3 := Below.next hb1 hb2
      have HA := hide (al_two w2 42 _ _ _ _ _ _ A B RA RB)
      clear RA RB
      go_wp2_with fail
      have hb4 := Below.next hb3 HA.out.2.2.2.2
      have HD := hide (pDivMod_any f _ _ B.x B.v _ HA.out.2.2.2.1.1 HA.out.2.2.2.1.2.2)
      unfold Parts at HD
      rw [HE.out A B hv] at HD
      refine HD.out.mono ?_; rintro e w5 ⟨vq, vr, N, R, b', rfl, hS, hOq, hOr, _, _, hb5⟩
      have RB := HA.out.2.2.2.1.below hb5
      obtain ⟨q1, q2, q3⟩ := (HA.out.2.1.below hb5).cell
      have hb6 := Below.next hb4 hb5
      by_cases hz : B.v = []
      · have HZ := hide (HP.out A B [] [] false hv (.inr ⟨rfl, rfl, rfl, .inl hz⟩))
        rw [if_pos hz]
        clear RB HD
        go_wp2
        refine bodyPost_ret (v := .tuple #[.slice none 0 0, .slice none 0 0, .bool false, .int .i64 0]) ?_ rfl ⟨_, _, _, _, _, rfl, rw0 _, rw0 _, HZ.out, hb6⟩
        simp [results, Try.results5, go_sem]
      · rw [if_neg hz]
        have HQ := hide (HDV.out A B N R hv hz hS)
        have HN := hide (HQ.out.2.1.row hOq)
        have HR := hide (HQ.out.2.2.1.row hOr)
        have HG := hide (Degree_any vr R w5 HR.out)
        rw [HQ.out.2.2.2] at HG
        have HRB := hide RB
        clear hOq hOr HD RB
        by_cases hr : R = []
        · have e : ((R.length : Int) - 1) = -1 := by rw [hr]; rfl
          rw [e] at HG
          clear e
          go_wp2_with fail
          refine HG.out.mono ?_; rintro e w6 ⟨rfl, hb7⟩
          have HRB := hide (HRB.out.below hb7)
          have HN := hide (HN.out.below hb7)
          obtain ⟨q1, q2, q3⟩ := ((HA.out.2.1.below hb5).below hb7).cell
          have hb8 := Below.next hb6 hb7
          go_wp2_with fail
          refine (HT.out _ _ A B hv HRB.out.2.2).mono ?_; rintro e w7 ⟨v', d, rfl, hrd, hg, hb9⟩
          have HN := hide (HN.out.below hb9)
          have HZ := hide (HP.out A B N d true hv (.inl ⟨rfl, hz, by have := HQ.out.1; rw [hr] at this; exact this, hg⟩))
          go_wp2
          refine bodyPost_ret (v := .tuple #[vq, v', .bool true, .int .i64 0]) ?_ rfl ⟨_, _, _, _, _, rfl, HN.out, hrd, HZ.out, Below.next hb8 hb9⟩
          simp [results, Try.results5, go_sem]
        · have hrp := List.length_pos_iff.2 hr
          have HZ := hide (HP.out A B [] [] false hv (.inr ⟨rfl, rfl, rfl, .inr ⟨N, R, HQ.out.1, hr⟩⟩))
          have hge : (0 : Int) ≤ (R.length : Int) - 1 := by omega
          go_wp2_with fail
          refine HG.out.mono ?_; rintro e w6 ⟨rfl, hb7⟩
          go_wp2
          refine bodyPost_ret (v := .tuple #[.slice none 0 0, .slice none 0 0, .bool false, .int .i64 0]) ?_ rfl ⟨_, _, _, _, _, rfl, rw0 _, rw0 _, HZ.out, Below.next hb6 hb7⟩
          simp [results, Try.results5, go_sem]
  · have ht : (stE f g m s != 0) = true := bne_iff_ne.2 he
    have hE : raE f g m s = stE f g m s := by unfold raE; rw [if_neg he]
    have HP : Hid (RaE f g m s [] [] false) := ⟨fun _ => ⟨rfl, rfl, rfl⟩, fun h0 => by rw [hE] at h0; exact absurd h0 he⟩
    rw [hE]
    clear h1 h2 he hE
    generalize stE f g m s = e0 at *
    go_enter Try.func5, Try.ntmps5
    go_wp2_with (go_at_call 12; refine hk.out.mono ?_; rintro e w1 ⟨rfl, hb⟩)
    refine bodyPost_ret (v := .tuple #[.slice none 0 0, .slice none 0 0, .bool false, .int .i64 e0]) ?_ rfl ⟨_, _, _, _, _, rfl, rw0 _, rw0 _, HP.out, hb⟩
    simp [results, Try.results5, go_sem]

end Go.Proofs.Ytdgcnockccjdjab
