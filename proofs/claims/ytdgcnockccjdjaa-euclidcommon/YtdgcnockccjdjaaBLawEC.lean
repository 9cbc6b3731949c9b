/-
  Euclid: EuclidCommon, walked.
-/
import Derived.Test.YtdgcnockccjdjaaBLawEB
namespace Go.Proofs.Ytdgcnockccjdjaa
open Go.RowKit Fld
set_option linter.unusedVariables false

theorem mulL_le (f : Int) (xs ys : List Int) : (mulL f xs ys).length ≤ xs.length + ys.length := by
  have n1 := tr_len xs
  have n2 := tr_len ys
  unfold mulL; split
  · have := prd_len_le (pOf f) (tr xs) (tr ys); omega
  · simp
theorem mul_call2 {f p : Int} {wd : Bool} (h : Fi f p wd) {xs ys : List Int} (hx : Els p xs) (hy : Els p ys) (l : xs.length + ys.length ≤ 2048) (W : World) (v1 v2 : Value) (r1 : Rw W v1 xs) (r2 : Rw W v2 ys) :
    Calls Try.prog 20 #[.int .u8 f, v1, v2] W fun e w' => ∃ v' M, e = .returned (.tuple #[v', .int .i64 0]) ∧ Rw w' v' M ∧ Tm p M ∧ M.length ≤ 2048 ∧ pl p M = qm (pl p xs) (pl p ys) ∧ Below W.heap.size W w' := by
  have hm := mul_any' h hx hy (by omega) (by omega) (by omega)
  have hc := dMul_any f v1 v2 xs ys W r1 r2
  unfold Gives at hc
  rw [hm.1] at hc
  exact hc.mono fun e w' ⟨v', he, hO, hb⟩ => ⟨v', _, he, (mulL_wd f xs ys).row hO, hm.2.1, Nat.le_trans (mulL_le f xs ys) l, hm.2.2.1, hb⟩
theorem no_field : chE 0 [] [] = 2 := by decide +kernel
theorem dd_nil {p : Int} (hp : 0 < p) {x : List Int} (hx : Tm p x) (h : Dd p [] x) : x = [] := by
  obtain ⟨k, hk⟩ := h
  exact hx.only hp (Tm.nil p) (by rw [hk, pl_nil_right])

set_option maxRecDepth 100000 in
set_option maxHeartbeats 1000000 in
theorem ecommon_any (f : Int) (v1 v2 v3 : Value) (a b c : List Int) (w : World) (h1 : Rw w v1 a) (h2 : Rw w v2 b) (h3 : Rw w v3 c) :
    Calls Try.prog 7 #[.int .u8 f, .agg #[v1, v2], v3] w fun e w' => e = .returned (.bool true) ∧ Below w.heap.size w w' := by
  have hu := hide (fun W (hb : Below w.heap.size w W) => usual_any f v1 v2 a b W (h1.below hb) (h2.below hb))
  have hk := hide (fun W (hb : Below w.heap.size w W) => rBad_any f v3 (.slice none 0 0) c [] W (h3.below hb) (rw0 W))
  have hb0 := alloc_below w (.cells #[v1, v2] 23)
  have hz := hide (fun W => eGCD_any 0 (.slice none 0 0) (.slice none 0 0) [] [] W (rw0 W) (rw0 W))
  rw [no_field] at hz
  have l1 := h1.len
  have l2 := h2.len
  have l3 := h3.len
  obtain ⟨b1, k1, rfl, _⟩ := h1.spell
  obtain ⟨b2, k2, rfl, _⟩ := h2.spell
  obtain ⟨b3, k3, rfl, _⟩ := h3.spell
  by_cases hc : chE f a b = 0
  · have hd : decide (chE f a b = 0) = true := decide_eq_true hc
    rw [hd] at hu
    by_cases hk0 : er f c [] = 0
    · rw [hk0] at hk
      by_cases hl1 : a.length + c.length ≤ 2048
      · by_cases hl2 : b.length + c.length ≤ 2048
        · obtain ⟨p, wd, hf, i1, i2, la, lb⟩ := chE_zero hc
          obtain ⟨p', wd', hf', i3, _, _, _⟩ := er_zero hk0
          have hpp : p' = p := by rw [← pOf_eq hf, ← pOf_eq hf']
          subst hpp
          have e1 := els_of i1 h1.words
          have e2 := els_of i2 h2.words
          have e3 := els_of i3 h3.words
          have HM1 := hide (fun W (hb : Below w.heap.size w W) => mul_call2 hf e1 e3 hl1 W _ _ (h1.below hb) (h3.below hb))
          have HM2 := hide (fun W (hb : Below w.heap.size w W) => mul_call2 hf e2 e3 hl2 W _ _ (h2.below hb) (h3.below hb))
          have HG := hide (fun W u v A B (r1 : Rw W u A) (r2 : Rw W v B) => eGCD_any f u v A B W r1 r2)
          have HGz : Hid (∀ A B, Tm p' A → Tm p' B → A.length ≤ 2048 → B.length ≤ 2048 → chE f A B = 0) := fun A B ta tb la lb => chE_yes hf ta.1 tb.1 la lb
          have HGc : Hid (∀ A B g, Tm p' A → Tm p' B → A.length ≤ 2048 → B.length ≤ 2048 → GcE f A B g → Gc p' A B g) := fun A B g ta tb la lb hg => by
            have := hg.2 (HGz.out A B ta tb la lb)
            rw [pOf_eq hf] at this; exact this
          have HLen : Hid (∀ A B g, Tm p' A → Tm p' B → A.length ≤ 2048 → B.length ≤ 2048 → Gc p' A B g → g.length ≤ 2048 ∨ (A = [] ∧ B = [])) := fun A B g ta tb la lb hg => by
            by_cases hA : A = []
            · by_cases hB : B = []
              · exact .inr ⟨hA, hB⟩
              · have := (Dd.len hf.md hg.1 tb hg.2.2.2.1 hB).2
                exact .inl (by omega)
            · have := (Dd.len hf.md hg.1 ta hg.2.2.1 hA).2
              exact .inl (by omega)
          have HNil : Hid (∀ A B, Tm p' A → Tm p' B → Gc p' A B [] → A = [] ∧ B = []) := fun A B ta tb hg => ⟨dd_nil hf.pos ta hg.2.2.1, dd_nil hf.pos tb hg.2.2.2.1⟩
          have HZero : Hid (∀ g, Gc p' [] [] g → g = []) := fun g hg => Gc.only hf.md hg (Gc.zero rfl rfl)
          have HD := hide (fun W u v X g (hx : Tm p' X) (lx : X.length ≤ 2048) (hg : Tm p' g) (hn : g ≠ []) (lg : g.length ≤ 2048) (r1 : Rw W u X) (r2 : Rw W v g) => div_call hf hx.1 hg.1 (by rw [hg.2]; exact hn) (by omega) (by omega) W u v r1 r2)
          have HDr : Hid (∀ X g Q R, Tm p' g → Dv p' X g Q R → Dd p' g X → R = []) := fun X g Q R tg hd hdd => Dd.rest hf.md tg.1 hd hdd
          have HD3 := hide (fun W u g (hx : Tm p' g) (lx : g.length ≤ 2048) (hn : tr c ≠ []) (hb : Below w.heap.size w W) (r1 : Rw W u g) => div_call hf hx.1 e3 hn (by omega) (by omega) W u _ r1 (h3.below hb))
          have HDc : Hid (∀ A B g Q R, pl p' A = qm (pl p' a) (pl p' c) → pl p' B = qm (pl p' b) (pl p' c) → Gc p' A B g → Dv p' g c Q R → R = []) := fun A B g Q R ea eb hg hd => Dd.rest hf.md e3 hd (hg.2.2.2.2 c ⟨a, ea⟩ ⟨b, eb⟩)
          have ht := hide (fun W (hb : Below w.heap.size w W) => rTrim_any _ c W (h3.below hb))
          have nc := tr_len c
          have WT := hide (wd_els (e3.tr hf.pos) hf.top (show (tr c).length ≤ 17592186043904 by omega))
          clear h1 h2 h3 hf hf' i1 i2 i3 e1 e2 e3 hc hd hk0
          have hs1 : ((a.length : Int) + (c.length : Int)) ≤ 2048 := by omega
          have hs2 : ((b.length : Int) + (c.length : Int)) ≤ 2048 := by omega
          go_enter Try.func7, Try.ntmps7
          go_wp2_with fail
          refine (hu.out _ hb0).mono ?_; rintro e w0 ⟨rfl, hw⟩; rw [hw]; clear hw
          go_wp2_with fail
          refine (hk.out _ hb0).mono ?_; rintro e w0 ⟨rfl, hw⟩; rw [hw]; clear hw
          go_wp2_with fail
          refine (HM1.out _ hb0).mono ?_; rintro e w1 ⟨u1, A, rfl, RA, tA, lA, eA, hb1⟩
          obtain ⟨xa, ya, rfl, _⟩ := RA.spell
          have HRA := hide RA
          have hb2 := Below.next hb0 hb1
          have T := (Two.first w (.slice b1 a.length k1) (.slice b2 b.length k2) 23).below hb1
          obtain ⟨t1, t2, _, _, _⟩ := T
          clear RA
          go_wp2_with fail
          refine (HM2.out _ hb2).mono ?_; rintro e w3 ⟨u3, B, rfl, RB, tB, lB, eB, hb3⟩
          obtain ⟨xb, yb, rfl, _⟩ := RB.spell
          have HRB := hide RB
          have HRA := hide (HRA.out.below hb3)
          have hb4 := Below.next hb2 hb3
          clear RB t1 t2
          go_wp2_with fail
          have HG1 := hide (HG.out _ _ _ A B HRA.out HRB.out)
          rw [HGz.out A B tA tB lA lB] at HG1
          refine HG1.out.mono ?_; rintro e w5 ⟨ug, g, rfl, RG, hge, hb5⟩
          have hgc := HGc.out A B g tA tB lA lB hge
          have HRG := hide RG
          have HRA := hide (HRA.out.below hb5)
          have HRB := hide (HRB.out.below hb5)
          have hb6 := Below.next hb4 hb5
          clear HG1 hge hb0 hb1 hb2 hb3 hb4 hb5 RG
          obtain ⟨xg, yg, rfl, _⟩ := HRG.out.spell
          by_cases hgn : g = []
          · subst hgn
            obtain ⟨rfl, rfl⟩ := HNil.out A B tA tB hgc
            go_wp2_with fail
            refine (anch5 _).mono ?_; rintro e w9 ⟨rfl, hb9⟩
            go_wp2
            go_ret
            exact ⟨by simp, Below.next hb6 hb9⟩
          · have hgp := List.length_pos_iff.2 hgn
            obtain ⟨mg, hmg⟩ : ∃ mg, g.length = mg + 1 := ⟨g.length - 1, by omega⟩
            have lg : g.length ≤ 2048 := by
              rcases HLen.out A B g tA tB lA lB hgc with h | ⟨rfl, rfl⟩
              · exact h
              · exact absurd (HZero.out g hgc) hgn
            obtain ⟨bg, og, rfl, hcl⟩ : ∃ bg og, xg = some ⟨bg, og, none⟩ ∧ w5.cell? ⟨bg, og + mg, none⟩ = some (.int .u64 1) := by
              have h3 := HRG.out
              obtain ⟨⟨aa, cc, he, _, _, hcc⟩, _⟩ := h3
              cases he
              obtain ⟨b, o, h3, h4, h5⟩ := hcc hgn
              have h6 := h5 mg (by omega)
              have h7 : co g (g.length - 1) = 1 := by rcases hgc.2.1 with h | h; exact absurd h hgn; exact h
              have h8 : g.length - 1 = mg := by omega
              rw [h8] at h7
              have h9 : g.getD mg 0 = 1 := h7
              rw [h9] at h6
              exact ⟨b, o, h3, h6⟩
            have mw : IntKind.i64.wrap (mg : Int) = (mg : Int) := by rw [IntKind.wrap_i64]; omega
            have m0 : (0 : Int) ≤ (mg : Int) := Int.natCast_nonneg _
            have m1' : (mg : Int) < (mg : Int) + 1 := by omega
            have bz : (((mg + 1 : Nat) : Int) == 0) = false := beq_eq_false_iff_ne.2 (by omega)
            have HD1 := hide (HD.out _ _ _ A g tA lA hgc.1 hgn lg HRA.out HRG.out)
            have HD2 := hide (fun W (hb : Below w5.heap.size w5 W) => HD.out _ _ _ B g tB lB hgc.1 hgn lg (HRB.out.below hb) (HRG.out.below hb))
            rw [hmg] at HD1 HD2 ⊢
            go_wp2_with fail
            refine HD1.out.mono ?_; rintro e w7 ⟨q1, r1, Q1, R1, rfl, _, RR1, d1, hb7⟩
            obtain rfl := HDr.out A g Q1 R1 hgc.1 d1 hgc.2.2.1
            obtain ⟨xr, yr, rfl, _⟩ := RR1.spell
            have hb8 := Below.next hb6 hb7
            clear RR1 hcl mw m1' bz
            go_wp2_with fail
            refine (HD2.out _ hb7).mono ?_; rintro e w9 ⟨q2, r2, Q2, R2, rfl, _, RR2, d2, hb9⟩
            obtain rfl := HDr.out B g Q2 R2 hgc.1 d2 hgc.2.2.2.1
            obtain ⟨xs, ys, rfl, _⟩ := RR2.spell
            have hb10 := Below.next hb8 hb9
            have HRG9 := hide ((HRG.out.below hb7).below hb9)
            clear RR2 HD1 HD2
            go_wp2_with fail
            refine (ht.out _ hb10).mono ?_; rintro e w11 ⟨u11, rfl, hO11, hb11⟩
            have hb12 := Below.next hb10 hb11
            obtain ⟨xt, yt, rfl, _⟩ := (WT.out.row hO11).spell
            clear hO11
            by_cases hcn : tr c = []
            · rw [hcn]
              go_wp2_with fail
              refine (anch5 _).mono ?_; rintro e w13 ⟨rfl, hb13⟩
              go_wp2
              go_ret
              exact ⟨by simp, Below.next hb12 hb13⟩
            · have hcp := List.length_pos_iff.2 hcn
              have bz : (((tr c).length : Int) == 0) = false := beq_eq_false_iff_ne.2 (by omega)
              have HD4 := hide (HD3.out w11 _ g hgc.1 lg hcn hb12 (HRG9.out.below hb11))
              rw [hmg] at HD4
              clear hcn hcp
              generalize (tr c).length = nt at *
              go_wp2_with fail
              refine HD4.out.mono ?_; rintro e w13 ⟨q3, r3, Q3, R3, rfl, _, RR3, d3, hb13⟩
              obtain rfl := HDc.out A B g Q3 R3 eA eB hgc d3
              obtain ⟨xu, yu, rfl, _⟩ := RR3.spell
              have hb14 := Below.next hb12 hb13
              clear RR3 HD4
              go_wp2_with fail
              refine (anch5 _).mono ?_; rintro e w15 ⟨rfl, hb15⟩
              go_wp2
              go_ret
              exact ⟨by simp, Below.next hb14 hb15⟩
        · clear h1 h2 h3 hc hd hk0
          have hs1 : ((a.length : Int) + (c.length : Int)) ≤ 2048 := by omega
          have hs2 : ¬ ((b.length : Int) + (c.length : Int)) ≤ 2048 := by omega
          go_enter Try.func7, Try.ntmps7
          go_wp2_with fail
          refine (hu.out _ hb0).mono ?_; rintro e w0 ⟨rfl, hw⟩; rw [hw]; clear hw
          go_wp2_with fail
          refine (hk.out _ hb0).mono ?_; rintro e w0 ⟨rfl, hw⟩; rw [hw]; clear hw
          go_wp2_with fail
          refine (hz.out _).mono ?_; rintro e w1 ⟨u1, g, rfl, _, _, hb1⟩
          have hb2 := Below.next hb0 hb1
          go_wp2_with fail
          refine (anch5 _).mono ?_; rintro e w9 ⟨rfl, hb9⟩
          go_wp2
          go_ret
          exact ⟨rfl, Below.next hb2 hb9⟩
      · clear h1 h2 h3 hc hd hk0
        have hs1 : ¬ ((a.length : Int) + (c.length : Int)) ≤ 2048 := by omega
        go_enter Try.func7, Try.ntmps7
        go_wp2_with fail
        refine (hu.out _ hb0).mono ?_; rintro e w0 ⟨rfl, hw⟩; rw [hw]; clear hw
        go_wp2_with fail
        refine (hk.out _ hb0).mono ?_; rintro e w0 ⟨rfl, hw⟩; rw [hw]; clear hw
        go_wp2_with fail
        refine (hz.out _).mono ?_; rintro e w1 ⟨u1, g, rfl, _, _, hb1⟩
        have hb2 := Below.next hb0 hb1
        go_wp2_with fail
        refine (anch5 _).mono ?_; rintro e w9 ⟨rfl, hb9⟩
        go_wp2
        go_ret
        exact ⟨rfl, Below.next hb2 hb9⟩
    · have hb : (er f c [] != 0) = true := bne_iff_ne.2 hk0
      clear h1 h2 h3 hc hd hk0
      generalize er f c [] = e0 at *
      go_enter Try.func7, Try.ntmps7
      go_wp2_with fail
      refine (hu.out _ hb0).mono ?_; rintro e w0 ⟨rfl, hw⟩; rw [hw]; clear hw
      go_wp2_with fail
      refine (hk.out _ hb0).mono ?_; rintro e w0 ⟨rfl, hw⟩; rw [hw]; clear hw
      go_wp2_with fail
      refine (hz.out _).mono ?_; rintro e w1 ⟨u1, g, rfl, _, _, hb1⟩
      have hb2 := Below.next hb0 hb1
      go_wp2_with fail
      refine (anch5 _).mono ?_; rintro e w9 ⟨rfl, hb9⟩
      go_wp2
      go_ret
      exact ⟨rfl, Below.next hb2 hb9⟩
  · have hd : decide (chE f a b = 0) = false := decide_eq_false hc
    rw [hd] at hu
    clear h1 h2 h3 hc hd
    go_enter Try.func7, Try.ntmps7
    go_wp2_with fail
    refine (hu.out _ hb0).mono ?_; rintro e w0 ⟨rfl, hw⟩; rw [hw]; clear hw
    go_wp2_with fail
    refine (hz.out _).mono ?_; rintro e w1 ⟨u1, g, rfl, _, _, hb1⟩
    have hb2 := Below.next hb0 hb1
    go_wp2_with fail
    refine (anch5 _).mono ?_; rintro e w9 ⟨rfl, hb9⟩
    go_wp2
    go_ret
    exact ⟨rfl, Below.next hb2 hb9⟩

end Go.Proofs.Ytdgcnockccjdjaa
