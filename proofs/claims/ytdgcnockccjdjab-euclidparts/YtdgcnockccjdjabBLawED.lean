/-
  Euclid: EuclidParts, walked.
-/
import Derived.Test.YtdgcnockccjdjabBLawEB
namespace Go.Proofs.Ytdgcnockccjdjab
open Go.RowKit Fld
set_option linter.unusedVariables false

theorem sub_call {f p : Int} {wd : Bool} (h : Fi f p wd) {xs ys : List Int} (hx : Els p xs) (hy : Els p ys) (l1 : xs.length ≤ 4096) (l2 : ys.length ≤ 4096) (W : World) (v1 v2 : Value) (r1 : Rw W v1 xs) (r2 : Rw W v2 ys) :
    Calls Try.prog 9 #[.int .u8 f, v1, v2] W fun e w' => ∃ v' M, e = .returned (.tuple #[v', .int .i64 0]) ∧ Rw w' v' M ∧ Tm p M ∧ M.length ≤ 4096 ∧ qa (pl p M) (pl p ys) = pl p xs ∧ Below W.heap.size W w' := by
  have hm := sub_facts h hx hy l1 l2
  have hc := dSub_any f v1 v2 xs ys W r1 r2
  unfold Gives at hc
  rw [hm.1] at hc
  have hl : (subL f xs ys).length ≤ 4096 := by
    unfold subL
    rw [if_pos hm.1]
    exact Nat.le_trans (tr_len _) (by rw [sm_len]; omega)
  exact hc.mono fun e w' ⟨v', he, hO, hb⟩ => ⟨v', _, he, (subL_wd f xs ys).row hO, hm.2.1, hl, hm.2.2, hb⟩

/-- Of a ratio: lengths, the highest coefficient, and what divides the difference. -/
theorem ratio_facts {p : Int} {wd : Bool} (hm : Md p wd) {s : Nat} {g m n d : List Int} {A B : R3} (hg : Els p g) (hme : Els p m) (lg : g.length ≤ 2048) (lm : m.length ≤ 2048) (hv : Fnd p s m g A B) (hr : Ra p B.x B.v n d true) :
    Tm p n ∧ Tm p d ∧ d ≠ [] ∧ co d (d.length - 1) = 1 ∧ n.length ≤ 2048 ∧ d.length ≤ 2049 ∧ n.length + d.length ≤ 4097 ∧
      ∀ X Y Z, pl p X = qm (pl p n) (pl p d) → pl p Y = qm (pl p g) (pl p d) → qa (pl p Z) (pl p Y) = pl p X → Dd p m Z := by
  have hmd := hv.made hm hme hg
  have htm := hv.tm hm hme hg
  have n1 := tr_len m
  have n2 := tr_len g
  obtain ⟨s', hs'⟩ := hr.parts hmd.1
  have hr' := hr
  rcases hr with ⟨_, h1, h2, h3⟩ | ⟨h0, _⟩
  · have hdl := h3.len
    have hdn : d ≠ [] := fun e => by
      rw [e] at hdl
      exact h1 (List.length_eq_zero_iff.1 hdl.symm)
    have hn : n.length ≤ 2048 ∧ n.length + d.length ≤ 4097 := by
      by_cases hn : n = []
      · rw [hn]; simp; omega
      · have := h2.len hm htm.2.2.1.1 hn
        rw [htm.2.2.1.2] at this
        have k := List.length_pos_iff.2 h1
        omega
    refine ⟨h2.rg.1, h3.tm, hdn, ?_, hn.1, by omega, hn.2, fun X Y Z ex ey ez => ?_⟩
    · rcases h3.top with h | h
      · exact absurd h hdn
      · exact h
    · refine ⟨s', qa_cancel (z := pl p Y) ?_⟩
      rw [ez, ex, hs', ey]
  · exact absurd h0 (by decide)

set_option maxRecDepth 100000 in
set_option maxHeartbeats 1000000 in
theorem eparts_any (f : Int) (v1 v2 : Value) (g m : List Int) (s : Int) (w : World) (h1 : Rw w v1 g) (h2 : Rw w v2 m) :
    Calls Try.prog 3 #[.int .u8 f, .agg #[v1, v2], .int .i64 s] w fun e w' => e = .returned (.bool true) ∧ Below w.heap.size w w' := by
  have hu := hide (fun W (hb : Below w.heap.size w W) => usual_any f v1 v2 g m W (h1.below hb) (h2.below hb))
  have g1 := hide (fun W (hb : Below w.heap.size w W) => eRatio_any f v1 v2 g m s W (h1.below hb) (h2.below hb))
  have hb0 := alloc_below w (.cells #[v1, v2] 23)
  have ht := hide (fun W (hb : Below w.heap.size w W) => rTrim_any v2 m W (h2.below hb))
  by_cases he : raE f g m s = 0
  · obtain ⟨hst, hn⟩ := raE_zero he
    obtain ⟨hs, hc⟩ := stE_zero hst
    obtain ⟨p, wd, hf, i1, i2, lg, lm⟩ := chE_zero hc
    have e1 := els_of i1 h1.words
    have e2 := els_of i2 h2.words
    have nm := tr_len m
    have WT := hide (wd_els (e2.tr hf.pos) hf.top (show (tr m).length ≤ 17592186043904 by omega))
    have HF : Hid (∀ n d x, RaE f g m s n d x → ∃ A B, Fnd p s.toNat m g A B ∧ Ra p B.x B.v n d x) := fun n d x hp => by
      obtain ⟨A, B, h, k⟩ := hp.2 he
      rw [pOf_eq hf] at h k; exact ⟨A, B, h, k⟩
    have HRf := hide (fun A B n d (hv : Fnd p s.toNat m g A B) (hr : Ra p B.x B.v n d true) => ratio_facts hf.md e1 e2 lg lm hv hr)
    have HM1 := hide (fun W u v xs ys (hx : Tm p xs) (hy : Tm p ys) (l1 : xs.length ≤ 2048) (l2 : ys.length ≤ 2049) (l : xs.length + ys.length ≤ 4097) (r : Rw W u xs) (r2 : Rw W v ys) => mul_call hf hx.1 hy.1 (by omega) (by omega) l W u v r r2)
    have HM2 := hide (fun W v ys (hb : Below w.heap.size w W) (hy : Tm p ys) (l2 : ys.length ≤ 2049) (r2 : Rw W v ys) => mul_call hf e1 hy.1 (by omega) (by omega) (by omega) W v1 v (h1.below hb) r2)
    have HSu := hide (fun W u v xs ys (hx : Tm p xs) (hy : Tm p ys) (l1 : xs.length ≤ 4096) (l2 : ys.length ≤ 4096) (r : Rw W u xs) (r2 : Rw W v ys) => sub_call hf hx.1 hy.1 l1 l2 W u v r r2)
    have HD := hide (fun W v xs (hb : Below w.heap.size w W) (hx : Tm p xs) (l : xs.length ≤ 4096) (r : Rw W v xs) => div_call hf hx.1 e2 hn l (by omega) W v v2 r (h2.below hb))
    have HDr : Hid (∀ X Q R, Dv p X m Q R → Dd p m X → R = []) := fun X Q R hd hdd => Dd.rest hf.md e2 hd hdd
    have hs' : ¬ s < 0 := by omega
    have hpos := List.length_pos_iff.2 hn
    have bz : (((tr m).length : Int) == 0) = false := beq_eq_false_iff_ne.2 (by omega)
    rw [hc] at hu
    rw [he] at g1
    clear h1 h2 hf hc he e1 e2 hn hst i1 i2
    generalize (tr m).length = nt at *
    go_enter Try.func3, Try.ntmps3
    go_wp2_with fail
    refine (hu.out _ hb0).mono ?_; rintro e w0 ⟨rfl, hw⟩; rw [hw]; clear hw
    go_wp2_with fail
    refine (g1.out _ hb0).mono ?_; rintro e w1 ⟨c0, c1, n, d, x, rfl, RN, RD, hB, hb1⟩
    obtain ⟨A, B, hv, hra⟩ := HF.out n d x hB
    obtain ⟨x1, y1, rfl, _⟩ := RN.spell
    obtain ⟨x2, y2, rfl, _⟩ := RD.spell
    have HRN := hide RN
    have HRD := hide RD
    have hb2 := Below.next hb0 hb1
    have HT := hide ((Two.first w v1 v2 23).below hb1)
    obtain ⟨t1, t2, _, _, _⟩ := HT.out
    clear RN RD hB
    go_wp2_with fail
    refine (ht.out _ hb2).mono ?_; rintro e w3 ⟨u3, rfl, hO3, hb3⟩
    obtain ⟨x3, y3, rfl, _⟩ : ∃ x3 y3, u3 = .slice x3 nt y3 ∧ True := by
      rcases hO3.2 with ⟨rfl, h0⟩ | ⟨gg, cap, cur, rfl, _⟩
      · exact ⟨_, _, by rw [h0], trivial⟩
      · exact ⟨_, _, rfl, trivial⟩
    have HRN := hide (HRN.out.below hb3)
    have HRD := hide (HRD.out.below hb3)
    have HT := hide (HT.out.below hb3)
    have hb4 := Below.next hb2 hb3
    clear t1 t2 hO3
    obtain ⟨t1, t2, _, _, _⟩ := HT.out
    cases x with
    | false =>
      obtain ⟨rfl, rfl⟩ : n = [] ∧ d = [] := by
        rcases hra with ⟨h0, _⟩ | ⟨_, h1, h2, _⟩
        · exact absurd h0 (by decide)
        · exact ⟨h1, h2⟩
      go_wp2_with fail
      refine (anch5 _).mono ?_; rintro e w9 ⟨rfl, hb9⟩
      go_wp2
      go_ret
      exact ⟨by simp, Below.next hb4 hb9⟩
    | true =>
      obtain ⟨tn, td, hdn, htop, ln, ld, lnd, hdd⟩ := HRf.out A B n d hv hra
      have hdp := List.length_pos_iff.2 hdn
      obtain ⟨md, HMD⟩ : ∃ md, Hid (d.length = md + 1) := ⟨d.length - 1, show _ = _ by omega⟩
      have HDD := hide hdd
      clear hdd
      go_wp2_with fail
      refine (HM1.out _ _ _ n d tn td ln ld lnd HRN.out HRD.out).mono ?_; rintro e w5 ⟨u5, X, rfl, RX, tX, lX, eX, hb5⟩
      have HRX := hide RX
      have HRD := hide (HRD.out.below hb5)
      have HT := hide (HT.out.below hb5)
      have hb6 := Below.next hb4 hb5
      clear t1 t2 RX
      obtain ⟨t1, t2, _, _, _⟩ := HT.out
      go_wp2_with fail
      refine (HM2.out _ _ d hb6 td ld HRD.out).mono ?_; rintro e w7 ⟨u7, Y, rfl, RY, tY, lY, eY, hb7⟩
      have HRY := hide RY
      have HRX := hide (HRX.out.below hb7)
      have HRD := hide (HRD.out.below hb7)
      have HT := hide (HT.out.below hb7)
      have hb8 := Below.next hb6 hb7
      clear t1 t2 RY
      go_wp2_with fail
      refine (HSu.out _ _ _ X Y tX tY lX lY HRX.out HRY.out).mono ?_; rintro e w9 ⟨u9, Z, rfl, RZ, tZ, lZ, eZ, hb9⟩
      have HRZ := hide RZ
      have HRD := hide (HRD.out.below hb9)
      have HT := hide (HT.out.below hb9)
      have hb10 := Below.next hb8 hb9
      clear RZ
      obtain ⟨t1, t2, _, _, _⟩ := HT.out
      go_wp2_with fail
      refine (HD.out _ _ Z hb10 tZ lZ HRZ.out).mono ?_; rintro e w11 ⟨vq, vr, Q, R, rfl, _, RR, dR, hb11⟩
      obtain rfl := HDr.out Z Q R dR (HDD.out X Y Z eX eY eZ)
      obtain ⟨x4, y4, rfl, _⟩ := RR.spell
      have HRD := hide (HRD.out.below hb11)
      have hb12 := Below.next hb10 hb11
      clear t1 t2 RR HRX HRY HRZ HT
      go_wp2_with fail
      refine (anch5 _).mono ?_; rintro e w13 ⟨rfl, hb13⟩
      have HRD := hide (HRD.out.below hb13)
      have hb14 := Below.next hb12 hb13
      obtain ⟨bg, og, rfl, hcl⟩ : ∃ bg og, x2 = some ⟨bg, og, none⟩ ∧ w13.cell? ⟨bg, og + md, none⟩ = some (.int .u64 1) := by
        have h3 := HRD.out
        obtain ⟨⟨aa, cc, he, _, _, hcc⟩, _⟩ := h3
        cases he
        obtain ⟨b, o, h3, h4, h5⟩ := hcc hdn
        have hmd := HMD.out
        have h6 := h5 md (by omega)
        have h8 : d.length - 1 = md := by omega
        rw [h8] at htop
        have h9 : d.getD md 0 = 1 := htop
        rw [h9] at h6
        exact ⟨b, o, h3, h6⟩
      have hmd := HMD.out
      have mw : IntKind.i64.wrap (md : Int) = (md : Int) := by rw [IntKind.wrap_i64]; omega
      have m0 : (0 : Int) ≤ (md : Int) := Int.natCast_nonneg _
      have m1' : (md : Int) < (md : Int) + 1 := by omega
      have mp : (0 : Int) < ((md + 1 : Nat) : Int) := by omega
      clear HRD
      rw [hmd]
      clear hmd
      go_wp2
      go_ret
      exact ⟨by simp, hb14⟩
  · have hne : (raE f g m s != 0) = true := bne_iff_ne.2 he
    by_cases hc : chE f g m = 0
    · have hd : decide (chE f g m = 0) = true := decide_eq_true hc
      rw [hd] at hu
      by_cases hs : s < 0
      · clear h1 h2 he hc hd
        generalize raE f g m s = e0 at *
        go_enter Try.func3, Try.ntmps3
        go_wp2_with fail
        refine (hu.out _ hb0).mono ?_; rintro e w0 ⟨rfl, hw⟩; rw [hw]; clear hw
        go_wp2_with fail
        refine (g1.out _ hb0).mono ?_; rintro e w1 ⟨c0, c1, n, d, x, rfl, _, _, _, hb1⟩
        have hb2 := Below.next hb0 hb1
        go_wp2_with fail
        refine (anch5 _).mono ?_; rintro e w9 ⟨rfl, hb9⟩
        go_wp2
        go_ret
        exact ⟨rfl, Below.next hb2 hb9⟩
      · have hn : tr m = [] := by
          apply Classical.byContradiction
          intro h
          apply he
          unfold raE stE; rw [if_neg hs, hc, if_pos rfl, if_neg h]
        rw [hn] at ht
        clear h1 h2 he hc hd hn
        generalize raE f g m s = e0 at *
        go_enter Try.func3, Try.ntmps3
        go_wp2_with fail
        refine (hu.out _ hb0).mono ?_; rintro e w0 ⟨rfl, hw⟩; rw [hw]; clear hw
        go_wp2_with fail
        refine (g1.out _ hb0).mono ?_; rintro e w1 ⟨c0, c1, n, d, x, rfl, _, _, _, hb1⟩
        have hb2 := Below.next hb0 hb1
        obtain ⟨t1, t2, _, _, _⟩ := (Two.first w v1 v2 23).below hb1
        go_wp2_with fail
        refine (ht.out _ hb2).mono ?_; rintro e w3 ⟨u3, rfl, hO3, hb3⟩
        obtain ⟨x3, y3, rfl, _⟩ := (wd_nil.row hO3).spell
        have hb4 := Below.next hb2 hb3
        clear hO3
        go_wp2_with fail
        refine (anch5 _).mono ?_; rintro e w9 ⟨rfl, hb9⟩
        go_wp2
        go_ret
        exact ⟨rfl, Below.next hb4 hb9⟩
    · have hd : decide (chE f g m = 0) = false := decide_eq_false hc
      rw [hd] at hu
      clear h1 h2 he hc hd
      generalize raE f g m s = e0 at *
      go_enter Try.func3, Try.ntmps3
      go_wp2_with fail
      refine (hu.out _ hb0).mono ?_; rintro e w0 ⟨rfl, hw⟩; rw [hw]; clear hw
      go_wp2_with fail
      refine (g1.out _ hb0).mono ?_; rintro e w1 ⟨c0, c1, n, d, x, rfl, _, _, _, hb1⟩
      have hb2 := Below.next hb0 hb1
      go_wp2_with fail
      refine (anch5 _).mono ?_; rintro e w9 ⟨rfl, hb9⟩
      go_wp2
      go_ret
      exact ⟨rfl, Below.next hb2 hb9⟩

end Go.Proofs.Ytdgcnockccjdjab
