/-
  The statements of layer 13: PointsApart walked.
-/
import Derived.Test.YtifilgmjpflekaaBLawQA
namespace Go.Proofs.Ytifilgmjpflekaa
open Go.RowKit Fld Pln
set_option linter.unusedVariables false
set_option linter.unusedSimpArgs false

/-- A list appended to a list of the call's own. -/
theorem app_list {w : World} {ops : Array Oper} {rest : List Oper} {o : Oper} {a : Act} {Q : Exit → Act → World → Prop} (hg : o.guard = none) (s x : Operand)
    (hop : o.op = .call { callee := .builtin .append, args := #[s, x], argTypes := #[26, 26] }) (base base2 n m : Nat) (v u : Value) (xs ys : List Int) (hs : a.eval s = v) (hown : w.ownsRow base 25 1 v n (vals xs)) (hx : a.eval x = u) (hy : w.ownsRow base2 25 1 u m (vals ys))
    (hb : n + m ≤ 17592186043904) (hbase : base ≤ w.heap.size)
    (h : ∀ v' w', w'.ownsRow base 25 1 v' (n + m) (vals (xs ++ ys)) → w.grownBy w' v.ownBlock → wpList Try.prog ops Q rest (a.put o.dst v') w') : wpList Try.prog ops Q (o :: rest) a w := by
  obtain ⟨i0, hi0, hz0, hz1, hz2⟩ := info_parts u64_info
  have hl := own_len hy
  have he : vals (xs ++ ys) = vals xs ++ vals ys := by simp [vals]
  rcases hy.2 with ⟨rfl, h0⟩ | ⟨g, cap, cur, rfl, h2, h3, h4, h5, h6, h7⟩
  · have h0' : ys = [] := by cases ys with | nil => rfl | cons y ys => simp at hl; omega
    refine wpList_append_own_none hg s x _ hop base 25 i0 1 Try.underlying26 hi0 v n (vals xs) hs hown hx ?_
    subst h0'
    rw [List.append_nil] at h
    have hm : m = 0 := by simp at hl; omega
    subst hm
    exact h v w hown ⟨rfl, rfl, rfl, Nat.le_refl _, fun _ _ _ => rfl⟩
  · refine wpList_append_own w hg s x _ hop base 25 i0 (.int .u64 0) 1 8 Try.underlying26 hi0 hz0 hz1 hz2 rfl (by decide) v n (vals xs) hs hown ⟨g, 0, none⟩ m cap (vals ys) hx (by rw [vals_length]; omega) (fun j z hj => ?_) (fun z hz => ?_) (by unfold maxLen; omega) (by omega) hbase (fun v' w' k1 k2 _ => h v' w' (by rw [he]; exact k1) k2)
    · have hjl : j < m := by
        have := (List.getElem?_eq_some_iff.1 hj).1
        rw [vals_length] at this; omega
      have := hy.cellAt j (by omega)
      have hadd : (⟨g, 0, none⟩ : Addr).add j = ⟨g, j, none⟩ := by unfold Addr.add; split <;> simp_all
      rw [hadd, ← hj]
      exact this
    · obtain ⟨y, _, rfl⟩ := List.mem_map.1 hz
      rfl

theorem wk_at {p : Pn} {i : Nat} (h : mayP p = true) (hi : (i : Int) < p.k + p.t + p.n) : wkE p i = 0 ∧ wkB p i = decide (p.k + p.t ≤ (i : Int)) ∧ (p.k + p.t ≤ (i : Int) → wkI p i = (i : Int) - p.k - p.t) := by
  obtain ⟨⟨n0, n1⟩, ⟨k0, k1⟩, ⟨t0, t1⟩, _⟩ := may_facts h
  obtain ⟨q, wd, hf⟩ := may_field h
  have hi2 : inF p.f [(i : Int)] = true := by
    rw [inF_yes hf]
    exact allIn_of (fun x hx => by
      rw [List.mem_singleton.1 hx]
      have := hf.big
      exact ⟨by omega, by omega⟩)
  by_cases h3 : p.k + p.t ≤ (i : Int)
  · obtain ⟨e1, e2, e3⟩ := wk_here h hi2 h3 (by omega)
    exact ⟨e1, by rw [e2, decide_eq_true h3], fun _ => by rw [e3]; omega⟩
  · obtain ⟨e1, e2, e3⟩ := wk_far h hi2 (.inl (by omega))
    exact ⟨e1, by rw [e2, decide_eq_false h3], fun h => absurd h h3⟩
theorem all_pts {p : Pn} (h : mayP p = true) : (datL p ++ padL p) ++ wrkL p = pts 0 (p.k + p.t + p.n).toNat ∧ (datL p).length = p.k.toNat ∧ (padL p).length = p.t.toNat ∧ (wrkL p).length = p.n.toNat := by
  obtain ⟨⟨n0, n1⟩, ⟨k0, k1⟩, ⟨t0, t1⟩, _⟩ := may_facts h
  unfold datL padL wrkL
  rw [if_pos h, if_pos h, if_pos h, pts_len, pts_len, pts_len]
  refine ⟨?_, rfl, rfl, rfl⟩
  have e : (p.k + p.t + p.n).toNat = (p.k + p.t).toNat + p.n.toNat := by omega
  have e2 : (0 : Int) + ((p.k + p.t).toNat : Int) = p.k + p.t := by omega
  rw [e, pts_add, e2]
  congr 1
  exact inn_app h

set_option maxRecDepth 100000 in
set_option maxHeartbeats 400000 in
theorem pointsApart_any (w : World) (p : Pn) (hp : Ok8p p) : Calls Try.prog 5 #[plv p] w fun e w' => e = .returned (.bool true) ∧ Below w.heap.size w w' := by
  have H1 := hide (fun W => gData p W hp)
  have H3 := hide (fun W => gPads p W hp)
  have H5 := hide (fun W => gWorkers p W hp)
  have HM := hide (dMayP p hp)
  have H7 := hide (fun (i : Nat) (hi : (i : Int) < 1000) W => gWorker p i W hp (by omega))
  unfold Gives at H1 H3 H5
  have HX := hide anch13
  have WD := hide (dat_wd p)
  obtain ⟨pb, hA⟩ := pb_box (w := w) p
  clear hp
  cases hm : mayP p with
  | false =>
    rw [hm] at HM
    rw [erP_no hm] at H1 H3 H5
    clear hm H7 WD
    generalize datL p = d1 at *
    generalize padL p = d2 at *
    generalize wrkL p = d3 at *
    unfold plv plw at *
    obtain ⟨c0, c1, c2, c3, c4, c5, c6, c7⟩ := pb.cells
    have HPb := hide pb
    clear pb
    go_enter Try.func5, Try.ntmps5
    go_wp2_with (first
      | (go_at_call 7; refine (H1.out _).mono ?_; rintro e w1 ⟨v1, rfl, hO1, hb1⟩; have hB1 := hb1; clear c0 c1 c2 c3 c4 c5 c6 c7; obtain ⟨c0, c1, c2, c3, c4, c5, c6, c7⟩ := (HPb.out.below hB1).cells)
      | (go_at_call 9; refine (H3.out _).mono ?_; rintro e w3 ⟨v3, rfl, hO3, hb3⟩; have hB3 := Below.next hB1 hb3; clear c0 c1 c2 c3 c4 c5 c6 c7; obtain ⟨c0, c1, c2, c3, c4, c5, c6, c7⟩ := (HPb.out.below hB3).cells)
      | (go_at_call 10; refine (H5.out _).mono ?_; rintro e w5 ⟨v5, rfl, hO5, hb5⟩; have hB5 := Below.next hB3 hb5; clear c0 c1 c2 c3 c4 c5 c6 c7; obtain ⟨c0, c1, c2, c3, c4, c5, c6, c7⟩ := (HPb.out.below hB5).cells)
      | (go_at_call 18; refine (HM.out _).mono ?_; rintro e w6 ⟨rfl, hb6⟩; have hB6 := Below.next hB5 hb6)
      | (go_at_call 14; refine (HX.out _).mono ?_; rintro e w7 ⟨rfl, hb7⟩))
    go_ret
    exact ⟨rfl, Below.next (Below.next hA hB6) hb7⟩
  | true =>
    rw [hm] at HM
    rw [erP_yes hm] at H1 H3 H5
    obtain ⟨⟨n0, n1⟩, ⟨k0, k1⟩, ⟨t0, t1⟩, _⟩ := may_facts hm
    have HK := hide (fun i hi => wk_at (i := i) hm hi)
    obtain ⟨hall, l1, l2, l3⟩ := all_pts hm
    have HAll := hide hall
    have HIn : Hid (inF p.f (pts 0 (p.k + p.t + p.n).toNat) = true) := by
      obtain ⟨q, wd, hf⟩ := may_field hm
      show _ = _
      rw [inF_yes hf]
      exact allIn_of (pts_els hf (by omega) (by omega))
    clear hall
    rw [l1] at H1
    rw [l2] at H3
    rw [l3] at H5
    obtain ⟨K, hK⟩ : ∃ K : Nat, p.k.toNat = K := ⟨_, rfl⟩
    obtain ⟨T, hT⟩ : ∃ T : Nat, p.t.toNat = T := ⟨_, rfl⟩
    obtain ⟨N, hN⟩ : ∃ N : Nat, p.n.toNat = N := ⟨_, rfl⟩
    have ek : p.k = (K : Int) := by omega
    have et : p.t = (T : Int) := by omega
    have en : p.n = (N : Int) := by omega
    rw [hK] at H1
    rw [hT] at H3
    rw [hN] at H5
    have hL : (p.k + p.t + p.n).toNat = K + T + N := by omega
    rw [hL] at HAll HIn
    have HC := hide (fun v W base n (hO : W.ownsRow base 25 1 v n (vals (datL p))) => Copy_any v (datL p) W (WD.out.1.row hO).1)
    rw [l1, hK] at HC
    have HW : Hid (∀ i : Nat, i < K + T + N → ∀ W, Calls Try.prog 11 #[plv p, .int .u64 i] W fun e w' => ∃ z, e = .returned (.tuple #[.int .i64 z, .bool (decide (K + T ≤ i)), .int .i64 0]) ∧ (K + T ≤ i → z = (i : Int) - K - T) ∧ Below W.heap.size W w') := fun i hi W => by
      obtain ⟨h1, h2, h3⟩ := HK.out i (by omega)
      refine (H7.out i (by omega) W).mono ?_
      rintro e w' ⟨rfl, hb⟩
      have hd : decide (p.k + p.t ≤ (i : Int)) = decide (K + T ≤ i) := decide_eq_decide.2 (by omega)
      exact ⟨wkI p i, by rw [h1, h2, hd], fun hle => by rw [h3 (by omega)]; omega, hb⟩
    have HRi : Hid (∀ W base v n, W.ownsRow base 25 1 v n (vals (pts 0 (K + T + N))) → Row W v (pts 0 (K + T + N))) := fun W base v n hO => ((pts_wd (by omega) (by omega)).row hO).1
    have HI := hide (fun W v hr => rIn_any p.f v (pts 0 (K + T + N)) W hr)
    rw [HIn.out] at HI
    have hKTN : K + T + N ≤ 1000 := by omega
    clear l1 l2 l3 hK hT hN hL hm HK H7 HIn
    generalize datL p = d1 at *
    generalize padL p = d2 at *
    generalize wrkL p = d3 at *
    obtain ⟨pf, pn, pk, pt, ps, pe, pw, pd⟩ := p
    simp only at ek et en
    subst ek et en
    unfold plv plw at *
    obtain ⟨c0, c1, c2, c3, c4, c5, c6, c7⟩ := pb.cells
    have HPb := hide pb
    clear pb
    dsimp only at *
    go_enter Try.func5, Try.ntmps5
    go_upto_region 8 with (first
      | (go_at_call 7; refine (H1.out _).mono ?_; rintro e w1 ⟨v1, rfl, hO1, hb1⟩; obtain ⟨a1, k1, rfl⟩ := own_form hO1; have hB1 := hb1; clear c0 c1 c2 c3 c4 c5 c6 c7; obtain ⟨c0, c1, c2, c3, c4, c5, c6, c7⟩ := (HPb.out.below hB1).cells)
      | (go_at_call 9; refine (H3.out _).mono ?_; rintro e w3 ⟨v3, rfl, hO3, hb3⟩; obtain ⟨a3, k3, rfl⟩ := own_form hO3; have hB3 := Below.next hB1 hb3; clear c0 c1 c2 c3 c4 c5 c6 c7; obtain ⟨c0, c1, c2, c3, c4, c5, c6, c7⟩ := (HPb.out.below hB3).cells)
      | (go_at_call 10; refine (H5.out _).mono ?_; rintro e w5 ⟨v5, rfl, hO5, hb5⟩; obtain ⟨a5, k5, rfl⟩ := own_form hO5; have hB5 := Below.next hB3 hb5; clear c0 c1 c2 c3 c4 c5 c6 c7; obtain ⟨c0, c1, c2, c3, c4, c5, c6, c7⟩ := (HPb.out.below hB5).cells)
      | (go_at_call 18; refine (HM.out _).mono ?_; rintro e w6 ⟨rfl, hb6⟩; have hB6 := Below.next hB5 hb6; clear c0 c1 c2 c3 c4 c5 c6 c7; obtain ⟨c0, c1, c2, c3, c4, c5, c6, c7⟩ := (HPb.out.below hB6).cells))
    have HO1 := hide (own_below hO1 (Below.next hb3 (Below.next hb5 hb6)))
    have HO3 := hide (own_below hO3 (Below.next hb5 hb6))
    have HO5 := hide (own_below hO5 hb6)
    clear hO1 hO3 hO5 hb1 hb3 hb5 hb6 hB1 hB3 hB5 H1 H3 H5 HM
    go_upto_region 9 with (first
      | (go_at_call 19; refine (HC.out _ _ _ _ HO1.out).mono ?_; rintro e w7 ⟨v7, rfl, hO7, hb7⟩; have HO3' := hide (own_below HO3.out hb7); have HO5' := hide (own_below HO5.out hb7); have hs7 := hb7.size)
      | (at_builtin; refine app_list rfl _ _ rfl w6.heap.size _ (K + T) N _ _ _ _ rfl hO8 rfl HO5''.out (by omega) hB8.size ?_; intro v9 w9 hO9 hg9; have hB9 := hB8.grown hg9 hB8.size (fun k e => own_base hO8 k e))
      | (at_builtin; refine app_list rfl _ _ rfl w6.heap.size _ K T _ _ _ _ rfl hO7 rfl HO3'.out (by omega) hb7.size ?_; intro v8 w8 hO8 hg8; have hB8 := hb7.grown hg8 hb7.size (fun k e => own_base hO7 k e); have HO5'' := hide (own_kept HO5'.out hg8 (fun g hg e => by have := own_base hO7 g e; have := own_top HO5.out g hg; omega))))
    rw [HAll.out] at hO9
    obtain ⟨a9, k9, rfl⟩ := own_form hO9
    obtain ⟨L, HL⟩ : ∃ L, Hid (K + T + N = L) := ⟨_, rfl⟩
    have HO9 := hide hO9
    have hL2 : L ≤ 1000 := by rw [← HL.out]; exact hKTN
    have HA9 := hide (Below.next (Below.next hA hB6) hB9)
    have HCell : Hid (∀ W, Below w9.heap.size w9 W → ∀ j, j < L → ∃ g, a9 = some ⟨g, 0, none⟩ ∧ W.cell? ⟨g, j, none⟩ = some (.int .u64 (j : Int))) := fun W hb j hj => by
      have hj2 : j < K + T + N := by rw [HL.out]; exact hj
      obtain ⟨g, cg, hvg, _, _⟩ := HO9.out.form (by omega)
      injection hvg with hvg _ hcg
      refine ⟨g, hvg, ?_⟩
      subst hvg hcg
      have := own_cell (own_below HO9.out hb) (pts_len 0 (K + T + N)) hj2
      rw [pts_at 0 hj2, Int.zero_add] at this
      exact this
    have HS := hide (fun W' (hb : Below w9.heap.size w9 W') => (HPb.out.below (Below.next hB6 (Below.next hB9 hb))).cells)
    clear hO9 hg9 hg8 hO8 hO7 hB8 hB9 hb7 HO1 HO3 HO5 HO3' HO5' HO5'' HC WD HAll hs7 c0 c1 c2 c3 c4 c5 c6 c7 HPb hA hB6
    rw [HL.out] at HO9 HRi HI HW hKTN ⊢
    go_wp2_with fail
    go_loopw [10] (fun vi wr => ∃ i : Nat, i ≤ L ∧ vi = .int .i64 i ∧ Below w9.heap.size w9 wr) (fun vi _ => L - (intOf vi).toNat)
    case atStart => exact ⟨0, Nat.zero_le _, rfl, Below.refl _ _⟩
    case round =>
      obtain ⟨i, hi, rfl, hB⟩ := hrel
      by_cases hlt : i < L
      · go_wp2_with fail
        go_loopw [11] (fun vk wr => ∃ k : Nat, k ≤ i ∧ vk = .int .i64 k ∧ Below w9.heap.size w9 wr) (fun vk _ => i - (intOf vk).toNat)
        case atStart => exact ⟨0, Nat.zero_le _, rfl, hB⟩
        case round =>
          clear hB
          obtain ⟨k, hk, rfl, hB⟩ := hrel
          by_cases hki : k < i
          · obtain ⟨g, rfl, c1⟩ := HCell.out wr hB i hlt
            obtain ⟨g', e', c2⟩ := HCell.out wr hB k (by omega)
            cases e'
            have hne : ((i : Int) == (k : Int)) = false := beq_eq_false_iff_ne.2 (by omega)
            go_wp2_with fail
            go_quiet (fail)
            go_wp2
            go_roundw
            case rel => exact ⟨k + 1, by omega, by go_num, below_drewN hB nq⟩
            case measure => simp [intOf]; omega
          · obtain rfl : k = i := by omega
            obtain ⟨g, rfl, cc⟩ := HCell.out wr.drew hB.drew k hlt
            have HWk := hide (fun W => HW.out k hlt W)
            have HBel := hide (fun W' (hb : Below wr.heap.size wr W') => HS.out W' (Below.next hB hb))
            have HCk : Hid (∀ W', Below wr.heap.size wr W' → W'.cell? ⟨g, k, none⟩ = some (.int .u64 (k : Int))) := fun W' hb => by
              obtain ⟨g', e', h'⟩ := HCell.out W' (Below.next hB hb) k hlt
              cases e'; exact h'
            have hS0 : (wr.drew.cell? ⟨w.heap.size, 0, none⟩ = some (.int .u8 pf) ∧ wr.drew.cell? ⟨w.heap.size, 1, none⟩ = some (.int .i64 (N : Int)) ∧ wr.drew.cell? ⟨w.heap.size, 2, none⟩ = some (.int .i64 (K : Int)) ∧ wr.drew.cell? ⟨w.heap.size, 3, none⟩ = some (.int .i64 (T : Int)) ∧ wr.drew.cell? ⟨w.heap.size, 4, none⟩ = some (.int .i64 ps) ∧ wr.drew.cell? ⟨w.heap.size, 5, none⟩ = some (.int .i64 pe) ∧ wr.drew.cell? ⟨w.heap.size, 6, none⟩ = some (.int .i64 pd) ∧ wr.drew.cell? ⟨w.heap.size, 7, none⟩ = some (.int .i64 pw)) ∧ wr.drew.cell? ⟨g, k, none⟩ = some (.int .u64 (k : Int)) := ⟨HBel.out _ (Below.refl _ wr).drew, cc⟩
            go_upto_region 17 with fail
            go_region_held3 (fun W' => (W'.cell? ⟨w.heap.size, 0, none⟩ = some (.int .u8 pf) ∧ W'.cell? ⟨w.heap.size, 1, none⟩ = some (.int .i64 (N : Int)) ∧ W'.cell? ⟨w.heap.size, 2, none⟩ = some (.int .i64 (K : Int)) ∧ W'.cell? ⟨w.heap.size, 3, none⟩ = some (.int .i64 (T : Int)) ∧ W'.cell? ⟨w.heap.size, 4, none⟩ = some (.int .i64 ps) ∧ W'.cell? ⟨w.heap.size, 5, none⟩ = some (.int .i64 pe) ∧ W'.cell? ⟨w.heap.size, 6, none⟩ = some (.int .i64 pd) ∧ W'.cell? ⟨w.heap.size, 7, none⟩ = some (.int .i64 pw)) ∧ W'.cell? ⟨g, k, none⟩ = some (.int .u64 (k : Int))) (first | with_reducible exact hS1 | with_reducible exact hS0) (first | (go_at_call 11; refine (HWk.out _).mono ?_; rintro e w10 ⟨z, rfl, hz, hb10⟩; have hC10 : Below wr.heap.size wr w10 := (Below.refl _ wr).drew.trans hb10; have hS1 := And.intro (HBel.out _ hC10) (HCk.out _ hC10)))
            have hB10 := Below.next hB hC10
            obtain ⟨⟨c0, c1, c2, c3, c4, c5, c6, c7⟩, _⟩ := hS1
            clear hS0 cc HCk HBel HWk
            by_cases hd : K + T ≤ k
            · rw [decide_eq_true hd]
              rw [hz hd]
              have hd2 : (K : Int) + (T : Int) ≤ (k : Int) := by omega
              clear hz hd
              go_wp2
              go_roundw
              case rel => exact ⟨k + 1, by omega, by go_num, hB10⟩
              case measure => simp [intOf]; omega
            · rw [decide_eq_false hd]
              have hd2 : ¬ (K : Int) + (T : Int) ≤ (k : Int) := by omega
              clear hz hd
              go_wp2
              go_roundw
              case rel => exact ⟨k + 1, by omega, by go_num, hB10⟩
              case measure => simp [intOf]; omega
      · obtain rfl : i = L := by omega
        have HR := hide (HRi.out wr _ _ _ (own_below HO9.out hB))
        obtain ⟨c0, c1, c2, c3, c4, c5, c6, c7⟩ := HS.out wr hB
        have HS2 := hide (fun W' (hb : Below wr.heap.size wr W') => HS.out W' (Below.next hB hb))
        clear HW HCell HRi HS
        go_wp2_with (first
          | (go_at_call 14; refine (HX.out _).mono ?_; rintro e w11 ⟨rfl, hb11⟩; clear c0 c1 c2 c3 c4 c5 c6 c7; obtain ⟨c0, c1, c2, c3, c4, c5, c6, c7⟩ := HS2.out _ hb11)
          | (go_at_call 20; refine (HI.out _ _ (HR.out.below hb11)).mono ?_; rintro e w12 ⟨rfl, rfl⟩))
        go_ret
        exact ⟨rfl, Below.next (Below.next HA9.out hB) hb11⟩

end Go.Proofs.Ytifilgmjpflekaa
