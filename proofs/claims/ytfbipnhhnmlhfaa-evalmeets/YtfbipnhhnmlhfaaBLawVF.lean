/-
  The statements of layer 11: EvalMeets walked.
-/
import Derived.Test.YtfbipnhhnmlhfaaBLawVE
import Derived.Test.YtfbipnhhnmlhfaaBunK
namespace Go.Proofs.Ytfbipnhhnmlhfaa
open Go.RowKit Fld Slp
set_option linter.unusedVariables false
set_option linter.unusedSimpArgs false

theorem cell2 {W : World} {b : Nat} {x y : Value} {T : TypeId} {fz : Nat × Nat} (h : W.heap[b]? = some (.cells #[x, y] T fz)) : W.cell? ⟨b, 0, none⟩ = some x ∧ W.cell? ⟨b, 1, none⟩ = some y := by
  refine ⟨?_, ?_⟩ <;> (unfold World.cell?; simp [h])
theorem take_snocV (g : List Int → Int) (xss : List (List Int)) {k : Nat} (hk : k < xss.length) : (xss.take k).map g ++ [g (xss.getD k [])] = (xss.take (k + 1)).map g := by
  rw [List.take_succ_eq_append_getElem hk, List.map_append, List.getD_eq_getElem?_getD, List.getElem?_eq_getElem hk]; rfl

set_option maxRecDepth 100000 in
set_option maxHeartbeats 2000000 in
theorem evalMeets_any (f : Int) (w : World) (vp v0 v1 : Value) (q : Pr) (xss yss : List (List Int)) (hf0 : 0 ≤ f) (hf1 : f ≤ 255) (hp : Pm w vp q) (hr : Rws w v0 xss) (hs : Rws w v1 yss) (hlr : xss.length ≤ 5864062014634) (hls : yss.length ≤ 5864062014634) : Calls Try.prog 6 #[.int .u8 f, vp, .agg #[v0, v1]] w fun e w' => e = .returned (.bool true) ∧ Below w.heap.size w w' := by
  obtain ⟨i0, hi0, hz0, hz1, hz2⟩ := info_parts u64_info
  have HA := hide (fun W' (hb : Below w.heap.size w W') => qCompose f q _ _ xss W' (hp.below hb) (hr.below hb))
  have HM := hide (fun W (hb : Below w.heap.size w W) => dMay vp q W (hp.below hb))
  have HOf := hide (fun W (hb : Below w.heap.size w W) => dOf vp q W (hp.below hb))
  have HTr := hide (fun v xs W (hr : Rw W v xs) => rTrim_any v xs W hr)
  have HEv := hide (fun t v xs W (hc : 0 ≤ t ∧ t ≤ 18446744073709551615) (h1 : Rw W v xs) => dEval_any f t v xs W hc h1)
  have HRun := hide (fun v xs W (hb : Below w.heap.size w W) (hr : Rw W v xs) => eRun f q vp v xs W (hp.below hb) hr)
  have HX := hide (fun W' => anch11 W')
  unfold GivesL11 at HA
  unfold IsOf at HOf
  unfold Gives at HRun
  unfold Anch11 at HX
  obtain ⟨u1, u2⟩ := co_wd (f := f) (q := q) hr.wordsL
  have HU1 := hide u1
  have HU2 := hide u2
  have HWd := hide hr.wordsL
  have HR := hide hr
  clear u1 u2
  obtain ⟨vo, vu, rfl, ho, hu⟩ := hp.form
  obtain ⟨ao, co', rfl, _⟩ := ho.spell
  obtain ⟨au, cu, rfl, _⟩ := hu.spell
  obtain ⟨ai, ci, rfl, hlen, hcap, hcell⟩ := hr
  obtain ⟨bi, di, rfl, hlen2, hcap2, hcell2⟩ := hs
  obtain ⟨n1, n2, hA⟩ := alloc2 w (.cells #[.int .i64 q.inp, .slice ao q.ops.length co', .slice au q.outs.length cu] 25) (.cells #[.slice ai xss.length ci, .slice bi yss.length di] 44)
  clear ho hu hp
  by_cases he : coE f q xss = 0
  · obtain ⟨hm, hn, hc⟩ := coE_zero he
    obtain ⟨hin, hlq, hlm, hof, hdg⟩ := cpE_zero hm hc
    obtain ⟨p, wd, hf, hx⟩ := co_lim HWd.out he
    have hco : coL f q xss = rnO (Rt f) (trP q) (xss.map tr) := by unfold coL; rw [if_pos he]
    have HFa := hide (fun t => meets_facts hf hm hc hx hco t)
    have hOv := (of_le hof).2.2
    have HLi := hide hx
    have hlo : (coL f q xss).length = q.outs.length := (HFa.out 0).1
    have HLim : Hid (∀ zs ∈ coL f q xss, Lim p zs) := fun zs hz => by
      rw [hco] at hz
      obtain ⟨v, _, rfl⟩ := List.mem_map.1 hz
      refine wd_getD (P := Lim p) (lim_allT hf (trP q).ops (xss.map tr) (fun xs hxs => ?_)) ⟨els_nil p, by simp⟩ v.toNat
      obtain ⟨ys, hy, rfl⟩ := List.mem_map.1 hxs
      exact lim_tr hf.pos (hx ys hy)
    have HRunOk : Hid (∀ t, evE f q (xss.map (vl p t)) = 0 ∧ ruL f q (xss.map (vl p t)) = rnO (Rf f) q (xss.map (vl p t))) := fun t => by
      have hel : Els p (xss.map (vl p t)) := fun x hx' => by
        obtain ⟨ys, _, rfl⟩ := List.mem_map.1 hx'
        exact vl_el hf.pos t ys
      have h1 : inF f (xss.map (vl p t)) = true := by rw [inF_yes hf]; exact allIn_of hel
      have h2 : evE f q (xss.map (vl p t)) = 0 := by unfold evE rwE; rw [if_pos hm, if_pos h1, if_pos (by rw [List.length_map]; exact hlq)]
      exact ⟨h2, by unfold ruL; rw [if_pos h2]⟩
    rw [hm] at HM
    rw [hof, hOv] at HOf
    rw [he] at HA
    have ht1 : ((xss.length : Int) != q.inp) = false := by simp [hlq]
    have hn64 : xss.length ≤ 64 := by obtain ⟨⟨j0, j1, _, _⟩, _, _⟩ := mayB_iff.1 hm; omega
    have hno : q.outs.length ≤ 64 := by obtain ⟨⟨_, _, _, j1⟩, _, _⟩ := mayB_iff.1 hm; exact j1
    have HTb : Hid (topK xss xss.length = top xss) := rfl
    have hp0 : ¬ p = 0 := by have := hf.pos; omega
    have HFi := hide hf
    have HLo := hide hlo
    clear he hn hc hin hlq hlm hof hx hco hOv hf hlo hm
    generalize hD0 : dgO q = dg at *
    clear hD0
    generalize coL f q xss = rs at *
    go_enter Try.func6, Try.ntmps6
    go_upto_region 3 with fail
    generalize (w.alloc (.cells #[.int .i64 q.inp, .slice ao q.ops.length co', .slice au q.outs.length cu] 25)).alloc (.cells #[.slice ai xss.length ci, .slice bi yss.length di] 44) = w1 at *
    have HN : Hid (∀ V, Below w1.heap.size w1 V → (V.cell? ⟨w.heap.size, 0, none⟩ = some (.int .i64 q.inp) ∧ V.cell? ⟨w.heap.size, 1, none⟩ = some (.slice ao q.ops.length co') ∧ V.cell? ⟨w.heap.size, 2, none⟩ = some (.slice au q.outs.length cu)) ∧ (V.cell? ⟨w.heap.size + 1, 0, none⟩ = some (.slice ai xss.length ci) ∧ V.cell? ⟨w.heap.size + 1, 1, none⟩ = some (.slice bi yss.length di))) := fun V hb => ⟨cell3 ((hb.block _ (Array.getElem?_eq_some_iff.1 n1).1).trans n1), cell2 ((hb.block _ (Array.getElem?_eq_some_iff.1 n2).1).trans n2)⟩
    obtain ⟨⟨p0, p1, p2⟩, p3, p4⟩ := HN.out _ (Below.refl _ _)
    clear n1 n2
    go_upto_region 6 with (go_at_call 18; refine (HA.out _ hA).mono ?_; rintro e w2 ⟨v2, us2, rfl, ho2, hb2⟩)
    have HR2 := hide (ho2.rws HU2.out (by have := HU1.out; omega))
    obtain ⟨a2, c2, hv2, hlen3, hcap3, hcell3⟩ := HR2.out
    subst hv2
    rw [HLo.out] at hlen3 hcap3 hcell3 ⊢
    have hB2 := Below.next hA hb2
    clear ho2 p0 p1 p2 p3 p4 HA
    obtain ⟨⟨p0, p1, p2⟩, p3, p4⟩ := HN.out _ hb2
    go_upto_region 8 with (go_at_call 20; refine (HM.out _ hB2).mono ?_; rintro e w3 ⟨rfl, hb3⟩; have hB3 := Below.next hB2 hb3; have hb13 := Below.next hb2 hb3; clear p0 p1 p2 p3 p4; obtain ⟨⟨p0, p1, p2⟩, p3, p4⟩ := HN.out _ hb13)
    go_upto_region 9 with (go_at_call 21; refine (HOf.out _ hB3).mono ?_; rintro e w4 ⟨rfl, hb4⟩)
    have hB4 := Below.next hB3 hb4
    have hb14 := Below.next hb13 hb4
    have hb24 := Below.next hb3 hb4
    clear p0 p1 p2 p3 p4 HM HOf
    -- BEGIN
    go_wp2
    go_loopw [13, 14] (fun vt vi wr => ∃ k : Nat, k ≤ xss.length ∧ vi = .int .i64 k ∧ vt = .int .i64 (topK xss k) ∧ Below w4.heap.size w4 wr) (fun _ vi _ => xss.length - (intOf vi).toNat)
    case atStart => exact ⟨0, Nat.zero_le _, rfl, rfl, Below.refl _ _⟩
    case round =>
      obtain ⟨k, hk, rfl, rfl, hB⟩ := hrel
      have hBw := Below.next hB4 hB
      by_cases hlt : k < xss.length
      · obtain ⟨b, off, rfl, hbl, hc⟩ := hcell (by intro e; rw [e] at hlt; simp at hlt)
        obtain ⟨u, hcu, hru⟩ := hc k hlt
        have hck := (hBw.cell (p := ⟨b, off + k, none⟩) hbl).trans hcu
        have HY := hide (HTr.out u (xss.getD k []) wr (hru.below hBw))
        obtain ⟨au', cu', rfl, _⟩ := hru.spell
        have hln := hru.len
        have htl := tr_len (xss.getD k [])
        have htk := top_bound xss k hk (fun i hi' => (HR.out.lenL i (by omega)))
        have HNt := hide (topK_next hlt)
        have k0 : (0 : Int) ≤ (k : Int) := by omega
        have k1 : (k : Int) < (xss.length : Int) := by omega
        clear hc hcell hcu hru
        obtain ⟨tl, HTl⟩ : ∃ tl, Hid ((tr (xss.getD k [])).length = tl) := ⟨_, rfl⟩
        rw [HTl.out] at HNt htl HY
        obtain ⟨tp, HTp⟩ : ∃ tp, Hid (topK xss k = tp) := ⟨_, rfl⟩
        rw [HTp.out] at HNt htk ⊢
        generalize (xss.getD k []).length = ln at *
        by_cases hmx : (tp : Int) < (tl : Int) - 1
        · have HNt2 : Hid (((topK xss (k + 1) : Nat) : Int) = (tl : Int) - 1) := by show _ = _; rw [HNt.out]; omega
          go_wp2_with (go_at_call 22; refine HY.out.mono ?_; rintro e w5 ⟨v5, rfl, ho5, hb5⟩; obtain ⟨a5, c5, rfl⟩ := own_form ho5)
          have hB5 := Below.next hB hb5
          go_roundw
          case rel => exact ⟨k + 1, by omega, by go_num, by rw [HNt2.out], hB5⟩
          case measure => simp [intOf]; omega
        · have HNt2 : Hid (((topK xss (k + 1) : Nat) : Int) = (tp : Int)) := by show _ = _; rw [HNt.out]; omega
          go_wp2_with (go_at_call 22; refine HY.out.mono ?_; rintro e w5 ⟨v5, rfl, ho5, hb5⟩; obtain ⟨a5, c5, rfl⟩ := own_form ho5)
          have hB5 := Below.next hB hb5
          go_roundw
          case rel => exact ⟨k + 1, by omega, by go_num, by rw [HNt2.out], hB5⟩
          case measure => simp [intOf]; omega
      · obtain rfl : k = xss.length := by omega
        rw [HTb.out]
        obtain ⟨tp, HTp⟩ : ∃ tp, Hid (top xss = tp) := ⟨_, rfl⟩
        rw [HTp.out] at hdg ⊢
        simp only [HTp.out] at HFa
        have hb15 := Below.next hb14 hB
        have hb25 := Below.next hb24 hB
        obtain ⟨w5, rfl⟩ : ∃ w5, w5 = wr := ⟨wr, rfl⟩
        obtain ⟨⟨p0, p1, p2⟩, p3, p4⟩ := HN.out _ hb15
        go_upto_region 15 with fail
        go_cut [87] from 76 to 87 (fun v87 wx => wx = w5 ∧ ∃ bb : Bool, v87 = .bool bb ∧ Hid (bb = true → ∃ b off au' ln cu' b' off' x, bi = some ⟨b, off, none⟩ ∧ b < w.heap.size ∧ 0 < yss.length ∧ 0 < ln ∧ w.cell? ⟨b, off, none⟩ = some (.slice au' ln cu') ∧ au' = some ⟨b', off', none⟩ ∧ b' < w.heap.size ∧ w.cell? ⟨b', off', none⟩ = some (.int .u64 x) ∧ 0 ≤ x))
        case first =>
          by_cases hy0 : 0 < yss.length
          · obtain ⟨b, off, rfl, hbl, hc⟩ := hcell2 (by intro e; rw [e] at hy0; simp at hy0)
            obtain ⟨u, hcu, hru⟩ := hc 0 hy0
            rw [Nat.add_zero] at hcu
            have hck := (hBw.cell (p := ⟨b, off, none⟩) hbl).trans hcu
            obtain ⟨au', cu', rfl, _⟩ := hru.spell
            have hy0' : (0 : Int) < (yss.length : Int) := by omega
            have hyn : ¬ yss.length = 0 := by omega
            clear hcell hcell3
            by_cases hl0 : 0 < (yss.getD 0 []).length
            · have HF : Hid (∃ b off au'' ln cu'' b' off' x, (some ⟨b, off, none⟩ : Option Addr) = some ⟨b, off, none⟩ ∧ b < w.heap.size ∧ 0 < yss.length ∧ 0 < ln ∧ w.cell? ⟨b, off, none⟩ = some (.slice au'' ln cu'') ∧ au'' = some ⟨b', off', none⟩ ∧ b' < w.heap.size ∧ w.cell? ⟨b', off', none⟩ = some (.int .u64 x) ∧ 0 ≤ x) := by
                obtain ⟨ao', co2, hv', _, hww, hcc⟩ := hru.1
                cases hv'
                obtain ⟨b', off', e', hbl', hcx⟩ := hcc (by intro e; rw [e] at hl0; simp at hl0)
                have h0 := hcx 0 hl0
                rw [Nat.add_zero] at h0
                have hm0 : (yss.getD 0 []).getD 0 0 ∈ yss.getD 0 [] := by rw [getD_at hl0]; exact List.getElem_mem hl0
                exact ⟨b, off, _, _, _, b', off', _, rfl, hbl, hy0, hl0, hcu, e', hbl', h0, (hww _ hm0).1⟩
              have HF2 : Hid (∃ b1 off1 au'' ln cu'' b' off' x, (some ⟨b, off, none⟩ : Option Addr) = some ⟨b1, off1, none⟩ ∧ b1 < w.heap.size ∧ 0 < yss.length ∧ 0 < ln ∧ w.cell? ⟨b1, off1, none⟩ = some (.slice au'' ln cu'') ∧ au'' = some ⟨b', off', none⟩ ∧ b' < w.heap.size ∧ w.cell? ⟨b', off', none⟩ = some (.int .u64 x) ∧ 0 ≤ x) := by
                obtain ⟨ao', co2, hv', _, hww, hcc⟩ := hru.1
                cases hv'
                obtain ⟨b', off', e', hbl', hcx⟩ := hcc (by intro e; rw [e] at hl0; simp at hl0)
                have h0 := hcx 0 hl0
                rw [Nat.add_zero] at h0
                have hm0 : (yss.getD 0 []).getD 0 0 ∈ yss.getD 0 [] := by rw [getD_at hl0]; exact List.getElem_mem hl0
                exact ⟨b, off, _, _, _, b', off', _, rfl, hbl, hy0, hl0, hcu, e', hbl', h0, (hww _ hm0).1⟩
              have hl0' : (0 : Int) < ((yss.getD 0 []).length : Int) := by omega
              clear hc hru hcu HF hl0
              generalize (yss.getD 0 []).length = ln at *
              go_wp2
              go_meet
              case rel => exact ⟨rfl, true, by simp; omega, fun _ => HF2.out⟩
            · have hl0' : ¬ (0 : Int) < ((yss.getD 0 []).length : Int) := by omega
              clear hc hru hcu hl0
              generalize (yss.getD 0 []).length = ln at *
              go_wp2
              go_meet
              case rel => exact ⟨rfl, false, by simp; omega, fun h => by cases h⟩
          · have hy0' : ¬ (0 : Int) < (yss.length : Int) := by omega
            clear hcell hcell3 hcell2
            go_wp2
            go_meet
            case rel => exact ⟨rfl, false, by simp [hy0'], fun h => by cases h⟩
        case rest =>
          obtain ⟨rfl, bb, rfl, HBB⟩ := hcut
          clear p0 p1 p2 p3 p4 hcell2
          go_upto_if 87 with fail
          go_cut [15] from 88 to 96 (fun v15 wx => ∃ x, v15 = .int .u64 x ∧ Hid (El p x) ∧ Below wc.heap.size wc wx)
          case first =>
            cases bb with
            | true =>
              obtain ⟨b, off, au', ln, cu', b', off', x, rfl, hbl, hy0, hln0, hc1, rfl, hbl', hc2, hx0⟩ := HBB.out rfl
              have hd0 : Below wc.heap.size wc wc.drew := (Below.refl _ wc).drew
              obtain ⟨_, _, q4⟩ := HN.out _ (Below.next hb15 hd0)
              have hS0 : wc.drew.cell? ⟨w.heap.size + 1, 1, none⟩ = some (.slice (some ⟨b, off, none⟩) yss.length di) ∧ wc.drew.cell? ⟨b, off, none⟩ = some (.slice (some ⟨b', off', none⟩) ln cu') ∧ wc.drew.cell? ⟨b', off', none⟩ = some (.int .u64 x) := ⟨q4, ((Below.next hBw hd0).cell (p := ⟨b, off, none⟩) hbl).trans hc1, ((Below.next hBw hd0).cell (p := ⟨b', off', none⟩) hbl').trans hc2⟩
              have hy0' : (0 : Int) < (yss.length : Int) := by omega
              have hyn : ¬ yss.length = 0 := by omega
              have hln0' : (0 : Int) < (ln : Int) := by omega
              have hlnn : ¬ ln = 0 := by omega
              have HPq := hide (fun W => rP_yes f p wd W HFi.out)
              have HEl : Hid (El p (x.tmod p)) := by
                show El p (x.tmod p)
                rw [Int.tmod_eq_emod_of_nonneg hx0]; exact emod_el HFi.out.pos x
              clear HBB hcell hcell3
              go_upto_region 16 with fail
              refine wp_region_held_drew (S := (fun V => V.cell? ⟨w.heap.size + 1, 1, none⟩ = some (.slice (some ⟨b, off, none⟩) yss.length di) ∧ V.cell? ⟨b, off, none⟩ = some (.slice (some ⟨b', off', none⟩) ln cu') ∧ V.cell? ⟨b', off', none⟩ = some (.int .u64 x))) (by kernel_rfl) (by ((try dsimp only) <;> (with_reducible exact hS0))) (fun hHeld => ?_)
              (refine wpAnyH_take (i := 0) (oi := _) (v := ?v386) rfl (by kernel_rfl) (by kernel_rfl) (by kernel_rfl) (fun _ _ _ h => h) (Or.inl ⟨by rfl, ?hy386⟩) (by assumption) ?rest386; (case hy386 => (first | (intro w hSw; (try dsimp only at hSw); go_simp; done) | (intro w hSw; (try dsimp only at hSw); go_simp; with_reducible rfl))); (try simp only [Act.put, List.getElem_toArray, List.getElem_cons_succ, List.getElem_cons_zero, List.setIfInBounds_toArray, List.set_cons_zero, List.set_cons_succ]))
              (refine wpAnyH_take (i := 1) (oi := _) (v := ?v387) rfl (by kernel_rfl) (by kernel_rfl) (by kernel_rfl) (fun _ _ _ h => h) (Or.inl ⟨by rfl, ?hy387⟩) (by assumption) ?rest387; (case hy387 => (first | (intro w hSw; (try dsimp only at hSw); go_simp; done) | (intro w hSw; (try dsimp only at hSw); go_simp; with_reducible rfl))); (try simp only [Act.put, List.getElem_toArray, List.getElem_cons_succ, List.getElem_cons_zero, List.setIfInBounds_toArray, List.set_cons_zero, List.set_cons_succ]))
              (refine wpAnyH_take (i := 2) (oi := _) (v := ?v388) rfl (by kernel_rfl) (by kernel_rfl) (by kernel_rfl) (fun _ _ _ h => h) (Or.inl ⟨by rfl, ?hy388⟩) (by assumption) ?rest388; (case hy388 => (first | (intro w hSw; (try dsimp only at hSw); go_simp; done) | (intro w hSw; (try dsimp only at hSw); go_simp; with_reducible rfl))); (try simp only [Act.put, List.getElem_toArray, List.getElem_cons_succ, List.getElem_cons_zero, List.setIfInBounds_toArray, List.set_cons_zero, List.set_cons_succ]))
              (refine wpAnyH_take (i := 3) (oi := _) (v := ?v389) rfl (by kernel_rfl) (by kernel_rfl) (by kernel_rfl) (fun _ _ _ h => h) (Or.inl ⟨by rfl, ?hy389⟩) (by assumption) ?rest389; (case hy389 => (first | (intro w hSw; (try dsimp only at hSw); go_simp; done) | (intro w hSw; (try dsimp only at hSw); go_simp; with_reducible rfl))); (try simp only [Act.put, List.getElem_toArray, List.getElem_cons_succ, List.getElem_cons_zero, List.setIfInBounds_toArray, List.set_cons_zero, List.set_cons_succ]))
              (refine wpAnyH_take (i := 4) (oi := _) (v := ?v390) rfl (by kernel_rfl) (by kernel_rfl) (by kernel_rfl) (fun _ _ _ h => h) (Or.inl ⟨by rfl, ?hy390⟩) (by assumption) ?rest390; (case hy390 => (first | (intro w hSw; (try dsimp only at hSw); go_simp; done) | (intro w hSw; (try dsimp only at hSw); go_simp; with_reducible rfl))); (try simp only [Act.put, List.getElem_toArray, List.getElem_cons_succ, List.getElem_cons_zero, List.setIfInBounds_toArray, List.set_cons_zero, List.set_cons_succ]))
              (refine wpAnyH_take (i := 5) (oi := _) (v := ?v391) rfl (by kernel_rfl) (by kernel_rfl) (by kernel_rfl) (fun _ _ _ h => h) (Or.inl ⟨by rfl, ?hy391⟩) (by assumption) ?rest391; (case hy391 => (first | (intro w hSw; (try dsimp only at hSw); go_simp; done) | (intro w hSw; (try dsimp only at hSw); go_simp; with_reducible rfl))); (try simp only [Act.put, List.getElem_toArray, List.getElem_cons_succ, List.getElem_cons_zero, List.setIfInBounds_toArray, List.set_cons_zero, List.set_cons_succ]))
              (refine wpAnyH_take (i := 6) (oi := _) (v := ?v392) rfl (by kernel_rfl) (by kernel_rfl) (by kernel_rfl) (fun _ _ _ h => h) (Or.inl ⟨by rfl, ?hy392⟩) (by assumption) ?rest392; (case hy392 => (first | (intro w hSw; (try dsimp only at hSw); go_simp; done) | (intro w hSw; (try dsimp only at hSw); go_simp; with_reducible rfl))); (try simp only [Act.put, List.getElem_toArray, List.getElem_cons_succ, List.getElem_cons_zero, List.setIfInBounds_toArray, List.set_cons_zero, List.set_cons_succ]))
              refine wpAnyH_ready (rs := [7]) (by kernel_rfl) (by simp) ?_
              refine AllReadyH.cons (o := _) rfl (fun K hK => ?_) AllReadyH.nil
              try simp only [List.getElem_toArray, List.getElem_cons_succ, List.getElem_cons_zero]
              go_simp
              (first
                    | (go_at_call 23; refine (HPq.out _).mono ?_; rintro e wq ⟨rfl, hw⟩; rw [hw]; clear hw))
              first | (refine hK.out _ _ (by ((try dsimp only) <;> (with_reducible exact hS0))) (fun hHeld => ?_)) | (go_wp2_with fail; refine hK.out _ _ (by ((try dsimp only) <;> (with_reducible exact hS0))) (fun hHeld => ?_))
              clear hK K
              (try simp only [Act.put, List.getElem_toArray, List.getElem_cons_succ, List.getElem_cons_zero, List.setIfInBounds_toArray, List.set_cons_zero, List.set_cons_succ])
              (refine wpAnyH_take (i := 8) (oi := _) (v := ?v393) rfl (by kernel_rfl) (by kernel_rfl) (by kernel_rfl) (fun _ _ _ h => h) (Or.inl ⟨by rfl, ?hy393⟩) (by assumption) ?rest393; (case hy393 => (first | (intro w hSw; (try dsimp only at hSw); go_simp; done) | (intro w hSw; (try dsimp only at hSw); go_simp; with_reducible rfl))); (try simp only [Act.put, List.getElem_toArray, List.getElem_cons_succ, List.getElem_cons_zero, List.setIfInBounds_toArray, List.set_cons_zero, List.set_cons_succ]))
              (refine wpAnyH_take (i := 9) (oi := _) (v := ?v394) rfl (by kernel_rfl) (by kernel_rfl) (by kernel_rfl) (fun _ _ _ h => h) (Or.inl ⟨by rfl, ?hy394⟩) (by assumption) ?rest394; (case hy394 => (first | (intro w hSw; (try dsimp only at hSw); go_simp; done) | (intro w hSw; (try dsimp only at hSw); go_simp; with_reducible rfl))); (try simp only [Act.put, List.getElem_toArray, List.getElem_cons_succ, List.getElem_cons_zero, List.setIfInBounds_toArray, List.set_cons_zero, List.set_cons_succ]))
              refine wpAnyH_done (by kernel_rfl) ?_ _
              go_wp2
              go_meet
              case rel => exact ⟨_, rfl, HEl, hd0⟩
            | false =>
              have h0 : Hid (El p 0) := ⟨by decide, HFi.out.pos⟩
              clear HBB hcell hcell3
              go_wp2
              go_meet
              case rel => exact ⟨0, rfl, h0, Below.refl _ _⟩
          case rest =>
            obtain ⟨x, rfl, HEl, hb6⟩ := hcut
            have hxw := elWord HEl.out HFi.out.top
            obtain ⟨h1, h2, h3⟩ := HFa.out x
            have HMap := hide h2
            have HDeg := hide h3
            clear h1 h2 h3 HFa HBB
            have hB6 := Below.next hBw hb6
            have hb26 := Below.next hb25 hb6
            have hb16 := Below.next hb15 hb6
            obtain ⟨w6, rfl⟩ : ∃ w6, w6 = wc := ⟨wc, rfl⟩
            have HVal : Hid (∀ k, k < xss.length → valE f x (xss.getD k []) = vl p x (xss.getD k []) ∧ er f (xss.getD k []) [x] = 0) := fun k hk => by
              have hL := HLi.out _ (getD_mem hk)
              have h1 : er f (xss.getD k []) [x] = 0 := er_yes HFi.out (allIn_of hL.1) (allIn1 HEl.out) hL.2 (by simp)
              exact ⟨by unfold valE; rw [if_pos h1, pOf_eq HFi.out], h1⟩
            have HVal2 : Hid (∀ k, k < rs.length → valE f x (rs.getD k []) = vl p x (rs.getD k []) ∧ er f (rs.getD k []) [x] = 0) := fun k hk => by
              have hL := HLim.out _ (getD_mem hk)
              have h1 : er f (rs.getD k []) [x] = 0 := er_yes HFi.out (allIn_of hL.1) (allIn1 HEl.out) hL.2 (by simp)
              exact ⟨by unfold valE; rw [if_pos h1, pOf_eq HFi.out], h1⟩
            have HVw : Hid (∀ xs, 0 ≤ vl p x xs ∧ vl p x xs ≤ 18446744073709551615) := fun xs => elWord (vl_el HFi.out.pos x xs) HFi.out.top
            go_wp2
            go_loopw [16, 17] (fun vo vi wr => ∃ k : Nat, k ≤ xss.length ∧ vi = .int .i64 k ∧ Hid (wr.ownsRow w6.heap.size 49 1 vo k (vals ((xss.take k).map (vl p x)))) ∧ Below w6.heap.size w6 wr) (fun _ vi _ => xss.length - (intOf vi).toNat)
            case atStart => exact ⟨0, Nat.zero_le _, rfl, World.ownsRow_nil _ _ _ _, Below.refl _ _⟩
            case round =>
              obtain ⟨k, hk, rfl, Hown, hB7⟩ := hrel
              have hBw7 := Below.next hB6 hB7
              by_cases hlt : k < xss.length
              · obtain ⟨b, off, rfl, hbl, hc⟩ := hcell (by intro e; rw [e] at hlt; simp at hlt)
                obtain ⟨u, hcu, hru⟩ := hc k hlt
                have hck := (hBw7.cell (p := ⟨b, off + k, none⟩) hbl).trans hcu
                have HY := hide (HEv.out x u (xss.getD k []) wr hxw (hru.below hBw7))
                rw [(HVal.out k hlt).1, (HVal.out k hlt).2] at HY
                have HS := hide (take_snocV (vl p x) xss hlt)
                obtain ⟨au', cu', rfl, _⟩ := hru.spell
                have k0 : (0 : Int) ≤ (k : Int) := by omega
                have k1 : (k : Int) < (xss.length : Int) := by omega
                clear hc hcell hcu hru hcell3
                generalize vl p x (xss.getD k []) = y at *
                generalize (xss.getD k []).length = ln at *
                go_wp2_with (first
                  | (go_at_call 24; refine HY.out.mono ?_; rintro e w8 ⟨rfl, hb8⟩; have hown8 := own_below Hown.out hb8; have hB8 := Below.next hB7 hb8; have hsz8 := hB8.size)
                  | (at_builtin; refine wpList_append_lies _ rfl _ _ _ rfl w6.heap.size 49 i0 _ 1 8 Try.underlying26 hi0 hz0 hz1 hz2 rfl (by omega) u16 k _ rfl (hown8.alloc _) ⟨w8.heap.size, 0, none⟩ 1 1 [.int .u64 y] rfl rfl (World.news_of_block (cs := #[.int .u64 y]) (t := 49) (fr := (0, 0)) (heap_alloc_new w8 _)) (by simp [Value.oneCell']) (by omega) (by unfold maxLen; omega) (by omega) (by simp; omega) (w8.heap.size + 1) (by simp) ?_; intro gg cap2 w9 hown9 hgrow hat hltg))
                have R := hide (push_step hB8 hown8 hown9 hgrow HS.out)
                clear hown9 hgrow hat hltg hown8
                go_roundw
                case rel => exact ⟨k + 1, by omega, by go_num, R.out.1, R.out.2⟩
                case measure => simp [intOf]; omega
              · obtain rfl : k = xss.length := by omega
                rw [List.take_length] at Hown
                have hvl : (xss.map (vl p x)).length = xss.length := by simp
                have HRr := hide (rw_of_own Hown.out (by rw [hvl]; omega) (fun y hy => by obtain ⟨xs, _, rfl⟩ := List.mem_map.1 hy; exact HVw.out xs))
                have HRo := hide (HRunOk.out x)
                clear HRunOk
                generalize xss.map (vl p x) = row at *
                have HY := hide (HRun.out u16 row wr hBw7 HRr.out)
                rw [HRo.out.1, HRo.out.2] at HY
                have hzl : (rnO (Rf f) q row).length = q.outs.length := rnO_len _ _ _
                have HZw : Hid (∀ y ∈ rnO (Rf f) q (row), 0 ≤ y ∧ y ≤ 18446744073709551615) := fun y hy => by
                  rw [← HMap.out] at hy
                  obtain ⟨zs, _, rfl⟩ := List.mem_map.1 hy
                  exact HVw.out zs
                have HZe : Hid (∀ k, k < rs.length → (rnO (Rf f) q (row)).getD k 0 = vl p x (rs.getD k [])) := fun k hk => by
                  rw [← HMap.out, List.getD_eq_getElem?_getD, List.getElem?_map, List.getD_eq_getElem?_getD, List.getElem?_eq_getElem hk]; rfl
                obtain ⟨Z, HZ⟩ : ∃ Z, Hid (rnO (Rf f) q (row) = Z) := ⟨_, rfl⟩
                rw [HZ.out] at HY hzl HZw HZe
                have HZl := hide hzl
                obtain ⟨⟨p0, p1, p2⟩, p3, p4⟩ := HN.out _ (Below.next hb16 hB7)
                obtain ⟨aw, cw, hsl, _⟩ := HRr.out.spell
                subst hsl
                clear hvl
                generalize row.length = rl at *
                clear hcell HMap hzl HRo HVal HRr Hown
                go_upto_region 24 with (go_at_call 9; refine HY.out.mono ?_; rintro e w8 ⟨v8, rfl, ho8, hb8⟩)
                have HR8 := hide (rw_of_own ho8 (by have := HZl.out; omega) HZw.out)
                obtain ⟨a8, c8, rfl⟩ := own_form ho8
                rw [HZl.out]
                have hB8 := Below.next hBw7 hb8
                have hb28 := Below.next (Below.next hb26 hB7) hb8
                clear ho8 p0 p1 p2 p3 p4
                go_wp2
                go_loopw [22] (fun vi wr => ∃ k : Nat, k ≤ q.outs.length ∧ vi = .int .i64 k ∧ Below w8.heap.size w8 wr) (fun vi _ => q.outs.length - (intOf vi).toNat)
                case atStart => exact ⟨0, Nat.zero_le _, rfl, Below.refl _ _⟩
                case round =>
                  obtain ⟨k, hk, rfl, hB9⟩ := hrel
                  have hBw9 := Below.next hB8 hB9
                  have hb29 := Below.next hb28 hB9
                  by_cases hlt : k < q.outs.length
                  · have hkr : k < rs.length := by have := HLo.out; omega
                    obtain ⟨b, off, rfl, hbl, hc⟩ := hcell3 (by intro e; rw [e] at hkr; simp at hkr)
                    obtain ⟨u, hcu, hru⟩ := hc k hlt
                    have hck := (hb29.cell (p := ⟨b, off + k, none⟩) hbl).trans hcu
                    have HY2 := hide (HEv.out x u (rs.getD k []) _ hxw (hru.below hb29))
                    rw [(HVal2.out k hkr).1, (HVal2.out k hkr).2, ← HZe.out k hkr] at HY2
                    obtain ⟨a9, c9, hv9, hl9, hw9, hc9⟩ := HR8.out.1
                    cases hv9
                    obtain ⟨b9, off9, rfl, hbl9, hcc⟩ := hc9 (by intro e; have := HZl.out; rw [e] at this; simp at this; omega)
                    have hcz := (hB9.cell (p := ⟨b9, off9 + k, none⟩) hbl9).trans (hcc k (by have := HZl.out; omega))
                    have hdk := HDeg.out _ (getD_mem hkr)
                    obtain ⟨au', cu', rfl, _⟩ := hru.spell
                    have hlnk := hru.len
                    have HCk : Hid (∀ V, Below wr.heap.size wr V → V.cell? ⟨b, off + k, none⟩ = some (.slice au' (rs.getD k []).length cu') ∧ V.cell? ⟨b9, off9 + k, none⟩ = some (.int .u64 (Z.getD k 0))) := fun V hb => ⟨(hb.cell (World.block_lt_of_cell? _ _ hck)).trans hck, (hb.cell (World.block_lt_of_cell? _ _ hcz)).trans hcz⟩
                    have k0 : (0 : Int) ≤ (k : Int) := by omega
                    have k1 : (k : Int) < (q.outs.length : Int) := by omega
                    obtain ⟨D, hD⟩ : ∃ D : Nat, dg * tp = D := ⟨_, rfl⟩
                    have hDi : (dg : Int) * (tp : Int) = (D : Int) := by rw [← hD, Int.natCast_mul]
                    have hd1 : D ≤ 4095 := by rw [← hD]; exact hdg
                    have hdk2 : ((rs.getD k []).length : Int) - 1 ≤ (D : Int) := by rw [hD] at hdk; omega
                    clear hc hcell3 hcu hru hc9 hcc hdk hD
                    generalize Z.getD k 0 = y at *
                    generalize (rs.getD k []).length = ln at *
                    have ht9 : (y != y) = false := by simp
                    go_wp2_with (go_at_call 24; refine HY2.out.mono ?_; rintro e w10 ⟨rfl, hb10⟩; clear hck hcz; obtain ⟨hck, hcz⟩ := HCk.out _ hb10)
                    have hB10 := Below.next hB9 hb10
                    go_roundw
                    case rel => exact ⟨k + 1, by omega, by go_num, hB10⟩
                    case measure => simp [intOf]; omega
                  · obtain rfl : k = q.outs.length := by omega
                    clear hcell3
                    go_wp2_with (go_at_call 14; refine (HX.out _).mono ?_; rintro e w11 ⟨rfl, hb11⟩)
                    go_ret
                    exact ⟨rfl, Below.next hBw9 hb11⟩
  · have ht : (coE f q xss != 0) = true := bne_iff_ne.2 he
    clear he
    generalize coL f q xss = rs at *
    generalize coE f q xss = er at *
    go_enter Try.func6, Try.ntmps6
    go_wp2_with (first
      | (go_at_call 18; refine (HA.out _ hA).mono ?_; rintro e w2 ⟨v2, us2, rfl, ho2, hb2⟩; have hB2 := Below.next hA hb2)
      | (go_at_call 14; refine (HX.out _).mono ?_; rintro e w7 ⟨rfl, hb7⟩; have hB7 := Below.next hB2 hb7))
    go_ret
    exact ⟨rfl, hB7⟩

end Go.Proofs.Ytfbipnhhnmlhfaa
