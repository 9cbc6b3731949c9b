/-
  Layer 10: Trim, the document's.
-/
import Derived.Test.YtfbipnhhnmlhfabBunC
import Derived.Test.YtfbipnhhnmlhfabBDgrC
import Derived.Test.YtfbipnhhnmlhfabBQMute
namespace Go.Proofs.Ytfbipnhhnmlhfab
open Go.RowKit Fld Slp
set_option linter.unusedVariables false
set_option linter.unusedSimpArgs false

/-- The places, so far, are those of the end. -/
def Qp (p : Pr) (v : Nat) (xs : List Int) : Prop := ∀ u, u < v → xs.getD u 0 = (trS p p.ops.length).1.getD u 0
theorem trS_gone {p : Pr} {i n : Nat} (hi : i < n) (h : (wtd p).getD (p.inp.toNat + i) false = false) : (trS p n).1.getD (p.inp.toNat + i) 0 = p.inp + (i : Int) := by
  rw [trS_at p (i := i + 1) hi (by omega), trS_no (by rw [h]; simp), ← (trS_len p i).1, getD_last]
theorem Qp.low {p : Pr} {v : Nat} {xs : List Int} (h : Qp p v xs) (hl : v < xs.length) (hv : v < p.inp.toNat) : Qp p (v + 1) (xs.set v (v : Int)) := by
  intro u hu
  rw [seti_get _ _ _ _ hl]
  by_cases e : u = v
  · subst e; rw [if_pos rfl, trS_low p hv]
  · rw [if_neg e, h u (by omega)]
theorem Qp.no {p : Pr} {v i : Nat} {xs : List Int} (h : Qp p v xs) (hl : v < xs.length) (h0 : 0 ≤ p.inp) (hv : v = p.inp.toNat + i) (hi : i < p.ops.length) (hw : (wtd p).getD v false = false) : Qp p (v + 1) (xs.set v (v : Int)) := by
  intro u hu
  rw [seti_get _ _ _ _ hl]
  by_cases e : u = v
  · subst e
    rw [if_pos rfl, hv, trS_gone hi (by rw [← hv]; exact hw)]; omega
  · rw [if_neg e, h u (by omega)]
theorem Qp.yes {p : Pr} {v i : Nat} {xs : List Int} (h : Qp p v xs) (hl : v < xs.length) (hv : v = p.inp.toNat + i) (hi : i < p.ops.length) (hw : (wtd p).getD v false = true) : Qp p (v + 1) ((xs.set v (v : Int)).set v (p.inp + ((trS p i).2.length : Int))) := by
  intro u hu
  rw [seti_get _ _ _ _ (by simpa using hl), seti_get _ _ _ _ hl]
  by_cases e : u = v
  · subst e
    rw [if_pos rfl, hv, trS_step hi (by rw [← hv]; exact hw)]
  · rw [if_neg e, if_neg e, h u (by omega)]
theorem tk_made {w W : World} {p : Pr} {vo vu : Value} {b0 b1 : Nat} (lo : w.heap.size ≤ b0) (l1 : b0 < b1) (pb : W.heap[b0]? = some (.cells #[.int .i64 p.inp, vo, vu] 25 (0, 0))) (rb : W.heap[b1]? = some (.cells #[.int .i64 0, .slice none 0 0, .slice none 0 0] 25 (0, 0))) (bl : Below w.heap.size w W) : Tk w (W.alloc (.cells #[.int .i64 p.inp, .slice none 0 0, .slice none 0 0] 25)) p vo vu b0 b1 W.heap.size W.heap.size (.slice none 0 0) (.slice none 0 0) [] [] := by
  have hA := alloc_below W (.cells #[.int .i64 p.inp, .slice none 0 0, .slice none 0 0] 25)
  exact ⟨lo, l1, (Array.getElem?_eq_some_iff.1 rb).1, Nat.le_refl _, (hA.block _ (Array.getElem?_eq_some_iff.1 pb).1).trans pb, (hA.block _ (Array.getElem?_eq_some_iff.1 rb).1).trans rb, heap_alloc_last W _, own_nil _ _ _ _, own_nil _ _ _ _, Below.next bl hA⟩

set_option maxRecDepth 100000 in
set_option maxHeartbeats 1000000 in
theorem dTrim (v : Value) (p : Pr) (w : World) (h : Pm w v p) : IsTrim 30 v w p := by
  unfold IsTrim
  have M := hide (fun W (hb : Below w.heap.size w W) => dMay v p W (h.below hb))
  have HP := hide h
  obtain ⟨vo, vu, rfl, ho, hu⟩ := h.form
  obtain ⟨ao, co, rfl, _⟩ := ho.spell
  obtain ⟨au, cu, rfl, _⟩ := hu.spell
  have HO := hide ho
  have HU := hide hu
  obtain ⟨n1, n2, hA⟩ := alloc2 w (.cells #[.int .i64 p.inp, .slice ao p.ops.length co, .slice au p.outs.length cu] 25) (.cells #[.int .i64 0, .slice none 0 0, .slice none 0 0] 25)
  clear h ho hu
  cases hm : mayB p with
  | false =>
    have E1 : Hid (trE p = 2) := by show _ = _; unfold trE; rw [hm]; rfl
    have E2 : Hid (trR p = pz) := by show _ = _; unfold trR; rw [hm]; rfl
    rw [hm] at M
    clear hm
    go_enter Try.func30, Try.ntmps30
    go_wp2_with (go_at_call 26; refine (M.out _ hA).mono ?_; rintro e w1 ⟨rfl, hb1⟩; have r1 := (hb1.block _ (Array.getElem?_eq_some_iff.1 n2).1).trans n2; obtain ⟨r10, r11, r12⟩ := cell3 r1; have rf := fun k => Lib.frozen_of_heap r1 k)
    have hg := set3_grown w1 (w.heap.size + 1) (.int .i64 0) (.slice none 0 0) (.slice none 0 0)
    have hB1 := Below.next hA hb1
    rw [E1.out, E2.out]
    exact bodyPost_ret (res_ct (a := 2) (b := 3) rfl rfl rfl (load_prog (set_blk (set_blk (set_blk r1 0 (.int .i64 0)) 1 (.slice none 0 0)) 2 (.slice none 0 0)))) rfl ⟨_, _, rfl, own_nil _ _ _ _, own_nil _ _ _ _, hB1.grown hg hB1.size (fun k e => by cases e; omega)⟩
  | true =>
    rw [hm] at M
    have HD := hide (fun W (hb : Below w.heap.size w W) => dWanted _ p W (HP.out.below hb) hm)
    have HM := hide hm
    obtain ⟨⟨i0, i1, l1, l2⟩, _, _⟩ := mayB_iff.1 hm
    obtain ⟨n, hn⟩ := Int.eq_ofNat_of_zero_le i0
    have Hn := hide hn
    have HN : Hid (p.inp.toNat = n) := by show _ = _; omega
    obtain ⟨m, Hm⟩ : ∃ m, Hid ((wtd p).length = m) := ⟨_, rfl⟩
    have hmm : n + p.ops.length = m := by rw [← Hm.out, wtd_len, HN.out]
    have Hmm := hide hmm
    have hn64 : n ≤ 64 := by omega
    have hm320 : m ≤ 320 := by omega
    have hmk := makeI m (by omega)
    rw [Hm.out] at HD
    clear hm i0 hn hmm i1
    go_enter Try.func30, Try.ntmps30
    go_upto_region 4 with (first
      | (go_at_call 26; refine (M.out _ hA).mono ?_; rintro e w1 ⟨rfl, hb1⟩; have hB1 := Below.next hA hb1; have m1 := (hb1.block _ (Array.getElem?_eq_some_iff.1 n1).1).trans n1; have m2 := (hb1.block _ (Array.getElem?_eq_some_iff.1 n2).1).trans n2; obtain ⟨p0, p1, p2⟩ := cell3 m1)
      | (go_at_call 47; refine (HD.out _ hB1).mono ?_; rintro e w2 ⟨gm, rfl, A2, hgm, hb2⟩))
    have q1 := (hb2.block _ (Array.getElem?_eq_some_iff.1 m1).1).trans m1
    have q2 := (hb2.block _ (Array.getElem?_eq_some_iff.1 m2).1).trans m2
    have hg1 : w.heap.size + 1 < gm := by have := (Array.getElem?_eq_some_iff.1 m2).1; omega
    have hB2 := Below.next hB1 hb2
    clear p0 p1 p2 m1 m2 n1 n2
    obtain ⟨p0, p1, p2⟩ := cell3 q1
    have hA3 := alloc_below w2 (.cells ((List.replicate m (0 : Int)).map (Value.int .i64)).toArray 3)
    have A3 : Ar (Value.int .i64) 3 m (w2.alloc (.cells ((List.replicate m (0 : Int)).map (Value.int .i64)).toArray 3)) w2.heap.size (List.replicate m 0) := ar_new w2 _ List.length_replicate
    have Hgs0 : Hid (gm < w2.heap.size ∧ w.heap.size + 1 < gm) := ⟨A2.lt, hg1⟩
    go_upto_region 5 with fail
    have eR : Array.replicate m (Value.int .i64 0) = ((List.replicate m (0 : Int)).map (Value.int .i64)).toArray := by simp
    rw [eR]
    clear eR p0 p1 p2
    have q3 := (hA3.block _ (Array.getElem?_eq_some_iff.1 q1).1).trans q1
    have q4 := (hA3.block _ (Array.getElem?_eq_some_iff.1 q2).1).trans q2
    have hB3 := Below.next hB2 hA3
    have M3 := A2.below hA3
    generalize w2.alloc (.cells ((List.replicate m (0 : Int)).map (Value.int .i64)).toArray 3) = w3 at *
    obtain ⟨p0, p1, p2⟩ := cell3 q3
    have T0 := tk_made (b1 := w.heap.size + 1) (Nat.le_refl _) (Nat.lt_succ_self w.heap.size) q3 q4 hB3
    have hA4 := alloc_below w3 (.cells #[.int .i64 p.inp, .slice none 0 0, .slice none 0 0] 25)
    have L0 := A3.below hA4
    have M0 := M3.below hA4
    have Hgs : Hid (w2.heap.size < w3.heap.size ∧ gm < w3.heap.size ∧ w.heap.size + 1 < gm ∧ gm < w2.heap.size) := ⟨A3.lt, M3.lt, Hgs0.out.2, Hgs0.out.1⟩
    go_upto_region 6 with fail
    generalize w.heap.size + 1 = b1 at *
    generalize w3.alloc (.cells #[.int .i64 p.inp, .slice none 0 0, .slice none 0 0] 25) = w5 at *
    generalize w2.heap.size = ga at *
    generalize w3.heap.size = B at *
    have hn := Hn.out
    have hlo : w.heap.size < b1 := T0.l1
    clear hA4 hA3 A3 M3 A2 hg1 hgm hb2 hb1 hB1 hB2 hB3 q1 q2 q3 q4 p0 p1 p2 hmk M HD hA Hgs0
    rw [hn]
    have HPb : Hid (∀ W yo yu os us, Tk w W p (.slice ao p.ops.length co) (.slice au p.outs.length cu) w.heap.size b1 B B yo yu os us → W.heap[w.heap.size]? = some (.cells #[.int .i64 (n : Int), .slice ao p.ops.length co, .slice au p.outs.length cu] 25 (0, 0)) ∧ W.heap[B]? = some (.cells #[.int .i64 (n : Int), yo, yu] 25 (0, 0))) := fun W yo yu os us h => by have h1 := h.pb; have h2 := h.blk; rw [Hn.out] at h1 h2; exact ⟨h1, h2⟩
    clear hn
    go_wp2_with fail
    go_loopw [7] (fun vi wr => ∃ (v : Nat) (ya : Option Addr) (yc : Nat) (xs : List Int), v ≤ m ∧ vi = .int .i64 v ∧ Hid (Tk w wr p (.slice ao p.ops.length co) (.slice au p.outs.length cu) w.heap.size b1 B B (.slice ya (trS p (v - n)).2.length yc) (.slice none 0 0) (trS p (v - n)).2 []) ∧ Hid (Ar Value.bool 4 m wr gm (wtd p)) ∧ Hid (Ar (Value.int .i64) 3 m wr ga xs) ∧ Hid (Qp p v xs)) (fun vi _ => m - (intOf vi).toNat)
    case atStart => exact ⟨0, none, 0, _, Nat.zero_le _, rfl, by rw [Nat.zero_sub]; exact T0, M0, L0, fun u hu => by omega⟩
    case round =>
      clear T0 M0 L0
      obtain ⟨v, ya, yc, xs, hv, rfl, T, Ma, Pl, HQ⟩ := hrel
      by_cases hvm : v < m
      · have v0 : (0 : Int) ≤ (v : Int) := by omega
        have v1 : (v : Int) < (m : Int) := by omega
        have hgs := Hgs.out
        have cV := Pl.out.cell v 0 hvm
        have fV := Pl.out.free v
        have hxl : v < xs.length := by rw [Pl.out.1]; exact hvm
        have T1 := T.out.put (g := ga) (by omega) hgs.1 v (.int .i64 (v : Int))
        have M1 := Ma.out.other (g' := ga) (by omega) v (.int .i64 (v : Int))
        have L1 := Pl.out.set v (v : Int)
        obtain ⟨p0, p1, p2⟩ := cell3 (HPb.out _ _ _ _ _ T1).1
        go_upto_region 10 with fail
        generalize wr.setCell ⟨ga, v, none⟩ (.int .i64 (v : Int)) = w6 at *
        have HT1 := hide T1
        have HM1 := hide M1
        have HL1 := hide L1
        have cN := HM1.out.cell v false hvm
        clear T1 M1 L1 cV fV T Ma Pl hgs
        by_cases hvn : v < n
        · have hvn2 : (v : Int) < (n : Int) := by omega
          have HQ2 := hide (HQ.out.low hxl (by rw [HN.out]; exact hvn))
          have HV : Hid (v + 1 - n = v - n) := by show _ = _; omega
          clear hxl
          go_wp2_with fail
          go_roundw
          case rel => exact ⟨v + 1, ya, yc, _, by omega, by go_num, by rw [HV.out]; exact HT1, HM1, HL1, HQ2⟩
          case measure => simp [intOf]; omega
        · obtain ⟨i, HI⟩ : ∃ i, Hid (v = n + i) := ⟨v - n, by show v = n + (v - n); omega⟩
          have hvi : (v : Int) - (n : Int) = (i : Int) := by have := HI.out; omega
          have hvn2 : ¬ (v : Int) < (n : Int) := by omega
          have hlt : i < p.ops.length := by have := HI.out; have := Hmm.out; omega
          have HVs : Hid (v + 1 - n = i + 1) := by show _ = _; have := HI.out; omega
          have HVn : Hid (v - n = i) := by show _ = _; have := HI.out; omega
          rw [HVn.out] at HT1
          have hwe : (wtd p).getD (p.inp.toNat + i) false = (wtd p).getD v false := by rw [HN.out, HI.out]
          have HT2 : Hid ((wtd p).getD v false = true → (trS p (i + 1)).2 = (trS p i).2 ++ [shO (trS p i).1 p.ops[i]]) := fun h => trs_two p i hlt (by rw [hwe]; exact h)
          have HT3 : Hid ((wtd p).getD v false = false → (trS p (i + 1)).2 = (trS p i).2) := fun h => trs_two_no p i (by rw [hwe]; exact h)
          have hWa : (wtd p).getD v false = true → ¬ p.ops[i].k = 4 → (wtd p).getD p.ops[i].a.toNat false = true ∧ (wtd p).getD p.ops[i].b.toNat false = true := fun h1 h2 => wt_arg HM.out hlt (by rw [hwe]; exact h1) h2
          have HTl := hide (trS_len p i).2
          cases hmk : (wtd p).getD v false with
          | false =>
            rw [hmk] at cN
            have HE2 := hide (HT3.out hmk)
            have HQ2 := hide (HQ.out.no hxl (by have := Hn.out; omega) (by rw [HN.out]; exact HI.out) hlt hmk)
            clear hmk hWa hwe hxl
            go_wp2_with fail
            go_roundw
            case rel => exact ⟨v + 1, ya, yc, _, by omega, by go_num, by rw [HVs.out, HE2.out]; exact HT1, HM1, HL1, HQ2⟩
            case measure => simp [intOf]; omega
          | true =>
            rw [hmk] at cN
            have HE2 := hide (HT2.out hmk)
            have HPq := hide (HQ.out.yes hxl (by rw [HN.out]; exact HI.out) hlt hmk)
            rw [Hn.out] at HPq
            obtain ⟨b, off, co', hv', _, hbl⟩ := HO.out.form (by omega)
            cases hv'
            obtain ⟨ca, cb, cc, cd⟩ := HO.out.op HT1.out.bl hlt
            have hAr := may_args HM.out i hlt
            rw [HN.out] at hAr
            have HQl : Hid (∀ u, u < n + i → (xs.set v (v : Int)).getD u 0 = (trS p i).1.getD u 0) := fun u hu => by
              rw [seti_get _ _ _ _ hxl, if_neg (by have := HI.out; omega), HQ.out u (by have := HI.out; omega), trS_at p (i := i) (Nat.le_of_lt hlt) (by rw [HN.out]; exact hu)]
            generalize p.ops[i] = o at *
            obtain ⟨ok, oa, ob, oc⟩ := o
            dsimp only at *
            have hA6 := alloc_below w6 (.cells #[.int .u8 ok, .int .i64 oa, .int .i64 ob, .int .u64 oc] 67)
            have N6 := heap_alloc_last w6 (.cells #[.int .u8 ok, .int .i64 oa, .int .i64 ob, .int .u64 oc] 67)
            have hi0 : (0 : Int) ≤ (i : Int) := by omega
            have hi1 : (i : Int) < (p.ops.length : Int) := by omega
            obtain ⟨g, Hg⟩ : ∃ g, Hid (w6.heap.size = g) := ⟨_, rfl⟩
            have Hgg : Hid (ga < g) := by show _ < _; rw [← Hg.out]; exact HL1.out.lt
            rw [Hg.out] at N6
            clear hxl hwe
            by_cases h4 : ok = 4
            · have HSh : Hid (shO (trS p i).1 ⟨ok, oa, ob, oc⟩ = ⟨ok, oa, ob, oc⟩) := by show _ = _; unfold shO; rw [if_pos h4]
              have hq4 : (ok != 4) = false := by rw [h4]; rfl
              have HT6 := hide (HT1.out.below hA6)
              have HM6 := hide (HM1.out.below hA6)
              have HL6 := hide (HL1.out.below hA6)
              clear h4 hmk hWa hAr
              go_upto_region 14 with fail
              simp only [Hg.out]
              clear hA6 p0 p1 p2 ca cb cc cd cN HT1 HM1 HL1 Hg
              generalize w6.alloc (.cells #[.int .u8 ok, .int .i64 oa, .int .i64 ob, .int .u64 oc] 67) = w8 at *
              have hgs := Hgs.out
              obtain ⟨y0, y1, y2⟩ := cell3 (HPb.out _ _ _ _ _ HT6.out).2
              have cP := HL6.out.cell v 0 hvm
              have fP := HL6.out.free v
              have hm1 : ((trS p i).2.length : Int) ≤ 256 := by have := HTl.out; omega
              have hm0 : (0 : Int) ≤ ((trS p i).2.length : Int) := by omega
              go_upto_region 15 with fail
              have T7 := HT6.out.put (g := ga) (by omega) hgs.1 v (.int .i64 ((n : Int) + ((trS p i).2.length : Int)))
              have M7 := HM6.out.other (g' := ga) (by omega) v (.int .i64 ((n : Int) + ((trS p i).2.length : Int)))
              have L7 := HL6.out.set v ((n : Int) + ((trS p i).2.length : Int))
              have N7 : (w8.setCell ⟨ga, v, none⟩ (.int .i64 ((n : Int) + ((trS p i).2.length : Int)))).heap[g]? = _ := (Below.heap_setCell _ _ _ g (by show g ≠ ga; have := Hgg.out; omega)).trans N6
              clear y0 y1 y2 cP fP N6 HT6 HM6 HL6
              generalize w8.setCell ⟨ga, v, none⟩ (.int .i64 ((n : Int) + ((trS p i).2.length : Int))) = w7 at *
              have hA8 := alloc_below w7 (.cells #[.int .u8 ok, .int .i64 oa, .int .i64 ob, .int .u64 oc] 67)
              obtain ⟨yz, yd, W9, hr, y9, z9, T9, B9⟩ := (T7.below hA8).op ⟨w7.heap.size, 0, none⟩ ⟨ok, oa, ob, oc⟩ (op_cells (heap_alloc_last w7 _)) (by have := HTl.out; omega)
              have HT9 := hide T9
              have HM9 := hide ((M7.below hA8).bel B9 hgs.2.1)
              have HL9 := hide ((L7.below hA8).bel B9 hgs.1)
              obtain ⟨o0, o1, o2, o3⟩ := cell4 N7
              obtain ⟨y0, y1, y2⟩ := cell3 (HPb.out _ _ _ _ _ T7).2
              clear T9 M7 L7 B9 hA8 T7
              go_wp2_with (at_builtin; refine Lib.wpList_append_run _ rfl _ _ _ _ rfl _ _ rfl rfl _ _ hr ?_)
              go_roundw
              case rel => exact ⟨v + 1, yz, yd, _, by omega, by go_num, by rw [HVs.out, HE2.out, HSh.out, List.length_append]; exact HT9, HM9, HL9, HPq⟩
              case measure => simp [intOf]; omega
            · have hWa2 := hWa hmk h4
              obtain ⟨⟨a0, a1⟩, a2, a3⟩ := hAr h4
              obtain ⟨a, rfl⟩ := Int.eq_ofNat_of_zero_le a0
              obtain ⟨c, rfl⟩ := Int.eq_ofNat_of_zero_le a1
              rw [Int.toNat_natCast] at a2 a3
              have hxa := HQl.out a a2
              have hxc := HQl.out c a3
              have HSh : Hid (shO (trS p i).1 ⟨ok, (a : Int), (c : Int), oc⟩ = ⟨ok, (xs.set v (v : Int)).getD a 0, (xs.set v (v : Int)).getD c 0, oc⟩) := by show _ = _; unfold shO; rw [if_neg h4, hxa, hxc]; rfl
              have hq4 : (ok != 4) = true := bne_iff_ne.2 h4
              have hvi2 := HI.out
              have L6 := HL1.out.below hA6
              have cA := L6.cell a 0 (by omega)
              have cC := L6.cell c 0 (by omega)
              clear h4 hmk hWa hAr hxa hxc hWa2 L6
              have aa0 : (0 : Int) ≤ (a : Int) := by omega
              have aa1 : (a : Int) < (m : Int) := by omega
              have cc0 : (0 : Int) ≤ (c : Int) := by omega
              have cc1 : (c : Int) < (m : Int) := by omega
              clear hvi2
              go_upto_region 13 with fail
              simp only [Hg.out]
              have hsz : w6.heap.size ≤ g := by rw [Hg.out]; exact Nat.le_refl _
              clear p0 p1 p2 ca cb cc cd cN
              generalize (xs.set v (v : Int)).getD a 0 = A at *
              generalize (xs.set v (v : Int)).getD c 0 = C at *
              have hBw : Below w6.heap.size (w6.alloc (.cells #[.int .u8 ok, .int .i64 (a : Int), .int .i64 (c : Int), .int .u64 oc] 67)) (((w6.alloc (.cells #[.int .u8 ok, .int .i64 (a : Int), .int .i64 (c : Int), .int .u64 oc] 67)).setCell ⟨g, 1, none⟩ (.int .i64 A)).setCell ⟨g, 2, none⟩ (.int .i64 C)) := ((Below.refl _ _).setCell (p := ⟨g, 1, none⟩) hsz _).setCell (p := ⟨g, 2, none⟩) hsz _
              have hg2 : ga < g := Hgg.out
              generalize w6.alloc (.cells #[.int .u8 ok, .int .i64 (a : Int), .int .i64 (c : Int), .int .u64 oc] 67) = w7 at *
              have N8 := op_set2 N6 (.int .i64 A) (.int .i64 C)
              have N7 := set_blk N6 1 (.int .i64 A)
              obtain ⟨o0, o1, o2, o3⟩ := cell4 N6
              have of := fun k => Lib.frozen_of_heap N6 k
              have of2 := fun k => Lib.frozen_of_heap N7 k
              have o2' : (w7.setCell ⟨g, 1, none⟩ (.int .i64 A)).cell? ⟨g, 2, none⟩ = some (.int .i64 (c : Int)) := by rw [Lib.cell_of_heap N7]; rfl
              have cA' : (w7.setCell ⟨g, 1, none⟩ (.int .i64 A)).cell? ⟨ga, a, none⟩ = _ := (World.cell?_setCell_other w7 _ _ _ (addr_ne (by show _ ≠ _; omega))).trans cA
              have cC' : (w7.setCell ⟨g, 1, none⟩ (.int .i64 A)).cell? ⟨ga, c, none⟩ = _ := (World.cell?_setCell_other w7 _ _ _ (addr_ne (by show _ ≠ _; omega))).trans cC
              have HN8 := hide N8
              clear N6 N7 N8
              go_region
              have hBx : Below w6.heap.size w6 ((w7.setCell ⟨g, 1, none⟩ (.int .i64 A)).setCell ⟨g, 2, none⟩ (.int .i64 C)).drew := (hA6.trans hBw).drew
              have N6 : ((w7.setCell ⟨g, 1, none⟩ (.int .i64 A)).setCell ⟨g, 2, none⟩ (.int .i64 C)).drew.heap[g]? = some (.cells #[.int .u8 ok, .int .i64 A, .int .i64 C, .int .u64 oc] 67 (0, 0)) := HN8.out
              clear HN8 o0 o1 o2 o3 of of2 o2' cA' cC' cA cC hA6 hBw hg2
              generalize ((w7.setCell ⟨g, 1, none⟩ (.int .i64 A)).setCell ⟨g, 2, none⟩ (.int .i64 C)).drew = w8 at *
              have HT6 := hide (HT1.out.below hBx)
              have HM6 := hide (HM1.out.below hBx)
              have HL6 := hide (HL1.out.below hBx)
              clear hBx HT1 HM1 HL1
              go_upto_region 14 with fail
              have hgs := Hgs.out
              obtain ⟨y0, y1, y2⟩ := cell3 (HPb.out _ _ _ _ _ HT6.out).2
              have cP := HL6.out.cell v 0 hvm
              have fP := HL6.out.free v
              have hm1 : ((trS p i).2.length : Int) ≤ 256 := by have := HTl.out; omega
              have hm0 : (0 : Int) ≤ ((trS p i).2.length : Int) := by omega
              go_upto_region 15 with fail
              have T7 := HT6.out.put (g := ga) (by omega) hgs.1 v (.int .i64 ((n : Int) + ((trS p i).2.length : Int)))
              have M7 := HM6.out.other (g' := ga) (by omega) v (.int .i64 ((n : Int) + ((trS p i).2.length : Int)))
              have L7 := HL6.out.set v ((n : Int) + ((trS p i).2.length : Int))
              have N7 : (w8.setCell ⟨ga, v, none⟩ (.int .i64 ((n : Int) + ((trS p i).2.length : Int)))).heap[g]? = _ := (Below.heap_setCell _ _ _ g (by show g ≠ ga; have := Hgg.out; omega)).trans N6
              clear y0 y1 y2 cP fP N6 HT6 HM6 HL6
              generalize w8.setCell ⟨ga, v, none⟩ (.int .i64 ((n : Int) + ((trS p i).2.length : Int))) = w9 at *
              have hA8 := alloc_below w9 (.cells #[.int .u8 ok, .int .i64 A, .int .i64 C, .int .u64 oc] 67)
              obtain ⟨yz, yd, W10, hr, y9, z9, T9, B9⟩ := (T7.below hA8).op ⟨w9.heap.size, 0, none⟩ ⟨ok, A, C, oc⟩ (op_cells (heap_alloc_last w9 _)) (by have := HTl.out; omega)
              have HT9 := hide T9
              have HM9 := hide ((M7.below hA8).bel B9 hgs.2.1)
              have HL9 := hide ((L7.below hA8).bel B9 hgs.1)
              obtain ⟨o0, o1, o2, o3⟩ := cell4 N7
              obtain ⟨y0, y1, y2⟩ := cell3 (HPb.out _ _ _ _ _ T7).2
              clear T9 M7 L7 B9 hA8 T7
              go_wp2_with (at_builtin; refine Lib.wpList_append_run _ rfl _ _ _ _ rfl _ _ rfl rfl _ _ hr ?_)
              go_roundw
              case rel => exact ⟨v + 1, yz, yd, _, by omega, by go_num, by rw [HVs.out, HE2.out, HSh.out, List.length_append]; exact HT9, HM9, HL9, HPq⟩
              case measure => simp [intOf]; omega
      · obtain rfl : v = m := by omega
        have HVn : Hid (v - n = p.ops.length) := by show _ = _; have := Hmm.out; omega
        rw [HVn.out] at T
        have HPo : Hid (∀ u ∈ p.outs, 0 ≤ u ∧ u.toNat < v ∧ xs.getD u.toNat 0 = (trS p p.ops.length).1.getD u.toNat 0) := fun u hu => by
          have h1 := may_out HM.out u hu
          rw [HN.out, Hmm.out] at h1
          exact ⟨h1.1, h1.2, HQ.out _ h1.2⟩
        clear HQ Ma HO hvm
        go_wp2_with fail
        go_loopw [9] (fun vi wr => ∃ (k : Nat) (za : Option Addr) (zc : Nat), k ≤ p.outs.length ∧ vi = .int .i64 k ∧ Hid (Tk w wr p (.slice ao p.ops.length co) (.slice au p.outs.length cu) w.heap.size b1 B B (.slice ya (trS p p.ops.length).2.length yc) (.slice za k zc) (trS p p.ops.length).2 (ouJ p k)) ∧ Hid (Ar (Value.int .i64) 3 v wr ga xs)) (fun vi _ => p.outs.length - (intOf vi).toNat)
        case atStart => exact ⟨0, none, 0, Nat.zero_le _, rfl, T, Pl⟩
        case round =>
          clear T Pl
          obtain ⟨k, za, zc, hk, rfl, T, Pl⟩ := hrel
          obtain ⟨p0, p1, p2⟩ := cell3 (HPb.out _ _ _ _ _ T.out).1
          by_cases hlt : k < p.outs.length
          · obtain ⟨b, off, cu', hv', _, hbl⟩ := HU.out.form (by omega)
            cases hv'
            have ca := HU.out.int T.out.bl hlt
            have hok := HPo.out _ (List.getElem_mem hlt)
            have HNx := hide (ouJ_next p hlt)
            have Hul := hide (ouJ_len p hk)
            generalize p.outs[k] = u at *
            obtain ⟨a, rfl⟩ := Int.eq_ofNat_of_zero_le hok.1
            rw [Int.toNat_natCast] at hok HNx
            rw [← hok.2.2] at HNx
            have a0 : (0 : Int) ≤ (a : Int) := by omega
            have a1 : (a : Int) < (v : Int) := by omega
            have cA := Pl.out.cell a 0 (by omega)
            have hk0 : (0 : Int) ≤ (k : Int) := by omega
            have hk1 : (k : Int) < (p.outs.length : Int) := by omega
            clear hok
            generalize xs.getD a 0 = A at *
            have hk2 : k ≤ 64 := by omega
            obtain ⟨za4, zc4, w4, hr4, hS4, hz4, B4, T4, B5⟩ := Tk.out ((T.out.below (Below.refl _ wr).drew).below (alloc_below wr.drew (.cells #[.int .i64 A] 3))) ⟨wr.heap.size, 0, none⟩ A (show (wr.alloc (.cells #[.int .i64 A] 3)).cell? ⟨wr.heap.size, 0, none⟩ = _ by rw [Lib.cell_of_heap (heap_alloc_new wr _)]; rfl) (by rw [Hul.out]; omega)
            have HS : Hid (∀ W, Below wr.heap.size wr W → W.cell? ⟨B, 2, none⟩ = some (.slice za k zc) ∧ W.cell? ⟨ga, a, none⟩ = some (.int .i64 A) ∧ W.cell? ⟨w.heap.size, 2, none⟩ = some (.slice (some ⟨b, off, none⟩) p.outs.length cu) ∧ W.cell? ⟨b, off + k, none⟩ = some (.int .i64 (a : Int))) := fun W hb => ⟨(cell3 (T.out.below hb).blk).2.2, (hb.cell (cell_in cA)).trans cA, (hb.cell (cell_in p2)).trans p2, (hb.cell (cell_in ca)).trans ca⟩
            have hS0 := HS.out wr.drew (Below.refl _ wr).drew
            have hS2 := fun ob => HS.out (wr.alloc ob).drew ((alloc_below wr ob).drew)
            have hbB : b < w.heap.size := hbl
            have hS5 : w4.cell? ⟨B, 2, none⟩ = some (.slice za k zc) ∧ w4.cell? ⟨ga, a, none⟩ = some (.int .i64 A) ∧ w4.cell? ⟨w.heap.size, 2, none⟩ = some (.slice (some ⟨b, off, none⟩) p.outs.length cu) ∧ w4.cell? ⟨b, off + k, none⟩ = some (.int .i64 (a : Int)) := by
              have hgs := Hgs.out
              exact ⟨hS4, (B4.cell (p := ⟨ga, a, none⟩) hgs.1).trans (hS2 (.cells #[.int .i64 A] 3)).2.1, (B4.cell (p := ⟨w.heap.size, 2, none⟩) (by show w.heap.size < B; omega)).trans (hS2 (.cells #[.int .i64 A] 3)).2.2.1, (B4.cell (p := ⟨b, off + k, none⟩) (by show b < B; omega)).trans (hS2 (.cells #[.int .i64 A] 3)).2.2.2⟩
            have HL4 := hide (((Pl.out.drew).below (alloc_below wr.drew (.cells #[.int .i64 A] 3))).bel B5 Hgs.out.1)
            rw [Hul.out] at hr4 T4 HL4
            have HT4 := hide T4
            clear T4 B4 B5 hS4
            go_upto_region 19 with fail
            refine wp_region_mute (S := (fun W' => W'.cell? ⟨B, 2, none⟩ = some (.slice za k zc) ∧ W'.cell? ⟨ga, a, none⟩ = some (.int .i64 A) ∧ W'.cell? ⟨w.heap.size, 2, none⟩ = some (.slice (some ⟨b, off, none⟩) p.outs.length cu) ∧ W'.cell? ⟨b, off + k, none⟩ = some (.int .i64 (a : Int)))) (by kernel_rfl) (by kernel_rfl) rfl (by ((try dsimp only) <;> (first | with_reducible exact hS0 | with_reducible exact hS2 _ | with_reducible exact hS5))) (fun hHeld => ?_)
            simp only [muteL, mute]
            (refine wpAnyH_take (i := 0) (oi := _) (v := ?v118) rfl (by kernel_rfl) (by kernel_rfl) (by kernel_rfl) (fun _ _ _ h => h) (Or.inl ⟨by rfl, ?hy118⟩) (by assumption) ?rest118; (case hy118 => (first | (intro w hSw; (try dsimp only at hSw); go_simp; done) | (intro w hSw; (try dsimp only at hSw); go_simp; with_reducible rfl))); (try simp only [Act.put, List.getElem_toArray, List.getElem_cons_succ, List.getElem_cons_zero, List.setIfInBounds_toArray, List.set_cons_zero, List.set_cons_succ]))
            (refine wpAnyH_take (i := 1) (oi := _) (v := ?v119) rfl (by kernel_rfl) (by kernel_rfl) (by kernel_rfl) (fun _ _ _ h => h) (Or.inl ⟨by rfl, ?hy119⟩) (by assumption) ?rest119; (case hy119 => (first | (intro w hSw; (try dsimp only at hSw); go_simp; done) | (intro w hSw; (try dsimp only at hSw); go_simp; with_reducible rfl))); (try simp only [Act.put, List.getElem_toArray, List.getElem_cons_succ, List.getElem_cons_zero, List.setIfInBounds_toArray, List.set_cons_zero, List.set_cons_succ]))
            (refine wpAnyH_take (i := 2) (oi := _) (v := ?v120) rfl (by kernel_rfl) (by kernel_rfl) (by kernel_rfl) (fun _ _ _ h => h) (Or.inl ⟨by rfl, ?hy120⟩) (by assumption) ?rest120; (case hy120 => (first | (intro w hSw; (try dsimp only at hSw); go_simp; done) | (intro w hSw; (try dsimp only at hSw); go_simp; with_reducible rfl))); (try simp only [Act.put, List.getElem_toArray, List.getElem_cons_succ, List.getElem_cons_zero, List.setIfInBounds_toArray, List.set_cons_zero, List.set_cons_succ]))
            (refine wpAnyH_take (i := 3) (oi := _) (v := ?v121) rfl (by kernel_rfl) (by kernel_rfl) (by kernel_rfl) (fun _ _ _ h => h) (Or.inl ⟨by rfl, ?hy121⟩) (by assumption) ?rest121; (case hy121 => (first | (intro w hSw; (try dsimp only at hSw); go_simp; done) | (intro w hSw; (try dsimp only at hSw); go_simp; with_reducible rfl))); (try simp only [Act.put, List.getElem_toArray, List.getElem_cons_succ, List.getElem_cons_zero, List.setIfInBounds_toArray, List.set_cons_zero, List.set_cons_succ]))
            (refine wpAnyH_take (i := 4) (oi := _) (v := ?v122) rfl (by kernel_rfl) (by kernel_rfl) (by kernel_rfl) (fun _ _ _ h => h) (Or.inl ⟨by rfl, ?hy122⟩) (by assumption) ?rest122; (case hy122 => (first | (intro w hSw; (try dsimp only at hSw); go_simp; done) | (intro w hSw; (try dsimp only at hSw); go_simp; with_reducible rfl))); (try simp only [Act.put, List.getElem_toArray, List.getElem_cons_succ, List.getElem_cons_zero, List.setIfInBounds_toArray, List.set_cons_zero, List.set_cons_succ]))
            (refine wpAnyH_take (i := 5) (oi := _) (v := ?v123) rfl (by kernel_rfl) (by kernel_rfl) (by kernel_rfl) (fun _ _ _ h => h) (Or.inl ⟨by rfl, ?hy123⟩) (by assumption) ?rest123; (case hy123 => (first | (intro w hSw; (try dsimp only at hSw); go_simp; done) | (intro w hSw; (try dsimp only at hSw); go_simp; with_reducible rfl))); (try simp only [Act.put, List.getElem_toArray, List.getElem_cons_succ, List.getElem_cons_zero, List.setIfInBounds_toArray, List.set_cons_zero, List.set_cons_succ]))
            (refine wpAnyH_take (i := 6) (oi := _) (v := ?v124) rfl (by kernel_rfl) (by kernel_rfl) (by kernel_rfl) (fun _ _ _ h => h) (Or.inl ⟨by rfl, ?hy124⟩) (by assumption) ?rest124; (case hy124 => (first | (intro w hSw; (try dsimp only at hSw); go_simp; done) | (intro w hSw; (try dsimp only at hSw); go_simp; with_reducible rfl))); (try simp only [Act.put, List.getElem_toArray, List.getElem_cons_succ, List.getElem_cons_zero, List.setIfInBounds_toArray, List.set_cons_zero, List.set_cons_succ]))
            (refine wpAnyH_take (i := 7) (oi := _) (v := ?v125) rfl (by kernel_rfl) (by kernel_rfl) (by kernel_rfl) (fun _ _ _ h => h) (Or.inl ⟨by rfl, ?hy125⟩) (by assumption) ?rest125; (case hy125 => (first | (intro w hSw; (try dsimp only at hSw); go_simp; done) | (intro w hSw; (try dsimp only at hSw); go_simp; with_reducible rfl))); (try simp only [Act.put, List.getElem_toArray, List.getElem_cons_succ, List.getElem_cons_zero, List.setIfInBounds_toArray, List.set_cons_zero, List.set_cons_succ]))
            (refine wpAnyH_take (i := 8) (oi := _) (v := ?v126) rfl (by kernel_rfl) (by kernel_rfl) (by kernel_rfl) (fun _ _ _ h => h) (Or.inl ⟨by rfl, ?hy126⟩) (by assumption) ?rest126; (case hy126 => (first | (intro w hSw; (try dsimp only at hSw); go_simp; done) | (intro w hSw; (try dsimp only at hSw); go_simp; with_reducible rfl))); (try simp only [Act.put, List.getElem_toArray, List.getElem_cons_succ, List.getElem_cons_zero, List.setIfInBounds_toArray, List.set_cons_zero, List.set_cons_succ]))
            (refine wpAnyH_take (i := 9) (oi := _) (v := ?v127) rfl (by kernel_rfl) (by kernel_rfl) (by kernel_rfl) (fun _ _ _ h => h) (Or.inl ⟨by rfl, ?hy127⟩) (by assumption) ?rest127; (case hy127 => (first | (intro w hSw; (try dsimp only at hSw); go_simp; done) | (intro w hSw; (try dsimp only at hSw); go_simp; with_reducible rfl))); (try simp only [Act.put, List.getElem_toArray, List.getElem_cons_succ, List.getElem_cons_zero, List.setIfInBounds_toArray, List.set_cons_zero, List.set_cons_succ]))
            refine wpAnyH_ready (rs := [10]) (by kernel_rfl) (by simp) ?_
            refine AllReadyH.cons (o := _) rfl (fun K hK => ?_) AllReadyH.nil
            try simp only [List.getElem_toArray, List.getElem_cons_succ, List.getElem_cons_zero]
            go_simp
            refine hK.out _ _ (by ((try dsimp only) <;> (first | with_reducible exact hS0 | with_reducible exact hS2 _ | with_reducible exact hS5))) (fun hHeld => ?_)
            clear hK K
            (try simp only [Act.put, List.getElem_toArray, List.getElem_cons_succ, List.getElem_cons_zero, List.setIfInBounds_toArray, List.set_cons_zero, List.set_cons_succ])
            refine wpAnyH_ready (rs := [11]) (by kernel_rfl) (by simp) ?_
            refine AllReadyH.cons (o := _) rfl (fun K hK => ?_) AllReadyH.nil
            (first
                  | (refine app_mute (by rfl) _ _ _ _ (by rfl) _ _ (by rfl) (by rfl) _ w4 hr4 ?_))
            refine hK.out _ _ (by ((try dsimp only) <;> (first | with_reducible exact hS0 | with_reducible exact hS2 _ | with_reducible exact hS5))) (fun hHeld => ?_)
            clear hK K
            (try simp only [Act.put, List.getElem_toArray, List.getElem_cons_succ, List.getElem_cons_zero, List.setIfInBounds_toArray, List.set_cons_zero, List.set_cons_succ])
            (refine wpAnyH_take (i := 12) (oi := _) (v := ?v128) rfl (by kernel_rfl) (by kernel_rfl) (by kernel_rfl) (fun _ _ _ h => h) (Or.inl ⟨by rfl, ?hy128⟩) (by assumption) ?rest128; (case hy128 => (first | (intro w hSw; (try dsimp only at hSw); go_simp; done) | (intro w hSw; (try dsimp only at hSw); go_simp; with_reducible rfl))); (try simp only [Act.put, List.getElem_toArray, List.getElem_cons_succ, List.getElem_cons_zero, List.setIfInBounds_toArray, List.set_cons_zero, List.set_cons_succ]))
            (refine wpAnyH_take (i := 13) (oi := _) (v := ?v129) rfl (by kernel_rfl) (by kernel_rfl) (by kernel_rfl) (fun _ _ _ h => h) (Or.inl ⟨by rfl, ?hy129⟩) (by assumption) ?rest129; (case hy129 => (first | (intro w hSw; (try dsimp only at hSw); go_simp; done) | (intro w hSw; (try dsimp only at hSw); go_simp; with_reducible rfl))); (try simp only [Act.put, List.getElem_toArray, List.getElem_cons_succ, List.getElem_cons_zero, List.setIfInBounds_toArray, List.set_cons_zero, List.set_cons_succ]))
            refine wpAnyH_done (by kernel_rfl) ?_ _
            simp only [muteQ]
            have hy := hS5.1
            clear hr4 hS0 hS2 hS5
            go_wp2_with fail
            go_roundw
            case rel => exact ⟨k + 1, za4, zc4, by omega, by go_num, by rw [HNx.out]; exact HT4, HL4⟩
            case measure => simp [intOf]; omega
          · obtain rfl : k = p.outs.length := by omega
            have HEn := hide (ouJ_end p)
            rw [HEn.out] at T
            obtain ⟨y0, y1, y2⟩ := cell3 (HPb.out _ _ _ _ _ T.out).2
            obtain ⟨r0, r1, r2⟩ := cell3 T.out.rb
            have rf := fun k => Lib.frozen_of_heap T.out.rb k
            have HR := hide T.out.res
            have E1 : Hid (trE p = 0) := by show _ = _; unfold trE; rw [if_pos HM.out]
            have E2 : Hid (trR p = trP p) := by show _ = _; unfold trR; rw [if_pos HM.out]
            go_wp2_with fail
            rw [E1.out, E2.out]
            have eI : (trP p).inp = (n : Int) := Hn.out
            rw [eI]
            obtain ⟨h1, h2, h3, h4⟩ := HR.out
            rw [Hn.out] at h1 h2 h3 h4
            exact bodyPost_ret (res_ct (a := 2) (b := 3) rfl rfl rfl (load_prog h1)) rfl ⟨_, _, rfl, h2, h3, h4⟩

end Go.Proofs.Ytfbipnhhnmlhfab
