/-
  Layer 10: Trim, the program's.
-/
import Derived.Test.YtfgokcphnkkgnaaBTrmB
import Derived.Test.YtfgokcphnkkgnaaBQMute
namespace Go.Proofs.Ytfgokcphnkkgnaa
open Go.RowKit Fld Slp
set_option linter.unusedVariables false
set_option linter.unusedSimpArgs false

set_option maxRecDepth 100000 in
set_option maxHeartbeats 1000000 in
theorem gTrim (v : Value) (p : Pr) (w : World) (h : Pm w v p) : IsTrim 15 v w p := by
  unfold IsTrim
  have M := hide (fun W (hb : Below w.heap.size w W) => sMay v p W (h.below hb))
  have HP := hide h
  obtain ⟨vo, vu, rfl, ho, hu⟩ := h.form
  obtain ⟨ao, co, rfl, _⟩ := ho.spell
  obtain ⟨au, cu, rfl, _⟩ := hu.spell
  have HO := hide ho
  have HU := hide hu
  obtain ⟨n1, n2, hA⟩ := alloc2 w (.cells #[.int .i64 p.inp, .slice ao p.ops.length co, .slice au p.outs.length cu] 25) (.cells #[.int .i64 0, .slice none 0 0, .slice none 0 0] 25)
  clear h ho hu
  cases hm : mayB p with
  | false =>
    have E1 : Hid (trE p = 2) := by show _ = _; unfold trE; rw [hm]; rfl
    have E2 : Hid (trR p = pz) := by show _ = _; unfold trR; rw [hm]; rfl
    rw [hm] at M
    clear hm
    go_enter Try.func15, Try.ntmps15
    go_wp2_with (go_at_call 20; refine (M.out _ hA).mono ?_; rintro e w1 ⟨rfl, hb1⟩; have r1 := (hb1.block _ (Array.getElem?_eq_some_iff.1 n2).1).trans n2; obtain ⟨r10, r11, r12⟩ := cell3 r1; have rf := fun k => Lib.frozen_of_heap r1 k)
    have hg := set3_grown w1 (w.heap.size + 1) (.int .i64 0) (.slice none 0 0) (.slice none 0 0)
    have hB1 := Below.next hA hb1
    rw [E1.out, E2.out]
    exact bodyPost_ret (res_ct (a := 2) (b := 3) rfl rfl rfl (load_prog (set_blk (set_blk (set_blk r1 0 (.int .i64 0)) 1 (.slice none 0 0)) 2 (.slice none 0 0)))) rfl ⟨_, _, rfl, own_nil _ _ _ _, own_nil _ _ _ _, hB1.grown hg hB1.size (fun k e => by cases e; omega)⟩
  | true =>
    rw [hm] at M
    have HD := hide (fun W (hb : Below w.heap.size w W) => gWanted _ p W (HP.out.below hb) hm)
    have HM := hide hm
    obtain ⟨⟨i0, i1, l1, l2⟩, _, _⟩ := mayB_iff.1 hm
    obtain ⟨n, hn⟩ := Int.eq_ofNat_of_zero_le i0
    have Hn := hide hn
    have HN : Hid (p.inp.toNat = n) := by show _ = _; omega
    have hlen : (wtd p).length = n + p.ops.length := by rw [wtd_len, HN.out]
    clear hm i0 hn
    go_enter Try.func15, Try.ntmps15
    go_upto_region 3 with (go_at_call 20; refine (M.out _ hA).mono ?_; rintro e w1 ⟨rfl, hb1⟩; have hB1 := Below.next hA hb1; have m1 := (hb1.block _ (Array.getElem?_eq_some_iff.1 n1).1).trans n1; have m2 := (hb1.block _ (Array.getElem?_eq_some_iff.1 n2).1).trans n2; obtain ⟨p0, p1, p2⟩ := cell3 m1)
    refine wp_region_lit ?_
    refine rowVal rfl (.agg #[.int .i64 p.inp, .slice ao p.ops.length co, .slice au p.outs.length cu]) (by simp [go_sem, execOp, p0, p1, p2]) ?_
    refine rowCall rfl 25 #[.agg #[.int .i64 p.inp, .slice ao p.ops.length co, .slice au p.outs.length cu]] (by simp [go_sem, execOp]) (HD.out _ hB1) ?_
    rintro e w2 ⟨rfl, hb2⟩
    refine ⟨_, rfl, ?_⟩
    have hl9 : (ar9 false (wtd p)).length = 320 := ar9_len (by rw [hlen]; have := Hn.out; omega)
    refine wpList_alloc_row rfl _ rfl _ bools_zero ?_
    refine rowStore rfl _ _ _ rfl w2.heap.size _ _ _ rfl rfl (heap_alloc_last w2 _) (bv_size hl9) (by rw [List.size_toArray, List.size_toArray, List.length_map, List.length_map, List.length_replicate, hl9]) (bv_one _) ?_
    rw [World.setRow_alloc_new]
    go_upto_region 4 with fail
    refine wp_region_lit ?_
    refine wpList_alloc_row rfl _ rfl _ ints_zero ?_
    have hA2 := alloc_below w2 (.cells ((ar9 false (wtd p)).map Value.bool).toArray 53)
    have A2 : Ar Value.bool 53 320 (w2.alloc (.cells ((ar9 false (wtd p)).map Value.bool).toArray 53)) w2.heap.size (ar9 false (wtd p)) := ar_new w2 _ hl9
    have hz2 : w2.heap.size < (w2.alloc (.cells ((ar9 false (wtd p)).map Value.bool).toArray 53)).heap.size := A2.lt
    generalize w2.alloc (.cells ((ar9 false (wtd p)).map Value.bool).toArray 53) = w3 at *
    have hA3 := alloc_below w3 (.cells ((List.replicate 320 (0 : Int)).map (Value.int .i64)).toArray 44)
    have A3 : Ar (Value.int .i64) 44 320 (w3.alloc (.cells ((List.replicate 320 (0 : Int)).map (Value.int .i64)).toArray 44)) w3.heap.size (List.replicate 320 0) := ar_new w3 _ List.length_replicate
    have K0 : Pk w (w3.alloc (.cells ((List.replicate 320 (0 : Int)).map (Value.int .i64)).toArray 44)) p (.slice ao p.ops.length co) (.slice au p.outs.length cu) w.heap.size (w.heap.size + 1) w2.heap.size w3.heap.size (ar9 0 ((List.range 0).map (fun i : Nat => (i : Int)))) := by
      have q1 := (Array.getElem?_eq_some_iff.1 m1).1
      have q2 := (Array.getElem?_eq_some_iff.1 m2).1
      have hb23 := Below.next hb2 hA2
      have := hb23.size
      have hb4 := Below.next hb23 hA3
      exact ⟨Nat.le_refl _, Nat.lt_succ_self _, Nat.lt_of_lt_of_le q2 hb2.size, hz2, (hb4.block _ q1).trans m1, (hb4.block _ q2).trans m2, A2.below hA3, A3, Below.next hB1 hb4⟩
    generalize w3.alloc (.cells ((List.replicate 320 (0 : Int)).map (Value.int .i64)).toArray 44) = w4 at *
    generalize w3.heap.size = gp at *
    generalize w2.heap.size = gm at *
    generalize w.heap.size + 1 = b1 at *
    clear hA2 A2 hz2 hA3 A3 m1 m2 p0 p1 p2 hb2 hb1 hB1 n1 n2 hA M HD
    obtain ⟨p0, p1, p2⟩ := cell3 K0.pb
    have hn := Hn.out
    go_wp2_with fail
    go_loopw [20] (fun vi wr => ∃ (i : Nat), i ≤ n ∧ vi = .int .i64 i ∧ Hid (Pk w wr p (.slice ao p.ops.length co) (.slice au p.outs.length cu) w.heap.size b1 gm gp (ar9 0 ((List.range i).map (fun i : Nat => (i : Int)))))) (fun vi _ => n - (intOf vi).toNat)
    case atStart => exact ⟨0, Nat.zero_le _, rfl, K0⟩
    case round =>
      clear K0 p0 p1 p2
      obtain ⟨i, hi, rfl, F⟩ := hrel
      by_cases hlt : i < n
      · have i320 : (i : Int) < 320 := by omega
        have i00 : (0 : Int) ≤ (i : Int) := by omega
        have i11 : (i : Int) < (n : Int) := by omega
        have cA := F.out.pl.cell i 0 (by omega)
        have fA := F.out.pl.free i
        have F2 := F.out.set i (i : Int)
        have e : (ar9 (0 : Int) ((List.range i).map (fun i : Nat => (i : Int)))).set i (i : Int) = ar9 0 ((List.range (i + 1)).map (fun i : Nat => (i : Int))) := by
          have := ar9_set (z := (0 : Int)) (l := (List.range i).map (fun i : Nat => (i : Int))) (by simp; omega) (i : Int)
          rw [List.length_map, List.length_range] at this
          rw [this, range_next]
        rw [e] at F2
        have HF2 := hide F2
        clear F2 e
        go_wp2_with fail
        go_roundw
        case rel => exact ⟨i + 1, by omega, by go_num, HF2⟩
        case measure => simp [intOf]; omega
      · obtain rfl : i = n := by omega
        clear hlt
        have T0 := tk_new F.out
        have hA5 := alloc_below wr (.cells #[.int .i64 p.inp, .slice none 0 0, .slice none 0 0] 25)
        have M0 := F.out.ma.below hA5
        have L0 := F.out.pl.below hA5
        obtain ⟨p0, p1, p2⟩ := cell3 F.out.pb
        go_upto_region 11 with fail
        rw [hn] at T0 hA5 M0 L0
        have hgB : gp < wr.heap.size := F.out.pl.lt
        have hmB : gm < wr.heap.size := F.out.ma.lt
        have hbg : b1 < gm := F.out.l2
        have hmg : gm < gp := F.out.l3
        generalize wr.alloc (.cells #[.int .i64 (i : Int), .slice none 0 0, .slice none 0 0] 25) = w5 at *
        generalize wr.heap.size = B at *
        have Hgs : Hid (gp < B ∧ gm < B ∧ b1 < gm ∧ gm < gp) := ⟨hgB, hmB, hbg, hmg⟩
        clear F hA5 hgB hmB hbg hmg p0 p1 p2
        obtain ⟨p0, p1, p2⟩ := cell3 T0.pb
        go_wp2_with fail
        go_loopw [33] (fun vi wr => ∃ (j : Nat) (ya : Option Addr) (yc : Nat) (xs : List Int), j ≤ p.ops.length ∧ vi = .int .i64 j ∧ Hid (Tk w wr p (.slice ao p.ops.length co) (.slice au p.outs.length cu) w.heap.size b1 B B (.slice ya (trS p j).2.length yc) (.slice none 0 0) (trS p j).2 []) ∧ Hid (Ar Value.bool 53 320 wr gm (ar9 false (wtd p))) ∧ Hid (Ar (Value.int .i64) 44 320 wr gp xs) ∧ Hid (Pp p i j xs)) (fun vi _ => p.ops.length - (intOf vi).toNat)
        case atStart => exact ⟨0, none, 0, _, Nat.zero_le _, rfl, T0, M0, L0, Pp.zero HN.out⟩
        case round =>
          clear T0 M0 L0 p0 p1 p2
          obtain ⟨j, ya, yc, xs, hj, rfl, T, Ma, Pl, HPp⟩ := hrel
          obtain ⟨p0, p1, p2⟩ := cell3 T.out.pb
          by_cases hlt : j < p.ops.length
          · obtain ⟨b, off, co', hv, _, hbl⟩ := HO.out.form (by omega)
            cases hv
            obtain ⟨ca, cb, cc, cd⟩ := HO.out.op T.out.bl hlt
            have hAr := may_args HM.out j hlt
            have hWa : (wtd p).getD (i + j) false = true → ¬ p.ops[j].k = 4 → (wtd p).getD p.ops[j].a.toNat false = true ∧ (wtd p).getD p.ops[j].b.toNat false = true := fun h1 h2 => wt_arg HM.out hlt (by rw [HN.out]; exact h1) h2
            have HT2 : Hid ((wtd p).getD (i + j) false = true → (trS p (j + 1)).2 = (trS p j).2 ++ [shO (trS p j).1 p.ops[j]]) := fun h => trs_two p j hlt (by rw [HN.out]; exact h)
            have HT3 : Hid ((wtd p).getD (i + j) false = false → (trS p (j + 1)).2 = (trS p j).2) := fun h => trs_two_no p j (by rw [HN.out]; exact h)
            have HTl := hide (trS_len p j).2
            rw [HN.out] at hAr
            generalize p.ops[j] = o at *
            obtain ⟨ok, oa, ob, oc⟩ := o
            dsimp only at *
            have hA6 := alloc_below wr (.cells #[.int .u8 ok, .int .i64 oa, .int .i64 ob, .int .u64 oc] 52)
            have N6 := heap_alloc_last wr (.cells #[.int .u8 ok, .int .i64 oa, .int .i64 ob, .int .u64 oc] 52)
            have HT6 := hide (T.out.below hA6)
            have HM6 := hide (Ma.out.below hA6)
            have HL6 := hide (Pl.out.below hA6)
            obtain ⟨q0, q1, q2⟩ := cell3 HT6.out.pb
            have cN := HM6.out.cell (i + j) false (by omega)
            rw [ar9_get] at cN
            have ij0 : (0 : Int) ≤ (i : Int) + (j : Int) := by omega
            have ij1 : (i : Int) + (j : Int) < 320 := by omega
            have ijn : ((i : Int) + (j : Int)).toNat = i + j := by omega
            have hj0 : (0 : Int) ≤ (j : Int) := by omega
            have hj1 : (j : Int) < (p.ops.length : Int) := by omega
            cases hmk : (wtd p).getD (i + j) false with
            | false =>
              rw [hmk] at cN
              have e2 := HT3.out hmk
              have HPq := hide (HPp.out.no HN.out hmk)
              have HE2 := hide e2
              clear hmk e2 N6 hWa hAr
              go_wp2_with fail
              go_roundw
              case rel => exact ⟨j + 1, ya, yc, xs, by omega, by go_num, by rw [HE2.out]; exact HT6, HM6, HL6, HPq⟩
              case measure => simp [intOf]; omega
            | true =>
              rw [hmk] at cN
              have HE2 := hide (HT2.out hmk)
              have hxl : i + j < xs.length := by rw [HL6.out.1]; omega
              have HPq := hide (HPp.out.yes HN.out hxl hmk)
              rw [hn] at HPq
              obtain ⟨g, Hg⟩ : ∃ g, Hid (wr.heap.size = g) := ⟨_, rfl⟩
              have Hgg : Hid (gp < g) := by show _ < _; rw [← Hg.out]; exact Pl.out.lt
              clear hxl
              by_cases h4 : ok = 4
              · have HSh : Hid (shO (trS p j).1 ⟨ok, oa, ob, oc⟩ = ⟨ok, oa, ob, oc⟩) := by show _ = _; unfold shO; rw [if_pos h4]
                have hq4 : (ok != 4) = false := by rw [h4]; rfl
                clear h4 hmk hWa hAr
                go_upto_region 17 with fail
                rw [Hg.out] at N6
                simp only [Hg.out]
                clear hA6 q0 q1 q2 p0 p1 p2 ca cb cc cd cN
                generalize wr.alloc (.cells #[.int .u8 ok, .int .i64 oa, .int .i64 ob, .int .u64 oc] 52) = w6 at *
                have hgs := Hgs.out
                obtain ⟨y0, y1, y2⟩ := cell3 HT6.out.blk
                obtain ⟨q0, q1, q2⟩ := cell3 HT6.out.pb
                have cP := HL6.out.cell (i + j) 0 (by omega)
                have fP := HL6.out.free (i + j)
                have hm1 : ((trS p j).2.length : Int) ≤ 256 := by have := HTl.out; omega
                have hm0 : (0 : Int) ≤ ((trS p j).2.length : Int) := by omega
                go_upto_region 18 with fail
                have T7 := HT6.out.put (g := gp) (by omega) hgs.1 (i + j) (.int .i64 ((i : Int) + ((trS p j).2.length : Int)))
                have M7 := HM6.out.other (g' := gp) (by omega) (i + j) (.int .i64 ((i : Int) + ((trS p j).2.length : Int)))
                have L7 := HL6.out.set (i + j) ((i : Int) + ((trS p j).2.length : Int))
                have N7 : (w6.setCell ⟨gp, i + j, none⟩ (.int .i64 ((i : Int) + ((trS p j).2.length : Int)))).heap[g]? = _ := (Below.heap_setCell _ _ _ g (by show g ≠ gp; have := Hgg.out; omega)).trans N6
                clear y0 y1 y2 q0 q1 q2 cP fP N6 HT6 HM6 HL6
                generalize w6.setCell ⟨gp, i + j, none⟩ (.int .i64 ((i : Int) + ((trS p j).2.length : Int))) = w7 at *
                have hA8 := alloc_below w7 (.cells #[.int .u8 ok, .int .i64 oa, .int .i64 ob, .int .u64 oc] 52)
                obtain ⟨yz, yd, W9, hr, y9, z9, T9, B9⟩ := (T7.below hA8).op ⟨w7.heap.size, 0, none⟩ ⟨ok, oa, ob, oc⟩ (op_cells (heap_alloc_last w7 _)) (by have := HTl.out; omega)
                have HT9 := hide T9
                have HM9 := hide ((M7.below hA8).bel B9 hgs.2.1)
                have HL9 := hide ((L7.below hA8).bel B9 hgs.1)
                obtain ⟨o0, o1, o2, o3⟩ := cell4 N7
                obtain ⟨y0, y1, y2⟩ := cell3 T7.blk
                clear T9 M7 L7 B9 hA8 T7
                go_wp2_with (at_builtin; refine Lib.wpList_append_run _ rfl _ _ _ _ rfl _ _ rfl rfl _ _ hr ?_)
                go_roundw
                case rel => exact ⟨j + 1, yz, yd, _, by omega, by go_num, by rw [HE2.out, HSh.out, List.length_append]; exact HT9, HM9, HL9, HPq⟩
                case measure => simp [intOf]; omega
              · have hWa2 := hWa hmk h4
                obtain ⟨⟨a0, a1⟩, a2, a3⟩ := hAr h4
                obtain ⟨a, rfl⟩ := Int.eq_ofNat_of_zero_le a0
                obtain ⟨c, rfl⟩ := Int.eq_ofNat_of_zero_le a1
                rw [Int.toNat_natCast] at a2 a3
                rw [Int.toNat_natCast, Int.toNat_natCast] at hWa2
                have hxa := HPp.out a a2 (.inr hWa2.1)
                have hxc := HPp.out c a3 (.inr hWa2.2)
                have HSh : Hid (shO (trS p j).1 ⟨ok, (a : Int), (c : Int), oc⟩ = ⟨ok, xs.getD a 0, xs.getD c 0, oc⟩) := by show _ = _; unfold shO; rw [if_neg h4, hxa, hxc]; rfl
                have hq4 : (ok != 4) = true := bne_iff_ne.2 h4
                have cA := HL6.out.cell a 0 (by omega)
                have cC := HL6.out.cell c 0 (by omega)
                clear h4 hmk hWa hAr hxa hxc hWa2
                go_upto_region 16 with fail
                rw [Hg.out] at N6
                simp only [Hg.out]
                have hsz : wr.heap.size ≤ g := by rw [Hg.out]; exact Nat.le_refl _
                clear q0 q1 q2 p0 p1 p2 ca cb cc cd cN
                have hBw : Below wr.heap.size (wr.alloc (.cells #[.int .u8 ok, .int .i64 (a : Int), .int .i64 (c : Int), .int .u64 oc] 52)) (((wr.alloc (.cells #[.int .u8 ok, .int .i64 (a : Int), .int .i64 (c : Int), .int .u64 oc] 52)).setCell ⟨g, 1, none⟩ (.int .i64 (xs.getD a 0))).setCell ⟨g, 2, none⟩ (.int .i64 (xs.getD c 0))) := ((Below.refl _ _).setCell (p := ⟨g, 1, none⟩) hsz _).setCell (p := ⟨g, 2, none⟩) hsz _
                have hgs := Hgs.out
                have hg2 : gp < g := Hgg.out
                generalize wr.alloc (.cells #[.int .u8 ok, .int .i64 (a : Int), .int .i64 (c : Int), .int .u64 oc] 52) = w5 at *
                have N8 := op_set2 N6 (.int .i64 (xs.getD a 0)) (.int .i64 (xs.getD c 0))
                have N7 := set_blk N6 1 (.int .i64 (xs.getD a 0))
                obtain ⟨o0, o1, o2, o3⟩ := cell4 N6
                have of := fun k => Lib.frozen_of_heap N6 k
                have of2 := fun k => Lib.frozen_of_heap N7 k
                have o2' : (w5.setCell ⟨g, 1, none⟩ (.int .i64 (xs.getD a 0))).cell? ⟨g, 2, none⟩ = some (.int .i64 (c : Int)) := by rw [Lib.cell_of_heap N7]; rfl
                have cA' : (w5.setCell ⟨g, 1, none⟩ (.int .i64 (xs.getD a 0))).cell? ⟨gp, a, none⟩ = _ := (World.cell?_setCell_other w5 _ _ _ (addr_ne (by show _ ≠ _; omega))).trans cA
                have cC' : (w5.setCell ⟨g, 1, none⟩ (.int .i64 (xs.getD a 0))).cell? ⟨gp, c, none⟩ = _ := (World.cell?_setCell_other w5 _ _ _ (addr_ne (by show _ ≠ _; omega))).trans cC
                have aa0 : (0 : Int) ≤ (a : Int) := by omega
                have aa1 : (a : Int) < 320 := by omega
                have cc0 : (0 : Int) ≤ (c : Int) := by omega
                have cc1 : (c : Int) < 320 := by omega
                have HN8 := hide N8
                clear N6 N7 N8
                generalize xs.getD a 0 = A at *
                generalize xs.getD c 0 = C at *
                go_region
                have hBx : Below wr.heap.size wr ((w5.setCell ⟨g, 1, none⟩ (.int .i64 A)).setCell ⟨g, 2, none⟩ (.int .i64 C)).drew := (hA6.trans hBw).drew
                have N6 : ((w5.setCell ⟨g, 1, none⟩ (.int .i64 A)).setCell ⟨g, 2, none⟩ (.int .i64 C)).drew.heap[g]? = some (.cells #[.int .u8 ok, .int .i64 A, .int .i64 C, .int .u64 oc] 52 (0, 0)) := HN8.out
                clear HT6 HM6 HL6 HN8 o0 o1 o2 o3 of of2 o2' cA' cC' cA cC hA6 hBw hgs hg2
                generalize ((w5.setCell ⟨g, 1, none⟩ (.int .i64 A)).setCell ⟨g, 2, none⟩ (.int .i64 C)).drew = w6 at *
                have HT6 := hide (T.out.below hBx)
                have HM6 := hide (Ma.out.below hBx)
                have HL6 := hide (Pl.out.below hBx)
                clear hBx
                go_upto_region 17 with fail
                have hgs := Hgs.out
                obtain ⟨y0, y1, y2⟩ := cell3 HT6.out.blk
                obtain ⟨q0, q1, q2⟩ := cell3 HT6.out.pb
                have cP := HL6.out.cell (i + j) 0 (by omega)
                have fP := HL6.out.free (i + j)
                have hm1 : ((trS p j).2.length : Int) ≤ 256 := by have := HTl.out; omega
                have hm0 : (0 : Int) ≤ ((trS p j).2.length : Int) := by omega
                go_upto_region 18 with fail
                have T7 := HT6.out.put (g := gp) (by omega) hgs.1 (i + j) (.int .i64 ((i : Int) + ((trS p j).2.length : Int)))
                have M7 := HM6.out.other (g' := gp) (by omega) (i + j) (.int .i64 ((i : Int) + ((trS p j).2.length : Int)))
                have L7 := HL6.out.set (i + j) ((i : Int) + ((trS p j).2.length : Int))
                have N7 : (w6.setCell ⟨gp, i + j, none⟩ (.int .i64 ((i : Int) + ((trS p j).2.length : Int)))).heap[g]? = _ := (Below.heap_setCell _ _ _ g (by show g ≠ gp; have := Hgg.out; omega)).trans N6
                clear y0 y1 y2 q0 q1 q2 cP fP N6 HT6 HM6 HL6
                generalize w6.setCell ⟨gp, i + j, none⟩ (.int .i64 ((i : Int) + ((trS p j).2.length : Int))) = w7 at *
                have hA8 := alloc_below w7 (.cells #[.int .u8 ok, .int .i64 A, .int .i64 C, .int .u64 oc] 52)
                obtain ⟨yz, yd, W9, hr, y9, z9, T9, B9⟩ := (T7.below hA8).op ⟨w7.heap.size, 0, none⟩ ⟨ok, A, C, oc⟩ (op_cells (heap_alloc_last w7 _)) (by have := HTl.out; omega)
                have HT9 := hide T9
                have HM9 := hide ((M7.below hA8).bel B9 hgs.2.1)
                have HL9 := hide ((L7.below hA8).bel B9 hgs.1)
                obtain ⟨o0, o1, o2, o3⟩ := cell4 N7
                obtain ⟨y0, y1, y2⟩ := cell3 T7.blk
                clear T9 M7 L7 B9 hA8 T7
                go_wp2_with (at_builtin; refine Lib.wpList_append_run _ rfl _ _ _ _ rfl _ _ rfl rfl _ _ hr ?_)
                go_roundw
                case rel => exact ⟨j + 1, yz, yd, _, by omega, by go_num, by rw [HE2.out, HSh.out, List.length_append]; exact HT9, HM9, HL9, HPq⟩
                case measure => simp [intOf]; omega
          · obtain rfl : j = p.ops.length := by omega
            have HPo : Hid (∀ v ∈ p.outs, 0 ≤ v ∧ v.toNat < i + p.ops.length ∧ xs.getD v.toNat 0 = (trS p p.ops.length).1.getD v.toNat 0) := fun v hv => by
              have h1 := may_out HM.out v hv
              rw [HN.out] at h1
              exact ⟨h1.1, h1.2, HPp.out _ h1.2 (.inr (wt_out HM.out hv))⟩
            clear HPp Ma HO hlt
            go_wp2_with fail
            go_loopw [79] (fun vi wr => ∃ (k : Nat) (za : Option Addr) (zc : Nat), k ≤ p.outs.length ∧ vi = .int .i64 k ∧ Hid (Tk w wr p (.slice ao p.ops.length co) (.slice au p.outs.length cu) w.heap.size b1 B B (.slice ya (trS p p.ops.length).2.length yc) (.slice za k zc) (trS p p.ops.length).2 (ouJ p k)) ∧ Hid (Ar (Value.int .i64) 44 320 wr gp xs)) (fun vi _ => p.outs.length - (intOf vi).toNat)
            case atStart => exact ⟨0, none, 0, Nat.zero_le _, rfl, T, Pl⟩
            case round =>
              clear T Pl p0 p1 p2
              obtain ⟨k, za, zc, hk, rfl, T, Pl⟩ := hrel
              by_cases hlt : k < p.outs.length
              · obtain ⟨b, off, cu', hv, _, hbl⟩ := HU.out.form (by omega)
                cases hv
                have ca := HU.out.int T.out.bl hlt
                have hok := HPo.out _ (List.getElem_mem hlt)
                have HNx := hide (ouJ_next p hlt)
                have Hul := hide (ouJ_len p hk)
                generalize p.outs[k] = u at *
                obtain ⟨a, rfl⟩ := Int.eq_ofNat_of_zero_le hok.1
                rw [Int.toNat_natCast] at hok HNx
                rw [← hok.2.2] at HNx
                have a0 : (0 : Int) ≤ (a : Int) := by omega
                have a1 : (a : Int) < 320 := by omega
                have cA := Pl.out.cell a 0 (by omega)
                clear hok
                generalize xs.getD a 0 = A at *
                have hk2 : k ≤ 64 := by omega
                obtain ⟨za4, zc4, w4, hr4, hS4, hz4, B4, T4, B5⟩ := Tk.out ((T.out.below (Below.refl _ wr).drew).below (alloc_below wr.drew (.cells #[.int .i64 A] 3))) ⟨wr.heap.size, 0, none⟩ A (show (wr.alloc (.cells #[.int .i64 A] 3)).cell? ⟨wr.heap.size, 0, none⟩ = _ by rw [Lib.cell_of_heap (heap_alloc_new wr _)]; rfl) (by rw [Hul.out]; omega)
                have HS : Hid (∀ W, Below wr.heap.size wr W → W.cell? ⟨B, 2, none⟩ = some (.slice za k zc) ∧ W.cell? ⟨gp, a, none⟩ = some (.int .i64 A)) := fun W hb => ⟨(cell3 (T.out.below hb).blk).2.2, (hb.cell (cell_in cA)).trans cA⟩
                have hS0 := HS.out wr.drew (Below.refl _ wr).drew
                have hS2 := fun ob => HS.out (wr.alloc ob).drew ((alloc_below wr ob).drew)
                have hS5 : w4.cell? ⟨B, 2, none⟩ = some (.slice za k zc) ∧ w4.cell? ⟨gp, a, none⟩ = some (.int .i64 A) := ⟨hS4, (B4.cell (p := ⟨gp, a, none⟩) Hgs.out.1).trans (hS2 (.cells #[.int .i64 A] 3)).2⟩
                have HL4 := hide (((Pl.out.drew).below (alloc_below wr.drew (.cells #[.int .i64 A] 3))).bel B5 Hgs.out.1)
                rw [Hul.out] at hr4 T4 HL4
                have HT4 := hide T4
                clear T4 B4 B5 hS4
                go_upto_region 23 with fail
                refine wp_region_mute (S := (fun W' => W'.cell? ⟨B, 2, none⟩ = some (.slice za k zc) ∧ W'.cell? ⟨gp, a, none⟩ = some (.int .i64 A))) (by kernel_rfl) (by kernel_rfl) rfl (by ((try dsimp only) <;> (first | with_reducible exact hS0 | with_reducible exact hS2 _ | with_reducible exact hS5))) (fun hHeld => ?_)
                simp only [muteL, mute]
                (refine wpAnyH_take (i := 0) (oi := _) (v := ?v1) rfl (by kernel_rfl) (by kernel_rfl) (by kernel_rfl) (fun _ _ _ h => h) (Or.inl ⟨by rfl, ?hy1⟩) (by assumption) ?rest1; (case hy1 => (first | (intro w hSw; (try dsimp only at hSw); go_simp; done) | (intro w hSw; (try dsimp only at hSw); go_simp; with_reducible rfl))); (try simp only [Act.put, List.getElem_toArray, List.getElem_cons_succ, List.getElem_cons_zero, List.setIfInBounds_toArray, List.set_cons_zero, List.set_cons_succ]))
                (refine wpAnyH_take (i := 1) (oi := _) (v := ?v2) rfl (by kernel_rfl) (by kernel_rfl) (by kernel_rfl) (fun _ _ _ h => h) (Or.inl ⟨by rfl, ?hy2⟩) (by assumption) ?rest2; (case hy2 => (first | (intro w hSw; (try dsimp only at hSw); go_simp; done) | (intro w hSw; (try dsimp only at hSw); go_simp; with_reducible rfl))); (try simp only [Act.put, List.getElem_toArray, List.getElem_cons_succ, List.getElem_cons_zero, List.setIfInBounds_toArray, List.set_cons_zero, List.set_cons_succ]))
                (refine wpAnyH_take (i := 2) (oi := _) (v := ?v3) rfl (by kernel_rfl) (by kernel_rfl) (by kernel_rfl) (fun _ _ _ h => h) (Or.inl ⟨by rfl, ?hy3⟩) (by assumption) ?rest3; (case hy3 => (first | (intro w hSw; (try dsimp only at hSw); go_simp; done) | (intro w hSw; (try dsimp only at hSw); go_simp; with_reducible rfl))); (try simp only [Act.put, List.getElem_toArray, List.getElem_cons_succ, List.getElem_cons_zero, List.setIfInBounds_toArray, List.set_cons_zero, List.set_cons_succ]))
                (refine wpAnyH_take (i := 3) (oi := _) (v := ?v4) rfl (by kernel_rfl) (by kernel_rfl) (by kernel_rfl) (fun _ _ _ h => h) (Or.inl ⟨by rfl, ?hy4⟩) (by assumption) ?rest4; (case hy4 => (first | (intro w hSw; (try dsimp only at hSw); go_simp; done) | (intro w hSw; (try dsimp only at hSw); go_simp; with_reducible rfl))); (try simp only [Act.put, List.getElem_toArray, List.getElem_cons_succ, List.getElem_cons_zero, List.setIfInBounds_toArray, List.set_cons_zero, List.set_cons_succ]))
                (refine wpAnyH_take (i := 4) (oi := _) (v := ?v5) rfl (by kernel_rfl) (by kernel_rfl) (by kernel_rfl) (fun _ _ _ h => h) (Or.inl ⟨by rfl, ?hy5⟩) (by assumption) ?rest5; (case hy5 => (first | (intro w hSw; (try dsimp only at hSw); go_simp; done) | (intro w hSw; (try dsimp only at hSw); go_simp; with_reducible rfl))); (try simp only [Act.put, List.getElem_toArray, List.getElem_cons_succ, List.getElem_cons_zero, List.setIfInBounds_toArray, List.set_cons_zero, List.set_cons_succ]))
                refine wpAnyH_ready (rs := [5]) (by kernel_rfl) (by simp) ?_
                refine AllReadyH.cons (o := _) rfl (fun K hK => ?_) AllReadyH.nil
                try simp only [List.getElem_toArray, List.getElem_cons_succ, List.getElem_cons_zero]
                go_simp
                refine hK.out _ _ (by ((try dsimp only) <;> (first | with_reducible exact hS0 | with_reducible exact hS2 _ | with_reducible exact hS5))) (fun hHeld => ?_)
                clear hK K
                (try simp only [Act.put, List.getElem_toArray, List.getElem_cons_succ, List.getElem_cons_zero, List.setIfInBounds_toArray, List.set_cons_zero, List.set_cons_succ])
                refine wpAnyH_ready (rs := [6]) (by kernel_rfl) (by simp) ?_
                refine AllReadyH.cons (o := _) rfl (fun K hK => ?_) AllReadyH.nil
                (first
                      | (refine app_step (by rfl) _ _ _ _ (by rfl) _ _ (by rfl) (by rfl) _ w4 hr4 ?_))
                refine hK.out _ _ (by ((try dsimp only) <;> (first | with_reducible exact hS0 | with_reducible exact hS2 _ | with_reducible exact hS5))) (fun hHeld => ?_)
                clear hK K
                (try simp only [Act.put, List.getElem_toArray, List.getElem_cons_succ, List.getElem_cons_zero, List.setIfInBounds_toArray, List.set_cons_zero, List.set_cons_succ])
                (refine wpAnyH_take (i := 7) (oi := _) (v := ?v6) rfl (by kernel_rfl) (by kernel_rfl) (by kernel_rfl) (fun _ _ _ h => h) (Or.inl ⟨by rfl, ?hy6⟩) (by assumption) ?rest6; (case hy6 => (first | (intro w hSw; (try dsimp only at hSw); go_simp; done) | (intro w hSw; (try dsimp only at hSw); go_simp; with_reducible rfl))); (try simp only [Act.put, List.getElem_toArray, List.getElem_cons_succ, List.getElem_cons_zero, List.setIfInBounds_toArray, List.set_cons_zero, List.set_cons_succ]))
                (refine wpAnyH_take (i := 8) (oi := _) (v := ?v7) rfl (by kernel_rfl) (by kernel_rfl) (by kernel_rfl) (fun _ _ _ h => h) (Or.inl ⟨by rfl, ?hy7⟩) (by assumption) ?rest7; (case hy7 => (first | (intro w hSw; (try dsimp only at hSw); go_simp; done) | (intro w hSw; (try dsimp only at hSw); go_simp; with_reducible rfl))); (try simp only [Act.put, List.getElem_toArray, List.getElem_cons_succ, List.getElem_cons_zero, List.setIfInBounds_toArray, List.set_cons_zero, List.set_cons_succ]))
                refine wpAnyH_done (by kernel_rfl) ?_ _
                simp only [muteQ]
                have hy := hS5.1
                clear hr4 hS0 hS2 hS5
                go_wp2_with fail
                go_roundw
                case rel => exact ⟨k + 1, za4, zc4, by omega, by go_num, by rw [HNx.out]; exact HT4, HL4⟩
                case measure => simp [intOf]; omega
              · obtain rfl : k = p.outs.length := by omega
                have HEn := hide (ouJ_end p)
                rw [HEn.out] at T
                obtain ⟨y0, y1, y2⟩ := cell3 T.out.blk
                obtain ⟨r0, r1, r2⟩ := cell3 T.out.rb
                have rf := fun k => Lib.frozen_of_heap T.out.rb k
                have HR := hide T.out.res
                have E1 : Hid (trE p = 0) := by show _ = _; unfold trE; rw [if_pos HM.out]
                have E2 : Hid (trR p = trP p) := by show _ = _; unfold trR; rw [if_pos HM.out]
                go_wp2_with fail
                rw [E1.out, E2.out]
                have eI : (trP p).inp = (i : Int) := hn
                rw [eI]
                obtain ⟨h1, h2, h3, h4⟩ := HR.out
                rw [hn] at h1 h2 h3 h4
                exact bodyPost_ret (res_ct (a := 2) (b := 3) rfl rfl rfl (load_prog h1)) rfl ⟨_, _, rfl, h2, h3, h4⟩

end Go.Proofs.Ytfgokcphnkkgnaa
