import Derived.Test.YtipobchbnjgenaaGreatBEvlC
import Derived.Test.YtipobchbnjgenaaGreatBRowA
set_option linter.unusedVariables false
set_option linter.unusedSimpArgs false
set_option maxRecDepth 100000
set_option maxHeartbeats 4000000
namespace Go.Proofs.YtipobchbnjgenaaGreat
open Go.RowKit Fld Slp
theorem prog_kept {w0 w1 : World} {B g n : Nat} {v : Value} {xs : List Value} {o : Obj} {cs : Array Value} (h : w0.ownsRow B 83 1 v n xs) (hg : (w0.alloc o).grownBy w1 v.ownBlock) (hp : w0.heap[g]? = some (.cells cs 28 (0, 0))) : w1.heap[g]? = some (.cells cs 28 (0, 0)) := by
 have hlt := (Array.getElem?_eq_some_iff.1 hp).1
 have hne := own_not h hp (by decide)
 rw [hg.block g (by simp; omega) hne.symm, (alloc_below w0 o).block g hlt]; exact hp
theorem dSteps (f : Int) (q : Pr) (vp vi : Value) (xs : List Int) (w : World) (hp : Pm w vp q) (hr : Rw w vi xs) : Gives 95 #[.int .u8 f, vp, vi] w (stL f q xs) (evE f q xs) := by
 obtain ⟨i0, hi0, hz0, hz1, hz2⟩ := info_parts u64_info
 have HM := hide (fun W (hb : Below w.heap.size w W) => dMay vp q W (hp.below hb))
 have HI := hide (fun W (hb : Below w.heap.size w W) => rIn_any f vi xs W (hr.below hb).1)
 have HCp := hide (fun W (hb : Below w.heap.size w W) => Copy_any vi xs W (hr.below hb).1)
 have HKeep := hide (And.intro hp hr)
 obtain ⟨vo, vu, rfl, ho, hu⟩ := hp.form
 obtain ⟨ao, co', rfl, _⟩ := ho.spell
 obtain ⟨au, cu, rfl, _⟩ := hu.spell
 obtain ⟨ai, ci, rfl, hci⟩ := hr.spell
 have hA := alloc_below w (.cells #[.int .i64 q.inp, .slice ao q.ops.length co', .slice au q.outs.length cu] 28)
 have hN := heap_alloc_new w (.cells #[.int .i64 q.inp, .slice ao q.ops.length co', .slice au q.outs.length cu] 28)
 have HO := hide ho
 clear ho hu hp hr
 cases hm : mayB q with
 | false =>
  have e1 : evE f q xs = 2 := by unfold evE; rw [hm]; rfl
  have e2 : stL f q xs = [] := by unfold stL; rw [e1]; rfl
  rw [e1, e2]
  rw [hm] at HM
  clear hm e1 e2 HKeep
  apply Gives.none
  go_enter Tryz.func95, Tryz.ntmps95
  go_wp2_with (go_at_call 114; refine (HM.out _ hA).mono ?_; rintro e w1 ⟨rfl, hb1⟩)
  go_ret2
  exact ⟨rfl, Below.next hA hb1⟩
 | true =>
  rw [hm] at HM
  have e1 : evE f q xs = rwE f q xs := by unfold evE; rw [if_pos hm]
  cases hi : inF f xs with
  | false =>
   have e3 : rwE f q xs = 2 := by unfold rwE; rw [hi]; rfl
   have e2 : stL f q xs = [] := by unfold stL; rw [e1, e3]; rfl
   rw [e1, e3, e2]
   rw [hi] at HI
   clear hm e1 e2 e3 hi HKeep
   apply Gives.none
   go_enter Tryz.func95, Tryz.ntmps95
   go_wp2_with (first
    | (go_at_call 114; refine (HM.out _ hA).mono ?_; rintro e w1 ⟨rfl, hb1⟩; have hB1 := Below.next hA hb1)
    | (go_at_call 33; refine (HI.out _ hB1).mono ?_; rintro e w2 ⟨rfl, hw⟩; rw [hw]; clear hw))
   go_ret2
   exact ⟨rfl, hB1⟩
  | true =>
   rw [hi] at HI
   by_cases he : (xs.length : Int) = q.inp
   · have e3 : rwE f q xs = 0 := by unfold rwE; rw [hi, if_pos rfl, if_pos he]
     have e2 : stL f q xs = rns (Rf f) q xs := by unfold stL; rw [e1, e3, if_pos rfl]
     rw [e1, e3, e2]
     obtain ⟨p, wd, h, hal⟩ := inF_fi hi
     obtain ⟨⟨j0, j1, l1, l2⟩, mo, mu⟩ := mayB_iff.1 hm
     have hx := els_of hal HKeep.out.2.words
     have hl : xs.length = q.inp.toNat := by omega
     have hl64 : xs.length <= 64 := by omega
     have HAll := hide (fun k => el_all h (q.ops.take k) xs hx)
     have HLen : Hid (∀ k, k <= q.ops.length -> (rnL (Rf f) xs (q.ops.take k)).length = xs.length + k) := fun k hk => by rw [rnL_len, List.length_take, Nat.min_eq_left hk]
     have HOp : Hid (∀ j (hj : j < q.ops.length), (q.ops[j].k = 1 ∨ q.ops[j].k = 2 ∨ q.ops[j].k = 3 ∨ q.ops[j].k = 4) ∧ (¬ q.ops[j].k = 4 -> (0 <= q.ops[j].a ∧ 0 <= q.ops[j].b) ∧ q.ops[j].a.toNat < xs.length + j ∧ q.ops[j].b.toNat < xs.length + j) ∧ Ok4 q.ops[j]) := fun j hj =>
      ⟨op_kinds hm _ (List.getElem_mem hj), fun h4 => by rw [hl]; exact may_args hm j hj h4, HKeep.out.1.okb _ (List.getElem_mem hj)⟩
     have HP := hide (fun W => rP_yes f p wd W h)
     have HW := hide (fun ys (hy : Els p ys) => els_words hy h.top)
     have HFi := hide h
     have hp0 : ¬ p = 0 := by have := h.pos; omega
     have ht : ((xs.length : Int) != q.inp) = false := by simp [he]
     clear hm e1 e2 e3 hi mo mu j0 j1 hl he hal hx h HKeep
     show Calls _ _ _ _ _
     go_enter Tryz.func95, Tryz.ntmps95
     go_wp2_with (first
      | (go_at_call 114; refine (HM.out _ hA).mono ?_; rintro e w1 ⟨rfl, hb1⟩; have hB1 := Below.next hA hb1; have n1 := (hb1.block _ (Array.getElem?_eq_some_iff.1 hN).1).trans hN; obtain ⟨p0, p1, p2⟩ := cell3 n1)
      | (go_at_call 33; refine (HI.out _ hB1).mono ?_; rintro e w2 ⟨rfl, hw⟩; rw [hw]; clear hw)
      | (go_at_call 66; refine (HP.out _).mono ?_; rintro e w3 ⟨rfl, hw⟩; rw [hw]; clear hw)
      | (go_at_call 54; refine (HCp.out _ hB1).mono ?_; rintro e w4 ⟨v4, rfl, ho4, hb4⟩; have hB4 := Below.next hB1 hb4; have n4 := (hb4.block _ (Array.getElem?_eq_some_iff.1 n1).1).trans n1))
     have hO := hide (own_mono ho4 hB1.size)
     have hsw : w.heap.size < w4.heap.size := (Array.getElem?_eq_some_iff.1 n4).1
     clear p0 p1 p2 ho4 HM HI HCp
     go_loopw [9, 10] (fun va vi wr => ∃ j : Nat, j <= q.ops.length ∧ vi = .int .i64 j ∧ Hid (wr.ownsRow w.heap.size 83 1 va (xs.length + j) (vals (rnL (Rf f) xs (q.ops.take j)))) ∧ Below w.heap.size w wr ∧ Hid (wr.heap[w.heap.size]? = some (.cells #[.int .i64 q.inp, .slice ao q.ops.length co', .slice au q.outs.length cu] 28 (0, 0)))) (fun _ vi _ => q.ops.length - (intOf vi).toNat)
     case atStart => exact ⟨0, Nat.zero_le _, rfl, hO, hB4, n4⟩
     case round =>
      clear hO hB4 n4 hB1 hb4 hb1 n1 hsw
      obtain ⟨j, hj, rfl, Hown, hB, Hn⟩ := hrel
      obtain ⟨p0, p1, p2⟩ := cell3 Hn.out
      by_cases hlt : j < q.ops.length
      · obtain ⟨b, off, cp, heq, _, hbl⟩ := HO.out.form (by omega)
        cases heq
        obtain ⟨o0, o1, o2, o3⟩ := HO.out.op hB hlt
        obtain ⟨hk, ha, hok⟩ := HOp.out j hlt
        have hS0 := rnL_next (Rf f) q.ops xs hlt
        have hln := HLen.out j hj
        have hel : Els p (rnL (Rf f) xs (q.ops.take j)) := HAll.out j
        rw [<- hln] at Hown
        have HR := hide (row_of_own Hown.out rfl (by omega) (HW.out _ hel))
        have hbs := hB.size
        have k0 : (0 : Int) <= (j : Int) := by omega
        have k1 : (j : Int) < (q.ops.length : Int) := by omega
        obtain ⟨aw, cw, rfl⟩ := own_form Hown.out
        have hoc := hok.2.2.2
        rcases hk with hk | hk | hk | hk
        · have HS : Hid (rnL (Rf f) xs (q.ops.take j) ++ [add p ((rnL (Rf f) xs (q.ops.take j)).getD q.ops[j].a.toNat 0) ((rnL (Rf f) xs (q.ops.take j)).getD q.ops[j].b.toNat 0)] = rnL (Rf f) xs (q.ops.take (j + 1))) := by
           show _ = _
           rw [hS0]; unfold rnS; rw [if_pos hk]; show _ = _ ++ [add (pOf f) _ _]; rw [pOf_eq HFi.out]; rfl
          obtain ⟨⟨a0, b0⟩, a1, b1⟩ := ha (by omega)
          rw [hk] at o0
          have e1 := hel.co HFi.out.pos q.ops[j].a.toNat
          have e2 := hel.co HFi.out.pos q.ops[j].b.toNat
          unfold co at e1 e2
          have HX := hide (fun W => rSum_any p _ _ W HFi.out.top e1 e2)
          obtain ⟨au2, cp2, heq2, _, _, hcc⟩ := HR.out
          cases heq2
          obtain ⟨b2, off2, rfl, hbl2, hcell⟩ := hcc (by intro h0; rw [h0] at hln; simp at hln; omega)
          have ca := hcell q.ops[j].a.toNat (by omega)
          have cb := hcell q.ops[j].b.toNat (by omega)
          clear hcell hcc hel hS0 ha hk
          generalize (rnL (Rf f) xs (q.ops.take j)).getD q.ops[j].a.toNat 0 = x at *
          generalize (rnL (Rf f) xs (q.ops.take j)).getD q.ops[j].b.toNat 0 = y at *
          have HL : Hid ((rnL (Rf f) xs (q.ops.take j)).length = xs.length + j) := hln
          rw [<- hln] at a1 b1
          have hyl : (rnL (Rf f) xs (q.ops.take j)).length <= 320 := by omega
          clear hln
          generalize rnL (Rf f) xs (q.ops.take j) = ys at *
          generalize q.ops[j] = o at *
          obtain ⟨k, oa, ob, c⟩ := o
          dsimp only at *
          obtain ⟨i, rfl⟩ : ∃ i : Nat, oa = i := ⟨oa.toNat, by omega⟩
          obtain ⟨i2, rfl⟩ : ∃ i : Nat, ob = i := ⟨ob.toNat, by omega⟩
          simp only [Int.toNat_natCast] at *
          have hA2 := alloc_below wr (.cells #[.int .u8 1, .int .i64 i, .int .i64 i2, .int .u64 c] 85)
          have hN2 := heap_alloc_new wr (.cells #[.int .u8 1, .int .i64 i, .int .i64 i2, .int .u64 c] 85)
          have d1 := (hA2.cell (p := ⟨b2, off2 + i, none⟩) hbl2).trans ca
          have d2 := (hA2.cell (p := ⟨b2, off2 + i2, none⟩) hbl2).trans cb
          have i1 : (i : Int) < (ys.length : Int) := by omega
          have i3 : (i2 : Int) < (ys.length : Int) := by omega
          go_upto_region 14 with fail
          generalize wr.alloc (.cells #[.int .u8 1, .int .i64 i, .int .i64 i2, .int .u64 c] 85) = w0 at *
          obtain ⟨g0, HG0⟩ : ∃ g0, Hid (wr.heap.size = g0) := ⟨_, rfl⟩
          rw [HG0.out] at hN2 ⊢
          obtain ⟨r0, r1, r2, r3⟩ := cells4 hN2
          have hS0 : w0.drew.cell? ⟨b2, off2 + i, none⟩ = some (.int .u64 x) ∧ w0.drew.cell? ⟨b2, off2 + i2, none⟩ = some (.int .u64 y) ∧ w0.drew.cell? ⟨g0, 1, none⟩ = some (.int .i64 i) ∧ w0.drew.cell? ⟨g0, 2, none⟩ = some (.int .i64 i2) := ⟨d1, d2, r1, r2⟩
          refine wp_region_held_drew (S := (fun W' => W'.cell? ⟨b2, off2 + i, none⟩ = some (.int .u64 x) ∧ W'.cell? ⟨b2, off2 + i2, none⟩ = some (.int .u64 y) ∧ W'.cell? ⟨g0, 1, none⟩ = some (.int .i64 i) ∧ W'.cell? ⟨g0, 2, none⟩ = some (.int .i64 i2))) (by kernel_rfl) (by ((try dsimp only) <;> (with_reducible exact hS0))) (fun hHeld => ?_)
          refine tkY 0 ?_
          refine tkY 1 ?_
          refine tkY 2 ?_
          refine tkY 3 ?_
          refine tkY 4 ?_
          refine tkY 5 ?_
          refine tkY 6 ?_
          refine tkY 7 ?_
          refine tkY 8 ?_
          refine tkY 9 ?_
          refine tkY 10 ?_
          refine rd1 11 (fun K hK => ?_)
          (try simp only [ly0, ly1, ly2, ly3, ly4, ly5, ly6, ly7])
          go_simp
          (first
           | (go_at_call 116; refine (HX.out _).mono ?_; rintro e w1 ⟨rfl, hw⟩; rw [hw]; clear hw))
          first | refine hK.out _ _ ?k6 (fun hHeld => ?_) | (go_wp2_with fail; refine hK.out _ _ ?k6 (fun hHeld => ?_))
          case k6 => ((try dsimp only) <;> (with_reducible exact hS0))
          clear hK K
          (try simp only [ly0, ly1, ly2, ly3, ly4, ly5, ly6, ly7])
          refine tkY 12 ?_
          refine wpAnyH_done (by kernel_rfl) ?_ _
          have hb2 : Below wr.heap.size wr w0.drew := hA2.drew
          have hown2 := own_below Hown.out hb2
          have hB2 := Below.next hB hb2
          have hsz2 := hB2.size
          have Hn2 : Hid (w0.drew.heap[w.heap.size]? = _) := (hb2.block _ (Array.getElem?_eq_some_iff.1 Hn.out).1).trans Hn.out
          clear d1 d2 r0 r1 r2 r3 hS0 hN2 hA2 HX
          generalize add p x y = z at *
          generalize w0.drew = w5 at *
          go_wp2_with (at_builtin; refine wpList_append_lies _ rfl _ _ _ rfl w.heap.size 83 i0 _ 1 8 Tryz.underlying54 hi0 hz0 hz1 hz2 rfl (by omega) (.slice (some ⟨b2, off2, none⟩) ys.length cw) ys.length _ rfl (hown2.alloc _) ⟨w5.heap.size, 0, none⟩ 1 1 [.int .u64 z] rfl rfl (World.news_of_block (cs := #[.int .u64 z]) (t := 83) (fr := (0, 0)) (heap_alloc_new w5 _)) (by simp [Value.oneCell']) (by omega) (by unfold maxLen; omega) (by omega) (by simp; omega) (w5.heap.size + 1) (by simp) ?_; intro gg cap2 w3 hown3 hgrow hat hltg)
          have R := hide (push_step hB2 hown2 hown3 hgrow HS.out)
          have Rn : Hid (w3.heap[w.heap.size]? = _) := prog_kept hown2 hgrow Hn2.out
          clear hown3 hgrow hat hltg hown2
          go_roundw
          case rel => exact ⟨j + 1, by omega, by go_num, by rw [<- Nat.add_assoc, <- HL.out]; exact R.out.1, R.out.2, Rn⟩
          case measure => simp [intOf]; omega
        · have HS : Hid (rnL (Rf f) xs (q.ops.take j) ++ [sub p ((rnL (Rf f) xs (q.ops.take j)).getD q.ops[j].a.toNat 0) ((rnL (Rf f) xs (q.ops.take j)).getD q.ops[j].b.toNat 0)] = rnL (Rf f) xs (q.ops.take (j + 1))) := by
           show _ = _
           rw [hS0]; unfold rnS; rw [if_neg (by omega), if_pos hk]; show _ = _ ++ [sub (pOf f) _ _]; rw [pOf_eq HFi.out]; rfl
          obtain ⟨⟨a0, b0⟩, a1, b1⟩ := ha (by omega)
          rw [hk] at o0
          have e1 := hel.co HFi.out.pos q.ops[j].a.toNat
          have e2 := hel.co HFi.out.pos q.ops[j].b.toNat
          unfold co at e1 e2
          have HX := hide (fun W => rLess_any p _ _ W HFi.out.top e1 e2)
          obtain ⟨au2, cp2, heq2, _, _, hcc⟩ := HR.out
          cases heq2
          obtain ⟨b2, off2, rfl, hbl2, hcell⟩ := hcc (by intro h0; rw [h0] at hln; simp at hln; omega)
          have ca := hcell q.ops[j].a.toNat (by omega)
          have cb := hcell q.ops[j].b.toNat (by omega)
          clear hcell hcc hel hS0 ha hk
          generalize (rnL (Rf f) xs (q.ops.take j)).getD q.ops[j].a.toNat 0 = x at *
          generalize (rnL (Rf f) xs (q.ops.take j)).getD q.ops[j].b.toNat 0 = y at *
          have HL : Hid ((rnL (Rf f) xs (q.ops.take j)).length = xs.length + j) := hln
          rw [<- hln] at a1 b1
          have hyl : (rnL (Rf f) xs (q.ops.take j)).length <= 320 := by omega
          clear hln
          generalize rnL (Rf f) xs (q.ops.take j) = ys at *
          generalize q.ops[j] = o at *
          obtain ⟨k, oa, ob, c⟩ := o
          dsimp only at *
          obtain ⟨i, rfl⟩ : ∃ i : Nat, oa = i := ⟨oa.toNat, by omega⟩
          obtain ⟨i2, rfl⟩ : ∃ i : Nat, ob = i := ⟨ob.toNat, by omega⟩
          simp only [Int.toNat_natCast] at *
          have hA2 := alloc_below wr (.cells #[.int .u8 2, .int .i64 i, .int .i64 i2, .int .u64 c] 85)
          have hN2 := heap_alloc_new wr (.cells #[.int .u8 2, .int .i64 i, .int .i64 i2, .int .u64 c] 85)
          have d1 := (hA2.cell (p := ⟨b2, off2 + i, none⟩) hbl2).trans ca
          have d2 := (hA2.cell (p := ⟨b2, off2 + i2, none⟩) hbl2).trans cb
          have i1 : (i : Int) < (ys.length : Int) := by omega
          have i3 : (i2 : Int) < (ys.length : Int) := by omega
          go_upto_region 16 with fail
          generalize wr.alloc (.cells #[.int .u8 2, .int .i64 i, .int .i64 i2, .int .u64 c] 85) = w0 at *
          obtain ⟨g0, HG0⟩ : ∃ g0, Hid (wr.heap.size = g0) := ⟨_, rfl⟩
          rw [HG0.out] at hN2 ⊢
          obtain ⟨r0, r1, r2, r3⟩ := cells4 hN2
          have hS0 : w0.drew.cell? ⟨b2, off2 + i, none⟩ = some (.int .u64 x) ∧ w0.drew.cell? ⟨b2, off2 + i2, none⟩ = some (.int .u64 y) ∧ w0.drew.cell? ⟨g0, 1, none⟩ = some (.int .i64 i) ∧ w0.drew.cell? ⟨g0, 2, none⟩ = some (.int .i64 i2) := ⟨d1, d2, r1, r2⟩
          refine wp_region_held_drew (S := (fun W' => W'.cell? ⟨b2, off2 + i, none⟩ = some (.int .u64 x) ∧ W'.cell? ⟨b2, off2 + i2, none⟩ = some (.int .u64 y) ∧ W'.cell? ⟨g0, 1, none⟩ = some (.int .i64 i) ∧ W'.cell? ⟨g0, 2, none⟩ = some (.int .i64 i2))) (by kernel_rfl) (by ((try dsimp only) <;> (with_reducible exact hS0))) (fun hHeld => ?_)
          refine tkY 0 ?_
          refine tkY 1 ?_
          refine tkY 2 ?_
          refine tkY 3 ?_
          refine tkY 4 ?_
          refine tkY 5 ?_
          refine tkY 6 ?_
          refine tkY 7 ?_
          refine tkY 8 ?_
          refine tkY 9 ?_
          refine tkY 10 ?_
          refine rd1 11 (fun K hK => ?_)
          (try simp only [ly0, ly1, ly2, ly3, ly4, ly5, ly6, ly7])
          go_simp
          (first
           | (go_at_call 117; refine (HX.out _).mono ?_; rintro e w1 ⟨rfl, hw⟩; rw [hw]; clear hw))
          first | refine hK.out _ _ ?k7 (fun hHeld => ?_) | (go_wp2_with fail; refine hK.out _ _ ?k7 (fun hHeld => ?_))
          case k7 => ((try dsimp only) <;> (with_reducible exact hS0))
          clear hK K
          (try simp only [ly0, ly1, ly2, ly3, ly4, ly5, ly6, ly7])
          refine tkY 12 ?_
          refine wpAnyH_done (by kernel_rfl) ?_ _
          have hb2 : Below wr.heap.size wr w0.drew := hA2.drew
          have hown2 := own_below Hown.out hb2
          have hB2 := Below.next hB hb2
          have hsz2 := hB2.size
          have Hn2 : Hid (w0.drew.heap[w.heap.size]? = _) := (hb2.block _ (Array.getElem?_eq_some_iff.1 Hn.out).1).trans Hn.out
          clear d1 d2 r0 r1 r2 r3 hS0 hN2 hA2 HX
          generalize sub p x y = z at *
          generalize w0.drew = w5 at *
          go_wp2_with (at_builtin; refine wpList_append_lies _ rfl _ _ _ rfl w.heap.size 83 i0 _ 1 8 Tryz.underlying54 hi0 hz0 hz1 hz2 rfl (by omega) (.slice (some ⟨b2, off2, none⟩) ys.length cw) ys.length _ rfl (hown2.alloc _) ⟨w5.heap.size, 0, none⟩ 1 1 [.int .u64 z] rfl rfl (World.news_of_block (cs := #[.int .u64 z]) (t := 83) (fr := (0, 0)) (heap_alloc_new w5 _)) (by simp [Value.oneCell']) (by omega) (by unfold maxLen; omega) (by omega) (by simp; omega) (w5.heap.size + 1) (by simp) ?_; intro gg cap2 w3 hown3 hgrow hat hltg)
          have R := hide (push_step hB2 hown2 hown3 hgrow HS.out)
          have Rn : Hid (w3.heap[w.heap.size]? = _) := prog_kept hown2 hgrow Hn2.out
          clear hown3 hgrow hat hltg hown2
          go_roundw
          case rel => exact ⟨j + 1, by omega, by go_num, by rw [<- Nat.add_assoc, <- HL.out]; exact R.out.1, R.out.2, Rn⟩
          case measure => simp [intOf]; omega
        · have HS : Hid (rnL (Rf f) xs (q.ops.take j) ++ [mul p ((rnL (Rf f) xs (q.ops.take j)).getD q.ops[j].a.toNat 0) ((rnL (Rf f) xs (q.ops.take j)).getD q.ops[j].b.toNat 0)] = rnL (Rf f) xs (q.ops.take (j + 1))) := by
           show _ = _
           rw [hS0]; unfold rnS; rw [if_neg (by omega), if_neg (by omega), if_pos hk]; show _ = _ ++ [mul (pOf f) _ _]; rw [pOf_eq HFi.out]; rfl
          obtain ⟨⟨a0, b0⟩, a1, b1⟩ := ha (by omega)
          rw [hk] at o0
          have e1 := hel.co HFi.out.pos q.ops[j].a.toNat
          have e2 := hel.co HFi.out.pos q.ops[j].b.toNat
          unfold co at e1 e2
          have HX := hide (fun W => rTimes_any p _ _ W HFi.out.top e1 (elWord e2 HFi.out.top).1 (elWord e2 HFi.out.top).2)
          obtain ⟨au2, cp2, heq2, _, _, hcc⟩ := HR.out
          cases heq2
          obtain ⟨b2, off2, rfl, hbl2, hcell⟩ := hcc (by intro h0; rw [h0] at hln; simp at hln; omega)
          have ca := hcell q.ops[j].a.toNat (by omega)
          have cb := hcell q.ops[j].b.toNat (by omega)
          clear hcell hcc hel hS0 ha hk
          generalize (rnL (Rf f) xs (q.ops.take j)).getD q.ops[j].a.toNat 0 = x at *
          generalize (rnL (Rf f) xs (q.ops.take j)).getD q.ops[j].b.toNat 0 = y at *
          have HL : Hid ((rnL (Rf f) xs (q.ops.take j)).length = xs.length + j) := hln
          rw [<- hln] at a1 b1
          have hyl : (rnL (Rf f) xs (q.ops.take j)).length <= 320 := by omega
          clear hln
          generalize rnL (Rf f) xs (q.ops.take j) = ys at *
          generalize q.ops[j] = o at *
          obtain ⟨k, oa, ob, c⟩ := o
          dsimp only at *
          obtain ⟨i, rfl⟩ : ∃ i : Nat, oa = i := ⟨oa.toNat, by omega⟩
          obtain ⟨i2, rfl⟩ : ∃ i : Nat, ob = i := ⟨ob.toNat, by omega⟩
          simp only [Int.toNat_natCast] at *
          have hA2 := alloc_below wr (.cells #[.int .u8 3, .int .i64 i, .int .i64 i2, .int .u64 c] 85)
          have hN2 := heap_alloc_new wr (.cells #[.int .u8 3, .int .i64 i, .int .i64 i2, .int .u64 c] 85)
          have d1 := (hA2.cell (p := ⟨b2, off2 + i, none⟩) hbl2).trans ca
          have d2 := (hA2.cell (p := ⟨b2, off2 + i2, none⟩) hbl2).trans cb
          have i1 : (i : Int) < (ys.length : Int) := by omega
          have i3 : (i2 : Int) < (ys.length : Int) := by omega
          go_upto_region 18 with fail
          generalize wr.alloc (.cells #[.int .u8 3, .int .i64 i, .int .i64 i2, .int .u64 c] 85) = w0 at *
          obtain ⟨g0, HG0⟩ : ∃ g0, Hid (wr.heap.size = g0) := ⟨_, rfl⟩
          rw [HG0.out] at hN2 ⊢
          obtain ⟨r0, r1, r2, r3⟩ := cells4 hN2
          have hS0 : w0.drew.cell? ⟨b2, off2 + i, none⟩ = some (.int .u64 x) ∧ w0.drew.cell? ⟨b2, off2 + i2, none⟩ = some (.int .u64 y) ∧ w0.drew.cell? ⟨g0, 1, none⟩ = some (.int .i64 i) ∧ w0.drew.cell? ⟨g0, 2, none⟩ = some (.int .i64 i2) := ⟨d1, d2, r1, r2⟩
          refine wp_region_held_drew (S := (fun W' => W'.cell? ⟨b2, off2 + i, none⟩ = some (.int .u64 x) ∧ W'.cell? ⟨b2, off2 + i2, none⟩ = some (.int .u64 y) ∧ W'.cell? ⟨g0, 1, none⟩ = some (.int .i64 i) ∧ W'.cell? ⟨g0, 2, none⟩ = some (.int .i64 i2))) (by kernel_rfl) (by ((try dsimp only) <;> (with_reducible exact hS0))) (fun hHeld => ?_)
          refine tkY 0 ?_
          refine tkY 1 ?_
          refine tkY 2 ?_
          refine tkY 3 ?_
          refine tkY 4 ?_
          refine tkY 5 ?_
          refine tkY 6 ?_
          refine tkY 7 ?_
          refine tkY 8 ?_
          refine tkY 9 ?_
          refine tkY 10 ?_
          refine rd1 11 (fun K hK => ?_)
          (try simp only [ly0, ly1, ly2, ly3, ly4, ly5, ly6, ly7])
          go_simp
          (first
           | (go_at_call 118; refine (HX.out _).mono ?_; rintro e w1 ⟨rfl, hw⟩; rw [hw]; clear hw))
          first | refine hK.out _ _ ?k8 (fun hHeld => ?_) | (go_wp2_with fail; refine hK.out _ _ ?k8 (fun hHeld => ?_))
          case k8 => ((try dsimp only) <;> (with_reducible exact hS0))
          clear hK K
          (try simp only [ly0, ly1, ly2, ly3, ly4, ly5, ly6, ly7])
          refine tkY 12 ?_
          refine wpAnyH_done (by kernel_rfl) ?_ _
          have hb2 : Below wr.heap.size wr w0.drew := hA2.drew
          have hown2 := own_below Hown.out hb2
          have hB2 := Below.next hB hb2
          have hsz2 := hB2.size
          have Hn2 : Hid (w0.drew.heap[w.heap.size]? = _) := (hb2.block _ (Array.getElem?_eq_some_iff.1 Hn.out).1).trans Hn.out
          clear d1 d2 r0 r1 r2 r3 hS0 hN2 hA2 HX
          generalize mul p x y = z at *
          generalize w0.drew = w5 at *
          go_wp2_with (at_builtin; refine wpList_append_lies _ rfl _ _ _ rfl w.heap.size 83 i0 _ 1 8 Tryz.underlying54 hi0 hz0 hz1 hz2 rfl (by omega) (.slice (some ⟨b2, off2, none⟩) ys.length cw) ys.length _ rfl (hown2.alloc _) ⟨w5.heap.size, 0, none⟩ 1 1 [.int .u64 z] rfl rfl (World.news_of_block (cs := #[.int .u64 z]) (t := 83) (fr := (0, 0)) (heap_alloc_new w5 _)) (by simp [Value.oneCell']) (by omega) (by unfold maxLen; omega) (by omega) (by simp; omega) (w5.heap.size + 1) (by simp) ?_; intro gg cap2 w3 hown3 hgrow hat hltg)
          have R := hide (push_step hB2 hown2 hown3 hgrow HS.out)
          have Rn : Hid (w3.heap[w.heap.size]? = _) := prog_kept hown2 hgrow Hn2.out
          clear hown3 hgrow hat hltg hown2
          go_roundw
          case rel => exact ⟨j + 1, by omega, by go_num, by rw [<- Nat.add_assoc, <- HL.out]; exact R.out.1, R.out.2, Rn⟩
          case measure => simp [intOf]; omega
        · have HS : Hid (rnL (Rf f) xs (q.ops.take j) ++ [q.ops[j].c % p] = rnL (Rf f) xs (q.ops.take (j + 1))) := by
           show _ = _
           rw [hS0]; unfold rnS; rw [if_neg (by omega), if_neg (by omega), if_neg (by omega)]; show _ = _ ++ [q.ops[j].c % pOf f]; rw [pOf_eq HFi.out]
          rw [hk] at o0
          have HL : Hid ((rnL (Rf f) xs (q.ops.take j)).length = xs.length + j) := hln
          have hyl : (rnL (Rf f) xs (q.ops.take j)).length <= 320 := by omega
          clear hln hel hS0 ha hk HR
          generalize rnL (Rf f) xs (q.ops.take j) = ys at *
          generalize q.ops[j] = o at *
          obtain ⟨k, oa, ob, c⟩ := o
          dsimp only at *
          have hA2 := alloc_below wr (.cells #[.int .u8 4, .int .i64 oa, .int .i64 ob, .int .u64 c] 85)
          have hown2 := own_below Hown.out hA2
          have hB2 := Below.next hB hA2
          have hsz2 := hB2.size
          have Hn2 : Hid ((wr.alloc (.cells #[.int .u8 4, .int .i64 oa, .int .i64 ob, .int .u64 c] 85)).heap[w.heap.size]? = _) := (hA2.block _ (Array.getElem?_eq_some_iff.1 Hn.out).1).trans Hn.out
          go_upto_region 19 with fail
          generalize wr.alloc (.cells #[.int .u8 4, .int .i64 oa, .int .i64 ob, .int .u64 c] 85) = w5 at *
          generalize c % p = z at *
          go_wp2_with (at_builtin; refine wpList_append_lies _ rfl _ _ _ rfl w.heap.size 83 i0 _ 1 8 Tryz.underlying54 hi0 hz0 hz1 hz2 rfl (by omega) (.slice aw ys.length cw) ys.length _ rfl (hown2.alloc _) ⟨w5.heap.size, 0, none⟩ 1 1 [.int .u64 z] rfl rfl (World.news_of_block (cs := #[.int .u64 z]) (t := 83) (fr := (0, 0)) (heap_alloc_new w5 _)) (by simp [Value.oneCell']) (by omega) (by unfold maxLen; omega) (by omega) (by simp; omega) (w5.heap.size + 1) (by simp) ?_; intro gg cap2 w3 hown3 hgrow hat hltg)
          have R := hide (push_step hB2 hown2 hown3 hgrow HS.out)
          have Rn : Hid (w3.heap[w.heap.size]? = _) := prog_kept hown2 hgrow Hn2.out
          clear hown3 hgrow hat hltg hown2
          go_roundw
          case rel => exact ⟨j + 1, by omega, by go_num, by rw [<- Nat.add_assoc, <- HL.out]; exact R.out.1, R.out.2, Rn⟩
          case measure => simp [intOf]; omega
      · obtain rfl : j = q.ops.length := by omega
        have hln := HLen.out q.ops.length (Nat.le_refl _)
        rw [List.take_length] at hln Hown
        go_wp2
        go_ret2
        refine ⟨u9, rfl, ?_, hB⟩
        unfold rns
        rw [hln]
        exact Hown.out
   · have e3 : rwE f q xs = 3 := by unfold rwE; rw [hi, if_pos rfl, if_neg he]
     have e2 : stL f q xs = [] := by unfold stL; rw [e1, e3]; rfl
     rw [e1, e3, e2]
     have ht : ((xs.length : Int) != q.inp) = true := by simp [he]
     clear hm e1 e2 e3 hi HKeep he
     apply Gives.none
     go_enter Tryz.func95, Tryz.ntmps95
     go_wp2_with (first
      | (go_at_call 114; refine (HM.out _ hA).mono ?_; rintro e w1 ⟨rfl, hb1⟩; have hB1 := Below.next hA hb1; obtain ⟨p0, p1, p2⟩ := cell3 ((hb1.block _ (Array.getElem?_eq_some_iff.1 hN).1).trans hN))
      | (go_at_call 33; refine (HI.out _ hB1).mono ?_; rintro e w2 ⟨rfl, hw⟩; rw [hw]; clear hw))
     go_ret2
     exact ⟨rfl, hB1⟩
theorem dRun (f : Int) (q : Pr) (vp vi : Value) (xs : List Int) (w : World) (hp : Pm w vp q) (hr : Rw w vi xs) : Gives 65 #[.int .u8 f, vp, vi] w (ruL f q xs) (evE f q xs) := by
 obtain ⟨i0, hi0, hz0, hz1, hz2⟩ := info_parts u64_info
 have HS := hide (fun W (hb : Below w.heap.size w W) => dSteps f q vp vi xs W (hp.below hb) (hr.below hb))
 unfold Gives at HS
 have HKeep := hide (And.intro hp hr)
 obtain ⟨vo, vu, rfl, ho, hu⟩ := hp.form
 obtain ⟨ao, co', rfl, _⟩ := ho.spell
 obtain ⟨au, cu, rfl, _⟩ := hu.spell
 obtain ⟨ai, ci, rfl, hci⟩ := hr.spell
 have hA := alloc_below w (.cells #[.int .i64 q.inp, .slice ao q.ops.length co', .slice au q.outs.length cu] 28)
 have hN := heap_alloc_new w (.cells #[.int .i64 q.inp, .slice ao q.ops.length co', .slice au q.outs.length cu] 28)
 have HU := hide hu
 have hul := hu.len
 clear ho hu hp hr
 by_cases he : evE f q xs = 0
 · have e1 : ruL f q xs = rnO (Rf f) q xs := by unfold ruL; rw [if_pos he]
   have e2 : stL f q xs = rns (Rf f) q xs := by unfold stL; rw [if_pos he]
   obtain ⟨hm, h1, h2⟩ := evE_zero he
   obtain ⟨p, wd, hf, hi⟩ := inF_fi h1
   have hx := els_of hi HKeep.out.2.words
   obtain ⟨⟨j0, j1, l1, l2⟩, _, _⟩ := mayB_iff.1 hm
   have hl : (rns (Rf f) q xs).length = q.inp.toNat + q.ops.length := by unfold rns; rw [rnL_len]; omega
   have HOu : Hid (∀ j (hj : j < q.outs.length), 0 <= q.outs[j] ∧ q.outs[j].toNat < (rns (Rf f) q xs).length) := fun j hj => by
    have := may_out hm q.outs[j] (List.getElem_mem hj); rw [hl]; exact this
   have HRo := hide (fun W B v' ho => row_of_own (w := W) (base := B) (v := v') (n := (rns (Rf f) q xs).length) (xs := rns (Rf f) q xs) ho rfl (by omega) (els_words (el_all hf q.ops xs hx) hf.top))
   have HOn : Hid (rnO (Rf f) q xs = q.outs.map (fun v => (rns (Rf f) q xs).getD v.toNat 0)) := rfl
   rw [e1, he, HOn.out]
   rw [he, e2] at HS
   clear e1 e2 he hm h1 h2 hf hi hx hl HKeep HOn j0 j1
   generalize rns (Rf f) q xs = ys at *
   unfold Gives
   rw [List.length_map]
   go_enter Tryz.func65, Tryz.ntmps65
   go_wp2_with (go_at_call 95; refine (HS.out _ hA).mono ?_; rintro e w1 ⟨v1, rfl, ho1, hb1⟩; have hB1 := Below.next hA hb1; have n1 := (hb1.block _ (Array.getElem?_eq_some_iff.1 hN).1).trans hN)
   have HR1 := hide (HRo.out _ _ _ ho1)
   obtain ⟨a1, c1, rfl⟩ := own_form ho1
   go_loopw [10, 11] (fun va vi wr => ∃ j : Nat, j <= q.outs.length ∧ vi = .int .i64 j ∧ Hid (wr.ownsRow w1.heap.size 83 1 va j (vals ((q.outs.take j).map (fun v => ys.getD v.toNat 0)))) ∧ Below w1.heap.size w1 wr) (fun _ vi _ => q.outs.length - (intOf vi).toNat)
   case atStart => exact ⟨0, Nat.zero_le _, rfl, World.ownsRow_nil _ _ _ _, Below.refl _ _⟩
   case round =>
    obtain ⟨j, hj, rfl, Hown, hB⟩ := hrel
    obtain ⟨p0, p1, p2⟩ := cell3 ((hB.block _ (Array.getElem?_eq_some_iff.1 n1).1).trans n1)
    by_cases hlt : j < q.outs.length
    · obtain ⟨b, off, cp, heq, _, hbl⟩ := HU.out.form (by omega)
      cases heq
      have hcu := HU.out.int (Below.next hB1 hB) hlt
      obtain ⟨ho0, ho1'⟩ := HOu.out j hlt
      have HS2 := hide (take_inv_snoc q.outs (fun v => ys.getD v.toNat 0) j hlt)
      rw [show q.outs.getD j 0 = q.outs[j] from getD_at hlt] at HS2
      obtain ⟨au2, cp2, heq2, _, _, hcc⟩ := HR1.out
      cases heq2
      obtain ⟨b2, off2, rfl, hbl2, hcell⟩ := hcc (by intro h0; rw [h0] at ho1'; simp at ho1')
      have hca := (hB.cell (p := ⟨b2, off2 + q.outs[j].toNat, none⟩) hbl2).trans (hcell _ ho1')
      have hbs := hB.size
      generalize q.outs[j] = o at *
      obtain ⟨i, rfl⟩ : ∃ i : Nat, o = i := ⟨o.toNat, by omega⟩
      simp only [Int.toNat_natCast] at *
      generalize ys.getD i 0 = y at *
      have k0 : (0 : Int) <= (j : Int) := by omega
      have k1 : (j : Int) < (q.outs.length : Int) := by omega
      have i1 : (i : Int) < (ys.length : Int) := by omega
      clear hcell hcc ho1'
      go_wp2_with (at_builtin; refine wpList_append_lies _ rfl _ _ _ rfl w1.heap.size 83 i0 _ 1 8 Tryz.underlying54 hi0 hz0 hz1 hz2 rfl (by omega) u10 j _ rfl (Hown.out.alloc _) ⟨wr.heap.size, 0, none⟩ 1 1 [.int .u64 y] rfl rfl (World.news_of_block (cs := #[.int .u64 y]) (t := 83) (fr := (0, 0)) (heap_alloc_new wr _)) (by simp [Value.oneCell']) (by omega) (by unfold maxLen; omega) (by omega) (by simp; omega) (wr.heap.size + 1) (by simp) ?_; intro gg cap2 w3 hown3 hgrow hat hltg)
      have R := hide (push_step hB Hown.out hown3 hgrow HS2.out)
      clear hown3 hgrow hat hltg
      go_roundw
      case rel => exact ⟨j + 1, by omega, by go_num, R.out.1, R.out.2⟩
      case measure => simp [intOf]; omega
    · obtain rfl : j = q.outs.length := by omega
      rw [List.take_length] at Hown
      go_wp2
      go_ret2
      exact ⟨u10, rfl, own_mono Hown.out hB1.size, Below.next hB1 hB⟩
 · have e1 : ruL f q xs = [] := by unfold ruL; rw [if_neg he]
   rw [e1]
   have ht : (evE f q xs == 0) = false := by simpa using he
   clear e1 he HKeep
   generalize evE f q xs = r at *
   apply Gives.none
   go_enter Tryz.func65, Tryz.ntmps65
   go_wp2_with (go_at_call 95; refine (HS.out _ hA).mono ?_; rintro e w1 ⟨v1, rfl, ho1, hb1⟩; have hB1 := Below.next hA hb1; have n1 := (hb1.block _ (Array.getElem?_eq_some_iff.1 hN).1).trans hN; obtain ⟨p0, p1, p2⟩ := cell3 n1)
   go_loopw [10, 11] (fun va vi wr => va = .slice none 0 0 ∧ vi = .int .i64 0 ∧ wr = w1) (fun _ vi _ => 0)
   case atStart => exact ⟨rfl, rfl, rfl⟩
   case round =>
    obtain ⟨rfl, rfl, rfl⟩ := hrel
    by_cases hlt : (0 : Int) < q.outs.length
    · go_wp2
      go_ret2
      exact ⟨rfl, hB1⟩
    · go_wp2
      go_ret2
      exact ⟨rfl, hB1⟩
end Go.Proofs.YtipobchbnjgenaaGreat
