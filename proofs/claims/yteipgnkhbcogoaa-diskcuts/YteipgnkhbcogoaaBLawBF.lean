import Derived.Test.YteipgnkhbcogoaaBLawBA
set_option linter.unusedVariables false
set_option linter.unusedSimpArgs false
set_option maxRecDepth 100000
set_option maxHeartbeats 4000000
namespace Go.Proofs.Yteipgnkhbcogoaa
open Go.RowKit Fld
theorem cut_facts (bs : List (List Int)) (n m : Nat) (h : bs.length = m) : (cutD bs n m).l = bs.take (min n m) ∧ (cutD bs n m).n = min n m ∧ (cutD bs n m).x = decide (n < m) := by
 unfold cutD
 by_cases h1 : m <= n
 · rw [if_pos h1, decide_eq_false (by omega), show min n m = m by omega]
   exact ⟨rfl, rfl, rfl⟩
 · rw [if_neg h1, decide_eq_true (by omega), show min n m = n by omega]
   exact ⟨rfl, rfl, rfl⟩
theorem cut_n (bs : List (List Int)) (n k : Nat) : (cutD bs n k).n <= n := by
 unfold cutD
 split
 · assumption
 · exact Nat.le_refl _
def bks (zs : List Int) (m : Nat) : List (List Int) := (zs.take m).map blkc
theorem bks_len {zs : List Int} {m : Nat} (h : m <= zs.length) : (bks zs m).length = m := by unfold bks; rw [List.length_map, List.length_take]; omega
theorem bks_32 (zs : List Int) (m : Nat) : ∀ b ∈ bks zs m, b.length = 32 := fun b hb => by
 obtain ⟨x, _, rfl⟩ := List.mem_map.1 hb
 exact blkc_len x
theorem bks_at {zs : List Int} {m k : Nat} (h : m <= zs.length) (hk : k < m) : (bks zs m)[k]? = some (blkc (zs.getD k 0)) := by
 unfold bks
 rw [List.getElem?_map, List.getElem?_take_of_lt hk, List.getD_eq_getElem?_getD, List.getElem?_eq_getElem (by omega)]
 rfl
theorem diskCuts_any (v : Value) (zs : List Int) (n : Int) (w : World) (h : Rb w v zs) (hlz : zs.length <= 140737488351232) (hn : 0 <= n ∧ n <= 255) : Calls Try.prog 5 #[v, .int .u8 n] w fun e w' => e = .returned (.bool true) ∧ Below w.heap.size w w' := by
 obtain ⟨N, rfl⟩ : ∃ N : Nat, n = (N : Int) := ⟨n.toNat, by omega⟩
 have hN : N <= 255 := by omega
 clear hn
 have HZ := hide (fun W (hb : Below w.heap.size w W) => h.below hb)
 have HF := hide h.form
 have ga := hide (fun W => anch22 W)
 have HNew := hide (fun W => gNew22 W)
 have HFu := hide (fun W v (h : Hd W w.heap.size w.heap.size v dk0) => gFuse h (N : Int) (by omega))
 rw [show fuE (N : Int) = 0 by unfold fuE; rw [if_pos (by omega)]] at HFu
 have HBk := hide (fun (c : Int) (hc : 0 <= c ∧ c <= 255) W => dBlock c hc W)
 have HSm := hide (fun (p : List Int) x y W (r1 : Rb W x p) (r2 : Rb W y p) => rSame8 x y p p W r1 r2)
 simp only [decide_true] at HSm
 have HNN := hide hN
 obtain ⟨ao, cap, rfl, _⟩ := h.spell
 have nn0 : (0 : Int) <= (N : Int) := by omega
 have nn1 : (N : Int) <= 255 := by omega
 clear h hN
 rcases Nat.lt_or_ge 1000 zs.length with hL | hL
 · skip
   generalize hlen : zs.length = L at *
   have HM := hide (show 1000 <= L by omega)
   have HLen := hide hlen
   have HL := hide hL
   clear hlen hL
   go_enter Try.func5, Try.ntmps5
   go_wp2_with (first
    | (go_at_call 7; refine (HNew.out _).mono ?_; rintro e w1 ⟨rfl, hn1, hb1⟩; have HF1 := hide (HFu.out _ _ hn1); have HB1 := hide hb1; have HN1 := hide hn1; clear hn1 hb1)
    | (go_at_call 15; refine HF1.out.mono ?_; rintro e w2 ⟨rfl, hn2, hm2⟩; rw [cut_start (bks zs 1000) N] at hn2; have HB2 := hide (HB1.out.trans (HN1.out.mvb hm2 HB1.out.size)); have HN2 := hide hn2; clear hn2 hm2 HN1 HF1))
   clear HNew HFu
   go_loopw [6] (fun vi wr => ∃ (k : Nat) (u : Value), k <= 1000 ∧ vi = .int .i64 k ∧ Hid (Hd wr w.heap.size w.heap.size u (cutD (bks zs 1000) N k)) ∧ Hid (Below w.heap.size w wr)) (fun vi _ => 1000 - (intOf vi).toNat)
   case atStart => exact ⟨0, _, Nat.zero_le _, rfl, HN2, HB2⟩
   case round =>
    clear HN2 HB2
    obtain ⟨k, u, hk, rfl, HD, HB⟩ := hrel
    by_cases hlt : k < 1000
    · obtain ⟨b, off, cap', hv, _, _⟩ := HF.out (by have := HLen.out; have := HL.out; omega)
      have hv1 : ao = some ⟨b, off, none⟩ := by injection hv
      subst hv1
      clear hv
      obtain ⟨_, c0, y0, y1⟩ := (HZ.out wr HB.out).at_ (k := k) (by rw [HLen.out]; have := HL.out; omega)
      have hbk := HBk.out (zs.getD k 0) ⟨y0, y1⟩ wr
      have hst := cut_step (bs := bks zs 1000) (n := N) (k := k) (by rw [bks_len (by rw [HLen.out]; exact HM.out)]; exact hlt) (bks_32 zs 1000) (by have := HNN.out; omega)
      rw [List.getD_eq_getElem?_getD, bks_at (by rw [HLen.out]; exact HM.out) hlt] at hst
      obtain ⟨hs1, hs2⟩ := hst
      have hby : By (blkc (zs.getD k 0)) := blkc_by ⟨y0, y1⟩
      have HW := hide (fun W (hb : Below wr.heap.size wr W) x (hx : Rb W x (blkc (zs.getD k 0))) => gWrite22 (HD.out.below hb) (by have := HB.out.size; have := hb.size; omega) (by have := cut_n (bks zs 1000) N k; have := HNN.out; omega) hx)
      change wrE22 (cutD (bks zs 1000) N k) (blkc (zs.getD k 0)) = _ at hs1
      change wrN22 (cutD (bks zs 1000) N k) (blkc (zs.getD k 0)) = _ at hs2
      rw [hs1, hs2] at HW
      have HRb := hide (fun W lo x (ho : World.ownsRow W lo 5 1 x 32 (valb (blkc (zs.getD k 0)))) => rb_of_own ho hby (by rw [blkc_len]; decide))
      have HBW := hide hbk
      have HMv := hide (fun W (hb : Below wr.heap.size wr W) W3 v3 (m : Mv W W3 w.heap.size u v3) => show Below w.heap.size w W3 from (HB.out.trans (hb.mono HB.out.size)).trans ((HD.out.below hb).mvb m (by have := HB.out.size; have := hb.size; omega)))
      have k0 : (0 : Int) <= (k : Int) := by omega
      have k1 : (k : Int) < (L : Int) := by have := HL.out; omega
      have k2 : (k : Int) < 1000 := by have := HL.out; omega
      clear hs1 hs2 hby hbk y0 y1 HD HZ HF
      generalize zs.getD k 0 = y at *
      by_cases hkn : k < N
      · rw [if_pos hkn] at HW
        have kn : (k : Int) < (N : Int) := by omega
        go_wp2_with (first
         | (go_at_call 20; refine HBW.out.mono ?_; rintro e w4 ⟨v4, rfl, ho4, hb4⟩; obtain ⟨a4, k4, hv4, _⟩ := own_spellO ho4; subst hv4; have HW4 := hide (HW.out _ hb4 _ (HRb.out _ _ _ ho4)); have HB4 := hide hb4; clear ho4 hb4)
         | (go_at_call 13; refine HW4.out.mono ?_; rintro e w5 ⟨v5, rfl, hn5, hm5⟩; have HN5 := hide hn5; have HB5 := hide (HMv.out _ HB4.out _ _ hm5); clear hn5 hm5))
        go_roundw
        case rel => exact ⟨k + 1, v5, by omega, by go_num, HN5, HB5⟩
        case measure => simp [intOf]; omega
      · rw [if_neg hkn] at HW
        have kn : ¬ (k : Int) < (N : Int) := by omega
        go_wp2_with (first
         | (go_at_call 20; refine HBW.out.mono ?_; rintro e w4 ⟨v4, rfl, ho4, hb4⟩; obtain ⟨a4, k4, hv4, _⟩ := own_spellO ho4; subst hv4; have HW4 := hide (HW.out _ hb4 _ (HRb.out _ _ _ ho4)); have HB4 := hide hb4; clear ho4 hb4)
         | (go_at_call 13; refine HW4.out.mono ?_; rintro e w5 ⟨v5, rfl, hn5, hm5⟩; have HN5 := hide hn5; have HB5 := hide (HMv.out _ HB4.out _ _ hm5); clear hn5 hm5))
        go_roundw
        case rel => exact ⟨k + 1, v5, by omega, by go_num, HN5, HB5⟩
        case measure => simp [intOf]; omega
    · have hkm : k = 1000 := by omega
      obtain ⟨e1, e2, e3⟩ := cut_facts (bks zs 1000) N 1000 (bks_len (by rw [HLen.out]; exact HM.out))
      rw [hkm] at HD ⊢
      clear hlt hk hkm
      · have hNm : N < 1000 := by have := HNN.out; omega
        have hq : min N 1000 = N := by omega
        rw [hq] at e1 e2
        rw [decide_eq_true hNm] at e3
        have hR : (List.take N (bks zs 1000)).length = N := by rw [List.length_take, bks_len (by rw [HLen.out]; exact HM.out)]; omega
        have HAt := hide (fun i (hi : i < N) => show (List.take N (bks zs 1000))[i]? = some (blkc (zs.getD i 0)) from by rw [List.getElem?_take_of_lt hi]; exact bks_at (by rw [HLen.out]; exact HM.out) (by omega))
        have HQ := hide (show N <= 1000 by omega)
        generalize cutD (bks zs 1000) N 1000 = E at *
        generalize List.take N (bks zs 1000) = R at *
        have HBl := hide (gBlocks22 HD.out)
        rw [e1] at HBl
        have HE2 := hide e2
        have HE3 := hide e3
        have HR := hide hR
        have l1 : (1000 : Int) < (L : Int) := by have := HL.out; omega
        have l2 : ¬ (1000 : Int) < (N : Int) := by omega
        have l3 : (N : Int) < 1000 := by omega
        clear hNm
        clear hq hR e1 e2 e3
        go_wp2_with (go_at_call 12; refine HBl.out.mono ?_; rintro e w6 ⟨v6, r6, c6, rfl, hT6, hb6⟩; obtain ⟨a6, k6, hv6, _⟩ := own_spellO hT6.row; subst hv6; have HT6 := hide hT6.bl; have HD6 := hide (HD.out.below hb6); have HB6 := hide (HB.out.trans (hb6.mono HB.out.size)); rw [HR.out]; clear hT6 hb6)
        clear HBl HD HB
        go_loopw [9] (fun vi wr => ∃ (k : Nat), k <= N ∧ vi = .int .i64 k ∧ Hid (Below w6.heap.size w6 wr)) (fun vi _ => N - (intOf vi).toNat)
        case atStart => exact ⟨0, Nat.zero_le _, rfl, Below.refl _ _⟩
        case round =>
         obtain ⟨k, hk, rfl, HB⟩ := hrel
         by_cases hlt : k < N
         · obtain ⟨b, off, cap', hv, _, _⟩ := HF.out (by have := HLen.out; have := HL.out; have := HM.out; have := HQ.out; omega)
           have hv1 : ao = some ⟨b, off, none⟩ := by injection hv
           subst hv1
           clear hv
           have hbw := HB6.out.trans (HB.out.mono HB6.out.size)
           obtain ⟨hbz, c0, y0, y1⟩ := (HZ.out wr hbw).at_ (k := k) (by rw [HLen.out]; have := HL.out; have := HM.out; have := HQ.out; omega)
           obtain ⟨x1, x2, q1, _, q2⟩ := HT6.out.below HB.out
           obtain ⟨r, s, q3, hrl, d0, hrb⟩ := q2 k _ (HAt.out k hlt)
           have q4 : a6 = some ⟨r, 0, none⟩ := by injection q1 with q5; rw [q5, q3]
           subst q4
           clear q1 q2 q3
           obtain ⟨sa, ks, rfl, _⟩ := hrb.spell
           rw [blkc_len] at *
           have HBW := hide (HBk.out (zs.getD k 0) ⟨y0, y1⟩ wr.drew)
           have HBy := hide (blkc_by ⟨y0, y1⟩)
           have HRB := hide (fun W (hb : Below wr.heap.size wr W) => hrb.below hb)
           have k0 : (0 : Int) <= (k : Int) := by omega
           have k1 : (k : Int) < (L : Int) := by have := HL.out; have := HQ.out; have := HM.out; omega
           have k2 : (k : Int) < (N : Int) := by omega
           have HSt := hide (fun W (hb : Below wr.heap.size wr W) => show W.cell? ⟨b, off + k, none⟩ = some (.int .u8 (zs.getD k 0)) ∧ W.cell? ⟨r, k, none⟩ = some (.slice sa 32 ks) from ⟨(hb.cell (p := ⟨b, off + k, none⟩) hbz).trans c0, (hb.cell (p := ⟨r, k, none⟩) hrl).trans d0⟩)
           have hS0 := HSt.out _ (Below.refl _ wr).drew
           clear hbw hbz c0 y0 y1 hrl d0 hrb HZ HF
           generalize zs.getD k 0 = y at *
           go_upto_region 16 with fail
           refine wp_region_held_drew (S := (fun V => V.cell? ⟨b, off + k, none⟩ = some (.int .u8 y) ∧ V.cell? ⟨r, k, none⟩ = some (.slice sa 32 ks))) (by kernel_rfl) (by ((try dsimp only) <;> (first | with_reducible exact hS0 | with_reducible exact hS1))) (fun hHeld => ?_)
           refine tkY 0 ?_
           refine tkY 1 ?_
           refine tkY 2 ?_
           refine tkY 3 ?_
           refine tkY 4 ?_
           refine tkY 5 ?_
           refine tkY 6 ?_
           refine tkY 7 ?_
           refine rd1 8 (fun K hK => ?_)
           (try simp only [ly0, ly1, ly2, ly3, ly4, ly5, ly6, ly7])
           go_simp
           (go_at_call 20; refine HBW.out.mono ?_; rintro e w7 ⟨v7, rfl, ho7, hb7⟩; obtain ⟨a7, k7, hv7, _⟩ := own_spellO ho7; subst hv7; have hB7 := Below.trans (Below.refl wr.heap.size wr).drew hb7; have hS1 := HSt.out _ hB7; have HB7 := hide hB7; have HS7 := hide (HSm.out _ _ _ _ (HRB.out _ hB7) (rb_of_own ho7 HBy.out (by rw [blkc_len]; decide))); clear ho7 hb7 hB7)
           first | refine hK.out _ _ ?k18 (fun hHeld => ?_) | (go_wp2_with fail; refine hK.out _ _ ?k18 (fun hHeld => ?_))
           case k18 => ((try dsimp only) <;> (first | with_reducible exact hS0 | with_reducible exact hS1))
           clear hK K
           (try simp only [ly0, ly1, ly2, ly3, ly4, ly5, ly6, ly7])
           refine rd1 9 (fun K hK => ?_)
           (try simp only [ly0, ly1, ly2, ly3, ly4, ly5, ly6, ly7])
           go_simp
           (go_at_call 21; refine HS7.out.mono ?_; rintro e w8 ⟨rfl, hw8⟩; rw [hw8]; clear hw8)
           first | refine hK.out _ _ ?k19 (fun hHeld => ?_) | (go_wp2_with fail; refine hK.out _ _ ?k19 (fun hHeld => ?_))
           case k19 => ((try dsimp only) <;> (first | with_reducible exact hS0 | with_reducible exact hS1))
           clear hK K
           (try simp only [ly0, ly1, ly2, ly3, ly4, ly5, ly6, ly7])
           refine tkY 10 ?_
           refine wpAnyH_done (by kernel_rfl) ?_ _
           clear hS0 hS1
           go_wp2
           go_roundw
           case rel => exact ⟨k + 1, by omega, by go_num, Below.next HB.out HB7.out⟩
           case measure => simp [intOf]; omega
         · have : k = N := by omega
           subst this
           have HBe := hide (HB6.out.trans (HB.out.mono HB6.out.size))
           have HDe := hide (HD6.out.below HB.out)
           have HCo := hide (fun W (hb : Below wr.heap.size wr W) => gCount22 (HDe.out.below hb))
           have HCu := hide (fun W (hb : Below wr.heap.size wr W) => gCut (HDe.out.below hb))
           rw [HE2.out] at HCo
           rw [HE3.out] at HCu
           clear HZ HF
           go_wp2_with (first
            | (go_at_call 10; refine (ga.out _).mono ?_; rintro e w9 ⟨rfl, hb9⟩; have HB9 := hide hb9; clear hb9)
            | (go_at_call 17; refine (HCo.out _ HB9.out).mono ?_; rintro e w10 ⟨rfl, hw10⟩; rw [hw10]; clear hw10)
            | (go_at_call 18; refine (HCu.out _ HB9.out).mono ?_; rintro e w10 ⟨rfl, hw10⟩; rw [hw10]; clear hw10))
           go_ret
           exact ⟨by first | (simp; done) | (simp; omega), HBe.out.trans (HB9.out.mono HBe.out.size)⟩
 · generalize hlen : zs.length = L at *
   have HM := hide (Nat.le_refl L)
   have HLen := hide hlen
   have HL := hide hL
   clear hlen hL
   go_enter Try.func5, Try.ntmps5
   go_wp2_with (first
    | (go_at_call 7; refine (HNew.out _).mono ?_; rintro e w1 ⟨rfl, hn1, hb1⟩; have HF1 := hide (HFu.out _ _ hn1); have HB1 := hide hb1; have HN1 := hide hn1; clear hn1 hb1)
    | (go_at_call 15; refine HF1.out.mono ?_; rintro e w2 ⟨rfl, hn2, hm2⟩; rw [cut_start (bks zs L) N] at hn2; have HB2 := hide (HB1.out.trans (HN1.out.mvb hm2 HB1.out.size)); have HN2 := hide hn2; clear hn2 hm2 HN1 HF1))
   clear HNew HFu
   go_loopw [6] (fun vi wr => ∃ (k : Nat) (u : Value), k <= L ∧ vi = .int .i64 k ∧ Hid (Hd wr w.heap.size w.heap.size u (cutD (bks zs L) N k)) ∧ Hid (Below w.heap.size w wr)) (fun vi _ => L - (intOf vi).toNat)
   case atStart => exact ⟨0, _, Nat.zero_le _, rfl, HN2, HB2⟩
   case round =>
    clear HN2 HB2
    obtain ⟨k, u, hk, rfl, HD, HB⟩ := hrel
    by_cases hlt : k < L
    · obtain ⟨b, off, cap', hv, _, _⟩ := HF.out (by have := HLen.out; have := HL.out; omega)
      have hv1 : ao = some ⟨b, off, none⟩ := by injection hv
      subst hv1
      clear hv
      obtain ⟨_, c0, y0, y1⟩ := (HZ.out wr HB.out).at_ (k := k) (by rw [HLen.out]; have := HL.out; omega)
      have hbk := HBk.out (zs.getD k 0) ⟨y0, y1⟩ wr
      have hst := cut_step (bs := bks zs L) (n := N) (k := k) (by rw [bks_len (by rw [HLen.out]; exact HM.out)]; exact hlt) (bks_32 zs L) (by have := HNN.out; omega)
      rw [List.getD_eq_getElem?_getD, bks_at (by rw [HLen.out]; exact HM.out) hlt] at hst
      obtain ⟨hs1, hs2⟩ := hst
      have hby : By (blkc (zs.getD k 0)) := blkc_by ⟨y0, y1⟩
      have HW := hide (fun W (hb : Below wr.heap.size wr W) x (hx : Rb W x (blkc (zs.getD k 0))) => gWrite22 (HD.out.below hb) (by have := HB.out.size; have := hb.size; omega) (by have := cut_n (bks zs L) N k; have := HNN.out; omega) hx)
      change wrE22 (cutD (bks zs L) N k) (blkc (zs.getD k 0)) = _ at hs1
      change wrN22 (cutD (bks zs L) N k) (blkc (zs.getD k 0)) = _ at hs2
      rw [hs1, hs2] at HW
      have HRb := hide (fun W lo x (ho : World.ownsRow W lo 5 1 x 32 (valb (blkc (zs.getD k 0)))) => rb_of_own ho hby (by rw [blkc_len]; decide))
      have HBW := hide hbk
      have HMv := hide (fun W (hb : Below wr.heap.size wr W) W3 v3 (m : Mv W W3 w.heap.size u v3) => show Below w.heap.size w W3 from (HB.out.trans (hb.mono HB.out.size)).trans ((HD.out.below hb).mvb m (by have := HB.out.size; have := hb.size; omega)))
      have k0 : (0 : Int) <= (k : Int) := by omega
      have k1 : (k : Int) < (L : Int) := by have := HL.out; omega
      have k2 : (k : Int) < 1000 := by have := HL.out; omega
      clear hs1 hs2 hby hbk y0 y1 HD HZ HF
      generalize zs.getD k 0 = y at *
      by_cases hkn : k < N
      · rw [if_pos hkn] at HW
        have kn : (k : Int) < (N : Int) := by omega
        go_wp2_with (first
         | (go_at_call 20; refine HBW.out.mono ?_; rintro e w4 ⟨v4, rfl, ho4, hb4⟩; obtain ⟨a4, k4, hv4, _⟩ := own_spellO ho4; subst hv4; have HW4 := hide (HW.out _ hb4 _ (HRb.out _ _ _ ho4)); have HB4 := hide hb4; clear ho4 hb4)
         | (go_at_call 13; refine HW4.out.mono ?_; rintro e w5 ⟨v5, rfl, hn5, hm5⟩; have HN5 := hide hn5; have HB5 := hide (HMv.out _ HB4.out _ _ hm5); clear hn5 hm5))
        go_roundw
        case rel => exact ⟨k + 1, v5, by omega, by go_num, HN5, HB5⟩
        case measure => simp [intOf]; omega
      · rw [if_neg hkn] at HW
        have kn : ¬ (k : Int) < (N : Int) := by omega
        go_wp2_with (first
         | (go_at_call 20; refine HBW.out.mono ?_; rintro e w4 ⟨v4, rfl, ho4, hb4⟩; obtain ⟨a4, k4, hv4, _⟩ := own_spellO ho4; subst hv4; have HW4 := hide (HW.out _ hb4 _ (HRb.out _ _ _ ho4)); have HB4 := hide hb4; clear ho4 hb4)
         | (go_at_call 13; refine HW4.out.mono ?_; rintro e w5 ⟨v5, rfl, hn5, hm5⟩; have HN5 := hide hn5; have HB5 := hide (HMv.out _ HB4.out _ _ hm5); clear hn5 hm5))
        go_roundw
        case rel => exact ⟨k + 1, v5, by omega, by go_num, HN5, HB5⟩
        case measure => simp [intOf]; omega
    · have hkm : k = L := by omega
      obtain ⟨e1, e2, e3⟩ := cut_facts (bks zs L) N L (bks_len (by rw [HLen.out]; exact HM.out))
      rw [hkm] at HD ⊢
      clear hlt hk hkm
      rcases (by omega : L < N ∨ N = L ∨ N < L) with hNm | hNm | hNm
      · have hNm' : ¬ N < L := by omega
        have hq : min N L = L := by omega
        rw [hq] at e1 e2
        rw [decide_eq_false hNm'] at e3
        have hR : (List.take L (bks zs L)).length = L := by rw [List.length_take, bks_len (by rw [HLen.out]; exact HM.out)]; omega
        have HAt := hide (fun i (hi : i < L) => show (List.take L (bks zs L))[i]? = some (blkc (zs.getD i 0)) from by rw [List.getElem?_take_of_lt hi]; exact bks_at (by rw [HLen.out]; exact HM.out) (by omega))
        have HQ := hide (show L <= L by omega)
        generalize cutD (bks zs L) N L = E at *
        generalize List.take L (bks zs L) = R at *
        have HBl := hide (gBlocks22 HD.out)
        rw [e1] at HBl
        have HE2 := hide e2
        have HE3 := hide e3
        have HR := hide hR
        have l1 : ¬ (1000 : Int) < (L : Int) := by have := HL.out; omega
        have l2 : (L : Int) < (N : Int) := by omega
        have l3 : ¬ (N : Int) < (L : Int) := by omega
        clear hNm hNm'
        clear hq hR e1 e2 e3
        go_wp2_with (go_at_call 12; refine HBl.out.mono ?_; rintro e w6 ⟨v6, r6, c6, rfl, hT6, hb6⟩; obtain ⟨a6, k6, hv6, _⟩ := own_spellO hT6.row; subst hv6; have HT6 := hide hT6.bl; have HD6 := hide (HD.out.below hb6); have HB6 := hide (HB.out.trans (hb6.mono HB.out.size)); rw [HR.out]; clear hT6 hb6)
        clear HBl HD HB
        go_loopw [9] (fun vi wr => ∃ (k : Nat), k <= L ∧ vi = .int .i64 k ∧ Hid (Below w6.heap.size w6 wr)) (fun vi _ => L - (intOf vi).toNat)
        case atStart => exact ⟨0, Nat.zero_le _, rfl, Below.refl _ _⟩
        case round =>
         obtain ⟨k, hk, rfl, HB⟩ := hrel
         by_cases hlt : k < L
         · obtain ⟨b, off, cap', hv, _, _⟩ := HF.out (by have := HLen.out; have := HL.out; have := HM.out; have := HQ.out; omega)
           have hv1 : ao = some ⟨b, off, none⟩ := by injection hv
           subst hv1
           clear hv
           have hbw := HB6.out.trans (HB.out.mono HB6.out.size)
           obtain ⟨hbz, c0, y0, y1⟩ := (HZ.out wr hbw).at_ (k := k) (by rw [HLen.out]; have := HL.out; have := HM.out; have := HQ.out; omega)
           obtain ⟨x1, x2, q1, _, q2⟩ := HT6.out.below HB.out
           obtain ⟨r, s, q3, hrl, d0, hrb⟩ := q2 k _ (HAt.out k hlt)
           have q4 : a6 = some ⟨r, 0, none⟩ := by injection q1 with q5; rw [q5, q3]
           subst q4
           clear q1 q2 q3
           obtain ⟨sa, ks, rfl, _⟩ := hrb.spell
           rw [blkc_len] at *
           have HBW := hide (HBk.out (zs.getD k 0) ⟨y0, y1⟩ wr.drew)
           have HBy := hide (blkc_by ⟨y0, y1⟩)
           have HRB := hide (fun W (hb : Below wr.heap.size wr W) => hrb.below hb)
           have k0 : (0 : Int) <= (k : Int) := by omega
           have k1 : (k : Int) < (L : Int) := by have := HL.out; have := HQ.out; have := HM.out; omega
           have k2 : (k : Int) < (L : Int) := by omega
           have HSt := hide (fun W (hb : Below wr.heap.size wr W) => show W.cell? ⟨b, off + k, none⟩ = some (.int .u8 (zs.getD k 0)) ∧ W.cell? ⟨r, k, none⟩ = some (.slice sa 32 ks) from ⟨(hb.cell (p := ⟨b, off + k, none⟩) hbz).trans c0, (hb.cell (p := ⟨r, k, none⟩) hrl).trans d0⟩)
           have hS0 := HSt.out _ (Below.refl _ wr).drew
           clear hbw hbz c0 y0 y1 hrl d0 hrb HZ HF
           generalize zs.getD k 0 = y at *
           go_upto_region 16 with fail
           refine wp_region_held_drew (S := (fun V => V.cell? ⟨b, off + k, none⟩ = some (.int .u8 y) ∧ V.cell? ⟨r, k, none⟩ = some (.slice sa 32 ks))) (by kernel_rfl) (by ((try dsimp only) <;> (first | with_reducible exact hS0 | with_reducible exact hS1))) (fun hHeld => ?_)
           refine tkY 0 ?_
           refine tkY 1 ?_
           refine tkY 2 ?_
           refine tkY 3 ?_
           refine tkY 4 ?_
           refine tkY 5 ?_
           refine tkY 6 ?_
           refine tkY 7 ?_
           refine rd1 8 (fun K hK => ?_)
           (try simp only [ly0, ly1, ly2, ly3, ly4, ly5, ly6, ly7])
           go_simp
           (go_at_call 20; refine HBW.out.mono ?_; rintro e w7 ⟨v7, rfl, ho7, hb7⟩; obtain ⟨a7, k7, hv7, _⟩ := own_spellO ho7; subst hv7; have hB7 := Below.trans (Below.refl wr.heap.size wr).drew hb7; have hS1 := HSt.out _ hB7; have HB7 := hide hB7; have HS7 := hide (HSm.out _ _ _ _ (HRB.out _ hB7) (rb_of_own ho7 HBy.out (by rw [blkc_len]; decide))); clear ho7 hb7 hB7)
           first | refine hK.out _ _ ?k20 (fun hHeld => ?_) | (go_wp2_with fail; refine hK.out _ _ ?k20 (fun hHeld => ?_))
           case k20 => ((try dsimp only) <;> (first | with_reducible exact hS0 | with_reducible exact hS1))
           clear hK K
           (try simp only [ly0, ly1, ly2, ly3, ly4, ly5, ly6, ly7])
           refine rd1 9 (fun K hK => ?_)
           (try simp only [ly0, ly1, ly2, ly3, ly4, ly5, ly6, ly7])
           go_simp
           (go_at_call 21; refine HS7.out.mono ?_; rintro e w8 ⟨rfl, hw8⟩; rw [hw8]; clear hw8)
           first | refine hK.out _ _ ?k21 (fun hHeld => ?_) | (go_wp2_with fail; refine hK.out _ _ ?k21 (fun hHeld => ?_))
           case k21 => ((try dsimp only) <;> (first | with_reducible exact hS0 | with_reducible exact hS1))
           clear hK K
           (try simp only [ly0, ly1, ly2, ly3, ly4, ly5, ly6, ly7])
           refine tkY 10 ?_
           refine wpAnyH_done (by kernel_rfl) ?_ _
           clear hS0 hS1
           go_wp2
           go_roundw
           case rel => exact ⟨k + 1, by omega, by go_num, Below.next HB.out HB7.out⟩
           case measure => simp [intOf]; omega
         · have : k = L := by omega
           subst this
           have HBe := hide (HB6.out.trans (HB.out.mono HB6.out.size))
           have HDe := hide (HD6.out.below HB.out)
           have HCo := hide (fun W (hb : Below wr.heap.size wr W) => gCount22 (HDe.out.below hb))
           have HCu := hide (fun W (hb : Below wr.heap.size wr W) => gCut (HDe.out.below hb))
           rw [HE2.out] at HCo
           rw [HE3.out] at HCu
           clear HZ HF
           go_wp2_with (first
            | (go_at_call 10; refine (ga.out _).mono ?_; rintro e w9 ⟨rfl, hb9⟩; have HB9 := hide hb9; clear hb9)
            | (go_at_call 17; refine (HCo.out _ HB9.out).mono ?_; rintro e w10 ⟨rfl, hw10⟩; rw [hw10]; clear hw10)
            | (go_at_call 18; refine (HCu.out _ HB9.out).mono ?_; rintro e w10 ⟨rfl, hw10⟩; rw [hw10]; clear hw10))
           go_ret
           exact ⟨by first | (simp; done) | (simp; omega), HBe.out.trans (HB9.out.mono HBe.out.size)⟩
      · obtain rfl : L = N := hNm.symm
        have hq : min L L = L := by omega
        rw [hq] at e1 e2
        rw [decide_eq_false (Nat.lt_irrefl _)] at e3
        have hR : (List.take L (bks zs L)).length = L := by rw [List.length_take, bks_len (by rw [HLen.out]; exact HM.out)]; omega
        have HAt := hide (fun i (hi : i < L) => show (List.take L (bks zs L))[i]? = some (blkc (zs.getD i 0)) from by rw [List.getElem?_take_of_lt hi]; exact bks_at (by rw [HLen.out]; exact HM.out) (by omega))
        have HQ := hide (show L <= L by omega)
        generalize cutD (bks zs L) L L = E at *
        generalize List.take L (bks zs L) = R at *
        have HBl := hide (gBlocks22 HD.out)
        rw [e1] at HBl
        have HE2 := hide e2
        have HE3 := hide e3
        have HR := hide hR
        have l1 : ¬ (1000 : Int) < (L : Int) := by have := HL.out; omega
        have l2 : ¬ (L : Int) < (L : Int) := by omega
        clear hq hR e1 e2 e3
        go_wp2_with (go_at_call 12; refine HBl.out.mono ?_; rintro e w6 ⟨v6, r6, c6, rfl, hT6, hb6⟩; obtain ⟨a6, k6, hv6, _⟩ := own_spellO hT6.row; subst hv6; have HT6 := hide hT6.bl; have HD6 := hide (HD.out.below hb6); have HB6 := hide (HB.out.trans (hb6.mono HB.out.size)); rw [HR.out]; clear hT6 hb6)
        clear HBl HD HB
        go_loopw [9] (fun vi wr => ∃ (k : Nat), k <= L ∧ vi = .int .i64 k ∧ Hid (Below w6.heap.size w6 wr)) (fun vi _ => L - (intOf vi).toNat)
        case atStart => exact ⟨0, Nat.zero_le _, rfl, Below.refl _ _⟩
        case round =>
         obtain ⟨k, hk, rfl, HB⟩ := hrel
         by_cases hlt : k < L
         · obtain ⟨b, off, cap', hv, _, _⟩ := HF.out (by have := HLen.out; have := HL.out; have := HM.out; have := HQ.out; omega)
           have hv1 : ao = some ⟨b, off, none⟩ := by injection hv
           subst hv1
           clear hv
           have hbw := HB6.out.trans (HB.out.mono HB6.out.size)
           obtain ⟨hbz, c0, y0, y1⟩ := (HZ.out wr hbw).at_ (k := k) (by rw [HLen.out]; have := HL.out; have := HM.out; have := HQ.out; omega)
           obtain ⟨x1, x2, q1, _, q2⟩ := HT6.out.below HB.out
           obtain ⟨r, s, q3, hrl, d0, hrb⟩ := q2 k _ (HAt.out k hlt)
           have q4 : a6 = some ⟨r, 0, none⟩ := by injection q1 with q5; rw [q5, q3]
           subst q4
           clear q1 q2 q3
           obtain ⟨sa, ks, rfl, _⟩ := hrb.spell
           rw [blkc_len] at *
           have HBW := hide (HBk.out (zs.getD k 0) ⟨y0, y1⟩ wr.drew)
           have HBy := hide (blkc_by ⟨y0, y1⟩)
           have HRB := hide (fun W (hb : Below wr.heap.size wr W) => hrb.below hb)
           have k0 : (0 : Int) <= (k : Int) := by omega
           have k1 : (k : Int) < (L : Int) := by have := HL.out; have := HQ.out; have := HM.out; omega
           have k2 : (k : Int) < (L : Int) := by omega
           have HSt := hide (fun W (hb : Below wr.heap.size wr W) => show W.cell? ⟨b, off + k, none⟩ = some (.int .u8 (zs.getD k 0)) ∧ W.cell? ⟨r, k, none⟩ = some (.slice sa 32 ks) from ⟨(hb.cell (p := ⟨b, off + k, none⟩) hbz).trans c0, (hb.cell (p := ⟨r, k, none⟩) hrl).trans d0⟩)
           have hS0 := HSt.out _ (Below.refl _ wr).drew
           clear hbw hbz c0 y0 y1 hrl d0 hrb HZ HF
           generalize zs.getD k 0 = y at *
           go_upto_region 16 with fail
           refine wp_region_held_drew (S := (fun V => V.cell? ⟨b, off + k, none⟩ = some (.int .u8 y) ∧ V.cell? ⟨r, k, none⟩ = some (.slice sa 32 ks))) (by kernel_rfl) (by ((try dsimp only) <;> (first | with_reducible exact hS0 | with_reducible exact hS1))) (fun hHeld => ?_)
           refine tkY 0 ?_
           refine tkY 1 ?_
           refine tkY 2 ?_
           refine tkY 3 ?_
           refine tkY 4 ?_
           refine tkY 5 ?_
           refine tkY 6 ?_
           refine tkY 7 ?_
           refine rd1 8 (fun K hK => ?_)
           (try simp only [ly0, ly1, ly2, ly3, ly4, ly5, ly6, ly7])
           go_simp
           (go_at_call 20; refine HBW.out.mono ?_; rintro e w7 ⟨v7, rfl, ho7, hb7⟩; obtain ⟨a7, k7, hv7, _⟩ := own_spellO ho7; subst hv7; have hB7 := Below.trans (Below.refl wr.heap.size wr).drew hb7; have hS1 := HSt.out _ hB7; have HB7 := hide hB7; have HS7 := hide (HSm.out _ _ _ _ (HRB.out _ hB7) (rb_of_own ho7 HBy.out (by rw [blkc_len]; decide))); clear ho7 hb7 hB7)
           first | refine hK.out _ _ ?k22 (fun hHeld => ?_) | (go_wp2_with fail; refine hK.out _ _ ?k22 (fun hHeld => ?_))
           case k22 => ((try dsimp only) <;> (first | with_reducible exact hS0 | with_reducible exact hS1))
           clear hK K
           (try simp only [ly0, ly1, ly2, ly3, ly4, ly5, ly6, ly7])
           refine rd1 9 (fun K hK => ?_)
           (try simp only [ly0, ly1, ly2, ly3, ly4, ly5, ly6, ly7])
           go_simp
           (go_at_call 21; refine HS7.out.mono ?_; rintro e w8 ⟨rfl, hw8⟩; rw [hw8]; clear hw8)
           first | refine hK.out _ _ ?k23 (fun hHeld => ?_) | (go_wp2_with fail; refine hK.out _ _ ?k23 (fun hHeld => ?_))
           case k23 => ((try dsimp only) <;> (first | with_reducible exact hS0 | with_reducible exact hS1))
           clear hK K
           (try simp only [ly0, ly1, ly2, ly3, ly4, ly5, ly6, ly7])
           refine tkY 10 ?_
           refine wpAnyH_done (by kernel_rfl) ?_ _
           clear hS0 hS1
           go_wp2
           go_roundw
           case rel => exact ⟨k + 1, by omega, by go_num, Below.next HB.out HB7.out⟩
           case measure => simp [intOf]; omega
         · have : k = L := by omega
           subst this
           have HBe := hide (HB6.out.trans (HB.out.mono HB6.out.size))
           have HDe := hide (HD6.out.below HB.out)
           have HCo := hide (fun W (hb : Below wr.heap.size wr W) => gCount22 (HDe.out.below hb))
           have HCu := hide (fun W (hb : Below wr.heap.size wr W) => gCut (HDe.out.below hb))
           rw [HE2.out] at HCo
           rw [HE3.out] at HCu
           clear HZ HF
           go_wp2_with (first
            | (go_at_call 10; refine (ga.out _).mono ?_; rintro e w9 ⟨rfl, hb9⟩; have HB9 := hide hb9; clear hb9)
            | (go_at_call 17; refine (HCo.out _ HB9.out).mono ?_; rintro e w10 ⟨rfl, hw10⟩; rw [hw10]; clear hw10)
            | (go_at_call 18; refine (HCu.out _ HB9.out).mono ?_; rintro e w10 ⟨rfl, hw10⟩; rw [hw10]; clear hw10))
           go_ret
           exact ⟨by first | (simp; done) | (simp; omega), HBe.out.trans (HB9.out.mono HBe.out.size)⟩
      · skip
        have hq : min N L = N := by omega
        rw [hq] at e1 e2
        rw [decide_eq_true hNm] at e3
        have hR : (List.take N (bks zs L)).length = N := by rw [List.length_take, bks_len (by rw [HLen.out]; exact HM.out)]; omega
        have HAt := hide (fun i (hi : i < N) => show (List.take N (bks zs L))[i]? = some (blkc (zs.getD i 0)) from by rw [List.getElem?_take_of_lt hi]; exact bks_at (by rw [HLen.out]; exact HM.out) (by omega))
        have HQ := hide (show N <= L by omega)
        generalize cutD (bks zs L) N L = E at *
        generalize List.take N (bks zs L) = R at *
        have HBl := hide (gBlocks22 HD.out)
        rw [e1] at HBl
        have HE2 := hide e2
        have HE3 := hide e3
        have HR := hide hR
        have l1 : ¬ (1000 : Int) < (L : Int) := by have := HL.out; omega
        have l2 : ¬ (L : Int) < (N : Int) := by omega
        have l3 : (N : Int) < (L : Int) := by omega
        clear hNm
        clear hq hR e1 e2 e3
        go_wp2_with (go_at_call 12; refine HBl.out.mono ?_; rintro e w6 ⟨v6, r6, c6, rfl, hT6, hb6⟩; obtain ⟨a6, k6, hv6, _⟩ := own_spellO hT6.row; subst hv6; have HT6 := hide hT6.bl; have HD6 := hide (HD.out.below hb6); have HB6 := hide (HB.out.trans (hb6.mono HB.out.size)); rw [HR.out]; clear hT6 hb6)
        clear HBl HD HB
        go_loopw [9] (fun vi wr => ∃ (k : Nat), k <= N ∧ vi = .int .i64 k ∧ Hid (Below w6.heap.size w6 wr)) (fun vi _ => N - (intOf vi).toNat)
        case atStart => exact ⟨0, Nat.zero_le _, rfl, Below.refl _ _⟩
        case round =>
         obtain ⟨k, hk, rfl, HB⟩ := hrel
         by_cases hlt : k < N
         · obtain ⟨b, off, cap', hv, _, _⟩ := HF.out (by have := HLen.out; have := HL.out; have := HM.out; have := HQ.out; omega)
           have hv1 : ao = some ⟨b, off, none⟩ := by injection hv
           subst hv1
           clear hv
           have hbw := HB6.out.trans (HB.out.mono HB6.out.size)
           obtain ⟨hbz, c0, y0, y1⟩ := (HZ.out wr hbw).at_ (k := k) (by rw [HLen.out]; have := HL.out; have := HM.out; have := HQ.out; omega)
           obtain ⟨x1, x2, q1, _, q2⟩ := HT6.out.below HB.out
           obtain ⟨r, s, q3, hrl, d0, hrb⟩ := q2 k _ (HAt.out k hlt)
           have q4 : a6 = some ⟨r, 0, none⟩ := by injection q1 with q5; rw [q5, q3]
           subst q4
           clear q1 q2 q3
           obtain ⟨sa, ks, rfl, _⟩ := hrb.spell
           rw [blkc_len] at *
           have HBW := hide (HBk.out (zs.getD k 0) ⟨y0, y1⟩ wr.drew)
           have HBy := hide (blkc_by ⟨y0, y1⟩)
           have HRB := hide (fun W (hb : Below wr.heap.size wr W) => hrb.below hb)
           have k0 : (0 : Int) <= (k : Int) := by omega
           have k1 : (k : Int) < (L : Int) := by have := HL.out; have := HQ.out; have := HM.out; omega
           have k2 : (k : Int) < (N : Int) := by omega
           have HSt := hide (fun W (hb : Below wr.heap.size wr W) => show W.cell? ⟨b, off + k, none⟩ = some (.int .u8 (zs.getD k 0)) ∧ W.cell? ⟨r, k, none⟩ = some (.slice sa 32 ks) from ⟨(hb.cell (p := ⟨b, off + k, none⟩) hbz).trans c0, (hb.cell (p := ⟨r, k, none⟩) hrl).trans d0⟩)
           have hS0 := HSt.out _ (Below.refl _ wr).drew
           clear hbw hbz c0 y0 y1 hrl d0 hrb HZ HF
           generalize zs.getD k 0 = y at *
           go_upto_region 16 with fail
           refine wp_region_held_drew (S := (fun V => V.cell? ⟨b, off + k, none⟩ = some (.int .u8 y) ∧ V.cell? ⟨r, k, none⟩ = some (.slice sa 32 ks))) (by kernel_rfl) (by ((try dsimp only) <;> (first | with_reducible exact hS0 | with_reducible exact hS1))) (fun hHeld => ?_)
           refine tkY 0 ?_
           refine tkY 1 ?_
           refine tkY 2 ?_
           refine tkY 3 ?_
           refine tkY 4 ?_
           refine tkY 5 ?_
           refine tkY 6 ?_
           refine tkY 7 ?_
           refine rd1 8 (fun K hK => ?_)
           (try simp only [ly0, ly1, ly2, ly3, ly4, ly5, ly6, ly7])
           go_simp
           (go_at_call 20; refine HBW.out.mono ?_; rintro e w7 ⟨v7, rfl, ho7, hb7⟩; obtain ⟨a7, k7, hv7, _⟩ := own_spellO ho7; subst hv7; have hB7 := Below.trans (Below.refl wr.heap.size wr).drew hb7; have hS1 := HSt.out _ hB7; have HB7 := hide hB7; have HS7 := hide (HSm.out _ _ _ _ (HRB.out _ hB7) (rb_of_own ho7 HBy.out (by rw [blkc_len]; decide))); clear ho7 hb7 hB7)
           first | refine hK.out _ _ ?k24 (fun hHeld => ?_) | (go_wp2_with fail; refine hK.out _ _ ?k24 (fun hHeld => ?_))
           case k24 => ((try dsimp only) <;> (first | with_reducible exact hS0 | with_reducible exact hS1))
           clear hK K
           (try simp only [ly0, ly1, ly2, ly3, ly4, ly5, ly6, ly7])
           refine rd1 9 (fun K hK => ?_)
           (try simp only [ly0, ly1, ly2, ly3, ly4, ly5, ly6, ly7])
           go_simp
           (go_at_call 21; refine HS7.out.mono ?_; rintro e w8 ⟨rfl, hw8⟩; rw [hw8]; clear hw8)
           first | refine hK.out _ _ ?k25 (fun hHeld => ?_) | (go_wp2_with fail; refine hK.out _ _ ?k25 (fun hHeld => ?_))
           case k25 => ((try dsimp only) <;> (first | with_reducible exact hS0 | with_reducible exact hS1))
           clear hK K
           (try simp only [ly0, ly1, ly2, ly3, ly4, ly5, ly6, ly7])
           refine tkY 10 ?_
           refine wpAnyH_done (by kernel_rfl) ?_ _
           clear hS0 hS1
           go_wp2
           go_roundw
           case rel => exact ⟨k + 1, by omega, by go_num, Below.next HB.out HB7.out⟩
           case measure => simp [intOf]; omega
         · have : k = N := by omega
           subst this
           have HBe := hide (HB6.out.trans (HB.out.mono HB6.out.size))
           have HDe := hide (HD6.out.below HB.out)
           have HCo := hide (fun W (hb : Below wr.heap.size wr W) => gCount22 (HDe.out.below hb))
           have HCu := hide (fun W (hb : Below wr.heap.size wr W) => gCut (HDe.out.below hb))
           rw [HE2.out] at HCo
           rw [HE3.out] at HCu
           clear HZ HF
           go_wp2_with (first
            | (go_at_call 10; refine (ga.out _).mono ?_; rintro e w9 ⟨rfl, hb9⟩; have HB9 := hide hb9; clear hb9)
            | (go_at_call 17; refine (HCo.out _ HB9.out).mono ?_; rintro e w10 ⟨rfl, hw10⟩; rw [hw10]; clear hw10)
            | (go_at_call 18; refine (HCu.out _ HB9.out).mono ?_; rintro e w10 ⟨rfl, hw10⟩; rw [hw10]; clear hw10))
           go_ret
           exact ⟨by first | (simp; done) | (simp; omega), HBe.out.trans (HB9.out.mono HBe.out.size)⟩
end Go.Proofs.Yteipgnkhbcogoaa
