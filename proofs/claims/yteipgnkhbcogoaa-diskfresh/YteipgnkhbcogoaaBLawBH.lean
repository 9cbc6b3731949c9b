import Derived.Test.YteipgnkhbcogoaaBLawBG
set_option linter.unusedVariables false
set_option linter.unusedSimpArgs false
set_option maxRecDepth 100000
set_option maxHeartbeats 4000000
namespace Go.Proofs.Yteipgnkhbcogoaa
open Go.RowKit Fld
theorem diskFresh_any (v : Value) (ss : List Sq2) (w : World) (h : Scr2 w v ss) : Calls Try.prog 6 #[v] w fun e w' => e = .returned (.bool true) ∧ Below w.heap.size w w' := by
 obtain ⟨ao, cap, rfl, hcap⟩ := h.lm.spell
 have hlen := h.len
 have HS := hide h
 have ga := hide (fun W => anch22 W)
 clear h
 have HN := hide (fun W => gNew22 W)
 have HD := hide (fun W => dNew22 W)
 have HBk := hide (fun W => dBlock 7 (by decide) W)
 have HSm := hide (fun (p : List Int) x y W (r1 : Rb W x p) (r2 : Rb W y p) => rSame8 x y p p W r1 r2)
 simp only [decide_true] at HSm
 go_enter Try.func6, Try.ntmps6
 go_wp2_with (first
  | (go_at_call 7; refine (HN.out _).mono ?_; rintro e w1 ⟨rfl, hn1, hb1⟩; have HN1 := hide hn1; clear hn1)
  | (go_at_call 8; refine (HD.out _).mono ?_; rintro e w2 ⟨rfl, hb2⟩; have HT := hide (two_newD HN1.out hb1 hb2); clear HN1 hb1 hb2))
 obtain ⟨gt, hgt⟩ : ∃ gt, w2.heap.size = gt := ⟨_, rfl⟩
 rw [hgt] at HT ⊢
 clear hgt HN HD
 generalize w2.alloc (.cells #[.slice none 0 0, .int .i64 (-1), .bool false, .int .i64 0] 27) = w3 at *
 go_loopw [5] (fun vi wr => ∃ (k : Nat) (E : Dsk), k <= ss.length ∧ vi = .int .i64 k ∧ E.n <= k ∧ Hid (TwoD w wr w.heap.size w.heap.size gt E)) (fun vi _ => ss.length - (intOf vi).toNat)
 case atStart => exact ⟨0, _, Nat.zero_le _, rfl, Nat.zero_le _, HT⟩
 case round =>
  clear HT
  obtain ⟨k, E, hk, rfl, hEn, HE⟩ := hrel
  by_cases hlt : k < ss.length
  · obtain ⟨b, off, cap', hv, _, _⟩ := HS.out.lm.form (by omega)
    injection hv with hv1 hv2 hv3
    subst hv1 hv3
    have HG := hide (same22_any HE.out.self (by omega) (HS.out.ok _ (List.getElem_mem hlt)))
    obtain ⟨c0, c1, c2, c3⟩ := HS.out.sq HE.out.low hlt
    have HE2 := hide (fun V M (h : TwoD wr V w.heap.size w.heap.size gt M) => HE.out.from_ h)
    have hM1 := stp2_n E ss[k]
    have ii0 : (0 : Int) <= (k : Int) := by omega
    have ii1 : (k : Int) < (ss.length : Int) := by omega
    generalize hs : ss[k] = s at *
    generalize stp2 E s = E' at *
    clear HS HE
    go_wp2_with (go_at_call 9; refine HG.out.mono ?_; rintro e w4 ⟨rfl, ht4⟩; have HT4 := hide (HE2.out _ _ ht4); clear ht4)
    go_roundw
    case rel => exact ⟨k + 1, E', by omega, by go_num, by omega, HT4⟩
    case measure => simp [intOf]; omega
  · obtain rfl : k = ss.length := by omega
    clear HS
    have HT := hide (fun W (hb : Below wr.heap.size wr W) => HE.out.below hb)
    obtain ⟨u, es, hd⟩ := HE.out.d
    obtain ⟨v, hp⟩ := HE.out.p
    have hlen2 := hp.o.ok.len
    have HEn : Hid (E.n < 4611686018427387904) := by show _ < _; omega
    have HCp := hide (gCopy22 hp)
    have HP := hide (fun W (hb : Below wr.heap.size wr W) => hp.below hb)
    have HDr := hide (fun W (hb : Below wr.heap.size wr W) => hd.below hb)
    have HC := hide (fun W (hb : Below wr.heap.size wr W) => (hd.below hb).cells.1)
    have HS2 := hide (fun W x y (h1 : Bl W x E.l) (h2 : Bl W y E.l) => dSame22 x y E.l W h1 h2 (by omega))
    obtain ⟨au, cu, rfl, _⟩ := hd.spell
    obtain ⟨n, hn⟩ : ∃ n, E.l.length = n := ⟨_, rfl⟩
    rw [hn] at HC HDr hlen2
    have HLn := hide hn
    clear hd hp hn hlt hk hEn
    by_cases hfull : n < 65536
    · have q : (decide ((65536 : Int) <= (n : Int))) = false := decide_eq_false (by omega)
      obtain ⟨e1, e2⟩ := md_wr (E := E) (by have := HLn.out; omega)
      have HWr := hide (fun W base g v (h : Hd W base g v (mdN E)) (hb : base <= W.heap.size) x (hx : Rb W x (blkc 7)) => gWrite22 h hb HEn.out hx)
      rw [e1] at HWr
      have HEl := hide e2
      generalize wrN22 (mdN E) (blkc 7) = F at *
      have HRb := hide (fun W lo x (ho : World.ownsRow W lo 5 1 x 32 (valb (blkc 7))) => rb_of_own ho (blkc_by (by decide)) (by rw [blkc_len]; decide))
      clear e1 e2
      go_wp2_with (first
       | (go_at_call 19; refine HCp.out.mono ?_; rintro e w4 ⟨g2, v4, rfl, hc4, hb4⟩; have HC4 := hide hc4; have HB4 := hide hb4; have x0 := HC.out _ hb4; clear hc4 hb4)
       | (go_at_call 20; refine (HBk.out _).mono ?_; rintro e w5 ⟨v5, rfl, ho5, hb5⟩; obtain ⟨a5, k5, hv5, _⟩ := own_spellO ho5; subst hv5; have HC5 := hide (HC4.out.below hb5); have HB5 := hide (Below.next HB4.out hb5); have HO5 := hide (own_mono ho5 (HB4.out.size)); have HM5 := hide (gMend HC5.out); clear ho5 hb5)
       | (go_at_call 16; refine HM5.out.mono ?_; rintro e w6 ⟨rfl, hc6, hm6⟩; have HB6 := hide (HB5.out.trans (HC5.out.mvb hm6 HB5.out.size)); have HO6 := hide (own8_mvH HO5.out HC5.out hm6); have HC6 := hide hc6; have HW6 := hide (HWr.out _ _ _ _ hc6 HB6.out.size _ (HRb.out _ _ _ HO6.out)); clear hc6 hm6)
       | (go_at_call 13; refine HW6.out.mono ?_; rintro e w7 ⟨v7, rfl, hc7, hm7⟩; have HB7 := hide (HB6.out.trans (HC6.out.mvb hm7 HB6.out.size)); have HO7 := hide (own8_mvH HO6.out HC6.out hm7); have HC7 := hide hc7; have HSp7 := hide (Spoil8 _ 32 _ (blkc 7) 9 w7 (by decide) (by decide) HO7.out (by decide) HB7.out.size); clear hc7 hm7)
       | (go_at_call 22; refine HSp7.out.mono ?_; rintro e w8 ⟨rfl, hg8⟩; have HC8 := hide (HC7.out.grown8 HO7.out hg8); have HB8 := hide (HB7.out.grown hg8 HB7.out.size (fun j hj => by have := (HO7.out.lt j hj).1; omega)); have HL8 := hide (gBlocks22 (HP.out _ HB8.out)); clear hg8)
       | (go_at_call 12; refine HL8.out.mono ?_; rintro e w9 ⟨v9, r9, c9, rfl, ht9, hb9⟩; have hw9 := ht9.wip; obtain ⟨a9, k9, hv9, hsp9⟩ := own_spellO ht9.row; subst hv9; rw [HLn.out] at hw9 hsp9 ⊢; have HW9 := hide hw9; have HP9 := hide hsp9.2; have HB9 := hide hb9; clear ht9 hb9 hw9 hsp9))
      have HT8 := hide (HT.out _ HB8.out)
      have HDr8 := hide (HDr.out _ HB8.out)
      have HP8 := hide (HP.out _ HB8.out)
      have HC0 := hide (HC.out _ HB8.out)
      clear HCp HP HDr HC HWr HRb HT HC4 HB4 HC5 HB5 HO5 HM5 HB6 HO6 HC6 HW6 HB7 HO7 HC7 HSp7 HL8 q x0
      have HDb := hide HT8.out.low
      have HDz := hide HT8.out.sz
      have HB8z := hide HB8.out.size
      clear HB8
      go_loopw [10] (fun vi wr => ∃ (k : Nat), k <= n ∧ vi = .int .i64 k ∧ Hid (Wip wr w8.heap.size r9 n (.slice a9 n k9)) ∧ Hid (Below w8.heap.size w8 wr)) (fun vi _ => n - (intOf vi).toNat)
      case atStart => exact ⟨0, Nat.zero_le _, rfl, HW9, HB9⟩
      case round =>
       clear HW9 HB9
       obtain ⟨k, hk, rfl, HW, HB⟩ := hrel
       by_cases hlt : k < n
       · obtain ⟨rl, rfl, _, _⟩ := HP9.out (by omega)
         obtain ⟨hy, hlo, hne⟩ := HW.out.yr (by omega)
         have c0 := own_atO HW.out.row (tbl_get r9 hlt)
         have HSp := hide (fun (m : Int) (m0 : 0 <= m) (m1 : m <= 255) => SpoilT (o := k * 32) (n := 32) m m0 m1 hy (by omega) (by decide))
         have HLo := hide hlo
         have k0 : (0 : Int) <= (k : Int) := by omega
         have k1 : (k : Int) < (n : Int) := by omega
         clear hy hne hlo
         go_wp2_with (go_at_call 22; refine (HSp.out _ (by omega) (by omega)).mono ?_; rintro e w10 ⟨rfl, hg10, hy10⟩; have HW10 := hide (HW.out.step (by omega) hg10 hy10); have HB10 := hide (HB.out.grown hg10 HB.out.size (fun j hj => by injection hj with hj; have := HLo.out; omega)); clear hg10 hy10)
         go_roundw
         case rel => exact ⟨k + 1, by omega, by go_num, HW10, HB10⟩
         case measure => simp [intOf]; omega
       · obtain rfl : k = n := by omega
         clear HW HP9
         have HL10 := hide (gBlocks22 (HC8.out.below HB.out))
         rw [HEl.out] at HL10
         obtain ⟨P, hP⟩ : ∃ P, P = k + 1 := ⟨_, rfl⟩
         have hl1 : (E.l ++ [blkc 7]).length = P := by rw [List.length_append, HLn.out, hP]; rfl
         have HPk := hide hP
         have HL1 := hide hl1
         have hx7 : (E.l ++ [blkc 7])[k]? = some (blkc 7) := by rw [List.getElem?_append_right (by rw [HLn.out]; exact Nat.le_refl _), HLn.out, Nat.sub_self]; rfl
         have HX7 := hide hx7
         have f1 : IntKind.i64.wrap ((k : Int) + 1) = (P : Int) := by rw [IntKind.wrap_i64]; omega
         have f2 : wrap64 ((k : Int) + 1) = (P : Int) := by simp only [wrap64]; omega
         have f3 : IntKind.i64.wrap ((P : Int) - 1) = (k : Int) := by rw [IntKind.wrap_i64]; omega
         have f4 : wrap64 ((P : Int) - 1) = (k : Int) := by simp only [wrap64]; omega
         clear hl1 hx7 HC8 hP
         go_upto_region 22 with (go_at_call 12; refine HL10.out.mono ?_; rintro e w11 ⟨v11, r11, c11, rfl, ht11, hb11⟩; have hr11 := ht11.row; have hk11 := ht11.blk (by rw [HL1.out, HPk.out]; exact Nat.succ_pos _); rw [HL1.out] at hr11 hk11; obtain ⟨a11, k11, hv11, _, hsp11⟩ := own_spellO hr11; obtain ⟨rl11, ha11, _, hrl11⟩ := hsp11 (by rw [HPk.out]; exact Nat.succ_pos _); subst ha11; subst hv11; have hq11 := row_rb hk11 HX7.out (blkc_len 7) (blkc_by (by decide)); have hcl11 := own_atO hr11 (tbl_get r11 (show k < P by rw [HPk.out]; exact Nat.lt_succ_self k)); have HR11 := hide (hq11.2); have HCl11 := hide (And.intro hrl11 hcl11); have HB11 := hide (Below.next HB.out hb11); clear ht11 hr11 hk11 hsp11 hrl11 hq11 hcl11 hb11)
         have HB8 := HB11.out
         have hbd : Below w11.heap.size w11 w11.drew := (Below.refl _ w11).drew
         have HSt := hide (fun W (hb : Below w11.heap.size w11 W) => show W.cell? ⟨gt, 0, none⟩ = some (.slice au k cu) ∧ W.cell? ⟨rl11, k, none⟩ = some (.slice (some ⟨r11, k * 32, none⟩) 32 32) from ⟨((HB8.trans (hb.mono HB8.size)).cell (p := ⟨gt, 0, none⟩) HDr8.out.lt).trans HC0.out, (hb.cell (p := ⟨rl11, k, none⟩) HCl11.out.1).trans HCl11.out.2⟩)
         have HRw := hide (fun W (hb : Below w11.heap.size w11 W) => HR11.out.below hb)
         have HDw := hide (fun W (hb : Below w11.heap.size w11 W) => HDr8.out.below (HB8.trans (hb.mono HB8.size)))
         have HPw := hide (fun W (hb : Below w11.heap.size w11 W) => gBlocks22 (HP8.out.below (HB8.trans (hb.mono HB8.size))))
         have HLow := hide (fun W (hb : Below w11.heap.size w11 W) => HDb.out.trans ((HB8.trans (hb.mono HB8.size)).mono HDz.out))
         have hS0 := HSt.out _ hbd
         have k0 : (0 : Int) <= (k : Int) := by omega
         have k1 : (k : Int) < (P : Int) := by have := HPk.out; omega
         clear HB8 HB11 HR11 HCl11 HDr8 HP8 HDb HDz HB8z HC0 HX7 HL10 HB HT8 HE
         refine wp_region_held_drew (S := (fun V => V.cell? ⟨gt, 0, none⟩ = some (.slice au k cu) ∧ V.cell? ⟨rl11, k, none⟩ = some (.slice (some ⟨r11, k * 32, none⟩) 32 32))) (by kernel_rfl) (by ((try dsimp only) <;> (first | with_reducible exact hS0 | with_reducible exact hS1 | with_reducible exact hS2 | with_reducible exact hS3 | with_reducible exact hS4))) (fun hHeld => ?_)
         refine rd1 0 (fun K hK => ?_)
         (try simp only [ly0, ly1, ly2, ly3, ly4, ly5, ly6, ly7])
         go_simp
         (go_at_call 10; refine (ga.out _).mono ?_; rintro e w12 ⟨rfl, hb12⟩; have hB12 := Below.next hbd hb12; have hS1 := HSt.out _ hB12; have HB12 := hide hB12; clear hb12 hB12)
         first | refine hK.out _ _ ?k26 (fun hHeld => ?_) | (go_wp2_with fail; refine hK.out _ _ ?k26 (fun hHeld => ?_))
         case k26 => ((try dsimp only) <;> (first | with_reducible exact hS0 | with_reducible exact hS1 | with_reducible exact hS2 | with_reducible exact hS3 | with_reducible exact hS4))
         clear hK K
         (try simp only [ly0, ly1, ly2, ly3, ly4, ly5, ly6, ly7])
         refine tkY 1 ?_
         refine tkY 2 ?_
         refine tkY 4 ?_
         refine tkY 5 ?_
         refine rd1 3 (fun K hK => ?_)
         (try simp only [ly0, ly1, ly2, ly3, ly4, ly5, ly6, ly7])
         go_simp
         (go_at_call 12; refine (HPw.out _ HB12.out).mono ?_; rintro e w13 ⟨v13, r13, c13, rfl, hT13, hb13⟩; have hbl13 := hT13.bl; obtain ⟨a13, k13, hv13, _⟩ := own_spellO hT13.row; subst hv13; have hB13 := Below.next HB12.out hb13; have hS2 := HSt.out _ hB13; have HB13 := hide hB13; have HS13 := hide (HS2.out _ _ _ hbl13 (HDw.out _ hB13).bl); rw [HLn.out] at HS13 ⊢; clear hT13 hb13 hB13 hbl13)
         first | refine hK.out _ _ ?k27 (fun hHeld => ?_) | (go_wp2_with fail; refine hK.out _ _ ?k27 (fun hHeld => ?_))
         case k27 => ((try dsimp only) <;> (first | with_reducible exact hS0 | with_reducible exact hS1 | with_reducible exact hS2 | with_reducible exact hS3 | with_reducible exact hS4))
         clear hK K
         (try simp only [ly0, ly1, ly2, ly3, ly4, ly5, ly6, ly7])
         refine rd1 6 (fun K hK => ?_)
         (try simp only [ly0, ly1, ly2, ly3, ly4, ly5, ly6, ly7])
         go_simp
         (go_at_call 11; refine HS13.out.mono ?_; rintro e w14 ⟨rfl, hb14⟩; have hB14 := Below.next HB13.out hb14; have hS3 := HSt.out _ hB14; have HB14 := hide hB14; clear hb14 hB14)
         first | refine hK.out _ _ ?k28 (fun hHeld => ?_) | (go_wp2_with fail; refine hK.out _ _ ?k28 (fun hHeld => ?_))
         case k28 => ((try dsimp only) <;> (first | with_reducible exact hS0 | with_reducible exact hS1 | with_reducible exact hS2 | with_reducible exact hS3 | with_reducible exact hS4))
         clear hK K
         (try simp only [ly0, ly1, ly2, ly3, ly4, ly5, ly6, ly7])
         refine tkY 7 ?_
         refine tkY 8 ?_
         refine tkY 9 ?_
         refine tkY 10 ?_
         refine tkY 11 ?_
         refine tkY 12 ?_
         refine tkY 13 ?_
         refine tkY 14 ?_
         refine tkY 15 ?_
         refine tkY 16 ?_
         refine tkY 17 ?_
         refine tkY 18 ?_
         refine tkY 19 ?_
         refine tkY 20 ?_
         refine tkY 21 ?_
         refine tkY 22 ?_
         refine tkY 23 ?_
         refine tkY 24 ?_
         refine tkY 25 ?_
         refine tkY 26 ?_
         refine tkY 27 ?_
         refine rd1 28 (fun K hK => ?_)
         (try simp only [ly0, ly1, ly2, ly3, ly4, ly5, ly6, ly7])
         go_simp
         (go_at_call 20; refine (HBk.out _).mono ?_; rintro e w15 ⟨v15, rfl, ho15, hb15⟩; obtain ⟨a15, k15, hv15, _⟩ := own_spellO ho15; subst hv15; have hB15 := Below.next HB14.out hb15; have hS4 := HSt.out _ hB15; have HB15 := hide hB15; have HS15 := hide (HSm.out _ _ _ _ (HRw.out _ hB15) (rb_of_own ho15 (blkc_by (by decide)) (by rw [blkc_len]; decide))); clear ho15 hb15 hB15)
         first | refine hK.out _ _ ?k29 (fun hHeld => ?_) | (go_wp2_with fail; refine hK.out _ _ ?k29 (fun hHeld => ?_))
         case k29 => ((try dsimp only) <;> (first | with_reducible exact hS0 | with_reducible exact hS1 | with_reducible exact hS2 | with_reducible exact hS3 | with_reducible exact hS4))
         clear hK K
         (try simp only [ly0, ly1, ly2, ly3, ly4, ly5, ly6, ly7])
         refine rd1 29 (fun K hK => ?_)
         (try simp only [ly0, ly1, ly2, ly3, ly4, ly5, ly6, ly7])
         go_simp
         (go_at_call 21; refine HS15.out.mono ?_; rintro e w16 ⟨rfl, hw16⟩; rw [hw16]; clear hw16)
         first | refine hK.out _ _ ?k30 (fun hHeld => ?_) | (go_wp2_with fail; refine hK.out _ _ ?k30 (fun hHeld => ?_))
         case k30 => ((try dsimp only) <;> (first | with_reducible exact hS0 | with_reducible exact hS1 | with_reducible exact hS2 | with_reducible exact hS3 | with_reducible exact hS4))
         clear hK K
         (try simp only [ly0, ly1, ly2, ly3, ly4, ly5, ly6, ly7])
         refine tkY 30 ?_
         refine tkY 31 ?_
         refine wpAnyH_done (by kernel_rfl) ?_ _
         clear hS0 hS1 hS2 hS3 hS4
         go_wp2
         go_ret
         exact ⟨by simp, HLow.out _ HB15.out⟩
    · have q : (decide ((65536 : Int) <= (n : Int))) = true := decide_eq_true (by omega)
      go_wp2_with (first
       | (go_at_call 19; refine HCp.out.mono ?_; rintro e w4 ⟨g2, v4, rfl, hc4, hb4⟩; have HB4 := hide hb4; have x0 := HC.out _ hb4; clear hc4 hb4)
       | (go_at_call 10; refine (ga.out _).mono ?_; rintro e w5 ⟨rfl, hb5⟩; have HB5 := hide (Below.next HB4.out hb5); clear hb5))
      go_ret
      exact ⟨by simp, (HT.out _ HB5.out).low⟩
end Go.Proofs.Yteipgnkhbcogoaa
