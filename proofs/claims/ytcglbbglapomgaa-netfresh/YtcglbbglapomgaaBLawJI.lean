import Derived.Test.YtcglbbglapomgaaBLawJK
set_option linter.unusedVariables false
set_option linter.unusedSimpArgs false
set_option maxRecDepth 100000
set_option maxHeartbeats 4000000
namespace Go.Proofs.Ytcglbbglapomgaa
open Go.RowKit Fld
theorem sdN_no {N : Nt} {f t : Int} {b : List Int} (h : sdE N f t b ≠ 0) : sdN N f t b = N := by unfold sdN; rw [if_neg h]
theorem sdN_yes {N : Nt} {f t : Int} {b : List Int} (h : sdE N f t b = 0) : sdN N f t b = { N with l := N.l ++ [⟨f, t, b⟩], s := N.s + 1 } := by unfold sdN; rw [if_pos h]
theorem stp_n (N : Nt) (s : Sq) : (stp N s).n = N.n := by
 unfold stp sdN dvN dpN dbN mvN
 repeat' split
 all_goals rfl
theorem pv_spoil {w : World} {lo : Nat} {x : Value} {p : Pk} (h : Pv w lo x p) (hl : p.b.length <= 1048576) (m : Int) (m0 : 0 <= m) (m1 : m <= 255) : ∃ a n k, x = .agg #[.int .i64 p.f, .int .i64 p.t, .slice a n k] ∧ ∀ W, Below w.heap.size w W -> Calls Try.prog 24 #[.slice a n k, .int .u8 m] W fun e w' => e = .returned (.tuple #[]) ∧ ∃ r, W.grownBy w' r ∧ K8 W r ∧ ∀ j, r = some j -> lo <= j := by
 rcases h with ⟨q, cap, h1, h2, h3⟩ | ⟨rfl, rfl⟩
 · refine ⟨_, _, _, h1, fun W hb => ?_⟩
   have hy := h3.below hb
   exact (SpoilY m m0 m1 ⟨hy.lt, hy.room⟩ hy.fit (by omega)).mono fun e w' ⟨e1, e2⟩ => ⟨e1, some q, e2, k8_yb hy, fun j hj => by injection hj with hj; omega⟩
 · exact ⟨none, 0, 0, rfl, fun W hb => (Spoil8 (.slice none 0 0) 0 0 [] m W m0 m1 (World.ownsRow_nil _ _ _ _) (by omega) (Nat.zero_le _)).mono fun e w' ⟨e1, e2⟩ => ⟨e1, none, e2, (fun j hj => by cases hj), (fun j hj => by cases hj)⟩⟩
theorem fr_step {w w4 w5 : World} {base g gt b0 n : Nat} {c v v5 u : Value} {xs : List Value} {M M1 : Nt} {es : List Dk} (hp4 : Np w4 base g v M) (hd4 : Nd w4 base gt u M es) (hlo : Lo21 b0 es) (ho4 : w4.ownsRow b0 5 1 c n xs) (hb0 : base <= b0) (hb4 : b0 <= w4.heap.size) (low4 : Below base w w4) (hn5 : Np w5 base g v5 M1) (hm5 : Mv w4 w5 g v v5) :
 Nd w5 base gt u M es ∧ Below base w w5 ∧ base <= w5.heap.size ∧ ∀ w6 u6 es6, Nd w6 base gt u6 M1 es6 -> Fr21 w5.heap.size es es6 -> Mv w5 w6 gt u u6 -> w6.ownsRow b0 5 1 c n xs ∧ b0 <= w6.heap.size ∧ ∀ w7, w6.grownBy w7 c.ownBlock -> TwoN w w7 base g gt M1 := by
 have hz4 : base <= w4.heap.size := Nat.le_trans hb0 hb4
 have hd5 := hd4.mv hp4 hm5
 have ho5 := own8_mv ho4 hp4 hm5
 have hs5 := hm5.kq.size
 have low5 := low4.trans (hp4.mvb hm5 hz4)
 refine ⟨hd5, low5, by omega, fun w6 u6 es6 hd6 hf hm6 => ?_⟩
 have ho6 := own8_mvd ho5 hd5 hm6
 have hs6 := hm6.kq.size
 have hp6 := hn5.mvd hd5 hm6
 have low6 := low5.trans (Ny.mvb ⟨es, hd5⟩ hm6 (by omega))
 refine ⟨ho6, by omega, fun w7 hg => ?_⟩
 refine ⟨⟨v5, hp6.grown8 hg (k8_own ho6)⟩, ⟨u6, es6, hd6.grown8 hg (k8_own ho6) (fun e he j hj e2 => ?_)⟩, low6.grown hg (by omega) (fun j hj => by have := own_base ho6 j hj; omega), by have := hg.size; omega⟩
 have h1 := ho5.lt j e2
 rcases hf e he with h2 | h2
 · have := hlo e h2 j hj; omega
 · have := h2 j hj; omega
theorem fr_taken {w w10 w11 w12 : World} {base g g2 gt : Nat} {v7 v11 v12 u7 : Value} {M1 M2 : Nt} {es7 : List Dk} (hp : Np w10 base g v7 M1) (hd : Nd w10 base gt u7 M1 es7) (low : Below base w w10) (hz : base <= w10.heap.size) (hb11 : Below w10.heap.size w10 w11) (hc11 : Np w11 w10.heap.size g2 v11 M1) (hc12 : Np w12 w10.heap.size g2 v12 M2) (hm12 : Mv w11 w12 g2 v11 v12) :
 Np w12 base g v7 M1 ∧ ∀ M3 w13 v13, Np w13 base g v13 M3 -> Mv w12 w13 g v7 v13 -> ∀ w14, Below w13.heap.size w13 w14 -> ∀ w15 r, w14.grownBy w15 r -> K8 w14 r -> (∀ j, r = some j -> w12.heap.size <= j) -> Below base w w15 ∧ base <= w15.heap.size ∧ Np w15 base g v13 M3 ∧ Np w15 w10.heap.size g2 v12 M2 ∧ Nd w15 base gt u7 M1 es7 := by
 have s11 := hb11.size
 have s12 := hm12.kq.size
 have hb12 : Below w10.heap.size w10 w12 := hb11.trans (hc11.mvb hm12 s11)
 have hp12 := hp.below hb12
 have hd12 := hd.below hb12
 have low12 := low.trans (hb12.mono hz)
 refine ⟨hp12, fun M3 w13 v13 hn13 hm13 w14 hb14 w15 r hg hk hr => ?_⟩
 have s13 := hm13.kq.size
 have s14 := hb14.size
 have s15 := hg.size
 have hc13 := hc12.apart hp12 hp.m.lt (fun j hj => (hp.m.own_lt j hj).2) hm13
 have hd13 := hd12.mv hp12 hm13
 have low13 := low12.trans (hp12.mvb hm13 (by omega))
 refine ⟨(low13.trans (hb14.mono (by omega))).grown hg (by omega) (fun j hj => by have := hr j hj; omega), by omega, (hn13.below hb14).grown8 hg hk, (hc13.below hb14).grown8 hg hk, (hd13.below hb14).grown8 hg hk (fun e he j hj e2 => ?_)⟩
 have h1 := hd12.lo e he j hj
 have h2 := hr j e2
 omega
theorem fr_last {w w15 w16 : World} {base g g2 gt b2 : Nat} {v13 v12 u7 v16 : Value} {M1 M2 M3 : Nt} {es7 : List Dk} (low : Below base w w15) (hz : base <= w15.heap.size) (hp : Np w15 base g v13 M3) (hc : Np w15 b2 g2 v12 M2) (hd : Nd w15 base gt u7 M1 es7) (hm : Mv w15 w16 gt u7 v16) : Below base w w16 ∧ base <= w16.heap.size ∧ Np w16 base g v13 M3 ∧ Np w16 b2 g2 v12 M2 :=
 ⟨low.trans (Ny.mvb ⟨es7, hd⟩ hm hz), by have := hm.kq.size; omega, hp.mvd hd hm, hc.mvd hd hm⟩
theorem first_mem {N : Nt} (h : 0 < N.l.length) : dvP N 0 ∈ N.l := by
 have hh : hasI N.l 0 = true := hasI_iff.2 ⟨0, rfl, h⟩
 unfold dvP
 rw [if_pos hh]
 exact List.mem_of_getElem? (at_getD (k := 0) h)
theorem first_facts {N : Nt} (h : 0 < N.l.length) : plE N 0 = 0 ∧ (dvN N 0).l.length = N.l.length - 1 ∧ (dpN N 0).l.length = N.l.length - 1 := by
 have hh : hasI N.l 0 = true := hasI_iff.2 ⟨0, rfl, h⟩
 refine ⟨by unfold plE; rw [if_pos hh], ?_, ?_⟩
 · unfold dvN; rw [if_pos hh]; show (N.l.eraseIdx 0).length = _; rw [List.length_eraseIdx_of_lt h]
 · unfold dpN; rw [if_pos hh]; show (N.l.eraseIdx 0).length = _; rw [List.length_eraseIdx_of_lt h]
theorem netFresh_any (v : Value) (ss : List Sq) (vb : Value) (bs : List Int) (w : World) (h : Scr w v ss) (hbv : Rb w vb bs) (hbl : bs.length <= 140737488351232) : Calls Try.prog 7 #[v, vb] w fun e w' => e = .returned (.bool true) ∧ Below w.heap.size w w' := by
 obtain ⟨ao, cap, rfl, hcap⟩ := h.lm.spell
 have hlen := h.len
 have HS := hide h
 have HBv := hide hbv
 have HBl := hide hbl
 have ga := hide (fun W => anch21 W)
 have HN := hide (fun W => gNew 5 rfl W)
 have HD := hide (fun W => dNew21 5 W)
 rw [show ntE 5 = 0 from rfl, if_pos rfl] at HD
 have HT0 := hide (fun (w1 w2 : World) (h1 : Np w1 w.heap.size w.heap.size (.slice none 0 0) (nt0 5)) (b1 : Below w.heap.size w w1) (b2 : Below w1.heap.size w1 w2) => show TwoN w (w2.alloc (.cells #[.int .i64 5, .slice none 0 0, .int .i64 0, .int .i64 0, .int .i64 0] 29)) w.heap.size w.heap.size w2.heap.size (nt0 5) from by
  have b3 := alloc_below w2 (.cells #[.int .i64 5, .slice none 0 0, .int .i64 0, .int .i64 0, .int .i64 0] 29)
  have z1 := b1.size
  have z2 := b2.size
  have z3 := b3.size
  exact ⟨⟨_, (h1.below b2).below b3⟩, ⟨_, [], nd_new (heap_alloc_new w2 _) (by omega)⟩, Below.next (Below.next b1 b2) b3, by omega⟩)
 obtain ⟨bo, bc, rfl, _⟩ := hbv.spell
 clear h hbv hbl
 go_enter Try.func7, Try.ntmps7
 go_wp2_with (first
  | (go_at_call 8; refine (HN.out _).mono ?_; rintro e w1 ⟨rfl, hn1, hb1⟩; have HN1 := hide hn1; clear hn1)
  | (go_at_call 9; refine (HD.out _).mono ?_; rintro e w2 ⟨rfl, hb2⟩; unfold ndv; have HT := hide (HT0.out _ _ HN1.out hb1 hb2); clear HN1 hb1 hb2))
 obtain ⟨gt, hgt⟩ : ∃ gt, w2.heap.size = gt := ⟨_, rfl⟩
 rw [hgt] at HT ⊢
 clear hgt HT0 HN HD
 generalize w2.alloc (.cells #[.int .i64 5, .slice none 0 0, .int .i64 0, .int .i64 0, .int .i64 0] 29) = w3 at *
 go_loopw [9] (fun vi wr => ∃ (k : Nat) (M : Nt), k <= ss.length ∧ vi = .int .i64 k ∧ M.s <= k ∧ M.n = 5 ∧ Hid (TwoN w wr w.heap.size w.heap.size gt M)) (fun vi _ => ss.length - (intOf vi).toNat)
 case atStart => exact ⟨0, _, Nat.zero_le _, rfl, Nat.zero_le _, rfl, HT⟩
 case round =>
  clear HT
  obtain ⟨k, M, hk, rfl, hMs, hMn, HM⟩ := hrel
  by_cases hlt : k < ss.length
  · obtain ⟨b, off, cap', hv, _, _⟩ := HS.out.lm.form (by omega)
    injection hv with hv1 hv2 hv3
    subst hv1 hv3
    have HG := hide (same21_any HM.out.self (by omega) (HS.out.okw HM.out.low hlt))
    obtain ⟨c0, c1, c2, c3⟩ := HS.out.sq HM.out.low hlt
    have HM2 := hide (fun V M (h : TwoN wr V w.heap.size w.heap.size gt M) => HM.out.from_ h)
    have hM1 := stp_s M ss[k]
    have hM2 := (stp_n M ss[k]).trans hMn
    have ii0 : (0 : Int) <= (k : Int) := by omega
    have ii1 : (k : Int) < (ss.length : Int) := by omega
    generalize hs : ss[k] = s at *
    generalize stp M s = M' at *
    clear HS HM HBv HBl
    go_wp2_with (go_at_call 10; refine HG.out.mono ?_; rintro e w4 ⟨rfl, ht4⟩; have HT4 := hide (HM2.out _ _ ht4); clear ht4)
    go_roundw
    case rel => exact ⟨k + 1, M', by omega, by go_num, by omega, hM2, HT4⟩
    case measure => simp [intOf]; omega
  · obtain rfl : k = ss.length := by omega
    clear HS
    obtain ⟨v, hp⟩ := HM.out.p
    obtain ⟨u, es, hd⟩ := HM.out.d
    have hz := HM.out.sz
    have hl4 := hp.o.ok.len
    have hsum := hp.o.ok.sum
    have hMb : M.s < 4611686018427387904 := by omega
    have HBy := hide (rBytes _ bs wr (HBv.out.below HM.out.low) HBl.out)
    have hdl : es.length = M.l.length := hd.len
    obtain ⟨ud, uc, hu, _⟩ := hd.spell
    rw [hdl] at hu
    subst hu
    have HP := hide hp
    have HDd := hide hd
    have HLo := hide hd.lo
    have HX := hide (fun w4 c (hb4 : Below wr.heap.size wr w4) (hr : Rb w4 c bs) => gSend (HP.out.below hb4) (Nat.le_trans hz hb4.size) hMb 1 2 hr)
    clear hp hd hdl
    by_cases he : sdE M 1 2 bs = 0
    · have hM1 := sdN_yes he
      have hM1l : (sdN M 1 2 bs).l.length = M.l.length + 1 := by rw [hM1]; simp
      have hM1s : (sdN M 1 2 bs).s = M.s + 1 := by rw [hM1]
      obtain ⟨_, _, hl40, hbl⟩ := sdE_zero he
      simp only [he] at HX
      clear hM1
      go_upto_region 13 with (first
       | (go_at_call 20; refine HBy.out.mono ?_; rintro e w4 ⟨v4, rfl, ho4, hb4⟩; have hr4 := rb_of_own ho4 HBv.out.by (by omega); obtain ⟨a4, k4, hv4, _⟩ := own_spellO ho4; subst hv4; have HO4 := hide ho4; have HB4 := hide hb4; have HA := hide (HX.out _ _ hb4 hr4); clear ho4 hb4 hr4)
       | (go_at_call 14; refine HA.out.mono ?_; rintro e w5 ⟨v5, rfl, hn5, hm5⟩; obtain ⟨hd5, low5, hz5, hnext⟩ := fr_step (HP.out.below HB4.out) (HDd.out.below HB4.out) HLo.out HO4.out hz HB4.out.size (HM.out.low.trans (HB4.out.mono hz)) hn5 hm5; have HNx := hide hnext; have HB5 := hide (dSendF hd5 hz5 hMb 1 2 (HBv.out.below low5) he); clear hn5 hm5 hd5 low5 hz5 hnext)
       | (go_at_call 23; refine HB5.out.mono ?_; rintro e w6 ⟨u6, es6, rfl, hd6, hf6, hm6⟩; obtain ⟨ho6, hz6, hnx⟩ := HNx.out _ _ _ hd6 hf6 hm6; have HN7 := hide hnx; have HSp := hide (Spoil8 _ _ _ bs 9 w6 (by decide) (by decide) ho6 (by omega) hz6); clear ho6 hz6 hnx hd6 hf6 hm6)
       | (go_at_call 24; refine HSp.out.mono ?_; rintro e w7 ⟨rfl, hg7⟩; have HT7 := hide (HN7.out _ hg7); clear hg7))
      clear HSp HN7 HB5 HNx HA HB4 HO4 HBy HX HLo HDd HP HM HBv HBl
      generalize sdN M 1 2 bs = M1 at *
      obtain ⟨v7, hp7⟩ := HT7.out.p
      obtain ⟨u7, es7, hd7⟩ := HT7.out.d
      have hz7 := HT7.out.sz
      have HBy7 := hide (fun p hp => (hp7.o.ok.pk p hp).2.2)
      have hl7 := hp7.o.ok.len
      have HP7 := hide hp7
      have HD7 := hide hd7
      have HPe := hide (gPending hp7)
      have HNok := hide hp7.o.ok
      clear hp7 hd7
      have hm1 : 0 < M1.l.length := by omega
      go_wp2_with (go_at_call 18; go_loud (refine HPe.out.mono ?_; rintro e w8 ⟨v8, ls, rfl, hq8, he8, hb8⟩; obtain ⟨a8, k8, hv8, _, hf8⟩ := own_spellO hq8.row; have hll : ls.length = M1.l.length := (by rw [<- he8, List.length_map]); rw [List.length_map, hll] at hv8 hf8; obtain ⟨gl, hgl, hglo, _⟩ := hf8 hm1; subst hgl; subst hv8))
      have HQ8 := hide (show Pq w8 w7.heap.size (.slice (some ⟨gl, 0, none⟩) M1.l.length k8) (List.replicate 0 none ++ (ls.drop 0).map some) from by simpa using hq8)
      have HE8 := hide he8
      have HLL := hide hll
      clear hq8 he8 hll hf8
      generalize hN8 : M1.l.length = n8 at *
      have HN8 := hide hN8
      clear hN8
      go_loopw [12] (fun vi wr => ∃ k : Nat, k <= n8 ∧ vi = .int .i64 k ∧ Hid (Pq wr w7.heap.size (.slice (some ⟨gl, 0, none⟩) n8 k8) (List.replicate k none ++ (ls.drop k).map some)) ∧ Below w7.heap.size w7 wr) (fun vi _ => n8 - (intOf vi).toNat)
      case atStart => exact ⟨0, Nat.zero_le _, rfl, HQ8, hb8⟩
      case round =>
       clear HQ8 hb8
       obtain ⟨k, hk, rfl, HQ, hB⟩ := hrel
       have hzB := hB.size
       by_cases hlt2 : k < n8
       · have hkl : k < ls.length := by have := HLL.out; omega
         have hx := wipe_at hkl
         have hmem : ls[k].1 ∈ M1.l := by rw [<- HE8.out]; exact List.mem_map.2 ⟨_, List.getElem_mem hkl, rfl⟩
         have hsw := set_wipe hkl
         generalize ls[k] = x at *
         obtain ⟨p, q, c⟩ := x
         have hwl := wipe_len HLL.out hk
         obtain ⟨d0, d1, d2, _⟩ := HQ.out.cells hwl.symm hx rfl
         obtain ⟨hql, _, hyq⟩ := HQ.out.each k p q c hx
         have HPw := hide (fun w9 (hg : World.grownBy wr w9 (some q)) => HQ.out.wiped hwl.symm hx hg)
         simp only [hsw] at HPw
         have HSp := hide (fun m m0 m1 => SpoilY m m0 m1 (show Yr wr q c from ⟨hyq.lt, hyq.room⟩) hyq.fit (by have := HBy7.out p hmem; omega))
         have jj0 : (0 : Int) <= (k : Int) := by omega
         have jj1 : (k : Int) < (n8 : Int) := by omega
         clear hx hsw hmem hyq HQ HE8 HLL HBy7 HP7 HD7 HNok HT7 HPe
         go_upto_region 18 with (go_at_call 24; refine (HSp.out _ (by omega) (by omega)).mono ?_; rintro e w9 ⟨rfl, hg9⟩; obtain ⟨⟨s0, s1, s2, s3⟩, hpn⟩ := HPw.out w9 hg9; have HPn := hide hpn; have hB9 := hide (hB.grown hg9 hzB (fun j hj => by injection hj with hj; omega)); clear hpn hg9)
         clear HPw HSp d0 d1 d2
         go_wp2_with fail
         go_roundw
         case rel => exact ⟨k + 1, by omega, by go_num, HPn, ((hB9.out.setCell (p := ⟨gl, k * 3, none⟩) hglo _).setCell (p := ⟨gl, k * 3 + 1, none⟩) hglo _).setCell (p := ⟨gl, k * 3 + 2, none⟩) hglo _⟩
         case measure => simp [intOf]; omega
       · obtain rfl : k = n8 := by omega
         clear HQ HLL HE8
         have HP10 := hide (HP7.out.below hB)
         have HD10 := hide (HD7.out.below hB)
         have HW10 := hide (HT7.out.low.trans (hB.mono hz7))
         have hz10 : w.heap.size <= wr.heap.size := Nat.le_trans hz7 hB.size
         have hm10 : 0 < M1.l.length := by have := HN8.out; omega
         obtain ⟨F1, F2, F3⟩ := first_facts hm10
         have HF3 := hide (F3.trans F2.symm)
         have HPb := hide (HBy7.out _ (first_mem hm10))
         have hMb1 : M1.s < 4611686018427387904 := by omega
         have HL3 := hide (show (dvN M1 0).l.length <= 4096 by have := HN8.out; omega)
         have HCo := hide (gCopy HP10.out)
         clear HBy7 HP7 HD7 HPe HT7 hB hm10 F2 F3
         generalize wr = w10 at *
         go_upto_region 24 with (first
          | (go_at_call 19; refine HCo.out.mono ?_; rintro e w11 ⟨g2, v11, rfl, hc11, hb11⟩; have HC11 := hide hc11; have HB11 := hide hb11; have HDr := hide (gDrop hc11 0); clear hc11 hb11)
          | (go_at_call 15; refine HDr.out.mono ?_; rintro e w12 ⟨v12, rfl, hc12, hm12⟩; obtain ⟨hp12, htk⟩ := fr_taken HP10.out HD10.out HW10.out hz10 HB11.out HC11.out hc12 hm12; have HTk := hide (htk (dvN M1 0)); have HDe := hide (gDeliver hp12 hMb1 0); rw [F1] at HDe; clear hc12 hm12 hp12 htk)
          | (go_at_call 12; refine HDe.out.mono ?_; rintro e w13 ⟨v13, y, rfl, hy13, hn13, hm13⟩; obtain ⟨a3, n3, k3, hy, hsp⟩ := pv_spoil hy13 HPb.out 3 (by decide) (by decide); subst hy; have HSp := hide hsp; have HTn := hide (HTk.out _ _ hn13 hm13); clear hy13 hn13 hm13 hsp))
         have hA14 := alloc_below w13 (.cells #[.int .i64 (dvP M1 0).f, .int .i64 (dvP M1 0).t, .slice a3 n3 k3] 40)
         have hC14 := heap_alloc_new w13 (.cells #[.int .i64 (dvP M1 0).f, .int .i64 (dvP M1 0).t, .slice a3 n3 k3] 40)
         have HSp14 := hide (HSp.out _ hA14)
         have HTn14 := hide (HTn.out _ hA14)
         generalize w13.alloc (.cells #[.int .i64 (dvP M1 0).f, .int .i64 (dvP M1 0).t, .slice a3 n3 k3] 40) = w14 at *
         generalize w13.heap.size = b14 at *
         have f2 : w14.cell? ⟨b14, 2, none⟩ = some (.slice a3 n3 k3) := (Lib.cell_of_heap hC14 2).trans rfl
         clear hA14 hC14 HSp HTn HTk HDe HDr HCo HC11 HB11 HP10 HD10 HW10
         go_upto_region 26 with (first
          | (go_at_call 24; refine HSp14.out.mono ?_; rintro e w15 ⟨rfl, r, hg15, hk15, hr15⟩; obtain ⟨low15, hz15, hp15, hc15, hd15⟩ := HTn14.out w15 r hg15 hk15 hr15; have HD15 := hide (dDeliver21 ⟨es7, hd15⟩ hz15 HNok.out hMb1 0); have HLa := hide (fun w16 v16 (hm : Mv w15 w16 gt u7 v16) => fr_last low15 hz15 hp15 hc15 hd15 hm); clear low15 hz15 hp15 hc15 hd15 hg15 hk15 hr15)
          | (go_at_call 25; refine HD15.out.mono ?_; rintro e w16 ⟨v16, u16, rfl, _, hy16, hm16⟩; obtain ⟨low16, hz16, hp16, hc16⟩ := HLa.out _ _ hm16; have HY16 := hide hy16; clear hy16 hm16))
         obtain ⟨es16, hd16⟩ := HY16.out
         obtain ⟨a16, k16, hv16, _⟩ := hd16.spell
         rw [hd16.len] at hv16
         subst hv16
         have hdr : Below w16.heap.size w16 w16.drew := (Below.refl _ w16).drew
         have HSv := hide (fun V (hb : Below w16.heap.size w16 V) => (hd16.below hb).cells.2.1)
         have HPn := hide (fun V (hb : Below w16.heap.size w16 V) => gPending (hp16.below hb))
         have HPm := hide (fun V (hb : Below w16.heap.size w16 V) => gPending (hc16.below hb))
         have HSm := hide (fun V x (hb : Below w16.heap.size w16 V) (h1 : Pl V x (dvN M1 0).l) => dSame21 x _ _ V h1 ((hd16.below hb).pks.pl hd16.eq) HL3.out)
         have hS0 := HSv.out _ hdr
         have HW16 := hide low16
         clear HY16 HLa HD15 HSp14 HTn14 hd16 hp16 hc16 low16 f2 HNok HPb
         refine wp_region_held_drew (S := (fun V => V.cell? ⟨gt, 1, none⟩ = some (.slice a16 (dvN M1 0).l.length k16))) (by kernel_rfl) (by ((try dsimp only) <;> (first | with_reducible exact hS0 | with_reducible exact hS1 | with_reducible exact hS2 | with_reducible exact hS3 | with_reducible exact hS4))) (fun hHeld => ?_)
         refine rd1 0 (fun K hK => ?_)
         (try simp only [ly0, ly1, ly2, ly3, ly4, ly5, ly6, ly7])
         go_simp
         (go_at_call 11; refine (ga.out _).mono ?_; rintro e w17 ⟨rfl, hb17⟩; have hB17 := Below.next hdr hb17; have hS1 := HSv.out _ hB17; have HP17 := hide (HPn.out _ hB17))
         first | refine hK.out _ _ ?k1 (fun hHeld => ?_) | (go_wp2_with fail; refine hK.out _ _ ?k1 (fun hHeld => ?_))
         case k1 => ((try dsimp only) <;> (first | with_reducible exact hS0 | with_reducible exact hS1 | with_reducible exact hS2 | with_reducible exact hS3 | with_reducible exact hS4))
         clear hK K
         (try simp only [ly0, ly1, ly2, ly3, ly4, ly5, ly6, ly7])
         refine tkY 1 ?_
         refine tkY 2 ?_
         refine tkY 3 ?_
         refine tkY 4 ?_
         refine tkY 5 ?_
         refine tkY 6 ?_
         refine tkY 8 ?_
         refine tkY 9 ?_
         refine rd1 7 (fun K hK => ?_)
         (try simp only [ly0, ly1, ly2, ly3, ly4, ly5, ly6, ly7])
         go_simp
         (go_at_call 18; refine HP17.out.mono ?_; rintro e w18 ⟨v18, l18, rfl, hq18, he18, hb18⟩; obtain ⟨a18, k18, hv18, _⟩ := own_spellO hq18.row; rw [List.length_map, show l18.length = (dvN M1 0).l.length from by rw [<- he18, List.length_map]] at hv18; subst hv18; have hB18 := Below.next hB17 hb18; have hS2 := HSv.out _ hB18; have HS18 := hide (HSm.out _ _ hB18 (hq18.pl he18)))
         first | refine hK.out _ _ ?k2 (fun hHeld => ?_) | (go_wp2_with fail; refine hK.out _ _ ?k2 (fun hHeld => ?_))
         case k2 => ((try dsimp only) <;> (first | with_reducible exact hS0 | with_reducible exact hS1 | with_reducible exact hS2 | with_reducible exact hS3 | with_reducible exact hS4))
         clear hK K
         (try simp only [ly0, ly1, ly2, ly3, ly4, ly5, ly6, ly7])
         refine rd1 10 (fun K hK => ?_)
         (try simp only [ly0, ly1, ly2, ly3, ly4, ly5, ly6, ly7])
         go_simp
         (go_at_call 22; refine HS18.out.mono ?_; rintro e w19 ⟨rfl, hb19⟩; have hB19 := Below.next hB18 hb19; have hS3 := HSv.out _ hB19; have HP19 := hide (HPm.out _ hB19))
         first | refine hK.out _ _ ?k3 (fun hHeld => ?_) | (go_wp2_with fail; refine hK.out _ _ ?k3 (fun hHeld => ?_))
         case k3 => ((try dsimp only) <;> (first | with_reducible exact hS0 | with_reducible exact hS1 | with_reducible exact hS2 | with_reducible exact hS3 | with_reducible exact hS4))
         clear hK K
         (try simp only [ly0, ly1, ly2, ly3, ly4, ly5, ly6, ly7])
         refine tkY 11 ?_
         refine tkY 12 ?_
         refine tkY 13 ?_
         refine tkY 16 ?_
         refine tkY 17 ?_
         refine tkY 18 ?_
         refine rd1 14 (fun K hK => ?_)
         (try simp only [ly0, ly1, ly2, ly3, ly4, ly5, ly6, ly7])
         go_simp
         (go_at_call 18; refine HP19.out.mono ?_; rintro e w20 ⟨v20, l20, rfl, hq20, he20, hb20⟩; obtain ⟨a20, k20, hv20, _⟩ := own_spellO hq20.row; rw [List.length_map, show l20.length = (dvN M1 0).l.length from by rw [<- HF3.out, <- he20, List.length_map]] at hv20; subst hv20; have hB20 := Below.next hB19 hb20; have hS4 := HSv.out _ hB20)
         first | refine hK.out _ _ ?k4 (fun hHeld => ?_) | (go_wp2_with fail; refine hK.out _ _ ?k4 (fun hHeld => ?_))
         case k4 => ((try dsimp only) <;> (first | with_reducible exact hS0 | with_reducible exact hS1 | with_reducible exact hS2 | with_reducible exact hS3 | with_reducible exact hS4))
         clear hK K
         (try simp only [ly0, ly1, ly2, ly3, ly4, ly5, ly6, ly7])
         refine tkY 15 ?_
         refine tkY 19 ?_
         refine tkY 20 ?_
         refine tkY 21 ?_
         refine wpAnyH_done (by kernel_rfl) ?_ _
         clear hS0 hS1 hS2 hS3 hS4
         go_wp2
         go_ret
         exact ⟨by simp, HW16.out.trans (hB20.mono hz16)⟩
    · have he4 : sdE M 1 2 bs = 4 ∧ (4096 <= M.l.length ∨ 1048576 < bs.length) := by
       unfold sdE at he ⊢
       rw [hMn] at he ⊢
       rw [if_pos (by omega)] at he ⊢
       split at he
       · rename_i e; rw [if_pos e]; exact ⟨rfl, e⟩
       · exact absurd rfl he
      obtain ⟨he4, hor⟩ := he4
      rw [sdN_no he] at HX
      simp only [he4] at HX
      have hor2 : (M.l.length : Int) = 4096 ∨ ((1048576 : Int) < (bs.length : Int) ∧ ¬ (M.l.length : Int) = 4096) := by omega
      have hbi : (0 : Int) <= (bs.length : Int) := by omega
      rcases hor2 with hq | ⟨hq, hqn⟩
      · go_wp2_with (first
         | (go_at_call 20; refine HBy.out.mono ?_; rintro e w4 ⟨v4, rfl, ho4, hb4⟩; have hr4 := rb_of_own ho4 HBv.out.by (by have := HBl.out; omega); obtain ⟨a4, k4, hv4, _⟩ := own_spellO ho4; subst hv4; have HB4 := hide hb4; have HA := hide (HX.out _ _ hb4 hr4); clear ho4 hb4 hr4)
         | (go_at_call 14; refine HA.out.mono ?_; rintro e w5 ⟨v5, rfl, hn5, hm5⟩; have HD5 := hide ((HDd.out.below HB4.out).mv (HP.out.below HB4.out) hm5); have HW5 := hide ((HM.out.low.trans (HB4.out.mono hz)).trans ((HP.out.below HB4.out).mvb hm5 (Nat.le_trans hz HB4.out.size))); have HZ5 := hide (Nat.le_trans (Nat.le_trans hz HB4.out.size) hm5.kq.size); clear hn5 hm5)
         | (go_at_call 11; refine (ga.out _).mono ?_; rintro e w6 ⟨rfl, hb6⟩; have c1 := (HD5.out.below hb6).cells.2.1; have hB6 := HW5.out.trans (hb6.mono HZ5.out)))
        go_ret
        exact ⟨by simp, hB6⟩
      · go_wp2_with (first
         | (go_at_call 20; refine HBy.out.mono ?_; rintro e w4 ⟨v4, rfl, ho4, hb4⟩; have hr4 := rb_of_own ho4 HBv.out.by (by have := HBl.out; omega); obtain ⟨a4, k4, hv4, _⟩ := own_spellO ho4; subst hv4; have HB4 := hide hb4; have HA := hide (HX.out _ _ hb4 hr4); clear ho4 hb4 hr4)
         | (go_at_call 14; refine HA.out.mono ?_; rintro e w5 ⟨v5, rfl, hn5, hm5⟩; have HD5 := hide ((HDd.out.below HB4.out).mv (HP.out.below HB4.out) hm5); have HW5 := hide ((HM.out.low.trans (HB4.out.mono hz)).trans ((HP.out.below HB4.out).mvb hm5 (Nat.le_trans hz HB4.out.size))); have HZ5 := hide (Nat.le_trans (Nat.le_trans hz HB4.out.size) hm5.kq.size); clear hn5 hm5)
         | (go_at_call 11; refine (ga.out _).mono ?_; rintro e w6 ⟨rfl, hb6⟩; have c1 := (HD5.out.below hb6).cells.2.1; have hB6 := HW5.out.trans (hb6.mono HZ5.out)))
        go_ret
        exact ⟨by simp, hB6⟩
end Go.Proofs.Ytcglbbglapomgaa
