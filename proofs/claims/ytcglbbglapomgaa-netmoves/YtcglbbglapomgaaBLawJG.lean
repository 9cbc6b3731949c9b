import Derived.Test.YtcglbbglapomgaaBLawJE
set_option linter.unusedVariables false
set_option linter.unusedSimpArgs false
set_option maxRecDepth 100000
set_option maxHeartbeats 4000000
namespace Go.Proofs.Ytcglbbglapomgaa
open Go.RowKit Fld
theorem Pq.mv {w w' : World} {lo base g : Nat} {x v v' : Value} {N : Nt} {es : List (Option Tkp)} (h : Pq w lo x es) (hn : Np w base g v N) (m : Mv w w' g v v') : Pq w' lo x es := by
 refine ⟨m.kq.own h.row (fun j hj => ⟨(h.row.lt j hj).2, fun e => ?_, fun e => ?_⟩), fun i p q c hi => ⟨(h.each i p q c hi).1, (h.each i p q c hi).2.1, (h.each i p q c hi).2.2.mv hn m⟩, h.dif⟩
 · subst e
   obtain ⟨cs, T', fz, h1, h2, h3⟩ := hn.kinds.1
   exact own_notO h.row h1 h2 hj
 · obtain ⟨cs, T', fz, h1, h2, h3⟩ := hn.kinds.2 j e
   exact own_notO h.row h1 h2 hj
theorem has_lt {l : List Pk} {i : Nat} (h : i < l.length) : hasI l (i : Int) = true := hasI_iff.2 ⟨i, rfl, h⟩
theorem mv_l {N : Nt} {i j : Int} (e : mvE N i j = 0) : (mvN N i j).l = mvL N.l i.toNat j.toNat (N.l.getD i.toNat pk0) := by
 unfold mvN; rw [if_pos e]
theorem moves_facts {N : Nt} {a b : Nat} (ha : a < N.l.length) (hb : b < N.l.length) : mvE N a b = 0 ∧ (mvN N a b).l.length = N.l.length ∧ (mvN N a b).l[b]? = N.l[a]? ∧ mvE (mvN N a b) b a = 0 ∧ (mvN (mvN N a b) b a).l = N.l := by
 have hg : N.l[a]? = some (N.l.getD a pk0) := by have := at_getD ha; simpa using this
 have e1 : mvE N a b = 0 := by unfold mvE; rw [if_pos ⟨has_lt ha, has_lt hb⟩]
 have e2 : (mvN N a b).l = mvL N.l a b (N.l.getD a pk0) := mv_l e1
 have e3 : (mvN N a b).l.length = N.l.length := by rw [e2]; exact mvL_len ha hb
 have e4 : (mvN N a b).l[b]? = N.l[a]? := by rw [e2, mvL_at ha hb, hg]
 have e5 : mvE (mvN N a b) b a = 0 := by unfold mvE; rw [if_pos ⟨has_lt (by omega), has_lt (by omega)⟩]
 have e6 : (mvN (mvN N a b) b a).l = mvL (mvN N a b).l b a ((mvN N a b).l.getD b pk0) := mv_l e5
 refine ⟨e1, e3, e4, e5, ?_⟩
 rw [e6, show (mvN N a b).l.getD b pk0 = N.l.getD a pk0 by rw [List.getD_eq_getElem?_getD, e4, hg]; rfl, e2]
 refine mvL_back hg hb ?_
 rw [mvL_at ha hb]
theorem netMoves_any (v : Value) (ss : List Sq) (i0 t0 : Int) (w : World) (h : Scr w v ss) (hi0 : 0 <= i0 ∧ i0 <= 255) (ht0 : 0 <= t0 ∧ t0 <= 255) : Calls Try.prog 6 #[v, .int .u8 i0, .int .u8 t0] w fun e w' => e = .returned (.bool true) ∧ Below w.heap.size w w' := by
 obtain ⟨ai, rfl⟩ : ∃ n : Nat, i0 = (n : Int) := ⟨i0.toNat, by omega⟩
 obtain ⟨at', rfl⟩ : ∃ n : Nat, t0 = (n : Int) := ⟨t0.toNat, by omega⟩
 obtain ⟨ao, cap, rfl, hcap⟩ := h.lm.spell
 have hlen := h.len
 have HS := hide h
 have ga := hide (fun W => anch21 W)
 have HN := hide (fun W => gNew 5 rfl W)
 have HSe := hide (fun W v N (h : Np W w.heap.size w.heap.size v N) (hz : w.heap.size <= W.heap.size) (hs : N.s < 4611686018427387904) a b u bs (hu : Rb W u bs) => gSend h hz hs a b hu)
 have HPe := hide (fun W v N (h : Np W w.heap.size w.heap.size v N) => gPending h)
 have HMo := hide (fun W v N a b (h : Np W w.heap.size w.heap.size v N) => gMove h a b)
 have HO := hide (fun p x y W (r1 : Rb W x (p : Pk).b) (r2 : Rb W y p.b) => dOne21 p p x y W r1 r2)
 simp only [pkS_self] at HO
 have HSm := hide (fun W x y ps (h1 : Pl W x ps) (h2 : Pl W y ps) (hl : ps.length <= 4096) => dSame21 x y ps W h1 h2 hl)
 clear h
 go_enter Try.func6, Try.ntmps6
 go_wp2_with (go_at_call 8; refine (HN.out _).mono ?_; rintro e w1 ⟨rfl, hn1, hb1⟩; have HT : Hid (∃ v, Np w1 w.heap.size w.heap.size v (nt0 5)) := ⟨_, hn1⟩; have hz1 := hb1.size; clear hn1)
 go_loopw [9] (fun vi wr => ∃ (k : Nat) (M : Nt), k <= ss.length ∧ vi = .int .i64 k ∧ M.s <= k ∧ Hid (∃ v, Np wr w.heap.size w.heap.size v M) ∧ Below w.heap.size w wr) (fun vi _ => ss.length - (intOf vi).toNat)
 case atStart => exact ⟨0, _, Nat.zero_le _, rfl, Nat.zero_le _, HT, hb1⟩
 case round =>
  clear HT HN hb1 hz1
  obtain ⟨k, M, hk, rfl, hMs, HM, hB⟩ := hrel
  have hz := hB.size
  by_cases hlt : k < ss.length
  · obtain ⟨b, off, cap', hv, _, _⟩ := HS.out.lm.form (by omega)
    injection hv with hv1 hv2 hv3
    subst hv1 hv3
    obtain ⟨c0, c1, c2, c3⟩ := HS.out.sq hB hlt
    have HC := hide (fun V (hV : Below w.heap.size wr V) => HS.out.sq (hB.trans hV) hlt)
    have HQ := hide (HS.out.okw hB hlt)
    have ii0 : (0 : Int) <= (k : Int) := by omega
    have ii1 : (k : Int) < (ss.length : Int) := by omega
    obtain ⟨au, cu, hu, _⟩ := (HQ.out wr (Below.refl _ wr)).rb.spell
    obtain ⟨v, hp⟩ := HM.out
    generalize ss[k] = s at *
    obtain ⟨sc, sa, sb, su, sbs⟩ := s
    dsimp only at hu
    subst hu
    dsimp only at *
    by_cases q0 : sc = 0
    · subst q0
      have hdr : Below wr.heap.size wr wr.drew := (Below.refl _ wr).drew
      have hlw : Below w.heap.size wr wr.drew := hdr.mono hz
      have HA := hide (HSe.out wr.drew v M (hp.below hdr) hz (by omega) sa sb _ sbs (HQ.out _ hlw).rb)
      have hS0 := (HC.out _ hlw).2
      have HMb := hide (fun W2 v2 (m2 : Mv wr.drew W2 w.heap.size v v2) => hlw.trans ((hp.below hdr).mvb m2 hz))
      have hM1 := stp_s M ⟨0, sa, sb, .slice au sbs.length cu, sbs⟩
      have hst : stp M ⟨0, sa, sb, .slice au sbs.length cu, sbs⟩ = sdN M sa sb sbs := by unfold stp; rw [if_pos rfl]
      rw [hst] at hM1
      generalize sdN M sa sb sbs = M' at *
      generalize sdE M sa sb sbs = er at *
      clear hst HS HM HQ hp hdr hlw
      go_upto_region 6 with fail
      refine wp_region_held_drew (S := (fun V => V.cell? ⟨b, off + k * 4 + 1, none⟩ = some (.int .i64 sa) ∧ V.cell? ⟨b, off + k * 4 + 2, none⟩ = some (.int .i64 sb) ∧ V.cell? ⟨b, off + k * 4 + 3, none⟩ = some (.slice au sbs.length cu))) (by kernel_rfl) (by ((try dsimp only) <;> (first | with_reducible exact hS0 | with_reducible exact hS2))) (fun hHeld => ?_)
      refine tkY 0 ?_
      refine tkY 1 ?_
      refine tkY 2 ?_
      refine tkY 3 ?_
      refine tkY 4 ?_
      refine tkY 5 ?_
      refine tkY 6 ?_
      refine tkY 7 ?_
      refine tkY 8 ?_
      refine tkY 9 ?_
      refine tkY 10 ?_
      refine tkY 11 ?_
      refine tkY 12 ?_
      refine tkY 13 ?_
      refine tkY 14 ?_
      refine tkY 15 ?_
      refine rd1 16 (fun K hK => ?_)
      (try simp only [ly0, ly1, ly2, ly3, ly4, ly5, ly6, ly7])
      go_simp
      (go_at_call 14; refine HA.out.mono ?_; rintro e w2 ⟨v2, rfl, hn2, hm2⟩; have hb2 := HMb.out _ _ hm2; have hS2 := (HC.out _ hb2).2; have HN2 : Hid (∃ v, Np w2 w.heap.size w.heap.size v M') := ⟨_, hn2⟩)
      first | refine hK.out _ _ ?k1 (fun hHeld => ?_) | (go_wp2_with fail; refine hK.out _ _ ?k1 (fun hHeld => ?_))
      case k1 => ((try dsimp only) <;> (first | with_reducible exact hS0 | with_reducible exact hS2))
      clear hK K
      (try simp only [ly0, ly1, ly2, ly3, ly4, ly5, ly6, ly7])
      refine wpAnyH_done (by kernel_rfl) ?_ _
      clear hS0 hS2 HC HA HMb hn2 hm2
      go_wp2_with fail
      go_roundw
      case rel => exact ⟨k + 1, M', by omega, by go_num, by omega, HN2, hB.trans hb2⟩
      case measure => simp [intOf]; omega
    · have n0 : (sc == 0) = false := beq_eq_false_iff_ne.2 q0
      clear HS HQ HC hp
      go_wp2_with fail
      go_roundw
      case rel => exact ⟨k + 1, M, by omega, by go_num, by omega, HM, hB⟩
      case measure => simp [intOf]; omega
  · obtain rfl : k = ss.length := by omega
    obtain ⟨v, hp⟩ := HM.out
    have hl4 := hp.o.ok.len
    have HP0 := hide hp
    have HP1 := hide (HPe.out _ _ _ hp)
    clear HS HSe HM hp
    by_cases hl0 : M.l.length = 0
    · go_wp2_with (first
       | (go_at_call 18; refine HP1.out.mono ?_; rintro e w2 ⟨v2, ls, rfl, hq2, he2, hb2⟩; obtain ⟨a2, k2, hv2, _⟩ := own_spellO hq2.row; rw [List.length_map, show ls.length = 0 by rw [<- hl0, <- he2, List.length_map]] at hv2; subst hv2)
       | (go_at_call 11; refine (ga.out _).mono ?_; rintro e w5 ⟨rfl, hb5⟩; have hB5 := Below.next (Below.next hB (hb2.mono (Nat.le_refl _))) hb5))
      go_ret
      exact ⟨by simp, hB5⟩
    · have hal : ai % M.l.length < M.l.length := Nat.mod_lt _ (by omega)
      have hbl : at' % M.l.length < M.l.length := Nat.mod_lt _ (by omega)
      have F := moves_facts hal hbl
      have hr1 : Int.tmod (ai : Int) (M.l.length : Int) = ((ai % M.l.length : Nat) : Int) := by rw [Int.ofNat_tmod]
      have hr2 : Int.tmod (at' : Int) (M.l.length : Int) = ((at' % M.l.length : Nat) : Int) := by rw [Int.ofNat_tmod]
      go_upto_region 10 with (first
       | (go_at_call 18; refine HP1.out.mono ?_; rintro e w2 ⟨v2, ls, rfl, hq2, he2, hb2⟩; obtain ⟨a2, k2, hv2, _⟩ := own_spellO hq2.row; rw [List.length_map, show ls.length = M.l.length by rw [<- he2, List.length_map]] at hv2; subst hv2))
      go_quiet (fail)
      have hm1 : (ai : Int) % (M.l.length : Int) = ((ai % M.l.length : Nat) : Int) := by omega
      have hm2 : (at' : Int) % (M.l.length : Int) = ((at' % M.l.length : Nat) : Int) := by omega
      rw [hm1, hm2]
      have hb3 := below_drewN hb2 nq
      have hq3 := hq2.below (below_drewN (Below.refl w2.heap.size w2) nq)
      generalize w2.drewN nq = w3 at *
      clear hm1 hm2 hr1 hr2 hb2 hq2 HP1
      generalize ai % M.l.length = a at *
      generalize at' % M.l.length = b at *
      obtain ⟨F1, F2, F3, F4, F5⟩ := F
      have hb3' := hB.trans (hb3.mono hz)
      have hz3 : w.heap.size <= w3.heap.size := Nat.le_trans hz hb3.size
      have HP3 := hide (HP0.out.below hb3)
      have HM3 := hide (HMo.out w3 v M (a : Int) (b : Int) HP3.out)
      rw [F1] at HM3
      have HQ3 := hide hq3
      have hpa : M.l[a]? = some M.l[a] := List.getElem?_eq_getElem hal
      rw [hpa] at F3
      have HE2 := hide he2
      have HL := hide hl4
      generalize M.l[a] = p at *
      clear F1 hq3 HP0 hb3 hB he2 hl4
      have ha0 : (0 : Int) <= (a : Int) := by omega
      have ha1 : (a : Int) < (M.l.length : Int) := by omega
      have hb0 : (0 : Int) <= (b : Int) := by omega
      have hb1 : (b : Int) < (M.l.length : Int) := by omega
      generalize hN1 : mvN M a b = N1 at *
      have HF5 := hide F5
      have HF4 := hide F4
      have HF3 := hide F3
      have HF2 := hide F2
      have HPA := hide hpa
      clear F5 F4 F3 F2 hpa hN1 hal hbl
      have hMl := HL.out
      go_upto_region 13 with (first
       | (go_at_call 17; refine HM3.out.mono ?_; rintro e w4 ⟨v4, rfl, hn4, hm4⟩; have HN4 := hide hn4; have HQ4 := hide (HQ3.out.mv HP3.out hm4); have HB4 := hide (hb3'.trans (HP3.out.mvb hm4 hz3)); have hz4 : w.heap.size <= w4.heap.size := Nat.le_trans hz3 hm4.kq.size; have HP4 := hide (HPe.out _ _ _ hn4); clear hn4 hm4)
       | (go_at_call 18; refine HP4.out.mono ?_; rintro e w5 ⟨v5, l5, rfl, hq5, he5, hb5⟩; obtain ⟨a5, k5, hv5, _⟩ := own_spellO hq5.row; rw [List.length_map, show l5.length = M.l.length by rw [<- HF2.out, <- he5, List.length_map]] at hv5; subst hv5))
      have HQ5 := hide (HQ4.out.below hb5)
      have HN5 := hide (HN4.out.below hb5)
      have HB5 := hide (HB4.out.trans (hb5.mono hz4))
      have hz5 : w.heap.size <= w5.heap.size := Nat.le_trans hz4 hb5.size
      obtain ⟨x1, _, q1, _, q2⟩ := hq5.pl he5
      obtain ⟨b1, u1, rfl, hb1', c0, c1, c2, r1⟩ := q2 b p HF3.out
      obtain ⟨x2, _, q3, _, q4⟩ := HQ5.out.pl HE2.out
      obtain ⟨b2, u2, rfl, hb2', d0, d1, d2, r2⟩ := q4 a p HPA.out
      have e1 : a5 = some ⟨b1, 0, none⟩ := by injection q1
      have e3 : a2 = some ⟨b2, 0, none⟩ := by injection q3
      subst e1 e3
      clear q1 q3 q2 q4 hq5 he5 hb5 HQ4 HN4 HB4 HP4 HQ3 HP3 HM3
      obtain ⟨a3, k3, rfl, _⟩ := r1.spell
      obtain ⟨a4, k4, rfl, _⟩ := r2.spell
      have HOne := hide (HO.out p _ _ w5.drew (r1.below (Below.refl _ w5).drew) (r2.below (Below.refl _ w5).drew))
      have hS0 : (w5.drew.cell? ⟨b1, b * 3, none⟩ = some (.int .i64 p.f) ∧ w5.drew.cell? ⟨b1, b * 3 + 1, none⟩ = some (.int .i64 p.t) ∧ w5.drew.cell? ⟨b1, b * 3 + 2, none⟩ = some (.slice a3 p.b.length k3)) ∧ (w5.drew.cell? ⟨b2, a * 3, none⟩ = some (.int .i64 p.f) ∧ w5.drew.cell? ⟨b2, a * 3 + 1, none⟩ = some (.int .i64 p.t) ∧ w5.drew.cell? ⟨b2, a * 3 + 2, none⟩ = some (.slice a4 p.b.length k4)) := ⟨⟨c0, c1, c2⟩, d0, d1, d2⟩
      have HSv : Hid (∀ V, Below w5.heap.size w5 V -> (V.cell? ⟨b1, b * 3, none⟩ = some (.int .i64 p.f) ∧ V.cell? ⟨b1, b * 3 + 1, none⟩ = some (.int .i64 p.t) ∧ V.cell? ⟨b1, b * 3 + 2, none⟩ = some (.slice a3 p.b.length k3)) ∧ (V.cell? ⟨b2, a * 3, none⟩ = some (.int .i64 p.f) ∧ V.cell? ⟨b2, a * 3 + 1, none⟩ = some (.int .i64 p.t) ∧ V.cell? ⟨b2, a * 3 + 2, none⟩ = some (.slice a4 p.b.length k4))) := fun V hb => ⟨⟨(hb.cell (p := ⟨b1, b * 3, none⟩) hb1').trans c0, (hb.cell (p := ⟨b1, b * 3 + 1, none⟩) hb1').trans c1, (hb.cell (p := ⟨b1, b * 3 + 2, none⟩) hb1').trans c2⟩, (hb.cell (p := ⟨b2, a * 3, none⟩) hb2').trans d0, (hb.cell (p := ⟨b2, a * 3 + 1, none⟩) hb2').trans d1, (hb.cell (p := ⟨b2, a * 3 + 2, none⟩) hb2').trans d2⟩
      clear r1 r2 c0 c1 c2 d0 d1 d2 HO
      refine wp_region_held_drew (S := (fun V => (V.cell? ⟨b1, b * 3, none⟩ = some (.int .i64 p.f) ∧ V.cell? ⟨b1, b * 3 + 1, none⟩ = some (.int .i64 p.t) ∧ V.cell? ⟨b1, b * 3 + 2, none⟩ = some (.slice a3 p.b.length k3)) ∧ (V.cell? ⟨b2, a * 3, none⟩ = some (.int .i64 p.f) ∧ V.cell? ⟨b2, a * 3 + 1, none⟩ = some (.int .i64 p.t) ∧ V.cell? ⟨b2, a * 3 + 2, none⟩ = some (.slice a4 p.b.length k4)))) (by kernel_rfl) (by ((try dsimp only) <;> (first | with_reducible exact hS0 | with_reducible exact hS1))) (fun hHeld => ?_)
      refine tkY 0 ?_
      refine tkY 1 ?_
      refine tkY 2 ?_
      refine tkY 3 ?_
      refine tkY 4 ?_
      refine tkY 5 ?_
      refine tkY 6 ?_
      refine tkY 7 ?_
      refine tkY 8 ?_
      refine tkY 9 ?_
      refine tkY 10 ?_
      refine tkY 11 ?_
      refine tkY 12 ?_
      refine tkY 13 ?_
      refine tkY 14 ?_
      refine tkY 15 ?_
      refine tkY 16 ?_
      refine tkY 17 ?_
      refine rd1 18 (fun K hK => ?_)
      (try simp only [ly0, ly1, ly2, ly3, ly4, ly5, ly6, ly7])
      go_simp
      (go_at_call 21; refine HOne.out.mono ?_; rintro e w6 ⟨rfl, hb6⟩; have hB6 := Below.trans (Below.refl w5.heap.size w5).drew hb6; have hS1 := HSv.out w6 hB6)
      first | refine hK.out _ _ ?k2 (fun hHeld => ?_) | (go_wp2_with fail; refine hK.out _ _ ?k2 (fun hHeld => ?_))
      case k2 => ((try dsimp only) <;> (first | with_reducible exact hS0 | with_reducible exact hS1))
      clear hK K
      (try simp only [ly0, ly1, ly2, ly3, ly4, ly5, ly6, ly7])
      refine tkY 19 ?_
      refine tkY 20 ?_
      refine wpAnyH_done (by kernel_rfl) ?_ _
      clear hS0 hS1 HSv HOne
      have HN6 := hide (HN5.out.below hB6)
      have HQ6 := hide (HQ5.out.below hB6)
      have HB6 := hide (HB5.out.trans (hB6.mono hz5))
      have hz6 : w.heap.size <= w6.heap.size := Nat.le_trans hz5 hB6.size
      have HM6 := hide (HMo.out w6 v4 N1 (b : Int) (a : Int) HN6.out)
      rw [HF4.out] at HM6
      clear hB6 hb6 HN5 HQ5 HB5 hb1' hb2'
      go_wp2_with (first
       | (go_at_call 17; refine HM6.out.mono ?_; rintro e w7 ⟨v7, rfl, hn7, hm7⟩; have HN7 := hide hn7; have HQ7 := hide (HQ6.out.mv HN6.out hm7); have HB7 := hide (HB6.out.trans (HN6.out.mvb hm7 hz6)); have hz7 : w.heap.size <= w7.heap.size := Nat.le_trans hz6 hm7.kq.size; clear hn7 hm7)
       | (go_at_call 11; refine (ga.out _).mono ?_; rintro e w8 ⟨rfl, hb8⟩; have HP8 := hide (HPe.out _ _ _ (HN7.out.below hb8)); have HQ8 := hide (HQ7.out.below hb8); have HB8 := hide (HB7.out.trans (hb8.mono hz7)); have hz8 : w.heap.size <= w8.heap.size := Nat.le_trans hz7 hb8.size; clear hb8)
       | (go_at_call 18; refine HP8.out.mono ?_; rintro e w9 ⟨v9, l9, rfl, hq9, he9, hb9⟩; obtain ⟨a9, k9, hv9, _⟩ := own_spellO hq9.row; rw [List.length_map, show l9.length = M.l.length by rw [<- HF5.out, <- he9, List.length_map]] at hv9; subst hv9; have HS9 := hide (HSm.out _ _ _ _ (hq9.pl (he9.trans HF5.out)) ((HQ8.out.below hb9).pl HE2.out) HL.out); have HB9 := hide (HB8.out.trans (hb9.mono hz8)); have hz9 : w.heap.size <= w9.heap.size := Nat.le_trans hz8 hb9.size; clear hq9 he9 hb9)
       | (go_at_call 22; refine HS9.out.mono ?_; rintro e w10 ⟨rfl, hb10⟩; have HB10 := HB9.out.trans (hb10.mono hz9)))
      go_ret
      exact ⟨by simp, HB10⟩
end Go.Proofs.Ytcglbbglapomgaa
