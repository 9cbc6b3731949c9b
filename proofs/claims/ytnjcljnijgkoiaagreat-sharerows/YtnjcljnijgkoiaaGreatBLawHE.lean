/-
  The statements of layer 14: ShareRows walked.
-/
import Derived.Test.YtnjcljnijgkoiaaGreatBLawHA
import Derived.Test.YtnjcljnijgkoiaaGreatBShsA
import Derived.Test.YtnjcljnijgkoiaaGreatBunAU
import Derived.Test.YtnjcljnijgkoiaaGreatBSpO
namespace Go.Proofs.YtnjcljnijgkoiaaGreat
open Go.RowKit Fld Pln Shr
set_option linter.unusedVariables false
set_option linter.unusedSimpArgs false

/-- Values appended to a list of the call's own. -/
theorem run_app_any {w : World} {base g n cap : Nat} {xs us : List Value} {u : Value} (ty : TypeId) (h : w.ownsRow base 33 1 (.slice (some ⟨g, 0, none⟩) n cap) n xs) (hu : Srl w u us) (hl : n + us.length ≤ 1000) (hb : base ≤ w.heap.size) :
    ∃ v' w', (Builtin.append_ #[25, 25] ty #[.slice (some ⟨g, 0, none⟩) n cap, u]).run Tryz.prog w = .ok v' w' ∧ w'.ownsRow base 33 1 v' (n + us.length) (xs ++ us) ∧ w.grownBy w' (some g) ∧ ∃ a c, v' = .slice a (n + us.length) c := by
  obtain ⟨i0, hi0, hz0, hz1, hz2⟩ := info_parts sl_info
  obtain ⟨ao, c, rfl, hc, hnone, hcell⟩ := hu.form
  cases ao with
  | none =>
    have := hnone rfl
    subst this
    have hnc : n ≤ cap := by
      rcases h.2 with ⟨e, _⟩ | ⟨_, _, _, e, _, _, h4, _⟩
      · cases e
      · cases e; exact h4
    have hr : (Builtin.append_ #[25, 25] ty #[.slice (some ⟨g, 0, none⟩) n cap, .slice none 0 c]).run Tryz.prog w = .ok (.slice (some ⟨g, 0, none⟩) n cap) w := by
      simp [Builtin.append_, run_underlying Tryz.underlying25, sizeOf, typeInfo, hi0, Builtin.lenOf, Builtin.firstCells, hnc, storeCells]
    exact ⟨_, w, hr, by simpa using h, grown_refl _ _, _, _, rfl⟩
  | some ad =>
    obtain ⟨g', cap', w', hr, hO, hat⟩ := run_append_parts (P := Tryz.prog) w base 25 ty 33 i0 _ 1 24 Tryz.underlying25 hi0 hz0 hz1 hz2 rfl (by omega) g n cap xs h ad us.length c us (by omega) (fun j u hj => by
      obtain ⟨b, off, e, _, hcl⟩ := hcell j u hj
      cases e
      rw [add_at]; exact hcl) hu.one (by unfold maxLen; omega) (by omega) hb
    refine ⟨_, w', hr, hO, ?_, _, _, rfl⟩
    rcases hat with ⟨_, _, hg⟩ | ⟨_, hg⟩
    · exact hg
    · exact ⟨hg.os, hg.tape, hg.output, hg.size, fun j hj _ => hg.block j hj (by simp)⟩

theorem app_pads {w w6 : World} {lo G n cg np cp : Nat} {ap : Option Addr} {us usp : List Value} {dl pl : List (List Int)} (ty : TypeId) (hM : Mtx w6 lo (.slice (some ⟨G, 0, none⟩) n cg) us dl) (hn : dl.length = n) (hdw : ∀ i, Wd (dl.getD i [])) (hs : Srl w (.slice ap np cp) usp) (hul : usp.length = pl.length) (hnp : pl.length = np) (hu : ∀ i, i < pl.length → Rw w (usp.getD i nov) (pl.getD i [])) (hB : Below w.heap.size w w6) (hlo : w.heap.size ≤ lo) (hlo6 : lo ≤ w6.heap.size) (hl : n + np ≤ 1000) :
    ∃ a c w', (Builtin.append_ #[25, 25] ty #[.slice (some ⟨G, 0, none⟩) n cg, .slice ap np cp]).run Tryz.prog w6 = .ok (.slice a (n + np) c) w' ∧ Rws w' (.slice a (n + np) c) (dl ++ pl) ∧ Below lo w6 w' := by
  have hrow := hM.row
  rw [hn] at hrow
  obtain ⟨v', w', hr, hO, hg, a, c, rfl⟩ := run_app_any ty hrow (hs.below hB) (by omega) hlo6
  have hB' : Below lo w6 w' := (Below.refl lo w6).grown hg hlo6 (fun j e => by cases e; exact own_base hM.row G rfl)
  have hBw : Below w.heap.size w w' := hB.trans (hB'.mono hlo)
  rw [hul, hnp] at hr hO
  refine ⟨a, c, w', hr, ?_, hB'⟩
  refine own_rws (n := n + np) hO (by rw [List.length_append]; omega) (fun i hi => ?_) hl
  rw [List.length_append] at hi
  have hlus := hM.len
  rw [getD_app, getD_app, hlus]
  by_cases hi2 : i < dl.length
  · rw [if_pos hi2, if_pos hi2]
    exact (hdw i).row (own_kept (hM.each i hi2) hg (fun g hgb hc => own_kind (hM.each i hi2) hM.row (Ne.symm ne_kinds) g hgb hc))
  · rw [if_neg hi2, if_neg hi2]
    exact (hu _ (by omega)).below hBw
/-- A share while it is put together by its row. -/
def dDs (q : Int) (xs : List Int) (z : Int) (bl : List (List Int)) (t k : Nat) : Int := ds q (bs q xs z) (co (col bl t)) k
def xkj (q : Int) (xs : List Int) (z : Int) (bl : List (List Int)) (n k j : Nat) : List Int := mk n (fun t => if t < j then dDs q xs z bl t (k + 1) else dDs q xs z bl t k)
theorem xkj_len (q : Int) (xs : List Int) (z : Int) (bl : List (List Int)) (n k j : Nat) : (xkj q xs z bl n k j).length = n := mk_len _ _
theorem xkj_zero (q : Int) (xs : List Int) (z : Int) (bl : List (List Int)) (n : Nat) : xkj q xs z bl n 0 0 = List.replicate n 0 := by
  refine ext_co (by rw [xkj_len]; simp) (fun i hi => ?_)
  rw [xkj_len] at hi
  unfold xkj
  rw [co_mk, if_pos hi, if_neg (by omega)]
  unfold co
  rw [List.getD_eq_getElem?_getD, List.getElem?_replicate, if_pos hi]; rfl
theorem xkj_here {q : Int} {xs : List Int} {z : Int} {bl : List (List Int)} {n k j : Nat} (hj : j < n) : (xkj q xs z bl n k j).getD j 0 = dDs q xs z bl j k := by
  show co (mk _ _) j = _
  rw [co_mk, if_pos hj, if_neg (by omega)]
theorem xkj_set {q : Int} {xs : List Int} {z : Int} {bl : List (List Int)} {n k j : Nat} (hj : j < n) : (xkj q xs z bl n k j).set j (dDs q xs z bl j (k + 1)) = xkj q xs z bl n k (j + 1) := by
  refine ext_co (by rw [List.length_set, xkj_len, xkj_len]) (fun i hi => ?_)
  rw [List.length_set, xkj_len] at hi
  show ((xkj q xs z bl n k j).set j _).getD i 0 = _
  rw [Rnk.getD_set _ _ _ (by rw [xkj_len]; exact hj)]
  unfold xkj
  show (if i = j then _ else co (mk _ _) i) = _
  rw [co_mk, co_mk, if_pos hi, if_pos hi]
  by_cases e : i = j
  · rw [if_pos e, if_pos (by omega), e]
  · rw [if_neg e]
    by_cases e2 : i < j
    · rw [if_pos e2, if_pos (by omega)]
    · rw [if_neg e2, if_neg (by omega)]
theorem xkj_next (q : Int) (xs : List Int) (z : Int) (bl : List (List Int)) (n k : Nat) : xkj q xs z bl n k n = xkj q xs z bl n (k + 1) 0 := by
  refine ext_co (by rw [xkj_len, xkj_len]) (fun i hi => ?_)
  rw [xkj_len] at hi
  unfold xkj
  rw [co_mk, co_mk, if_pos hi, if_pos hi, if_pos hi, if_neg (by omega)]
theorem xkj_end {q : Int} {wd : Bool} (hm : Md q wd) {xs : List Int} (hx : Els q xs) (hn : xs.Nodup) {bl : List (List Int)} (hb : ∀ b ∈ bl, Els q b) (n : Nat) (z : Int) : xkj q xs z bl n xs.length 0 = shr q xs n bl z := by
  refine ext_co (by rw [xkj_len, shr_len]) (fun i hi => ?_)
  rw [xkj_len] at hi
  rw [shr_row hm hx hn hb z hi]
  unfold xkj
  rw [co_mk, if_pos hi, if_neg (by omega)]; rfl
theorem dDs_step {q : Int} {xs : List Int} {z : Int} {bl : List (List Int)} {t k : Nat} (hk : k < bl.length) : add q (dDs q xs z bl t k) (mul q (bs q xs z k) (co (bl.getD k []) t)) = dDs q xs z bl t (k + 1) := by
  unfold dDs
  show _ = add q _ (mul q (bs q xs z k) (co (col bl t) k))
  rw [col_at hk, List.getD_eq_getElem?_getD, List.getElem?_eq_getElem hk]; rfl

set_option maxRecDepth 100000 in
set_option maxHeartbeats 4000000 in
theorem shareRows_any (w : World) (p : Pn) (vd vp : Value) (dl pl : List (List Int)) (hp : Ok8p p) (h1 : Rws w vd dl) (h2 : Rws w vp pl) : Calls Tryz.prog 5 #[plv p, .agg #[vd, vp]] w fun e w' => e = .returned (.bool true) ∧ Below w.heap.size w w' := by
  have HAl := hide (fun W (hb : Below w.heap.size w W) => gAll p vd vp dl pl W hp (h1.below hb) (h2.below hb))
  unfold GivesM at HAl
  have HBd := hide (fun W (hb : Below w.heap.size w W) => dBad14 p vd vp dl pl W hp (h1.below hb) (h2.below hb))
  have HX := hide anch14
  have HR1 := hide h1
  have HR2 := hide h2
  have W1' := h1.wordsH
  have W2' := h2.wordsH
  obtain ⟨ad, cd, hvd, _, _, _⟩ := h1
  obtain ⟨ap, cp, hvp, _, _, _⟩ := h2
  by_cases hz : bkE p dl pl [] = 0
  · obtain ⟨q, wd, hm, hf, hbe, hbw, hdl, hpl, hbl', ie, inn, i64', oe, on, o64, dd0, _⟩ := bk_facts hz W1' W2'
    obtain ⟨⟨n0, n1⟩, ⟨pk0, pk1⟩, ⟨pt0, pt1⟩, _, _, _, ww0, ww1⟩ := may_facts hm
    rw [hz] at HAl HBd
    have hlen : dl.length + pl.length ≤ 64 := by rw [List.length_append] at hbl'; omega
    have HRo := hide (fun W => dRows p W hp)
    unfold GivesL at HRo
    rw [erP_yes hm, show rwsL p = (outL p).map (fun z => bsl q (innL p) z) by unfold rwsL; rw [if_pos hm, chg_zero hf ie inn oe (by omega) (by omega)]] at HRo
    have HCp := hide (fun W (hb : Below w.heap.size w W) => CopyRows_all vd dl W (HR1.out.below hb) (by omega))
    have HP := hide (fun W => rP_yes p.f q wd W hf)
    have hal : allL p dl pl = (outL p).map (shr q (innL p) p.w.toNat (dl ++ pl)) := by unfold allL; rw [if_pos hz, pOf_eq hf]
    have hall : (allL p dl pl).length = (outL p).length := by rw [hal, List.length_map]
    have RA : Hid (∀ W lo v us, Mtx W lo v us (allL p dl pl) → Rws W v (allL p dl pl)) := fun W lo v us h => h.rws (getD_wd (fun b hb => by
      rw [hal] at hb
      obtain ⟨z, _, rfl⟩ := List.mem_map.1 hb
      exact wd_els (shr_els hf.pos _ _ _ _) hf.top (by rw [shr_len]; omega))) (by rw [hall]; omega)
    have Hrl : Hid (((outL p).map (fun z => bsl q (innL p) z)).length = p.n.toNat) := by show _ = _; rw [List.length_map]; exact on
    have RR : Hid (∀ W lo hi v us, Lss W lo hi v us ((outL p).map (fun z => bsl q (innL p) z)) → Rws W v ((outL p).map (fun z => bsl q (innL p) z))) := fun W lo hi v us h => h.rws (getD_wd (fun b hb => by
      obtain ⟨z, _, rfl⟩ := List.mem_map.1 hb
      exact wd_els (bsl_els hf.pos _ _) hf.top (by rw [bsl_len]; omega))) (by rw [List.length_map]; omega)
    -- the rows, the blocks, the shares at their places
    have Hrow : Hid (∀ i, i < (outL p).length → ((outL p).map (fun z => bsl q (innL p) z)).getD i [] = bsl q (innL p) (co (outL p) i)) := fun i hi => map_bsl hi
    have Hshr : Hid (∀ i, i < (outL p).length → (allL p dl pl).getD i [] = shr q (innL p) p.w.toNat (dl ++ pl) (co (outL p) i)) := fun i hi => by
      rw [hal, List.getD_eq_getElem?_getD, List.getElem?_map, List.getElem?_eq_getElem hi, co_at hi]; rfl
    have Hbsl : Hid (∀ z k, k < (dl ++ pl).length → co (bsl q (innL p) z) k = bs q (innL p) z k) := fun z k hk => bsl_at (by rw [← hbl']; exact hk)
    have Hbll : Hid (∀ z, (bsl q (innL p) z).length = (dl ++ pl).length) := fun z => by rw [bsl_len, hbl']
    have Hblw : Hid (∀ k, k < (dl ++ pl).length → ((dl ++ pl).getD k []).length = p.w.toNat) := fun k hk => hbw _ (getD_memA [] hk)
    have HTi : Hid (∀ z k t, k < (dl ++ pl).length → ∀ W, Calls Tryz.prog 23 #[.int .u64 q, .int .u64 (bs q (innL p) z k), .int .u64 (co ((dl ++ pl).getD k []) t)] W fun e w' => e = .returned (.int .u64 (mul q (bs q (innL p) z k) (co ((dl ++ pl).getD k []) t))) ∧ w' = W) := fun z k t hk W => by
      have hb := (hbe _ (getD_memA [] hk)).co hf.pos t
      exact rTimes_any q _ _ W hf.top (bs_el hf.pos _ _ _) (elWord hb hf.top).1 (elWord hb hf.top).2
    have HSu : Hid (∀ z k t, k < (dl ++ pl).length → ∀ W, Calls Tryz.prog 22 #[.int .u64 q, .int .u64 (dDs q (innL p) z (dl ++ pl) t k), .int .u64 (mul q (bs q (innL p) z k) (co ((dl ++ pl).getD k []) t))] W fun e w' => e = .returned (.int .u64 (dDs q (innL p) z (dl ++ pl) t (k + 1))) ∧ w' = W) := fun z k t hk W => by
      have := rSum_any q (dDs q (innL p) z (dl ++ pl) t k) (mul q (bs q (innL p) z k) (co ((dl ++ pl).getD k []) t)) W hf.top (ds_el hf.pos _ _ _) (mul_el hf.pos)
      rw [dDs_step hk] at this
      exact this
    have HXe : Hid (∀ z, xkj q (innL p) z (dl ++ pl) p.w.toNat (dl ++ pl).length 0 = shr q (innL p) p.w.toNat (dl ++ pl) z) := fun z => by rw [hbl']; exact xkj_end hf.md ie inn hbe _ z
    have HXw : Hid (∀ z, Wd (shr q (innL p) p.w.toNat (dl ++ pl) z)) := fun z => wd_els (shr_els hf.pos _ _ _ _) hf.top (by rw [shr_len]; omega)
    have hbl64 : (dl ++ pl).length ≤ 64 := by rw [List.length_append]; omega
    obtain ⟨N, HN⟩ : ∃ N : Nat, Hid (p.n = (N : Int)) := ⟨p.n.toNat, by show _ = _; omega⟩
    obtain ⟨n, Hn⟩ : ∃ n : Nat, Hid (p.w = (n : Int)) := ⟨p.w.toNat, by show _ = _; omega⟩
    have eN : (outL p).length = N := by have := HN.out; omega
    have en : p.w.toNat = n := by have := Hn.out; omega
    rw [show p.n.toNat = N by have := HN.out; omega] at Hrl
    rw [eN] at Hrow Hshr
    rw [eN] at hall
    rw [en] at Hshr Hblw HXe HXw
    have hN1 : 0 < N := by have := HN.out; omega
    have hN64 : N ≤ 64 := by omega
    have hn1 : 0 < n := by omega
    have hn64 : n ≤ 64 := by omega
    -- pads as an append takes them
    obtain ⟨usp, nup, sp, rup⟩ := rws_srl HR2.out
    have Hsp := hide sp
    have Hrup := hide rup
    have Hnup := hide nup
    have Hap := hide (fun w6 lo G cg us hM hB hlo hlo6 => app_pads (w := w) (w6 := w6) (lo := lo) (G := G) (cg := cg) (us := us) (n := dl.length) (np := pl.length) (cp := cp) (ap := ap) 25 hM rfl (getD_wd W1') (by subst hvp; exact sp) nup rfl rup hB hlo hlo6 (by omega))
    subst hvd hvp
    clear hz hm hf hbe hbw hdl hpl hbl' ie inn oe on hal W1' W2' hp sp rup nup
    obtain ⟨NB, HNB⟩ : ∃ NB, Hid ((dl ++ pl).length = NB) := ⟨_, rfl⟩
    rw [HNB.out] at Hbsl Hbll Hblw HTi HSu HXe hbl64
    have HNB1 : Hid (dl.length + pl.length = NB) := by show _ = _; rw [← HNB.out, List.length_append]
    generalize allL p dl pl = al at *
    generalize (outL p).map (fun z => bsl q (innL p) z) = rws at *
    generalize hbb : dl ++ pl = bl at *
    have Hbb := hide hbb
    clear hbb
    generalize outL p = os at *
    generalize innL p = is at *
    obtain ⟨nd, Hnd⟩ : ∃ nd, Hid (dl.length = nd) := ⟨_, rfl⟩
    obtain ⟨np, Hnp⟩ : ∃ np, Hid (pl.length = np) := ⟨_, rfl⟩
    rw [Hnd.out] at HAl HBd HCp HR1 dd0 hlen Hap HNB1 ⊢
    rw [Hnp.out] at HAl HBd HR2 hlen Hap HNB1 ⊢
    clear Hsp Hrup Hnup
    rw [plan_eq] at *
    obtain ⟨W1, hW, hA, hS⟩ := sec_box w p (.slice ad nd cd) (.slice ap np cp) 27
    have HW := hide hW
    have HS := hide hS
    clear hW hS
    rw [HN.out, Hn.out] at HW HS HAl HBd HRo
    rw [HN.out, Hn.out]
    clear HN Hn n0 n1 ww0 ww1
    obtain ⟨⟨c0, c1, c2, c3, c4, c5, c6, c7⟩, d0, d1⟩ := HS.out _ (Below.refl _ _)
    have ht2 : ((al.length : Int) != (N : Int)) = false := by rw [hall]; simp
    have Hall := hide hall
    clear hall
    go_enter Tryz.func5, Tryz.ntmps5
    go_upto_region 1 with fail
    rw [HW.out]
    go_upto_region 5 with (first
      | (go_at_call 9; refine (HAl.out _ hA).mono ?_; rintro e w3 ⟨v3, us3, rfl, x3, hb3⟩; have hC3 := hb3; have hB3 := Below.next hA hC3; have RL3 := hide (RA.out _ _ _ _ x3); obtain ⟨al3, cl3, rfl⟩ := own_form x3.row; clear x3; clear c0 c1 c2 c3 c4 c5 c6 c7 d0 d1; obtain ⟨⟨c0, c1, c2, c3, c4, c5, c6, c7⟩, d0, d1⟩ := HS.out _ hC3)
      | (go_at_call 18; refine (HBd.out _ hB3).mono ?_; rintro e w4 ⟨rfl, hb4⟩; have hC4 := Below.next hC3 hb4; have hB4 := Below.next hA hC4; have RL4 := hide (RL3.out.below hb4); clear c0 c1 c2 c3 c4 c5 c6 c7 d0 d1; obtain ⟨⟨c0, c1, c2, c3, c4, c5, c6, c7⟩, d0, d1⟩ := HS.out _ hC4)
      | (go_at_call 19; refine (HRo.out _).mono ?_; rintro e w5 ⟨v5, us5, rfl, x5, hb5⟩; have hC5 := Below.next hC4 hb5; have hB5 := Below.next hA hC5; have RL5 := hide (RL4.out.below hb5); have RR5 := hide (RR.out _ _ _ _ _ x5); obtain ⟨ar5, cr5, rfl⟩ := own_form x5.row; clear x5; clear c0 c1 c2 c3 c4 c5 c6 c7 d0 d1; obtain ⟨⟨c0, c1, c2, c3, c4, c5, c6, c7⟩, d0, d1⟩ := HS.out _ hC5))
    clear RL3 RL4 HAl HBd HRo RA RR c0 c1 c2 c3 c4 c5 c6 c7 d0 d1
    have hdr : Below w5.heap.size w5 w5.drew := (Below.refl _ w5).drew
    have hS0 := (HS.out _ (Below.next hC5 hdr)).2
    have hBd5 := Below.next hB5 hdr
    refine wp_region_held_drew (S := (fun V => V.cell? ⟨w.heap.size + 1, 0, none⟩ = some (.slice ad nd cd) ∧ V.cell? ⟨w.heap.size + 1, 1, none⟩ = some (.slice ap np cp))) (by kernel_rfl) (by ((try dsimp only) <;> (first | with_reducible exact hS2 | with_reducible exact hS1 | with_reducible exact hS0))) (fun hHeld => ?_)
    (refine wpAnyH_take (i := 0) (oi := _) (v := ?v49) rfl (by kernel_rfl) (by kernel_rfl) (by kernel_rfl) (fun _ _ _ h => h) (Or.inl ⟨by rfl, ?hy49⟩) (by assumption) ?rest49; (case hy49 => (first | (intro w hSw; (try dsimp only at hSw); go_simp; done) | (intro w hSw; (try dsimp only at hSw); go_simp; with_reducible rfl))); (try simp only [Act.put, List.getElem_toArray, List.getElem_cons_succ, List.getElem_cons_zero, List.setIfInBounds_toArray, List.set_cons_zero, List.set_cons_succ]))
    (refine wpAnyH_take (i := 1) (oi := _) (v := ?v50) rfl (by kernel_rfl) (by kernel_rfl) (by kernel_rfl) (fun _ _ _ h => h) (Or.inl ⟨by rfl, ?hy50⟩) (by assumption) ?rest50; (case hy50 => (first | (intro w hSw; (try dsimp only at hSw); go_simp; done) | (intro w hSw; (try dsimp only at hSw); go_simp; with_reducible rfl))); (try simp only [Act.put, List.getElem_toArray, List.getElem_cons_succ, List.getElem_cons_zero, List.setIfInBounds_toArray, List.set_cons_zero, List.set_cons_succ]))
    (refine wpAnyH_take (i := 3) (oi := _) (v := ?v51) rfl (by kernel_rfl) (by kernel_rfl) (by kernel_rfl) (fun _ _ _ h => h) (Or.inl ⟨by rfl, ?hy51⟩) (by assumption) ?rest51; (case hy51 => (first | (intro w hSw; (try dsimp only at hSw); go_simp; done) | (intro w hSw; (try dsimp only at hSw); go_simp; with_reducible rfl))); (try simp only [Act.put, List.getElem_toArray, List.getElem_cons_succ, List.getElem_cons_zero, List.setIfInBounds_toArray, List.set_cons_zero, List.set_cons_succ]))
    (refine wpAnyH_take (i := 4) (oi := _) (v := ?v52) rfl (by kernel_rfl) (by kernel_rfl) (by kernel_rfl) (fun _ _ _ h => h) (Or.inl ⟨by rfl, ?hy52⟩) (by assumption) ?rest52; (case hy52 => (first | (intro w hSw; (try dsimp only at hSw); go_simp; done) | (intro w hSw; (try dsimp only at hSw); go_simp; with_reducible rfl))); (try simp only [Act.put, List.getElem_toArray, List.getElem_cons_succ, List.getElem_cons_zero, List.setIfInBounds_toArray, List.set_cons_zero, List.set_cons_succ]))
    refine wpAnyH_ready (rs := [2]) (by kernel_rfl) (by simp) ?_
    refine AllReadyH.cons (o := _) rfl (fun K hK => ?_) AllReadyH.nil
    try simp only [List.getElem_toArray, List.getElem_cons_succ, List.getElem_cons_zero]
    go_simp
    (first
          | (go_at_call 20; refine (HCp.out _ hBd5).mono ?_; rintro e w6 ⟨v6, us6, rfl, x6, hb6⟩; have hC6 := Below.next (Below.next hC5 hdr) hb6; have hB6 := Below.next hA hC6; have hS1 := (HS.out _ hC6).2; obtain ⟨G6, cg6, rfl, hG6, _, _⟩ := x6.mtx.spell (by rw [Hnd.out]; exact dd0); have hM6 := x6.mtx; rw [Hnd.out] at hM6; rw [Hnd.out]; clear x6; obtain ⟨a7, c7', w7, hr7, hR7, hb7⟩ := Hap.out _ _ _ _ _ hM6 hB6 hBd5.size hb6.size; have hC7 := Below.next (Below.next hC5 hdr) (hb6.trans hb7); have hS2 := (HS.out _ hC7).2)
          | (refine step_append_run (by rfl) _ _ _ _ (by rfl) _ _ (by rfl) (by rfl) _ w7 hr7 ?_))
    first | (refine hK.out _ _ (by ((try dsimp only) <;> (first | with_reducible exact hS2 | with_reducible exact hS1 | with_reducible exact hS0))) (fun hHeld => ?_)) | (go_wp2_with fail; refine hK.out _ _ (by ((try dsimp only) <;> (first | with_reducible exact hS2 | with_reducible exact hS1 | with_reducible exact hS0))) (fun hHeld => ?_))
    clear hK K
    (try simp only [Act.put, List.getElem_toArray, List.getElem_cons_succ, List.getElem_cons_zero, List.setIfInBounds_toArray, List.set_cons_zero, List.set_cons_succ])
    refine wpAnyH_ready (rs := [5]) (by kernel_rfl) (by simp) ?_
    refine AllReadyH.cons (o := _) rfl (fun K hK => ?_) AllReadyH.nil
    (first
          | (go_at_call 20; refine (HCp.out _ hBd5).mono ?_; rintro e w6 ⟨v6, us6, rfl, x6, hb6⟩; have hC6 := Below.next (Below.next hC5 hdr) hb6; have hB6 := Below.next hA hC6; have hS1 := (HS.out _ hC6).2; obtain ⟨G6, cg6, rfl, hG6, _, _⟩ := x6.mtx.spell (by rw [Hnd.out]; exact dd0); have hM6 := x6.mtx; rw [Hnd.out] at hM6; rw [Hnd.out]; clear x6; obtain ⟨a7, c7', w7, hr7, hR7, hb7⟩ := Hap.out _ _ _ _ _ hM6 hB6 hBd5.size hb6.size; have hC7 := Below.next (Below.next hC5 hdr) (hb6.trans hb7); have hS2 := (HS.out _ hC7).2)
          | (refine step_append_run (by rfl) _ _ _ _ (by rfl) _ _ (by rfl) (by rfl) _ w7 hr7 ?_))
    refine hK.out _ _ (by ((try dsimp only) <;> (first | with_reducible exact hS2 | with_reducible exact hS1 | with_reducible exact hS0))) (fun hHeld => ?_)
    clear hK K
    (try simp only [Act.put, List.getElem_toArray, List.getElem_cons_succ, List.getElem_cons_zero, List.setIfInBounds_toArray, List.set_cons_zero, List.set_cons_succ])
    (refine wpAnyH_take (i := 6) (oi := _) (v := ?v53) rfl (by kernel_rfl) (by kernel_rfl) (by kernel_rfl) (fun _ _ _ h => h) (Or.inl ⟨by rfl, ?hy53⟩) (by assumption) ?rest53; (case hy53 => (first | (intro w hSw; (try dsimp only at hSw); go_simp; done) | (intro w hSw; (try dsimp only at hSw); go_simp; with_reducible rfl))); (try simp only [Act.put, List.getElem_toArray, List.getElem_cons_succ, List.getElem_cons_zero, List.setIfInBounds_toArray, List.set_cons_zero, List.set_cons_succ]))
    refine wpAnyH_done (by kernel_rfl) ?_ _
    have hB7 := Below.next hA hC7
    have K7 : Below w5.heap.size w5 w7 := hdr.trans (hb6.trans hb7)
    have RL7 := hide (RL5.out.below K7)
    have RR7 := hide (RR5.out.below K7)
    rw [HNB1.out] at hR7
    rw [HNB1.out]
    have RB7 := hide hR7
    clear hS0 hS1 hS2 RL5 RR5 hM6 hr7 hR7 hb6 hb7 Hap HCp HR1 HR2
    have HSw := hide (fun V (hb : Below w7.heap.size w7 V) => HS.out V (Below.next hC7 hb))
    have hmk := makeW n (by omega)
    -- what is read in the inner loops
    have HRc : Hid (∀ V, Below w7.heap.size w7 V → ∀ i k, i < N → k < NB → ∃ rb ro b2 o2 c2, ar5 = some ⟨rb, ro, none⟩ ∧ V.cell? ⟨rb, ro + i, none⟩ = some (.slice (some ⟨b2, o2, none⟩) NB c2) ∧ V.cell? ⟨b2, o2 + k, none⟩ = some (.int .u64 (bs q is (co os i) k))) := fun V hb i k hi hk => by
      have hl : rws.length = N := Hrl.out
      obtain ⟨rb, ro, cr, hv, _⟩ := RR7.out.some_ (by rw [hl]; omega)
      injection hv with hv _ _
      subst hv
      have h1 := Hrow.out i hi
      have h2 : (rws.getD i []).length = NB := by rw [h1, Hbll.out]
      obtain ⟨b2, o2, c2, e1, e2⟩ := RR7.out.elem hb (j := i) (k := k) (by rw [hl]; exact hi) (by rw [h2]; exact hk)
      rw [h2] at e1
      rw [h1, Hbsl.out _ _ hk] at e2
      exact ⟨rb, ro, b2, o2, c2, rfl, e1, e2⟩
    have HBc : Hid (∀ V, Below w7.heap.size w7 V → ∀ k t, k < NB → t < n → ∃ rb ro b2 o2 c2, a7 = some ⟨rb, ro, none⟩ ∧ V.cell? ⟨rb, ro + k, none⟩ = some (.slice (some ⟨b2, o2, none⟩) n c2) ∧ V.cell? ⟨b2, o2 + t, none⟩ = some (.int .u64 (co (bl.getD k []) t))) := fun V hb k t hk ht => by
      have hl : bl.length = NB := HNB.out
      obtain ⟨rb, ro, cr, hv, _⟩ := RB7.out.some_ (by rw [hl]; omega)
      injection hv with hv _ _
      subst hv
      have h2 := Hblw.out k hk
      obtain ⟨b2, o2, c2, e1, e2⟩ := RB7.out.elem hb (j := k) (k := t) (by rw [hl]; exact hk) (by rw [h2]; exact ht)
      rw [h2] at e1
      exact ⟨rb, ro, b2, o2, c2, rfl, e1, e2⟩
    have HLc : Hid (∀ V, Below w7.heap.size w7 V → ∀ i, i < N → ∃ rb ro a2 c2, al3 = some ⟨rb, ro, none⟩ ∧ V.cell? ⟨rb, ro + i, none⟩ = some (.slice a2 n c2) ∧ Rw V (.slice a2 n c2) (shr q is n bl (co os i))) := fun V hb i hi => by
      have hl : al.length = N := Hall.out
      obtain ⟨rb, ro, cr, hv, _⟩ := RL7.out.some_ (by rw [hl]; omega)
      injection hv with hv _ _
      subst hv
      obtain ⟨ao', cap', e', _, _, hcc⟩ := RL7.out
      injection e' with e1 _ _
      obtain ⟨b', off', e4, hbl4, hcell⟩ := hcc (by intro h; rw [h] at hl; simp at hl; omega)
      rw [← e1] at e4
      cases e4
      obtain ⟨u, hu, hRu⟩ := hcell i (by rw [hl]; exact hi)
      rw [Hshr.out i hi] at hRu
      obtain ⟨a2, c2, hsp, _⟩ := hRu.spell
      rw [shr_len] at hsp
      subst hsp
      exact ⟨rb, ro, a2, c2, rfl, (hb.cell (p := ⟨rb, ro + i, none⟩) hbl4).trans hu, hRu.below hb⟩
    have HRl := Hrl
    obtain ⟨⟨c0, c1, c2, c3, c4, c5, c6, c7⟩, d0, d1⟩ := HS.out _ hC7
    rw [Hall.out] at ht2
    rw [Hall.out, Hrl.out]
    clear RL7 RR7 RB7 Hrow Hshr Hbsl Hbll Hblw HNB HNB1 Hbb Hall HRl Hrl HW eN i64' o64 hlen hC3 hC4 hC5 hB3 hB4 hB5 hb3 hb4 hb5 hBd5 K7 hdr
    go_wp2_with (go_at_call 21; refine (HP.out _).mono ?_; rintro e wp ⟨rfl, hw⟩; rw [hw]; clear hw)
    clear c0 c1 c2 c3 c4 c5 c6 c7 d0 d1 HS
    have HMK := hide hmk
    clear hmk ht2
    go_loopw [11] (fun vi wr => ∃ i : Nat, i ≤ N ∧ vi = .int .i64 i ∧ Below w7.heap.size w7 wr) (fun vi _ => N - (intOf vi).toNat)
    case atStart => exact ⟨0, Nat.zero_le _, rfl, Below.refl _ _⟩
    case round =>
      obtain ⟨i, hi, rfl, hB⟩ := hrel
      obtain ⟨⟨c0, c1, c2, c3, c4, c5, c6, c7⟩, d0, d1⟩ := HSw.out _ hB
      by_cases hlt : i < N
      · obtain ⟨w8, rfl⟩ : ∃ w8, w8 = wr := ⟨wr, rfl⟩
        have hmk := HMK.out
        have ii0 : (0 : Int) ≤ (i : Int) := by omega
        have ii1 : (i : Int) < (N : Int) := by omega
        have HO0 := hide (own_new (W := w8) (base := w8.heap.size) (T := 51) (Nat.le_refl _) (zrs_len n) (by omega))
        have hB0 := alloc_below w8 (.cells (zrs n).toArray 51)
        have HZ : Hid (zrs n = vals (xkj q is (co os i) bl n 0 0)) := by show _ = _; rw [xkj_zero]; rfl
        have HS8 := hide (fun V (hb : Below w8.heap.size w8 V) => HSw.out V (Below.next hB hb))
        have HRc8 := hide (fun V (hb : Below w8.heap.size w8 V) k hk => HRc.out V (Below.next hB hb) i k hlt hk)
        have HBc8 := hide (fun V (hb : Below w8.heap.size w8 V) => HBc.out V (Below.next hB hb))
        have HLc8 := hide (fun V (hb : Below w8.heap.size w8 V) => HLc.out V (Below.next hB hb) i hlt)
        go_wp2_with fail
        generalize w8.alloc (.cells (zrs n).toArray 51) = W9 at *
        rw [HZ.out] at HO0
        clear hmk c0 c1 c2 c3 c4 c5 c6 c7 d0 d1 HZ
        go_loopw [13] (fun vk wq => ∃ k : Nat, k ≤ NB ∧ vk = .int .i64 k ∧ Hid (wq.ownsRow w8.heap.size 51 1 (.slice (some ⟨w8.heap.size, 0, none⟩) n n) n (vals (xkj q is (co os i) bl n k 0))) ∧ Below w8.heap.size w8 wq) (fun vk _ => NB - (intOf vk).toNat)
        case atStart => exact ⟨0, Nat.zero_le _, rfl, HO0, hB0⟩
        case round =>
          clear HO0 hB0
          obtain ⟨k, hk, rfl, HO, hBq⟩ := hrel
          by_cases hkl : k < NB
          · have kk0 : (0 : Int) ≤ (k : Int) := by omega
            have kk1 : (k : Int) < (NB : Int) := by omega
            go_wp2_with fail
            go_loopw [14] (fun vj wq => ∃ j : Nat, j ≤ n ∧ vj = .int .i64 j ∧ Hid (wq.ownsRow w8.heap.size 51 1 (.slice (some ⟨w8.heap.size, 0, none⟩) n n) n (vals (xkj q is (co os i) bl n k j))) ∧ Below w8.heap.size w8 wq) (fun vj _ => n - (intOf vj).toNat)
            case atStart => exact ⟨0, Nat.zero_le _, rfl, HO, hBq⟩
            case round =>
              clear HO hBq
              obtain ⟨j, hj, rfl, HO, hBq⟩ := hrel
              obtain ⟨⟨c0, c1, c2, c3, c4, c5, c6, c7⟩, d0, d1⟩ := HS8.out _ hBq
              by_cases hjl : j < n
              · obtain ⟨rb, ro, b2, o2, cc2, hv1, e1, e2⟩ := HRc8.out wr hBq k hkl
                subst hv1
                obtain ⟨qb, qo, b3, o3, cc3, hv2, e3, e4⟩ := HBc8.out wr hBq k j hkl hjl
                subst hv2
                have e5 := own_cell HO.out (xkj_len _ _ _ _ _ _ _) hjl
                rw [xkj_here hjl] at e5
                have f5 := free_own HO.out j
                have HO2 := hide (fun nq => own_here (k := j) (z := dDs q is (co os i) bl j (k + 1)) (own_drewN HO.out nq))
                rw [xkj_set hjl] at HO2
                have jj0 : (0 : Int) ≤ (j : Int) := by omega
                have jj1 : (j : Int) < (n : Int) := by omega
                have hti := hide (fun W => HTi.out (co os i) k j hkl W)
                have hsu := hide (fun W => HSu.out (co os i) k j hkl W)
                clear HO HTi HSu HXe HXw HRc8 HBc8 HLc8 HRc HBc HLc
                generalize dDs q is (co os i) bl j (k + 1) = dn at *
                generalize dDs q is (co os i) bl j k = dc at *
                generalize mul q (bs q is (co os i) k) (co (bl.getD k []) j) = pr at *
                generalize bs q is (co os i) k = rk at *
                generalize co (bl.getD k []) j = bj at *
                go_upto_region 19 with fail
                refine wp_region_last (by kernel_rfl) (by kernel_rfl) (by kernel_rfl) ?_
                simp only [List.dropLast]
                repeat (go_big_quiet_step (first
                  | (go_at_call 23; exact Calls.quiet_of_same (hti.out _))
                  | (go_at_call 22; exact Calls.quiet_of_same (hsu.out _))))
                refine wpQuiet_nil ?_
                intro _ hw'
                obtain ⟨nq, hw''⟩ := hw'
                subst hw''
                simp only [lastL]
                have HO3 := hide (HO2.out nq)
                have hB2 : Below w8.heap.size w8 ((wr.drewN nq).setCell ⟨w8.heap.size, j, none⟩ (.int .u64 dn)) := (below_drewN hBq nq).setCell (p := ⟨w8.heap.size, j, none⟩) (Nat.le_refl _) _
                clear HO2 c0 c1 c2 c3 c4 c5 c6 c7 d0 d1
                go_wp2
                go_roundw
                case rel => exact ⟨j + 1, by omega, by go_num, HO3, hB2⟩
                case measure => simp [intOf]; omega
              · obtain rfl : j = n := by omega
                have HO2 := HO
                rw [xkj_next] at HO2
                clear HO HTi HSu HXe HXw HRc8 HBc8 HLc8 HRc HBc HLc
                go_wp2
                go_roundw
                case rel => exact ⟨k + 1, by omega, by go_num, HO2, hBq⟩
                case measure => simp [intOf]; omega
          · obtain rfl : k = NB := by omega
            have HO2 := HO
            rw [HXe.out] at HO2
            obtain ⟨rb, ro, a2, cc2, hv1, e1, e2⟩ := HLc8.out wr hBq
            subst hv1
            have r1 := hide ((HXw.out (co os i)).row HO2.out).1
            have r2 := hide e2.1
            clear HO HO2 e2 HTi HSu HXe HXw HRc8 HBc8 HLc8 HRc HBc HLc
            generalize shr q is n bl (co os i) = sh at *
            go_wp2_with (go_at_call 14; refine (Same_yes _ _ _ _ r1.out r2.out).mono ?_; rintro e wA ⟨rfl, hbA⟩)
            have hBA := Below.next hB (Below.next hBq hbA)
            go_roundw
            case rel => exact ⟨i + 1, by omega, by go_num, hBA⟩
            case measure => simp [intOf]; omega
      · obtain rfl : i = N := by omega
        clear HTi HSu HXe HXw HRc HBc HLc
        go_wp2_with (go_at_call 15; refine (HX.out _).mono ?_; rintro e wA ⟨rfl, hbA⟩)
        go_ret
        exact ⟨rfl, Below.next (Below.next hB7 hB) hbA⟩
  · subst hvd hvp
    have ht : (bkE p dl pl [] != 0) = true := bne_iff_ne.2 hz
    clear hz W1' W2' hp HR1 HR2
    generalize bkE p dl pl [] = e0 at *
    generalize allL p dl pl = al at *
    generalize dl.length = nd at *
    generalize pl.length = np at *
    rw [plan_eq] at *
    obtain ⟨W1, hW, hA, hS⟩ := sec_box w p (.slice ad nd cd) (.slice ap np cp) 27
    have HW := hide hW
    have HS := hide hS
    clear hW hS
    obtain ⟨⟨c0, c1, c2, c3, c4, c5, c6, c7⟩, d0, d1⟩ := HS.out _ (Below.refl _ _)
    go_enter Tryz.func5, Tryz.ntmps5
    go_upto_region 1 with fail
    rw [HW.out]
    go_wp2_with (first
      | (go_at_call 9; refine (HAl.out _ hA).mono ?_; rintro e w3 ⟨v3, us, rfl, x3, hb3⟩; have hC3 := hb3; have hB3 := Below.next hA hC3; obtain ⟨a3, k3, rfl⟩ := own_form x3.row; clear x3; clear c0 c1 c2 c3 c4 c5 c6 c7 d0 d1; obtain ⟨⟨c0, c1, c2, c3, c4, c5, c6, c7⟩, d0, d1⟩ := HS.out _ hC3)
      | (go_at_call 18; refine (HBd.out _ hB3).mono ?_; rintro e w4 ⟨rfl, hb4⟩; have hC4 := Below.next hC3 hb4; have hB4 := Below.next hA hC4; clear c0 c1 c2 c3 c4 c5 c6 c7 d0 d1; obtain ⟨⟨c0, c1, c2, c3, c4, c5, c6, c7⟩, d0, d1⟩ := HS.out _ hC4)
      | (go_at_call 15; refine (HX.out _).mono ?_; rintro e w5 ⟨rfl, hb5⟩; have hC5 := Below.next hC4 hb5; have hB5 := Below.next hA hC5; clear c0 c1 c2 c3 c4 c5 c6 c7 d0 d1; obtain ⟨⟨c0, c1, c2, c3, c4, c5, c6, c7⟩, d0, d1⟩ := HS.out _ hC5))
    go_ret
    exact ⟨rfl, hB5⟩

end Go.Proofs.YtnjcljnijgkoiaaGreat
