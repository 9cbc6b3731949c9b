/-
  The statements of layer 14: ShareBack walked.
-/
import Derived.Test.YtnjcljnijgkoiaaBShsB
import Derived.Deep.RegionWith
namespace Go.Proofs.Ytnjcljnijgkoiaa
open Go.RowKit Fld Pln Shr
set_option linter.unusedVariables false
set_option linter.unusedSimpArgs false

set_option maxRecDepth 100000 in
set_option maxHeartbeats 4000000 in
theorem shareBack_any (w : World) (p : Pn) (vd vp vb : Value) (dl pl : List (List Int)) (bs : List Int) (hp : Ok8p p) (h1 : Rws w vd dl) (h2 : Rws w vp pl) (h5 : Rb w vb bs) : Calls Try.prog 3 #[plv p, .agg #[vd, vp], vb] w fun e w' => e = .returned (.bool true) ∧ Below w.heap.size w w' := by
  have HAl := hide (fun W (hb : Below w.heap.size w W) => gAll p vd vp dl pl W hp (h1.below hb) (h2.below hb))
  unfold GivesM at HAl
  have HBd := hide (fun W (hb : Below w.heap.size w W) => dBad14 p vd vp dl pl W hp (h1.below hb) (h2.below hb))
  have HX := hide anch14
  have HR1 := hide h1
  have HR2 := hide h2
  have W1' := h1.wordsH
  have W2' := h2.wordsH
  have hbl := h5.len
  have HB5 := hide h5
  obtain ⟨ab, cb, rfl, _⟩ := h5.spell
  obtain ⟨ad, cd, hvd, _, _, _⟩ := h1
  obtain ⟨ap, cp, hvp, _, _, _⟩ := h2
  by_cases hz : bkE p dl pl [] = 0
  · obtain ⟨q, wd, hm, hf, hbe, hbw, hdl, hpl, hbl', ie, inn, i64', oe, on, o64, dd0, _⟩ := bk_facts hz W1' W2'
    obtain ⟨⟨n0, n1⟩, ⟨pk0, pk1⟩, ⟨pt0, pt1⟩, _, _, _, w0, w1⟩ := may_facts hm
    rw [hz] at HAl HBd
    by_cases hle : p.k + p.t ≤ p.n
    · have HBack := hide (fun ws hW => back_facts (ws := ws) hz W1' W2' hW hle)
      have hal : (allL p dl pl).length = (outL p).length := by unfold allL; rw [if_pos hz, List.length_map]
      have hawd : ∀ b ∈ allL p dl pl, Wd b := fun b hb => by
        unfold allL at hb
        rw [if_pos hz, pOf_eq hf] at hb
        obtain ⟨z, _, rfl⟩ := List.mem_map.1 hb
        exact wd_els (shr_els hf.pos _ _ _ _) hf.top (by rw [shr_len]; omega)
      have HEach : Hid (∀ W lo v us i, Mtx W lo v us (allL p dl pl) → i < (allL p dl pl).length → Rw W (us.getD i nov) ((allL p dl pl).getD i [])) := fun W lo v us i h hi => (getD_wd hawd i).row (h.each i hi)
      have HOp := hide (fun W vw vs who l x1 x2 => gOpen p vw vs who l W hp x1 x2)
      have RD : Hid (∀ W lo v us, Mtx W lo v us dl → Rws W v dl) := fun W lo v us h => h.rws (getD_wd W1') (by omega)
      have RP : Hid (∀ W lo v us, Mtx W lo v us pl → Rws W v pl) := fun W lo v us h => h.rws (getD_wd W2') (by omega)
      obtain ⟨N, HN⟩ : ∃ N : Nat, Hid (p.n = (N : Int)) := ⟨p.n.toNat, by show _ = _; omega⟩
      obtain ⟨K, HK⟩ : ∃ K : Nat, Hid (p.k = (K : Int)) := ⟨p.k.toNat, by show _ = _; omega⟩
      obtain ⟨T, HT⟩ : ∃ T : Nat, Hid (p.t = (T : Int)) := ⟨p.t.toNat, by show _ = _; omega⟩
      have eN : p.n.toNat = N := by have := HN.out; omega
      have eKT : (p.k + p.t).toNat = K + T := by have := HK.out; have := HT.out; omega
      rw [eN, eKT] at HBack
      have hal2 : (allL p dl pl).length = N := by rw [hal, on, eN]
      have hKN : K + T ≤ N := by have := HN.out; have := HK.out; have := HT.out; omega
      have hN1 : 0 < N := by have := HN.out; omega
      have hN64 : N ≤ 64 := by have := HN.out; omega
      have hK1 : 0 < K := by have := HK.out; omega
      subst hvd hvp
      clear hz hm hf hbe hbw hdl hpl hbl' ie inn oe on hawd hal W1' W2' hp eN eKT
      generalize allL p dl pl = al at *
      generalize dl.length = nd at *
      generalize pl.length = np at *
      rw [plan_eq] at *
      obtain ⟨W1, hW, hA, hS⟩ := sec_box w p (.slice ad nd cd) (.slice ap np cp) 27
      have HW := hide hW
      have HS := hide hS
      clear hW hS
      rw [HN.out, HK.out, HT.out] at HW HS HAl HBd HOp
      rw [HN.out, HK.out, HT.out] at hle
      rw [HN.out, HK.out, HT.out]
      clear HN HK HT n0 n1 pk0 pk1 pt0 pt1
      obtain ⟨⟨c0, c1, c2, c3, c4, c5, c6, c7⟩, d0, d1⟩ := HS.out _ (Below.refl _ _)
      have ht1 : ¬ (N : Int) < (K : Int) + (T : Int) := by omega
      have ht2 : ((al.length : Int) != (N : Int)) = false := by rw [hal2]; simp
      have hmk := makeI14 N (by omega)
      go_enter Try.func3, Try.ntmps3
      go_upto_region 1 with fail
      rw [HW.out]
      go_upto_region 6 with (first
        | (go_at_call 5; refine (HAl.out _ hA).mono ?_; rintro e w3 ⟨v3, us, rfl, x3, hb3⟩; have hC3 := hb3; have hB3 := Below.next hA hC3; obtain ⟨G, cg, rfl, _, hGt, hcg⟩ := x3.spell (by rw [hal2]; exact hN1); have HM3 := hide x3; clear x3; rw [hal2] at hcg; rw [hal2]; clear c0 c1 c2 c3 c4 c5 c6 c7 d0 d1; obtain ⟨⟨c0, c1, c2, c3, c4, c5, c6, c7⟩, d0, d1⟩ := HS.out _ hC3)
        | (go_at_call 6; refine (HBd.out _ hB3).mono ?_; rintro e w4 ⟨rfl, hb4⟩; have hC4 := Below.next hC3 hb4; have hB4 := Below.next hA hC4; have HM4 := hide (HM3.out.below hb4); clear c0 c1 c2 c3 c4 c5 c6 c7 d0 d1; obtain ⟨⟨c0, c1, c2, c3, c4, c5, c6, c7⟩, d0, d1⟩ := HS.out _ hC4))
      have HO0 := hide (own_new (W := w4) (base := w4.heap.size) (T := 3) (Nat.le_refl _) (zis_len N) (by omega))
      have hBw := alloc_below w4 (.cells (zis N).toArray 3)
      have hpl : (pts 0 N).length = N := pts_len _ _
      have HZ : Hid (zis N = ivs (pfil (pts 0 N) 0)) := by show _ = _; rw [pfil_zero, hpl]; rfl
      have HAll : Hid (pfil (pts 0 N) N = pts 0 N) := by have := pfil_all (pts 0 N); rw [hpl] at this; exact this
      have HSet : Hid (∀ k, k < N → (pfil (pts 0 N) k).set k (k : Int) = pfil (pts 0 N) (k + 1)) := fun k hk => by
        have h1 := pfil_set (xs := pts 0 N) (k := k) (by rw [hpl]; exact hk)
        have h2 : co (pts 0 N) k = (k : Int) := by have := pts_at 0 hk; show (pts 0 N).getD k 0 = _; rw [this]; omega
        rw [h2] at h1; exact h1
      have HPl : Hid (∀ k, (pfil (pts 0 N) k).length = N) := fun k => by rw [pfil_len, hpl]
      have HSw := hide (fun V (hb : Below w4.heap.size w4 V) => HS.out V (Below.next hC4 hb))
      have HBt : Hid (∀ V, Below w4.heap.size w4 V → ∀ i, i + 1 < bs.length → ∃ b off x y, ab = some ⟨b, off, none⟩ ∧ V.cell? ⟨b, off + i, none⟩ = some (.int .u8 x) ∧ V.cell? ⟨b, off + (i + 1), none⟩ = some (.int .u8 y) ∧ (0 ≤ x ∧ x ≤ 255) ∧ (0 ≤ y ∧ y ≤ 255)) := fun V hb i hi => by
        have hBw := HB5.out.below (Below.next hB4 hb)
        obtain ⟨b, off, cp, e, _, _⟩ := hBw.form (by omega)
        cases e
        obtain ⟨_, g1, g2⟩ := hBw.at_ (k := i) (by omega)
        obtain ⟨_, g3, g4⟩ := hBw.at_ (k := i + 1) (by omega)
        exact ⟨b, off, _, _, rfl, g1, g3, g2, g4⟩
      have Hal := hide hal2
      clear ht2 hpl HAl HBd HM3 HS HW hb3 hC3 hB3 hal2 HB5
      generalize bs.length = nb at *
      go_wp2_with fail
      generalize w4.alloc (.cells (zis N).toArray 3) = W6 at *
      rw [HZ.out] at HO0
      clear hmk c0 c1 c2 c3 c4 c5 c6 c7 d0 d1 HZ
      go_loopw [10] (fun vi wr => ∃ k : Nat, k ≤ N ∧ vi = .int .i64 k ∧ Hid (wr.ownsRow w4.heap.size 3 1 (.slice (some ⟨w4.heap.size, 0, none⟩) N N) N (ivs (pfil (pts 0 N) k))) ∧ Below w4.heap.size w4 wr) (fun vi _ => N - (intOf vi).toNat)
      case atStart => exact ⟨0, Nat.zero_le _, rfl, HO0, hBw⟩
      case round =>
        clear HO0 hBw
        obtain ⟨k, hk, rfl, HO, hB⟩ := hrel
        obtain ⟨⟨c0, c1, c2, c3, c4, c5, c6, c7⟩, d0, d1⟩ := HSw.out _ hB
        by_cases hlt : k < N
        · have hck := own_icell HO.out (HPl.out k) hlt
          have hfr := free_own HO.out k
          have HO2 := hide (own_setv HO.out (.int .i64 (k : Int)) hlt)
          rw [ivs_set, HSet.out k hlt] at HO2
          have hB2 : Below w4.heap.size w4 (wr.setCell ⟨w4.heap.size, k, none⟩ (.int .i64 (k : Int))) := hB.setCell (p := ⟨w4.heap.size, k, none⟩) (Nat.le_refl _) _
          have kk0 : (0 : Int) ≤ (k : Int) := by omega
          have kk1 : (k : Int) < (N : Int) := by omega
          clear HO HSet HAll HPl
          generalize (pfil (pts 0 N) k).getD k 0 = y0 at *
          go_wp2
          go_roundw
          case rel => exact ⟨k + 1, by omega, by go_num, HO2, hB2⟩
          case measure => simp [intOf]; omega
        · obtain rfl : k = N := by omega
          rw [HAll.out] at HO
          have HW0 := hide (wks_first k)
          have hN0 : ¬ (k : Int) = 0 := by omega
          clear HSet HAll HPl
          go_wp2_with fail
          clear c0 c1 c2 c3 c4 c5 c6 c7 d0 d1
          generalize pts 0 k = ws0 at *
          go_loopw [11] (fun vi wq => ∃ (i : Nat) (ws : List Int), vi = .int .i64 i ∧ i ≤ nb + 1 ∧ Hid (Wks k ws) ∧ Hid (wq.ownsRow w4.heap.size 3 1 (.slice (some ⟨w4.heap.size, 0, none⟩) k k) k (ivs ws)) ∧ Below w4.heap.size w4 wq) (fun vi _ => nb + 1 - (intOf vi).toNat)
          case atStart => exact ⟨0, ws0, rfl, by omega, HW0, HO, hB⟩
          case round =>
            clear HW0 HO hB
            obtain ⟨i, ws, rfl, hi, HWs, HO, hB⟩ := hrel
            obtain ⟨⟨c0, c1, c2, c3, c4, c5, c6, c7⟩, d0, d1⟩ := HSw.out _ hB
            have hwl := HWs.out.1
            by_cases hlt : i + 1 < nb
            · obtain ⟨b, off, x, y, rfl, e1, e2, ⟨x0, x1⟩, y0, y1⟩ := HBt.out wr hB i hlt
              obtain ⟨A, hA0, ha⟩ := tmod_nat14 (N := k) x0 (by omega)
              obtain ⟨B, hB0, hb⟩ := tmod_nat14 (N := k) y0 (by omega)
              have i0 : (0 : Int) ≤ (i : Int) := Int.natCast_nonneg _
              have i1 : (i : Int) + 1 < (nb : Int) := by omega
              have i2 : (i : Int) < (nb : Int) := by omega
              have i3 : (0 : Int) ≤ (i : Int) + 1 := by omega
              have Hwl := hide hwl
              clear hwl
              go_upto_region 14 with fail
              go_quiet (fail)
              have hB2 := below_drewN hB nq
              have HO2 := hide (own_below HO.out (below_drewN (Below.refl _ wr) nq))
              clear e1 e2 c0 c1 c2 c3 c4 c5 c6 c7 d0 d1 ha hb x0 x1 y0 y1 HO hB
              generalize wr.drewN nq = wz at *
              have f1 := own_icell HO2.out Hwl.out hA0
              have f2 := own_icell HO2.out Hwl.out hB0
              have g1 := free_own HO2.out A
              have g2 := free_own HO2.out B
              have HO3 := hide (own_setv (own_setv HO2.out (.int .i64 (ws.getD B 0)) hA0) (.int .i64 (ws.getD A 0)) hB0)
              rw [ivs_swp ws (by rw [Hwl.out]; exact hA0) (by rw [Hwl.out]; exact hB0)] at HO3
              have HW3 := hide (HWs.out.perm (Rnk.swp_perm 0 ws (a := A) (b := B) (by rw [Hwl.out]; exact hA0) (by rw [Hwl.out]; exact hB0)))
              have HB3 : Hid (Below w4.heap.size w4 (((wz.setCell ⟨w4.heap.size, A, none⟩ (.int .i64 (ws.getD B 0))).setCell ⟨w4.heap.size, B, none⟩ (.int .i64 (ws.getD A 0))).drew)) := ((hB2.setCell (p := ⟨w4.heap.size, A, none⟩) (Nat.le_refl _) _).setCell (p := ⟨w4.heap.size, B, none⟩) (Nat.le_refl _) _).drew
              have HO4 := hide (own_below HO3.out (Below.refl _ _).drew)
              have aa0 : (0 : Int) ≤ (A : Int) := Int.natCast_nonneg _
              have bb0 : (0 : Int) ≤ (B : Int) := Int.natCast_nonneg _
              have aN : (A : Int) < (k : Int) := by omega
              have bN : (B : Int) < (k : Int) := by omega
              clear HO2 HO3 HWs i0 i1 i2 i3 Hwl
              generalize Rnk.swp 0 ws A B = ws3 at *
              go_upto_region 15 with fail
              by_cases hin : A = B
              · subst hin
                clear f2 g2
                generalize ws.getD A 0 = zA at *
                go_region
                go_wp2
                go_roundw
                case rel => exact ⟨i + 2, ws3, by go_num, by omega, HW3, HO4, HB3.out⟩
                case measure => simp [intOf]; omega
              · have hin2 : ¬ B = A := fun e => hin e.symm
                generalize ws.getD A 0 = zA at *
                generalize ws.getD B 0 = zB at *
                go_region
                go_wp2
                go_roundw
                case rel => exact ⟨i + 2, ws3, by go_num, by omega, HW3, HO4, HB3.out⟩
                case measure => simp [intOf]; omega
            · obtain ⟨bk0, bk1, bk2⟩ := HBack.out ws HWs.out
              have hwx := HWs.out.2.2
              have HwJ : Hid (∀ j, j < K + T → ∃ J : Nat, (ws.take (K + T)).getD j 0 = (J : Int) ∧ J < k) := fun j hj => by
                have h1 : (ws.take (K + T)).getD j 0 ∈ ws.take (K + T) := getD_memA 0 (by rw [List.length_take]; omega)
                have h2 := hwx _ (List.mem_of_mem_take h1)
                exact ⟨((ws.take (K + T)).getD j 0).toNat, by omega, by omega⟩
              have hwl2 : (ws.take (K + T)).length = K + T := by rw [List.length_take]; omega
              have HO2 := hide (own_takeV HO.out (k := K + T) hKN)
              rw [show (ivs ws).take (K + T) = ivs (ws.take (K + T)) by unfold ivs; rw [List.map_take]] at HO2
              have hKT0 : (0 : Int) ≤ (K : Int) + (T : Int) := by omega
              have hKT1 : (K : Int) + (T : Int) ≤ (k : Int) := by omega
              have hKT2 : ((K : Int) + (T : Int)).toNat = K + T := by omega
              obtain ⟨w8, rfl⟩ : ∃ w8, w8 = wr := ⟨wr, rfl⟩
              have HOpn := hide (fun W vw vs x1 x2 => HOp.out W vw vs (ws.take (K + T)) ((ws.take (K + T)).map (fun x => al.getD x.toNat [])) x1 x2)
              rw [bk0, bk1, bk2] at HOpn
              have HM8 := hide (fun V (hb' : Below w8.heap.size w8 V) => HM4.out.below (Below.next hB hb'))
              have HS8 := hide (fun V (hb' : Below w8.heap.size w8 V) => HSw.out V (Below.next hB hb'))
              have hB8 := Below.next hB4 hB
              have h4s := hB.size
              clear bk0 bk1 bk2 hwx HBack HOp HBt HO HWs HSw HM4 hwl
              generalize ws.take (K + T) = who at *
              have Hw2 := hide hwl2
              clear hwl2
              obtain ⟨i1', hi1, hz1a, hz1b, hz1c⟩ := info_parts sl_info
              go_wp2_with fail
              clear c0 c1 c2 c3 c4 c5 c6 c7 d0 d1
              go_loopw [14, 15] (fun vo vi wq => ∃ (m : Nat) (us2 : List Value), vi = .int .i64 m ∧ m ≤ K + T ∧ Hid (wq.ownsRow w8.heap.size 35 1 vo m us2) ∧ Hid (∀ j, j < m → us2.getD j nov = us.getD (who.getD j 0).toNat nov) ∧ Below w8.heap.size w8 wq) (fun _ vi _ => K + T - (intOf vi).toNat)
              case atStart => exact ⟨0, [], rfl, Nat.zero_le _, World.ownsRow_nil _ _ _ _, fun j hj => by omega, Below.refl _ _⟩
              case round =>
                obtain ⟨m, us2, rfl, hm, HOs, HUs, hBp⟩ := hrel
                have hps := hBp.size
                by_cases hlt2 : m < K + T
                · obtain ⟨J, hJ, hJk⟩ := HwJ.out m hlt2
                  have HMr := HM8.out wr hBp
                  have e1 := own_icell (own_below HO2.out hBp) Hw2.out hlt2
                  rw [hJ] at e1
                  have e2 := HMr.cell (i := J) (by rw [Hal.out]; exact hJk)
                  have hEJ := HMr.each J (by rw [Hal.out]; exact hJk)
                  obtain ⟨a5, c5', hu5⟩ := own_form hEJ
                  have Hu5 := hide hu5
                  rw [hu5] at e2
                  have HJ := hide hJ
                  have mm0 : (0 : Int) ≤ (m : Int) := by omega
                  have mm1 : (m : Int) < (K : Int) + (T : Int) := by omega
                  have JJ0 : (0 : Int) ≤ (J : Int) := by omega
                  have JJ1 : (J : Int) < (k : Int) := by omega
                  clear hJ hEJ hu5 HMr
                  generalize (al.getD J []).length = n5 at *
                  have mm2 : (m : Int) < ((K + T : Nat) : Int) := by omega
                  go_wp2_with (at_builtin; refine wpList_append_lies _ rfl _ _ _ rfl w8.heap.size 35 i1' _ 1 24 Try.underlying25 hi1 hz1a hz1b hz1c rfl (by omega) u14 m us2 rfl (HOs.out.alloc _) ⟨wr.heap.size, 0, none⟩ 1 1 [.slice a5 n5 c5'] rfl rfl (World.news_of_block (cs := #[.slice a5 n5 c5']) (t := 35) (fr := (0, 0)) (heap_alloc_new wr _)) (by simp [Value.oneCell']) (by omega) (by unfold maxLen; omega) (by omega) (by simp; omega) (wr.heap.size + 1) (by simp) ?_; intro gg cap2 w9 hown9 hgrow hat hltg)
                  have hB9 : Below w8.heap.size w8 w9 := ((Below.next hBp (alloc_below wr _))).grown hgrow (by simp; omega) (fun j e => own_base HOs.out j e)
                  have hul : us2.length = m := by have := HOs.out.1; omega
                  have HU9 : Hid (∀ j, j < m + 1 → (us2 ++ [Value.slice a5 n5 c5']).getD j nov = us.getD (who.getD j 0).toNat nov) := fun j hj => by
                    rw [getD_snoc, hul]
                    by_cases e : j < m
                    · rw [if_pos e]; exact HUs.out j e
                    · have : j = m := by omega
                      rw [if_neg e, if_pos this, this, HJ.out, Int.toNat_natCast]; exact Hu5.out.symm
                  have HO9 := hide hown9
                  clear hown9 hgrow hat hltg hul
                  go_roundw
                  case rel => exact ⟨m + 1, _, by go_num, by omega, HO9, HU9, hB9⟩
                  case measure => simp [intOf]; omega
                · obtain rfl : m = K + T := by omega
                  have rS : Rws wr u14 (who.map (fun x => al.getD x.toNat [])) := own_rws HOs.out (by rw [List.length_map]; exact Hw2.out) (fun i hi => by
                    rw [List.length_map, Hw2.out] at hi
                    obtain ⟨J, hJ, hJk⟩ := HwJ.out i hi
                    rw [HUs.out i hi, hJ, Int.toNat_natCast]
                    have e : (who.map (fun x => al.getD x.toNat [])).getD i [] = al.getD J [] := by
                      rw [List.getD_eq_getElem?_getD, List.getElem?_map]
                      have h1 : i < who.length := by rw [Hw2.out]; exact hi
                      have h2 : who[i] = (J : Int) := by rw [← hJ, List.getD_eq_getElem?_getD, List.getElem?_eq_getElem h1]; rfl
                      rw [List.getElem?_eq_getElem h1, h2]; rfl
                    rw [e]
                    exact HEach.out _ _ _ _ _ (HM8.out wr hBp) (by rw [Hal.out]; exact hJk)) (by omega)
                  have lW := lmi_of_own (own_below HO2.out hBp) (by rw [Hw2.out]; omega)
                  obtain ⟨a14, c14, rfl⟩ := own_form HOs.out
                  have hBe := Below.next hB8 hBp
                  obtain ⟨⟨c0, c1, c2, c3, c4, c5, c6, c7⟩, d0, d1⟩ := HS8.out _ hBp
                  have HSe := hide (fun V (hb' : Below wr.heap.size wr V) => HS8.out V (Below.next hBp hb'))
                  clear HOs HUs HwJ HEach HM8 HS8 HO2 Hal
                  generalize who.map (fun x => al.getD x.toNat []) = sh at *
                  go_wp2_with (first
                    | (go_at_call 8; refine (HOpn.out _ _ _ rS lW).mono ?_; rintro e wA ⟨v1, us1, v2, us2', rfl, x1, x2, hbA⟩; have hBA := Below.next hBe hbA; have R1 := hide (RD.out _ _ _ _ x1); have R2 := hide (RP.out _ _ _ _ x2); obtain ⟨b1, e1, rfl⟩ := own_form x1.row; obtain ⟨b2, e2, rfl⟩ := own_form x2.row; clear x1 x2; clear c0 c1 c2 c3 c4 c5 c6 c7 d0 d1; obtain ⟨⟨c0, c1, c2, c3, c4, c5, c6, c7⟩, d0, d1⟩ := HSe.out _ hbA)
                    | (go_at_call 7; refine (HX.out _).mono ?_; rintro e wB ⟨rfl, hbB⟩; have hBB := Below.next hBA hbB; clear c0 c1 c2 c3 c4 c5 c6 c7 d0 d1; obtain ⟨⟨c0, c1, c2, c3, c4, c5, c6, c7⟩, d0, d1⟩ := HSe.out _ (Below.next hbA hbB))
                    | (go_at_call 9; with_reducible refine (Rows_h _ _ _ _ ((R2.out.below hbB).below hbC) (HR2.out.below hBC)).mono ?_; rintro e wD ⟨rfl, hbD⟩; have hBD := Below.next hBC hbD)
                    | (go_at_call 9; with_reducible refine (Rows_h _ _ _ _ (R1.out.below hbB) (HR1.out.below hBB)).mono ?_; rintro e wC ⟨rfl, hbC⟩; have hBC := Below.next hBB hbC; clear c0 c1 c2 c3 c4 c5 c6 c7 d0 d1; obtain ⟨⟨c0, c1, c2, c3, c4, c5, c6, c7⟩, d0, d1⟩ := HSe.out _ (Below.next (Below.next hbA hbB) hbC)))
                  go_ret
                  exact ⟨rfl, hBD⟩
    · subst hvd hvp
      have hgt : p.n < p.k + p.t := by omega
      clear hle hz hm hf hbe hbw hdl hpl hbl' ie inn oe on W1' W2' hp HR1 HR2 HB5
      generalize allL p dl pl = al at *
      generalize dl.length = nd at *
      generalize pl.length = np at *
      generalize bs.length = nb at *
      rw [plan_eq] at *
      obtain ⟨W1, hW, hA, hS⟩ := sec_box w p (.slice ad nd cd) (.slice ap np cp) 27
      have HW := hide hW
      have HS := hide hS
      clear hW hS
      obtain ⟨⟨c0, c1, c2, c3, c4, c5, c6, c7⟩, d0, d1⟩ := HS.out _ (Below.refl _ _)
      go_enter Try.func3, Try.ntmps3
      go_upto_region 1 with fail
      rw [HW.out]
      go_wp2_with (first
        | (go_at_call 5; refine (HAl.out _ hA).mono ?_; rintro e w3 ⟨v3, us, rfl, x3, hb3⟩; have hC3 := hb3; have hB3 := Below.next hA hC3; obtain ⟨a3, k3, rfl⟩ := own_form x3.row; clear x3; clear c0 c1 c2 c3 c4 c5 c6 c7 d0 d1; obtain ⟨⟨c0, c1, c2, c3, c4, c5, c6, c7⟩, d0, d1⟩ := HS.out _ hC3)
        | (go_at_call 6; refine (HBd.out _ hB3).mono ?_; rintro e w4 ⟨rfl, hb4⟩; have hC4 := Below.next hC3 hb4; have hB4 := Below.next hA hC4; clear c0 c1 c2 c3 c4 c5 c6 c7 d0 d1; obtain ⟨⟨c0, c1, c2, c3, c4, c5, c6, c7⟩, d0, d1⟩ := HS.out _ hC4)
        | (go_at_call 7; refine (HX.out _).mono ?_; rintro e w5 ⟨rfl, hb5⟩; have hC5 := Below.next hC4 hb5; have hB5 := Below.next hA hC5; clear c0 c1 c2 c3 c4 c5 c6 c7 d0 d1; obtain ⟨⟨c0, c1, c2, c3, c4, c5, c6, c7⟩, d0, d1⟩ := HS.out _ hC5))
      go_ret
      exact ⟨rfl, hB5⟩
  · subst hvd hvp
    have ht : (bkE p dl pl [] != 0) = true := bne_iff_ne.2 hz
    clear hz W1' W2' hp HR1 HR2 HB5
    generalize bkE p dl pl [] = e0 at *
    generalize allL p dl pl = al at *
    generalize dl.length = nd at *
    generalize pl.length = np at *
    generalize bs.length = nb at *
    rw [plan_eq] at *
    obtain ⟨W1, hW, hA, hS⟩ := sec_box w p (.slice ad nd cd) (.slice ap np cp) 27
    have HW := hide hW
    have HS := hide hS
    clear hW hS
    obtain ⟨⟨c0, c1, c2, c3, c4, c5, c6, c7⟩, d0, d1⟩ := HS.out _ (Below.refl _ _)
    go_enter Try.func3, Try.ntmps3
    go_upto_region 1 with fail
    rw [HW.out]
    go_wp2_with (first
      | (go_at_call 5; refine (HAl.out _ hA).mono ?_; rintro e w3 ⟨v3, us, rfl, x3, hb3⟩; have hC3 := hb3; have hB3 := Below.next hA hC3; obtain ⟨a3, k3, rfl⟩ := own_form x3.row; clear x3; clear c0 c1 c2 c3 c4 c5 c6 c7 d0 d1; obtain ⟨⟨c0, c1, c2, c3, c4, c5, c6, c7⟩, d0, d1⟩ := HS.out _ hC3)
      | (go_at_call 6; refine (HBd.out _ hB3).mono ?_; rintro e w4 ⟨rfl, hb4⟩; have hC4 := Below.next hC3 hb4; have hB4 := Below.next hA hC4; clear c0 c1 c2 c3 c4 c5 c6 c7 d0 d1; obtain ⟨⟨c0, c1, c2, c3, c4, c5, c6, c7⟩, d0, d1⟩ := HS.out _ hC4)
      | (go_at_call 7; refine (HX.out _).mono ?_; rintro e w5 ⟨rfl, hb5⟩; have hC5 := Below.next hC4 hb5; have hB5 := Below.next hA hC5; clear c0 c1 c2 c3 c4 c5 c6 c7 d0 d1; obtain ⟨⟨c0, c1, c2, c3, c4, c5, c6, c7⟩, d0, d1⟩ := HS.out _ hC5))
    go_ret
    exact ⟨rfl, hB5⟩

end Go.Proofs.Ytnjcljnijgkoiaa
