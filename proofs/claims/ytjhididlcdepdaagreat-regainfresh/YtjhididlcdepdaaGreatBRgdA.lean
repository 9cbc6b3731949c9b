import Derived.Test.YtjhididlcdepdaaGreatBunG
import Derived.Test.YtjhididlcdepdaaGreatBPlrA
import Derived.Test.YtjhididlcdepdaaGreatBTkA
set_option linter.unusedVariables false
set_option linter.unusedSimpArgs false
set_option maxRecDepth 100000
set_option maxHeartbeats 4000000
namespace Go.Proofs.YtjhididlcdepdaaGreat
open Go.RowKit Fld Pln
theorem dMayReply (p : Pn) (n : Int) (i : Int) (v : Value) (vs : List Int) (w : World) (hp : Ok8p p) (h : Rw w v vs) : Calls Tryz.prog 11 #[plv p, .int .i64 n, .agg #[.int .i64 i, v]] w fun e w' => e = .returned (.bool (mrB p n ⟨i, vs⟩)) ∧ Below w.heap.size w w' := by
 have HM := hide (fun W => dMayP p hp W)
 have HI := hide (fun W (hb : Below w.heap.size w W) => rIn_any p.f v vs W (h.below hb).1)
 obtain ⟨pb, hA⟩ := pb_box (w := w) p
 obtain ⟨d0, d1, hD⟩ := rp_box (w.alloc (.cells #[.int .u8 p.f, .int .i64 p.n, .int .i64 p.k, .int .i64 p.t, .int .i64 p.s, .int .i64 p.e, .int .i64 p.d, .int .i64 p.w] 24)) i v
 have pb2 := pb.below hD
 have hA2 := Below.next hA hD
 obtain ⟨ao, cap, rfl, _⟩ := h.spell
 have hsz : (w.alloc (.cells #[.int .u8 p.f, .int .i64 p.n, .int .i64 p.k, .int .i64 p.t, .int .i64 p.s, .int .i64 p.e, .int .i64 p.d, .int .i64 p.w] 24)).heap.size = w.heap.size + 1 := by simp
 rw [hsz] at d0 d1
 clear h pb hD hA hsz
 unfold mrB asB isW
 dsimp only
 generalize mayP p = b0 at *
 generalize inF p.f vs = b3 at *
 generalize vs.length = m at *
 have HC : Hid (∀ W', Below ((w.alloc (.cells #[.int .u8 p.f, .int .i64 p.n, .int .i64 p.k, .int .i64 p.t, .int .i64 p.s, .int .i64 p.e, .int .i64 p.d, .int .i64 p.w] 24)).alloc (.cells #[.int .i64 i, .slice ao m cap] 38)).heap.size ((w.alloc (.cells #[.int .u8 p.f, .int .i64 p.n, .int .i64 p.k, .int .i64 p.t, .int .i64 p.s, .int .i64 p.e, .int .i64 p.d, .int .i64 p.w] 24)).alloc (.cells #[.int .i64 i, .slice ao m cap] 38)) W' -> Pb W' w.heap.size p ∧ W'.cell? ⟨w.heap.size + 1, 0, none⟩ = some (.int .i64 i) ∧ W'.cell? ⟨w.heap.size + 1, 1, none⟩ = some (.slice ao m cap)) := fun W' hb => ⟨pb2.below hb, (hb.cell (p := ⟨w.heap.size + 1, 0, none⟩) (cell_in d0)).trans d0, (hb.cell (p := ⟨w.heap.size + 1, 1, none⟩) (cell_in d1)).trans d1⟩
 obtain ⟨c0, c1, c2, c3, c4, c5, c6, c7⟩ := pb2.cells
 clear pb2
 unfold plv plw at *
 have hcs : b0 = false ∨ (b0 = true ∧ ¬ 0 <= n) ∨ (b0 = true ∧ 0 <= n ∧ ¬ n <= 64) ∨ (b0 = true ∧ 0 <= n ∧ n <= 64 ∧ ¬ 0 <= i) ∨ (b0 = true ∧ 0 <= n ∧ n <= 64 ∧ 0 <= i ∧ ¬ i < p.n) ∨ (b0 = true ∧ 0 <= n ∧ n <= 64 ∧ 0 <= i ∧ i < p.n ∧ ¬ (m : Int) = n) ∨ (b0 = true ∧ 0 <= n ∧ n <= 64 ∧ 0 <= i ∧ i < p.n ∧ (m : Int) = n) := by
  cases b0
  · simp
  · simp; omega
 rcases hcs with rfl | ⟨rfl, n0⟩ | ⟨rfl, n0, n1⟩ | ⟨rfl, n0, n1, i0⟩ | ⟨rfl, n0, n1, i0, i1⟩ | ⟨rfl, n0, n1, i0, i1, e⟩ | ⟨rfl, n0, n1, i0, i1, e⟩
 all_goals
  go_enter Tryz.func11, Tryz.ntmps11
  go_upto_region 1 with fail
  generalize (w.alloc (.cells #[.int .u8 p.f, .int .i64 p.n, .int .i64 p.k, .int .i64 p.t, .int .i64 p.s, .int .i64 p.e, .int .i64 p.d, .int .i64 p.w] 24)).alloc (.cells #[.int .i64 i, .slice ao m cap] 38) = W0 at *
  go_wp2_with (first
   | (go_at_call 39; refine (HM.out _).mono ?_; rintro e w1 ⟨rfl, hb1⟩; obtain ⟨pb1, d10, d11⟩ := HC.out _ hb1; clear c0 c1 c2 c3 c4 c5 c6 c7 d0 d1; obtain ⟨c0, c1, c2, c3, c4, c5, c6, c7⟩ := pb1.cells)
   | (go_at_call 40; refine (HI.out _ (Below.next hA2 hb1)).mono ?_; rintro e w2 ⟨rfl, hw⟩; rw [hw]; clear hw))
  go_ret
 · exact ⟨by simp, Below.next hA2 hb1⟩
 · exact ⟨by simp; omega, Below.next hA2 hb1⟩
 · exact ⟨by simp; omega, Below.next hA2 hb1⟩
 · exact ⟨by simp; omega, Below.next hA2 hb1⟩
 · exact ⟨by simp; omega, Below.next hA2 hb1⟩
 · exact ⟨by simp [e], Below.next hA2 hb1⟩
 · exact ⟨by simp [n0, n1, i0, i1, e], Below.next hA2 hb1⟩
theorem nodup_takeI {l : List Int} {i : Nat} (hi : i < l.length) (h : (l.take i).Nodup) (hn : ∀ j, j < i -> l.getD i 0 ≠ l.getD j 0) : (l.take (i + 1)).Nodup := by
 rw [take_snoc8 hi]
 refine List.nodup_append.2 ⟨h, by simp, fun a ha b hb hab => ?_⟩
 rw [List.mem_singleton.1 hb] at hab
 obtain ⟨j, hj, he⟩ := List.mem_iff_getElem.1 ha
 rw [List.length_take] at hj
 rw [List.getElem_take] at he
 refine hn j (by omega) ?_
 rw [List.getD_eq_getElem?_getD (l := l) (i := j), List.getElem?_eq_getElem (by omega)]
 show l.getD i 0 = l[j]
 rw [he, hab]
theorem not_nodupI {l : List Int} {i j : Nat} (hi : i < l.length) (hj : j < i) (he : l.getD i 0 = l.getD j 0) : ¬ l.Nodup := fun hn => by
 rw [List.getD_eq_getElem?_getD, List.getD_eq_getElem?_getD, List.getElem?_eq_getElem hi, List.getElem?_eq_getElem (show j < l.length by omega)] at he
 have := nodup_inj hn hi (by omega) he
 omega
theorem dBad18 (p : Pn) (n : Int) (v : Value) (us : List Rq) (w : World) (hp : Ok8p p) (h : Rpl w v us) : Calls Tryz.prog 31 #[plv p, .int .i64 n, v] w fun e w' => e = .returned (.int .i64 (rvE p n (rps us))) ∧ Below w.heap.size w w' := by
 have HA := hide (fun W => dMayP p hp W)
 have HR : Hid (∀ k, k < us.length -> ∀ W, Below w.heap.size w W -> Calls Tryz.prog 11 #[plv p, .int .i64 n, .agg #[.int .i64 (us.getD k zRq).1, (us.getD k zRq).2.1]] W fun e w' => e = .returned (.bool (mrB p n ((rps us).getD k nrp))) ∧ Below W.heap.size W w') := fun k hk W hb => by
  rw [rps_at]
  exact dMayReply p n _ _ _ W hp ((h.row _ (getD_inQ hk)).below hb)
 have HN : Hid (asB p n = true -> ∀ W, Calls Tryz.prog 64 #[plv p] W fun e w' => e = .returned (.tuple #[.int .i64 (need p), .int .i64 0]) ∧ Below W.heap.size W w') := fun ha W => by
  have := dNeeded p hp W
  rw [ndV_yes (asB_iff.1 ha).1, erP_yes (asB_iff.1 ha).1] at this
  exact this
 have HE0 : Hid (asB p n = false -> rvE p n (rps us) = 2) := fun ha => rvE_ask ha
 have HE1 : Hid (∀ k, k < us.length -> mrB p n ((rps us).getD k nrp) = false -> rvE p n (rps us) = 2) := fun k hk hm => rvE_one (by rw [rps_len]; exact hk) hm
 have HE2 : Hid (∀ k, k < us.length -> ((rps us).take k).all (mrB p n) = true -> mrB p n ((rps us).getD k nrp) = true -> ((rps us).take (k + 1)).all (mrB p n) = true) := fun k hk h1 h2 => by rw [all_take8 _ _ nrp (by rw [rps_len]; exact hk), h1, h2]; rfl
 have HE3 : Hid (asB p n = true -> (rps us).all (mrB p n) = true -> rvE p n (rps us) = if (!decide (wks (rps us)).Nodup) = true then 6 else if (us.length : Int) < need p then 7 else 0) := fun h1 h2 => by
  have := rvE_all h1 h2
  rw [rps_len] at this
  exact this
 have HTk : Hid ((rps us).take us.length = rps us) := by rw [<- rps_len us]; exact List.take_length
 have HWk := hide (fun k (hk : k < us.length) => wks_at us hk)
 have HWl := hide (wks_len us)
 have HFm := hide (fun k (hk : k < us.length) => h.one hk)
 have HL := hide h
 have hlen := h.big
 obtain ⟨ao, cap, rfl, hcap⟩ := h.spell
 obtain ⟨pb, hA⟩ := pb_box (w := w) p
 have HPb := hide pb
 obtain ⟨c0, c1, c2, c3, c4, c5, c6, c7⟩ := pb.cells
 have HAs : Hid (asB p n = (mayP p && (decide (0 <= n) && decide (n <= 64)))) := rfl
 clear pb h hp
 generalize rvE p n (rps us) = res at *
 rw [plan_eq8] at *
 cases hz : asB p n with
 | false =>
  have HR2 := hide (HE0.out hz)
  rw [hz] at HAs
  clear HE0 HE1 HE2 HE3 HTk HFm HL HR HN hz HWk HWl
  generalize us.length = m at *
  generalize mayP p = b0 at *
  have hcs : b0 = false ∨ (b0 = true ∧ n < 0) ∨ (b0 = true ∧ ¬ n < 0 ∧ 64 < n) := by
   have := HAs.out
   cases b0 with
   | false => exact .inl rfl
   | true =>
    rw [Bool.true_and] at this
    by_cases h1 : n < 0
    · exact .inr (.inl ⟨rfl, h1⟩)
    · refine .inr (.inr ⟨rfl, h1, ?_⟩)
      rw [decide_eq_true (by omega), Bool.true_and] at this
      have := of_decide_eq_false this.symm
      omega
  rcases hcs with rfl | ⟨rfl, h0⟩ | ⟨rfl, h0, h1⟩
  all_goals
   go_enter Tryz.func31, Tryz.ntmps31
   go_wp2_with (go_at_call 39; refine (HA.out _).mono ?_; rintro e w1 ⟨rfl, hb1⟩)
   go_ret
   exact ⟨by have hr := HR2.out; subst hr; rfl, Below.next hA hb1⟩
 | true =>
  obtain ⟨hm, n0, n1⟩ := asB_iff.1 hz
  rw [hm] at HA
  have HN := hide (HN.out hz)
  have HE3 := hide (HE3.out hz)
  clear HE0 hz HAs hm
  generalize hnd : need p = nd at *
  clear hnd
  obtain ⟨wk, Hwk⟩ : ∃ wk, Hid (wks (rps us) = wk) := ⟨_, rfl⟩
  rw [Hwk.out] at HE3 HWk HWl
  have g0 : ¬ n < 0 := by omega
  have g1 : ¬ 64 < n := by omega
  go_enter Tryz.func31, Tryz.ntmps31
  go_upto_region 3 with (go_at_call 39; refine (HA.out _).mono ?_; rintro e w1 ⟨rfl, hb1⟩)
  generalize w.alloc (.cells #[.int .u8 p.f, .int .i64 p.n, .int .i64 p.k, .int .i64 p.t, .int .i64 p.s, .int .i64 p.e, .int .i64 p.d, .int .i64 p.w] 24) = W0 at *
  clear c0 c1 c2 c3 c4 c5 c6 c7 HA g0 g1
  go_wp2_with fail
  go_loopw [7] (fun vi wr => ∃ k : Nat, k <= us.length ∧ vi = .int .i64 k ∧ Hid (((rps us).take k).all (mrB p n) = true) ∧ Below W0.heap.size W0 wr) (fun vi _ => us.length - (intOf vi).toNat)
  case atStart => exact ⟨0, Nat.zero_le _, rfl, rfl, hb1⟩
  case round =>
   clear hb1
   obtain ⟨k, hk, rfl, HK, hB⟩ := hrel
   by_cases hlt : k < us.length
   · obtain ⟨b, off, cp', heq, _, _⟩ := HL.out.lm.form (by omega)
     cases heq
     obtain ⟨d0, d1, _⟩ := HL.out.cell (Below.next hA hB) hlt
     obtain ⟨a9, c9, h9⟩ := HFm.out k hlt
     have HI := hide (HR.out k hlt)
     have HX1 := hide (HE1.out k hlt)
     have HX2 := hide (HE2.out k hlt HK.out)
     rw [h9] at d1 HI
     have k0 : (0 : Int) <= (k : Int) := by omega
     have k1 : (k : Int) < (us.length : Int) := by omega
     have hdr : Below wr.heap.size wr wr.drew := (Below.refl _ wr).drew
     have hBd := Below.next hB hdr
     generalize (us.getD k zRq).2.2.length = m9 at *
     generalize (us.getD k zRq).1 = i9 at *
     have HSs : Hid (∀ V, Below wr.heap.size wr V -> (V.cell? ⟨w.heap.size, 0, none⟩ = some (.int .u8 p.f) ∧ V.cell? ⟨w.heap.size, 1, none⟩ = some (.int .i64 p.n) ∧ V.cell? ⟨w.heap.size, 2, none⟩ = some (.int .i64 p.k) ∧ V.cell? ⟨w.heap.size, 3, none⟩ = some (.int .i64 p.t) ∧ V.cell? ⟨w.heap.size, 4, none⟩ = some (.int .i64 p.s) ∧ V.cell? ⟨w.heap.size, 5, none⟩ = some (.int .i64 p.e) ∧ V.cell? ⟨w.heap.size, 6, none⟩ = some (.int .i64 p.d) ∧ V.cell? ⟨w.heap.size, 7, none⟩ = some (.int .i64 p.w)) ∧ V.cell? ⟨b, off + k * 2, none⟩ = some (.int .i64 i9) ∧ V.cell? ⟨b, off + k * 2 + 1, none⟩ = some (.slice a9 m9 c9)) := fun V hb => ⟨(HPb.out.below (Below.next hB hb)).cells, (hb.cell (cell_in d0)).trans d0, (hb.cell (cell_in d1)).trans d1⟩
     have hS0 := HSs.out _ hdr
     clear HFm HR HE1 HE2 HE3 HL HN HTk h9 HK d0 d1 HWk HWl Hwk
     generalize mrB p n ((rps us).getD k nrp) = bm at *
     go_upto_region 6 with fail
     refine wp_region_held_drew (S := (fun V => (V.cell? ⟨w.heap.size, 0, none⟩ = some (.int .u8 p.f) ∧ V.cell? ⟨w.heap.size, 1, none⟩ = some (.int .i64 p.n) ∧ V.cell? ⟨w.heap.size, 2, none⟩ = some (.int .i64 p.k) ∧ V.cell? ⟨w.heap.size, 3, none⟩ = some (.int .i64 p.t) ∧ V.cell? ⟨w.heap.size, 4, none⟩ = some (.int .i64 p.s) ∧ V.cell? ⟨w.heap.size, 5, none⟩ = some (.int .i64 p.e) ∧ V.cell? ⟨w.heap.size, 6, none⟩ = some (.int .i64 p.d) ∧ V.cell? ⟨w.heap.size, 7, none⟩ = some (.int .i64 p.w)) ∧ V.cell? ⟨b, off + k * 2, none⟩ = some (.int .i64 i9) ∧ V.cell? ⟨b, off + k * 2 + 1, none⟩ = some (.slice a9 m9 c9))) (by kernel_rfl) (by ((try dsimp only) <;> (first | with_reducible exact hS1 | with_reducible exact hS0))) (fun hHeld => ?_)
     refine tkY 0 ?_
     refine tkY 1 ?_
     refine tkY 2 ?_
     refine tkY 3 ?_
     refine tkY 4 ?_
     refine tkY 5 ?_
     refine rd1 6 (fun K hK => ?_)
     (try simp only [ly0, ly1, ly2, ly3, ly4, ly5, ly6, ly7])
     go_simp
     (go_at_call 11; refine (HI.out _ (Below.next hA hBd)).mono ?_; rintro e w2 ⟨rfl, hb2⟩; have hC2 := Below.next hdr hb2; have hS1 := HSs.out _ hC2)
     first | refine hK.out _ _ ?k7 (fun hHeld => ?_) | (go_wp2_with fail; refine hK.out _ _ ?k7 (fun hHeld => ?_))
     case k7 => ((try dsimp only) <;> (first | with_reducible exact hS1 | with_reducible exact hS0))
     clear hK K
     (try simp only [ly0, ly1, ly2, ly3, ly4, ly5, ly6, ly7])
     refine tkY 7 ?_
     refine wpAnyH_done (by kernel_rfl) ?_ _
     have hD := Below.next hB hC2
     clear hS0 hS1 HSs HI
     cases bm with
     | false =>
      have HR2 := hide (HX1.out rfl)
      clear HX1 HX2
      go_wp2_with fail
      go_ret
      exact ⟨by have hr := HR2.out; subst hr; rfl, Below.next hA hD⟩
     | true =>
      have HK2 := hide (HX2.out rfl)
      clear HX1 HX2
      go_wp2_with fail
      go_roundw
      case rel => exact ⟨k + 1, by omega, by go_num, HK2, hD⟩
      case measure => simp [intOf]; omega
   · obtain rfl : k = us.length := by omega
     rw [HTk.out] at HK
     have HR2 := hide (HE3.out HK.out)
     clear HFm HR HE1 HE2 HE3 HTk HK
     go_wp2_with fail
     go_loopw [8] (fun vi wq => ∃ i : Nat, i <= us.length ∧ vi = .int .i64 i ∧ Hid ((wk.take i).Nodup) ∧ Below W0.heap.size W0 wq) (fun vi _ => us.length - (intOf vi).toNat)
     case atStart => exact ⟨0, Nat.zero_le _, rfl, by show List.Nodup _; simp, hB⟩
     case round =>
      clear hB
      obtain ⟨i, hi, rfl, HD, hB⟩ := hrel
      by_cases hil : i < us.length
      · obtain ⟨b, off, cp', heq, _, _⟩ := HL.out.lm.form (by omega)
        cases heq
        have i0 : (0 : Int) <= (i : Int) := by omega
        have i1 : (i : Int) < (us.length : Int) := by omega
        have HDi := hide (fun hn => nodup_takeI (l := wk) (i := i) (by rw [HWl.out]; exact hil) HD.out hn)
        go_wp2_with fail
        go_loopw [9] (fun vj wq => ∃ j : Nat, j <= i ∧ vj = .int .i64 j ∧ Hid (∀ m, m < j -> wk.getD i 0 ≠ wk.getD m 0) ∧ Below W0.heap.size W0 wq) (fun vj _ => i - (intOf vj).toNat)
        case atStart => exact ⟨0, Nat.zero_le _, rfl, fun m hm => by omega, hB⟩
        case round =>
         clear hB
         obtain ⟨j, hj, rfl, HJ, hB⟩ := hrel
         by_cases hjl : j < i
         · obtain ⟨d0, _, _⟩ := HL.out.cell (Below.next hA hB) hil
           obtain ⟨e0, _, _⟩ := HL.out.cell (Below.next hA hB) (k := j) (by omega)
           rw [<- HWk.out i hil] at d0
           rw [<- HWk.out j (by omega)] at e0
           have j0 : (0 : Int) <= (j : Int) := by omega
           have j1 : (j : Int) < (i : Int) := by omega
           have j2 : (j : Int) < (us.length : Int) := by omega
           have HNd := hide (fun he => not_nodupI (l := wk) (i := i) (j := j) (by rw [HWl.out]; exact hil) hjl he)
           have hdr : Below wr.heap.size wr wr.drew := (Below.refl _ wr).drew
           have hS0 : wr.drew.cell? ⟨b, off + i * 2, none⟩ = some (.int .i64 (wk.getD i 0)) ∧ wr.drew.cell? ⟨b, off + j * 2, none⟩ = some (.int .i64 (wk.getD j 0)) := ⟨(hdr.cell (cell_in d0)).trans d0, (hdr.cell (cell_in e0)).trans e0⟩
           have hBd := Below.next hB hdr
           have HJn : Hid (¬ wk.getD i 0 = wk.getD j 0 -> ∀ m, m < j + 1 -> wk.getD i 0 ≠ wk.getD m 0) := fun hne m hm => by
            by_cases e : m < j
            · exact HJ.out m e
            · obtain rfl : m = j := by omega
              exact hne
           clear HJ HL HWk HWl HDi HD d0 e0 HN Hwk
           generalize wk.getD i 0 = wi at *
           generalize hwj : wk.getD j 0 = wj at *
           clear hwj
           go_upto_region 14 with fail
           refine wp_region_held_drew (S := (fun V => V.cell? ⟨b, off + i * 2, none⟩ = some (.int .i64 wi) ∧ V.cell? ⟨b, off + j * 2, none⟩ = some (.int .i64 wj))) (by kernel_rfl) (by ((try dsimp only) <;> (with_reducible exact hS0))) (fun hHeld => ?_)
           refine tkY 0 ?_
           refine tkY 1 ?_
           refine tkY 2 ?_
           refine tkY 3 ?_
           refine tkY 4 ?_
           refine tkY 5 ?_
           refine tkY 6 ?_
           refine tkY 7 ?_
           refine tkY 8 ?_
           refine tkY 9 ?_
           refine tkY 10 ?_
           refine wpAnyH_done (by kernel_rfl) ?_ _
           by_cases he : wi = wj
           · have hnn := HNd.out he
             have HR3 : Hid (res = 6) := by
              have := HR2.out
              rw [decide_eq_false hnn] at this
              exact this
             clear HR2 HNd HJn hS0 hnn
             go_wp2_with fail
             go_ret
             exact ⟨by have hr := HR3.out; subst hr; rfl, Below.next hA hBd⟩
           · have HJ2 := hide (HJn.out he)
             clear HR2 HNd HJn hS0
             go_wp2_with fail
             go_roundw
             case rel => exact ⟨j + 1, by omega, by go_num, HJ2, hBd⟩
             case measure => simp [intOf]; omega
         · obtain rfl : j = i := by omega
           have HD2 := hide (HDi.out HJ.out)
           clear HJ HL HWk HWl HDi HD HN HR2 Hwk
           go_wp2_with fail
           go_roundw
           case rel => exact ⟨j + 1, by omega, by go_num, HD2, hB⟩
           case measure => simp [intOf]; omega
      · obtain rfl : i = us.length := by omega
        have hnd : wk.Nodup := by
         have := HD.out
         rw [<- HWl.out, List.take_length] at this
         exact this
        rw [decide_eq_true hnd, if_neg (by decide)] at HR2
        obtain ⟨c0, c1, c2, c3, c4, c5, c6, c7⟩ := (HPb.out.below hB).cells
        clear hnd HD HL HWk HWl Hwk
        by_cases hs : (us.length : Int) < nd
        · rw [if_pos hs] at HR2
          go_wp2_with (go_at_call 64; refine (HN.out _).mono ?_; rintro e w3 ⟨rfl, hb3⟩)
          go_ret
          exact ⟨by have hr := HR2.out; subst hr; rfl, Below.next (Below.next hA hB) hb3⟩
        · rw [if_neg hs] at HR2
          go_wp2_with (go_at_call 64; refine (HN.out _).mono ?_; rintro e w3 ⟨rfl, hb3⟩)
          go_ret
          exact ⟨by have hr := HR2.out; subst hr; rfl, Below.next (Below.next hA hB) hb3⟩
end Go.Proofs.YtjhididlcdepdaaGreat
