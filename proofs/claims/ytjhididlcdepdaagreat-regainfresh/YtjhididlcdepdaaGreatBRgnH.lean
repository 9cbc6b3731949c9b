import Derived.Test.YtjhididlcdepdaaGreatBunG
import Derived.Test.YtjhididlcdepdaaGreatBunHA
set_option linter.unusedVariables false
set_option linter.unusedSimpArgs false
set_option maxRecDepth 100000
set_option maxHeartbeats 4000000
namespace Go.Proofs.YtjhididlcdepdaaGreat
open Go.RowKit Fld Pln
theorem gPlaces (p : Pn) (v : Value) (us : List Rq) (w : World) (hp : Ok8p p) (hm : mayP p = true) (h : Rpl w v us) (hw : ∀ x ∈ us, 0 <= x.1 ∧ x.1 < p.n) (hl : us.length <= 1000) :
 Calls Tryz.prog 44 #[plv p, v] w fun e w' => ∃ v', e = .returned v' ∧ w'.ownsRow w.heap.size 64 1 v' us.length (vals (xsR p (rps us))) ∧ Below w.heap.size w w' := by
 have H1 := hide (fun W => gWorkers p W hp)
 unfold Gives at H1
 rw [erP_yes hm] at H1
 rw [show wrkL p = outL p from if_pos hm] at H1
 obtain ⟨⟨n0, n1⟩, ⟨k0, k1⟩, ⟨t0, t1⟩, _⟩ := may_facts hm
 have hol : (outL p).length = p.n.toNat := pts_len _ _
 have HX : Hid (∀ k, k < us.length -> ∃ J : Nat, (us.getD k zRq).1 = (J : Int) ∧ J < (outL p).length ∧ (outL p).getD J 0 = co (xsR p (rps us)) k) := fun k hk => by
  have h1 := hw _ (getD_inQ hk)
  refine ⟨((us.getD k zRq).1).toNat, by omega, by omega, ?_⟩
  rw [xsR_at p (by rw [rps_len]; exact hk), rps_at]
  unfold outL
  rw [pts_at _ (by omega)]
  show _ = p.k + p.t + (us.getD k zRq).1
  omega
 have HFm := hide (fun k (hk : k < us.length) => h.one hk)
 have HZ := hide (pfil_zero (xsR p (rps us)))
 have HA := hide (pfil_all (xsR p (rps us)))
 have HS := hide (fun k hk => pfil_set (xs := xsR p (rps us)) (k := k) hk)
 have HN : Hid ((xsR p (rps us)).length = us.length) := by rw [xsR_len, rps_len]; exact rfl
 obtain ⟨pb, hA⟩ := pb_box (w := w) p
 obtain ⟨c0, c1, c2, c3, c4, c5, c6, c7⟩ := pb.cells
 have HL := hide h
 obtain ⟨ao, cap, rfl, hcap⟩ := h.spell
 have hmk := makeW us.length hl
 clear pb h hm hp hw hol
 generalize xsR p (rps us) = ns at *
 generalize outL p = os at *
 unfold plv plw at *
 go_enter Tryz.func44, Tryz.ntmps44
 go_upto_region 2 with (go_at_call 75; refine (H1.out _).mono ?_; rintro e w1 ⟨v1, rfl, hO1, hb1⟩)
 have hB1 := Below.next hA hb1
 obtain ⟨a1, q1, rfl⟩ := own_form hO1
 have HO1 := hide hO1
 clear hO1 c0 c1 c2 c3 c4 c5 c6 c7 hA hb1
 have HO2 := hide (own_new (W := w1) (base := w1.heap.size) (T := 64) (Nat.le_refl _) (zrs_len us.length) hl)
 have hB2 := alloc_below w1 (.cells (zrs us.length).toArray 64)
 go_wp2_with fail
 generalize w1.alloc (.cells (zrs us.length).toArray 64) = W2 at *
 clear hmk
 rw [show zrs us.length = vals (pfil ns 0) by rw [HZ.out, HN.out]; rfl] at HO2
 go_loopw [20] (fun vi wr => ∃ (k : Nat), k <= us.length ∧ vi = .int .i64 k ∧ Hid (wr.ownsRow w1.heap.size 64 1 (.slice (some ⟨w1.heap.size, 0, none⟩) us.length us.length) us.length (vals (pfil ns k))) ∧ Below w1.heap.size w1 wr) (fun vi _ => us.length - (intOf vi).toNat)
 case atStart => exact ⟨0, Nat.zero_le _, rfl, HO2, hB2⟩
 case round =>
  clear HO2 hB2
  obtain ⟨k, hk, rfl, HO, hB⟩ := hrel
  by_cases hlt : k < us.length
  · obtain ⟨b, off, cp, heq, _, _⟩ := HL.out.lm.form (by omega)
    cases heq
    obtain ⟨d0, d1, _⟩ := HL.out.cell (Below.next hB1 hB) hlt
    obtain ⟨a9, c9, h9⟩ := HFm.out k hlt
    have k0 : (0 : Int) <= (k : Int) := by omega
    have k1 : (k : Int) < (us.length : Int) := by omega
    obtain ⟨J, hJ, hJl, hJe⟩ := HX.out k hlt
    rw [hJ] at d0
    rw [h9] at d1
    generalize (us.getD k zRq).2.2.length = m9 at *
    obtain ⟨g1, cg, hvg, _, _⟩ := HO1.out.form (by omega)
    injection hvg with hvg _ hcg
    subst hvg hcg
    clear HFm h9 hJ HX HL HZ HA H1
    go_upto_region 6 with fail
    have hAl := alloc_below wr (.cells #[.int .i64 (J : Int), .slice a9 m9 c9] 38)
    obtain ⟨e0, e1, _⟩ := rp_box wr (J : Int) (.slice a9 m9 c9)
    have hC := Below.next hB hAl
    have HOv := hide (own_below HO.out hAl)
    generalize wr.alloc (.cells #[.int .i64 (J : Int), .slice a9 m9 c9] 38) = V at *
    generalize wr.heap.size = gv at *
    clear d0 d1 hAl HO
    have hcJ := own_cell (own_below HO1.out hC) rfl hJl
    rw [hJe] at hcJ
    have hfr := free_own HOv.out k
    have hcx := own_cell HOv.out (by rw [pfil_len, HN.out]) hlt
    have HO3 := hide (own_here (k := k) (z := co ns k) HOv.out)
    rw [HS.out k (by rw [HN.out]; exact hlt)] at HO3
    have hB3 : Below w1.heap.size w1 (V.setCell ⟨w1.heap.size, k, none⟩ (.int .u64 (co ns k))) := hC.setCell (p := ⟨w1.heap.size, k, none⟩) (Nat.le_refl _) _
    have j0 : (0 : Int) <= (J : Int) := by omega
    have j1 : (J : Int) < (os.length : Int) := by omega
    clear HS HOv hJe
    generalize co ns k = x at *
    generalize (pfil ns k).getD k 0 = y at *
    go_wp2
    go_roundw
    case rel => exact ⟨k + 1, by omega, by go_num, HO3, hB3⟩
    case measure => simp [intOf]; omega
  · obtain rfl : k = us.length := by omega
    have HO3 : Hid (wr.ownsRow w1.heap.size 64 1 (.slice (some ⟨w1.heap.size, 0, none⟩) us.length us.length) us.length (vals ns)) := by
     have := HO.out
     rw [<- HN.out, HA.out] at this
     rw [HN.out] at this
     exact this
    clear HX HZ HA HS HL HO H1 HFm
    go_wp2
    go_ret
    exact ⟨_, rfl, own_mono HO3.out hB1.size, Below.next hB1 hB⟩
theorem gValuesOf (o : Nat) (v : Value) (us : List Rq) (w : World) (h : Rpl w v us) (ho : ∀ x ∈ us, o < x.2.2.length) (ho64 : o < 64) (hl : us.length <= 1000) :
 Calls Tryz.prog 59 #[.int .i64 (o : Int), v] w fun e w' => ∃ v', e = .returned v' ∧ w'.ownsRow w.heap.size 64 1 v' us.length (vals (ysR o (rps us))) ∧ Below w.heap.size w w' := by
 have HX : Hid (∀ k, k < us.length -> ∃ b off cp, (us.getD k zRq).2.1 = .slice (some ⟨b, off, none⟩) (us.getD k zRq).2.2.length cp ∧ o < (us.getD k zRq).2.2.length ∧ ∀ W, Below w.heap.size w W -> W.cell? ⟨b, off + o, none⟩ = some (.int .u64 (co (ysR o (rps us)) k))) := fun k hk => by
  have h1 := ho _ (getD_inQ hk)
  have h2 := h.row _ (getD_inQ hk)
  rw [ysR_at o (by rw [rps_len]; exact hk), rps_at]
  show ∃ b off cp, _ ∧ _ ∧ ∀ W, Below w.heap.size w W -> W.cell? ⟨b, off + o, none⟩ = some (.int .u64 (co (us.getD k zRq).2.2 o))
  obtain ⟨b, off, cp, e, hc⟩ := rw_some8 h2 (by omega)
  exact ⟨b, off, cp, e, h1, fun W hb => hc W hb o h1⟩
 have HZ := hide (pfil_zero (ysR o (rps us)))
 have HA := hide (pfil_all (ysR o (rps us)))
 have HS := hide (fun k hk => pfil_set (xs := ysR o (rps us)) (k := k) hk)
 have HN : Hid ((ysR o (rps us)).length = us.length) := by rw [ysR_len, rps_len]; exact rfl
 have HL := hide h
 obtain ⟨ao, cap, rfl, hcap⟩ := h.spell
 have hmk := makeW us.length hl
 clear h ho
 generalize ysR o (rps us) = ns at *
 have HO2 := hide (own_new (W := w) (base := w.heap.size) (T := 64) (Nat.le_refl _) (zrs_len us.length) hl)
 have hB2 := alloc_below w (.cells (zrs us.length).toArray 64)
 go_enter Tryz.func59, Tryz.ntmps59
 go_wp2_with fail
 generalize w.alloc (.cells (zrs us.length).toArray 64) = W2 at *
 clear hmk
 rw [show zrs us.length = vals (pfil ns 0) by rw [HZ.out, HN.out]; rfl] at HO2
 go_loopw [13] (fun vi wr => ∃ (k : Nat), k <= us.length ∧ vi = .int .i64 k ∧ Hid (wr.ownsRow w.heap.size 64 1 (.slice (some ⟨w.heap.size, 0, none⟩) us.length us.length) us.length (vals (pfil ns k))) ∧ Below w.heap.size w wr) (fun vi _ => us.length - (intOf vi).toNat)
 case atStart => exact ⟨0, Nat.zero_le _, rfl, HO2, hB2⟩
 case round =>
  clear HO2 hB2
  obtain ⟨k, hk, rfl, HO, hB⟩ := hrel
  by_cases hlt : k < us.length
  · obtain ⟨b, off, cp, heq, _, _⟩ := HL.out.lm.form (by omega)
    cases heq
    obtain ⟨d0, d1, _⟩ := HL.out.cell hB hlt
    have k0 : (0 : Int) <= (k : Int) := by omega
    have k1 : (k : Int) < (us.length : Int) := by omega
    obtain ⟨b9, o9, c9, h9, hol, hcl⟩ := HX.out k hlt
    have HCl := hide hcl
    rw [h9] at d1
    have o0 : (0 : Int) <= (o : Int) := by omega
    have o1 : (o : Int) < ((us.getD k zRq).2.2.length : Int) := by omega
    generalize (us.getD k zRq).2.2.length = m9 at *
    generalize (us.getD k zRq).1 = i9 at *
    clear h9 HX HL HZ HA hcl
    go_upto_region 5 with fail
    have hAl := alloc_below wr (.cells #[.int .i64 i9, .slice (some ⟨b9, o9, none⟩) m9 c9] 38)
    obtain ⟨e0, e1, _⟩ := rp_box wr i9 (.slice (some ⟨b9, o9, none⟩) m9 c9)
    have hC := Below.next hB hAl
    have HOv := hide (own_below HO.out hAl)
    generalize wr.alloc (.cells #[.int .i64 i9, .slice (some ⟨b9, o9, none⟩) m9 c9] 38) = V at *
    generalize wr.heap.size = gv at *
    clear d0 d1 hAl HO
    have hcJ := HCl.out _ hC
    have hfr := free_own HOv.out k
    have hcx := own_cell HOv.out (by rw [pfil_len, HN.out]) hlt
    have HO3 := hide (own_here (k := k) (z := co ns k) HOv.out)
    rw [HS.out k (by rw [HN.out]; exact hlt)] at HO3
    have hB3 : Below w.heap.size w (V.setCell ⟨w.heap.size, k, none⟩ (.int .u64 (co ns k))) := hC.setCell (p := ⟨w.heap.size, k, none⟩) (Nat.le_refl _) _
    clear HS HOv HCl
    generalize co ns k = x at *
    generalize (pfil ns k).getD k 0 = y at *
    go_wp2
    go_roundw
    case rel => exact ⟨k + 1, by omega, by go_num, HO3, hB3⟩
    case measure => simp [intOf]; omega
  · obtain rfl : k = us.length := by omega
    have HO3 : Hid (wr.ownsRow w.heap.size 64 1 (.slice (some ⟨w.heap.size, 0, none⟩) us.length us.length) us.length (vals ns)) := by
     have := HO.out
     rw [<- HN.out, HA.out] at this
     rw [HN.out] at this
     exact this
    clear HX HZ HA HS HL HO
    go_wp2
    go_ret
    exact ⟨_, rfl, HO3.out, hB⟩
end Go.Proofs.YtjhididlcdepdaaGreat
