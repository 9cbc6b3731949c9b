import Derived.Test.YtjhididlcdepdaaGreatBunYE
import Derived.Test.YtjhididlcdepdaaGreatBLocV
import Derived.Test.YtjhididlcdepdaaGreatBQMute
import Derived.Test.YtjhididlcdepdaaGreatBTkA
import Derived.Test.YtjhididlcdepdaaGreatBRgnK
set_option linter.unusedVariables false
set_option linter.unusedSimpArgs false
set_option maxRecDepth 100000
set_option maxHeartbeats 4000000
namespace Go.Proofs.YtjhididlcdepdaaGreat
open Go.RowKit Fld Pln Shr
theorem loc_one {f p : Int} {wd : Bool} (hf : Fi f p wd) : lcE f [1] [0] = 0 ∧ lcL f [1] [0] = [p - 1, 1] := by
 rcases hf with ⟨rfl, rfl, _⟩ | ⟨rfl, rfl, _⟩
 · exact ⟨by decide +kernel, by decide +kernel⟩
 · exact ⟨by decide +kernel, by decide +kernel⟩
theorem gPrimeOf (f p : Int) (wd : Bool) (w : World) (hf : Fi f p wd) : Calls Tryz.prog 62 #[.int .u8 f] w fun e w' => e = .returned (.int .u64 p) ∧ Below w.heap.size w w' := by
 have hb := hf.big
 have ht := hf.top
 have a1 := alloc_below w (.cells #[.int .u64 1] 64)
 have a2 := alloc_below (w.alloc (.cells #[.int .u64 1] 64)) (.cells #[.int .i64 0] 3)
 have hO1 : (w.alloc (.cells #[.int .u64 1] 64)).ownsRow w.heap.size 64 1 (.slice (some ⟨w.heap.size, 0, none⟩) 1 1) 1 (vals [1]) := own_new (cs := vals [1]) (Nat.le_refl _) rfl (by omega)
 have hO2 : ((w.alloc (.cells #[.int .u64 1] 64)).alloc (.cells #[.int .i64 0] 3)).ownsRow w.heap.size 3 1 (.slice (some ⟨w.heap.size + 1, 0, none⟩) 1 1) 1 ([0].flatMap iw) := by
  have := own_new (W := w.alloc (.cells #[.int .u64 1] 64)) (base := w.heap.size) (T := 3) (cs := [0].flatMap iw) (n := 1) a1.size rfl (by omega)
  have e : (w.alloc (.cells #[.int .u64 1] 64)).heap.size = w.heap.size + 1 := by simp
  rw [e] at this
  exact this
 have HL := hide (gLocator f (.slice (some ⟨w.heap.size, 0, none⟩) 1 1) (some ⟨w.heap.size + 1, 0, none⟩) 1 [1] [0] _ ((rw_of_own (xs := [1]) hO1 (by decide) (by decide)).below a2) (lm_of_own iw_len (by decide) hO2 (by decide)) (by unfold Iw; decide) (by decide))
 unfold Gives at HL
 rw [(loc_one hf).1, (loc_one hf).2] at HL
 have hA := Below.next a1 a2
 clear hO1 hO2 a1 a2
 go_enter Tryz.func62, Tryz.ntmps62
 go_wp2_with (go_at_call 92; refine HL.out.mono ?_; rintro e w1 ⟨v1, rfl, hO, hb1⟩; obtain ⟨g1, cg, rfl, _, _⟩ := hO.form (by simp); have hc := own_cell (k := 0) hO rfl (by simp); have hc2 : w1.cell? ⟨g1, 0, none⟩ = some (.int .u64 (p - 1)) := hc; clear hc hO)
 go_ret
 refine ⟨?_, Below.next hA hb1⟩
 first | rfl | (congr 2; omega) | congr 2
def vlb (q : Int) (Ps : List (List Int)) (xs : List Int) : List (List Int) := Ps.map (fun P => xs.map (fun x => vl q x P))
theorem vlb_len (q : Int) (Ps : List (List Int)) (xs : List Int) : (vlb q Ps xs).length = Ps.length := by unfold vlb; rw [List.length_map]
theorem vlb_at (q : Int) {Ps : List (List Int)} {xs : List Int} {j k : Nat} (hj : j < Ps.length) (hk : k < xs.length) : co ((vlb q Ps xs).getD j []) k = vl q (co xs k) (Ps.getD j []) := by
 unfold vlb
 rw [List.getD_eq_getElem?_getD, List.getElem?_map, List.getElem?_eq_getElem hj]
 show co (xs.map _) k = _
 have e : Ps.getD j [] = Ps[j] := by rw [List.getD_eq_getElem?_getD, List.getElem?_eq_getElem hj]; rfl
 rw [co_mapR _ 0 hk, e]; rfl
theorem vlb_trn (q : Int) (Ps : List (List Int)) (xs : List Int) : trn (vlb q Ps xs) xs.length = xs.map (rwR q Ps) := by
 unfold trn
 refine List.ext_getElem (by simp) (fun i h1 h2 => ?_)
 have hi : i < xs.length := by simpa using h2
 rw [List.getElem_map, List.getElem_map, List.getElem_range]
 unfold rwR
 refine ext_co (by rw [col_len, vlb_len, List.length_map]) (fun j hj => ?_)
 rw [col_len, vlb_len] at hj
 have e1 : co (col (vlb q Ps xs) i) j = co ((vlb q Ps xs).getD j []) i := by
  rw [col_at (by rw [vlb_len]; exact hj), List.getD_eq_getElem?_getD, List.getElem?_eq_getElem (by rw [vlb_len]; exact hj)]; rfl
 rw [e1, vlb_at q hj hi, co_mapR _ [] hj, co_at hi]
theorem Rws.pick8 {w W : World} {b off n cap : Nat} {l : List (List Int)} (h : Rws w (.slice (some ⟨b, off, none⟩) n cap) l) (hB : Below w.heap.size w W) {j : Nat} (hj : j < l.length) : ∃ a2 c2, W.cell? ⟨b, off + j, none⟩ = some (.slice a2 (l.getD j []).length c2) ∧ Rw W (.slice a2 (l.getD j []).length c2) (l.getD j []) := by
 obtain ⟨ao, cap', e, _, _, hc⟩ := h
 cases e
 obtain ⟨b', off', e', hbl, hcell⟩ := hc (by intro h; rw [h] at hj; simp at hj)
 cases e'
 obtain ⟨u, hu, hR⟩ := hcell j hj
 obtain ⟨au, cu, rfl, _⟩ := hR.spell
 exact ⟨au, cu, (hB.cell (p := ⟨b, off + j, none⟩) hbl).trans hu, hR.below hB⟩
theorem gRowsR (f q : Int) (wd : Bool) (vq vx : Value) (Ps : List (List Int)) (xs : List Int) (w : World) (hf : Fi f q wd) (hP : Rws w vq Ps) (hX : Rw w vx xs) (he : ∀ P ∈ Ps, Els q P) (hxe : Els q xs) (hn : xs.length <= 1000) (hm : Ps.length <= 1000) :
 Calls Tryz.prog 29 #[.int .u8 f, vq, vx] w fun e w' => ∃ v' us, e = .returned v' ∧ Mtx w' w.heap.size v' us (xs.map (rwR q Ps)) ∧ Below w.heap.size w w' := by
 have HPr := hide (fun W => gPrimeOf f q wd W hf)
 have HV : Hid (∀ k j, k < xs.length -> j < Ps.length -> ∀ W a c, Rw W (.slice a (Ps.getD j []).length c) (Ps.getD j []) -> Calls Tryz.prog 63 #[.int .u64 q, .slice a (Ps.getD j []).length c, .int .u64 (co xs k)] W fun e w' => e = .returned (.int .u64 (co ((vlb q Ps xs).getD j []) k)) ∧ Below W.heap.size W w') := fun k j hk hj W a c hR => by
  rw [vlb_at q hj hk]
  exact gValueR q (co xs k) wd _ _ W hf.md hR (he _ (getD_in8 [] hj)) (hxe.co hf.pos k)
 have HT := hide (vlb_trn q Ps xs)
 have HBl := hide (vlb_len q Ps xs)
 have HR := hide hP
 have HX := hide (fun (h0 : 0 < xs.length) => rw_some8 hX h0)
 obtain ⟨ao, cap, rfl, _, hcap, _⟩ := hP
 obtain ⟨ax, cx, rfl, _⟩ := hX.spell
 obtain ⟨n, Hn⟩ : ∃ n, Hid (xs.length = n) := ⟨_, rfl⟩
 rw [<- HT.out]
 rw [Hn.out] at HV HX hn ⊢
 have hmk1 := makeN n hn
 have HMW := hide (makeW Ps.length hm)
 clear hX he hxe hf HT
 generalize hbl : vlb q Ps xs = bl at *
 clear hbl
 go_enter Tryz.func29, Tryz.ntmps29
 go_upto_region 2 with (go_at_call 62; refine (HPr.out _).mono ?_; rintro e w1 ⟨rfl, hb1⟩)
 have HM0 := hide (mtx_new w1 (lo := w1.heap.size) (n := n) (Nat.le_refl _) hn (fun t => if t < 0 then col bl t else []) (fun t ht => if_neg (by omega)))
 rw [show mkl n (fun t => if t < 0 then col bl t else []) = trk bl n 0 from rfl] at HM0
 have hA := alloc_below w1 (.cells (nvs n).toArray 36)
 go_wp2_with fail
 generalize w1.alloc (.cells (nvs n).toArray 36) = W0 at *
 clear hmk1
 go_loopw [18] (fun vi wr => ∃ (k : Nat) (us : List Value), k <= n ∧ vi = .int .i64 k ∧ Hid (Mtx wr w1.heap.size (.slice (some ⟨w1.heap.size, 0, none⟩) n n) us (trk bl n k)) ∧ Below w1.heap.size w1 wr) (fun vi _ => n - (intOf vi).toNat)
 case atStart => exact ⟨0, _, Nat.zero_le _, rfl, HM0, hA⟩
 case round =>
  clear HM0 hA
  obtain ⟨k, us, hk, rfl, HM, hB⟩ := hrel
  by_cases hlt : k < n
  · have hcG := HM.out.cell (i := k) (by rw [trk_len]; exact hlt)
    have hGt := cell_in hcG
    have hfG := free_own (by have := HM.out.row; rw [trk_len] at this; exact this) k
    have k0 : (0 : Int) <= (k : Int) := by omega
    have k1 : (k : Int) < (n : Int) := by omega
    have hal := alloc_below wr (.cells (zrs Ps.length).toArray 64)
    have hmk := HMW.out
    have hZ : World.ownsRow (wr.alloc (.cells (zrs Ps.length).toArray 64)) w1.heap.size 64 1 (.slice (some ⟨wr.heap.size, 0, none⟩) Ps.length Ps.length) (List.replicate bl.length (0 : Int)).length (vals (List.replicate bl.length 0)) := by
     rw [List.length_replicate, HBl.out]
     exact own_new (cs := vals (List.replicate Ps.length 0)) hB.size (by rw [vals_length]; simp) hm
    have HM1 := hide ((HM.out.below hal).lay (by rw [trk_len]) (k := k) (by rw [trk_len]; exact hlt) hZ (fun i g hi hne hg e => by
     have := HM.out.tops hi hg
     have e2 : g = wr.heap.size := by simpa [Value.ownBlock] using e.symm
     omega))
    rw [trk_lay bl hlt] at HM1
    have hus : us.length = n := by have := HM.out.len; rw [trk_len] at this; exact this
    have hB1 : Below w1.heap.size w1 ((wr.alloc (.cells (zrs Ps.length).toArray 64)).setCell ⟨w1.heap.size, k, none⟩ (.slice (some ⟨wr.heap.size, 0, none⟩) Ps.length Ps.length)) := (Below.next hB hal).setCell (p := ⟨w1.heap.size, k, none⟩) (Nat.le_refl _) _
    have Hu : Hid ((us.set k (.slice (some ⟨wr.heap.size, 0, none⟩) Ps.length Ps.length)).getD k nov = .slice (some ⟨wr.heap.size, 0, none⟩) Ps.length Ps.length) := by
     show _ = _
     rw [Rnk.getD_set _ _ _ (by omega), if_pos rfl]
    have hcG1 : (wr.alloc (.cells (zrs Ps.length).toArray 64)).cell? ⟨w1.heap.size, k, none⟩ = some (us.getD k nov) := (hal.cell (p := ⟨w1.heap.size, k, none⟩) hGt).trans hcG
    rw [World.setCell_alloc_past _ _ _ _ hGt] at HM1 hB1
    clear HM hZ hal hus
    generalize us.getD k nov = u0 at *
    go_wp2_with fail
    clear hmk hcG hcG1 hfG
    generalize (wr.setCell ⟨w1.heap.size, k, none⟩ (.slice (some ⟨wr.heap.size, 0, none⟩) Ps.length Ps.length)).alloc (.cells (zrs Ps.length).toArray 64) = W1 at *
    generalize us.set k (.slice (some ⟨wr.heap.size, 0, none⟩) Ps.length Ps.length) = us1 at *
    generalize wr.heap.size = g at *
    go_loopw [29] (fun vj wq => ∃ (j : Nat), j <= Ps.length ∧ vj = .int .i64 j ∧ Hid (Mtx wq w1.heap.size (.slice (some ⟨w1.heap.size, 0, none⟩) n n) us1 (trj bl n k j)) ∧ Below w1.heap.size w1 wq) (fun vj _ => Ps.length - (intOf vj).toNat)
    case atStart => exact ⟨0, Nat.zero_le _, rfl, HM1, hB1⟩
    case round =>
     clear HM1 hB1 hB hGt
     obtain ⟨j, hj, rfl, HM, hB⟩ := hrel
     by_cases hjl : j < Ps.length
     · obtain ⟨b, off, cp, hv, _⟩ := HR.out.some_ (by omega)
       injection hv with hv _ hcv
       subst hv hcv
       obtain ⟨bx, ox, cx', hvx, hxc⟩ := HX.out (by omega)
       injection hvx with hvx _ hcx
       subst hvx hcx
       have hBw := Below.next hb1 hB
       obtain ⟨a2, c2, d1, d2⟩ := HR.out.pick8 hBw hjl
       have HPj := hide d2
       have d5 := hxc _ hBw k (by omega)
       have d3 := HM.out.cell (i := k) (by rw [trj_len]; exact hlt)
       rw [Hu.out] at d3
       have hjb : j < bl.length := by rw [HBl.out]; exact hjl
       have hgt : w1.heap.size <= g := by
        have := own_base (HM.out.each k (by rw [trj_len]; exact hlt)) g (by rw [Hu.out]; rfl)
        exact this
       have hgt2 : g < wr.heap.size := by
        have := own_top (HM.out.each k (by rw [trj_len]; exact hlt)) g (by rw [Hu.out]; rfl)
        exact this
       have HLy : Hid (∀ V, Below wr.heap.size wr V -> V.cell? ⟨g, j, none⟩ = some (.int .u64 (Rnk.mx (trj bl n k j) k j)) ∧ V.frozen? ⟨g, j, none⟩ = false ∧ Mtx (V.setCell ⟨g, j, none⟩ (.int .u64 (co (bl.getD j []) k))) w1.heap.size (.slice (some ⟨w1.heap.size, 0, none⟩) n n) us1 (trj bl n k (j + 1))) := fun V hb => by
        obtain ⟨d4, f4⟩ := (HM.out.below hb).at (i := k) (by rw [trj_len]; exact hlt) Hu.out (by rw [trj_here bl hlt, pcol_len, HBl.out]) (m := j) hjl
        have := (HM.out.below hb).put (k := k) (by rw [trj_len]; exact hlt) Hu.out (by rw [trj_here bl hlt, pcol_len, HBl.out]) j (co (bl.getD j []) k)
        rw [trj_here bl hlt, trj_set bl hlt hjb] at this
        exact ⟨d4, f4, this⟩
       have hdr : Below wr.heap.size wr wr.drew := (Below.refl _ wr).drew
       have HC := hide (fun W hR => HV.out k j hlt hjl W a2 c2 hR)
       have HSs : Hid (∀ V, Below wr.heap.size wr V -> V.cell? ⟨w1.heap.size, k, none⟩ = some (.slice (some ⟨g, 0, none⟩) Ps.length Ps.length) ∧ V.cell? ⟨b, off + j, none⟩ = some (.slice a2 (Ps.getD j []).length c2) ∧ V.cell? ⟨bx, ox + k, none⟩ = some (.int .u64 (co xs k))) := fun V hb => ⟨(hb.cell (cell_in d3)).trans d3, (hb.cell (cell_in d1)).trans d1, (hb.cell (cell_in d5)).trans d5⟩
       have hS0 := HSs.out _ hdr
       have j0 : (0 : Int) <= (j : Int) := by omega
       have j1 : (j : Int) < (Ps.length : Int) := by omega
       clear HR HM HMW HX HV hxc d1 d2 d3 d5
       generalize co (bl.getD j []) k = y at *
       generalize (Ps.getD j []).length = m2 at *
       generalize co xs k = x at *
       generalize Rnk.mx (trj bl n k j) k j = y0 at *
       go_upto_region 10 with fail
       refine wp_region_mute (S := (fun V => V.cell? ⟨w1.heap.size, k, none⟩ = some (.slice (some ⟨g, 0, none⟩) Ps.length Ps.length) ∧ V.cell? ⟨b, off + j, none⟩ = some (.slice a2 m2 c2) ∧ V.cell? ⟨bx, ox + k, none⟩ = some (.int .u64 x))) (by kernel_rfl) (by kernel_rfl) rfl (by ((try dsimp only) <;> (first | with_reducible exact hS1 | with_reducible exact hS0))) (fun hHeld => ?_)
       simp only [muteL, mute]
       refine tkY 0 ?_
       refine tkY 1 ?_
       refine tkY 2 ?_
       refine tkY 3 ?_
       refine tkY 4 ?_
       refine tkY 5 ?_
       refine tkY 6 ?_
       refine tkY 7 ?_
       refine tkY 8 ?_
       refine tkY 9 ?_
       refine tkY 10 ?_
       refine tkY 11 ?_
       refine tkY 12 ?_
       refine tkY 13 ?_
       refine rd1 14 (fun K hK => ?_)
       (try simp only [ly0, ly1, ly2, ly3, ly4, ly5, ly6, ly7])
       go_simp
       (go_at_call 63; refine (HC.out _ (HPj.out.below hdr)).mono ?_; rintro e w3 ⟨rfl, hb3⟩; have hC3 := Below.next hdr hb3; have hS1 := HSs.out _ hC3)
       first | refine hK.out _ _ ?k4 (fun hHeld => ?_) | (go_wp2_with fail; refine hK.out _ _ ?k4 (fun hHeld => ?_))
       case k4 => ((try dsimp only) <;> (first | with_reducible exact hS1 | with_reducible exact hS0))
       clear hK K
       (try simp only [ly0, ly1, ly2, ly3, ly4, ly5, ly6, ly7])
       refine tkY 15 ?_
       refine tkY 16 ?_
       refine wpAnyH_done (by kernel_rfl) ?_ _
       simp only [muteQ]
       obtain ⟨x1, x2, HM5⟩ := HLy.out _ hC3
       have HM5 := hide HM5
       have hB5 : Below w1.heap.size w1 (w3.setCell ⟨g, j, none⟩ (.int .u64 y)) := (Below.next hB hC3).setCell (p := ⟨g, j, none⟩) hgt _
       clear HLy HC HSs hS0 hS1 HPj
       go_wp2_with fail
       go_roundw
       case rel => exact ⟨j + 1, by omega, by go_num, HM5, hB5⟩
       case measure => simp [intOf]; omega
     · obtain rfl : j = Ps.length := by omega
       have HM2 := HM
       rw [<- HBl.out, trj_end bl hlt] at HM2
       clear HM HR HMW HX HV
       go_wp2
       go_roundw
       case rel => exact ⟨k + 1, _, by omega, by go_num, HM2, hB⟩
       case measure => simp [intOf]; omega
  · obtain rfl : k = n := by omega
    have HM2 := HM
    rw [trk_all] at HM2
    clear HM HR HMW HX HV
    go_wp2
    go_ret
    exact ⟨_, us, rfl, HM2.out.low hb1.size, Below.next hb1 hB⟩
end Go.Proofs.YtjhididlcdepdaaGreat
