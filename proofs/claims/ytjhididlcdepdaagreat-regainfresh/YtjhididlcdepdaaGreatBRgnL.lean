import Derived.Test.YtjhididlcdepdaaGreatBRgnK
import Derived.Test.YtjhididlcdepdaaGreatBTkA
set_option linter.unusedVariables false
set_option linter.unusedSimpArgs false
set_option maxRecDepth 100000
set_option maxHeartbeats 4000000
namespace Go.Proofs.YtjhididlcdepdaaGreat
open Go.RowKit Fld Pln
theorem own_int8 {w W : World} {base g cap : Nat} {l : List Int} (h : w.ownsRow base 3 1 (.slice (some ⟨g, 0, none⟩) l.length cap) l.length (l.flatMap iw)) {k : Nat} (hk : k < l.length) : w.cell? ⟨g, k, none⟩ = some (.int .i64 (l.getD k 0)) := by
 have := h.cellAt k (by omega)
 rw [this]
 have e := flat_get iw 1 iw_len l k (l.getD k 0) 0 (by rw [List.getD_eq_getElem?_getD, List.getElem?_eq_getElem hk]; rfl) (by omega)
 rw [Nat.mul_one, Nat.add_zero] at e
 exact e
theorem Mtx.kqg {S : Nat -> Prop} {w w' : World} {lo gw : Nat} {v : Value} {us : List Value} {l : List (List Int)} {cs : Array Value} {T : TypeId} (h : Mtx w lo v us l) (hk : Kq S w w') (hS : ∀ j, j ≠ gw -> j < w.heap.size -> S j) (hb : w.heap[gw]? = some (.cells cs T (0, 0))) (h1 : T ≠ 64) (h2 : T ≠ 36) : Mtx w' lo v us l :=
 ⟨hk.own h.row (fun g hg => hS g (fun e => own_apart h.row hb h2 (by rw [hg, e])) (own_top h.row g hg)), fun i hi => hk.own (h.each i hi) (fun g hg => hS g (fun e => own_apart (h.each i hi) hb h1 (by rw [hg, e])) (own_top (h.each i hi) g hg)), h.dif⟩
theorem gDec1 (p : Pn) (us : List Rq) (n k : Nat) (q : Int) (wd : Bool) (w0 Wb W : World) (gp gx gl gd gq gw G : Nat) (vx vl : Value) (hR : Rvf p n (rps us) q wd) (hf : Dcf p us n w0 Wb gp gx gl gd gq gw G vx vl) (hk : k < n) (h : Dcs p us n w0 Wb gw G k W) :
 Calls Tryz.prog 57 #[.int .i64 (k : Int), .pointer (some ⟨gp, 0, none⟩), .pointer (some ⟨gx, 0, none⟩), .pointer (some ⟨gl, 0, none⟩), .pointer (some ⟨gd, 0, none⟩), .pointer (some ⟨gq, 0, none⟩), .pointer (some ⟨gw, 0, none⟩)] W fun e w' => ∃ r : Int, e = .returned (.int .i64 r) ∧ ((r = 0 ∧ Dcs p us n w0 Wb gw G (k + 1) w') ∨ (r ≠ 0 ∧ Dcx p us n Wb gw G r w')) := by
 obtain ⟨f1, f2, f3, f4, f5, f6, f7⟩ := hf.at h.kq
 have hlo := hR.lo
 have hhi := hR.hi
 obtain ⟨_, _, _, _, ⟨e0, e1⟩, _⟩ := may_facts hR.may
 have hdg := dg_bound hR.may
 have hfew := hR.few
 rw [rps_len] at hfew
 have HV := hide (fun W' (hb : Below W.heap.size W W') => gValuesOf k vl us W' ((hf.rp.below f7).below hb) (fun x hx => by
  have := (hR.vl (rpO x) (List.mem_map.2 ⟨x, hx, rfl⟩)).1
  show k < (rpO x).vs.length
  omega) (by omega) (by omega))
 have HD : Hid (∀ W' vy, Below W.heap.size W W' -> Rw W' vy (ysR k (rps us)) -> GivesD 58 #[.int .u8 p.f, vx, vy, .int .i64 (dg p), .int .i64 p.e] W' (Dcd p.f (xsR p (rps us)) (ysR k (rps us)) (dg p) p.e) 0) := fun W' vy hb hy => by
  have := gDecode p.f vx vy (xsR p (rps us)) (ysR k (rps us)) (dg p) p.e W' (((xsR_wd hR).row f6).below hb) hy ⟨by omega, by omega⟩ ⟨by omega, by omega⟩
  rw [hR.dc k] at this
  exact this
 unfold GivesD at HD
 have HYw := hide (ysR_wd hR k)
 have HP := hide f1
 have hdr : Below W.heap.size W W.drew := (Below.refl _ W).drew
 have HS : Hid (∀ V, Below W.heap.size W V -> V.cell? ⟨gp, 0, none⟩ = some (.int .u8 p.f) ∧ V.cell? ⟨gp, 5, none⟩ = some (.int .i64 p.e) ∧ V.cell? ⟨gx, 0, none⟩ = some vx ∧ V.cell? ⟨gl, 0, none⟩ = some vl ∧ V.cell? ⟨gd, 0, none⟩ = some (.int .i64 (dg p))) := fun V hb => by
  obtain ⟨c0, _, _, _, _, c5, _⟩ := (f1.below hb).cells
  have l : ∀ {g : Nat} {o : Obj}, W.heap[g]? = some o -> g < W.heap.size := fun h => (Array.getElem?_eq_some_iff.1 h).1
  exact ⟨c0, c5, (box_cell ((hb.block _ (l f2)).trans f2)).1, (box_cell ((hb.block _ (l f3)).trans f3)).1, (box_cell ((hb.block _ (l f4)).trans f4)).1⟩
 obtain ⟨ax, cx, rfl⟩ := own_form f6
 obtain ⟨al, cl, rfl, _⟩ := hf.rp.spell
 have HF := hide hf
 have HH := hide h
 have HRv := hide hR
 clear f1 f2 f3 f4 f5 f6 hR hf h
 obtain ⟨D, HDg⟩ : ∃ D, Hid (dg p = D) := ⟨_, rfl⟩
 rw [HDg.out] at HD HS hdg
 obtain ⟨m, Hm⟩ : ∃ m, Hid (us.length = m) := ⟨_, rfl⟩
 rw [Hm.out] at HD HS HV hfew
 have hS0 := HS.out _ hdr
 go_enter Tryz.func57, Tryz.ntmps57
 go_upto_region 1 with fail
 refine wp_region_held_drew (S := (fun V => V.cell? ⟨gp, 0, none⟩ = some (.int .u8 p.f) ∧ V.cell? ⟨gp, 5, none⟩ = some (.int .i64 p.e) ∧ V.cell? ⟨gx, 0, none⟩ = some (.slice ax m cx) ∧ V.cell? ⟨gl, 0, none⟩ = some (.slice al m cl) ∧ V.cell? ⟨gd, 0, none⟩ = some (.int .i64 D))) (by kernel_rfl) (by ((try dsimp only) <;> (first | with_reducible exact hS2 | with_reducible exact hS1 | with_reducible exact hS0))) (fun hHeld => ?_)
 refine tkY 0 ?_
 refine tkY 1 ?_
 refine tkY 2 ?_
 refine tkY 3 ?_
 refine tkY 4 ?_
 refine tkY 6 ?_
 refine tkY 7 ?_
 refine tkY 8 ?_
 refine rd1 5 (fun K hK => ?_)
 (try simp only [ly0, ly1, ly2, ly3, ly4, ly5, ly6, ly7])
 go_simp
 (go_at_call 59; refine (HV.out _ hdr).mono ?_; rintro e w1 ⟨vy, rfl, hOy, hb1⟩; have hC1 := Below.next hdr hb1; have hS1 := HS.out _ hC1; have HY := hide (HYw.out.row hOy); obtain ⟨ay, cy, rfl⟩ := own_form hOy; clear hOy)
 first | refine hK.out _ _ ?k1 (fun hHeld => ?_) | (go_wp2_with fail; refine hK.out _ _ ?k1 (fun hHeld => ?_))
 case k1 => ((try dsimp only) <;> (first | with_reducible exact hS2 | with_reducible exact hS1 | with_reducible exact hS0))
 clear hK K
 (try simp only [ly0, ly1, ly2, ly3, ly4, ly5, ly6, ly7])
 refine rd1 9 (fun K hK => ?_)
 (try simp only [ly0, ly1, ly2, ly3, ly4, ly5, ly6, ly7])
 go_simp
 (go_at_call 58; refine (HD.out _ _ hC1 HY.out).mono ?_; rintro e w2 ⟨vP, va, P, a, ok, rfl, hDc, hOP, hOa, hb2⟩; have hC2 := Below.next hC1 hb2; have hS2 := HS.out _ hC2; obtain ⟨aP, cP, rfl⟩ := own_form hOP; obtain ⟨aa, ca, rfl⟩ := own_form hOa; have HOP := hide hOP; have HOa := hide hOa; have HDc := hide hDc; clear hOP hOa hDc)
 first | refine hK.out _ _ ?k2 (fun hHeld => ?_) | (go_wp2_with fail; refine hK.out _ _ ?k2 (fun hHeld => ?_))
 case k2 => ((try dsimp only) <;> (first | with_reducible exact hS2 | with_reducible exact hS1 | with_reducible exact hS0))
 clear hK K
 (try simp only [ly0, ly1, ly2, ly3, ly4, ly5, ly6, ly7])
 refine tkY 10 ?_
 refine tkY 11 ?_
 refine tkY 12 ?_
 refine tkY 13 ?_
 refine tkY 14 ?_
 refine tkY 15 ?_
 refine tkY 16 ?_
 refine tkY 17 ?_
 refine tkY 18 ?_
 refine wpAnyH_done (by kernel_rfl) ?_ _
 rw [<- HDg.out] at HDc
 have hT := HRv.out.told HDc.out
 clear HDc HD HV HYw HY hS0 hS1 hb1
 have hsz : Wb.heap.size <= W.heap.size := HH.out.kq.size
 have HK2 : Hid (Kq (Sd Wb gw G) Wb w2) := Kq.trans HH.out.kq (Below.kq hC2 (fun j hj => by have := hj.1; omega))
 have HM2 := hide (HH.out.ms.below hC2)
 rcases hT with ⟨rfl, hso, rfl, rfl⟩ | ⟨rfl, hno, rfl, rfl⟩
 · obtain ⟨n0, ⟨n1, n2⟩, ⟨n3, n4⟩, ⟨n5, n6⟩, ⟨n7, n8⟩, n9, n10⟩ := HF.out.ne
   obtain ⟨lw0, lw1⟩ := HF.out.lw
   obtain ⟨lG0, lG1⟩ := HF.out.lG
   obtain ⟨g1, g2, g3, g4, g5, g6, g7⟩ := HF.out.at HK2.out
   obtain ⟨vs, hMt⟩ := HH.out.mt
   have hMt2 := hMt.below hC2
   have hpl := plk_len p (rps us) n k
   have cQ := (box_cell g5).1
   have cG := hMt2.cell (i := k) (by rw [hpl]; exact hk)
   have fG := free_own (by have := hMt2.row; rw [hpl] at this; exact this) k
   have hLay := hMt2.lay (k := k) (u := .slice aP (dcL p (rps us) k).length cP) (ys := dcL p (rps us) k) hpl.symm (by rw [hpl]; exact hk) (own_mono HOP.out (by have := hC1.size; have := f7.size; omega)) (fun i g hi hne hg e => by
    have h1 := hMt.tops hi hg
    have h2 := own_base HOP.out g e
    have := hC1.size
    omega)
   rw [plk_set p (rps us) hk] at hLay
   have HLay := hide hLay
   have k0 : (0 : Int) <= (k : Int) := by omega
   have k1 : (k : Int) < (n : Int) := by omega
   have HOa3 : Hid ((w2.setCell ⟨G, k, none⟩ (.slice aP (dcL p (rps us) k).length cP)).ownsRow w1.heap.size 3 1 (.slice aa (ofI (pOf p.f) (dcL p (rps us) k) (xsR p (rps us)) (ysR k (rps us))).length ca) (ofI (pOf p.f) (dcL p (rps us) k) (xsR p (rps us)) (ysR k (rps us))).length ((ofI (pOf p.f) (dcL p (rps us) k) (xsR p (rps us)) (ysR k (rps us))).flatMap iw)) := own_other HOa.out (fun e => by
    have := own_base HOa.out G e
    have := hC1.size
    omega)
   have hga : ∀ g, (Value.slice aa (ofI (pOf p.f) (dcL p (rps us) k) (xsR p (rps us)) (ysR k (rps us))).length ca).ownBlock = some g -> g ≠ gw := fun g hg e => by
    have := own_base HOa.out g hg
    have := hC1.size
    omega
   have HGa := hide hga
   have HK3 : Hid (Kq (Sd Wb gw G) Wb (w2.setCell ⟨G, k, none⟩ (.slice aP (dcL p (rps us) k).length cP))) := Kq.trans HK2.out (kq_set8 (fun hS => hS.2.2 rfl))
   have HM3 : Hid (Mks (w2.setCell ⟨G, k, none⟩ (.slice aP (dcL p (rps us) k).length cP)) gw (wrB p (rps us) k)) := (Below.heap_setCell _ _ _ gw n0).trans HM2.out
   have HFn := hide HH.out.fn
   have HX : Hid (∀ i, i < (ofI (pOf p.f) (dcL p (rps us) k) (xsR p (rps us)) (ysR k (rps us))).length -> ∃ (I J : Nat), (ofI (pOf p.f) (dcL p (rps us) k) (xsR p (rps us)) (ysR k (rps us))).getD i 0 = (I : Int) ∧ I < m ∧ (us.getD I zRq).1 = (J : Int) ∧ J < 64 ∧ ((rps us).getD ((I : Int)).toNat nrp).w = (J : Int)) := fun i hi => by
    have hin := getD_in8 (0 : Int) hi
    obtain ⟨I, hI, hIe⟩ := List.mem_map.1 hin
    have hIl := (offp_mem.1 hI).1
    rw [xsR_len, rps_len, Hm.out] at hIl
    have hw := HRv.out.wk _ (getD_inR (l := rps us) (i := I) (by rw [rps_len, Hm.out]; exact hIl))
    have hnn := (may_facts HRv.out.may).1
    refine ⟨I, ((rps us).getD I nrp).w.toNat, hIe.symm, hIl, ?_, by omega, ?_⟩
    · rw [rps_at] at hw ⊢
      show (us.getD I zRq).1 = _
      have : (rpO (us.getD I zRq)).w = (us.getD I zRq).1 := rfl
      omega
    · rw [Int.toNat_natCast]; omega
   have HNx : Hid (∀ (i I J : Nat), i < (ofI (pOf p.f) (dcL p (rps us) k) (xsR p (rps us)) (ysR k (rps us))).length -> (ofI (pOf p.f) (dcL p (rps us) k) (xsR p (rps us)) (ysR k (rps us))).getD i 0 = (I : Int) -> ((rps us).getD ((I : Int)).toNat nrp).w = (J : Int) -> ∀ j, (mkm p (rps us) k ((ofI (pOf p.f) (dcL p (rps us) k) (xsR p (rps us)) (ysR k (rps us))).take i) j || decide (j = J)) = mkm p (rps us) k ((ofI (pOf p.f) (dcL p (rps us) k) (xsR p (rps us)) (ysR k (rps us))).take (i + 1)) j) := fun i I J hi h1 h2 j => by
    rw [take_snoc8 hi, h1]; exact mkm_next h2 j
   have HEn := hide (mkm_end p (rps us) k)
   have hal : (ofI (pOf p.f) (dcL p (rps us) k) (xsR p (rps us)) (ysR k (rps us))).length <= 64 := by
    rw [ofI_len]
    have := offp_len (pOf p.f) (dcL p (rps us) k) (xsR p (rps us)) (ysR k (rps us))
    rw [xsR_len, rps_len, Hm.out] at this
    omega
   have hB03 : Below w0.heap.size w0 (w2.setCell ⟨G, k, none⟩ (.slice aP (dcL p (rps us) k).length cP)) := g7.setCell (p := ⟨G, k, none⟩) lG0 _
   have hsz3 : Wb.heap.size <= (w2.setCell ⟨G, k, none⟩ (.slice aP (dcL p (rps us) k).length cP)).heap.size := HK3.out.size
   have HSo := hide hso
   clear hMt hMt2 hLay HOP HOa hga HM2 HK2 g1 g2 g3 g4 g5 g6 g7 HH hC2 hC1 hb2 hS2 hso hpl hdr f7 HS HP
   generalize ofI (pOf p.f) (dcL p (rps us) k) (xsR p (rps us)) (ysR k (rps us)) = a at *
   generalize (dcL p (rps us) k).length = lp at *
   go_upto_region 5 with fail
   generalize w2.setCell ⟨G, k, none⟩ (.slice aP lp cP) = W3 at *
   clear cQ cG fG k0 k1
   go_wp2_with fail
   go_loopw [38] (fun vi wr => ∃ i : Nat, i <= a.length ∧ vi = .int .i64 i ∧ Hid (Mks wr gw (mkm p (rps us) k (a.take i))) ∧ Hid (Kq (fun j => j ≠ gw) W3 wr)) (fun vi _ => a.length - (intOf vi).toNat)
   case atStart => exact ⟨0, Nat.zero_le _, rfl, HM3.out.congr (fun j _ => (mkm_zero p (rps us) k j).symm), Kq.refl _ _⟩
   case round =>
    obtain ⟨i, hi, rfl, HM, HK⟩ := hrel
    have HB : Hid (Below w0.heap.size w0 wr) := hB03.trans (HK.out.below (fun j hj => by omega))
    by_cases hlt : i < a.length
    · obtain ⟨I, J, hI, hIm, hJ, hJ64, hJr⟩ := HX.out i hlt
      have HM4 := hide ((HM.out.put hJ64).congr (fun j _ => HNx.out i I J hlt hI hJr j))
      have HK4 : Hid (Kq (fun j => j ≠ gw) W3 (wr.setCell ⟨gw, J, none⟩ (.bool true))) := Kq.trans HK.out (kq_set8 (fun hS => hS rfl))
      have hOa := HK.out.own HOa3.out (fun g hg => HGa.out g hg)
      obtain ⟨ga, cga, hva, _, _⟩ := hOa.form (by omega)
      injection hva with hva _ hcg
      subst hva hcg
      have cA := own_int8 (W := wr) hOa hlt
      rw [hI] at cA
      obtain ⟨g1, g2, g3, g4, g5, g6, g7⟩ := HF.out.at HK3.out
      have cL := (HK.out.cell (a := ⟨gl, 0, none⟩) n5).trans (box_cell g3).1
      have hml : 0 < us.length := by rw [Hm.out]; omega
      obtain ⟨b, off, cp', heq, _, _⟩ := HF.out.rp.lm.form hml
      injection heq with heq _ hcp
      subst heq hcp
      obtain ⟨d0, d1, _⟩ := HF.out.rp.cell HB.out (k := I) (by rw [Hm.out]; exact hIm)
      rw [hJ] at d0
      have cM := HM.out.cell hJ64
      have fM := HM.out.free J
      have i0 : (0 : Int) <= (i : Int) := by omega
      have i1 : (i : Int) < (a.length : Int) := by omega
      have I0 : (0 : Int) <= (I : Int) := by omega
      have I1 : (I : Int) < (m : Int) := by omega
      have J0 : (0 : Int) <= (J : Int) := by omega
      have J1 : (J : Int) < 64 := by omega
      rw [Hm.out] at cL
      clear HX HNx HEn HM HK HOa3 HGa HLay HM3 HK3 HF HRv hOa g1 g2 g3 g4 g5 g6 g7 HFn HSo HB hJr hI hJ d1 HDg
      generalize mkm p (rps us) k (a.take i) J = old at *
      go_wp2_with fail
      go_roundw
      case rel => exact ⟨i + 1, by omega, by go_num, HM4, HK4⟩
      case measure => simp [intOf]; omega
    · obtain rfl : i = a.length := by omega
      rw [List.take_length] at HM
      have HM5 := hide (HM.out.congr (fun j _ => HEn.out j))
      have HMt5 := hide (HLay.out.kqg HK.out (fun j hj _ => hj) HM3.out (by decide) (by decide))
      have HK5 : Hid (Kq (Sd Wb gw G) Wb wr) := Kq.trans HK3.out (HK.out.mono (fun j hj => hj.2.1))
      have hws : Wb.heap.size <= wr.heap.size := HK5.out.size
      have hdr : Below wr.heap.size wr wr.drew := (Below.refl _ wr).drew
      obtain ⟨g1, g2, g3, g4, g5, g6, g7⟩ := HF.out.at HK5.out
      have HPw := hide g1
      have HW := hide (fun W' => gMarkedW (wrB p (rps us) (k + 1)) W')
      have hsz : (Tryz.prog.info? 67).map (·.size) = some (mkv (wrB p (rps us) (k + 1))).size := by
       rw [show (mkv (wrB p (rps us) (k + 1))).size = 64 by simp [mkv, mkl8]]; kernel_rfl
      have HX0 : Hid (∀ V : World, V.heap[gw]? = some (.cells (mkv (wrB p (rps us) (k + 1))) 67 (0, 0)) ∧ V.cell? ⟨gp, 5, none⟩ = some (.int .i64 p.e) -> (loadVar 67 ⟨gw, 0, none⟩).run Tryz.prog V = .ok (.agg (mkv (wrB p (rps us) (k + 1)))) V) := fun V hV => run_loadVar_row V gw _ _ _ (0, 0) _ hV.1 Tryz.underlying67 rfl hsz
      have HSw : Hid (∀ V, Below wr.heap.size wr V -> V.heap[gw]? = some (.cells (mkv (wrB p (rps us) (k + 1))) 67 (0, 0)) ∧ V.cell? ⟨gp, 5, none⟩ = some (.int .i64 p.e)) := fun V hb => ⟨HM5.out.below hb, (HPw.out.below hb).cells.2.2.2.2.2.1⟩
      have hS3 := HSw.out _ hdr
      have hwl := mkd_len (wrB p (rps us) (k + 1))
      have HWl : Hid (wrL p (rps us) (k + 1) = mkd (wrB p (rps us) (k + 1))) := rfl
      clear HX HNx HEn HM HK HOa3 HGa HLay HM3 HK3 HF g1 g2 g3 g4 g5 g6 g7
      generalize mkv (wrB p (rps us) (k + 1)) = mv at *
      generalize hmd : mkd (wrB p (rps us) (k + 1)) = ml at *
      clear hmd
      go_upto_region 10 with fail
      refine wp_region_held_drew (S := (fun V => V.heap[gw]? = some (.cells mv 67 (0, 0)) ∧ V.cell? ⟨gp, 5, none⟩ = some (.int .i64 p.e))) (by kernel_rfl) (by ((try dsimp only) <;> (first | with_reducible exact hS4 | with_reducible exact hS3))) (fun hHeld => ?_)
      refine tkY 0 ?_ (hy := by (intro w hSw; (try dsimp only at hSw); simp [execOp, Instr.loadAt, Instr.sureAddr, Act.eval, HX0.out _ hSw]; with_reducible rfl))
      refine tkY 3 ?_
      refine tkY 4 ?_
      refine rd1 1 (fun K hK => ?_)
      (try simp only [ly0, ly1, ly2, ly3, ly4, ly5, ly6, ly7])
      go_simp
      (go_at_call 30; refine (HW.out _).mono ?_; rintro e w6 ⟨v6, rfl, hO6, hb6⟩; have hC6 := Below.next hdr hb6; have hS4 := HSw.out _ hC6; obtain ⟨a6, c6, rfl⟩ := own_form hO6; clear hO6)
      first | refine hK.out _ _ ?k3 (fun hHeld => ?_) | (go_wp2_with fail; refine hK.out _ _ ?k3 (fun hHeld => ?_))
      case k3 => ((try dsimp only) <;> (first | with_reducible exact hS4 | with_reducible exact hS3))
      clear hK K
      (try simp only [ly0, ly1, ly2, ly3, ly4, ly5, ly6, ly7])
      refine tkY 2 ?_
      refine tkY 5 ?_
      refine wpAnyH_done (by kernel_rfl) ?_ _
      have HK6 : Hid (Kq (Sd Wb gw G) Wb w6) := Kq.trans HK5.out (Below.kq hC6 (fun j hj => by have := hj.1; omega))
      have HM6 := hide (HM5.out.below hC6)
      have HMt6 := hide (HMt5.out.below hC6)
      clear HM5 HMt5 HK5 hS3 hS4 HSw HX0 HW hsz
      by_cases hE : p.e < (ml.length : Int)
      · have HNo : Hid (¬ Fine p (rps us) n) := fun hF => by
         have := (hF.less (n := k + 1) (by omega)).2
         rw [HWl.out] at this
         omega
        clear HDg HRv
        go_wp2_with fail
        go_ret
        exact ⟨180, rfl, .inr ⟨by decide, rfl, HK6.out, ⟨_, HM6.out⟩, HNo.out⟩⟩
      · have HYs : Hid (Fine p (rps us) (k + 1)) := ⟨fun o ho => by
         by_cases e : o < k
         · exact HFn.out.1 o e
         · obtain rfl : o = k := by omega
           exact HSo.out, by rw [HWl.out]; omega⟩
        clear HDg HRv
        go_wp2_with fail
        go_ret
        exact ⟨0, rfl, .inl ⟨rfl, HK6.out, HM6.out, ⟨_, HMt6.out⟩, HYs.out⟩⟩
 · have HNo : Hid (¬ Fine p (rps us) n) := fun hF => by
    have := hF.1 k hk
    rw [hno] at this
    cases this
   clear HS HH HF HRv HDg hS2 HP HOP HOa hno
   go_wp2_with fail
   go_ret
   exact ⟨180, rfl, .inr ⟨by decide, rfl, HK2.out, ⟨_, HM2.out⟩, HNo.out⟩⟩
end Go.Proofs.YtjhididlcdepdaaGreat
namespace Go.Proofs.YtjhididlcdepdaaGreat
open Go.RowKit Fld
theorem gEach8 (n : Nat) (hn : n <= 17592186044416) (fn : FuncId) (bs : Array Value) (w : World) (I : Nat -> World -> Prop) (B : Int -> World -> Prop)
 (hcf : ∀ args W, (callFunc fn args).run Tryz.prog W = .ok (.enter fn args) W) (h0 : I 0 w)
 (hs : ∀ (k : Nat) W, k < n -> I k W -> Calls Tryz.prog fn (#[.int .i64 (k : Int)] ++ bs) W fun e w' => ∃ r : Int, e = .returned (.int .i64 r) ∧ ((r = 0 ∧ I (k + 1) w') ∨ (r ≠ 0 ∧ B r w'))) :
 Calls Tryz.prog 45 #[.int .i64 (n : Int), .func (.func fn) #[] bs] w fun e w' => ∃ r : Int, e = .returned (.int .i64 r) ∧ ((r = 0 ∧ I n w') ∨ (r ≠ 0 ∧ B r w')) := by
 have HS := hide hs
 clear hs
 go_enter Tryz.func45, Tryz.ntmps45
 go_wp2_with fail
 go_loopw [8] (fun vi wr => ∃ k : Nat, k <= n ∧ vi = .int .i64 k ∧ Hid (I k wr)) (fun vi _ => n - (intOf vi).toNat)
 case atStart => exact ⟨0, Nat.zero_le _, rfl, h0⟩
 case round =>
  obtain ⟨k, hk, rfl, HI⟩ := hrel
  by_cases hlt : k < n
  · have HC := hide (HS.out k wr hlt HI.out)
    have k0 : (0 : Int) <= (k : Int) := by omega
    have k1 : (k : Int) < (n : Int) := by omega
    clear HS HI
    go_upto_region 5 with (refine HC.out.mono ?_; rintro e w2 ⟨r, rfl, hr⟩)
    rcases hr with ⟨rfl, hI⟩ | ⟨hr, hB⟩
    · have HI := hide hI
      clear hI HC
      go_wp2_with fail
      go_roundw
      case rel => exact ⟨k + 1, by omega, by go_num, HI⟩
      case measure => simp [intOf]; omega
    · have HB := hide hB
      clear hB HC
      go_wp2_with fail
      go_ret
      exact ⟨_, rfl, .inr ⟨hr, HB.out⟩⟩
  · obtain rfl : k = n := by omega
    clear HS
    go_wp2_with fail
    go_ret
    exact ⟨_, rfl, .inl ⟨rfl, HI.out⟩⟩
end Go.Proofs.YtjhididlcdepdaaGreat
