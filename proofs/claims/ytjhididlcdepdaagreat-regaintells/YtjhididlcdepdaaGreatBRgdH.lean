import Derived.Test.YtjhididlcdepdaaGreatBEvqF
import Derived.Test.YtjhididlcdepdaaGreatBRgnE
set_option linter.unusedVariables false
set_option linter.unusedSimpArgs false
set_option maxRecDepth 100000
set_option maxHeartbeats 4000000
namespace Go.Proofs.YtjhididlcdepdaaGreat
open Go.RowKit Fld Pln Slp Shr
def hnA (p : Pn) (q : Pr) (dl pl : List (List Int)) : List (List Int) := (allL p dl pl).map (rpL p q)
theorem hnA_wd {p : Pn} {q : Pr} {dl pl : List (List Int)} (w1 : ∀ b ∈ dl, Wd b) (w2 : ∀ b ∈ pl, Wd b) : (∀ b ∈ hnA p q dl pl, Wd b) ∧ (hnA p q dl pl).length <= 1000 := by
 obtain ⟨_, ⟨h1, h2⟩, _⟩ := ans_wd (p := p) w1 w2
 refine ⟨fun b hb => ?_, by unfold hnA; rw [List.length_map]; exact h2⟩
 obtain ⟨x, hx, rfl⟩ := List.mem_map.1 hb
 exact rp_wd p q (h1 x hx).2
theorem map_take_snoc8 (g : List Int -> List Int) (l : List (List Int)) {k : Nat} (hk : k < l.length) : (l.take k).map g ++ [g (l.getD k [])] = (l.take (k + 1)).map g := by
 rw [List.take_succ_eq_append_getElem hk, List.map_append, List.getD_eq_getElem?_getD, List.getElem?_eq_getElem hk]; rfl
theorem dAll16 (p : Pn) (q : Pr) (vq vd vp : Value) (dl pl : List (List Int)) (w : World) (hp : Ok8p p) (hq : Pm w vq q) (h1 : Rws w vd dl) (h2 : Rws w vp pl) :
 Calls Tryz.prog 19 #[plv p, vq, vd, vp] w fun e w' => ∃ v', e = .returned v' ∧ Rws w' v' (hnA p q dl pl) ∧ Below w.heap.size w w' := by
 obtain ⟨vo, vu, rfl, ho, hu⟩ := hq.form
 obtain ⟨ao, ca, rfl, _⟩ := ho.spell
 obtain ⟨au, cu, rfl, _⟩ := hu.spell
 obtain ⟨i0, hi0, hz0, hz1, hz2⟩ := info_parts sl_infoC
 have HA := hide (fun W (hb : Below w.heap.size w W) => dAll p vd vp dl pl W hp (h1.below hb) (h2.below hb))
 have HR := hide (fun W v xs (hb : Below w.heap.size w W) x => dReply16 p q _ v xs W hp (hq.below hb) x)
 unfold GivesL at HA
 unfold Gives at HR
 obtain ⟨k1, k2⟩ := hnA_wd (p := p) (q := q) h1.wordsH h2.wordsH
 obtain ⟨_, ⟨k3, k4⟩, _⟩ := ans_wd (p := p) h1.wordsH h2.wordsH
 have HB1 : Hid (∀ i, Wd ((hnA p q dl pl).getD i [])) := getD_wd k1
 have RA : Hid (∀ W lo hi v us, Lss W lo hi v us (allL p dl pl) -> Rws W v (allL p dl pl)) := fun W lo hi v us h => h.rws (getD_wd k3) (by omega)
 have RB : Hid (∀ W lo hi v us, Lss W lo hi v us (hnA p q dl pl) -> Rws W v (hnA p q dl pl)) := fun W lo hi v us h => h.rws (getD_wd k1) (by omega)
 unfold hnA at HB1 RB ⊢
 obtain ⟨ad, cd, rfl, _, _, _⟩ := h1
 obtain ⟨ap, cp, rfl, _, _, _⟩ := h2
 clear hp ho hu hq k1 k2 k3
 generalize allL p dl pl = al at *
 generalize bkE p dl pl [] = eb at *
 generalize dl.length = nd at *
 generalize pl.length = np at *
 rw [plan_eq8] at *
 obtain ⟨W1, hW, hA, hS⟩ := pq_box w p q.inp (.slice ao q.ops.length ca) (.slice au q.outs.length cu) 24 49
 have HW := hide hW
 have HS := hide hS
 clear hW hS
 obtain ⟨⟨c0, c1, c2, c3, c4, c5, c6, c7⟩, d0, d1, d2⟩ := HS.out _ (Below.refl _ _)
 go_enter Tryz.func19, Tryz.ntmps19
 go_upto_region 1 with fail
 rw [HW.out]
 go_upto_region 2 with (go_at_call 51; refine (HA.out _ hA).mono ?_; rintro e w2 ⟨v2, us2, rfl, x2, hb2⟩)
 have hA2 := Below.next hA hb2
 have HSw := hide (fun V (hb : Below w2.heap.size w2 V) => HS.out V (Below.next hb2 hb))
 have hR2 := RA.out _ _ _ _ _ x2
 have HR2 := hide hR2
 obtain ⟨a2, c2', rfl, hlen, hcap, hc⟩ := hR2
 clear x2 HA HS HW c0 c1 c2 c3 c4 c5 c6 c7 d0 d1 d2 RA
 go_wp2_with fail
 go_loopw [11, 12] (fun vo vi wr => ∃ (k : Nat) (us : List Value), k <= al.length ∧ vi = .int .i64 k ∧ Hid (Lss wr w2.heap.size wr.heap.size vo us ((al.take k).map (rpL p q))) ∧ Below w2.heap.size w2 wr) (fun _ vi _ => al.length - (intOf vi).toNat)
 case atStart => exact ⟨0, [], Nat.zero_le _, rfl, Lss.nil _ _ _, Below.refl _ _⟩
 case round =>
  obtain ⟨k, us, hk, rfl, HL, hB⟩ := hrel
  by_cases hlt : k < al.length
  · obtain ⟨b, off, rfl, hbl, hcell⟩ := hc (by intro h; rw [h] at hlt; simp at hlt)
    obtain ⟨u, hu, hR⟩ := hcell k hlt
    have HCk : Hid (∀ V, Below w2.heap.size w2 V -> V.cell? ⟨b, off + k, none⟩ = some u) := fun V hb => (hb.cell (p := ⟨b, off + k, none⟩) hbl).trans hu
    have hdr : Below wr.heap.size wr wr.drew := (Below.refl _ wr).drew
    have hBd := Below.next hB hdr
    have hcp := hide (HR.out _ u _ (Below.next hA2 hBd) (hR.below hBd))
    have HE := hide (map_take_snoc8 (rpL p q) al hlt)
    have hml : ((al.take k).map (rpL p q)).length = k := by simp; omega
    have HWk : Hid (Wd (rpL p q (al.getD k []))) := by
     show Wd _
     have e : (al.map (rpL p q)).getD k [] = rpL p q (al.getD k []) := by
      rw [List.getD_eq_getElem?_getD, List.getD_eq_getElem?_getD, List.getElem?_map, List.getElem?_eq_getElem hlt]; rfl
     rw [<- e]; exact HB1.out k
    obtain ⟨au', cu', rfl, _⟩ := hR.spell
    have HSs : Hid (∀ V, Below wr.heap.size wr V -> ((V.cell? ⟨w.heap.size, 0, none⟩ = some (.int .u8 p.f) ∧ V.cell? ⟨w.heap.size, 1, none⟩ = some (.int .i64 p.n) ∧ V.cell? ⟨w.heap.size, 2, none⟩ = some (.int .i64 p.k) ∧ V.cell? ⟨w.heap.size, 3, none⟩ = some (.int .i64 p.t) ∧ V.cell? ⟨w.heap.size, 4, none⟩ = some (.int .i64 p.s) ∧ V.cell? ⟨w.heap.size, 5, none⟩ = some (.int .i64 p.e) ∧ V.cell? ⟨w.heap.size, 6, none⟩ = some (.int .i64 p.d) ∧ V.cell? ⟨w.heap.size, 7, none⟩ = some (.int .i64 p.w)) ∧ V.cell? ⟨w.heap.size + 1, 0, none⟩ = some (.int .i64 q.inp) ∧ V.cell? ⟨w.heap.size + 1, 1, none⟩ = some (.slice ao q.ops.length ca) ∧ V.cell? ⟨w.heap.size + 1, 2, none⟩ = some (.slice au q.outs.length cu)) ∧ V.cell? ⟨b, off + k, none⟩ = some (.slice au' (al.getD k []).length cu')) := fun V hb => ⟨HSw.out V (Below.next hB hb), HCk.out V (Below.next hB hb)⟩
    have hS0 := HSs.out _ hdr
    generalize rpL p q (al.getD k []) = fx at *
    generalize rpE p q (al.getD k []) = fe at *
    generalize (al.getD k []).length = m9 at *
    generalize (al.take k).map (rpL p q) = lss at *
    have k0 : (0 : Int) <= (k : Int) := by omega
    have k1 : (k : Int) < (al.length : Int) := by omega
    clear hcell hc hR hu HR HB1 RB HR2
    go_upto_region 6 with fail
    refine wp_region_held_drew (S := (fun V => ((V.cell? ⟨w.heap.size, 0, none⟩ = some (.int .u8 p.f) ∧ V.cell? ⟨w.heap.size, 1, none⟩ = some (.int .i64 p.n) ∧ V.cell? ⟨w.heap.size, 2, none⟩ = some (.int .i64 p.k) ∧ V.cell? ⟨w.heap.size, 3, none⟩ = some (.int .i64 p.t) ∧ V.cell? ⟨w.heap.size, 4, none⟩ = some (.int .i64 p.s) ∧ V.cell? ⟨w.heap.size, 5, none⟩ = some (.int .i64 p.e) ∧ V.cell? ⟨w.heap.size, 6, none⟩ = some (.int .i64 p.d) ∧ V.cell? ⟨w.heap.size, 7, none⟩ = some (.int .i64 p.w)) ∧ V.cell? ⟨w.heap.size + 1, 0, none⟩ = some (.int .i64 q.inp) ∧ V.cell? ⟨w.heap.size + 1, 1, none⟩ = some (.slice ao q.ops.length ca) ∧ V.cell? ⟨w.heap.size + 1, 2, none⟩ = some (.slice au q.outs.length cu)) ∧ V.cell? ⟨b, off + k, none⟩ = some (.slice au' m9 cu'))) (by kernel_rfl) (by ((try dsimp only) <;> (first | with_reducible exact hS1 | with_reducible exact hS0))) (fun hHeld => ?_)
    refine tkY 0 ?_
    refine tkY 1 ?_
    refine tkY 2 ?_
    refine tkY 3 ?_
    refine tkY 4 ?_
    refine tkY 5 ?_
    refine rd1 6 (fun K hK => ?_)
    (try simp only [ly0, ly1, ly2, ly3, ly4, ly5, ly6, ly7])
    go_simp
    (go_at_call 52; refine hcp.out.mono ?_; rintro e w3 ⟨v3, rfl, o3, hb3⟩; have hD3 := Below.next hdr hb3; have hS1 := HSs.out _ hD3; obtain ⟨a3, c3, rfl⟩ := own_form o3; have HO3 := hide o3; clear o3)
    first | refine hK.out _ _ ?k11 (fun hHeld => ?_) | (go_wp2_with fail; refine hK.out _ _ ?k11 (fun hHeld => ?_))
    case k11 => ((try dsimp only) <;> (first | with_reducible exact hS1 | with_reducible exact hS0))
    clear hK K
    (try simp only [ly0, ly1, ly2, ly3, ly4, ly5, ly6, ly7])
    refine tkY 7 ?_
    refine tkY 8 ?_
    refine tkY 9 ?_
    refine tkY 10 ?_
    refine tkY 11 ?_
    refine wpAnyH_done (by kernel_rfl) ?_ _
    have hB3 := Below.next hB hD3
    have HC3 := hide (Copy_any _ fx w3 (rw_of_own HO3.out HWk.out.1 HWk.out.2).1)
    have HL2 := hide (HL.out.below hD3)
    clear hS0 hS1 HSs hcp HL HO3
    have hs3 := hB3.size
    go_wp2_with (first
     | (go_at_call 20; refine HC3.out.mono ?_; rintro e w4 ⟨vr, rfl, hor, hb4⟩; obtain ⟨ar, cr, rfl⟩ := own_form hor; have HL3 := hide (HL2.out.below hb4); have hsz4 := hb4.size; have hB4 := Below.next hB3 hb4)
     | (at_builtin; refine wpList_append_lies _ rfl _ _ _ rfl w2.heap.size 36 i0 _ 1 24 Tryz.underlying26 hi0 hz0 hz1 hz2 rfl (by omega) u11 lss.length us rfl (HL3.out.row.alloc _) ⟨w4.heap.size, 0, none⟩ 1 1 [.slice ar fx.length cr] rfl rfl (World.news_of_block (cs := #[.slice ar fx.length cr]) (t := 36) (fr := (0, 0)) (heap_alloc_new w4 _)) (by simp [Value.oneCell']) (by omega) (by unfold maxLen; omega) (by omega) (by simp; omega) (w4.heap.size + 1) (by simp) ?_; intro gg cap2 w5 hown5 hgrow hat hltg))
    have R := hide (HL3.out.push (w := w2) (H := w3.heap.size) hD3.size hs3 (Nat.le_refl _) hB4 hor hown5 hgrow)
    clear hown5 hgrow hat hltg HL2 HL3 hor
    rw [HE.out, hml] at R
    go_roundw
    case rel => exact ⟨k + 1, _, by omega, by go_num, lss_hereC R.out.1, R.out.2⟩
    case measure => simp [intOf]; omega
  · obtain rfl : k = al.length := by omega
    rw [List.take_length] at HL
    clear hc
    go_wp2
    go_ret
    exact ⟨_, rfl, RB.out _ _ _ _ _ HL.out, Below.next hA2 hB⟩
end Go.Proofs.YtjhididlcdepdaaGreat
namespace Go.Proofs.YtjhididlcdepdaaGreat
open Go.RowKit Pln
def kp (p : Pn) (k : Nat) : Pn := { p with k := (k : Int) }
theorem acE_zero {p : Pn} : acE p = 0 ↔ mayP p = true ∧ acc p := by
 cases hm : mayP p with
 | false => rw [acE_no hm]; simp
 | true =>
  rw [acE_yes hm, spare_acc]
  by_cases c : spare p < 0
  · rw [if_pos c]; constructor <;> (intro h; first | (cases h; done) | (have := h.2; omega))
  · rw [if_neg c]; exact ⟨fun _ => ⟨rfl, by omega⟩, fun _ => rfl⟩
end Go.Proofs.YtjhididlcdepdaaGreat
