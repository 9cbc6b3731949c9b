/-
  The statements of layer 11: EvalFresh walked.
-/
import Derived.Test.YtfbipnhhnmlhfabBunI
import Derived.Test.YtfbipnhhnmlhfabBEvrC
import Derived.Test.YtfbipnhhnmlhfabBSpO
import Derived.Test.YtfbipnhhnmlhfabBunZ
import Derived.Test.YtfbipnhhnmlhfabBSlwD
import Derived.Test.YtfbipnhhnmlhfabBTreD
namespace Go.Proofs.Ytfbipnhhnmlhfab
open Go.RowKit Fld Slp
set_option linter.unusedVariables false
set_option linter.unusedSimpArgs false

/-- Words of bounded length, each of them. -/
def Bw (zss : List (List Int)) : Prop := ∀ i, Wd (zss.getD i [])
theorem Bw.set {zss : List (List Int)} (h : Bw zss) {k : Nat} {zs : List Int} (hz : Wd zs) : Bw (zss.set k zs) := fun i => by
  rw [List.getD_eq_getElem?_getD, List.getElem?_set]
  split
  · split
    · exact hz
    · exact wd_nil
  · rw [← List.getD_eq_getElem?_getD]; exact h i
theorem ma_bw {f : Int} {q : Pr} {xss : List (List Int)} (hw : ∀ xs ∈ xss, ∀ x ∈ xs, 0 ≤ x ∧ x ≤ 18446744073709551615) : (maL f q xss).length ≤ 4096 ∧ Bw (maL f q xss) := by
  by_cases he : maE f q xss = 0
  · have e1 : maL f q xss = xss.map (rnO (Rf f) q) := by unfold maL; rw [if_pos he]
    obtain ⟨hm, hl, hall⟩ := maE_zero he
    rw [e1]
    refine ⟨by simpa using hl, fun i => wd_getD (P := Wd) (fun zs hz => ?_) wd_nil i⟩
    obtain ⟨xs, hx, rfl⟩ := List.mem_map.1 hz
    obtain ⟨h1, h2⟩ := rwE_zero (hall xs hx)
    obtain ⟨p, wd, hf, hi⟩ := inF_fi h1
    have hel := el_all hf q.ops xs (els_of hi (hw xs hx))
    obtain ⟨⟨_, _, _, l2⟩, _, _⟩ := mayB_iff.1 hm
    refine ⟨by rw [rnO_len]; omega, fun y hy => ?_⟩
    obtain ⟨v, _, rfl⟩ := List.mem_map.1 hy
    exact elWord (Els.co (xs := rns (Rf f) q xs) hel hf.pos v.toNat) hf.top
  · have e1 : maL f q xss = [] := by unfold maL; rw [if_neg he]
    rw [e1]
    exact ⟨by simp, fun i => by simp; exact wd_nil⟩
theorem co_bw {f : Int} {q : Pr} {xss : List (List Int)} (hw : ∀ xs ∈ xss, ∀ x ∈ xs, 0 ≤ x ∧ x ≤ 18446744073709551615) : (coL f q xss).length ≤ 64 ∧ Bw (coL f q xss) := by
  by_cases he : coE f q xss = 0
  · have e1 : coL f q xss = rnO (Rt f) (trP q) (xss.map tr) := by unfold coL; rw [if_pos he]
    have h0 : (mayB q = true ∧ inF f [] = true) ∧ cpE f q xss = 0 := by
      unfold coE at he
      split at he
      · rename_i hg
        rw [Bool.and_eq_true] at hg
        exact ⟨hg, he⟩
      · cases he
    obtain ⟨⟨hm, hn⟩, hc⟩ := h0
    obtain ⟨hin, _, hlm, _, _⟩ := cpE_zero hm hc
    obtain ⟨p, wd, hf, _⟩ := inF_fi hn
    have hxt : ∀ xs ∈ xss.map tr, Lim p xs := fun xs hxs => by
      obtain ⟨ys, hy, rfl⟩ := List.mem_map.1 hxs
      have h1 := List.all_eq_true.1 hin ys hy
      rw [inF_yes hf] at h1
      exact lim_tr hf.pos ⟨els_of h1 (hw ys hy), hlm ys hy⟩
    have hall := lim_allT hf (trP q).ops (xss.map tr) hxt
    obtain ⟨⟨t0, t1, t2, t3⟩, _, _⟩ := mayB_iff.1 (tr_may hm)
    rw [e1]
    refine ⟨by rw [rnO_len]; exact t3, fun i => lim_wd hf.top (wd_getD (P := Lim p) (fun xs hxs => ?_) ⟨els_nil p, by simp⟩ i)⟩
    obtain ⟨v, _, rfl⟩ := List.mem_map.1 hxs
    exact wd_getD (P := Lim p) hall ⟨els_nil p, by simp⟩ v.toNat
  · have e1 : coL f q xss = [] := by unfold coL; rw [if_neg he]
    rw [e1]
    exact ⟨by simp, fun i => by simp; exact wd_nil⟩
theorem pm_copy {w w' : World} {v vo vu : Value} {p : Pr} {B : Nat} (h : Pm w v p) (ho : w'.ownsRow B 67 4 vo p.ops.length (p.ops.flatMap opw)) (hu : w'.ownsRow B 3 1 vu p.outs.length (p.outs.flatMap iw)) : Pm w' (.agg #[.int .i64 p.inp, vo, vu]) p := by
  obtain ⟨_, _, _, h1, h2⟩ := h.form
  exact ⟨⟨vo, vu, rfl, lm_of_own opw_len (by decide) ho h1.len, lm_of_own iw_len (by decide) hu h2.len⟩, h.inb, h.okb, h.oub⟩
theorem RowsF (v1 v2 : Value) (xss : List (List Int)) (w : World) (h1 : Rws w v1 xss) (h2 : Rws w v2 xss) : Calls Try.prog 13 #[v1, v2] w fun e w' => e = .returned (.bool true) ∧ Below w.heap.size w w' :=
  (Rows_quiet v1 v2 xss w h1 h2).mono fun e w' ⟨he, m, hw⟩ => ⟨he, by rw [hw]; exact drewN_below w m⟩
/-- A list of some lists is written over: what it was, elsewhere nothing. -/
theorem spoilt {W w' : World} {lo hi : Nat} {v : Value} {us : List Value} {zss : List (List Int)} {k : Nat} {zs : List Int} (h : Lss W lo hi v us zss) (hB : Bw zss) (hk : k < zss.length) (hg : W.grownBy w' (us.getD k nov).ownBlock) (hz : Ws zs) (hO : w'.ownsRow lo 36 1 (us.getD k nov) (zss.getD k []).length (vals zs)) : Lss w' lo hi v us (zss.set k zs) ∧ Bw (zss.set k zs) := by
  have hl := own_len hO
  exact ⟨h.over hk hg hO, hB.set ⟨by rw [hl]; exact (hB k).1, hz⟩⟩
theorem spoil_below {w3 W w' : World} {B lo hi : Nat} {v : Value} {us : List Value} {zss : List (List Int)} {k : Nat} (h : Lss W lo hi v us zss) (hk : k < zss.length) (hlo : B ≤ lo) (hb : Below B w3 W) (hBW : B ≤ W.heap.size) (hg : W.grownBy w' (us.getD k nov).ownBlock) : Below B w3 w' :=
  hb.grown hg hBW (fun g hgb => Nat.le_trans hlo (h.from_ k g hgb))

set_option maxRecDepth 100000 in
set_option maxHeartbeats 2000000 in
theorem evalFresh_any (f : Int) (w : World) (vp vi : Value) (q : Pr) (xss : List (List Int)) (hf0 : 0 ≤ f) (hf1 : f ≤ 255) (hp : Pm w vp q) (hr : Rws w vi xss) (hlr : xss.length ≤ 5864062014634) (hb1 : q.ops.length * 32 ≤ 140737488351232) (hb2 : q.outs.length * 8 ≤ 140737488351232) : Calls Try.prog 3 #[.int .u8 f, vp, vi] w fun e w' => e = .returned (.bool true) ∧ Below w.heap.size w w' := by
  have HCp := hide (fun W (hb : Below w.heap.size w W) => dCopy W vp q (hp.below hb) hb1 hb2)
  have HCr := hide (fun W (hb : Below w.heap.size w W) => CopyRows_all vi xss W (hr.below hb) hlr)
  have HD := hide (fun W' (hb : Below w.heap.size w W') => dCompose f q vp vi xss W' (hp.below hb) (hr.below hb) hlr)
  have HPo := hide hp
  have HRo := hide hr
  have HX := hide (fun W' => anch11 W')
  have HWx : Hid (Bw xss) := fun i => by
    by_cases hi : i < xss.length
    · exact ⟨hr.lenL i hi, hr.wordsL' _ (getD_mem hi)⟩
    · rw [List.getD_eq_getElem?_getD, List.getElem?_eq_none (by omega)]; exact wd_nil
  unfold GivesL11 at HD
  unfold Anch11 at HX
  obtain ⟨m1, m2⟩ := ma_bw (f := f) (q := q) hr.wordsL'
  obtain ⟨c1, c2⟩ := co_bw (f := f) (q := q) hr.wordsL'
  have HM2 := hide m2
  have HC2 := hide c2
  obtain ⟨vo, vu, rfl, ho, hu⟩ := hp.form
  obtain ⟨ao, co', rfl, _⟩ := ho.spell
  obtain ⟨au, cu, rfl, _⟩ := hu.spell
  obtain ⟨ai, ci, rfl, hlen, hcap, hcell⟩ := hr
  have hA := alloc_below w (.cells #[.int .i64 q.inp, .slice ao q.ops.length co', .slice au q.outs.length cu] 25)
  have hN := heap_alloc_new w (.cells #[.int .i64 q.inp, .slice ao q.ops.length co', .slice au q.outs.length cu] 25)
  clear ho hu hp hcell m2 c2
  go_enter Try.func3, Try.ntmps3
  go_upto_region 3 with (first
    | (go_at_call 4; refine (HCp.out _ hA).mono ?_; rintro e w1 ⟨v1, u1, rfl, ho1, hu1, hb1⟩; obtain ⟨eo, fo, rfl⟩ := own_slice ho1; obtain ⟨eu, fu, rfl⟩ := own_slice hu1; have hB1 := Below.next hA hb1; have n1 := (hb1.block _ (Array.getElem?_eq_some_iff.1 hN).1).trans hN)
    | (go_at_call 5; refine (HCr.out _ hB1).mono ?_; rintro e w2 ⟨v2, us2, rfl, L2, hb2⟩; have hB2 := Below.next hB1 hb2; have n2 := (hb2.block _ (Array.getElem?_eq_some_iff.1 n1).1).trans n1; have HP2 := hide ((pm_copy HPo.out ho1 hu1).below hb2)))
  have hA3 := alloc_below w2 (.cells #[.int .i64 q.inp, .slice eo q.ops.length fo, .slice eu q.outs.length fu] 25)
  have m3 := heap_alloc_new w2 (.cells #[.int .i64 q.inp, .slice eo q.ops.length fo, .slice eu q.outs.length fu] 25)
  have n3 := (hA3.block _ (Array.getElem?_eq_some_iff.1 n2).1).trans n2
  have HP3 := hide (HP2.out.below hA3)
  have HR3 := hide ((L2.rws HWx.out (by omega)).below hA3)
  have hB3 := Below.next hB2 hA3
  obtain ⟨a2, c2, rfl⟩ := own_form L2.row
  clear L2 ho1 hu1 HP2 hb1 hb2 hB1 hB2 n1 n2 hN hA HCp HCr
  generalize w2.alloc (.cells #[.int .i64 q.inp, .slice eo q.ops.length fo, .slice eu q.outs.length fu] 25) = w3 at *
  generalize w2.heap.size = bq at *
  have HN : Hid (∀ V, Below w3.heap.size w3 V → (V.cell? ⟨w.heap.size, 0, none⟩ = some (.int .i64 q.inp) ∧ V.cell? ⟨w.heap.size, 1, none⟩ = some (.slice ao q.ops.length co') ∧ V.cell? ⟨w.heap.size, 2, none⟩ = some (.slice au q.outs.length cu)) ∧ (V.cell? ⟨bq, 0, none⟩ = some (.int .i64 q.inp) ∧ V.cell? ⟨bq, 1, none⟩ = some (.slice eo q.ops.length fo) ∧ V.cell? ⟨bq, 2, none⟩ = some (.slice eu q.outs.length fu))) := fun V hb => ⟨cell3 ((hb.block _ (Array.getElem?_eq_some_iff.1 n3).1).trans n3), cell3 ((hb.block _ (Array.getElem?_eq_some_iff.1 m3).1).trans m3)⟩
  obtain ⟨_, p0, p1, p2⟩ := HN.out _ (Below.refl _ _)
  have HMa := hide (eMany f q _ _ xss w3 HP3.out HR3.out)
  have HCo := hide (fun W (hb : Below w3.heap.size w3 W) => qCompose f q _ _ xss W (HP3.out.below hb) (HR3.out.below hb))
  unfold GivesL11 at HMa HCo
  clear n3 m3 hA3
  generalize maL f q xss = ms at *
  generalize maE f q xss = me at *
  generalize coL f q xss = cs at *
  generalize coE f q xss = ce at *
  go_upto_region 4 with (go_at_call 6; refine HMa.out.mono ?_; rintro e w4 ⟨v4, us4, rfl, L4, hb4⟩; clear p0 p1 p2; obtain ⟨_, p0, p1, p2⟩ := HN.out _ hb4)
  go_upto_region 5 with (go_at_call 7; refine (HCo.out _ hb4).mono ?_; rintro e w5 ⟨v5, us5, rfl, L5, hb5⟩)
  have hB5 := Below.next hb4 hb5
  have HL4 := hide (show Lss w5 w3.heap.size w4.heap.size v4 us4 ms from L4.below hb5)
  have HL5 := hide L5
  have hs4 := hb4.size
  have hs5 := hb5.size
  obtain ⟨a4, c4, rfl⟩ := own_form L4.row
  obtain ⟨a5, c5, rfl⟩ := own_form L5.row
  clear L4 L5 p0 p1 p2 HMa hb4 hb5
  go_wp2
  go_loopw [14] (fun vi wr => ∃ (i : Nat) (zss : List (List Int)), i ≤ ms.length ∧ vi = .int .i64 i ∧ Hid (zss.length = ms.length) ∧ Hid (Lss wr w3.heap.size w4.heap.size (.slice a4 ms.length c4) us4 zss) ∧ Hid (Bw zss) ∧ Hid (Lss wr w4.heap.size w5.heap.size (.slice a5 cs.length c5) us5 cs) ∧ Below w3.heap.size w3 wr ∧ Hid (w5.heap.size ≤ wr.heap.size)) (fun vi _ => ms.length - (intOf vi).toNat)
  case atStart => exact ⟨0, ms, Nat.zero_le _, rfl, rfl, HL4, HM2, HL5, hB5, Nat.le_refl _⟩
  case round =>
    clear HL4 HL5 hB5
    obtain ⟨i, zss, hi, rfl, HZl, HL, HB, HL5, hB, HS⟩ := hrel
    by_cases hlt : i < ms.length
    · have hiz : i < zss.length := by have := HZl.out; omega
      obtain ⟨g, cap, heq, hgl, hck, hO⟩ := HL.out.at2 hiz
      have HO := hide hO
      obtain ⟨ak, ck, hsp⟩ := own_form hO
      have hsz := hB.size
      have HSp := hide (Spoil_own (us4.getD i nov) _ w3.heap.size (zss.getD i []) 3 wr (by decide) (by decide) hO (HB.out i).ws (HB.out i).1 hsz)
      have HFin : Hid (∀ w' zs, wr.grownBy w' (us4.getD i nov).ownBlock → Ws zs → w'.ownsRow w3.heap.size 36 1 (us4.getD i nov) (zss.getD i []).length (vals zs) → (Lss w' w3.heap.size w4.heap.size (.slice a4 ms.length c4) us4 (zss.set i zs) ∧ Bw (zss.set i zs)) ∧ Below w3.heap.size w3 w' ∧ Lss w' w4.heap.size w5.heap.size (.slice a5 cs.length c5) us5 cs) := fun w' zs hg hz hO' => by
        refine ⟨spoilt HL.out HB.out hiz hg hz hO', spoil_below HL.out hiz (Nat.le_refl _) hB hsz hg, ?_⟩
        have hq : Kq (fun j => w4.heap.size ≤ j ∧ j < wr.heap.size) wr w' := grown_kq hg (fun j hj => hj.2) (fun k hk hS => by have := HL.out.top i k hk; omega)
        exact kq_lss hq HL5.out (fun j h1 h2 => ⟨h1, h2⟩)
      rw [HZl.out] at heq
      cases heq
      rw [hsp] at hck HSp HFin
      have k0 : (0 : Int) ≤ (i : Int) := by omega
      have k1 : (i : Int) < (ms.length : Int) := by omega
      clear hO hsp HO
      generalize (zss.getD i []).length = ln at *
      go_wp2_with (go_at_call 8; refine HSp.out.mono ?_; rintro e w6 ⟨rfl, hg6, zs, hz6, hO6⟩)
      have R := hide (HFin.out _ _ hg6 hz6 hO6)
      have hzl : Hid ((zss.set i zs).length = ms.length) := by show _ = _; rw [List.length_set]; exact HZl.out
      have HS6 : Hid (w5.heap.size ≤ w6.heap.size) := Nat.le_trans HS.out hg6.size
      clear hg6 hz6 hO6
      go_roundw
      case rel => exact ⟨i + 1, _, by omega, by go_num, hzl, R.out.1.1, R.out.1.2, R.out.2.2, R.out.2.1, HS6⟩
      case measure => simp [intOf]; omega
    · obtain rfl : i = ms.length := by omega
      clear HL HB HZl hlt hi
      obtain ⟨w6, rfl⟩ : ∃ w6, w6 = wr := ⟨wr, rfl⟩
      go_wp2
      go_loopw [15] (fun vi wr => ∃ (i : Nat) (zss : List (List Int)), i ≤ cs.length ∧ vi = .int .i64 i ∧ Hid (zss.length = cs.length) ∧ Hid (Lss wr w4.heap.size w5.heap.size (.slice a5 cs.length c5) us5 zss) ∧ Hid (Bw zss) ∧ Below w3.heap.size w3 wr ∧ Hid (w5.heap.size ≤ wr.heap.size)) (fun vi _ => cs.length - (intOf vi).toNat)
      case atStart => exact ⟨0, cs, Nat.zero_le _, rfl, rfl, HL5, HC2, hB, HS⟩
      case round =>
        clear HL5 hB HS
        obtain ⟨i, zss, hi, rfl, HZl, HL, HB, hB, HS⟩ := hrel
        by_cases hlt : i < cs.length
        · obtain ⟨wa, rfl⟩ : ∃ wa, wa = wr := ⟨wr, rfl⟩
          have hiz : i < zss.length := by have := HZl.out; omega
          have hzl64 : zss.length ≤ 64 := by have := HZl.out; omega
          have HCr := hide (CopyRows_all _ zss wa (HL.out.rws HB.out (by omega)) (by omega))
          have k0 : (0 : Int) ≤ (i : Int) := by omega
          have k1 : (i : Int) < (cs.length : Int) := by omega
          go_upto_region 13 with (go_at_call 5; refine HCr.out.mono ?_; rintro e w7 ⟨v7, us7, rfl, L7, hb7⟩)
          have HLc := hide (HL.out.below hb7)
          have hB7 := Below.next hB hb7
          have hs7 := hb7.size
          have HS5 := HS.out
          obtain ⟨g, cap, heq, hgl, hck, hO⟩ := HLc.out.at2 hiz
          rw [HZl.out] at heq
          cases heq
          obtain ⟨ak, ck, hsp⟩ := own_form hO
          have HSp := hide (Spoil_own (us5.getD i nov) _ w4.heap.size (zss.getD i []) 5 w7 (by decide) (by decide) hO (HB.out i).ws (HB.out i).1 (by omega))
          have HFin : Hid (∀ w' zs, w7.grownBy w' (us5.getD i nov).ownBlock → Ws zs → w'.ownsRow w4.heap.size 36 1 (us5.getD i nov) (zss.getD i []).length (vals zs) → (Lss w' w4.heap.size w5.heap.size (.slice (some ⟨g, 0, none⟩) cs.length c5) us5 (zss.set i zs) ∧ Bw (zss.set i zs)) ∧ Below w3.heap.size w3 w' ∧ Lss w' wa.heap.size w7.heap.size v7 us7 zss) := fun w' zs hg hz hO' => by
            refine ⟨spoilt HLc.out HB.out hiz hg hz hO', spoil_below HLc.out hiz hs4 hB7 (by have := hB.size; omega) hg, ?_⟩
            have hq : Kq (fun j => wa.heap.size ≤ j ∧ j < w7.heap.size) w7 w' := grown_kq hg (fun j hj => hj.2) (fun k hk hS => by have := HLc.out.top i k hk; omega)
            exact kq_lss hq L7 (fun j h1 h2 => ⟨h1, h2⟩)
          obtain ⟨a7, c7, rfl⟩ := own_form L7.row
          rw [hsp] at hck HSp HFin
          have HLn : Hid (zss.length = cs.length) := HZl.out
          clear hO hsp L7 HCr
          generalize hln : (zss.getD i []).length = ln at hck HSp HFin
          clear hln
          go_upto_region 14 with (go_at_call 8; refine HSp.out.mono ?_; rintro e w8 ⟨rfl, hg8, zs, hz8, hO8⟩)
          obtain ⟨⟨Lc8, Bc8⟩, hB8, Lk8⟩ := HFin.out _ _ hg8 hz8 hO8
          have HLc8 := hide Lc8
          have HBc8 := hide Bc8
          have HLk8 := hide Lk8
          have HS8 : Hid (w5.heap.size ≤ w8.heap.size) := by show _ ≤ _; have := hg8.size; omega
          have hzs : Hid ((zss.set i zs).length = cs.length) := by show _ = _; rw [List.length_set]; exact HZl.out
          rw [HLn.out] at ⊢
          clear Lc8 Bc8 Lk8 hg8 hz8 hO8 HSp HFin hck HLc
          go_wp2
          go_loopw [17] (fun vk wr => ∃ k : Nat, i + 1 ≤ k ∧ k ≤ cs.length ∧ vk = .int .i64 k ∧ Below w8.heap.size w8 wr) (fun vk _ => cs.length - (intOf vk).toNat)
          case atStart => exact ⟨i + 1, Nat.le_refl _, by omega, by go_num, Below.refl _ _⟩
          case round =>
            obtain ⟨k, hk0, hk, rfl, hB9⟩ := hrel
            by_cases hlk : k < cs.length
            · have hkz : k < zss.length := by have := HLn.out; omega
              have hks : k < (zss.set i zs).length := by rw [List.length_set]; exact hkz
              obtain ⟨gc, cc, heqc, hgc, hcc, hOc⟩ := HLc8.out.at2 hks
              obtain ⟨gk, ckk, heqk, hgk, hckk, hOk⟩ := HLk8.out.at2 hkz
              have hsame : (zss.set i zs).getD k [] = zss.getD k [] := by
                rw [List.getD_eq_getElem?_getD, List.getElem?_set, if_neg (by omega), ← List.getD_eq_getElem?_getD]
              rw [hsame] at hOc
              have HRc := hide (((HB.out k).row hOc).below hB9)
              have HRk := hide (((HB.out k).row hOk).below hB9)
              rw [hzs.out] at heqc
              cases heqc
              rw [HLn.out] at heqk
              cases heqk
              obtain ⟨ax, cx, hax⟩ := own_form hOc
              obtain ⟨ay, cy, hay⟩ := own_form hOk
              rw [hax] at hcc HRc
              rw [hay] at hckk HRk
              have hd9 : Below wr.heap.size wr wr.drew := (Below.refl _ wr).drew
              have hBd := Below.next hB9 hd9
              have hS0 : wr.drew.cell? ⟨g, k, none⟩ = some (.slice ax (zss.getD k []).length cx) ∧ wr.drew.cell? ⟨gk, k, none⟩ = some (.slice ay (zss.getD k []).length cy) := ⟨(hBd.cell (p := ⟨g, k, none⟩) hgc).trans hcc, (hBd.cell (p := ⟨gk, k, none⟩) hgk).trans hckk⟩
              have HSm := hide (Same_yes _ _ _ wr.drew (HRc.out.below hd9).1 (HRk.out.below hd9).1)
              have j0 : (0 : Int) ≤ (k : Int) := by omega
              have j1 : (k : Int) < (cs.length : Int) := by omega
              clear hOc hOk hax hay hcc hckk HRc HRk hsame
              generalize (zss.getD k []).length = ln at *
              go_upto_region 17 with fail
              refine wp_region_held_drew (S := (fun V => V.cell? ⟨g, k, none⟩ = some (.slice ax ln cx) ∧ V.cell? ⟨gk, k, none⟩ = some (.slice ay ln cy))) (by kernel_rfl) (by ((try dsimp only) <;> (first | with_reducible exact hS0 | with_reducible exact hS1))) (fun hHeld => ?_)
              (refine wpAnyH_take (i := 0) (oi := _) (v := ?v195) rfl (by kernel_rfl) (by kernel_rfl) (by kernel_rfl) (fun _ _ _ h => h) (Or.inl ⟨by rfl, ?hy195⟩) (by assumption) ?rest195; (case hy195 => (first | (intro w hSw; (try dsimp only at hSw); go_simp; done) | (intro w hSw; (try dsimp only at hSw); go_simp; with_reducible rfl))); (try simp only [Act.put, List.getElem_toArray, List.getElem_cons_succ, List.getElem_cons_zero, List.setIfInBounds_toArray, List.set_cons_zero, List.set_cons_succ]))
              (refine wpAnyH_take (i := 1) (oi := _) (v := ?v196) rfl (by kernel_rfl) (by kernel_rfl) (by kernel_rfl) (fun _ _ _ h => h) (Or.inl ⟨by rfl, ?hy196⟩) (by assumption) ?rest196; (case hy196 => (first | (intro w hSw; (try dsimp only at hSw); go_simp; done) | (intro w hSw; (try dsimp only at hSw); go_simp; with_reducible rfl))); (try simp only [Act.put, List.getElem_toArray, List.getElem_cons_succ, List.getElem_cons_zero, List.setIfInBounds_toArray, List.set_cons_zero, List.set_cons_succ]))
              (refine wpAnyH_take (i := 2) (oi := _) (v := ?v197) rfl (by kernel_rfl) (by kernel_rfl) (by kernel_rfl) (fun _ _ _ h => h) (Or.inl ⟨by rfl, ?hy197⟩) (by assumption) ?rest197; (case hy197 => (first | (intro w hSw; (try dsimp only at hSw); go_simp; done) | (intro w hSw; (try dsimp only at hSw); go_simp; with_reducible rfl))); (try simp only [Act.put, List.getElem_toArray, List.getElem_cons_succ, List.getElem_cons_zero, List.setIfInBounds_toArray, List.set_cons_zero, List.set_cons_succ]))
              (refine wpAnyH_take (i := 3) (oi := _) (v := ?v198) rfl (by kernel_rfl) (by kernel_rfl) (by kernel_rfl) (fun _ _ _ h => h) (Or.inl ⟨by rfl, ?hy198⟩) (by assumption) ?rest198; (case hy198 => (first | (intro w hSw; (try dsimp only at hSw); go_simp; done) | (intro w hSw; (try dsimp only at hSw); go_simp; with_reducible rfl))); (try simp only [Act.put, List.getElem_toArray, List.getElem_cons_succ, List.getElem_cons_zero, List.setIfInBounds_toArray, List.set_cons_zero, List.set_cons_succ]))
              (refine wpAnyH_take (i := 4) (oi := _) (v := ?v199) rfl (by kernel_rfl) (by kernel_rfl) (by kernel_rfl) (fun _ _ _ h => h) (Or.inl ⟨by rfl, ?hy199⟩) (by assumption) ?rest199; (case hy199 => (first | (intro w hSw; (try dsimp only at hSw); go_simp; done) | (intro w hSw; (try dsimp only at hSw); go_simp; with_reducible rfl))); (try simp only [Act.put, List.getElem_toArray, List.getElem_cons_succ, List.getElem_cons_zero, List.setIfInBounds_toArray, List.set_cons_zero, List.set_cons_succ]))
              (refine wpAnyH_take (i := 5) (oi := _) (v := ?v200) rfl (by kernel_rfl) (by kernel_rfl) (by kernel_rfl) (fun _ _ _ h => h) (Or.inl ⟨by rfl, ?hy200⟩) (by assumption) ?rest200; (case hy200 => (first | (intro w hSw; (try dsimp only at hSw); go_simp; done) | (intro w hSw; (try dsimp only at hSw); go_simp; with_reducible rfl))); (try simp only [Act.put, List.getElem_toArray, List.getElem_cons_succ, List.getElem_cons_zero, List.setIfInBounds_toArray, List.set_cons_zero, List.set_cons_succ]))
              (refine wpAnyH_take (i := 6) (oi := _) (v := ?v201) rfl (by kernel_rfl) (by kernel_rfl) (by kernel_rfl) (fun _ _ _ h => h) (Or.inl ⟨by rfl, ?hy201⟩) (by assumption) ?rest201; (case hy201 => (first | (intro w hSw; (try dsimp only at hSw); go_simp; done) | (intro w hSw; (try dsimp only at hSw); go_simp; with_reducible rfl))); (try simp only [Act.put, List.getElem_toArray, List.getElem_cons_succ, List.getElem_cons_zero, List.setIfInBounds_toArray, List.set_cons_zero, List.set_cons_succ]))
              (refine wpAnyH_take (i := 7) (oi := _) (v := ?v202) rfl (by kernel_rfl) (by kernel_rfl) (by kernel_rfl) (fun _ _ _ h => h) (Or.inl ⟨by rfl, ?hy202⟩) (by assumption) ?rest202; (case hy202 => (first | (intro w hSw; (try dsimp only at hSw); go_simp; done) | (intro w hSw; (try dsimp only at hSw); go_simp; with_reducible rfl))); (try simp only [Act.put, List.getElem_toArray, List.getElem_cons_succ, List.getElem_cons_zero, List.setIfInBounds_toArray, List.set_cons_zero, List.set_cons_succ]))
              refine wpAnyH_ready (rs := [8]) (by kernel_rfl) (by simp) ?_
              refine AllReadyH.cons (o := _) rfl (fun K hK => ?_) AllReadyH.nil
              try simp only [List.getElem_toArray, List.getElem_cons_succ, List.getElem_cons_zero]
              go_simp
              (first
                    | (go_at_call 9; refine HSm.out.mono ?_; rintro e w10 ⟨rfl, hb10⟩; have hS1 := kept2 hb10 hS0))
              first | (refine hK.out _ _ (by ((try dsimp only) <;> (first | with_reducible exact hS0 | with_reducible exact hS1))) (fun hHeld => ?_)) | (go_wp2_with fail; refine hK.out _ _ (by ((try dsimp only) <;> (first | with_reducible exact hS0 | with_reducible exact hS1))) (fun hHeld => ?_))
              clear hK K
              (try simp only [Act.put, List.getElem_toArray, List.getElem_cons_succ, List.getElem_cons_zero, List.setIfInBounds_toArray, List.set_cons_zero, List.set_cons_succ])
              (refine wpAnyH_take (i := 9) (oi := _) (v := ?v203) rfl (by kernel_rfl) (by kernel_rfl) (by kernel_rfl) (fun _ _ _ h => h) (Or.inl ⟨by rfl, ?hy203⟩) (by assumption) ?rest203; (case hy203 => (first | (intro w hSw; (try dsimp only at hSw); go_simp; done) | (intro w hSw; (try dsimp only at hSw); go_simp; with_reducible rfl))); (try simp only [Act.put, List.getElem_toArray, List.getElem_cons_succ, List.getElem_cons_zero, List.setIfInBounds_toArray, List.set_cons_zero, List.set_cons_succ]))
              refine wpAnyH_done (by kernel_rfl) ?_ _
              have hB10 := Below.next hBd hb10
              clear hS0 hS1
              go_wp2
              go_roundw
              case rel => exact ⟨k + 1, by omega, by omega, by go_num, hB10⟩
              case measure => simp [intOf]; omega
            · obtain rfl : k = cs.length := by omega
              have HLc9 := hide (HLc8.out.below hB9)
              have hB9' := Below.next hB8 hB9
              have HS9 : Hid (w5.heap.size ≤ wr.heap.size) := Nat.le_trans HS8.out hB9.size
              go_wp2
              go_roundw
              case rel => exact ⟨i + 1, _, by omega, by go_num, hzs, HLc9, HBc8, hB9', HS9⟩
              case measure => simp [intOf]; omega
        · obtain rfl : i = cs.length := by omega
          clear HL HB HZl
          have hBw := Below.next hB3 hB
          obtain ⟨q0, p0, p1, p2⟩ := HN.out _ hB
          obtain ⟨q0, q1, q2⟩ := q0
          have HCo2 := hide (HCo.out _ hB)
          go_upto_region 20 with (go_at_call 7; refine HCo2.out.mono ?_; rintro e w10 ⟨v10, us10, rfl, L10, hb10⟩)
          have HR10 := hide (L10.rws HC2.out (by omega))
          have hB10 := Below.next hB hb10
          have hBw10 := Below.next hBw hb10
          clear p0 p1 p2 q0 q1 q2 L10
          obtain ⟨⟨q0, q1, q2⟩, p0, p1, p2⟩ := HN.out _ hB10
          have HD2 := hide (HD.out _ hBw10)
          go_upto_region 21 with (go_at_call 10; refine HD2.out.mono ?_; rintro e w11 ⟨v11, us11, rfl, L11, hb11⟩)
          have HR11 := hide (L11.rws HC2.out (by omega))
          have hB11 := Below.next hB10 hb11
          have hBw11 := Below.next hBw10 hb11
          clear p0 p1 p2 q0 q1 q2 L11
          go_wp2_with (first
            | (go_at_call 11; refine (HX.out _).mono ?_; rintro e w12 ⟨rfl, hb12⟩; have hB12 := Below.next hB11 hb12; have hBw12 := Below.next hBw11 hb12; obtain ⟨⟨q0, q1, q2⟩, p0, p1, p2⟩ := HN.out _ hB12)
            | (go_at_call 12; refine (dSame _ _ q q _ (HP3.out.below hB12) (HPo.out.below hBw12)).mono ?_; rintro e w13 ⟨r13, rfl, hr13, hb13⟩; obtain rfl : r13 = true := (by simpa using hr13); clear hr13; have hB13 := Below.next hB12 hb13; have hBw13 := Below.next hBw12 hb13)
            | (go_at_call 13; refine (RowsF _ _ _ _ ((((HR10.out.below hb11).below hb12).below hb13).below hb14) (((HR11.out.below hb12).below hb13).below hb14)).mono ?_; rintro e w15 ⟨rfl, hb15⟩; have hBw15 := Below.next hBw14 hb15)
            | (go_at_call 13; refine (RowsF _ _ xss _ (HR3.out.below hB13) (HRo.out.below hBw13)).mono ?_; rintro e w14 ⟨rfl, hb14⟩; have hBw14 := Below.next hBw13 hb14))
          go_ret
          exact ⟨rfl, hBw15⟩

end Go.Proofs.Ytfbipnhhnmlhfab
