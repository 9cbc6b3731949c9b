import Derived.Test.YtipobchbnjgenaaGreatBByG
import Derived.Test.YtipobchbnjgenaaGreatBJrnE
set_option linter.unusedVariables false
set_option linter.unusedSimpArgs false
set_option maxRecDepth 100000
set_option maxHeartbeats 4000000
namespace Go.Proofs.YtipobchbnjgenaaGreat
open Go.RowKit Fld
theorem rb_one0 (W : World) : Rb (W.alloc (.cells #[.int .u8 0] 5)) (.slice (some ⟨W.heap.size, 0, none⟩) 1 1) [0] := by
 refine ⟨_, 1, rfl, ⟨Nat.le_refl _, by decide, fun h => by cases h⟩, By.cons (by decide) (by decide) By.nil, fun _ => ⟨W.heap.size, 0, rfl, by simp, fun i hi => ?_⟩⟩
 have : i = 0 := by simpa using hi
 subst this
 exact (Lib.cell_of_heap (heap_alloc_new W _) 0).trans rfl
theorem pad_step (xs : List Int) (k : Nat) : xs ++ List.replicate k 0 ++ [0] = xs ++ List.replicate (k + 1) 0 := by
 rw [List.append_assoc, List.replicate_succ' (n := k)]
theorem dBlocks23 (v : Value) (r : List Int) (w : World) (h : Rb w v r) (hl : r.length <= 140737488351232) :
 Calls Tryz.prog 84 #[v] w fun e w' => ∃ v', e = .returned v' ∧ w'.ownsRow w.heap.size 5 1 v' (32 * jrN r.length) (valb (jrB sum8 r)) ∧ Below w.heap.size w w' := by
 have hy := h.by
 have hn := jrN_bd r.length
 have HR := hide h
 have HW4 := hide (rWide 4 (r.length : Int) w ⟨by omega, by omega⟩ (by decide))
 have HA := hide (fun W (hB : Below w.heap.size w W) (a4 : Option Addr) (c4 : Nat) (a0 : Option Addr) (c0 : Nat) (hr : Rb w (.slice a0 r.length c0) r) (ho : W.ownsRow w.heap.size 5 1 (.slice a4 4 c4) 4 (valb (wd8 (r.length : Int) 4))) => app_big (m := r.length) ho (hr.below hB) (by omega) hB.size)
 have hsb := sum8_bd (hd8 r)
 have HY := hide (hd8_by hy)
 have HHl := hide (hd8_len r)
 have HE : Hid (wd8 (r.length : Int) 4 ++ r = hd8 r) := rfl
 have HF : Hid (hd8 r ++ wd8 (sum8 (hd8 r)) 8 = slF sum8 r) := rfl
 have HL := hide (slF_len sum8 r)
 have HJ : Hid (slF sum8 r ++ List.replicate (32 * jrN r.length - (12 + r.length)) 0 = jrB sum8 r) := rfl
 have HWb := hide (wd8_by (sum8 (hd8 r)) 8)
 have HWl := hide (wd8_len (sum8 (hd8 r)) 8)
 have HS := hide (fun W x (hx : Rb W x (hd8 r)) => rSum x (hd8 r) W hx)
 have HW8 := hide (fun W => rWide 8 (sum8 (hd8 r)) W hsb (by decide))
 obtain ⟨ao, cap, rfl, _⟩ := h.spell
 clear h hy hsb
 obtain ⟨n, HN⟩ : ∃ n, Hid (r.length = n) := ⟨_, rfl⟩
 obtain ⟨B, HB⟩ : ∃ B, Hid (jrB sum8 r = B) := ⟨_, rfl⟩
 rw [HN.out] at hl hn HR HW4 HA HE HHl HL HJ ⊢
 rw [HB.out] at HJ ⊢
 obtain ⟨P, HP⟩ : ∃ P, Hid (32 * jrN n = P) := ⟨_, rfl⟩
 rw [HP.out] at hn HJ ⊢
 have hP32 : P % 32 = 0 := by rw [<- HP.out]; omega
 go_enter Tryz.func84, Tryz.ntmps84
 go_wp2_with fail
 refine HW4.out.mono ?_
 rintro e w4 ⟨v4, rfl, ho4, hb4⟩
 obtain ⟨a4, c4, hv4, _⟩ := own_spellO ho4
 subst hv4
 obtain ⟨v5, w5, hr55, ho5, hg5⟩ := HA.out _ hb4 _ _ _ _ HR.out ho4
 have HB5 := hide (hb4.grown hg5 hb4.size (own_base ho4))
 rw [HE.out] at ho5
 have hr5 := rb_of_own ho5 HY.out (by rw [HHl.out]; omega)
 obtain ⟨a5, c5, hv5⟩ := own_form ho5
 subst hv5
 have HO5 := hide ho5
 clear ho4 hb4 hg5
 go_wp2_with (at_builtin; refine app_runO rfl _ _ _ rfl _ _ _ rfl rfl hr55 ?_)
 refine (HS.out _ _ hr5).mono ?_
 rintro e w6 ⟨rfl, hw6⟩
 rw [hw6]
 clear hw6
 go_wp2_with fail
 refine (HW8.out w5).mono ?_
 rintro e w7 ⟨v7, rfl, ho7, hb7⟩
 have hr7 := rb_of_own ho7 HWb.out (by rw [HWl.out]; omega)
 obtain ⟨a7, c7, hv7, _⟩ := own_spellO ho7
 subst hv7
 obtain ⟨v8, w8, hr8, ho8, hg8⟩ := app_big (m := 8) (own_below HO5.out hb7) hr7 (by omega) (by have := HB5.out.size; have := hb7.size; omega)
 have HB8 := hide ((HB5.out.trans (hb7.mono HB5.out.size)).grown hg8 (by have := HB5.out.size; have := hb7.size; omega) (own_base HO5.out))
 rw [HF.out] at ho8
 obtain ⟨a8, c8, hv8⟩ := own_form ho8
 subst hv8
 have HO8 := hide ho8
 clear hr7 ho7 hb7 ho8 hg8 hr55 hr5
 go_wp2_with (at_builtin; refine app_runO rfl _ _ _ rfl _ _ _ rfl rfl hr8 ?_)
 have e12 : 4 + n + 8 = 12 + n := by omega
 rw [e12] at HO8
 rw [e12]
 have HLn := hide hl
 clear hr8 e12 HS HW8 HWl HWb HA HW4 HR HO5 HB5 HE HF HHl HY hl
 go_loopw [3] (fun v3 wr => ∃ (k : Nat) (a : Option Addr) (c : Nat), 12 + n + k <= P ∧ v3 = .slice a (12 + n + k) c ∧ Hid (wr.ownsRow w.heap.size 5 1 (.slice a (12 + n + k) c) (12 + n + k) (valb (slF sum8 r ++ List.replicate k 0))) ∧ Below w.heap.size w wr) (fun v3 _ => P - (match v3 with | .slice _ m _ => m | _ => 0))
 case atStart => exact ⟨0, a8, c8, by omega, rfl, by simpa using HO8, HB8.out⟩
 case round =>
  obtain ⟨k, a, c, hk, rfl, HRo, hB⟩ := hrel
  have hPb := hn.2.1
  obtain ⟨i0, hi0, hz0, hz1, hz2⟩ := info_parts b8_info
  obtain ⟨m, Hm⟩ : ∃ m, Hid (12 + n + k = m) := ⟨_, rfl⟩
  rw [Hm.out] at hk HRo ⊢
  by_cases hlt : m < P
  · have q0 : ((m : Int) % 32 != 0) = true := bne_iff_ne.2 (by have := Hm.out; omega)
    have hal := alloc_below wr (.cells #[.int .u8 0] 5)
    obtain ⟨v2, w2, hr2, ho2, hg2⟩ := app_big (m := 1) (c := 1) (a := some ⟨wr.heap.size, 0, none⟩) (own_below HRo.out hal) (rb_one0 wr) (by have := HLn.out; omega) (by have := hB.size; have := hal.size; omega)
    have HB2 := hide ((Below.next hB hal).grown hg2 (by have := hB.size; have := hal.size; omega) (own_base HRo.out))
    rw [pad_step] at ho2
    obtain ⟨a2, c2, hv2⟩ := own_form ho2
    subst hv2
    have HO2 := hide ho2
    clear ho2 hg2 hal HRo hB
    go_wp2_with (at_builtin; refine app_runO rfl _ _ _ rfl _ _ _ rfl rfl hr2 ?_)
    have hm := Hm.out
    clear hr2
    go_roundw
    case rel => exact ⟨k + 1, a2, c2, by omega, by rw [show 12 + n + (k + 1) = m + 1 by omega], by rw [show 12 + n + (k + 1) = m + 1 by omega]; exact HO2, HB2.out⟩
    case measure => simp; omega
  · have hPe : P = m := by omega
    have q0 : (m : Int) % 32 = 0 := by omega
    have hr := HRo.out
    rw [show k = P - (12 + n) by have := Hm.out; omega, HJ.out] at hr
    have HRf := hide hr
    have HPe := hide hPe
    clear hr HRo hPe hk hPb hn hP32
    go_wp2_with fail
    go_ret
    exact ⟨_, rfl, by rw [HPe.out]; exact HRf.out, hB⟩
theorem bksP_jrB (S : List Int -> Int) (r : List Int) : bksP (jrB S r) = jrC S r := by
 have e : ((jrB S r).length + 31) / 32 = jrN r.length := by rw [jrB_len]; omega
 apply List.ext_getElem?
 intro k
 by_cases h : k < jrN r.length
 · rw [bksP_at (by rw [e]; exact h)]
   unfold jrC blkP
   rw [ck32_at _ _ _ h]
   have hl : (((jrB S r).drop (32 * k)).take 32).length = 32 := by rw [List.length_take, List.length_drop, jrB_len]; omega
   rw [hl, Nat.sub_self, List.replicate_zero, List.append_nil]
 · rw [List.getElem?_eq_none (by rw [bksP_len, e]; omega), List.getElem?_eq_none (by rw [jrC_len]; omega)]
theorem blkP_full {zs : List Int} {k : Nat} (h : 32 * k + 32 <= zs.length) : blkP zs k = (zs.drop (32 * k)).take 32 := by
 have hl : ((zs.drop (32 * k)).take 32).length = 32 := by rw [List.length_take, List.length_drop]; omega
 unfold blkP
 rw [hl, Nat.sub_self, List.replicate_zero, List.append_nil]
theorem cut2b {w : World} {ao : Option Addr} {n cap : Nat} {xs : List Int} (h : Rb w (.slice ao n cap) xs) {k m : Nat} (hk : k < m) (hm : m <= xs.length) :
 ∃ a2 c2, (∀ W : World, (Instr.slice 30 (.slice ao n cap) (some (.int .i64 (k : Int))) (some (.int .i64 (m : Int))) none).run Tryz.prog W = .ok (.slice a2 (m - k) c2) W) ∧ Rb w (.slice a2 (m - k) c2) ((xs.drop k).take (m - k)) := by
 obtain ⟨i0, hi0, hz0, hz1, hz2⟩ := info_parts b8_info
 have hn : xs.length = n := by obtain ⟨_, _, e, _⟩ := h; cases e; rfl
 obtain ⟨b, off, cap', e, hc, hb⟩ := h.form (by omega)
 cases e
 have h0 : ¬ cap = k := by omega
 refine ⟨some ⟨b, off + k, none⟩, cap - k, fun W => ?_, h.cut (o := k) (n := m - k) (c := cap - k) (by omega) (by omega)⟩
 simp [Instr.slice, Instr.sliceBounds, Instr.sliceBound, asIntOf, run_underlying Tryz.underlying30, sizeOf, typeInfo, hi0, hz1, show k <= m by omega, show m <= cap by omega, h0, Addr.add]
theorem Dy.apart_row {W W' : World} {base g lo n s : Nat} {v v' u : Value} {D : Dsk} {xs : List Value} {T : TypeId} (h : Dy W base g v D) (m : Mv W W' g v v') (ho : W.ownsRow lo T s u n xs) (h1 : T ≠ 37) (h2 : T ≠ 30) : W'.ownsRow lo T s u n xs := by
 obtain ⟨es, h⟩ := h
 exact m.kq.own ho (fun j hj => ⟨(ho.lt j hj).2, fun e => by subst e; exact own_notO ho h.dsk (fun e => h1 e.symm) hj, fun e => own_kindO ho h.row h2 j hj e⟩)
theorem dAppend {w : World} {base g : Nat} {v : Value} {D : Dsk} (h : Dy w base g v D) (hb : base <= w.heap.size) (hn : D.n + 100000 < 4611686018427387904) {u : Value} {r : List Int} (hu : Rb w u r) (hul : r.length <= 140737488351232) :
 Calls Tryz.prog 52 #[.pointer (some ⟨g, 0, none⟩), u] w fun e w' => ∃ v', e = .returned (.int .i64 (apE23 sum8 D r)) ∧ Dy w' base g v' (apN23 sum8 D r) ∧ Mv w w' g v v' := by
 have hy := hu.by
 by_cases hl : 1048576 < r.length
 · have e1 : apE23 sum8 D r = 4 := by unfold apE23; rw [if_pos hl]
   have e2 : apN23 sum8 D r = D := by unfold apN23; rw [if_pos hl]
   rw [e1, e2]
   have HP := hide h
   obtain ⟨a, c, rfl, _⟩ := hu.spell
   have q0 : (1048576 : Int) < (r.length : Int) := by omega
   clear h hu hy e1 e2 hl hb hn hul
   generalize r.length = n at *
   go_enter Tryz.func52, Tryz.ntmps52
   go_wp2
   go_ret
   exact ⟨_, rfl, HP.out, Mv.refl _ _ _⟩
 · have e1 : apE23 sum8 D r = wsE D (bksP (jrB sum8 r)) := by unfold apE23; rw [if_neg hl, bksP_jrB]
   have e2 : apN23 sum8 D r = wsN D (bksP (jrB sum8 r)) := by unfold apN23; rw [if_neg hl, bksP_jrB]
   rw [e1, e2]
   have HB := hide (dBlocks23 u r w hu hul)
   have HY := hide (jrB_by sum8 hy)
   have HL := hide (jrB_len sum8 r)
   have HP := hide h
   have HBs := hide hb
   have HNn := hide hn
   have hJ := jrN_bd r.length
   have hJ2 : 32 * jrN r.length <= 1048620 := by omega
   have HW := hide (fun W v' k x (hd : Dy W base g v' (wsN D ((bksP (jrB sum8 r)).take k))) (hz : base <= W.heap.size) (hk : k <= jrN r.length) (hx : Rb W x (blkP (jrB sum8 r) k)) => dWriteY hd hz (by
    have := wsN_n ((bksP (jrB sum8 r)).take k) D
    have h1 : ((bksP (jrB sum8 r)).take k).length <= 100000 := by rw [List.length_take, bksP_len, jrB_len]; omega
    omega) hx)
   have q0 : ¬ (1048576 : Int) < (r.length : Int) := by omega
   obtain ⟨a, c, rfl, _⟩ := hu.spell
   clear h hu hy e1 e2 hl hb hn hul hJ
   obtain ⟨J, HJj⟩ : ∃ J, Hid (jrN r.length = J) := ⟨_, rfl⟩
   rw [HJj.out] at HB HL hJ2 HW
   generalize jrB sum8 r = zs at *
   generalize r.length = n at *
   go_enter Tryz.func52, Tryz.ntmps52
   go_wp2_with (go_at_call 84; refine HB.out.mono ?_; rintro e w1 ⟨v1, rfl, ho1, hb1⟩; have HO1 := hide ho1; have HB1 := hide hb1; obtain ⟨a1, c1, hv1⟩ := own_form ho1; subst hv1; clear ho1 hb1)
   obtain ⟨M, HM⟩ : ∃ M, Hid (32 * J = M) := ⟨_, rfl⟩
   rw [HM.out] at HO1 HL hJ2 ⊢
   go_loopw [6] (fun v6 wr => ∃ (k : Nat) (v' : Value), k <= J ∧ v6 = .int .i64 ((32 * k : Nat) : Int) ∧ Hid (Dy wr base g v' (wsN D ((bksP zs).take k))) ∧ Hid (Mv w1 wr g v v') ∧ Hid (wr.ownsRow w.heap.size 5 1 (.slice a1 M c1) M (valb zs)) ∧ Hid (wsE D ((bksP zs).take k) = 0)) (fun v6 _ => M - (intOf v6).toNat)
   case atStart => exact ⟨0, v, Nat.zero_le _, rfl, hide (HP.out.below HB1.out), hide (Mv.refl _ _ _), HO1, hide rfl⟩
   case round =>
    obtain ⟨k, v', hk, rfl, HD, HMv, HO, HE⟩ := hrel
    have hsz : base <= wr.heap.size := Nat.le_trans HBs.out (Nat.le_trans HB1.out.size HMv.out.kq.size)
    have hkl : ∀ j, j < J ↔ j < (zs.length + 31) / 32 := fun j => by have := HL.out; have := HM.out; omega
    by_cases hlt : k < J
    · have hrb := rb_of_own HO.out HY.out (by have := HL.out; omega)
      obtain ⟨a2, c2, hs2, hr2⟩ := cut2b hrb (k := 32 * k) (m := 32 * k + 32) (by omega) (by have := HL.out; have := HM.out; omega)
      rw [show 32 * k + 32 - 32 * k = 32 by omega] at hs2 hr2
      rw [<- blkP_full (by have := HL.out; have := HM.out; omega)] at hr2
      obtain ⟨sE, sN⟩ := ws_snoc ((hkl k).1 hlt) HE.out
      have HWk := hide (HW.out wr v' k _ HD.out hsz hk hr2)
      have HSE := hide sE
      have HSN := hide sN
      have HK1 : Hid (∀ W3 v3, Mv wr W3 g v' v3 -> W3.ownsRow w.heap.size 5 1 (.slice a1 M c1) M (valb zs)) := fun W3 v3 m => HD.out.apart_row m HO.out (by decide) (by decide)
      obtain ⟨i, Hi⟩ : ∃ i : Int, Hid (((32 * k : Nat) : Int) = i) := ⟨_, rfl⟩
      have e32 : (((32 * k + 32 : Nat)) : Int) = i + 32 := by rw [<- Hi.out]; omega
      have hs3 := hs2
      rw [Hi.out, e32] at hs3
      rw [Hi.out]
      have q1 : i < (M : Int) := by rw [<- Hi.out, <- HM.out]; omega
      have q2 : 0 <= i ∧ i <= 2000000 := by rw [<- Hi.out]; omega
      have HSt := hide (@ws_stop D zs (k + 1))
      clear hrb hr2 hs2 e32 sE sN hkl hsz
      obtain ⟨er, Her⟩ : ∃ er, Hid (wrE22 (wsN D ((bksP zs).take k)) (blkP zs k) = er) := ⟨_, rfl⟩
      rw [Her.out] at HWk HSE
      rw [<- HSN.out] at HWk
      by_cases he : er = 0
      · subst he
        go_wp2_with (go_at_call 85; refine HWk.out.mono ?_; rintro e w3 ⟨v3, rfl, hd3, hm3⟩; have HD3 := hide hd3; have HM3 := hide (HMv.out.trans hm3); have HO3 := hide (HK1.out _ _ hm3); clear hd3 hm3)
        clear hs3
        go_roundw
        case rel => exact ⟨k + 1, v3, by omega, by congr 1; rw [<- Hi.out]; omega, HD3, HM3, HO3, HSE⟩
        case measure => simp [intOf]; omega
      · have hne : (er != 0) = true := bne_iff_ne.2 he
        have hst := HSt.out (by rw [HSE.out]; exact he)
        rw [HSE.out] at hst
        have HS1 := hide hst.1
        have HS2 := hide hst.2
        clear hst
        go_wp2_with (go_at_call 85; refine HWk.out.mono ?_; rintro e w3 ⟨v3, rfl, hd3, hm3⟩; have HD3 := hide hd3; have HM3 := hide (HMv.out.trans hm3); clear hd3 hm3)
        go_ret
        exact ⟨_, by rw [HS1.out]; rfl, by rw [HS2.out]; exact HD3.out, Mv.after HB1.out HM3.out⟩
    · obtain rfl : k = J := by omega
      have et : (bksP zs).take k = bksP zs := List.take_of_length_le (by rw [bksP_len]; have := HL.out; have := HM.out; omega)
      rw [et] at HD HE
      have hM := HM.out
      subst hM
      clear et hkl
      go_wp2
      go_ret
      first | exact ⟨_, by rw [HE.out]; rfl, HD.out, Mv.after HB1.out HMv.out⟩ | exact ⟨by rw [HE.out]; rfl, _, HD.out, Mv.after HB1.out HMv.out⟩ | exact ⟨HE.out, _, HD.out, Mv.after HB1.out HMv.out⟩ | exact ⟨HE.out.symm, _, HD.out, Mv.after HB1.out HMv.out⟩
end Go.Proofs.YtipobchbnjgenaaGreat
