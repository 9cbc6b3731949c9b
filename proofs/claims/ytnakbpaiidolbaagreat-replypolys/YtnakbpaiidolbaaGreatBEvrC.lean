import Derived.Test.YtnakbpaiidolbaaGreatBEvqF
import Derived.Test.YtnakbpaiidolbaaGreatBEvrB
import Derived.Test.YtnakbpaiidolbaaGreatBunH
import Derived.Test.YtnakbpaiidolbaaGreatBunC
import Derived.Test.YtnakbpaiidolbaaGreatBunO
import Derived.Test.YtnakbpaiidolbaaGreatBunJ
import Derived.Test.YtnakbpaiidolbaaGreatBTkA
namespace Go.Proofs.YtnakbpaiidolbaaGreat
open Go.RowKit Fld Slp
set_option linter.unusedVariables false
set_option linter.unusedSimpArgs false
def lgK (xss : List (List Int)) (k : Nat) : Bool := (xss.take k).any (fun xs => decide (4096 < xs.length))
theorem lgK_next {xss : List (List Int)} {k : Nat} (h : k < xss.length) : lgK xss (k + 1) = (lgK xss k || decide (4096 < (xss.getD k []).length)) := by
 unfold lgK
 rw [List.take_succ_eq_append_getElem h, List.any_append, List.getD_eq_getElem?_getD, List.getElem?_eq_getElem h]; simp
theorem lgK_end (xss : List (List Int)) : lgK xss xss.length = lgB xss := by unfold lgK lgB; rw [List.take_length]
theorem ls_of_lss {W : World} {lo hi : Nat} {v : Value} {us : List Value} {xss : List (List Int)} (h : Lss W lo hi v us xss) (hw : ∀ i, Wd (xss.getD i [])) : Ls W lo v us xss :=
 ⟨h.row, fun i hi => (hw i).row (h.each i hi), fun i hi _ b hb e => own_kind (h.each i hi) h.row (fun e => ne_kind e.symm) b hb e⟩
theorem lim_wd {p : Int} (hp : p ≤ 18446744073709551615) {xs : List Int} (h : Lim p xs) : Wd xs := ⟨by have := h.2; omega, els_words h.1 hp⟩
theorem wd_getD {P : List Int → Prop} {xss : List (List Int)} (h : ∀ xs ∈ xss, P xs) (h0 : P []) (i : Nat) : P (xss.getD i []) := by
 rw [List.getD_eq_getElem?_getD]
 cases e : xss[i]? with
 | none => exact h0
 | some xs => exact h xs (List.mem_of_getElem? e)
theorem take_snocE (g : Int → List Int) (zs : List Int) {k : Nat} (hk : k < zs.length) : (zs.take k).map g ++ [g zs[k]] = (zs.take (k + 1)).map g := by
 rw [List.take_succ_eq_append_getElem hk, List.map_append]; rfl
theorem own_at {W : World} {lo n : Nat} {v : Value} {us : List Value} {T : TypeId} (h : W.ownsRow lo T 1 v n us) (hn : 0 < n) : ∃ g c, v = .slice (some ⟨g, 0, none⟩) n c := by
 rcases h.2 with ⟨_, h0⟩ | ⟨g, cap, cur, e, _⟩
 · omega
 · exact ⟨g, cap, e⟩
set_option maxRecDepth 100000 in
set_option maxHeartbeats 2000000 in
theorem dCompose (f : Int) (q : Pr) (vp vi : Value) (xss : List (List Int)) (w : World) (hp : Pm w vp q) (hr : Rws w vi xss) (hlr : xss.length ≤ 5864062014634) : GivesL11 38 #[.int .u8 f, vp, vi] w (coL f q xss) (coE f q xss) := by
 obtain ⟨i0, hi0, hz0, hz1, hz2⟩ := info_parts sl_infoE
 have HM := hide (fun W (hb : Below w.heap.size w W) => dMay vp q W (hp.below hb))
 have HI0 := hide (fun W => rIn_any f (.slice none 0 0) [] W (row0 W))
 have HI := hide (fun v xs W (hr : Rw W v xs) => rIn_any f v xs W hr.1)
 have HTr := hide (fun v xs W (hr : Rw W v xs) => rTrim_any v xs W hr)
 have HOf := hide (fun W (hb : Below w.heap.size w W) => dOf vp q W (hp.below hb))
 unfold IsOf at HOf
 have HT := hide (fun W (hb : Below w.heap.size w W) => dTrim vp q W (hp.below hb))
 have HR := hide hr
 have HP := hide hp
 have HWd := hide hr.wordsL'
 have HLe := hide (fun h => of_le (q := q) h)
 obtain ⟨vo, vu, rfl, ho, hu⟩ := hp.form
 obtain ⟨ao, co', rfl, _⟩ := ho.spell
 obtain ⟨au, cu, rfl, _⟩ := hu.spell
 obtain ⟨ai, ci, rfl, hlen, hcap, hcell⟩ := hr
 have hA := alloc_below w (.cells #[.int .i64 q.inp, .slice ao q.ops.length co', .slice au q.outs.length cu] 28)
 have hN := heap_alloc_new w (.cells #[.int .i64 q.inp, .slice ao q.ops.length co', .slice au q.outs.length cu] 28)
 have hinb := hp.inb
 clear ho hu hp
 cases hg : (mayB q && inF f []) with
 | false =>
  have e1 : coE f q xss = 2 := by unfold coE; rw [hg]; rfl
  have e2 : coL f q xss = [] := by unfold coL; rw [e1]; rfl
  rw [e1, e2]
  apply GivesL11.none
  cases hm : mayB q with
  | false =>
   rw [hm] at HM
   clear hm hg e1 e2 HP HR hcell
   go_enter Tryz.func38, Tryz.ntmps38
   go_wp2_with (go_at_call 53; refine (HM.out _ hA).mono ?_; rintro e w1 ⟨rfl, hb1⟩)
   go_ret2
   exact ⟨rfl, Below.next hA hb1⟩
  | true =>
   have hn : inF f [] = false := by rw [hm] at hg; simpa using hg
   rw [hm] at HM
   rw [hn] at HI0
   clear hm hg e1 e2 HP HR hcell hn
   go_enter Tryz.func38, Tryz.ntmps38
   go_wp2_with (first
    | (go_at_call 53; refine (HM.out _ hA).mono ?_; rintro e w1 ⟨rfl, hb1⟩; have hB1 := Below.next hA hb1)
    | (go_at_call 54; refine (HI0.out _).mono ?_; rintro e w2 ⟨rfl, hw⟩; rw [hw]; clear hw))
   go_ret2
   exact ⟨rfl, hB1⟩
 | true =>
  have hm : mayB q = true := (Bool.and_eq_true _ _ ▸ hg).1
  have hn : inF f [] = true := (Bool.and_eq_true _ _ ▸ hg).2
  have HCo : Hid (coE f q xss = cpE f q xss) := by show _ = _; unfold coE; rw [if_pos hg]
  have HOne := hide (of_one hm)
  have HMay := hide hm
  rw [hm] at HM
  rw [hn] at HI0
  have Hin := hide hn
  clear hm hg hn
  show Calls _ _ _ _ _
  go_enter Tryz.func38, Tryz.ntmps38
  go_upto_region 4 with (first
   | (go_at_call 53; refine (HM.out _ hA).mono ?_; rintro e w1 ⟨rfl, hb1⟩; have hB1 := Below.next hA hb1; have n1 := (hb1.block _ (Array.getElem?_eq_some_iff.1 hN).1).trans hN)
   | (go_at_call 54; refine (HI0.out _).mono ?_; rintro e w2 ⟨rfl, hw⟩; rw [hw]; clear hw))
  clear HM HI0 hN hb1 hA
  go_wp2
  go_loopw [8, 9, 10] (fun vt vl vi wr => ∃ k : Nat, k ≤ xss.length ∧ vi = .int .i64 k ∧ vt = .int .i64 (topK xss k) ∧ vl = .bool (lgK xss k) ∧ Hid (∀ i, i < k → inF f (xss.getD i []) = true) ∧ Below w1.heap.size w1 wr) (fun _ _ vi _ => xss.length - (intOf vi).toNat)
  case atStart => exact ⟨0, Nat.zero_le _, rfl, rfl, rfl, fun i hi => by omega, Below.refl _ _⟩
  case round =>
   obtain ⟨k, hk, rfl, rfl, rfl, HK, hB⟩ := hrel
   have hBw := Below.next hB1 hB
   have n2 := (hB.block _ (Array.getElem?_eq_some_iff.1 n1).1).trans n1
   by_cases hlt : k < xss.length
   · obtain ⟨b, off, rfl, hbl, hc⟩ := hcell (by intro e; rw [e] at hlt; simp at hlt)
     obtain ⟨u, hcu, hru⟩ := hc k hlt
     have hck := (hBw.cell (p := ⟨b, off + k, none⟩) hbl).trans hcu
     have HX := hide (HI.out u (xss.getD k []) wr (hru.below hBw))
     have HY := hide (HTr.out u (xss.getD k []) wr (hru.below hBw))
     have hln := hru.len
     obtain ⟨au', cu', rfl, _⟩ := hru.spell
     have k0 : (0 : Int) ≤ (k : Int) := by omega
     have k1 : (k : Int) < (xss.length : Int) := by omega
     clear hc hcell hcu hru
     cases hi : inF f (xss.getD k []) with
     | false =>
      rw [hi] at HX
      have HE : Hid (coE f q xss = 2) := by show _ = _; rw [HCo.out]; unfold cpE; rw [all_out hlt hi]; rfl
      have HE2 : Hid (coL f q xss = []) := by show _ = _; unfold coL; rw [HE.out]; rfl
      clear hi hln
      generalize (xss.getD k []).length = ln at *
      go_wp2_with (go_at_call 54; refine HX.out.mono ?_; rintro e w3 ⟨rfl, hw⟩; rw [hw]; clear hw)
      go_ret2
      rw [HE.out, HE2.out]
      exact ⟨_, [], rfl, Lss.nil _ _ _, hBw⟩
     | true =>
      rw [hi] at HX
      have HK2 : Hid (∀ i, i < k + 1 → inF f (xss.getD i []) = true) := fun i hi' => by
       by_cases e : i = k
       · rw [e]; exact hi
       · exact HK.out i (by omega)
      have HNl := hide (lgK_next hlt)
      have HNt := hide (topK_next hlt)
      have htl := tr_len (xss.getD k [])
      have htk := top_bound xss k hk (fun i hi' => (HR.out.lenL i (by omega)))
      obtain ⟨tl, HTl⟩ : ∃ tl, Hid ((tr (xss.getD k [])).length = tl) := ⟨_, rfl⟩
      rw [HTl.out] at HNt htl HY
      obtain ⟨tp, HTp⟩ : ∃ tp, Hid (topK xss k = tp) := ⟨_, rfl⟩
      rw [HTp.out] at HNt htk ⊢
      clear hi
      obtain ⟨ln, HLn⟩ : ∃ ln, Hid ((xss.getD k []).length = ln) := ⟨_, rfl⟩
      rw [HLn.out] at hln htl HNl HX HY hck
      cases hlg : lgK xss k with
      | true =>
       rw [hlg] at HNl
       by_cases hmx : (tp : Int) < (tl : Int) - 1
       · have HNt2 : Hid (((topK xss (k + 1) : Nat) : Int) = (tl : Int) - 1) := by show _ = _; rw [HNt.out]; omega
         go_wp2_with (first
          | (go_at_call 54; refine HX.out.mono ?_; rintro e w3 ⟨rfl, hw⟩; rw [hw]; clear hw)
          | (go_at_call 74; refine HY.out.mono ?_; rintro e w4 ⟨v4, rfl, ho4, hb4⟩; obtain ⟨a4, c4, rfl⟩ := own_form ho4))
         have hB4 := Below.next hB hb4
         go_roundw
         case rel => exact ⟨k + 1, by omega, by go_num, by rw [HNt2.out], by rw [HNl.out, Bool.true_or], HK2, hB4⟩
         case measure => simp [intOf]; omega
       · have HNt2 : Hid (((topK xss (k + 1) : Nat) : Int) = (tp : Int)) := by show _ = _; rw [HNt.out]; omega
         go_wp2_with (first
          | (go_at_call 54; refine HX.out.mono ?_; rintro e w3 ⟨rfl, hw⟩; rw [hw]; clear hw)
          | (go_at_call 74; refine HY.out.mono ?_; rintro e w4 ⟨v4, rfl, ho4, hb4⟩; obtain ⟨a4, c4, rfl⟩ := own_form ho4))
         have hB4 := Below.next hB hb4
         go_roundw
         case rel => exact ⟨k + 1, by omega, by go_num, by rw [HNt2.out], by rw [HNl.out, Bool.true_or], HK2, hB4⟩
         case measure => simp [intOf]; omega
      | false =>
       rw [hlg, Bool.false_or] at HNl
       have HDc : Hid (decide (4096 < ln) = decide ((4096 : Int) < (ln : Int))) := by show _ = _; congr 1; apply propext; omega
       rw [HDc.out] at HNl
       by_cases hmx : (tp : Int) < (tl : Int) - 1
       · have HNt2 : Hid (((topK xss (k + 1) : Nat) : Int) = (tl : Int) - 1) := by show _ = _; rw [HNt.out]; omega
         go_wp2_with (first
          | (go_at_call 54; refine HX.out.mono ?_; rintro e w3 ⟨rfl, hw⟩; rw [hw]; clear hw)
          | (go_at_call 74; refine HY.out.mono ?_; rintro e w4 ⟨v4, rfl, ho4, hb4⟩; obtain ⟨a4, c4, rfl⟩ := own_form ho4))
         have hB4 := Below.next hB hb4
         go_roundw
         case rel => exact ⟨k + 1, by omega, by go_num, by rw [HNt2.out], by rw [HNl.out], HK2, hB4⟩
         case measure => simp [intOf]; omega
       · have HNt2 : Hid (((topK xss (k + 1) : Nat) : Int) = (tp : Int)) := by show _ = _; rw [HNt.out]; omega
         go_wp2_with (first
          | (go_at_call 54; refine HX.out.mono ?_; rintro e w3 ⟨rfl, hw⟩; rw [hw]; clear hw)
          | (go_at_call 74; refine HY.out.mono ?_; rintro e w4 ⟨v4, rfl, ho4, hb4⟩; obtain ⟨a4, c4, rfl⟩ := own_form ho4))
         have hB4 := Below.next hB hb4
         go_roundw
         case rel => exact ⟨k + 1, by omega, by go_num, by rw [HNt2.out], by rw [HNl.out], HK2, hB4⟩
         case measure => simp [intOf]; omega
   · obtain rfl : k = xss.length := by omega
     rw [lgK_end]
     have HAll : Hid (xss.all (inF f) = true) := all_in HK.out
     obtain ⟨p0, p1, p2⟩ := cell3 n2
     have htb : topK xss xss.length ≤ 17592186043904 := top_bound xss _ (Nat.le_refl _) (fun i hi' => HR.out.lenL i hi')
     have HTop : Hid (topK xss xss.length = top xss) := rfl
     rw [HTop.out] at htb ⊢
     by_cases he : (xss.length : Int) = q.inp
     · have ht : ((xss.length : Int) != q.inp) = false := by simp [he]
       have HE : Hid (cpE f q xss = if lgB xss = true then 4 else if ofE q = 0 then (if 4096 ≤ ofV q * (top xss : Int) then 4 else 0) else ofE q) := by show _ = _; unfold cpE; rw [if_pos HAll.out, if_pos he]
       have HQl := hide he
       clear he HK HI
       obtain ⟨tp, HTp⟩ : ∃ tp, Hid (top xss = tp) := ⟨_, rfl⟩
       rw [HTp.out] at htb HE ⊢
       go_upto_region 14 with (go_at_call 32; refine (HOf.out _ hBw).mono ?_; rintro e w3 ⟨rfl, hb3⟩)
       have hB3 := Below.next hBw hb3
       have n3 := (hb3.block _ (Array.getElem?_eq_some_iff.1 n2).1).trans n2
       clear p0 p1 p2 HOf
       go_cut [9, 11, 12, 85] from 66 to 85 (fun _ _ _ v85 wx => ∃ b : Bool, v85 = .bool b ∧ Hid (b = false → cpE f q xss = 0) ∧ Hid (b = true → coE f q xss = 4) ∧ wx = w3)
       case first =>
        cases hlg : lgB xss with
        | true =>
         have HE4 : Hid (coE f q xss = 4) := by show _ = _; rw [HCo.out, HE.out, hlg]; rfl
         clear HE hlg HLe HOne
         go_wp2
         go_meet
         case rel => exact ⟨true, rfl, (fun h => by cases h), (fun _ => HE4.out), rfl⟩
        | false =>
         rw [hlg] at HE
         rcases HOne.out with h0 | h0
         · have v0 := (HLe.out h0).1
           have v1 := (HLe.out h0).2.1
           rw [h0] at HE ⊢
           have HE2 : Hid (cpE f q xss = if 4096 ≤ ofV q * (tp : Int) then 4 else 0) := by show _ = _; rw [HE.out]; rfl
           clear HE h0 HLe HOne hlg
           generalize ofV q = n at *
           obtain ⟨D, hD⟩ : ∃ D, n * (tp : Int) = D := ⟨_, rfl⟩
           have hD1 : 0 ≤ D := by rw [← hD]; exact Int.mul_nonneg v0 (by omega)
           have hD2 : D ≤ 18014398508957696 := by
            rw [← hD]
            have h1 : n * (tp : Int) ≤ 1024 * (tp : Int) := Int.mul_le_mul_of_nonneg_right v1 (by omega)
            omega
           rw [hD] at HE2
           by_cases hc : 4096 ≤ D
           · have HE4 : Hid (coE f q xss = 4) := by show _ = _; rw [HCo.out, HE2.out, if_pos hc]
             have h1 : (1 : Int) ≤ (tp : Int) := by
              rcases Nat.eq_zero_or_pos tp with h | h
              · rw [h] at hD; simp at hD; omega
              · omega
             clear HE2
             go_wp2
             go_meet
             case rel => exact ⟨true, by simp [hc], (fun h => by cases h), (fun _ => HE4.out), rfl⟩
           · have HE0 : Hid (cpE f q xss = 0) := by show _ = _; rw [HE2.out, if_neg hc]
             clear HE2
             by_cases h1 : (1 : Int) ≤ (tp : Int)
             · go_wp2
               go_meet
               case rel => exact ⟨false, by simp [hc], (fun _ => HE0.out), (fun h => by cases h), rfl⟩
             · go_wp2
               go_meet
               case rel => exact ⟨false, by simp [hc], (fun _ => HE0.out), (fun h => by cases h), rfl⟩
         · rw [h0] at HE ⊢
           have HE4 : Hid (coE f q xss = 4) := by show _ = _; rw [HCo.out, HE.out]; rfl
           clear HE h0 HLe HOne hlg
           go_wp2
           go_meet
           case rel => exact ⟨true, rfl, (fun h => by cases h), (fun _ => HE4.out), rfl⟩
       case rest =>
        obtain ⟨bb, rfl, HF, HT4, rfl⟩ := hcut
        cases bb with
        | true =>
         have h4 := HT4.out rfl
         have HE2 : Hid (coL f q xss = []) := by show _ = _; unfold coL; rw [h4]; rfl
         have HE4 := hide h4
         clear h4 HF HT4
         go_wp2
         go_ret2
         rw [HE4.out, HE2.out]
         exact ⟨_, [], rfl, Lss.nil _ _ _, hB3⟩
        | false =>
         have HE0 := hide (HF.out rfl)
         obtain ⟨p0, p1, p2⟩ := cell3 n3
         clear HF HT4
         have hlm := (cpE_zero HMay.out HE0.out).2.2.1
         obtain ⟨p, wd, hf, _⟩ := inF_fi Hin.out
         have hx : ∀ xs ∈ xss, Lim p xs := fun xs hx => by
          have h1 := List.all_eq_true.1 HAll.out xs hx
          rw [inF_yes hf] at h1
          exact ⟨els_of h1 (HWd.out xs hx), hlm xs hx⟩
         have hmt := tr_may HMay.out
         obtain ⟨⟨t0, t1, t2, t3⟩, _, _⟩ := mayB_iff.1 hmt
         have hti : (trP q).inp = q.inp := rfl
         have eR : trR q = trP q := by unfold trR; rw [if_pos HMay.out]
         have eE : trE q = 0 := by unfold trE; rw [if_pos HMay.out]
         have HTp2 := hide (fun W B vo vu ho hu => tr_pm (w' := W) (vo := vo) (vu := vu) (B := B) HP.out ho hu)
         unfold IsTrim at HT
         rw [eR] at HT HTp2
         rw [eE] at HT
         have HE1 : Hid (coE f q xss = 0) := by show _ = _; rw [HCo.out, HE0.out]
         have HE2 : Hid (coL f q xss = rnO (Rt f) (trP q) (xss.map tr)) := by show _ = _; unfold coL; rw [if_pos HE1.out]
         have hxt : ∀ xs ∈ xss.map tr, Lim p xs := fun xs hxs => by
          obtain ⟨ys, hy, rfl⟩ := List.mem_map.1 hxs
          exact lim_tr hf.pos (hx ys hy)
         have hn64 : xss.length ≤ 64 := by have := HQl.out; omega
         have HWx : Hid (∀ i, Wd (xss.getD i [])) := fun i => lim_wd hf.top (wd_getD (P := Lim p) hx ⟨els_nil p, by simp⟩ i)
         have HWt : Hid (∀ i, Wd ((xss.map tr).getD i [])) := fun i => lim_wd hf.top (wd_getD (P := Lim p) hxt ⟨els_nil p, by simp⟩ i)
         have HOp : Hid (∀ j (hj : j < (trP q).ops.length), ((trP q).ops[j].k = 1 ∨ (trP q).ops[j].k = 2 ∨ (trP q).ops[j].k = 3 ∨ (trP q).ops[j].k = 4) ∧ (¬ (trP q).ops[j].k = 4 → (0 ≤ (trP q).ops[j].a ∧ 0 ≤ (trP q).ops[j].b) ∧ (trP q).ops[j].a.toNat < xss.length + j ∧ (trP q).ops[j].b.toNat < xss.length + j)) := fun j hj =>
          ⟨op_kinds hmt _ (List.getElem_mem hj), fun h4 => by
           have h5 := may_args hmt j hj h4
           have h6 : (trP q).inp.toNat = xss.length := by have := HQl.out; omega
           rw [h6] at h5; exact h5⟩
         have HOu : Hid (∀ j (hj : j < (trP q).outs.length), 0 ≤ (trP q).outs[j] ∧ (trP q).outs[j].toNat < xss.length + (trP q).ops.length) := fun j hj => by
          have h5 := may_out hmt (trP q).outs[j] (List.getElem_mem hj)
          have h6 : (trP q).inp.toNat = xss.length := by have := HQl.out; omega
          rw [h6] at h5; exact h5
         have HAllL := hide (fun k => lim_allT hf ((trP q).ops.take k) (xss.map tr) hxt)
         have HLen : Hid (∀ k, k ≤ (trP q).ops.length → (rnL (Rt f) (xss.map tr) ((trP q).ops.take k)).length = xss.length + k) := fun k hk => by rw [rnL_len, List.length_take, Nat.min_eq_left hk, List.length_map]
         have hp0 : ¬ p = 0 := by have := hf.pos; omega
         have HFi := hide hf
         have hto := t2
         have htu := t3
         clear hlm hx hxt hmt hti eR eE HE HE0 HAll HCo HOne HMay Hin HWd HQl HLe t0 t1 t2 t3 hf HP
         generalize trP q = qt at *
         go_upto_region 17 with (go_at_call 75; refine (HT.out _ hB3).mono ?_; rintro e w4 ⟨v4, u4, rfl, ho4, hu4, hb4⟩; have HP4 := hide (HTp2.out _ _ _ _ ho4 hu4); obtain ⟨eo, fo, rfl⟩ := own_slice ho4; obtain ⟨eu, fu, rfl⟩ := own_slice hu4)
         have hA4 := alloc_below w4 (.cells #[.int .i64 qt.inp, .slice eo qt.ops.length fo, .slice eu qt.outs.length fu] 28)
         have m4 := heap_alloc_new w4 (.cells #[.int .i64 qt.inp, .slice eo qt.ops.length fo, .slice eu qt.outs.length fu] 28)
         have HP5 := hide (HP4.out.below hA4)
         have B5 := Below.next (Below.next hB3 hb4) hA4
         generalize w4.alloc (.cells #[.int .i64 qt.inp, .slice eo qt.ops.length fo, .slice eu qt.outs.length fu] 28) = w5 at *
         generalize w4.heap.size = bq at *
         obtain ⟨vo5, vu5, he5, hO5, hU5⟩ := HP5.out.form
         cases he5
         have HO := hide hO5
         have HU := hide hU5
         have HOk := hide HP5.out.okb
         have HCr := hide (CopyRows_all _ xss w5 (HR.out.below B5) hlr)
         clear ho4 hu4 HP4 hb4 hA4 hO5 hU5 HT HTp2 p0 p1 p2 hcell
         go_upto_region 18 with (go_at_call 24; refine HCr.out.mono ?_; rintro e w6 ⟨v6, us6, rfl, L6, hb6⟩)
         have HT6 := hide (Lt.start (ls_of_lss L6 HWx.out) rfl)
         obtain ⟨a6, c6, rfl⟩ := own_form L6.row
         clear L6 HCr
         go_wp2
         go_loopw [16] (fun vi wr => ∃ (k : Nat) (us : List Value), k ≤ xss.length ∧ vi = .int .i64 k ∧ Hid (Lt wr w5.heap.size (.slice a6 xss.length c6) xss.length us xss k) ∧ Below w5.heap.size w5 wr) (fun vi _ => xss.length - (intOf vi).toNat)
         case atStart => exact ⟨0, us6, Nat.zero_le _, rfl, HT6, hb6⟩
         case round =>
          clear HT6 hb6
          obtain ⟨k, us, hk, rfl, HL, hB⟩ := hrel
          by_cases hlt : k < xss.length
          · obtain ⟨hRk, _⟩ := HL.out.old k (Nat.le_refl _) hlt
            have hul : us.length = xss.length := by have := HL.out.row.1; omega
            have huk : us[k]? = some (us.getD k nov) := by rw [List.getD_eq_getElem?_getD, List.getElem?_eq_getElem (by omega)]; rfl
            obtain ⟨g6, c6', heq⟩ := own_at HL.out.row (by omega)
            cases heq
            have hck := (HL.out.row.cellAt k (by omega)).trans huk
            have HX := hide (HTr.out _ _ wr hRk)
            obtain ⟨ak, ck, hsp, _⟩ := hRk.spell
            rw [hsp] at hck HX
            have k0 : (0 : Int) ≤ (k : Int) := by omega
            have k1 : (k : Int) < (xss.length : Int) := by omega
            have HF : Hid (∀ V, Below wr.heap.size wr V → V.cell? ⟨g6, k, none⟩ = some (.slice ak (xss.getD k []).length ck) ∧ V.frozen? ⟨g6, k, none⟩ = false) := fun V hb => ⟨(hb.cell (World.block_lt_of_cell? _ _ hck)).trans hck, (own_below HL.out.row hb).frozenAt k⟩
            have HPut := hide (fun w1 v (hb : Below wr.heap.size wr w1) hv => HL.out.put (v := v) hlt hB.size hb hv)
            have hgl := own_base HL.out.row g6 rfl
            obtain ⟨lt, HLt⟩ : ∃ lt, Hid ((tr (xss.getD k [])).length = lt) := ⟨_, rfl⟩
            clear hRk huk hsp hul
            generalize (xss.getD k []).length = ln at *
            go_wp2_with (go_at_call 74; refine HX.out.mono ?_; rintro e w7 ⟨v7, rfl, ho7, hb7⟩; have HP7 := hide (HPut.out _ _ hb7 ho7); rw [HLt.out] at ho7; obtain ⟨a7, c7, rfl⟩ := own_form ho7; obtain ⟨q1, q2⟩ := HF.out _ hb7)
            have hB7 := (Below.next hB hb7).setCell (p := ⟨g6, k, none⟩) hgl (.slice a7 lt c7)
            clear q1 q2 ho7 hck
            go_roundw
            case rel => exact ⟨k + 1, _, by omega, by go_num, HP7, hB7⟩
            case measure => simp [intOf]; omega
          · obtain rfl : k = xss.length := by omega
            have HL7 := hide (ls_of_lss HL.out.done HWt.out)
            have hB7 := hB
            clear HL hB hlt
            obtain ⟨w7, rfl⟩ : ∃ w7, w7 = wr := ⟨wr, rfl⟩
            go_wp2
            go_loopw [15, 17] (fun va vi wr => ∃ (j : Nat) (us : List Value), j ≤ qt.ops.length ∧ vi = .int .i64 j ∧ Hid (Ls wr w5.heap.size va us (rnL (Rt f) (xss.map tr) (qt.ops.take j))) ∧ Below w5.heap.size w5 wr) (fun _ vi _ => qt.ops.length - (intOf vi).toNat)
            case atStart => exact ⟨0, us, Nat.zero_le _, rfl, HL7, hB7⟩
            case round =>
             clear HL7 hB7
             obtain ⟨j, us, hj, rfl, HL, hB⟩ := hrel
             have m5 := (hB.block _ (Array.getElem?_eq_some_iff.1 m4).1).trans m4
             obtain ⟨p0, p1, p2⟩ := cell3 m5
             by_cases hlt : j < qt.ops.length
             · obtain ⟨b, off, cp, heq, _, hbl⟩ := HO.out.form (by omega)
               cases heq
               obtain ⟨o0, o1, o2, o3⟩ := HO.out.op hB hlt
               obtain ⟨hk, ha⟩ := HOp.out j hlt
               have hoc := (HOk.out _ (List.getElem_mem hlt)).2.2.2
               have hS0 := rnL_next (Rt f) qt.ops (xss.map tr) hlt
               have hln := HLen.out j hj
               have hbs := hB.size
               have k0 : (0 : Int) ≤ (j : Int) := by omega
               have k1 : (j : Int) < (qt.ops.length : Int) := by omega
               rcases hk with hk | hk | hk | hk
               · have HS : Hid (rnL (Rt f) (xss.map tr) (qt.ops.take j) ++ [addL f ((rnL (Rt f) (xss.map tr) (qt.ops.take j)).getD qt.ops[j].a.toNat []) ((rnL (Rt f) (xss.map tr) (qt.ops.take j)).getD qt.ops[j].b.toNat [])] = rnL (Rt f) (xss.map tr) (qt.ops.take (j + 1))) := by
                  show _ = _
                  rw [hS0]; unfold rnS; rw [if_pos hk]; rfl
                 have HWz : Hid (Wd (addL f ((rnL (Rt f) (xss.map tr) (qt.ops.take j)).getD qt.ops[j].a.toNat []) ((rnL (Rt f) (xss.map tr) (qt.ops.take j)).getD qt.ops[j].b.toNat []))) := lim_wd HFi.out.top (HAllL.out (j + 1) _ (by rw [← HS.out]; simp))
                 obtain ⟨⟨a0, b0⟩, a1, b1⟩ := ha (by omega)
                 rw [hk] at o0
                 rw [← hln] at a1 b1
                 have r1 := HL.out.each _ a1
                 have r2 := HL.out.each _ b1
                 have hul := HL.out.len
                 obtain ⟨gv, cv', rfl⟩ := own_at HL.out.row (by omega)
                 have ca := (HL.out.row.cellAt qt.ops[j].a.toNat (by omega)).trans (show us[qt.ops[j].a.toNat]? = some (us.getD qt.ops[j].a.toNat nov) by rw [List.getD_eq_getElem?_getD, List.getElem?_eq_getElem (by omega)]; rfl)
                 have cb := (HL.out.row.cellAt qt.ops[j].b.toNat (by omega)).trans (show us[qt.ops[j].b.toNat]? = some (us.getD qt.ops[j].b.toNat nov) by rw [List.getD_eq_getElem?_getD, List.getElem?_eq_getElem (by omega)]; rfl)
                 have hgv := own_top HL.out.row gv rfl
                 have HX := hide (fun W (hb : Below wr.heap.size wr W) => dAdd_any f _ _ _ _ W (r1.below hb) (r2.below hb))
                 unfold Gives at HX
                 obtain ⟨ax, cx, hax, _⟩ := r1.spell
                 obtain ⟨ay, cy, hay, _⟩ := r2.spell
                 rw [hax] at ca HX
                 rw [hay] at cb HX
                 clear r1 r2 hax hay hS0 ha hk hul
                 generalize (rnL (Rt f) (xss.map tr) (qt.ops.take j)).getD qt.ops[j].a.toNat [] = xs at *
                 generalize (rnL (Rt f) (xss.map tr) (qt.ops.take j)).getD qt.ops[j].b.toNat [] = ys at *
                 generalize addL f xs ys = z at *
                 have hyl : (rnL (Rt f) (xss.map tr) (qt.ops.take j)).length ≤ 320 := by omega
                 clear hln
                 generalize rnL (Rt f) (xss.map tr) (qt.ops.take j) = yss at *
                 generalize qt.ops[j] = o at *
                 obtain ⟨k, oa, ob, c⟩ := o
                 dsimp only at *
                 obtain ⟨i, rfl⟩ : ∃ i : Nat, oa = i := ⟨oa.toNat, by omega⟩
                 obtain ⟨i2, rfl⟩ : ∃ i : Nat, ob = i := ⟨ob.toNat, by omega⟩
                 simp only [Int.toNat_natCast] at *
                 have hA9 := alloc_below wr (.cells #[.int .u8 1, .int .i64 i, .int .i64 i2, .int .u64 c] 78)
                 have hN9 := heap_alloc_new wr (.cells #[.int .u8 1, .int .i64 i, .int .i64 i2, .int .u64 c] 78)
                 have i1 : (i : Int) < (yss.length : Int) := by omega
                 have i3 : (i2 : Int) < (yss.length : Int) := by omega
                 go_upto_region 26 with fail
                 generalize wr.alloc (.cells #[.int .u8 1, .int .i64 i, .int .i64 i2, .int .u64 c] 78) = w9 at *
                 obtain ⟨g0, HG0⟩ : ∃ g0, Hid (wr.heap.size = g0) := ⟨_, rfl⟩
                 have hA9' := hA9
                 rw [HG0.out] at hN9 ⊢
                 have HS9 : Hid (∀ V, Below w9.heap.size w9 V → V.cell? ⟨g0, 3, none⟩ = some (.int .u64 c)) := fun V hb => (cells4 ((hb.block _ (Array.getElem?_eq_some_iff.1 hN9).1).trans hN9)).2.2.2
                 have hdr9 : Below w9.heap.size w9 w9.drew := (Below.refl _ w9).drew
                 have hS0 := HS9.out _ hdr9
                 have hS2 := fun ob => HS9.out (w9.alloc ob).drew (alloc_below w9 ob).drew
                 have HPq := hide (fun W => rP_yes f p wd W HFi.out)
                 have hct : c.tmod p = c % p := Int.tmod_eq_emod_of_nonneg hoc.1
                 have hbt : Below w9.heap.size w9 (w9.alloc (.cells #[.int .u64 (c.tmod p)] 58)).drew := (alloc_below w9 _).drew
                 have HTc : Hid (Calls Tryz.prog 74 #[.slice (some ⟨w9.heap.size, 0, none⟩) 1 1] (w9.alloc (.cells #[.int .u64 (c.tmod p)] 58)).drew fun e w' => ∃ v', e = .returned v' ∧ w'.ownsRow w9.heap.size 58 1 v' (tr [c % p]).length (vals (tr [c % p])) ∧ Below w9.heap.size w9 w') := by
                  have h1 := HTr.out _ [c.tmod p] _ ((rw1 w9 (c.tmod p) (by rw [hct]; exact elWord (emod_el HFi.out.pos c) HFi.out.top) 58).below ((Below.refl _ (w9.alloc (.cells #[.int .u64 (c.tmod p)] 58))).drew))
                  rw [show tr [c.tmod p] = tr [c % p] by rw [hct]] at h1
                  exact h1.mono fun e w' ⟨v', he, ho, hb⟩ => ⟨v', he, own_mono ho hbt.size, Below.next hbt hb⟩
                 clear hct
                 refine wp_region_held_drew (S := (fun V => V.cell? ⟨g0, 3, none⟩ = some (.int .u64 c))) (by kernel_rfl) (by ((try dsimp only) <;> (first | with_reducible exact hS5 | with_reducible exact hS2 _ | with_reducible exact hS0))) (fun hHeld => ?_)
                 (refine tkY 0 ?_; (try simp only [ly0, ly1, ly2, ly3, ly4, ly5, ly6, ly7]))
                 (refine tkY 1 ?_; (try simp only [ly0, ly1, ly2, ly3, ly4, ly5, ly6, ly7]))
                 (refine tkY 2 ?_; (try simp only [ly0, ly1, ly2, ly3, ly4, ly5, ly6, ly7]))
                 refine rd1 3 (fun K hK => ?_)
                 (try simp only [ly0, ly1, ly2, ly3, ly4, ly5, ly6, ly7])
                 go_simp
                 (go_at_call 45; refine (HPq.out _).mono ?_; rintro e wq ⟨rfl, hw⟩; rw [hw]; clear hw)
                 first | (refine hK.out _ _ (by ((try dsimp only) <;> (first | with_reducible exact hS5 | with_reducible exact hS2 _ | with_reducible exact hS0))) (fun hHeld => ?_)) | (go_wp2_with fail; refine hK.out _ _ (by ((try dsimp only) <;> (first | with_reducible exact hS5 | with_reducible exact hS2 _ | with_reducible exact hS0))) (fun hHeld => ?_))
                 clear hK K
                 (try simp only [ly0, ly1, ly2, ly3, ly4, ly5, ly6, ly7])
                 (refine tkY 4 ?_; (try simp only [ly0, ly1, ly2, ly3, ly4, ly5, ly6, ly7]))
                 refine rd1 5 (fun K hK => ?_)
                 (try simp only [ly0, ly1, ly2, ly3, ly4, ly5, ly6, ly7])
                 go_simp
                 refine hK.out _ _ (by ((try dsimp only) <;> (first | with_reducible exact hS5 | with_reducible exact hS2 _ | with_reducible exact hS0))) (fun hHeld => ?_)
                 clear hK K
                 (try simp only [ly0, ly1, ly2, ly3, ly4, ly5, ly6, ly7])
                 refine rd1 6 (fun K hK => ?_)
                 (try simp only [ly0, ly1, ly2, ly3, ly4, ly5, ly6, ly7])
                 go_simp
                 (go_at_call 74; refine HTc.out.mono ?_; rintro e w10 ⟨v10, rfl, ho10, hb10'⟩; have hS5 := HS9.out _ hb10')
                 first | (refine hK.out _ _ (by ((try dsimp only) <;> (first | with_reducible exact hS5 | with_reducible exact hS2 _ | with_reducible exact hS0))) (fun hHeld => ?_)) | (go_wp2_with fail; refine hK.out _ _ (by ((try dsimp only) <;> (first | with_reducible exact hS5 | with_reducible exact hS2 _ | with_reducible exact hS0))) (fun hHeld => ?_))
                 clear hK K
                 (try simp only [ly0, ly1, ly2, ly3, ly4, ly5, ly6, ly7])
                 (refine tkY 7 ?_; (try simp only [ly0, ly1, ly2, ly3, ly4, ly5, ly6, ly7]))
                 refine wpAnyH_done (by kernel_rfl) ?_ _
                 have hb10w := Below.next hA9 hb10'
                 clear ho10 hS0 hS2 hS5 HTc HPq
                 have n10 := (hb10'.block _ (Array.getElem?_eq_some_iff.1 hN9).1).trans hN9
                 obtain ⟨r0, r1, r2, r3⟩ := cells4 n10
                 have d1 := (hb10w.cell (p := ⟨gv, i, none⟩) hgv).trans ca
                 have d2 := (hb10w.cell (p := ⟨gv, i2, none⟩) hgv).trans cb
                 have hbw := Below.next hb10w ((Below.refl _ w10).drew)
                 have HX2 := hide (HX.out _ hbw)
                 go_upto_region 29 with fail
                 have hS0 : w10.drew.cell? ⟨gv, i, none⟩ = some (.slice ax xs.length cx) ∧ w10.drew.cell? ⟨gv, i2, none⟩ = some (.slice ay ys.length cy) ∧ w10.drew.cell? ⟨g0, 1, none⟩ = some (.int .i64 i) ∧ w10.drew.cell? ⟨g0, 2, none⟩ = some (.int .i64 i2) := ⟨d1, d2, r1, r2⟩
                 refine wp_region_held_drew (S := (fun W' => W'.cell? ⟨gv, i, none⟩ = some (.slice ax xs.length cx) ∧ W'.cell? ⟨gv, i2, none⟩ = some (.slice ay ys.length cy) ∧ W'.cell? ⟨g0, 1, none⟩ = some (.int .i64 i) ∧ W'.cell? ⟨g0, 2, none⟩ = some (.int .i64 i2))) (by kernel_rfl) (by ((try dsimp only) <;> (first | with_reducible exact hS0 | with_reducible exact hS1))) (fun hHeld => ?_)
                 (refine tkY 0 ?_; (try simp only [ly0, ly1, ly2, ly3, ly4, ly5, ly6, ly7]))
                 (refine tkY 1 ?_; (try simp only [ly0, ly1, ly2, ly3, ly4, ly5, ly6, ly7]))
                 (refine tkY 2 ?_; (try simp only [ly0, ly1, ly2, ly3, ly4, ly5, ly6, ly7]))
                 (refine tkY 3 ?_; (try simp only [ly0, ly1, ly2, ly3, ly4, ly5, ly6, ly7]))
                 (refine tkY 4 ?_; (try simp only [ly0, ly1, ly2, ly3, ly4, ly5, ly6, ly7]))
                 (refine tkY 5 ?_; (try simp only [ly0, ly1, ly2, ly3, ly4, ly5, ly6, ly7]))
                 (refine tkY 6 ?_; (try simp only [ly0, ly1, ly2, ly3, ly4, ly5, ly6, ly7]))
                 (refine tkY 7 ?_; (try simp only [ly0, ly1, ly2, ly3, ly4, ly5, ly6, ly7]))
                 (refine tkY 8 ?_; (try simp only [ly0, ly1, ly2, ly3, ly4, ly5, ly6, ly7]))
                 (refine tkY 9 ?_; (try simp only [ly0, ly1, ly2, ly3, ly4, ly5, ly6, ly7]))
                 (refine tkY 10 ?_; (try simp only [ly0, ly1, ly2, ly3, ly4, ly5, ly6, ly7]))
                 refine rd1 11 (fun K hK => ?_)
                 (try simp only [ly0, ly1, ly2, ly3, ly4, ly5, ly6, ly7])
                 go_simp
                 (first
                  | (go_at_call 76; refine HX2.out.mono ?_; rintro e w11 ⟨v11, rfl, ho11, hb11⟩; have hS1 := kept4 hb11 hS0))
                 first | (refine hK.out _ _ (by ((try dsimp only) <;> (first | with_reducible exact hS0 | with_reducible exact hS1))) (fun hHeld => ?_)) | (go_wp2_with fail; refine hK.out _ _ (by ((try dsimp only) <;> (first | with_reducible exact hS0 | with_reducible exact hS1))) (fun hHeld => ?_))
                 clear hK K
                 (try simp only [ly0, ly1, ly2, ly3, ly4, ly5, ly6, ly7])
                 (refine tkY 12 ?_; (try simp only [ly0, ly1, ly2, ly3, ly4, ly5, ly6, ly7]))
                 (refine tkY 13 ?_; (try simp only [ly0, ly1, ly2, ly3, ly4, ly5, ly6, ly7]))
                 (refine tkY 14 ?_; (try simp only [ly0, ly1, ly2, ly3, ly4, ly5, ly6, ly7]))
                 (refine tkY 15 ?_; (try simp only [ly0, ly1, ly2, ly3, ly4, ly5, ly6, ly7]))
                 refine wpAnyH_done (by kernel_rfl) ?_ _
                 obtain ⟨a11, c11, rfl⟩ := own_form ho11
                 have hb11w := Below.next hbw hb11
                 have HL2 := hide (HL.out.below hb11w)
                 have hB11 := Below.next hB hb11w
                 have hsz2 := hB11.size
                 have hRu := HWz.out.row ho11
                 clear hS0 hS1 d1 d2 r0 r1 r2 r3 n10 hN9
                 go_wp2_with (at_builtin; refine wpList_append_lies _ rfl _ _ _ rfl w5.heap.size 30 i0 _ 1 24 Tryz.underlying29 hi0 hz0 hz1 hz2 rfl (by omega) (.slice (some ⟨gv, 0, none⟩) yss.length cv') yss.length us rfl (HL2.out.row.alloc _) ⟨w11.heap.size, 0, none⟩ 1 1 [.slice a11 z.length c11] rfl rfl (World.news_of_block (cs := #[.slice a11 z.length c11]) (t := 30) (fr := (0, 0)) (heap_alloc_new w11 _)) (by simp [Value.oneCell']) (by omega) (by unfold maxLen; omega) (by omega) (by simp; omega) (w11.heap.size + 1) (by simp) ?_; intro gg cap2 w12 hown3 hgrow hat hltg)
                 have R := hide (HL2.out.push hRu (fun _ b hb => by
                  have h1 := own_base ho11 b hb
                  intro e
                  have h2 := own_top HL.out.row b e
                  have h3 := hbw.size
                  omega) hown3 hgrow hat)
                 have hB12 : Below w5.heap.size w5 w12 := (hB11.alloc hB11.size _).grown hgrow (by simp; omega) (fun k hk => own_base HL2.out.row k hk)
                 rw [HS.out] at R
                 clear hown3 hgrow hat hltg hRu
                 go_roundw
                 case rel => exact ⟨j + 1, _, by omega, by go_num, R, hB12⟩
                 case measure => simp [intOf]; omega
               · have HS : Hid (rnL (Rt f) (xss.map tr) (qt.ops.take j) ++ [subL f ((rnL (Rt f) (xss.map tr) (qt.ops.take j)).getD qt.ops[j].a.toNat []) ((rnL (Rt f) (xss.map tr) (qt.ops.take j)).getD qt.ops[j].b.toNat [])] = rnL (Rt f) (xss.map tr) (qt.ops.take (j + 1))) := by
                  show _ = _
                  rw [hS0]; unfold rnS; rw [if_neg (by omega), if_pos hk]; rfl
                 have HWz : Hid (Wd (subL f ((rnL (Rt f) (xss.map tr) (qt.ops.take j)).getD qt.ops[j].a.toNat []) ((rnL (Rt f) (xss.map tr) (qt.ops.take j)).getD qt.ops[j].b.toNat []))) := lim_wd HFi.out.top (HAllL.out (j + 1) _ (by rw [← HS.out]; simp))
                 obtain ⟨⟨a0, b0⟩, a1, b1⟩ := ha (by omega)
                 rw [hk] at o0
                 rw [← hln] at a1 b1
                 have r1 := HL.out.each _ a1
                 have r2 := HL.out.each _ b1
                 have hul := HL.out.len
                 obtain ⟨gv, cv', rfl⟩ := own_at HL.out.row (by omega)
                 have ca := (HL.out.row.cellAt qt.ops[j].a.toNat (by omega)).trans (show us[qt.ops[j].a.toNat]? = some (us.getD qt.ops[j].a.toNat nov) by rw [List.getD_eq_getElem?_getD, List.getElem?_eq_getElem (by omega)]; rfl)
                 have cb := (HL.out.row.cellAt qt.ops[j].b.toNat (by omega)).trans (show us[qt.ops[j].b.toNat]? = some (us.getD qt.ops[j].b.toNat nov) by rw [List.getD_eq_getElem?_getD, List.getElem?_eq_getElem (by omega)]; rfl)
                 have hgv := own_top HL.out.row gv rfl
                 have HX := hide (fun W (hb : Below wr.heap.size wr W) => dSub_any f _ _ _ _ W (r1.below hb) (r2.below hb))
                 unfold Gives at HX
                 obtain ⟨ax, cx, hax, _⟩ := r1.spell
                 obtain ⟨ay, cy, hay, _⟩ := r2.spell
                 rw [hax] at ca HX
                 rw [hay] at cb HX
                 clear r1 r2 hax hay hS0 ha hk hul
                 generalize (rnL (Rt f) (xss.map tr) (qt.ops.take j)).getD qt.ops[j].a.toNat [] = xs at *
                 generalize (rnL (Rt f) (xss.map tr) (qt.ops.take j)).getD qt.ops[j].b.toNat [] = ys at *
                 generalize subL f xs ys = z at *
                 have hyl : (rnL (Rt f) (xss.map tr) (qt.ops.take j)).length ≤ 320 := by omega
                 clear hln
                 generalize rnL (Rt f) (xss.map tr) (qt.ops.take j) = yss at *
                 generalize qt.ops[j] = o at *
                 obtain ⟨k, oa, ob, c⟩ := o
                 dsimp only at *
                 obtain ⟨i, rfl⟩ : ∃ i : Nat, oa = i := ⟨oa.toNat, by omega⟩
                 obtain ⟨i2, rfl⟩ : ∃ i : Nat, ob = i := ⟨ob.toNat, by omega⟩
                 simp only [Int.toNat_natCast] at *
                 have hA9 := alloc_below wr (.cells #[.int .u8 2, .int .i64 i, .int .i64 i2, .int .u64 c] 78)
                 have hN9 := heap_alloc_new wr (.cells #[.int .u8 2, .int .i64 i, .int .i64 i2, .int .u64 c] 78)
                 have i1 : (i : Int) < (yss.length : Int) := by omega
                 have i3 : (i2 : Int) < (yss.length : Int) := by omega
                 go_upto_region 26 with fail
                 generalize wr.alloc (.cells #[.int .u8 2, .int .i64 i, .int .i64 i2, .int .u64 c] 78) = w9 at *
                 obtain ⟨g0, HG0⟩ : ∃ g0, Hid (wr.heap.size = g0) := ⟨_, rfl⟩
                 have hA9' := hA9
                 rw [HG0.out] at hN9 ⊢
                 have HS9 : Hid (∀ V, Below w9.heap.size w9 V → V.cell? ⟨g0, 3, none⟩ = some (.int .u64 c)) := fun V hb => (cells4 ((hb.block _ (Array.getElem?_eq_some_iff.1 hN9).1).trans hN9)).2.2.2
                 have hdr9 : Below w9.heap.size w9 w9.drew := (Below.refl _ w9).drew
                 have hS0 := HS9.out _ hdr9
                 have hS2 := fun ob => HS9.out (w9.alloc ob).drew (alloc_below w9 ob).drew
                 have HPq := hide (fun W => rP_yes f p wd W HFi.out)
                 have hct : c.tmod p = c % p := Int.tmod_eq_emod_of_nonneg hoc.1
                 have hbt : Below w9.heap.size w9 (w9.alloc (.cells #[.int .u64 (c.tmod p)] 58)).drew := (alloc_below w9 _).drew
                 have HTc : Hid (Calls Tryz.prog 74 #[.slice (some ⟨w9.heap.size, 0, none⟩) 1 1] (w9.alloc (.cells #[.int .u64 (c.tmod p)] 58)).drew fun e w' => ∃ v', e = .returned v' ∧ w'.ownsRow w9.heap.size 58 1 v' (tr [c % p]).length (vals (tr [c % p])) ∧ Below w9.heap.size w9 w') := by
                  have h1 := HTr.out _ [c.tmod p] _ ((rw1 w9 (c.tmod p) (by rw [hct]; exact elWord (emod_el HFi.out.pos c) HFi.out.top) 58).below ((Below.refl _ (w9.alloc (.cells #[.int .u64 (c.tmod p)] 58))).drew))
                  rw [show tr [c.tmod p] = tr [c % p] by rw [hct]] at h1
                  exact h1.mono fun e w' ⟨v', he, ho, hb⟩ => ⟨v', he, own_mono ho hbt.size, Below.next hbt hb⟩
                 clear hct
                 refine wp_region_held_drew (S := (fun V => V.cell? ⟨g0, 3, none⟩ = some (.int .u64 c))) (by kernel_rfl) (by ((try dsimp only) <;> (first | with_reducible exact hS5 | with_reducible exact hS2 _ | with_reducible exact hS0))) (fun hHeld => ?_)
                 (refine tkY 0 ?_; (try simp only [ly0, ly1, ly2, ly3, ly4, ly5, ly6, ly7]))
                 (refine tkY 1 ?_; (try simp only [ly0, ly1, ly2, ly3, ly4, ly5, ly6, ly7]))
                 (refine tkY 2 ?_; (try simp only [ly0, ly1, ly2, ly3, ly4, ly5, ly6, ly7]))
                 refine rd1 3 (fun K hK => ?_)
                 (try simp only [ly0, ly1, ly2, ly3, ly4, ly5, ly6, ly7])
                 go_simp
                 (go_at_call 45; refine (HPq.out _).mono ?_; rintro e wq ⟨rfl, hw⟩; rw [hw]; clear hw)
                 first | (refine hK.out _ _ (by ((try dsimp only) <;> (first | with_reducible exact hS5 | with_reducible exact hS2 _ | with_reducible exact hS0))) (fun hHeld => ?_)) | (go_wp2_with fail; refine hK.out _ _ (by ((try dsimp only) <;> (first | with_reducible exact hS5 | with_reducible exact hS2 _ | with_reducible exact hS0))) (fun hHeld => ?_))
                 clear hK K
                 (try simp only [ly0, ly1, ly2, ly3, ly4, ly5, ly6, ly7])
                 (refine tkY 4 ?_; (try simp only [ly0, ly1, ly2, ly3, ly4, ly5, ly6, ly7]))
                 refine rd1 5 (fun K hK => ?_)
                 (try simp only [ly0, ly1, ly2, ly3, ly4, ly5, ly6, ly7])
                 go_simp
                 refine hK.out _ _ (by ((try dsimp only) <;> (first | with_reducible exact hS5 | with_reducible exact hS2 _ | with_reducible exact hS0))) (fun hHeld => ?_)
                 clear hK K
                 (try simp only [ly0, ly1, ly2, ly3, ly4, ly5, ly6, ly7])
                 refine rd1 6 (fun K hK => ?_)
                 (try simp only [ly0, ly1, ly2, ly3, ly4, ly5, ly6, ly7])
                 go_simp
                 (go_at_call 74; refine HTc.out.mono ?_; rintro e w10 ⟨v10, rfl, ho10, hb10'⟩; have hS5 := HS9.out _ hb10')
                 first | (refine hK.out _ _ (by ((try dsimp only) <;> (first | with_reducible exact hS5 | with_reducible exact hS2 _ | with_reducible exact hS0))) (fun hHeld => ?_)) | (go_wp2_with fail; refine hK.out _ _ (by ((try dsimp only) <;> (first | with_reducible exact hS5 | with_reducible exact hS2 _ | with_reducible exact hS0))) (fun hHeld => ?_))
                 clear hK K
                 (try simp only [ly0, ly1, ly2, ly3, ly4, ly5, ly6, ly7])
                 (refine tkY 7 ?_; (try simp only [ly0, ly1, ly2, ly3, ly4, ly5, ly6, ly7]))
                 refine wpAnyH_done (by kernel_rfl) ?_ _
                 have hb10w := Below.next hA9 hb10'
                 clear ho10 hS0 hS2 hS5 HTc HPq
                 have n10 := (hb10'.block _ (Array.getElem?_eq_some_iff.1 hN9).1).trans hN9
                 obtain ⟨r0, r1, r2, r3⟩ := cells4 n10
                 have d1 := (hb10w.cell (p := ⟨gv, i, none⟩) hgv).trans ca
                 have d2 := (hb10w.cell (p := ⟨gv, i2, none⟩) hgv).trans cb
                 have hbw := Below.next hb10w ((Below.refl _ w10).drew)
                 have HX2 := hide (HX.out _ hbw)
                 go_upto_region 31 with fail
                 have hS0 : w10.drew.cell? ⟨gv, i, none⟩ = some (.slice ax xs.length cx) ∧ w10.drew.cell? ⟨gv, i2, none⟩ = some (.slice ay ys.length cy) ∧ w10.drew.cell? ⟨g0, 1, none⟩ = some (.int .i64 i) ∧ w10.drew.cell? ⟨g0, 2, none⟩ = some (.int .i64 i2) := ⟨d1, d2, r1, r2⟩
                 refine wp_region_held_drew (S := (fun W' => W'.cell? ⟨gv, i, none⟩ = some (.slice ax xs.length cx) ∧ W'.cell? ⟨gv, i2, none⟩ = some (.slice ay ys.length cy) ∧ W'.cell? ⟨g0, 1, none⟩ = some (.int .i64 i) ∧ W'.cell? ⟨g0, 2, none⟩ = some (.int .i64 i2))) (by kernel_rfl) (by ((try dsimp only) <;> (first | with_reducible exact hS0 | with_reducible exact hS1))) (fun hHeld => ?_)
                 (refine tkY 0 ?_; (try simp only [ly0, ly1, ly2, ly3, ly4, ly5, ly6, ly7]))
                 (refine tkY 1 ?_; (try simp only [ly0, ly1, ly2, ly3, ly4, ly5, ly6, ly7]))
                 (refine tkY 2 ?_; (try simp only [ly0, ly1, ly2, ly3, ly4, ly5, ly6, ly7]))
                 (refine tkY 3 ?_; (try simp only [ly0, ly1, ly2, ly3, ly4, ly5, ly6, ly7]))
                 (refine tkY 4 ?_; (try simp only [ly0, ly1, ly2, ly3, ly4, ly5, ly6, ly7]))
                 (refine tkY 5 ?_; (try simp only [ly0, ly1, ly2, ly3, ly4, ly5, ly6, ly7]))
                 (refine tkY 6 ?_; (try simp only [ly0, ly1, ly2, ly3, ly4, ly5, ly6, ly7]))
                 (refine tkY 7 ?_; (try simp only [ly0, ly1, ly2, ly3, ly4, ly5, ly6, ly7]))
                 (refine tkY 8 ?_; (try simp only [ly0, ly1, ly2, ly3, ly4, ly5, ly6, ly7]))
                 (refine tkY 9 ?_; (try simp only [ly0, ly1, ly2, ly3, ly4, ly5, ly6, ly7]))
                 (refine tkY 10 ?_; (try simp only [ly0, ly1, ly2, ly3, ly4, ly5, ly6, ly7]))
                 refine rd1 11 (fun K hK => ?_)
                 (try simp only [ly0, ly1, ly2, ly3, ly4, ly5, ly6, ly7])
                 go_simp
                 (first
                  | (go_at_call 77; refine HX2.out.mono ?_; rintro e w11 ⟨v11, rfl, ho11, hb11⟩; have hS1 := kept4 hb11 hS0))
                 first | (refine hK.out _ _ (by ((try dsimp only) <;> (first | with_reducible exact hS0 | with_reducible exact hS1))) (fun hHeld => ?_)) | (go_wp2_with fail; refine hK.out _ _ (by ((try dsimp only) <;> (first | with_reducible exact hS0 | with_reducible exact hS1))) (fun hHeld => ?_))
                 clear hK K
                 (try simp only [ly0, ly1, ly2, ly3, ly4, ly5, ly6, ly7])
                 (refine tkY 12 ?_; (try simp only [ly0, ly1, ly2, ly3, ly4, ly5, ly6, ly7]))
                 (refine tkY 13 ?_; (try simp only [ly0, ly1, ly2, ly3, ly4, ly5, ly6, ly7]))
                 (refine tkY 14 ?_; (try simp only [ly0, ly1, ly2, ly3, ly4, ly5, ly6, ly7]))
                 (refine tkY 15 ?_; (try simp only [ly0, ly1, ly2, ly3, ly4, ly5, ly6, ly7]))
                 refine wpAnyH_done (by kernel_rfl) ?_ _
                 obtain ⟨a11, c11, rfl⟩ := own_form ho11
                 have hb11w := Below.next hbw hb11
                 have HL2 := hide (HL.out.below hb11w)
                 have hB11 := Below.next hB hb11w
                 have hsz2 := hB11.size
                 have hRu := HWz.out.row ho11
                 clear hS0 hS1 d1 d2 r0 r1 r2 r3 n10 hN9
                 go_wp2_with (at_builtin; refine wpList_append_lies _ rfl _ _ _ rfl w5.heap.size 30 i0 _ 1 24 Tryz.underlying29 hi0 hz0 hz1 hz2 rfl (by omega) (.slice (some ⟨gv, 0, none⟩) yss.length cv') yss.length us rfl (HL2.out.row.alloc _) ⟨w11.heap.size, 0, none⟩ 1 1 [.slice a11 z.length c11] rfl rfl (World.news_of_block (cs := #[.slice a11 z.length c11]) (t := 30) (fr := (0, 0)) (heap_alloc_new w11 _)) (by simp [Value.oneCell']) (by omega) (by unfold maxLen; omega) (by omega) (by simp; omega) (w11.heap.size + 1) (by simp) ?_; intro gg cap2 w12 hown3 hgrow hat hltg)
                 have R := hide (HL2.out.push hRu (fun _ b hb => by
                  have h1 := own_base ho11 b hb
                  intro e
                  have h2 := own_top HL.out.row b e
                  have h3 := hbw.size
                  omega) hown3 hgrow hat)
                 have hB12 : Below w5.heap.size w5 w12 := (hB11.alloc hB11.size _).grown hgrow (by simp; omega) (fun k hk => own_base HL2.out.row k hk)
                 rw [HS.out] at R
                 clear hown3 hgrow hat hltg hRu
                 go_roundw
                 case rel => exact ⟨j + 1, _, by omega, by go_num, R, hB12⟩
                 case measure => simp [intOf]; omega
               · have HS : Hid (rnL (Rt f) (xss.map tr) (qt.ops.take j) ++ [mulL f ((rnL (Rt f) (xss.map tr) (qt.ops.take j)).getD qt.ops[j].a.toNat []) ((rnL (Rt f) (xss.map tr) (qt.ops.take j)).getD qt.ops[j].b.toNat [])] = rnL (Rt f) (xss.map tr) (qt.ops.take (j + 1))) := by
                  show _ = _
                  rw [hS0]; unfold rnS; rw [if_neg (by omega), if_neg (by omega), if_pos hk]; rfl
                 have HWz : Hid (Wd (mulL f ((rnL (Rt f) (xss.map tr) (qt.ops.take j)).getD qt.ops[j].a.toNat []) ((rnL (Rt f) (xss.map tr) (qt.ops.take j)).getD qt.ops[j].b.toNat []))) := lim_wd HFi.out.top (HAllL.out (j + 1) _ (by rw [← HS.out]; simp))
                 obtain ⟨⟨a0, b0⟩, a1, b1⟩ := ha (by omega)
                 rw [hk] at o0
                 rw [← hln] at a1 b1
                 have r1 := HL.out.each _ a1
                 have r2 := HL.out.each _ b1
                 have hul := HL.out.len
                 obtain ⟨gv, cv', rfl⟩ := own_at HL.out.row (by omega)
                 have ca := (HL.out.row.cellAt qt.ops[j].a.toNat (by omega)).trans (show us[qt.ops[j].a.toNat]? = some (us.getD qt.ops[j].a.toNat nov) by rw [List.getD_eq_getElem?_getD, List.getElem?_eq_getElem (by omega)]; rfl)
                 have cb := (HL.out.row.cellAt qt.ops[j].b.toNat (by omega)).trans (show us[qt.ops[j].b.toNat]? = some (us.getD qt.ops[j].b.toNat nov) by rw [List.getD_eq_getElem?_getD, List.getElem?_eq_getElem (by omega)]; rfl)
                 have hgv := own_top HL.out.row gv rfl
                 have HX := hide (fun W (hb : Below wr.heap.size wr W) => dMul_any f _ _ _ _ W (r1.below hb) (r2.below hb))
                 unfold Gives at HX
                 obtain ⟨ax, cx, hax, _⟩ := r1.spell
                 obtain ⟨ay, cy, hay, _⟩ := r2.spell
                 rw [hax] at ca HX
                 rw [hay] at cb HX
                 clear r1 r2 hax hay hS0 ha hk hul
                 generalize (rnL (Rt f) (xss.map tr) (qt.ops.take j)).getD qt.ops[j].a.toNat [] = xs at *
                 generalize (rnL (Rt f) (xss.map tr) (qt.ops.take j)).getD qt.ops[j].b.toNat [] = ys at *
                 generalize mulL f xs ys = z at *
                 have hyl : (rnL (Rt f) (xss.map tr) (qt.ops.take j)).length ≤ 320 := by omega
                 clear hln
                 generalize rnL (Rt f) (xss.map tr) (qt.ops.take j) = yss at *
                 generalize qt.ops[j] = o at *
                 obtain ⟨k, oa, ob, c⟩ := o
                 dsimp only at *
                 obtain ⟨i, rfl⟩ : ∃ i : Nat, oa = i := ⟨oa.toNat, by omega⟩
                 obtain ⟨i2, rfl⟩ : ∃ i : Nat, ob = i := ⟨ob.toNat, by omega⟩
                 simp only [Int.toNat_natCast] at *
                 have hA9 := alloc_below wr (.cells #[.int .u8 3, .int .i64 i, .int .i64 i2, .int .u64 c] 78)
                 have hN9 := heap_alloc_new wr (.cells #[.int .u8 3, .int .i64 i, .int .i64 i2, .int .u64 c] 78)
                 have i1 : (i : Int) < (yss.length : Int) := by omega
                 have i3 : (i2 : Int) < (yss.length : Int) := by omega
                 go_upto_region 26 with fail
                 generalize wr.alloc (.cells #[.int .u8 3, .int .i64 i, .int .i64 i2, .int .u64 c] 78) = w9 at *
                 obtain ⟨g0, HG0⟩ : ∃ g0, Hid (wr.heap.size = g0) := ⟨_, rfl⟩
                 have hA9' := hA9
                 rw [HG0.out] at hN9 ⊢
                 have HS9 : Hid (∀ V, Below w9.heap.size w9 V → V.cell? ⟨g0, 3, none⟩ = some (.int .u64 c)) := fun V hb => (cells4 ((hb.block _ (Array.getElem?_eq_some_iff.1 hN9).1).trans hN9)).2.2.2
                 have hdr9 : Below w9.heap.size w9 w9.drew := (Below.refl _ w9).drew
                 have hS0 := HS9.out _ hdr9
                 have hS2 := fun ob => HS9.out (w9.alloc ob).drew (alloc_below w9 ob).drew
                 have HPq := hide (fun W => rP_yes f p wd W HFi.out)
                 have hct : c.tmod p = c % p := Int.tmod_eq_emod_of_nonneg hoc.1
                 have hbt : Below w9.heap.size w9 (w9.alloc (.cells #[.int .u64 (c.tmod p)] 58)).drew := (alloc_below w9 _).drew
                 have HTc : Hid (Calls Tryz.prog 74 #[.slice (some ⟨w9.heap.size, 0, none⟩) 1 1] (w9.alloc (.cells #[.int .u64 (c.tmod p)] 58)).drew fun e w' => ∃ v', e = .returned v' ∧ w'.ownsRow w9.heap.size 58 1 v' (tr [c % p]).length (vals (tr [c % p])) ∧ Below w9.heap.size w9 w') := by
                  have h1 := HTr.out _ [c.tmod p] _ ((rw1 w9 (c.tmod p) (by rw [hct]; exact elWord (emod_el HFi.out.pos c) HFi.out.top) 58).below ((Below.refl _ (w9.alloc (.cells #[.int .u64 (c.tmod p)] 58))).drew))
                  rw [show tr [c.tmod p] = tr [c % p] by rw [hct]] at h1
                  exact h1.mono fun e w' ⟨v', he, ho, hb⟩ => ⟨v', he, own_mono ho hbt.size, Below.next hbt hb⟩
                 clear hct
                 refine wp_region_held_drew (S := (fun V => V.cell? ⟨g0, 3, none⟩ = some (.int .u64 c))) (by kernel_rfl) (by ((try dsimp only) <;> (first | with_reducible exact hS5 | with_reducible exact hS2 _ | with_reducible exact hS0))) (fun hHeld => ?_)
                 (refine tkY 0 ?_; (try simp only [ly0, ly1, ly2, ly3, ly4, ly5, ly6, ly7]))
                 (refine tkY 1 ?_; (try simp only [ly0, ly1, ly2, ly3, ly4, ly5, ly6, ly7]))
                 (refine tkY 2 ?_; (try simp only [ly0, ly1, ly2, ly3, ly4, ly5, ly6, ly7]))
                 refine rd1 3 (fun K hK => ?_)
                 (try simp only [ly0, ly1, ly2, ly3, ly4, ly5, ly6, ly7])
                 go_simp
                 (go_at_call 45; refine (HPq.out _).mono ?_; rintro e wq ⟨rfl, hw⟩; rw [hw]; clear hw)
                 first | (refine hK.out _ _ (by ((try dsimp only) <;> (first | with_reducible exact hS5 | with_reducible exact hS2 _ | with_reducible exact hS0))) (fun hHeld => ?_)) | (go_wp2_with fail; refine hK.out _ _ (by ((try dsimp only) <;> (first | with_reducible exact hS5 | with_reducible exact hS2 _ | with_reducible exact hS0))) (fun hHeld => ?_))
                 clear hK K
                 (try simp only [ly0, ly1, ly2, ly3, ly4, ly5, ly6, ly7])
                 (refine tkY 4 ?_; (try simp only [ly0, ly1, ly2, ly3, ly4, ly5, ly6, ly7]))
                 refine rd1 5 (fun K hK => ?_)
                 (try simp only [ly0, ly1, ly2, ly3, ly4, ly5, ly6, ly7])
                 go_simp
                 refine hK.out _ _ (by ((try dsimp only) <;> (first | with_reducible exact hS5 | with_reducible exact hS2 _ | with_reducible exact hS0))) (fun hHeld => ?_)
                 clear hK K
                 (try simp only [ly0, ly1, ly2, ly3, ly4, ly5, ly6, ly7])
                 refine rd1 6 (fun K hK => ?_)
                 (try simp only [ly0, ly1, ly2, ly3, ly4, ly5, ly6, ly7])
                 go_simp
                 (go_at_call 74; refine HTc.out.mono ?_; rintro e w10 ⟨v10, rfl, ho10, hb10'⟩; have hS5 := HS9.out _ hb10')
                 first | (refine hK.out _ _ (by ((try dsimp only) <;> (first | with_reducible exact hS5 | with_reducible exact hS2 _ | with_reducible exact hS0))) (fun hHeld => ?_)) | (go_wp2_with fail; refine hK.out _ _ (by ((try dsimp only) <;> (first | with_reducible exact hS5 | with_reducible exact hS2 _ | with_reducible exact hS0))) (fun hHeld => ?_))
                 clear hK K
                 (try simp only [ly0, ly1, ly2, ly3, ly4, ly5, ly6, ly7])
                 (refine tkY 7 ?_; (try simp only [ly0, ly1, ly2, ly3, ly4, ly5, ly6, ly7]))
                 refine wpAnyH_done (by kernel_rfl) ?_ _
                 have hb10w := Below.next hA9 hb10'
                 clear ho10 hS0 hS2 hS5 HTc HPq
                 have n10 := (hb10'.block _ (Array.getElem?_eq_some_iff.1 hN9).1).trans hN9
                 obtain ⟨r0, r1, r2, r3⟩ := cells4 n10
                 have d1 := (hb10w.cell (p := ⟨gv, i, none⟩) hgv).trans ca
                 have d2 := (hb10w.cell (p := ⟨gv, i2, none⟩) hgv).trans cb
                 have hbw := Below.next hb10w ((Below.refl _ w10).drew)
                 have HX2 := hide (HX.out _ hbw)
                 go_upto_region 33 with fail
                 have hS0 : w10.drew.cell? ⟨gv, i, none⟩ = some (.slice ax xs.length cx) ∧ w10.drew.cell? ⟨gv, i2, none⟩ = some (.slice ay ys.length cy) ∧ w10.drew.cell? ⟨g0, 1, none⟩ = some (.int .i64 i) ∧ w10.drew.cell? ⟨g0, 2, none⟩ = some (.int .i64 i2) := ⟨d1, d2, r1, r2⟩
                 refine wp_region_held_drew (S := (fun W' => W'.cell? ⟨gv, i, none⟩ = some (.slice ax xs.length cx) ∧ W'.cell? ⟨gv, i2, none⟩ = some (.slice ay ys.length cy) ∧ W'.cell? ⟨g0, 1, none⟩ = some (.int .i64 i) ∧ W'.cell? ⟨g0, 2, none⟩ = some (.int .i64 i2))) (by kernel_rfl) (by ((try dsimp only) <;> (first | with_reducible exact hS0 | with_reducible exact hS1))) (fun hHeld => ?_)
                 (refine tkY 0 ?_; (try simp only [ly0, ly1, ly2, ly3, ly4, ly5, ly6, ly7]))
                 (refine tkY 1 ?_; (try simp only [ly0, ly1, ly2, ly3, ly4, ly5, ly6, ly7]))
                 (refine tkY 2 ?_; (try simp only [ly0, ly1, ly2, ly3, ly4, ly5, ly6, ly7]))
                 (refine tkY 3 ?_; (try simp only [ly0, ly1, ly2, ly3, ly4, ly5, ly6, ly7]))
                 (refine tkY 4 ?_; (try simp only [ly0, ly1, ly2, ly3, ly4, ly5, ly6, ly7]))
                 (refine tkY 5 ?_; (try simp only [ly0, ly1, ly2, ly3, ly4, ly5, ly6, ly7]))
                 (refine tkY 6 ?_; (try simp only [ly0, ly1, ly2, ly3, ly4, ly5, ly6, ly7]))
                 (refine tkY 7 ?_; (try simp only [ly0, ly1, ly2, ly3, ly4, ly5, ly6, ly7]))
                 (refine tkY 8 ?_; (try simp only [ly0, ly1, ly2, ly3, ly4, ly5, ly6, ly7]))
                 (refine tkY 9 ?_; (try simp only [ly0, ly1, ly2, ly3, ly4, ly5, ly6, ly7]))
                 (refine tkY 10 ?_; (try simp only [ly0, ly1, ly2, ly3, ly4, ly5, ly6, ly7]))
                 refine rd1 11 (fun K hK => ?_)
                 (try simp only [ly0, ly1, ly2, ly3, ly4, ly5, ly6, ly7])
                 go_simp
                 (first
                  | (go_at_call 78; refine HX2.out.mono ?_; rintro e w11 ⟨v11, rfl, ho11, hb11⟩; have hS1 := kept4 hb11 hS0))
                 first | (refine hK.out _ _ (by ((try dsimp only) <;> (first | with_reducible exact hS0 | with_reducible exact hS1))) (fun hHeld => ?_)) | (go_wp2_with fail; refine hK.out _ _ (by ((try dsimp only) <;> (first | with_reducible exact hS0 | with_reducible exact hS1))) (fun hHeld => ?_))
                 clear hK K
                 (try simp only [ly0, ly1, ly2, ly3, ly4, ly5, ly6, ly7])
                 (refine tkY 12 ?_; (try simp only [ly0, ly1, ly2, ly3, ly4, ly5, ly6, ly7]))
                 (refine tkY 13 ?_; (try simp only [ly0, ly1, ly2, ly3, ly4, ly5, ly6, ly7]))
                 (refine tkY 14 ?_; (try simp only [ly0, ly1, ly2, ly3, ly4, ly5, ly6, ly7]))
                 (refine tkY 15 ?_; (try simp only [ly0, ly1, ly2, ly3, ly4, ly5, ly6, ly7]))
                 refine wpAnyH_done (by kernel_rfl) ?_ _
                 obtain ⟨a11, c11, rfl⟩ := own_form ho11
                 have hb11w := Below.next hbw hb11
                 have HL2 := hide (HL.out.below hb11w)
                 have hB11 := Below.next hB hb11w
                 have hsz2 := hB11.size
                 have hRu := HWz.out.row ho11
                 clear hS0 hS1 d1 d2 r0 r1 r2 r3 n10 hN9
                 go_wp2_with (at_builtin; refine wpList_append_lies _ rfl _ _ _ rfl w5.heap.size 30 i0 _ 1 24 Tryz.underlying29 hi0 hz0 hz1 hz2 rfl (by omega) (.slice (some ⟨gv, 0, none⟩) yss.length cv') yss.length us rfl (HL2.out.row.alloc _) ⟨w11.heap.size, 0, none⟩ 1 1 [.slice a11 z.length c11] rfl rfl (World.news_of_block (cs := #[.slice a11 z.length c11]) (t := 30) (fr := (0, 0)) (heap_alloc_new w11 _)) (by simp [Value.oneCell']) (by omega) (by unfold maxLen; omega) (by omega) (by simp; omega) (w11.heap.size + 1) (by simp) ?_; intro gg cap2 w12 hown3 hgrow hat hltg)
                 have R := hide (HL2.out.push hRu (fun _ b hb => by
                  have h1 := own_base ho11 b hb
                  intro e
                  have h2 := own_top HL.out.row b e
                  have h3 := hbw.size
                  omega) hown3 hgrow hat)
                 have hB12 : Below w5.heap.size w5 w12 := (hB11.alloc hB11.size _).grown hgrow (by simp; omega) (fun k hk => own_base HL2.out.row k hk)
                 rw [HS.out] at R
                 clear hown3 hgrow hat hltg hRu
                 go_roundw
                 case rel => exact ⟨j + 1, _, by omega, by go_num, R, hB12⟩
                 case measure => simp [intOf]; omega
               · have HS : Hid (rnL (Rt f) (xss.map tr) (qt.ops.take j) ++ [tr [qt.ops[j].c % p]] = rnL (Rt f) (xss.map tr) (qt.ops.take (j + 1))) := by
                  show _ = _
                  rw [hS0]; unfold rnS; rw [if_neg (by omega), if_neg (by omega), if_neg (by omega)]; show _ = _ ++ [tr [qt.ops[j].c % pOf f]]; rw [pOf_eq HFi.out]
                 have HWz : Hid (Wd (tr [qt.ops[j].c % p])) := lim_wd HFi.out.top (HAllL.out (j + 1) _ (by rw [← HS.out]; simp))
                 rw [hk] at o0
                 obtain ⟨av, cv', rfl⟩ := own_form HL.out.row
                 have hyl : (rnL (Rt f) (xss.map tr) (qt.ops.take j)).length ≤ 320 := by omega
                 clear hln hS0 ha hk
                 generalize rnL (Rt f) (xss.map tr) (qt.ops.take j) = yss at *
                 generalize qt.ops[j] = o at *
                 obtain ⟨k, oa, ob, c⟩ := o
                 dsimp only at *
                 have hA9 := alloc_below wr (.cells #[.int .u8 4, .int .i64 oa, .int .i64 ob, .int .u64 c] 78)
                 have hN9 := heap_alloc_new wr (.cells #[.int .u8 4, .int .i64 oa, .int .i64 ob, .int .u64 c] 78)
                 go_upto_region 26 with fail
                 generalize wr.alloc (.cells #[.int .u8 4, .int .i64 oa, .int .i64 ob, .int .u64 c] 78) = w9 at *
                 obtain ⟨g0, HG0⟩ : ∃ g0, Hid (wr.heap.size = g0) := ⟨_, rfl⟩
                 rw [HG0.out] at hN9 ⊢
                 have HS9 : Hid (∀ V, Below w9.heap.size w9 V → V.cell? ⟨g0, 3, none⟩ = some (.int .u64 c)) := fun V hb => (cells4 ((hb.block _ (Array.getElem?_eq_some_iff.1 hN9).1).trans hN9)).2.2.2
                 have hdr9 : Below w9.heap.size w9 w9.drew := (Below.refl _ w9).drew
                 have hS0 := HS9.out _ hdr9
                 have hS2 := fun ob => HS9.out (w9.alloc ob).drew (alloc_below w9 ob).drew
                 have HPq := hide (fun W => rP_yes f p wd W HFi.out)
                 have hct : c.tmod p = c % p := Int.tmod_eq_emod_of_nonneg hoc.1
                 have hbt : Below w9.heap.size w9 (w9.alloc (.cells #[.int .u64 (c.tmod p)] 58)).drew := (alloc_below w9 _).drew
                 have HTc : Hid (Calls Tryz.prog 74 #[.slice (some ⟨w9.heap.size, 0, none⟩) 1 1] (w9.alloc (.cells #[.int .u64 (c.tmod p)] 58)).drew fun e w' => ∃ v', e = .returned v' ∧ w'.ownsRow w9.heap.size 58 1 v' (tr [c % p]).length (vals (tr [c % p])) ∧ Below w9.heap.size w9 w') := by
                  have h1 := HTr.out _ [c.tmod p] _ ((rw1 w9 (c.tmod p) (by rw [hct]; exact elWord (emod_el HFi.out.pos c) HFi.out.top) 58).below ((Below.refl _ (w9.alloc (.cells #[.int .u64 (c.tmod p)] 58))).drew))
                  rw [show tr [c.tmod p] = tr [c % p] by rw [hct]] at h1
                  exact h1.mono fun e w' ⟨v', he, ho, hb⟩ => ⟨v', he, own_mono ho hbt.size, Below.next hbt hb⟩
                 clear hct
                 obtain ⟨z, HZ⟩ : ∃ z, Hid (tr [c % p] = z) := ⟨_, rfl⟩
                 rw [HZ.out] at HTc HWz HS
                 refine wp_region_held_drew (S := (fun V => V.cell? ⟨g0, 3, none⟩ = some (.int .u64 c))) (by kernel_rfl) (by ((try dsimp only) <;> (first | with_reducible exact hS5 | with_reducible exact hS2 _ | with_reducible exact hS0))) (fun hHeld => ?_)
                 (refine tkY 0 ?_; (try simp only [ly0, ly1, ly2, ly3, ly4, ly5, ly6, ly7]))
                 (refine tkY 1 ?_; (try simp only [ly0, ly1, ly2, ly3, ly4, ly5, ly6, ly7]))
                 (refine tkY 2 ?_; (try simp only [ly0, ly1, ly2, ly3, ly4, ly5, ly6, ly7]))
                 refine rd1 3 (fun K hK => ?_)
                 (try simp only [ly0, ly1, ly2, ly3, ly4, ly5, ly6, ly7])
                 go_simp
                 (go_at_call 45; refine (HPq.out _).mono ?_; rintro e wq ⟨rfl, hw⟩; rw [hw]; clear hw)
                 first | (refine hK.out _ _ (by ((try dsimp only) <;> (first | with_reducible exact hS5 | with_reducible exact hS2 _ | with_reducible exact hS0))) (fun hHeld => ?_)) | (go_wp2_with fail; refine hK.out _ _ (by ((try dsimp only) <;> (first | with_reducible exact hS5 | with_reducible exact hS2 _ | with_reducible exact hS0))) (fun hHeld => ?_))
                 clear hK K
                 (try simp only [ly0, ly1, ly2, ly3, ly4, ly5, ly6, ly7])
                 (refine tkY 4 ?_; (try simp only [ly0, ly1, ly2, ly3, ly4, ly5, ly6, ly7]))
                 refine rd1 5 (fun K hK => ?_)
                 (try simp only [ly0, ly1, ly2, ly3, ly4, ly5, ly6, ly7])
                 go_simp
                 refine hK.out _ _ (by ((try dsimp only) <;> (first | with_reducible exact hS5 | with_reducible exact hS2 _ | with_reducible exact hS0))) (fun hHeld => ?_)
                 clear hK K
                 (try simp only [ly0, ly1, ly2, ly3, ly4, ly5, ly6, ly7])
                 refine rd1 6 (fun K hK => ?_)
                 (try simp only [ly0, ly1, ly2, ly3, ly4, ly5, ly6, ly7])
                 go_simp
                 (go_at_call 74; refine HTc.out.mono ?_; rintro e w10 ⟨v10, rfl, ho10, hb10'⟩; have hS5 := HS9.out _ hb10')
                 first | (refine hK.out _ _ (by ((try dsimp only) <;> (first | with_reducible exact hS5 | with_reducible exact hS2 _ | with_reducible exact hS0))) (fun hHeld => ?_)) | (go_wp2_with fail; refine hK.out _ _ (by ((try dsimp only) <;> (first | with_reducible exact hS5 | with_reducible exact hS2 _ | with_reducible exact hS0))) (fun hHeld => ?_))
                 clear hK K
                 (try simp only [ly0, ly1, ly2, ly3, ly4, ly5, ly6, ly7])
                 (refine tkY 7 ?_; (try simp only [ly0, ly1, ly2, ly3, ly4, ly5, ly6, ly7]))
                 refine wpAnyH_done (by kernel_rfl) ?_ _
                 obtain ⟨a11, c11, rfl⟩ := own_form ho10
                 have hb10w := Below.next hA9 hb10'
                 have n10 := (hb10'.block _ (Array.getElem?_eq_some_iff.1 hN9).1).trans hN9
                 obtain ⟨r0, r1, r2, r3⟩ := cells4 n10
                 have HL2 := hide (HL.out.below hb10w)
                 have hB11 := Below.next hB hb10w
                 have hsz2 := hB11.size
                 have hRu := HWz.out.row ho10
                 clear hS0 hS2 hS5 HTc HPq
                 go_wp2_with (at_builtin; refine wpList_append_lies _ rfl _ _ _ rfl w5.heap.size 30 i0 _ 1 24 Tryz.underlying29 hi0 hz0 hz1 hz2 rfl (by omega) (.slice av yss.length cv') yss.length us rfl (HL2.out.row.alloc _) ⟨w10.heap.size, 0, none⟩ 1 1 [.slice a11 z.length c11] rfl rfl (World.news_of_block (cs := #[.slice a11 z.length c11]) (t := 30) (fr := (0, 0)) (heap_alloc_new w10 _)) (by simp [Value.oneCell']) (by omega) (by unfold maxLen; omega) (by omega) (by simp; omega) (w10.heap.size + 1) (by simp) ?_; intro gg cap2 w12 hown3 hgrow hat hltg)
                 have R := hide (HL2.out.push hRu (fun _ b hb => by
                  have h1 := own_base ho10 b hb
                  intro e
                  have h2 := own_top HL.out.row b e
                  have h3 := hA9.size
                  omega) hown3 hgrow hat)
                 have hB12 : Below w5.heap.size w5 w12 := (hB11.alloc hB11.size _).grown hgrow (by simp; omega) (fun k hk => own_base HL2.out.row k hk)
                 rw [HS.out] at R
                 clear hown3 hgrow hat hltg hRu
                 go_roundw
                 case rel => exact ⟨j + 1, _, by omega, by go_num, R, hB12⟩
                 case measure => simp [intOf]; omega
             · obtain rfl : j = qt.ops.length := by omega
               rw [List.take_length] at HL
               have hln := HLen.out qt.ops.length (Nat.le_refl _)
               rw [List.take_length] at hln
               have HAl := hide (HAllL.out qt.ops.length)
               rw [List.take_length] at HAl
               have HOn : Hid (rnO (Rt f) qt (xss.map tr) = qt.outs.map (fun v => (rnL (Rt f) (xss.map tr) qt.ops).getD v.toNat [])) := rfl
               rw [HOn.out] at HE2
               rw [← hln] at HOu
               have hyl : (rnL (Rt f) (xss.map tr) qt.ops).length ≤ 320 := by omega
               have HRw := hide (HL.out.rws (by omega))
               obtain ⟨av, cv', rfl⟩ := own_form HL.out.row
               clear HOn hln HAllL HLen HOp HO HOk HWx HWt
               generalize rnL (Rt f) (xss.map tr) qt.ops = yss at *
               obtain ⟨w8, rfl⟩ : ∃ w8, w8 = wr := ⟨wr, rfl⟩
               go_wp2
               go_loopw [20, 21] (fun vo vi wr => ∃ (k : Nat) (us : List Value), k ≤ qt.outs.length ∧ vi = .int .i64 k ∧ Hid (Lss wr w8.heap.size wr.heap.size vo us ((qt.outs.take k).map (fun v => yss.getD v.toNat []))) ∧ Below w8.heap.size w8 wr) (fun _ vi _ => qt.outs.length - (intOf vi).toNat)
               case atStart => exact ⟨0, [], Nat.zero_le _, rfl, Lss.nil _ _ _, Below.refl _ _⟩
               case round =>
                clear HL p0 p1 p2
                obtain ⟨k, us, hk, rfl, HL, hB8⟩ := hrel
                have m6 := (hB8.block _ (Array.getElem?_eq_some_iff.1 m5).1).trans m5
                obtain ⟨p0, p1, p2⟩ := cell3 m6
                by_cases hlt : k < qt.outs.length
                · obtain ⟨b, off, cp, heq, _, hbl⟩ := HU.out.form (by omega)
                  cases heq
                  have hcu := HU.out.int (Below.next hB hB8) hlt
                  obtain ⟨ho0, ho1⟩ := HOu.out k hlt
                  obtain ⟨ay, cy, heq, hl9, _, hc9⟩ := HRw.out
                  cases heq
                  obtain ⟨b2, off2, rfl, hbl2, hcc⟩ := hc9 (by intro h0; rw [h0] at ho1; simp at ho1)
                  obtain ⟨u, hcu2, hru⟩ := hcc _ ho1
                  have hca := (hB8.cell (p := ⟨b2, off2 + qt.outs[k].toNat, none⟩) hbl2).trans hcu2
                  have HX := hide (Copy_any u _ wr (hru.below hB8).1)
                  have HS := hide (take_snocE (fun v => yss.getD v.toNat []) qt.outs hlt)
                  have hml : ((qt.outs.take k).map (fun v => yss.getD v.toNat [])).length = k := by simp; omega
                  obtain ⟨au', cu', rfl, _⟩ := hru.spell
                  clear hcc hc9 hcu2 hru
                  generalize qt.outs[k] = o at *
                  obtain ⟨i, rfl⟩ : ∃ i : Nat, o = i := ⟨o.toNat, by omega⟩
                  simp only [Int.toNat_natCast] at *
                  generalize yss.getD i [] = fx at *
                  generalize (qt.outs.take k).map (fun v => yss.getD v.toNat []) = lss at *
                  have k0 : (0 : Int) ≤ (k : Int) := by omega
                  have k1 : (k : Int) < (qt.outs.length : Int) := by omega
                  have i1 : (i : Int) < (yss.length : Int) := by omega
                  go_wp2_with (first
                   | (go_at_call 48; refine HX.out.mono ?_; rintro e w3 ⟨vr, rfl, hor, hb3⟩; obtain ⟨ar, cr, rfl⟩ := own_form hor; have HL3 := hide (HL.out.below hb3); have hsz3 := hb3.size; have hbs := hB8.size)
                   | (at_builtin; refine wpList_append_lies _ rfl _ _ _ rfl w8.heap.size 30 i0 _ 1 24 Tryz.underlying29 hi0 hz0 hz1 hz2 rfl (by omega) u20 lss.length us rfl (HL3.out.row.alloc _) ⟨w3.heap.size, 0, none⟩ 1 1 [.slice ar fx.length cr] rfl rfl (World.news_of_block (cs := #[.slice ar fx.length cr]) (t := 30) (fr := (0, 0)) (heap_alloc_new w3 _)) (by simp [Value.oneCell']) (by omega) (by unfold maxLen; omega) (by omega) (by simp; omega) (w3.heap.size + 1) (by simp) ?_; intro gg cap2 w4 hown4 hgrow hat hltg))
                  have hB9 := Below.next hB8 hb3
                  have R := hide (HL3.out.push (w := w8) (H := wr.heap.size) (Nat.le_refl _) hbs (Nat.le_refl _) hB9 hor hown4 hgrow)
                  clear hown4 hgrow hat hltg HL HL3 hor
                  rw [HS.out, hml] at R
                  go_roundw
                  case rel => exact ⟨k + 1, _, by omega, by go_num, lss_here R.out.1, R.out.2⟩
                  case measure => simp [intOf]; omega
                · obtain rfl : k = qt.outs.length := by omega
                  rw [List.take_length, ← HE2.out] at HL
                  have hs8 := hB.size
                  have HLw := hide (lss_lo HL.out (Nat.le_trans B5.size hs8))
                  have hBf := Below.next (Below.next B5 hB) hB8
                  clear HL
                  go_wp2
                  go_ret2
                  rw [HE1.out]
                  exact ⟨_, us, rfl, HLw.out, hBf⟩
     · have ht : ((xss.length : Int) != q.inp) = true := by simp [he]
       have HE : Hid (coE f q xss = 3) := by show _ = _; rw [HCo.out]; unfold cpE; rw [if_pos HAll.out, if_neg he]
       have HE2 : Hid (coL f q xss = []) := by show _ = _; unfold coL; rw [HE.out]; rfl
       clear he hcell
       go_wp2
       go_ret2
       rw [HE.out, HE2.out]
       exact ⟨_, [], rfl, Lss.nil _ _ _, hBw⟩
end Go.Proofs.YtnakbpaiidolbaaGreat
