/-
  Layer 11: Compose: the document's.
-/
import Derived.Test.YtfbipnhhnmlhfabBEvqF
import Derived.Test.YtfbipnhhnmlhfabBEvrB
import Derived.Test.YtfbipnhhnmlhfabBunB
import Derived.Test.YtfbipnhhnmlhfabBTrmD
import Derived.Test.YtfbipnhhnmlhfabBCpR
import Derived.Test.YtfbipnhhnmlhfabBunJ
namespace Go.Proofs.Ytfbipnhhnmlhfab
open Go.RowKit Fld Slp
set_option linter.unusedVariables false
set_option linter.unusedSimpArgs false

def lgK (xss : List (List Int)) (k : Nat) : Bool := (xss.take k).any (fun xs => decide (4096 < xs.length))
theorem lgK_next {xss : List (List Int)} {k : Nat} (h : k < xss.length) : lgK xss (k + 1) = (lgK xss k || decide (4096 < (xss.getD k []).length)) := by
  unfold lgK
  rw [List.take_succ_eq_append_getElem h, List.any_append, List.getD_eq_getElem?_getD, List.getElem?_eq_getElem h]; simp
theorem lgK_end (xss : List (List Int)) : lgK xss xss.length = lgB xss := by unfold lgK lgB; rw [List.take_length]
theorem ls_of_lss {W : World} {lo hi : Nat} {v : Value} {us : List Value} {xss : List (List Int)} (h : Lss W lo hi v us xss) (hw : ∀ i, Wd (xss.getD i [])) : Ls W lo v us xss :=
  ⟨h.row, fun i hi => (hw i).row (h.each i hi), fun i hi _ b hb e => own_kind (h.each i hi) h.row (fun e => ne_kind e.symm) b hb e⟩
theorem lim_wd {p : Int} (hp : p ≤ 18446744073709551615) {xs : List Int} (h : Lim p xs) : Wd xs := ⟨by have := h.2; omega, els_words h.1 hp⟩
theorem wd_getD {P : List Int → Prop} {xss : List (List Int)} (h : ∀ xs ∈ xss, P xs) (h0 : P []) (i : Nat) : P (xss.getD i []) := by
  rw [List.getD_eq_getElem?_getD]
  cases e : xss[i]? with
  | none => exact h0
  | some xs => exact h xs (List.mem_of_getElem? e)
theorem take_snocI (g : Int → List Int) (zs : List Int) {k : Nat} (hk : k < zs.length) : (zs.take k).map g ++ [g zs[k]] = (zs.take (k + 1)).map g := by
  rw [List.take_succ_eq_append_getElem hk, List.map_append]; rfl
theorem own_at {W : World} {lo n : Nat} {v : Value} {us : List Value} {T : TypeId} (h : W.ownsRow lo T 1 v n us) (hn : 0 < n) : ∃ g c, v = .slice (some ⟨g, 0, none⟩) n c := by
  rcases h.2 with ⟨_, h0⟩ | ⟨g, cap, cur, e, _⟩
  · omega
  · exact ⟨g, cap, e⟩

set_option maxRecDepth 100000 in
set_option maxHeartbeats 2000000 in
theorem dCompose (f : Int) (q : Pr) (vp vi : Value) (xss : List (List Int)) (w : World) (hp : Pm w vp q) (hr : Rws w vi xss) (hlr : xss.length ≤ 5864062014634) : GivesL11 10 #[.int .u8 f, vp, vi] w (coL f q xss) (coE f q xss) := by
  obtain ⟨i0, hi0, hz0, hz1, hz2⟩ := info_parts sl_infoE
  have HM := hide (fun W (hb : Below w.heap.size w W) => dMay vp q W (hp.below hb))
  have HI0 := hide (fun W => rIn_any f (.slice none 0 0) [] W (row0 W))
  have HI := hide (fun v xs W (hr : Rw W v xs) => rIn_any f v xs W hr.1)
  have HTr := hide (fun v xs W (hr : Rw W v xs) => rTrim_any v xs W hr)
  have HOf := hide (fun W (hb : Below w.heap.size w W) => dOf vp q W (hp.below hb))
  unfold IsOf at HOf
  have HT := hide (fun W (hb : Below w.heap.size w W) => dTrim vp q W (hp.below hb))
  have HR := hide hr
  have HP := hide hp
  have HWd := hide hr.wordsL'
  have HLe := hide (fun h => of_le (q := q) h)
  obtain ⟨vo, vu, rfl, ho, hu⟩ := hp.form
  obtain ⟨ao, co', rfl, _⟩ := ho.spell
  obtain ⟨au, cu, rfl, _⟩ := hu.spell
  obtain ⟨ai, ci, rfl, hlen, hcap, hcell⟩ := hr
  have hA := alloc_below w (.cells #[.int .i64 q.inp, .slice ao q.ops.length co', .slice au q.outs.length cu] 25)
  have hN := heap_alloc_new w (.cells #[.int .i64 q.inp, .slice ao q.ops.length co', .slice au q.outs.length cu] 25)
  have hinb := hp.inb
  clear ho hu hp
  cases hg : (mayB q && inF f []) with
  | false =>
    have e1 : coE f q xss = 2 := by unfold coE; rw [hg]; rfl
    have e2 : coL f q xss = [] := by unfold coL; rw [e1]; rfl
    rw [e1, e2]
    apply GivesL11.none
    cases hm : mayB q with
    | false =>
      rw [hm] at HM
      clear hm hg e1 e2 HP HR hcell
      go_enter Try.func10, Try.ntmps10
      go_wp2_with (go_at_call 26; refine (HM.out _ hA).mono ?_; rintro e w1 ⟨rfl, hb1⟩)
      go_ret2
      exact ⟨rfl, Below.next hA hb1⟩
    | true =>
      have hn : inF f [] = false := by rw [hm] at hg; simpa using hg
      rw [hm] at HM
      rw [hn] at HI0
      clear hm hg e1 e2 HP HR hcell hn
      go_enter Try.func10, Try.ntmps10
      go_wp2_with (first
        | (go_at_call 26; refine (HM.out _ hA).mono ?_; rintro e w1 ⟨rfl, hb1⟩; have hB1 := Below.next hA hb1)
        | (go_at_call 27; refine (HI0.out _).mono ?_; rintro e w2 ⟨rfl, hw⟩; rw [hw]; clear hw))
      go_ret2
      exact ⟨rfl, hB1⟩
  | true =>
    have hm : mayB q = true := (Bool.and_eq_true _ _ ▸ hg).1
    have hn : inF f [] = true := (Bool.and_eq_true _ _ ▸ hg).2
    have HCo : Hid (coE f q xss = cpE f q xss) := by show _ = _; unfold coE; rw [if_pos hg]
    have HOne := hide (of_one hm)
    have HMay := hide hm
    rw [hm] at HM
    rw [hn] at HI0
    have Hin := hide hn
    clear hm hg hn
    show Calls _ _ _ _ _
    go_enter Try.func10, Try.ntmps10
    go_upto_region 4 with (first
      | (go_at_call 26; refine (HM.out _ hA).mono ?_; rintro e w1 ⟨rfl, hb1⟩; have hB1 := Below.next hA hb1; have n1 := (hb1.block _ (Array.getElem?_eq_some_iff.1 hN).1).trans hN)
      | (go_at_call 27; refine (HI0.out _).mono ?_; rintro e w2 ⟨rfl, hw⟩; rw [hw]; clear hw))
    clear HM HI0 hN hb1 hA
    go_wp2
    go_loopw [8, 9, 10] (fun vt vl vi wr => ∃ k : Nat, k ≤ xss.length ∧ vi = .int .i64 k ∧ vt = .int .i64 (topK xss k) ∧ vl = .bool (lgK xss k) ∧ Hid (∀ i, i < k → inF f (xss.getD i []) = true) ∧ Below w1.heap.size w1 wr) (fun _ _ vi _ => xss.length - (intOf vi).toNat)
    case atStart => exact ⟨0, Nat.zero_le _, rfl, rfl, rfl, fun i hi => by omega, Below.refl _ _⟩
    case round =>
      obtain ⟨k, hk, rfl, rfl, rfl, HK, hB⟩ := hrel
      have hBw := Below.next hB1 hB
      have n2 := (hB.block _ (Array.getElem?_eq_some_iff.1 n1).1).trans n1
      by_cases hlt : k < xss.length
      · obtain ⟨b, off, rfl, hbl, hc⟩ := hcell (by intro e; rw [e] at hlt; simp at hlt)
        obtain ⟨u, hcu, hru⟩ := hc k hlt
        have hck := (hBw.cell (p := ⟨b, off + k, none⟩) hbl).trans hcu
        have HX := hide (HI.out u (xss.getD k []) wr (hru.below hBw))
        have HY := hide (HTr.out u (xss.getD k []) wr (hru.below hBw))
        have hln := hru.len
        obtain ⟨au', cu', rfl, _⟩ := hru.spell
        have k0 : (0 : Int) ≤ (k : Int) := by omega
        have k1 : (k : Int) < (xss.length : Int) := by omega
        clear hc hcell hcu hru
        cases hi : inF f (xss.getD k []) with
        | false =>
          rw [hi] at HX
          have HE : Hid (coE f q xss = 2) := by show _ = _; rw [HCo.out]; unfold cpE; rw [all_out hlt hi]; rfl
          have HE2 : Hid (coL f q xss = []) := by show _ = _; unfold coL; rw [HE.out]; rfl
          clear hi hln
          generalize (xss.getD k []).length = ln at *
          go_wp2_with (go_at_call 27; refine HX.out.mono ?_; rintro e w3 ⟨rfl, hw⟩; rw [hw]; clear hw)
          go_ret2
          rw [HE.out, HE2.out]
          exact ⟨_, [], rfl, Lss.nil _ _ _, hBw⟩
        | true =>
          rw [hi] at HX
          have HK2 : Hid (∀ i, i < k + 1 → inF f (xss.getD i []) = true) := fun i hi' => by
            by_cases e : i = k
            · rw [e]; exact hi
            · exact HK.out i (by omega)
          have HNl := hide (lgK_next hlt)
          have HNt := hide (topK_next hlt)
          have htl := tr_len (xss.getD k [])
          have htk := top_bound xss k hk (fun i hi' => (HR.out.lenL i (by omega)))
          obtain ⟨tl, HTl⟩ : ∃ tl, Hid ((tr (xss.getD k [])).length = tl) := ⟨_, rfl⟩
          rw [HTl.out] at HNt htl HY
          obtain ⟨tp, HTp⟩ : ∃ tp, Hid (topK xss k = tp) := ⟨_, rfl⟩
          rw [HTp.out] at HNt htk ⊢
          clear hi
          obtain ⟨ln, HLn⟩ : ∃ ln, Hid ((xss.getD k []).length = ln) := ⟨_, rfl⟩
          rw [HLn.out] at hln htl HNl HX HY hck
          cases hlg : lgK xss k with
          | true =>
            rw [hlg] at HNl
            by_cases hmx : (tp : Int) < (tl : Int) - 1
            · have HNt2 : Hid (((topK xss (k + 1) : Nat) : Int) = (tl : Int) - 1) := by show _ = _; rw [HNt.out]; omega
              go_wp2_with (first
                | (go_at_call 27; refine HX.out.mono ?_; rintro e w3 ⟨rfl, hw⟩; rw [hw]; clear hw)
                | (go_at_call 28; refine HY.out.mono ?_; rintro e w4 ⟨v4, rfl, ho4, hb4⟩; obtain ⟨a4, c4, rfl⟩ := own_form ho4))
              have hB4 := Below.next hB hb4
              go_roundw
              case rel => exact ⟨k + 1, by omega, by go_num, by rw [HNt2.out], by rw [HNl.out, Bool.true_or], HK2, hB4⟩
              case measure => simp [intOf]; omega
            · have HNt2 : Hid (((topK xss (k + 1) : Nat) : Int) = (tp : Int)) := by show _ = _; rw [HNt.out]; omega
              go_wp2_with (first
                | (go_at_call 27; refine HX.out.mono ?_; rintro e w3 ⟨rfl, hw⟩; rw [hw]; clear hw)
                | (go_at_call 28; refine HY.out.mono ?_; rintro e w4 ⟨v4, rfl, ho4, hb4⟩; obtain ⟨a4, c4, rfl⟩ := own_form ho4))
              have hB4 := Below.next hB hb4
              go_roundw
              case rel => exact ⟨k + 1, by omega, by go_num, by rw [HNt2.out], by rw [HNl.out, Bool.true_or], HK2, hB4⟩
              case measure => simp [intOf]; omega
          | false =>
            rw [hlg, Bool.false_or] at HNl
            have HDc : Hid (decide (4096 < ln) = decide ((4096 : Int) < (ln : Int))) := by show _ = _; congr 1; apply propext; omega
            rw [HDc.out] at HNl
            by_cases hmx : (tp : Int) < (tl : Int) - 1
            · have HNt2 : Hid (((topK xss (k + 1) : Nat) : Int) = (tl : Int) - 1) := by show _ = _; rw [HNt.out]; omega
              go_wp2_with (first
                | (go_at_call 27; refine HX.out.mono ?_; rintro e w3 ⟨rfl, hw⟩; rw [hw]; clear hw)
                | (go_at_call 28; refine HY.out.mono ?_; rintro e w4 ⟨v4, rfl, ho4, hb4⟩; obtain ⟨a4, c4, rfl⟩ := own_form ho4))
              have hB4 := Below.next hB hb4
              go_roundw
              case rel => exact ⟨k + 1, by omega, by go_num, by rw [HNt2.out], by rw [HNl.out], HK2, hB4⟩
              case measure => simp [intOf]; omega
            · have HNt2 : Hid (((topK xss (k + 1) : Nat) : Int) = (tp : Int)) := by show _ = _; rw [HNt.out]; omega
              go_wp2_with (first
                | (go_at_call 27; refine HX.out.mono ?_; rintro e w3 ⟨rfl, hw⟩; rw [hw]; clear hw)
                | (go_at_call 28; refine HY.out.mono ?_; rintro e w4 ⟨v4, rfl, ho4, hb4⟩; obtain ⟨a4, c4, rfl⟩ := own_form ho4))
              have hB4 := Below.next hB hb4
              go_roundw
              case rel => exact ⟨k + 1, by omega, by go_num, by rw [HNt2.out], by rw [HNl.out], HK2, hB4⟩
              case measure => simp [intOf]; omega
      · obtain rfl : k = xss.length := by omega
        rw [lgK_end]
        have HAll : Hid (xss.all (inF f) = true) := all_in HK.out
        obtain ⟨p0, p1, p2⟩ := cell3 n2
        have htb : topK xss xss.length ≤ 17592186043904 := top_bound xss _ (Nat.le_refl _) (fun i hi' => HR.out.lenL i hi')
        have HTop : Hid (topK xss xss.length = top xss) := rfl
        rw [HTop.out] at htb ⊢
        by_cases he : (xss.length : Int) = q.inp
        · have ht : ((xss.length : Int) != q.inp) = false := by simp [he]
          have HE : Hid (cpE f q xss = if lgB xss = true then 4 else if ofE q = 0 then (if 4096 ≤ ofV q * (top xss : Int) then 4 else 0) else ofE q) := by show _ = _; unfold cpE; rw [if_pos HAll.out, if_pos he]
          have HQl := hide he
          clear he HK HI
          obtain ⟨tp, HTp⟩ : ∃ tp, Hid (top xss = tp) := ⟨_, rfl⟩
          rw [HTp.out] at htb HE ⊢
          go_upto_region 14 with (go_at_call 29; refine (HOf.out _ hBw).mono ?_; rintro e w3 ⟨rfl, hb3⟩)
          have hB3 := Below.next hBw hb3
          have n3 := (hb3.block _ (Array.getElem?_eq_some_iff.1 n2).1).trans n2
          clear p0 p1 p2 HOf
          go_cut [9, 11, 12, 85] from 66 to 85 (fun _ _ _ v85 wx => ∃ b : Bool, v85 = .bool b ∧ Hid (b = false → cpE f q xss = 0) ∧ Hid (b = true → coE f q xss = 4) ∧ wx = w3)
          case first =>
            cases hlg : lgB xss with
            | true =>
              have HE4 : Hid (coE f q xss = 4) := by show _ = _; rw [HCo.out, HE.out, hlg]; rfl
              clear HE hlg HLe HOne
              go_wp2
              go_meet
              case rel => exact ⟨true, rfl, (fun h => by cases h), (fun _ => HE4.out), rfl⟩
            | false =>
              rw [hlg] at HE
              rcases HOne.out with h0 | h0
              · have v0 := (HLe.out h0).1
                have v1 := (HLe.out h0).2.1
                rw [h0] at HE ⊢
                have HE2 : Hid (cpE f q xss = if 4096 ≤ ofV q * (tp : Int) then 4 else 0) := by show _ = _; rw [HE.out]; rfl
                clear HE h0 HLe HOne hlg
                generalize ofV q = n at *
                obtain ⟨D, hD⟩ : ∃ D, n * (tp : Int) = D := ⟨_, rfl⟩
                have hD1 : 0 ≤ D := by rw [← hD]; exact Int.mul_nonneg v0 (by omega)
                have hD2 : D ≤ 18014398508957696 := by
                  rw [← hD]
                  have h1 : n * (tp : Int) ≤ 1024 * (tp : Int) := Int.mul_le_mul_of_nonneg_right v1 (by omega)
                  omega
                rw [hD] at HE2
                by_cases hc : 4096 ≤ D
                · have HE4 : Hid (coE f q xss = 4) := by show _ = _; rw [HCo.out, HE2.out, if_pos hc]
                  have h1 : (1 : Int) ≤ (tp : Int) := by
                    rcases Nat.eq_zero_or_pos tp with h | h
                    · rw [h] at hD; simp at hD; omega
                    · omega
                  clear HE2
                  go_wp2
                  go_meet
                  case rel => exact ⟨true, by simp [hc], (fun h => by cases h), (fun _ => HE4.out), rfl⟩
                · have HE0 : Hid (cpE f q xss = 0) := by show _ = _; rw [HE2.out, if_neg hc]
                  clear HE2
                  by_cases h1 : (1 : Int) ≤ (tp : Int)
                  · go_wp2
                    go_meet
                    case rel => exact ⟨false, by simp [hc], (fun _ => HE0.out), (fun h => by cases h), rfl⟩
                  · go_wp2
                    go_meet
                    case rel => exact ⟨false, by simp [hc], (fun _ => HE0.out), (fun h => by cases h), rfl⟩
              · rw [h0] at HE ⊢
                have HE4 : Hid (coE f q xss = 4) := by show _ = _; rw [HCo.out, HE.out]; rfl
                clear HE h0 HLe HOne hlg
                go_wp2
                go_meet
                case rel => exact ⟨true, rfl, (fun h => by cases h), (fun _ => HE4.out), rfl⟩
          case rest =>
            obtain ⟨bb, rfl, HF, HT4, rfl⟩ := hcut
            cases bb with
            | true =>
              have h4 := HT4.out rfl
              have HE2 : Hid (coL f q xss = []) := by show _ = _; unfold coL; rw [h4]; rfl
              have HE4 := hide h4
              clear h4 HF HT4
              go_wp2
              go_ret2
              rw [HE4.out, HE2.out]
              exact ⟨_, [], rfl, Lss.nil _ _ _, hB3⟩
            | false =>
              have HE0 := hide (HF.out rfl)
              obtain ⟨p0, p1, p2⟩ := cell3 n3
              clear HF HT4
              have hlm := (cpE_zero HMay.out HE0.out).2.2.1
              obtain ⟨p, wd, hf, _⟩ := inF_fi Hin.out
              have hx : ∀ xs ∈ xss, Lim p xs := fun xs hx => by
                have h1 := List.all_eq_true.1 HAll.out xs hx
                rw [inF_yes hf] at h1
                exact ⟨els_of h1 (HWd.out xs hx), hlm xs hx⟩
              have hmt := tr_may HMay.out
              obtain ⟨⟨t0, t1, t2, t3⟩, _, _⟩ := mayB_iff.1 hmt
              have hti : (trP q).inp = q.inp := rfl
              have eR : trR q = trP q := by unfold trR; rw [if_pos HMay.out]
              have eE : trE q = 0 := by unfold trE; rw [if_pos HMay.out]
              have HTp2 := hide (fun W B vo vu ho hu => tr_pm (w' := W) (vo := vo) (vu := vu) (B := B) HP.out ho hu)
              unfold IsTrim at HT
              rw [eR] at HT HTp2
              rw [eE] at HT
              have HE1 : Hid (coE f q xss = 0) := by show _ = _; rw [HCo.out, HE0.out]
              have HE2 : Hid (coL f q xss = rnO (Rt f) (trP q) (xss.map tr)) := by show _ = _; unfold coL; rw [if_pos HE1.out]
              have hxt : ∀ xs ∈ xss.map tr, Lim p xs := fun xs hxs => by
                obtain ⟨ys, hy, rfl⟩ := List.mem_map.1 hxs
                exact lim_tr hf.pos (hx ys hy)
              have hn64 : xss.length ≤ 64 := by have := HQl.out; omega
              have HWx : Hid (∀ i, Wd (xss.getD i [])) := fun i => lim_wd hf.top (wd_getD (P := Lim p) hx ⟨els_nil p, by simp⟩ i)
              have HWt : Hid (∀ i, Wd ((xss.map tr).getD i [])) := fun i => lim_wd hf.top (wd_getD (P := Lim p) hxt ⟨els_nil p, by simp⟩ i)
              have HOp : Hid (∀ j (hj : j < (trP q).ops.length), ((trP q).ops[j].k = 1 ∨ (trP q).ops[j].k = 2 ∨ (trP q).ops[j].k = 3 ∨ (trP q).ops[j].k = 4) ∧ (¬ (trP q).ops[j].k = 4 → (0 ≤ (trP q).ops[j].a ∧ 0 ≤ (trP q).ops[j].b) ∧ (trP q).ops[j].a.toNat < xss.length + j ∧ (trP q).ops[j].b.toNat < xss.length + j)) := fun j hj =>
                ⟨op_kinds hmt _ (List.getElem_mem hj), fun h4 => by
                  have h5 := may_args hmt j hj h4
                  have h6 : (trP q).inp.toNat = xss.length := by have := HQl.out; omega
                  rw [h6] at h5; exact h5⟩
              have HOu : Hid (∀ j (hj : j < (trP q).outs.length), 0 ≤ (trP q).outs[j] ∧ (trP q).outs[j].toNat < xss.length + (trP q).ops.length) := fun j hj => by
                have h5 := may_out hmt (trP q).outs[j] (List.getElem_mem hj)
                have h6 : (trP q).inp.toNat = xss.length := by have := HQl.out; omega
                rw [h6] at h5; exact h5
              have HAllL := hide (fun k => lim_allT hf ((trP q).ops.take k) (xss.map tr) hxt)
              have HLen : Hid (∀ k, k ≤ (trP q).ops.length → (rnL (Rt f) (xss.map tr) ((trP q).ops.take k)).length = xss.length + k) := fun k hk => by rw [rnL_len, List.length_take, Nat.min_eq_left hk, List.length_map]
              have hp0 : ¬ p = 0 := by have := hf.pos; omega
              have HFi := hide hf
              have hto := t2
              have htu := t3
              clear hlm hx hxt hmt hti eR eE HE HE0 HAll HCo HOne HMay Hin HWd HQl HLe t0 t1 t2 t3 hf HP
              generalize trP q = qt at *
              go_upto_region 17 with (go_at_call 30; refine (HT.out _ hB3).mono ?_; rintro e w4 ⟨v4, u4, rfl, ho4, hu4, hb4⟩; have HP4 := hide (HTp2.out _ _ _ _ ho4 hu4); obtain ⟨eo, fo, rfl⟩ := own_slice ho4; obtain ⟨eu, fu, rfl⟩ := own_slice hu4)
              -- BEGIN2
              have hA4 := alloc_below w4 (.cells #[.int .i64 qt.inp, .slice eo qt.ops.length fo, .slice eu qt.outs.length fu] 25)
              have m4 := heap_alloc_new w4 (.cells #[.int .i64 qt.inp, .slice eo qt.ops.length fo, .slice eu qt.outs.length fu] 25)
              have HP5 := hide (HP4.out.below hA4)
              have B5 := Below.next (Below.next hB3 hb4) hA4
              generalize w4.alloc (.cells #[.int .i64 qt.inp, .slice eo qt.ops.length fo, .slice eu qt.outs.length fu] 25) = w5 at *
              generalize w4.heap.size = bq at *
              obtain ⟨vo5, vu5, he5, hO5, hU5⟩ := HP5.out.form
              cases he5
              have HO := hide hO5
              have HU := hide hU5
              have HOk := hide HP5.out.okb
              have HCr := hide (CopyRows_all _ xss w5 (HR.out.below B5) hlr)
              clear ho4 hu4 HP4 hb4 hA4 hO5 hU5 HT HTp2 p0 p1 p2 hcell
              go_upto_region 18 with (go_at_call 5; refine HCr.out.mono ?_; rintro e w6 ⟨v6, us6, rfl, L6, hb6⟩)
              have HT6 := hide (Lt.start (ls_of_lss L6 HWx.out) rfl)
              obtain ⟨a6, c6, rfl⟩ := own_form L6.row
              clear L6 HCr
              go_wp2
              go_loopw [16] (fun vi wr => ∃ (k : Nat) (us : List Value), k ≤ xss.length ∧ vi = .int .i64 k ∧ Hid (Lt wr w5.heap.size (.slice a6 xss.length c6) xss.length us xss k) ∧ Below w5.heap.size w5 wr) (fun vi _ => xss.length - (intOf vi).toNat)
              case atStart => exact ⟨0, us6, Nat.zero_le _, rfl, HT6, hb6⟩
              case round =>
                clear HT6 hb6
                obtain ⟨k, us, hk, rfl, HL, hB⟩ := hrel
                by_cases hlt : k < xss.length
                · obtain ⟨hRk, _⟩ := HL.out.old k (Nat.le_refl _) hlt
                  have hul : us.length = xss.length := by have := HL.out.row.1; omega
                  have huk : us[k]? = some (us.getD k nov) := by rw [List.getD_eq_getElem?_getD, List.getElem?_eq_getElem (by omega)]; rfl
                  obtain ⟨g6, c6', heq⟩ := own_at HL.out.row (by omega)
                  cases heq
                  have hck := (HL.out.row.cellAt k (by omega)).trans huk
                  have HX := hide (HTr.out _ _ wr hRk)
                  obtain ⟨ak, ck, hsp, _⟩ := hRk.spell
                  rw [hsp] at hck HX
                  have k0 : (0 : Int) ≤ (k : Int) := by omega
                  have k1 : (k : Int) < (xss.length : Int) := by omega
                  have HF : Hid (∀ V, Below wr.heap.size wr V → V.cell? ⟨g6, k, none⟩ = some (.slice ak (xss.getD k []).length ck) ∧ V.frozen? ⟨g6, k, none⟩ = false) := fun V hb => ⟨(hb.cell (World.block_lt_of_cell? _ _ hck)).trans hck, (own_below HL.out.row hb).frozenAt k⟩
                  have HPut := hide (fun w1 v (hb : Below wr.heap.size wr w1) hv => HL.out.put (v := v) hlt hB.size hb hv)
                  have hgl := own_base HL.out.row g6 rfl
                  obtain ⟨lt, HLt⟩ : ∃ lt, Hid ((tr (xss.getD k [])).length = lt) := ⟨_, rfl⟩
                  clear hRk huk hsp hul
                  generalize (xss.getD k []).length = ln at *
                  go_wp2_with (go_at_call 28; refine HX.out.mono ?_; rintro e w7 ⟨v7, rfl, ho7, hb7⟩; have HP7 := hide (HPut.out _ _ hb7 ho7); rw [HLt.out] at ho7; obtain ⟨a7, c7, rfl⟩ := own_form ho7; obtain ⟨q1, q2⟩ := HF.out _ hb7)
                  have hB7 := (Below.next hB hb7).setCell (p := ⟨g6, k, none⟩) hgl (.slice a7 lt c7)
                  clear q1 q2 ho7 hck
                  go_roundw
                  case rel => exact ⟨k + 1, _, by omega, by go_num, HP7, hB7⟩
                  case measure => simp [intOf]; omega
                · obtain rfl : k = xss.length := by omega
                  have HL7 := hide (ls_of_lss HL.out.done HWt.out)
                  have hB7 := hB
                  clear HL hB hlt
                  obtain ⟨w7, rfl⟩ : ∃ w7, w7 = wr := ⟨wr, rfl⟩
                  go_wp2
                  go_loopw [15, 17] (fun va vi wr => ∃ (j : Nat) (us : List Value), j ≤ qt.ops.length ∧ vi = .int .i64 j ∧ Hid (Ls wr w5.heap.size va us (rnL (Rt f) (xss.map tr) (qt.ops.take j))) ∧ Below w5.heap.size w5 wr) (fun _ vi _ => qt.ops.length - (intOf vi).toNat)
                  case atStart => exact ⟨0, us, Nat.zero_le _, rfl, HL7, hB7⟩
                  case round =>
                    clear HL7 hB7
                    obtain ⟨j, us, hj, rfl, HL, hB⟩ := hrel
                    have m5 := (hB.block _ (Array.getElem?_eq_some_iff.1 m4).1).trans m4
                    obtain ⟨p0, p1, p2⟩ := cell3 m5
                    by_cases hlt : j < qt.ops.length
                    · obtain ⟨b, off, cp, heq, _, hbl⟩ := HO.out.form (by omega)
                      cases heq
                      obtain ⟨o0, o1, o2, o3⟩ := HO.out.op hB hlt
                      obtain ⟨hk, ha⟩ := HOp.out j hlt
                      have hoc := (HOk.out _ (List.getElem_mem hlt)).2.2.2
                      have hS0 := rnL_next (Rt f) qt.ops (xss.map tr) hlt
                      have hln := HLen.out j hj
                      have hbs := hB.size
                      have k0 : (0 : Int) ≤ (j : Int) := by omega
                      have k1 : (j : Int) < (qt.ops.length : Int) := by omega
                      rcases hk with hk | hk | hk | hk
                      · have HS : Hid (rnL (Rt f) (xss.map tr) (qt.ops.take j) ++ [addL f ((rnL (Rt f) (xss.map tr) (qt.ops.take j)).getD qt.ops[j].a.toNat []) ((rnL (Rt f) (xss.map tr) (qt.ops.take j)).getD qt.ops[j].b.toNat [])] = rnL (Rt f) (xss.map tr) (qt.ops.take (j + 1))) := by
                          show _ = _
                          rw [hS0]; unfold rnS; rw [if_pos hk]; rfl
                        have HWz : Hid (Wd (addL f ((rnL (Rt f) (xss.map tr) (qt.ops.take j)).getD qt.ops[j].a.toNat []) ((rnL (Rt f) (xss.map tr) (qt.ops.take j)).getD qt.ops[j].b.toNat []))) := lim_wd HFi.out.top (HAllL.out (j + 1) _ (by rw [← HS.out]; simp))
                        obtain ⟨⟨a0, b0⟩, a1, b1⟩ := ha (by omega)
                        rw [hk] at o0
                        rw [← hln] at a1 b1
                        have r1 := HL.out.each _ a1
                        have r2 := HL.out.each _ b1
                        have hul := HL.out.len
                        obtain ⟨gv, cv', rfl⟩ := own_at HL.out.row (by omega)
                        have ca := (HL.out.row.cellAt qt.ops[j].a.toNat (by omega)).trans (show us[qt.ops[j].a.toNat]? = some (us.getD qt.ops[j].a.toNat nov) by rw [List.getD_eq_getElem?_getD, List.getElem?_eq_getElem (by omega)]; rfl)
                        have cb := (HL.out.row.cellAt qt.ops[j].b.toNat (by omega)).trans (show us[qt.ops[j].b.toNat]? = some (us.getD qt.ops[j].b.toNat nov) by rw [List.getD_eq_getElem?_getD, List.getElem?_eq_getElem (by omega)]; rfl)
                        have hgv := own_top HL.out.row gv rfl
                        have HX := hide (fun W (hb : Below wr.heap.size wr W) => dAdd_any f _ _ _ _ W (r1.below hb) (r2.below hb))
                        unfold Gives at HX
                        obtain ⟨ax, cx, hax, _⟩ := r1.spell
                        obtain ⟨ay, cy, hay, _⟩ := r2.spell
                        rw [hax] at ca HX
                        rw [hay] at cb HX
                        clear r1 r2 hax hay hS0 ha hk hul
                        generalize (rnL (Rt f) (xss.map tr) (qt.ops.take j)).getD qt.ops[j].a.toNat [] = xs at *
                        generalize (rnL (Rt f) (xss.map tr) (qt.ops.take j)).getD qt.ops[j].b.toNat [] = ys at *
                        generalize addL f xs ys = z at *
                        have hyl : (rnL (Rt f) (xss.map tr) (qt.ops.take j)).length ≤ 320 := by omega
                        clear hln
                        generalize rnL (Rt f) (xss.map tr) (qt.ops.take j) = yss at *
                        generalize qt.ops[j] = o at *
                        obtain ⟨k, oa, ob, c⟩ := o
                        dsimp only at *
                        obtain ⟨i, rfl⟩ : ∃ i : Nat, oa = i := ⟨oa.toNat, by omega⟩
                        obtain ⟨i2, rfl⟩ : ∃ i : Nat, ob = i := ⟨ob.toNat, by omega⟩
                        simp only [Int.toNat_natCast] at *
                        have hA9 := alloc_below wr (.cells #[.int .u8 1, .int .i64 i, .int .i64 i2, .int .u64 c] 67)
                        have hN9 := heap_alloc_new wr (.cells #[.int .u8 1, .int .i64 i, .int .i64 i2, .int .u64 c] 67)
                        have i1 : (i : Int) < (yss.length : Int) := by omega
                        have i3 : (i2 : Int) < (yss.length : Int) := by omega
                        go_upto_region 26 with fail
                        generalize wr.alloc (.cells #[.int .u8 1, .int .i64 i, .int .i64 i2, .int .u64 c] 67) = w9 at *
                        obtain ⟨g0, HG0⟩ : ∃ g0, Hid (wr.heap.size = g0) := ⟨_, rfl⟩
                        have hA9' := hA9
                        rw [HG0.out] at hN9 ⊢
                        have HS9 : Hid (∀ V, Below w9.heap.size w9 V → V.cell? ⟨g0, 3, none⟩ = some (.int .u64 c)) := fun V hb => (cells4 ((hb.block _ (Array.getElem?_eq_some_iff.1 hN9).1).trans hN9)).2.2.2
                        have hdr9 : Below w9.heap.size w9 w9.drew := (Below.refl _ w9).drew
                        have hS0 := HS9.out _ hdr9
                        have hS2 := fun ob => HS9.out (w9.alloc ob).drew (alloc_below w9 ob).drew
                        have HPq := hide (fun W => rP_yes f p wd W HFi.out)
                        have hct : c.tmod p = c % p := Int.tmod_eq_emod_of_nonneg hoc.1
                        have hbt : Below w9.heap.size w9 (w9.alloc (.cells #[.int .u64 (c.tmod p)] 36)).drew := (alloc_below w9 _).drew
                        have HTc : Hid (Calls Try.prog 28 #[.slice (some ⟨w9.heap.size, 0, none⟩) 1 1] (w9.alloc (.cells #[.int .u64 (c.tmod p)] 36)).drew fun e w' => ∃ v', e = .returned v' ∧ w'.ownsRow w9.heap.size 36 1 v' (tr [c % p]).length (vals (tr [c % p])) ∧ Below w9.heap.size w9 w') := by
                          have h1 := HTr.out _ [c.tmod p] _ ((rw1 w9 (c.tmod p) (by rw [hct]; exact elWord (emod_el HFi.out.pos c) HFi.out.top) 36).below ((Below.refl _ (w9.alloc (.cells #[.int .u64 (c.tmod p)] 36))).drew))
                          rw [show tr [c.tmod p] = tr [c % p] by rw [hct]] at h1
                          exact h1.mono fun e w' ⟨v', he, ho, hb⟩ => ⟨v', he, own_mono ho hbt.size, Below.next hbt hb⟩
                        clear hct
                        refine wp_region_held_drew (S := (fun V => V.cell? ⟨g0, 3, none⟩ = some (.int .u64 c))) (by kernel_rfl) (by ((try dsimp only) <;> (first | with_reducible exact hS5 | with_reducible exact hS2 _ | with_reducible exact hS0))) (fun hHeld => ?_)
                        (refine wpAnyH_take (i := 0) (oi := _) (v := ?v130) rfl (by kernel_rfl) (by kernel_rfl) (by kernel_rfl) (fun _ _ _ h => h) (Or.inl ⟨by rfl, ?hy130⟩) (by assumption) ?rest130; (case hy130 => (first | (intro w hSw; (try dsimp only at hSw); go_simp; done) | (intro w hSw; (try dsimp only at hSw); go_simp; with_reducible rfl))); (try simp only [Act.put, List.getElem_toArray, List.getElem_cons_succ, List.getElem_cons_zero, List.setIfInBounds_toArray, List.set_cons_zero, List.set_cons_succ]))
                        (refine wpAnyH_take (i := 1) (oi := _) (v := ?v131) rfl (by kernel_rfl) (by kernel_rfl) (by kernel_rfl) (fun _ _ _ h => h) (Or.inl ⟨by rfl, ?hy131⟩) (by assumption) ?rest131; (case hy131 => (first | (intro w hSw; (try dsimp only at hSw); go_simp; done) | (intro w hSw; (try dsimp only at hSw); go_simp; with_reducible rfl))); (try simp only [Act.put, List.getElem_toArray, List.getElem_cons_succ, List.getElem_cons_zero, List.setIfInBounds_toArray, List.set_cons_zero, List.set_cons_succ]))
                        (refine wpAnyH_take (i := 2) (oi := _) (v := ?v132) rfl (by kernel_rfl) (by kernel_rfl) (by kernel_rfl) (fun _ _ _ h => h) (Or.inl ⟨by rfl, ?hy132⟩) (by assumption) ?rest132; (case hy132 => (first | (intro w hSw; (try dsimp only at hSw); go_simp; done) | (intro w hSw; (try dsimp only at hSw); go_simp; with_reducible rfl))); (try simp only [Act.put, List.getElem_toArray, List.getElem_cons_succ, List.getElem_cons_zero, List.setIfInBounds_toArray, List.set_cons_zero, List.set_cons_succ]))
                        refine wpAnyH_ready (rs := [3]) (by kernel_rfl) (by simp) ?_
                        refine AllReadyH.cons (o := _) rfl (fun K hK => ?_) AllReadyH.nil
                        try simp only [List.getElem_toArray, List.getElem_cons_succ, List.getElem_cons_zero]
                        go_simp
                        (first
                              | (go_at_call 31; refine (HPq.out _).mono ?_; rintro e wq ⟨rfl, hw⟩; rw [hw]; clear hw)
                              | (go_at_call 28; refine HTc.out.mono ?_; rintro e w10 ⟨v10, rfl, ho10, hb10'⟩; have hS5 := HS9.out _ hb10'))
                        first | (refine hK.out _ _ (by ((try dsimp only) <;> (first | with_reducible exact hS5 | with_reducible exact hS2 _ | with_reducible exact hS0))) (fun hHeld => ?_)) | (go_wp2_with fail; refine hK.out _ _ (by ((try dsimp only) <;> (first | with_reducible exact hS5 | with_reducible exact hS2 _ | with_reducible exact hS0))) (fun hHeld => ?_))
                        clear hK K
                        (try simp only [Act.put, List.getElem_toArray, List.getElem_cons_succ, List.getElem_cons_zero, List.setIfInBounds_toArray, List.set_cons_zero, List.set_cons_succ])
                        (refine wpAnyH_take (i := 4) (oi := _) (v := ?v133) rfl (by kernel_rfl) (by kernel_rfl) (by kernel_rfl) (fun _ _ _ h => h) (Or.inl ⟨by rfl, ?hy133⟩) (by assumption) ?rest133; (case hy133 => (first | (intro w hSw; (try dsimp only at hSw); go_simp; done) | (intro w hSw; (try dsimp only at hSw); go_simp; with_reducible rfl))); (try simp only [Act.put, List.getElem_toArray, List.getElem_cons_succ, List.getElem_cons_zero, List.setIfInBounds_toArray, List.set_cons_zero, List.set_cons_succ]))
                        refine wpAnyH_ready (rs := [5]) (by kernel_rfl) (by simp) ?_
                        refine AllReadyH.cons (o := _) rfl (fun K hK => ?_) AllReadyH.nil
                        try simp only [List.getElem_toArray, List.getElem_cons_succ, List.getElem_cons_zero]
                        go_simp
                        refine hK.out _ _ (by ((try dsimp only) <;> (first | with_reducible exact hS5 | with_reducible exact hS2 _ | with_reducible exact hS0))) (fun hHeld => ?_)
                        clear hK K
                        (try simp only [Act.put, List.getElem_toArray, List.getElem_cons_succ, List.getElem_cons_zero, List.setIfInBounds_toArray, List.set_cons_zero, List.set_cons_succ])
                        refine wpAnyH_ready (rs := [6]) (by kernel_rfl) (by simp) ?_
                        refine AllReadyH.cons (o := _) rfl (fun K hK => ?_) AllReadyH.nil
                        try simp only [List.getElem_toArray, List.getElem_cons_succ, List.getElem_cons_zero]
                        go_simp
                        (first
                              | (go_at_call 31; refine (HPq.out _).mono ?_; rintro e wq ⟨rfl, hw⟩; rw [hw]; clear hw)
                              | (go_at_call 28; refine HTc.out.mono ?_; rintro e w10 ⟨v10, rfl, ho10, hb10'⟩; have hS5 := HS9.out _ hb10'))
                        first | (refine hK.out _ _ (by ((try dsimp only) <;> (first | with_reducible exact hS5 | with_reducible exact hS2 _ | with_reducible exact hS0))) (fun hHeld => ?_)) | (go_wp2_with fail; refine hK.out _ _ (by ((try dsimp only) <;> (first | with_reducible exact hS5 | with_reducible exact hS2 _ | with_reducible exact hS0))) (fun hHeld => ?_))
                        clear hK K
                        (try simp only [Act.put, List.getElem_toArray, List.getElem_cons_succ, List.getElem_cons_zero, List.setIfInBounds_toArray, List.set_cons_zero, List.set_cons_succ])
                        (refine wpAnyH_take (i := 7) (oi := _) (v := ?v134) rfl (by kernel_rfl) (by kernel_rfl) (by kernel_rfl) (fun _ _ _ h => h) (Or.inl ⟨by rfl, ?hy134⟩) (by assumption) ?rest134; (case hy134 => (first | (intro w hSw; (try dsimp only at hSw); go_simp; done) | (intro w hSw; (try dsimp only at hSw); go_simp; with_reducible rfl))); (try simp only [Act.put, List.getElem_toArray, List.getElem_cons_succ, List.getElem_cons_zero, List.setIfInBounds_toArray, List.set_cons_zero, List.set_cons_succ]))
                        refine wpAnyH_done (by kernel_rfl) ?_ _
                        have hb10w := Below.next hA9 hb10'
                        clear ho10 hS0 hS2 hS5 HTc HPq
                        have n10 := (hb10'.block _ (Array.getElem?_eq_some_iff.1 hN9).1).trans hN9
                        obtain ⟨r0, r1, r2, r3⟩ := cells4 n10
                        have d1 := (hb10w.cell (p := ⟨gv, i, none⟩) hgv).trans ca
                        have d2 := (hb10w.cell (p := ⟨gv, i2, none⟩) hgv).trans cb
                        have hbw := Below.next hb10w ((Below.refl _ w10).drew)
                        have HX2 := hide (HX.out _ hbw)
                        go_upto_region 29 with fail
                        have hS0 : w10.drew.cell? ⟨gv, i, none⟩ = some (.slice ax xs.length cx) ∧ w10.drew.cell? ⟨gv, i2, none⟩ = some (.slice ay ys.length cy) ∧ w10.drew.cell? ⟨g0, 1, none⟩ = some (.int .i64 i) ∧ w10.drew.cell? ⟨g0, 2, none⟩ = some (.int .i64 i2) := ⟨d1, d2, r1, r2⟩
                        refine wp_region_held_drew (S := (fun W' => W'.cell? ⟨gv, i, none⟩ = some (.slice ax xs.length cx) ∧ W'.cell? ⟨gv, i2, none⟩ = some (.slice ay ys.length cy) ∧ W'.cell? ⟨g0, 1, none⟩ = some (.int .i64 i) ∧ W'.cell? ⟨g0, 2, none⟩ = some (.int .i64 i2))) (by kernel_rfl) (by ((try dsimp only) <;> (first | with_reducible exact hS0 | with_reducible exact hS1))) (fun hHeld => ?_)
                        (refine wpAnyH_take (i := 0) (oi := _) (v := ?v135) rfl (by kernel_rfl) (by kernel_rfl) (by kernel_rfl) (fun _ _ _ h => h) (Or.inl ⟨by rfl, ?hy135⟩) (by assumption) ?rest135; (case hy135 => (first | (intro w hSw; (try dsimp only at hSw); go_simp; done) | (intro w hSw; (try dsimp only at hSw); go_simp; with_reducible rfl))); (try simp only [Act.put, List.getElem_toArray, List.getElem_cons_succ, List.getElem_cons_zero, List.setIfInBounds_toArray, List.set_cons_zero, List.set_cons_succ]))
                        (refine wpAnyH_take (i := 1) (oi := _) (v := ?v136) rfl (by kernel_rfl) (by kernel_rfl) (by kernel_rfl) (fun _ _ _ h => h) (Or.inl ⟨by rfl, ?hy136⟩) (by assumption) ?rest136; (case hy136 => (first | (intro w hSw; (try dsimp only at hSw); go_simp; done) | (intro w hSw; (try dsimp only at hSw); go_simp; with_reducible rfl))); (try simp only [Act.put, List.getElem_toArray, List.getElem_cons_succ, List.getElem_cons_zero, List.setIfInBounds_toArray, List.set_cons_zero, List.set_cons_succ]))
                        (refine wpAnyH_take (i := 2) (oi := _) (v := ?v137) rfl (by kernel_rfl) (by kernel_rfl) (by kernel_rfl) (fun _ _ _ h => h) (Or.inl ⟨by rfl, ?hy137⟩) (by assumption) ?rest137; (case hy137 => (first | (intro w hSw; (try dsimp only at hSw); go_simp; done) | (intro w hSw; (try dsimp only at hSw); go_simp; with_reducible rfl))); (try simp only [Act.put, List.getElem_toArray, List.getElem_cons_succ, List.getElem_cons_zero, List.setIfInBounds_toArray, List.set_cons_zero, List.set_cons_succ]))
                        (refine wpAnyH_take (i := 3) (oi := _) (v := ?v138) rfl (by kernel_rfl) (by kernel_rfl) (by kernel_rfl) (fun _ _ _ h => h) (Or.inl ⟨by rfl, ?hy138⟩) (by assumption) ?rest138; (case hy138 => (first | (intro w hSw; (try dsimp only at hSw); go_simp; done) | (intro w hSw; (try dsimp only at hSw); go_simp; with_reducible rfl))); (try simp only [Act.put, List.getElem_toArray, List.getElem_cons_succ, List.getElem_cons_zero, List.setIfInBounds_toArray, List.set_cons_zero, List.set_cons_succ]))
                        (refine wpAnyH_take (i := 4) (oi := _) (v := ?v139) rfl (by kernel_rfl) (by kernel_rfl) (by kernel_rfl) (fun _ _ _ h => h) (Or.inl ⟨by rfl, ?hy139⟩) (by assumption) ?rest139; (case hy139 => (first | (intro w hSw; (try dsimp only at hSw); go_simp; done) | (intro w hSw; (try dsimp only at hSw); go_simp; with_reducible rfl))); (try simp only [Act.put, List.getElem_toArray, List.getElem_cons_succ, List.getElem_cons_zero, List.setIfInBounds_toArray, List.set_cons_zero, List.set_cons_succ]))
                        (refine wpAnyH_take (i := 5) (oi := _) (v := ?v140) rfl (by kernel_rfl) (by kernel_rfl) (by kernel_rfl) (fun _ _ _ h => h) (Or.inl ⟨by rfl, ?hy140⟩) (by assumption) ?rest140; (case hy140 => (first | (intro w hSw; (try dsimp only at hSw); go_simp; done) | (intro w hSw; (try dsimp only at hSw); go_simp; with_reducible rfl))); (try simp only [Act.put, List.getElem_toArray, List.getElem_cons_succ, List.getElem_cons_zero, List.setIfInBounds_toArray, List.set_cons_zero, List.set_cons_succ]))
                        (refine wpAnyH_take (i := 6) (oi := _) (v := ?v141) rfl (by kernel_rfl) (by kernel_rfl) (by kernel_rfl) (fun _ _ _ h => h) (Or.inl ⟨by rfl, ?hy141⟩) (by assumption) ?rest141; (case hy141 => (first | (intro w hSw; (try dsimp only at hSw); go_simp; done) | (intro w hSw; (try dsimp only at hSw); go_simp; with_reducible rfl))); (try simp only [Act.put, List.getElem_toArray, List.getElem_cons_succ, List.getElem_cons_zero, List.setIfInBounds_toArray, List.set_cons_zero, List.set_cons_succ]))
                        (refine wpAnyH_take (i := 7) (oi := _) (v := ?v142) rfl (by kernel_rfl) (by kernel_rfl) (by kernel_rfl) (fun _ _ _ h => h) (Or.inl ⟨by rfl, ?hy142⟩) (by assumption) ?rest142; (case hy142 => (first | (intro w hSw; (try dsimp only at hSw); go_simp; done) | (intro w hSw; (try dsimp only at hSw); go_simp; with_reducible rfl))); (try simp only [Act.put, List.getElem_toArray, List.getElem_cons_succ, List.getElem_cons_zero, List.setIfInBounds_toArray, List.set_cons_zero, List.set_cons_succ]))
                        (refine wpAnyH_take (i := 8) (oi := _) (v := ?v143) rfl (by kernel_rfl) (by kernel_rfl) (by kernel_rfl) (fun _ _ _ h => h) (Or.inl ⟨by rfl, ?hy143⟩) (by assumption) ?rest143; (case hy143 => (first | (intro w hSw; (try dsimp only at hSw); go_simp; done) | (intro w hSw; (try dsimp only at hSw); go_simp; with_reducible rfl))); (try simp only [Act.put, List.getElem_toArray, List.getElem_cons_succ, List.getElem_cons_zero, List.setIfInBounds_toArray, List.set_cons_zero, List.set_cons_succ]))
                        (refine wpAnyH_take (i := 9) (oi := _) (v := ?v144) rfl (by kernel_rfl) (by kernel_rfl) (by kernel_rfl) (fun _ _ _ h => h) (Or.inl ⟨by rfl, ?hy144⟩) (by assumption) ?rest144; (case hy144 => (first | (intro w hSw; (try dsimp only at hSw); go_simp; done) | (intro w hSw; (try dsimp only at hSw); go_simp; with_reducible rfl))); (try simp only [Act.put, List.getElem_toArray, List.getElem_cons_succ, List.getElem_cons_zero, List.setIfInBounds_toArray, List.set_cons_zero, List.set_cons_succ]))
                        (refine wpAnyH_take (i := 10) (oi := _) (v := ?v145) rfl (by kernel_rfl) (by kernel_rfl) (by kernel_rfl) (fun _ _ _ h => h) (Or.inl ⟨by rfl, ?hy145⟩) (by assumption) ?rest145; (case hy145 => (first | (intro w hSw; (try dsimp only at hSw); go_simp; done) | (intro w hSw; (try dsimp only at hSw); go_simp; with_reducible rfl))); (try simp only [Act.put, List.getElem_toArray, List.getElem_cons_succ, List.getElem_cons_zero, List.setIfInBounds_toArray, List.set_cons_zero, List.set_cons_succ]))
                        refine wpAnyH_ready (rs := [11]) (by kernel_rfl) (by simp) ?_
                        refine AllReadyH.cons (o := _) rfl (fun K hK => ?_) AllReadyH.nil
                        try simp only [List.getElem_toArray, List.getElem_cons_succ, List.getElem_cons_zero]
                        go_simp
                        (first
                              | (go_at_call 32; refine HX2.out.mono ?_; rintro e w11 ⟨v11, rfl, ho11, hb11⟩; have hS1 := kept4 hb11 hS0))
                        first | (refine hK.out _ _ (by ((try dsimp only) <;> (first | with_reducible exact hS0 | with_reducible exact hS1))) (fun hHeld => ?_)) | (go_wp2_with fail; refine hK.out _ _ (by ((try dsimp only) <;> (first | with_reducible exact hS0 | with_reducible exact hS1))) (fun hHeld => ?_))
                        clear hK K
                        (try simp only [Act.put, List.getElem_toArray, List.getElem_cons_succ, List.getElem_cons_zero, List.setIfInBounds_toArray, List.set_cons_zero, List.set_cons_succ])
                        (refine wpAnyH_take (i := 12) (oi := _) (v := ?v146) rfl (by kernel_rfl) (by kernel_rfl) (by kernel_rfl) (fun _ _ _ h => h) (Or.inl ⟨by rfl, ?hy146⟩) (by assumption) ?rest146; (case hy146 => (first | (intro w hSw; (try dsimp only at hSw); go_simp; done) | (intro w hSw; (try dsimp only at hSw); go_simp; with_reducible rfl))); (try simp only [Act.put, List.getElem_toArray, List.getElem_cons_succ, List.getElem_cons_zero, List.setIfInBounds_toArray, List.set_cons_zero, List.set_cons_succ]))
                        (refine wpAnyH_take (i := 13) (oi := _) (v := ?v147) rfl (by kernel_rfl) (by kernel_rfl) (by kernel_rfl) (fun _ _ _ h => h) (Or.inl ⟨by rfl, ?hy147⟩) (by assumption) ?rest147; (case hy147 => (first | (intro w hSw; (try dsimp only at hSw); go_simp; done) | (intro w hSw; (try dsimp only at hSw); go_simp; with_reducible rfl))); (try simp only [Act.put, List.getElem_toArray, List.getElem_cons_succ, List.getElem_cons_zero, List.setIfInBounds_toArray, List.set_cons_zero, List.set_cons_succ]))
                        (refine wpAnyH_take (i := 14) (oi := _) (v := ?v148) rfl (by kernel_rfl) (by kernel_rfl) (by kernel_rfl) (fun _ _ _ h => h) (Or.inl ⟨by rfl, ?hy148⟩) (by assumption) ?rest148; (case hy148 => (first | (intro w hSw; (try dsimp only at hSw); go_simp; done) | (intro w hSw; (try dsimp only at hSw); go_simp; with_reducible rfl))); (try simp only [Act.put, List.getElem_toArray, List.getElem_cons_succ, List.getElem_cons_zero, List.setIfInBounds_toArray, List.set_cons_zero, List.set_cons_succ]))
                        (refine wpAnyH_take (i := 15) (oi := _) (v := ?v149) rfl (by kernel_rfl) (by kernel_rfl) (by kernel_rfl) (fun _ _ _ h => h) (Or.inl ⟨by rfl, ?hy149⟩) (by assumption) ?rest149; (case hy149 => (first | (intro w hSw; (try dsimp only at hSw); go_simp; done) | (intro w hSw; (try dsimp only at hSw); go_simp; with_reducible rfl))); (try simp only [Act.put, List.getElem_toArray, List.getElem_cons_succ, List.getElem_cons_zero, List.setIfInBounds_toArray, List.set_cons_zero, List.set_cons_succ]))
                        refine wpAnyH_done (by kernel_rfl) ?_ _
                        obtain ⟨a11, c11, rfl⟩ := own_form ho11
                        have hb11w := Below.next hbw hb11
                        have HL2 := hide (HL.out.below hb11w)
                        have hB11 := Below.next hB hb11w
                        have hsz2 := hB11.size
                        have hRu := HWz.out.row ho11
                        clear hS0 hS1 d1 d2 r0 r1 r2 r3 n10 hN9
                        go_wp2_with (at_builtin; refine wpList_append_lies _ rfl _ _ _ rfl w5.heap.size 35 i0 _ 1 24 Try.underlying26 hi0 hz0 hz1 hz2 rfl (by omega) (.slice (some ⟨gv, 0, none⟩) yss.length cv') yss.length us rfl (HL2.out.row.alloc _) ⟨w11.heap.size, 0, none⟩ 1 1 [.slice a11 z.length c11] rfl rfl (World.news_of_block (cs := #[.slice a11 z.length c11]) (t := 35) (fr := (0, 0)) (heap_alloc_new w11 _)) (by simp [Value.oneCell']) (by omega) (by unfold maxLen; omega) (by omega) (by simp; omega) (w11.heap.size + 1) (by simp) ?_; intro gg cap2 w12 hown3 hgrow hat hltg)
                        have R := hide (HL2.out.push hRu (fun _ b hb => by
                          have h1 := own_base ho11 b hb
                          intro e
                          have h2 := own_top HL.out.row b e
                          have h3 := hbw.size
                          omega) hown3 hgrow hat)
                        have hB12 : Below w5.heap.size w5 w12 := (hB11.alloc hB11.size _).grown hgrow (by simp; omega) (fun k hk => own_base HL2.out.row k hk)
                        rw [HS.out] at R
                        clear hown3 hgrow hat hltg hRu
                        go_roundw
                        case rel => exact ⟨j + 1, _, by omega, by go_num, R, hB12⟩
                        case measure => simp [intOf]; omega
                      · have HS : Hid (rnL (Rt f) (xss.map tr) (qt.ops.take j) ++ [subL f ((rnL (Rt f) (xss.map tr) (qt.ops.take j)).getD qt.ops[j].a.toNat []) ((rnL (Rt f) (xss.map tr) (qt.ops.take j)).getD qt.ops[j].b.toNat [])] = rnL (Rt f) (xss.map tr) (qt.ops.take (j + 1))) := by
                          show _ = _
                          rw [hS0]; unfold rnS; rw [if_neg (by omega), if_pos hk]; rfl
                        have HWz : Hid (Wd (subL f ((rnL (Rt f) (xss.map tr) (qt.ops.take j)).getD qt.ops[j].a.toNat []) ((rnL (Rt f) (xss.map tr) (qt.ops.take j)).getD qt.ops[j].b.toNat []))) := lim_wd HFi.out.top (HAllL.out (j + 1) _ (by rw [← HS.out]; simp))
                        obtain ⟨⟨a0, b0⟩, a1, b1⟩ := ha (by omega)
                        rw [hk] at o0
                        rw [← hln] at a1 b1
                        have r1 := HL.out.each _ a1
                        have r2 := HL.out.each _ b1
                        have hul := HL.out.len
                        obtain ⟨gv, cv', rfl⟩ := own_at HL.out.row (by omega)
                        have ca := (HL.out.row.cellAt qt.ops[j].a.toNat (by omega)).trans (show us[qt.ops[j].a.toNat]? = some (us.getD qt.ops[j].a.toNat nov) by rw [List.getD_eq_getElem?_getD, List.getElem?_eq_getElem (by omega)]; rfl)
                        have cb := (HL.out.row.cellAt qt.ops[j].b.toNat (by omega)).trans (show us[qt.ops[j].b.toNat]? = some (us.getD qt.ops[j].b.toNat nov) by rw [List.getD_eq_getElem?_getD, List.getElem?_eq_getElem (by omega)]; rfl)
                        have hgv := own_top HL.out.row gv rfl
                        have HX := hide (fun W (hb : Below wr.heap.size wr W) => dSub_any f _ _ _ _ W (r1.below hb) (r2.below hb))
                        unfold Gives at HX
                        obtain ⟨ax, cx, hax, _⟩ := r1.spell
                        obtain ⟨ay, cy, hay, _⟩ := r2.spell
                        rw [hax] at ca HX
                        rw [hay] at cb HX
                        clear r1 r2 hax hay hS0 ha hk hul
                        generalize (rnL (Rt f) (xss.map tr) (qt.ops.take j)).getD qt.ops[j].a.toNat [] = xs at *
                        generalize (rnL (Rt f) (xss.map tr) (qt.ops.take j)).getD qt.ops[j].b.toNat [] = ys at *
                        generalize subL f xs ys = z at *
                        have hyl : (rnL (Rt f) (xss.map tr) (qt.ops.take j)).length ≤ 320 := by omega
                        clear hln
                        generalize rnL (Rt f) (xss.map tr) (qt.ops.take j) = yss at *
                        generalize qt.ops[j] = o at *
                        obtain ⟨k, oa, ob, c⟩ := o
                        dsimp only at *
                        obtain ⟨i, rfl⟩ : ∃ i : Nat, oa = i := ⟨oa.toNat, by omega⟩
                        obtain ⟨i2, rfl⟩ : ∃ i : Nat, ob = i := ⟨ob.toNat, by omega⟩
                        simp only [Int.toNat_natCast] at *
                        have hA9 := alloc_below wr (.cells #[.int .u8 2, .int .i64 i, .int .i64 i2, .int .u64 c] 67)
                        have hN9 := heap_alloc_new wr (.cells #[.int .u8 2, .int .i64 i, .int .i64 i2, .int .u64 c] 67)
                        have i1 : (i : Int) < (yss.length : Int) := by omega
                        have i3 : (i2 : Int) < (yss.length : Int) := by omega
                        go_upto_region 26 with fail
                        generalize wr.alloc (.cells #[.int .u8 2, .int .i64 i, .int .i64 i2, .int .u64 c] 67) = w9 at *
                        obtain ⟨g0, HG0⟩ : ∃ g0, Hid (wr.heap.size = g0) := ⟨_, rfl⟩
                        have hA9' := hA9
                        rw [HG0.out] at hN9 ⊢
                        have HS9 : Hid (∀ V, Below w9.heap.size w9 V → V.cell? ⟨g0, 3, none⟩ = some (.int .u64 c)) := fun V hb => (cells4 ((hb.block _ (Array.getElem?_eq_some_iff.1 hN9).1).trans hN9)).2.2.2
                        have hdr9 : Below w9.heap.size w9 w9.drew := (Below.refl _ w9).drew
                        have hS0 := HS9.out _ hdr9
                        have hS2 := fun ob => HS9.out (w9.alloc ob).drew (alloc_below w9 ob).drew
                        have HPq := hide (fun W => rP_yes f p wd W HFi.out)
                        have hct : c.tmod p = c % p := Int.tmod_eq_emod_of_nonneg hoc.1
                        have hbt : Below w9.heap.size w9 (w9.alloc (.cells #[.int .u64 (c.tmod p)] 36)).drew := (alloc_below w9 _).drew
                        have HTc : Hid (Calls Try.prog 28 #[.slice (some ⟨w9.heap.size, 0, none⟩) 1 1] (w9.alloc (.cells #[.int .u64 (c.tmod p)] 36)).drew fun e w' => ∃ v', e = .returned v' ∧ w'.ownsRow w9.heap.size 36 1 v' (tr [c % p]).length (vals (tr [c % p])) ∧ Below w9.heap.size w9 w') := by
                          have h1 := HTr.out _ [c.tmod p] _ ((rw1 w9 (c.tmod p) (by rw [hct]; exact elWord (emod_el HFi.out.pos c) HFi.out.top) 36).below ((Below.refl _ (w9.alloc (.cells #[.int .u64 (c.tmod p)] 36))).drew))
                          rw [show tr [c.tmod p] = tr [c % p] by rw [hct]] at h1
                          exact h1.mono fun e w' ⟨v', he, ho, hb⟩ => ⟨v', he, own_mono ho hbt.size, Below.next hbt hb⟩
                        clear hct
                        refine wp_region_held_drew (S := (fun V => V.cell? ⟨g0, 3, none⟩ = some (.int .u64 c))) (by kernel_rfl) (by ((try dsimp only) <;> (first | with_reducible exact hS5 | with_reducible exact hS2 _ | with_reducible exact hS0))) (fun hHeld => ?_)
                        (refine wpAnyH_take (i := 0) (oi := _) (v := ?v150) rfl (by kernel_rfl) (by kernel_rfl) (by kernel_rfl) (fun _ _ _ h => h) (Or.inl ⟨by rfl, ?hy150⟩) (by assumption) ?rest150; (case hy150 => (first | (intro w hSw; (try dsimp only at hSw); go_simp; done) | (intro w hSw; (try dsimp only at hSw); go_simp; with_reducible rfl))); (try simp only [Act.put, List.getElem_toArray, List.getElem_cons_succ, List.getElem_cons_zero, List.setIfInBounds_toArray, List.set_cons_zero, List.set_cons_succ]))
                        (refine wpAnyH_take (i := 1) (oi := _) (v := ?v151) rfl (by kernel_rfl) (by kernel_rfl) (by kernel_rfl) (fun _ _ _ h => h) (Or.inl ⟨by rfl, ?hy151⟩) (by assumption) ?rest151; (case hy151 => (first | (intro w hSw; (try dsimp only at hSw); go_simp; done) | (intro w hSw; (try dsimp only at hSw); go_simp; with_reducible rfl))); (try simp only [Act.put, List.getElem_toArray, List.getElem_cons_succ, List.getElem_cons_zero, List.setIfInBounds_toArray, List.set_cons_zero, List.set_cons_succ]))
                        (refine wpAnyH_take (i := 2) (oi := _) (v := ?v152) rfl (by kernel_rfl) (by kernel_rfl) (by kernel_rfl) (fun _ _ _ h => h) (Or.inl ⟨by rfl, ?hy152⟩) (by assumption) ?rest152; (case hy152 => (first | (intro w hSw; (try dsimp only at hSw); go_simp; done) | (intro w hSw; (try dsimp only at hSw); go_simp; with_reducible rfl))); (try simp only [Act.put, List.getElem_toArray, List.getElem_cons_succ, List.getElem_cons_zero, List.setIfInBounds_toArray, List.set_cons_zero, List.set_cons_succ]))
                        refine wpAnyH_ready (rs := [3]) (by kernel_rfl) (by simp) ?_
                        refine AllReadyH.cons (o := _) rfl (fun K hK => ?_) AllReadyH.nil
                        try simp only [List.getElem_toArray, List.getElem_cons_succ, List.getElem_cons_zero]
                        go_simp
                        (first
                              | (go_at_call 31; refine (HPq.out _).mono ?_; rintro e wq ⟨rfl, hw⟩; rw [hw]; clear hw)
                              | (go_at_call 28; refine HTc.out.mono ?_; rintro e w10 ⟨v10, rfl, ho10, hb10'⟩; have hS5 := HS9.out _ hb10'))
                        first | (refine hK.out _ _ (by ((try dsimp only) <;> (first | with_reducible exact hS5 | with_reducible exact hS2 _ | with_reducible exact hS0))) (fun hHeld => ?_)) | (go_wp2_with fail; refine hK.out _ _ (by ((try dsimp only) <;> (first | with_reducible exact hS5 | with_reducible exact hS2 _ | with_reducible exact hS0))) (fun hHeld => ?_))
                        clear hK K
                        (try simp only [Act.put, List.getElem_toArray, List.getElem_cons_succ, List.getElem_cons_zero, List.setIfInBounds_toArray, List.set_cons_zero, List.set_cons_succ])
                        (refine wpAnyH_take (i := 4) (oi := _) (v := ?v153) rfl (by kernel_rfl) (by kernel_rfl) (by kernel_rfl) (fun _ _ _ h => h) (Or.inl ⟨by rfl, ?hy153⟩) (by assumption) ?rest153; (case hy153 => (first | (intro w hSw; (try dsimp only at hSw); go_simp; done) | (intro w hSw; (try dsimp only at hSw); go_simp; with_reducible rfl))); (try simp only [Act.put, List.getElem_toArray, List.getElem_cons_succ, List.getElem_cons_zero, List.setIfInBounds_toArray, List.set_cons_zero, List.set_cons_succ]))
                        refine wpAnyH_ready (rs := [5]) (by kernel_rfl) (by simp) ?_
                        refine AllReadyH.cons (o := _) rfl (fun K hK => ?_) AllReadyH.nil
                        try simp only [List.getElem_toArray, List.getElem_cons_succ, List.getElem_cons_zero]
                        go_simp
                        refine hK.out _ _ (by ((try dsimp only) <;> (first | with_reducible exact hS5 | with_reducible exact hS2 _ | with_reducible exact hS0))) (fun hHeld => ?_)
                        clear hK K
                        (try simp only [Act.put, List.getElem_toArray, List.getElem_cons_succ, List.getElem_cons_zero, List.setIfInBounds_toArray, List.set_cons_zero, List.set_cons_succ])
                        refine wpAnyH_ready (rs := [6]) (by kernel_rfl) (by simp) ?_
                        refine AllReadyH.cons (o := _) rfl (fun K hK => ?_) AllReadyH.nil
                        try simp only [List.getElem_toArray, List.getElem_cons_succ, List.getElem_cons_zero]
                        go_simp
                        (first
                              | (go_at_call 31; refine (HPq.out _).mono ?_; rintro e wq ⟨rfl, hw⟩; rw [hw]; clear hw)
                              | (go_at_call 28; refine HTc.out.mono ?_; rintro e w10 ⟨v10, rfl, ho10, hb10'⟩; have hS5 := HS9.out _ hb10'))
                        first | (refine hK.out _ _ (by ((try dsimp only) <;> (first | with_reducible exact hS5 | with_reducible exact hS2 _ | with_reducible exact hS0))) (fun hHeld => ?_)) | (go_wp2_with fail; refine hK.out _ _ (by ((try dsimp only) <;> (first | with_reducible exact hS5 | with_reducible exact hS2 _ | with_reducible exact hS0))) (fun hHeld => ?_))
                        clear hK K
                        (try simp only [Act.put, List.getElem_toArray, List.getElem_cons_succ, List.getElem_cons_zero, List.setIfInBounds_toArray, List.set_cons_zero, List.set_cons_succ])
                        (refine wpAnyH_take (i := 7) (oi := _) (v := ?v154) rfl (by kernel_rfl) (by kernel_rfl) (by kernel_rfl) (fun _ _ _ h => h) (Or.inl ⟨by rfl, ?hy154⟩) (by assumption) ?rest154; (case hy154 => (first | (intro w hSw; (try dsimp only at hSw); go_simp; done) | (intro w hSw; (try dsimp only at hSw); go_simp; with_reducible rfl))); (try simp only [Act.put, List.getElem_toArray, List.getElem_cons_succ, List.getElem_cons_zero, List.setIfInBounds_toArray, List.set_cons_zero, List.set_cons_succ]))
                        refine wpAnyH_done (by kernel_rfl) ?_ _
                        have hb10w := Below.next hA9 hb10'
                        clear ho10 hS0 hS2 hS5 HTc HPq
                        have n10 := (hb10'.block _ (Array.getElem?_eq_some_iff.1 hN9).1).trans hN9
                        obtain ⟨r0, r1, r2, r3⟩ := cells4 n10
                        have d1 := (hb10w.cell (p := ⟨gv, i, none⟩) hgv).trans ca
                        have d2 := (hb10w.cell (p := ⟨gv, i2, none⟩) hgv).trans cb
                        have hbw := Below.next hb10w ((Below.refl _ w10).drew)
                        have HX2 := hide (HX.out _ hbw)
                        go_upto_region 31 with fail
                        have hS0 : w10.drew.cell? ⟨gv, i, none⟩ = some (.slice ax xs.length cx) ∧ w10.drew.cell? ⟨gv, i2, none⟩ = some (.slice ay ys.length cy) ∧ w10.drew.cell? ⟨g0, 1, none⟩ = some (.int .i64 i) ∧ w10.drew.cell? ⟨g0, 2, none⟩ = some (.int .i64 i2) := ⟨d1, d2, r1, r2⟩
                        refine wp_region_held_drew (S := (fun W' => W'.cell? ⟨gv, i, none⟩ = some (.slice ax xs.length cx) ∧ W'.cell? ⟨gv, i2, none⟩ = some (.slice ay ys.length cy) ∧ W'.cell? ⟨g0, 1, none⟩ = some (.int .i64 i) ∧ W'.cell? ⟨g0, 2, none⟩ = some (.int .i64 i2))) (by kernel_rfl) (by ((try dsimp only) <;> (first | with_reducible exact hS0 | with_reducible exact hS1))) (fun hHeld => ?_)
                        (refine wpAnyH_take (i := 0) (oi := _) (v := ?v155) rfl (by kernel_rfl) (by kernel_rfl) (by kernel_rfl) (fun _ _ _ h => h) (Or.inl ⟨by rfl, ?hy155⟩) (by assumption) ?rest155; (case hy155 => (first | (intro w hSw; (try dsimp only at hSw); go_simp; done) | (intro w hSw; (try dsimp only at hSw); go_simp; with_reducible rfl))); (try simp only [Act.put, List.getElem_toArray, List.getElem_cons_succ, List.getElem_cons_zero, List.setIfInBounds_toArray, List.set_cons_zero, List.set_cons_succ]))
                        (refine wpAnyH_take (i := 1) (oi := _) (v := ?v156) rfl (by kernel_rfl) (by kernel_rfl) (by kernel_rfl) (fun _ _ _ h => h) (Or.inl ⟨by rfl, ?hy156⟩) (by assumption) ?rest156; (case hy156 => (first | (intro w hSw; (try dsimp only at hSw); go_simp; done) | (intro w hSw; (try dsimp only at hSw); go_simp; with_reducible rfl))); (try simp only [Act.put, List.getElem_toArray, List.getElem_cons_succ, List.getElem_cons_zero, List.setIfInBounds_toArray, List.set_cons_zero, List.set_cons_succ]))
                        (refine wpAnyH_take (i := 2) (oi := _) (v := ?v157) rfl (by kernel_rfl) (by kernel_rfl) (by kernel_rfl) (fun _ _ _ h => h) (Or.inl ⟨by rfl, ?hy157⟩) (by assumption) ?rest157; (case hy157 => (first | (intro w hSw; (try dsimp only at hSw); go_simp; done) | (intro w hSw; (try dsimp only at hSw); go_simp; with_reducible rfl))); (try simp only [Act.put, List.getElem_toArray, List.getElem_cons_succ, List.getElem_cons_zero, List.setIfInBounds_toArray, List.set_cons_zero, List.set_cons_succ]))
                        (refine wpAnyH_take (i := 3) (oi := _) (v := ?v158) rfl (by kernel_rfl) (by kernel_rfl) (by kernel_rfl) (fun _ _ _ h => h) (Or.inl ⟨by rfl, ?hy158⟩) (by assumption) ?rest158; (case hy158 => (first | (intro w hSw; (try dsimp only at hSw); go_simp; done) | (intro w hSw; (try dsimp only at hSw); go_simp; with_reducible rfl))); (try simp only [Act.put, List.getElem_toArray, List.getElem_cons_succ, List.getElem_cons_zero, List.setIfInBounds_toArray, List.set_cons_zero, List.set_cons_succ]))
                        (refine wpAnyH_take (i := 4) (oi := _) (v := ?v159) rfl (by kernel_rfl) (by kernel_rfl) (by kernel_rfl) (fun _ _ _ h => h) (Or.inl ⟨by rfl, ?hy159⟩) (by assumption) ?rest159; (case hy159 => (first | (intro w hSw; (try dsimp only at hSw); go_simp; done) | (intro w hSw; (try dsimp only at hSw); go_simp; with_reducible rfl))); (try simp only [Act.put, List.getElem_toArray, List.getElem_cons_succ, List.getElem_cons_zero, List.setIfInBounds_toArray, List.set_cons_zero, List.set_cons_succ]))
                        (refine wpAnyH_take (i := 5) (oi := _) (v := ?v160) rfl (by kernel_rfl) (by kernel_rfl) (by kernel_rfl) (fun _ _ _ h => h) (Or.inl ⟨by rfl, ?hy160⟩) (by assumption) ?rest160; (case hy160 => (first | (intro w hSw; (try dsimp only at hSw); go_simp; done) | (intro w hSw; (try dsimp only at hSw); go_simp; with_reducible rfl))); (try simp only [Act.put, List.getElem_toArray, List.getElem_cons_succ, List.getElem_cons_zero, List.setIfInBounds_toArray, List.set_cons_zero, List.set_cons_succ]))
                        (refine wpAnyH_take (i := 6) (oi := _) (v := ?v161) rfl (by kernel_rfl) (by kernel_rfl) (by kernel_rfl) (fun _ _ _ h => h) (Or.inl ⟨by rfl, ?hy161⟩) (by assumption) ?rest161; (case hy161 => (first | (intro w hSw; (try dsimp only at hSw); go_simp; done) | (intro w hSw; (try dsimp only at hSw); go_simp; with_reducible rfl))); (try simp only [Act.put, List.getElem_toArray, List.getElem_cons_succ, List.getElem_cons_zero, List.setIfInBounds_toArray, List.set_cons_zero, List.set_cons_succ]))
                        (refine wpAnyH_take (i := 7) (oi := _) (v := ?v162) rfl (by kernel_rfl) (by kernel_rfl) (by kernel_rfl) (fun _ _ _ h => h) (Or.inl ⟨by rfl, ?hy162⟩) (by assumption) ?rest162; (case hy162 => (first | (intro w hSw; (try dsimp only at hSw); go_simp; done) | (intro w hSw; (try dsimp only at hSw); go_simp; with_reducible rfl))); (try simp only [Act.put, List.getElem_toArray, List.getElem_cons_succ, List.getElem_cons_zero, List.setIfInBounds_toArray, List.set_cons_zero, List.set_cons_succ]))
                        (refine wpAnyH_take (i := 8) (oi := _) (v := ?v163) rfl (by kernel_rfl) (by kernel_rfl) (by kernel_rfl) (fun _ _ _ h => h) (Or.inl ⟨by rfl, ?hy163⟩) (by assumption) ?rest163; (case hy163 => (first | (intro w hSw; (try dsimp only at hSw); go_simp; done) | (intro w hSw; (try dsimp only at hSw); go_simp; with_reducible rfl))); (try simp only [Act.put, List.getElem_toArray, List.getElem_cons_succ, List.getElem_cons_zero, List.setIfInBounds_toArray, List.set_cons_zero, List.set_cons_succ]))
                        (refine wpAnyH_take (i := 9) (oi := _) (v := ?v164) rfl (by kernel_rfl) (by kernel_rfl) (by kernel_rfl) (fun _ _ _ h => h) (Or.inl ⟨by rfl, ?hy164⟩) (by assumption) ?rest164; (case hy164 => (first | (intro w hSw; (try dsimp only at hSw); go_simp; done) | (intro w hSw; (try dsimp only at hSw); go_simp; with_reducible rfl))); (try simp only [Act.put, List.getElem_toArray, List.getElem_cons_succ, List.getElem_cons_zero, List.setIfInBounds_toArray, List.set_cons_zero, List.set_cons_succ]))
                        (refine wpAnyH_take (i := 10) (oi := _) (v := ?v165) rfl (by kernel_rfl) (by kernel_rfl) (by kernel_rfl) (fun _ _ _ h => h) (Or.inl ⟨by rfl, ?hy165⟩) (by assumption) ?rest165; (case hy165 => (first | (intro w hSw; (try dsimp only at hSw); go_simp; done) | (intro w hSw; (try dsimp only at hSw); go_simp; with_reducible rfl))); (try simp only [Act.put, List.getElem_toArray, List.getElem_cons_succ, List.getElem_cons_zero, List.setIfInBounds_toArray, List.set_cons_zero, List.set_cons_succ]))
                        refine wpAnyH_ready (rs := [11]) (by kernel_rfl) (by simp) ?_
                        refine AllReadyH.cons (o := _) rfl (fun K hK => ?_) AllReadyH.nil
                        try simp only [List.getElem_toArray, List.getElem_cons_succ, List.getElem_cons_zero]
                        go_simp
                        (first
                              | (go_at_call 33; refine HX2.out.mono ?_; rintro e w11 ⟨v11, rfl, ho11, hb11⟩; have hS1 := kept4 hb11 hS0))
                        first | (refine hK.out _ _ (by ((try dsimp only) <;> (first | with_reducible exact hS0 | with_reducible exact hS1))) (fun hHeld => ?_)) | (go_wp2_with fail; refine hK.out _ _ (by ((try dsimp only) <;> (first | with_reducible exact hS0 | with_reducible exact hS1))) (fun hHeld => ?_))
                        clear hK K
                        (try simp only [Act.put, List.getElem_toArray, List.getElem_cons_succ, List.getElem_cons_zero, List.setIfInBounds_toArray, List.set_cons_zero, List.set_cons_succ])
                        (refine wpAnyH_take (i := 12) (oi := _) (v := ?v166) rfl (by kernel_rfl) (by kernel_rfl) (by kernel_rfl) (fun _ _ _ h => h) (Or.inl ⟨by rfl, ?hy166⟩) (by assumption) ?rest166; (case hy166 => (first | (intro w hSw; (try dsimp only at hSw); go_simp; done) | (intro w hSw; (try dsimp only at hSw); go_simp; with_reducible rfl))); (try simp only [Act.put, List.getElem_toArray, List.getElem_cons_succ, List.getElem_cons_zero, List.setIfInBounds_toArray, List.set_cons_zero, List.set_cons_succ]))
                        (refine wpAnyH_take (i := 13) (oi := _) (v := ?v167) rfl (by kernel_rfl) (by kernel_rfl) (by kernel_rfl) (fun _ _ _ h => h) (Or.inl ⟨by rfl, ?hy167⟩) (by assumption) ?rest167; (case hy167 => (first | (intro w hSw; (try dsimp only at hSw); go_simp; done) | (intro w hSw; (try dsimp only at hSw); go_simp; with_reducible rfl))); (try simp only [Act.put, List.getElem_toArray, List.getElem_cons_succ, List.getElem_cons_zero, List.setIfInBounds_toArray, List.set_cons_zero, List.set_cons_succ]))
                        (refine wpAnyH_take (i := 14) (oi := _) (v := ?v168) rfl (by kernel_rfl) (by kernel_rfl) (by kernel_rfl) (fun _ _ _ h => h) (Or.inl ⟨by rfl, ?hy168⟩) (by assumption) ?rest168; (case hy168 => (first | (intro w hSw; (try dsimp only at hSw); go_simp; done) | (intro w hSw; (try dsimp only at hSw); go_simp; with_reducible rfl))); (try simp only [Act.put, List.getElem_toArray, List.getElem_cons_succ, List.getElem_cons_zero, List.setIfInBounds_toArray, List.set_cons_zero, List.set_cons_succ]))
                        (refine wpAnyH_take (i := 15) (oi := _) (v := ?v169) rfl (by kernel_rfl) (by kernel_rfl) (by kernel_rfl) (fun _ _ _ h => h) (Or.inl ⟨by rfl, ?hy169⟩) (by assumption) ?rest169; (case hy169 => (first | (intro w hSw; (try dsimp only at hSw); go_simp; done) | (intro w hSw; (try dsimp only at hSw); go_simp; with_reducible rfl))); (try simp only [Act.put, List.getElem_toArray, List.getElem_cons_succ, List.getElem_cons_zero, List.setIfInBounds_toArray, List.set_cons_zero, List.set_cons_succ]))
                        refine wpAnyH_done (by kernel_rfl) ?_ _
                        obtain ⟨a11, c11, rfl⟩ := own_form ho11
                        have hb11w := Below.next hbw hb11
                        have HL2 := hide (HL.out.below hb11w)
                        have hB11 := Below.next hB hb11w
                        have hsz2 := hB11.size
                        have hRu := HWz.out.row ho11
                        clear hS0 hS1 d1 d2 r0 r1 r2 r3 n10 hN9
                        go_wp2_with (at_builtin; refine wpList_append_lies _ rfl _ _ _ rfl w5.heap.size 35 i0 _ 1 24 Try.underlying26 hi0 hz0 hz1 hz2 rfl (by omega) (.slice (some ⟨gv, 0, none⟩) yss.length cv') yss.length us rfl (HL2.out.row.alloc _) ⟨w11.heap.size, 0, none⟩ 1 1 [.slice a11 z.length c11] rfl rfl (World.news_of_block (cs := #[.slice a11 z.length c11]) (t := 35) (fr := (0, 0)) (heap_alloc_new w11 _)) (by simp [Value.oneCell']) (by omega) (by unfold maxLen; omega) (by omega) (by simp; omega) (w11.heap.size + 1) (by simp) ?_; intro gg cap2 w12 hown3 hgrow hat hltg)
                        have R := hide (HL2.out.push hRu (fun _ b hb => by
                          have h1 := own_base ho11 b hb
                          intro e
                          have h2 := own_top HL.out.row b e
                          have h3 := hbw.size
                          omega) hown3 hgrow hat)
                        have hB12 : Below w5.heap.size w5 w12 := (hB11.alloc hB11.size _).grown hgrow (by simp; omega) (fun k hk => own_base HL2.out.row k hk)
                        rw [HS.out] at R
                        clear hown3 hgrow hat hltg hRu
                        go_roundw
                        case rel => exact ⟨j + 1, _, by omega, by go_num, R, hB12⟩
                        case measure => simp [intOf]; omega
                      · have HS : Hid (rnL (Rt f) (xss.map tr) (qt.ops.take j) ++ [mulL f ((rnL (Rt f) (xss.map tr) (qt.ops.take j)).getD qt.ops[j].a.toNat []) ((rnL (Rt f) (xss.map tr) (qt.ops.take j)).getD qt.ops[j].b.toNat [])] = rnL (Rt f) (xss.map tr) (qt.ops.take (j + 1))) := by
                          show _ = _
                          rw [hS0]; unfold rnS; rw [if_neg (by omega), if_neg (by omega), if_pos hk]; rfl
                        have HWz : Hid (Wd (mulL f ((rnL (Rt f) (xss.map tr) (qt.ops.take j)).getD qt.ops[j].a.toNat []) ((rnL (Rt f) (xss.map tr) (qt.ops.take j)).getD qt.ops[j].b.toNat []))) := lim_wd HFi.out.top (HAllL.out (j + 1) _ (by rw [← HS.out]; simp))
                        obtain ⟨⟨a0, b0⟩, a1, b1⟩ := ha (by omega)
                        rw [hk] at o0
                        rw [← hln] at a1 b1
                        have r1 := HL.out.each _ a1
                        have r2 := HL.out.each _ b1
                        have hul := HL.out.len
                        obtain ⟨gv, cv', rfl⟩ := own_at HL.out.row (by omega)
                        have ca := (HL.out.row.cellAt qt.ops[j].a.toNat (by omega)).trans (show us[qt.ops[j].a.toNat]? = some (us.getD qt.ops[j].a.toNat nov) by rw [List.getD_eq_getElem?_getD, List.getElem?_eq_getElem (by omega)]; rfl)
                        have cb := (HL.out.row.cellAt qt.ops[j].b.toNat (by omega)).trans (show us[qt.ops[j].b.toNat]? = some (us.getD qt.ops[j].b.toNat nov) by rw [List.getD_eq_getElem?_getD, List.getElem?_eq_getElem (by omega)]; rfl)
                        have hgv := own_top HL.out.row gv rfl
                        have HX := hide (fun W (hb : Below wr.heap.size wr W) => dMul_any f _ _ _ _ W (r1.below hb) (r2.below hb))
                        unfold Gives at HX
                        obtain ⟨ax, cx, hax, _⟩ := r1.spell
                        obtain ⟨ay, cy, hay, _⟩ := r2.spell
                        rw [hax] at ca HX
                        rw [hay] at cb HX
                        clear r1 r2 hax hay hS0 ha hk hul
                        generalize (rnL (Rt f) (xss.map tr) (qt.ops.take j)).getD qt.ops[j].a.toNat [] = xs at *
                        generalize (rnL (Rt f) (xss.map tr) (qt.ops.take j)).getD qt.ops[j].b.toNat [] = ys at *
                        generalize mulL f xs ys = z at *
                        have hyl : (rnL (Rt f) (xss.map tr) (qt.ops.take j)).length ≤ 320 := by omega
                        clear hln
                        generalize rnL (Rt f) (xss.map tr) (qt.ops.take j) = yss at *
                        generalize qt.ops[j] = o at *
                        obtain ⟨k, oa, ob, c⟩ := o
                        dsimp only at *
                        obtain ⟨i, rfl⟩ : ∃ i : Nat, oa = i := ⟨oa.toNat, by omega⟩
                        obtain ⟨i2, rfl⟩ : ∃ i : Nat, ob = i := ⟨ob.toNat, by omega⟩
                        simp only [Int.toNat_natCast] at *
                        have hA9 := alloc_below wr (.cells #[.int .u8 3, .int .i64 i, .int .i64 i2, .int .u64 c] 67)
                        have hN9 := heap_alloc_new wr (.cells #[.int .u8 3, .int .i64 i, .int .i64 i2, .int .u64 c] 67)
                        have i1 : (i : Int) < (yss.length : Int) := by omega
                        have i3 : (i2 : Int) < (yss.length : Int) := by omega
                        go_upto_region 26 with fail
                        generalize wr.alloc (.cells #[.int .u8 3, .int .i64 i, .int .i64 i2, .int .u64 c] 67) = w9 at *
                        obtain ⟨g0, HG0⟩ : ∃ g0, Hid (wr.heap.size = g0) := ⟨_, rfl⟩
                        have hA9' := hA9
                        rw [HG0.out] at hN9 ⊢
                        have HS9 : Hid (∀ V, Below w9.heap.size w9 V → V.cell? ⟨g0, 3, none⟩ = some (.int .u64 c)) := fun V hb => (cells4 ((hb.block _ (Array.getElem?_eq_some_iff.1 hN9).1).trans hN9)).2.2.2
                        have hdr9 : Below w9.heap.size w9 w9.drew := (Below.refl _ w9).drew
                        have hS0 := HS9.out _ hdr9
                        have hS2 := fun ob => HS9.out (w9.alloc ob).drew (alloc_below w9 ob).drew
                        have HPq := hide (fun W => rP_yes f p wd W HFi.out)
                        have hct : c.tmod p = c % p := Int.tmod_eq_emod_of_nonneg hoc.1
                        have hbt : Below w9.heap.size w9 (w9.alloc (.cells #[.int .u64 (c.tmod p)] 36)).drew := (alloc_below w9 _).drew
                        have HTc : Hid (Calls Try.prog 28 #[.slice (some ⟨w9.heap.size, 0, none⟩) 1 1] (w9.alloc (.cells #[.int .u64 (c.tmod p)] 36)).drew fun e w' => ∃ v', e = .returned v' ∧ w'.ownsRow w9.heap.size 36 1 v' (tr [c % p]).length (vals (tr [c % p])) ∧ Below w9.heap.size w9 w') := by
                          have h1 := HTr.out _ [c.tmod p] _ ((rw1 w9 (c.tmod p) (by rw [hct]; exact elWord (emod_el HFi.out.pos c) HFi.out.top) 36).below ((Below.refl _ (w9.alloc (.cells #[.int .u64 (c.tmod p)] 36))).drew))
                          rw [show tr [c.tmod p] = tr [c % p] by rw [hct]] at h1
                          exact h1.mono fun e w' ⟨v', he, ho, hb⟩ => ⟨v', he, own_mono ho hbt.size, Below.next hbt hb⟩
                        clear hct
                        refine wp_region_held_drew (S := (fun V => V.cell? ⟨g0, 3, none⟩ = some (.int .u64 c))) (by kernel_rfl) (by ((try dsimp only) <;> (first | with_reducible exact hS5 | with_reducible exact hS2 _ | with_reducible exact hS0))) (fun hHeld => ?_)
                        (refine wpAnyH_take (i := 0) (oi := _) (v := ?v170) rfl (by kernel_rfl) (by kernel_rfl) (by kernel_rfl) (fun _ _ _ h => h) (Or.inl ⟨by rfl, ?hy170⟩) (by assumption) ?rest170; (case hy170 => (first | (intro w hSw; (try dsimp only at hSw); go_simp; done) | (intro w hSw; (try dsimp only at hSw); go_simp; with_reducible rfl))); (try simp only [Act.put, List.getElem_toArray, List.getElem_cons_succ, List.getElem_cons_zero, List.setIfInBounds_toArray, List.set_cons_zero, List.set_cons_succ]))
                        (refine wpAnyH_take (i := 1) (oi := _) (v := ?v171) rfl (by kernel_rfl) (by kernel_rfl) (by kernel_rfl) (fun _ _ _ h => h) (Or.inl ⟨by rfl, ?hy171⟩) (by assumption) ?rest171; (case hy171 => (first | (intro w hSw; (try dsimp only at hSw); go_simp; done) | (intro w hSw; (try dsimp only at hSw); go_simp; with_reducible rfl))); (try simp only [Act.put, List.getElem_toArray, List.getElem_cons_succ, List.getElem_cons_zero, List.setIfInBounds_toArray, List.set_cons_zero, List.set_cons_succ]))
                        (refine wpAnyH_take (i := 2) (oi := _) (v := ?v172) rfl (by kernel_rfl) (by kernel_rfl) (by kernel_rfl) (fun _ _ _ h => h) (Or.inl ⟨by rfl, ?hy172⟩) (by assumption) ?rest172; (case hy172 => (first | (intro w hSw; (try dsimp only at hSw); go_simp; done) | (intro w hSw; (try dsimp only at hSw); go_simp; with_reducible rfl))); (try simp only [Act.put, List.getElem_toArray, List.getElem_cons_succ, List.getElem_cons_zero, List.setIfInBounds_toArray, List.set_cons_zero, List.set_cons_succ]))
                        refine wpAnyH_ready (rs := [3]) (by kernel_rfl) (by simp) ?_
                        refine AllReadyH.cons (o := _) rfl (fun K hK => ?_) AllReadyH.nil
                        try simp only [List.getElem_toArray, List.getElem_cons_succ, List.getElem_cons_zero]
                        go_simp
                        (first
                              | (go_at_call 31; refine (HPq.out _).mono ?_; rintro e wq ⟨rfl, hw⟩; rw [hw]; clear hw)
                              | (go_at_call 28; refine HTc.out.mono ?_; rintro e w10 ⟨v10, rfl, ho10, hb10'⟩; have hS5 := HS9.out _ hb10'))
                        first | (refine hK.out _ _ (by ((try dsimp only) <;> (first | with_reducible exact hS5 | with_reducible exact hS2 _ | with_reducible exact hS0))) (fun hHeld => ?_)) | (go_wp2_with fail; refine hK.out _ _ (by ((try dsimp only) <;> (first | with_reducible exact hS5 | with_reducible exact hS2 _ | with_reducible exact hS0))) (fun hHeld => ?_))
                        clear hK K
                        (try simp only [Act.put, List.getElem_toArray, List.getElem_cons_succ, List.getElem_cons_zero, List.setIfInBounds_toArray, List.set_cons_zero, List.set_cons_succ])
                        (refine wpAnyH_take (i := 4) (oi := _) (v := ?v173) rfl (by kernel_rfl) (by kernel_rfl) (by kernel_rfl) (fun _ _ _ h => h) (Or.inl ⟨by rfl, ?hy173⟩) (by assumption) ?rest173; (case hy173 => (first | (intro w hSw; (try dsimp only at hSw); go_simp; done) | (intro w hSw; (try dsimp only at hSw); go_simp; with_reducible rfl))); (try simp only [Act.put, List.getElem_toArray, List.getElem_cons_succ, List.getElem_cons_zero, List.setIfInBounds_toArray, List.set_cons_zero, List.set_cons_succ]))
                        refine wpAnyH_ready (rs := [5]) (by kernel_rfl) (by simp) ?_
                        refine AllReadyH.cons (o := _) rfl (fun K hK => ?_) AllReadyH.nil
                        try simp only [List.getElem_toArray, List.getElem_cons_succ, List.getElem_cons_zero]
                        go_simp
                        refine hK.out _ _ (by ((try dsimp only) <;> (first | with_reducible exact hS5 | with_reducible exact hS2 _ | with_reducible exact hS0))) (fun hHeld => ?_)
                        clear hK K
                        (try simp only [Act.put, List.getElem_toArray, List.getElem_cons_succ, List.getElem_cons_zero, List.setIfInBounds_toArray, List.set_cons_zero, List.set_cons_succ])
                        refine wpAnyH_ready (rs := [6]) (by kernel_rfl) (by simp) ?_
                        refine AllReadyH.cons (o := _) rfl (fun K hK => ?_) AllReadyH.nil
                        try simp only [List.getElem_toArray, List.getElem_cons_succ, List.getElem_cons_zero]
                        go_simp
                        (first
                              | (go_at_call 31; refine (HPq.out _).mono ?_; rintro e wq ⟨rfl, hw⟩; rw [hw]; clear hw)
                              | (go_at_call 28; refine HTc.out.mono ?_; rintro e w10 ⟨v10, rfl, ho10, hb10'⟩; have hS5 := HS9.out _ hb10'))
                        first | (refine hK.out _ _ (by ((try dsimp only) <;> (first | with_reducible exact hS5 | with_reducible exact hS2 _ | with_reducible exact hS0))) (fun hHeld => ?_)) | (go_wp2_with fail; refine hK.out _ _ (by ((try dsimp only) <;> (first | with_reducible exact hS5 | with_reducible exact hS2 _ | with_reducible exact hS0))) (fun hHeld => ?_))
                        clear hK K
                        (try simp only [Act.put, List.getElem_toArray, List.getElem_cons_succ, List.getElem_cons_zero, List.setIfInBounds_toArray, List.set_cons_zero, List.set_cons_succ])
                        (refine wpAnyH_take (i := 7) (oi := _) (v := ?v174) rfl (by kernel_rfl) (by kernel_rfl) (by kernel_rfl) (fun _ _ _ h => h) (Or.inl ⟨by rfl, ?hy174⟩) (by assumption) ?rest174; (case hy174 => (first | (intro w hSw; (try dsimp only at hSw); go_simp; done) | (intro w hSw; (try dsimp only at hSw); go_simp; with_reducible rfl))); (try simp only [Act.put, List.getElem_toArray, List.getElem_cons_succ, List.getElem_cons_zero, List.setIfInBounds_toArray, List.set_cons_zero, List.set_cons_succ]))
                        refine wpAnyH_done (by kernel_rfl) ?_ _
                        have hb10w := Below.next hA9 hb10'
                        clear ho10 hS0 hS2 hS5 HTc HPq
                        have n10 := (hb10'.block _ (Array.getElem?_eq_some_iff.1 hN9).1).trans hN9
                        obtain ⟨r0, r1, r2, r3⟩ := cells4 n10
                        have d1 := (hb10w.cell (p := ⟨gv, i, none⟩) hgv).trans ca
                        have d2 := (hb10w.cell (p := ⟨gv, i2, none⟩) hgv).trans cb
                        have hbw := Below.next hb10w ((Below.refl _ w10).drew)
                        have HX2 := hide (HX.out _ hbw)
                        go_upto_region 33 with fail
                        have hS0 : w10.drew.cell? ⟨gv, i, none⟩ = some (.slice ax xs.length cx) ∧ w10.drew.cell? ⟨gv, i2, none⟩ = some (.slice ay ys.length cy) ∧ w10.drew.cell? ⟨g0, 1, none⟩ = some (.int .i64 i) ∧ w10.drew.cell? ⟨g0, 2, none⟩ = some (.int .i64 i2) := ⟨d1, d2, r1, r2⟩
                        refine wp_region_held_drew (S := (fun W' => W'.cell? ⟨gv, i, none⟩ = some (.slice ax xs.length cx) ∧ W'.cell? ⟨gv, i2, none⟩ = some (.slice ay ys.length cy) ∧ W'.cell? ⟨g0, 1, none⟩ = some (.int .i64 i) ∧ W'.cell? ⟨g0, 2, none⟩ = some (.int .i64 i2))) (by kernel_rfl) (by ((try dsimp only) <;> (first | with_reducible exact hS0 | with_reducible exact hS1))) (fun hHeld => ?_)
                        (refine wpAnyH_take (i := 0) (oi := _) (v := ?v175) rfl (by kernel_rfl) (by kernel_rfl) (by kernel_rfl) (fun _ _ _ h => h) (Or.inl ⟨by rfl, ?hy175⟩) (by assumption) ?rest175; (case hy175 => (first | (intro w hSw; (try dsimp only at hSw); go_simp; done) | (intro w hSw; (try dsimp only at hSw); go_simp; with_reducible rfl))); (try simp only [Act.put, List.getElem_toArray, List.getElem_cons_succ, List.getElem_cons_zero, List.setIfInBounds_toArray, List.set_cons_zero, List.set_cons_succ]))
                        (refine wpAnyH_take (i := 1) (oi := _) (v := ?v176) rfl (by kernel_rfl) (by kernel_rfl) (by kernel_rfl) (fun _ _ _ h => h) (Or.inl ⟨by rfl, ?hy176⟩) (by assumption) ?rest176; (case hy176 => (first | (intro w hSw; (try dsimp only at hSw); go_simp; done) | (intro w hSw; (try dsimp only at hSw); go_simp; with_reducible rfl))); (try simp only [Act.put, List.getElem_toArray, List.getElem_cons_succ, List.getElem_cons_zero, List.setIfInBounds_toArray, List.set_cons_zero, List.set_cons_succ]))
                        (refine wpAnyH_take (i := 2) (oi := _) (v := ?v177) rfl (by kernel_rfl) (by kernel_rfl) (by kernel_rfl) (fun _ _ _ h => h) (Or.inl ⟨by rfl, ?hy177⟩) (by assumption) ?rest177; (case hy177 => (first | (intro w hSw; (try dsimp only at hSw); go_simp; done) | (intro w hSw; (try dsimp only at hSw); go_simp; with_reducible rfl))); (try simp only [Act.put, List.getElem_toArray, List.getElem_cons_succ, List.getElem_cons_zero, List.setIfInBounds_toArray, List.set_cons_zero, List.set_cons_succ]))
                        (refine wpAnyH_take (i := 3) (oi := _) (v := ?v178) rfl (by kernel_rfl) (by kernel_rfl) (by kernel_rfl) (fun _ _ _ h => h) (Or.inl ⟨by rfl, ?hy178⟩) (by assumption) ?rest178; (case hy178 => (first | (intro w hSw; (try dsimp only at hSw); go_simp; done) | (intro w hSw; (try dsimp only at hSw); go_simp; with_reducible rfl))); (try simp only [Act.put, List.getElem_toArray, List.getElem_cons_succ, List.getElem_cons_zero, List.setIfInBounds_toArray, List.set_cons_zero, List.set_cons_succ]))
                        (refine wpAnyH_take (i := 4) (oi := _) (v := ?v179) rfl (by kernel_rfl) (by kernel_rfl) (by kernel_rfl) (fun _ _ _ h => h) (Or.inl ⟨by rfl, ?hy179⟩) (by assumption) ?rest179; (case hy179 => (first | (intro w hSw; (try dsimp only at hSw); go_simp; done) | (intro w hSw; (try dsimp only at hSw); go_simp; with_reducible rfl))); (try simp only [Act.put, List.getElem_toArray, List.getElem_cons_succ, List.getElem_cons_zero, List.setIfInBounds_toArray, List.set_cons_zero, List.set_cons_succ]))
                        (refine wpAnyH_take (i := 5) (oi := _) (v := ?v180) rfl (by kernel_rfl) (by kernel_rfl) (by kernel_rfl) (fun _ _ _ h => h) (Or.inl ⟨by rfl, ?hy180⟩) (by assumption) ?rest180; (case hy180 => (first | (intro w hSw; (try dsimp only at hSw); go_simp; done) | (intro w hSw; (try dsimp only at hSw); go_simp; with_reducible rfl))); (try simp only [Act.put, List.getElem_toArray, List.getElem_cons_succ, List.getElem_cons_zero, List.setIfInBounds_toArray, List.set_cons_zero, List.set_cons_succ]))
                        (refine wpAnyH_take (i := 6) (oi := _) (v := ?v181) rfl (by kernel_rfl) (by kernel_rfl) (by kernel_rfl) (fun _ _ _ h => h) (Or.inl ⟨by rfl, ?hy181⟩) (by assumption) ?rest181; (case hy181 => (first | (intro w hSw; (try dsimp only at hSw); go_simp; done) | (intro w hSw; (try dsimp only at hSw); go_simp; with_reducible rfl))); (try simp only [Act.put, List.getElem_toArray, List.getElem_cons_succ, List.getElem_cons_zero, List.setIfInBounds_toArray, List.set_cons_zero, List.set_cons_succ]))
                        (refine wpAnyH_take (i := 7) (oi := _) (v := ?v182) rfl (by kernel_rfl) (by kernel_rfl) (by kernel_rfl) (fun _ _ _ h => h) (Or.inl ⟨by rfl, ?hy182⟩) (by assumption) ?rest182; (case hy182 => (first | (intro w hSw; (try dsimp only at hSw); go_simp; done) | (intro w hSw; (try dsimp only at hSw); go_simp; with_reducible rfl))); (try simp only [Act.put, List.getElem_toArray, List.getElem_cons_succ, List.getElem_cons_zero, List.setIfInBounds_toArray, List.set_cons_zero, List.set_cons_succ]))
                        (refine wpAnyH_take (i := 8) (oi := _) (v := ?v183) rfl (by kernel_rfl) (by kernel_rfl) (by kernel_rfl) (fun _ _ _ h => h) (Or.inl ⟨by rfl, ?hy183⟩) (by assumption) ?rest183; (case hy183 => (first | (intro w hSw; (try dsimp only at hSw); go_simp; done) | (intro w hSw; (try dsimp only at hSw); go_simp; with_reducible rfl))); (try simp only [Act.put, List.getElem_toArray, List.getElem_cons_succ, List.getElem_cons_zero, List.setIfInBounds_toArray, List.set_cons_zero, List.set_cons_succ]))
                        (refine wpAnyH_take (i := 9) (oi := _) (v := ?v184) rfl (by kernel_rfl) (by kernel_rfl) (by kernel_rfl) (fun _ _ _ h => h) (Or.inl ⟨by rfl, ?hy184⟩) (by assumption) ?rest184; (case hy184 => (first | (intro w hSw; (try dsimp only at hSw); go_simp; done) | (intro w hSw; (try dsimp only at hSw); go_simp; with_reducible rfl))); (try simp only [Act.put, List.getElem_toArray, List.getElem_cons_succ, List.getElem_cons_zero, List.setIfInBounds_toArray, List.set_cons_zero, List.set_cons_succ]))
                        (refine wpAnyH_take (i := 10) (oi := _) (v := ?v185) rfl (by kernel_rfl) (by kernel_rfl) (by kernel_rfl) (fun _ _ _ h => h) (Or.inl ⟨by rfl, ?hy185⟩) (by assumption) ?rest185; (case hy185 => (first | (intro w hSw; (try dsimp only at hSw); go_simp; done) | (intro w hSw; (try dsimp only at hSw); go_simp; with_reducible rfl))); (try simp only [Act.put, List.getElem_toArray, List.getElem_cons_succ, List.getElem_cons_zero, List.setIfInBounds_toArray, List.set_cons_zero, List.set_cons_succ]))
                        refine wpAnyH_ready (rs := [11]) (by kernel_rfl) (by simp) ?_
                        refine AllReadyH.cons (o := _) rfl (fun K hK => ?_) AllReadyH.nil
                        try simp only [List.getElem_toArray, List.getElem_cons_succ, List.getElem_cons_zero]
                        go_simp
                        (first
                              | (go_at_call 34; refine HX2.out.mono ?_; rintro e w11 ⟨v11, rfl, ho11, hb11⟩; have hS1 := kept4 hb11 hS0))
                        first | (refine hK.out _ _ (by ((try dsimp only) <;> (first | with_reducible exact hS0 | with_reducible exact hS1))) (fun hHeld => ?_)) | (go_wp2_with fail; refine hK.out _ _ (by ((try dsimp only) <;> (first | with_reducible exact hS0 | with_reducible exact hS1))) (fun hHeld => ?_))
                        clear hK K
                        (try simp only [Act.put, List.getElem_toArray, List.getElem_cons_succ, List.getElem_cons_zero, List.setIfInBounds_toArray, List.set_cons_zero, List.set_cons_succ])
                        (refine wpAnyH_take (i := 12) (oi := _) (v := ?v186) rfl (by kernel_rfl) (by kernel_rfl) (by kernel_rfl) (fun _ _ _ h => h) (Or.inl ⟨by rfl, ?hy186⟩) (by assumption) ?rest186; (case hy186 => (first | (intro w hSw; (try dsimp only at hSw); go_simp; done) | (intro w hSw; (try dsimp only at hSw); go_simp; with_reducible rfl))); (try simp only [Act.put, List.getElem_toArray, List.getElem_cons_succ, List.getElem_cons_zero, List.setIfInBounds_toArray, List.set_cons_zero, List.set_cons_succ]))
                        (refine wpAnyH_take (i := 13) (oi := _) (v := ?v187) rfl (by kernel_rfl) (by kernel_rfl) (by kernel_rfl) (fun _ _ _ h => h) (Or.inl ⟨by rfl, ?hy187⟩) (by assumption) ?rest187; (case hy187 => (first | (intro w hSw; (try dsimp only at hSw); go_simp; done) | (intro w hSw; (try dsimp only at hSw); go_simp; with_reducible rfl))); (try simp only [Act.put, List.getElem_toArray, List.getElem_cons_succ, List.getElem_cons_zero, List.setIfInBounds_toArray, List.set_cons_zero, List.set_cons_succ]))
                        (refine wpAnyH_take (i := 14) (oi := _) (v := ?v188) rfl (by kernel_rfl) (by kernel_rfl) (by kernel_rfl) (fun _ _ _ h => h) (Or.inl ⟨by rfl, ?hy188⟩) (by assumption) ?rest188; (case hy188 => (first | (intro w hSw; (try dsimp only at hSw); go_simp; done) | (intro w hSw; (try dsimp only at hSw); go_simp; with_reducible rfl))); (try simp only [Act.put, List.getElem_toArray, List.getElem_cons_succ, List.getElem_cons_zero, List.setIfInBounds_toArray, List.set_cons_zero, List.set_cons_succ]))
                        (refine wpAnyH_take (i := 15) (oi := _) (v := ?v189) rfl (by kernel_rfl) (by kernel_rfl) (by kernel_rfl) (fun _ _ _ h => h) (Or.inl ⟨by rfl, ?hy189⟩) (by assumption) ?rest189; (case hy189 => (first | (intro w hSw; (try dsimp only at hSw); go_simp; done) | (intro w hSw; (try dsimp only at hSw); go_simp; with_reducible rfl))); (try simp only [Act.put, List.getElem_toArray, List.getElem_cons_succ, List.getElem_cons_zero, List.setIfInBounds_toArray, List.set_cons_zero, List.set_cons_succ]))
                        refine wpAnyH_done (by kernel_rfl) ?_ _
                        obtain ⟨a11, c11, rfl⟩ := own_form ho11
                        have hb11w := Below.next hbw hb11
                        have HL2 := hide (HL.out.below hb11w)
                        have hB11 := Below.next hB hb11w
                        have hsz2 := hB11.size
                        have hRu := HWz.out.row ho11
                        clear hS0 hS1 d1 d2 r0 r1 r2 r3 n10 hN9
                        go_wp2_with (at_builtin; refine wpList_append_lies _ rfl _ _ _ rfl w5.heap.size 35 i0 _ 1 24 Try.underlying26 hi0 hz0 hz1 hz2 rfl (by omega) (.slice (some ⟨gv, 0, none⟩) yss.length cv') yss.length us rfl (HL2.out.row.alloc _) ⟨w11.heap.size, 0, none⟩ 1 1 [.slice a11 z.length c11] rfl rfl (World.news_of_block (cs := #[.slice a11 z.length c11]) (t := 35) (fr := (0, 0)) (heap_alloc_new w11 _)) (by simp [Value.oneCell']) (by omega) (by unfold maxLen; omega) (by omega) (by simp; omega) (w11.heap.size + 1) (by simp) ?_; intro gg cap2 w12 hown3 hgrow hat hltg)
                        have R := hide (HL2.out.push hRu (fun _ b hb => by
                          have h1 := own_base ho11 b hb
                          intro e
                          have h2 := own_top HL.out.row b e
                          have h3 := hbw.size
                          omega) hown3 hgrow hat)
                        have hB12 : Below w5.heap.size w5 w12 := (hB11.alloc hB11.size _).grown hgrow (by simp; omega) (fun k hk => own_base HL2.out.row k hk)
                        rw [HS.out] at R
                        clear hown3 hgrow hat hltg hRu
                        go_roundw
                        case rel => exact ⟨j + 1, _, by omega, by go_num, R, hB12⟩
                        case measure => simp [intOf]; omega
                      · have HS : Hid (rnL (Rt f) (xss.map tr) (qt.ops.take j) ++ [tr [qt.ops[j].c % p]] = rnL (Rt f) (xss.map tr) (qt.ops.take (j + 1))) := by
                          show _ = _
                          rw [hS0]; unfold rnS; rw [if_neg (by omega), if_neg (by omega), if_neg (by omega)]; show _ = _ ++ [tr [qt.ops[j].c % pOf f]]; rw [pOf_eq HFi.out]
                        have HWz : Hid (Wd (tr [qt.ops[j].c % p])) := lim_wd HFi.out.top (HAllL.out (j + 1) _ (by rw [← HS.out]; simp))
                        rw [hk] at o0
                        obtain ⟨av, cv', rfl⟩ := own_form HL.out.row
                        have hyl : (rnL (Rt f) (xss.map tr) (qt.ops.take j)).length ≤ 320 := by omega
                        clear hln hS0 ha hk
                        generalize rnL (Rt f) (xss.map tr) (qt.ops.take j) = yss at *
                        generalize qt.ops[j] = o at *
                        obtain ⟨k, oa, ob, c⟩ := o
                        dsimp only at *
                        have hA9 := alloc_below wr (.cells #[.int .u8 4, .int .i64 oa, .int .i64 ob, .int .u64 c] 67)
                        have hN9 := heap_alloc_new wr (.cells #[.int .u8 4, .int .i64 oa, .int .i64 ob, .int .u64 c] 67)
                        go_upto_region 26 with fail
                        generalize wr.alloc (.cells #[.int .u8 4, .int .i64 oa, .int .i64 ob, .int .u64 c] 67) = w9 at *
                        obtain ⟨g0, HG0⟩ : ∃ g0, Hid (wr.heap.size = g0) := ⟨_, rfl⟩
                        rw [HG0.out] at hN9 ⊢
                        have HS9 : Hid (∀ V, Below w9.heap.size w9 V → V.cell? ⟨g0, 3, none⟩ = some (.int .u64 c)) := fun V hb => (cells4 ((hb.block _ (Array.getElem?_eq_some_iff.1 hN9).1).trans hN9)).2.2.2
                        have hdr9 : Below w9.heap.size w9 w9.drew := (Below.refl _ w9).drew
                        have hS0 := HS9.out _ hdr9
                        have hS2 := fun ob => HS9.out (w9.alloc ob).drew (alloc_below w9 ob).drew
                        have HPq := hide (fun W => rP_yes f p wd W HFi.out)
                        have hct : c.tmod p = c % p := Int.tmod_eq_emod_of_nonneg hoc.1
                        have hbt : Below w9.heap.size w9 (w9.alloc (.cells #[.int .u64 (c.tmod p)] 36)).drew := (alloc_below w9 _).drew
                        have HTc : Hid (Calls Try.prog 28 #[.slice (some ⟨w9.heap.size, 0, none⟩) 1 1] (w9.alloc (.cells #[.int .u64 (c.tmod p)] 36)).drew fun e w' => ∃ v', e = .returned v' ∧ w'.ownsRow w9.heap.size 36 1 v' (tr [c % p]).length (vals (tr [c % p])) ∧ Below w9.heap.size w9 w') := by
                          have h1 := HTr.out _ [c.tmod p] _ ((rw1 w9 (c.tmod p) (by rw [hct]; exact elWord (emod_el HFi.out.pos c) HFi.out.top) 36).below ((Below.refl _ (w9.alloc (.cells #[.int .u64 (c.tmod p)] 36))).drew))
                          rw [show tr [c.tmod p] = tr [c % p] by rw [hct]] at h1
                          exact h1.mono fun e w' ⟨v', he, ho, hb⟩ => ⟨v', he, own_mono ho hbt.size, Below.next hbt hb⟩
                        clear hct
                        obtain ⟨z, HZ⟩ : ∃ z, Hid (tr [c % p] = z) := ⟨_, rfl⟩
                        rw [HZ.out] at HTc HWz HS
                        refine wp_region_held_drew (S := (fun V => V.cell? ⟨g0, 3, none⟩ = some (.int .u64 c))) (by kernel_rfl) (by ((try dsimp only) <;> (first | with_reducible exact hS5 | with_reducible exact hS2 _ | with_reducible exact hS0))) (fun hHeld => ?_)
                        (refine wpAnyH_take (i := 0) (oi := _) (v := ?v190) rfl (by kernel_rfl) (by kernel_rfl) (by kernel_rfl) (fun _ _ _ h => h) (Or.inl ⟨by rfl, ?hy190⟩) (by assumption) ?rest190; (case hy190 => (first | (intro w hSw; (try dsimp only at hSw); go_simp; done) | (intro w hSw; (try dsimp only at hSw); go_simp; with_reducible rfl))); (try simp only [Act.put, List.getElem_toArray, List.getElem_cons_succ, List.getElem_cons_zero, List.setIfInBounds_toArray, List.set_cons_zero, List.set_cons_succ]))
                        (refine wpAnyH_take (i := 1) (oi := _) (v := ?v191) rfl (by kernel_rfl) (by kernel_rfl) (by kernel_rfl) (fun _ _ _ h => h) (Or.inl ⟨by rfl, ?hy191⟩) (by assumption) ?rest191; (case hy191 => (first | (intro w hSw; (try dsimp only at hSw); go_simp; done) | (intro w hSw; (try dsimp only at hSw); go_simp; with_reducible rfl))); (try simp only [Act.put, List.getElem_toArray, List.getElem_cons_succ, List.getElem_cons_zero, List.setIfInBounds_toArray, List.set_cons_zero, List.set_cons_succ]))
                        (refine wpAnyH_take (i := 2) (oi := _) (v := ?v192) rfl (by kernel_rfl) (by kernel_rfl) (by kernel_rfl) (fun _ _ _ h => h) (Or.inl ⟨by rfl, ?hy192⟩) (by assumption) ?rest192; (case hy192 => (first | (intro w hSw; (try dsimp only at hSw); go_simp; done) | (intro w hSw; (try dsimp only at hSw); go_simp; with_reducible rfl))); (try simp only [Act.put, List.getElem_toArray, List.getElem_cons_succ, List.getElem_cons_zero, List.setIfInBounds_toArray, List.set_cons_zero, List.set_cons_succ]))
                        refine wpAnyH_ready (rs := [3]) (by kernel_rfl) (by simp) ?_
                        refine AllReadyH.cons (o := _) rfl (fun K hK => ?_) AllReadyH.nil
                        try simp only [List.getElem_toArray, List.getElem_cons_succ, List.getElem_cons_zero]
                        go_simp
                        (first
                              | (go_at_call 31; refine (HPq.out _).mono ?_; rintro e wq ⟨rfl, hw⟩; rw [hw]; clear hw)
                              | (go_at_call 28; refine HTc.out.mono ?_; rintro e w10 ⟨v10, rfl, ho10, hb10'⟩; have hS5 := HS9.out _ hb10'))
                        first | (refine hK.out _ _ (by ((try dsimp only) <;> (first | with_reducible exact hS5 | with_reducible exact hS2 _ | with_reducible exact hS0))) (fun hHeld => ?_)) | (go_wp2_with fail; refine hK.out _ _ (by ((try dsimp only) <;> (first | with_reducible exact hS5 | with_reducible exact hS2 _ | with_reducible exact hS0))) (fun hHeld => ?_))
                        clear hK K
                        (try simp only [Act.put, List.getElem_toArray, List.getElem_cons_succ, List.getElem_cons_zero, List.setIfInBounds_toArray, List.set_cons_zero, List.set_cons_succ])
                        (refine wpAnyH_take (i := 4) (oi := _) (v := ?v193) rfl (by kernel_rfl) (by kernel_rfl) (by kernel_rfl) (fun _ _ _ h => h) (Or.inl ⟨by rfl, ?hy193⟩) (by assumption) ?rest193; (case hy193 => (first | (intro w hSw; (try dsimp only at hSw); go_simp; done) | (intro w hSw; (try dsimp only at hSw); go_simp; with_reducible rfl))); (try simp only [Act.put, List.getElem_toArray, List.getElem_cons_succ, List.getElem_cons_zero, List.setIfInBounds_toArray, List.set_cons_zero, List.set_cons_succ]))
                        refine wpAnyH_ready (rs := [5]) (by kernel_rfl) (by simp) ?_
                        refine AllReadyH.cons (o := _) rfl (fun K hK => ?_) AllReadyH.nil
                        try simp only [List.getElem_toArray, List.getElem_cons_succ, List.getElem_cons_zero]
                        go_simp
                        refine hK.out _ _ (by ((try dsimp only) <;> (first | with_reducible exact hS5 | with_reducible exact hS2 _ | with_reducible exact hS0))) (fun hHeld => ?_)
                        clear hK K
                        (try simp only [Act.put, List.getElem_toArray, List.getElem_cons_succ, List.getElem_cons_zero, List.setIfInBounds_toArray, List.set_cons_zero, List.set_cons_succ])
                        refine wpAnyH_ready (rs := [6]) (by kernel_rfl) (by simp) ?_
                        refine AllReadyH.cons (o := _) rfl (fun K hK => ?_) AllReadyH.nil
                        try simp only [List.getElem_toArray, List.getElem_cons_succ, List.getElem_cons_zero]
                        go_simp
                        (first
                              | (go_at_call 31; refine (HPq.out _).mono ?_; rintro e wq ⟨rfl, hw⟩; rw [hw]; clear hw)
                              | (go_at_call 28; refine HTc.out.mono ?_; rintro e w10 ⟨v10, rfl, ho10, hb10'⟩; have hS5 := HS9.out _ hb10'))
                        first | (refine hK.out _ _ (by ((try dsimp only) <;> (first | with_reducible exact hS5 | with_reducible exact hS2 _ | with_reducible exact hS0))) (fun hHeld => ?_)) | (go_wp2_with fail; refine hK.out _ _ (by ((try dsimp only) <;> (first | with_reducible exact hS5 | with_reducible exact hS2 _ | with_reducible exact hS0))) (fun hHeld => ?_))
                        clear hK K
                        (try simp only [Act.put, List.getElem_toArray, List.getElem_cons_succ, List.getElem_cons_zero, List.setIfInBounds_toArray, List.set_cons_zero, List.set_cons_succ])
                        (refine wpAnyH_take (i := 7) (oi := _) (v := ?v194) rfl (by kernel_rfl) (by kernel_rfl) (by kernel_rfl) (fun _ _ _ h => h) (Or.inl ⟨by rfl, ?hy194⟩) (by assumption) ?rest194; (case hy194 => (first | (intro w hSw; (try dsimp only at hSw); go_simp; done) | (intro w hSw; (try dsimp only at hSw); go_simp; with_reducible rfl))); (try simp only [Act.put, List.getElem_toArray, List.getElem_cons_succ, List.getElem_cons_zero, List.setIfInBounds_toArray, List.set_cons_zero, List.set_cons_succ]))
                        refine wpAnyH_done (by kernel_rfl) ?_ _
                        obtain ⟨a11, c11, rfl⟩ := own_form ho10
                        have hb10w := Below.next hA9 hb10'
                        have n10 := (hb10'.block _ (Array.getElem?_eq_some_iff.1 hN9).1).trans hN9
                        obtain ⟨r0, r1, r2, r3⟩ := cells4 n10
                        have HL2 := hide (HL.out.below hb10w)
                        have hB11 := Below.next hB hb10w
                        have hsz2 := hB11.size
                        have hRu := HWz.out.row ho10
                        clear hS0 hS2 hS5 HTc HPq
                        go_wp2_with (at_builtin; refine wpList_append_lies _ rfl _ _ _ rfl w5.heap.size 35 i0 _ 1 24 Try.underlying26 hi0 hz0 hz1 hz2 rfl (by omega) (.slice av yss.length cv') yss.length us rfl (HL2.out.row.alloc _) ⟨w10.heap.size, 0, none⟩ 1 1 [.slice a11 z.length c11] rfl rfl (World.news_of_block (cs := #[.slice a11 z.length c11]) (t := 35) (fr := (0, 0)) (heap_alloc_new w10 _)) (by simp [Value.oneCell']) (by omega) (by unfold maxLen; omega) (by omega) (by simp; omega) (w10.heap.size + 1) (by simp) ?_; intro gg cap2 w12 hown3 hgrow hat hltg)
                        have R := hide (HL2.out.push hRu (fun _ b hb => by
                          have h1 := own_base ho10 b hb
                          intro e
                          have h2 := own_top HL.out.row b e
                          have h3 := hA9.size
                          omega) hown3 hgrow hat)
                        have hB12 : Below w5.heap.size w5 w12 := (hB11.alloc hB11.size _).grown hgrow (by simp; omega) (fun k hk => own_base HL2.out.row k hk)
                        rw [HS.out] at R
                        clear hown3 hgrow hat hltg hRu
                        go_roundw
                        case rel => exact ⟨j + 1, _, by omega, by go_num, R, hB12⟩
                        case measure => simp [intOf]; omega
                    · obtain rfl : j = qt.ops.length := by omega
                      rw [List.take_length] at HL
                      have hln := HLen.out qt.ops.length (Nat.le_refl _)
                      rw [List.take_length] at hln
                      have HAl := hide (HAllL.out qt.ops.length)
                      rw [List.take_length] at HAl
                      have HOn : Hid (rnO (Rt f) qt (xss.map tr) = qt.outs.map (fun v => (rnL (Rt f) (xss.map tr) qt.ops).getD v.toNat [])) := rfl
                      rw [HOn.out] at HE2
                      rw [← hln] at HOu
                      have hyl : (rnL (Rt f) (xss.map tr) qt.ops).length ≤ 320 := by omega
                      have HRw := hide (HL.out.rws (by omega))
                      obtain ⟨av, cv', rfl⟩ := own_form HL.out.row
                      clear HOn hln HAllL HLen HOp HO HOk HWx HWt
                      generalize rnL (Rt f) (xss.map tr) qt.ops = yss at *
                      obtain ⟨w8, rfl⟩ : ∃ w8, w8 = wr := ⟨wr, rfl⟩
                      go_wp2
                      go_loopw [20, 21] (fun vo vi wr => ∃ (k : Nat) (us : List Value), k ≤ qt.outs.length ∧ vi = .int .i64 k ∧ Hid (Lss wr w8.heap.size wr.heap.size vo us ((qt.outs.take k).map (fun v => yss.getD v.toNat []))) ∧ Below w8.heap.size w8 wr) (fun _ vi _ => qt.outs.length - (intOf vi).toNat)
                      case atStart => exact ⟨0, [], Nat.zero_le _, rfl, Lss.nil _ _ _, Below.refl _ _⟩
                      case round =>
                        clear HL p0 p1 p2
                        obtain ⟨k, us, hk, rfl, HL, hB8⟩ := hrel
                        have m6 := (hB8.block _ (Array.getElem?_eq_some_iff.1 m5).1).trans m5
                        obtain ⟨p0, p1, p2⟩ := cell3 m6
                        by_cases hlt : k < qt.outs.length
                        · obtain ⟨b, off, cp, heq, _, hbl⟩ := HU.out.form (by omega)
                          cases heq
                          have hcu := HU.out.int (Below.next hB hB8) hlt
                          obtain ⟨ho0, ho1⟩ := HOu.out k hlt
                          obtain ⟨ay, cy, heq, hl9, _, hc9⟩ := HRw.out
                          cases heq
                          obtain ⟨b2, off2, rfl, hbl2, hcc⟩ := hc9 (by intro h0; rw [h0] at ho1; simp at ho1)
                          obtain ⟨u, hcu2, hru⟩ := hcc _ ho1
                          have hca := (hB8.cell (p := ⟨b2, off2 + qt.outs[k].toNat, none⟩) hbl2).trans hcu2
                          have HX := hide (Copy_any u _ wr (hru.below hB8).1)
                          have HS := hide (take_snocI (fun v => yss.getD v.toNat []) qt.outs hlt)
                          have hml : ((qt.outs.take k).map (fun v => yss.getD v.toNat [])).length = k := by simp; omega
                          obtain ⟨au', cu', rfl, _⟩ := hru.spell
                          clear hcc hc9 hcu2 hru
                          generalize qt.outs[k] = o at *
                          obtain ⟨i, rfl⟩ : ∃ i : Nat, o = i := ⟨o.toNat, by omega⟩
                          simp only [Int.toNat_natCast] at *
                          generalize yss.getD i [] = fx at *
                          generalize (qt.outs.take k).map (fun v => yss.getD v.toNat []) = lss at *
                          have k0 : (0 : Int) ≤ (k : Int) := by omega
                          have k1 : (k : Int) < (qt.outs.length : Int) := by omega
                          have i1 : (i : Int) < (yss.length : Int) := by omega
                          go_wp2_with (first
                            | (go_at_call 14; refine HX.out.mono ?_; rintro e w3 ⟨vr, rfl, hor, hb3⟩; obtain ⟨ar, cr, rfl⟩ := own_form hor; have HL3 := hide (HL.out.below hb3); have hsz3 := hb3.size; have hbs := hB8.size)
                            | (at_builtin; refine wpList_append_lies _ rfl _ _ _ rfl w8.heap.size 35 i0 _ 1 24 Try.underlying26 hi0 hz0 hz1 hz2 rfl (by omega) u20 lss.length us rfl (HL3.out.row.alloc _) ⟨w3.heap.size, 0, none⟩ 1 1 [.slice ar fx.length cr] rfl rfl (World.news_of_block (cs := #[.slice ar fx.length cr]) (t := 35) (fr := (0, 0)) (heap_alloc_new w3 _)) (by simp [Value.oneCell']) (by omega) (by unfold maxLen; omega) (by omega) (by simp; omega) (w3.heap.size + 1) (by simp) ?_; intro gg cap2 w4 hown4 hgrow hat hltg))
                          have hB9 := Below.next hB8 hb3
                          have R := hide (HL3.out.push (w := w8) (H := wr.heap.size) (Nat.le_refl _) hbs (Nat.le_refl _) hB9 hor hown4 hgrow)
                          clear hown4 hgrow hat hltg HL HL3 hor
                          rw [HS.out, hml] at R
                          go_roundw
                          case rel => exact ⟨k + 1, _, by omega, by go_num, lss_here R.out.1, R.out.2⟩
                          case measure => simp [intOf]; omega
                        · obtain rfl : k = qt.outs.length := by omega
                          rw [List.take_length, ← HE2.out] at HL
                          have hs8 := hB.size
                          have HLw := hide (lss_lo HL.out (Nat.le_trans B5.size hs8))
                          have hBf := Below.next (Below.next B5 hB) hB8
                          clear HL
                          go_wp2
                          go_ret2
                          rw [HE1.out]
                          exact ⟨_, us, rfl, HLw.out, hBf⟩
        · have ht : ((xss.length : Int) != q.inp) = true := by simp [he]
          have HE : Hid (coE f q xss = 3) := by show _ = _; rw [HCo.out]; unfold cpE; rw [if_pos HAll.out, if_neg he]
          have HE2 : Hid (coL f q xss = []) := by show _ = _; unfold coL; rw [HE.out]; rfl
          clear he hcell
          go_wp2
          go_ret2
          rw [HE.out, HE2.out]
          exact ⟨_, [], rfl, Lss.nil _ _ _, hBw⟩

end Go.Proofs.Ytfbipnhhnmlhfab
