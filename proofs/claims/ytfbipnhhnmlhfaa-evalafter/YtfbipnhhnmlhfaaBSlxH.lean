/-
  Layer 9: After, the document's, where it answers a program.
-/
import Derived.Test.YtfbipnhhnmlhfaaBunY
import Derived.Test.YtfbipnhhnmlhfaaBQMute
import Derived.Test.YtfbipnhhnmlhfaaBSlxI
namespace Go.Proofs.Ytfbipnhhnmlhfaa
open Go.RowKit Fld Slp
set_option linter.unusedVariables false
set_option linter.unusedSimpArgs false

theorem own_drew {w : World} {b n s : Nat} {T : TypeId} {v : Value} {xs : List Value} (h : w.ownsRow b T s v n xs) : w.drew.ownsRow b T s v n xs := h
theorem appI0 (W : World) (B : List Int) (vb : Value) (base : Nat) (hB : Lm iw 1 W vb B) (hl : B.length ≤ 17592186044416) (hb : base ≤ W.heap.size) :
    ∃ (ta : Option Addr) (tc : Nat) (W' : World), (Builtin.append_ #[23, 23] 23 #[.slice (some ⟨W.heap.size, 0, none⟩) 0 0, vb]).run Try.prog (W.alloc (.cells #[] 3)) = .ok (.slice ta B.length tc) W' ∧ W'.ownsRow base 3 1 (.slice ta B.length tc) B.length (B.flatMap iw) ∧ Below W.heap.size W W' := by
  have hA := alloc_below W (.cells #[] 3)
  obtain ⟨v', W', hr, ho, hb', _, _⟩ := appI (W.alloc (.cells #[] 3)) W.heap.size _ [] B vb (own_zero W 3 1 W.heap.size (Nat.le_refl _)) (hB.below hA) (by simp; omega) hA.size
  simp only [List.length_nil, Nat.zero_add, List.nil_append] at ho
  obtain ⟨ta, tc, rfl⟩ := own_slice ho
  exact ⟨ta, tc, W', hr, own_mono ho hb, hA.trans hb'⟩
theorem appO0 (W0 W : World) (g base : Nat) (B : List O4) (vb : Value) (hg : W.heap[g]? = some (.cells #[] 68 (0, 0))) (hb0 : base ≤ g) (hB : Lm opw 4 W vb B) (hl : B.length ≤ 1000) :
    ∃ (ta : Option Addr) (tc : Nat) (W' : World), (Builtin.append_ #[22, 22] 22 #[.slice (some ⟨g, 0, none⟩) 0 0, vb]).run Try.prog W = .ok (.slice ta B.length tc) W' ∧ W'.ownsRow base 68 4 (.slice ta B.length tc) B.length (B.flatMap opw) ∧ Below base W W' ∧ W.grownBy W' (some g) := by
  have hlt := (Array.getElem?_eq_some_iff.1 hg).1
  have hO : W.ownsRow base 68 4 (.slice (some ⟨g, 0, none⟩) 0 0) 0 [] := ⟨by simp, .inr ⟨g, 0, #[], rfl, hb0, hg, Nat.le_refl _, by unfold maxLen; omega, by simp, by simp⟩⟩
  obtain ⟨v', W', hr, ho, hb', hgr⟩ := appO W base _ [] B vb hO hB (by simp; omega) (by omega)
  simp only [List.nil_append] at ho
  obtain ⟨ta, tc, rfl⟩ := own_slice ho
  exact ⟨ta, tc, W', hr, ho, hb', hgr⟩

theorem shO_four (t : List Int) (o : O4) (h : o.k = 4) : shO t o = o := by unfold shO; rw [if_pos h]

set_option maxRecDepth 100000 in
set_option maxHeartbeats 3000000 in
theorem dAfter_ok (w : World) (v1 v2 : Value) (p q : Pr) (h1 : Pm w v1 p) (h2 : Pm w v2 q) (hE : aftE p q = 0) : IsAfter 25 v1 v2 w p q := by
  unfold IsAfter
  obtain ⟨hm, hm2, hl, hlen⟩ := aftE_zero hE
  have eP : aftP p q = aftF p q := by unfold aftP; rw [if_pos hE]
  rw [eP, hE]
  obtain ⟨⟨i0, i1, l1, l3⟩, mo, mu⟩ := mayB_iff.1 hm
  obtain ⟨⟨j0, j1, l2, l4⟩, _, _⟩ := mayB_iff.1 hm2
  have M1 := hide (fun W (hb : Below w.heap.size w W) => dMay v1 p W (h1.below hb))
  have M2 := hide (fun W (hb : Below w.heap.size w W) => dMay v2 q W (h2.below hb))
  rw [hm] at M1
  rw [hm2] at M2
  obtain ⟨vo, vu, rfl, ho, hu⟩ := h1.form
  obtain ⟨xo, xu, rfl, go, gu⟩ := h2.form
  have HO := hide ho
  have HU := hide hu
  have GO := hide go
  have GU := hide gu
  obtain ⟨ao, co, rfl, _⟩ := ho.spell
  obtain ⟨au, cu, rfl, _⟩ := hu.spell
  obtain ⟨bo, do_, rfl, _⟩ := go.spell
  obtain ⟨bu, du, rfl, _⟩ := gu.spell
  obtain ⟨k1, k2, k3, hB⟩ := alloc3 w (.cells #[.int .i64 p.inp, .slice ao p.ops.length co, .slice au p.outs.length cu] 25) (.cells #[.int .i64 q.inp, .slice bo q.ops.length do_, .slice bu q.outs.length du] 25) (.cells #[.int .i64 0, .slice none 0 0, .slice none 0 0] 25)
  have B0 : Bx w (((w.alloc (.cells #[.int .i64 p.inp, .slice ao p.ops.length co, .slice au p.outs.length cu] 25)).alloc (.cells #[.int .i64 q.inp, .slice bo q.ops.length do_, .slice bu q.outs.length du] 25)).alloc (.cells #[.int .i64 0, .slice none 0 0, .slice none 0 0] 25)) p q _ _ _ _ _ _ _ := ⟨k1, k2, k3, hB⟩
  have HMo := hide mo
  have HMu := hide mu
  clear k1 k2 k3 hB h1 h2 ho hu go gu hm hm2 hE mo mu eP
  have g0 : IntKind.i64.wrap ((p.ops.length : Int) + (q.ops.length : Int)) = (p.ops.length : Int) + (q.ops.length : Int) := by rw [IntKind.wrap_i64]; omega
  have g1 : ¬ (256 : Int) < (p.ops.length : Int) + (q.ops.length : Int) := by omega
  have hmf : ∀ (fn : Fn) (first cap : Array Value) (w : World), (Instr.makeFunc fn first cap).run Try.prog w = .ok (.func fn first cap) w := fun _ _ _ _ => rfl
  go_enter Try.func25, Try.ntmps25
  go_upto_region 6 with (first
    | (go_at_call 20; refine (M1.out _ B0.b).mono ?_; clear M1; rintro e w1 ⟨rfl, hb1⟩; have B1 := B0.below hb1; obtain ⟨q0, q1, q2⟩ := cell3 B1.q)
    | (go_at_call 20; refine (M2.out _ B1.b).mono ?_; rintro e w2 ⟨rfl, hb2⟩; have B2 := B1.below hb2; obtain ⟨p0, p1, p2⟩ := cell3 B2.p; obtain ⟨q3, q4, q5⟩ := cell3 B2.q; obtain ⟨ta, tc, w3, hr3, ho3, hb3⟩ := appI0 w2 q.outs _ (w.heap.size + 3) (GU.out.below B2.b) (by omega) B2.size; have q6 := fun ob => (cell3 (B2.below (alloc_below w2 ob)).q).2.2)
    | (at_builtin; refine Lib.wpList_append_run _ rfl _ _ _ _ rfl _ _ rfl rfl _ _ hr3 ?_))
  have B3 := B2.below hb3
  have HO3 := hide ho3
  clear q0 q1 q2 B0 M2 hb1 hb2 B1 p0 p1 p2 q3 q4 q5 q6 hr3 ho3 hb3 B2 hlen
  go_cut [7] from 41 to 47 (fun v7 wx => ∃ b7 yo, v7 = .pointer (some ⟨b7, 0, none⟩) ∧ Ad w wx p q (.slice ao p.ops.length co) (.slice au p.outs.length cu) (.slice bo q.ops.length do_) (.slice bu q.outs.length du) b7 yo (.slice none 0 0) q.ops [] (.slice ta q.outs.length tc) q.outs)
  case first =>
    have Z := B3.size
    have HS : Hid (∀ W, Bx w W p q (.slice ao p.ops.length co) (.slice au p.outs.length cu) (.slice bo q.ops.length do_) (.slice bu q.outs.length du) (.int .i64 0) (.slice none 0 0) (.slice none 0 0) → W.cell? ⟨w.heap.size + 1, 0, none⟩ = some (.int .i64 q.inp) ∧ W.cell? ⟨w.heap.size + 1, 1, none⟩ = some (.slice bo q.ops.length do_)) := fun W h => ⟨(cell3 h.q).1, (cell3 h.q).2.1⟩
    have HBA := hide (B3.below (alloc_below w3 (.cells #[] 68))).drew
    have NA : (w3.alloc (.cells #[] 68)).drew.heap[w3.heap.size]? = _ := heap_alloc_new w3 (.cells #[] 68)
    obtain ⟨ya1, yc1, w4, hrA, hoA, hbA, hgA⟩ := appO0 w3 (w3.alloc (.cells #[] 68)).drew w3.heap.size (w.heap.size + 3) q.ops _ NA Z (GO.out.below HBA.out.b) (by omega)
    have B4 := HBA.out.grown hgA (fun k e => by cases e; omega)
    have F4 := af_new2 B4 (Nat.le_refl _) hoA
    have T4 := own_kept (own_kept (own_drew <| own_kept HO3.out (below_own (alloc_below w3 (.cells #[] 68))) (fun g _ => by simp)) hgA (fun g hg e => by have := own_top HO3.out g hg; have := Option.some.inj e; omega)) (below_own (alloc_below w4 (.cells #[.int .i64 q.inp, .slice ya1 q.ops.length yc1, .slice none 0 0] 25))) (fun g _ => by simp)
    have D4 : Hid (Ad w _ p q (.slice ao p.ops.length co) (.slice au p.outs.length cu) (.slice bo q.ops.length do_) (.slice bu q.outs.length du) _ _ (.slice none 0 0) q.ops [] (.slice ta q.outs.length tc) q.outs) := ⟨F4, T4, fun g _ => by simp [Value.ownBlock]⟩
    obtain ⟨n1, n2, hBB⟩ := alloc2 w3 (.cells #[] 68) (.cells #[.int .i64 0, .slice none 0 0, .slice none 0 0] 25)
    have HBB := hide (B3.below hBB).drew
    obtain ⟨ya2, yc2, w5, hrB, hoB, hbB, hgB⟩ := appO0 w3 ((w3.alloc (.cells #[] 68)).alloc (.cells #[.int .i64 0, .slice none 0 0, .slice none 0 0] 25)).drew w3.heap.size (w.heap.size + 3) q.ops _ n1 Z (GO.out.below HBB.out.b) (by omega)
    have B5 := HBB.out.grown hgB (fun k e => by cases e; omega)
    have N5 := (hgB.block (w3.heap.size + 1) (Array.getElem?_eq_some_iff.1 n2).1 (fun e => by have := Option.some.inj e; omega)).trans n2
    have F5 := af_new B5 N5 (by omega) (Nat.le_refl _) hoB
    have T5 := own_kept (own_kept (own_drew <| own_kept HO3.out (below_own hBB) (fun g _ => by simp)) hgB (fun g hg e => by have := own_top HO3.out g hg; have := Option.some.inj e; omega)) (set3_grown w5 (w3.heap.size + 1) (.int .i64 q.inp) (.slice ya2 q.ops.length yc2) (.slice none 0 0)) (fun g hg e => by have := own_top HO3.out g hg; have := Option.some.inj e; omega)
    have D5 : Hid (Ad w _ p q (.slice ao p.ops.length co) (.slice au p.outs.length cu) (.slice bo q.ops.length do_) (.slice bu q.outs.length du) _ _ (.slice none 0 0) q.ops [] (.slice ta q.outs.length tc) q.outs) := ⟨F5, T5, fun g _ => by simp [Value.ownBlock]⟩
    obtain ⟨m1, m2, hBC⟩ := alloc2 w3 (.cells #[.int .i64 0, .slice none 0 0, .slice none 0 0] 25) (.cells #[] 68)
    have HBC := hide (B3.below hBC).drew
    obtain ⟨ya3, yc3, w6, hrC, hoC, hbC, hgC⟩ := appO0 w3 ((w3.alloc (.cells #[.int .i64 0, .slice none 0 0, .slice none 0 0] 25)).alloc (.cells #[] 68)).drew (w3.heap.size + 1) (w.heap.size + 3) q.ops _ m2 (by omega) (GO.out.below HBC.out.b) (by omega)
    have B6 := HBC.out.grown hgC (fun k e => by cases e; omega)
    have N6 := (hgC.block w3.heap.size (Array.getElem?_eq_some_iff.1 m1).1 (fun e => by have := Option.some.inj e; omega)).trans m1
    have F6 := af_new B6 N6 (by omega) (Nat.le_refl _) hoC
    have T6 := own_kept (own_kept (own_drew <| own_kept HO3.out (below_own hBC) (fun g _ => by simp)) hgC (fun g hg e => by have := own_top HO3.out g hg; have := Option.some.inj e; omega)) (set3_grown w6 w3.heap.size (.int .i64 q.inp) (.slice ya3 q.ops.length yc3) (.slice none 0 0)) (fun g hg e => by have := own_top HO3.out g hg; have := Option.some.inj e; omega)
    have D6 : Hid (Ad w _ p q (.slice ao p.ops.length co) (.slice au p.outs.length cu) (.slice bo q.ops.length do_) (.slice bu q.outs.length du) _ _ (.slice none 0 0) q.ops [] (.slice ta q.outs.length tc) q.outs) := ⟨F6, T6, fun g _ => by simp [Value.ownBlock]⟩
    have hS0 := HS.out _ B3.drew
    have hSA := fun o => HS.out _ (B3.below (alloc_below w3 o)).drew
    have hSB := fun o1 o2 => HS.out _ ((B3.below (alloc_below w3 o1)).below (alloc_below _ o2)).drew
    have hS4 := HS.out _ B4
    have hS4' := fun o => HS.out _ (B4.below (alloc_below w4 o))
    have hS5 := HS.out _ B5
    have hS5' := HS.out _ F5.bx
    have hS6 := HS.out _ B6
    have hS6' := HS.out _ F6.bx
    obtain ⟨d0, d1, d2⟩ := cell3 N5
    have d3 := fun k => Lib.frozen_of_heap N5 k
    obtain ⟨e0, e1, e2⟩ := cell3 N6
    have e3 := fun k => Lib.frozen_of_heap N6 k
    clear F4 T4 F5 T5 F6 T6 NA n1 n2 m1 m2 hBB hBC hoA hoB hoC hbA hbB hbC hgA hgB hgC N5 N6 B4 B5 B6
    go_region_held3 (fun W' => W'.cell? ⟨w.heap.size + 1, 0, none⟩ = some (.int .i64 q.inp) ∧ W'.cell? ⟨w.heap.size + 1, 1, none⟩ = some (.slice bo q.ops.length do_)) (first | with_reducible exact hS0 | with_reducible exact hSA _ | with_reducible exact hSB _ _ | with_reducible exact hS4 | with_reducible exact hS4' _ | with_reducible exact hS5 | with_reducible exact hS5' | with_reducible exact hS6 | with_reducible exact hS6') (first
      | (refine app_mute (by rfl) _ _ _ _ (by rfl) (.slice (some ⟨w3.heap.size, 0, none⟩) 0 0) (.slice bo q.ops.length do_) (by rfl) (by rfl) (.slice ya1 q.ops.length yc1) w4 (by with_reducible exact hrA) ?_)
      | (refine app_mute (by rfl) _ _ _ _ (by rfl) (.slice (some ⟨w3.heap.size, 0, none⟩) 0 0) (.slice bo q.ops.length do_) (by rfl) (by rfl) (.slice ya2 q.ops.length yc2) w5 (by with_reducible exact hrB) ?_)
      | (refine app_mute (by rfl) _ _ _ _ (by rfl) (.slice (some ⟨w3.heap.size + 1, 0, none⟩) 0 0) (.slice bo q.ops.length do_) (by rfl) (by rfl) (.slice ya3 q.ops.length yc3) w6 (by with_reducible exact hrC) ?_))
    all_goals
      go_wp2_with fail
      go_meet
    · exact ⟨_, _, rfl, D4.out⟩
    · exact ⟨_, _, rfl, D5.out⟩
    · exact ⟨_, _, rfl, D6.out⟩
  case rest =>
    obtain ⟨b7, yo, rfl, D0⟩ := hcut
    clear B3 HO3
    obtain ⟨ya, yc, rfl⟩ := own_slice D0.af.ro
    have HD0 := hide D0
    clear D0
    go_wp2_with fail
    go_loopw [6, 8] (fun vt vi wr => ∃ (i : Nat) (ta : Option Addr) (tc : Nat) (ya : Option Addr) (yc : Nat), i ≤ p.ops.length ∧ vi = .int .i64 i ∧ vt = .slice ta (q.outs.length + i) tc ∧ Hid (Ad w wr p q (.slice ao p.ops.length co) (.slice au p.outs.length cu) (.slice bo q.ops.length do_) (.slice bu q.outs.length du) b7 (.slice ya (q.ops.length + i) yc) (.slice none 0 0) (osJ p q i) [] (.slice ta (q.outs.length + i) tc) (aftAt q i))) (fun _ vi _ => p.ops.length - (intOf vi).toNat)
    case atStart => exact ⟨0, ta, tc, ya, yc, Nat.zero_le _, rfl, rfl, by rw [osJ_zero, aftAt_zero]; exact HD0⟩
    case round =>
      clear HD0
      obtain ⟨i, ta, tc, ya, yc, hi, rfl, rfl, F⟩ := hrel
      obtain ⟨p0, p1, p2⟩ := cell3 F.out.af.bx.p
      by_cases hlt : i < p.ops.length
      · obtain ⟨b, off, co', hv, _, hbl⟩ := HO.out.form (by omega)
        cases hv
        obtain ⟨ca, cb, cc, cd⟩ := HO.out.op F.out.af.bx.b hlt
        have hi0 : (0 : Int) ≤ (i : Int) := by omega
        have hi1 : (i : Int) < (p.ops.length : Int) := by omega
        have HM2 : Hid (opM p.ops[i] ((q.outs.length : Int) + i) = true) := by
          have := opsM_get p.inp p.ops 0 i hlt HMo.out
          rw [Nat.zero_add] at this
          show _ = _
          rw [hl]; exact this
        have HNx := hide (osJ_next p q hlt HM2.out)
        have HSc := hide (aftAt_succ q i)
        have HLo := hide (osJ_len p q (Nat.le_of_lt hlt))
        have HLt := hide (aftAt_len q i)
        have HFb := hide (fun ob => F.out.below (alloc_below wr ob))
        have r0 := fun ob => (cell3 (HFb.out ob).af.blk).1
        have r1 := fun ob => (cell3 (HFb.out ob).af.blk).2.1
        have hwv : IntKind.i64.wrap (q.inp + ((q.ops.length : Int) + (i : Int))) = q.inp + ((q.ops.length : Int) + (i : Int)) := by rw [IntKind.wrap_i64]; omega
        generalize p.ops[i] = o at *
        obtain ⟨ok, oa, ob, oc⟩ := o
        dsimp only at ca cb cc cd
        by_cases h4 : ok = 4
        · subst h4
          obtain ⟨ta3, tc3, w3, ya4, yc4, w4, hr3, y3, ⟨o0, o1, o2, o3⟩, hr4, y4, z4, HF4⟩ := (HFb.out (.cells #[.int .u8 4, .int .i64 oa, .int .i64 ob, .int .u64 oc] 68)).round (q.inp + ((q.ops.length : Int) + (i : Int))) ⟨4, oa, ob, oc⟩ wr.heap.size (heap_alloc_new wr _) (by rw [HLt.out]; omega) (by rw [HLo.out]; omega) (wr.heap.size + 1) (by simp)
          dsimp only at o0 o1 o2 o3 hr4
          rw [HLt.out] at hr3 HF4
          rw [HLo.out] at hr4 HF4
          go_wp2_with (at_builtin; first | (refine Lib.wpList_append_run _ rfl _ _ _ _ rfl _ _ rfl rfl _ _ hr3 ?_) | (refine Lib.wpList_append_run _ rfl _ _ _ _ rfl _ _ rfl rfl _ _ hr4 ?_))
          go_roundw
          case rel => exact ⟨i + 1, ta3, tc3, ya4, yc4, by omega, by go_num, rfl, by
            have hF := HF4.out
            show Ad _ _ _ _ _ _ _ _ _ _ _ _ _ _ _
            rw [HNx.out, HSc.out, shO_four _ _ rfl, show q.inp + ((q.ops.length + i : Nat) : Int) = q.inp + ((q.ops.length : Int) + (i : Int)) by omega]
            exact hF⟩
          case measure => simp [intOf]; omega
        · have hok : 0 ≤ oa ∧ oa < (q.outs.length : Int) + i ∧ 0 ≤ ob ∧ ob < (q.outs.length : Int) + i := by
            have := HM2.out
            unfold opM at this
            split at this
            · have := of_decide_eq_true this
              dsimp only at this
              omega
            · exact absurd this (by simp [h4])
          obtain ⟨ka, rfl⟩ := Int.eq_ofNat_of_zero_le hok.1
          obtain ⟨kb, rfl⟩ := Int.eq_ofNat_of_zero_le hok.2.2.1
          obtain ⟨hka, hka3⟩ := aftAt_el q (i := i) (k := ka) (by omega)
          obtain ⟨hkb, hkb3⟩ := aftAt_el q (i := i) (k := kb) (by omega)
          have HT := hide (lm_of_own iw_len (by decide) F.out.rt (by rw [aftAt_len]; omega))
          obtain ⟨gt, ot, ct, hv2, _, hgt⟩ := HT.out.form (by rw [HLt.out]; omega)
          injection hv2 with hv3 hv4 hv5
          subst hv3
          clear hv4 hv5
          have cA := HT.out.int (Below.refl _ wr) hka
          rw [hka3] at cA
          have cB := HT.out.int (Below.refl _ wr) hkb
          rw [hkb3] at cB
          have HSh : Hid (shO (aftAt q i) ⟨ok, (ka : Int), (kb : Int), oc⟩ = ⟨ok, (aftAt q i).getD ka 0, (aftAt q i).getD kb 0, oc⟩) := by show _ = _; unfold shO; rw [if_neg h4]; rfl
          generalize (aftAt q i).getD ka 0 = A at *
          generalize (aftAt q i).getD kb 0 = B at *
          have hS := fun (x : Value) => (show ((wr.alloc (.cells #[.int .u8 ok, x, .int .i64 kb, .int .u64 oc] 68)).drew.cell? ⟨gt, ot + ka, none⟩ = some (.int .i64 A) ∧ (wr.alloc (.cells #[.int .u8 ok, x, .int .i64 kb, .int .u64 oc] 68)).drew.cell? ⟨gt, ot + kb, none⟩ = some (.int .i64 B) ∧ (wr.alloc (.cells #[.int .u8 ok, x, .int .i64 kb, .int .u64 oc] 68)).drew.cell? ⟨wr.heap.size, 2, none⟩ = some (.int .i64 kb)) from ⟨((alloc_below wr _).drew.cell (cell_in cA)).trans cA, ((alloc_below wr _).drew.cell (cell_in cB)).trans cB, (cell4 (heap_alloc_new wr (.cells #[.int .u8 ok, x, .int .i64 kb, .int .u64 oc] 68))).2.2.1⟩)
          obtain ⟨ta3, tc3, w3, ya4, yc4, w4, hr3, y3, ⟨o0, o1, o2, o3⟩, hr4, y4, z4, HF4⟩ := Ad.round ((HFb.out (.cells #[.int .u8 ok, .int .i64 A, .int .i64 B, .int .u64 oc] 68)).below (Below.refl _ _).drew) (q.inp + ((q.ops.length : Int) + (i : Int))) ⟨ok, A, B, oc⟩ wr.heap.size (show (wr.alloc (.cells #[.int .u8 ok, .int .i64 A, .int .i64 B, .int .u64 oc] 68)).heap[wr.heap.size]? = _ from heap_alloc_new wr _) (by rw [HLt.out]; omega) (by rw [HLo.out]; omega) (wr.heap.size + 1) (show (wr.alloc _).heap.size = _ by simp)
          dsimp only at o0 o1 o2 o3 hr4
          rw [HLt.out] at hr3 HF4
          rw [HLo.out] at hr4 HF4
          have ha0 : (0 : Int) ≤ (ka : Int) := by omega
          have hb0 : (0 : Int) ≤ (kb : Int) := by omega
          have ha1 : (ka : Int) < (q.outs.length : Int) + (i : Int) := by omega
          have hb1 : (kb : Int) < (q.outs.length : Int) + (i : Int) := by omega
          have ha2 : (ka : Int) < p.inp + (i : Int) := by omega
          have hb2 : (kb : Int) < p.inp + (i : Int) := by omega
          clear hok hka hkb hka3 hkb3 HT hgt
          go_upto_region 12 with fail
          refine wp_region_mute (S := (fun W' => W'.cell? ⟨gt, ot + ka, none⟩ = some (.int .i64 A) ∧ W'.cell? ⟨gt, ot + kb, none⟩ = some (.int .i64 B) ∧ W'.cell? ⟨wr.heap.size, 2, none⟩ = some (.int .i64 kb))) (by kernel_rfl) (by kernel_rfl) rfl (by ((try dsimp only) <;> (with_reducible exact hS _))) (fun hHeld => ?_)
          simp only [muteL, mute]
          (refine wpAnyH_take (i := 0) (oi := _) (v := ?v82) rfl (by kernel_rfl) (by kernel_rfl) (by kernel_rfl) (fun _ _ _ h => h) (Or.inl ⟨by rfl, ?hy82⟩) (by assumption) ?rest82; (case hy82 => (first | (intro w hSw; (try dsimp only at hSw); go_simp; done) | (intro w hSw; (try dsimp only at hSw); go_simp; with_reducible rfl))); (try simp only [Act.put, List.getElem_toArray, List.getElem_cons_succ, List.getElem_cons_zero, List.setIfInBounds_toArray, List.set_cons_zero, List.set_cons_succ]))
          (refine wpAnyH_take (i := 1) (oi := _) (v := ?v83) rfl (by kernel_rfl) (by kernel_rfl) (by kernel_rfl) (fun _ _ _ h => h) (Or.inl ⟨by rfl, ?hy83⟩) (by assumption) ?rest83; (case hy83 => (first | (intro w hSw; (try dsimp only at hSw); go_simp; done) | (intro w hSw; (try dsimp only at hSw); go_simp; with_reducible rfl))); (try simp only [Act.put, List.getElem_toArray, List.getElem_cons_succ, List.getElem_cons_zero, List.setIfInBounds_toArray, List.set_cons_zero, List.set_cons_succ]))
          (refine wpAnyH_take (i := 5) (oi := _) (v := ?v84) rfl (by kernel_rfl) (by kernel_rfl) (by kernel_rfl) (fun _ _ _ h => h) (Or.inl ⟨by rfl, ?hy84⟩) (by assumption) ?rest84; (case hy84 => (first | (intro w hSw; (try dsimp only at hSw); go_simp; done) | (intro w hSw; (try dsimp only at hSw); go_simp; with_reducible rfl))); (try simp only [Act.put, List.getElem_toArray, List.getElem_cons_succ, List.getElem_cons_zero, List.setIfInBounds_toArray, List.set_cons_zero, List.set_cons_succ]))
          (refine wpAnyH_take (i := 6) (oi := _) (v := ?v85) rfl (by kernel_rfl) (by kernel_rfl) (by kernel_rfl) (fun _ _ _ h => h) (Or.inl ⟨by rfl, ?hy85⟩) (by assumption) ?rest85; (case hy85 => (first | (intro w hSw; (try dsimp only at hSw); go_simp; done) | (intro w hSw; (try dsimp only at hSw); go_simp; with_reducible rfl))); (try simp only [Act.put, List.getElem_toArray, List.getElem_cons_succ, List.getElem_cons_zero, List.setIfInBounds_toArray, List.set_cons_zero, List.set_cons_succ]))
          (refine wpAnyH_take (i := 7) (oi := _) (v := ?v86) rfl (by kernel_rfl) (by kernel_rfl) (by kernel_rfl) (fun _ _ _ h => h) (Or.inl ⟨by rfl, ?hy86⟩) (by assumption) ?rest86; (case hy86 => (first | (intro w hSw; (try dsimp only at hSw); go_simp; done) | (intro w hSw; (try dsimp only at hSw); go_simp; with_reducible rfl))); (try simp only [Act.put, List.getElem_toArray, List.getElem_cons_succ, List.getElem_cons_zero, List.setIfInBounds_toArray, List.set_cons_zero, List.set_cons_succ]))
          (refine wpAnyH_take (i := 8) (oi := _) (v := ?v87) rfl (by kernel_rfl) (by kernel_rfl) (by kernel_rfl) (fun _ _ _ h => h) (Or.inl ⟨by rfl, ?hy87⟩) (by assumption) ?rest87; (case hy87 => (first | (intro w hSw; (try dsimp only at hSw); go_simp; done) | (intro w hSw; (try dsimp only at hSw); go_simp; with_reducible rfl))); (try simp only [Act.put, List.getElem_toArray, List.getElem_cons_succ, List.getElem_cons_zero, List.setIfInBounds_toArray, List.set_cons_zero, List.set_cons_succ]))
          (refine wpAnyH_take (i := 9) (oi := _) (v := ?v88) rfl (by kernel_rfl) (by kernel_rfl) (by kernel_rfl) (fun _ _ _ h => h) (Or.inl ⟨by rfl, ?hy88⟩) (by assumption) ?rest88; (case hy88 => (first | (intro w hSw; (try dsimp only at hSw); go_simp; done) | (intro w hSw; (try dsimp only at hSw); go_simp; with_reducible rfl))); (try simp only [Act.put, List.getElem_toArray, List.getElem_cons_succ, List.getElem_cons_zero, List.setIfInBounds_toArray, List.set_cons_zero, List.set_cons_succ]))
          refine wpAnyH_ready (rs := [2]) (by kernel_rfl) (by simp) ?_
          refine AllReadyH.cons (o := _) rfl (fun K hK => ?_) AllReadyH.nil
          try simp only [List.getElem_toArray, List.getElem_cons_succ, List.getElem_cons_zero]
          go_simp
          refine hK.out _ _ (by ((try dsimp only) <;> (with_reducible exact hS _))) (fun hHeld => ?_)
          clear hK K
          (try simp only [Act.put, List.getElem_toArray, List.getElem_cons_succ, List.getElem_cons_zero, List.setIfInBounds_toArray, List.set_cons_zero, List.set_cons_succ])
          (refine wpAnyH_take (i := 3) (oi := _) (v := ?v89) rfl (by kernel_rfl) (by kernel_rfl) (by kernel_rfl) (fun _ _ _ h => h) (Or.inl ⟨by rfl, ?hy89⟩) (by assumption) ?rest89; (case hy89 => (first | (intro w hSw; (try dsimp only at hSw); go_simp; done) | (intro w hSw; (try dsimp only at hSw); go_simp; with_reducible rfl))); (try simp only [Act.put, List.getElem_toArray, List.getElem_cons_succ, List.getElem_cons_zero, List.setIfInBounds_toArray, List.set_cons_zero, List.set_cons_succ]))
          (refine wpAnyH_take (i := 4) (oi := _) (v := ?v90) rfl (by kernel_rfl) (by kernel_rfl) (by kernel_rfl) (fun _ _ _ h => h) (Or.inl ⟨by rfl, ?hy90⟩) (by assumption) ?rest90; (case hy90 => (first | (intro w hSw; (try dsimp only at hSw); go_simp; done) | (intro w hSw; (try dsimp only at hSw); go_simp; with_reducible rfl))); (try simp only [Act.put, List.getElem_toArray, List.getElem_cons_succ, List.getElem_cons_zero, List.setIfInBounds_toArray, List.set_cons_zero, List.set_cons_succ]))
          (refine wpAnyH_take (i := 10) (oi := _) (v := ?v91) rfl (by kernel_rfl) (by kernel_rfl) (by kernel_rfl) (fun _ _ _ h => h) (Or.inl ⟨by rfl, ?hy91⟩) (by assumption) ?rest91; (case hy91 => (first | (intro w hSw; (try dsimp only at hSw); go_simp; done) | (intro w hSw; (try dsimp only at hSw); go_simp; with_reducible rfl))); (try simp only [Act.put, List.getElem_toArray, List.getElem_cons_succ, List.getElem_cons_zero, List.setIfInBounds_toArray, List.set_cons_zero, List.set_cons_succ]))
          refine wpAnyH_ready (rs := [11]) (by kernel_rfl) (by simp) ?_
          refine AllReadyH.cons (o := _) rfl (fun K hK => ?_) AllReadyH.nil
          try simp only [List.getElem_toArray, List.getElem_cons_succ, List.getElem_cons_zero]
          go_simp
          refine hK.out _ _ (by ((try dsimp only) <;> (with_reducible exact hS _))) (fun hHeld => ?_)
          clear hK K
          (try simp only [Act.put, List.getElem_toArray, List.getElem_cons_succ, List.getElem_cons_zero, List.setIfInBounds_toArray, List.set_cons_zero, List.set_cons_succ])
          (refine wpAnyH_take (i := 12) (oi := _) (v := ?v92) rfl (by kernel_rfl) (by kernel_rfl) (by kernel_rfl) (fun _ _ _ h => h) (Or.inl ⟨by rfl, ?hy92⟩) (by assumption) ?rest92; (case hy92 => (first | (intro w hSw; (try dsimp only at hSw); go_simp; done) | (intro w hSw; (try dsimp only at hSw); go_simp; with_reducible rfl))); (try simp only [Act.put, List.getElem_toArray, List.getElem_cons_succ, List.getElem_cons_zero, List.setIfInBounds_toArray, List.set_cons_zero, List.set_cons_succ]))
          (refine wpAnyH_take (i := 13) (oi := _) (v := ?v93) rfl (by kernel_rfl) (by kernel_rfl) (by kernel_rfl) (fun _ _ _ h => h) (Or.inl ⟨by rfl, ?hy93⟩) (by assumption) ?rest93; (case hy93 => (first | (intro w hSw; (try dsimp only at hSw); go_simp; done) | (intro w hSw; (try dsimp only at hSw); go_simp; with_reducible rfl))); (try simp only [Act.put, List.getElem_toArray, List.getElem_cons_succ, List.getElem_cons_zero, List.setIfInBounds_toArray, List.set_cons_zero, List.set_cons_succ]))
          refine wpAnyH_done (by kernel_rfl) ?_ _
          all_goals
            simp only [muteQ]
            clear hS
            go_wp2_with (at_builtin; first | (refine Lib.wpList_append_run _ rfl _ _ _ _ rfl _ _ rfl rfl _ _ hr3 ?_) | (refine Lib.wpList_append_run _ rfl _ _ _ _ rfl _ _ rfl rfl _ _ hr4 ?_))
            go_roundw
            case rel => exact ⟨i + 1, ta3, tc3, ya4, yc4, by omega, by go_num, rfl, by
              have hF := HF4.out
              show Ad _ _ _ _ _ _ _ _ _ _ _ _ _ _ _
              rw [HNx.out, HSc.out, HSh.out, show q.inp + ((q.ops.length + i : Nat) : Int) = q.inp + ((q.ops.length : Int) + (i : Int)) by omega]
              exact hF⟩
            case measure => simp [intOf]; omega
      · obtain rfl : i = p.ops.length := by omega
        rw [osJ_end] at F
        go_wp2_with fail
        go_loopw [10] (fun vi wr => ∃ (j : Nat) (yu : Value), j ≤ p.outs.length ∧ vi = .int .i64 j ∧ Hid (Ad w wr p q (.slice ao p.ops.length co) (.slice au p.outs.length cu) (.slice bo q.ops.length do_) (.slice bu q.outs.length du) b7 (.slice ya (q.ops.length + p.ops.length) yc) yu (aftF p q).ops ((p.outs.take j).map (fun v => (aftAt q p.ops.length).getD v.toNat 0)) (.slice ta (q.outs.length + p.ops.length) tc) (aftAt q p.ops.length))) (fun vi _ => p.outs.length - (intOf vi).toNat)
        case atStart => exact ⟨0, _, Nat.zero_le _, rfl, F⟩
        case round =>
          clear F p0 p1 p2
          obtain ⟨j, yu, hj, rfl, F⟩ := hrel
          obtain ⟨p0, p1, p2⟩ := cell3 F.out.af.bx.p
          by_cases hlj : j < p.outs.length
          · obtain ⟨b, off, cu', hv, _, hbl⟩ := HU.out.form (by omega)
            cases hv
            have ca := HU.out.int F.out.af.bx.b hlj
            have hok : 0 ≤ p.outs[j] ∧ p.outs[j] < p.inp + (p.ops.length : Int) := of_decide_eq_true (List.all_eq_true.1 HMu.out p.outs[j] (List.getElem_mem hlj))
            have hj0 : (0 : Int) ≤ (j : Int) := by omega
            have hj1 : (j : Int) < (p.outs.length : Int) := by omega
            have hul : ((p.outs.take j).map (fun v => (aftAt q p.ops.length).getD v.toNat 0)).length = j := by rw [List.length_map, List.length_take]; omega
            have HNx : Hid ((p.outs.take (j + 1)).map (fun v => (aftAt q p.ops.length).getD v.toNat 0) = (p.outs.take j).map (fun v => (aftAt q p.ops.length).getD v.toNat 0) ++ [(aftAt q p.ops.length).getD p.outs[j].toNat 0]) := by show _ = _; rw [List.take_succ_eq_append_getElem hlj, List.map_append]; rfl
            obtain ⟨uu, HUu⟩ : ∃ uu, Hid ((p.outs.take j).map (fun v => (aftAt q p.ops.length).getD v.toNat 0) = uu) := ⟨_, rfl⟩
            rw [HUu.out] at F hul HNx
            obtain ⟨k, hk⟩ := Int.eq_ofNat_of_zero_le hok.1
            rw [hk] at ca hok
            rw [hk, Int.toNat_natCast] at HNx
            have hkl : k < q.outs.length + p.ops.length := by omega
            obtain ⟨hk2, hk3⟩ := aftAt_el q hkl
            have HT := hide (lm_of_own iw_len (by decide) F.out.rt (by rw [aftAt_len]; omega))
            obtain ⟨gt, ot, ct, hv2, _, hgt⟩ := HT.out.form (by omega)
            injection hv2 with hv3 hv4 hv5
            subst hv3
            clear hv4 hv5
            have cA := HT.out.int (Below.refl _ wr) hk2
            rw [hk3] at cA
            generalize (aftAt q p.ops.length).getD k 0 = A at *
            obtain ⟨yz, yd, rfl⟩ := own_slice F.out.af.ru
            have HA := hide (Ad.out ((F.out.below (Below.refl _ wr).drew).below (alloc_below wr.drew (.cells #[.int .i64 A] 3))) ⟨wr.heap.size, 0, none⟩ A (show (wr.alloc (.cells #[.int .i64 A] 3)).cell? ⟨wr.heap.size, 0, none⟩ = _ by rw [Lib.cell_of_heap (heap_alloc_new wr _)]; rfl) (by omega))
            have HS : Hid (∀ W, Below wr.heap.size wr W → W.cell? ⟨b7, 2, none⟩ = some (.slice yz uu.length yd) ∧ W.cell? ⟨w.heap.size, 2, none⟩ = some (.slice (some ⟨b, off, none⟩) p.outs.length cu) ∧ W.cell? ⟨b, off + j, none⟩ = some (.int .i64 k) ∧ W.cell? ⟨gt, ot + k, none⟩ = some (.int .i64 A)) := fun W hb => ⟨(cell3 (F.out.af.below hb).blk).2.2, (cell3 (F.out.af.below hb).bx.p).2.2, (hb.cell (cell_in ca)).trans ca, (hb.cell (cell_in cA)).trans cA⟩
            have hS0 := HS.out wr.drew (Below.refl _ wr).drew
            have hS2 := fun ob => HS.out (wr.alloc ob).drew ((alloc_below wr ob).drew)
            obtain ⟨au4, cu4, w4, hr4, hS4, hz4, B4, T4, F4⟩ := HA.out
            have hS5 : w4.cell? ⟨b7, 2, none⟩ = some (.slice yz uu.length yd) ∧ w4.cell? ⟨w.heap.size, 2, none⟩ = some (.slice (some ⟨b, off, none⟩) p.outs.length cu) ∧ w4.cell? ⟨b, off + j, none⟩ = some (.int .i64 k) ∧ w4.cell? ⟨gt, ot + k, none⟩ = some (.int .i64 A) := by
              refine ⟨hS4, (cell3 B4.p).2.2, ?_, ?_⟩
              · have := HU.out.int B4.b hlj
                rw [hk] at this; exact this
              · have HT4 := lm_of_own iw_len (by decide) T4 (by rw [aftAt_len]; omega)
                have := HT4.int (Below.refl _ w4) hk2
                rw [hk3] at this; exact this
            have HF4 := hide F4
            have hk0 : (0 : Int) ≤ (k : Int) := by omega
            have hk1 : (k : Int) < p.inp + (p.ops.length : Int) := hok.2
            clear F4 HA hok B4 T4 HT hk hk3
            rw [hul] at *
            go_upto_region 18 with fail
            refine wp_region_mute (S := (fun W' => W'.cell? ⟨b7, 2, none⟩ = some (.slice yz j yd) ∧ W'.cell? ⟨w.heap.size, 2, none⟩ = some (.slice (some ⟨b, off, none⟩) p.outs.length cu) ∧ W'.cell? ⟨b, off + j, none⟩ = some (.int .i64 k) ∧ W'.cell? ⟨gt, ot + k, none⟩ = some (.int .i64 A))) (by kernel_rfl) (by kernel_rfl) rfl (by ((try dsimp only) <;> (first | with_reducible exact hS0 | with_reducible exact hS2 _ | with_reducible exact hS5))) (fun hHeld => ?_)
            simp only [muteL, mute]
            (refine wpAnyH_take (i := 0) (oi := _) (v := ?v94) rfl (by kernel_rfl) (by kernel_rfl) (by kernel_rfl) (fun _ _ _ h => h) (Or.inl ⟨by rfl, ?hy94⟩) (by assumption) ?rest94; (case hy94 => (first | (intro w hSw; (try dsimp only at hSw); go_simp; done) | (intro w hSw; (try dsimp only at hSw); go_simp; with_reducible rfl))); (try simp only [Act.put, List.getElem_toArray, List.getElem_cons_succ, List.getElem_cons_zero, List.setIfInBounds_toArray, List.set_cons_zero, List.set_cons_succ]))
            (refine wpAnyH_take (i := 1) (oi := _) (v := ?v95) rfl (by kernel_rfl) (by kernel_rfl) (by kernel_rfl) (fun _ _ _ h => h) (Or.inl ⟨by rfl, ?hy95⟩) (by assumption) ?rest95; (case hy95 => (first | (intro w hSw; (try dsimp only at hSw); go_simp; done) | (intro w hSw; (try dsimp only at hSw); go_simp; with_reducible rfl))); (try simp only [Act.put, List.getElem_toArray, List.getElem_cons_succ, List.getElem_cons_zero, List.setIfInBounds_toArray, List.set_cons_zero, List.set_cons_succ]))
            (refine wpAnyH_take (i := 2) (oi := _) (v := ?v96) rfl (by kernel_rfl) (by kernel_rfl) (by kernel_rfl) (fun _ _ _ h => h) (Or.inl ⟨by rfl, ?hy96⟩) (by assumption) ?rest96; (case hy96 => (first | (intro w hSw; (try dsimp only at hSw); go_simp; done) | (intro w hSw; (try dsimp only at hSw); go_simp; with_reducible rfl))); (try simp only [Act.put, List.getElem_toArray, List.getElem_cons_succ, List.getElem_cons_zero, List.setIfInBounds_toArray, List.set_cons_zero, List.set_cons_succ]))
            (refine wpAnyH_take (i := 3) (oi := _) (v := ?v97) rfl (by kernel_rfl) (by kernel_rfl) (by kernel_rfl) (fun _ _ _ h => h) (Or.inl ⟨by rfl, ?hy97⟩) (by assumption) ?rest97; (case hy97 => (first | (intro w hSw; (try dsimp only at hSw); go_simp; done) | (intro w hSw; (try dsimp only at hSw); go_simp; with_reducible rfl))); (try simp only [Act.put, List.getElem_toArray, List.getElem_cons_succ, List.getElem_cons_zero, List.setIfInBounds_toArray, List.set_cons_zero, List.set_cons_succ]))
            (refine wpAnyH_take (i := 4) (oi := _) (v := ?v98) rfl (by kernel_rfl) (by kernel_rfl) (by kernel_rfl) (fun _ _ _ h => h) (Or.inl ⟨by rfl, ?hy98⟩) (by assumption) ?rest98; (case hy98 => (first | (intro w hSw; (try dsimp only at hSw); go_simp; done) | (intro w hSw; (try dsimp only at hSw); go_simp; with_reducible rfl))); (try simp only [Act.put, List.getElem_toArray, List.getElem_cons_succ, List.getElem_cons_zero, List.setIfInBounds_toArray, List.set_cons_zero, List.set_cons_succ]))
            (refine wpAnyH_take (i := 5) (oi := _) (v := ?v99) rfl (by kernel_rfl) (by kernel_rfl) (by kernel_rfl) (fun _ _ _ h => h) (Or.inl ⟨by rfl, ?hy99⟩) (by assumption) ?rest99; (case hy99 => (first | (intro w hSw; (try dsimp only at hSw); go_simp; done) | (intro w hSw; (try dsimp only at hSw); go_simp; with_reducible rfl))); (try simp only [Act.put, List.getElem_toArray, List.getElem_cons_succ, List.getElem_cons_zero, List.setIfInBounds_toArray, List.set_cons_zero, List.set_cons_succ]))
            (refine wpAnyH_take (i := 6) (oi := _) (v := ?v100) rfl (by kernel_rfl) (by kernel_rfl) (by kernel_rfl) (fun _ _ _ h => h) (Or.inl ⟨by rfl, ?hy100⟩) (by assumption) ?rest100; (case hy100 => (first | (intro w hSw; (try dsimp only at hSw); go_simp; done) | (intro w hSw; (try dsimp only at hSw); go_simp; with_reducible rfl))); (try simp only [Act.put, List.getElem_toArray, List.getElem_cons_succ, List.getElem_cons_zero, List.setIfInBounds_toArray, List.set_cons_zero, List.set_cons_succ]))
            (refine wpAnyH_take (i := 7) (oi := _) (v := ?v101) rfl (by kernel_rfl) (by kernel_rfl) (by kernel_rfl) (fun _ _ _ h => h) (Or.inl ⟨by rfl, ?hy101⟩) (by assumption) ?rest101; (case hy101 => (first | (intro w hSw; (try dsimp only at hSw); go_simp; done) | (intro w hSw; (try dsimp only at hSw); go_simp; with_reducible rfl))); (try simp only [Act.put, List.getElem_toArray, List.getElem_cons_succ, List.getElem_cons_zero, List.setIfInBounds_toArray, List.set_cons_zero, List.set_cons_succ]))
            (refine wpAnyH_take (i := 8) (oi := _) (v := ?v102) rfl (by kernel_rfl) (by kernel_rfl) (by kernel_rfl) (fun _ _ _ h => h) (Or.inl ⟨by rfl, ?hy102⟩) (by assumption) ?rest102; (case hy102 => (first | (intro w hSw; (try dsimp only at hSw); go_simp; done) | (intro w hSw; (try dsimp only at hSw); go_simp; with_reducible rfl))); (try simp only [Act.put, List.getElem_toArray, List.getElem_cons_succ, List.getElem_cons_zero, List.setIfInBounds_toArray, List.set_cons_zero, List.set_cons_succ]))
            (refine wpAnyH_take (i := 9) (oi := _) (v := ?v103) rfl (by kernel_rfl) (by kernel_rfl) (by kernel_rfl) (fun _ _ _ h => h) (Or.inl ⟨by rfl, ?hy103⟩) (by assumption) ?rest103; (case hy103 => (first | (intro w hSw; (try dsimp only at hSw); go_simp; done) | (intro w hSw; (try dsimp only at hSw); go_simp; with_reducible rfl))); (try simp only [Act.put, List.getElem_toArray, List.getElem_cons_succ, List.getElem_cons_zero, List.setIfInBounds_toArray, List.set_cons_zero, List.set_cons_succ]))
            refine wpAnyH_ready (rs := [10]) (by kernel_rfl) (by simp) ?_
            refine AllReadyH.cons (o := _) rfl (fun K hK => ?_) AllReadyH.nil
            try simp only [List.getElem_toArray, List.getElem_cons_succ, List.getElem_cons_zero]
            go_simp
            refine hK.out _ _ (by ((try dsimp only) <;> (first | with_reducible exact hS0 | with_reducible exact hS2 _ | with_reducible exact hS5))) (fun hHeld => ?_)
            clear hK K
            (try simp only [Act.put, List.getElem_toArray, List.getElem_cons_succ, List.getElem_cons_zero, List.setIfInBounds_toArray, List.set_cons_zero, List.set_cons_succ])
            refine wpAnyH_ready (rs := [11]) (by kernel_rfl) (by simp) ?_
            refine AllReadyH.cons (o := _) rfl (fun K hK => ?_) AllReadyH.nil
            (first
                  | (refine app_mute (by rfl) _ _ _ _ (by rfl) _ _ (by rfl) (by rfl) _ w4 hr4 ?_))
            refine hK.out _ _ (by ((try dsimp only) <;> (first | with_reducible exact hS0 | with_reducible exact hS2 _ | with_reducible exact hS5))) (fun hHeld => ?_)
            clear hK K
            (try simp only [Act.put, List.getElem_toArray, List.getElem_cons_succ, List.getElem_cons_zero, List.setIfInBounds_toArray, List.set_cons_zero, List.set_cons_succ])
            (refine wpAnyH_take (i := 12) (oi := _) (v := ?v104) rfl (by kernel_rfl) (by kernel_rfl) (by kernel_rfl) (fun _ _ _ h => h) (Or.inl ⟨by rfl, ?hy104⟩) (by assumption) ?rest104; (case hy104 => (first | (intro w hSw; (try dsimp only at hSw); go_simp; done) | (intro w hSw; (try dsimp only at hSw); go_simp; with_reducible rfl))); (try simp only [Act.put, List.getElem_toArray, List.getElem_cons_succ, List.getElem_cons_zero, List.setIfInBounds_toArray, List.set_cons_zero, List.set_cons_succ]))
            (refine wpAnyH_take (i := 13) (oi := _) (v := ?v105) rfl (by kernel_rfl) (by kernel_rfl) (by kernel_rfl) (fun _ _ _ h => h) (Or.inl ⟨by rfl, ?hy105⟩) (by assumption) ?rest105; (case hy105 => (first | (intro w hSw; (try dsimp only at hSw); go_simp; done) | (intro w hSw; (try dsimp only at hSw); go_simp; with_reducible rfl))); (try simp only [Act.put, List.getElem_toArray, List.getElem_cons_succ, List.getElem_cons_zero, List.setIfInBounds_toArray, List.set_cons_zero, List.set_cons_succ]))
            refine wpAnyH_done (by kernel_rfl) ?_ _
            simp only [muteQ]
            clear hr4 hS0 hS2 hS5
            go_wp2_with fail
            go_roundw
            case rel => exact ⟨j + 1, .slice au4 (j + 1) cu4, by omega, by go_num, by first | (rw [HNx.out]; exact HF4.out) | (have h := HF4.out; rw [← HNx.out] at h; simpa using h)⟩
            case measure => simp [intOf]; omega
          · obtain rfl : j = p.outs.length := by omega
            rw [List.take_length] at F
            have HFo : Hid ((p.outs.map (fun v => (aftAt q p.ops.length).getD v.toNat 0)) = (aftF p q).outs) := rfl
            rw [HFo.out] at F
            obtain ⟨yz, yd, rfl⟩ := own_slice F.out.af.ru
            obtain ⟨y0, y1, y2⟩ := cell3 F.out.af.blk
            obtain ⟨r0, r1, r2⟩ := cell3 F.out.af.bx.r
            have rf := fun k => Lib.frozen_of_heap F.out.af.bx.r k
            go_wp2_with fail
            have B9 := F.out.af.bx.setr (.int .i64 q.inp) (.slice ya (q.ops.length + p.ops.length) yc) (.slice yz (aftF p q).outs.length yd)
            have hg := set3_grown wr (w.heap.size + 1 + 1) (.int .i64 q.inp) (.slice ya (q.ops.length + p.ops.length) yc) (.slice yz (aftF p q).outs.length yd)
            refine bodyPost_ret (res_ct (a := 4) (b := 5) rfl rfl rfl (load_prog B9.r)) rfl ⟨_, _, rfl, own_mono (own_kept F.out.af.ro hg (fun g hg' e => ?_)) (by omega), own_mono (own_kept F.out.af.ru hg (fun g hg' e => ?_)) (by omega), B9.b⟩
            · exact own_not F.out.af.ro F.out.af.bx.r (by decide) (hg'.trans e.symm)
            · exact own_not F.out.af.ru F.out.af.bx.r (by decide) (hg'.trans e.symm)

end Go.Proofs.Ytfbipnhhnmlhfaa
