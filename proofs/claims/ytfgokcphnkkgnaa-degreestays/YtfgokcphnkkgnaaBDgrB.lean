/-
  Layer 10: All, Of: the document's.
-/
import Derived.Test.YtfgokcphnkkgnaaBDgrA
import Derived.Test.YtfgokcphnkkgnaaBDgpF
namespace Go.Proofs.Ytfgokcphnkkgnaa
open Go.RowKit Fld Slp
set_option linter.unusedVariables false
set_option linter.unusedSimpArgs false

theorem iz_le (p : Pr) {x : Int} (h : x ∈ iz (cps p)) : x ≤ 1025 := by
  obtain ⟨d, hd, rfl⟩ := List.mem_map.1 h
  have := cps_le p d hd
  omega

set_option maxRecDepth 100000 in
set_option maxHeartbeats 400000 in
theorem dAll (v : Value) (p : Pr) (w : World) (h : Pm w v p) : GivesI 8 v w (alL p) (alE p) := by
  unfold GivesI
  have M := hide (fun W (hb : Below w.heap.size w W) => dMay v p W (h.below hb))
  have HP := hide h
  obtain ⟨vo, vu, rfl, ho, hu⟩ := h.form
  obtain ⟨ao, co, rfl, _⟩ := ho.spell
  obtain ⟨au, cu, rfl, _⟩ := hu.spell
  have hA := alloc_below w (.cells #[.int .i64 p.inp, .slice ao p.ops.length co, .slice au p.outs.length cu] 25)
  have hN := heap_alloc_new w (.cells #[.int .i64 p.inp, .slice ao p.ops.length co, .slice au p.outs.length cu] 25)
  clear h ho hu
  cases hm : mayB p with
  | false =>
    have e1 : alE p = 2 := by unfold alE; rw [hm]; rfl
    have e2 : alL p = [] := by unfold alL; rw [e1]; rfl
    rw [e1, e2]
    rw [hm] at M
    clear hm e1 e2
    go_enter Try.func8, Try.ntmps8
    go_wp2_with (go_at_call 19; refine (M.out _ hA).mono ?_; rintro e w1 ⟨rfl, hb1⟩)
    go_ret2
    exact ⟨_, rfl, own_nil _ _ _ _, Below.next hA hb1⟩
  | true =>
    rw [hm] at M
    have HD := hide (fun W (hb : Below w.heap.size w W) => dCapped _ p W (HP.out.below hb) hm)
    obtain ⟨⟨i0, i1, l1, l2⟩, _, _⟩ := mayB_iff.1 hm
    have HE : Hid (alE p = if 1025 ∈ iz (cps p) then 4 else 0) := by show _ = _; unfold alE; rw [if_pos hm]
    obtain ⟨k, Hk⟩ : ∃ k, Hid ((cps p).length = k) := ⟨_, rfl⟩
    have hk : k ≤ 320 := by have := Hk.out; rw [cps_len] at this; omega
    have Hk2 : Hid ((iz (cps p)).length = k) := by show _ = _; rw [iz_len]; exact Hk.out
    rw [Hk.out] at HD
    clear hm
    go_enter Try.func8, Try.ntmps8
    go_wp2_with (first
      | (go_at_call 19; refine (M.out _ hA).mono ?_; rintro e w1 ⟨rfl, hb1⟩; have hB1 := Below.next hA hb1; have n1 := (hb1.block _ (Array.getElem?_eq_some_iff.1 hN).1).trans hN; obtain ⟨p0, p1, p2⟩ := cell3 n1)
      | (go_at_call 24; refine (HD.out _ hB1).mono ?_; rintro e w2 ⟨v2, rfl, ho2, hb2⟩; obtain ⟨a2, c2, rfl⟩ := own_slice ho2; have HO2 := hide ho2; have hB2 := Below.next hB1 hb2; clear ho2))
    have HL := hide (lm_of_own iw_len (by decide) HO2.out (by rw [Hk2.out]; omega))
    go_loop [5] (fun vi => ∃ j : Nat, j ≤ k ∧ vi = .int .i64 j ∧ Hid (¬ 1025 ∈ (iz (cps p)).take j)) (fun vi => k - (intOf vi).toNat)
    case atStart => exact ⟨0, Nat.zero_le _, rfl, by show ¬ _; simp⟩
    case round =>
      obtain ⟨j, hj, rfl, HNo⟩ := hrel
      by_cases hlt : j < k
      · have hlt2 : j < (iz (cps p)).length := by rw [Hk2.out]; exact hlt
        obtain ⟨b, off, c', hv, _, hbl⟩ := HL.out.form (by omega)
        injection hv with hv3 hv4 hv5
        subst hv3
        clear hv4 hv5
        have ca := HL.out.int (Below.refl _ _) hlt2
        have HT := hide (List.take_succ_eq_append_getElem hlt2)
        have HM := hide (List.getElem_mem hlt2)
        have HLe := hide (iz_le p (List.getElem_mem hlt2))
        have hj1 : (j : Int) < (k : Int) := by omega
        have hj0 : (0 : Int) ≤ (j : Int) := by omega
        generalize (iz (cps p))[j] = y at *
        by_cases hy : (1024 : Int) < y
        · have hyy : y = 1025 := by have := HLe.out; omega
          have hc : 1025 ∈ iz (cps p) := by rw [← hyy]; exact HM.out
          clear hyy
          have e1 : alE p = 4 := by rw [HE.out, if_pos hc]
          have E1 := hide e1
          have E2 : Hid (alL p = []) := by show _ = _; unfold alL; rw [e1]; rfl
          clear e1 hc
          go_wp2_with fail
          go_ret2
          rw [E1.out, E2.out]
          exact ⟨_, rfl, own_nil _ _ _ _, hB2⟩
        · go_wp2_with fail
          go_round
          case rel => exact ⟨j + 1, by omega, by go_num, by
            show ¬ _
            rw [HT.out]
            intro hm
            rcases List.mem_append.1 hm with hm | hm
            · exact HNo.out hm
            · have := List.mem_singleton.1 hm; omega⟩
          case measure => simp [intOf]; omega
      · obtain rfl : j = k := by omega
        have hc : ¬ 1025 ∈ iz (cps p) := by have := HNo.out; rw [← Hk2.out, List.take_length] at this; exact this
        have e1 : alE p = 0 := by rw [HE.out, if_neg hc]
        have E1 := hide e1
        have E2 : Hid (alL p = iz (cps p)) := by show _ = _; unfold alL; rw [e1]; rfl
        clear e1 hc
        go_wp2_with fail
        go_ret2
        rw [E1.out, E2.out, Hk2.out]
        exact ⟨_, rfl, own_mono HO2.out hB1.size, hB2⟩

set_option maxRecDepth 100000 in
set_option maxHeartbeats 400000 in
theorem dOf (v : Value) (p : Pr) (w : World) (h : Pm w v p) : IsOf 10 v w p := by
  unfold IsOf
  have M := hide (fun W (hb : Below w.heap.size w W) => dMay v p W (h.below hb))
  have HP := hide h
  obtain ⟨vo, vu, rfl, ho, hu⟩ := h.form
  obtain ⟨ao, co, rfl, _⟩ := ho.spell
  obtain ⟨au, cu, rfl, _⟩ := hu.spell
  have HU := hide hu
  have hA := alloc_below w (.cells #[.int .i64 p.inp, .slice ao p.ops.length co, .slice au p.outs.length cu] 25)
  have hN := heap_alloc_new w (.cells #[.int .i64 p.inp, .slice ao p.ops.length co, .slice au p.outs.length cu] 25)
  clear h ho hu
  cases hm : mayB p with
  | false =>
    have e1 : ofE p = 2 := by unfold ofE; rw [hm]; rfl
    have e2 : ofV p = 0 := by unfold ofV; rw [e1]; rfl
    rw [e1, e2]
    rw [hm] at M
    clear hm e1 e2
    go_enter Try.func10, Try.ntmps10
    go_wp2_with (go_at_call 19; refine (M.out _ hA).mono ?_; rintro e w1 ⟨rfl, hb1⟩)
    go_ret2
    exact ⟨rfl, Below.next hA hb1⟩
  | true =>
    rw [hm] at M
    have HD := hide (fun W (hb : Below w.heap.size w W) => dCapped _ p W (HP.out.below hb) hm)
    have HOu := hide (fun v hv => may_out hm v hv)
    obtain ⟨⟨i0, i1, l1, l2⟩, _, _⟩ := mayB_iff.1 hm
    have HE : Hid (ofE p = if cpO p = 1025 then 4 else 0) := by show _ = _; unfold ofE; rw [if_pos hm]
    obtain ⟨k, Hk⟩ : ∃ k, Hid ((cps p).length = k) := ⟨_, rfl⟩
    have Hk3 : Hid (k = p.inp.toNat + p.ops.length) := by show _ = _; rw [← Hk.out, cps_len]
    have hk : k ≤ 320 := by have := Hk3.out; omega
    have Hk2 : Hid ((iz (cps p)).length = k) := by show _ = _; rw [iz_len]; exact Hk.out
    rw [Hk.out] at HD
    clear hm
    go_enter Try.func10, Try.ntmps10
    go_wp2_with (first
      | (go_at_call 19; refine (M.out _ hA).mono ?_; rintro e w1 ⟨rfl, hb1⟩; have hB1 := Below.next hA hb1; have n1 := (hb1.block _ (Array.getElem?_eq_some_iff.1 hN).1).trans hN; obtain ⟨p0, p1, p2⟩ := cell3 n1)
      | (go_at_call 24; refine (HD.out _ hB1).mono ?_; rintro e w2 ⟨v2, rfl, ho2, hb2⟩; obtain ⟨a2, c2, rfl⟩ := own_slice ho2; have HO2 := hide ho2; have hB2 := Below.next hB1 hb2; have n2 := (hb2.block _ (Array.getElem?_eq_some_iff.1 n1).1).trans n1; clear p0 p1 p2; obtain ⟨p0, p1, p2⟩ := cell3 n2; clear ho2))
    have HL := hide (lm_of_own iw_len (by decide) HO2.out (by rw [Hk2.out]; omega))
    go_loop [5, 6] (fun vg vi => ∃ j : Nat, j ≤ p.outs.length ∧ vi = .int .i64 j ∧ vg = .int .i64 ((ofJ p j : Nat) : Int)) (fun _ vi => p.outs.length - (intOf vi).toNat)
    case atStart => exact ⟨0, Nat.zero_le _, rfl, rfl⟩
    case round =>
      obtain ⟨j, hj, rfl, rfl⟩ := hrel
      by_cases hlt : j < p.outs.length
      · obtain ⟨b, off, cu', hv, _, hbl⟩ := HU.out.form (by omega)
        cases hv
        have ca := HU.out.int hB2 hlt
        have hok := HOu.out _ (List.getElem_mem hlt)
        have HNx := hide (ofJ_next p hlt)
        generalize p.outs[j] = u at *
        obtain ⟨a, rfl⟩ := Int.eq_ofNat_of_zero_le hok.1
        rw [Int.toNat_natCast] at hok HNx
        have hal : a < (iz (cps p)).length := by rw [Hk2.out, Hk3.out]; exact hok.2
        obtain ⟨gt, ot, ct, hv2, _, _⟩ := HL.out.form (by omega)
        injection hv2 with hv3 hv4 hv5
        subst hv3
        clear hv4 hv5
        have cA := HL.out.int (Below.refl _ _) hal
        have eA : (iz (cps p))[a] = (((cps p).getD a 0 : Nat) : Int) := by rw [← iz_get, List.getD_eq_getElem?_getD, List.getElem?_eq_getElem hal]; rfl
        rw [eA] at cA
        have a0 : (0 : Int) ≤ (a : Int) := by omega
        have a1 : (a : Int) < (k : Int) := by rw [Hk2.out] at hal; omega
        have hj0 : (0 : Int) ≤ (j : Int) := by omega
        have hj1 : (j : Int) < (p.outs.length : Int) := by omega
        clear hok eA hal
        generalize (cps p).getD a 0 = A at *
        generalize ofJ p j = G at *
        by_cases hx : (G : Int) < (A : Int)
        · have e : ofJ p (j + 1) = A := by rw [HNx.out]; omega
          have HEq := hide e
          clear e
          go_wp2_with fail
          go_round
          case rel => exact ⟨j + 1, by omega, by go_num, by rw [HEq.out]⟩
          case measure => simp [intOf]; omega
        · have e : ofJ p (j + 1) = G := by rw [HNx.out]; omega
          have HEq := hide e
          clear e
          go_wp2_with fail
          go_round
          case rel => exact ⟨j + 1, by omega, by go_num, by rw [HEq.out]⟩
          case measure => simp [intOf]; omega
      · obtain rfl : j = p.outs.length := by omega
        have HEn := hide (ofJ_end p)
        have HLe := hide (ofJ_le p p.outs.length)
        rw [HEn.out] at HLe ⊢
        by_cases hc : cpO p = 1025
        · have e1 : ofE p = 4 := by rw [HE.out, if_pos hc]
          have E1 := hide e1
          have E2 : Hid (ofV p = 0) := by show _ = _; unfold ofV; rw [e1]; rfl
          rw [hc]
          clear e1 hc
          go_wp2_with fail
          go_ret2
          rw [E1.out, E2.out]
          exact ⟨rfl, hB2⟩
        · have e1 : ofE p = 0 := by rw [HE.out, if_neg hc]
          have E1 := hide e1
          have E2 : Hid (ofV p = (cpO p : Int)) := by show _ = _; unfold ofV; rw [e1]; rfl
          have hd : ¬ (1024 : Int) < ((cpO p : Nat) : Int) := by have := HLe.out; omega
          clear e1 hc
          generalize cpO p = x at *
          go_wp2_with fail
          go_ret2
          rw [E1.out, E2.out]
          exact ⟨rfl, hB2⟩

end Go.Proofs.Ytfgokcphnkkgnaa
