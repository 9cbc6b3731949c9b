/-
  Layer 10: Uses: the program's.
-/
import Derived.Test.YtfgokcphnkkgnaaBDgpF
namespace Go.Proofs.Ytfgokcphnkkgnaa
open Go.RowKit Fld Slp
set_option linter.unusedVariables false
set_option linter.unusedSimpArgs false

set_option maxRecDepth 100000 in
set_option maxHeartbeats 400000 in
theorem gUses (v : Value) (p : Pr) (w : World) (h : Pm w v p) : GivesI 13 v w (usL p) (usE p) := by
  unfold GivesI
  have M := hide (fun W (hb : Below w.heap.size w W) => sMay v p W (h.below hb))
  have HP := hide h
  obtain ⟨vo, vu, rfl, ho, hu⟩ := h.form
  obtain ⟨ao, co, rfl, _⟩ := ho.spell
  obtain ⟨au, cu, rfl, _⟩ := hu.spell
  have HU := hide hu
  have hA := alloc_below w (.cells #[.int .i64 p.inp, .slice ao p.ops.length co, .slice au p.outs.length cu] 25)
  have hN := heap_alloc_new w (.cells #[.int .i64 p.inp, .slice ao p.ops.length co, .slice au p.outs.length cu] 25)
  clear h ho hu
  cases hm : mayB p with
  | false =>
    have e1 : usE p = 2 := by unfold usE; rw [hm]; rfl
    have e2 : usL p = [] := by unfold usL; rw [hm]; rfl
    rw [e1, e2]
    rw [hm] at M
    clear hm e1 e2
    go_enter Try.func13, Try.ntmps13
    go_wp2_with (go_at_call 20; refine (M.out _ hA).mono ?_; rintro e w1 ⟨rfl, hb1⟩)
    go_ret2
    exact ⟨_, rfl, own_nil _ _ _ _, Below.next hA hb1⟩
  | true =>
    rw [hm] at M
    have HD := hide (fun W (hb : Below w.heap.size w W) => gWanted _ p W (HP.out.below hb) hm)
    have HOu := hide (fun v hv => may_out hm v hv)
    obtain ⟨⟨i0, i1, l1, l2⟩, _, _⟩ := mayB_iff.1 hm
    have E1 : Hid (usE p = 0) := by show _ = _; unfold usE; rw [if_pos hm]
    have E2 : Hid (usL p = usJ p p.inp.toNat) := by show _ = _; unfold usL; rw [if_pos hm]
    have hlen : (wtd p).length = p.inp.toNat + p.ops.length := wtd_len p
    clear hm
    go_enter Try.func13, Try.ntmps13
    go_upto_region 3 with (go_at_call 20; refine (M.out _ hA).mono ?_; rintro e w1 ⟨rfl, hb1⟩; have hB1 := Below.next hA hb1; have n1 := (hb1.block _ (Array.getElem?_eq_some_iff.1 hN).1).trans hN; obtain ⟨p0, p1, p2⟩ := cell3 n1)
    refine wp_region_lit ?_
    refine rowVal rfl (.agg #[.int .i64 p.inp, .slice ao p.ops.length co, .slice au p.outs.length cu]) (by simp [go_sem, execOp, p0, p1, p2]) ?_
    refine rowCall rfl 25 #[.agg #[.int .i64 p.inp, .slice ao p.ops.length co, .slice au p.outs.length cu]] (by simp [go_sem, execOp]) (HD.out _ hB1) ?_
    rintro e w2 ⟨rfl, hb2⟩
    refine ⟨_, rfl, ?_⟩
    have hl9 : (ar9 false (wtd p)).length = 320 := ar9_len (by rw [hlen]; omega)
    refine wpList_alloc_row rfl _ rfl _ bools_zero ?_
    refine rowStore rfl _ _ _ rfl w2.heap.size _ _ _ rfl rfl (heap_alloc_last w2 _) (bv_size hl9) (by rw [List.size_toArray, List.size_toArray, List.length_map, List.length_map, List.length_replicate, hl9]) (bv_one _) ?_
    rw [World.setRow_alloc_new]
    have hA2 := alloc_below w2 (.cells ((ar9 false (wtd p)).map (Value.bool)).toArray 53)
    have A2 : Ar Value.bool 53 320 (w2.alloc (.cells ((ar9 false (wtd p)).map (Value.bool)).toArray 53)) w2.heap.size (ar9 false (wtd p)) := ar_new w2 _ hl9
    have hB3 := Below.next (Below.next hB1 hb2) hA2
    have n3 := (hA2.block _ (Nat.lt_of_lt_of_le (Array.getElem?_eq_some_iff.1 n1).1 hb2.size)).trans ((hb2.block _ (Array.getElem?_eq_some_iff.1 n1).1).trans n1)
    generalize w2.alloc (.cells ((ar9 false (wtd p)).map (Value.bool)).toArray 53) = w3 at *
    generalize w2.heap.size = g at *
    obtain ⟨q0, q1, q2⟩ := cell3 n3
    have HA2 := hide A2
    clear A2 n1 n3 p0 p1 p2 HD M hlen HU HOu
    obtain ⟨n, hn⟩ := Int.eq_ofNat_of_zero_le i0
    have hnt : p.inp.toNat = n := by omega
    rw [hnt] at E2
    clear hnt
    go_wp2_with fail
    go_loopw [5, 14] (fun vl vi wr => ∃ (i : Nat) (la : Option Addr) (lc : Nat), i ≤ n ∧ vi = .int .i64 i ∧ vl = .slice la (usJ p i).length lc ∧ Hid (wr.ownsRow w3.heap.size 3 1 (.slice la (usJ p i).length lc) (usJ p i).length ((usJ p i).flatMap iw)) ∧ Below w3.heap.size w3 wr) (fun _ vi _ => n - (intOf vi).toNat)
    case atStart => exact ⟨0, none, 0, Nat.zero_le _, rfl, rfl, own_nil _ _ _ _, Below.refl _ _⟩
    case round =>
      obtain ⟨i, la, lc, hi, rfl, rfl, HO, hBr⟩ := hrel
      have HA := hide (HA2.out.below hBr)
      by_cases hlt : i < n
      · have i0' : (0 : Int) ≤ (i : Int) := by omega
        have i1' : (i : Int) < 320 := by omega
        have i2' : (i : Int) < (n : Int) := by omega
        have cA := HA.out.cell i false (by omega)
        rw [ar9_get] at cA
        cases hmk : (wtd p).getD i false with
        | false =>
          have HNx := hide (usJ_no hmk)
          rw [hmk] at cA
          clear hmk
          go_wp2_with fail
          go_roundw
          case rel => exact ⟨i + 1, la, lc, by omega, by go_num, by rw [HNx.out], by rw [HNx.out]; exact HO, hBr⟩
          case measure => simp [intOf]; omega
        | true =>
          have HNx := hide (usJ_yes hmk)
          have HLe := hide (usJ_len p i)
          rw [hmk] at cA
          clear hmk
          have hA4 := alloc_below wr (.cells #[.int .i64 (i : Int)] 3)
          obtain ⟨a4, c4, w4, hr, ho4, hb4, hg4, _⟩ := appI1 (wr.alloc (.cells #[.int .i64 (i : Int)] 3)) w3.heap.size (.slice la (usJ p i).length lc) (usJ p i) ⟨wr.heap.size, 0, none⟩ (i : Int) (own_move HO.out hA4) (by simp [go_sem]) (by have := HLe.out; omega) (Nat.le_trans hBr.size hA4.size)
          rw [List.length_append] at ho4
          have HO4 := hide ho4
          have hB4 : Below w3.heap.size w3 w4 := (Below.next hBr hA4).trans hb4
          clear ho4 hb4 hg4 HO
          go_wp2_with (at_builtin; refine Lib.wpList_append_run _ rfl _ _ _ _ rfl _ _ rfl rfl _ _ hr ?_)
          go_roundw
          case rel => exact ⟨i + 1, a4, c4, by omega, by go_num, by rw [HNx.out]; simp, by rw [HNx.out, List.length_append]; exact HO4, hB4⟩
          case measure => simp [intOf]; omega
      · obtain rfl : i = n := by omega
        go_wp2_with fail
        go_ret2
        rw [E1.out, E2.out]
        exact ⟨_, rfl, own_mono HO.out hB3.size, Below.next hB3 hBr⟩

end Go.Proofs.Ytfgokcphnkkgnaa
