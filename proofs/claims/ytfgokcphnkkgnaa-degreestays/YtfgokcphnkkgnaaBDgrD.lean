/-
  Layer 10: Uses: the document's.
-/
import Derived.Test.YtfgokcphnkkgnaaBDgrC
import Derived.Test.YtfgokcphnkkgnaaBDgpE
namespace Go.Proofs.Ytfgokcphnkkgnaa
open Go.RowKit Fld Slp
set_option linter.unusedVariables false
set_option linter.unusedSimpArgs false

set_option maxRecDepth 100000 in
set_option maxHeartbeats 400000 in
theorem dUses (v : Value) (p : Pr) (w : World) (h : Pm w v p) : GivesI 14 v w (usL p) (usE p) := by
  unfold GivesI
  have M := hide (fun W (hb : Below w.heap.size w W) => dMay v p W (h.below hb))
  have HP := hide h
  obtain ⟨vo, vu, rfl, ho, hu⟩ := h.form
  obtain ⟨ao, co, rfl, _⟩ := ho.spell
  obtain ⟨au, cu, rfl, _⟩ := hu.spell
  have hA := alloc_below w (.cells #[.int .i64 p.inp, .slice ao p.ops.length co, .slice au p.outs.length cu] 25)
  have hN := heap_alloc_new w (.cells #[.int .i64 p.inp, .slice ao p.ops.length co, .slice au p.outs.length cu] 25)
  clear h ho hu
  cases hm : mayB p with
  | false =>
    have e1 : usE p = 2 := by unfold usE; rw [hm]; rfl
    have e2 : usL p = [] := by unfold usL; rw [hm]; rfl
    rw [e1, e2]
    rw [hm] at M
    clear hm e1 e2
    go_enter Try.func14, Try.ntmps14
    go_wp2_with (go_at_call 19; refine (M.out _ hA).mono ?_; rintro e w1 ⟨rfl, hb1⟩)
    go_ret2
    exact ⟨_, rfl, own_nil _ _ _ _, Below.next hA hb1⟩
  | true =>
    rw [hm] at M
    have HD := hide (fun W (hb : Below w.heap.size w W) => dWanted _ p W (HP.out.below hb) hm)
    obtain ⟨⟨i0, i1, l1, l2⟩, _, _⟩ := mayB_iff.1 hm
    have E1 : Hid (usE p = 0) := by show _ = _; unfold usE; rw [if_pos hm]
    have E2 : Hid (usL p = usJ p p.inp.toNat) := by show _ = _; unfold usL; rw [if_pos hm]
    obtain ⟨m, HM⟩ : ∃ m, Hid ((wtd p).length = m) := ⟨_, rfl⟩
    have hm1 : p.inp.toNat + p.ops.length = m := by rw [← HM.out, wtd_len]
    rw [HM.out] at HD
    clear hm
    go_enter Try.func14, Try.ntmps14
    go_upto_region 5 with (first
      | (go_at_call 19; refine (M.out _ hA).mono ?_; rintro e w1 ⟨rfl, hb1⟩; have hB1 := Below.next hA hb1; have n1 := (hb1.block _ (Array.getElem?_eq_some_iff.1 hN).1).trans hN; obtain ⟨p0, p1, p2⟩ := cell3 n1)
      | (go_at_call 26; refine (HD.out _ hB1).mono ?_; rintro e w2 ⟨g, rfl, ha2, hg2, hb2⟩; have HA2 := hide ha2; have hB2 := Below.next hB1 hb2; have n2 := hide ((hb2.block _ (Array.getElem?_eq_some_iff.1 n1).1).trans n1); clear p0 p1 p2 ha2 n1 hg2))
    obtain ⟨n, hn⟩ := Int.eq_ofNat_of_zero_le i0
    have hnt : p.inp.toNat = n := by omega
    have hn2 : n ≤ m := by omega
    have hn3 : n ≤ 64 := by omega
    rw [hnt] at E2
    rw [hn] at n2 ⊢
    clear hnt hm1 hn i0 i1 hN hA M HD HP
    go_wp2_with fail
    go_loopw [5, 6] (fun vl vi wr => ∃ (i : Nat) (la : Option Addr) (lc : Nat), i ≤ n ∧ vi = .int .i64 i ∧ vl = .slice la (usJ p i).length lc ∧ Hid (wr.ownsRow w2.heap.size 3 1 (.slice la (usJ p i).length lc) (usJ p i).length ((usJ p i).flatMap iw)) ∧ Below w2.heap.size w2 wr) (fun _ vi _ => n - (intOf vi).toNat)
    case atStart => exact ⟨0, none, 0, Nat.zero_le _, rfl, rfl, own_nil _ _ _ _, Below.refl _ _⟩
    case round =>
      obtain ⟨i, la, lc, hi, rfl, rfl, HO, hBr⟩ := hrel
      have HA := hide (HA2.out.below hBr)
      obtain ⟨p0, p1, p2⟩ := cell3 ((hBr.block _ (Array.getElem?_eq_some_iff.1 n2.out).1).trans n2.out)
      by_cases hlt : i < n
      · have i0' : (0 : Int) ≤ (i : Int) := by omega
        have i1' : (i : Int) < (m : Int) := by omega
        have i2' : (i : Int) < (n : Int) := by omega
        have cA := HA.out.cell i false (by omega)
        cases hmk : (wtd p).getD i false with
        | false =>
          have HNx := hide (usJ_no hmk)
          rw [hmk] at cA
          clear hmk
          go_wp2_with fail
          go_roundw
          case rel => exact ⟨i + 1, la, lc, by omega, by go_num, by rw [HNx.out], by rw [HNx.out]; exact HO, hBr⟩
          case measure => simp [intOf]; omega
        | true =>
          have HNx := hide (usJ_yes hmk)
          have HLe := hide (usJ_len p i)
          rw [hmk] at cA
          clear hmk
          have hA4 := alloc_below wr (.cells #[.int .i64 (i : Int)] 3)
          obtain ⟨a4, c4, w4, hr, ho4, hb4, hg4, _⟩ := appI1 (wr.alloc (.cells #[.int .i64 (i : Int)] 3)) w2.heap.size (.slice la (usJ p i).length lc) (usJ p i) ⟨wr.heap.size, 0, none⟩ (i : Int) (own_move HO.out hA4) (by simp [go_sem]) (by have := HLe.out; omega) (Nat.le_trans hBr.size hA4.size)
          rw [List.length_append] at ho4
          have HO4 := hide ho4
          have hB4 : Below w2.heap.size w2 w4 := (Below.next hBr hA4).trans hb4
          clear ho4 hb4 hg4 HO
          go_wp2_with (at_builtin; refine Lib.wpList_append_run _ rfl _ _ _ _ rfl _ _ rfl rfl _ _ hr ?_)
          go_roundw
          case rel => exact ⟨i + 1, a4, c4, by omega, by go_num, by rw [HNx.out]; simp, by rw [HNx.out, List.length_append]; exact HO4, hB4⟩
          case measure => simp [intOf]; omega
      · obtain rfl : i = n := by omega
        go_wp2_with fail
        go_ret2
        rw [E1.out, E2.out]
        exact ⟨_, rfl, own_mono HO.out hB2.size, Below.next hB2 hBr⟩

end Go.Proofs.Ytfgokcphnkkgnaa
