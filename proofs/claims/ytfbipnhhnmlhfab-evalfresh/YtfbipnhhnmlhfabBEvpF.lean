/-
  Layer 11: Many: the program's.
-/
import Derived.Test.YtfbipnhhnmlhfabBEvpE
namespace Go.Proofs.Ytfbipnhhnmlhfab
open Go.RowKit Fld Slp
set_option linter.unusedVariables false
set_option linter.unusedSimpArgs false

/-- A call that answers lists in memory of their own, and an error. -/
def GivesL11 (k : FuncId) (args : Array Value) (W : World) (xss : List (List Int)) (e0 : Int) : Prop :=
  Calls Try.prog k args W fun e w' => ∃ v' us, e = .returned (.tuple #[v', .int .i64 e0]) ∧ Lss w' W.heap.size w'.heap.size v' us xss ∧ Below W.heap.size W w'
theorem GivesL11.none {k : FuncId} {args : Array Value} {W : World} {e0 : Int} (h : Calls Try.prog k args W fun e w' => e = .returned (.tuple #[.slice none 0 0, .int .i64 e0]) ∧ Below W.heap.size W w') : GivesL11 k args W [] e0 :=
  h.mono fun e w' ⟨he, hb⟩ => ⟨_, [], he, Lss.nil _ _ _, hb⟩
theorem take_snocL (g : List Int → List Int) (xss : List (List Int)) {k : Nat} (hk : k < xss.length) : (xss.take k).map g ++ [g (xss.getD k [])] = (xss.take (k + 1)).map g := by
  rw [List.take_succ_eq_append_getElem hk, List.map_append, List.getD_eq_getElem?_getD, List.getElem?_eq_getElem hk]; rfl
theorem lss_lo {w : World} {lo lo' hi : Nat} {v : Value} {us : List Value} {xss : List (List Int)} (h : Lss w lo hi v us xss) (hl : lo' ≤ lo) : Lss w lo' hi v us xss :=
  ⟨own_mono h.row hl, fun i hi => own_mono (h.each i hi) hl, fun i g hg => Nat.le_trans hl (h.from_ i g hg), h.top, h.up⟩
theorem alloc4 (w : World) (A B C D : Obj) : ((((w.alloc A).alloc B).alloc C).alloc D).heap[w.heap.size]? = some A ∧ ((((w.alloc A).alloc B).alloc C).alloc D).heap[w.heap.size + 1]? = some B ∧ ((((w.alloc A).alloc B).alloc C).alloc D).heap[w.heap.size + 2]? = some C ∧ ((((w.alloc A).alloc B).alloc C).alloc D).heap[w.heap.size + 3]? = some D ∧ Below w.heap.size w ((((w.alloc A).alloc B).alloc C).alloc D) := by
  obtain ⟨h1, h2, h3, hb⟩ := alloc3 w A B C
  have hn := heap_alloc_new (((w.alloc A).alloc B).alloc C) D
  have hd := alloc_below (((w.alloc A).alloc B).alloc C) D
  have hs : (((w.alloc A).alloc B).alloc C).heap.size = w.heap.size + 3 := by simp
  rw [hs] at hn hd
  exact ⟨(hd.block _ (by omega)).trans h1, (hd.block _ (by omega)).trans h2, (hd.block _ (by omega)).trans h3, hn, hb.trans (hd.mono (by omega))⟩

set_option maxRecDepth 100000 in
set_option maxHeartbeats 400000 in
theorem eMany (f : Int) (q : Pr) (vp vi : Value) (xss : List (List Int)) (w : World) (hp : Pm w vp q) (hr : Rws w vi xss) : GivesL11 6 #[.int .u8 f, vp, vi] w (maL f q xss) (maE f q xss) := by
  have HG := hide (fun W (hb : Below w.heap.size w W) => eGround f q vp W (hp.below hb))
  have HP := hide hp
  obtain ⟨vo, vu, rfl, ho, hu⟩ := hp.form
  obtain ⟨ao, co', rfl, _⟩ := ho.spell
  obtain ⟨au, cu, rfl, _⟩ := hu.spell
  obtain ⟨ai, ci, rfl, hlen, hcap, hcell⟩ := hr
  obtain ⟨n1, n2, hA⟩ := alloc2 w (.cells #[.int .u8 f] 27) (.cells #[.int .i64 q.inp, .slice ao q.ops.length co', .slice au q.outs.length cu] 25)
  clear ho hu hp
  cases hg : (mayB q && inF f []) with
  | false =>
    have e1 : maE f q xss = 2 := by unfold maE; rw [hg]; rfl
    have e2 : maL f q xss = [] := by unfold maL; rw [e1]; rfl
    rw [e1, e2]
    rw [hg] at HG
    clear hg e1 e2 HP
    apply GivesL11.none
    go_enter Try.func6, Try.ntmps6
    go_wp2_with (go_at_call 15; refine (HG.out _ hA).mono ?_; rintro e w1 ⟨rfl, hb1⟩)
    go_ret2
    exact ⟨rfl, Below.next hA hb1⟩
  | true =>
    rw [hg] at HG
    have hm : mayB q = true := (Bool.and_eq_true _ _ ▸ hg).1
    have HEnd := hide (erK_end f q xss hg)
    show Calls _ _ _ _ _
    by_cases hl4 : 4096 < xss.length
    · rw [if_pos hl4] at HEnd
      have hdl : decide (4096 < (xss.length : Int)) = true := by simp; omega
      have hl4' : (4096 : Int) < (xss.length : Int) := by omega
      go_enter Try.func6, Try.ntmps6
      go_upto_region 8 with (go_at_call 15; refine (HG.out _ hA).mono ?_; rintro e w1 ⟨rfl, hb1⟩)
      obtain ⟨m1, m2, hA2⟩ := alloc2 w1 (.cells #[.int .i64 4] 30) (.cells #[.slice none 0 0] 26)
      have hB2 := Below.next (Below.next hA hb1) hA2
      have k3 := (hA2.block _ (Nat.lt_of_lt_of_le (Array.getElem?_eq_some_iff.1 n1).1 hb1.size)).trans ((hb1.block _ (Array.getElem?_eq_some_iff.1 n1).1).trans n1)
      have k4 := (hA2.block _ (Nat.lt_of_lt_of_le (Array.getElem?_eq_some_iff.1 n2).1 hb1.size)).trans ((hb1.block _ (Array.getElem?_eq_some_iff.1 n2).1).trans n2)
      have hs1 := hb1.size
      have hs2 : ((w1.alloc (.cells #[.int .i64 4] 30)).alloc (.cells #[.slice none 0 0] 26)).heap.size = w1.heap.size + 2 := by simp
      rw [show ((w.alloc (.cells #[.int .u8 f] 27)).alloc (.cells #[.int .i64 q.inp, .slice ao q.ops.length co', .slice au q.outs.length cu] 25)).heap.size = w.heap.size + 2 by simp] at hs1
      have HW := hide (And.intro hs1 hs2)
      clear n1 n2 hb1 hA2 hA HG hs1 hs2 hl4
      generalize (w1.alloc (.cells #[.int .i64 4] 30)).alloc (.cells #[.slice none 0 0] 26) = W0 at *
      generalize w1.heap.size = b8 at *
      have M0 : Hid (Ms W0 f q ao au co' cu b8 w.heap.size (w.heap.size + 1) (b8 + 1) (erK f q 4 xss 0) (.slice none 0 0)) := ⟨m1, k3, k4, m2⟩
      clear m1 m2 k3 k4
      go_wp2
      go_loopw [23] (fun vi wr => ∃ (k : Nat) (va : Value) (us : List Value) (zss : List (List Int)), k ≤ xss.length ∧ vi = .int .i64 k ∧ Hid (Ms wr f q ao au co' cu b8 w.heap.size (w.heap.size + 1) (b8 + 1) (erK f q 4 xss k) va) ∧ Hid (Lss wr (b8 + 2) wr.heap.size va us zss) ∧ Hid (erK f q 4 xss k = 0 → zss = (xss.take k).map (rnO (Rf f) q)) ∧ Below w.heap.size w wr ∧ Hid (b8 + 2 ≤ wr.heap.size)) (fun vi _ => xss.length - (intOf vi).toNat)
      case atStart => exact ⟨0, _, [], [], Nat.zero_le _, rfl, M0, Lss.nil _ _ _, fun _ => rfl, hB2, by have := HW.out.2; show _ ≤ _; omega⟩
      case round =>
        clear M0 hB2
        obtain ⟨k, va, us, zss, hk, rfl, HM, HL, HZ, hB, HS⟩ := hrel
        by_cases hlt : k < xss.length
        · obtain ⟨b, off, rfl, hbl, hc⟩ := hcell (by intro e; rw [e] at hlt; simp at hlt)
          obtain ⟨u, hcu, hru⟩ := hc k hlt
          have hck := (hB.cell (p := ⟨b, off + k, none⟩) hbl).trans hcu
          have hw1 := HW.out.1
          have HX := hide (mWrite f q u ao au co' cu b8 w.heap.size (w.heap.size + 1) (b8 + 1) (b8 + 2) (erK f q 4 xss k) va us zss (xss.getD k []) w wr HP.out hm hru hB HM.out HL.out HS.out ⟨by omega, by omega⟩ ⟨by omega, by omega, by omega⟩ ⟨by omega, by omega, by omega⟩ ⟨by omega, by omega, by omega⟩ (fun h => by
            have h1 := (erK_zero f q 4 xss k hk h).1
            have h2 := HZ.out h
            rw [h2, List.length_map, List.length_take]; omega))
          rw [← erK_next f q 4 hlt] at HX
          obtain ⟨au', cu', rfl, _⟩ := hru.spell
          have k0 : (0 : Int) ≤ (k : Int) := by omega
          have k1 : (k : Int) < (xss.length : Int) := by omega
          clear hc hcell hcu hru hw1
          generalize (xss.getD k []).length = ln at *
          go_wp2_with (go_at_call 16; refine HX.out.mono ?_; rintro e w3 ⟨va3, us3, zss3, rfl, M3, L3, Z3, Q3⟩)
          have hB3 : Below w.heap.size w w3 := hB.trans (Kq.below Q3 (fun j hj => by have := HW.out.1; omega))
          have hs3 : Hid (b8 + 2 ≤ w3.heap.size) := Nat.le_trans HS.out Q3.size
          have Z4 : Hid (erK f q 4 xss (k + 1) = 0 → zss3 = (xss.take (k + 1)).map (rnO (Rf f) q)) := fun h => by
            have h2 := Z3 h
            rw [erK_next f q 4 hlt] at h
            rw [h2, HZ.out (ahd_zero h).1, take_snocL (rnO (Rf f) q) xss hlt]
          have HM3 := hide M3
          have HL3 := hide L3
          clear M3 L3 Z3 Q3
          go_roundw
          case rel => exact ⟨k + 1, va3, us3, zss3, by omega, by go_num, HM3, HL3, Z4, hB3, hs3⟩
          case measure => simp [intOf]; omega
        · obtain rfl : k = xss.length := by omega
          rw [HEnd.out] at HM HZ
          rw [List.take_length] at HZ
          have k8 := cell1 HM.out.c8
          have k9 := cell1 HM.out.c9
          have HLw := hide (lss_lo HL.out (show w.heap.size ≤ b8 + 2 by have := HW.out.1; omega))
          clear hcell
          by_cases hz : maE f q xss = 0
          · have e2 : maL f q xss = xss.map (rnO (Rf f) q) := by unfold maL; rw [if_pos hz]
            rw [HZ.out hz] at HLw
            rw [← e2] at HLw
            rw [hz] at k8 HM HEnd
            have HR0 := hide hz
            clear hz e2 HZ
            go_wp2
            go_ret2
            rw [HR0.out]
            exact ⟨va, us, rfl, HLw.out, hB⟩
          · have e2 : maL f q xss = [] := by unfold maL; rw [if_neg hz]
            have ht : (maE f q xss != 0) = true := bne_iff_ne.2 hz
            have k8d : wr.drew.cell? ⟨b8, 0, none⟩ = some (.int .i64 (maE f q xss)) := k8
            have HE2 := hide e2
            clear hz HZ e2
            go_wp2
            go_region
            go_wp2
            go_ret2
            rw [HE2.out]
            exact ⟨_, [], rfl, Lss.nil _ _ _, hB.drew⟩
    · rw [if_neg hl4] at HEnd
      have hdl : decide (4096 < (xss.length : Int)) = false := by simp; omega
      have hl4' : (xss.length : Int) ≤ 4096 := by omega
      go_enter Try.func6, Try.ntmps6
      go_upto_region 8 with (go_at_call 15; refine (HG.out _ hA).mono ?_; rintro e w1 ⟨rfl, hb1⟩)
      obtain ⟨m1, m2, hA2⟩ := alloc2 w1 (.cells #[.int .i64 0] 30) (.cells #[.slice none 0 0] 26)
      have hB2 := Below.next (Below.next hA hb1) hA2
      have k3 := (hA2.block _ (Nat.lt_of_lt_of_le (Array.getElem?_eq_some_iff.1 n1).1 hb1.size)).trans ((hb1.block _ (Array.getElem?_eq_some_iff.1 n1).1).trans n1)
      have k4 := (hA2.block _ (Nat.lt_of_lt_of_le (Array.getElem?_eq_some_iff.1 n2).1 hb1.size)).trans ((hb1.block _ (Array.getElem?_eq_some_iff.1 n2).1).trans n2)
      have hs1 := hb1.size
      have hs2 : ((w1.alloc (.cells #[.int .i64 0] 30)).alloc (.cells #[.slice none 0 0] 26)).heap.size = w1.heap.size + 2 := by simp
      rw [show ((w.alloc (.cells #[.int .u8 f] 27)).alloc (.cells #[.int .i64 q.inp, .slice ao q.ops.length co', .slice au q.outs.length cu] 25)).heap.size = w.heap.size + 2 by simp] at hs1
      have HW := hide (And.intro hs1 hs2)
      clear n1 n2 hb1 hA2 hA HG hs1 hs2 hl4
      generalize (w1.alloc (.cells #[.int .i64 0] 30)).alloc (.cells #[.slice none 0 0] 26) = W0 at *
      generalize w1.heap.size = b8 at *
      have M0 : Hid (Ms W0 f q ao au co' cu b8 w.heap.size (w.heap.size + 1) (b8 + 1) (erK f q 0 xss 0) (.slice none 0 0)) := ⟨m1, k3, k4, m2⟩
      clear m1 m2 k3 k4
      go_wp2
      go_loopw [23] (fun vi wr => ∃ (k : Nat) (va : Value) (us : List Value) (zss : List (List Int)), k ≤ xss.length ∧ vi = .int .i64 k ∧ Hid (Ms wr f q ao au co' cu b8 w.heap.size (w.heap.size + 1) (b8 + 1) (erK f q 0 xss k) va) ∧ Hid (Lss wr (b8 + 2) wr.heap.size va us zss) ∧ Hid (erK f q 0 xss k = 0 → zss = (xss.take k).map (rnO (Rf f) q)) ∧ Below w.heap.size w wr ∧ Hid (b8 + 2 ≤ wr.heap.size)) (fun vi _ => xss.length - (intOf vi).toNat)
      case atStart => exact ⟨0, _, [], [], Nat.zero_le _, rfl, M0, Lss.nil _ _ _, fun _ => rfl, hB2, by have := HW.out.2; show _ ≤ _; omega⟩
      case round =>
        clear M0 hB2
        obtain ⟨k, va, us, zss, hk, rfl, HM, HL, HZ, hB, HS⟩ := hrel
        by_cases hlt : k < xss.length
        · obtain ⟨b, off, rfl, hbl, hc⟩ := hcell (by intro e; rw [e] at hlt; simp at hlt)
          obtain ⟨u, hcu, hru⟩ := hc k hlt
          have hck := (hB.cell (p := ⟨b, off + k, none⟩) hbl).trans hcu
          have hw1 := HW.out.1
          have HX := hide (mWrite f q u ao au co' cu b8 w.heap.size (w.heap.size + 1) (b8 + 1) (b8 + 2) (erK f q 0 xss k) va us zss (xss.getD k []) w wr HP.out hm hru hB HM.out HL.out HS.out ⟨by omega, by omega⟩ ⟨by omega, by omega, by omega⟩ ⟨by omega, by omega, by omega⟩ ⟨by omega, by omega, by omega⟩ (fun h => by
            have h1 := (erK_zero f q 0 xss k hk h).1
            have h2 := HZ.out h
            rw [h2, List.length_map, List.length_take]; omega))
          rw [← erK_next f q 0 hlt] at HX
          obtain ⟨au', cu', rfl, _⟩ := hru.spell
          have k0 : (0 : Int) ≤ (k : Int) := by omega
          have k1 : (k : Int) < (xss.length : Int) := by omega
          clear hc hcell hcu hru hw1
          generalize (xss.getD k []).length = ln at *
          go_wp2_with (go_at_call 16; refine HX.out.mono ?_; rintro e w3 ⟨va3, us3, zss3, rfl, M3, L3, Z3, Q3⟩)
          have hB3 : Below w.heap.size w w3 := hB.trans (Kq.below Q3 (fun j hj => by have := HW.out.1; omega))
          have hs3 : Hid (b8 + 2 ≤ w3.heap.size) := Nat.le_trans HS.out Q3.size
          have Z4 : Hid (erK f q 0 xss (k + 1) = 0 → zss3 = (xss.take (k + 1)).map (rnO (Rf f) q)) := fun h => by
            have h2 := Z3 h
            rw [erK_next f q 0 hlt] at h
            rw [h2, HZ.out (ahd_zero h).1, take_snocL (rnO (Rf f) q) xss hlt]
          have HM3 := hide M3
          have HL3 := hide L3
          clear M3 L3 Z3 Q3
          go_roundw
          case rel => exact ⟨k + 1, va3, us3, zss3, by omega, by go_num, HM3, HL3, Z4, hB3, hs3⟩
          case measure => simp [intOf]; omega
        · obtain rfl : k = xss.length := by omega
          rw [HEnd.out] at HM HZ
          rw [List.take_length] at HZ
          have k8 := cell1 HM.out.c8
          have k9 := cell1 HM.out.c9
          have HLw := hide (lss_lo HL.out (show w.heap.size ≤ b8 + 2 by have := HW.out.1; omega))
          clear hcell
          by_cases hz : maE f q xss = 0
          · have e2 : maL f q xss = xss.map (rnO (Rf f) q) := by unfold maL; rw [if_pos hz]
            rw [HZ.out hz] at HLw
            rw [← e2] at HLw
            rw [hz] at k8 HM HEnd
            have HR0 := hide hz
            clear hz e2 HZ
            go_wp2
            go_ret2
            rw [HR0.out]
            exact ⟨va, us, rfl, HLw.out, hB⟩
          · have e2 : maL f q xss = [] := by unfold maL; rw [if_neg hz]
            have ht : (maE f q xss != 0) = true := bne_iff_ne.2 hz
            have k8d : wr.drew.cell? ⟨b8, 0, none⟩ = some (.int .i64 (maE f q xss)) := k8
            have HE2 := hide e2
            clear hz HZ e2
            go_wp2
            go_region
            go_wp2
            go_ret2
            rw [HE2.out]
            exact ⟨_, [], rfl, Lss.nil _ _ _, hB.drew⟩

end Go.Proofs.Ytfbipnhhnmlhfab
