/-
  The statements of layer 11: EvalRows walked.
-/
import Derived.Test.YtfbipnhhnmlhfaaBLawVC
namespace Go.Proofs.Ytfbipnhhnmlhfaa
open Go.RowKit Fld Slp
set_option linter.unusedVariables false
set_option linter.unusedSimpArgs false

set_option maxRecDepth 100000 in
set_option maxHeartbeats 1000000 in
theorem evalRows_any (f : Int) (w : World) (vp vi : Value) (q : Pr) (xss : List (List Int)) (hf0 : 0 ≤ f) (hf1 : f ≤ 255) (hp : Pm w vp q) (hr : Rws w vi xss) (hlr : xss.length ≤ 5864062014634) : Calls Try.prog 8 #[.int .u8 f, vp, vi] w fun e w' => e = .returned (.bool true) ∧ Below w.heap.size w w' := by
  have HA := hide (fun W' (hb : Below w.heap.size w W') => eMany f q _ _ xss W' (hp.below hb) (hr.below hb))
  have HRun := hide (fun v xs W (hb : Below w.heap.size w W) (hr : Rw W v xs) => eRun f q vp v xs W (hp.below hb) hr)
  have HX := hide (fun W' => anch11 W')
  unfold GivesL11 at HA
  unfold Gives at HRun
  unfold Anch11 at HX
  obtain ⟨u1, u2⟩ := ma_wd (f := f) (q := q) hr.wordsL
  have HU1 := hide u1
  have HU2 := hide u2
  clear u1 u2
  obtain ⟨vo, vu, rfl, ho, hu⟩ := hp.form
  obtain ⟨ao, co', rfl, _⟩ := ho.spell
  obtain ⟨au, cu, rfl, _⟩ := hu.spell
  obtain ⟨ai, ci, rfl, hlen, hcap, hcell⟩ := hr
  have hA := alloc_below w (.cells #[.int .i64 q.inp, .slice ao q.ops.length co', .slice au q.outs.length cu] 25)
  have hN := heap_alloc_new w (.cells #[.int .i64 q.inp, .slice ao q.ops.length co', .slice au q.outs.length cu] 25)
  clear ho hu hp
  by_cases he : maE f q xss = 0
  · have e1 : maL f q xss = xss.map (rnO (Rf f) q) := by unfold maL; rw [if_pos he]
    have hm := (maE_zero he).1
    have HAll : Hid (∀ k, k < xss.length → evE f q (xss.getD k []) = 0 ∧ ruL f q (xss.getD k []) = (maL f q xss).getD k []) := fun k hk => by
      have h1 := (maE_zero he).2.2 _ (getD_mem hk)
      have h2 : evE f q (xss.getD k []) = 0 := by unfold evE; rw [if_pos hm]; exact h1
      refine ⟨h2, ?_⟩
      unfold ruL
      rw [if_pos h2, e1, List.getD_eq_getElem?_getD, List.getD_eq_getElem?_getD, List.getElem?_map, List.getElem?_eq_getElem hk]; rfl
    have hln : (maL f q xss).length = xss.length := by rw [e1]; simp
    rw [he] at HA
    clear he e1 hm
    generalize maL f q xss = rs at *
    have HLn := hide hln
    go_enter Try.func8, Try.ntmps8
    go_upto_region 5 with (go_at_call 15; refine (HA.out _ hA).mono ?_; rintro e w1 ⟨v1, us1, rfl, ho1, hb1⟩; have HR1 := hide (ho1.rws HU2.out (by have := HU1.out; omega)); have hB1 := Below.next hA hb1; have n1 := (hb1.block _ (Array.getElem?_eq_some_iff.1 hN).1).trans hN)
    obtain ⟨a1, c1, rfl, hlen1, hcap1, hcell1⟩ := HR1.out
    rw [HLn.out] at hlen1 hcap1 hcell1 ⊢
    clear ho1 hln
    go_wp2
    go_loopw [10] (fun vi wr => ∃ k : Nat, k ≤ xss.length ∧ vi = .int .i64 k ∧ Below w1.heap.size w1 wr) (fun vi _ => xss.length - (intOf vi).toNat)
    case atStart => exact ⟨0, Nat.zero_le _, rfl, Below.refl _ _⟩
    case round =>
      obtain ⟨k, hk, rfl, hB⟩ := hrel
      have hBw := Below.next hB1 hB
      have n2 := (hB.block _ (Array.getElem?_eq_some_iff.1 n1).1).trans n1
      by_cases hlt : k < xss.length
      · obtain ⟨b, off, rfl, hbl, hc⟩ := hcell (by intro e; rw [e] at hlt; simp at hlt)
        obtain ⟨u, hcu, hru⟩ := hc k hlt
        have hck := (hBw.cell (p := ⟨b, off + k, none⟩) hbl).trans hcu
        obtain ⟨b1, off1, rfl, hbl1, hc1⟩ := hcell1 (by intro e; have := HLn.out; rw [e] at this; simp at this; omega)
        obtain ⟨t, hct, hrt⟩ := hc1 k hlt
        have hbd : Below wr.heap.size wr wr.drew := (Below.refl _ wr).drew
        have hB1d := Below.next hB hbd
        have HY := hide (HRun.out u (xss.getD k []) wr.drew (Below.next hBw hbd) (hru.below (Below.next hBw hbd)))
        rw [(HAll.out k hlt).1, (HAll.out k hlt).2] at HY
        have HW2 := hide (HU2.out k)
        have HRt := hide hrt
        obtain ⟨au', cu', rfl, _⟩ := hru.spell
        obtain ⟨at', ct', rfl, _⟩ := hrt.spell
        have k0 : (0 : Int) ≤ (k : Int) := by omega
        have k1 : (k : Int) < (xss.length : Int) := by omega
        obtain ⟨p0, p1, p2⟩ := cell3 n2
        have hS0 : wr.drew.cell? ⟨b, off + k, none⟩ = some (.slice au' (xss.getD k []).length cu') ∧ wr.drew.cell? ⟨w.heap.size, 0, none⟩ = some (.int .i64 q.inp) ∧ wr.drew.cell? ⟨w.heap.size, 1, none⟩ = some (.slice ao q.ops.length co') ∧ wr.drew.cell? ⟨w.heap.size, 2, none⟩ = some (.slice au q.outs.length cu) := ⟨hck, p0, p1, p2⟩
        clear hc hcell hcu hru hc1 hcell1 hrt
        generalize rs.getD k [] = zs at *
        generalize (xss.getD k []).length = ln at *
        go_upto_region 10 with fail
        refine wp_region_held_drew (S := (fun W' => W'.cell? ⟨b, off + k, none⟩ = some (.slice au' ln cu') ∧ W'.cell? ⟨w.heap.size, 0, none⟩ = some (.int .i64 q.inp) ∧ W'.cell? ⟨w.heap.size, 1, none⟩ = some (.slice ao q.ops.length co') ∧ W'.cell? ⟨w.heap.size, 2, none⟩ = some (.slice au q.outs.length cu))) (by kernel_rfl) (by ((try dsimp only) <;> (first | with_reducible exact hS0 | with_reducible exact hS1))) (fun hHeld => ?_)
        (refine wpAnyH_take (i := 0) (oi := _) (v := ?v250) rfl (by kernel_rfl) (by kernel_rfl) (by kernel_rfl) (fun _ _ _ h => h) (Or.inl ⟨by rfl, ?hy250⟩) (by assumption) ?rest250; (case hy250 => (first | (intro w hSw; (try dsimp only at hSw); go_simp; done) | (intro w hSw; (try dsimp only at hSw); go_simp; with_reducible rfl))); (try simp only [Act.put, List.getElem_toArray, List.getElem_cons_succ, List.getElem_cons_zero, List.setIfInBounds_toArray, List.set_cons_zero, List.set_cons_succ]))
        (refine wpAnyH_take (i := 1) (oi := _) (v := ?v251) rfl (by kernel_rfl) (by kernel_rfl) (by kernel_rfl) (fun _ _ _ h => h) (Or.inl ⟨by rfl, ?hy251⟩) (by assumption) ?rest251; (case hy251 => (first | (intro w hSw; (try dsimp only at hSw); go_simp; done) | (intro w hSw; (try dsimp only at hSw); go_simp; with_reducible rfl))); (try simp only [Act.put, List.getElem_toArray, List.getElem_cons_succ, List.getElem_cons_zero, List.setIfInBounds_toArray, List.set_cons_zero, List.set_cons_succ]))
        (refine wpAnyH_take (i := 2) (oi := _) (v := ?v252) rfl (by kernel_rfl) (by kernel_rfl) (by kernel_rfl) (fun _ _ _ h => h) (Or.inl ⟨by rfl, ?hy252⟩) (by assumption) ?rest252; (case hy252 => (first | (intro w hSw; (try dsimp only at hSw); go_simp; done) | (intro w hSw; (try dsimp only at hSw); go_simp; with_reducible rfl))); (try simp only [Act.put, List.getElem_toArray, List.getElem_cons_succ, List.getElem_cons_zero, List.setIfInBounds_toArray, List.set_cons_zero, List.set_cons_succ]))
        (refine wpAnyH_take (i := 3) (oi := _) (v := ?v253) rfl (by kernel_rfl) (by kernel_rfl) (by kernel_rfl) (fun _ _ _ h => h) (Or.inl ⟨by rfl, ?hy253⟩) (by assumption) ?rest253; (case hy253 => (first | (intro w hSw; (try dsimp only at hSw); go_simp; done) | (intro w hSw; (try dsimp only at hSw); go_simp; with_reducible rfl))); (try simp only [Act.put, List.getElem_toArray, List.getElem_cons_succ, List.getElem_cons_zero, List.setIfInBounds_toArray, List.set_cons_zero, List.set_cons_succ]))
        (refine wpAnyH_take (i := 4) (oi := _) (v := ?v254) rfl (by kernel_rfl) (by kernel_rfl) (by kernel_rfl) (fun _ _ _ h => h) (Or.inl ⟨by rfl, ?hy254⟩) (by assumption) ?rest254; (case hy254 => (first | (intro w hSw; (try dsimp only at hSw); go_simp; done) | (intro w hSw; (try dsimp only at hSw); go_simp; with_reducible rfl))); (try simp only [Act.put, List.getElem_toArray, List.getElem_cons_succ, List.getElem_cons_zero, List.setIfInBounds_toArray, List.set_cons_zero, List.set_cons_succ]))
        (refine wpAnyH_take (i := 5) (oi := _) (v := ?v255) rfl (by kernel_rfl) (by kernel_rfl) (by kernel_rfl) (fun _ _ _ h => h) (Or.inl ⟨by rfl, ?hy255⟩) (by assumption) ?rest255; (case hy255 => (first | (intro w hSw; (try dsimp only at hSw); go_simp; done) | (intro w hSw; (try dsimp only at hSw); go_simp; with_reducible rfl))); (try simp only [Act.put, List.getElem_toArray, List.getElem_cons_succ, List.getElem_cons_zero, List.setIfInBounds_toArray, List.set_cons_zero, List.set_cons_succ]))
        refine wpAnyH_ready (rs := [6]) (by kernel_rfl) (by simp) ?_
        refine AllReadyH.cons (o := _) rfl (fun K hK => ?_) AllReadyH.nil
        try simp only [List.getElem_toArray, List.getElem_cons_succ, List.getElem_cons_zero]
        go_simp
        (first
              | (go_at_call 9; refine HY.out.mono ?_; rintro e w3 ⟨v3, rfl, hor, hb3⟩; have hS1 := kept4 hb3 hS0))
        first | (refine hK.out _ _ (by ((try dsimp only) <;> (first | with_reducible exact hS0 | with_reducible exact hS1))) (fun hHeld => ?_)) | (go_wp2_with fail; refine hK.out _ _ (by ((try dsimp only) <;> (first | with_reducible exact hS0 | with_reducible exact hS1))) (fun hHeld => ?_))
        clear hK K
        (try simp only [Act.put, List.getElem_toArray, List.getElem_cons_succ, List.getElem_cons_zero, List.setIfInBounds_toArray, List.set_cons_zero, List.set_cons_succ])
        (refine wpAnyH_take (i := 7) (oi := _) (v := ?v256) rfl (by kernel_rfl) (by kernel_rfl) (by kernel_rfl) (fun _ _ _ h => h) (Or.inl ⟨by rfl, ?hy256⟩) (by assumption) ?rest256; (case hy256 => (first | (intro w hSw; (try dsimp only at hSw); go_simp; done) | (intro w hSw; (try dsimp only at hSw); go_simp; with_reducible rfl))); (try simp only [Act.put, List.getElem_toArray, List.getElem_cons_succ, List.getElem_cons_zero, List.setIfInBounds_toArray, List.set_cons_zero, List.set_cons_succ]))
        (refine wpAnyH_take (i := 8) (oi := _) (v := ?v257) rfl (by kernel_rfl) (by kernel_rfl) (by kernel_rfl) (fun _ _ _ h => h) (Or.inl ⟨by rfl, ?hy257⟩) (by assumption) ?rest257; (case hy257 => (first | (intro w hSw; (try dsimp only at hSw); go_simp; done) | (intro w hSw; (try dsimp only at hSw); go_simp; with_reducible rfl))); (try simp only [Act.put, List.getElem_toArray, List.getElem_cons_succ, List.getElem_cons_zero, List.setIfInBounds_toArray, List.set_cons_zero, List.set_cons_succ]))
        (refine wpAnyH_take (i := 9) (oi := _) (v := ?v258) rfl (by kernel_rfl) (by kernel_rfl) (by kernel_rfl) (fun _ _ _ h => h) (Or.inl ⟨by rfl, ?hy258⟩) (by assumption) ?rest258; (case hy258 => (first | (intro w hSw; (try dsimp only at hSw); go_simp; done) | (intro w hSw; (try dsimp only at hSw); go_simp; with_reducible rfl))); (try simp only [Act.put, List.getElem_toArray, List.getElem_cons_succ, List.getElem_cons_zero, List.setIfInBounds_toArray, List.set_cons_zero, List.set_cons_succ]))
        (refine wpAnyH_take (i := 10) (oi := _) (v := ?v259) rfl (by kernel_rfl) (by kernel_rfl) (by kernel_rfl) (fun _ _ _ h => h) (Or.inl ⟨by rfl, ?hy259⟩) (by assumption) ?rest259; (case hy259 => (first | (intro w hSw; (try dsimp only at hSw); go_simp; done) | (intro w hSw; (try dsimp only at hSw); go_simp; with_reducible rfl))); (try simp only [Act.put, List.getElem_toArray, List.getElem_cons_succ, List.getElem_cons_zero, List.setIfInBounds_toArray, List.set_cons_zero, List.set_cons_succ]))
        (refine wpAnyH_take (i := 11) (oi := _) (v := ?v260) rfl (by kernel_rfl) (by kernel_rfl) (by kernel_rfl) (fun _ _ _ h => h) (Or.inl ⟨by rfl, ?hy260⟩) (by assumption) ?rest260; (case hy260 => (first | (intro w hSw; (try dsimp only at hSw); go_simp; done) | (intro w hSw; (try dsimp only at hSw); go_simp; with_reducible rfl))); (try simp only [Act.put, List.getElem_toArray, List.getElem_cons_succ, List.getElem_cons_zero, List.setIfInBounds_toArray, List.set_cons_zero, List.set_cons_succ]))
        refine wpAnyH_done (by kernel_rfl) ?_ _
        have HR3 := hide (HW2.out.row hor)
        have hB3 := Below.next hB1d hb3
        have hct3 := (hB3.cell (p := ⟨b1, off1 + k, none⟩) hbl1).trans hct
        have HRt3 := hide (HRt.out.below hB3)
        clear hS0 hS1 hct
        go_wp2_with (go_at_call 13; refine (Same_yes _ _ _ _ HR3.out.1 HRt3.out.1).mono ?_; rintro e w4 ⟨rfl, hb4⟩)
        have hB4 := Below.next hB3 hb4
        go_roundw
        case rel => exact ⟨k + 1, by omega, by go_num, hB4⟩
        case measure => simp [intOf]; omega
      · obtain rfl : k = xss.length := by omega
        clear hcell hcell1
        go_wp2_with (go_at_call 14; refine (HX.out _).mono ?_; rintro e w7 ⟨rfl, hb7⟩)
        go_ret
        exact ⟨rfl, Below.next hBw hb7⟩
  · have e1 : maL f q xss = [] := by unfold maL; rw [if_neg he]
    have ht : (maE f q xss != 0) = true := bne_iff_ne.2 he
    rw [e1] at HA
    clear he e1 HU1 HU2
    generalize maE f q xss = er at *
    go_enter Try.func8, Try.ntmps8
    go_wp2_with (first
      | (go_at_call 15; refine (HA.out _ hA).mono ?_; rintro e w1 ⟨v1, us1, rfl, ho1, hb1⟩; have hB1 := Below.next hA hb1; obtain ⟨a1, c1, rfl⟩ := own_form ho1.row)
      | (go_at_call 14; refine (HX.out _).mono ?_; rintro e w7 ⟨rfl, hb7⟩; have hB7 := Below.next hB1 hb7))
    go_ret
    exact ⟨rfl, hB7⟩

end Go.Proofs.Ytfbipnhhnmlhfaa
