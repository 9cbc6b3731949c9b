/-
  Layer 7: what the document fixes; InterpThrough's, InterpValues' and InterpChanges' walks.
-/
import Derived.Test.YtdonfilofdfpbaaBIntL
import Derived.Test.YtdonfilofdfpbaaBTreD
namespace Go.Proofs.Ytdonfilofdfpbaa
open Go.RowKit Fld
set_option linter.unusedVariables false

theorem anc_bad : bad 1 [0, 1] [5, 7] 2 = 0 ∧ bad 1 [4, 4] [] 2 = 6 := by constructor <;> decide +kernel
theorem fi_small : Fi 1 2013265921 false := .inl ⟨rfl, rfl, rfl⟩
theorem els_two {p a b : Int} (ha : El p a) (hb : El p b) : Els p [a, b] := fun x hx => by
  have : x = a ∨ x = b := by simpa using hx
  rcases this with rfl | rfl
  · exact ha
  · exact hb
theorem anc_thr : thrL 1 [0, 1] [5, 7] = [5, 2] := by
  have e : thrL 1 [0, 1] [5, 7] = tp 2013265921 [0, 1] [5, 7] 2 := by
    unfold thrL
    rw [show bad 1 [0, 1] [5, 7] ([5, 7] : List Int).length = 0 from anc_bad.1, if_pos rfl]; rfl
  rw [e]
  have hx : Els 2013265921 [0, 1] := els_two ⟨by decide, by decide⟩ ⟨by decide, by decide⟩
  have hy : Els 2013265921 [5, 7] := els_two ⟨by decide, by decide⟩ ⟨by decide, by decide⟩
  have hn : ([0, 1] : List Int).Nodup := by decide
  have h1 := tp_thr fi_small.md hx hy hn
  have h2 : Thr 2013265921 [0, 1] [5, 7] [5, 2] := by
    refine ⟨⟨els_two ⟨by decide, by decide⟩ ⟨by decide, by decide⟩, by decide⟩, by decide, fun i hi => ?_⟩
    have : i = 0 ∨ i = 1 := by simp at hi; omega
    rcases this with rfl | rfl <;> decide
  exact h1.only fi_small.md hx hn h2
theorem wtsL_no : wtsL 1 [4, 4] = [] := by
  unfold wtsL
  rw [show bad 1 [4, 4] [] ([4, 4] : List Int).length = 6 from anc_bad.2]; rfl
theorem anc_through (w : World) (T : TypeId) :
    Calls Try.prog 9 #[.int .u8 1, .slice (some ⟨w.heap.size, 0, none⟩) 2 2, .slice (some ⟨w.heap.size + 1, 0, none⟩) 2 2] ((w.alloc (.cells #[.int .u64 0, .int .u64 1] T)).alloc (.cells #[.int .u64 5, .int .u64 7] T))
      fun e w' => ∃ v', e = .returned (.tuple #[v', .int .i64 0]) ∧ Row w' v' [5, 2] ∧ Below w.heap.size w w' := by
  have r1 := (rwT w 0 1 (by decide) (by decide) T).below (alloc_below _ (.cells #[.int .u64 5, .int .u64 7] T))
  have r2 := rwT (w.alloc (.cells #[.int .u64 0, .int .u64 1] T)) 5 7 (by decide) (by decide) T
  have e2 : (w.alloc (.cells #[.int .u64 0, .int .u64 1] T)).heap.size = w.heap.size + 1 := by simp
  have h := iThrough 1 _ _ [0, 1] [5, 7] _ r1 r2
  unfold Gives at h
  rw [e2, anc_thr, show bad 1 [0, 1] [5, 7] ([5, 7] : List Int).length = 0 from anc_bad.1] at h
  exact h.mono fun e w' ⟨v', he, hO, hb⟩ => ⟨v', he, row_of_own hO (by simp) (by simp) (by simp), below_one (below_one hb)⟩
theorem anc_weights (w : World) (T : TypeId) :
    Calls Try.prog 17 #[.int .u8 1, .slice (some ⟨w.heap.size, 0, none⟩) 2 2] (w.alloc (.cells #[.int .u64 4, .int .u64 4] T))
      fun e w' => ∃ v', e = .returned (.tuple #[v', .int .i64 6]) ∧ Below w.heap.size w w' := by
  have h := iWeights 1 _ [4, 4] _ (rwT w 4 4 (by decide) (by decide) T)
  unfold Gives at h
  rw [show bad 1 [4, 4] [] ([4, 4] : List Int).length = 6 from anc_bad.2] at h
  exact h.mono fun e w' ⟨v', he, hO, hb⟩ => ⟨v', he, below_one hb⟩

set_option maxHeartbeats 200000 in
theorem anch7 (w : World) : Calls Try.prog 14 #[] w fun e w' => e = .returned (.bool true) ∧ Below w.heap.size w w' := by
  have ht := hide (fun T => anc_through w T)
  have hv := hide (fun W T => anc_weights W T)
  have r2 := hide (fun W T => (rwT W 5 2 (by decide) (by decide) T).1)
  go_enter Try.func14, Try.ntmps14
  go_wp2_with fail
  refine (ht.out _).mono ?_; rintro e w1 ⟨v1, rfl, hr1, hb1⟩
  have R1 := hide hr1
  clear hr1
  go_wp2_with fail
  refine (hv.out _ _).mono ?_; rintro e w2 ⟨v2, rfl, hb2⟩
  have R1' := hide (R1.out.below hb2)
  have hB2 := Below.next hb1 hb2
  go_wp2_with fail
  refine (Same_yes v1 _ [5, 2] _ (R1'.out.below (alloc_below _ _)) (r2.out _ _)).mono ?_; rintro e w3 ⟨rfl, hb3⟩
  go_wp2
  go_ret
  exact ⟨rfl, Below.next hB2 (below_one hb3)⟩

theorem wtsL_wd (f : Int) {xs : List Int} (hl : xs.length ≤ 17592186043904) : Wd (wtsL f xs) := by
  unfold wtsL
  by_cases hz : bad f xs [] xs.length = 0
  · obtain ⟨p, wd, h, _⟩ := bad_zero hz
    rw [if_pos hz, pOf_eq h]
    exact wd_els (wts_els h.pos xs) h.top (by rw [wts_len]; exact hl)
  · rw [if_neg hz]; exact wd_nil
theorem basL_wd (f x : Int) {xs : List Int} (hl : xs.length ≤ 17592186043904) : Wd (basL f xs x) := by
  unfold basL
  by_cases hz : bad f xs [x] xs.length = 0
  · obtain ⟨p, wd, h, _⟩ := bad_zero hz
    rw [if_pos hz, pOf_eq h]
    exact wd_els (bsl_els h.pos xs x) h.top (by rw [bsl_len]; exact hl)
  · rw [if_neg hz]; exact wd_nil

/-- Two lists handed in as an array: their box. -/
theorem box2 (w : World) (v1 v2 : Value) (T : TypeId) : Below w.heap.size w (w.alloc (.cells #[v1, v2] T)) ∧ ∀ W, Below (w.alloc (.cells #[v1, v2] T)).heap.size (w.alloc (.cells #[v1, v2] T)) W → W.cell? ⟨w.heap.size, 0, none⟩ = some v1 ∧ W.cell? ⟨w.heap.size, 1, none⟩ = some v2 :=
  ⟨alloc_below w _, fun W hb => ⟨(hb.cell (p := ⟨w.heap.size, 0, none⟩) (by simp)).trans (by simp [go_sem]), (hb.cell (p := ⟨w.heap.size, 1, none⟩) (by simp)).trans (by simp [go_sem])⟩⟩

set_option maxRecDepth 100000 in
set_option maxHeartbeats 400000 in
theorem ithrough_any (f : Int) (v1 v2 : Value) (xs ys : List Int) (d : Int) (w : World) (h1 : Rw w v1 xs) (h2 : Rw w v2 ys) (hd : -9223372036854775808 ≤ d ∧ d ≤ 9223372036854775807) :
    Calls Try.prog 3 #[.int .u8 f, .agg #[v1, v2], .int .i64 d] w fun e w' => e = .returned (.bool true) ∧ Below w.heap.size w w' := by
  obtain ⟨hal, hbx⟩ := box2 w v1 v2 23
  have HQ := hide hbx
  have g1 := h1.below hal
  have g2 := h2.below hal
  have c1 := hide (iThrough f v1 v2 xs ys _ g1 g2)
  have c2 := hide (fun W (hb : Below (w.alloc (.cells #[v1, v2] 23)).heap.size (w.alloc (.cells #[v1, v2] 23)) W) => dThrough f v1 v2 xs ys W (g1.below hb) (g2.below hb))
  have c3 := hide (fun W (hb : Below (w.alloc (.cells #[v1, v2] 23)).heap.size (w.alloc (.cells #[v1, v2] 23)) W) => iFits f d v1 v2 xs ys W hd (g1.below hb) (g2.below hb))
  have c4 := hide (fun W (hb : Below (w.alloc (.cells #[v1, v2] 23)).heap.size (w.alloc (.cells #[v1, v2] 23)) W) => dFits f d v1 v2 xs ys W hd (g1.below hb) (g2.below hb))
  have ga := hide (fun W => anch7 W)
  have WS := hide (thrL_wd f (ys := ys) h1.len)
  obtain ⟨a1, k1, rfl, _⟩ := h1.spell
  obtain ⟨a2, k2, rfl, _⟩ := h2.spell
  unfold Gives at c1 c2
  clear h1 h2 g1 g2 hbx
  generalize bad f xs ys ys.length = e1 at *
  generalize fitE f xs ys d = e2 at *
  generalize fitB f xs ys d = b2 at *
  generalize thrL f xs ys = tl at *
  generalize xs.length = n1 at *
  generalize ys.length = n2 at *
  obtain ⟨q1, q2⟩ := HQ.out _ (Below.refl _ _)
  go_enter Try.func3, Try.ntmps3
  go_wp2_with (first
    | (go_at_call 9; refine c1.out.mono ?_; rintro e w1 ⟨u1, rfl, hO1, hb1⟩; obtain ⟨q1, q2⟩ := HQ.out _ hb1)
    | (go_at_call 10; refine (c2.out _ hb1).mono ?_; rintro e w2 ⟨u2, rfl, hO2, hb2⟩; have hB2 := Below.next hb1 hb2; obtain ⟨q3, q4⟩ := HQ.out _ hB2)
    | (go_at_call 11; refine (c3.out _ hB2).mono ?_; rintro e w3 ⟨rfl, hb3⟩; have hB3 := Below.next hB2 hb3; obtain ⟨q5, q6⟩ := HQ.out _ hB3)
    | (go_at_call 12; refine (c4.out _ hB3).mono ?_; rintro e w4 ⟨rfl, hb4⟩; have hB4 := Below.next hB3 hb4; have r1 := hide (WS.out.row (own_below (own_below (own_below hO1 hb2) hb3) hb4)).1; have r2 := hide (WS.out.row (own_below (own_below hO2 hb3) hb4)).1; clear hO1 hO2)
    | (go_at_call 13; refine (Same_yes _ _ _ _ r1.out r2.out).mono ?_; rintro e w5 ⟨rfl, hb5⟩; have hB5 := Below.next hB4 hb5)
    | (go_at_call 14; refine (ga.out _).mono ?_; rintro e w6 ⟨rfl, hb6⟩))
  go_ret
  exact ⟨rfl, Below.next (Below.next hal hB5) hb6⟩

set_option maxRecDepth 100000 in
set_option maxHeartbeats 400000 in
theorem ivalues_any (f : Int) (v1 v2 : Value) (xs ys : List Int) (x : Int) (w : World) (h1 : Rw w v1 xs) (h2 : Rw w v2 ys) (hx : 0 ≤ x ∧ x ≤ 18446744073709551615) :
    Calls Try.prog 4 #[.int .u8 f, .agg #[v1, v2], .int .u64 x] w fun e w' => e = .returned (.bool true) ∧ Below w.heap.size w w' := by
  obtain ⟨hal, hbx⟩ := box2 w v1 v2 23
  have HQ := hide hbx
  have g1 := h1.below hal
  have g2 := h2.below hal
  have c1 := hide (iValue f x v1 v2 xs ys _ hx g1 g2)
  have c2 := hide (fun W (hb : Below (w.alloc (.cells #[v1, v2] 23)).heap.size (w.alloc (.cells #[v1, v2] 23)) W) => dValue f x v1 v2 xs ys W hx (g1.below hb) (g2.below hb))
  have c3 := hide (fun W (hb : Below (w.alloc (.cells #[v1, v2] 23)).heap.size (w.alloc (.cells #[v1, v2] 23)) W) => iWeights f v1 xs W (g1.below hb))
  have c4 := hide (fun W (hb : Below (w.alloc (.cells #[v1, v2] 23)).heap.size (w.alloc (.cells #[v1, v2] 23)) W) => dWeights f v1 xs W (g1.below hb))
  have c5 := hide (fun W (hb : Below (w.alloc (.cells #[v1, v2] 23)).heap.size (w.alloc (.cells #[v1, v2] 23)) W) => iBasis f x v1 xs W hx (g1.below hb))
  have c6 := hide (fun W (hb : Below (w.alloc (.cells #[v1, v2] 23)).heap.size (w.alloc (.cells #[v1, v2] 23)) W) => dBasis f x v1 xs W hx (g1.below hb))
  have WS := hide (wtsL_wd f h1.len)
  have BS := hide (basL_wd f x h1.len)
  obtain ⟨a1, k1, rfl, _⟩ := h1.spell
  obtain ⟨a2, k2, rfl, _⟩ := h2.spell
  unfold Gives at c3 c4 c5 c6
  clear h1 h2 g1 g2 hbx
  generalize vluV f xs ys x = vv at *
  generalize vluE f xs ys x = e1 at *
  generalize bad f xs [] xs.length = e2 at *
  generalize bad f xs [x] xs.length = e3 at *
  generalize wtsL f xs = wl at *
  generalize basL f xs x = bl at *
  generalize xs.length = n1 at *
  generalize ys.length = n2 at *
  obtain ⟨q1, q2⟩ := HQ.out _ (Below.refl _ _)
  go_enter Try.func4, Try.ntmps4
  go_wp2_with (first
    | (go_at_call 15; refine c1.out.mono ?_; rintro e w1 ⟨rfl, hb1⟩; obtain ⟨q1, q2⟩ := HQ.out _ hb1)
    | (go_at_call 16; refine (c2.out _ hb1).mono ?_; rintro e w2 ⟨rfl, hb2⟩; have hB2 := Below.next hb1 hb2; obtain ⟨q3, q4⟩ := HQ.out _ hB2)
    | (go_at_call 17; refine (c3.out _ hB2).mono ?_; rintro e w3 ⟨u3, rfl, hO3, hb3⟩; have hB3 := Below.next hB2 hb3; obtain ⟨q5, q6⟩ := HQ.out _ hB3)
    | (go_at_call 18; refine (c4.out _ hB3).mono ?_; rintro e w4 ⟨u4, rfl, hO4, hb4⟩; have hB4 := Below.next hB3 hb4; obtain ⟨q7, q8⟩ := HQ.out _ hB4)
    | (go_at_call 19; refine (c5.out _ hB4).mono ?_; rintro e w5 ⟨u5, rfl, hO5, hb5⟩; have hB5 := Below.next hB4 hb5; obtain ⟨q9, q10⟩ := HQ.out _ hB5)
    | (go_at_call 20; refine (c6.out _ hB5).mono ?_; rintro e w6 ⟨u6, rfl, hO6, hb6⟩; have hB6 := Below.next hB5 hb6; have r1 := hide (WS.out.row (own_below (own_below (own_below hO3 hb4) hb5) hb6)).1; have r2 := hide (WS.out.row (own_below (own_below hO4 hb5) hb6)).1; have r3 := hide (BS.out.row (own_below hO5 hb6)).1; have r4 := hide (BS.out.row hO6).1; clear hO3 hO4 hO5 hO6)
    | (go_at_call 13; refine (Same_yes _ _ _ _ r3'.out r4'.out).mono ?_; rintro e w8 ⟨rfl, hb8⟩)
    | (go_at_call 13; refine (Same_yes _ _ _ _ r1.out r2.out).mono ?_; rintro e w7 ⟨rfl, hb7⟩; have hB7 := Below.next hB6 hb7; have r3' := hide (r3.out.below hb7); have r4' := hide (r4.out.below hb7)))
  go_ret
  exact ⟨rfl, Below.next (Below.next hal hB7) hb8⟩

theorem chgL_wd (f : Int) {xs zs : List Int} : ∀ i, Wd ((chgL f xs zs).getD i []) := fun i => by
  unfold chgL
  by_cases hz : bac f xs zs = 0
  · obtain ⟨hb0, _⟩ := bac_zero hz
    obtain ⟨p, wd, h, _, _, _, hl, _⟩ := bad_zero hb0
    rw [if_pos hz, pOf_eq h, List.getD_eq_getElem?_getD, List.getElem?_map]
    cases zs[i]? with
    | none => exact wd_nil
    | some z => exact wd_els (zs := bsl p xs z) (bsl_els h.pos xs z) h.top (by rw [bsl_len]; omega)
  · rw [if_neg hz]; exact wd_nil
theorem chgL_len (f : Int) {xs zs : List Int} : (chgL f xs zs).length ≤ 512 := by
  unfold chgL
  by_cases hz : bac f xs zs = 0
  · rw [if_pos hz, List.length_map]; exact (bac_zero hz).2
  · rw [if_neg hz]; simp
theorem Rws.spell {w : World} {v : Value} {xss : List (List Int)} (h : Rws w v xss) : ∃ ao cap, v = .slice ao xss.length cap := by
  obtain ⟨ao, cap, h, _⟩ := h; exact ⟨ao, cap, h⟩

set_option maxRecDepth 100000 in
set_option maxHeartbeats 400000 in
theorem ichanges_any (f : Int) (v1 v2 : Value) (xs zs : List Int) (w : World) (h1 : Rw w v1 xs) (h2 : Rw w v2 zs) :
    Calls Try.prog 5 #[.int .u8 f, v1, v2] w fun e w' => e = .returned (.bool true) ∧ Below w.heap.size w w' := by
  have c1 := hide (iChange f v1 v2 xs zs w h1 h2)
  have c2 := hide (fun W (hb : Below w.heap.size w W) => dChange f v1 v2 xs zs W (h1.below hb) (h2.below hb))
  have ga := hide (fun W => anch7 W)
  have WS := hide (fun i => chgL_wd f (xs := xs) (zs := zs) i)
  have LS := hide (chgL_len f (xs := xs) (zs := zs))
  obtain ⟨a1, k1, rfl, _⟩ := h1.spell
  obtain ⟨a2, k2, rfl, _⟩ := h2.spell
  unfold GivesL at c1 c2
  clear h1 h2
  generalize bac f xs zs = e1 at *
  generalize chgL f xs zs = tl at *
  generalize xs.length = n1 at *
  generalize zs.length = n2 at *
  go_enter Try.func5, Try.ntmps5
  go_wp2_with (first
    | (go_at_call 21; refine c1.out.mono ?_; rintro e w1 ⟨u1, us1, rfl, hL1, hb1⟩)
    | (go_at_call 22; refine (c2.out _ hb1).mono ?_; rintro e w2 ⟨u2, us2, rfl, hL2, hb2⟩; have hB2 := Below.next hb1 hb2; have r1 := hide ((hL1.below hb2).rws WS.out (by have := LS.out; omega)); have r2 := hide (hL2.rws WS.out (by have := LS.out; omega)); clear hL1 hL2)
    | (go_at_call 23; refine (Rows_quiet _ _ _ _ r1.out r2.out).mono ?_; rintro e w5 ⟨rfl, m5, rfl⟩; have hB5 := below_drewN hB2 m5)
    | (go_at_call 14; refine (ga.out _).mono ?_; rintro e w6 ⟨rfl, hb6⟩))
  go_ret
  exact ⟨rfl, Below.next hB5 hb6⟩

end Go.Proofs.Ytdonfilofdfpbaa
