import Derived.Test.YtjhididlcdepdaaGreatBLocR
import Derived.Test.YtjhididlcdepdaaGreatBLodB
set_option linter.unusedVariables false
set_option linter.unusedSimpArgs false
set_option maxRecDepth 100000
set_option maxHeartbeats 4000000
namespace Go.Proofs.YtjhididlcdepdaaGreat
open Go.RowKit Go.Shelf Fld
def rts (xs at' : List Int) : List Int := at'.map (fun i => co xs i.toNat)
def lcF (f : Int) (xs at' : List Int) : Int := fst2 (bad f xs [] xs.length) (nmE xs.length at')
def lcE (f : Int) (xs at' : List Int) : Int := if lcF f xs at' = 0 then chk f [rts xs at'] else lcF f xs at'
def lcL (f : Int) (xs at' : List Int) : List Int := if lcF f xs at' = 0 then zeroL f (rts xs at') else []
theorem gNumbers (n : Nat) (ao : Option Addr) (c N : Nat) (at' : List Int) (w : World) (h : Lm iw 1 w (.slice ao N c) at') (hN : at'.length = N) (hi : Iw at') (hn : n <= 140737488500000) (hb8 : N * 8 <= 140737488351232) :
 Calls Tryz.prog 123 #[.int .i64 n, .slice ao N c] w fun e w' => e = .returned (.int .i64 (nmE n at')) ∧ Below w.heap.size w w' := by
 have b0 := heap_alloc_new w (.cells #[Value.int .i64 (n : Int)] 3)
 have hB0 := alloc_below w (.cells #[Value.int .i64 (n : Int)] 3)
 have h1 := h.below hB0
 subst hN
 have HC := hide (gContains ao c at' n w.heap.size _ h1 hi hn (box_cell b0).1)
 obtain ⟨w1, Hw1⟩ : ∃ w1, Hid (w.alloc (.cells #[Value.int .i64 (n : Int)] 3) = w1) := ⟨_, rfl⟩
 rw [Hw1.out] at HC h1 hB0
 cases hA : at'.any (outB n) with
 | true =>
  have HE := hide (nmE_out hA)
  rw [HE.out]
  rw [hA] at HC
  clear h h1 b0 hi hA
  generalize at'.length = N at *
  go_enter Tryz.func123, Tryz.ntmps123
  go_wp2_with (first
   | (rw [Hw1.out])
   | (go_at_call 151; refine HC.out.mono ?_; rintro e w2 ⟨rfl, hw2⟩; rw [hw2]; clear hw2))
  go_ret
  exact ⟨rfl, hB0⟩
 | false =>
  obtain ⟨ats, rfl, hlt⟩ := in_ints hA
  have HE := hide (nmE_in hA)
  rw [HE.out]
  rw [hA] at HC
  have hB1 := alloc_below w1 (.cells #[Value.slice ao (ints ats).length c] 27)
  have hx := heap_alloc_new w1 (.cells #[Value.slice ao (ints ats).length c] 27)
  have h2 := h1.below hB1
  have hNa : Nat17 (fun j => j < (w1.alloc (.cells #[Value.slice ao (ints ats).length c] 27)).heap.size) (w1.alloc (.cells #[Value.slice ao (ints ats).length c] 27)) ao ats := fun h0 => by
   obtain ⟨b, off, e, hb, hcc⟩ := lm_ints h2 (by rw [ints_len]; exact h0)
   refine ⟨b, off, e, hb, fun i hi => ?_⟩
   rw [hcc i (by rw [ints_len]; exact hi)]
   congr 2
   simp [co, ints, List.getD_eq_getElem?_getD, hi]
  have HS := hide (gSorted w1.heap.size ao c ats (ints ats).length _ (by rw [ints_len]) hb8 hNa (box_cell hx).1)
  have HV := hide (gValues ao (ints ats).length c w1)
  obtain ⟨w3, Hw3⟩ : ∃ w3, Hid (w1.alloc (.cells #[Value.slice ao (ints ats).length c] 27) = w3) := ⟨_, rfl⟩
  rw [Hw3.out] at HS HV hB1
  have HCs := hide (comp_sorted (ints ats))
  have hml : ((ints ats).mergeSort fun x y => decide (x <= y)).length = (ints ats).length := List.length_mergeSort _
  obtain ⟨N, HN⟩ : ∃ N, Hid ((ints ats).length = N) := ⟨_, rfl⟩
  rw [HN.out] at HC HS HV HCs hml hb8 ⊢
  obtain ⟨nd, Hnd⟩ : ∃ b : Bool, Hid (decide (ints ats).Nodup = b) := ⟨_, rfl⟩
  have HI : Hid ((if (ints ats).Nodup then (0 : Int) else 6) = if nd = true then 0 else 6) := by
   show _ = _
   rw [<- Hnd.out]; simp
  rw [HI.out]
  have HCs2 : Hid (decide ((Lib.compact ((ints ats).mergeSort fun x y => decide (x <= y))).length < N) = !nd) := by
   show _ = _
   rw [<- Hnd.out]
   by_cases q : (ints ats).Nodup
   · rw [decide_eq_true q]; exact decide_eq_false (fun c => HCs.out.1 c q)
   · rw [decide_eq_false q]; exact decide_eq_true (HCs.out.2 q)
  have hcl := Lib.compact_length_le ((ints ats).mergeSort fun x y => decide (x <= y))
  rw [hml] at hcl
  have hB2 := Below.next hB0 hB1
  clear h h1 h2 hNa b0 hx hi hA hlt HE HCs HI Hnd
  generalize ((ints ats).mergeSort fun x y => decide (x <= y)) = zs at *
  go_enter Tryz.func123, Tryz.ntmps123
  go_wp2_with (first
   | (rw [Hw1.out])
   | (go_at_call 151; refine HC.out.mono ?_; rintro e w2 ⟨rfl, hw2⟩; rw [hw2]; clear hw2)
   | (go_at_call 154; refine HV.out.mono ?_; rintro e w4 ⟨rfl, hw4⟩; rw [hw4]; clear hw4))
  refine HS.out.mono ?_
  rintro e w5 ⟨v5, rfl, hO5, hb5⟩
  obtain ⟨a5, c5, rfl⟩ := own_form hO5
  have hB5 := Below.next hB2 hb5
  by_cases h0 : N = 0
  · subst h0
    obtain rfl : nd = true := by
     have := HCs2.out
     cases nd
     · simp at this
     · rfl
    clear HCs2 hO5 HS HV HC
    go_wp2_with (go_at_call 155; refine (Tryz.slices_Compact_int_empty _ _ _).mono ?_; rintro e w6 ⟨rfl, hw6⟩; rw [hw6]; clear hw6)
    go_ret
    exact ⟨rfl, hB5⟩
  · have hne : Value.slice a5 N c5 ≠ .slice none 0 0 := fun e => by injection e with _ e2 _; exact h0 e2
    obtain ⟨g, cap, e, hg, hgl, hcap, _, hzl, hH⟩ := Lib.holds_of_ownsRow hO5 hne
    injection e with e1 _ e3
    subst e1
    subst e3
    have HK := hide (Tryz.slices_Compact_int g 0 c5 zs w5 hH (by omega) (by omega))
    rw [hml] at HK
    clear hO5 HS HV HC hH hne
    generalize (Lib.compact zs).length = m at *
    cases nd with
    | true =>
     have hlt : ¬ m < N := by have := HCs2.out; simpa using this
     clear HCs2
     go_wp2_with (go_at_call 155; refine HK.out.mono ?_; rintro e w6 ⟨rfl, q, hw6⟩; have hB6 : Below w.heap.size w w6 := (by rw [hw6]; exact Lib.below_putRow hB5 (by have := hB2.size; omega)); clear hw6)
     go_ret
     exact ⟨rfl, hB6⟩
    | false =>
     have hlt : m < N := by have := HCs2.out; simpa using this
     clear HCs2
     go_wp2_with (go_at_call 155; refine HK.out.mono ?_; rintro e w6 ⟨rfl, q, hw6⟩; have hB6 : Below w.heap.size w w6 := (by rw [hw6]; exact Lib.below_putRow hB5 (by have := hB2.size; omega)); clear hw6)
     go_ret
     exact ⟨rfl, hB6⟩
theorem lc_facts {f : Int} {xs at' : List Int} (h : lcF f xs at' = 0) : bad f xs [] xs.length = 0 ∧ nmE xs.length at' = 0 := fst2_zero h
theorem nm_facts {n : Nat} {at' : List Int} (h : nmE n at' = 0) : ∃ ats : List Nat, at' = ints ats ∧ (∀ i ∈ ats, i < n) ∧ ats.length <= n := by
 cases hA : at'.any (outB n) with
 | true => rw [nmE_out hA] at h; exact absurd h (by decide)
 | false =>
  rw [nmE_in hA] at h
  obtain ⟨ats, rfl, hl⟩ := in_ints hA
  refine ⟨ats, rfl, hl, few_nums n ?_ hl⟩
  by_cases q : (ints ats).Nodup
  · exact ints_nodup.1 q
  · rw [if_neg q] at h; exact absurd h (by decide)
theorem rts_len (xs at' : List Int) : (rts xs at').length = at'.length := by simp [rts]
theorem rts_co (xs : List Int) (ats : List Nat) {i : Nat} (hi : i < ats.length) : co (rts xs (ints ats)) i = co xs (ats.getD i 0) := by
 simp [rts, ints, co, List.getD_eq_getElem?_getD, hi]
theorem rts_wd {xs at' : List Int} (hw : ∀ x ∈ xs, 0 <= x ∧ x <= 18446744073709551615) : ∀ x ∈ rts xs at', 0 <= x ∧ x <= 18446744073709551615 := fun x hx => by
 obtain ⟨i, _, rfl⟩ := List.mem_map.1 hx
 by_cases e : i.toNat < xs.length
 · rw [co_at e]; exact hw _ (List.getElem_mem e)
 · rw [co_out _ _ (by omega)]; decide
theorem gLocator (f : Int) (v1 : Value) (ao : Option Addr) (c : Nat) (xs at' : List Int) (w : World) (h1 : Rw w v1 xs) (h2 : Lm iw 1 w (.slice ao at'.length c) at') (hi : Iw at') (hb8 : at'.length * 8 <= 140737488351232) :
 Gives 92 #[.int .u8 f, v1, .slice ao at'.length c] w (lcL f xs at') (lcE f xs at') := by
 unfold Gives
 have HW := hide (iWeights f v1 xs w h1)
 unfold Gives at HW
 have hl1 := h1.len
 have HN := hide (fun W (hb : Below w.heap.size w W) => gNumbers xs.length ao c at'.length at' W (h2.below hb) rfl hi (by omega) hb8)
 have HX := hide (fun W (hb : Below w.heap.size w W) => h1.below hb)
 have HA := hide (fun W (hb : Below w.heap.size w W) => h2.below hb)
 have HF := hide (fun W => gFirst (bad f xs [] xs.length) (nmE xs.length at') W)
 have HZ := hide (fun W v (hr : Rw W v (rts xs at')) => tZero_any f v (rts xs at') W hr)
 unfold Gives at HZ
 have HWr := hide (rts_wd (at' := at') h1.words)
 have HFz := hide (fun (h : lcF f xs at' = 0) => lc_facts h)
 obtain ⟨a1, c1, rfl, _⟩ := h1.spell
 generalize wtsL f xs = T at *
 by_cases hz : lcF f xs at' = 0
 · obtain ⟨z1, z2⟩ := HFz.out hz
   obtain ⟨ats, rfl, hlt, hle⟩ := nm_facts z2
   obtain ⟨_, _, _, _, _, _, hn5, _⟩ := bad_zero z1
   have HE : Hid (lcE f xs (ints ats) = chk f [rts xs (ints ats)]) := by show _ = _; unfold lcE; rw [if_pos hz]
   have HL : Hid (lcL f xs (ints ats) = zeroL f (rts xs (ints ats))) := by show _ = _; unfold lcL; rw [if_pos hz]
   rw [HE.out, HL.out]
   rw [z1, z2] at HF
   rw [z1] at HW
   rw [z2] at HN
   have HRc := hide (fun i hi => rts_co xs ats (i := i) hi)
   have HRl := hide (rts_len xs (ints ats))
   rw [ints_len] at HRl HA HN hb8 ⊢
   obtain ⟨N, HNn⟩ : ∃ N, Hid (ats.length = N) := ⟨_, rfl⟩
   obtain ⟨n, Hn⟩ : ∃ n, Hid (xs.length = n) := ⟨_, rfl⟩
   rw [HNn.out] at HRl HA HN hb8 hle HRc ⊢
   rw [Hn.out] at HW HN HX hn5 hle hl1 hlt ⊢
   have HLt : Hid (∀ i, i < N -> ats.getD i 0 < n) := fun i hi => by
    rw [List.getD_eq_getElem?_getD, List.getElem?_eq_getElem (by rw [HNn.out]; exact hi)]
    exact hlt _ (List.getElem_mem _)
   have HAc : Hid (∀ W, Below w.heap.size w W -> 0 < N -> ∃ b off, ao = some ⟨b, off, none⟩ ∧ b < w.heap.size ∧ ∀ i, i < N -> W.cell? ⟨b, off + i, none⟩ = some (.int .i64 ((ats.getD i 0 : Nat) : Int))) := fun W hb h0 => by
    have hq := HA.out w (Below.refl _ _)
    obtain ⟨b, off, e, hb0, hcc⟩ := lm_ints hq (by rw [ints_len, HNn.out]; exact h0)
    refine ⟨b, off, e, hb0, fun i hi => ?_⟩
    rw [hb.cell (p := ⟨b, off + i, none⟩) hb0, hcc i (by rw [ints_len, HNn.out]; exact hi)]
    congr 2
    simp [co, ints, List.getD_eq_getElem?_getD, show i < ats.length by rw [HNn.out]; exact hi]
   generalize rts xs (ints ats) = RS at *
   generalize zeroL f RS = ZL at *
   generalize chk f [RS] = ZE at *
   clear h1 h2 hz z1 z2 HE HL hlt HFz HA hi
   go_enter Tryz.func92, Tryz.ntmps92
   go_wp2_with fail
   refine HW.out.mono ?_
   rintro e w1 ⟨v1, rfl, hO1, hb1⟩
   obtain ⟨a9, c9, rfl⟩ := own_form hO1
   have hNu := hide (HN.out _ hb1)
   clear hO1 HW HN
   generalize T.length = tl at *
   go_wp2_with fail
   refine hNu.out.mono ?_
   rintro e w2 ⟨rfl, hb2⟩
   have hB2 := Below.next hb1 hb2
   have hal := alloc_below w2 (.cells #[.int .i64 0, .int .i64 0] 30)
   have hB3 := Below.next hB2 hal
   have HMk := makeX N (by omega)
   go_wp2_with (go_at_call 78; refine (HF.out _).mono ?_; rintro e w3 ⟨rfl, hw3⟩; rw [hw3]; clear hw3; generalize w2.alloc (.cells #[.int .i64 0, .int .i64 0] 30) = w4 at *)
   have hB9 := own_newX (W := w4) (base := w4.heap.size) (T := 64) (n := N) (Nat.le_refl _) (zrX_len N) (by omega)
   have HO9 := hide hB9
   have HA9 := hide (alloc_below w4 (.cells (zrX N).toArray 64))
   clear hB9 HMk HF hNu hal hB2 hb1 hb2
   generalize w4.alloc (.cells (zrX N).toArray 64) = W1 at *
   go_loopw [34] (fun v34 wx => ∃ (i : Nat) (X : List Int), v34 = .int .i64 i ∧ i <= N ∧ X.length = N ∧ Hid (∀ j, j < i -> co X j = co xs (ats.getD j 0)) ∧ Hid (wx.ownsRow w4.heap.size 64 1 (.slice (some ⟨w4.heap.size, 0, none⟩) N N) N (vals X)) ∧ Below w4.heap.size w4 wx) (fun v34 _ => N - (intOf v34).toNat)
   case atStart => exact ⟨0, List.replicate N 0, rfl, Nat.zero_le _, by simp, (fun j h => by omega), HO9, HA9.out⟩
   case round =>
    clear HO9 HA9
    obtain ⟨i, X, rfl, hiN, hXl, HQ, HO, hB⟩ := hrel
    have hBw := Below.next hB3 hB
    by_cases hi : i < N
    · obtain ⟨b, off, rfl, hb0, hcc⟩ := HAc.out wr hBw (by omega)
      have k1 := hcc i hi
      have hqn := HLt.out i hi
      obtain ⟨bx, ox, rfl, hcx⟩ := (HX.out wr hBw).cellAt (by rw [Hn.out]; omega)
      have k2 := hcx wr (Below.refl _ _) (ats.getD i 0) (by rw [Hn.out]; exact hqn)
      have k3 := own_cell HO.out hXl hi
      have k4 := free_own HO.out i
      have HQ2 : Hid (∀ j, j < i + 1 -> co (X.set i (co xs (ats.getD i 0))) j = co xs (ats.getD j 0)) := fun j hj => by
       rw [co_set _ _ _ _ (by omega)]
       by_cases e : j = i
       · rw [if_pos e, e]
       · rw [if_neg e]; exact HQ.out j (by omega)
      have hXl2 : (X.set i (co xs (ats.getD i 0))).length = N := by rw [List.length_set]; exact hXl
      have R1 := hide (own_here (k := i) (z := co xs (ats.getD i 0)) HO.out)
      have R2 := hB.setCell (p := ⟨w4.heap.size, i, none⟩) (Nat.le_refl _) (.int .u64 (co xs (ats.getD i 0)))
      have i0 : (0 : Int) <= (i : Int) := Int.natCast_nonneg _
      have i1 : (i : Int) < (N : Int) := by omega
      have q0 : (0 : Int) <= ((ats.getD i 0 : Nat) : Int) := Int.natCast_nonneg _
      have q1 : ((ats.getD i 0 : Nat) : Int) < (n : Int) := by omega
      clear hcc hcx HQ HO
      generalize X.set i (co xs (ats.getD i 0)) = X2 at *
      generalize co xs (ats.getD i 0) = x at *
      generalize ats.getD i 0 = q at *
      generalize X.getD i 0 = y at *
      go_wp2_with fail
      go_roundw
      case rel => exact ⟨i + 1, X2, by go_num, by omega, hXl2, HQ2, R1, R2⟩
      case measure => simp [intOf]; omega
    · obtain rfl : N = i := by omega
      have hXR : X = RS := by
       refine ext_co (by rw [hXl, HRl.out]) (fun j hj => ?_)
       rw [HQ.out j (by omega), HRc.out j (by omega)]
      subst hXR
      have hr := rw_of_own HO.out (by omega) HWr.out
      have HZr := hide (HZ.out wr _ hr)
      clear HO HQ HZ hr HX HAc HLt HRc
      obtain ⟨zl, Hzl⟩ : ∃ zl, Hid (ZL.length = zl) := ⟨_, rfl⟩
      rw [Hzl.out] at HZr
      go_wp2_with (go_at_call 113; refine HZr.out.mono ?_; rintro e w6 ⟨v6, rfl, hO6, hb6⟩; obtain ⟨a6, c6, rfl⟩ := own_form hO6; have HO6 := hide hO6; clear hO6)
      go_ret2
      exact ⟨_, rfl, by rw [Hzl.out]; exact own_mono HO6.out hBw.size, Below.next hBw hb6⟩
 · have HE : Hid (lcE f xs at' = lcF f xs at') := by show _ = _; unfold lcE; rw [if_neg hz]
   have HL : Hid (lcL f xs at' = []) := by show _ = _; unfold lcL; rw [if_neg hz]
   rw [HE.out, HL.out]
   unfold lcF at hz ⊢
   clear h1 h2 HE HL HFz HA HZ HX hi HWr
   generalize bad f xs [] xs.length = e1 at *
   generalize nmE xs.length at' = e2 at *
   generalize at'.length = N at *
   generalize xs.length = n at *
   have hz2 : (fst2 e1 e2 != 0) = true := bne_iff_ne.2 hz
   go_enter Tryz.func92, Tryz.ntmps92
   go_wp2_with fail
   refine HW.out.mono ?_
   rintro e w1 ⟨v1, rfl, hO1, hb1⟩
   obtain ⟨a9, c9, rfl⟩ := own_form hO1
   have hNu := hide (HN.out _ hb1)
   clear hO1 HW HN
   generalize T.length = tl at *
   go_wp2_with fail
   refine hNu.out.mono ?_
   rintro e w2 ⟨rfl, hb2⟩
   have hB2 := Below.next hb1 hb2
   have hal := alloc_below w2 (.cells #[.int .i64 e1, .int .i64 e2] 30)
   have hB3 := Below.next hB2 hal
   go_wp2_with (go_at_call 78; refine (HF.out _).mono ?_; rintro e w3 ⟨rfl, hw3⟩; rw [hw3]; clear hw3; generalize w2.alloc (.cells #[.int .i64 e1, .int .i64 e2] 30) = w4 at *)
   go_ret2
   exact ⟨.slice none 0 0, rfl, World.ownsRow_nil _ _ _ _, hB3⟩
end Go.Proofs.YtjhididlcdepdaaGreat
