import Derived.Test.YtnapbdoalfbgnaaGreatBLocV
import Derived.Test.YtnapbdoalfbgnaaGreatBunTB
import Derived.Test.YtnapbdoalfbgnaaGreatBunAE
import Derived.Deep.RegionWith
set_option linter.unusedVariables false
set_option linter.unusedSimpArgs false
set_option maxRecDepth 100000
set_option maxHeartbeats 4000000
namespace Go.Proofs.YtnapbdoalfbgnaaGreat
open Go.RowKit Go.Shelf Fld
def edE (B : Int) (D : Bool) : Int := if B = 0 then (if D = true then 0 else 6) else B
theorem edE_zero {B : Int} {D : Bool} (h : edE B D = 0) : edE B false = 6 := by
 unfold edE at h ⊢
 by_cases q : B = 0
 · rw [if_pos q]; rfl
 · rw [if_neg q] at h; exact absurd h q
theorem edE_some {B : Int} {D : Bool} (h : edE B D ≠ 0) : edE B false = edE B D := by
 by_cases q : B = 0
 · subst q
   cases D
   · rfl
   · exact absurd rfl h
 · unfold edE
   rw [if_neg q, if_neg q]
theorem bad_four (f : Int) (xs : List Int) : bad f xs [] xs.length = 0 ∨ bad f xs [] xs.length = 2 ∨ bad f xs [] xs.length = 4 ∨ bad f xs [] xs.length = 6 := by
 unfold bad
 rw [if_pos rfl]
 split
 · split
   · exact .inr (.inr (.inl rfl))
   · split
     · exact .inl rfl
     · exact .inr (.inr (.inr rfl))
 · exact .inr (.inl rfl)
theorem lcF_out {f : Int} {xs at' : List Int} (h : at'.any (outB xs.length) = true) : lcF f xs at' = 2 := by
 unfold lcF
 rw [nmE_out h]
 rcases bad_four f xs with e | e | e | e <;> rw [e] <;> decide
theorem lcF_in {f : Int} {xs at' : List Int} (h : at'.any (outB xs.length) = false) : lcF f xs at' = edE (bad f xs [] xs.length) (decide at'.Nodup) := by
 unfold lcF
 rw [nmE_in h]
 by_cases q : at'.Nodup
 · rw [if_pos q, decide_eq_true q]
   rcases bad_four f xs with e | e | e | e <;> rw [e] <;> decide
 · rw [if_neg q, decide_eq_false q]
   rcases bad_four f xs with e | e | e | e <;> rw [e] <;> decide
theorem nd_snoc (l : List Int) (x : Int) : decide (l ++ [x]).Nodup = (decide l.Nodup && decide (x ∉ l)) := by
 by_cases a : l.Nodup <;> by_cases b : x ∈ l <;> simp [List.nodup_append, a, b]
 intro y hy e
 exact b (e ▸ hy)
theorem ni_snoc (l : List Int) (x y : Int) : decide (x ∉ l ++ [y]) = (decide (x ∉ l) && decide (x ≠ y)) := by
 by_cases a : x ∈ l <;> by_cases b : x = y <;> simp [a, b]
theorem take_snoc (l : List Int) {i : Nat} (h : i < l.length) : l.take (i + 1) = l.take i ++ [co l i] := by
 rw [List.take_add_one, List.getElem?_eq_getElem h, co_at h]; rfl
theorem appVB (W : World) (base : Nat) (u : Value) (l : List Int) (x : Int) (hO : W.ownsRow base 42 1 u l.length (vals l)) (hl : (l.length + 1) * 8 ≤ 140737488355328) (hb : base ≤ W.heap.size) :
 ∃ (au' : Option Addr) (cu' : Nat) (W' : World), (Builtin.append_ #[22, 22] 22 #[u, .slice (some ⟨W.heap.size, 0, none⟩) 1 1]).run Tryz.prog (W.alloc (.cells #[.int .u64 x] 42)) = .ok (.slice au' (l.length + 1) cu') W' ∧ W'.ownsRow base 42 1 (.slice au' (l.length + 1) cu') (l.length + 1) (vals (l ++ [x])) ∧ Below base W W' := by
 obtain ⟨i0, hi0, hz0, hz1, hz2⟩ := info_parts u64_info
 have hab := alloc_below W (.cells #[.int .u64 x] 42)
 have hO2 := own_below hO hab
 obtain ⟨v', W', hr, ho, hg, _, _⟩ := run_append_own_at (P := Tryz.prog) (w := W.alloc (.cells #[.int .u64 x] 42)) base 22 22 42 i0 (.int .u64 0) 1 8 Tryz.underlying22 hi0 hz0 hz1 hz2 rfl (by decide) u l.length (vals l) hO2 ⟨W.heap.size, 0, none⟩ 1 1 [.int .u64 x] rfl (cell_one_new _ _ _) (by simp [Value.oneCell']) (by unfold maxLen; omega) (by omega) (Nat.le_trans hb hab.size)
 obtain ⟨au', cu', rfl⟩ := own_form ho
 refine ⟨au', cu', W', hr, ?_, ((Below.refl base W).trans (hab.mono hb)).trans ((Below.refl base _).grown hg (Nat.le_trans hb hab.size) (fun k hk => own_base hO2 k hk))⟩
 rw [show vals (l ++ [x]) = vals l ++ [.int .u64 x] by simp [vals]]
 exact ho
theorem dLocator (f : Int) (v1 : Value) (ao : Option Addr) (c : Nat) (xs at' : List Int) (w : World) (h1 : Rw w v1 xs) (h2 : Lm iw 1 w (.slice ao at'.length c) at') (hi : Iw at') (hb8 : at'.length * 8 ≤ 140737488351232) :
 Gives 5 #[.int .u8 f, v1, .slice ao at'.length c] w (lcL f xs at') (lcE f xs at') := by
 unfold Gives
 have HB := hide (dBad f v1 _ xs [] xs.length w h1 (rw0 w) h1.len)
 have hl1 := h1.len
 have HX := hide (fun W (hb : Below w.heap.size w W) => h1.below hb)
 have HA := hide (fun h0 => lm_ints h2 h0)
 have HZ := hide (fun W v (hr : Rw W v (rts xs at')) => dZero_any f v (rts xs at') W hr)
 unfold Gives at HZ
 have HWr := hide (rts_wd (at' := at') h1.words)
 have HOut : Hid (at'.any (outB xs.length) = true → lcE f xs at' = 2 ∧ lcL f xs at' = []) := fun h => by
  unfold lcE lcL
  rw [lcF_out h]; exact ⟨rfl, rfl⟩
 have HEr : Hid (at'.any (outB xs.length) = false → edE (bad f xs [] xs.length) (decide at'.Nodup) ≠ 0 → lcE f xs at' = edE (bad f xs [] xs.length) (decide at'.Nodup) ∧ lcL f xs at' = []) := fun h hz => by
  unfold lcE lcL
  rw [lcF_in h, if_neg hz, if_neg hz]; exact ⟨rfl, rfl⟩
 have HOk : Hid (at'.any (outB xs.length) = false → edE (bad f xs [] xs.length) (decide at'.Nodup) = 0 → lcE f xs at' = chk f [rts xs at'] ∧ lcL f xs at' = zeroL f (rts xs at')) := fun h hz => by
  unfold lcE lcL
  rw [lcF_in h, if_pos hz, if_pos hz]; exact ⟨rfl, rfl⟩
 have HRl := hide (rts_len xs at')
 have HRc : Hid (∀ i, i < at'.length → (rts xs at').take (i + 1) = (rts xs at').take i ++ [co xs (co at' i).toNat]) := fun i hi => by
  have hl : i < (rts xs at').length := by rw [rts_len]; exact hi
  rw [take_snoc _ hl]
  congr 2
  rw [co_at hl, co_at hi]
  simp [rts]
 obtain ⟨a1, c1, rfl, _⟩ := h1.spell
 have HI : Hid (∀ i, i < at'.length → -9223372036854775808 ≤ co at' i ∧ co at' i ≤ 9223372036854775807) := fun i h => by
  rw [co_at h]; exact hi _ (List.getElem_mem h)
 clear h1 h2 hi
 generalize bad f xs [] xs.length = B at *
 obtain ⟨N, HN⟩ : ∃ N, Hid (at'.length = N) := ⟨_, rfl⟩
 obtain ⟨n, Hn⟩ : ∃ n, Hid (xs.length = n) := ⟨_, rfl⟩
 rw [HN.out] at HA HRl HRc HI hb8 ⊢
 rw [Hn.out] at HB HX HOut HEr HOk hl1 ⊢
 have HAc : Hid (0 < N → ∃ b off, ao = some ⟨b, off, none⟩ ∧ b < w.heap.size ∧ ∀ W, Below w.heap.size w W → ∀ i, i < N → W.cell? ⟨b, off + i, none⟩ = some (.int .i64 (co at' i))) := fun h0 => by
  obtain ⟨b, off, e, hb, hcc⟩ := HA.out h0
  exact ⟨b, off, e, hb, fun W hB i hi => (hB.cell (p := ⟨b, off + i, none⟩) hb).trans (hcc i hi)⟩
 clear HA
 generalize rts xs at' = RS at *
 generalize lcE f xs at' = LE at *
 generalize lcL f xs at' = LL at *
 go_enter Tryz.func5, Tryz.ntmps5
 go_wp2_with (go_at_call 14; refine HB.out.mono ?_; rintro e w1 ⟨rfl, hb1⟩)
 clear HB
 go_loopw [8, 9, 10] (fun v8 v9 v10 wr => ∃ (i : Nat) (a : Option Addr) (c' : Nat), v10 = .int .i64 i ∧ i ≤ N ∧ v9 = .slice a i c' ∧ v8 = .int .i64 (edE B (decide (at'.take i).Nodup)) ∧ Hid (∀ j, j < i → outB n (co at' j) = false) ∧ Hid (wr.ownsRow w1.heap.size 42 1 (.slice a i c') i (vals (RS.take i))) ∧ Below w1.heap.size w1 wr) (fun _ _ v10 _ => N - (intOf v10).toNat)
 case atStart => exact ⟨0, none, 0, rfl, Nat.zero_le _, rfl, by unfold edE; by_cases q : B = 0 <;> simp [q], (fun j h => by omega), World.ownsRow_nil _ _ _ _, Below.refl _ _⟩
 case round =>
  obtain ⟨i, a, c', rfl, hiN, rfl, rfl, HNo, HO, hB⟩ := hrel
  have hBw := Below.next hb1 hB
  by_cases hiN2 : i < N
  · obtain ⟨b, off, rfl, hb0, hcc⟩ := HAc.out (by omega)
    have k1 := hcc wr hBw i hiN2
    have HCC := hide hcc
    obtain ⟨x0, x1⟩ := HI.out i hiN2
    have HRi := hide (HRc.out i hiN2)
    have i0 : (0 : Int) ≤ (i : Int) := Int.natCast_nonneg _
    have i1 : (i : Int) < (N : Int) := by omega
    cases hq : outB n (co at' i) with
    | true =>
     have hany : at'.any (outB n) = true := List.any_eq_true.2 ⟨_, List.getElem_mem (by rw [HN.out]; exact hiN2), by rw [← co_at (by rw [HN.out]; exact hiN2)]; exact hq⟩
     obtain ⟨rfl, rfl⟩ := HOut.out hany
     unfold outB at hq
     have hq2 := of_decide_eq_true hq
     clear hq hany HOut HEr HOk HZ HRi HRc HNo HO HCC hcc
     generalize co at' i = x at *
     generalize edE B (decide (at'.take i).Nodup) = E at *
     by_cases hx : x < 0
     · go_wp2_with fail
       go_ret2
       exact ⟨.slice none 0 0, rfl, World.ownsRow_nil _ _ _ _, hBw⟩
     · have hx2 : (n : Int) ≤ x := by omega
       go_wp2_with fail
       go_ret2
       exact ⟨.slice none 0 0, rfl, World.ownsRow_nil _ _ _ _, hBw⟩
    | false =>
     have HNo2 : Hid (∀ j, j < i + 1 → outB n (co at' j) = false) := fun j hj => by
      rcases Nat.lt_or_eq_of_le (Nat.le_of_lt_succ hj) with h | h
      · exact HNo.out j h
      · rw [h]; exact hq
     unfold outB at hq
     have hq2 := of_decide_eq_false hq
     have hx0 : ¬ co at' i < 0 := by omega
     have hx1 : ¬ (n : Int) ≤ co at' i := by omega
     obtain ⟨q, hqn, hqx⟩ : ∃ q : Nat, q < n ∧ co at' i = (q : Int) := ⟨(co at' i).toNat, by omega, by omega⟩
     have HTk : Hid (at'.take (i + 1) = at'.take i ++ [(q : Int)]) := by show _ = _; rw [take_snoc at' (by rw [HN.out]; exact hiN2), hqx]
     have HNd := hide (nd_snoc (at'.take i) (q : Int))
     rw [← HTk.out] at HNd
     rw [hqx] at k1 x0 x1 hx0 hx1 HRi
     rw [Int.toNat_natCast] at HRi
     obtain ⟨bx, ox, rfl, hcx⟩ := (HX.out wr hBw).cellAt (by rw [Hn.out]; omega)
     have k2 := hcx wr (Below.refl _ _) q (by rw [Hn.out]; exact hqn)
     obtain ⟨Dx, HDx⟩ : ∃ D : Bool, Hid (decide (at'.take i).Nodup = D) := ⟨_, rfl⟩
     rw [HDx.out] at HNd ⊢
     have hll : (RS.take i).length = i := by rw [List.length_take, HRl.out]; omega
     obtain ⟨au, cu, W5, hr5, ho5, hb5⟩ := appVB wr w1.heap.size (.slice a i c') (RS.take i) (co xs q) (by rw [hll]; exact HO.out) (by rw [hll]; omega) hB.size
     rw [hll, ] at hr5 ho5
     rw [← HRi.out] at ho5
     have HO5 := hide ho5
     have hB5 := hB.trans hb5
     have HQx := hide hqx
     clear hq hq2 HNo HO hcc hcx ho5 hb5 HRi HDx hll hqx HOut HEr HOk HZ HRc HTk
     generalize co xs q = xq at *
     go_wp2_with (at_builtin; refine Lib.wpList_append_run _ rfl _ _ _ _ rfl _ _ rfl rfl _ _ hr5 ?_)
     clear k1 k2 hr5
     have hE0 : edE B Dx = edE B (Dx && decide ((q : Int) ∉ at'.take 0)) := by simp
     go_loopw [8, 11] (fun v8 v11 wk => ∃ k : Nat, v11 = .int .i64 k ∧ k ≤ i ∧ v8 = .int .i64 (edE B (Dx && decide ((q : Int) ∉ at'.take k))) ∧ Hid (wk.ownsRow w1.heap.size 42 1 (.slice au (i + 1) cu) (i + 1) (vals (RS.take (i + 1)))) ∧ Below w1.heap.size w1 wk) (fun _ v11 _ => i - (intOf v11).toNat)
     case atStart => exact ⟨0, rfl, Nat.zero_le _, by rw [← hE0], HO5, hB5⟩
     case round =>
      clear HO5 hB5 hE0
      obtain ⟨k, rfl, hki, rfl, HO5, hB5⟩ := hrel
      have hBw5 := Below.next hb1 hB5
      by_cases hk : k < i
      · have k1 := HCC.out wr hBw5 i hiN2
        rw [HQx.out] at k1
        have k3 := HCC.out wr hBw5 k (by omega)
        have HNi := hide (ni_snoc (at'.take k) (q : Int) (co at' k))
        rw [← take_snoc at' (by rw [HN.out]; omega)] at HNi
        have kk0 : (0 : Int) ≤ (k : Int) := Int.natCast_nonneg _
        have kk1 : (k : Int) < (N : Int) := by omega
        have kk2 : (k : Int) < (i : Int) := by omega
        obtain ⟨D, HD⟩ : ∃ D : Bool, Hid ((Dx && decide ((q : Int) ∉ at'.take k)) = D) := ⟨_, rfl⟩
        rw [HD.out]
        obtain ⟨y, Hy⟩ : ∃ y, Hid (co at' k = y) := ⟨_, rfl⟩
        rw [Hy.out] at k3 HNi
        by_cases hxy : (q : Int) = y
        · have HD2 : Hid ((Dx && decide ((q : Int) ∉ at'.take (k + 1))) = false) := by
           show _ = _
           rw [HNi.out, decide_eq_false (p := (q : Int) ≠ y) (fun c => c hxy)]; simp
          have hbq : ((q : Int) == y) = true := beq_iff_eq.2 hxy
          by_cases hE : edE B D = 0
          · have HE6 := hide (edE_zero hE)
            rw [hE]
            clear hE HD HNi
            go_upto_region 12 with fail
            go_quiet (fail)
            go_wp2_with fail
            have hB6 := below_drewN hB5 nq
            have HO6 := hide (own_below HO5.out (below_drewN (Below.refl _ _) nq))
            go_roundw
            case rel => exact ⟨k + 1, by go_num, by omega, by rw [HD2.out, HE6.out], HO6, hB6⟩
            case measure => simp [intOf]; omega
          · have HE6 := hide (edE_some hE)
            generalize edE B D = E at *
            have hEb : (E == 0) = false := beq_eq_false_iff_ne.2 hE
            clear HD HNi
            go_upto_region 12 with fail
            go_quiet (fail)
            go_wp2_with fail
            have hB6 := below_drewN hB5 nq
            have HO6 := hide (own_below HO5.out (below_drewN (Below.refl _ _) nq))
            go_roundw
            case rel => exact ⟨k + 1, by go_num, by omega, by rw [HD2.out, HE6.out], HO6, hB6⟩
            case measure => simp [intOf]; omega
        · have HD2 : Hid ((Dx && decide ((q : Int) ∉ at'.take (k + 1))) = D) := by
           show _ = _
           rw [HNi.out, decide_eq_true (p := (q : Int) ≠ y) hxy, Bool.and_true]; exact HD.out
          have hbq : ((q : Int) == y) = false := beq_eq_false_iff_ne.2 hxy
          clear HD HNi
          obtain ⟨E, HE⟩ : ∃ E, Hid (edE B D = E) := ⟨_, rfl⟩
          rw [HE.out]
          go_upto_region 12 with fail
          go_quiet (fail)
          go_wp2_with fail
          have hB6 := below_drewN hB5 nq
          have HO6 := hide (own_below HO5.out (below_drewN (Below.refl _ _) nq))
          go_roundw
          case rel => exact ⟨k + 1, by go_num, by omega, by rw [HD2.out, HE.out], HO6, hB6⟩
          case measure => simp [intOf]; omega
      · obtain rfl : i = k := by omega
        rw [← HNd.out]
        obtain ⟨E, HE⟩ : ∃ E, Hid (edE B (decide (at'.take (i + 1)).Nodup) = E) := ⟨_, rfl⟩
        rw [HE.out]
        clear HNd
        go_wp2_with fail
        go_roundw
        case rel => exact ⟨i + 1, au, cu, by go_num, by omega, rfl, by rw [HE.out], HNo2, HO5, hB5⟩
        case measure => simp [intOf]; omega
  · obtain rfl : N = i := by omega
    have hall : at'.take N = at' := List.take_of_length_le (Nat.le_of_eq HN.out)
    have hRall : RS.take N = RS := List.take_of_length_le (Nat.le_of_eq HRl.out)
    rw [hall]
    rw [hRall] at HO
    have hany : at'.any (outB n) = false := List.any_eq_false.2 (fun x hx => by
     obtain ⟨j, hj, rfl⟩ := List.mem_iff_getElem.1 hx
     have := HNo.out j (by rw [← HN.out]; exact hj)
     rw [co_at hj] at this
     rw [this]; decide)
    have HEr2 := hide (HEr.out hany)
    have HOk2 := hide (HOk.out hany)
    have hr := rw_of_own HO.out (by rw [HRl.out]; omega) HWr.out
    have HZr := hide (HZ.out wr _ hr)
    clear HNo HO HOut HEr HOk hany hall hRall HZ hr HRc HAc HI
    generalize edE B (decide at'.Nodup) = E at *
    by_cases hE : E = 0
    · obtain ⟨e1, e2⟩ := HOk2.out hE
      rw [← e1, ← e2] at HZr
      subst hE
      clear HEr2 HOk2 e1 e2
      obtain ⟨zl, Hzl⟩ : ∃ zl, Hid (LL.length = zl) := ⟨_, rfl⟩
      rw [Hzl.out] at HZr
      go_wp2_with (go_at_call 15; refine HZr.out.mono ?_; rintro e w6 ⟨v6, rfl, hO6, hb6⟩; obtain ⟨a6, c6, rfl⟩ := own_form hO6; have HO6 := hide hO6; clear hO6)
      go_ret2
      exact ⟨_, rfl, by rw [Hzl.out]; exact own_mono HO6.out hBw.size, Below.next hBw hb6⟩
    · obtain ⟨rfl, rfl⟩ := HEr2.out hE
      have hE2 : (LE != 0) = true := bne_iff_ne.2 hE
      clear HEr2 HOk2 HZr
      go_wp2_with fail
      go_ret2
      exact ⟨.slice none 0 0, rfl, World.ownsRow_nil _ _ _ _, hBw⟩
end Go.Proofs.YtnapbdoalfbgnaaGreat
