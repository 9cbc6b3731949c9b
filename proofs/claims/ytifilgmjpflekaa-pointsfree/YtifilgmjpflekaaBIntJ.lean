/-
  Layer 7: the document's Weights and Basis.
-/
import Derived.Test.YtifilgmjpflekaaBIntI
import Derived.Test.YtifilgmjpflekaaBRefE
namespace Go.Proofs.Ytifilgmjpflekaa
open Go.RowKit Fld
set_option linter.unusedVariables false

theorem dp_bt_step {p x : Int} {wd : Bool} (hm : Md p wd) {xs : List Int} {i k : Nat} (hk : k < xs.length) (h : k ≠ i) : mul p (dp p x (bt xs i k)) (sub p x (co xs k)) = dp p x (bt xs i (k + 1)) := by
  rw [bt_step hk h, dp_snoc hm]
theorem dp_bt_self {p x : Int} {xs : List Int} {i : Nat} (hi : i < xs.length) : dp p x (bt xs i (i + 1)) = dp p x (bt xs i i) := by rw [bt_self hi]

set_option maxRecDepth 100000 in
set_option maxHeartbeats 1000000 in
theorem dWeights (f : Int) (v : Value) (xs : List Int) (w : World) (h1 : Rw w v xs) : Gives 60 #[.int .u8 f, v] w (wtsL f xs) (bad f xs [] xs.length) := by
  have HP := hide (dBad f v _ xs [] xs.length w h1 (rw0 w) h1.len)
  by_cases hz : bad f xs [] xs.length = 0
  · obtain ⟨p, wd, h, i1, _, _, hl, hn⟩ := bad_zero hz
    obtain ⟨i0, hi0, hz0, hz1, hz2⟩ := info_parts u64_info
    have hex := els_of i1 h1.words
    have hp0 := h.pos
    have htop := h.top
    have hb := h.md.bounds
    have HL : Hid (wtsL f xs = wts p xs) := by show _ = _; unfold wtsL; rw [if_pos hz, pOf_eq h]
    rw [HL.out, hz]
    rw [hz] at HP
    have HPp := hide (fun W => rP_yes f p wd W h)
    have HLe := hide (fun W a b (ha : El p a) (hb : El p b) => rLess_any p a b W htop ha hb)
    have HTi := hide (fun W a b (ha : El p a) (hb : El p b) => rTimes_any p a b W htop ha (elWord hb htop).1 (elWord hb htop).2)
    have HTu := hide (fun W a (ha : El p a) => rTurned_any p a W htop hb.1 ha)
    have HDe := hide (fun x zs => dp_el hp0 x zs)
    have HSt := hide (fun x i k (hk : k < xs.length) (hne : k ≠ i) => dp_bt_step (x := x) h.md hk hne)
    have HSf := hide (fun x i (hi : i < xs.length) => dp_bt_self (p := p) (x := x) hi)
    have HS0 : Hid (∀ x i, dp p x (bt xs i 0) = 1) := fun x i => by rw [bt_zero]; exact dp_nil h.md x
    have HSe : Hid (∀ x i, dp p x (bt xs i xs.length) = dp p x (xs.eraseIdx i)) := fun x i => by rw [bt_all]
    have HXe := hide (fun k => hex.co hp0 k)
    have HN0 := hide (wts_len p xs)
    obtain ⟨⟨ao, cap, rfl, _, _, hc⟩, _⟩ := h1
    obtain ⟨n, HN⟩ : ∃ n, Hid (xs.length = n) := ⟨_, rfl⟩
    have HCx : Hid (∀ W, Below w.heap.size w W → ∀ i j, i < n → j < n → ∃ b off, ao = some ⟨b, off, none⟩ ∧ W.cell? ⟨b, off + i, none⟩ = some (.int .u64 (xs.getD i 0)) ∧ W.cell? ⟨b, off + j, none⟩ = some (.int .u64 (xs.getD j 0))) := fun W hb i j hi hj => by
      obtain ⟨b, off, e, h3, h4⟩ := hc (by intro e; have := HN.out; rw [e] at this; simp at this; omega)
      exact ⟨b, off, e, (hb.cell (p := ⟨b, off + i, none⟩) h3).trans (h4 i (by rw [HN.out]; exact hi)), (hb.cell (p := ⟨b, off + j, none⟩) h3).trans (h4 j (by rw [HN.out]; exact hj))⟩
    show Calls _ _ _ _ _
    rw [HN0.out]
    unfold wts
    rw [HN.out] at HP HSt HSf HSe hl ⊢
    clear h i1 hn hz hex HL hc hb HN0
    go_enter Try.func60, Try.ntmps60
    go_wp2_with (first
      | (go_at_call 46; refine HP.out.mono ?_; rintro e w1 ⟨rfl, hb1⟩)
      | (go_at_call 36; refine (HPp.out _).mono ?_; rintro e w2 ⟨rfl, hw2⟩; rw [hw2]; clear hw2))
    clear HP HPp
    go_loopw [8, 9] (fun vo vi wr => ∃ i : Nat, i ≤ n ∧ vi = .int .i64 i ∧ Hid (wr.ownsRow w.heap.size 25 1 vo i (vals (mk i (wt p xs)))) ∧ Below w.heap.size w wr) (fun _ vi _ => n - (intOf vi).toNat)
    case atStart => exact ⟨0, Nat.zero_le _, rfl, World.ownsRow_nil _ _ _ _, hb1⟩
    case round =>
      clear hb1
      obtain ⟨i, hi, rfl, HO, hB⟩ := hrel
      by_cases hlt : i < n
      · go_wp2
        go_loopw [10, 11] (fun va vk wr => ∃ k : Nat, k ≤ n ∧ vk = .int .i64 k ∧ va = .int .u64 (dp p (co xs i) (bt xs i k)) ∧ Hid (wr.ownsRow w.heap.size 25 1 u8 i (vals (mk i (wt p xs)))) ∧ Below w.heap.size w wr) (fun _ vk _ => n - (intOf vk).toNat)
        case atStart => exact ⟨0, Nat.zero_le _, rfl, by rw [HS0.out], HO, hB⟩
        case round =>
          clear HO hB
          obtain ⟨k, hk, rfl, rfl, HO, hB⟩ := hrel
          by_cases hkn : k < n
          · by_cases hki : k = i
            · subst hki
              have HE := hide (HSf.out (co xs k) k hkn)
              have hne : ((k : Int) != (k : Int)) = false := by simp
              generalize dp p (co xs k) (bt xs k k) = d1 at *
              go_wp2
              go_roundw
              case rel => exact ⟨k + 1, by omega, by go_num, by rw [HE.out], HO, hB⟩
              case measure => simp [intOf]; omega
            · have HE : Hid (mul p (dp p (co xs i) (bt xs i k)) (sub p (xs.getD i 0) (xs.getD k 0)) = dp p (co xs i) (bt xs i (k + 1))) := HSt.out (co xs i) i k hkn hki
              obtain ⟨b, off, rfl, c1, c2⟩ := HCx.out wr hB i k hlt hkn
              have hne : ((k : Int) != (i : Int)) = true := bne_iff_ne.2 (by omega)
              have e1 : El p (xs.getD i 0) := HXe.out i
              have e2 : El p (xs.getD k 0) := HXe.out k
              have k1 := hide (fun W => HLe.out W _ _ e1 e2)
              have k2 := hide (fun W => HTi.out W _ _ (HDe.out (co xs i) (bt xs i k)) (sub_el (a := xs.getD i 0) (b := xs.getD k 0) hp0))
              rw [HE.out] at k2
              obtain ⟨d2, HD2⟩ : ∃ d2, Hid (dp p (co xs i) (bt xs i (k + 1)) = d2) := ⟨_, rfl⟩
              rw [HD2.out] at k2
              clear HE e1 e2 hki
              generalize sub p (xs.getD i 0) (xs.getD k 0) = sb at *
              generalize dp p (co xs i) (bt xs i k) = d1 at *
              generalize xs.getD i 0 = xi at *
              generalize xs.getD k 0 = xk at *
              go_wp2_with fail
              go_quiet (first
                | (go_at_call 39; exact Calls.quiet_of_same (k1.out _))
                | (go_at_call 38; exact Calls.quiet_of_same (k2.out _)))
              go_wp2
              have HO2 := hide (own_drewN HO.out nq)
              go_roundw
              case rel => exact ⟨k + 1, by omega, by go_num, by rw [HD2.out], HO2, below_drewN hB nq⟩
              case measure => simp [intOf]; omega
          · obtain rfl : k = n := by omega
            rw [HSe.out]
            have hT := hide (fun W => HTu.out W _ (HDe.out (co xs i) (xs.eraseIdx i)))
            have HS := hide (mk_snoc i (wt p xs))
            have HE : Hid (inv p (dp p (co xs i) (xs.eraseIdx i)) = wt p xs i) := rfl
            rw [HE.out] at hT
            generalize dp p (co xs i) (xs.eraseIdx i) = d1 at *
            generalize wt p xs i = y at *
            have hown2 := HO.out
            have hB2 := hB
            have hsz2 := hB2.size
            clear HE HO hB
            go_wp2_with (first
              | (go_at_call 37; refine (hT.out _).mono ?_; rintro e w2 ⟨rfl, hw2⟩; rw [hw2]; clear hw2)
              | (at_builtin; refine wpList_append_lies _ rfl _ _ _ rfl w.heap.size 25 i0 _ 1 8 Try.underlying26 hi0 hz0 hz1 hz2 rfl (by omega) u8 i _ rfl (hown2.alloc _) ⟨wr.heap.size, 0, none⟩ 1 1 [.int .u64 y] rfl rfl (World.news_of_block (cs := #[.int .u64 y]) (t := 25) (fr := (0, 0)) (heap_alloc_new wr _)) (by simp [Value.oneCell']) (by omega) (by unfold maxLen; omega) (by omega) (by simp; omega) (wr.heap.size + 1) (by simp) ?_; intro gg cap2 w3 hown3 hgrow hat hltg))
            have R := hide (push_step hB2 hown2 hown3 hgrow HS.out)
            clear hown3 hgrow hat hltg hown2
            go_roundw
            case rel => exact ⟨i + 1, by omega, by go_num, R.out.1, R.out.2⟩
            case measure => simp [intOf]; omega
      · obtain rfl : i = n := by omega
        go_wp2
        go_ret2
        exact ⟨_, rfl, HO.out, hB⟩
  · have ht : (bad f xs [] xs.length != 0) = true := bne_iff_ne.2 hz
    have HL : Hid (wtsL f xs = []) := by show _ = _; unfold wtsL; rw [if_neg hz]
    rw [HL.out]
    obtain ⟨a1, c1, rfl, _⟩ := h1.spell
    clear h1 hz HL
    generalize bad f xs [] xs.length = e0 at *
    generalize xs.length = n at *
    apply Gives.none
    go_enter Try.func60, Try.ntmps60
    go_wp2_with (go_at_call 46; refine HP.out.mono ?_; rintro e w1 ⟨rfl, hb1⟩)
    go_ret2
    exact ⟨rfl, hb1⟩

set_option maxRecDepth 100000 in
set_option maxHeartbeats 1000000 in
theorem dBasis (f x : Int) (v : Value) (xs : List Int) (w : World) (hx : 0 ≤ x ∧ x ≤ 18446744073709551615) (h1 : Rw w v xs) : Gives 47 #[.int .u8 f, v, .int .u64 x] w (basL f xs x) (bad f xs [x] xs.length) := by
  have al := hide (fun T => alloc_below w (.cells #[.int .u64 x] T))
  have HP := hide (fun T => dBad f v _ xs [x] xs.length _ (h1.below (al.out T)) (rw1 w x hx T) h1.len)
  by_cases hz : bad f xs [x] xs.length = 0
  · obtain ⟨p, wd, h, i1, i2, _, hl, hn⟩ := bad_zero hz
    obtain ⟨i0, hi0, hz0, hz1, hz2⟩ := info_parts u64_info
    have hex := els_of i1 h1.words
    have hxe : El p x := els_of i2 (by simp [hx]) x (List.mem_singleton.2 rfl)
    have hp0 := h.pos
    have htop := h.top
    have HL : Hid (basL f xs x = bsl p xs x) := by show _ = _; unfold basL; rw [if_pos hz, pOf_eq h]
    have hzw : bad f xs [] xs.length = 0 := by
      have e1 : inF f xs = true := by rw [inF_yes h]; exact i1
      rw [bad_end e1 (inF_nil e1) rfl (by omega), if_pos hn]
    have HW := hide (fun W (hb : Below w.heap.size w W) => dWeights f v xs W (h1.below hb))
    have e3 : wtsL f xs = wts p xs := by unfold wtsL; rw [if_pos hzw, pOf_eq h]
    unfold Gives at HW
    rw [e3, hzw, wts_len] at HW
    rw [HL.out, hz]
    rw [hz] at HP
    have HPp := hide (fun W => rP_yes f p wd W h)
    have HLe := hide (fun W b (hb : El p b) => rLess_any p x b W htop hxe hb)
    have HTi := hide (fun W a b (ha : El p a) (hb : El p b) => rTimes_any p a b W htop ha (elWord hb htop).1 (elWord hb htop).2)
    have HSt : Hid (∀ i k, k < xs.length → k ≠ i → mul p (mul p (wt p xs i) (dp p x (bt xs i k))) (sub p x (xs.getD k 0)) = mul p (wt p xs i) (dp p x (bt xs i (k + 1)))) := fun i k hk hne => by
      rw [ring_assoc]
      congr 1
      exact dp_bt_step (x := x) h.md hk hne
    have HSf : Hid (∀ i, i < xs.length → mul p (wt p xs i) (dp p x (bt xs i (i + 1))) = mul p (wt p xs i) (dp p x (bt xs i i))) := fun i hi => by rw [dp_bt_self hi]
    have HS0 : Hid (∀ i, i < xs.length → mul p (wt p xs i) (dp p x (bt xs i 0)) = (wts p xs).getD i 0) := fun i hi => by
      rw [bt_zero, dp_nil h.md, mul_one_el (wt_el hp0 xs i)]
      exact (wts_at hi).symm
    have HSe : Hid (∀ i, mul p (wt p xs i) (dp p x (bt xs i xs.length)) = bs p xs x i) := fun i => by rw [bt_all]; rfl
    have HXe := hide (fun k => hex.co hp0 k)
    have HN0 := hide (bsl_len p xs x)
    have HWl := hide (wts_len p xs)
    obtain ⟨⟨ao, cap, rfl, _, _, hc⟩, _⟩ := h1
    obtain ⟨n, HN⟩ : ∃ n, Hid (xs.length = n) := ⟨_, rfl⟩
    have HCx : Hid (∀ W, Below w.heap.size w W → ∀ j, j < n → ∃ b off, ao = some ⟨b, off, none⟩ ∧ W.cell? ⟨b, off + j, none⟩ = some (.int .u64 (xs.getD j 0))) := fun W hb j hj => by
      obtain ⟨b, off, e, h3, h4⟩ := hc (by intro e; have := HN.out; rw [e] at this; simp at this; omega)
      exact ⟨b, off, e, (hb.cell (p := ⟨b, off + j, none⟩) h3).trans (h4 j (by rw [HN.out]; exact hj))⟩
    show Calls _ _ _ _ _
    rw [HN0.out]
    unfold bsl
    rw [HN.out] at HP HW HSt HSf HS0 HSe hl ⊢
    clear h i1 i2 hn hz hzw hex hxe HL hc HN0 e3
    go_enter Try.func47, Try.ntmps47
    go_wp2_with (first
      | (go_at_call 46; refine (HP.out _).mono ?_; rintro e w1 ⟨rfl, hb1⟩; have hB1 := Below.next (al.out _) hb1)
      | (go_at_call 36; refine (HPp.out _).mono ?_; rintro e w2 ⟨rfl, hw2⟩; rw [hw2]; clear hw2)
      | (go_at_call 60; refine (HW.out _ hB1).mono ?_; rintro e w3 ⟨v3, rfl, hO3, hb3⟩; have hB3 := Below.next hB1 hb3; obtain ⟨a3, k3, rfl⟩ := own_form hO3; have HO3 := hide hO3; clear hO3))
    clear HP HPp HW al
    have hs3 := hB3.size
    go_loopw [12, 13] (fun vo vi wr => ∃ i : Nat, i ≤ n ∧ vi = .int .i64 i ∧ Hid (wr.ownsRow w3.heap.size 25 1 vo i (vals (mk i (bs p xs x)))) ∧ Below w3.heap.size w3 wr) (fun _ vi _ => n - (intOf vi).toNat)
    case atStart => exact ⟨0, Nat.zero_le _, rfl, World.ownsRow_nil _ _ _ _, Below.refl _ _⟩
    case round =>
      obtain ⟨i, hi, rfl, HO, hB⟩ := hrel
      by_cases hlt : i < n
      · obtain ⟨g, cg, hvg, _, _⟩ := HO3.out.form (by omega)
        injection hvg with hvg _ hcg
        subst hvg hcg
        have hcw : wr.cell? ⟨g, i, none⟩ = some (.int .u64 ((wts p xs).getD i 0)) := own_cell (own_below HO3.out hB) (by rw [HWl.out, HN.out]) hlt
        rw [← HS0.out i hlt] at hcw
        obtain ⟨d0, HD0⟩ : ∃ d0, Hid (mul p (wt p xs i) (dp p x (bt xs i 0)) = d0) := ⟨_, rfl⟩
        rw [HD0.out] at hcw
        go_wp2
        go_loopw [14, 15] (fun va vk wr => ∃ k : Nat, k ≤ n ∧ vk = .int .i64 k ∧ va = .int .u64 (mul p (wt p xs i) (dp p x (bt xs i k))) ∧ Hid (wr.ownsRow w3.heap.size 25 1 u12 i (vals (mk i (bs p xs x)))) ∧ Below w3.heap.size w3 wr) (fun _ vk _ => n - (intOf vk).toNat)
        case atStart => exact ⟨0, Nat.zero_le _, rfl, by rw [HD0.out], HO, hB⟩
        case round =>
          clear HO hB hcw
          obtain ⟨k, hk, rfl, rfl, HO, hB⟩ := hrel
          by_cases hkn : k < n
          · by_cases hki : k = i
            · subst hki
              have HE := hide (HSf.out k hkn)
              have hne : ((k : Int) != (k : Int)) = false := by simp
              generalize mul p (wt p xs k) (dp p x (bt xs k k)) = d1 at *
              go_wp2
              go_roundw
              case rel => exact ⟨k + 1, by omega, by go_num, by rw [HE.out], HO, hB⟩
              case measure => simp [intOf]; omega
            · have HE := hide (HSt.out i k hkn hki)
              obtain ⟨b, off, rfl, c1⟩ := HCx.out wr (Below.next hB3 hB) k hkn
              have hne : ((k : Int) != (i : Int)) = true := bne_iff_ne.2 (by omega)
              have e2 : El p (xs.getD k 0) := HXe.out k
              have k1 := hide (fun W => HLe.out W _ e2)
              have k2 := hide (fun W => HTi.out W _ _ (mul_el (a := wt p xs i) (b := dp p x (bt xs i k)) hp0) (sub_el (a := x) (b := xs.getD k 0) hp0))
              rw [HE.out] at k2
              obtain ⟨d2, HD2⟩ : ∃ d2, Hid (mul p (wt p xs i) (dp p x (bt xs i (k + 1))) = d2) := ⟨_, rfl⟩
              rw [HD2.out] at k2
              clear HE e2 hki
              generalize sub p x (xs.getD k 0) = sb at *
              generalize mul p (wt p xs i) (dp p x (bt xs i k)) = d1 at *
              generalize xs.getD k 0 = xk at *
              go_wp2_with (first
                | (go_at_call 39; refine (k1.out _).mono ?_; rintro e w5 ⟨rfl, hw5⟩; rw [hw5]; clear hw5)
                | (go_at_call 38; refine (k2.out _).mono ?_; rintro e w6 ⟨rfl, hw6⟩; rw [hw6]; clear hw6))
              go_roundw
              case rel => exact ⟨k + 1, by omega, by go_num, by rw [HD2.out], HO, hB⟩
              case measure => simp [intOf]; omega
          · obtain rfl : k = n := by omega
            rw [HSe.out]
            have HS := hide (mk_snoc i (bs p xs x))
            generalize bs p xs x i = y at *
            have hown2 := HO.out
            have hB2 := hB
            have hsz2 := hB2.size
            clear HO hB
            go_wp2_with (at_builtin; refine wpList_append_lies _ rfl _ _ _ rfl w3.heap.size 25 i0 _ 1 8 Try.underlying26 hi0 hz0 hz1 hz2 rfl (by omega) u12 i _ rfl (hown2.alloc _) ⟨wr.heap.size, 0, none⟩ 1 1 [.int .u64 y] rfl rfl (World.news_of_block (cs := #[.int .u64 y]) (t := 25) (fr := (0, 0)) (heap_alloc_new wr _)) (by simp [Value.oneCell']) (by omega) (by unfold maxLen; omega) (by omega) (by simp; omega) (wr.heap.size + 1) (by simp) ?_; intro gg cap2 w4 hown3 hgrow hat hltg)
            have R := hide (push_step hB2 hown2 hown3 hgrow HS.out)
            clear hown3 hgrow hat hltg hown2
            go_roundw
            case rel => exact ⟨i + 1, by omega, by go_num, R.out.1, R.out.2⟩
            case measure => simp [intOf]; omega
      · obtain rfl : i = n := by omega
        go_wp2
        go_ret2
        exact ⟨_, rfl, own_mono HO.out hs3, Below.next hB3 hB⟩
  · have ht : (bad f xs [x] xs.length != 0) = true := bne_iff_ne.2 hz
    have HL : Hid (basL f xs x = []) := by show _ = _; unfold basL; rw [if_neg hz]
    rw [HL.out]
    obtain ⟨a1, c1, rfl, _⟩ := h1.spell
    clear h1 hz HL
    generalize bad f xs [x] xs.length = e0 at *
    generalize xs.length = n at *
    apply Gives.none
    go_enter Try.func47, Try.ntmps47
    go_wp2_with (go_at_call 46; refine (HP.out _).mono ?_; rintro e w1 ⟨rfl, hb1⟩; have hB1 := Below.next (al.out _) hb1)
    go_ret2
    exact ⟨rfl, hB1⟩

end Go.Proofs.Ytifilgmjpflekaa
