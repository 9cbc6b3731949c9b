/-
  Layer 7: InterpChain's walk.
-/
import Derived.Test.YtdonfilofdfpbaaBLawIC
import Derived.Test.YtdonfilofdfpbaaBQLast
namespace Go.Proofs.Ytdonfilofdfpbaa
open Go.RowKit Fld
set_option linter.unusedVariables false

/-- The row as it is being summed up: all places have k summands, the first j one more. -/
def rw7 (p : Int) (xs zs : List Int) (t : Int) (N k j : Nat) : List Int := mk N (fun i => ds p (bs p zs t) (fun q => bs p xs (co zs q) i) (if i < j then k + 1 else k))
theorem rw7_len (p : Int) (xs zs : List Int) (t : Int) (N k j : Nat) : (rw7 p xs zs t N k j).length = N := mk_len _ _
theorem rw7_zero (p : Int) (xs zs : List Int) (t : Int) (N : Nat) : rw7 p xs zs t N 0 0 = List.replicate N 0 := by
  apply ext_co
  · rw [rw7_len]; simp
  · intro i hi
    rw [rw7_len] at hi
    unfold rw7
    rw [co_mk, if_pos hi, if_neg (by omega), co_at (by simpa using hi)]
    simp [ds]
theorem rw7_next (p : Int) (xs zs : List Int) (t : Int) (N k : Nat) : rw7 p xs zs t N k N = rw7 p xs zs t N (k + 1) 0 := by
  apply ext_co
  · rw [rw7_len, rw7_len]
  · intro i hi
    rw [rw7_len] at hi
    unfold rw7
    rw [co_mk, co_mk, if_pos hi, if_pos hi, if_pos hi, if_neg (by omega)]
theorem rw7_at (p : Int) (xs zs : List Int) (t : Int) {N k j : Nat} (hj : j < N) : co (rw7 p xs zs t N k j) j = ds p (bs p zs t) (fun q => bs p xs (co zs q) j) k := by
  unfold rw7
  rw [co_mk, if_pos hj, if_neg (by omega)]
theorem rw7_step (p : Int) (xs zs : List Int) (t : Int) {N k j : Nat} (hj : j < N) : (rw7 p xs zs t N k j).set j (add p (ds p (bs p zs t) (fun q => bs p xs (co zs q) j) k) (mul p (bs p zs t k) (bs p xs (co zs k) j))) = rw7 p xs zs t N k (j + 1) := by
  apply ext_co
  · rw [List.length_set, rw7_len, rw7_len]
  · intro i hi
    rw [List.length_set, rw7_len] at hi
    rw [co_set _ _ _ _ (by rw [rw7_len]; exact hj)]
    unfold rw7
    rw [co_mk, co_mk, if_pos hi, if_pos hi]
    by_cases h : i = j
    · subst h; rw [if_pos rfl, if_pos (by omega)]; rfl
    · rw [if_neg h]
      by_cases h2 : i < j
      · rw [if_pos h2, if_pos (by omega)]
      · rw [if_neg h2, if_neg (by omega)]
theorem rw7_end {p : Int} {wd : Bool} (hm : Md p wd) {xs zs : List Int} (hz : Els p zs) (hn : zs.Nodup) (hl : zs.length = xs.length) (t : Int) : rw7 p xs zs t xs.length zs.length 0 = bsl p xs t := by
  apply ext_co
  · rw [rw7_len, bsl_len]
  · intro i hi
    rw [rw7_len] at hi
    unfold rw7
    rw [co_mk, if_pos hi, if_neg (by omega), bsl_at hi]
    exact bs_chain hm hz hn hl t i hi
theorem rw7_els {p : Int} (hp : 0 < p) (xs zs : List Int) (t : Int) (N k j : Nat) : Els p (rw7 p xs zs t N k j) := Els.mk _ (fun i _ => ds_el hp _ _ _)
/-- One element of lists of lists in memory. -/
theorem Rws.two {w : World} {v : Value} {xss : List (List Int)} (h : Rws w v xss) {i j : Nat} (hi : i < xss.length) (hj : j < (xss.getD i []).length) : ∃ b off cap g o c, v = .slice (some ⟨b, off, none⟩) xss.length cap ∧ w.cell? ⟨b, off + i, none⟩ = some (.slice (some ⟨g, o, none⟩) (xss.getD i []).length c) ∧ w.cell? ⟨g, o + j, none⟩ = some (.int .u64 ((xss.getD i []).getD j 0)) := by
  obtain ⟨ao, cap, rfl, _, _, hc⟩ := h
  obtain ⟨b, off, rfl, _, hc2⟩ := hc (by intro e; rw [e] at hi; simp at hi)
  obtain ⟨u, hu, hr⟩ := hc2 i hi
  obtain ⟨⟨a, c, rfl, _, _, hc3⟩, _⟩ := hr
  obtain ⟨g, o, rfl, _, hc4⟩ := hc3 (by intro e; rw [e] at hj; simp at hj)
  exact ⟨b, off, cap, g, o, c, rfl, hu, hc4 j hj⟩
theorem Rws.at {w : World} {v : Value} {xss : List (List Int)} (h : Rws w v xss) {i : Nat} (hi : i < xss.length) : ∃ b off cap a c, v = .slice (some ⟨b, off, none⟩) xss.length cap ∧ w.cell? ⟨b, off + i, none⟩ = some (.slice a (xss.getD i []).length c) ∧ Rw w (.slice a (xss.getD i []).length c) (xss.getD i []) := by
  obtain ⟨ao, cap, rfl, _, _, hc⟩ := h
  obtain ⟨b, off, rfl, _, hc2⟩ := hc (by intro e; rw [e] at hi; simp at hi)
  obtain ⟨u, hu, hr⟩ := hc2 i hi
  obtain ⟨a, c, rfl, _⟩ := hr.spell
  exact ⟨b, off, cap, a, c, rfl, hu, hr⟩
theorem map_bsl_at {p : Int} {xs zs : List Int} {i : Nat} (hi : i < zs.length) : (zs.map (fun z => bsl p xs z)).getD i [] = bsl p xs (co zs i) := by
  rw [List.getD_eq_getElem?_getD, List.getElem?_map, List.getElem?_eq_getElem hi, co_at hi]; rfl

set_option maxRecDepth 100000 in
set_option maxHeartbeats 1000000 in
theorem ichain_no (f : Int) (v1 v2 vw : Value) (xs zs ws : List Int) (w : World) (h1 : Rw w v1 xs) (h2 : Rw w v2 zs) (h3 : Rw w vw ws) (hz : bad f xs [] xs.length ≠ 0 ∨ (bad f xs [] xs.length = 0 ∧ bad f zs ws xs.length ≠ 0) ∨ (bad f xs [] xs.length = 0 ∧ bad f zs ws xs.length = 0 ∧ 512 < ws.length)) :
    Calls Try.prog 8 #[.int .u8 f, .agg #[v1, v2], vw] w fun e w' => e = .returned (.bool true) ∧ Below w.heap.size w w' := by
  obtain ⟨hal, hbx⟩ := box2 w v1 v2 23
  obtain ⟨q1, q2⟩ := hbx _ (Below.refl _ _)
  have HAl := hide hal
  have c1 := hide (fun W (hb : Below w.heap.size w W) => dBad f v1 (.slice none 0 0) xs [] xs.length W (h1.below hb) (rw0 W) h1.len)
  have c2 := hide (fun W (hb : Below w.heap.size w W) => dBad f v2 vw zs ws xs.length W (h2.below hb) (h3.below hb) h1.len)
  have c3 := hide (fun W => iChange 0 (.slice none 0 0) (.slice none 0 0) [] [] W (rw0 W) (rw0 W))
  have e2 : bac 0 [] [] = 2 := by decide
  unfold GivesL at c3
  rw [e2] at c3
  have ga := hide (fun W => anch7 W)
  have hlw := h3.len
  obtain ⟨a1, k1, rfl, _⟩ := h1.spell
  obtain ⟨a2, k2, rfl, _⟩ := h2.spell
  obtain ⟨a3, k3, rfl, _⟩ := h3.spell
  clear h1 h2 h3 hal hbx e2
  generalize bad f xs [] xs.length = e1 at *
  generalize bad f zs ws xs.length = e4 at *
  generalize xs.length = n1 at *
  generalize zs.length = n2 at *
  generalize ws.length = n3 at *
  rcases hz with hz | ⟨rfl, hz⟩ | ⟨rfl, rfl, hz⟩
  · have ht : (e1 != 0) = true := bne_iff_ne.2 hz
    clear hz
    go_enter Try.func8, Try.ntmps8
    go_wp2_with fail
    go_quiet (fail)
    have hB0 := below_drewN HAl.out nq
    clear q1 q2
    go_wp2_with (first
      | (go_at_call 24; refine (c1.out _ hB0).mono ?_; rintro e w1 ⟨rfl, hb1⟩; have hB1 := Below.next hB0 hb1)
      | (go_at_call 21; refine (c3.out _).mono ?_; rintro e w3 ⟨u3, us3, rfl, hL3, hb3⟩; have hB3 := Below.next hB1 hb3; clear hL3)
      | (go_at_call 14; refine (ga.out _).mono ?_; rintro e w6 ⟨rfl, hb6⟩))
    go_ret
    exact ⟨rfl, Below.next hB3 hb6⟩
  · have ht : (e4 != 0) = true := bne_iff_ne.2 hz
    clear hz
    go_enter Try.func8, Try.ntmps8
    go_wp2_with fail
    go_quiet (fail)
    have hB0 := below_drewN HAl.out nq
    clear q1 q2
    go_wp2_with fail
    refine (c1.out _ hB0).mono ?_; rintro e w1 ⟨rfl, hb1⟩
    have hB1 := Below.next hB0 hb1
    go_wp2_with fail
    refine (c2.out _ hB1).mono ?_; rintro e w2 ⟨rfl, hb2⟩
    have hB2 := Below.next hB1 hb2
    go_wp2_with (first
      | (go_at_call 21; refine (c3.out _).mono ?_; rintro e w3 ⟨u3, us3, rfl, hL3, hb3⟩; have hB3 := Below.next hB2 hb3; clear hL3)
      | (go_at_call 14; refine (ga.out _).mono ?_; rintro e w6 ⟨rfl, hb6⟩))
    go_ret
    exact ⟨rfl, Below.next hB3 hb6⟩
  · go_enter Try.func8, Try.ntmps8
    go_wp2_with fail
    go_quiet (fail)
    have hB0 := below_drewN HAl.out nq
    clear q1 q2
    go_wp2_with fail
    refine (c1.out _ hB0).mono ?_; rintro e w1 ⟨rfl, hb1⟩
    have hB1 := Below.next hB0 hb1
    go_wp2_with fail
    refine (c2.out _ hB1).mono ?_; rintro e w2 ⟨rfl, hb2⟩
    have hB2 := Below.next hB1 hb2
    go_wp2_with (first
      | (go_at_call 21; refine (c3.out _).mono ?_; rintro e w3 ⟨u3, us3, rfl, hL3, hb3⟩; have hB3 := Below.next hB2 hb3; clear hL3)
      | (go_at_call 14; refine (ga.out _).mono ?_; rintro e w6 ⟨rfl, hb6⟩))
    go_ret
    exact ⟨rfl, Below.next hB3 hb6⟩

theorem bac_ok {f p : Int} {wd : Bool} (h : Fi f p wd) {xs zs : List Int} (hx : Els p xs) (hz : Els p zs) (hn : xs.Nodup) (l1 : xs.length ≤ 512) (l2 : zs.length ≤ 512) : bac f xs zs = 0 ∧ chgL f xs zs = zs.map (fun z => bsl p xs z) := by
  have e1 : inF f xs = true := by rw [inF_yes h]; exact allIn_of hx
  have e2 : inF f zs = true := by rw [inF_yes h]; exact allIn_of hz
  have e3 : bad f xs zs xs.length = 0 := by rw [bad_end e1 e2 rfl (by omega), if_pos hn]
  have e4 : bac f xs zs = 0 := by unfold bac; rw [if_neg (by omega)]; exact e3
  exact ⟨e4, by unfold chgL; rw [if_pos e4, pOf_eq h]⟩
/-- Change, where places and others may be. -/
theorem chg_call (W : World) (v1 v2 : Value) {f p : Int} {wd : Bool} (h : Fi f p wd) {xs zs : List Int} (hx : Els p xs) (hz : Els p zs) (hn : xs.Nodup) (l1 : xs.length ≤ 512) (l2 : zs.length ≤ 512) (h1 : Rw W v1 xs) (h2 : Rw W v2 zs) :
    Calls Try.prog 21 #[.int .u8 f, v1, v2] W fun e w' => ∃ a c, e = .returned (.tuple #[.slice a zs.length c, .int .i64 0]) ∧ Rws w' (.slice a zs.length c) (zs.map (fun z => bsl p xs z)) ∧ Below W.heap.size W w' := by
  have := iChange f v1 v2 xs zs W h1 h2
  unfold GivesL at this
  have hb := bac_ok h hx hz hn l1 l2
  have hw := fun i => chgL_wd f (xs := xs) (zs := zs) i
  rw [hb.1] at this
  rw [hb.2] at this hw
  refine this.mono fun e w' ⟨v', us, he, hL, hbl⟩ => ?_
  have hr := hL.rws hw (by simp; omega)
  obtain ⟨a, c, hv⟩ := hr.spell
  rw [List.length_map] at hv
  subst hv
  exact ⟨a, c, he, hr, hbl⟩

set_option maxRecDepth 100000 in
set_option maxHeartbeats 4000000 in
theorem ichain_yes (f : Int) (v1 v2 vw : Value) (xs zs ws : List Int) (w : World) (h1 : Rw w v1 xs) (h2 : Rw w v2 zs) (h3 : Rw w vw ws) (hz : bad f xs [] xs.length = 0) (hz2 : bad f zs ws xs.length = 0) (hlw : ¬ 512 < ws.length) :
    Calls Try.prog 8 #[.int .u8 f, .agg #[v1, v2], vw] w fun e w' => e = .returned (.bool true) ∧ Below w.heap.size w w' := by
  obtain ⟨i0, hi0, hi1, hi2, hi3⟩ := info_parts u64_info
  obtain ⟨p, wd, h, i1, _, _, hl, hn⟩ := bad_zero hz
  obtain ⟨p', wd', h', j1, j2, hlen, _, hnz⟩ := bad_zero hz2
  have ep : p' = p := by rw [← pOf_eq h', ← pOf_eq h]
  subst ep
  have hex := els_of i1 h1.words
  have hez := els_of j1 h2.words
  have hew := els_of j2 h3.words
  have hp0 := h.pos
  have htop := h.top
  have hlz : zs.length ≤ 512 := by omega
  have hlw2 : ws.length ≤ 512 := by omega
  obtain ⟨hal, hbx⟩ := box2 w v1 v2 23
  obtain ⟨q1, q2⟩ := hbx _ (Below.refl _ _)
  have HAl := hide hal
  have c1 := hide (fun W (hb : Below w.heap.size w W) => dBad f v1 (.slice none 0 0) xs [] xs.length W (h1.below hb) (rw0 W) h1.len)
  have c2 := hide (fun W (hb : Below w.heap.size w W) => dBad f v2 vw zs ws xs.length W (h2.below hb) (h3.below hb) h1.len)
  rw [hz] at c1
  rw [hz2] at c2
  have c3 := hide (fun W (hb : Below w.heap.size w W) => chg_call W v1 v2 h hex hez hn hl hlz (h1.below hb) (h2.below hb))
  have c4 := hide (fun W (hb : Below w.heap.size w W) => chg_call W v2 vw h hez hew hnz hlz hlw2 (h2.below hb) (h3.below hb))
  have c5 := hide (fun W (hb : Below w.heap.size w W) => chg_call W v1 vw h hex hew hn hl hlw2 (h1.below hb) (h3.below hb))
  have ga := hide (fun W => anch7 W)
  have HPp := hide (fun W => rP_yes f p' wd W h)
  have HTi := hide (fun W a b (ha : El p' a) (hb : El p' b) => rTimes_any p' a b W htop ha (elWord hb htop).1 (elWord hb htop).2)
  have HSu := hide (fun W a b (ha : El p' a) (hb : El p' b) => rSum_any p' a b W htop ha hb)
  have HBe := hide (fun (us : List Int) t i => bs_el hp0 us t i)
  have HDe := hide (fun g1 g2 k => ds_el hp0 g1 g2 k)
  have HEnd := hide (fun t => rw7_end h.md hez hnz hlen t)
  have HEl := hide (fun (t : Int) N k j => rw7_els hp0 xs zs t N k j)
  obtain ⟨a1, k1, rfl, _⟩ := h1.spell
  obtain ⟨a2, k2, rfl, _⟩ := h2.spell
  obtain ⟨a3, k3, rfl, _⟩ := h3.spell
  have HA1 : Hid (∀ i, i < zs.length → (zs.map (fun z => bsl p' xs z)).getD i [] = bsl p' xs (co zs i)) := fun i hi => map_bsl_at hi
  have HB1 : Hid (∀ i, i < ws.length → (ws.map (fun z => bsl p' zs z)).getD i [] = bsl p' zs (co ws i)) := fun i hi => map_bsl_at hi
  have HC1 : Hid (∀ i, i < ws.length → (ws.map (fun z => bsl p' xs z)).getD i [] = bsl p' xs (co ws i)) := fun i hi => map_bsl_at hi
  have HL1 := hide (fun t => bsl_len p' xs t)
  have HL2 := hide (fun t => bsl_len p' zs t)
  have HT1 := hide (fun t j (hj : j < xs.length) => bsl_at (p := p') (x := t) hj)
  have HT2 := hide (fun t j (hj : j < zs.length) => bsl_at (p := p') (x := t) hj)
  obtain ⟨n, HN⟩ : ∃ n, Hid (xs.length = n) := ⟨_, rfl⟩
  have HNz : Hid (zs.length = n) := by rw [← HN.out]; exact hlen
  obtain ⟨m, HM⟩ : ∃ m, Hid (ws.length = m) := ⟨_, rfl⟩
  have hn512 : n ≤ 512 := by rw [← HN.out]; exact hl
  have hm512 : m ≤ 512 := by rw [← HM.out]; exact hlw2
  rw [HNz.out] at c2 c3 c4 HAl HA1 HEnd HL2 HT2 q2
  rw [HM.out] at c2 c4 c5 HB1 HC1
  rw [HN.out] at c1 c2 c3 c5 HAl HEnd HL1 HT1 q1
  rw [HNz.out, HM.out, HN.out]
  have hngt : ¬ 512 < m := by omega
  have HLA : Hid ((zs.map (fun z => bsl p' xs z)).length = n) := by show _ = _; rw [List.length_map]; exact HNz.out
  have HLB : Hid ((ws.map (fun z => bsl p' zs z)).length = m) := by show _ = _; rw [List.length_map]; exact HM.out
  have HLC : Hid ((ws.map (fun z => bsl p' xs z)).length = m) := by show _ = _; rw [List.length_map]; exact HM.out
  clear h1 h2 h3 hal hbx hz hz2 h h' i1 j1 j2 hlen hn hnz hex hez hew hl hlz hlw hlw2
  go_enter Try.func8, Try.ntmps8
  go_wp2_with fail
  go_quiet (fail)
  have hB0 := below_drewN HAl.out nq
  clear q1 q2 HAl
  go_wp2_with fail
  refine (c1.out _ hB0).mono ?_; rintro e w1 ⟨rfl, hb1⟩
  have hB1 := Below.next hB0 hb1
  go_wp2_with fail
  refine (c2.out _ hB1).mono ?_; rintro e w2 ⟨rfl, hb2⟩
  have hB2 := Below.next hB1 hb2
  go_wp2_with fail
  refine (c3.out _ hB2).mono ?_; rintro e w3 ⟨aa, ca, rfl, hrA, hb3⟩
  have hB3 := Below.next hB2 hb3
  have HRA := hide hrA
  clear hrA
  go_wp2_with fail
  refine (c4.out _ hB3).mono ?_; rintro e w4 ⟨ab, cb, rfl, hrB, hb4⟩
  have hB4 := Below.next hB3 hb4
  have HRB := hide hrB
  clear hrB
  go_wp2_with fail
  refine (c5.out _ hB4).mono ?_; rintro e w5 ⟨ac, cc, rfl, hrC, hb5⟩
  have hB5 := Below.next hB4 hb5
  have HRA5 := hide ((HRA.out.below hb4).below hb5)
  have HRB5 := hide (HRB.out.below hb5)
  have HRC5 := hide hrC
  clear hrC HRA HRB c1 c2 c3 c4 c5
  go_wp2_with (go_at_call 30; refine (HPp.out _).mono ?_; rintro e w6 ⟨rfl, hw6⟩; rw [hw6]; clear hw6)
  clear HPp
  go_loopw [19] (fun vi wr => ∃ k : Nat, k ≤ n ∧ vi = .int .i64 k ∧ Below w5.heap.size w5 wr) (fun vi _ => n - (intOf vi).toNat)
  case atStart => exact ⟨0, Nat.zero_le _, rfl, Below.refl _ _⟩
  case round =>
    obtain ⟨k, hk, rfl, hb⟩ := hrel
    by_cases hlt : k < n
    · obtain ⟨b, off, cap, a, c, e1, e2, _⟩ := (HRA5.out.below hb).at (i := k) (by rw [HLA.out]; exact hlt)
      obtain rfl : aa = some ⟨b, off, none⟩ := by injection e1
      clear e1
      rw [HA1.out k hlt, HL1.out] at e2
      go_wp2
      go_roundw
      case rel => exact ⟨k + 1, by omega, by go_num, hb⟩
      case measure => simp [intOf]; omega
    · obtain rfl : k = n := by omega
      go_wp2
      go_loopw [20] (fun vi wr => ∃ i : Nat, i ≤ m ∧ vi = .int .i64 i ∧ Below w5.heap.size w5 wr) (fun vi _ => m - (intOf vi).toNat)
      case atStart => exact ⟨0, Nat.zero_le _, rfl, hb⟩
      case round =>
        clear hb
        obtain ⟨i, hi, rfl, hb⟩ := hrel
        by_cases hlt2 : i < m
        · obtain ⟨bb, ob, cpb, xb, yb, e1, e2, _⟩ := (HRB5.out.below hb).at (i := i) (by rw [HLB.out]; exact hlt2)
          obtain rfl : ab = some ⟨bb, ob, none⟩ := by injection e1
          clear e1
          rw [HB1.out i hlt2, HL2.out] at e2
          have hs0 := hb.size
          go_wp2_with (at_make; refine wpList_make_full _ rfl _ _ 22 rfl wr.heap.size 37 i0 (.int .u64 0) 1 Try.underlying22 hi0 hi1 hi2 .i64 .i64 _ _ k rfl rfl (by omega) (by omega) (by rw [hi3]; omega) (by unfold maxLen; omega) (Nat.le_refl _) ?_; intro w7 hown hgrow)
          have HO := hide (Ow.made hown)
          have hb7 := Below.next hb (below_grown_none hgrow)
          have hgt := own_top (Ow.made hown) wr.heap.size rfl
          obtain ⟨g, Hg⟩ : ∃ g, Hid (wr.heap.size = g) := ⟨_, rfl⟩
          rw [Hg.out] at HO hgt ⊢
          have hg5 : w5.heap.size ≤ g := by rw [← Hg.out]; exact hs0
          rw [← rw7_zero p' xs zs (co ws i) k] at HO
          clear hown hgrow e2 Hg hb hs0
          go_wp2
          go_loopw [22] (fun vi wr => ∃ q : Nat, q ≤ k ∧ vi = .int .i64 q ∧ Hid (Ow wr g k (rw7 p' xs zs (co ws i) k q 0)) ∧ Below w5.heap.size w5 wr) (fun vi _ => k - (intOf vi).toNat)
          case atStart => exact ⟨0, Nat.zero_le _, rfl, HO, hb7⟩
          case round =>
            clear HO hb7
            obtain ⟨q, hq, rfl, HO, hb⟩ := hrel
            by_cases hlt3 : q < k
            · go_wp2
              go_loopw [23] (fun vi wr => ∃ j : Nat, j ≤ k ∧ vi = .int .i64 j ∧ Hid (Ow wr g k (rw7 p' xs zs (co ws i) k q j)) ∧ Below w5.heap.size w5 wr) (fun vi _ => k - (intOf vi).toNat)
              case atStart => exact ⟨0, Nat.zero_le _, rfl, HO, hb⟩
              case round =>
                clear HO hb
                obtain ⟨j, hj, rfl, HO, hb⟩ := hrel
                by_cases hlt4 : j < k
                · obtain ⟨bb', ob', cpb', gb, ogb, cgb, e1, e2, e3⟩ := (HRB5.out.below hb).two (i := i) (j := q) (by rw [HLB.out]; exact hlt2) (by rw [HB1.out i hlt2, HL2.out]; exact hlt3)
                  obtain ⟨rfl, rfl⟩ : bb = bb' ∧ ob = ob' := by
                    injection e1 with e1 _ _; injection e1 with e1; injection e1 with e1 e1' _; exact ⟨e1, e1'⟩
                  clear e1
                  rw [HB1.out i hlt2] at e2 e3
                  rw [HL2.out] at e2
                  have et2 : (bsl p' zs (co ws i)).getD q 0 = bs p' zs (co ws i) q := HT2.out (co ws i) q hlt3
                  rw [et2] at e3
                  obtain ⟨ba, oa, cpa, ga2, oga, cga, e4, e5, e6⟩ := (HRA5.out.below hb).two (i := q) (j := j) (by rw [HLA.out]; exact hlt3) (by rw [HA1.out q hlt3, HL1.out]; exact hlt4)
                  obtain rfl : aa = some ⟨ba, oa, none⟩ := by injection e4
                  clear e4
                  rw [HA1.out q hlt3] at e5 e6
                  rw [HL1.out] at e5
                  have et1 : (bsl p' xs (co zs q)).getD j 0 = bs p' xs (co zs q) j := HT1.out (co zs q) j hlt4
                  rw [et1] at e6
                  have hrl := rw7_len p' xs zs (co ws i) k q j
                  have d1 := HO.out.cell j hlt4
                  have et3 : (rw7 p' xs zs (co ws i) k q j).getD j 0 = ds p' (bs p' zs (co ws i)) (fun q => bs p' xs (co zs q) j) q := rw7_at p' xs zs (co ws i) hlt4
                  rw [et3] at d1
                  have d2 := HO.out.free j
                  have k1 := hide (fun W => HTi.out W _ _ (HBe.out zs (co ws i) q) (HBe.out xs (co zs q) j))
                  have k2 := hide (fun W => HSu.out W _ _ (HDe.out (bs p' zs (co ws i)) (fun q => bs p' xs (co zs q) j) q) (mul_el (a := bs p' zs (co ws i) q) (b := bs p' xs (co zs q) j) hp0))
                  have HSt := hide (rw7_step p' xs zs (co ws i) (k := q) hlt4)
                  obtain ⟨z2, HZ⟩ : ∃ z2, Hid (add p' (ds p' (bs p' zs (co ws i)) (fun q => bs p' xs (co zs q) j) q) (mul p' (bs p' zs (co ws i) q) (bs p' xs (co zs q) j)) = z2) := ⟨_, rfl⟩
                  rw [HZ.out] at k2 HSt
                  clear et1 et2 et3 hrl HZ
                  generalize ds p' (bs p' zs (co ws i)) (fun q => bs p' xs (co zs q) j) q = dd at *
                  generalize mul p' (bs p' zs (co ws i) q) (bs p' xs (co zs q) j) = mm at *
                  generalize bs p' zs (co ws i) q = bq at *
                  generalize bs p' xs (co zs q) j = bj at *
                  clear HTi HSu HBe HDe HEnd HEl HA1 HB1 HC1 HL1 HL2 HT1 HT2
                  go_wp2_with fail
                  refine wp_region_last (by kernel_rfl) (by kernel_rfl) (by kernel_rfl) ?_
                  simp only [List.dropLast]
                  repeat (go_big_quiet_step (first
                    | (go_at_call 31; exact Calls.quiet_of_same (k1.out _))
                    | (go_at_call 29; exact Calls.quiet_of_same (k2.out _))))
                  refine wpQuiet_nil ?_
                  intro _ hw'
                  obtain ⟨nq2, hw''⟩ := hw'
                  subst hw''
                  simp only [lastL]
                  go_wp2
                  have R := hide ((HO.out.below (below_drewN (Below.refl _ wr) nq2)).set j z2)
                  rw [HSt.out] at R
                  have hb9 := (below_drewN hb nq2).setCell (p := ⟨g, j, none⟩) hg5 (.int .u64 z2)
                  go_roundw
                  case rel => exact ⟨j + 1, by omega, by go_num, R, hb9⟩
                  case measure => simp [intOf]; omega
                · obtain rfl : j = k := by omega
                  rw [rw7_next] at HO
                  clear HTi HSu HBe HDe HEnd HEl HA1 HB1 HC1 HL1 HL2 HT1 HT2
                  go_wp2
                  go_roundw
                  case rel => exact ⟨q + 1, by omega, by go_num, HO, hb⟩
                  case measure => simp [intOf]; omega
            · obtain rfl : q = k := by omega
              rw [HEnd.out] at HO
              obtain ⟨bc, oc, cpc, xc, yc, e1, e2, e3⟩ := (HRC5.out.below hb).at (i := i) (by rw [HLC.out]; exact hlt2)
              obtain rfl : ac = some ⟨bc, oc, none⟩ := by injection e1
              clear e1
              rw [HC1.out i hlt2] at e2 e3
              rw [HL1.out] at e2 e3
              have hR1 := hide (rw_of_own HO.out (by rw [HL1.out]; omega) (els_words (by rw [← HEnd.out]; exact HEl.out _ _ _ _) htop)).1
              have hR2 := hide e3.1
              clear HTi HSu HBe HDe HEnd HEl HA1 HB1 HC1 HL1 HL2 HT1 HT2 e3
              go_wp2_with (go_at_call 13; refine (Same_yes _ _ _ _ hR1.out hR2.out).mono ?_; rintro e w9 ⟨rfl, hb9⟩)
              have hb10 := Below.next hb hb9
              go_roundw
              case rel => exact ⟨i + 1, by omega, by go_num, hb10⟩
              case measure => simp [intOf]; omega
        · obtain rfl : i = m := by omega
          go_wp2_with (go_at_call 14; refine (ga.out _).mono ?_; rintro e w9 ⟨rfl, hb9⟩)
          go_ret
          exact ⟨rfl, Below.next (Below.next hB5 hb) hb9⟩

theorem ichain_any (f : Int) (v1 v2 : Value) (xs zs : List Int) (vw : Value) (ws : List Int) (w : World) (h1 : Rw w v1 xs) (h2 : Rw w v2 zs) (h3 : Rw w vw ws) :
    Calls Try.prog 8 #[.int .u8 f, .agg #[v1, v2], vw] w fun e w' => e = .returned (.bool true) ∧ Below w.heap.size w w' := by
  by_cases hz : bad f xs [] xs.length = 0
  · by_cases hz2 : bad f zs ws xs.length = 0
    · by_cases hl : 512 < ws.length
      · exact ichain_no f v1 v2 vw xs zs ws w h1 h2 h3 (.inr (.inr ⟨hz, hz2, hl⟩))
      · exact ichain_yes f v1 v2 vw xs zs ws w h1 h2 h3 hz hz2 hl
    · exact ichain_no f v1 v2 vw xs zs ws w h1 h2 h3 (.inr (.inl ⟨hz, hz2⟩))
  · exact ichain_no f v1 v2 vw xs zs ws w h1 h2 h3 (.inl hz)

end Go.Proofs.Ytdonfilofdfpbaa
