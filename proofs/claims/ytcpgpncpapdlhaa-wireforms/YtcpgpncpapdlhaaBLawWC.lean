/-
  WireForms' and WireTurned's walks.
-/
import Derived.Test.YtcpgpncpapdlhaaBLawWA
namespace Go.Proofs.Ytcpgpncpapdlhaa
open Go.RowKit Fld
set_option linter.unusedVariables false

/-- What is read of a list, and written again. -/
theorem again_list {v : Value} {bs : List Int} {w : World} (h : Rb w v bs) (hr : rlE bs = 0) : ∃ n1, 5 ≤ n1 ∧ n1 ≤ bs.length ∧ rlSo bs = n1 ∧ Ok8 (bs.take n1) ∧ (0 ≤ rlFo bs ∧ rlFo bs ≤ 255) ∧
    ∀ W v', Row W v' (rlLo bs) → GivesB 16 #[.int .u8 (rlFo bs), v'] W 0 (bs.take n1) := by
  obtain ⟨d1, d2, d3⟩ := rl_yes hr
  obtain ⟨_, hf, _, hn4, hl5, _⟩ := rlE_zero hr
  obtain ⟨g1, g2⟩ := list_read h.by hr
  have hok := lsF_ok g1
  rw [g2] at hok
  rw [d1, d2]
  refine ⟨_, by omega, hl5, d3, hok, ⟨by omega, by omega⟩, fun W v' hrow => ?_⟩
  have := wList (rlF bs) v' (rlX bs) W ⟨by omega, by omega⟩ hrow
  rw [g1, show lsL (rlF bs) (rlX bs) = bs.take (5 + rlN bs * wF (rlF bs)) by unfold lsL; rw [if_pos g1, g2]] at this
  exact this

/-- What is unsealed, and sealed again. -/
theorem again_seal {v : Value} {bs : List Int} {w : World} (h : Rb w v bs) (hr : usE sum8 bs = 0) : ∃ m1, 12 ≤ m1 ∧ m1 ≤ bs.length ∧ usSo sum8 bs = m1 ∧ Ok8 (bs.take m1) ∧
    ∀ W v', Rb W v' (usL sum8 bs) → GivesB 21 #[v'] W 0 (bs.take m1) := by
  obtain ⟨d1, d2⟩ := us_yes hr
  obtain ⟨_, hn, hl, _⟩ := usE_zero hr
  obtain ⟨g1, g2⟩ := seal_unseal h.by hr
  refine ⟨_, by omega, hl, d2, ⟨h.by.take _, by rw [List.length_take]; omega⟩, fun W v' hrow => ?_⟩
  have := wSeal v' (usL sum8 bs) W hrow
  rw [g1, show slL sum8 (usL sum8 bs) = bs.take (12 + usN bs) by unfold slL; rw [if_pos g1, g2]] at this
  exact this

set_option maxRecDepth 100000 in
set_option maxHeartbeats 1000000 in
theorem wforms_any (v : Value) (bs : List Int) (w : World) (h : Rb w v bs) :
    Calls Try.prog 7 #[v] w fun e w' => e = .returned (.bool true) ∧ Below w.heap.size w w' := by
  have H1 := hide (wReadList v bs w h)
  unfold GivesR8 at H1
  have H2 := hide (fun W (hb : Below w.heap.size w W) => wUnseal v bs W (h.below hb))
  unfold GivesU at H2
  have ga := hide (fun W => anch8 W)
  have HRw := hide (fun W base u (ho : World.ownsRow W base 32 1 u (rlLo bs).length (vals (rlLo bs))) => rlLo_row h.by ho)
  have HUw := hide (fun W base x m (ho : World.ownsRow W base 5 1 x m (valb (usL sum8 bs))) => (usL_ok h.by).rb ho)
  have HR := hide h
  by_cases hr : rlE bs = 0
  · by_cases hu : usE sum8 bs = 0
    · obtain ⟨n1, hn1, hn2, hso, hok, hfr, hls⟩ := again_list h hr
      have HOk := hide hok
      have HLs := hide hls
      unfold GivesB at HLs
      rw [show (bs.take n1).length = n1 by rw [List.length_take]; omega] at HLs
      rw [hr, hso] at H1
      obtain ⟨f0, f1⟩ := hfr
      clear hso hok hls hr
      generalize rlFo bs = ff at *
      obtain ⟨m1, hm1, hm2, hsm, hokm, hsl⟩ := again_seal h hu
      have HOm := hide hokm
      have HSl := hide hsl
      unfold GivesB at HSl
      rw [show (bs.take m1).length = m1 by rw [List.length_take]; omega] at HSl
      rw [hu, hsm] at H2
      clear hsm hokm hsl hu
      generalize rlLo bs = ll at *
      generalize usL sum8 bs = ul at *
      obtain ⟨b, off, cap, rfl, hcp, _⟩ := h.form (by omega)
      have hn3 : (n1 : Int) ≤ (cap : Int) := by omega
      have hm3 : (m1 : Int) ≤ (cap : Int) := by omega
      clear h
      go_enter Try.func7, Try.ntmps7
      go_wp2_with (first
        | (go_at_call 18; refine H1.out.mono ?_; rintro e w2 ⟨v2, rfl, ho2, hB2⟩; have hrow2 := HRw.out _ _ _ ho2; obtain ⟨a2, c2, hv2⟩ := own_form ho2; subst hv2)
        | (go_at_call 16; refine (HLs.out _ _ hrow2).mono ?_; rintro e w3 ⟨v3, rfl, ho3, hb3⟩; have hB3 := Below.next hB2 hb3; have r3 := HOk.out.rb ho3; have q3 := (HR.out.below hB3).take (k := n1) hn2; have HS3 := hide (rSame8 _ _ _ _ w3 r3 q3); rw [decide_eq_true rfl] at HS3; obtain ⟨a3, c3, hv3⟩ := own_form ho3; subst hv3)
        | (go_at_call_of 15 (Value.slice a3 n1 c3); refine HS3.out.mono ?_; rintro e w4 ⟨rfl, hw4⟩; rw [hw4]; clear hw4)
        | (go_at_call 23; refine (H2.out _ hB3).mono ?_; rintro e w6 ⟨v6, rfl, ho6, hb6⟩; have hB6 := Below.next hB3 hb6; have hrow6 := HUw.out _ _ _ _ ho6; obtain ⟨a6, c6, hv6⟩ := own_form ho6; subst hv6)
        | (go_at_call 21; refine (HSl.out _ _ hrow6).mono ?_; rintro e w7 ⟨v7, rfl, ho7, hb7⟩; have hB7 := Below.next hB6 hb7; have r7 := HOm.out.rb ho7; have q7 := (HR.out.below hB7).take (k := m1) hm2; have HS7 := hide (rSame8 _ _ _ _ w7 r7 q7); rw [decide_eq_true rfl] at HS7; obtain ⟨a7, c7, hv7⟩ := own_form ho7; subst hv7)
        | (go_at_call_of 15 (Value.slice a7 m1 c7); refine HS7.out.mono ?_; rintro e w8 ⟨rfl, hw8⟩; rw [hw8]; clear hw8)
        | (go_at_call 25; refine (ga.out _).mono ?_; rintro e w9 ⟨rfl, hb9⟩; have hB9 := Below.next hB7 hb9))
      go_ret
      exact ⟨rfl, hB9⟩
    · obtain ⟨n1, hn1, hn2, hso, hok, hfr, hls⟩ := again_list h hr
      have HOk := hide hok
      have HLs := hide hls
      unfold GivesB at HLs
      rw [show (bs.take n1).length = n1 by rw [List.length_take]; omega] at HLs
      rw [hr, hso] at H1
      obtain ⟨f0, f1⟩ := hfr
      clear hso hok hls hr
      generalize rlFo bs = ff at *
      have hue : (usE sum8 bs == 0) = false := by simpa using hu
      clear hu
      generalize usSo sum8 bs = mm at *
      generalize usE sum8 bs = eu at *
      generalize rlLo bs = ll at *
      generalize usL sum8 bs = ul at *
      obtain ⟨b, off, cap, rfl, hcp, _⟩ := h.form (by omega)
      have hn3 : (n1 : Int) ≤ (cap : Int) := by omega
      clear h
      go_enter Try.func7, Try.ntmps7
      go_wp2_with (first
        | (go_at_call 18; refine H1.out.mono ?_; rintro e w2 ⟨v2, rfl, ho2, hB2⟩; have hrow2 := HRw.out _ _ _ ho2; obtain ⟨a2, c2, hv2⟩ := own_form ho2; subst hv2)
        | (go_at_call 16; refine (HLs.out _ _ hrow2).mono ?_; rintro e w3 ⟨v3, rfl, ho3, hb3⟩; have hB3 := Below.next hB2 hb3; have r3 := HOk.out.rb ho3; have q3 := (HR.out.below hB3).take (k := n1) hn2; have HS3 := hide (rSame8 _ _ _ _ w3 r3 q3); rw [decide_eq_true rfl] at HS3; obtain ⟨a3, c3, hv3⟩ := own_form ho3; subst hv3)
        | (go_at_call_of 15 (Value.slice a3 n1 c3); refine HS3.out.mono ?_; rintro e w4 ⟨rfl, hw4⟩; rw [hw4]; clear hw4)
        | (go_at_call 23; refine (H2.out _ hB3).mono ?_; rintro e w6 ⟨v6, rfl, ho6, hb6⟩; have hB6 := Below.next hB3 hb6; have hrow6 := HUw.out _ _ _ _ ho6; obtain ⟨a6, c6, hv6⟩ := own_form ho6; subst hv6)
        | (go_at_call 25; refine (ga.out _).mono ?_; rintro e w9 ⟨rfl, hb9⟩; have hB9 := Below.next hB6 hb9))
      go_ret
      exact ⟨rfl, hB9⟩
  · by_cases hu : usE sum8 bs = 0
    · have hre : (rlE bs == 0) = false := by simpa using hr
      clear hr
      generalize rlFo bs = ff at *
      generalize rlSo bs = ss at *
      generalize rlE bs = ee at *
      obtain ⟨m1, hm1, hm2, hsm, hokm, hsl⟩ := again_seal h hu
      have HOm := hide hokm
      have HSl := hide hsl
      unfold GivesB at HSl
      rw [show (bs.take m1).length = m1 by rw [List.length_take]; omega] at HSl
      rw [hu, hsm] at H2
      clear hsm hokm hsl hu
      generalize rlLo bs = ll at *
      generalize usL sum8 bs = ul at *
      obtain ⟨b, off, cap, rfl, hcp, _⟩ := h.form (by omega)
      have hm3 : (m1 : Int) ≤ (cap : Int) := by omega
      clear h
      go_enter Try.func7, Try.ntmps7
      go_wp2_with (first
        | (go_at_call 18; refine H1.out.mono ?_; rintro e w2 ⟨v2, rfl, ho2, hB2⟩; have hrow2 := HRw.out _ _ _ ho2; obtain ⟨a2, c2, hv2⟩ := own_form ho2; subst hv2)
        | (go_at_call 23; refine (H2.out _ hB2).mono ?_; rintro e w6 ⟨v6, rfl, ho6, hb6⟩; have hB6 := Below.next hB2 hb6; have hrow6 := HUw.out _ _ _ _ ho6; obtain ⟨a6, c6, hv6⟩ := own_form ho6; subst hv6)
        | (go_at_call 21; refine (HSl.out _ _ hrow6).mono ?_; rintro e w7 ⟨v7, rfl, ho7, hb7⟩; have hB7 := Below.next hB6 hb7; have r7 := HOm.out.rb ho7; have q7 := (HR.out.below hB7).take (k := m1) hm2; have HS7 := hide (rSame8 _ _ _ _ w7 r7 q7); rw [decide_eq_true rfl] at HS7; obtain ⟨a7, c7, hv7⟩ := own_form ho7; subst hv7)
        | (go_at_call_of 15 (Value.slice a7 m1 c7); refine HS7.out.mono ?_; rintro e w8 ⟨rfl, hw8⟩; rw [hw8]; clear hw8)
        | (go_at_call 25; refine (ga.out _).mono ?_; rintro e w9 ⟨rfl, hb9⟩; have hB9 := Below.next hB7 hb9))
      go_ret
      exact ⟨rfl, hB9⟩
    · have hre : (rlE bs == 0) = false := by simpa using hr
      clear hr
      generalize rlFo bs = ff at *
      generalize rlSo bs = ss at *
      generalize rlE bs = ee at *
      have hue : (usE sum8 bs == 0) = false := by simpa using hu
      clear hu
      generalize usSo sum8 bs = mm at *
      generalize usE sum8 bs = eu at *
      generalize rlLo bs = ll at *
      generalize usL sum8 bs = ul at *
      obtain ⟨ao, cap, rfl, hcp⟩ := h.spell
      clear h
      go_enter Try.func7, Try.ntmps7
      go_wp2_with (first
        | (go_at_call 18; refine H1.out.mono ?_; rintro e w2 ⟨v2, rfl, ho2, hB2⟩; have hrow2 := HRw.out _ _ _ ho2; obtain ⟨a2, c2, hv2⟩ := own_form ho2; subst hv2)
        | (go_at_call 23; refine (H2.out _ hB2).mono ?_; rintro e w6 ⟨v6, rfl, ho6, hb6⟩; have hB6 := Below.next hB2 hb6; have hrow6 := HUw.out _ _ _ _ ho6; obtain ⟨a6, c6, hv6⟩ := own_form ho6; subst hv6)
        | (go_at_call 25; refine (ga.out _).mono ?_; rintro e w9 ⟨rfl, hb9⟩; have hB9 := Below.next hB6 hb9))
      go_ret
      exact ⟨rfl, hB9⟩

theorem xor8 {x t : Int} (x0 : 0 ≤ x) (x1 : x ≤ 255) (t0 : 0 ≤ t) (t1 : t ≤ 255) (ht : t ≠ 0) : 0 ≤ bits .xor .u8 x t ∧ bits .xor .u8 x t ≤ 255 ∧ bits .xor .u8 x t ≠ x := by
  rw [u8_xor x t x0 (by omega) t0 (by omega)]
  obtain ⟨X, rfl⟩ := Int.eq_ofNat_of_zero_le x0
  obtain ⟨T, rfl⟩ := Int.eq_ofNat_of_zero_le t0
  have hlt : X ^^^ T < 2 ^ 8 := Nat.xor_lt_two_pow (by omega) (by omega)
  rw [Int.toNat_natCast, Int.toNat_natCast]
  refine ⟨by omega, by omega, fun he => ht ?_⟩
  have he2 : X ^^^ T = X := by omega
  have h3 : X ^^^ (X ^^^ T) = X ^^^ X := by rw [he2]
  rw [← Nat.xor_assoc, Nat.xor_self, Nat.zero_xor] at h3
  omega
theorem valb_set (ys : List Int) (k : Nat) (x : Int) : (valb ys).set k (.int .u8 x) = valb (ys.set k x) := by simp [valb, List.map_set]
theorem own_cellb {wr : World} {base g n cap k : Nat} {ys : List Int} {T : TypeId} (hO : wr.ownsRow base T 1 (.slice (some ⟨g, 0, none⟩) n cap) n (valb ys)) (hl : ys.length = n) (hk : k < n) : wr.cell? ⟨g, k, none⟩ = some (.int .u8 (ys.getD k 0)) := by
  rw [hO.cellAt k (by omega), valb_at ys k (by omega)]
theorem By.set {bs : List Int} (h : By bs) (k : Nat) {x : Int} (x0 : 0 ≤ x) (x1 : x ≤ 255) : By (bs.set k x) := fun y hy => by
  rcases List.mem_or_eq_of_mem_set hy with h1 | rfl
  · exact h y h1
  · exact ⟨x0, x1⟩
theorem By.at_ {bs : List Int} (h : By bs) {k : Nat} (hk : k < bs.length) : 0 ≤ bs.getD k 0 ∧ bs.getD k 0 ≤ 255 := by
  have : bs.getD k 0 = bs[k] := by rw [List.getD_eq_getElem?_getD, List.getElem?_eq_getElem hk]; rfl
  rw [this]; exact h _ (List.getElem_mem hk)

set_option maxRecDepth 100000 in
set_option maxHeartbeats 1000000 in
theorem wturned_any (v : Value) (bs : List Int) (p t : Int) (w : World) (h : Rb w v bs) (hp : -9223372036854775808 ≤ p ∧ p ≤ 9223372036854775807) (ht : 0 ≤ t ∧ t ≤ 255) :
    Calls Try.prog 8 #[v, .int .i64 p, .int .u8 t] w fun e w' => e = .returned (.bool true) ∧ Below w.heap.size w w' := by
  have ga := hide (fun W => anch8 W)
  obtain ⟨p0, p1⟩ := hp
  obtain ⟨t0, t1⟩ := ht
  rcases slE_or bs with ⟨hl, e1, e2⟩ | ⟨hl, e1, e2⟩
  · obtain ⟨ao, cap, rfl, _⟩ := h.spell
    clear h e1 e2
    go_enter Try.func8, Try.ntmps8
    go_wp2_with (go_at_call 25; refine (ga.out _).mono ?_; rintro e w9 ⟨rfl, hb9⟩)
    go_ret
    exact ⟨rfl, hb9⟩
  · have H1 := hide (wSeal v bs w h)
    unfold GivesB at H1
    rw [e1, e2, slF_len] at H1
    have hlen := slF_len sum8 bs
    have HY := hide (slF_by sum8 h.by)
    have HR := hide h
    obtain ⟨N, hN⟩ : ∃ N, 12 + bs.length = N := ⟨_, rfl⟩
    rw [hN] at H1 hlen
    have hNn : (N : Int) = (bs.length : Int) + 12 := by omega
    have HTu := hide (fun k x (hk : k < (slF sum8 bs).length) (x0 : 0 ≤ x) (x1 : x ≤ 255) (hx : x ≠ (slF sum8 bs).getD k 0) => turned (S := sum8) h.by hk x0 x1 hx)
    obtain ⟨ao, cap, rfl, _⟩ := h.spell
    clear h e1 e2
    by_cases hc : p < 0 ∨ (N : Int) ≤ p ∨ t = 0
    · clear HTu HY HR hlen
      have hc2 : p < 0 ∨ (0 ≤ p ∧ (N : Int) ≤ p) ∨ (0 ≤ p ∧ p < (N : Int) ∧ t = 0) := by omega
      clear hc
      generalize slF sum8 bs = fs at *
      rcases hc2 with hc | ⟨hc, hc'⟩ | ⟨hc, hc', rfl⟩
      all_goals
        go_enter Try.func8, Try.ntmps8
        go_wp2_with (first
          | (go_at_call 21; refine H1.out.mono ?_; rintro e w1 ⟨v1, rfl, ho1, hb1⟩; obtain ⟨a1, c1, hv1⟩ := own_form ho1; subst hv1)
          | (go_at_call 25; refine (ga.out _).mono ?_; rintro e w9 ⟨rfl, hb9⟩))
        go_ret
        exact ⟨rfl, Below.next hb1 hb9⟩
    · obtain ⟨k, rfl⟩ : ∃ k : Nat, p = (k : Int) := ⟨p.toNat, by omega⟩
      have hkN : k < N := by omega
      have htz : (t == 0) = false := by have : ¬ t = 0 := by omega
                                        simpa using this
      obtain ⟨x0, x1⟩ := By.at_ HY.out (k := k) (by omega)
      obtain ⟨y0, y1, hyx⟩ := xor8 x0 x1 t0 t1 (by omega)
      have HT := hide (HTu.out k _ (by omega) y0 y1 hyx)
      rw [hlen] at HT
      have HYs := hide (By.set HY.out k y0 y1)
      have HLs : Hid (((slF sum8 bs).set k (bits .xor .u8 ((slF sum8 bs).getD k 0) t)).length = N) := by show _ = _; rw [List.length_set]; exact hlen
      have HSt : Hid (∀ (W : World) g c, W.ownsRow w.heap.size 5 1 (.slice (some ⟨g, 0, none⟩) N c) N (valb (slF sum8 bs)) → (W.setCell ⟨g, k, none⟩ (.int .u8 (bits .xor .u8 ((slF sum8 bs).getD k 0) t))).ownsRow w.heap.size 5 1 (.slice (some ⟨g, 0, none⟩) N c) N (valb ((slF sum8 bs).set k (bits .xor .u8 ((slF sum8 bs).getD k 0) t))) ∧ W.cell? ⟨g, k, none⟩ = some (.int .u8 ((slF sum8 bs).getD k 0)) ∧ W.frozen? ⟨g, k, none⟩ = false) := fun W g c ho => by
        have h1 := (ho.stored k (.int .u8 (bits .xor .u8 ((slF sum8 bs).getD k 0) t))).1
        rw [valb_set] at h1
        exact ⟨h1, own_cellb ho hlen hkN, ho.frozenAt k⟩
      clear hc HTu HY hlen hyx
      generalize (slF sum8 bs).set k (bits .xor .u8 ((slF sum8 bs).getD k 0) t) = ts at *
      obtain ⟨y, HYq⟩ : ∃ y, Hid (bits .xor .u8 ((slF sum8 bs).getD k 0) t = y) := ⟨_, rfl⟩
      generalize (slF sum8 bs).getD k 0 = x at *
      generalize slF sum8 bs = fs at *
      have H2 := hide (fun W u (hr : Rb W u ts) => wUnseal u ts W hr)
      unfold GivesU at H2
      have HUo := hide (fun W base u m (ho : World.ownsRow W base 5 1 u m (valb (usL sum8 ts))) => (usL_ok HYs.out).rb ho)
      have HSm := hide (fun W u1 u2 (r1 : Rb W u1 (usL sum8 ts)) (r2 : Rb W u2 bs) => rSame8 u1 u2 _ _ W r1 r2)
      have k0 : (0 : Int) ≤ (k : Int) := by omega
      have k1 : (k : Int) < (N : Int) := by omega
      have HNn := hide hNn
      have hcase : (∃ eu, usE sum8 ts = eu ∧ (eu != 0) = true) ∨ (usE sum8 ts = 0 ∧ decide (usL sum8 ts = bs) = false) ∨ (usE sum8 ts = 0 ∧ decide (usL sum8 ts = bs) = true ∧ ∃ m : Nat, usSo sum8 ts = m ∧ m ≠ N) := by
        by_cases h1 : usE sum8 ts = 0
        · right
          by_cases h2 : usL sum8 ts = bs
          · right
            refine ⟨h1, decide_eq_true h2, _, rfl, ?_⟩
            rw [(us_yes h1).2]
            rcases HT.out with h3 | h3 | h3
            · exact absurd h1 h3
            · exact absurd h2 h3
            · omega
          · left; exact ⟨h1, decide_eq_false h2⟩
        · left; exact ⟨_, rfl, by simpa using h1⟩
      clear HT
      rcases hcase with ⟨eu, he, hne⟩ | ⟨he, hd⟩ | ⟨he, hd, m, hm, hmN⟩
      · rw [he] at H2
        clear HSm he
        generalize usSo sum8 ts = so at *
        generalize usL sum8 ts = ul at *
        go_enter Try.func8, Try.ntmps8
        go_wp2_with (first
          | (go_at_call 21; refine H1.out.mono ?_; rintro e w1 ⟨v1, rfl, ho1, hb1⟩; obtain ⟨g1, c1, hv1, hg1, _⟩ := ho1.form (by omega); subst hv1; obtain ⟨ho2, hc1, hz1⟩ := HSt.out _ _ _ ho1; have hB2 := hb1.setCell (p := ⟨g1, k, none⟩) hg1 (.int .u8 (bits .xor .u8 x t)); have hr2 := rb_of_own ho2 HYs.out (by rw [HLs.out]; omega))
          | (go_at_call 23; refine (H2.out _ _ hr2).mono ?_; rintro e w3 ⟨v3, rfl, ho3, hb3⟩; have hB3 := Below.next hB2 hb3)
          | (go_at_call 25; refine (ga.out _).mono ?_; rintro e w9 ⟨rfl, hb9⟩; have hB9 := Below.next hB3 hb9))
        go_ret
        exact ⟨rfl, hB9⟩
      · rw [he] at H2
        rw [hd] at HSm
        clear he hd
        generalize usSo sum8 ts = so at *
        generalize usL sum8 ts = ul at *
        go_enter Try.func8, Try.ntmps8
        go_wp2_with (first
          | (go_at_call 21; refine H1.out.mono ?_; rintro e w1 ⟨v1, rfl, ho1, hb1⟩; obtain ⟨g1, c1, hv1, hg1, _⟩ := ho1.form (by omega); subst hv1; obtain ⟨ho2, hc1, hz1⟩ := HSt.out _ _ _ ho1; have hB2 := hb1.setCell (p := ⟨g1, k, none⟩) hg1 (.int .u8 (bits .xor .u8 x t)); have hr2 := rb_of_own ho2 HYs.out (by rw [HLs.out]; omega))
          | (go_at_call 23; refine (H2.out _ _ hr2).mono ?_; rintro e w3 ⟨v3, rfl, ho3, hb3⟩; have hB3 := Below.next hB2 hb3; have hr3 := HUo.out _ _ _ _ ho3; obtain ⟨a3, c3, hv3⟩ := own_form ho3; subst hv3)
          | (go_at_call 25; refine (ga.out _).mono ?_; rintro e w9 ⟨rfl, hb9⟩; have hB9 := Below.next hB3 hb9; have hr9 := hr3.below hb9)
          | (go_at_call 15; refine (HSm.out _ _ _ hr9 (HR.out.below hB9)).mono ?_; rintro e w10 ⟨rfl, hw10⟩; rw [hw10]; clear hw10))
        go_ret
        exact ⟨rfl, hB9⟩
      · rw [he, hm] at H2
        rw [hd] at HSm
        have hmb : ((m : Int) != (bs.length : Int) + 12) = true := bne_iff_ne.2 (by omega)
        clear he hd hm hmN
        generalize usL sum8 ts = ul at *
        go_enter Try.func8, Try.ntmps8
        go_wp2_with (first
          | (go_at_call 21; refine H1.out.mono ?_; rintro e w1 ⟨v1, rfl, ho1, hb1⟩; obtain ⟨g1, c1, hv1, hg1, _⟩ := ho1.form (by omega); subst hv1; obtain ⟨ho2, hc1, hz1⟩ := HSt.out _ _ _ ho1; have hB2 := hb1.setCell (p := ⟨g1, k, none⟩) hg1 (.int .u8 (bits .xor .u8 x t)); have hr2 := rb_of_own ho2 HYs.out (by rw [HLs.out]; omega))
          | (go_at_call 23; refine (H2.out _ _ hr2).mono ?_; rintro e w3 ⟨v3, rfl, ho3, hb3⟩; have hB3 := Below.next hB2 hb3; have hr3 := HUo.out _ _ _ _ ho3; obtain ⟨a3, c3, hv3⟩ := own_form ho3; subst hv3)
          | (go_at_call 25; refine (ga.out _).mono ?_; rintro e w9 ⟨rfl, hb9⟩; have hB9 := Below.next hB3 hb9; have hr9 := hr3.below hb9)
          | (go_at_call 15; refine (HSm.out _ _ _ hr9 (HR.out.below hB9)).mono ?_; rintro e w10 ⟨rfl, hw10⟩; rw [hw10]; clear hw10))
        go_ret
        exact ⟨rfl, hB9⟩

end Go.Proofs.Ytcpgpncpapdlhaa
