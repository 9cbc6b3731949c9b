/-
  Layer 7: InterpSums' walk.
-/
import Derived.Test.YtdonfilofdfpbaaBLawIB
namespace Go.Proofs.Ytdonfilofdfpbaa
open Go.RowKit Fld
set_option linter.unusedVariables false

theorem dt_ds (p : Int) (xs ys : List Int) (k : Nat) : dt p xs ys k = ds p (co xs) (co ys) k := by
  induction k with
  | zero => rfl
  | succ k ih => show add p (dt p xs ys k) _ = add p (ds p (co xs) (co ys) k) _; rw [ih]; rfl
theorem dot_bs {p x : Int} (xs ys : List Int) : dt p (bsl p xs x) ys xs.length = ds p (bs p xs x) (co ys) xs.length := by
  rw [dt_ds]
  exact ds_congr _ (fun i hi => bsl_at hi) (fun i _ => rfl)
theorem sum_step {p x : Int} (hp : 0 < p) (xs : List Int) (k : Nat) : add p (ds p (bs p xs x) (fun _ => 1) k) (bs p xs x k) = ds p (bs p xs x) (fun _ => 1) (k + 1) := by
  show _ = add p _ (mul p (bs p xs x k) 1)
  rw [mul_one_el (bs_el hp xs x k)]
theorem vlu_no {f x : Int} {xs ys : List Int} (h : bad f xs ys ys.length ≠ 0 ∨ inF f [x] = false) : vluE f xs ys x ≠ 0 := by
  unfold vluE
  cases hi : inF f [x] with
  | false => simp
  | true =>
    rcases h with h | h
    · simpa using h
    · rw [hi] at h; cases h
theorem bad_one {f x : Int} : bad f [] [x] 0 = 0 ↔ inF f [x] = true := by
  constructor
  · intro h
    obtain ⟨p, wd, hf, _, h2, _⟩ := bad_zero h
    rw [inF_yes hf]; exact h2
  · intro h
    have := bad_end (n := 0) (inF_nil h) h rfl (by simp)
    rw [this]; rfl

set_option maxRecDepth 100000 in
set_option maxHeartbeats 1000000 in
theorem isums_no (f : Int) (v1 v2 : Value) (xs ys : List Int) (x : Int) (w : World) (h1 : Rw w v1 xs) (h2 : Rw w v2 ys) (hx : 0 ≤ x ∧ x ≤ 18446744073709551615) (hz : bad f xs ys ys.length ≠ 0 ∨ inF f [x] = false) :
    Calls Try.prog 7 #[.int .u8 f, .agg #[v1, v2], .int .u64 x] w fun e w' => e = .returned (.bool true) ∧ Below w.heap.size w w' := by
  obtain ⟨hal, hbx⟩ := box2 w v1 v2 23
  obtain ⟨q1, q2⟩ := hbx _ (Below.refl _ _)
  have HAl := hide hal
  have c1 := hide (fun W (hb : Below w.heap.size w W) => iBasis f x v1 xs W hx (h1.below hb))
  have c2 := hide (fun W (hb : Below w.heap.size w W) => iValue f x v1 v2 xs ys W hx (h1.below hb) (h2.below hb))
  have c3 := hide (fun W (hb : Below w.heap.size w W) => dBad f v1 v2 xs ys ys.length W (h1.below hb) (h2.below hb) h2.len)
  have c4 := hide (fun W T => dBad f (.slice none 0 0) _ [] [x] 0 _ (rw0 (W.alloc (.cells #[.int .u64 x] T))) (rw1 W x hx T) (by omega))
  have ga := hide (fun W => anch7 W)
  have ht : (vluE f xs ys x != 0) = true := bne_iff_ne.2 (vlu_no hz)
  have hp : (bad f xs ys ys.length != 0) = true ∨ ((bad f xs ys ys.length != 0) = false ∧ (bad f [] [x] 0 != 0) = true) := by
    by_cases hb : bad f xs ys ys.length = 0
    · right
      refine ⟨by rw [hb]; rfl, bne_iff_ne.2 (fun h0 => ?_)⟩
      rcases hz with hz | hz
      · exact hz hb
      · rw [bad_one.1 h0] at hz; cases hz
    · exact .inl (bne_iff_ne.2 hb)
  obtain ⟨a1, k1, rfl, _⟩ := h1.spell
  obtain ⟨a2, k2, rfl, _⟩ := h2.spell
  unfold Gives at c1
  clear h1 h2 hal hbx hz
  generalize bad f xs ys ys.length = e1 at *
  generalize bad f xs [x] xs.length = e2 at *
  generalize bad f [] [x] 0 = e4 at *
  generalize vluE f xs ys x = e3 at *
  generalize vluV f xs ys x = vv at *
  generalize basL f xs x = bl at *
  generalize xs.length = n1 at *
  generalize ys.length = n2 at *
  have he2 : (e2 != 0) = true ∨ (e2 != 0) = false := by cases (e2 != 0) <;> simp
  rcases hp with hp | ⟨hp, hp2⟩
  · rcases he2 with he2 | he2
    all_goals
      go_enter Try.func7, Try.ntmps7
      go_wp2_with fail
      go_quiet (fail)
      have hB0 := below_drewN HAl.out nq
      clear q1 q2
      go_wp2_with (first
        | (go_at_call 19; refine (c1.out _ hB0).mono ?_; rintro e w1 ⟨u1, rfl, hO1, hb1⟩; have hB1 := Below.next hB0 hb1; clear hO1)
        | (go_at_call 15; refine (c2.out _ hB1).mono ?_; rintro e w2 ⟨rfl, hb2⟩; have hB2 := Below.next hB1 hb2)
        | (go_at_call 24; refine (c3.out _ hB2).mono ?_; rintro e w3 ⟨rfl, hb3⟩; have hB3 := Below.next hB2 hb3)
        | (go_at_call 14; refine (ga.out _).mono ?_; rintro e w6 ⟨rfl, hb6⟩))
      go_ret
      exact ⟨rfl, Below.next hB3 hb6⟩
  · rcases he2 with he2 | he2
    all_goals
      go_enter Try.func7, Try.ntmps7
      go_wp2_with fail
      go_quiet (fail)
      have hB0 := below_drewN HAl.out nq
      clear q1 q2
      go_wp2_with fail
      refine (c1.out _ hB0).mono ?_; rintro e w1 ⟨u1, rfl, hO1, hb1⟩
      have hB1 := Below.next hB0 hb1
      clear hO1
      go_wp2_with fail
      refine (c2.out _ hB1).mono ?_; rintro e w2 ⟨rfl, hb2⟩
      have hB2 := Below.next hB1 hb2
      go_wp2_with fail
      refine (c3.out _ hB2).mono ?_; rintro e w3 ⟨rfl, hb3⟩
      have hB3 := Below.next hB2 hb3
      go_wp2_with fail
      refine (c4.out _ _).mono ?_; rintro e w4 ⟨rfl, hb4⟩
      have hB4 := Below.next (Below.next hB3 (alloc_below _ _)) hb4
      go_wp2_with (go_at_call 14; refine (ga.out _).mono ?_; rintro e w6 ⟨rfl, hb6⟩)
      go_ret
      exact ⟨rfl, Below.next hB4 hb6⟩

theorem bs_one {p : Int} {wd : Bool} (hm : Md p wd) {xs : List Int} (hx : Els p xs) (hn : xs.Nodup) {i j : Nat} (hi : i < xs.length) (hj : j < xs.length) : co (bsl p xs (xs.getD i 0)) j = if j = i then 1 else 0 := by
  rw [bsl_at hj]
  by_cases h : j = i
  · subst h; rw [if_pos rfl]; exact bs_here hm hx hn hj
  · rw [if_neg h]; exact bs_far hm hx hj hi (fun e => h e.symm)

set_option maxRecDepth 100000 in
set_option maxHeartbeats 2000000 in
theorem isums_yes (f : Int) (v1 v2 : Value) (xs ys : List Int) (x : Int) (w : World) (h1 : Rw w v1 xs) (h2 : Rw w v2 ys) (hx : 0 ≤ x ∧ x ≤ 18446744073709551615) (hz : bad f xs ys ys.length = 0) (hi : inF f [x] = true) :
    Calls Try.prog 7 #[.int .u8 f, .agg #[v1, v2], .int .u64 x] w fun e w' => e = .returned (.bool true) ∧ Below w.heap.size w w' := by
  obtain ⟨p, wd, h, i1, i2, hlen, hl, hn⟩ := bad_zero hz
  have hex := els_of i1 h1.words
  have hey := els_of i2 h2.words
  have hp0 := h.pos
  have htop := h.top
  have hxe : El p x := by rw [inF_yes h] at hi; exact els_of hi (by simp [hx]) x (List.mem_singleton.2 rfl)
  obtain ⟨hal, hbx⟩ := box2 w v1 v2 23
  obtain ⟨q1, q2⟩ := hbx _ (Below.refl _ _)
  have HAl := hide hal
  have HBs : Hid (∀ z, El p z → ∀ W, Below w.heap.size w W → Calls Try.prog 19 #[.int .u8 f, v1, .int .u64 z] W fun e w' => ∃ v', e = .returned (.tuple #[v', .int .i64 0]) ∧ w'.ownsRow W.heap.size 37 1 v' xs.length (vals (bsl p xs z)) ∧ Below W.heap.size W w') := fun z hz' W hb => by
    have e1 : inF f xs = true := by rw [inF_yes h]; exact i1
    have e2 : inF f [z] = true := by rw [inF_yes h]; exact allIn_of (fun y hy => by rw [List.mem_singleton.1 hy]; exact hz')
    have e3 : bad f xs [z] xs.length = 0 := by rw [bad_end e1 e2 rfl (by omega), if_pos hn]
    have := iBasis f z v1 xs W (elWord hz' htop) (h1.below hb)
    unfold Gives basL at this
    rw [e3, if_pos rfl, pOf_eq h, bsl_len] at this
    exact this
  have c1 := hide (fun W (hb : Below w.heap.size w W) => HBs.out x hxe W hb)
  have ev : vluE f xs ys x = 0 := by unfold vluE; rw [hi, if_pos rfl]; exact hz
  have ew : vluV f xs ys x = ds p (bs p xs x) (co ys) xs.length := by unfold vluV; rw [ev, if_pos rfl, pOf_eq h]
  have c2 := hide (fun W (hb : Below w.heap.size w W) => iValue f x v1 v2 xs ys W hx (h1.below hb) (h2.below hb))
  rw [ev, ew] at c2
  have c3 := hide (fun W (hb : Below w.heap.size w W) => dBad f v1 v2 xs ys ys.length W (h1.below hb) (h2.below hb) h2.len)
  rw [hz] at c3
  have c4 := hide (fun W T => dBad f (.slice none 0 0) _ [] [x] 0 _ (rw0 (W.alloc (.cells #[.int .u64 x] T))) (rw1 W x hx T) (by omega))
  rw [bad_one.2 hi] at c4
  have hbe := bsl_els hp0 xs x
  have HR := hide (fun z W u base n (hO : World.ownsRow W base 37 1 u n (vals (bsl p xs z))) => rw_of_own hO (by rw [bsl_len]; omega) (els_words (bsl_els hp0 xs z) htop))
  have c5 := hide (fun W u (hb : Below w.heap.size w W) (hr : Rw W u (bsl p xs x)) => rDot_yes f p wd u v2 (bsl p xs x) ys W h (allIn_of hbe) i2 (by rw [bsl_len]; exact hlen) hr.1 (h2.below hb).1)
  rw [bsl_len, dot_bs] at c5
  have ga := hide (fun W => anch7 W)
  have HPp := hide (fun W => rP_yes f p wd W h)
  have HSu := hide (fun W k => rSum_any p (ds p (bs p xs x) (fun _ => 1) k) (bs p xs x k) W htop (ds_el hp0 _ _ k) (bs_el hp0 xs x k))
  have HSt := hide (fun k => sum_step (x := x) hp0 xs k)
  have HS1 : Hid (0 < xs.length → ds p (bs p xs x) (fun _ => 1) xs.length = 1) := fun h0 => bs_sum h.md hex hn h0 x
  have HXe := hide (fun k => hex.co hp0 k)
  have HBa := hide (fun k (hk : k < xs.length) => bsl_at (p := p) (x := x) hk)
  have HB1 := hide (fun i j (hi' : i < xs.length) (hj : j < xs.length) => bs_one h.md hex hn hi' hj)
  have HBl := hide (fun z => bsl_len p xs z)
  obtain ⟨a2, k2, rfl, _⟩ := h2.spell
  obtain ⟨⟨ax, cx, rfl, _, _, hcx⟩, _⟩ := h1
  obtain ⟨n, HN⟩ : ∃ n, Hid (xs.length = n) := ⟨_, rfl⟩
  have HNy : Hid (ys.length = n) := by rw [← HN.out]; exact hlen.symm
  have hn512 : n ≤ 512 := by rw [← HN.out]; exact hl
  have HCx : Hid (∀ W, Below w.heap.size w W → ∀ j, j < n → ∃ b off, ax = some ⟨b, off, none⟩ ∧ W.cell? ⟨b, off + j, none⟩ = some (.int .u64 (xs.getD j 0))) := fun W hb j hj => by
    obtain ⟨b, off, e, h4, h5⟩ := hcx (by intro e; have := HN.out; rw [e] at this; simp at this; omega)
    exact ⟨b, off, e, (hb.cell (p := ⟨b, off + j, none⟩) h4).trans (h5 j (by rw [HN.out]; exact hj))⟩
  rw [HNy.out] at c2 c3 c5 HAl q2
  rw [HN.out] at c1 c2 c3 c5 HBs HAl HS1 HBa HB1 q1
  rw [HNy.out, HN.out]
  clear hcx hal hbx hz h i1 i2 hlen hn hex hey hi hxe ev ew hbe
  generalize ds p (bs p xs x) (co ys) n = dd at *
  go_enter Try.func7, Try.ntmps7
  go_wp2_with fail
  go_quiet (fail)
  have hB0 := below_drewN HAl.out nq
  clear q1 q2 HAl
  go_wp2_with fail
  refine (c1.out _ hB0).mono ?_; rintro e w1 ⟨u1, rfl, hO1, hb1⟩
  have hB1 := Below.next hB0 hb1
  obtain ⟨b1, m1, rfl⟩ := own_form hO1
  have HO1 := hide hO1
  clear hO1
  go_wp2_with fail
  refine (c2.out _ hB1).mono ?_; rintro e w2 ⟨rfl, hb2⟩
  have hB2 := Below.next hB1 hb2
  go_wp2_with fail
  refine (c3.out _ hB2).mono ?_; rintro e w3 ⟨rfl, hb3⟩
  have hB3 := Below.next hB2 hb3
  go_wp2_with fail
  refine (c4.out _ _).mono ?_; rintro e w4 ⟨rfl, hb4⟩
  have hb4' := Below.next (alloc_below _ _) hb4
  have hB4 := Below.next hB3 hb4'
  have HO4 := hide (own_below (own_below (own_below HO1.out hb2) hb3) hb4')
  have hr4 := hide (HR.out x _ _ _ _ HO4.out)
  clear HO1
  go_wp2_with fail
  refine (c5.out _ _ hB4 hr4.out).mono ?_; rintro e w5 ⟨rfl, hb5⟩
  have hB5 := Below.next hB4 hb5
  have HO5 := hide (own_below HO4.out hb5)
  clear c1 c2 c3 c4 c5 HO4 hr4
  go_wp2
  go_loopw [16, 17] (fun vs vi wr => ∃ k : Nat, k ≤ n ∧ vi = .int .i64 k ∧ vs = .int .u64 (ds p (bs p xs x) (fun _ => 1) k) ∧ Below w5.heap.size w5 wr) (fun _ vi _ => n - (intOf vi).toNat)
  case atStart => exact ⟨0, Nat.zero_le _, rfl, rfl, Below.refl _ _⟩
  case round =>
    obtain ⟨k, hk, rfl, rfl, hb⟩ := hrel
    have hB := Below.next hB5 hb
    by_cases hlt : k < n
    · obtain ⟨bx, ox, rfl, _⟩ := HCx.out wr hB k hlt
      have HCx2 : Hid (∀ W, Below w.heap.size w W → W.cell? ⟨bx, ox + k, none⟩ = some (.int .u64 (xs.getD k 0))) := fun W hb' => by
        obtain ⟨b', o', e', h'⟩ := HCx.out W hb' k hlt
        cases e'; exact h'
      obtain ⟨g, cg, hvg, _, _⟩ := HO5.out.form (by omega)
      injection hvg with hvg _ hcg
      subst hvg hcg
      have hcb : wr.cell? ⟨g, k, none⟩ = some (.int .u64 (bs p xs x k)) := by
        rw [← HBa.out k hlt]; exact own_cell (own_below HO5.out hb) (by rw [HBl.out, HN.out]) hlt
      have s1 := hide (fun W => HSu.out W k)
      rw [HSt.out] at s1
      have s2 := hide (fun W hb' => HBs.out _ (HXe.out k) W hb')
      have HB1k := hide (fun j hj => HB1.out k j hlt hj)
      obtain ⟨d2, HD2⟩ : ∃ d2, Hid (ds p (bs p xs x) (fun _ => 1) (k + 1) = d2) := ⟨_, rfl⟩
      rw [HD2.out] at s1
      have HBlk := hide (HBl.out (xs.getD k 0))
      change Hid (∀ W, Below w.heap.size w W → Calls Try.prog _ #[_, _, .int .u64 (xs.getD k 0)] W _) at s2
      clear HBs HSu HSt HS1 HBa HB1 HBl HCx HXe
      generalize ds p (bs p xs x) (fun _ => 1) k = d1 at *
      generalize bs p xs x k = bk at *
      go_wp2_with fail
      go_quiet (first
        | (go_at_call 30; exact Calls.quiet_of_same (HPp.out _))
        | (go_at_call 29; exact Calls.quiet_of_same (s1.out _)))
      have hBd := below_drewN hB nq
      have hbd := below_drewN hb nq
      have hcx := HCx2.out _ hBd
      clear s1 HPp hcb
      go_wp2_with (go_at_call 19; refine (s2.out _ hBd).mono ?_; rintro e w7 ⟨u7, rfl, hO7, hb7⟩; have HO7 := hide hO7; obtain ⟨b7, m7, rfl⟩ := own_form hO7; clear hO7)
      have hb8 := Below.next hbd hb7
      clear s2 HCx2 hcx
      go_loopw [20] (fun vj wr => ∃ j : Nat, j ≤ n ∧ vj = .int .i64 j ∧ Below w7.heap.size w7 wr) (fun vj _ => n - (intOf vj).toNat)
      case atStart => exact ⟨0, Nat.zero_le _, rfl, Below.refl _ _⟩
      case round =>
        obtain ⟨j, hj, rfl, hb9⟩ := hrel
        by_cases hjn : j < n
        · obtain ⟨g7, cg7, hvg, _, _⟩ := HO7.out.form (by omega)
          injection hvg with hvg _ hcg
          subst hvg hcg
          have hc7 : wr.cell? ⟨g7, j, none⟩ = some (.int .u64 (if j = k then 1 else 0)) := by
            rw [← HB1k.out j hjn]; exact own_cell (own_below HO7.out hb9) (by rw [HBlk.out, HN.out]) hjn
          by_cases hjk : j = k
          · rw [if_pos hjk] at hc7
            subst hjk
            have e1 : ((j : Int) == (j : Int)) = true := by simp
            have e2 : ((j : Int) != (j : Int)) = false := by simp
            go_wp2
            go_roundw
            case rel => exact ⟨j + 1, by omega, by go_num, hb9⟩
            case measure => simp [intOf]; omega
          · rw [if_neg hjk] at hc7
            have e1 : ((j : Int) == (k : Int)) = false := beq_eq_false_iff_ne.2 (by omega)
            have e2 : ((j : Int) != (k : Int)) = true := bne_iff_ne.2 (by omega)
            clear hjk
            go_wp2
            go_roundw
            case rel => exact ⟨j + 1, by omega, by go_num, hb9⟩
            case measure => simp [intOf]; omega
        · obtain rfl : j = n := by omega
          have hb10 := Below.next hb8 hb9
          go_wp2
          go_roundw
          case rel => exact ⟨k + 1, by omega, by go_num, by rw [HD2.out], hb10⟩
          case measure => simp [intOf]; omega
    · obtain rfl : k = n := by omega
      clear HBs HSu HSt HBa HB1 HBl HCx HXe HPp
      by_cases h0 : k = 0
      · subst h0
        go_wp2_with (go_at_call 14; refine (ga.out _).mono ?_; rintro e w9 ⟨rfl, hb9⟩)
        go_ret
        exact ⟨rfl, Below.next hB hb9⟩
      · rw [HS1.out (by omega)]
        have e1 : ((k : Int) == 0) = false := beq_eq_false_iff_ne.2 (by omega)
        go_wp2_with (go_at_call 14; refine (ga.out _).mono ?_; rintro e w9 ⟨rfl, hb9⟩)
        go_ret
        exact ⟨rfl, Below.next hB hb9⟩

theorem isums_any (f : Int) (v1 v2 : Value) (xs ys : List Int) (x : Int) (w : World) (h1 : Rw w v1 xs) (h2 : Rw w v2 ys) (hx : 0 ≤ x ∧ x ≤ 18446744073709551615) :
    Calls Try.prog 7 #[.int .u8 f, .agg #[v1, v2], .int .u64 x] w fun e w' => e = .returned (.bool true) ∧ Below w.heap.size w w' := by
  by_cases hz : bad f xs ys ys.length = 0
  · cases hi : inF f [x] with
    | true => exact isums_yes f v1 v2 xs ys x w h1 h2 hx hz hi
    | false => exact isums_no f v1 v2 xs ys x w h1 h2 hx (.inr hi)
  · exact isums_no f v1 v2 xs ys x w h1 h2 hx (.inl hz)

end Go.Proofs.Ytdonfilofdfpbaa
