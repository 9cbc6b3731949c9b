/-
  Layer 7: InterpMeets' walk.
-/
import Derived.Test.YtdonfilofdfpbaaBLawIA
namespace Go.Proofs.Ytdonfilofdfpbaa
open Go.RowKit Fld
set_option linter.unusedVariables false

/-- A polynomial is the one through its values. -/
theorem meets_back {f p : Int} {wd : Bool} (h : Fi f p wd) {xs Q : List Int} (hx : Els p xs) (hn : xs.Nodup) (hl : xs.length ≤ 512) (hQ : Tm p Q) (hlen : Q.length ≤ xs.length) : bad f xs (xs.map (fun x => vl p x Q)) (xs.map (fun x => vl p x Q)).length = 0 ∧ thrL f xs (xs.map (fun x => vl p x Q)) = Q := by
  have hv : Els p (xs.map (fun x => vl p x Q)) := fun y hy => by obtain ⟨x, _, rfl⟩ := List.mem_map.1 hy; exact vl_el h.pos x Q
  have e1 : inF f xs = true := by rw [inF_yes h]; exact allIn_of hx
  have e2 : inF f (xs.map (fun x => vl p x Q)) = true := by rw [inF_yes h]; exact allIn_of hv
  have e3 : bad f xs (xs.map (fun x => vl p x Q)) (xs.map (fun x => vl p x Q)).length = 0 := by rw [bad_end e1 e2 (by simp) (by omega), if_pos hn]
  refine ⟨e3, ?_⟩
  unfold thrL
  rw [if_pos e3, pOf_eq h]
  exact (tp_thr h.md hx hv hn).only h.md hx hn (Thr.of hQ hlen)
theorem take_map_one (g : Int → Int) (zs : List Int) {k : Nat} (hk : k < zs.length) : (zs.take k).map g ++ [g (zs.getD k 0)] = (zs.take (k + 1)).map g := by
  rw [List.take_succ_eq_append_getElem hk, List.map_append, List.getD_eq_getElem?_getD, List.getElem?_eq_getElem hk]; rfl
theorem eval_el {f p x : Int} {wd : Bool} (h : Fi f p wd) (hx : El p x) {Q : List Int} (hQ : Els p Q) (hl : Q.length ≤ 4096) : er f Q [x] = 0 ∧ valE f x Q = vl p x Q := by
  have he : er f Q [x] = 0 := er_yes h (allIn_of hQ) (allIn_of (fun y hy => by rw [List.mem_singleton.1 hy]; exact hx)) hl (by simp)
  exact ⟨he, by unfold valE; rw [if_pos he, pOf_eq h]⟩

set_option maxRecDepth 100000 in
set_option maxHeartbeats 400000 in
theorem imeets_no (f : Int) (v1 v2 vq : Value) (xs ys qs : List Int) (w : World) (h1 : Rw w v1 xs) (h2 : Rw w v2 ys) (h3 : Rw w vq qs) (hz : bad f xs ys ys.length ≠ 0) :
    Calls Try.prog 6 #[.int .u8 f, .agg #[v1, v2], vq] w fun e w' => e = .returned (.bool true) ∧ Below w.heap.size w w' := by
  obtain ⟨hal, hbx⟩ := box2 w v1 v2 23
  obtain ⟨q1, q2⟩ := hbx _ (Below.refl _ _)
  have HAl := hide hal
  have c1 := hide (fun W (hb : Below w.heap.size w W) => iThrough f v1 v2 xs ys W (h1.below hb) (h2.below hb))
  have c2 := hide (fun W (hb : Below w.heap.size w W) => dBad f v1 v2 xs ys ys.length W (h1.below hb) (h2.below hb) h2.len)
  have ga := hide (fun W => anch7 W)
  have ht : (bad f xs ys ys.length != 0) = true := bne_iff_ne.2 hz
  obtain ⟨a1, k1, rfl, _⟩ := h1.spell
  obtain ⟨a2, k2, rfl, _⟩ := h2.spell
  obtain ⟨a3, k3, rfl, _⟩ := h3.spell
  unfold Gives at c1
  clear h1 h2 h3 hal hbx hz
  generalize bad f xs ys ys.length = e1 at *
  generalize thrL f xs ys = tl at *
  generalize xs.length = n1 at *
  generalize ys.length = n2 at *
  generalize qs.length = n3 at *
  go_enter Try.func6, Try.ntmps6
  go_wp2_with fail
  go_quiet (fail)
  have hB0 := below_drewN HAl.out nq
  clear q1 q2
  go_wp2_with (first
    | (go_at_call 9; refine (c1.out _ hB0).mono ?_; rintro e w1 ⟨u1, rfl, hO1, hb1⟩; have hB1 := Below.next hB0 hb1; clear hO1)
    | (go_at_call 24; refine (c2.out _ hB1).mono ?_; rintro e w2 ⟨rfl, hb2⟩; have hB2 := Below.next hB1 hb2)
    | (go_at_call 14; refine (ga.out _).mono ?_; rintro e w6 ⟨rfl, hb6⟩))
  go_ret
  exact ⟨rfl, Below.next hB2 hb6⟩

set_option maxRecDepth 100000 in
set_option maxHeartbeats 1000000 in
theorem imeets_yes (f : Int) (v1 v2 vq : Value) (xs ys qs : List Int) (w : World) (h1 : Rw w v1 xs) (h2 : Rw w v2 ys) (h3 : Rw w vq qs) (hz : bad f xs ys ys.length = 0) :
    Calls Try.prog 6 #[.int .u8 f, .agg #[v1, v2], vq] w fun e w' => e = .returned (.bool true) ∧ Below w.heap.size w w' := by
  obtain ⟨i0, hi0, hz0, hz1, hz2⟩ := info_parts u64_info
  obtain ⟨p, wd, h, i1, i2, hlen, hl, hn⟩ := bad_zero hz
  have hex := els_of i1 h1.words
  have hey := els_of i2 h2.words
  have hp0 := h.pos
  have htop := h.top
  obtain ⟨hal, hbx⟩ := box2 w v1 v2 23
  obtain ⟨q1, q2⟩ := hbx _ (Below.refl _ _)
  have HAl := hide hal
  have c1 := hide (fun W (hb : Below w.heap.size w W) => iThrough f v1 v2 xs ys W (h1.below hb) (h2.below hb))
  have c2 := hide (fun W (hb : Below w.heap.size w W) => dBad f v1 v2 xs ys ys.length W (h1.below hb) (h2.below hb) h2.len)
  have ga := hide (fun W => anch7 W)
  unfold Gives at c1
  have e3 : thrL f xs ys = tp p xs ys xs.length := by unfold thrL; rw [if_pos hz, pOf_eq h]
  rw [hz, e3] at c1
  rw [hz] at c2
  have hT := tp_thr h.md hex hey hn
  have HTe := hide hT.1.1
  have htl := hT.2.1
  have HR := hide (fun W u base n (hO : World.ownsRow W base 37 1 u n (vals (tp p xs ys xs.length))) => rw_of_own hO (by omega) (els_words hT.1.1 htop))
  have c3 : Hid (∀ k, k < xs.length → ∀ W u, Rw W u (tp p xs ys xs.length) → Calls Try.prog 25 #[.int .u8 f, u, .int .u64 (xs.getD k 0)] W fun e w' => e = .returned (.tuple #[.int .u64 (ys.getD k 0), .int .i64 0]) ∧ Below W.heap.size W w') := fun k hk W u hr => by
    have hxe : El p (xs.getD k 0) := hex.co hp0 k
    have := dEval_any f (xs.getD k 0) u (tp p xs ys xs.length) W (elWord hxe htop) hr
    rw [(eval_el h hxe hT.1.1 (by omega)).1, (eval_el h hxe hT.1.1 (by omega)).2] at this
    have e := hT.2.2 k hk
    have e' : vl p (xs.getD k 0) (tp p xs ys xs.length) = ys.getD k 0 := e
    rw [e'] at this; exact this
  have c4 := hide (fun W (hb : Below w.heap.size w W) => rTrim_any vq qs W (h3.below hb))
  have hql : (tr qs).length ≤ 17592186043904 := by have := tr_len qs; have := h3.len; omega
  have HRq := hide (fun W u base n (hO : World.ownsRow W base 37 1 u n (vals (tr qs))) => rw_of_own hO hql (fun x hx => h3.words x (List.mem_of_mem_take (by rw [take_tr_len]; exact hx))))
  have c5 := hide (fun W u r => rBad_any f u (.slice none 0 0) (tr qs) [] W r (rw0 W))
  have HGo : Hid (er f (tr qs) [] = 0 → (tr qs).length ≤ xs.length → Tm p (tr qs)) := fun he _ => by
    obtain ⟨p', wd', h', j1, _, _, _⟩ := er_zero he
    have e : p' = p := by rw [← pOf_eq h', ← pOf_eq h]
    subst e
    have hqw : ∀ x ∈ tr qs, 0 ≤ x ∧ x ≤ 18446744073709551615 := fun x hx => h3.words x (List.mem_of_mem_take (by rw [take_tr_len]; exact hx))
    exact ⟨els_of j1 hqw, tr_tr qs⟩
  have c6 : Hid (Tm p (tr qs) → (tr qs).length ≤ xs.length → ∀ k, k < xs.length → ∀ W u, Rw W u (tr qs) → Calls Try.prog 25 #[.int .u8 f, u, .int .u64 (xs.getD k 0)] W fun e w' => e = .returned (.tuple #[.int .u64 (vl p (xs.getD k 0) (tr qs)), .int .i64 0]) ∧ Below W.heap.size W w') := fun hQ hle k hk W u hr => by
    have hxe : El p (xs.getD k 0) := hex.co hp0 k
    have := dEval_any f (xs.getD k 0) u (tr qs) W (elWord hxe htop) hr
    rw [(eval_el h hxe hQ.1 (by omega)).1, (eval_el h hxe hQ.1 (by omega)).2] at this
    exact this
  have c7 : Hid (Tm p (tr qs) → (tr qs).length ≤ xs.length → ∀ W u base n, Below w.heap.size w W → World.ownsRow W base 37 1 u n (vals (xs.map (fun x => vl p x (tr qs)))) → Calls Try.prog 9 #[.int .u8 f, v1, u] W fun e w' => ∃ v', e = .returned (.tuple #[v', .int .i64 0]) ∧ w'.ownsRow W.heap.size 37 1 v' (tr qs).length (vals (tr qs)) ∧ Below W.heap.size W w') := fun hQ hle W u base n hb hO => by
    have hv : Els p (xs.map (fun x => vl p x (tr qs))) := fun y hy => by obtain ⟨x, _, rfl⟩ := List.mem_map.1 hy; exact vl_el hp0 x _
    have := iThrough f v1 u xs (xs.map (fun x => vl p x (tr qs))) W (h1.below hb) (rw_of_own hO (by simp; omega) (els_words hv htop))
    unfold Gives at this
    rw [(meets_back h hex hn hl hQ hle).1, (meets_back h hex hn hl hQ hle).2] at this
    exact this
  obtain ⟨a3, k3, rfl, _⟩ := h3.spell
  obtain ⟨⟨ax, cx, rfl, _, _, hcx⟩, _⟩ := h1
  obtain ⟨⟨ay, cy, rfl, _, _, hcy⟩, _⟩ := h2
  obtain ⟨n, HN⟩ : ∃ n, Hid (xs.length = n) := ⟨_, rfl⟩
  have HNy : Hid (ys.length = n) := by rw [← HN.out]; exact hlen.symm
  have HCx : Hid (∀ W, Below w.heap.size w W → ∀ j, j < n → ∃ b off, ax = some ⟨b, off, none⟩ ∧ W.cell? ⟨b, off + j, none⟩ = some (.int .u64 (xs.getD j 0))) := fun W hb j hj => by
    obtain ⟨b, off, e, h4, h5⟩ := hcx (by intro e; have := HN.out; rw [e] at this; simp at this; omega)
    exact ⟨b, off, e, (hb.cell (p := ⟨b, off + j, none⟩) h4).trans (h5 j (by rw [HN.out]; exact hj))⟩
  have HCy : Hid (∀ W, Below w.heap.size w W → ∀ j, j < n → ∃ b off, ay = some ⟨b, off, none⟩ ∧ W.cell? ⟨b, off + j, none⟩ = some (.int .u64 (ys.getD j 0))) := fun W hb j hj => by
    obtain ⟨b, off, e, h4, h5⟩ := hcy (by intro e; have := HNy.out; rw [e] at this; simp at this; omega)
    exact ⟨b, off, e, (hb.cell (p := ⟨b, off + j, none⟩) h4).trans (h5 j (by rw [HNy.out]; exact hj))⟩
  have HSn := hide (fun k (hk : k < xs.length) => take_map_one (fun x => vl p x (tr qs)) xs hk)
  have hn512 : n ≤ 512 := by rw [← HN.out]; exact hl
  have HTk : Hid (xs.take n = xs) := by show _ = _; rw [← HN.out]; exact List.take_length
  rw [HNy.out] at c1 c2 HAl q2
  rw [HN.out] at c1 c2 c3 c6 c7 HAl HGo HSn q1 htl HR
  rw [HNy.out, HN.out]
  clear hcx hcy hal hbx hz h i1 i2 hlen hn hex hey hT e3 HTe
  generalize tp p xs ys n = T at *
  have hng : ¬ n < T.length := by omega
  have hng2 : decide (n < T.length) = false := decide_eq_false hng
  clear htl
  generalize qs.length = nq0 at *
  generalize tr qs = Q at *
  go_enter Try.func6, Try.ntmps6
  go_wp2_with fail
  go_quiet (fail)
  have hB0 := below_drewN HAl.out nq
  clear q1 q2 HAl
  go_wp2_with (first
    | (go_at_call 9; refine (c1.out _ hB0).mono ?_; rintro e w1 ⟨u1, rfl, hO1, hb1⟩; have hB1 := Below.next hB0 hb1; have hr1 := HR.out _ _ _ _ hO1; obtain ⟨b1, m1, rfl⟩ := own_form hO1; clear hO1)
    | (go_at_call 24; refine (c2.out _ hB1).mono ?_; rintro e w2 ⟨rfl, hb2⟩; have hB2 := Below.next hB1 hb2; have hr2 := hide (hr1.below hb2)))
  clear c1 c2 hr1
  go_loopw [13] (fun vi wr => ∃ k : Nat, k ≤ n ∧ vi = .int .i64 k ∧ Below w2.heap.size w2 wr) (fun vi _ => n - (intOf vi).toNat)
  case atStart => exact ⟨0, Nat.zero_le _, rfl, Below.refl _ _⟩
  case round =>
    obtain ⟨k, hk, rfl, hb⟩ := hrel
    have hB := Below.next hB2 hb
    by_cases hlt : k < n
    · obtain ⟨bx, ox, rfl, d1⟩ := HCx.out wr hB k hlt
      obtain ⟨by2, oy, rfl, _⟩ := HCy.out wr hB k hlt
      have HCy2 : Hid (∀ W, Below w.heap.size w W → W.cell? ⟨by2, oy + k, none⟩ = some (.int .u64 (ys.getD k 0))) := fun W hb' => by
        obtain ⟨b', o', e', h'⟩ := HCy.out W hb' k hlt
        cases e'; exact h'
      have cc := hide (c3.out k hlt wr _ (hr2.out.below hb))
      clear c3 c4 c5 c6 c7 HCx HCy HSn HGo
      generalize xs.getD k 0 = xk at *
      generalize ys.getD k 0 = yk at *
      go_wp2_with (go_at_call 25; refine cc.out.mono ?_; rintro e w3 ⟨rfl, hb3⟩; have d2 := HCy2.out _ (Below.next hB hb3))
      have hb4 := Below.next hb hb3
      go_roundw
      case rel => exact ⟨k + 1, by omega, by go_num, hb4⟩
      case measure => simp [intOf]; omega
    · obtain rfl : k = n := by omega
      clear c3 HCy
      by_cases hgo : er f Q [] = 0 ∧ Q.length ≤ k
      · have hTm := HGo.out hgo.1 hgo.2
        have c6 := hide (fun j hj => c6.out hTm hgo.2 j hj)
        have c7 := hide (fun W u base n hb hO => c7.out hTm hgo.2 W u base n hb hO)
        have hQl := hgo.2
        rw [hgo.1] at c5
        clear HGo hgo hTm
        have hnq : ¬ k < Q.length := by omega
        have hnq2 : decide (k < Q.length) = false := decide_eq_false hnq
        go_wp2_with (first
          | (go_at_call 26; refine (c4.out _ hB).mono ?_; rintro e w4 ⟨u4, rfl, hO4, hb4⟩; have hB4 := Below.next hB hb4; have hr4 := hide (HRq.out _ _ _ _ hO4); obtain ⟨b4, m4, rfl⟩ := own_form hO4; clear hO4)
          | (go_at_call 27; refine (c5.out _ _ hr4.out).mono ?_; rintro e w5 ⟨rfl, hw5⟩; rw [hw5]; clear hw5))
        clear c4 c5 hQl
        go_loopw [16, 17] (fun vo vi wr => ∃ i : Nat, i ≤ k ∧ vi = .int .i64 i ∧ Hid (wr.ownsRow w4.heap.size 37 1 vo i (vals ((xs.take i).map (fun x => vl p x Q)))) ∧ Below w4.heap.size w4 wr) (fun _ vi _ => k - (intOf vi).toNat)
        case atStart => exact ⟨0, Nat.zero_le _, rfl, World.ownsRow_nil _ _ _ _, Below.refl _ _⟩
        case round =>
          obtain ⟨i, hi, rfl, HO, hb6⟩ := hrel
          have hB6 := Below.next hB4 hb6
          by_cases hlt2 : i < k
          · obtain ⟨bx, ox, rfl, d1⟩ := HCx.out wr hB6 i hlt2
            have cc := hide (c6.out i hlt2 wr _ (hr4.out.below hb6))
            have HS := hide (HSn.out i hlt2)
            have hml : ((xs.take i).map (fun x => vl p x Q)).length = i := by rw [List.length_map, List.length_take, HN.out]; omega
            clear c6 c7 HCx HSn
            generalize vl p (xs.getD i 0) Q = y at *
            generalize xs.getD i 0 = xk at *
            go_wp2_with (first
              | (go_at_call 25; refine cc.out.mono ?_; rintro e w7 ⟨rfl, hb7⟩; have hown2 := own_below HO.out hb7; have hb8 := Below.next hb6 hb7; have hsz2 := hb8.size)
              | (at_builtin; refine wpList_append_lies _ rfl _ _ _ rfl w4.heap.size 37 i0 _ 1 8 Try.underlying22 hi0 hz0 hz1 hz2 rfl (by omega) u16 i _ rfl (hown2.alloc _) ⟨w7.heap.size, 0, none⟩ 1 1 [.int .u64 y] rfl rfl (World.news_of_block (cs := #[.int .u64 y]) (t := 37) (fr := (0, 0)) (heap_alloc_new w7 _)) (by simp [Value.oneCell']) (by omega) (by unfold maxLen; omega) (by omega) (by simp; omega) (w7.heap.size + 1) (by simp) ?_; intro gg cap2 w8 hown3 hgrow hat hltg))
            have R := hide (push_step hb8 hown2 hown3 hgrow HS.out)
            clear hown3 hgrow hat hltg hown2 HO
            go_roundw
            case rel => exact ⟨i + 1, by omega, by go_num, R.out.1, R.out.2⟩
            case measure => simp [intOf]; omega
          · obtain rfl : i = k := by omega
            rw [HTk.out] at HO
            have cc := hide (c7.out wr _ _ _ hB6 HO.out)
            obtain ⟨b6, m6, rfl⟩ := own_form HO.out
            have hr6 := hide (hr4.out.below hb6)
            clear c6 c7 HCx HSn HO
            go_wp2_with (first
              | (go_at_call 9; refine cc.out.mono ?_; rintro e w7 ⟨u7, rfl, hO7, hb7⟩; have hB7 := Below.next hB6 hb7; have hr7 := hide (HRq.out _ _ _ _ hO7); have hr8 := hide (hr6.out.below hb7); clear hO7)
              | (go_at_call 14; refine (ga.out _).mono ?_; rintro e w9 ⟨rfl, hb9⟩; have hB9 := Below.next hB7 hb9; have s1 := hide (hr7.out.below hb9).1; have s2 := hide (hr8.out.below hb9).1)
              | (go_at_call 13; refine (Same_yes _ _ _ _ s1.out s2.out).mono ?_; rintro e w10 ⟨rfl, hb10⟩))
            go_ret
            exact ⟨rfl, Below.next hB9 hb10⟩
      · clear c6 c7 HGo HCx HSn
        by_cases he : er f Q [] = 0
        · have hgt : k < Q.length := by
            apply Nat.lt_of_not_le; intro hc; exact hgo ⟨he, hc⟩
          rw [he] at c5
          clear he hgo
          go_wp2_with (first
            | (go_at_call 26; refine (c4.out _ hB).mono ?_; rintro e w4 ⟨u4, rfl, hO4, hb4⟩; have hB4 := Below.next hB hb4; have hr4 := hide (HRq.out _ _ _ _ hO4); obtain ⟨b4, m4, rfl⟩ := own_form hO4; clear hO4)
            | (go_at_call 27; refine (c5.out _ _ hr4.out).mono ?_; rintro e w5 ⟨rfl, hw5⟩; rw [hw5]; clear hw5)
            | (go_at_call 14; refine (ga.out _).mono ?_; rintro e w9 ⟨rfl, hb9⟩))
          go_ret
          exact ⟨rfl, Below.next hB4 hb9⟩
        · have ht : (er f Q [] != 0) = true := bne_iff_ne.2 he
          clear he hgo
          generalize er f Q [] = e0 at *
          go_wp2_with (first
            | (go_at_call 26; refine (c4.out _ hB).mono ?_; rintro e w4 ⟨u4, rfl, hO4, hb4⟩; have hB4 := Below.next hB hb4; have hr4 := hide (HRq.out _ _ _ _ hO4); obtain ⟨b4, m4, rfl⟩ := own_form hO4; clear hO4)
            | (go_at_call 27; refine (c5.out _ _ hr4.out).mono ?_; rintro e w5 ⟨rfl, hw5⟩; rw [hw5]; clear hw5)
            | (go_at_call 14; refine (ga.out _).mono ?_; rintro e w9 ⟨rfl, hb9⟩))
          go_ret
          exact ⟨rfl, Below.next hB4 hb9⟩

theorem imeets_any (f : Int) (v1 v2 : Value) (xs ys : List Int) (vq : Value) (qs : List Int) (w : World) (h1 : Rw w v1 xs) (h2 : Rw w v2 ys) (h3 : Rw w vq qs) :
    Calls Try.prog 6 #[.int .u8 f, .agg #[v1, v2], vq] w fun e w' => e = .returned (.bool true) ∧ Below w.heap.size w w' := by
  by_cases hz : bad f xs ys ys.length = 0
  · exact imeets_yes f v1 v2 vq xs ys qs w h1 h2 h3 hz
  · exact imeets_no f v1 v2 vq xs ys qs w h1 h2 h3 hz

end Go.Proofs.Ytdonfilofdfpbaa
