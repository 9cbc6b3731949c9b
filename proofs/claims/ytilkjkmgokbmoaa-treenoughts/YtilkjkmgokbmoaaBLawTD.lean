/-
  TreeNoughts' walk.
-/
import Derived.Test.YtilkjkmgokbmoaaBLawTC
namespace Go.Proofs.Ytilkjkmgokbmoaa
open Go.RowKit Fld
set_option linter.unusedVariables false

theorem er_one {f p y : Int} {wd : Bool} (h : Fi f p wd) (he : er f [y] [] = 0) (hy : 0 ≤ y ∧ y ≤ 18446744073709551615) : El p y := by
  obtain ⟨p', wd', h', i1, _, _, _⟩ := er_zero he
  have e := pOf_eq h
  rw [pOf_eq h'] at e
  subst e
  exact els_of i1 (by simp [hy]) y (List.mem_singleton.2 rfl)
theorem er_of_chk {f : Int} {xs : List Int} (h : chk f [xs] = 0) : er f xs [] = 0 := by
  obtain ⟨p, wd, hf, hi, hl⟩ := chk_one h
  exact er_yes hf hi rfl (by omega) (by simp)
/-- What the calls answer where all is right. -/
theorem nought_facts {f p : Int} {wd : Bool} (h : Fi f p wd) {P xs : List Int} (hP : Els p P) (hx : Els p xs) (l1 : P.length ≤ 200) (l2 : xs.length ≤ 200) :
    chk f [xs] = 0 ∧ chk f [P, xs] = 0 ∧ zeroL f xs = zl p xs ∧ valsL f P xs = xs.map (fun x => vl p x P) ∧ rmE f P (xs.map (fac p)) = 0 ∧ ∀ rss, RmE f P (xs.map (fac p)) rss → rss = xs.map (fun x => tr [vl p x P]) := by
  have i1 : inF f P = true := by rw [inF_yes h]; exact allIn_of hP
  have i2 : inF f xs = true := by rw [inF_yes h]; exact allIn_of hx
  have c1 : chk f [xs] = 0 := chk_ok (fun i hi => by
    have : i = 0 := by simp at hi; omega
    subst this; exact i2) (fun i hi => by
    have : i = 0 := by simp at hi; omega
    subst this; show xs.length ≤ 2048; omega)
  have c2 : chk f [P, xs] = 0 := chk_ok (two_all ⟨i1, i2⟩) (fun i hi => by
    obtain rfl | rfl : i = 0 ∨ i = 1 := by simp at hi; omega
    · show P.length ≤ 2048; omega
    · show xs.length ≤ 2048; omega)
  have hge : ∀ i, i < xs.length → (xs.map (fac p)).getD i [] = fac p (co xs i) := fun i hi => by
    rw [List.getD_eq_getElem?_getD, List.getElem?_map, co_at hi, List.getElem?_eq_getElem hi]; rfl
  have hne : ∀ x, tr (fac p x) ≠ [] := fun x => by rw [(fac_tm h.md).2]; simp [fac]
  have hfl : ∀ x, (fac p x).length = 2 := fun x => rfl
  have c3 : chk f (P :: xs.map (fac p)) = 0 := chk_ok (fun i hi => by
    cases i with
    | zero => exact i1
    | succ i =>
      show inF f ((xs.map (fac p)).getD i []) = true
      rw [hge i (by simpa using hi), inF_yes h]; exact allIn_of (fac_tm h.md).1) (fun i hi => by
    cases i with
    | zero => show P.length ≤ 2048; omega
    | succ i =>
      show ((xs.map (fac p)).getD i []).length ≤ 2048
      rw [hge i (by simpa using hi), hfl]; omega)
  have c4 : rmE f P (xs.map (fac p)) = 0 := rmE_ok c3 (by rw [List.length_map]; omega) (fun i hi => by
    rw [List.length_map] at hi
    rw [hge i hi]; exact hne _)
  refine ⟨c1, c2, by unfold zeroL; rw [if_pos c1, pOf_eq h], by unfold valsL; rw [if_pos c2, pOf_eq h], c4, fun rss hr => ?_⟩
  obtain ⟨a1, a2⟩ := hr.2 c4
  rw [List.length_map] at a1 a2
  refine ext_getDD (by rw [a1, List.length_map]) (fun i hi => ?_)
  rw [a1] at hi
  obtain ⟨q, hq⟩ := a2 i hi
  rw [hge i hi, pOf_eq h] at hq
  rw [rem_fac h.md (hx.co h.pos i) hq, List.getD_eq_getElem?_getD, List.getElem?_map, co_at hi, List.getElem?_eq_getElem hi]; rfl
theorem mem_take_snoc {xs : List Int} {k : Nat} {y : Int} (h : k < xs.length) : y ∈ xs.take (k + 1) ↔ y ∈ xs.take k ∨ xs.getD k 0 = y := by
  rw [List.take_succ_eq_append_getElem h, List.mem_append, List.mem_singleton, List.getD_eq_getElem?_getD, List.getElem?_eq_getElem h]
  constructor
  · rintro (a | a)
    · exact .inl a
    · exact .inr a.symm
  · rintro (a | a)
    · exact .inl a
    · exact .inr a.symm

set_option maxRecDepth 100000 in
set_option maxHeartbeats 1000000 in
theorem tnoughts_no (f : Int) (v1 v2 : Value) (P xs : List Int) (y : Int) (w : World) (h1 : Rw w v1 P) (h2 : Rw w v2 xs) (hy : 0 ≤ y ∧ y ≤ 18446744073709551615) (hgo : ¬ (er f P xs = 0 ∧ er f [y] [] = 0 ∧ xs.length ≤ 200 ∧ P.length ≤ 200)) :
    Calls Try.prog 6 #[.int .u8 f, .agg #[v1, v2], .int .u64 y] w fun e w' => e = .returned (.bool true) ∧ Below w.heap.size w w' := by
  have gb := hide (fun W (hb : Below w.heap.size w W) => rBad_any f v1 v2 P xs W (h1.below hb) (h2.below hb))
  have gc := hide (fun W T => rBad_any f (.slice (some ⟨W.heap.size, 0, none⟩) 1 1) (.slice none 0 0) [y] [] (W.alloc (.cells #[.int .u64 y] T)) (rw1 W y hy T) (rw0 _))
  have gx := hide (fun W (hb : Below w.heap.size w W) => rBad_any f v2 (.slice none 0 0) xs [] W (h2.below hb) (rw0 _))
  have gz := hide (fun W (hb : Below w.heap.size w W) => tZero_any f v2 xs W (h2.below hb))
  have gt := hide (fun W (hb : Below w.heap.size w W) => tTree_any f v2 xs W (h2.below hb))
  have ga := hide (fun W => anch6 W)
  have HB0 : Hid (∀ o nq, Below w.heap.size w ((w.alloc o).drewN nq)) := fun o nq => below_drewN (alloc_below w o) nq
  have l1 := h1.len
  have l2 := h2.len
  unfold Gives at gz
  unfold GivesT at gt
  obtain ⟨a1, c1, rfl, _⟩ := h1.spell
  obtain ⟨a2, c2, rfl, _⟩ := h2.spell
  have hxe : Hid (chk f [xs] = 0 → er f xs [] = 0) := fun h => er_of_chk h
  clear h1 h2
  by_cases hA : er f P xs = 0
  · rw [hA] at gb
    by_cases hBy : er f [y] [] = 0
    · rw [hBy] at gc
      by_cases hC : 200 < xs.length
      · clear hA hBy
        by_cases he : chk f [xs] = 0
        · rw [hxe.out he] at gx
          rw [he] at gz gt
          clear hgo hxe he
          go_enter Try.func6, Try.ntmps6
          go_wp2_with fail
          go_quiet (fail)
          have hb0 := HB0.out (.cells #[.slice a1 P.length c1, .slice a2 xs.length c2] 47) nq
          generalize (w.alloc (.cells #[.slice a1 P.length c1, .slice a2 xs.length c2] 47)).drewN nq = W1 at *
          go_wp2_with fail
          refine (gz.out _ hb0).mono ?_; rintro e w1 ⟨u1, rfl, hO1, hb1⟩
          have hB1 := Below.next hb0 hb1
          go_wp2_with fail
          refine (gt.out _ hB1).mono ?_; rintro e w2 ⟨u2, cut, vs, uss, N, rfl, hV, hT, _, hb2⟩
          have hB2 := Below.next hB1 hb2
          go_wp2_with fail
          refine (gb.out _ hB2).mono ?_; rintro e w3 ⟨rfl, hw⟩; rw [hw]; clear hw
          go_wp2_with fail
          refine (gc.out _ _).mono ?_; rintro e w3 ⟨rfl, hw⟩; rw [hw]; clear hw
          have hB3 := Below.next hB2 (alloc_below w2 (.cells #[.int .u64 y] 48))
          go_wp2_with fail
          refine (ga.out _).mono ?_; rintro e w4 ⟨rfl, hb4⟩
          have hB4 := Below.next hB3 hb4
          go_wp2_with fail
          refine (gx.out _ hB4).mono ?_; rintro e w5 ⟨rfl, hw⟩; rw [hw]; clear hw
          go_wp2
          go_ret
          exact ⟨rfl, hB4⟩
        · have htc : (chk f [xs] != 0) = true := bne_iff_ne.2 he
          generalize chk f [xs] = e9 at *
          clear hgo gx hxe he
          go_enter Try.func6, Try.ntmps6
          go_wp2_with fail
          go_quiet (fail)
          have hb0 := HB0.out (.cells #[.slice a1 P.length c1, .slice a2 xs.length c2] 47) nq
          generalize (w.alloc (.cells #[.slice a1 P.length c1, .slice a2 xs.length c2] 47)).drewN nq = W1 at *
          go_wp2_with fail
          refine (gz.out _ hb0).mono ?_; rintro e w1 ⟨u1, rfl, hO1, hb1⟩
          have hB1 := Below.next hb0 hb1
          go_wp2_with fail
          refine (gt.out _ hB1).mono ?_; rintro e w2 ⟨u2, cut, vs, uss, N, rfl, hV, hT, _, hb2⟩
          have hB2 := Below.next hB1 hb2
          go_wp2_with fail
          refine (gb.out _ hB2).mono ?_; rintro e w3 ⟨rfl, hw⟩; rw [hw]; clear hw
          go_wp2_with fail
          refine (gc.out _ _).mono ?_; rintro e w3 ⟨rfl, hw⟩; rw [hw]; clear hw
          have hB3 := Below.next hB2 (alloc_below w2 (.cells #[.int .u64 y] 48))
          go_wp2_with fail
          refine (ga.out _).mono ?_; rintro e w4 ⟨rfl, hb4⟩
          go_wp2
          go_ret
          exact ⟨rfl, Below.next hB3 hb4⟩
      · have hD : 200 < P.length := by
          apply Nat.lt_of_not_le; intro hc; exact hgo ⟨hA, hBy, by omega, hc⟩
        clear hA hBy
        by_cases he : chk f [xs] = 0
        · rw [hxe.out he] at gx
          rw [he] at gz gt
          clear hgo hxe he
          go_enter Try.func6, Try.ntmps6
          go_wp2_with fail
          go_quiet (fail)
          have hb0 := HB0.out (.cells #[.slice a1 P.length c1, .slice a2 xs.length c2] 47) nq
          generalize (w.alloc (.cells #[.slice a1 P.length c1, .slice a2 xs.length c2] 47)).drewN nq = W1 at *
          go_wp2_with fail
          refine (gz.out _ hb0).mono ?_; rintro e w1 ⟨u1, rfl, hO1, hb1⟩
          have hB1 := Below.next hb0 hb1
          go_wp2_with fail
          refine (gt.out _ hB1).mono ?_; rintro e w2 ⟨u2, cut, vs, uss, N, rfl, hV, hT, _, hb2⟩
          have hB2 := Below.next hB1 hb2
          go_wp2_with fail
          refine (gb.out _ hB2).mono ?_; rintro e w3 ⟨rfl, hw⟩; rw [hw]; clear hw
          go_wp2_with fail
          refine (gc.out _ _).mono ?_; rintro e w3 ⟨rfl, hw⟩; rw [hw]; clear hw
          have hB3 := Below.next hB2 (alloc_below w2 (.cells #[.int .u64 y] 48))
          go_wp2_with fail
          refine (ga.out _).mono ?_; rintro e w4 ⟨rfl, hb4⟩
          have hB4 := Below.next hB3 hb4
          go_wp2_with fail
          refine (gx.out _ hB4).mono ?_; rintro e w5 ⟨rfl, hw⟩; rw [hw]; clear hw
          go_wp2
          go_ret
          exact ⟨rfl, hB4⟩
        · have htc : (chk f [xs] != 0) = true := bne_iff_ne.2 he
          generalize chk f [xs] = e9 at *
          clear hgo gx hxe he
          go_enter Try.func6, Try.ntmps6
          go_wp2_with fail
          go_quiet (fail)
          have hb0 := HB0.out (.cells #[.slice a1 P.length c1, .slice a2 xs.length c2] 47) nq
          generalize (w.alloc (.cells #[.slice a1 P.length c1, .slice a2 xs.length c2] 47)).drewN nq = W1 at *
          go_wp2_with fail
          refine (gz.out _ hb0).mono ?_; rintro e w1 ⟨u1, rfl, hO1, hb1⟩
          have hB1 := Below.next hb0 hb1
          go_wp2_with fail
          refine (gt.out _ hB1).mono ?_; rintro e w2 ⟨u2, cut, vs, uss, N, rfl, hV, hT, _, hb2⟩
          have hB2 := Below.next hB1 hb2
          go_wp2_with fail
          refine (gb.out _ hB2).mono ?_; rintro e w3 ⟨rfl, hw⟩; rw [hw]; clear hw
          go_wp2_with fail
          refine (gc.out _ _).mono ?_; rintro e w3 ⟨rfl, hw⟩; rw [hw]; clear hw
          have hB3 := Below.next hB2 (alloc_below w2 (.cells #[.int .u64 y] 48))
          go_wp2_with fail
          refine (ga.out _).mono ?_; rintro e w4 ⟨rfl, hb4⟩
          go_wp2
          go_ret
          exact ⟨rfl, Below.next hB3 hb4⟩
    · have ht : (er f [y] [] != 0) = true := bne_iff_ne.2 hBy
      clear hA
      by_cases he : chk f [xs] = 0
      · rw [hxe.out he] at gx
        rw [he] at gz gt
        clear hgo hBy hxe he
        generalize er f [y] [] = e0 at *
        go_enter Try.func6, Try.ntmps6
        go_wp2_with fail
        go_quiet (fail)
        have hb0 := HB0.out (.cells #[.slice a1 P.length c1, .slice a2 xs.length c2] 47) nq
        generalize (w.alloc (.cells #[.slice a1 P.length c1, .slice a2 xs.length c2] 47)).drewN nq = W1 at *
        go_wp2_with fail
        refine (gz.out _ hb0).mono ?_; rintro e w1 ⟨u1, rfl, hO1, hb1⟩
        have hB1 := Below.next hb0 hb1
        go_wp2_with fail
        refine (gt.out _ hB1).mono ?_; rintro e w2 ⟨u2, cut, vs, uss, N, rfl, hV, hT, _, hb2⟩
        have hB2 := Below.next hB1 hb2
        go_wp2_with fail
        refine (gb.out _ hB2).mono ?_; rintro e w3 ⟨rfl, hw⟩; rw [hw]; clear hw
        go_wp2_with fail
        refine (gc.out _ _).mono ?_; rintro e w3 ⟨rfl, hw⟩; rw [hw]; clear hw
        have hB3 := Below.next hB2 (alloc_below w2 (.cells #[.int .u64 y] 48))
        go_wp2_with fail
        refine (ga.out _).mono ?_; rintro e w4 ⟨rfl, hb4⟩
        have hB4 := Below.next hB3 hb4
        go_wp2_with fail
        refine (gx.out _ hB4).mono ?_; rintro e w5 ⟨rfl, hw⟩; rw [hw]; clear hw
        go_wp2
        go_ret
        exact ⟨rfl, hB4⟩
      · have htc : (chk f [xs] != 0) = true := bne_iff_ne.2 he
        generalize chk f [xs] = e9 at *
        clear hgo gx hBy hxe he
        generalize er f [y] [] = e0 at *
        go_enter Try.func6, Try.ntmps6
        go_wp2_with fail
        go_quiet (fail)
        have hb0 := HB0.out (.cells #[.slice a1 P.length c1, .slice a2 xs.length c2] 47) nq
        generalize (w.alloc (.cells #[.slice a1 P.length c1, .slice a2 xs.length c2] 47)).drewN nq = W1 at *
        go_wp2_with fail
        refine (gz.out _ hb0).mono ?_; rintro e w1 ⟨u1, rfl, hO1, hb1⟩
        have hB1 := Below.next hb0 hb1
        go_wp2_with fail
        refine (gt.out _ hB1).mono ?_; rintro e w2 ⟨u2, cut, vs, uss, N, rfl, hV, hT, _, hb2⟩
        have hB2 := Below.next hB1 hb2
        go_wp2_with fail
        refine (gb.out _ hB2).mono ?_; rintro e w3 ⟨rfl, hw⟩; rw [hw]; clear hw
        go_wp2_with fail
        refine (gc.out _ _).mono ?_; rintro e w3 ⟨rfl, hw⟩; rw [hw]; clear hw
        have hB3 := Below.next hB2 (alloc_below w2 (.cells #[.int .u64 y] 48))
        go_wp2_with fail
        refine (ga.out _).mono ?_; rintro e w4 ⟨rfl, hb4⟩
        go_wp2
        go_ret
        exact ⟨rfl, Below.next hB3 hb4⟩
  · have ht : (er f P xs != 0) = true := bne_iff_ne.2 hA
    by_cases he : chk f [xs] = 0
    · rw [hxe.out he] at gx
      rw [he] at gz gt
      clear hgo hA hxe he gc
      generalize er f P xs = e0 at *
      go_enter Try.func6, Try.ntmps6
      go_wp2_with fail
      go_quiet (fail)
      have hb0 := HB0.out (.cells #[.slice a1 P.length c1, .slice a2 xs.length c2] 47) nq
      generalize (w.alloc (.cells #[.slice a1 P.length c1, .slice a2 xs.length c2] 47)).drewN nq = W1 at *
      go_wp2_with fail
      refine (gz.out _ hb0).mono ?_; rintro e w1 ⟨u1, rfl, hO1, hb1⟩
      have hB1 := Below.next hb0 hb1
      go_wp2_with fail
      refine (gt.out _ hB1).mono ?_; rintro e w2 ⟨u2, cut, vs, uss, N, rfl, hV, hT, _, hb2⟩
      have hB2 := Below.next hB1 hb2
      go_wp2_with fail
      refine (gb.out _ hB2).mono ?_; rintro e w3 ⟨rfl, hw⟩; rw [hw]; clear hw
      go_wp2_with fail
      refine (ga.out _).mono ?_; rintro e w4 ⟨rfl, hb4⟩
      have hB4 := Below.next hB2 hb4
      go_wp2_with fail
      refine (gx.out _ hB4).mono ?_; rintro e w5 ⟨rfl, hw⟩; rw [hw]; clear hw
      go_wp2
      go_ret
      exact ⟨rfl, hB4⟩
    · have htc : (chk f [xs] != 0) = true := bne_iff_ne.2 he
      generalize chk f [xs] = e9 at *
      clear hgo gx hA hxe he gc
      generalize er f P xs = e0 at *
      go_enter Try.func6, Try.ntmps6
      go_wp2_with fail
      go_quiet (fail)
      have hb0 := HB0.out (.cells #[.slice a1 P.length c1, .slice a2 xs.length c2] 47) nq
      generalize (w.alloc (.cells #[.slice a1 P.length c1, .slice a2 xs.length c2] 47)).drewN nq = W1 at *
      go_wp2_with fail
      refine (gz.out _ hb0).mono ?_; rintro e w1 ⟨u1, rfl, hO1, hb1⟩
      have hB1 := Below.next hb0 hb1
      go_wp2_with fail
      refine (gt.out _ hB1).mono ?_; rintro e w2 ⟨u2, cut, vs, uss, N, rfl, hV, hT, _, hb2⟩
      have hB2 := Below.next hB1 hb2
      go_wp2_with fail
      refine (gb.out _ hB2).mono ?_; rintro e w3 ⟨rfl, hw⟩; rw [hw]; clear hw
      go_wp2_with fail
      refine (ga.out _).mono ?_; rintro e w4 ⟨rfl, hb4⟩
      go_wp2
      go_ret
      exact ⟨rfl, Below.next hB2 hb4⟩

end Go.Proofs.Ytilkjkmgokbmoaa
