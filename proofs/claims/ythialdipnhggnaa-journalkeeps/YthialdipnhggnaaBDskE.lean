import Derived.Test.YthialdipnhggnaaBDskD
set_option linter.unusedVariables false
set_option linter.unusedSimpArgs false
set_option maxRecDepth 100000
set_option maxHeartbeats 4000000
namespace Go.Proofs.Ythialdipnhggnaa
open Go.RowKit Fld
theorem lCloneK (v : Value) (n base : Nat) (xs : List Value) (w : World) (h : w.ownsRow base 71 32 v n xs) (hn : n <= 65536) (h1 : ∀ u ∈ xs, u.oneCell' = true) :
 Calls Try.prog 42 #[v] w fun e w' => ∃ v', e = .returned v' ∧ w'.ownsRow w.heap.size 71 32 v' n xs ∧ Below w.heap.size w w' := by
 obtain ⟨i0, hi0, hz0, hz1, hz2⟩ := info_parts kept_info
 rcases h.2 with ⟨rfl, rfl⟩ | ⟨g, cap, cur, rfl, hbg, hg, hnc, hcm, hcs, htake⟩
 · have hx : xs = [] := List.eq_nil_of_length_eq_zero (by simpa using h.1)
   subst hx
   have hq := Lib.run_eql_slice_nil (P := Try.prog) w 62 71 none 0 0 0 0 Try.underlying62
   clear h
   go_enter Try.func42, Try.ntmps42
   go_wp2
   go_ret
   exact ⟨_, rfl, World.ownsRow_nil _ _ _ _, Below.refl _ _⟩
 · have hq := Lib.run_eql_slice_nil (P := Try.prog) w 62 71 (some ⟨g, 0, none⟩) n cap 0 0 Try.underlying62
   have hown := own_none w 71 32
   have hB := alloc_below w (.cells #[] 71)
   have HL := hide h.1
   have HV := hide h1
   have HN : Hid (∀ j u, xs[j]? = some u -> (w.alloc (.cells #[] 71)).cell? ((⟨g, 0, none⟩ : Addr).add j) = some u) := fun j u hj => by
    have h2 := (own_below h hB).cells (g := g) rfl j u hj
    exact h2
   have HBr := hide (fun W r (hg : World.grownBy (w.alloc (.cells #[] 71)) W r) (hr : ∀ k, r = some k -> w.heap.size <= k) => hB.grown hg (by simp) hr)
   clear h h1 hg hcs htake
   go_enter Try.func42, Try.ntmps42
   go_wp2_with (at_builtin; refine wpList_append_own _ rfl _ _ _ rfl w.heap.size 71 i0 _ 32 32 Try.underlying62 hi0 hz0 hz1 hz2 rfl (by omega) _ 0 [] rfl hown ⟨g, 0, none⟩ n cap xs rfl HL.out HN.out HV.out (by unfold maxLen; omega) (by omega) (by simp) ?_; intro v' w1 hown1 hgrow _)
   go_ret
   refine ⟨_, rfl, by simpa using hown1, HBr.out _ _ hgrow (fun k hk => by cases hk; exact Nat.le_refl _)⟩
theorem dk0_dok : Dok dk0 := ⟨dk0_ok, fun b hb => by simp [dk0] at hb, by simp [dk0]⟩
theorem gNew22 (w : World) : Calls Try.prog 13 #[] w fun e w' => e = .returned (.pointer (some ⟨w.heap.size, 0, none⟩)) ∧ Hd w' w.heap.size w.heap.size (.slice none 0 0) dk0 ∧ Below w.heap.size w w' := by
 go_enter Try.func13, Try.ntmps13
 go_wp2
 go_ret
 exact ⟨rfl, ⟨heap_alloc_new w _, World.ownsRow_nil _ _ _ _, Nat.le_refl _, dk0_dok⟩, alloc_below w _⟩
theorem gFuse_nil (i : Int) (w : World) : Calls Try.prog 19 #[.pointer none, .int .i64 i] w fun e w' => e = .returned (.int .i64 1) ∧ w' = w := by
 have H := hide (fun W => dIsThere_nil W)
 go_enter Try.func19, Try.ntmps19
 go_wp2_with (go_at_call 37; refine (H.out _).mono ?_; rintro e w1 ⟨rfl, rfl⟩)
 go_ret
 exact ⟨rfl, rfl⟩
theorem gFuse {w : World} {base g : Nat} {v : Value} {D : Dsk} (h : Hd w base g v D) (i : Int) (hi : i <= 9223372036854775807) :
 Calls Try.prog 19 #[.pointer (some ⟨g, 0, none⟩), .int .i64 i] w fun e w' => e = .returned (.int .i64 (fuE i)) ∧ Hd w' base g v (fuN D i) ∧ Mv w w' g v v := by
 have H := hide (dIsThere h)
 have HP := hide h
 obtain ⟨_, _, c2, c3, _, _⟩ := h.cells
 have hf := h.free
 clear h
 by_cases h1 : i < 0
 · have e1 : fuE i = 2 := by unfold fuE; rw [if_neg (by omega)]
   have e2 : fuN D i = D := by unfold fuN; rw [if_neg (by omega)]
   rw [e1, e2]
   clear e1 e2 c2 c3 hf
   go_enter Try.func19, Try.ntmps19
   go_wp2_with (go_at_call 37; refine H.out.mono ?_; rintro e w1 ⟨rfl, rfl⟩)
   go_ret
   exact ⟨rfl, HP.out, Mv.refl _ _ _⟩
 · have e1 : fuE i = 0 := by unfold fuE; rw [if_pos (by omega)]
   have e2 : fuN D i = { D with f := i } := by unfold fuN; rw [if_pos e1]
   rw [e1, e2]
   clear e1 e2
   have HI := hide hi
   clear hi
   go_enter Try.func19, Try.ntmps19
   go_wp2_with (go_at_call 37; refine H.out.mono ?_; rintro e w1 ⟨rfl, hw1⟩; rw [hw1]; clear hw1)
   go_ret
   have h := HP.out
   refine ⟨rfl, ⟨?_, ownsRow_setCell_other (ownsRow_setCell_other h.row h.ne _) h.ne _, h.low, ⟨⟨h.o.ok.len, h.o.ok.blk, by show -1 <= i; omega⟩, h.o.byt, HI.out⟩⟩, (mv_set _ g 2 _ _).trans (mv_set _ g 3 _ _)⟩
   rw [set_blk (set_blk h.dsk 2 _) 3 _]
   unfold dkw
   dsimp only
   rw [decide_eq_true (show 0 <= i by omega), show max i 0 = i by omega]
   rfl
theorem gMend {w : World} {base g : Nat} {v : Value} {D : Dsk} (h : Hd w base g v D) :
 Calls Try.prog 21 #[.pointer (some ⟨g, 0, none⟩)] w fun e w' => e = .returned (.int .i64 0) ∧ Hd w' base g v (mdN D) ∧ Mv w w' g v v := by
 have H := hide (dIsThere h)
 have HP := hide h
 obtain ⟨_, _, c2, c3, c4, _⟩ := h.cells
 have hf := h.free
 clear h
 go_enter Try.func21, Try.ntmps21
 go_wp2_with (go_at_call 37; refine H.out.mono ?_; rintro e w1 ⟨rfl, hw1⟩; rw [hw1]; clear hw1)
 go_ret
 have h := HP.out
 refine ⟨rfl, ⟨?_, ownsRow_setCell_other (ownsRow_setCell_other (ownsRow_setCell_other h.row h.ne _) h.ne _) h.ne _, h.low, ⟨mdN_ok h.o.ok, h.o.byt, by simp [mdN]⟩⟩, ((mv_set _ g 2 _ _).trans (mv_set _ g 3 _ _)).trans (mv_set _ g 4 _ _)⟩
 rw [set_blk (set_blk (set_blk h.dsk 2 _) 3 _) 4 _]
 rfl
end Go.Proofs.Ythialdipnhggnaa
