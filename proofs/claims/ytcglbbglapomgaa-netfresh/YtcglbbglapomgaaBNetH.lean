import Derived.Test.YtcglbbglapomgaaBNetG
set_option linter.unusedVariables false
set_option linter.unusedSimpArgs false
set_option maxRecDepth 100000
set_option maxHeartbeats 4000000
namespace Go.Proofs.Ytcglbbglapomgaa
open Go.RowKit Fld
theorem gDouble {w : World} {base g : Nat} {v : Value} {N : Nt} (h : Np w base g v N) (hb : base <= w.heap.size) (hs : N.s < 4611686018427387904) (i : Int) :
 Calls Try.prog 16 #[.pointer (some ⟨g, 0, none⟩), .int .i64 i] w fun e w' => ∃ v', e = .returned (.int .i64 (dbE N i)) ∧ Np w' base g v' (dbN N i) ∧ Mv w w' g v v' := by
 have H := hide (gPlace h i)
 have HK := hide (nok_db h.o i)
 have HU := hide (gIsFull h.m)
 rcases pl_cases N i with ⟨k, rfl, hk, hh, e⟩ | ⟨hh, e⟩
 · rw [e] at H
   by_cases hf : 4096 <= N.l.length
   · have e1 : dbE N (k : Int) = 4 := by unfold dbE; rw [if_pos hh, if_pos hf]
     have e2 : dbN N (k : Int) = N := by unfold dbN; rw [if_neg (by rw [e1]; decide)]
     rw [e1, e2]
     rw [decide_eq_true hf] at HU
     have HP := hide h
     have HM := hide (Mv.refl w g v)
     clear e e1 e2 hh hk h hf
     go_enter Try.func16, Try.ntmps16
     go_wp2_with (first
      | (go_at_call 29; refine H.out.mono ?_; rintro e w1 ⟨rfl, rfl⟩)
      | (go_at_call 35; refine HU.out.mono ?_; rintro e w1 ⟨rfl, rfl⟩))
     go_ret
     exact ⟨_, rfl, HP.out, HM.out⟩
   · have e1 : dbE N (k : Int) = 0 := by unfold dbE; rw [if_pos hh, if_neg hf]
     have e2 : dbN N (k : Int) = { N with l := N.l ++ [N.l.getD (k : Int).toNat pk0], s := N.s + 1 } := by unfold dbN; rw [if_pos e1]
     rw [e1]
     rw [e2] at HK ⊢
     rw [decide_eq_false hf] at HU
     obtain ⟨ao, cap, rfl, hcap, hr⟩ := h.m.spell
     obtain ⟨r, rfl, _, _⟩ := hr (by omega)
     obtain ⟨p0, p1, p2⟩ := h.m.pk (at_getD hk)
     have HA := hide (gAdd h.m hb (N.l.getD (k : Int).toNat pk0) (by omega) hs)
     unfold pkv at HA
     obtain ⟨_, c1, _, _⟩ := h.m.cells
     generalize N.l.getD (k : Int).toNat pk0 = p at *
     obtain ⟨f, t, bs⟩ := p
     dsimp only at p0 p1 p2 HA
     have hk1 : (k : Int) < (N.l.length : Int) := by omega
     clear e e1 e2 hh h hf hr
     go_enter Try.func16, Try.ntmps16
     go_wp2_with (first
      | (go_at_call 29; refine H.out.mono ?_; rintro e w1 ⟨rfl, rfl⟩)
      | (go_at_call 35; refine HU.out.mono ?_; rintro e w1 ⟨rfl, rfl⟩)
      | (go_at_call 36; refine HA.out.mono ?_; rintro e w2 ⟨v2, rfl, hn2, hm2⟩))
     go_ret
     exact ⟨_, rfl, ⟨hn2, HK.out⟩, hm2⟩
 · rw [e] at H
   have e1 : dbE N i = 2 := by unfold dbE; rw [if_neg (by rw [hh]; decide)]
   have e2 : dbN N i = N := by unfold dbN; rw [if_neg (by rw [e1]; decide)]
   rw [e1, e2]
   have HP := hide h
   have HM := hide (Mv.refl w g v)
   clear e e1 e2 hh h
   go_enter Try.func16, Try.ntmps16
   go_wp2_with (go_at_call 29; refine H.out.mono ?_; rintro e w1 ⟨rfl, rfl⟩)
   go_ret
   exact ⟨_, rfl, HP.out, HM.out⟩
theorem lOr (x y : Int) (b : Nat) (w : World) (h0 : w.cell? ⟨b, 0, none⟩ = some (.int .i64 x)) (h1 : w.cell? ⟨b, 1, none⟩ = some (.int .i64 y)) : Calls Try.prog 37 #[.slice (some ⟨b, 0, none⟩) 2 2] w fun e w' => e = .returned (.int .i64 (if x = 0 then y else x)) ∧ w' = w := by
 by_cases hx : x = 0
 · rw [if_pos hx]
   subst hx
   by_cases hy : y = 0
   · subst hy
     go_enter Try.func37, Try.ntmps37
     go_wp2
     refine wp_loop_rounds 3 ?_
     rw [rounds_succ]
     go_wp2
     rw [rounds_succ]
     go_wp2
     rw [rounds_succ]
     go_wp2
     go_ret
     exact ⟨rfl, rfl⟩
   · have hy' : (y != 0) = true := bne_iff_ne.2 hy
     go_enter Try.func37, Try.ntmps37
     go_wp2
     refine wp_loop_rounds 3 ?_
     rw [rounds_succ]
     go_wp2
     rw [rounds_succ]
     go_wp2
     go_ret
     exact ⟨rfl, rfl⟩
 · rw [if_neg hx]
   have hx' : (x != 0) = true := bne_iff_ne.2 hx
   go_enter Try.func37, Try.ntmps37
   go_wp2
   refine wp_loop_rounds 3 ?_
   rw [rounds_succ]
   go_wp2
   go_ret
   exact ⟨rfl, rfl⟩
theorem mv_cases (N : Nt) (i j : Int) : mvE N i j = (if plE N i = 0 then plE N j else plE N i) := by
 unfold mvE plE
 cases hasI N.l i <;> cases hasI N.l j <;> simp
theorem gMove {w : World} {base g : Nat} {v : Value} {N : Nt} (h : Np w base g v N) (i j : Int) :
 Calls Try.prog 17 #[.pointer (some ⟨g, 0, none⟩), .int .i64 i, .int .i64 j] w fun e w' => ∃ v', e = .returned (.int .i64 (mvE N i j)) ∧ Np w' base g v' (mvN N i j) ∧ Mv w w' g v v' := by
 have H := hide (fun i => gPlace h i)
 have HK := hide (nok_mv h.o i j)
 obtain ⟨w1, hw1⟩ : ∃ w1, w.alloc (.cells #[.int .i64 (plE N i), .int .i64 (plE N j)] 24) = w1 := ⟨_, rfl⟩
 have hb : Below w.heap.size w w1 := by rw [<- hw1]; exact alloc_below _ _
 have HO := hide (lOr (plE N i) (plE N j) w.heap.size w1 (by rw [<- hw1]; simp [go_sem]) (by rw [<- hw1]; simp [go_sem]))
 rw [<- mv_cases] at HO
 have HP1 := hide (h.below hb)
 have HM1 := hide (Mv.of_below g v hb)
 by_cases hm : mvE N i j = 0
 · have hb2 : hasI N.l i = true ∧ hasI N.l j = true := by
    unfold mvE at hm
    exact Classical.byContradiction fun hc => by rw [if_neg hc] at hm; cases hm
   obtain ⟨k, rfl, hk⟩ := hasI_iff.1 hb2.1
   obtain ⟨m, rfl, hm2⟩ := hasI_iff.1 hb2.2
   have HS := hide (gShift HP1.out.m h.o.ok.len (at_getD hk) hm2)
   have e2 : mvN N (k : Int) (m : Int) = { N with l := mvL N.l k m (N.l.getD (k : Int).toNat pk0) } := by unfold mvN; rw [if_pos hm, Int.toNat_natCast, Int.toNat_natCast]
   rw [e2] at HK ⊢
   rw [hm] at HO ⊢
   clear hm hb2 e2 h hb hk hm2
   go_enter Try.func17, Try.ntmps17
   go_wp2_with (first
    | (go_at_call_of 29 (Value.int .i64 (k : Int)); refine (H.out _).mono ?_; rintro e w2 ⟨rfl, hw2⟩; rw [hw2]; clear hw2)
    | (go_at_call 29; refine (H.out _).mono ?_; rintro e w2 ⟨rfl, hw2⟩; rw [hw2]; clear hw2)
    | (go_at_call 37; refine HO.out.mono ?_; rintro e w3 ⟨rfl, hw3⟩; rw [hw3]; clear hw3)
    | (go_at_call 38; refine HS.out.mono ?_; rintro e w4 ⟨rfl, hn4, hm4⟩))
   go_ret
   exact ⟨_, rfl, ⟨hn4, HK.out⟩, HM1.out.trans hm4⟩
 · have e2 : mvN N i j = N := by unfold mvN; rw [if_neg hm]
   rw [e2]
   have hm' : (mvE N i j != 0) = true := bne_iff_ne.2 hm
   clear hm e2 h hb HK
   generalize mvE N i j = y at *
   go_enter Try.func17, Try.ntmps17
   go_wp2_with (first
    | (go_at_call 29; refine (H.out _).mono ?_; rintro e w2 ⟨rfl, hw2⟩; rw [hw2]; clear hw2)
    | (go_at_call 37; refine HO.out.mono ?_; rintro e w3 ⟨rfl, hw3⟩; rw [hw3]; clear hw3))
   go_ret
   exact ⟨_, rfl, HP1.out, HM1.out⟩
end Go.Proofs.Ytcglbbglapomgaa
