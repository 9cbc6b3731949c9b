import Derived.Test.YtcglbbglapomgaaBNdtG
set_option linter.unusedVariables false
set_option linter.unusedSimpArgs false
set_option maxRecDepth 100000
set_option maxHeartbeats 4000000
namespace Go.Proofs.Ytcglbbglapomgaa
open Go.RowKit Fld
theorem dMove21 {w : World} {base g : Nat} {v : Value} {N : Nt} (hy : Ny w base g v N) (hb : base <= w.heap.size) (hk : NtOk N) (i j : Int) :
 Calls Try.prog 28 #[.pointer (some ⟨g, 0, none⟩), .int .i64 i, .int .i64 j] w fun e w' => ∃ v', e = .returned (.int .i64 (mvE N i j)) ∧ Ny w' base g v' (mvN N i j) ∧ Mv w w' g v v' := by
 have HP := hide hy
 obtain ⟨es, h⟩ := hy
 have HM := hide (Mv.refl w g v)
 have HI := hide (dHas21 h i)
 have HJ := hide (dHas21 h j)
 by_cases hm : mvE N i j = 0
 · have hb2 : hasI N.l i = true ∧ hasI N.l j = true := by
    unfold mvE at hm
    exact Classical.byContradiction fun hc => by rw [if_neg hc] at hm; cases hm
   obtain ⟨k, rfl, hkl⟩ := hasI_iff.1 hb2.1
   obtain ⟨t, rfl, htl⟩ := hasI_iff.1 hb2.2
   have e2 : mvN N (k : Int) (t : Int) = { N with l := mvL N.l k t (N.l.getD (k : Int).toNat pk0) } := by unfold mvN; rw [if_pos hm, Int.toNat_natCast, Int.toNat_natCast]
   rw [hm, e2]
   rw [hb2.1] at HI
   rw [hb2.2] at HJ
   obtain ⟨x, hx, hg⟩ := h.has_no hkl
   rw [hg]
   have hmem := List.mem_of_getElem? hx
   have hel := h.len
   have hel1 : (es.eraseIdx k).length = es.length - 1 := List.length_eraseIdx_of_lt (List.getElem?_eq_some_iff.1 hx).1
   have HT := hide (dTake21 h hb hk.len hx)
   obtain ⟨uo, uc, hu, _⟩ := own_spellO (h.pks.each x hmem).1
   have hne : (es.eraseIdx k).length <= 4096 := by have := hk.len; omega
   have htn : t <= (es.eraseIdx k).length := by omega
   have HQ := hide (fun w1 r1 c1 (hn : Nd w1 base g (.slice (some ⟨r1, 0, none⟩) (es.eraseIdx k).length c1) { N with l := N.l.eraseIdx k } (es.eraseIdx k)) (m : Mv w w1 g v (.slice (some ⟨r1, 0, none⟩) (es.eraseIdx k).length c1)) o2 k2 (ho2 : t < (es.eraseIdx k).length -> o2 = t * 3) => move_mem (e := x) hn (Nat.le_trans hb m.kq.size) ⟨h.rb_mv m hmem, (h.pks.each x hmem).2⟩ (j := t) (o2 := o2) (k2 := k2) htn hne ho2 (a := .int .i64 x.1.f) (b := .int .i64 x.1.t) (uo := uo) (uc := uc) (by unfold dkc; rw [hu]))
   rw [mv_map h.eq] at HQ
   rw [hu] at HT
   clear hm hb2 e2 h hx hg hmem hel hel1 hu hkl htl HP HM
   generalize hnn : (es.eraseIdx k).length = n at *
   have HN := hide hnn
   clear hnn
   go_enter Try.func28, Try.ntmps28
   go_upto_region 3 with (first
    | (go_at_call_of 42 (Value.int .i64 (k : Int)); refine HI.out.mono ?_; rintro e w2 ⟨rfl, hw2⟩; rw [hw2]; clear hw2)
    | (go_at_call 42; refine HJ.out.mono ?_; rintro e w2 ⟨rfl, hw2⟩; rw [hw2]; clear hw2))
   go_upto_region 4 with (go_at_call 43; refine HT.out.mono ?_; rintro e w1 ⟨rfl, r1, c1, hn1, hm1⟩)
   have hcp : n <= c1 := by
    obtain ⟨_, _, hq, hcp, _⟩ := hn1.spell
    rw [HN.out] at hq hcp
    injection hq with _ _ e3
    omega
   obtain ⟨o2, k2, ho2, hs2⟩ := tailA r1 n c1 t (t : Int) rfl htn hcp
   have hs1 := fun W => headA r1 0 n c1 t (by omega) W
   obtain ⟨r4, k4, w4, hr4, hb4, hc4, r5, k5, w5, hr5, hbX, hb5, hcX, hc5, r6, k6, w6, hr6, hb6, hc6, hf6, HN6, HM6⟩ := HQ.out w1 r1 c1 hn1 hm1 o2 k2 ho2
   have hcA : ((w1.alloc (.cells #[.int .i64 x.1.f, .int .i64 x.1.t, .slice uo x.1.b.length uc] 40)).alloc (.cells #[] 40)).cell? ⟨g, 1, none⟩ = some (.slice (some ⟨r1, 0, none⟩) n c1) := ((hn1.below (alloc_below _ _)).below (alloc_below _ _)).cells.2.1
   have hz5 : ((w1.alloc (.cells #[.int .i64 x.1.f, .int .i64 x.1.t, .slice uo x.1.b.length uc] 40))).heap.size = w1.heap.size + 1 := by simp
   have HM1 := hide hm1
   generalize hbp : w1.heap.size = bp at *
   have hS : ∀ X : World, X.heap[bp]? = w4.heap[bp]? -> X.cell? ⟨g, 1, none⟩ = some (.slice (some ⟨r1, 0, none⟩) n c1) -> X.cell? ⟨g, 1, none⟩ = some (.slice (some ⟨r1, 0, none⟩) n c1) ∧ X.cell? ⟨bp, 0, none⟩ = some (.int .i64 x.1.f) ∧ X.cell? ⟨bp, 1, none⟩ = some (.int .i64 x.1.t) ∧ X.cell? ⟨bp, 2, none⟩ = some (.slice uo x.1.b.length uc) := fun X hX hc => ⟨hc, (Lib.cell_of_heap (hX.trans hb4) 0).trans rfl, (Lib.cell_of_heap (hX.trans hb4) 1).trans rfl, (Lib.cell_of_heap (hX.trans hb4) 2).trans rfl⟩
   have hS0 := hS w4.drew rfl hc4
   have hS1 := hS _ hbX hcX
   have hS2 := hS _ hb5 hc5
   have hS3 := hS _ hb6 hc6
   clear hS hbX hb5 hb6 hcX hc5 hc4 hb4 hn1 hm1 HQ HI HJ HT ho2
   go_upto_region 5 with (at_builtin; refine Lib.wpList_append_run _ rfl _ _ _ _ rfl _ _ rfl rfl _ _ hr4 ?_)
   refine wp_region_mute (S := (fun V => V.cell? ⟨g, 1, none⟩ = some (.slice (some ⟨r1, 0, none⟩) n c1) ∧ V.cell? ⟨bp, 0, none⟩ = some (.int .i64 x.1.f) ∧ V.cell? ⟨bp, 1, none⟩ = some (.int .i64 x.1.t) ∧ V.cell? ⟨bp, 2, none⟩ = some (.slice uo x.1.b.length uc))) (by kernel_rfl) (by kernel_rfl) rfl (by ((try dsimp only) <;> (first | with_reducible exact hS0 | with_reducible exact hS1 | with_reducible exact hS2 | with_reducible exact hS3))) (fun hHeld => ?_)
   simp only [muteL, mute]
   refine tkY 0 ?_
   refine tkY 1 ?_
   refine tkY 2 ?_
   refine tkY 5 ?_
   refine tkY 6 ?_
   refine tkY 7 ?_
   refine tkY 8 ?_
   refine tkY 9 ?_
   refine tkY 10 ?_
   refine rd1 3 (fun K hK => ?_)
   (try simp only [ly0, ly1, ly2, ly3, ly4, ly5, ly6, ly7])
   go_simp
   refine hK.out _ _ (by ((try dsimp only) <;> (first | with_reducible exact hS0 | with_reducible exact hS1 | with_reducible exact hS2 | with_reducible exact hS3))) (fun hHeld => ?_)
   clear hK K
   (try simp only [ly0, ly1, ly2, ly3, ly4, ly5, ly6, ly7])
   refine rd1 4 (fun K hK => ?_)
   (refine app_mute (by rfl) _ _ _ _ (by rfl) _ _ (by rfl) (by rfl) _ w5 hr5 ?_)
   refine hK.out _ _ (by ((try dsimp only) <;> (first | with_reducible exact hS0 | with_reducible exact hS1 | with_reducible exact hS2 | with_reducible exact hS3))) (fun hHeld => ?_)
   clear hK K
   (try simp only [ly0, ly1, ly2, ly3, ly4, ly5, ly6, ly7])
   refine rd1 11 (fun K hK => ?_)
   (refine app_mute (by rfl) _ _ _ _ (by rfl) _ _ (by rfl) (by rfl) _ w6 hr6 ?_)
   refine hK.out _ _ (by ((try dsimp only) <;> (first | with_reducible exact hS0 | with_reducible exact hS1 | with_reducible exact hS2 | with_reducible exact hS3))) (fun hHeld => ?_)
   clear hK K
   (try simp only [ly0, ly1, ly2, ly3, ly4, ly5, ly6, ly7])
   refine tkY 12 ?_
   refine tkY 13 ?_
   refine tkY 14 ?_
   refine wpAnyH_done (by kernel_rfl) ?_ _
   clear hS0 hS1 hS2 hS3 hr4 hr5 hr6
   simp only [muteQ]
   generalize hW7 : World.setCell w6 _ _ = w7 at *
   go_wp2
   go_ret
   first | exact ⟨_, rfl, ⟨_, HN6.out⟩, HM1.out.trans HM6.out⟩ | exact ⟨rfl, _, ⟨_, HN6.out⟩, HM1.out.trans HM6.out⟩
 · have e2 : mvN N i j = N := by unfold mvN; rw [if_neg hm]
   have e1 : mvE N i j = 2 := by
    unfold mvE at hm ⊢
    split
    · rename_i hc; rw [if_pos hc] at hm; exact absurd rfl hm
    · rfl
   rw [e1, e2]
   have hc : hasI N.l i = false ∨ (hasI N.l i = true ∧ hasI N.l j = false) := by
    unfold mvE at hm
    cases h1 : hasI N.l i with
    | false => exact .inl rfl
    | true =>
     cases h2 : hasI N.l j with
     | false => exact .inr ⟨rfl, rfl⟩
     | true => rw [h1, h2] at hm; exact absurd rfl hm
   rcases hc with hc | ⟨hc, hc2⟩
   · rw [hc] at HI
     clear e1 e2 hm h HJ hc
     go_enter Try.func28, Try.ntmps28
     go_wp2_with (first
      | (go_at_call_of 42 (Value.int .i64 i); refine HI.out.mono ?_; rintro e w2 ⟨rfl, rfl⟩))
     go_ret
     exact ⟨_, rfl, HP.out, HM.out⟩
   · rw [hc] at HI
     rw [hc2] at HJ
     clear e1 e2 hm h hc hc2
     go_enter Try.func28, Try.ntmps28
     go_wp2_with (first
      | (go_at_call_of 42 (Value.int .i64 i); refine HI.out.mono ?_; rintro e w2 ⟨rfl, rfl⟩)
      | (go_at_call_of 42 (Value.int .i64 j); refine HJ.out.mono ?_; rintro e w2 ⟨rfl, rfl⟩))
     go_ret
     exact ⟨_, rfl, HP.out, HM.out⟩
end Go.Proofs.Ytcglbbglapomgaa
