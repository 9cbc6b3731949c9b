import Derived.Test.YtcglbbglapomgaaBNetC
set_option linter.unusedVariables false
set_option linter.unusedSimpArgs false
set_option maxRecDepth 100000
set_option maxHeartbeats 4000000
namespace Go.Proofs.Ytcglbbglapomgaa
open Go.RowKit Fld
theorem pkt_info : (Try.prog.info? 72).map (fun i => (i.zero, i.size, i.bytes)) = some (some (.agg #[.int .i64 0, .int .i64 0, .string ByteArray.empty]), 3, 32) := by kernel_rfl
theorem Nm.app {w : World} {base g : Nat} {v : Value} {N : Nt} (h : Nm w base g v N) (hb : base <= w.heap.size) (a : Addr) (p : Pk) (hc : ∀ j u, (pkw p)[j]? = some u -> w.cell? (a.add j) = some u) (hl : N.l.length < 4096) :
 ∃ (au : Option Addr) (cu : Nat) (W' : World), (Builtin.append_ #[61, 61] 61 #[v, .slice (some a) 1 1]).run Try.prog w = .ok (.slice au (N.l.length + 1) cu) W' ∧ W'.cell? ⟨g, 1, none⟩ = some v ∧ W'.frozen? ⟨g, 1, none⟩ = false ∧ Mv w W' g v (.slice au (N.l.length + 1) cu) ∧
  Nm (W'.setCell ⟨g, 1, none⟩ (.slice au (N.l.length + 1) cu)) base g (.slice au (N.l.length + 1) cu) { N with l := N.l ++ [p] } ∧ Mv w (W'.setCell ⟨g, 1, none⟩ (.slice au (N.l.length + 1) cu)) g v (.slice au (N.l.length + 1) cu) := by
 obtain ⟨i0, hi0, hz0, hz1, hz2⟩ := info_parts pkt_info
 obtain ⟨v', W', hr, ho, hg, _, hat⟩ := run_append_own_at (P := Try.prog) (w := w) base 61 61 72 i0 (.agg #[.int .i64 0, .int .i64 0, .string ByteArray.empty]) 3 32 Try.underlying61 hi0 hz0 hz1 hz2 rfl (by decide) v N.l.length (N.l.flatMap pkw) h.row a 1 1 (pkw p) rfl hc (pkw_one p) (by unfold maxLen; omega) (by omega) hb
 have hne := h.ne
 have hblk : W'.heap[g]? = _ := (hg.block g h.lt (fun e => hne e.symm)).trans h.net
 have hnew : ∀ j, v'.ownBlock = some j -> v.ownBlock = some j ∨ w.heap.size <= j := fun j hj => by
  rcases hat with e | e
  · exact .inl (by rw [<- e]; exact hj)
  · rw [e] at hj; cases hj; exact .inr (Nat.le_refl _)
 have hfl : (N.l ++ [p]).flatMap pkw = N.l.flatMap pkw ++ pkw p := by rw [List.flatMap_append]; simp
 have hvg : v'.ownBlock ≠ some g := fun e => by
  rcases hnew g e with e2 | e2
  · exact hne e2
  · have := h.lt; omega
 have hsp := own_spellO ho
 obtain ⟨au, cu, rfl, _⟩ := hsp
 refine ⟨au, cu, W', hr, by rw [Lib.cell_of_heap hblk]; rfl, Lib.frozen_of_heap hblk 1, mv_grown g hg h.row ho hnew, ⟨?_, ?_, h.low⟩, ?_⟩
 · rw [set_blk hblk 1 _]; rfl
 · rw [hfl]
   show World.ownsRow _ _ _ _ _ (N.l ++ [p]).length _
   rw [List.length_append]
   exact ownsRow_setCell_other ho hvg _
 · exact (mv_grown g hg h.row ho hnew).trans (mv_set W' g 1 _ _)
theorem gAdd {w : World} {base g : Nat} {v : Value} {N : Nt} (h : Nm w base g v N) (hb : base <= w.heap.size) (p : Pk) (hl : N.l.length < 4096) (hs : N.s < 4611686018427387904) :
 Calls Try.prog 36 #[.pointer (some ⟨g, 0, none⟩), pkv p] w fun e w' => ∃ v', e = .returned (.tuple #[]) ∧ Nm w' base g v' { N with l := N.l ++ [p], s := N.s + 1 } ∧ Mv w w' g v v' := by
 obtain ⟨f, t, bs⟩ := p
 obtain ⟨W, hW⟩ : ∃ W, w.alloc (.cells #[.int .i64 f, .int .i64 t, .string (strOfNums bs)] 72) = W := ⟨_, rfl⟩
 have hB : Below w.heap.size w W := by rw [<- hW]; exact alloc_below _ _
 have hz : W.heap.size = w.heap.size + 1 := by rw [<- hW]; simp
 have hbx : W.heap[w.heap.size]? = some (.cells #[.int .i64 f, .int .i64 t, .string (strOfNums bs)] 72 (0, 0)) := by rw [<- hW]; exact heap_alloc_new w _
 have hM := h.below hB
 obtain ⟨c0, c1, c2, c3⟩ := hM.cells
 have e0 : W.cell? ⟨w.heap.size, 0, none⟩ = some (.int .i64 f) := by simp [World.cell?, hbx]
 have e1 : W.cell? ⟨w.heap.size, 1, none⟩ = some (.int .i64 t) := by simp [World.cell?, hbx]
 have e2 : W.cell? ⟨w.heap.size, 2, none⟩ = some (.string (strOfNums bs)) := by simp [World.cell?, hbx]
 have HM := hide hM
 have HBl := hide (Mv.of_below g v hB)
 have HZ := hide hz
 have hbz : base <= W.heap.size := by omega
 obtain ⟨ao, cap, rfl, _⟩ := h.spell
 have HA := hide (fun (X : World) (hX : Below W.heap.size W X) => Nm.app (hM.below hX) (by have := hX.size; omega) ⟨W.heap.size, 0, none⟩ ⟨f, t, bs⟩)
 have hbl : ∀ j, (Value.slice ao N.l.length cap).ownBlock = some j -> j < w.heap.size := fun j hj => (h.own_lt j hj).2
 have HS : Hid (∀ X : World, X.heap[w.heap.size]? = W.heap[w.heap.size]? -> X.cell? ⟨w.heap.size, 0, none⟩ = some (.int .i64 f) ∧ X.cell? ⟨w.heap.size, 1, none⟩ = some (.int .i64 t) ∧ X.cell? ⟨w.heap.size, 2, none⟩ = some (.string (strOfNums bs))) := fun X hX => ⟨(World.cell?_of_block (a := ⟨w.heap.size, 0, none⟩) hX).trans e0, (World.cell?_of_block (a := ⟨w.heap.size, 1, none⟩) hX).trans e1, (World.cell?_of_block (a := ⟨w.heap.size, 2, none⟩) hX).trans e2⟩
 have hX : Below W.heap.size W (W.alloc (.cells #[.int .i64 f, .int .i64 t, .string (strOfNums bs)] 72)).drew := (alloc_below W _).drew
 have hbw : (W.alloc (.cells #[.int .i64 f, .int .i64 t, .string (strOfNums bs)] 72)).drew.heap[w.heap.size]? = W.heap[w.heap.size]? := hX.block _ (by omega)
 have hXm : Nm _ base g _ N := hM.below hX
 have hS1 := And.intro hXm.cells.2.1 (HS.out _ hbw)
 have hS0 : W.drew.cell? ⟨g, 1, none⟩ = some (.slice ao N.l.length cap) ∧ W.drew.cell? ⟨w.heap.size, 0, none⟩ = some (.int .i64 f) ∧ W.drew.cell? ⟨w.heap.size, 1, none⟩ = some (.int .i64 t) ∧ W.drew.cell? ⟨w.heap.size, 2, none⟩ = some (.string (strOfNums bs)) := ⟨c1, e0, e1, e2⟩
 obtain ⟨au4, cu4, w4, hr4, hg4, hz4, hm4, hN4, hv4⟩ := HA.out _ hX (fun j u hu => by
  exact World.news_of_block (cs := #[.int .i64 f, .int .i64 t, .string (strOfNums bs)]) (t := 72) (fr := (0, 0)) (heap_alloc_new W _) j u hu) hl
 have hS4 := And.intro hg4 (HS.out w4 ((hm4.block (j := w.heap.size) (by have := hX.size; omega) (by have := h.lt; omega) (fun e => by have := hbl _ e; omega)).trans hbw))
 have HF := hide (((HBl.out.next hX).trans hv4))
 have HN4 := hide hN4
 unfold pkv
 dsimp only
 clear hbx hM hz hB HA hX hbw hXm hbl HS hm4 hN4 hv4 HM HBl HZ c0 c1 c2 c3 h
 go_enter Try.func36, Try.ntmps36
 go_upto_region 1 with fail
 refine wp_region_mute (S := (fun V => V.cell? ⟨g, 1, none⟩ = some (.slice ao N.l.length cap) ∧ V.cell? ⟨w.heap.size, 0, none⟩ = some (.int .i64 f) ∧ V.cell? ⟨w.heap.size, 1, none⟩ = some (.int .i64 t) ∧ V.cell? ⟨w.heap.size, 2, none⟩ = some (.string (strOfNums bs)))) (by kernel_rfl) (by kernel_rfl) rfl (by ((try dsimp only) <;> (first | with_reducible exact hS0 | with_reducible exact hS1 | with_reducible exact hS4))) (fun hHeld => ?_)
 simp only [muteL, mute]
 refine tkY 0 ?_
 refine tkY 1 ?_
 refine tkY 2 ?_
 refine tkY 3 ?_
 refine tkY 4 ?_
 refine tkY 5 ?_
 refine rd1 6 (fun K hK => ?_)
 (try simp only [ly0, ly1, ly2, ly3, ly4, ly5, ly6, ly7])
 go_simp
 refine hK.out _ _ (by ((try dsimp only) <;> (first | with_reducible exact hS0 | with_reducible exact hS1 | with_reducible exact hS4))) (fun hHeld => ?_)
 clear hK K
 (try simp only [ly0, ly1, ly2, ly3, ly4, ly5, ly6, ly7])
 refine rd1 7 (fun K hK => ?_)
 (refine app_mute (by rfl) _ _ _ _ (by rfl) _ _ (by rfl) (by rfl) _ w4 hr4 ?_)
 refine hK.out _ _ (by ((try dsimp only) <;> (first | with_reducible exact hS0 | with_reducible exact hS1 | with_reducible exact hS4))) (fun hHeld => ?_)
 clear hK K
 (try simp only [ly0, ly1, ly2, ly3, ly4, ly5, ly6, ly7])
 refine tkY 8 ?_
 refine tkY 9 ?_
 refine tkY 10 ?_
 refine wpAnyH_done (by kernel_rfl) ?_ _
 clear hS0 hS1 hS4 hr4 e0 e1 e2
 simp only [muteQ]
 generalize hW5 : w4.setCell _ _ = W5 at *
 go_wp2_with (go_at_call 45; refine (lAdd1 g 2 N.s hs _ HN4.out.cells.2.2.1 (HN4.out.free 2)).mono ?_; rintro e w6 ⟨⟨u, rfl⟩, hw6⟩; rw [hw6]; clear hw6)
 go_end0
 refine ⟨_, rfl, ⟨?_, ownsRow_setCell_other HN4.out.row HN4.out.ne _, HN4.out.low⟩, HF.out.trans (mv_set _ g 2 _ _)⟩
 rw [set_blk HN4.out.net 2 _]; rfl
end Go.Proofs.Ytcglbbglapomgaa
