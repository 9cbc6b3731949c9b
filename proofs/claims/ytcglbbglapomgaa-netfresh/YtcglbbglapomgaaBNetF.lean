import Derived.Test.YtcglbbglapomgaaBNetE
set_option linter.unusedVariables false
set_option linter.unusedSimpArgs false
set_option maxRecDepth 100000
set_option maxHeartbeats 4000000
namespace Go.Proofs.Ytcglbbglapomgaa
open Go.RowKit Fld
theorem mvL_last {α : Type} {l : List α} {i : Nat} {p : α} (hi : i < l.length) : mvL l i (l.length - 1) p = l.eraseIdx i ++ [p] := by
 have h1 : (l.eraseIdx i).length = l.length - 1 := List.length_eraseIdx_of_lt hi
 unfold mvL
 rw [<- h1, List.take_length, List.drop_length]
theorem shortP (b off n cap k : Nat) (kb : Int) (hk : kb = (k : Int)) (hn : k <= cap) (W : World) : (Instr.slice 61 (.slice (some ⟨b, off, none⟩) n cap) none (some (.int .i64 kb)) none).run Try.prog W = .ok (.slice (some ⟨b, off, none⟩) k cap) W := by
 obtain ⟨i0, hi0, hz0, hz1, hz2⟩ := info_parts pkt_info
 subst hk
 have h2 : (k : Int) <= (cap : Int) := by omega
 by_cases h0 : cap = 0
 · subst h0
   have : k = 0 := by omega
   subst this
   simp [Instr.slice, Instr.sliceBounds, Instr.sliceBound, asIntOf, run_underlying Try.underlying61, sizeOf, typeInfo, hi0, hz1]
 · simp [Instr.slice, Instr.sliceBounds, Instr.sliceBound, asIntOf, run_underlying Try.underlying61, sizeOf, typeInfo, hi0, hz1, h2, h0, show ¬ cap < k by omega, Addr.add]
theorem own_drop3 {W : World} {base r n cap m : Nat} {xs : List Pk} {p : Pk} {a b c : Value} (h : W.ownsRow base 72 3 (.slice (some ⟨r, 0, none⟩) n cap) n ((xs ++ [p]).flatMap pkw)) (hm : m = xs.length) :
 (((W.setCell ⟨r, m * 3, none⟩ a).setCell ⟨r, m * 3 + 1, none⟩ b).setCell ⟨r, m * 3 + 2, none⟩ c).ownsRow base 72 3 (.slice (some ⟨r, 0, none⟩) m cap) m (xs.flatMap pkw) := by
 subst hm
 have h1 := h.1
 rw [flat_len pkw 3 pkw_len, List.length_append] at h1
 have hn : n = xs.length + 1 := by simp at h1; omega
 subst hn
 have hq := own_short (own_setn (own_setn (own_setn h a (k := xs.length * 3)) b (k := xs.length * 3 + 1)) c (k := xs.length * 3 + 2)) (m := xs.length) (by omega)
 have hl := flat_len pkw 3 pkw_len xs
 rw [List.flatMap_append, List.set_append_right _ _ (by omega), List.set_append_right _ _ (by omega), List.set_append_right _ _ (by omega), List.take_append_of_le_length (by omega), List.take_of_length_le (by omega)] at hq
 exact hq
theorem gTakeN {w : World} {base g : Nat} {v : Value} {N : Nt} (h : Nm w base g v N) (hN : N.l.length <= 4096) {i : Nat} {p : Pk} (hp : N.l[i]? = some p) :
 Calls Try.prog 30 #[.pointer (some ⟨g, 0, none⟩), .int .i64 (i : Int)] w fun e w' => ∃ v', e = .returned (pkv p) ∧ Nm w' base g v' { N with l := N.l.eraseIdx i } ∧ Mv w w' g v v' := by
 have hi := (List.getElem?_eq_some_iff.1 hp).1
 obtain ⟨W0, hW0⟩ : ∃ W0, w.alloc (.cells #[.int .i64 0, .int .i64 0, .string ⟨#[]⟩] 72) = W0 := ⟨_, rfl⟩
 have hB : Below w.heap.size w W0 := by rw [<- hW0]; exact alloc_below _ _
 have hz0 : W0.heap.size = w.heap.size + 1 := by rw [<- hW0]; simp
 have hbx : W0.heap[w.heap.size]? = some (.cells #[.int .i64 0, .int .i64 0, .string ⟨#[]⟩] 72 (0, 0)) := by rw [<- hW0]; exact heap_alloc_new w _
 have h0 := h.below hB
 obtain ⟨ao, cap, hv, hcap, hr⟩ := h.spell
 obtain ⟨r, rfl, hbr, hrl⟩ := hr (by omega)
 subst hv
 have c1 := h0.cells.2.1
 have hgl := h.lt
 have HS := hide (gShift h0 hN hp (j := N.l.length - 1) (by omega))
 rw [mvL_last hi] at HS
 have HMv := hide (Mv.of_below g (.slice (some ⟨r, 0, none⟩) N.l.length cap) hB)
 have hel := List.length_eraseIdx_of_lt hi
 have HL := hide h.low
 have HB0 := hide (fun (W1 : World) (hm : Mv W0 W1 g (.slice (some ⟨r, 0, none⟩) N.l.length cap) (.slice (some ⟨r, 0, none⟩) N.l.length cap)) => (hm.block (j := w.heap.size) (by omega) (by omega) (by simp [Value.ownBlock]; omega)).trans hbx)
 have HEl := hide hel
 generalize hM : N.l.length - 1 = m at *
 have hM2 : (N.l.length : Int) - 1 = (m : Int) := by omega
 have hM3 : m < N.l.length := by omega
 have hM4 : m <= cap := by omega
 have HM := hide hM
 have HNl := hide (show N.l.length = m + 1 by omega)
 have hne : g ≠ r := fun e => h.ne (by simp [Value.ownBlock, e])
 clear h h0 hbx hB hel hM hi hp
 go_enter Try.func30, Try.ntmps30
 go_upto_region 2 with fail
 go_upto_region 3 with (go_at_call 38; refine HS.out.mono ?_; rintro e W1 ⟨rfl, hN1, hm1⟩)
 obtain ⟨f, t, bs⟩ := p
 have hl1 : (N.l.eraseIdx i ++ [(⟨f, t, bs⟩ : Pk)])[m]? = some ⟨f, t, bs⟩ := by rw [List.getElem?_append_right (by have := HEl.out; omega), show m - (N.l.eraseIdx i).length = 0 by have := HEl.out; omega]; rfl
 obtain ⟨p0, p1, p2⟩ := hN1.pk hl1
 dsimp only at p0 p1 p2
 obtain ⟨_, d1, _, _⟩ := hN1.cells
 have hzz := hm1.kq.size
 have hx1 := HB0.out W1 hm1
 have ez : W1.heap.size = W1.heap.size := rfl
 obtain ⟨W2, hW2⟩ : ∃ W2, W1.alloc (.cells #[.int .i64 f, .int .i64 t, .string (strOfNums bs)] 72) = W2 := ⟨_, rfl⟩
 have hB2 : Below W1.heap.size W1 W2 := by rw [<- hW2]; exact alloc_below _ _
 have hN2 := hN1.below hB2
 have hbx2 : W2.heap[W1.heap.size]? = some (.cells #[.int .i64 f, .int .i64 t, .string (strOfNums bs)] 72 (0, 0)) := by rw [<- hW2]; exact heap_alloc_new W1 _
 have hx2 : W2.heap[w.heap.size]? = _ := (hB2.block _ (by omega)).trans hx1
 generalize hb1 : W1.heap.size = b1 at *
 generalize hb0 : w.heap.size = b0 at *
 have e1 := hN2.cells.2.1
 obtain ⟨q0, q1, q2⟩ := hN2.pk hl1
 dsimp only at q0 q1 q2
 have hll : (N.l.eraseIdx i ++ [(⟨f, t, bs⟩ : Pk)]).length = N.l.length := by rw [List.length_append]; have := HEl.out; have := HNl.out; simp; omega
 have hrow2 : W2.ownsRow base 72 3 (.slice (some ⟨r, 0, none⟩) N.l.length cap) (N.l.eraseIdx i ++ [(⟨f, t, bs⟩ : Pk)]).length ((N.l.eraseIdx i ++ [(⟨f, t, bs⟩ : Pk)]).flatMap pkw) := hN2.row
 rw [hll] at hrow2
 have fr := fun k => own_frz hrow2 k
 have fg := fun k => hN2.free k
 have fb : ∀ k, W2.frozen? ⟨b0, k, none⟩ = false := fun k => by simp [World.frozen?, hx2]
 have x0 : W2.cell? ⟨b1, 0, none⟩ = some (.int .i64 f) := by rw [Lib.cell_of_heap hbx2]; rfl
 have x1 : W2.cell? ⟨b1, 1, none⟩ = some (.int .i64 t) := by rw [Lib.cell_of_heap hbx2]; rfl
 have x2 : W2.cell? ⟨b1, 2, none⟩ = some (.string (strOfNums bs)) := by rw [Lib.cell_of_heap hbx2]; rfl
 have y0 : W2.cell? ⟨b0, 0, none⟩ = some (.int .i64 0) := by rw [Lib.cell_of_heap hx2]; rfl
 have y1 : W2.cell? ⟨b0, 1, none⟩ = some (.int .i64 0) := by rw [Lib.cell_of_heap hx2]; rfl
 have y2 : W2.cell? ⟨b0, 2, none⟩ = some (.string ⟨#[]⟩) := by rw [Lib.cell_of_heap hx2]; rfl
 have n1 : ¬ b1 = r := by omega
 have n2 : ¬ b1 = g := by omega
 have n3 : ¬ b0 = r := by omega
 have n4 : ¬ b0 = g := by omega
 have n5 : ¬ b1 = b0 := by omega
 have n6 : ¬ r = g := fun e => hne e.symm
 have hsl := fun X => shortP r 0 N.l.length cap m (m : Int) rfl hM4 X
 have HM5 : Hid (Mv w ((((W2.setCell ⟨r, m * 3, none⟩ (.int .i64 0)).setCell ⟨r, m * 3 + 1, none⟩ (.int .i64 0)).setCell ⟨r, m * 3 + 2, none⟩ (.string ⟨#[]⟩)).setCell ⟨g, 1, none⟩ (.slice (some ⟨r, 0, none⟩) m cap)) g (.slice (some ⟨r, 0, none⟩) N.l.length cap) (.slice (some ⟨r, 0, none⟩) m cap)) :=
  ((((HMv.out.trans hm1).next (by rw [hb1]; exact hB2)).trans (mv_row (grown_set3 W2 r (m * 3) (m * 3 + 1) (m * 3 + 2) _ _ _) rfl)).respell (u' := .slice (some ⟨r, 0, none⟩) m cap) rfl).trans (mv_set _ g 1 _ _)
 have HO5 : Hid (((((W2.setCell ⟨r, m * 3, none⟩ (.int .i64 0)).setCell ⟨r, m * 3 + 1, none⟩ (.int .i64 0)).setCell ⟨r, m * 3 + 2, none⟩ (.string ⟨#[]⟩)).setCell ⟨g, 1, none⟩ (.slice (some ⟨r, 0, none⟩) m cap)).ownsRow base 72 3 (.slice (some ⟨r, 0, none⟩) m cap) m ((N.l.eraseIdx i).flatMap pkw)) :=
  ownsRow_setCell_other (own_drop3 hrow2 HEl.out.symm) (by simp [Value.ownBlock]; exact n6) _
 have HN5 : Hid (((((W2.setCell ⟨r, m * 3, none⟩ (.int .i64 0)).setCell ⟨r, m * 3 + 1, none⟩ (.int .i64 0)).setCell ⟨r, m * 3 + 2, none⟩ (.string ⟨#[]⟩)).setCell ⟨g, 1, none⟩ (.slice (some ⟨r, 0, none⟩) m cap)).heap[g]? = some (.cells (ntc { N with l := N.l.eraseIdx i } (.slice (some ⟨r, 0, none⟩) m cap)) 68 (0, 0))) := by
  show _ = _
  have hg2 : (((W2.setCell ⟨r, m * 3, none⟩ (.int .i64 0)).setCell ⟨r, m * 3 + 1, none⟩ (.int .i64 0)).setCell ⟨r, m * 3 + 2, none⟩ (.string ⟨#[]⟩)).heap[g]? = W2.heap[g]? := by
   rw [Below.heap_setCell _ _ _ g hne, Below.heap_setCell _ _ _ g hne, Below.heap_setCell _ _ _ g hne]
  rw [set_blk (hg2.trans hN2.net) 1 _]; rfl
 have HX5 : Hid (((((W2.setCell ⟨r, m * 3, none⟩ (.int .i64 0)).setCell ⟨r, m * 3 + 1, none⟩ (.int .i64 0)).setCell ⟨r, m * 3 + 2, none⟩ (.string ⟨#[]⟩)).setCell ⟨g, 1, none⟩ (.slice (some ⟨r, 0, none⟩) m cap)).heap[b0]? = some (.cells #[.int .i64 0, .int .i64 0, .string ⟨#[]⟩] 72 (0, 0))) := by
  show _ = _
  rw [Below.heap_setCell _ _ _ b0 n4, Below.heap_setCell _ _ _ b0 n3, Below.heap_setCell _ _ _ b0 n3, Below.heap_setCell _ _ _ b0 n3]
  exact hx2
 go_wp2
 generalize World.setCell (World.setCell (World.setCell (World.setCell W2 _ _) _ _) _ _) _ _ = W5 at *
 refine bodyPost_ret (resCell1 rfl rfl (load_pkw (blk_set3 HX5.out))) rfl ⟨rfl, .slice (some ⟨r, 0, none⟩) m cap, ⟨?_, ?_, HL.out⟩, ((HM5.out.set_new (Nat.le_of_eq hb0) _ _).set_new (Nat.le_of_eq hb0) _ _).set_new (Nat.le_of_eq hb0) _ _⟩
 · rw [Below.heap_setCell _ _ _ g (Ne.symm n4), Below.heap_setCell _ _ _ g (Ne.symm n4), Below.heap_setCell _ _ _ g (Ne.symm n4)]
   exact HN5.out
 · show World.ownsRow _ _ _ _ _ (N.l.eraseIdx i).length _
   rw [HEl.out]
   have n7 : (Value.slice (some ⟨r, 0, none⟩) m cap).ownBlock ≠ some b0 := by simp [Value.ownBlock]; exact Ne.symm n3
   exact ownsRow_setCell_other (ownsRow_setCell_other (ownsRow_setCell_other HO5.out n7 _) n7 _) n7 _
end Go.Proofs.Ytcglbbglapomgaa
