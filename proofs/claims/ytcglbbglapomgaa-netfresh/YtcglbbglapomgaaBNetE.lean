import Derived.Test.YtcglbbglapomgaaBNetD
set_option linter.unusedVariables false
set_option linter.unusedSimpArgs false
set_option maxRecDepth 100000
set_option maxHeartbeats 4000000
namespace Go.Proofs.Ytcglbbglapomgaa
open Go.RowKit Fld
theorem cutP (b off n cap k j : Nat) (kb : Int) (hk : kb = (k : Int) + (j : Int)) (h0 : 0 < j) (hj : k + j <= cap) (W : World) : (Instr.slice 61 (.slice (some ⟨b, off, none⟩) n cap) (some (.int .i64 (k : Int))) (some (.int .i64 kb)) (some (.int .i64 kb))).run Try.prog W = .ok (.slice (some ⟨b, off + k * 3, none⟩) j j) W := by
 obtain ⟨i0, hi0, hz0, hz1, hz2⟩ := info_parts pkt_info
 subst hk
 have h1 : (0 : Int) <= (k : Int) ∧ (k : Int) <= (k : Int) + (j : Int) := by omega
 have h2 : (0 : Int) <= (k : Int) + (j : Int) ∧ (k : Int) + (j : Int) <= (cap : Int) := by omega
 have h3 : ((k : Int) + (j : Int)).toNat = k + j := by omega
 have h6 : k + j - k = j := by omega
 have h5 : ¬ j = 0 := by omega
 simp [Instr.slice, Instr.sliceBounds, Instr.sliceBound, asIntOf, run_underlying Try.underlying61, sizeOf, typeInfo, hi0, hz1, h1.1, h1.2, h2.1, h2.2, h3, h5, h6, Addr.add]
theorem fromP (b off n : Nat) (h0 : 1 < n) (W : World) : (Instr.slice 61 (.slice (some ⟨b, off, none⟩) n n) (some (.int .i64 1)) none none).run Try.prog W = .ok (.slice (some ⟨b, off + 3, none⟩) (n - 1) (n - 1)) W := by
 obtain ⟨i0, hi0, hz0, hz1, hz2⟩ := info_parts pkt_info
 have h1 : (1 : Int) <= (n : Int) := by omega
 have h2 : ¬ n = 1 := by omega
 simp [Instr.slice, Instr.sliceBounds, Instr.sliceBound, asIntOf, run_underlying Try.underlying61, sizeOf, typeInfo, hi0, hz1, h1, h2, Addr.add]
theorem fromP1 (b off : Nat) (W : World) : (Instr.slice 61 (.slice (some ⟨b, off, none⟩) 1 1) (some (.int .i64 1)) none none).run Try.prog W = .ok (.slice (some ⟨b, off, none⟩) 0 0) W := by
 obtain ⟨i0, hi0, hz0, hz1, hz2⟩ := info_parts pkt_info
 simp [Instr.slice, Instr.sliceBounds, Instr.sliceBound, asIntOf, run_underlying Try.underlying61, sizeOf, typeInfo, hi0, hz1, Addr.add]
theorem pkt_size : (Try.prog.info? 72).map (·.size) = some 3 := by kernel_rfl
theorem mvL_up {α : Type} {l : List α} {i j : Nat} {p : α} (h : i < j) (hj : j < l.length) : (l.take i ++ ((l.drop (i + 1)).take (j - i) ++ l.drop (i + (j - i)))).set j p = mvL l i j p := by
 apply List.ext_getElem?
 intro k
 have hl : (l.take i ++ ((l.drop (i + 1)).take (j - i) ++ l.drop (i + (j - i)))).length = l.length := by simp; omega
 unfold mvL
 have h1 : ((l.eraseIdx i).take j).length = j := by rw [List.length_take, List.length_eraseIdx_of_lt (by omega)]; omega
 by_cases hk : k < j
 · rw [List.getElem?_set_ne (by omega), List.getElem?_append_left (l₁ := (l.eraseIdx i).take j) (by omega), List.getElem?_take_of_lt hk, List.getElem?_eraseIdx]
   by_cases hi : k < i
   · rw [if_pos hi, List.getElem?_append_left (by rw [List.length_take]; omega), List.getElem?_take_of_lt hi]
   · rw [if_neg hi, List.getElem?_append_right (by rw [List.length_take]; omega), List.length_take, Nat.min_eq_left (by omega), List.getElem?_append_left (by rw [List.length_take, List.length_drop]; omega), List.getElem?_take_of_lt (by omega), List.getElem?_drop]
     congr 1; omega
 · by_cases hkj : k = j
   · subst hkj
     rw [List.getElem?_set_self (by omega), List.getElem?_append_right (by omega), h1, Nat.sub_self]; rfl
   · rw [List.getElem?_set_ne (by omega), List.getElem?_append_right (l₁ := (l.eraseIdx i).take j) (by omega), h1]
     obtain ⟨m, rfl⟩ : ∃ m, k = j + 1 + m := ⟨k - (j + 1), by omega⟩
     have e1 : j + 1 + m - j = m + 1 := by omega
     rw [e1, List.getElem?_cons_succ, List.getElem?_drop, List.getElem?_eraseIdx, if_neg (by omega), List.getElem?_append_right (by rw [List.length_take]; omega), List.length_take, Nat.min_eq_left (by omega), List.getElem?_append_right (by rw [List.length_take, List.length_drop]; omega), List.length_take, List.length_drop, List.getElem?_drop]
     congr 1; omega
theorem mvL_down {α : Type} {l : List α} {i j : Nat} {p : α} (h : j <= i) (hi : i < l.length) : (l.take (j + 1) ++ ((l.drop j).take (i - j) ++ l.drop (j + 1 + (i - j)))).set j p = mvL l i j p := by
 apply List.ext_getElem?
 intro k
 have hl : (l.take (j + 1) ++ ((l.drop j).take (i - j) ++ l.drop (j + 1 + (i - j)))).length = l.length := by simp; omega
 unfold mvL
 have h1 : ((l.eraseIdx i).take j).length = j := by rw [List.length_take, List.length_eraseIdx_of_lt (by omega)]; omega
 by_cases hk : k < j
 · rw [List.getElem?_set_ne (by omega), List.getElem?_append_left (l₁ := (l.eraseIdx i).take j) (by omega), List.getElem?_take_of_lt hk, List.getElem?_eraseIdx, if_pos (by omega), List.getElem?_append_left (by rw [List.length_take]; omega), List.getElem?_take_of_lt (by omega)]
 · by_cases hkj : k = j
   · subst hkj
     rw [List.getElem?_set_self (by omega), List.getElem?_append_right (by omega), h1, Nat.sub_self]; rfl
   · rw [List.getElem?_set_ne (by omega), List.getElem?_append_right (l₁ := (l.eraseIdx i).take j) (by omega), h1]
     obtain ⟨m, rfl⟩ : ∃ m, k = j + 1 + m := ⟨k - (j + 1), by omega⟩
     have e1 : j + 1 + m - j = m + 1 := by omega
     rw [e1, List.getElem?_cons_succ, List.getElem?_drop, List.getElem?_eraseIdx, List.getElem?_append_right (by rw [List.length_take]; omega), List.length_take, Nat.min_eq_left (by omega)]
     by_cases hm : j + m < i
     · rw [if_pos hm, List.getElem?_append_left (by rw [List.length_take, List.length_drop]; omega), List.getElem?_take_of_lt (by omega), List.getElem?_drop]
       congr 1; omega
     · rw [if_neg hm, List.getElem?_append_right (by rw [List.length_take, List.length_drop]; omega), List.length_take, List.length_drop, List.getElem?_drop]
       congr 1; omega
theorem set_self_of {α : Type} {l : List α} {j : Nat} {p : α} (h : l[j]? = some p) : l.set j p = l := by
 apply List.ext_getElem?
 intro k
 by_cases hk : k = j
 · subst hk; rw [List.getElem?_set_self (List.getElem?_eq_some_iff.1 h).1, h]
 · rw [List.getElem?_set_ne (by omega)]
theorem gShift_up {w : World} {base g : Nat} {v : Value} {N : Nt} (h : Nm w base g v N) (hN : N.l.length <= 4096) {i j : Nat} {p : Pk} (hp : N.l[i]? = some p) (hij : i < j) (hi : i < N.l.length) (hj : j < N.l.length) :
 Calls Try.prog 38 #[.pointer (some ⟨g, 0, none⟩), .int .i64 (i : Int), .int .i64 (j : Int)] w fun e w' => e = .returned (.tuple #[]) ∧ Nm w' base g v { N with l := mvL N.l i j p } ∧ Mv w w' g v v := by
 obtain ⟨c0, c1, c2, c3⟩ := h.cells
 obtain ⟨ao, cap, hv, hcap, hr⟩ := h.spell
 obtain ⟨r, rfl, hbr, hrl⟩ := hr (by omega)
 subst hv
 obtain ⟨p0, p1, p2⟩ := h.pk hp
 have HP := hide hp
 obtain ⟨f, t, bs⟩ := p
 dsimp only at p0 p1 p2
 have hne : g ≠ r := fun e => h.ne (by simp [Value.ownBlock, e])
 have hs1 := fun W => cutP r 0 N.l.length cap i (j + 1 - i) ((j : Int) + 1) (by omega) (by omega) (by omega) W
 have hs2 := fun W => fromP r (0 + i * 3) (j + 1 - i) (by omega) W
 obtain ⟨W1, hW1⟩ : ∃ W1, w.alloc (.cells #[.int .i64 f, .int .i64 t, .string (strOfNums bs)] 72) = W1 := ⟨_, rfl⟩
 have hB : Below w.heap.size w W1 := by rw [<- hW1]; exact alloc_below _ _
 have hM1 := h.below hB
 obtain ⟨W2, hcp, hO2, hg2⟩ := run_copy_in (f := pkw) (sz := 3) pkw_len pkw_one (P := Try.prog) (w := W1) 61 3 72 Try.underlying61 pkt_size hM1.row rfl i (i + 1) (j - i) (j + 1 - i) (j + 1 - i) (j - i) (j - i) (by show _ = min _ _; omega) (by omega) (by omega)
 have hbx : W1.heap[w.heap.size]? = some (.cells #[.int .i64 f, .int .i64 t, .string (strOfNums bs)] 72 (0, 0)) := by rw [<- hW1]; exact heap_alloc_new w _
 have hN2 : W2.heap[g]? = _ := (hg2.block g hM1.lt (by intro e; cases e; exact hne rfl)).trans hM1.net
 have hx2 : W2.heap[w.heap.size]? = _ := (hg2.block w.heap.size (by have := (Array.getElem?_eq_some_iff.1 hbx).1; exact this) (by intro e; cases e; exact Nat.lt_irrefl _ hrl)).trans hbx
 have hMv := ((Mv.of_below g (.slice (some ⟨r, 0, none⟩) N.l.length cap) hB).trans (mv_row hg2 rfl)).trans (mv_row (w := W2) (grown_set3 W2 r (j * 3) (j * 3 + 1) (j * 3 + 2) (.int .i64 f) (.int .i64 t) (.string (strOfNums bs))) rfl)
 have hll : (N.l.take i ++ ((N.l.drop (i + 1)).take (j - i) ++ N.l.drop (i + (j - i)))).length = N.l.length := by simp <;> omega
 have hO3 := own_put3 (i := j) pkw_len hO2 (by rw [hll]; exact hj) (y := ⟨f, t, bs⟩) (a := .int .i64 f) (b := .int .i64 t) (c := .string (strOfNums bs)) rfl
 rw [mvL_up hij hj] at hO3
 have HO3 := hide hO3
 have HMv := hide hMv
 have q0 : W2.cell? ⟨w.heap.size, 0, none⟩ = some (.int .i64 f) := by rw [Lib.cell_of_heap hx2]; rfl
 have q1 : W2.cell? ⟨w.heap.size, 1, none⟩ = some (.int .i64 t) := by rw [Lib.cell_of_heap hx2]; rfl
 have q2 : W2.cell? ⟨w.heap.size, 2, none⟩ = some (.string (strOfNums bs)) := by rw [Lib.cell_of_heap hx2]; rfl
 have d1 : W2.cell? ⟨g, 1, none⟩ = some (.slice (some ⟨r, 0, none⟩) N.l.length cap) := by rw [Lib.cell_of_heap hN2]; rfl
 have b1 := hM1.cells.2.1
 have fz := fun k => own_frz hO2 k
 have hj3 : j * 3 + 2 < ((N.l.take i ++ ((N.l.drop (i + 1)).take (j - i) ++ N.l.drop (i + (j - i)))).flatMap pkw).length := by rw [flat_len pkw 3 pkw_len, hll]; omega
 have x0 := own_atO hO2 (List.getElem?_eq_getElem (i := j * 3) (by omega))
 have x1 := own_atO hO2 (List.getElem?_eq_getElem (i := j * 3 + 1) (by omega))
 have x2 := own_atO hO2 (List.getElem?_eq_getElem (i := j * 3 + 2) hj3)
 have HNet := hide hN2
 have HL := hide h.low
 have HLn := hide (mvL_len (p := (⟨f, t, bs⟩ : Pk)) hi hj)
 have HN3 : Hid ((((W2.setCell ⟨r, j * 3, none⟩ (.int .i64 f)).setCell ⟨r, j * 3 + 1, none⟩ (.int .i64 t)).setCell ⟨r, j * 3 + 2, none⟩ (.string (strOfNums bs))).heap[g]? = W2.heap[g]?) := by
  show _ = _
  rw [Below.heap_setCell _ _ _ g hne, Below.heap_setCell _ _ _ g hne, Below.heap_setCell _ _ _ g hne]
 generalize ((N.l.take i ++ ((N.l.drop (i + 1)).take (j - i) ++ N.l.drop (i + (j - i)))).flatMap pkw)[j * 3]'(by omega) = y0 at *
 generalize ((N.l.take i ++ ((N.l.drop (i + 1)).take (j - i) ++ N.l.drop (i + (j - i)))).flatMap pkw)[j * 3 + 1]'(by omega) = y1 at *
 generalize ((N.l.take i ++ ((N.l.drop (i + 1)).take (j - i) ++ N.l.drop (i + (j - i)))).flatMap pkw)[j * 3 + 2]'hj3 = y2 at *
 clear hO2 hg2 hN2 hx2 hbx hMv hO3 hM1 h hj3 hll c0 c2 c3 hr hp
 have hlt : (i : Int) < (j : Int) := by omega
 obtain ⟨u, hcu⟩ : ∃ u, (Builtin.copy_ #[61, 61] 3 #[.slice (some ⟨r, i * 3, none⟩) (j + 1 - i) (j + 1 - i), .slice (some ⟨r, i * 3 + 3, none⟩) (j + 1 - i - 1) (j + 1 - i - 1)]).run Try.prog W1 = .ok u W2 := ⟨_, by
  have := hcp
  rw [show (i + 1) * 3 = i * 3 + 3 by omega] at this
  rw [show j + 1 - i - 1 = j - i by omega]; exact this⟩
 clear hcp
 go_enter Try.func38, Try.ntmps38
 go_upto_region 6 with fail
 go_region
 go_wp2
 go_end0
 refine ⟨rfl, ⟨HN3.out.trans HNet.out, ?_, HL.out⟩, HMv.out.next (Below.refl _ _).drew⟩
 show World.ownsRow _ _ _ _ _ (mvL N.l i j _).length _
 rw [HLn.out]
 exact HO3.out
theorem gShift_down {w : World} {base g : Nat} {v : Value} {N : Nt} (h : Nm w base g v N) (hN : N.l.length <= 4096) {i j : Nat} {p : Pk} (hp : N.l[i]? = some p) (hij : j < i) (hi : i < N.l.length) (hj : j < N.l.length) :
 Calls Try.prog 38 #[.pointer (some ⟨g, 0, none⟩), .int .i64 (i : Int), .int .i64 (j : Int)] w fun e w' => e = .returned (.tuple #[]) ∧ Nm w' base g v { N with l := mvL N.l i j p } ∧ Mv w w' g v v := by
 obtain ⟨c0, c1, c2, c3⟩ := h.cells
 obtain ⟨ao, cap, hv, hcap, hr⟩ := h.spell
 obtain ⟨r, rfl, hbr, hrl⟩ := hr (by omega)
 subst hv
 obtain ⟨p0, p1, p2⟩ := h.pk hp
 have HP := hide hp
 obtain ⟨f, t, bs⟩ := p
 dsimp only at p0 p1 p2
 have hne : g ≠ r := fun e => h.ne (by simp [Value.ownBlock, e])
 have hs1 := fun W => cutP r 0 N.l.length cap j (i + 1 - j) ((i : Int) + 1) (by omega) (by omega) (by omega) W
 have hs2 := fun W => fromP r (0 + j * 3) (i + 1 - j) (by omega) W
 obtain ⟨W1, hW1⟩ : ∃ W1, w.alloc (.cells #[.int .i64 f, .int .i64 t, .string (strOfNums bs)] 72) = W1 := ⟨_, rfl⟩
 have hB : Below w.heap.size w W1 := by rw [<- hW1]; exact alloc_below _ _
 have hM1 := h.below hB
 obtain ⟨W2, hcp, hO2, hg2⟩ := run_copy_in (f := pkw) (sz := 3) pkw_len pkw_one (P := Try.prog) (w := W1) 61 3 72 Try.underlying61 pkt_size hM1.row rfl (j + 1) j (i - j) (i - j) (i - j) (i + 1 - j) (i + 1 - j) (by show _ = min _ _; omega) (by omega) (by omega)
 have hbx : W1.heap[w.heap.size]? = some (.cells #[.int .i64 f, .int .i64 t, .string (strOfNums bs)] 72 (0, 0)) := by rw [<- hW1]; exact heap_alloc_new w _
 have hN2 : W2.heap[g]? = _ := (hg2.block g hM1.lt (by intro e; cases e; exact hne rfl)).trans hM1.net
 have hx2 : W2.heap[w.heap.size]? = _ := (hg2.block w.heap.size (by have := (Array.getElem?_eq_some_iff.1 hbx).1; exact this) (by intro e; cases e; exact Nat.lt_irrefl _ hrl)).trans hbx
 have hMv := ((Mv.of_below g (.slice (some ⟨r, 0, none⟩) N.l.length cap) hB).trans (mv_row hg2 rfl)).trans (mv_row (w := W2) (grown_set3 W2 r (j * 3) (j * 3 + 1) (j * 3 + 2) (.int .i64 f) (.int .i64 t) (.string (strOfNums bs))) rfl)
 have hll : (N.l.take (j + 1) ++ ((N.l.drop j).take (i - j) ++ N.l.drop (j + 1 + (i - j)))).length = N.l.length := by simp <;> omega
 have hO3 := own_put3 (i := j) pkw_len hO2 (by rw [hll]; exact hj) (y := ⟨f, t, bs⟩) (a := .int .i64 f) (b := .int .i64 t) (c := .string (strOfNums bs)) rfl
 rw [mvL_down (Nat.le_of_lt hij) hi] at hO3
 have HO3 := hide hO3
 have HMv := hide hMv
 have q0 : W2.cell? ⟨w.heap.size, 0, none⟩ = some (.int .i64 f) := by rw [Lib.cell_of_heap hx2]; rfl
 have q1 : W2.cell? ⟨w.heap.size, 1, none⟩ = some (.int .i64 t) := by rw [Lib.cell_of_heap hx2]; rfl
 have q2 : W2.cell? ⟨w.heap.size, 2, none⟩ = some (.string (strOfNums bs)) := by rw [Lib.cell_of_heap hx2]; rfl
 have d1 : W2.cell? ⟨g, 1, none⟩ = some (.slice (some ⟨r, 0, none⟩) N.l.length cap) := by rw [Lib.cell_of_heap hN2]; rfl
 have b1 := hM1.cells.2.1
 have fz := fun k => own_frz hO2 k
 have hj3 : j * 3 + 2 < ((N.l.take (j + 1) ++ ((N.l.drop j).take (i - j) ++ N.l.drop (j + 1 + (i - j)))).flatMap pkw).length := by rw [flat_len pkw 3 pkw_len, hll]; omega
 have x0 := own_atO hO2 (List.getElem?_eq_getElem (i := j * 3) (by omega))
 have x1 := own_atO hO2 (List.getElem?_eq_getElem (i := j * 3 + 1) (by omega))
 have x2 := own_atO hO2 (List.getElem?_eq_getElem (i := j * 3 + 2) hj3)
 have HNet := hide hN2
 have HL := hide h.low
 have HLn := hide (mvL_len (p := (⟨f, t, bs⟩ : Pk)) hi hj)
 have HN3 : Hid ((((W2.setCell ⟨r, j * 3, none⟩ (.int .i64 f)).setCell ⟨r, j * 3 + 1, none⟩ (.int .i64 t)).setCell ⟨r, j * 3 + 2, none⟩ (.string (strOfNums bs))).heap[g]? = W2.heap[g]?) := by
  show _ = _
  rw [Below.heap_setCell _ _ _ g hne, Below.heap_setCell _ _ _ g hne, Below.heap_setCell _ _ _ g hne]
 generalize ((N.l.take (j + 1) ++ ((N.l.drop j).take (i - j) ++ N.l.drop (j + 1 + (i - j)))).flatMap pkw)[j * 3]'(by omega) = y0 at *
 generalize ((N.l.take (j + 1) ++ ((N.l.drop j).take (i - j) ++ N.l.drop (j + 1 + (i - j)))).flatMap pkw)[j * 3 + 1]'(by omega) = y1 at *
 generalize ((N.l.take (j + 1) ++ ((N.l.drop j).take (i - j) ++ N.l.drop (j + 1 + (i - j)))).flatMap pkw)[j * 3 + 2]'hj3 = y2 at *
 clear hO2 hg2 hN2 hx2 hbx hMv hO3 hM1 h hj3 hll c0 c2 c3 hr hp
 have hlt : ¬ (i : Int) < (j : Int) := by omega
 have hlt2 : (j : Int) < (i : Int) := by omega
 obtain ⟨u, hcu⟩ : ∃ u, (Builtin.copy_ #[61, 61] 3 #[.slice (some ⟨r, j * 3 + 3, none⟩) (i + 1 - j - 1) (i + 1 - j - 1), .slice (some ⟨r, j * 3, none⟩) (i + 1 - j) (i + 1 - j)]).run Try.prog W1 = .ok u W2 := ⟨_, by
  have := hcp
  rw [show (j + 1) * 3 = j * 3 + 3 by omega] at this
  rw [show i + 1 - j - 1 = i - j by omega]; exact this⟩
 clear hcp
 go_enter Try.func38, Try.ntmps38
 go_upto_region 6 with fail
 go_region
 go_wp2
 go_end0
 refine ⟨rfl, ⟨HN3.out.trans HNet.out, ?_, HL.out⟩, HMv.out.next (Below.refl _ _).drew⟩
 show World.ownsRow _ _ _ _ _ (mvL N.l i j _).length _
 rw [HLn.out]
 exact HO3.out
theorem gShift_same {w : World} {base g : Nat} {v : Value} {N : Nt} (h : Nm w base g v N) (hN : N.l.length <= 4096) {i j : Nat} {p : Pk} (hp : N.l[i]? = some p) (hij : j = i) (hi : i < N.l.length) (hj : j < N.l.length) :
 Calls Try.prog 38 #[.pointer (some ⟨g, 0, none⟩), .int .i64 (i : Int), .int .i64 (j : Int)] w fun e w' => e = .returned (.tuple #[]) ∧ Nm w' base g v { N with l := mvL N.l i j p } ∧ Mv w w' g v v := by
 obtain ⟨c0, c1, c2, c3⟩ := h.cells
 obtain ⟨ao, cap, hv, hcap, hr⟩ := h.spell
 obtain ⟨r, rfl, hbr, hrl⟩ := hr (by omega)
 subst hv
 obtain ⟨p0, p1, p2⟩ := h.pk hp
 have HP := hide hp
 obtain ⟨f, t, bs⟩ := p
 dsimp only at p0 p1 p2
 have hne : g ≠ r := fun e => h.ne (by simp [Value.ownBlock, e])
 subst hij
 have hs1 := fun W => cutP r 0 N.l.length cap j 1 ((j : Int) + 1) (by omega) (by omega) (by omega) W
 have hs2 := fun W => fromP1 r (0 + j * 3) W
 obtain ⟨W1, hW1⟩ : ∃ W1, w.alloc (.cells #[.int .i64 f, .int .i64 t, .string (strOfNums bs)] 72) = W1 := ⟨_, rfl⟩
 have hB : Below w.heap.size w W1 := by rw [<- hW1]; exact alloc_below _ _
 have hM1 := h.below hB
 obtain ⟨W2, hcp, hO2, hg2⟩ := run_copy_in (f := pkw) (sz := 3) pkw_len pkw_one (P := Try.prog) (w := W1) 61 3 72 Try.underlying61 pkt_size hM1.row rfl j j 0 0 0 1 1 (by show _ = min _ _; omega) (by omega) (by omega)
 have hbx : W1.heap[w.heap.size]? = some (.cells #[.int .i64 f, .int .i64 t, .string (strOfNums bs)] 72 (0, 0)) := by rw [<- hW1]; exact heap_alloc_new w _
 have hN2 : W2.heap[g]? = _ := (hg2.block g hM1.lt (by intro e; cases e; exact hne rfl)).trans hM1.net
 have hx2 : W2.heap[w.heap.size]? = _ := (hg2.block w.heap.size (by have := (Array.getElem?_eq_some_iff.1 hbx).1; exact this) (by intro e; cases e; exact Nat.lt_irrefl _ hrl)).trans hbx
 have hMv := ((Mv.of_below g (.slice (some ⟨r, 0, none⟩) N.l.length cap) hB).trans (mv_row hg2 rfl)).trans (mv_row (w := W2) (grown_set3 W2 r (j * 3) (j * 3 + 1) (j * 3 + 2) (.int .i64 f) (.int .i64 t) (.string (strOfNums bs))) rfl)
 have hll : (N.l.take j ++ ((N.l.drop j).take 0 ++ N.l.drop (j + 0))).length = N.l.length := by simp <;> omega
 have hO3 := own_put3 (i := j) pkw_len hO2 (by rw [hll]; exact hj) (y := ⟨f, t, bs⟩) (a := .int .i64 f) (b := .int .i64 t) (c := .string (strOfNums bs)) rfl
 rw [show (N.l.take j ++ ((N.l.drop j).take 0 ++ N.l.drop (j + 0))).set j ⟨f, t, bs⟩ = mvL N.l j j ⟨f, t, bs⟩ by rw [mvL_self hp, List.take_zero, List.nil_append, Nat.add_zero, List.take_append_drop]; exact set_self_of hp] at hO3
 have HO3 := hide hO3
 have HMv := hide hMv
 have q0 : W2.cell? ⟨w.heap.size, 0, none⟩ = some (.int .i64 f) := by rw [Lib.cell_of_heap hx2]; rfl
 have q1 : W2.cell? ⟨w.heap.size, 1, none⟩ = some (.int .i64 t) := by rw [Lib.cell_of_heap hx2]; rfl
 have q2 : W2.cell? ⟨w.heap.size, 2, none⟩ = some (.string (strOfNums bs)) := by rw [Lib.cell_of_heap hx2]; rfl
 have d1 : W2.cell? ⟨g, 1, none⟩ = some (.slice (some ⟨r, 0, none⟩) N.l.length cap) := by rw [Lib.cell_of_heap hN2]; rfl
 have b1 := hM1.cells.2.1
 have fz := fun k => own_frz hO2 k
 have hj3 : j * 3 + 2 < ((N.l.take j ++ ((N.l.drop j).take 0 ++ N.l.drop (j + 0))).flatMap pkw).length := by rw [flat_len pkw 3 pkw_len, hll]; omega
 have x0 := own_atO hO2 (List.getElem?_eq_getElem (i := j * 3) (by omega))
 have x1 := own_atO hO2 (List.getElem?_eq_getElem (i := j * 3 + 1) (by omega))
 have x2 := own_atO hO2 (List.getElem?_eq_getElem (i := j * 3 + 2) hj3)
 have HNet := hide hN2
 have HL := hide h.low
 have HLn := hide (mvL_len (p := (⟨f, t, bs⟩ : Pk)) hi hj)
 have HN3 : Hid ((((W2.setCell ⟨r, j * 3, none⟩ (.int .i64 f)).setCell ⟨r, j * 3 + 1, none⟩ (.int .i64 t)).setCell ⟨r, j * 3 + 2, none⟩ (.string (strOfNums bs))).heap[g]? = W2.heap[g]?) := by
  show _ = _
  rw [Below.heap_setCell _ _ _ g hne, Below.heap_setCell _ _ _ g hne, Below.heap_setCell _ _ _ g hne]
 generalize ((N.l.take j ++ ((N.l.drop j).take 0 ++ N.l.drop (j + 0))).flatMap pkw)[j * 3]'(by omega) = y0 at *
 generalize ((N.l.take j ++ ((N.l.drop j).take 0 ++ N.l.drop (j + 0))).flatMap pkw)[j * 3 + 1]'(by omega) = y1 at *
 generalize ((N.l.take j ++ ((N.l.drop j).take 0 ++ N.l.drop (j + 0))).flatMap pkw)[j * 3 + 2]'hj3 = y2 at *
 clear hO2 hg2 hN2 hx2 hbx hMv hO3 hM1 h hj3 hll c0 c2 c3 hr hp
 obtain ⟨u, hcu⟩ : ∃ u, (Builtin.copy_ #[61, 61] 3 #[.slice (some ⟨r, j * 3, none⟩) 0 0, .slice (some ⟨r, j * 3, none⟩) 1 1]).run Try.prog W1 = .ok u W2 := ⟨_, by
  exact hcp⟩
 clear hcp
 go_enter Try.func38, Try.ntmps38
 go_upto_region 6 with fail
 go_region
 go_wp2
 go_end0
 refine ⟨rfl, ⟨HN3.out.trans HNet.out, ?_, HL.out⟩, HMv.out.next (Below.refl _ _).drew⟩
 show World.ownsRow _ _ _ _ _ (mvL N.l j j _).length _
 rw [HLn.out]
 exact HO3.out
theorem gShift {w : World} {base g : Nat} {v : Value} {N : Nt} (h : Nm w base g v N) (hN : N.l.length <= 4096) {i j : Nat} {p : Pk} (hp : N.l[i]? = some p) (hj : j < N.l.length) :
 Calls Try.prog 38 #[.pointer (some ⟨g, 0, none⟩), .int .i64 (i : Int), .int .i64 (j : Int)] w fun e w' => e = .returned (.tuple #[]) ∧ Nm w' base g v { N with l := mvL N.l i j p } ∧ Mv w w' g v v := by
 have hi := (List.getElem?_eq_some_iff.1 hp).1
 rcases Nat.lt_trichotomy i j with e | e | e
 · exact gShift_up h hN hp e hi hj
 · exact gShift_same h hN hp e.symm hi hj
 · exact gShift_down h hN hp e hi hj
end Go.Proofs.Ytcglbbglapomgaa
