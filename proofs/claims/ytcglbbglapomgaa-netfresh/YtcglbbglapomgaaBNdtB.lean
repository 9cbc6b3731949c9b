import Derived.Test.YtcglbbglapomgaaBNdtA
set_option linter.unusedVariables false
set_option linter.unusedSimpArgs false
set_option maxRecDepth 100000
set_option maxHeartbeats 4000000
namespace Go.Proofs.Ytcglbbglapomgaa
open Go.RowKit Fld
theorem app_dk {W : World} {lo n1 m c : Nat} {x : Value} {es1 ps : List Dk} {ad : Addr} (h : W.ownsRow lo 40 3 x n1 (es1.flatMap dkc)) (hps : ps.length = m) (hc : ∀ j u, (ps.flatMap dkc)[j]? = some u -> W.cell? (ad.add j) = some u) (h1 : ∀ e ∈ ps, ∀ x ∈ dkc e, x.oneCell' = true) (hl : n1 + m <= 3000000000000) (hb : lo <= W.heap.size) :
 ∃ (a' : Option Addr) (c' : Nat) (W' : World), (Builtin.append_ #[27, 27] 27 #[x, .slice (some ad) m c]).run Try.prog W = .ok (.slice a' (n1 + m) c') W' ∧ W'.ownsRow lo 40 3 (.slice a' (n1 + m) c') (n1 + m) ((es1 ++ ps).flatMap dkc) ∧ W.grownBy W' x.ownBlock ∧ (∀ j, (Value.slice a' (n1 + m) c').ownBlock = some j -> x.ownBlock = some j ∨ W.heap.size = j) ∧ (x ≠ .slice none 0 0 -> ∃ r, a' = some ⟨r, 0, none⟩) := by
 obtain ⟨i0, hi0, hz0, hz1, hz2⟩ := info_parts apk_info
 subst hps
 obtain ⟨v', W', hr, ho, hg, hnl, hat⟩ := run_append_own_at (P := Try.prog) (w := W) lo 27 27 40 i0 (.agg #[.int .i64 0, .int .i64 0, .slice none 0 0]) 3 40 Try.underlying27 hi0 hz0 hz1 hz2 rfl (by decide) x n1 (es1.flatMap dkc) h ad ps.length c (ps.flatMap dkc) (flat_len dkc 3 dkc_len ps) hc (fun u hu => by
  obtain ⟨e, he, hx⟩ := List.mem_flatMap.1 hu
  exact h1 e he u hx) (by unfold maxLen; omega) (by omega) hb
 rw [<- List.flatMap_append] at ho
 obtain ⟨a', c', rfl, _⟩ := own_spellO ho
 refine ⟨a', c', W', hr, ho, hg, fun j hj => ?_, fun hx => ?_⟩
 · rcases hat with e | e
   · exact .inl (e.symm.trans hj)
   · rw [e] at hj; cases hj; exact .inr rfl
 · rcases ho.2 with ⟨e, _⟩ | ⟨r, _, _, e, _⟩
   · exact absurd (hnl.1 e).1 hx
   · injection e with e1 _ _
     exact ⟨r, e1⟩
theorem headA (b off n cap k : Nat) (hn : k <= cap) (W : World) : (Instr.slice 27 (.slice (some ⟨b, off, none⟩) n cap) none (some (.int .i64 (k : Int))) none).run Try.prog W = .ok (.slice (some ⟨b, off, none⟩) k cap) W := by
 obtain ⟨i0, hi0, hz0, hz1, hz2⟩ := info_parts apk_info
 have h2 : (k : Int) <= (cap : Int) := by omega
 by_cases h0 : cap = 0
 · subst h0
   have : k = 0 := by omega
   subst this
   simp [Instr.slice, Instr.sliceBounds, Instr.sliceBound, asIntOf, run_underlying Try.underlying27, sizeOf, typeInfo, hi0, hz1]
 · simp [Instr.slice, Instr.sliceBounds, Instr.sliceBound, asIntOf, run_underlying Try.underlying27, sizeOf, typeInfo, hi0, hz1, h2, h0, show ¬ cap < k by omega, Addr.add]
theorem tailA (b n cap k : Nat) (kb : Int) (hk : kb = (k : Int)) (hn : k <= n) (hc : n <= cap) : ∃ o c, (k < n -> o = k * 3) ∧ ∀ W : World, (Instr.slice 27 (.slice (some ⟨b, 0, none⟩) n cap) (some (.int .i64 kb)) none none).run Try.prog W = .ok (.slice (some ⟨b, o, none⟩) (n - k) c) W := by
 obtain ⟨i0, hi0, hz0, hz1, hz2⟩ := info_parts apk_info
 subst hk
 have h1 : (0 : Int) <= (k : Int) ∧ (k : Int) <= (n : Int) := by omega
 by_cases h0 : cap = k
 · refine ⟨0, 0, fun hl => by omega, fun W => ?_⟩
   simp [Instr.slice, Instr.sliceBounds, Instr.sliceBound, asIntOf, run_underlying Try.underlying27, sizeOf, typeInfo, hi0, h1.1, h1.2, h0, hn]
   try omega
 · refine ⟨k * 3, cap - k, fun _ => rfl, fun W => ?_⟩
   simp [Instr.slice, Instr.sliceBounds, Instr.sliceBound, asIntOf, run_underlying Try.underlying27, sizeOf, typeInfo, hi0, hz1, h1.1, h1.2, h0, hn, Addr.add, show ¬ n < k by omega]
   try (intro hz; omega)
theorem Dl.news {w : World} {base r n cap : Nat} {es : List Dk} (h : Dl w base (.slice (some ⟨r, 0, none⟩) n cap) es) (k m o : Nat) (hm : k + m <= es.length) (ho : 0 < m -> o = k * 3) : ∀ j u, (((es.drop k).take m).flatMap dkc)[j]? = some u -> w.cell? ((⟨r, o, none⟩ : Addr).add j) = some u := by
 intro j u hj
 have hl : ((es.drop k).take m).length = m := by rw [List.length_take, List.length_drop]; omega
 have hjl : j < m * 3 := by
  have := (List.getElem?_eq_some_iff.1 hj).1
  rw [flat_len dkc 3 dkc_len, hl] at this
  exact this
 rw [ho (by omega), add_atO]
 have hO := h.row
 have hn : n = es.length := by rcases hO.2 with ⟨e, _⟩ | ⟨_, _, _, e, _⟩ <;> cases e; rfl
 subst hn
 refine own_atO hO ?_
 rw [<- flat_take dkc 3 dkc_len _ m (by rw [List.length_drop]; omega), List.getElem?_take_of_lt hjl, <- flat_drop dkc 3 dkc_len, List.getElem?_drop] at hj
 exact hj
theorem take_drop_erase {α : Type} (l : List α) (i : Nat) : l.take i ++ l.drop (i + 1) = l.eraseIdx i := (List.eraseIdx_eq_take_drop_succ l i).symm
theorem drop_all {α : Type} (l : List α) (k : Nat) : (l.drop k).take (l.length - k) = l.drop k := List.take_of_length_le (by rw [List.length_drop]; exact Nat.le_refl _)
theorem dTake21 {w : World} {base g : Nat} {v : Value} {N : Nt} {es : List Dk} (h : Nd w base g v N es) (hb : base <= w.heap.size) (hN : N.l.length <= 4096) {i : Nat} {e : Dk} (he : es[i]? = some e) :
 Calls Try.prog 43 #[.pointer (some ⟨g, 0, none⟩), .int .i64 (i : Int)] w fun r w' => r = .returned (.agg #[.int .i64 e.1.f, .int .i64 e.1.t, e.2]) ∧ ∃ r' c', Nd w' base g (.slice (some ⟨r', 0, none⟩) (es.eraseIdx i).length c') { N with l := N.l.eraseIdx i } (es.eraseIdx i) ∧ Mv w w' g v (.slice (some ⟨r', 0, none⟩) (es.eraseIdx i).length c') := by
 have hi := (List.getElem?_eq_some_iff.1 he).1
 have hel := h.len
 obtain ⟨w0, hw0⟩ : ∃ w0, w.alloc (.cells #[.int .i64 0, .int .i64 0, .slice none 0 0] 40) = w0 := ⟨_, rfl⟩
 have hb0 : Below w.heap.size w w0 := by rw [<- hw0]; exact alloc_below _ _
 have hz0 : w0.heap.size = w.heap.size + 1 := by rw [<- hw0]; simp
 have hx0 : w0.heap[w.heap.size]? = some (.cells #[.int .i64 0, .int .i64 0, .slice none 0 0] 40 (0, 0)) := by rw [<- hw0]; exact heap_alloc_new w _
 obtain ⟨ao, cap, rfl, hcap, hr⟩ := h.spell
 obtain ⟨r, rfl, hbr, hrl⟩ := hr (by omega)
 have h0 := h.below hb0
 obtain ⟨_, c1, _, _⟩ := h0.cells
 obtain ⟨p0, p1, p2⟩ := h0.pks.pk he
 have hone := dkc_one h.pks
 have hmem : e ∈ es := List.mem_of_getElem? he
 obtain ⟨eo, ec, heu, _⟩ := own_spellO (h.pks.each e hmem).1
 obtain ⟨⟨f, t, bs⟩, u⟩ := e
 dsimp only at p0 p1 p2 heu
 subst heu
 obtain ⟨w1, hw1⟩ : ∃ w1, w0.alloc (.cells #[.int .i64 f, .int .i64 t, .slice eo bs.length ec] 40) = w1 := ⟨_, rfl⟩
 have hb1 : Below w0.heap.size w0 w1 := by rw [<- hw1]; exact alloc_below _ _
 have hz1 : w1.heap.size = w.heap.size + 1 + 1 := by rw [<- hw1]; simp [hz0]
 have hx1 : w1.heap[w.heap.size + 1]? = some (.cells #[.int .i64 f, .int .i64 t, .slice eo bs.length ec] 40 (0, 0)) := by rw [<- hw1, <- hz0]; exact heap_alloc_new w0 _
 have hx0' : w1.heap[w.heap.size]? = _ := (hb1.block _ (by omega)).trans hx0
 have h1 := h0.below hb1
 have hbX : Below w1.heap.size w1 (w1.alloc (.cells #[] 40)).drew := (alloc_below w1 _).drew
 have hX := h1.below hbX
 have hown : (w1.alloc (.cells #[] 40)).drew.ownsRow w1.heap.size 40 3 (.slice (some ⟨w1.heap.size, 0, none⟩) 0 0) 0 (([] : List Dk).flatMap dkc) := own_none w1 _ 3
 have hs1 := fun W => headA r 0 es.length cap i (by omega) W
 obtain ⟨o2, k2, ho2, hs2⟩ := tailA r es.length cap (i + 1) ((i : Int) + 1) (by omega) (by omega) hcap
 obtain ⟨a3, k3, w3, hr3, ho3, hg3, hat3, hnn3⟩ := app_dk (c := cap) (ps := (es.drop 0).take i) (m := i) (ad := ⟨r, 0, none⟩) hown (by rw [List.length_take, List.drop_zero]; omega) (hX.pks.news 0 i 0 (by omega) (fun _ => by omega)) (fun e' he' => hone e' (List.mem_of_mem_drop (List.mem_of_mem_take he'))) (by omega) (by have := hbX.size; omega)
 rw [Nat.zero_add] at hr3 ho3 hat3
 obtain ⟨r3, hr3'⟩ := hnn3 (by simp)
 subst hr3'
 have hzX : (w1.alloc (.cells #[] 40)).drew.heap.size = w1.heap.size + 1 := by show (w1.alloc _).heap.size = _; simp
 have hK3 : Kq (fun j => j < w1.heap.size) w1 w3 := (Below.kq hbX (fun j hj => hj)).trans (grown_kq hg3 (fun j hj => by omega) (fun k hk hj => by simp [Value.ownBlock] at hk; omega))
 have hlow : ∀ j, (Value.slice (some ⟨r3, 0, none⟩) i k3).ownBlock = some j -> w1.heap.size <= j := fun j hj => (ho3.lt j hj).1
 have h3 : Nd w3 base g (.slice (some ⟨r, 0, none⟩) es.length cap) N es := h1.kept hK3 h1.lt (fun j hj => (h1.pks.lt j hj).2) (fun e he j hj => ((h1.pks.each e he).1.lt j hj).2)
 obtain ⟨a4, k4, w4, hr4, ho4, hg4, hat4, hnn4⟩ := app_dk (c := k2) (ps := (es.drop (i + 1)).take (es.length - (i + 1))) (m := es.length - (i + 1)) (ad := ⟨r, o2, none⟩) ho3 (by rw [List.length_take, List.length_drop]; omega) (h3.pks.news (i + 1) (es.length - (i + 1)) o2 (by omega) (fun _ => ho2 (by omega))) (fun e' he' => hone e' (List.mem_of_mem_drop (List.mem_of_mem_take he'))) (by omega) (by have := hK3.size; omega)
 obtain ⟨r4, hr4'⟩ := hnn4 (by simp)
 subst hr4'
 have hK4 : Kq (fun j => j < w1.heap.size) w1 w4 := hK3.trans (grown_kq hg4 (fun j hj => by have := hK3.size; omega) (fun k hk hj => by have := hlow k hk; omega))
 have hlow4 : ∀ j, (Value.slice (some ⟨r4, 0, none⟩) (i + (es.length - (i + 1))) k4).ownBlock = some j -> w1.heap.size <= j := fun j hj => (ho4.lt j hj).1
 have h4 : Nd w4 base g (.slice (some ⟨r, 0, none⟩) es.length cap) N es := h1.kept hK4 h1.lt (fun j hj => (h1.pks.lt j hj).2) (fun e he j hj => ((h1.pks.each e he).1.lt j hj).2)
 have hes : ([] : List Dk) ++ (es.drop 0).take i ++ (es.drop (i + 1)).take (es.length - (i + 1)) = es.eraseIdx i := by
  rw [List.nil_append, List.drop_zero, <- take_drop_erase, show es.length - (i + 1) = (es.drop (i + 1)).length by rw [List.length_drop], List.take_length]
 have hln : i + (es.length - (i + 1)) = (es.eraseIdx i).length := by rw [List.length_eraseIdx_of_lt hi]; omega
 rw [hes] at ho4
 have hS0 : w1.drew.cell? ⟨g, 1, none⟩ = some (.slice (some ⟨r, 0, none⟩) es.length cap) := h1.cells.2.1
 have hS1 := hX.cells.2.1
 have hS3 := h3.cells.2.1
 have hS4 := h4.cells.2.1
 have hz4 := h4.free 1
 have hgl := h.lt
 have hNet : (w4.setCell ⟨g, 1, none⟩ (.slice (some ⟨r4, 0, none⟩) (i + (es.length - (i + 1))) k4)).heap[g]? = some (.cells (ndc { N with l := N.l.eraseIdx i } (.slice (some ⟨r4, 0, none⟩) (i + (es.length - (i + 1))) k4)) 29 (0, 0)) := by rw [set_blk h4.net 1 _]; rfl
 have hDl : Dl (w4.setCell ⟨g, 1, none⟩ (.slice (some ⟨r4, 0, none⟩) (i + (es.length - (i + 1))) k4)) base (.slice (some ⟨r4, 0, none⟩) (i + (es.length - (i + 1))) k4) (es.eraseIdx i) := by
  refine ⟨?_, fun e he => ?_⟩
  · rw [<- hln]
    exact ownsRow_setCell_other (own_mono ho4 (by have := hb0.size; have := hb1.size; omega)) (fun e => by have : w1.heap.size <= g := hlow4 g e; omega) _
  · have hm := List.mem_of_mem_eraseIdx he
    exact ⟨ownsRow_setCell_other (h4.pks.each e hm).1 (h4.une hm) _, (h4.pks.each e hm).2⟩
 have hEq : (es.eraseIdx i).map (·.1) = N.l.eraseIdx i := by rw [<- h.eq, <- take_drop_erase, <- take_drop_erase, List.map_append, List.map_take, List.map_drop]
 have hMv : Mv w (w4.setCell ⟨g, 1, none⟩ (.slice (some ⟨r4, 0, none⟩) (i + (es.length - (i + 1))) k4)) g (.slice (some ⟨r, 0, none⟩) es.length cap) (.slice (some ⟨r4, 0, none⟩) (i + (es.length - (i + 1))) k4) :=
  ((Mv.of_below g (.slice (some ⟨r, 0, none⟩) es.length cap) (Below.next hb0 hb1)).trans (c := w4) (x := .slice (some ⟨r4, 0, none⟩) (i + (es.length - (i + 1))) k4) ⟨hK4.mono (fun j hj => hj.1), fun j hj => .inr (hlow4 j hj)⟩).trans (mv_set w4 g 1 _ _)
 have hbb : (w4.setCell ⟨g, 1, none⟩ (.slice (some ⟨r4, 0, none⟩) (i + (es.length - (i + 1))) k4)).heap[w.heap.size + 1]? = _ := (Below.heap_setCell _ ⟨g, 1, none⟩ _ _ (by show _ ≠ g; omega)).trans ((hK4.block _ (by show _ < w1.heap.size; omega)).trans hx1)
 have hb00 : (w4.setCell ⟨g, 1, none⟩ (.slice (some ⟨r4, 0, none⟩) (i + (es.length - (i + 1))) k4)).heap[w.heap.size]? = _ := (Below.heap_setCell _ ⟨g, 1, none⟩ _ _ (by show _ ≠ g; omega)).trans ((hK4.block _ (by show _ < w1.heap.size; omega)).trans hx0')
 have HNet := hide hNet
 have HLn := hide hln
 have HDl := hide hDl
 have HEq := hide hEq
 have HMv := hide hMv
 have HBB := hide hbb
 have HB0 := hide hb00
 have HLow := hide h.low
 have hgw : w.heap.size ≠ g := by omega
 have HOw := hide (fun j (hj : (Value.slice (some ⟨r4, 0, none⟩) (i + (es.length - (i + 1))) k4).ownBlock = some j) => show j ≠ w.heap.size by have := hlow4 j hj; omega)
 have HUo := hide (fun e (he : e ∈ es) j (hj : e.2.ownBlock = some j) => show j ≠ w.heap.size by have := ((h.pks.each e he).1.lt j hj).2; omega)
 have hwr : IntKind.i64.wrap ((i : Int) + 1) = (i : Int) + 1 := by rw [IntKind.wrap_i64]; omega
 have hz0' : w0.heap.size = w.heap.size + 1 := hz0
 clear hNet hDl hEq hMv hbb hb00 hlow4 hlow hK3 hK4 h h0 h1 h3 h4 hX hbX hown ho3 ho4 hg3 hg4 hat3 hat4 hone hx0 hx0' hx1 hzX hb0 hb1 hes hln hr
 clear hz1 hel
 go_enter Try.func43, Try.ntmps43
 go_upto_region 2 with fail
 refine wp_region_mute (S := (fun V => V.cell? ⟨g, 1, none⟩ = some (.slice (some ⟨r, 0, none⟩) es.length cap))) (by kernel_rfl) (by kernel_rfl) rfl (by ((try dsimp only) <;> (first | with_reducible exact hS0 | with_reducible exact hS1 | with_reducible exact hS3 | with_reducible exact hS4))) (fun hHeld => ?_)
 simp only [muteL, mute]
 refine tkY 0 ?_
 refine tkY 2 ?_
 refine tkY 3 ?_
 refine tkY 4 ?_
 refine tkY 5 ?_
 refine tkY 6 ?_
 refine tkY 9 ?_
 refine tkY 10 ?_
 refine tkY 11 ?_
 refine tkY 12 ?_
 refine tkY 13 ?_
 refine tkY 14 ?_
 refine tkY 7 ?_
 refine tkY 15 ?_
 refine rd1 1 (fun K hK => ?_)
 (try simp only [ly0, ly1, ly2, ly3, ly4, ly5, ly6, ly7])
 go_simp
 refine hK.out _ _ (by ((try dsimp only) <;> (first | with_reducible exact hS0 | with_reducible exact hS1 | with_reducible exact hS3 | with_reducible exact hS4))) (fun hHeld => ?_)
 clear hK K
 (try simp only [ly0, ly1, ly2, ly3, ly4, ly5, ly6, ly7])
 refine rd1 8 (fun K hK => ?_)
 (refine app_mute (by rfl) _ _ _ _ (by rfl) _ _ (by rfl) (by rfl) _ w3 hr3 ?_)
 refine hK.out _ _ (by ((try dsimp only) <;> (first | with_reducible exact hS0 | with_reducible exact hS1 | with_reducible exact hS3 | with_reducible exact hS4))) (fun hHeld => ?_)
 clear hK K
 (try simp only [ly0, ly1, ly2, ly3, ly4, ly5, ly6, ly7])
 refine rd1 16 (fun K hK => ?_)
 (refine app_mute (by rfl) _ _ _ _ (by rfl) _ _ (by rfl) (by rfl) _ w4 hr4 ?_)
 refine hK.out _ _ (by ((try dsimp only) <;> (first | with_reducible exact hS0 | with_reducible exact hS1 | with_reducible exact hS3 | with_reducible exact hS4))) (fun hHeld => ?_)
 clear hK K
 (try simp only [ly0, ly1, ly2, ly3, ly4, ly5, ly6, ly7])
 refine tkY 17 ?_
 refine tkY 18 ?_
 refine tkY 19 ?_
 refine wpAnyH_done (by kernel_rfl) ?_ _
 clear hS0 hS1 hS3 hr3 hr4
 simp only [muteQ]
 generalize hW5 : World.setCell w4 _ _ = w5 at *
 have x0 : w5.cell? ⟨w.heap.size + 1, 0, none⟩ = some (.int .i64 f) := (Lib.cell_of_heap HBB.out 0).trans rfl
 have x1 : w5.cell? ⟨w.heap.size + 1, 1, none⟩ = some (.int .i64 t) := (Lib.cell_of_heap HBB.out 1).trans rfl
 have x2 : w5.cell? ⟨w.heap.size + 1, 2, none⟩ = some (.slice eo bs.length ec) := (Lib.cell_of_heap HBB.out 2).trans rfl
 have y0 : w5.cell? ⟨w.heap.size, 0, none⟩ = some (.int .i64 0) := (Lib.cell_of_heap HB0.out 0).trans rfl
 have y1 : w5.cell? ⟨w.heap.size, 1, none⟩ = some (.int .i64 0) := (Lib.cell_of_heap HB0.out 1).trans rfl
 have y2 : w5.cell? ⟨w.heap.size, 2, none⟩ = some (.slice none 0 0) := (Lib.cell_of_heap HB0.out 2).trans rfl
 have yf : ∀ k, w5.frozen? ⟨w.heap.size, k, none⟩ = false := fun k => Lib.frozen_of_heap HB0.out k
 go_wp2
 refine bodyPost_ret (resCell1 rfl rfl (load_pka (blk_set3 HB0.out))) rfl ?_
 rw [<- HLn.out]
 refine ⟨rfl, r4, k4, ⟨?_, HDl.out.kept (S := fun j => j ≠ w.heap.size) ⟨rfl, rfl, rfl, by simp, fun j hj => ?_⟩ HOw.out (fun e he => HUo.out e (List.mem_of_mem_eraseIdx he)), HEq.out, HLow.out⟩, ((HMv.out.set_new (Nat.le_refl _) _ _).set_new (Nat.le_refl _) _ _).set_new (Nat.le_refl _) _ _⟩
 · rw [Below.heap_setCell _ _ _ g (Ne.symm hgw), Below.heap_setCell _ _ _ g (Ne.symm hgw), Below.heap_setCell _ _ _ g (Ne.symm hgw)]
   exact HNet.out
 · rw [Below.heap_setCell _ _ _ j hj, Below.heap_setCell _ _ _ j hj, Below.heap_setCell _ _ _ j hj]
end Go.Proofs.Ytcglbbglapomgaa
