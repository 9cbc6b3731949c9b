import Derived.Test.YtcglbbglapomgaaBNdtE
set_option linter.unusedVariables false
set_option linter.unusedSimpArgs false
set_option maxRecDepth 100000
set_option maxHeartbeats 4000000
namespace Go.Proofs.Ytcglbbglapomgaa
open Go.RowKit Fld
def Fr21 (n : Nat) (es es' : List Dk) : Prop := ∀ e ∈ es', e ∈ es ∨ ∀ j, e.2.ownBlock = some j -> n <= j
theorem send_memF {w : World} {base g n : Nat} {v : Value} {N : Nt} {es : List Dk} (h : Nd w base g v N es) (hb : base <= w.heap.size) (hn : es.length = n) {f t : Int} {bs : List Int} (hl : n < 4096) (hbl : bs.length <= 1048576) (hy : By bs) {w2 : World} (hb2 : Below w.heap.size w w2) {a2 : Option Addr} {k2 : Nat} (ho : w2.ownsRow w.heap.size 5 1 (.slice a2 bs.length k2) bs.length (valb bs)) :
 w2.cell? ⟨g, 1, none⟩ = some v ∧ (w2.alloc (.cells #[.int .i64 f, .int .i64 t, .slice a2 bs.length k2] 40)).cell? ⟨g, 1, none⟩ = some v ∧
 ∃ (au : Option Addr) (cu : Nat) (w4 : World), (Builtin.append_ #[27, 27] 27 #[v, .slice (some ⟨w2.heap.size, 0, none⟩) 1 1]).run Try.prog (w2.alloc (.cells #[.int .i64 f, .int .i64 t, .slice a2 bs.length k2] 40)) = .ok (.slice au (n + 1) cu) w4 ∧ w4.cell? ⟨g, 1, none⟩ = some v ∧ w4.frozen? ⟨g, 1, none⟩ = false ∧
  Hid (∃ es', Nd (w4.setCell ⟨g, 1, none⟩ (.slice au (n + 1) cu)) base g (.slice au (n + 1) cu) { N with l := N.l ++ [⟨f, t, bs⟩] } es' ∧ Fr21 w.heap.size es es') ∧ Hid (Mv w (w4.setCell ⟨g, 1, none⟩ (.slice au (n + 1) cu)) g v (.slice au (n + 1) cu)) := by
 subst hn
 have hb3 := Below.next hb2 (alloc_below w2 (.cells #[.int .i64 f, .int .i64 t, .slice a2 bs.length k2] 40))
 have hX3 := h.below hb3
 obtain ⟨au4, cu4, w4, hr4, hS4, hz4, hN4, hm4⟩ := hX3.app (by have := hb3.size; omega) ⟨w2.heap.size, 0, none⟩ (⟨f, t, bs⟩, .slice a2 bs.length k2) (World.news_of_block (cs := #[.int .i64 f, .int .i64 t, .slice a2 bs.length k2]) (t := 40) (fr := (0, 0)) (heap_alloc_new w2 _)) ⟨own_mono (ho.alloc _) hb, hy, hbl⟩ (by omega)
 refine ⟨(h.below hb2).cells.2.1, hX3.cells.2.1, au4, cu4, w4, hr4, hS4, hz4, ⟨_, hN4, fun e he => ?_⟩, Mv.after hb3 hm4⟩
 rcases List.mem_append.1 he with h1 | h1
 · exact .inl h1
 · rw [List.mem_singleton.1 h1]; exact .inr (own_base ho)
theorem Nd.sent {w : World} {base g : Nat} {v : Value} {N : Nt} {es : List Dk} (h : Nd w base g v N es) : w.cell? ⟨g, 2, none⟩ = some (.int .i64 (N.s : Int)) ∧ w.frozen? ⟨g, 2, none⟩ = false ∧ Nd (w.setCell ⟨g, 2, none⟩ (.int .i64 ((N.s + 1 : Nat) : Int))) base g v { N with s := N.s + 1 } es := by
 refine ⟨h.cells.2.2.1, h.free 2, ⟨?_, ⟨ownsRow_setCell_other h.pks.row h.ne _, fun e he => ⟨ownsRow_setCell_other (h.pks.each e he).1 (h.une he) _, (h.pks.each e he).2⟩⟩, h.eq, h.low⟩⟩
 rw [set_blk h.net 2 _]; rfl
theorem dSendF {w : World} {base g : Nat} {v : Value} {N : Nt} {es : List Dk} (h : Nd w base g v N es) (hb : base <= w.heap.size) (hs : N.s < 4611686018427387904) (f t : Int) {u : Value} {bs : List Int} (hu : Rb w u bs) (hok : sdE N f t bs = 0) :
 Calls Try.prog 23 #[.pointer (some ⟨g, 0, none⟩), .int .i64 f, .int .i64 t, u] w fun e w' => ∃ v' es', e = .returned (.int .i64 0) ∧ Nd w' base g v' (sdN N f t bs) es' ∧ Fr21 w.heap.size es es' ∧ Mv w w' g v v' := by
 have HP : Hid (Ny w base g v N) := ⟨es, h⟩
 have HM := hide (Mv.refl w g v)
 obtain ⟨c0, c1, _, _⟩ := h.cells
 have hel := h.len
 obtain ⟨⟨f0, f1⟩, ⟨t0, t1⟩, hl, hbl⟩ := sdE_zero hok
 have e2 : sdN N f t bs = { N with l := N.l ++ [⟨f, t, bs⟩], s := N.s + 1 } := by unfold sdN; rw [if_pos hok]
 rw [e2]
 clear hok e2
 have HBy := hide (rBytes u bs w.drew (hu.below (Below.refl _ w).drew) (by omega))
 have HX := hide (fun (w2 : World) (hb2 : Below w.heap.size w w2) (a2 : Option Addr) (k2 : Nat) (ho : w2.ownsRow w.heap.size 5 1 (.slice a2 bs.length k2) bs.length (valb bs)) => send_memF (f := f) (t := t) h hb hel hl hbl hu.by hb2 ho)
 obtain ⟨ao, cap, hv, _⟩ := h.spell
 rw [hel] at hv
 subst hv
 obtain ⟨bo, bc, rfl, _⟩ := hu.spell
 have hS0 : w.drew.cell? ⟨g, 1, none⟩ = some (.slice ao N.l.length cap) := c1
 have q1 : ¬ f < 0 := by omega
 have q2 : ¬ N.n <= f := by omega
 have q3 : ¬ t < 0 := by omega
 have q4 : ¬ N.n <= t := by omega
 have q5 : ¬ (4096 : Int) <= (N.l.length : Int) := by omega
 have q6 : ¬ (1048576 : Int) < (bs.length : Int) := by omega
 clear h hu hel
 go_enter Try.func23, Try.ntmps23
 go_upto_region 5 with fail
 refine wp_region_mute (S := (fun V => V.cell? ⟨g, 1, none⟩ = some (.slice ao N.l.length cap))) (by kernel_rfl) (by kernel_rfl) rfl (by ((try dsimp only) <;> (first | with_reducible exact hS0 | with_reducible exact hS1 | with_reducible exact hS2 | with_reducible exact hS4))) (fun hHeld => ?_)
 simp only [muteL, mute]
 refine tkY 0 ?_
 refine tkY 1 ?_
 refine tkY 2 ?_
 refine tkY 3 ?_
 refine tkY 4 ?_
 refine tkY 5 ?_
 refine tkY 6 ?_
 refine tkY 7 ?_
 refine rd1 8 (fun K hK => ?_)
 (try simp only [ly0, ly1, ly2, ly3, ly4, ly5, ly6, ly7])
 go_simp
 (first | (go_at_call 20; refine HBy.out.mono ?_; rintro e w2 ⟨v2, rfl, ho2, hb2⟩; obtain ⟨a2, k2, hv2, _⟩ := own_spellO ho2; subst hv2; obtain ⟨hS1, hS2, au4, cu4, w4, hr4, hS4, hz4, HN4, HM4⟩ := HX.out w2 (Below.trans (Below.refl w.heap.size w).drew hb2) a2 k2 ho2) | (refine app_mute (by rfl) _ _ _ _ (by rfl) _ _ (by rfl) (by rfl) _ w4 hr4 ?_))
 first | refine hK.out _ _ ?k1 (fun hHeld => ?_) | (go_wp2_with fail; refine hK.out _ _ ?k1 (fun hHeld => ?_))
 case k1 => ((try dsimp only) <;> (first | with_reducible exact hS0 | with_reducible exact hS1 | with_reducible exact hS2 | with_reducible exact hS4))
 clear hK K
 (try simp only [ly0, ly1, ly2, ly3, ly4, ly5, ly6, ly7])
 refine tkY 9 ?_
 refine rd1 10 (fun K hK => ?_)
 (try simp only [ly0, ly1, ly2, ly3, ly4, ly5, ly6, ly7])
 go_simp
 refine hK.out _ _ (by ((try dsimp only) <;> (first | with_reducible exact hS0 | with_reducible exact hS1 | with_reducible exact hS2 | with_reducible exact hS4))) (fun hHeld => ?_)
 clear hK K
 (try simp only [ly0, ly1, ly2, ly3, ly4, ly5, ly6, ly7])
 refine rd1 11 (fun K hK => ?_)
 (refine app_mute (by rfl) _ _ _ _ (by rfl) _ _ (by rfl) (by rfl) _ w4 hr4 ?_)
 refine hK.out _ _ (by ((try dsimp only) <;> (first | with_reducible exact hS0 | with_reducible exact hS1 | with_reducible exact hS2 | with_reducible exact hS4))) (fun hHeld => ?_)
 clear hK K
 (try simp only [ly0, ly1, ly2, ly3, ly4, ly5, ly6, ly7])
 refine tkY 12 ?_
 refine tkY 13 ?_
 refine tkY 14 ?_
 refine wpAnyH_done (by kernel_rfl) ?_ _
 clear hS0 hS1 hS2 hr4 HX HBy
 simp only [muteQ]
 generalize hW5 : World.setCell w4 _ _ = w5 at *
 obtain ⟨es', hnd, hfr⟩ := HN4.out
 obtain ⟨s2, s3, s4⟩ := hnd.sent
 have hs5 : (N.s : Int) + 1 = ((N.s + 1 : Nat) : Int) := by omega
 have HN5 := hide s4
 have HFr := hide hfr
 have HM5 := hide (HM4.out.trans (mv_set w5 g 2 (.int .i64 ((N.s + 1 : Nat) : Int)) _))
 dsimp only at s2
 clear s4 HN4 HM4 hnd hfr
 generalize ((N.s + 1 : Nat) : Int) = s6 at *
 go_wp2
 go_ret
 exact ⟨rfl, _, es', HN5.out, HFr.out, HM5.out⟩
end Go.Proofs.Ytcglbbglapomgaa
