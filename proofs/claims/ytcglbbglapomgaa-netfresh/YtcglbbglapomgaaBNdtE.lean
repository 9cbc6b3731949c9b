import Derived.Test.YtcglbbglapomgaaBNdtB
set_option linter.unusedVariables false
set_option linter.unusedSimpArgs false
set_option maxRecDepth 100000
set_option maxHeartbeats 4000000
namespace Go.Proofs.Ytcglbbglapomgaa
open Go.RowKit Fld
theorem Dl.app {w : World} {base : Nat} {v : Value} {es : List Dk} (h : Dl w base v es) (hb : base <= w.heap.size) (a : Addr) (e : Dk) (hc : ∀ j u, (dkc e)[j]? = some u -> w.cell? (a.add j) = some u) (hu : w.ownsRow base 5 1 e.2 e.1.b.length (valb e.1.b) ∧ By e.1.b ∧ e.1.b.length <= 1048576) (hl : es.length <= 2932031006000) :
 ∃ (au : Option Addr) (cu : Nat) (W' : World), (Builtin.append_ #[27, 27] 27 #[v, .slice (some a) 1 1]).run Try.prog w = .ok (.slice au (es.length + 1) cu) W' ∧ Dl W' base (.slice au (es.length + 1) cu) (es ++ [e]) ∧ w.grownBy W' v.ownBlock ∧ ∀ j, (Value.slice au (es.length + 1) cu).ownBlock = some j -> v.ownBlock = some j ∨ w.heap.size <= j := by
 have hone : ∀ x ∈ dkc e, x.oneCell' = true := fun x hx => by
  simp only [dkc, List.mem_cons, List.not_mem_nil, or_false] at hx
  rcases hx with rfl | rfl | rfl
  · rfl
  · rfl
  · obtain ⟨ao, cap, hv, _⟩ := own_spellO hu.1
    rw [hv]; rfl
 obtain ⟨au, cu, W', hr, ho, hg, hat, _⟩ := app_dk (c := 1) (ps := [e]) (m := 1) (ad := a) h.row rfl (by simpa using hc) (fun e' he' => by rw [List.mem_singleton.1 he']; exact hone) (by omega) hb
 have keep : ∀ u n xs, w.ownsRow base 5 1 u n xs -> W'.ownsRow base 5 1 u n xs := fun u n xs hO => own_kept hO hg (fun j hj e2 => own_kindO hO h.row (by decide) j hj e2)
 refine ⟨au, cu, W', hr, ⟨by rw [List.length_append]; exact ho, fun e' he' => ?_⟩, hg, fun j hj => ?_⟩
 · rcases List.mem_append.1 he' with h1 | h1
   · exact ⟨keep _ _ _ (h.each e' h1).1, (h.each e' h1).2⟩
   · rw [List.mem_singleton.1 h1]
     exact ⟨keep _ _ _ hu.1, hu.2⟩
 · rcases hat j hj with e2 | e2
   · exact .inl e2
   · exact .inr (by omega)
theorem Nd.app {w : World} {base g : Nat} {v : Value} {N : Nt} {es : List Dk} (h : Nd w base g v N es) (hb : base <= w.heap.size) (a : Addr) (e : Dk) (hc : ∀ j u, (dkc e)[j]? = some u -> w.cell? (a.add j) = some u) (hu : w.ownsRow base 5 1 e.2 e.1.b.length (valb e.1.b) ∧ By e.1.b ∧ e.1.b.length <= 1048576) (hl : es.length <= 4096) :
 ∃ (au : Option Addr) (cu : Nat) (W' : World), (Builtin.append_ #[27, 27] 27 #[v, .slice (some a) 1 1]).run Try.prog w = .ok (.slice au (es.length + 1) cu) W' ∧ W'.cell? ⟨g, 1, none⟩ = some v ∧ W'.frozen? ⟨g, 1, none⟩ = false ∧
  Nd (W'.setCell ⟨g, 1, none⟩ (.slice au (es.length + 1) cu)) base g (.slice au (es.length + 1) cu) { N with l := N.l ++ [e.1] } (es ++ [e]) ∧ Mv w (W'.setCell ⟨g, 1, none⟩ (.slice au (es.length + 1) cu)) g v (.slice au (es.length + 1) cu) := by
 obtain ⟨au, cu, W', hr, hD, hg, hat⟩ := h.pks.app hb a e hc hu (by omega)
 have hblk : W'.heap[g]? = _ := (hg.block g h.lt (fun e => h.ne e.symm)).trans h.net
 refine ⟨au, cu, W', hr, (Lib.cell_of_heap hblk 1).trans rfl, Lib.frozen_of_heap hblk 1, ⟨?_, ⟨?_, fun e' he' => ?_⟩, ?_, h.low⟩, (mv_grown g hg h.pks.row hD.row hat).trans (mv_set W' g 1 _ _)⟩
 · rw [set_blk hblk 1 _]; rfl
 · exact ownsRow_setCell_other hD.row (own_notO hD.row hblk (by decide)) _
 · exact ⟨ownsRow_setCell_other (hD.each e' he').1 (own_notO (hD.each e' he').1 hblk (by decide)) _, (hD.each e' he').2⟩
 · show (es ++ [e]).map (·.1) = N.l ++ [e.1]
   rw [List.map_append, h.eq]; rfl
def Ny (w : World) (base g : Nat) (v : Value) (N : Nt) : Prop := ∃ es, Nd w base g v N es
theorem Ny.below {w w' : World} {base g : Nat} {v : Value} {N : Nt} (h : Ny w base g v N) (hb : Below w.heap.size w w') : Ny w' base g v N := by
 obtain ⟨es, h⟩ := h
 exact ⟨es, h.below hb⟩
theorem send_mem {w : World} {base g n : Nat} {v : Value} {N : Nt} {es : List Dk} (h : Nd w base g v N es) (hb : base <= w.heap.size) (hn : es.length = n) {f t : Int} {bs : List Int} (hl : n < 4096) (hbl : bs.length <= 1048576) (hy : By bs) {w2 : World} (hb2 : Below w.heap.size w w2) {a2 : Option Addr} {k2 : Nat} (ho : w2.ownsRow w.heap.size 5 1 (.slice a2 bs.length k2) bs.length (valb bs)) :
 w2.cell? ⟨g, 1, none⟩ = some v ∧ (w2.alloc (.cells #[.int .i64 f, .int .i64 t, .slice a2 bs.length k2] 40)).cell? ⟨g, 1, none⟩ = some v ∧
 ∃ (au : Option Addr) (cu : Nat) (w4 : World), (Builtin.append_ #[27, 27] 27 #[v, .slice (some ⟨w2.heap.size, 0, none⟩) 1 1]).run Try.prog (w2.alloc (.cells #[.int .i64 f, .int .i64 t, .slice a2 bs.length k2] 40)) = .ok (.slice au (n + 1) cu) w4 ∧ w4.cell? ⟨g, 1, none⟩ = some v ∧ w4.frozen? ⟨g, 1, none⟩ = false ∧
  Hid (Ny (w4.setCell ⟨g, 1, none⟩ (.slice au (n + 1) cu)) base g (.slice au (n + 1) cu) { N with l := N.l ++ [⟨f, t, bs⟩] }) ∧ Hid (Mv w (w4.setCell ⟨g, 1, none⟩ (.slice au (n + 1) cu)) g v (.slice au (n + 1) cu)) := by
 subst hn
 have hb3 := Below.next hb2 (alloc_below w2 (.cells #[.int .i64 f, .int .i64 t, .slice a2 bs.length k2] 40))
 have hX3 := h.below hb3
 obtain ⟨au4, cu4, w4, hr4, hS4, hz4, hN4, hm4⟩ := hX3.app (by have := hb3.size; omega) ⟨w2.heap.size, 0, none⟩ (⟨f, t, bs⟩, .slice a2 bs.length k2) (World.news_of_block (cs := #[.int .i64 f, .int .i64 t, .slice a2 bs.length k2]) (t := 40) (fr := (0, 0)) (heap_alloc_new w2 _)) ⟨own_mono (ho.alloc _) hb, hy, hbl⟩ (by omega)
 exact ⟨(h.below hb2).cells.2.1, hX3.cells.2.1, au4, cu4, w4, hr4, hS4, hz4, ⟨_, hN4⟩, Mv.after hb3 hm4⟩
theorem Ny.sent {w : World} {base g : Nat} {v : Value} {N : Nt} (h : Ny w base g v N) : w.cell? ⟨g, 2, none⟩ = some (.int .i64 (N.s : Int)) ∧ w.frozen? ⟨g, 2, none⟩ = false ∧ Ny (w.setCell ⟨g, 2, none⟩ (.int .i64 ((N.s + 1 : Nat) : Int))) base g v { N with s := N.s + 1 } := by
 obtain ⟨es, h⟩ := h
 refine ⟨h.cells.2.2.1, h.free 2, es, ⟨?_, ⟨ownsRow_setCell_other h.pks.row h.ne _, fun e he => ⟨ownsRow_setCell_other (h.pks.each e he).1 (h.une he) _, (h.pks.each e he).2⟩⟩, h.eq, h.low⟩⟩
 rw [set_blk h.net 2 _]; rfl
theorem dSend21 {w : World} {base g : Nat} {v : Value} {N : Nt} {es : List Dk} (h : Nd w base g v N es) (hb : base <= w.heap.size) (hs : N.s < 4611686018427387904) (f t : Int) {u : Value} {bs : List Int} (hu : Rb w u bs) :
 Calls Try.prog 23 #[.pointer (some ⟨g, 0, none⟩), .int .i64 f, .int .i64 t, u] w fun e w' => ∃ v', e = .returned (.int .i64 (sdE N f t bs)) ∧ Ny w' base g v' (sdN N f t bs) ∧ Mv w w' g v v' := by
 have HP : Hid (Ny w base g v N) := ⟨es, h⟩
 have HM := hide (Mv.refl w g v)
 obtain ⟨c0, c1, _, _⟩ := h.cells
 have hel := h.len
 by_cases hok : sdE N f t bs = 0
 · obtain ⟨⟨f0, f1⟩, ⟨t0, t1⟩, hl, hbl⟩ := sdE_zero hok
   have e2 : sdN N f t bs = { N with l := N.l ++ [⟨f, t, bs⟩], s := N.s + 1 } := by unfold sdN; rw [if_pos hok]
   rw [hok, e2]
   clear hok e2
   have HBy := hide (rBytes u bs w.drew (hu.below (Below.refl _ w).drew) (by omega))
   have HX := hide (fun (w2 : World) (hb2 : Below w.heap.size w w2) (a2 : Option Addr) (k2 : Nat) (ho : w2.ownsRow w.heap.size 5 1 (.slice a2 bs.length k2) bs.length (valb bs)) => send_mem (f := f) (t := t) h hb hel hl hbl hu.by hb2 ho)
   obtain ⟨ao, cap, hv, _⟩ := h.spell
   rw [hel] at hv
   subst hv
   obtain ⟨bo, bc, rfl, _⟩ := hu.spell
   have hS0 : w.drew.cell? ⟨g, 1, none⟩ = some (.slice ao N.l.length cap) := c1
   have q1 : ¬ f < 0 := by omega
   have q2 : ¬ N.n <= f := by omega
   have q3 : ¬ t < 0 := by omega
   have q4 : ¬ N.n <= t := by omega
   have q5 : ¬ (4096 : Int) <= (N.l.length : Int) := by omega
   have q6 : ¬ (1048576 : Int) < (bs.length : Int) := by omega
   clear h hu hel
   go_enter Try.func23, Try.ntmps23
   go_upto_region 5 with fail
   refine wp_region_mute (S := (fun V => V.cell? ⟨g, 1, none⟩ = some (.slice ao N.l.length cap))) (by kernel_rfl) (by kernel_rfl) rfl (by ((try dsimp only) <;> (first | with_reducible exact hS0 | with_reducible exact hS1 | with_reducible exact hS2 | with_reducible exact hS4))) (fun hHeld => ?_)
   simp only [muteL, mute]
   refine tkY 0 ?_
   refine tkY 1 ?_
   refine tkY 2 ?_
   refine tkY 3 ?_
   refine tkY 4 ?_
   refine tkY 5 ?_
   refine tkY 6 ?_
   refine tkY 7 ?_
   refine rd1 8 (fun K hK => ?_)
   (try simp only [ly0, ly1, ly2, ly3, ly4, ly5, ly6, ly7])
   go_simp
   (first | (go_at_call 20; refine HBy.out.mono ?_; rintro e w2 ⟨v2, rfl, ho2, hb2⟩; obtain ⟨a2, k2, hv2, _⟩ := own_spellO ho2; subst hv2; obtain ⟨hS1, hS2, au4, cu4, w4, hr4, hS4, hz4, HN4, HM4⟩ := HX.out w2 (Below.trans (Below.refl w.heap.size w).drew hb2) a2 k2 ho2) | (refine app_mute (by rfl) _ _ _ _ (by rfl) _ _ (by rfl) (by rfl) _ w4 hr4 ?_))
   first | refine hK.out _ _ ?k4 (fun hHeld => ?_) | (go_wp2_with fail; refine hK.out _ _ ?k4 (fun hHeld => ?_))
   case k4 => ((try dsimp only) <;> (first | with_reducible exact hS0 | with_reducible exact hS1 | with_reducible exact hS2 | with_reducible exact hS4))
   clear hK K
   (try simp only [ly0, ly1, ly2, ly3, ly4, ly5, ly6, ly7])
   refine tkY 9 ?_
   refine rd1 10 (fun K hK => ?_)
   (try simp only [ly0, ly1, ly2, ly3, ly4, ly5, ly6, ly7])
   go_simp
   refine hK.out _ _ (by ((try dsimp only) <;> (first | with_reducible exact hS0 | with_reducible exact hS1 | with_reducible exact hS2 | with_reducible exact hS4))) (fun hHeld => ?_)
   clear hK K
   (try simp only [ly0, ly1, ly2, ly3, ly4, ly5, ly6, ly7])
   refine rd1 11 (fun K hK => ?_)
   (refine app_mute (by rfl) _ _ _ _ (by rfl) _ _ (by rfl) (by rfl) _ w4 hr4 ?_)
   refine hK.out _ _ (by ((try dsimp only) <;> (first | with_reducible exact hS0 | with_reducible exact hS1 | with_reducible exact hS2 | with_reducible exact hS4))) (fun hHeld => ?_)
   clear hK K
   (try simp only [ly0, ly1, ly2, ly3, ly4, ly5, ly6, ly7])
   refine tkY 12 ?_
   refine tkY 13 ?_
   refine tkY 14 ?_
   refine wpAnyH_done (by kernel_rfl) ?_ _
   clear hS0 hS1 hS2 hr4 HX HBy
   simp only [muteQ]
   generalize hW5 : World.setCell w4 _ _ = w5 at *
   obtain ⟨s2, s3, s4⟩ := HN4.out.sent
   have hs5 : (N.s : Int) + 1 = ((N.s + 1 : Nat) : Int) := by omega
   have HN5 := hide s4
   have HM5 := hide (HM4.out.trans (mv_set w5 g 2 (.int .i64 ((N.s + 1 : Nat) : Int)) _))
   dsimp only at s2
   clear s4 HN4 HM4
   generalize ((N.s + 1 : Nat) : Int) = s6 at *
   go_wp2
   go_ret
   first | exact ⟨_, rfl, HN5.out, HM5.out⟩ | exact ⟨rfl, _, HN5.out, HM5.out⟩ | (trace_state; fail)
 · have e2 : sdN N f t bs = N := by unfold sdN; rw [if_neg hok]
   rw [e2]
   obtain ⟨ao, cap, rfl, _⟩ := h.spell
   obtain ⟨bo, bc, rfl, _⟩ := hu.spell
   rw [hel] at c1
   clear h hu hel e2
   by_cases q1 : f < 0
   · have e : sdE N f t bs = 2 := by unfold sdE; rw [if_neg (by omega)]
     rw [e]
     clear e hok
     go_enter Try.func23, Try.ntmps23
     go_wp2
     go_ret
     first | exact ⟨_, rfl, HP.out, HM.out⟩ | exact ⟨_, HP.out, HM.out⟩ | exact ⟨rfl, _, HP.out, HM.out⟩
   · by_cases q2 : N.n <= f
     · have e : sdE N f t bs = 2 := by unfold sdE; rw [if_neg (by omega)]
       rw [e]
       clear e hok
       go_enter Try.func23, Try.ntmps23
       go_wp2
       go_ret
       first | exact ⟨_, rfl, HP.out, HM.out⟩ | exact ⟨_, HP.out, HM.out⟩ | exact ⟨rfl, _, HP.out, HM.out⟩
     · by_cases q3 : t < 0
       · have e : sdE N f t bs = 2 := by unfold sdE; rw [if_neg (by omega)]
         rw [e]
         clear e hok
         go_enter Try.func23, Try.ntmps23
         go_wp2
         go_ret
         first | exact ⟨_, rfl, HP.out, HM.out⟩ | exact ⟨_, HP.out, HM.out⟩ | exact ⟨rfl, _, HP.out, HM.out⟩
       · by_cases q4 : N.n <= t
         · have e : sdE N f t bs = 2 := by unfold sdE; rw [if_neg (by omega)]
           rw [e]
           clear e hok
           go_enter Try.func23, Try.ntmps23
           go_wp2
           go_ret
           first | exact ⟨_, rfl, HP.out, HM.out⟩ | exact ⟨_, HP.out, HM.out⟩ | exact ⟨rfl, _, HP.out, HM.out⟩
         · have e : sdE N f t bs = 4 := by
            unfold sdE at hok ⊢
            rw [if_pos (by omega)] at hok ⊢
            by_cases q : 4096 <= N.l.length ∨ 1048576 < bs.length
            · rw [if_pos q]
            · rw [if_neg q] at hok; exact absurd rfl hok
           rw [e]
           have q5 : 4096 <= N.l.length ∨ 1048576 < bs.length := by
            apply Classical.byContradiction; intro hc
            unfold sdE at e
            rw [if_pos (by omega), if_neg hc] at e
            cases e
           by_cases q6 : (4096 : Int) <= (N.l.length : Int)
           · clear e hok q5
             go_enter Try.func23, Try.ntmps23
             go_wp2
             go_ret
             first | exact ⟨_, rfl, HP.out, HM.out⟩ | exact ⟨_, HP.out, HM.out⟩ | exact ⟨rfl, _, HP.out, HM.out⟩
           · have q7 : (1048576 : Int) < (bs.length : Int) := by omega
             clear e hok q5
             go_enter Try.func23, Try.ntmps23
             go_wp2
             go_ret
             first | exact ⟨_, rfl, HP.out, HM.out⟩ | exact ⟨_, HP.out, HM.out⟩ | exact ⟨rfl, _, HP.out, HM.out⟩
end Go.Proofs.Ytcglbbglapomgaa
