import Derived.Test.YthialdipnhggnaaBDdkA
import Derived.Test.YthialdipnhggnaaBDskD
set_option linter.unusedVariables false
set_option linter.unusedSimpArgs false
set_option maxRecDepth 100000
set_option maxHeartbeats 4000000
namespace Go.Proofs.Ythialdipnhggnaa
open Go.RowKit Fld
theorem headY {w : World} {base n cap : Nat} {ao : Option Addr} {xs : List Value} (h : w.ownsRow base 23 1 (.slice ao n cap) n xs) (k : Nat) (hk : k <= n) :
 ∀ W, (Instr.slice 22 (.slice ao n cap) none (some (.int .i64 (k : Int))) none).run Try.prog W = .ok (.slice ao k cap) W := by
 obtain ⟨i0, hi0, hz0, hz1, hz2⟩ := info_parts bsl_info
 intro W
 rcases h.2 with ⟨e, h0⟩ | ⟨g, cap', cur, e, h2, h3, h4, h5, h6, h7⟩
 · injection e with e1 e2 e3
   subst e1 e2 e3
   have : k = 0 := by omega
   subst this
   simp [Instr.slice, Instr.sliceBounds, Instr.sliceBound, asIntOf, run_underlying Try.underlying22, sizeOf, typeInfo, hi0, hz1]
 · cases e
   have h2' : (k : Int) <= (cap : Int) := by omega
   by_cases h0 : cap = 0
   · subst h0
     have : k = 0 := by omega
     subst this
     simp [Instr.slice, Instr.sliceBounds, Instr.sliceBound, asIntOf, run_underlying Try.underlying22, sizeOf, typeInfo, hi0, hz1]
   · simp [Instr.slice, Instr.sliceBounds, Instr.sliceBound, asIntOf, run_underlying Try.underlying22, sizeOf, typeInfo, hi0, hz1, h2', h0, show ¬ cap < k by omega, Addr.add]
theorem app_rw {W : World} {lo k c m c' : Nat} {a b : Option Addr} {xs ys : List Value} (h : W.ownsRow lo 23 1 (.slice a k c) k xs) (hm : ys.length = m) (hu : (b = none ∧ m = 0 ∧ c' = 0) ∨ ∃ ad, b = some ad ∧ (∀ j x, ys[j]? = some x -> W.cell? (ad.add j) = some x)) (h1 : ∀ x ∈ ys, x.oneCell' = true) (hl : k + m <= 5864062014700) (hb : lo <= W.heap.size) :
 ∃ (au : Option Addr) (cu : Nat) (W' : World), (Builtin.append_ #[22, 22] 22 #[.slice a k c, .slice b m c']).run Try.prog W = .ok (.slice au (k + m) cu) W' ∧ W'.ownsRow lo 23 1 (.slice au (k + m) cu) (k + m) (xs ++ ys) ∧ W.grownBy W' (Value.slice a k c).ownBlock ∧ (∀ j, (Value.slice au (k + m) cu).ownBlock = some j -> (Value.slice a k c).ownBlock = some j ∨ W.heap.size <= j) := by
 obtain ⟨i0, hi0, hz0, hz1, hz2⟩ := info_parts bsl_info
 rcases hu with ⟨rfl, rfl, rfl⟩ | ⟨ad, rfl, hc⟩
 · have : ys = [] := List.length_eq_zero_iff.1 hm
   subst this
   refine ⟨a, c, W, ?_, by simpa using h, ⟨rfl, rfl, rfl, Nat.le_refl _, fun _ _ _ => rfl⟩, fun j hj => .inl hj⟩
   exact run_append_owned_none (P := Try.prog) (w := W) lo 22 22 23 i0 1 Try.underlying22 hi0 _ _ _ h
 · obtain ⟨v', W', hr, ho, hg, _, hat⟩ := run_append_own_at (P := Try.prog) (w := W) lo 22 22 23 i0 (.slice none 0 0) 1 24 Try.underlying22 hi0 hz0 hz1 hz2 rfl (by decide) (.slice a k c) k xs h ad m c' ys (by omega) hc h1 (by unfold maxLen; omega) (by omega) hb
   obtain ⟨au, cu, rfl, _⟩ := own_spellO ho
   exact ⟨au, cu, W', hr, ho, hg, new_of_at hat⟩
theorem be_one {w : World} {base g : Nat} {v : Value} {D : Dsk} {es : List Be} (h : Dr w base g v D es) : ∀ e ∈ es, e.2.oneCell' = true := fun e he => by
 obtain ⟨a, c, hv, _⟩ := own_spellO (h.each e he)
 rw [hv]; rfl
theorem wr_mem {w : World} {base g : Nat} {v : Value} {D : Dsk} {es : List Be} (h : Dr w base g v D es) (hb : base <= w.heap.size) (hl : D.l.length < 65536) {bs : List Int} (h32 : bs.length = 32) (hy : By bs) {w2 : World} (hb2 : Below w.heap.size w w2) {a2 : Option Addr} {k2 : Nat} (ho : w2.ownsRow w.heap.size 5 1 (.slice a2 32 k2) 32 (valb bs)) :
 w2.cell? ⟨g, 0, none⟩ = some v ∧ (w2.alloc (.cells #[.slice a2 32 k2] 23)).cell? ⟨g, 0, none⟩ = some v ∧
 ∃ (au : Option Addr) (cu : Nat) (w4 : World), (Builtin.append_ #[22, 22] 22 #[v, .slice (some ⟨w2.heap.size, 0, none⟩) 1 1]).run Try.prog (w2.alloc (.cells #[.slice a2 32 k2] 23)) = .ok (.slice au (D.l.length + 1) cu) w4 ∧ w4.cell? ⟨g, 0, none⟩ = some v ∧ w4.frozen? ⟨g, 0, none⟩ = false ∧
  Hid (Dr (w4.setCell ⟨g, 0, none⟩ (.slice au (D.l.length + 1) cu)) base g (.slice au (D.l.length + 1) cu) { D with l := D.l ++ [bs] } (es ++ [(bs, .slice a2 32 k2)])) ∧ Hid (Mv w (w4.setCell ⟨g, 0, none⟩ (.slice au (D.l.length + 1) cu)) g v (.slice au (D.l.length + 1) cu)) := by
 have hb3 := Below.next hb2 (alloc_below w2 (.cells #[.slice a2 32 k2] 23))
 have h3 := h.below hb3
 have hlen := h.len
 obtain ⟨ao, cap, rfl, _⟩ := h.spell
 have hrow := h3.row
 rw [hlen] at hrow
 have hnew := World.news_of_block (cs := #[.slice a2 32 k2]) (t := 23) (fr := (0, 0)) (heap_alloc_new w2 (.cells #[.slice a2 32 k2] 23))
 obtain ⟨au, cu, w4, hr, hrow4, hg, hat⟩ := app_rw (m := 1) (c' := 1) (b := some ⟨w2.heap.size, 0, none⟩) (ys := [.slice a2 32 k2]) hrow rfl (.inr ⟨_, rfl, hnew⟩) (fun x hx => by rw [List.mem_singleton.1 hx]; rfl) (by omega) (by have := hb3.size; omega)
 have hblk : w4.heap[g]? = _ := (hg.block g h3.lt (fun e => h3.ne e.symm)).trans h3.dsk
 have hu : (w2.alloc (.cells #[.slice a2 32 k2] 23)).ownsRow base 5 1 (.slice a2 32 k2) 32 (valb bs) := own_mono (ho.alloc _) hb
 have keep : ∀ u n xs, (w2.alloc (.cells #[.slice a2 32 k2] 23)).ownsRow base 5 1 u n xs -> (w4.setCell ⟨g, 0, none⟩ (.slice au (D.l.length + 1) cu)).ownsRow base 5 1 u n xs := fun u n xs hO =>
  ownsRow_setCell_other (own_kept hO hg (fun j hj e2 => own_kindO hO hrow (by decide) j hj e2)) (own_notO (own_kept hO hg (fun j hj e2 => own_kindO hO hrow (by decide) j hj e2)) hblk (by decide)) _
 refine ⟨(h.below hb2).cells.1, h3.cells.1, au, cu, w4, hr, (Lib.cell_of_heap hblk 0).trans rfl, Lib.frozen_of_heap hblk 0, ⟨?_, ?_, fun e he => ?_, ?_, h.low, ⟨⟨?_, ?_, h.o.ok.fu⟩, ?_, h.o.top⟩⟩, Mv.after hb3 ((mv_grown g hg hrow hrow4 hat).trans (mv_set w4 g 0 _ _))⟩
 · rw [set_blk hblk 0 _]; rfl
 · rw [List.length_append, List.map_append, hlen]
   exact ownsRow_setCell_other hrow4 (own_notO hrow4 hblk (by decide)) _
 · rcases List.mem_append.1 he with h1 | h1
   · exact keep _ _ _ (h3.each e h1)
   · rw [List.mem_singleton.1 h1]
     rw [show (bs, Value.slice a2 32 k2).1.length = 32 from h32]
     exact keep _ _ _ hu
 · rw [List.map_append, h.eq]; rfl
 · show (D.l ++ [bs]).length <= 65536
   rw [List.length_append]; simp; omega
 · intro b hb
   rcases List.mem_append.1 hb with h1 | h1
   · exact h.o.ok.blk b h1
   · rw [List.mem_singleton.1 h1]; exact h32
 · intro b hb
   rcases List.mem_append.1 hb with h1 | h1
   · exact h.o.byt b h1
   · rw [List.mem_singleton.1 h1]; exact hy
theorem dies_no {D : Dsk} (h : dieD D = false) : ({ D with x := dieD D } : Dsk) = D ∧ D.x = false := by
 have hx : D.x = false := by
  unfold dieD at h
  simp only [Bool.or_eq_false_iff] at h
  exact h.1
 refine ⟨?_, hx⟩
 rw [h]
 obtain ⟨l, f, x, n⟩ := D
 dsimp only at hx
 rw [hx]
theorem dWrite22 {w : World} {base g : Nat} {v : Value} {D : Dsk} {es : List Be} (h : Dr w base g v D es) (hb : base <= w.heap.size) (hn : D.n < 4611686018427387904) {u : Value} {bs : List Int} (hu : Rb w u bs) :
 Calls Try.prog 25 #[.pointer (some ⟨g, 0, none⟩), u] w fun e w' => ∃ v', e = .returned (.int .i64 (wrE22 D bs)) ∧ Dy w' base g v' (wrN22 D bs) ∧ Mv w w' g v v' := by
 have HD := hide (dDies h)
 have HP : Hid (Dy w base g v D) := ⟨es, h⟩
 have HM := hide (Mv.refl w g v)
 rcases wr_cases D bs with ⟨c1, he⟩ | ⟨c1, c2, he⟩ | ⟨c1, c2, c3, he⟩ | ⟨c1, c2, c3, he⟩
 · rw [he, wr_same (by omega) (by omega)]
   obtain ⟨bo, bc, rfl, _⟩ := hu.spell
   clear h hu he HD hn hb
   go_enter Try.func25, Try.ntmps25
   go_wp2
   go_ret
   exact ⟨_, rfl, HP.out, HM.out⟩
 · have e : wrN22 D bs = { D with x := true } := by unfold wrN22; rw [if_neg (by omega), if_pos he]
   rw [c2] at HD
   rw [he, e]
   obtain ⟨bo, bc, rfl, _⟩ := hu.spell
   rw [c1]
   clear h hu he e c1 c2 hn hb
   go_enter Try.func25, Try.ntmps25
   go_wp2_with (go_at_call 39; refine HD.out.mono ?_; rintro e w1 ⟨rfl, hd1, hm1, _⟩)
   go_ret
   exact ⟨_, rfl, ⟨_, hd1⟩, hm1⟩
 · obtain ⟨e1, e2⟩ := dies_no c2
   rw [e1, c2] at HD
   rw [he, wr_same (by omega) (by omega)]
   obtain ⟨bo, bc, rfl, _⟩ := hu.spell
   rw [c1]
   obtain ⟨ao, cap, rfl, _⟩ := h.spell
   have q : (65536 : Int) <= (D.l.length : Int) := by omega
   have x0 : w.cell? ⟨g, 0, none⟩ = some (.slice ao D.l.length cap) := h.cells.1
   clear h hu he e1 e2 c1 c2 c3 hn hb
   go_enter Try.func25, Try.ntmps25
   go_wp2_with (go_at_call 39; refine HD.out.mono ?_; rintro e w1 ⟨rfl, _, _, hw1⟩; rw [hw1 rfl]; clear hw1)
   go_ret
   exact ⟨_, rfl, HP.out, HM.out⟩
 · obtain ⟨e1, e2⟩ := dies_no c2
   rw [e1, c2] at HD
   have e : wrN22 D bs = didD D (D.l ++ [bs]) := by unfold wrN22; rw [if_pos he]
   rw [he, e]
   have hy := hu.by
   have HBy := hide (rBytes u bs w.drew (hu.below (Below.refl _ w).drew) (by omega))
   have HX := hide (fun (w2 : World) (hb2 : Below w.heap.size w w2) (a2 : Option Addr) (k2 : Nat) (ho : w2.ownsRow w.heap.size 5 1 (.slice a2 32 k2) 32 (valb bs)) => wr_mem h hb c3 c1 hy hb2 ho)
   obtain ⟨bo, bc, rfl, _⟩ := hu.spell
   rw [c1] at HBy ⊢
   obtain ⟨ao, cap, rfl, _⟩ := h.spell
   have hS0 : w.drew.cell? ⟨g, 0, none⟩ = some (.slice ao D.l.length cap) := h.cells.1
   have x0 : w.cell? ⟨g, 0, none⟩ = some (.slice ao D.l.length cap) := h.cells.1
   have q : (decide ((65536 : Int) <= (D.l.length : Int))) = false := decide_eq_false (by omega)
   have HN := hide hn
   clear h hu he e e1 e2 c1 c2 c3 hn hb HP HM hy
   go_enter Try.func25, Try.ntmps25
   go_wp2_with (go_at_call 39; refine HD.out.mono ?_; rintro e w1 ⟨rfl, _, _, hw1⟩; rw [hw1 rfl]; clear hw1)
   refine wp_region_mute (S := (fun V => V.cell? ⟨g, 0, none⟩ = some (.slice ao D.l.length cap))) (by kernel_rfl) (by kernel_rfl) rfl (by ((try dsimp only) <;> (first | with_reducible exact hS0 | with_reducible exact hS1 | with_reducible exact hS2 | with_reducible exact hS4))) (fun hHeld => ?_)
   simp only [muteL, mute]
   refine tkY 0 ?_
   refine tkY 1 ?_
   refine tkY 2 ?_
   refine tkY 3 ?_
   refine tkY 4 ?_
   refine tkY 5 ?_
   refine rd1 6 (fun K hK => ?_)
   (try simp only [ly0, ly1, ly2, ly3, ly4, ly5, ly6, ly7])
   go_simp
   (first | (go_at_call 40; refine HBy.out.mono ?_; rintro e w2 ⟨v2, rfl, ho2, hb2⟩; obtain ⟨a2, k2, hv2, _⟩ := own_spellO ho2; subst hv2; obtain ⟨hS1, hS2, au4, cu4, w4, hr4, hS4, hz4, HN4, HM4⟩ := HX.out w2 (Below.trans (Below.refl w.heap.size w).drew hb2) a2 k2 ho2) | (refine app_mute (by rfl) _ _ _ _ (by rfl) _ _ (by rfl) (by rfl) _ w4 hr4 ?_))
   first | refine hK.out _ _ ?k1 (fun hHeld => ?_) | (go_wp2_with fail; refine hK.out _ _ ?k1 (fun hHeld => ?_))
   case k1 => ((try dsimp only) <;> (first | with_reducible exact hS0 | with_reducible exact hS1 | with_reducible exact hS2 | with_reducible exact hS4))
   clear hK K
   (try simp only [ly0, ly1, ly2, ly3, ly4, ly5, ly6, ly7])
   refine rd1 7 (fun K hK => ?_)
   (try simp only [ly0, ly1, ly2, ly3, ly4, ly5, ly6, ly7])
   go_simp
   refine hK.out _ _ (by ((try dsimp only) <;> (first | with_reducible exact hS0 | with_reducible exact hS1 | with_reducible exact hS2 | with_reducible exact hS4))) (fun hHeld => ?_)
   clear hK K
   (try simp only [ly0, ly1, ly2, ly3, ly4, ly5, ly6, ly7])
   refine rd1 8 (fun K hK => ?_)
   (refine app_mute (by rfl) _ _ _ _ (by rfl) _ _ (by rfl) (by rfl) _ w4 hr4 ?_)
   refine hK.out _ _ (by ((try dsimp only) <;> (first | with_reducible exact hS0 | with_reducible exact hS1 | with_reducible exact hS2 | with_reducible exact hS4))) (fun hHeld => ?_)
   clear hK K
   (try simp only [ly0, ly1, ly2, ly3, ly4, ly5, ly6, ly7])
   refine tkY 9 ?_
   refine tkY 10 ?_
   refine tkY 11 ?_
   refine wpAnyH_done (by kernel_rfl) ?_ _
   clear hS0 hS1 hS2 hr4 HX HBy q x0
   simp only [muteQ]
   have HDd := hide (dDid HN4.out HN.out)
   go_wp2_with (go_at_call 41; refine HDd.out.mono ?_; rintro e w6 ⟨rfl, hd6, hm6⟩)
   go_ret
   exact ⟨_, rfl, ⟨_, hd6⟩, HM4.out.trans hm6⟩
theorem dTrim22 {w : World} {base g : Nat} {v : Value} {D : Dsk} {es : List Be} (h : Dr w base g v D es) (hb : base <= w.heap.size) (hn : D.n < 4611686018427387904) (i : Int) :
 Calls Try.prog 36 #[.pointer (some ⟨g, 0, none⟩), .int .i64 i] w fun e w' => ∃ v', e = .returned (.int .i64 (tmE D i)) ∧ Dy w' base g v' (tmN D i) ∧ Mv w w' g v v' := by
 have HD := hide (dDies h)
 have HP : Hid (Dy w base g v D) := ⟨es, h⟩
 have HM := hide (Mv.refl w g v)
 have hlen := h.len
 obtain ⟨ao, cap, rfl, hcap, hsp⟩ := h.spell
 have x0 : w.cell? ⟨g, 0, none⟩ = some (.slice ao D.l.length cap) := h.cells.1
 rcases tm_cases D i with ⟨hi, e1, e2⟩ | ⟨k, rfl, hk, ⟨h2, e1, e2⟩ | ⟨h2, e1, e2⟩⟩
 · rw [e1, e2]
   clear e1 e2 h hn hb HD hlen hcap hsp
   by_cases h1 : i < 0
   · clear hi
     go_enter Try.func36, Try.ntmps36
     go_wp2
     go_ret
     exact ⟨_, rfl, HP.out, HM.out⟩
   · have h2 : (D.l.length : Int) < i := by omega
     clear hi
     go_enter Try.func36, Try.ntmps36
     go_wp2
     go_ret
     first | exact ⟨_, rfl, HP.out, HM.out⟩ | exact ⟨_, HP.out, HM.out⟩ | exact ⟨rfl, _, HP.out, HM.out⟩
 · rw [h2] at HD
   rw [e1, e2]
   have k0 : ¬ (k : Int) < 0 := by omega
   have k1 : ¬ (D.l.length : Int) < (k : Int) := by omega
   clear e1 e2 h hn hb h2 hlen hcap hsp
   go_enter Try.func36, Try.ntmps36
   go_wp2_with (go_at_call 39; refine HD.out.mono ?_; rintro e w1 ⟨rfl, hd1, hm1, _⟩)
   go_ret
   exact ⟨_, rfl, ⟨_, hd1⟩, hm1⟩
 · obtain ⟨e3, _⟩ := dies_no h2
   rw [e3, h2] at HD
   rw [e1, e2]
   have k0 : ¬ (k : Int) < 0 := by omega
   have k1 : ¬ (D.l.length : Int) < (k : Int) := by omega
   have hrow := h.row
   rw [hlen] at hrow
   have hsl := headY hrow k hk
   obtain ⟨W, hW⟩ : ∃ W, w.alloc (.cells #[] 23) = W := ⟨_, rfl⟩
   have hB : Below w.heap.size w W := by rw [<- hW]; exact alloc_below _ _
   have hWs : W.heap.size = w.heap.size + 1 := by rw [<- hW]; simp
   have hown : W.ownsRow w.heap.size 23 1 (.slice (some ⟨w.heap.size, 0, none⟩) 0 0) 0 [] := by rw [<- hW]; exact own_none w _ 1
   have hWd := h.below hB
   have x1 : W.cell? ⟨g, 0, none⟩ = some (.slice ao D.l.length cap) := hWd.cells.1
   obtain ⟨au, cu, W', hr, ho, hg, hat⟩ := app_rw (m := k) (c' := cap) (b := ao) (ys := (es.take k).map (·.2)) hown (by rw [List.length_map, List.length_take]; omega) (by
    cases ao with
    | none =>
     rcases hrow.2 with ⟨e, h0⟩ | ⟨g', _, _, e, _⟩
     · injection e with _ q1 q2
       exact .inl ⟨rfl, by omega, q2⟩
     · cases e
    | some ad =>
     refine .inr ⟨ad, rfl, fun j x hj => ?_⟩
     rcases hWd.row.2 with ⟨e, _⟩ | ⟨g', cp, cur, e, q2, q3, q4, q5, q6, q7⟩
     · cases e
     · injection e with q1 _ _
       injection q1 with q1
       subst q1
       refine hWd.row.cells (g := g') (by rfl) j x ?_
       rw [List.map_take] at hj
       have hj2 := (List.getElem?_eq_some_iff.1 hj).1
       rw [List.length_take] at hj2
       rw [List.getElem?_take_of_lt (by omega)] at hj
       exact hj) (fun x hx => by
     obtain ⟨e, he, rfl⟩ := List.mem_map.1 hx
     exact be_one h e (List.mem_of_mem_take he)) (by have := h.o.ok.len; omega) (by omega)
   rw [List.nil_append] at ho
   rw [Nat.zero_add] at hr ho hat
   have hblk : W'.heap[g]? = _ := (hg.block g hWd.lt (fun e => by have := h.lt; simp [Value.ownBlock] at e; omega)).trans hWd.dsk
   have hlow : ∀ j, (Value.slice au k cu).ownBlock = some j -> w.heap.size <= j := fun j hj => (ho.lt j hj).1
   have hne : (Value.slice au k cu).ownBlock ≠ some g := fun e => by have := hlow g e; have := h.lt; omega
   have hKq : Kq (fun j => j < w.heap.size) w W' := (Below.kq hB (fun j hj => hj)).trans (grown_kq hg (fun j hj => by omega) (fun q hq hj => by simp [Value.ownBlock] at hq; omega))
   have hmv : Mv w W' g (.slice ao D.l.length cap) (.slice au k cu) := ⟨hKq.mono (fun j hj => hj.1), fun j hj => .inr (hlow j hj)⟩
   have hD1 : Dr (W'.setCell ⟨g, 0, none⟩ (.slice au k cu)) base g (.slice au k cu) { D with l := D.l.take k } (es.take k) := by
    refine ⟨by rw [set_blk hblk 0 _]; rfl, ?_, fun e he => ?_, by rw [List.map_take, h.eq], h.low, ⟨⟨?_, fun b hb => h.o.ok.blk b (List.mem_of_mem_take hb), h.o.ok.fu⟩, fun b hb => h.o.byt b (List.mem_of_mem_take hb), h.o.top⟩⟩
    · rw [show (es.take k).length = k by rw [List.length_take]; omega]
      exact ownsRow_setCell_other (own_mono ho hb) hne _
    · have hm := List.mem_of_mem_take he
      exact ownsRow_setCell_other (hKq.own (h.each e hm) (fun j hj => ((h.each e hm).lt j hj).2)) (h.une hm) _
    · show (D.l.take k).length <= 65536
      rw [List.length_take]; have := h.o.ok.len; omega
   have hz1 : W'.cell? ⟨g, 0, none⟩ = some (.slice ao D.l.length cap) := (Lib.cell_of_heap hblk 0).trans rfl
   have hz2 : W'.frozen? ⟨g, 0, none⟩ = false := Lib.frozen_of_heap hblk 0
   have HDd := hide (dDid hD1 hn)
   have HMv := hide (hmv.trans (mv_set W' g 0 (.slice au k cu) _))
   have HW := hide hW
   clear e1 e2 e3 h hn hb h2 hlen hcap hsp hrow hB hWs hown hWd ho hg hat hblk hlow hne hKq hmv hD1 hW hk
   go_enter Try.func36, Try.ntmps36
   rw [<- HW.out] at hr x1
   go_wp2_with (first
    | (go_at_call 39; refine HD.out.mono ?_; rintro e w1 ⟨rfl, _, _, hw1⟩; rw [hw1 rfl]; clear hw1)
    | (at_builtin; refine app_runO rfl _ _ _ rfl _ _ _ rfl rfl hr ?_)
    | (go_at_call 41; refine HDd.out.mono ?_; rintro e w6 ⟨rfl, hd6, hm6⟩))
   go_ret
   exact ⟨_, rfl, ⟨_, hd6⟩, HMv.out.trans hm6⟩
end Go.Proofs.Ythialdipnhggnaa
