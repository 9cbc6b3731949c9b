import Derived.Test.YtcglbbglapomgaaBLawJE
set_option linter.unusedVariables false
set_option linter.unusedSimpArgs false
set_option maxRecDepth 100000
set_option maxHeartbeats 4000000
namespace Go.Proofs.Ytcglbbglapomgaa
open Go.RowKit Fld
structure Hst (w W : World) (base g : Nat) (vs : Value) (N : Nt) (es : List Dk) (k : Nat) : Prop where
 p : ∃ v, Np W base g v N
 d : Dl W base vs es
 low : Below base w W
 sz : base <= W.heap.size
 cnt : N.s + N.d + N.c <= k
 les : es.length <= N.s
 mem : ∀ q ∈ N.l, q ∈ es.map (·.1)
theorem Hst.below {w W W' : World} {base g k : Nat} {vs : Value} {N : Nt} {es : List Dk} (h : Hst w W base g vs N es k) (hb : Below W.heap.size W W') : Hst w W' base g vs N es k := by
 obtain ⟨v, hp⟩ := h.p
 exact ⟨⟨v, hp.below hb⟩, h.d.below hb, h.low.trans (hb.mono h.sz), Nat.le_trans h.sz hb.size, h.cnt, h.les, h.mem⟩
theorem Hst.next {w W : World} {base g k : Nat} {vs : Value} {N : Nt} {es : List Dk} (h : Hst w W base g vs N es k) : Hst w W base g vs N es (k + 1) := ⟨h.p, h.d, h.low, h.sz, by have := h.cnt; omega, h.les, h.mem⟩
theorem Hst.bound {w W : World} {base g k : Nat} {vs : Value} {N : Nt} {es : List Dk} (h : Hst w W base g vs N es k) (hk : k <= 2932031007317) : es.length <= 2932031005999 ∧ N.s < 4611686018427387904 := by
 obtain ⟨v, hp⟩ := h.p
 have h1 := hp.o.ok.sum
 have h2 := hp.o.ok.len
 have h3 := h.cnt
 have h4 := h.les
 omega
theorem Hst.moved {w W W2 : World} {base g k : Nat} {v v2 vs : Value} {N M : Nt} {es : List Dk} (h : Hst w W base g vs N es k) (hp : Np W base g v N) (n2 : Np W2 base g v2 M) (m : Mv W W2 g v v2) (hc : M.s + M.d + M.c <= N.s + N.d + N.c + 1) (hs : N.s <= M.s) (hm : ∀ q ∈ M.l, q ∈ N.l) : Hst w W2 base g vs M es (k + 1) :=
 ⟨⟨v2, n2⟩, h.d.mv m hp.kinds.1 hp.kinds.2, h.low.trans (hp.mvb m h.sz), Nat.le_trans h.sz m.kq.size, by have := h.cnt; omega, by have := h.les; omega, fun q hq => h.mem q (hm q hq)⟩
theorem sd_no {N : Nt} {f t : Int} {b : List Int} (h : sdE N f t b ≠ 0) : sdN N f t b = N := by unfold sdN; rw [if_neg h]
theorem sd_yes {N : Nt} {f t : Int} {b : List Int} (h : sdE N f t b = 0) : sdN N f t b = { N with l := N.l ++ [⟨f, t, b⟩], s := N.s + 1 } := by unfold sdN; rw [if_pos h]
theorem dv_cnt (N : Nt) (i : Int) : (dvN N i).s + (dvN N i).d + (dvN N i).c <= N.s + N.d + N.c + 1 ∧ N.s <= (dvN N i).s ∧ ∀ q ∈ (dvN N i).l, q ∈ N.l := by
 unfold dvN
 split
 · exact ⟨by dsimp only; omega, Nat.le_refl _, fun q hq => List.mem_of_mem_eraseIdx hq⟩
 · exact ⟨by omega, Nat.le_refl _, fun q hq => hq⟩
theorem dp_cnt (N : Nt) (i : Int) : (dpN N i).s + (dpN N i).d + (dpN N i).c <= N.s + N.d + N.c + 1 ∧ N.s <= (dpN N i).s ∧ ∀ q ∈ (dpN N i).l, q ∈ N.l := by
 unfold dpN
 split
 · exact ⟨by dsimp only; omega, Nat.le_refl _, fun q hq => List.mem_of_mem_eraseIdx hq⟩
 · exact ⟨by omega, Nat.le_refl _, fun q hq => hq⟩
theorem db_has {N : Nt} {i : Int} (h : dbE N i = 0) : N.l.getD i.toNat pk0 ∈ N.l := by
 have hh : hasI N.l i = true := by
  unfold dbE at h
  by_cases e : hasI N.l i = true
  · exact e
  · rw [if_neg e] at h; simp at h
 obtain ⟨k, rfl, hk⟩ := hasI_iff.1 hh
 exact List.mem_of_getElem? (at_getD hk)
theorem db_cnt (N : Nt) (i : Int) : (dbN N i).s + (dbN N i).d + (dbN N i).c <= N.s + N.d + N.c + 1 ∧ N.s <= (dbN N i).s ∧ ∀ q ∈ (dbN N i).l, q ∈ N.l := by
 unfold dbN
 split
 · rename_i e
   refine ⟨by dsimp only; omega, by dsimp only; omega, fun q hq => ?_⟩
   rcases List.mem_append.1 hq with h1 | h1
   · exact h1
   · rw [List.mem_singleton.1 h1]; exact db_has e
 · exact ⟨by omega, Nat.le_refl _, fun q hq => hq⟩
theorem mv_cnt (N : Nt) (i j : Int) : (mvN N i j).s + (mvN N i j).d + (mvN N i j).c <= N.s + N.d + N.c + 1 ∧ N.s <= (mvN N i j).s ∧ ∀ q ∈ (mvN N i j).l, q ∈ N.l := by
 unfold mvN
 split
 · rename_i e
   have hh : hasI N.l i = true ∧ hasI N.l j = true := by
    unfold mvE at e
    by_cases e2 : hasI N.l i = true ∧ hasI N.l j = true
    · exact e2
    · rw [if_neg e2] at e; simp at e
   obtain ⟨k, rfl, hk⟩ := hasI_iff.1 hh.1
   refine ⟨by dsimp only; omega, Nat.le_refl _, fun q hq => ?_⟩
   have hq' : q ∈ mvL N.l ((k : Int).toNat) j.toNat (N.l.getD (k : Int).toNat pk0) := hq
   unfold mvL at hq'
   rcases List.mem_append.1 hq' with h1 | h1
   · exact List.mem_of_mem_eraseIdx (List.mem_of_mem_take h1)
   · rcases List.mem_cons.1 h1 with h2 | h2
     · rw [h2]; exact List.mem_of_getElem? (at_getD hk)
     · exact List.mem_of_mem_eraseIdx (List.mem_of_mem_drop h2)
 · exact ⟨by omega, Nat.le_refl _, fun q hq => hq⟩
theorem dv_mem {N : Nt} {i : Int} {es : List Dk} (h : plE N i = 0) (hm : ∀ q ∈ N.l, q ∈ es.map (·.1)) : dvP N i ∈ es.map (·.1) := by
 have hh : hasI N.l i = true := by
  unfold plE at h
  by_cases e : hasI N.l i = true
  · exact e
  · rw [if_neg e] at h; simp at h
 obtain ⟨k, rfl, hk⟩ := hasI_iff.1 hh
 unfold dvP
 rw [if_pos hh]
 exact hm _ (List.mem_of_getElem? (at_getD hk))
theorem hon_mem {w W : World} {base g b k : Nat} {v vs x0 x1 x2 x3 : Value} {N M : Nt} {es : List Dk} {f t : Int} {bs : List Int} (hp : Np W base g v M) (hMl : M.l = N.l ++ [⟨f, t, bs⟩]) (hMs : M.s = N.s + 1) (hMd : M.d = N.d ∧ M.c = N.c) (hd : Dl W base vs es) (hlow : Below base w W) (hsz : base <= W.heap.size) (hcnt : N.s + N.d + N.c <= k) (hles : es.length <= N.s) (hmem : ∀ q ∈ N.l, q ∈ es.map (·.1)) (hl : es.length <= 2932031005999)
 (hbx : W.heap[b]? = some (.cells #[x0, x1, x2, x3] 36 (0, 0))) (hy : By bs) (hbl : bs.length <= 1048576) {w2 : World} (hb2 : Below W.heap.size W w2) {a2 : Option Addr} {k2 : Nat} (ho : w2.ownsRow W.heap.size 5 1 (.slice a2 bs.length k2) bs.length (valb bs)) :
 (w2.cell? ⟨b, 1, none⟩ = some x1 ∧ w2.cell? ⟨b, 2, none⟩ = some x2 ∧ w2.cell? ⟨b, 3, none⟩ = some x3) ∧
 ((w2.alloc (.cells #[.int .i64 f, .int .i64 t, .slice a2 bs.length k2] 40)).cell? ⟨b, 1, none⟩ = some x1 ∧ (w2.alloc (.cells #[.int .i64 f, .int .i64 t, .slice a2 bs.length k2] 40)).cell? ⟨b, 2, none⟩ = some x2 ∧ (w2.alloc (.cells #[.int .i64 f, .int .i64 t, .slice a2 bs.length k2] 40)).cell? ⟨b, 3, none⟩ = some x3) ∧
 ∃ (au : Option Addr) (cu : Nat) (w4 : World), (Builtin.append_ #[27, 27] 27 #[vs, .slice (some ⟨w2.heap.size, 0, none⟩) 1 1]).run Try.prog (w2.alloc (.cells #[.int .i64 f, .int .i64 t, .slice a2 bs.length k2] 40)) = .ok (.slice au (es.length + 1) cu) w4 ∧
  (w4.cell? ⟨b, 1, none⟩ = some x1 ∧ w4.cell? ⟨b, 2, none⟩ = some x2 ∧ w4.cell? ⟨b, 3, none⟩ = some x3) ∧ Hid (∃ es', es'.length = es.length + 1 ∧ Hst w w4 base g (.slice au (es.length + 1) cu) M es' (k + 1)) := by
 have cells : ∀ V : World, V.heap[b]? = some (.cells #[x0, x1, x2, x3] 36 (0, 0)) -> V.cell? ⟨b, 1, none⟩ = some x1 ∧ V.cell? ⟨b, 2, none⟩ = some x2 ∧ V.cell? ⟨b, 3, none⟩ = some x3 := fun V h => (box_cells h).2
 have hbs : b < W.heap.size := (Array.getElem?_eq_some_iff.1 hbx).1
 have hb3 := Below.next hb2 (alloc_below w2 (.cells #[.int .i64 f, .int .i64 t, .slice a2 bs.length k2] 40))
 have hX3 := hd.below hb3
 have hP3 := hp.below hb3
 have hB3 := (hb3.block b hbs).trans hbx
 have hs3 := hb3.size
 obtain ⟨au4, cu4, w4, hr4, hD4, hg4, hat4⟩ := hX3.app (by omega) ⟨w2.heap.size, 0, none⟩ (⟨f, t, bs⟩, .slice a2 bs.length k2) (World.news_of_block (cs := #[.int .i64 f, .int .i64 t, .slice a2 bs.length k2]) (t := 40) (fr := (0, 0)) (heap_alloc_new w2 _)) ⟨own_mono (ho.alloc _) hsz, hy, hbl⟩ (by omega)
 refine ⟨cells _ ((hb2.block b hbs).trans hbx), cells _ hB3, au4, cu4, w4, hr4, cells _ ?_, es ++ [(⟨f, t, bs⟩, .slice a2 bs.length k2)], by simp, ⟨v, ⟨⟨?_, ?_, hP3.m.low⟩, hP3.o⟩⟩, hD4, ?_, by have := hg4.size; omega, by obtain ⟨e1, e2⟩ := hMd; omega, by rw [List.length_append]; simp; omega, fun q hq => ?_⟩
 · exact (hg4.block b (Array.getElem?_eq_some_iff.1 hB3).1 (fun e => own_notO hX3.row hB3 (by decide) e.symm)).trans hB3
 · exact (hg4.block g hP3.m.lt (fun e => own_notO hX3.row hP3.m.net (by decide) e.symm)).trans hP3.m.net
 · exact own_kept hP3.m.row hg4 (fun j hj e2 => own_kindO hP3.m.row hX3.row (by decide) j hj e2)
 · exact ((hlow.trans (hb3.mono hsz))).grown hg4 (by omega) (fun j hj => (hX3.row.lt j hj).1)
 · rw [List.map_append]
   rw [hMl] at hq
   rcases List.mem_append.1 hq with h1 | h1
   · exact List.mem_append.2 (.inl (hmem q h1))
   · rw [List.mem_singleton.1 h1]
     exact List.mem_append.2 (.inr (by simp))
theorem netHonest_any (v : Value) (ss : List Sq) (w : World) (h : Scr w v ss) : Calls Try.prog 5 #[v] w fun e w' => e = .returned (.bool true) ∧ Below w.heap.size w w' := by
 obtain ⟨ao, cap, rfl, hcap⟩ := h.lm.spell
 have hlen := h.len
 have HS := hide h
 have ga := hide (fun W => anch21 W)
 have HN := hide (fun W => gNew 5 rfl W)
 have HCo := hide (fun W v N (h : Np W w.heap.size w.heap.size v N) (hs : N.s < 4611686018427387904) => gCount h hs)
 have HPe := hide (fun W v N (h : Np W w.heap.size w.heap.size v N) => gPending h)
 have H00 := hide (fun (w1 : World) (h1 : Np w1 w.heap.size w.heap.size (.slice none 0 0) (nt0 5)) (b1 : Below w.heap.size w w1) => show Hst w w1 w.heap.size w.heap.size (.slice none 0 0) (nt0 5) [] 0 from ⟨⟨_, h1⟩, ⟨World.ownsRow_nil _ _ _ _, fun e he => by cases he⟩, b1, b1.size, Nat.le_refl _, Nat.le_refl _, fun q hq => by cases hq⟩)
 clear h
 go_enter Try.func5, Try.ntmps5
 go_wp2_with (go_at_call 8; refine (HN.out _).mono ?_; rintro e w1 ⟨rfl, hn1, hb1⟩; have HT := hide (H00.out _ hn1 hb1); clear hn1 hb1)
 go_loopw [5, 6] (fun vs vi wr => ∃ (k : Nat) (M : Nt) (es : List Dk) (ac : Option Addr) (cc : Nat), k <= ss.length ∧ vi = .int .i64 k ∧ vs = .slice ac es.length cc ∧ Hid (Hst w wr w.heap.size w.heap.size (.slice ac es.length cc) M es k)) (fun _ vi _ => ss.length - (intOf vi).toNat)
 case atStart => exact ⟨0, _, [], none, 0, Nat.zero_le _, rfl, rfl, HT⟩
 case round =>
  clear HT H00 HN
  obtain ⟨k, M, es, ac, cc, hk, rfl, rfl, HM⟩ := hrel
  by_cases hlt : k < ss.length
  · obtain ⟨b, off, cap', hv, _, _⟩ := HS.out.lm.form (by omega)
    injection hv with hv1 hv2 hv3
    subst hv1 hv3
    obtain ⟨c0, c1, c2, c3⟩ := HS.out.sq HM.out.low hlt
    have HQ := hide (HS.out.okw HM.out.low hlt)
    obtain ⟨hcu, _⟩ := (HQ.out wr (Below.refl _ wr)).c
    obtain ⟨au, cu, hu, _⟩ := (HQ.out wr (Below.refl _ wr)).rb.spell
    obtain ⟨hes, hNs⟩ := HM.out.bound (by omega)
    have ii0 : (0 : Int) <= (k : Int) := by omega
    have ii1 : (k : Int) < (ss.length : Int) := by omega
    generalize ss[k] = s at *
    obtain ⟨sc, sa, sb, su, sbs⟩ := s
    dsimp only at hu c0 c1 c2 c3 hcu
    subst hu
    obtain ⟨w1, hw1⟩ : ∃ w1, wr.alloc (.cells #[.int .u8 sc, .int .i64 sa, .int .i64 sb, .slice au sbs.length cu] 36) = w1 := ⟨_, rfl⟩
    have hb1 : Below wr.heap.size wr w1 := by rw [<- hw1]; exact alloc_below _ _
    have hbx : w1.heap[wr.heap.size]? = some (.cells #[.int .u8 sc, .int .i64 sa, .int .i64 sb, .slice au sbs.length cu] 36 (0, 0)) := by rw [<- hw1]; exact heap_alloc_new wr _
    have HM1 := hide (HM.out.below hb1)
    have HQ1 := hide (fun V (hV : Below w.heap.size w1 V) => HQ.out V ((hb1.mono HM.out.sz).trans hV))
    obtain ⟨y0, y1, y2, y3⟩ := box_cells hbx
    obtain ⟨v, hp⟩ := HM1.out.p
    have HBX := hide hbx
    have HB1 := hide hb1
    dsimp only at *
    clear hbx hb1 HM HQ HS
    by_cases q0 : sc = 0
    · subst q0
      have HA := hide (gSend hp HM1.out.sz hNs sa sb (HQ1.out w1 (Below.refl _ _)).rb)
      by_cases he : sdE M sa sb sbs = 0
      · obtain ⟨_, _, _, hbl⟩ := sdE_zero he
        have HF : Hid ((sdN M sa sb sbs).l = M.l ++ [⟨sa, sb, sbs⟩] ∧ (sdN M sa sb sbs).s = M.s + 1 ∧ (sdN M sa sb sbs).d = M.d ∧ (sdN M sa sb sbs).c = M.c) := by rw [sd_yes he]; exact ⟨rfl, rfl, rfl, rfl⟩
        rw [he] at HA
        generalize sdN M sa sb sbs = M' at *
        have HLow := hide (fun W2 v2 (m2 : Mv w1 W2 w.heap.size v v2) => (hp.mvb m2 HM1.out.sz).drew)
        have HBy0 := hide (fun W2 v2 (m2 : Mv w1 W2 w.heap.size v v2) => rBytes _ sbs W2.drew (HQ1.out _ (HLow.out _ _ m2)).rb (by omega))
        have HBx := hide (fun W2 v2 (m2 : Mv w1 W2 w.heap.size v v2) => box_mv HBX.out hp m2)
        have HBc := hide (fun W2 v2 (m2 : Mv w1 W2 w.heap.size v v2) => (box_cells (HBx.out W2 v2 m2)).2)
        have HX := hide (fun W2 v2 (n2 : Np W2 w.heap.size w.heap.size v2 M') (m2 : Mv w1 W2 w.heap.size v v2) w3 (hb3 : Below W2.drew.heap.size W2.drew w3) a3 k3 (ho : w3.ownsRow W2.drew.heap.size 5 1 (.slice a3 sbs.length k3) sbs.length (valb sbs)) =>
         hon_mem (w := w) (k := k) (n2.below (Below.refl _ W2).drew) HF.out.1 HF.out.2.1 HF.out.2.2 ((HM1.out.d.mv m2 hp.kinds.1 hp.kinds.2).below (Below.refl _ W2).drew) (HM1.out.low.trans (HLow.out _ _ m2)) (Nat.le_trans HM1.out.sz m2.kq.size) HM1.out.cnt HM1.out.les HM1.out.mem hes (HBx.out W2 v2 m2) (HQ1.out w1 (Below.refl _ _)).rb.by hbl hb3 ho)
        clear HM1 HQ1 HF hp HBx HLow
        go_upto_region 12 with (go_at_call 14; refine HA.out.mono ?_; rintro e w2 ⟨v2, rfl, hn2, hm2⟩)
        have hS0 : w2.drew.cell? ⟨wr.heap.size, 1, none⟩ = some (.int .i64 sa) ∧ w2.drew.cell? ⟨wr.heap.size, 2, none⟩ = some (.int .i64 sb) ∧ w2.drew.cell? ⟨wr.heap.size, 3, none⟩ = some (.slice au sbs.length cu) := HBc.out w2 v2 hm2
        have HBy := hide (HBy0.out _ _ hm2)
        have HX2 := hide (HX.out _ _ hn2 hm2)
        clear HBy0 HX HBc HA hn2 hm2
        refine wp_region_held_drew (S := (fun V => V.cell? ⟨wr.heap.size, 1, none⟩ = some (.int .i64 sa) ∧ V.cell? ⟨wr.heap.size, 2, none⟩ = some (.int .i64 sb) ∧ V.cell? ⟨wr.heap.size, 3, none⟩ = some (.slice au sbs.length cu))) (by kernel_rfl) (by ((try dsimp only) <;> (first | with_reducible exact hS0 | with_reducible exact hS1 | with_reducible exact hS2 | with_reducible exact hS4))) (fun hHeld => ?_)
        refine tkY 0 ?_
        refine tkY 1 ?_
        refine tkY 2 ?_
        refine tkY 3 ?_
        refine tkY 4 ?_
        refine tkY 5 ?_
        refine tkY 6 ?_
        refine rd1 7 (fun K hK => ?_)
        (try simp only [ly0, ly1, ly2, ly3, ly4, ly5, ly6, ly7])
        go_simp
        (first | (go_at_call 20; refine HBy.out.mono ?_; rintro e w3 ⟨v3, rfl, ho3, hb3⟩; obtain ⟨a3, k3, hv3, _⟩ := own_spellO ho3; subst hv3; obtain ⟨hS1, hS2, au4, cu4, w4, hr4, hS4, HH5⟩ := HX2.out w3 hb3 a3 k3 ho3) | (refine app_mute (by rfl) _ _ _ _ (by rfl) _ _ (by rfl) (by rfl) _ w4 hr4 ?_))
        first | refine hK.out _ _ ?k1 (fun hHeld => ?_) | (go_wp2_with fail; refine hK.out _ _ ?k1 (fun hHeld => ?_))
        case k1 => ((try dsimp only) <;> (first | with_reducible exact hS0 | with_reducible exact hS1 | with_reducible exact hS2 | with_reducible exact hS4))
        clear hK K
        (try simp only [ly0, ly1, ly2, ly3, ly4, ly5, ly6, ly7])
        refine tkY 8 ?_
        refine rd1 9 (fun K hK => ?_)
        (try simp only [ly0, ly1, ly2, ly3, ly4, ly5, ly6, ly7])
        go_simp
        refine hK.out _ _ (by ((try dsimp only) <;> (first | with_reducible exact hS0 | with_reducible exact hS1 | with_reducible exact hS2 | with_reducible exact hS4))) (fun hHeld => ?_)
        clear hK K
        (try simp only [ly0, ly1, ly2, ly3, ly4, ly5, ly6, ly7])
        refine rd1 10 (fun K hK => ?_)
        (refine app_mute (by rfl) _ _ _ _ (by rfl) _ _ (by rfl) (by rfl) _ w4 hr4 ?_)
        refine hK.out _ _ (by ((try dsimp only) <;> (first | with_reducible exact hS0 | with_reducible exact hS1 | with_reducible exact hS2 | with_reducible exact hS4))) (fun hHeld => ?_)
        clear hK K
        (try simp only [ly0, ly1, ly2, ly3, ly4, ly5, ly6, ly7])
        refine tkY 11 ?_
        refine wpAnyH_done (by kernel_rfl) ?_ _
        clear hS0 hS1 hS2 hS4 hr4 HBy HX2
        obtain ⟨es', hel, hh⟩ := HH5.out
        have HH := hide hh
        clear hh HH5 ho3 hb3
        go_upto_region 28 with fail
        obtain ⟨v7, hnp⟩ := HH.out.p
        have hok7 := hnp.o.ok
        have hsum := hok7.sum
        have hlen7 := hok7.len
        have hb77 := (HH.out.bound (by omega)).2
        have hd1 : ((M'.s : Int) - (M'.d : Int)) = ((M'.s - M'.d : Nat) : Int) := by omega
        have hd2 : (((M'.s - M'.d : Nat) : Int) - (M'.c : Int)) = (M'.l.length : Int) := by omega
        have hd3 : (0 : Int) <= (M'.s : Int) := by omega
        clear hok7
        go_wp2_with (first
         | (go_at_call 13; refine (HCo.out _ _ _ hnp (by omega)).mono ?_; rintro e w7 ⟨rfl, hb7⟩; have HH7 := hide (HH.out.below hb7); have hpe := HPe.out _ _ _ (hnp.below hb7))
         | (go_at_call 18; refine hpe.mono ?_; rintro e w8 ⟨v8, ls, rfl, hq8, he8, hb8⟩; have HH8 := hide (HH7.out.below hb8); obtain ⟨a8, k8, hv8, _⟩ := own_spellO hq8.row; rw [List.length_map, show ls.length = M'.l.length by rw [<- he8, List.length_map]] at hv8; subst hv8))
        go_roundw
        case rel => exact ⟨k + 1, _, es', au4, cu4, by omega, by go_num, by rw [hel], by rw [hel]; exact HH8⟩
        case measure => simp [intOf]; omega
      · have hne : (sdE M sa sb sbs == 0) = false := beq_eq_false_iff_ne.2 he
        rw [sd_no he] at HA
        have HMv := hide (fun W2 v2 (n2 : Np W2 w.heap.size w.heap.size v2 M) (m2 : Mv w1 W2 w.heap.size v v2) => HM1.out.moved hp n2 m2 (by omega) (Nat.le_refl _) (fun q hq => hq))
        generalize sdE M sa sb sbs = er at *
        generalize M = M' at *
        clear hp HM1 HQ1
        go_upto_region 28 with (go_at_call 14; refine HA.out.mono ?_; rintro e w3 ⟨v3, rfl, hn3, hm3⟩; have HH := hide (HMv.out _ _ hn3 hm3); clear hn3 hm3)
        clear HA HMv
        obtain ⟨v7, hnp⟩ := HH.out.p
        have hok7 := hnp.o.ok
        have hsum := hok7.sum
        have hlen7 := hok7.len
        have hb77 := (HH.out.bound (by omega)).2
        have hd1 : ((M'.s : Int) - (M'.d : Int)) = ((M'.s - M'.d : Nat) : Int) := by omega
        have hd2 : (((M'.s - M'.d : Nat) : Int) - (M'.c : Int)) = (M'.l.length : Int) := by omega
        have hd3 : (0 : Int) <= (M'.s : Int) := by omega
        clear hok7
        go_wp2_with (first
         | (go_at_call 13; refine (HCo.out _ _ _ hnp (by omega)).mono ?_; rintro e w7 ⟨rfl, hb7⟩; have HH7 := hide (HH.out.below hb7); have hpe := HPe.out _ _ _ (hnp.below hb7))
         | (go_at_call 18; refine hpe.mono ?_; rintro e w8 ⟨v8, ls, rfl, hq8, he8, hb8⟩; have HH8 := hide (HH7.out.below hb8); obtain ⟨a8, k8, hv8, _⟩ := own_spellO hq8.row; rw [List.length_map, show ls.length = M'.l.length by rw [<- he8, List.length_map]] at hv8; subst hv8))
        go_roundw
        case rel => exact ⟨k + 1, _, _, _, _, by omega, by go_num, rfl, HH8⟩
        case measure => simp [intOf]; omega
    by_cases q1 : sc = 1
    · subst q1
      have HA := hide (gDeliver hp hNs sa)
      have HK := hide (dv_cnt M sa)
      have HMv := hide (fun W2 v2 (n2 : Np W2 w.heap.size w.heap.size v2 (dvN M sa)) (m2 : Mv w1 W2 w.heap.size v v2) => HM1.out.moved hp n2 m2 HK.out.1 HK.out.2.1 HK.out.2.2)
      have HMem := hide (fun (he : plE M sa = 0) => dv_mem he HM1.out.mem)
      have HO := hide (fun p q x y W (r1 : Rb W x (p : Pk).b) (r2 : Rb W y (q : Pk).b) => dOne21 p q x y W r1 r2)
      generalize dvN M sa = M' at *
      generalize plE M sa = er at *
      generalize dvP M sa = p at *
      clear HK hp HM1 HQ1
      go_upto_region 15 with (go_at_call 12; refine HA.out.mono ?_; rintro e w3 ⟨v3, y, rfl, hy3, hn3, hm3⟩; obtain ⟨u3, hye, hr3⟩ := hy3.form; obtain ⟨a3, k3, hu3, _⟩ := hr3.spell; subst hu3; subst hye; have HH3 := hide (HMv.out _ _ hn3 hm3); clear hn3 hm3 hy3)
      have hA := alloc_below w3 (.cells #[.int .i64 p.f, .int .i64 p.t, .slice a3 p.b.length k3] 40)
      have hC := heap_alloc_new w3 (.cells #[.int .i64 p.f, .int .i64 p.t, .slice a3 p.b.length k3] 40)
      have HH4 := hide (HH3.out.below hA)
      have HR4 := hide (hr3.below hA)
      have hs4 : (w3.alloc (.cells #[.int .i64 p.f, .int .i64 p.t, .slice a3 p.b.length k3] 40)).heap.size = w3.heap.size + 1 := by simp
      generalize w3.alloc (.cells #[.int .i64 p.f, .int .i64 p.t, .slice a3 p.b.length k3] 40) = w4 at *
      generalize w3.heap.size = b3 at *
      have HC4 := hide hC
      clear hC hA hr3 HA HMv HH3
      go_wp2_with fail
      go_loopw [10, 11] (fun vb vk wv => ∃ (j : Nat) (bb : Bool), j <= es.length ∧ vb = .bool bb ∧ vk = .int .i64 j ∧ (bb = false -> p ∈ (es.map (·.1)).drop j) ∧ Below w4.heap.size w4 wv) (fun _ vk _ => es.length - (intOf vk).toNat)
      case atStart => exact ⟨0, _, Nat.zero_le _, rfl, rfl, fun hb => HMem.out (by simpa using hb), Below.refl _ _⟩
      case round =>
       obtain ⟨j, bb, hj, rfl, rfl, hbb, hB⟩ := hrel
       by_cases hjl : j < es.length
       · have jj0 : (0 : Int) <= (j : Int) := by omega
         have jj1 : (j : Int) < (es.length : Int) := by omega
         cases bb
         · have he : es[j]? = some es[j] := List.getElem?_eq_getElem hjl
           have hD := HH4.out.d.below hB
           obtain ⟨ao', cap'', hv2, _, hv3⟩ := own_spellO hD.row
           injection hv2 with hv4 hv5 hv6
           obtain ⟨r, hr, _, hrl⟩ := hv3 (by omega)
           subst hv4 hv6
           subst hr
           obtain ⟨d0, d1, d2⟩ := hD.pk he
           have hRe := hD.rb (List.mem_of_getElem? he)
           have hdrop : (es.map (·.1)).drop j = es[j].1 :: (es.map (·.1)).drop (j + 1) := by
            rw [List.drop_eq_getElem_cons (by rw [List.length_map]; exact hjl), List.getElem_map]
           have hbb2 := hbb rfl
           rw [hdrop] at hbb2
           clear hD he hv3 hv5 hdrop hbb
           generalize es[j] = e0 at *
           obtain ⟨⟨ef, et, eb⟩, eu⟩ := e0
           dsimp only at hRe d0 d1 d2 hbb2
           obtain ⟨a5, k5, hu5, _⟩ := hRe.spell
           subst hu5
           have HOne := hide (HO.out ⟨ef, et, eb⟩ p _ _ wr.drew (hRe.below (Below.refl _ wr).drew) (HR4.out.below hB.drew))
           have hbb3 : pkS ⟨ef, et, eb⟩ p = false -> p ∈ (es.map (·.1)).drop (j + 1) := fun hf => by
            rcases List.mem_cons.1 hbb2 with e | e
            · rw [e, pkS_self] at hf; cases hf
            · exact e
           have hb4 : b3 < wr.heap.size := by have := hB.size; omega
           have hCv : wr.heap[b3]? = some (.cells #[.int .i64 p.f, .int .i64 p.t, .slice a3 p.b.length k3] 40 (0, 0)) := (hB.block b3 (by omega)).trans HC4.out
           have f0 : wr.cell? ⟨b3, 0, none⟩ = some (.int .i64 p.f) := (Lib.cell_of_heap hCv 0).trans rfl
           have f1 : wr.cell? ⟨b3, 1, none⟩ = some (.int .i64 p.t) := (Lib.cell_of_heap hCv 1).trans rfl
           have f2 : wr.cell? ⟨b3, 2, none⟩ = some (.slice a3 p.b.length k3) := (Lib.cell_of_heap hCv 2).trans rfl
           have hS0 : (wr.drew.cell? ⟨r, j * 3, none⟩ = some (.int .i64 ef) ∧ wr.drew.cell? ⟨r, j * 3 + 1, none⟩ = some (.int .i64 et) ∧ wr.drew.cell? ⟨r, j * 3 + 2, none⟩ = some (.slice a5 eb.length k5)) ∧ (wr.drew.cell? ⟨b3, 0, none⟩ = some (.int .i64 p.f) ∧ wr.drew.cell? ⟨b3, 1, none⟩ = some (.int .i64 p.t) ∧ wr.drew.cell? ⟨b3, 2, none⟩ = some (.slice a3 p.b.length k3)) := ⟨⟨d0, d1, d2⟩, f0, f1, f2⟩
           have HSv : Hid (∀ V, Below wr.heap.size wr V -> (V.cell? ⟨r, j * 3, none⟩ = some (.int .i64 ef) ∧ V.cell? ⟨r, j * 3 + 1, none⟩ = some (.int .i64 et) ∧ V.cell? ⟨r, j * 3 + 2, none⟩ = some (.slice a5 eb.length k5)) ∧ (V.cell? ⟨b3, 0, none⟩ = some (.int .i64 p.f) ∧ V.cell? ⟨b3, 1, none⟩ = some (.int .i64 p.t) ∧ V.cell? ⟨b3, 2, none⟩ = some (.slice a3 p.b.length k3))) := fun V hb => ⟨⟨(hb.cell (p := ⟨r, j * 3, none⟩) hrl).trans d0, (hb.cell (p := ⟨r, j * 3 + 1, none⟩) hrl).trans d1, (hb.cell (p := ⟨r, j * 3 + 2, none⟩) hrl).trans d2⟩, (hb.cell (p := ⟨b3, 0, none⟩) hb4).trans f0, (hb.cell (p := ⟨b3, 1, none⟩) hb4).trans f1, (hb.cell (p := ⟨b3, 2, none⟩) hb4).trans f2⟩
           clear hRe hbb2 hCv d0 d1 d2 f0 f1 f2 HH4 HR4 HC4 HO HMem
           go_upto_region 19 with fail
           refine wp_region_held_drew (S := (fun V => (V.cell? ⟨r, j * 3, none⟩ = some (.int .i64 ef) ∧ V.cell? ⟨r, j * 3 + 1, none⟩ = some (.int .i64 et) ∧ V.cell? ⟨r, j * 3 + 2, none⟩ = some (.slice a5 eb.length k5)) ∧ (V.cell? ⟨b3, 0, none⟩ = some (.int .i64 p.f) ∧ V.cell? ⟨b3, 1, none⟩ = some (.int .i64 p.t) ∧ V.cell? ⟨b3, 2, none⟩ = some (.slice a3 p.b.length k3)))) (by kernel_rfl) (by ((try dsimp only) <;> (first | with_reducible exact hS0 | with_reducible exact hS1))) (fun hHeld => ?_)
           refine tkY 0 ?_
           refine tkY 1 ?_
           refine tkY 2 ?_
           refine tkY 3 ?_
           refine tkY 4 ?_
           refine tkY 5 ?_
           refine tkY 6 ?_
           refine rd1 7 (fun K hK => ?_)
           (try simp only [ly0, ly1, ly2, ly3, ly4, ly5, ly6, ly7])
           go_simp
           (go_at_call 21; refine HOne.out.mono ?_; rintro e w5 ⟨rfl, hb5'⟩; have hB5 := Below.trans (Below.refl wr.heap.size wr).drew hb5'; have hS1 := HSv.out w5 hB5)
           first | refine hK.out _ _ ?k2 (fun hHeld => ?_) | (go_wp2_with fail; refine hK.out _ _ ?k2 (fun hHeld => ?_))
           case k2 => ((try dsimp only) <;> (first | with_reducible exact hS0 | with_reducible exact hS1))
           clear hK K
           (try simp only [ly0, ly1, ly2, ly3, ly4, ly5, ly6, ly7])
           refine tkY 8 ?_
           refine tkY 9 ?_
           refine wpAnyH_done (by kernel_rfl) ?_ _
           clear hS0 hS1 HSv HOne
           go_wp2_with fail
           go_roundw
           case rel => exact ⟨j + 1, _, by omega, rfl, by go_num, hbb3, Below.next hB hB5⟩
           case measure => simp [intOf]; omega
         · clear HH4 HR4 HC4 HO HMem
           go_upto_region 19 with fail
           go_quiet (fail)
           go_wp2_with fail
           go_roundw
           case rel => exact ⟨j + 1, true, by omega, rfl, by go_num, (fun h => by cases h), below_drewN hB _⟩
           case measure => simp [intOf]; omega
       · obtain rfl : j = es.length := by omega
         cases bb
         · exact absurd (hbb rfl) (by rw [List.drop_of_length_le (by rw [List.length_map]; exact Nat.le_refl _)]; simp)
         · have HH := hide (HH4.out.below hB)
           clear HH4 HR4 HC4 HO HMem hbb hB
           go_upto_region 28 with fail
           obtain ⟨v7, hnp⟩ := HH.out.p
           have hok7 := hnp.o.ok
           have hsum := hok7.sum
           have hlen7 := hok7.len
           have hb77 := (HH.out.bound (by omega)).2
           have hd1 : ((M'.s : Int) - (M'.d : Int)) = ((M'.s - M'.d : Nat) : Int) := by omega
           have hd2 : (((M'.s - M'.d : Nat) : Int) - (M'.c : Int)) = (M'.l.length : Int) := by omega
           have hd3 : (0 : Int) <= (M'.s : Int) := by omega
           clear hok7
           go_wp2_with (first
            | (go_at_call 13; refine (HCo.out _ _ _ hnp (by omega)).mono ?_; rintro e w7 ⟨rfl, hb7⟩; have HH7 := hide (HH.out.below hb7); have hpe := HPe.out _ _ _ (hnp.below hb7))
            | (go_at_call 18; refine hpe.mono ?_; rintro e w8 ⟨v8, ls, rfl, hq8, he8, hb8⟩; have HH8 := hide (HH7.out.below hb8); obtain ⟨a8, k8, hv8, _⟩ := own_spellO hq8.row; rw [List.length_map, show ls.length = M'.l.length by rw [<- he8, List.length_map]] at hv8; subst hv8))
           go_roundw
           case rel => exact ⟨k + 1, _, _, _, _, by omega, by go_num, rfl, HH8⟩
           case measure => simp [intOf]; omega
    by_cases q2 : sc = 2
    · subst q2
      have HA := hide (gDrop hp sa)
      have HK := hide (dp_cnt M sa)
      have HMv := hide (fun W2 v2 (n2 : Np W2 w.heap.size w.heap.size v2 (dpN M sa)) (m2 : Mv w1 W2 w.heap.size v v2) => HM1.out.moved hp n2 m2 HK.out.1 HK.out.2.1 HK.out.2.2)
      generalize dpN M sa = M' at *
      generalize plE M sa = er at *
      clear HK hp HM1 HQ1
      go_upto_region 28 with (go_at_call 15; refine HA.out.mono ?_; rintro e w3 ⟨v3, rfl, hn3, hm3⟩; have HH := hide (HMv.out _ _ hn3 hm3); clear hn3 hm3)
      clear HA HMv
      obtain ⟨v7, hnp⟩ := HH.out.p
      have hok7 := hnp.o.ok
      have hsum := hok7.sum
      have hlen7 := hok7.len
      have hb77 := (HH.out.bound (by omega)).2
      have hd1 : ((M'.s : Int) - (M'.d : Int)) = ((M'.s - M'.d : Nat) : Int) := by omega
      have hd2 : (((M'.s - M'.d : Nat) : Int) - (M'.c : Int)) = (M'.l.length : Int) := by omega
      have hd3 : (0 : Int) <= (M'.s : Int) := by omega
      clear hok7
      go_wp2_with (first
       | (go_at_call 13; refine (HCo.out _ _ _ hnp (by omega)).mono ?_; rintro e w7 ⟨rfl, hb7⟩; have HH7 := hide (HH.out.below hb7); have hpe := HPe.out _ _ _ (hnp.below hb7))
       | (go_at_call 18; refine hpe.mono ?_; rintro e w8 ⟨v8, ls, rfl, hq8, he8, hb8⟩; have HH8 := hide (HH7.out.below hb8); obtain ⟨a8, k8, hv8, _⟩ := own_spellO hq8.row; rw [List.length_map, show ls.length = M'.l.length by rw [<- he8, List.length_map]] at hv8; subst hv8))
      go_roundw
      case rel => exact ⟨k + 1, _, _, _, _, by omega, by go_num, rfl, HH8⟩
      case measure => simp [intOf]; omega
    by_cases q3 : sc = 3
    · subst q3
      have HA := hide (gDouble hp HM1.out.sz hNs sa)
      have HK := hide (db_cnt M sa)
      have HMv := hide (fun W2 v2 (n2 : Np W2 w.heap.size w.heap.size v2 (dbN M sa)) (m2 : Mv w1 W2 w.heap.size v v2) => HM1.out.moved hp n2 m2 HK.out.1 HK.out.2.1 HK.out.2.2)
      generalize dbN M sa = M' at *
      generalize dbE M sa = er at *
      clear HK hp HM1 HQ1
      go_upto_region 28 with (go_at_call 16; refine HA.out.mono ?_; rintro e w3 ⟨v3, rfl, hn3, hm3⟩; have HH := hide (HMv.out _ _ hn3 hm3); clear hn3 hm3)
      clear HA HMv
      obtain ⟨v7, hnp⟩ := HH.out.p
      have hok7 := hnp.o.ok
      have hsum := hok7.sum
      have hlen7 := hok7.len
      have hb77 := (HH.out.bound (by omega)).2
      have hd1 : ((M'.s : Int) - (M'.d : Int)) = ((M'.s - M'.d : Nat) : Int) := by omega
      have hd2 : (((M'.s - M'.d : Nat) : Int) - (M'.c : Int)) = (M'.l.length : Int) := by omega
      have hd3 : (0 : Int) <= (M'.s : Int) := by omega
      clear hok7
      go_wp2_with (first
       | (go_at_call 13; refine (HCo.out _ _ _ hnp (by omega)).mono ?_; rintro e w7 ⟨rfl, hb7⟩; have HH7 := hide (HH.out.below hb7); have hpe := HPe.out _ _ _ (hnp.below hb7))
       | (go_at_call 18; refine hpe.mono ?_; rintro e w8 ⟨v8, ls, rfl, hq8, he8, hb8⟩; have HH8 := hide (HH7.out.below hb8); obtain ⟨a8, k8, hv8, _⟩ := own_spellO hq8.row; rw [List.length_map, show ls.length = M'.l.length by rw [<- he8, List.length_map]] at hv8; subst hv8))
      go_roundw
      case rel => exact ⟨k + 1, _, _, _, _, by omega, by go_num, rfl, HH8⟩
      case measure => simp [intOf]; omega
    by_cases q4 : sc = 4
    · subst q4
      have HA := hide (gMove hp sa sb)
      have HK := hide (mv_cnt M sa sb)
      have HMv := hide (fun W2 v2 (n2 : Np W2 w.heap.size w.heap.size v2 (mvN M sa sb)) (m2 : Mv w1 W2 w.heap.size v v2) => HM1.out.moved hp n2 m2 HK.out.1 HK.out.2.1 HK.out.2.2)
      generalize mvN M sa sb = M' at *
      generalize mvE M sa sb = er at *
      clear HK hp HM1 HQ1
      go_upto_region 28 with (go_at_call 17; refine HA.out.mono ?_; rintro e w3 ⟨v3, rfl, hn3, hm3⟩; have HH := hide (HMv.out _ _ hn3 hm3); clear hn3 hm3)
      clear HA HMv
      obtain ⟨v7, hnp⟩ := HH.out.p
      have hok7 := hnp.o.ok
      have hsum := hok7.sum
      have hlen7 := hok7.len
      have hb77 := (HH.out.bound (by omega)).2
      have hd1 : ((M'.s : Int) - (M'.d : Int)) = ((M'.s - M'.d : Nat) : Int) := by omega
      have hd2 : (((M'.s - M'.d : Nat) : Int) - (M'.c : Int)) = (M'.l.length : Int) := by omega
      have hd3 : (0 : Int) <= (M'.s : Int) := by omega
      clear hok7
      go_wp2_with (first
       | (go_at_call 13; refine (HCo.out _ _ _ hnp (by omega)).mono ?_; rintro e w7 ⟨rfl, hb7⟩; have HH7 := hide (HH.out.below hb7); have hpe := HPe.out _ _ _ (hnp.below hb7))
       | (go_at_call 18; refine hpe.mono ?_; rintro e w8 ⟨v8, ls, rfl, hq8, he8, hb8⟩; have HH8 := hide (HH7.out.below hb8); obtain ⟨a8, k8, hv8, _⟩ := own_spellO hq8.row; rw [List.length_map, show ls.length = M'.l.length by rw [<- he8, List.length_map]] at hv8; subst hv8))
      go_roundw
      case rel => exact ⟨k + 1, _, _, _, _, by omega, by go_num, rfl, HH8⟩
      case measure => simp [intOf]; omega
    have HH := hide (HM1.out.next)
    have n0 : (sc == 0) = false := beq_eq_false_iff_ne.2 q0
    have n1 : (sc == 1) = false := beq_eq_false_iff_ne.2 q1
    have n2 : (sc == 2) = false := beq_eq_false_iff_ne.2 q2
    have n3 : (sc == 3) = false := beq_eq_false_iff_ne.2 q3
    have n4 : (sc == 4) = false := beq_eq_false_iff_ne.2 q4
    clear HM1 hp HQ1
    generalize hMM : M = M' at *
    · go_upto_region 28 with fail
      obtain ⟨v7, hnp⟩ := HH.out.p
      have hok7 := hnp.o.ok
      have hsum := hok7.sum
      have hlen7 := hok7.len
      have hb77 := (HH.out.bound (by omega)).2
      have hd1 : ((M'.s : Int) - (M'.d : Int)) = ((M'.s - M'.d : Nat) : Int) := by omega
      have hd2 : (((M'.s - M'.d : Nat) : Int) - (M'.c : Int)) = (M'.l.length : Int) := by omega
      have hd3 : (0 : Int) <= (M'.s : Int) := by omega
      clear hok7
      go_wp2_with (first
       | (go_at_call 13; refine (HCo.out _ _ _ hnp (by omega)).mono ?_; rintro e w7 ⟨rfl, hb7⟩; have HH7 := hide (HH.out.below hb7); have hpe := HPe.out _ _ _ (hnp.below hb7))
       | (go_at_call 18; refine hpe.mono ?_; rintro e w8 ⟨v8, ls, rfl, hq8, he8, hb8⟩; have HH8 := hide (HH7.out.below hb8); obtain ⟨a8, k8, hv8, _⟩ := own_spellO hq8.row; rw [List.length_map, show ls.length = M'.l.length by rw [<- he8, List.length_map]] at hv8; subst hv8))
      go_roundw
      case rel => exact ⟨k + 1, _, _, _, _, by omega, by go_num, rfl, HH8⟩
      case measure => simp [intOf]; omega
  · obtain rfl : k = ss.length := by omega
    go_wp2_with (go_at_call 11; refine (ga.out _).mono ?_; rintro e w5 ⟨rfl, hb5⟩; have hB5 := HM.out.low.trans (hb5.mono HM.out.sz))
    go_ret
    exact ⟨by simp, hB5⟩
end Go.Proofs.Ytcglbbglapomgaa
