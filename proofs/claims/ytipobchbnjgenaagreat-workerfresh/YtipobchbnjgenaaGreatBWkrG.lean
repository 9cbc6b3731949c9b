import Derived.Test.YtipobchbnjgenaaGreatBWkrE
import Derived.Test.YtipobchbnjgenaaGreatBLocH
set_option linter.unusedVariables false
set_option linter.unusedSimpArgs false
set_option maxRecDepth 100000
set_option maxHeartbeats 4000000
namespace Go.Proofs.YtipobchbnjgenaaGreat
open Go.RowKit Go.Maps Fld Slp Pln
structure Wf (p : Pn) (q : Pr) (id : Int) : Prop where
 ok : Ok8p p
 inb : -9223372036854775808 <= q.inp ∧ q.inp <= 9223372036854775807
 okb : ∀ o ∈ q.ops, Ok4 o
 oub : Iw q.outs
 lo : q.ops.length <= 100000
 lu : q.outs.length <= 100000
 may : mkB p q id = true
section
variable {w : World} {base kb mb g : Nat} {vo vu : Value} {p : Pn} {q : Pr} {id : Int} {st : Wk}
theorem Wp.pm (h : Wp w base kb mb g vo vu p q id st) (hf : Wf p q id) : Pm w (.agg #[.int .i64 q.inp, vo, vu]) q :=
 ⟨⟨vo, vu, rfl, lm_of_own opw_len (by decide) h.ops (by have := hf.lo; omega), lm_of_own iw_len (by decide) h.outs (by have := hf.lu; omega)⟩, hf.inb, hf.okb, hf.oub⟩
def Pq24 (V : World) (kb : Nat) (p : Pn) (n : Int) (vo vu : Value) : Prop := (V.cell? ⟨kb, 0, none⟩ = some (.int .u8 p.f) ∧ V.cell? ⟨kb, 1, none⟩ = some (.int .i64 p.n) ∧ V.cell? ⟨kb, 2, none⟩ = some (.int .i64 p.k) ∧ V.cell? ⟨kb, 3, none⟩ = some (.int .i64 p.t) ∧ V.cell? ⟨kb, 4, none⟩ = some (.int .i64 p.s) ∧ V.cell? ⟨kb, 5, none⟩ = some (.int .i64 p.e) ∧ V.cell? ⟨kb, 6, none⟩ = some (.int .i64 p.d) ∧ V.cell? ⟨kb, 7, none⟩ = some (.int .i64 p.w)) ∧ V.cell? ⟨kb, 8, none⟩ = some (.int .i64 n) ∧ V.cell? ⟨kb, 9, none⟩ = some vo ∧ V.cell? ⟨kb, 10, none⟩ = some vu
theorem Wp.pq (h : Wp w base kb mb g vo vu p q id st) : Pq24 w kb p q.inp vo vu := by
 have h' := h.blk
 exact ⟨⟨cell_at h' rfl, cell_at h' rfl, cell_at h' rfl, cell_at h' rfl, cell_at h' rfl, cell_at h' rfl, cell_at h' rfl, cell_at h' rfl⟩, cell_at h' rfl, cell_at h' rfl, cell_at h' rfl⟩
theorem Pq24.set {V : World} {n : Int} (h : Pq24 V kb p n vo vu) {b : Nat} (hb : kb ≠ b) (k : Nat) (u : Value) : Pq24 (V.setCell ⟨b, k, none⟩ u) kb p n vo vu := by
 have e : ∀ i x, V.cell? ⟨kb, i, none⟩ = some x -> (V.setCell ⟨b, k, none⟩ u).cell? ⟨kb, i, none⟩ = some x := fun i x hx => (World.cell?_of_block (a := ⟨kb, i, none⟩) (Below.heap_setCell V ⟨b, k, none⟩ u kb hb)).trans hx
 obtain ⟨⟨c0, c1, c2, c3, c4, c5, c6, c7⟩, d0, d1, d2⟩ := h
 exact ⟨⟨e _ _ c0, e _ _ c1, e _ _ c2, e _ _ c3, e _ _ c4, e _ _ c5, e _ _ c6, e _ _ c7⟩, e _ _ d0, e _ _ d1, e _ _ d2⟩
theorem load_pln24 {V : World} {n : Int} (h : Pq24 V kb p n vo vu) : (loadVar 24 ⟨kb, 0, none⟩).run Tryz.prog V = .ok (.agg #[.int .u8 p.f, .int .i64 p.n, .int .i64 p.k, .int .i64 p.t, .int .i64 p.s, .int .i64 p.e, .int .i64 p.d, .int .i64 p.w]) V := by
 obtain ⟨⟨c0, c1, c2, c3, c4, c5, c6, c7⟩, _⟩ := h
 simp [go_sem, c0, c1, c2, c3, c4, c5, c6, c7]
theorem load_prg24 {V : World} {n : Int} (h : Pq24 V kb p n vo vu) : (loadVar 28 ⟨kb, 8, none⟩).run Tryz.prog V = .ok (.agg #[.int .i64 n, vo, vu]) V := by
 obtain ⟨_, d0, d1, d2⟩ := h
 simp [go_sem, d0, d1, d2]
theorem gAnswer (h : Wp w base kb mb g vo vu p q id st) (hf : Wf p q id) (m : Mg) (s : Value) (hm : Mw w m s) (hs : ∃ ao cap, s = .slice ao m.l.length cap ∧ m.l.length <= cap) : GivesB 51 #[.pointer (some ⟨kb, 0, none⟩), mgv m s] w (mwE ⟨2, m.r, m.v, m.f, rpL p q m.l⟩) (mwL sum8 ⟨2, m.r, m.v, m.f, rpL p q m.l⟩) := by
 unfold GivesB
 obtain ⟨as', sc, rfl, hcap⟩ := hs
 have HRow := hide (show Rw w (.slice as' m.l.length sc) m.l from ⟨hm.row, _, _, _, rfl, hcap⟩)
 obtain ⟨hM, hA⟩ := mb_box (w := w) m (.slice as' m.l.length sc)
 obtain ⟨W, HW⟩ : ∃ W, Hid (w.alloc (.cells #[.int .u8 m.k, .int .i64 m.r, .int .i64 m.v, .int .u8 m.f, .slice as' m.l.length sc] 74) = W) := ⟨_, rfl⟩
 rw [HW.out] at hM hA
 have c0 := hM.cells.1
 have f0 := hM.free
 have hB0 := hA.setCell (p := ⟨w.heap.size, 0, none⟩) (Nat.le_refl _) (.int .u8 2)
 have hM2 := hM.set (n := { m with k := 2 }) (t := .slice as' m.l.length sc) 0 (.int .u8 2) rfl
 have hz2 : w.heap.size < (W.setCell ⟨w.heap.size, 0, none⟩ (.int .u8 2)).heap.size := hM2.lt
 obtain ⟨W2, HW2⟩ : ∃ W2, Hid (W.setCell ⟨w.heap.size, 0, none⟩ (.int .u8 2) = W2) := ⟨_, rfl⟩
 rw [HW2.out] at hB0 hM2 hz2
 have h2 := h.below hB0
 have HB0 := hide hB0
 have HR := hide (gReply p q _ _ m.l W2.drew hf.ok ((h2.pm hf).below (Below.refl W2.heap.size W2).drew) (HRow.out.below (hB0.drew)))
 unfold Gives at HR
 have HRw := hide (rp_wd p q HRow.out.words)
 have HMd := hide hm.wd
 have HWr := hide (fun V s2 (hr : Row V s2 (rpL p q m.l)) => gWrite ⟨2, m.r, m.v, m.f, rpL p q m.l⟩ s2 V ⟨⟨⟨(by decide : (0 : Int) <= 2), (by decide : (2 : Int) <= 255)⟩, HMd.out.r, HMd.out.v, HMd.out.f⟩, hr⟩)
 unfold GivesB at HWr
 obtain ⟨c20, c21, c22, c23, c24⟩ := hM2.cells
 have hpq := h2.pq
 have HM2 := hide (show Mb W2.drew w.heap.size { m with k := 2 } (.slice as' m.l.length sc) from hM2)
 have hkb : kb < w.heap.size := h.lt
 have HPq := hide (fun V (hb : Below W2.drew.heap.size W2.drew V) => (h2.below ((Below.refl W2.heap.size W2).drew.trans hb)).pq)
 have HPq5 := hide (fun V (hb : Below W2.drew.heap.size W2.drew V) u => (h2.below (((Below.refl W2.heap.size W2).drew.trans hb))).pq.set (b := w.heap.size) (by omega) 4 u)
 obtain ⟨vo1, vu1, e, ho, hu⟩ := (h2.pm hf).form
 injection e with e
 injection e with e
 injection e with _ e
 injection e with e1 e
 injection e with e2 _
 subst e1 e2
 obtain ⟨ao, ca, hvo, _⟩ := ho.spell
 obtain ⟨au, cu, hvu, _⟩ := hu.spell
 subst hvo hvu
 rw [plan_eq] at HR
 clear ho hu h hm h2 hA hB0 hM hM2 hcap
 generalize rpE p q m.l = er at *
 generalize mwE ⟨2, m.r, m.v, m.f, rpL p q m.l⟩ = ew at *
 generalize mwL sum8 ⟨2, m.r, m.v, m.f, rpL p q m.l⟩ = zs at *
 have HX3 := hide (fun (V : World) (hV : Pq24 V kb p q.inp (.slice ao q.ops.length ca) (.slice au q.outs.length cu)) => load_pln24 hV)
 have HX7 := hide (fun (V : World) (hV : Pq24 V kb p q.inp (.slice ao q.ops.length ca) (.slice au q.outs.length cu)) => load_prg24 hV)
 have hS0 : Pq24 W2.drew kb p q.inp (.slice ao q.ops.length ca) (.slice au q.outs.length cu) := hpq
 unfold mgv mgc
 go_enter Tryz.func51, Tryz.ntmps51
 go_upto_region 1 with fail
 rw [HW.out]
 go_upto_region 2 with fail
 rw [HW2.out]
 clear c0 f0
 refine wp_region_held_drew (S := (fun V => Pq24 V kb p q.inp (.slice ao q.ops.length ca) (.slice au q.outs.length cu))) (by kernel_rfl) (by ((try dsimp only) <;> (first | with_reducible exact hS0 | with_reducible exact hS3 | with_reducible exact hS5))) (fun hHeld => ?_)
 refine tkY 0 ?_
 refine tkY 1 ?_
 refine tkY 2 ?_
 refine tkY 3 ?_ (hy := by (intro w hSw; (try dsimp only at hSw); simp [execOp, Instr.loadAt, Instr.sureAddr, Act.eval, HX3.out _ hSw]; with_reducible rfl))
 refine tkY 4 ?_
 refine tkY 5 ?_
 refine tkY 6 ?_
 refine tkY 7 ?_ (hy := by (intro w hSw; (try dsimp only at hSw); simp [execOp, Instr.loadAt, Instr.sureAddr, Act.eval, HX7.out _ hSw]; with_reducible rfl))
 refine tkY 8 ?_
 refine rd1 9 (fun K hK => ?_)
 (try simp only [ly0, ly1, ly2, ly3, ly4, ly5, ly6, ly7])
 go_simp
 refine hK.out _ _ (by ((try dsimp only) <;> (first | with_reducible exact hS0 | with_reducible exact hS3 | with_reducible exact hS5))) (fun hHeld => ?_)
 clear hK K
 (try simp only [ly0, ly1, ly2, ly3, ly4, ly5, ly6, ly7])
 refine rd1 10 (fun K hK => ?_)
 (try simp only [ly0, ly1, ly2, ly3, ly4, ly5, ly6, ly7])
 go_simp
 (go_at_call 82; refine HR.out.mono ?_; rintro e w3 ⟨v3, rfl, ho3, hb3⟩; have hS3 := HPq.out w3 hb3; have hm3 := HM2.out.below hb3; have c34 := hm3.cells.2.2.2.2; have f34 := hm3.free 4; obtain ⟨a3, k3, rfl⟩ := own_form ho3; have hS5 := HPq5.out w3 hb3 (.slice a3 (rpL p q m.l).length k3))
 first | refine hK.out _ _ ?k11 (fun hHeld => ?_) | (go_wp2_with fail; refine hK.out _ _ ?k11 (fun hHeld => ?_))
 case k11 => ((try dsimp only) <;> (first | with_reducible exact hS0 | with_reducible exact hS3 | with_reducible exact hS5))
 clear hK K
 (try simp only [ly0, ly1, ly2, ly3, ly4, ly5, ly6, ly7])
 refine tkY 11 ?_
 refine tkY 12 ?_
 refine tkY 13 ?_
 refine tkY 14 ?_
 refine rd1 15 (fun K hK => ?_)
 (try simp only [ly0, ly1, ly2, ly3, ly4, ly5, ly6, ly7])
 go_simp
 refine hK.out _ _ (by ((try dsimp only) <;> (first | with_reducible exact hS0 | with_reducible exact hS3 | with_reducible exact hS5))) (fun hHeld => ?_)
 clear hK K
 (try simp only [ly0, ly1, ly2, ly3, ly4, ly5, ly6, ly7])
 refine wpAnyH_done (by kernel_rfl) ?_ _
 have hm6 := hm3.set (n := ⟨2, m.r, m.v, m.f, rpL p q m.l⟩) (t := .slice a3 (rpL p q m.l).length k3) 4 (.slice a3 (rpL p q m.l).length k3) rfl
 have hlt3 : w.heap.size < W2.drew.heap.size := hz2
 have ho6 := rg_own ho3 hlt3 4 (.slice a3 (rpL p q m.l).length k3)
 have hB3 : Below w.heap.size w w3 := HB0.out.drew.trans (hb3.mono HB0.out.drew.size)
 have hB6 := hB3.setCell (p := ⟨w.heap.size, 4, none⟩) (Nat.le_refl _) (.slice a3 (rpL p q m.l).length k3)
 generalize w3.setCell ⟨w.heap.size, 4, none⟩ (.slice a3 (rpL p q m.l).length k3) = W6 at *
 have HW6 := hide (HWr.out W6 _ (HRw.out.row ho6).1)
 obtain ⟨e0, e1, e2, e3, e4⟩ := hm6.cells
 dsimp only at e0 e1 e2 e3 e4
 clear hm6 ho6 hm3 c34 f34 hS3 hS5 hS0 ho3 hb3 c20 c21 c22 c23 c24 hpq hlt3 hB3
 unfold mgv mgc at HW6
 dsimp only at HW6
 generalize (rpL p q m.l).length = n7 at *
 go_wp2_with (go_at_call 83; refine HW6.out.mono ?_; rintro e w7 ⟨v7, rfl, ho7, hb7⟩)
 go_ret2
 exact ⟨_, rfl, own_mono ho7 hB6.size, Below.next hB6 hb7⟩
theorem stE_on {b : List Int} {D : Dsk} {f wd : Int} (hs : shB sum8 f wd id b = true) (hx : st.x = false) : onE sum8 f wd id st D b = stE st.L D (mrM sum8 b).r (mrM sum8 b).l b ∧ onN sum8 f wd id st D b = stN st.L D (mrM sum8 b).r b ∧ onW sum8 f wd id st D b = stW st D (mrM sum8 b).r (mrM sum8 b).l b := by
 unfold onE onN onW newB stE stN stW shW hdL
 rw [hs, hx]
 cases hf : fndW st.L (mrM sum8 b).r with
 | none =>
  have e : putW sum8 f wd id st.L b = st.L ++ [((mrM sum8 b).r, (mrM sum8 b).l)] := by unfold putW; rw [if_pos ⟨hs, hf⟩]
  rw [e]
  simp
 | some v => simp
theorem gOn {v : Value} {D : Dsk} (h : Wp w base kb mb g vo vu p q id st) (hd : Hd w base g v D) (hf : Wf p q id) (hst : Wst st.L) (hb : base <= w.heap.size) (hnn : D.n + 100000 < 4611686018427387904) {u : Value} {b : List Int} (hu : Rb w u b) :
 Calls Tryz.prog 11 #[.pointer (some ⟨kb, 0, none⟩), u] w fun e w' => ∃ v' u', e = .returned (.tuple #[u', .int .i64 (onE sum8 p.f p.w id st D b)]) ∧ Wp w' base kb mb g vo vu p q id (onW sum8 p.f p.w id st D b) ∧ Hd w' base g v' (onN sum8 p.f p.w id st D b) ∧ w'.ownsRow w.heap.size 5 1 u' (onL sum8 p.f p.w id (rpL p q) st D b).length (valb (onL sum8 p.f p.w id (rpL p q) st D b)) ∧ Ev w w' kb mb g v v' := by
 have HM := hide (gMade h)
 have HS := hide (gShareIn h hu)
 obtain ⟨_, _, _, k14⟩ := h.cells
 have HH := hide h
 have HD := hide hd
 obtain ⟨ua, uc, hue, _⟩ := hu.spell
 cases hx : st.x with
 | true =>
  have e1 : onE sum8 p.f p.w id st D b = 240 := by unfold onE; rw [if_pos hx]
  have hnb : newB sum8 p.f p.w id st b = false := by unfold newB; rw [hx]; rfl
  have e2 : onN sum8 p.f p.w id st D b = D := by unfold onN; rw [hnb]; rfl
  have e3 : onW sum8 p.f p.w id st D b = st := by unfold onW; rw [hnb]; rfl
  have e4 : onL sum8 p.f p.w id (rpL p q) st D b = [] := by unfold onL; rw [e1]; rfl
  rw [e1, e2, e3, e4]
  rw [hx] at k14
  subst hue
  clear e1 e2 e3 e4 hnb hx HS h hd hu
  go_enter Tryz.func11, Tryz.ntmps11
  go_wp2_with (go_at_call 49; refine HM.out.mono ?_; rintro e w1 ⟨rfl, hw1⟩; rw [hw1]; clear hw1)
  go_ret2
  exact ⟨v, _, rfl, HH.out, HD.out, World.ownsRow_nil _ _ _ _, Ev.refl _ _ _ _ _⟩
 | false =>
  rw [hx] at k14
  cases hs : shB sum8 p.f p.w id b with
  | false =>
   have e1 : onE sum8 p.f p.w id st D b = 8 := by unfold onE; rw [hx, hs]; rfl
   have hnb : newB sum8 p.f p.w id st b = false := by unfold newB; rw [hx, hs]; rfl
   have e2 : onN sum8 p.f p.w id st D b = D := by unfold onN; rw [hnb]; rfl
   have e3 : onW sum8 p.f p.w id st D b = st := by unfold onW; rw [hnb]; rfl
   have e4 : onL sum8 p.f p.w id (rpL p q) st D b = [] := by unfold onL; rw [e1]; rfl
   rw [e1, e2, e3, e4]
   rw [hs] at HS
   subst hue
   clear e1 e2 e3 e4 hnb hx hs h hd hu
   generalize mrM sum8 b = m at *
   generalize b.length = nb at *
   go_enter Tryz.func11, Tryz.ntmps11
   go_wp2_with (first
    | (go_at_call 49; refine HM.out.mono ?_; rintro e w1 ⟨rfl, hw1⟩; rw [hw1]; clear hw1)
    | (go_at_call 44; refine HS.out.mono ?_; rintro e w2 ⟨s2, rfl, ho2, hb2⟩; obtain ⟨a2, k2, rfl⟩ := own_form ho2; unfold mgv mgc))
   have hB := Below.next hb2 (alloc_below w2 (.cells #[.int .u8 m.k, .int .i64 m.r, .int .i64 m.v, .int .u8 m.f, .slice a2 m.l.length k2] 74))
   go_ret2
   exact ⟨v, _, rfl, HH.out.below hB, HD.out.below hB, World.ownsRow_nil _ _ _ _, Ev.of_below _ _ _ _ hB⟩
  | true =>
   obtain ⟨E1, E2, E3⟩ := stE_on (D := D) hs hx
   have e4 : onL sum8 p.f p.w id (rpL p q) st D b = if stE st.L D (mrM sum8 b).r (mrM sum8 b).l b = 0 then mwL sum8 (onM sum8 p.f id (rpL p q) b) else [] := by unfold onL; rw [E1]
   obtain ⟨f1, f2, f3, f4, f5⟩ := shB_facts hs
   have hy := hu.by
   obtain ⟨⟨r0, r1⟩, _⟩ := sh_facts hy hs
   obtain ⟨_, hmg, _⟩ := on_may hf.may w hy hs
   have hmE : mwE (onM sum8 p.f id (rpL p q) b) = 0 := if_pos hmg
   have eM : onM sum8 p.f id (rpL p q) b = ⟨2, (mrM sum8 b).r, (mrM sum8 b).v, (mrM sum8 b).f, rpL p q (mrM sum8 b).l⟩ := by unfold onM; rw [f3, f4]
   rw [E1, E2, E3, e4]
   rw [hs] at HS
   have hwd := mr_words w hy
   have hlen := hst.len
   have hmw := fun (V : World) (B : Nat) (x : Value) (ho : V.ownsRow B 83 1 x (mrM sum8 b).l.length (vals (mrM sum8 b).l)) => mrM_own hy ho
   clear E1 E2 E3 e4 f1 f2 f3 f4 f5 hmg hs
   rw [eM] at hmE ⊢
   clear eM
   generalize mrM sum8 b = m at *
   have HSt := hide (fun w2 s2 (hb2 : Below w.heap.size w w2) (ho2 : w2.ownsRow w.heap.size 83 1 s2 m.l.length (vals m.l)) => by
    have hA := alloc_below w2 (.cells #[.int .u8 m.k, .int .i64 m.r, .int .i64 m.v, .int .u8 m.f, s2] 74)
    have hB := Below.next hb2 hA
    exact gSettle (h.below hB) (hd.below hB) (Nat.le_trans hb hB.size) hnn m s2 ⟨by omega, by omega⟩ (own_mono (own_below ho2 hA) hb) hwd (hst.sh m.r) (by unfold maxLen; omega) (hu.below hB))
   have HAn := hide (fun w2 s2 (hb2 : Below w.heap.size w w2) (ho2 : w2.ownsRow w.heap.size 83 1 s2 m.l.length (vals m.l)) w4 v4 st4 (hw4 : Wp w4 base kb mb g vo vu p q id st4) (hE : Ev (w2.alloc (.cells #[.int .u8 m.k, .int .i64 m.r, .int .i64 m.v, .int .u8 m.f, s2] 74)) w4 kb mb g v v4) => by
    have hA := alloc_below w2 (.cells #[.int .u8 m.k, .int .i64 m.r, .int .i64 m.v, .int .u8 m.f, s2] 74)
    have hz : (w2.alloc (.cells #[.int .u8 m.k, .int .i64 m.r, .int .i64 m.v, .int .u8 m.f, s2] 74)).heap.size = w2.heap.size + 1 := by simp
    have hnew := mb_new w2 m s2
    have l1 := h.lt
    have l2 := h.map.lt
    have l3 := hd.lt
    have l4 := hd.own_lt
    have l5 := hb2.size
    have hm4 : Mb w4 w2.heap.size m s2 := (hE.kq.block w2.heap.size ⟨⟨by omega, by omega, fun e => by have := (l4 _ e).2; omega⟩, by omega, by omega⟩).trans hnew
    have ho3 := own_below ho2 hA
    have ho4 : w4.ownsRow w.heap.size 83 1 s2 m.l.length (vals m.l) := hE.kq.own ho3 (fun j hj => by
     obtain ⟨q1, q2⟩ := ho3.lt j hj
     exact ⟨⟨q2, by omega, fun e => by have := (l4 _ e).2; omega⟩, by omega, by omega⟩)
    have hgo := gAnswer hw4 hf m s2 (hmw w4 _ _ ho4) (by obtain ⟨ao, cap, e, hc, _⟩ := own_spellO ho4; exact ⟨ao, cap, e, hc⟩)
    unfold GivesB at hgo
    rw [hmE] at hgo
    exact (⟨hm4, hgo⟩ : Mb w4 w2.heap.size m s2 ∧ _))
   subst hue
   clear hst hwd hlen hmw hb hnn hy h hd hf hu hmE r0 r1 hx
   generalize hEr : stE st.L D m.r m.l b = er at *
   generalize stN st.L D m.r b = E at *
   generalize stW st D m.r m.l b = st4 at *
   generalize mwL sum8 ⟨2, m.r, m.v, m.f, rpL p q m.l⟩ = zs at *
   generalize b.length = nb at *
   clear hEr
   have HRe := hide (fun w2 (hb2 : Below w.heap.size w w2) s2 w4 v4 (hE : Ev (w2.alloc (.cells #[.int .u8 m.k, .int .i64 m.r, .int .i64 m.v, .int .u8 m.f, s2] 74)) w4 kb mb g v v4) => Ev.after (Below.next hb2 (alloc_below w2 (.cells #[.int .u8 m.k, .int .i64 m.r, .int .i64 m.v, .int .u8 m.f, s2] 74))) hE)
   by_cases he : er = 0
   · subst he
     rw [if_pos rfl]
     go_enter Tryz.func11, Tryz.ntmps11
     go_wp2_with (first
      | (go_at_call 49; refine HM.out.mono ?_; rintro e w1 ⟨rfl, hw1⟩; rw [hw1]; clear hw1)
      | (go_at_call 44; refine HS.out.mono ?_; rintro e w2 ⟨s2, rfl, ho2, hb2⟩; obtain ⟨a2, k2, rfl⟩ := own_form ho2; have HSt2 := hide (HSt.out w2 _ hb2 ho2); have HAn2 := hide (HAn.out w2 _ hb2 ho2); have HRe2 := hide (HRe.out w2 hb2 (.slice a2 m.l.length k2)); unfold mgv mgc at HSt2 HAn2 ⊢)
      | (go_at_call 50; refine HSt2.out.mono ?_; rintro e w4 ⟨v4, rfl, hw4, hd4, hE4⟩; obtain ⟨hm4, HA4⟩ := HAn2.out w4 v4 _ hw4 hE4; have HA4 := hide HA4; obtain ⟨c0, c1, c2, c3, c4⟩ := hm4.cells)
      | (go_at_call 51; refine HA4.out.mono ?_; rintro e w5 ⟨u5, rfl, ho5, hb5⟩))
     go_ret2
     exact ⟨v4, u5, rfl, hw4.below hb5, hd4.below hb5, own_mono ho5 (HRe2.out _ _ hE4).kq.size, (HRe2.out _ _ hE4).next hb5⟩
   · rw [if_neg he]
     have q0 : (er != 0) = true := bne_iff_ne.2 he
     go_enter Tryz.func11, Tryz.ntmps11
     go_wp2_with (first
      | (go_at_call 49; refine HM.out.mono ?_; rintro e w1 ⟨rfl, hw1⟩; rw [hw1]; clear hw1)
      | (go_at_call 44; refine HS.out.mono ?_; rintro e w2 ⟨s2, rfl, ho2, hb2⟩; obtain ⟨a2, k2, rfl⟩ := own_form ho2; have HSt2 := hide (HSt.out w2 _ hb2 ho2); have HRe2 := hide (HRe.out w2 hb2 (.slice a2 m.l.length k2)); unfold mgv mgc at HSt2 ⊢)
      | (go_at_call 50; refine HSt2.out.mono ?_; rintro e w4 ⟨v4, rfl, hw4, hd4, hE4⟩))
     go_ret2
     exact ⟨v4, _, rfl, hw4, hd4, World.ownsRow_nil _ _ _ _, HRe2.out _ _ hE4⟩
end
end Go.Proofs.YtipobchbnjgenaaGreat
namespace Go.Proofs.YtipobchbnjgenaaGreat
open Go.RowKit Fld
theorem rdD_jrA {D : Dsk} (h : DskOk D) : rdD sum8 D = jrA (jn32 D.l) := by
 rw [jn32_all h.blk]
 have hl := flat_len32 h.blk
 unfold rdD jrA
 exact jr_fuel _ _ _ (by omega) (by omega)
theorem Rl.mv {w w' : World} {base lo g : Nat} {v v' u : Value} {D : Dsk} {es : List Be} (h : Rl w lo u es) (hd : Hd w base g v D) (m : Mv w w' g v v') : Rl w' lo u es :=
 ⟨hd.apart_row m h.row (by decide) (by decide), fun e he => hd.apart_row m (h.each e he) (by decide) (by decide), h.by_⟩
theorem op23 (D : Dsk) : (¬ jrW (rdD sum8 D) < D.l.length ∧ opE23 sum8 D = 0 ∧ opN23 sum8 D = D ∧ opR23 sum8 D = rdD sum8 D) ∨
 (jrW (rdD sum8 D) < D.l.length ∧ opE23 sum8 D = tmE D (jrW (rdD sum8 D) : Int) ∧ opN23 sum8 D = tmN D (jrW (rdD sum8 D) : Int) ∧ (tmE D (jrW (rdD sum8 D) : Int) = 0 ∧ opR23 sum8 D = rdD sum8 D ∨ tmE D (jrW (rdD sum8 D) : Int) ≠ 0 ∧ opR23 sum8 D = [])) := by
 unfold opR23 opN23
 by_cases h : jrW (rdD sum8 D) < D.l.length
 · have e : opE23 sum8 D = tmE D (jrW (rdD sum8 D) : Int) := by unfold opE23; rw [if_pos h]
   rw [e, if_pos h]
   refine .inr ⟨h, rfl, rfl, ?_⟩
   by_cases h2 : tmE D (jrW (rdD sum8 D) : Int) = 0
   · exact .inl ⟨h2, by rw [if_pos h2]⟩
   · exact .inr ⟨h2, by rw [if_neg h2]⟩
 · have e : opE23 sum8 D = 0 := by unfold opE23; rw [if_neg h]
   rw [e, if_neg h]
   exact .inl ⟨h, rfl, rfl, by rw [if_pos rfl]⟩
theorem gJopen_nil (w : World) : Calls Tryz.prog 41 #[.pointer none] w fun e w' => e = .returned (.tuple #[.slice none 0 0, .int .i64 1]) ∧ w' = w := by
 have H := hide (fun W => gThere_no W)
 go_enter Tryz.func41, Tryz.ntmps41
 go_wp2_with (go_at_call 74; refine (H.out _).mono ?_; rintro e w1 ⟨rfl, rfl⟩)
 go_ret2
 exact ⟨rfl, rfl⟩
theorem gJopen {w : World} {base g : Nat} {v : Value} {D : Dsk} (h : Hd w base g v D) (hb : base <= w.heap.size) (hn : D.n < 4611686018427387904) :
 Calls Tryz.prog 41 #[.pointer (some ⟨g, 0, none⟩)] w fun e w' => ∃ v' lv es, e = .returned (.tuple #[lv, .int .i64 (opE23 sum8 D)]) ∧ Hd w' base g v' (opN23 sum8 D) ∧ Mv w w' g v v' ∧ Rl w' w.heap.size lv es ∧ es.map (·.1) = opR23 sum8 D := by
 have H := hide (gThere h)
 have HB := hide (gBlocks22 h)
 have hlen := h.o.ok.len
 have HR := hide (fun W x (hx : Bz W x D.l) => gRecords x D.l W hx)
 unfold GivesRd at HR
 rw [<- rdD_jrA h.o.ok] at HR
 have HP := hide (fun W (hB : Below w.heap.size w W) => h.below hB)
 have HZ := hide (fun W x r c (hT : Tol W w.heap.size x r c D.l) => bl_bz hT.bl (by omega))
 have hwl : 32 * jrW (rdD sum8 D) <= 32 * D.l.length := by
  rw [rdD_jrA h.o.ok]
  have := jrA_len (jn32 D.l)
  rw [jn32_len] at this
  have := j32_le D.l
  omega
 have HT := hide (fun W (hB : Below w.heap.size w W) => gTrim22 (h.below hB) (Nat.le_trans hb hB.size) hn (jrW (rdD sum8 D) : Int))
 have HBs := hide hb
 clear h hb hn
 obtain ⟨n, HN⟩ : ∃ n, Hid (D.l.length = n) := ⟨_, rfl⟩
 rcases op23 D with ⟨hw, e1, e2, e3⟩ | ⟨hw, e1, e2, e3⟩
 · rw [e1, e2, e3]
   rw [HN.out] at hw hlen hwl
   obtain ⟨m, HM⟩ : ∃ m, Hid (jrW (rdD sum8 D) = m) := ⟨_, rfl⟩
   rw [HM.out] at HR hw hwl
   have q0 : ¬ ((m : Int) < (n : Int)) := by omega
   clear e1 e2 e3 HT hwl hw
   go_enter Tryz.func41, Tryz.ntmps41
   go_wp2_with (first
    | (go_at_call 74; refine H.out.mono ?_; rintro e w1 ⟨rfl, hw1⟩; rw [hw1]; clear hw1)
    | (go_at_call 26; refine HB.out.mono ?_; rintro e w2 ⟨v2, r2, c2, rfl, hT2, hb2⟩; have hrow2 := hT2.row; rw [HN.out] at hrow2; obtain ⟨a2, k2, hv2, _⟩ := own_spellO hrow2; subst hv2; have HR2 := hide (HR.out _ _ (HZ.out _ _ _ _ hT2)); clear hT2 hrow2)
    | (go_at_call 75; refine HR2.out.mono ?_; rintro e w3 ⟨v3, es, rfl, hl3, he3, hb3⟩; obtain ⟨a3, k3, hv3, _⟩ := own_spellO hl3.row; have HL3 := hide hl3; subst hv3; have HE3 := hide he3; clear hl3 he3))
   go_ret2
   have hB := Below.next hb2 hb3
   exact ⟨_, _, es, rfl, HP.out _ hB, Mv.of_below _ _ hB, HL3.out.mono hb2.size, HE3.out⟩
 · rw [e1, e2]
   rw [HN.out] at hw hlen hwl
   obtain ⟨m, HM⟩ : ∃ m, Hid (jrW (rdD sum8 D) = m) := ⟨_, rfl⟩
   rw [HM.out] at HR hw hwl HT e3 ⊢
   have q0 : ((m : Int) < (n : Int)) := by omega
   clear e1 e2 hwl hw
   generalize tmN D (m : Int) = E at *
   rcases e3 with ⟨e3, e4⟩ | ⟨e3, e4⟩
   · rw [e4]
     rw [e3] at HT ⊢
     clear e3 e4
     go_enter Tryz.func41, Tryz.ntmps41
     go_wp2_with (first
      | (go_at_call 74; refine H.out.mono ?_; rintro e w1 ⟨rfl, hw1⟩; rw [hw1]; clear hw1)
      | (go_at_call 26; refine HB.out.mono ?_; rintro e w2 ⟨v2, r2, c2, rfl, hT2, hb2⟩; have hrow2 := hT2.row; rw [HN.out] at hrow2; obtain ⟨a2, k2, hv2, _⟩ := own_spellO hrow2; subst hv2; have HR2 := hide (HR.out _ _ (HZ.out _ _ _ _ hT2)); clear hT2 hrow2)
      | (go_at_call 75; refine HR2.out.mono ?_; rintro e w3 ⟨v3, es, rfl, hl3, he3, hb3⟩; obtain ⟨a3, k3, hv3, _⟩ := own_spellO hl3.row; have HL3 := hide hl3; subst hv3; have HE3 := hide he3; have HB3 := hide (Below.next hb2 hb3); have HT3 := hide (HT.out _ HB3.out); clear hl3 he3)
      | (go_at_call 76; refine HT3.out.mono ?_; rintro e w4 ⟨v4, rfl, hn4, hm4⟩))
     go_ret2
     exact ⟨v4, _, es, rfl, hn4, Mv.after HB3.out hm4, (HL3.out.mono hb2.size).mv (HP.out _ HB3.out) hm4, HE3.out⟩
   · rw [e4]
     have q1 : (tmE D (m : Int) != 0) = true := bne_iff_ne.2 e3
     clear e3 e4
     generalize tmE D (m : Int) = er at *
     go_enter Tryz.func41, Tryz.ntmps41
     go_wp2_with (first
      | (go_at_call 74; refine H.out.mono ?_; rintro e w1 ⟨rfl, hw1⟩; rw [hw1]; clear hw1)
      | (go_at_call 26; refine HB.out.mono ?_; rintro e w2 ⟨v2, r2, c2, rfl, hT2, hb2⟩; have hrow2 := hT2.row; rw [HN.out] at hrow2; obtain ⟨a2, k2, hv2, _⟩ := own_spellO hrow2; subst hv2; have HR2 := hide (HR.out _ _ (HZ.out _ _ _ _ hT2)); clear hT2 hrow2)
      | (go_at_call 75; refine HR2.out.mono ?_; rintro e w3 ⟨v3, es, rfl, hl3, he3, hb3⟩; obtain ⟨a3, k3, hv3, _⟩ := own_spellO hl3.row; have HL3 := hide hl3; subst hv3; have HE3 := hide he3; have HB3 := hide (Below.next hb2 hb3); have HT3 := hide (HT.out _ HB3.out); clear hl3 he3)
      | (go_at_call 76; refine HT3.out.mono ?_; rintro e w4 ⟨v4, rfl, hn4, hm4⟩))
     go_ret2
     exact ⟨v4, _, [], rfl, hn4, Mv.after HB3.out hm4, rl_nil _ _, rfl⟩
end Go.Proofs.YtipobchbnjgenaaGreat
