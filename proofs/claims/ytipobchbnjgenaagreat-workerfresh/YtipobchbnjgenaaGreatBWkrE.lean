import Derived.Test.YtipobchbnjgenaaGreatBWkrC
import Derived.Test.YtipobchbnjgenaaGreatBJrnF
set_option linter.unusedVariables false
set_option linter.unusedSimpArgs false
set_option maxRecDepth 100000
set_option maxHeartbeats 4000000
namespace Go.Proofs.YtipobchbnjgenaaGreat
open Go.RowKit Go.Maps Fld Slp Pln
def hdL (L : List (Int × List Int)) (r : Int) (xs : List Int) : List (Int × List Int) := if (fndW L r).isSome = true then L else L ++ [(r, xs)]
def stE (L : List (Int × List Int)) (D : Dsk) (r : Int) (xs b : List Int) : Int := if (fndW L r).isSome = true then (if shW L r = xs then 0 else 6) else apE23 sum8 D b
def stN (L : List (Int × List Int)) (D : Dsk) (r : Int) (b : List Int) : Dsk := if (fndW L r).isSome = true then D else apN23 sum8 D b
def stW (st : Wk) (D : Dsk) (r : Int) (xs b : List Int) : Wk := if (fndW st.L r).isSome = true then st else if apE23 sum8 D b = 0 then ⟨hdL st.L r xs, st.x⟩ else ⟨st.L, true⟩
section
variable {w : World} {base kb mb g : Nat} {vo vu : Value} {p : Pn} {q : Pr} {id : Int} {st : Wk}
theorem Wp.put (h : Wp w base kb mb g vo vu p q id st) {r : Int} {xs : List Int} {s : Value} (hr : -9223372036854775808 <= r ∧ r <= 9223372036854775807) (ho : w.ownsRow base 83 1 s xs.length (vals xs)) (hf : (fndW st.L r).isSome = false) (hn : st.L.length < maxLen) :
 ∃ w', (Instr.mapUpdate 100 (.map (some mb)) (.int .i64 r) s).run Tryz.prog w = .ok () w' ∧ Wp w' base kb mb g vo vu p q id ⟨st.L ++ [(r, xs)], st.x⟩ ∧ Kq (fun j => j < w.heap.size ∧ j ≠ mb) w w' := by
 obtain ⟨D, h1, h2, h3⟩ := h.map
 have hf' : fndW st.L r = none := by
  cases he : fndW st.L r with
  | none => rfl
  | some v => rw [he] at hf; cases hf
 obtain ⟨w', hrun, hown, hg⟩ := h1.update int_keyedW Tryz.underlying100 hn (key_int hr) (val := s) (d := .held s) (ps := []) rfl
 have hm := Mpw.put (w := w) h2 h3 h1.isMap h.map.obj hf' ho hown hg
 have hkq : Kq (fun j => j < w.heap.size ∧ j ≠ mb) w w' := grown_kq hg (fun j hj => hj.1) (fun k e hk => hk.2 (by injection e with e; exact e.symm))
 obtain ⟨es, c, ho2⟩ := h.map.obj
 refine ⟨w', hrun, ⟨(hkq.block kb ⟨h.lt, fun e => ?_⟩).trans h.blk, hm, hkq.own h.ops (fun j hj => ⟨(h.ops.lt j hj).2, fun e => own_map h.ops ho2 (by rw [hj, e])⟩), hkq.own h.outs (fun j hj => ⟨(h.outs.lt j hj).2, fun e => own_map h.outs ho2 (by rw [hj, e])⟩), h.lowk, h.lowm⟩, hkq⟩
 have := h.blk
 rw [e, ho2] at this
 cases this
theorem gHold (h : Wp w base kb mb g vo vu p q id st) (hb : base <= w.heap.size) (m : Mg) (s : Value) (hr : -9223372036854775808 <= m.r ∧ m.r <= 9223372036854775807) (ho : w.ownsRow base 83 1 s m.l.length (vals m.l)) (hn : st.L.length < maxLen) :
 Calls Tryz.prog 45 #[.pointer (some ⟨kb, 0, none⟩), mgv m s] w fun e w' => e = .returned (.tuple #[]) ∧ Wp w' base kb mb g vo vu p q id ⟨hdL st.L m.r m.l, st.x⟩ ∧ Kq (fun j => j < w.heap.size ∧ j ≠ mb) w w' := by
 obtain ⟨as', sc, rfl⟩ := own_form ho
 obtain ⟨hM, hA⟩ := mb_box (w := w) m (.slice as' m.l.length sc)
 have h1 := h.below hA
 have ho1 := own_below ho hA
 have HKA := hide (Below.kq hA (S := fun j => j < w.heap.size ∧ j ≠ mb) (fun j hj => hj.1))
 have hz : (w.alloc (.cells #[.int .u8 m.k, .int .i64 m.r, .int .i64 m.v, .int .u8 m.f, .slice as' m.l.length sc] 74)).heap.size = w.heap.size + 1 := by simp
 obtain ⟨W, HW⟩ : ∃ W, Hid (w.alloc (.cells #[.int .u8 m.k, .int .i64 m.r, .int .i64 m.v, .int .u8 m.f, .slice as' m.l.length sc] 74) = W) := ⟨_, rfl⟩
 rw [HW.out] at hM h1 ho1 HKA hz
 have hZ := hide hz
 clear hA h ho hz
 obtain ⟨v, hlk, _⟩ := (show Mpw W.drew base mb st.L from h1.map).look hr
 obtain ⟨c0, c1, c2, c3, c4⟩ := hM.cells
 obtain ⟨_, _, k13, _⟩ := h1.cells
 have hS0 : W.drew.cell? ⟨w.heap.size, 1, none⟩ = some (.int .i64 m.r) ∧ W.drew.cell? ⟨kb, 13, none⟩ = some (.map (some mb)) := ⟨c1, k13⟩
 have H1 := hide h1
 have HO1 := hide ho1
 have HM := hide hM
 clear h1 ho1 hM
 unfold mgv mgc
 cases hf : (fndW st.L m.r).isSome with
 | true =>
  rw [hf] at hlk
  have HF := hide hf
  clear hf
  go_enter Tryz.func45, Tryz.ntmps45
  go_upto_region 1 with fail
  rw [HW.out]
  refine wp_region_held_drew (S := (fun V => V.cell? ⟨w.heap.size, 1, none⟩ = some (.int .i64 m.r) ∧ V.cell? ⟨kb, 13, none⟩ = some (.map (some mb)))) (by kernel_rfl) (by ((try dsimp only) <;> (first | with_reducible exact hS0))) (fun hHeld => ?_)
  refine tkY 0 ?_
  refine tkY 1 ?_
  refine tkY 2 ?_
  refine tkY 3 ?_
  refine tkY 4 ?_
  refine tkY 5 ?_
  refine rd1 6 (fun K hK => ?_)
  (try simp only [ly0, ly1, ly2, ly3, ly4, ly5, ly6, ly7])
  go_simp
  refine hK.out _ _ (by ((try dsimp only) <;> (first | with_reducible exact hS0))) (fun hHeld => ?_)
  clear hK K
  (try simp only [ly0, ly1, ly2, ly3, ly4, ly5, ly6, ly7])
  refine tkY 7 ?_
  refine tkY 8 ?_
  refine tkY 9 ?_
  refine tkY 10 ?_
  refine tkY 11 ?_
  refine wpAnyH_done (by kernel_rfl) ?_ _
  go_wp2
  go_end0
  have e : hdL st.L m.r m.l = st.L := by unfold hdL; rw [if_pos HF.out]
  rw [e]
  exact ⟨rfl, H1.out.below (Below.refl W.heap.size W).drew, HKA.out.trans (Below.kq (Below.refl W.heap.size W).drew (fun j hj => by have := hj.1; rw [hZ.out]; omega))⟩
 | false =>
  rw [hf] at hlk
  have HU := hide (Wp.put (w := W.drew.drew) (H1.out.below (Below.refl W.heap.size W).drew.drew) hr (show W.drew.drew.ownsRow base 83 1 (.slice as' m.l.length sc) m.l.length (vals m.l) from HO1.out) hf hn)
  have HF := hide hf
  clear hf
  go_enter Tryz.func45, Tryz.ntmps45
  go_upto_region 1 with fail
  rw [HW.out]
  refine wp_region_held_drew (S := (fun V => V.cell? ⟨w.heap.size, 1, none⟩ = some (.int .i64 m.r) ∧ V.cell? ⟨kb, 13, none⟩ = some (.map (some mb)))) (by kernel_rfl) (by ((try dsimp only) <;> (first | with_reducible exact hS0))) (fun hHeld => ?_)
  refine tkY 0 ?_
  refine tkY 1 ?_
  refine tkY 2 ?_
  refine tkY 3 ?_
  refine tkY 4 ?_
  refine tkY 5 ?_
  refine rd1 6 (fun K hK => ?_)
  (try simp only [ly0, ly1, ly2, ly3, ly4, ly5, ly6, ly7])
  go_simp
  refine hK.out _ _ (by ((try dsimp only) <;> (first | with_reducible exact hS0))) (fun hHeld => ?_)
  clear hK K
  (try simp only [ly0, ly1, ly2, ly3, ly4, ly5, ly6, ly7])
  refine tkY 7 ?_
  refine tkY 8 ?_
  refine tkY 9 ?_
  refine tkY 10 ?_
  refine tkY 11 ?_
  refine wpAnyH_done (by kernel_rfl) ?_ _
  go_upto_region 3 with fail
  have hS3 : W.drew.drew.cell? ⟨w.heap.size, 1, none⟩ = some (.int .i64 m.r) ∧ W.drew.drew.cell? ⟨w.heap.size, 4, none⟩ = some (.slice as' m.l.length sc) ∧ W.drew.drew.cell? ⟨kb, 13, none⟩ = some (.map (some mb)) := ⟨c1, c4, k13⟩
  obtain ⟨W9, hrun, hw9, hk9⟩ := HU.out
  have h19 : W9.cell? ⟨w.heap.size, 1, none⟩ = some (.int .i64 m.r) ∧ W9.cell? ⟨w.heap.size, 4, none⟩ = some (.slice as' m.l.length sc) ∧ W9.cell? ⟨kb, 13, none⟩ = some (.map (some mb)) := by
   obtain ⟨es, ck, hmo⟩ := H1.out.map.obj
   have hne1 : w.heap.size ≠ mb := fun e => by
    have := show W.heap[w.heap.size]? = some (.cells (mgc m (.slice as' m.l.length sc)) 74 (0, 0)) from HM.out
    rw [e, hmo] at this
    cases this
   have hne2 : kb ≠ mb := fun e => by
    have := H1.out.blk
    rw [e, hmo] at this
    cases this
   have hl1 : w.heap.size < W.heap.size := by rw [hZ.out]; omega
   exact ⟨(hk9.cell (a := ⟨w.heap.size, 1, none⟩) ⟨hl1, hne1⟩).trans c1, (hk9.cell (a := ⟨w.heap.size, 4, none⟩) ⟨hl1, hne1⟩).trans c4, (hk9.cell (a := ⟨kb, 13, none⟩) ⟨H1.out.lt, hne2⟩).trans k13⟩
  have HW9 := hide hw9
  have HK9 := hide hk9
  clear hw9 hk9
  refine wp_region_held_drew (S := (fun V => V.cell? ⟨w.heap.size, 1, none⟩ = some (.int .i64 m.r) ∧ V.cell? ⟨w.heap.size, 4, none⟩ = some (.slice as' m.l.length sc) ∧ V.cell? ⟨kb, 13, none⟩ = some (.map (some mb)))) (by kernel_rfl) (by ((try dsimp only) <;> (first | with_reducible exact hS3 | with_reducible exact h19))) (fun hHeld => ?_)
  refine tkY 0 ?_
  refine tkY 1 ?_
  refine tkY 2 ?_
  refine tkY 3 ?_
  refine tkY 4 ?_
  refine tkY 5 ?_
  refine tkY 6 ?_
  refine tkY 7 ?_
  refine rd1 8 (fun K hK => ?_)
  (try simp only [ly0, ly1, ly2, ly3, ly4, ly5, ly6, ly7])
  go_simp
  refine hK.out _ _ (by ((try dsimp only) <;> (first | with_reducible exact hS3 | with_reducible exact h19))) (fun hHeld => ?_)
  clear hK K
  (try simp only [ly0, ly1, ly2, ly3, ly4, ly5, ly6, ly7])
  refine wpAnyH_done (by kernel_rfl) ?_ _
  go_wp2
  go_end0
  have e : hdL st.L m.r m.l = st.L ++ [(m.r, m.l)] := by unfold hdL; rw [if_neg (by rw [HF.out]; decide)]
  rw [e]
  exact ⟨rfl, HW9.out, (HKA.out.trans (Below.kq (Below.refl W.heap.size W).drew.drew (fun j hj => by have := hj.1; rw [hZ.out]; omega))).trans (HK9.out.mono (fun j (hj : j < w.heap.size ∧ j ≠ mb) => ⟨by have := hj.1; show j < W.heap.size; rw [hZ.out]; omega, hj.2⟩))⟩
theorem gSettle {v : Value} {D : Dsk} (h : Wp w base kb mb g vo vu p q id st) (hd : Hd w base g v D) (hb : base <= w.heap.size) (hnn : D.n + 100000 < 4611686018427387904) (m : Mg) (s : Value) (hr : -9223372036854775808 <= m.r ∧ m.r <= 9223372036854775807) (ho : w.ownsRow base 83 1 s m.l.length (vals m.l)) (hwd : Wd m.l) (hsw : Wd (shW st.L m.r)) (hn : st.L.length < maxLen) {u : Value} {b : List Int} (hu : Rb w u b) :
 Calls Tryz.prog 50 #[.pointer (some ⟨kb, 0, none⟩), mgv m s, u] w fun e w' => ∃ v', e = .returned (.int .i64 (stE st.L D m.r m.l b)) ∧ Wp w' base kb mb g vo vu p q id (stW st D m.r m.l b) ∧ Hd w' base g v' (stN st.L D m.r b) ∧ Ev w w' kb mb g v v' := by
 obtain ⟨as', sc, rfl⟩ := own_form ho
 obtain ⟨hM, hA⟩ := mb_box (w := w) m (.slice as' m.l.length sc)
 obtain ⟨W, HW⟩ : ∃ W, Hid (w.alloc (.cells #[.int .u8 m.k, .int .i64 m.r, .int .i64 m.v, .int .u8 m.f, .slice as' m.l.length sc] 74) = W) := ⟨_, rfl⟩
 rw [HW.out] at hM hA
 have h1 := h.below hA
 have hd1 := hd.below hA
 have ho1 := own_below ho hA
 have hu1 := hu.below hA
 have HA := hide hA
 obtain ⟨vs, hlk, hos⟩ := (show Mpw W.drew base mb st.L from h1.map).look hr
 obtain ⟨c0, c1, c2, c3, c4⟩ := hM.cells
 obtain ⟨_, k12, k13, k14⟩ := h1.cells
 have hS0 : W.drew.cell? ⟨w.heap.size, 1, none⟩ = some (.int .i64 m.r) ∧ W.drew.cell? ⟨kb, 13, none⟩ = some (.map (some mb)) := ⟨c1, k13⟩
 obtain ⟨ua, uc, rfl, _⟩ := hu.spell
 have HQ := hide (lEqual vs (.slice as' m.l.length sc) (shW st.L m.r) m.l W.drew (hsw.row hos).1 (hwd.row (show W.drew.ownsRow base 83 1 (.slice as' m.l.length sc) m.l.length (vals m.l) from ho1)).1)
 obtain ⟨av, cv, rfl⟩ := own_form hos
 clear h hd ho hu hA hos
 have HP := hide (gAppend (w := W.drew) (hd1.below (Below.refl W.heap.size W).drew) (Nat.le_trans hb HA.out.size) hnn (hu1.below (Below.refl W.heap.size W).drew))
 have HH := hide (h1.below (Below.refl W.heap.size W).drew)
 have HD := hide (hd1.below (Below.refl W.heap.size W).drew)
 have HO := hide (own_below ho1 (Below.refl W.heap.size W).drew)
 have HMb := hide (show Mb W.drew w.heap.size m (.slice as' m.l.length sc) from hM)
 have hb2 := Nat.le_trans hb HA.out.size
 obtain ⟨n7, hn7⟩ : ∃ n7, Hid ((shW st.L m.r).length = n7) := ⟨_, rfl⟩
 rw [hn7.out] at hlk HQ
 have hB0 := HA.out.drew
 clear h1 hd1 ho1 hu1 hM
 unfold mgv mgc
 cases hf : (fndW st.L m.r).isSome with
 | true =>
  rw [hf] at hlk
  have e1 : stE st.L D m.r m.l b = if shW st.L m.r = m.l then 0 else 6 := by unfold stE; rw [if_pos hf]
  have e2 : stN st.L D m.r b = D := by unfold stN; rw [if_pos hf]
  have e3 : stW st D m.r m.l b = st := by unfold stW; rw [if_pos hf]
  rw [e1, e2, e3]
  clear e1 e2 e3 hf HP
  have hd0 := hide (show ∃ b', Hid (decide (shW st.L m.r = m.l) = b') from ⟨_, rfl⟩)
  by_cases he : shW st.L m.r = m.l
  · rw [if_pos he]
    rw [decide_eq_true he] at HQ
    clear he hd0
    go_enter Tryz.func50, Tryz.ntmps50
    go_upto_region 1 with fail
    rw [HW.out]
    refine wp_region_held_drew (S := (fun V => V.cell? ⟨w.heap.size, 1, none⟩ = some (.int .i64 m.r) ∧ V.cell? ⟨kb, 13, none⟩ = some (.map (some mb)))) (by kernel_rfl) (by ((try dsimp only) <;> (first | with_reducible exact hS0))) (fun hHeld => ?_)
    refine tkY 0 ?_
    refine tkY 1 ?_
    refine tkY 2 ?_
    refine tkY 3 ?_
    refine tkY 4 ?_
    refine tkY 5 ?_
    refine rd1 6 (fun K hK => ?_)
    (try simp only [ly0, ly1, ly2, ly3, ly4, ly5, ly6, ly7])
    go_simp
    refine hK.out _ _ (by ((try dsimp only) <;> (first | with_reducible exact hS0))) (fun hHeld => ?_)
    clear hK K
    (try simp only [ly0, ly1, ly2, ly3, ly4, ly5, ly6, ly7])
    refine tkY 7 ?_
    refine tkY 8 ?_
    refine tkY 9 ?_
    refine tkY 10 ?_
    refine tkY 11 ?_
    refine wpAnyH_done (by kernel_rfl) ?_ _
    go_wp2_with (go_at_call 80; refine HQ.out.mono ?_; rintro e w2 ⟨rfl, nd, hw2⟩; have hbd : Below W.drew.heap.size W.drew w2 := (by rw [hw2]; exact drewN_below _ _); clear hw2)
    go_ret
    exact ⟨v, rfl, HH.out.below hbd, HD.out.below hbd, Ev.of_below _ _ _ _ (Below.next hB0 hbd)⟩
  · rw [if_neg he]
    rw [decide_eq_false he] at HQ
    clear he hd0
    go_enter Tryz.func50, Tryz.ntmps50
    go_upto_region 1 with fail
    rw [HW.out]
    refine wp_region_held_drew (S := (fun V => V.cell? ⟨w.heap.size, 1, none⟩ = some (.int .i64 m.r) ∧ V.cell? ⟨kb, 13, none⟩ = some (.map (some mb)))) (by kernel_rfl) (by ((try dsimp only) <;> (first | with_reducible exact hS0))) (fun hHeld => ?_)
    refine tkY 0 ?_
    refine tkY 1 ?_
    refine tkY 2 ?_
    refine tkY 3 ?_
    refine tkY 4 ?_
    refine tkY 5 ?_
    refine rd1 6 (fun K hK => ?_)
    (try simp only [ly0, ly1, ly2, ly3, ly4, ly5, ly6, ly7])
    go_simp
    refine hK.out _ _ (by ((try dsimp only) <;> (first | with_reducible exact hS0))) (fun hHeld => ?_)
    clear hK K
    (try simp only [ly0, ly1, ly2, ly3, ly4, ly5, ly6, ly7])
    refine tkY 7 ?_
    refine tkY 8 ?_
    refine tkY 9 ?_
    refine tkY 10 ?_
    refine tkY 11 ?_
    refine wpAnyH_done (by kernel_rfl) ?_ _
    go_wp2_with (go_at_call 80; refine HQ.out.mono ?_; rintro e w2 ⟨rfl, nd, hw2⟩; have hbd : Below W.drew.heap.size W.drew w2 := (by rw [hw2]; exact drewN_below _ _); clear hw2)
    go_ret
    exact ⟨v, rfl, HH.out.below hbd, HD.out.below hbd, Ev.of_below _ _ _ _ (Below.next hB0 hbd)⟩
 | false =>
  rw [hf] at hlk
  have e1 : stE st.L D m.r m.l b = apE23 sum8 D b := by unfold stE; rw [if_neg (by rw [hf]; decide)]
  have e2 : stN st.L D m.r b = apN23 sum8 D b := by unfold stN; rw [if_neg (by rw [hf]; decide)]
  have e3 : stW st D m.r m.l b = if apE23 sum8 D b = 0 then ⟨hdL st.L m.r m.l, st.x⟩ else ⟨st.L, true⟩ := by unfold stW; rw [if_neg (by rw [hf]; decide)]
  rw [e1, e2, e3]
  clear e1 e2 e3 hf HQ
  generalize apE23 sum8 D b = er at *
  generalize apN23 sum8 D b = E at *
  by_cases he : er = 0
  · subst he
    rw [if_pos rfl]
    go_enter Tryz.func50, Tryz.ntmps50
    go_upto_region 1 with fail
    rw [HW.out]
    refine wp_region_held_drew (S := (fun V => V.cell? ⟨w.heap.size, 1, none⟩ = some (.int .i64 m.r) ∧ V.cell? ⟨kb, 13, none⟩ = some (.map (some mb)))) (by kernel_rfl) (by ((try dsimp only) <;> (first | with_reducible exact hS0))) (fun hHeld => ?_)
    refine tkY 0 ?_
    refine tkY 1 ?_
    refine tkY 2 ?_
    refine tkY 3 ?_
    refine tkY 4 ?_
    refine tkY 5 ?_
    refine rd1 6 (fun K hK => ?_)
    (try simp only [ly0, ly1, ly2, ly3, ly4, ly5, ly6, ly7])
    go_simp
    refine hK.out _ _ (by ((try dsimp only) <;> (first | with_reducible exact hS0))) (fun hHeld => ?_)
    clear hK K
    (try simp only [ly0, ly1, ly2, ly3, ly4, ly5, ly6, ly7])
    refine tkY 7 ?_
    refine tkY 8 ?_
    refine tkY 9 ?_
    refine tkY 10 ?_
    refine tkY 11 ?_
    refine wpAnyH_done (by kernel_rfl) ?_ _
    go_upto_region 7 with (go_at_call 81; refine HP.out.mono ?_; rintro e w2 ⟨v2, rfl, hn2, hm2⟩)
    have hw2 := HH.out.mvd HD.out hm2
    have hmb2 := (show Mb w2 w.heap.size m (.slice as' m.l.length sc) from HD.out.apart hm2 HMb.out (by decide) (by decide))
    obtain ⟨c0, c1, c2, c3, c4⟩ := hmb2.cells
    have HG := hide (gHold hw2 (Nat.le_trans hb2 hm2.kq.size) m (.slice as' m.l.length sc) hr (HD.out.apart_row hm2 HO.out (by decide) (by decide)) hn)
    unfold mgv mgc at HG
    go_wp2_with (go_at_call 45; refine HG.out.mono ?_; rintro e w3 ⟨rfl, hw3, hk3⟩)
    go_ret
    exact ⟨v2, rfl, hw3, hn2.kqm hw2.map.obj hk3, ((Ev.of_below _ _ _ _ hB0).trans (Ev.of_mv kb mb hm2)).trans (hk3.ev v2 kb g)⟩
  · rw [if_neg he]
    have q0 : (er != 0) = true := bne_iff_ne.2 he
    go_enter Tryz.func50, Tryz.ntmps50
    go_upto_region 1 with fail
    rw [HW.out]
    refine wp_region_held_drew (S := (fun V => V.cell? ⟨w.heap.size, 1, none⟩ = some (.int .i64 m.r) ∧ V.cell? ⟨kb, 13, none⟩ = some (.map (some mb)))) (by kernel_rfl) (by ((try dsimp only) <;> (first | with_reducible exact hS0))) (fun hHeld => ?_)
    refine tkY 0 ?_
    refine tkY 1 ?_
    refine tkY 2 ?_
    refine tkY 3 ?_
    refine tkY 4 ?_
    refine tkY 5 ?_
    refine rd1 6 (fun K hK => ?_)
    (try simp only [ly0, ly1, ly2, ly3, ly4, ly5, ly6, ly7])
    go_simp
    refine hK.out _ _ (by ((try dsimp only) <;> (first | with_reducible exact hS0))) (fun hHeld => ?_)
    clear hK K
    (try simp only [ly0, ly1, ly2, ly3, ly4, ly5, ly6, ly7])
    refine tkY 7 ?_
    refine tkY 8 ?_
    refine tkY 9 ?_
    refine tkY 10 ?_
    refine tkY 11 ?_
    refine wpAnyH_done (by kernel_rfl) ?_ _
    go_upto_region 8 with (go_at_call 81; refine HP.out.mono ?_; rintro e w2 ⟨v2, rfl, hn2, hm2⟩)
    have hw2 := HH.out.mvd HD.out hm2
    have k14 := hw2.cells.2.2.2
    have f2 := hw2.free
    go_wp2
    go_ret
    exact ⟨v2, rfl, hw2.down, hn2.down hw2, ((Ev.of_below _ _ _ _ hB0).trans (Ev.of_mv kb mb hm2)).trans (ev_down _ _ _ _ _)⟩
end
end Go.Proofs.YtipobchbnjgenaaGreat
