import Derived.Test.YtipobchbnjgenaaGreatBWkrG
import Derived.Test.YtipobchbnjgenaaGreatBunYJ
set_option linter.unusedVariables false
set_option linter.unusedSimpArgs false
set_option maxRecDepth 100000
set_option maxHeartbeats 4000000
namespace Go.Proofs.YtipobchbnjgenaaGreat
open Go.RowKit Go.Maps Fld Slp Pln
def nwE (p : Pn) (q : Pr) (id : Int) (D : Dsk) : Int := if mkB p q id = true then opE23 sum8 D else 2
def nwN (p : Pn) (q : Pr) (id : Int) (D : Dsk) : Dsk := if mkB p q id = true then opN23 sum8 D else D
def nwW (p : Pn) (id : Int) (D : Dsk) : Wk := ⟨hldW sum8 p.f p.w id (opR23 sum8 D), false⟩
theorem mk_fit {p : Pn} {q : Pr} {id : Int} (h : mkB p q id = true) : mayB q = true := by
 obtain ⟨_, h2, _⟩ := mkB_facts h
 cases hf : fitQ p q with
 | true => exact (fit_facts hf).2.1
 | false => rw [ftQ_no hf] at h2; cases h2
theorem wf_of {p : Pn} {q : Pr} {id : Int} {w : World} {vq : Value} (hp : Ok8p p) (hq : Pm w vq q) (h : mkB p q id = true) : Wf p q id := by
 obtain ⟨⟨_, _, h1, h2⟩, _⟩ := mayB_iff.1 (mk_fit h)
 exact ⟨hp, hq.inb, hq.okb, hq.oub, by omega, by omega, h⟩
theorem hld_take {f wd id : Int} {rs : List (List Int)} {k : Nat} (h : k < rs.length) : hldW sum8 f wd id (rs.take (k + 1)) = putW sum8 f wd id (hldW sum8 f wd id (rs.take k)) rs[k] := by
 rw [List.take_succ_eq_append_getElem h, hld_snoc]
theorem put_hd {f wd id : Int} {L : List (Int × List Int)} {b : List Int} (hs : shB sum8 f wd id b = true) : putW sum8 f wd id L b = hdL L (mrM sum8 b).r (mrM sum8 b).l := by
 unfold putW hdL
 cases hf : fndW L (mrM sum8 b).r with
 | none => rw [if_pos ⟨hs, rfl⟩]; rfl
 | some v => rw [if_neg (fun h => by cases h.2)]; rfl
theorem put_no {f wd id : Int} {L : List (Int × List Int)} {b : List Int} (hs : shB sum8 f wd id b = false) : putW sum8 f wd id L b = L := by
 unfold putW
 rw [if_neg (fun h => by rw [hs] at h; cases h.1)]
theorem Rl.kqm {w w' : World} {lo mb : Nat} {v : Value} {es : List Be} (h : Rl w lo v es) (hm : ∃ es c, w.heap[mb]? = some (.map es c)) (k : Kq (fun j => j < w.heap.size ∧ j ≠ mb) w w') : Rl w' lo v es := by
 obtain ⟨ms, c, ho⟩ := hm
 exact ⟨k.own h.row (fun j hj => ⟨(h.row.lt j hj).2, fun e => own_map h.row ho (by rw [hj, e])⟩), fun e he => k.own (h.each e he) (fun j hj => ⟨((h.each e he).lt j hj).2, fun e2 => own_map (h.each e he) ho (by rw [hj, e2])⟩), h.by_⟩
theorem Rl.rb {w : World} {lo : Nat} {v : Value} {es : List Be} (h : Rl w lo v es) {k : Nat} (hk : k < es.length) : Rb w es[k].2 es[k].1 := by
 have hm := List.getElem_mem hk
 exact rb_of_own (h.each _ hm) (h.by_ _ hm).1 (by have := (h.by_ _ hm).2; omega)
structure Nw (w3 W : World) (b : Nat) (p : Pn) (q : Pr) (vo vu : Value) : Prop where
 pl : W.heap[b]? = some (.cells #[.int .u8 p.f, .int .i64 p.n, .int .i64 p.k, .int .i64 p.t, .int .i64 p.s, .int .i64 p.e, .int .i64 p.d, .int .i64 p.w] 24 (0, 0))
 pr : W.heap[b + 1]? = some (.cells #[.int .i64 q.inp, vo, vu] 28 (0, 0))
 ops : W.ownsRow w3.heap.size 85 4 vo q.ops.length (q.ops.flatMap opw)
 outs : W.ownsRow w3.heap.size 3 1 vu q.outs.length (q.outs.flatMap iw)
 kq : Kq (fun j => j < w3.heap.size ∧ j ≠ b + 1) w3 W
theorem nw_set {w3 w4 w5 : World} {b : Nat} {p : Pn} {q : Pr} {ao au vo vu : Value} (h0 : w3.heap[b]? = some (.cells #[.int .u8 p.f, .int .i64 p.n, .int .i64 p.k, .int .i64 p.t, .int .i64 p.s, .int .i64 p.e, .int .i64 p.d, .int .i64 p.w] 24 (0, 0))) (h1 : w3.heap[b + 1]? = some (.cells #[.int .i64 q.inp, ao, au] 28 (0, 0)))
 (b4 : Below w3.heap.size w3 w4) (b5 : Below w4.heap.size w4 w5) (h4 : w4.ownsRow w3.heap.size 85 4 vo q.ops.length (q.ops.flatMap opw)) (h5 : w5.ownsRow w4.heap.size 3 1 vu q.outs.length (q.outs.flatMap iw)) :
 Nw w3 ((w5.setCell ⟨b + 1, 1, none⟩ vo).setCell ⟨b + 1, 2, none⟩ vu) b p q vo vu := by
 have hb5 := Below.next b4 b5
 have l0 := (Array.getElem?_eq_some_iff.1 h0).1
 have l1 := (Array.getElem?_eq_some_iff.1 h1).1
 have hk : Kq (fun j => j < w3.heap.size ∧ j ≠ b + 1) w3 ((w5.setCell ⟨b + 1, 1, none⟩ vo).setCell ⟨b + 1, 2, none⟩ vu) :=
  ⟨hb5.os, hb5.tape, hb5.output, by have := hb5.size; simpa using this, fun j hj => (Below.heap_setCell _ _ _ j hj.2).trans ((Below.heap_setCell _ _ _ j hj.2).trans (hb5.block j hj.1))⟩
 have k5 : Kq (fun j => j < w5.heap.size ∧ j ≠ b + 1) w5 ((w5.setCell ⟨b + 1, 1, none⟩ vo).setCell ⟨b + 1, 2, none⟩ vu) := ⟨rfl, rfl, rfl, by simp, fun j hj => (Below.heap_setCell _ _ _ j hj.2).trans (Below.heap_setCell _ _ _ j hj.2)⟩
 have h15 := (hb5.block _ l1).trans h1
 have o4 := own_below h4 b5
 have o5 := own_mono h5 b4.size
 refine ⟨(hk.block b ⟨l0, by omega⟩).trans h0, ?_, k5.own o4 (fun j hj => ⟨(o4.lt j hj).2, fun e => own_notO o4 h15 (by decide) (by rw [hj, e])⟩), k5.own o5 (fun j hj => ⟨(o5.lt j hj).2, fun e => own_notO o5 h15 (by decide) (by rw [hj, e])⟩), hk⟩
 rw [set_blk (set_blk h15 1 vo) 2 vu]; rfl
structure Nl (w W : World) (base kb mb g : Nat) (v v' lv vo vu : Value) (p : Pn) (q : Pr) (id : Int) (E : Dsk) (es : List Be) (k : Nat) : Prop where
 wp : Wp W w.heap.size kb mb g vo vu p q id ⟨hldW sum8 p.f p.w id ((es.map (·.1)).take k), false⟩
 rl : Rl W w.heap.size lv es
 hd : Hd W base g v' E
 mv : Mv w W g v v'
section
variable {w W W' : World} {base kb mb g : Nat} {v v' lv vo vu : Value} {p : Pn} {q : Pr} {id : Int} {E : Dsk} {es : List Be} {k : Nat}
theorem Nl.below (h : Nl w W base kb mb g v v' lv vo vu p q id E es k) (hb : Below W.heap.size W W') : Nl w W' base kb mb g v v' lv vo vu p q id E es k :=
 ⟨h.wp.below hb, h.rl.below hb, h.hd.below hb, h.mv.next hb⟩
theorem Nl.same (h : Nl w W base kb mb g v v' lv vo vu p q id E es k) (hk : k < es.length) (hs : shB sum8 p.f p.w id es[k].1 = false) : Nl w W base kb mb g v v' lv vo vu p q id E es (k + 1) := by
 refine ⟨?_, h.rl, h.hd, h.mv⟩
 have hk2 : k < (es.map (·.1)).length := by rw [List.length_map]; exact hk
 have e := hld_take (f := p.f) (wd := p.w) (id := id) hk2
 rw [List.getElem_map, put_no hs] at e
 rw [e]; exact h.wp
theorem Nl.held (h : Nl w W base kb mb g v v' lv vo vu p q id E es k) (hk : k < es.length) (hs : shB sum8 p.f p.w id es[k].1 = true) (hw : Wp W' w.heap.size kb mb g vo vu p q id ⟨hdL (hldW sum8 p.f p.w id ((es.map (·.1)).take k)) (mrM sum8 es[k].1).r (mrM sum8 es[k].1).l, false⟩) (hq : Kq (fun j => j < W.heap.size ∧ j ≠ mb) W W') : Nl w W' base kb mb g v v' lv vo vu p q id E es (k + 1) := by
 have hk2 : k < (es.map (·.1)).length := by rw [List.length_map]; exact hk
 have e := hld_take (f := p.f) (wd := p.w) (id := id) hk2
 rw [List.getElem_map, put_hd hs] at e
 have hsz := h.mv.kq.size
 have hlm := h.wp.lowm
 refine ⟨by rw [e]; exact hw, h.rl.kqm h.wp.map.obj hq, h.hd.kqm h.wp.map.obj hq, ⟨h.mv.kq.trans (hq.mono (fun j hj => ⟨by have := hj.1; omega, by have := hj.1; omega⟩)), h.mv.new⟩⟩
theorem nl_new {w3 wc W7 : World} (h : Nw w3 wc w.heap.size p q vo vu) (hm : Mv w w3 g v v') (hd : Hd w3 base g v' E) (hg : g < w.heap.size) (hv : ∀ j, v'.ownBlock = some j -> j ≠ w.heap.size + 1) (hr : Rl w3 w.heap.size lv es)
 (hW : (wc.alloc (.map #[] 0)).alloc (.cells #[.int .u8 p.f, .int .i64 p.n, .int .i64 p.k, .int .i64 p.t, .int .i64 p.s, .int .i64 p.e, .int .i64 p.d, .int .i64 p.w, .int .i64 q.inp, vo, vu, .int .i64 id, .pointer (some ⟨g, 0, none⟩), .map (some wc.heap.size), .bool false] 102) = W7) (hz3 : ∃ cs, w3.heap[w.heap.size + 1]? = some (.cells cs 28 (0, 0))) :
 Nl w W7 base (wc.heap.size + 1) wc.heap.size g v v' lv vo vu p q id E es 0 := by
 obtain ⟨cs, hz⟩ := hz3
 have b1 := alloc_below wc (.map #[] 0)
 have z1 : (wc.alloc (.map #[] 0)).heap.size = wc.heap.size + 1 := by simp
 have b2 := alloc_below (wc.alloc (.map #[] 0)) (.cells #[.int .u8 p.f, .int .i64 p.n, .int .i64 p.k, .int .i64 p.t, .int .i64 p.s, .int .i64 p.e, .int .i64 p.d, .int .i64 p.w, .int .i64 q.inp, vo, vu, .int .i64 id, .pointer (some ⟨g, 0, none⟩), .map (some wc.heap.size), .bool false] 102)
 have n2 := heap_alloc_new (wc.alloc (.map #[] 0)) (.cells #[.int .u8 p.f, .int .i64 p.n, .int .i64 p.k, .int .i64 p.t, .int .i64 p.s, .int .i64 p.e, .int .i64 p.d, .int .i64 p.w, .int .i64 q.inp, vo, vu, .int .i64 id, .pointer (some ⟨g, 0, none⟩), .map (some wc.heap.size), .bool false] 102)
 rw [z1] at n2
 rw [hW] at b2 n2
 have hb := Below.next b1 b2
 have s3 := hm.kq.size
 have sc := h.kq.size
 have hmp := (mpw_new wc w.heap.size).below b2
 have keep : ∀ {B s n : Nat} {T : TypeId} {x : Value} {xs : List Value}, w3.ownsRow B T s x n xs -> 28 ≠ T -> W7.ownsRow B T s x n xs := fun ho hT => own_below (h.kq.own ho (fun j hj => ⟨(ho.lt j hj).2, fun e => own_notO ho hz hT (by rw [hj, e])⟩)) hb
 refine ⟨⟨n2, hmp, own_below (own_mono h.ops s3) hb, own_below (own_mono h.outs s3) hb, by omega, by omega⟩, ⟨keep hr.row (by decide), fun e he => keep (hr.each e he) (by decide), hr.by_⟩, ?_, ?_⟩
 · exact (hd.kept h.kq ⟨hd.lt, by omega⟩ (fun j hj => ⟨(hd.own_lt j hj).2, hv j hj⟩)).below hb
 · exact (⟨hm.kq.trans (h.kq.mono (fun j hj => ⟨by have := hj.1; omega, by have := hj.1; omega⟩)), hm.new⟩ : Mv w wc g v v').next hb
end
theorem gNew24 {w : World} {base g : Nat} {v : Value} {D : Dsk} (hd : Hd w base g v D) (hb : base <= w.heap.size) (hnn : D.n < 4611686018427387904) (p : Pn) (q : Pr) (vq : Value) (id : Int) (hp : Ok8p p) (hq : ∀ W, Below base w W -> Pm W vq q) :
 Calls Tryz.prog 9 #[plv p, vq, .int .i64 id, .pointer (some ⟨g, 0, none⟩)] w fun e w' => ∃ v' r, e = .returned (.tuple #[r, .int .i64 (nwE p q id D)]) ∧ Hd w' base g v' (nwN p q id D) ∧ Mv w w' g v v' ∧
  ((nwE p q id D ≠ 0 ∧ r = .pointer none) ∨ (nwE p q id D = 0 ∧ Wf p q id ∧ ∃ kb mb vo vu, r = .pointer (some ⟨kb, 0, none⟩) ∧ Wp w' w.heap.size kb mb g vo vu p q id (nwW p id D))) := by
 obtain ⟨vo, vu, rfl, ho, hu⟩ := (hq w (Below.refl _ _)).form
 obtain ⟨ao, ca, rfl, _⟩ := ho.spell
 obtain ⟨au, cu, rfl, _⟩ := hu.spell
 have HQ := hide (hq w (Below.refl _ _))
 have HLo := hide (fun W (hB : Below base w W) => show Lm opw 4 W (.slice ao q.ops.length ca) q.ops ∧ Lm iw 1 W (.slice au q.outs.length cu) q.outs from by
  obtain ⟨x, y, e, h1, h2⟩ := (hq W hB).form
  injection e with e
  injection e with e
  injection e with _ e
  injection e with e1 e
  injection e with e2 _
  subst e1 e2
  exact ⟨h1, h2⟩)
 have HD := hide hd
 obtain ⟨x0, x1, _⟩ := alloc2 w (.cells #[.int .u8 p.f, .int .i64 p.n, .int .i64 p.k, .int .i64 p.t, .int .i64 p.s, .int .i64 p.e, .int .i64 p.d, .int .i64 p.w] 24) (.cells #[.int .i64 q.inp, .slice ao q.ops.length ca, .slice au q.outs.length cu] 28)
 obtain ⟨W1, hW, hA, hS⟩ := pq_box w p q.inp (.slice ao q.ops.length ca) (.slice au q.outs.length cu) 24 28
 rw [hW] at x0 x1
 have HX := hide (fun W (hB : Below W1.heap.size W1 W) => (⟨(hB.block _ (Array.getElem?_eq_some_iff.1 x0).1).trans x0, (hB.block _ (Array.getElem?_eq_some_iff.1 x1).1).trans x1⟩ : W.heap[w.heap.size]? = some _ ∧ W.heap[w.heap.size + 1]? = some _))
 have HW := hide hW
 have HS := hide hS
 have HA := hide hA
 clear x0 x1
 have HT := hide (gDisk (hd.below hA))
 have HMk := hide (fun W (hB : Below w.heap.size w W) => gMayBe p q _ id W hp ((hq w (Below.refl _ _)).below hB))
 have HO := hide (fun W (hB : Below w.heap.size w W) => gJopen (hd.below hB) (Nat.le_trans hb hB.size) hnn)
 obtain ⟨⟨c0, c1, c2, c3, c4, c5, c6, c7⟩, d0, d1, d2⟩ := HS.out _ (Below.refl _ _)
 have HBb := hide hb
 rw [plan_eq] at *
 clear hW hS ho hu hq hA hd hb
 unfold nwE nwN
 cases hk : mkB p q id with
 | false =>
  rw [hk] at HMk
  rw [if_neg (by decide), if_neg (by decide)]
  clear hk hnn
  go_enter Tryz.func9, Tryz.ntmps9
  go_upto_region 1 with fail
  rw [HW.out]
  go_wp2_with (first
   | (go_at_call 39; refine HT.out.mono ?_; rintro e w1 ⟨rfl, hw1⟩; rw [hw1]; clear hw1)
   | (go_at_call 40; refine (HMk.out _ HA.out).mono ?_; rintro e w2 ⟨rfl, hb2⟩; have hB2 := Below.next HA.out hb2))
  go_ret2
  exact ⟨v, _, rfl, HD.out.below hB2, Mv.of_below _ _ hB2, .inl ⟨by decide, rfl⟩⟩
 | true =>
  have hwf := wf_of hp HQ.out hk
  rw [hk] at HMk
  rw [if_pos rfl, if_pos rfl]
  clear hk hnn
  by_cases he : opE23 sum8 D = 0
  · rw [he] at HO ⊢
    generalize opN23 sum8 D = E at *
    go_enter Tryz.func9, Tryz.ntmps9
    go_upto_region 1 with fail
    rw [HW.out]
    go_upto_region 8 with (first
     | (go_at_call 39; refine HT.out.mono ?_; rintro e w1 ⟨rfl, hw1⟩; rw [hw1]; clear hw1)
     | (go_at_call 40; refine (HMk.out _ HA.out).mono ?_; rintro e w2 ⟨rfl, hb2⟩; have hB2 := Below.next HA.out hb2; have HO2 := hide (HO.out _ hB2))
     | (go_at_call 41; refine HO2.out.mono ?_; rintro e w3 ⟨v3, l3, e3, rfl, hn3, hm3, hr3, hq3⟩; obtain ⟨a3, k3, hv3, _⟩ := own_spellO hr3.row; subst hv3))
    obtain ⟨y0, y1⟩ := HX.out w2 hb2
    have hd2 := HD.out.below hB2
    have z0 := hd2.apart hm3 y0 (by decide) (by decide)
    have z1 := hd2.apart hm3 y1 (by decide) (by decide)
    have hB3 : Below base w w3 := (hB2.mono HBb.out).trans (hm3.below (Nat.le_trans HBb.out hB2.size) hd2.low (fun j hj => (hd2.own_lt j hj).1))
    have hs3 : w.heap.size + 1 < w3.heap.size := (Array.getElem?_eq_some_iff.1 z1).1
    have hS3 := hm3.kq.size
    have HCo := hide (lCloneO _ q.ops w3.drew (HLo.out _ hB3.drew).1 hwf.lo)
    have HCu := hide (fun W (hB : Below w3.heap.size w3.drew W) => lCloneI _ q.outs W (HLo.out _ (hB3.drew.trans (hB.mono (by have := hB2.size; have := HBb.out; omega)))).2 hwf.lu)
    obtain ⟨cw0, cw1, cw2⟩ := cell3 z1
    have fw : ∀ k, w3.frozen? ⟨w.heap.size + 1, k, none⟩ = false := fun k => Lib.frozen_of_heap z1 k
    have HZ := hide (fun W (hB : Below w3.heap.size w3 W) => (⟨(hB.block _ (Array.getElem?_eq_some_iff.1 z0).1).trans z0, (hB.block _ (Array.getElem?_eq_some_iff.1 z1).1).trans z1⟩ : W.heap[w.heap.size]? = some _ ∧ W.heap[w.heap.size + 1]? = some _))
    clear y0 y1
    go_cut [] from 35 to 42 (fun wx => ∃ vo' vu', Hid (Nw w3 wx w.heap.size p q vo' vu'))
    case first =>
     go_region_with (first
      | (go_at_call 42; refine HCo.out.mono ?_; rintro e w4 ⟨v4, rfl, ho4, hb4⟩; obtain ⟨a4, k4, rfl⟩ := own_slice ho4; obtain ⟨e0, e1, e2⟩ := cell3 (HZ.out w4 ((Below.refl _ _).drew.trans hb4)).2; have f4 := fun k => Lib.frozen_of_heap (HZ.out w4 ((Below.refl _ _).drew.trans hb4)).2 k)
      | (go_at_call 43; refine (HCu.out _ hb4).mono ?_; rintro e w5 ⟨v5, rfl, ho5, hb5⟩; obtain ⟨a5, k5, rfl⟩ := own_slice ho5; have hz5 := HZ.out w5 (((Below.refl _ _).drew.trans hb4).trans (hb5.mono hb4.size)); obtain ⟨g0, g1, g2⟩ := cell3 hz5.2; have f5 := fun k => Lib.frozen_of_heap hz5.2 k))
     all_goals
      go_wp2
      go_meet
      exact ⟨_, _, nw_set z0 z1 ((Below.refl _ _).drew.trans hb4) hb5 ho4 ho5⟩
    obtain ⟨vo', vu', HN⟩ := hcut
    obtain ⟨ao', ca', hvo⟩ := own_slice HN.out.ops
    obtain ⟨au', cu', hvu⟩ := own_slice HN.out.outs
    subst hvo hvu
    obtain ⟨p0, p1, p2, p3, p4, p5, p6, p7⟩ : wc.cell? ⟨w.heap.size, 0, none⟩ = some (.int .u8 p.f) ∧ wc.cell? ⟨w.heap.size, 1, none⟩ = some (.int .i64 p.n) ∧ wc.cell? ⟨w.heap.size, 2, none⟩ = some (.int .i64 p.k) ∧ wc.cell? ⟨w.heap.size, 3, none⟩ = some (.int .i64 p.t) ∧ wc.cell? ⟨w.heap.size, 4, none⟩ = some (.int .i64 p.s) ∧ wc.cell? ⟨w.heap.size, 5, none⟩ = some (.int .i64 p.e) ∧ wc.cell? ⟨w.heap.size, 6, none⟩ = some (.int .i64 p.d) ∧ wc.cell? ⟨w.heap.size, 7, none⟩ = some (.int .i64 p.w) := by
     have h' := HN.out.pl
     exact ⟨cell_at h' rfl, cell_at h' rfl, cell_at h' rfl, cell_at h' rfl, cell_at h' rfl, cell_at h' rfl, cell_at h' rfl, cell_at h' rfl⟩
    obtain ⟨r0, r1, r2⟩ := cell3 HN.out.pr
    clear cw0 cw1 cw2 fw
    have hmm := run_makeMap (P := Tryz.prog) 100
    have HNl := hide (fun W7 hW7 => nl_new (w := w) (W7 := W7) (id := id) HN.out (Mv.after hB2 hm3) hn3 HD.out.lt (fun j hj e => own_notO hn3.row z1 (by decide) (by rw [hj, e])) (hr3.mono hB2.size) hW7 ⟨_, z1⟩)
    go_upto_region 10 with fail
    generalize hW7 : World.alloc (World.alloc wc _) _ = W7
    have HN0 := hide (HNl.out W7 hW7)
    have hsz : (wc.alloc (.map #[] 0)).heap.size = wc.heap.size + 1 := by simp
    clear HNl p0 p1 p2 p3 p4 p5 p6 p7 r0 r1 r2 hW7 hmm HCo HCu HZ HX
    clear hsz HQ HLo HD HMk HO HT HO2 HS HBb HA HN hb2 hB2 hn3 hm3 hr3 hd2 z0 z1 hB3 hs3 hS3
    generalize wc.heap.size = mb at *
    generalize hkb : mb + 1 = kb at *
    clear hkb wc
    have HQ3 := hide hq3
    clear hq3
    obtain ⟨n3, Hn3⟩ : ∃ n3, Hid (e3.length = n3) := ⟨_, rfl⟩
    have hN3 : n3 <= 9223372036854775807 := by
     rw [<- Hn3.out]
     rcases HN0.out.rl.row.2 with ⟨_, h0⟩ | ⟨_, _, _, _, _, _, h4, h5, _⟩
     · omega
     · unfold maxLen at h5; omega
    rw [Hn3.out] at HN0 ⊢
    go_wp2
    go_loopw [52] (fun vi wr => ∃ k : Nat, k <= n3 ∧ vi = .int .i64 (k : Int) ∧ Hid (Nl w wr base kb mb g v v3 (.slice a3 n3 k3) (.slice ao' q.ops.length ca') (.slice au' q.outs.length cu') p q id E e3 k)) (fun vi _ => n3 - (intOf vi).toNat)
    case atStart => exact ⟨0, Nat.zero_le _, rfl, HN0⟩
    case round =>
     clear HN0
     obtain ⟨k, hk, rfl, HL⟩ := hrel
     by_cases hlt : k < n3
     · have hlt' : k < e3.length := by rw [Hn3.out]; exact hlt
       have ii0 : (0 : Int) <= (k : Int) := by omega
       have ii1 : (k : Int) < (n3 : Int) := by omega
       obtain ⟨ar, cr, ear, _, hsp⟩ := own_spellO HL.out.rl.row
       rw [Hn3.out] at ear hsp
       obtain ⟨r, erk, _⟩ := hsp (by omega)
       injection ear with ear _ ear2
       subst ear2
       subst ear
       subst erk
       have hrow := HL.out.rl.row
       rw [Hn3.out] at hrow
       have c0 : wr.cell? ⟨r, k, none⟩ = some e3[k].2 := own_atO hrow (by rw [List.getElem?_map, List.getElem?_eq_getElem hlt']; rfl)
       have hrb := HL.out.rl.rb hlt'
       obtain ⟨ub, uc, hub, _⟩ := hrb.spell
       have HSh := hide (gShareIn HL.out.wp hrb)
       have hy := hrb.by
       rw [hub] at c0 HSh
       have hwst := Wst.hldW (id := id) w p.f p.w ((e3.map (·.1)).take k) (fun x hx => by
        obtain ⟨y, hy, rfl⟩ := List.mem_map.1 (List.mem_of_mem_take hx)
        exact (HL.out.rl.by_ y hy).1)
       have hlen := hwst.len
       have HSm := hide (fun W (hB : Below wr.heap.size wr W) hs => (HL.out.below hB).same hlt' hs)
       have HHd := hide (fun W W' (hB : Below wr.heap.size wr W) hs hw hq => (HL.out.below hB).held (W' := W') hlt' hs hw hq)
       have HGh := hide (fun W (hB : Below wr.heap.size wr W) s8 (ho : W.ownsRow wr.heap.size 83 1 s8 (mrM sum8 e3[k].1).l.length (vals (mrM sum8 e3[k].1).l)) (hr : -9223372036854775808 <= (mrM sum8 e3[k].1).r ∧ (mrM sum8 e3[k].1).r <= 9223372036854775807) => gHold (HL.out.below hB).wp (Nat.le_trans HL.out.mv.kq.size hB.size) (mrM sum8 e3[k].1) s8 hr (own_mono ho HL.out.mv.kq.size) (by show (hldW sum8 p.f p.w id ((e3.map (·.1)).take k)).length < maxLen; unfold maxLen; omega))
       have hrr := fun hs => (sh_facts (id := id) (f := p.f) (wd := p.w) hy hs).1
       clear hrow hrb hub hwst hlen hy HL
       generalize e3[k].1.length = nb at *
       cases hs : shB sum8 p.f p.w id e3[k].1 with
       | false =>
        rw [hs] at HSh
        have HSm := hide (fun W hB => HSm.out W hB hs)
        clear HHd HGh hrr hs
        generalize mrM sum8 e3[k].1 = m at *
        go_wp2_with (go_at_call 44; refine HSh.out.mono ?_; rintro e w8 ⟨s8, rfl, ho8, hb8⟩; obtain ⟨a8, k8, rfl⟩ := own_form ho8; unfold mgv mgc)
        go_roundw
        case rel => exact ⟨k + 1, by omega, by go_num, HSm.out _ (Below.next hb8 (alloc_below _ _))⟩
        case measure => simp [intOf]; omega
       | true =>
        rw [hs] at HSh
        obtain ⟨r0, r1⟩ := hrr hs
        have HHd := hide (fun W W' hB hw hq => HHd.out W W' hB hs hw hq)
        clear HSm hrr hs
        generalize hm : mrM sum8 e3[k].1 = m at *
        clear hm
        go_wp2_with (first
         | (go_at_call 44; refine HSh.out.mono ?_; rintro e w8 ⟨s8, rfl, ho8, hb8⟩; have al8 := alloc_below w8 (.cells #[.int .u8 m.k, .int .i64 m.r, .int .i64 m.v, .int .u8 m.f, s8] 74); have hB9 := Below.next hb8 al8; have HG9 := hide (HGh.out _ hB9 s8 (own_below ho8 al8) ⟨by omega, by omega⟩); have hm9 := (mb_new w8 m s8).cells; obtain ⟨a8, k8, rfl⟩ := own_form ho8; obtain ⟨t0, t1, t2, t3, t4⟩ := hm9; unfold mgv mgc at HG9 ⊢)
         | (go_at_call 45; refine HG9.out.mono ?_; rintro e w9 ⟨rfl, hw9, hk9⟩))
        go_roundw
        case rel => exact ⟨k + 1, by omega, by go_num, HHd.out _ _ hB9 hw9 hk9⟩
        case measure => simp [intOf]; omega
     · obtain rfl : k = n3 := by omega
       have e9 : (e3.map (·.1)).take k = opR23 sum8 D := by
        rw [HQ3.out, List.take_of_length_le]
        have := congrArg List.length HQ3.out
        rw [List.length_map, Hn3.out] at this
        omega
       have hw9 := HL.out.wp
       rw [e9] at hw9
       have HW9 := hide hw9
       have hd9 := HL.out.hd
       have hm9 := HL.out.mv
       clear hw9 HL e9
       go_wp2
       go_ret2
       exact ⟨v3, _, rfl, hd9, hm9, .inr ⟨by first | trivial | rfl, hwf, kb, mb, _, _, rfl, HW9.out⟩⟩
  · have q0 : (opE23 sum8 D != 0) = true := bne_iff_ne.2 he
    generalize opE23 sum8 D = er at *
    generalize opN23 sum8 D = E at *
    go_enter Tryz.func9, Tryz.ntmps9
    go_upto_region 1 with fail
    rw [HW.out]
    go_wp2_with (first
     | (go_at_call 39; refine HT.out.mono ?_; rintro e w1 ⟨rfl, hw1⟩; rw [hw1]; clear hw1)
     | (go_at_call 40; refine (HMk.out _ HA.out).mono ?_; rintro e w2 ⟨rfl, hb2⟩; have hB2 := Below.next HA.out hb2; have HO2 := hide (HO.out _ hB2))
     | (go_at_call 41; refine HO2.out.mono ?_; rintro e w3 ⟨v3, l3, e3, rfl, hn3, hm3, hr3, hq3⟩; obtain ⟨a3, k3, hv3, _⟩ := own_spellO hr3.row; subst hv3))
    go_ret2
    exact ⟨v3, _, rfl, hn3, Mv.after hB2 hm3, .inl ⟨he, rfl⟩⟩
end Go.Proofs.YtipobchbnjgenaaGreat
