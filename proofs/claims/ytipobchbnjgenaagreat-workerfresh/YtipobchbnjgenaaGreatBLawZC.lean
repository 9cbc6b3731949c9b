import Derived.Test.YtipobchbnjgenaaGreatBWkdF
import Derived.Test.YtipobchbnjgenaaGreatBOpenB
import Derived.Test.YtipobchbnjgenaaGreatBWkrShf
set_option linter.unusedVariables false
set_option linter.unusedSimpArgs false
set_option maxRecDepth 100000
set_option maxHeartbeats 4000000
namespace Go.Proofs.YtipobchbnjgenaaGreat
open Go.RowKit Fld Slp Pln
theorem rd_by {S : List Int -> Int} : ∀ (k : Nat) (zs : List Int), By zs -> ∀ r ∈ jrR S k zs, By r
 | 0, _, _, r, hr => by cases hr
 | k + 1, zs, hz, r, hr => by
  unfold jrR at hr
  split at hr
  · rcases List.mem_cons.1 hr with rfl | hr
    · unfold Fld.usL
      split
      · exact fun x hx => hz x (List.mem_of_mem_drop (List.mem_of_mem_take hx))
      · exact By.nil
    · exact rd_by k _ (fun x hx => hz x (List.mem_of_mem_drop hx)) r hr
  · cases hr
theorem nw_wst (w : World) {D : Dsk} (h : Dok D) (p : Pn) (id : Int) : Wst (nwW p id D).L := by
 refine Wst.hldW w p.f p.w _ (fun r hr => ?_)
 unfold opR23 at hr
 split at hr
 · exact rd_by _ _ (fun x hx => by
    obtain ⟨b, hb, hx⟩ := List.mem_flatten.1 hx
    exact h.byt b hb x hx) r hr
 · cases hr
def Bx4 (W : World) (b : Nat) (s : Sq4) : Prop := W.heap[b]? = some (.cells #[.int .u8 s.c, .int .i64 s.n, s.u] 32 (0, 0))
theorem Bx4.cells {W : World} {b : Nat} {s : Sq4} (h : Bx4 W b s) : W.cell? ⟨b, 0, none⟩ = some (.int .u8 s.c) ∧ W.cell? ⟨b, 1, none⟩ = some (.int .i64 s.n) ∧ W.cell? ⟨b, 2, none⟩ = some s.u := by
 have h' : W.heap[b]? = some (.cells #[.int .u8 s.c, .int .i64 s.n, s.u] 32 (0, 0)) := h
 refine ⟨?_, ?_, ?_⟩ <;> simp [World.cell?, h']
theorem Bx4.below {W W' : World} {b : Nat} {s : Sq4} (h : Bx4 W b s) (hb : Below W.heap.size W W') : Bx4 W' b s := (hb.block b (Array.getElem?_eq_some_iff.1 h).1).trans h
theorem bx4_new (W : World) (s : Sq4) : Bx4 (W.alloc (.cells #[.int .u8 s.c, .int .i64 s.n, s.u] 32)) W.heap.size s := heap_alloc_new W _
theorem Scr4.sq {w wr : World} {b off n cap k : Nat} {ss : List Sq4} (h : Scr4 w (.slice (some ⟨b, off, none⟩) n cap) ss) (hb : Below w.heap.size w wr) (hk : k < ss.length) :
 wr.cell? ⟨b, off + k * 3, none⟩ = some (.int .u8 ss[k].c) ∧ wr.cell? ⟨b, off + k * 3 + 1, none⟩ = some (.int .i64 ss[k].n) ∧ wr.cell? ⟨b, off + k * 3 + 2, none⟩ = some ss[k].u := by
 have hx : ss[k]? = some ss[k] := List.getElem?_eq_getElem hk
 have key : ∀ i u, (sqc4 ss[k])[i]? = some u -> wr.cell? ⟨b, off + (k * 3 + i), none⟩ = some u := fun i u hu => by
  obtain ⟨hbl, hc⟩ := h.lm.at_ hx hu
  exact (hb.cell (p := ⟨b, off + (k * 3 + i), none⟩) hbl).trans hc
 exact ⟨key 0 _ rfl, key 1 _ rfl, key 2 _ rfl⟩
structure Both (w W : World) (base g gt xb : Nat) (vo vu : Value) (p : Pn) (q : Pr) (id : Int) (E : Dsk) (r : Value) (er : Int) : Prop where
 two : TwoD w W base g gt E
 box : ∃ cs, W.heap[xb]? = some (.cells cs 45 (0, 0)) ∧ cs.size = 14
 low : base <= xb
 no : er ≠ 0 -> r = .pointer none
 ok : er = 0 -> Wf p q id ∧ ∃ kb st, r = .pointer (some ⟨kb, 0, none⟩) ∧ Wst st.L ∧ TwoW w W base g gt kb xb vo vu p q id E st
section
variable {w W W' W2 W3 : World} {base g gt xb : Nat} {vo vu r x v v2 u u3 : Value} {p : Pn} {q : Pr} {id er : Int} {D E : Dsk}
theorem Both.below (h : Both w W base g gt xb vo vu p q id E r er) (hb : Below W.heap.size W W') : Both w W' base g gt xb vo vu p q id E r er := by
 obtain ⟨cs, h1, h2⟩ := h.box
 refine ⟨h.two.below hb, ⟨cs, (hb.block _ (Array.getElem?_eq_some_iff.1 h1).1).trans h1, h2⟩, h.low, h.no, fun e => ?_⟩
 obtain ⟨hf, kb, st, e1, h3, h4⟩ := h.ok e
 exact ⟨hf, kb, st, e1, h3, h4.below hb⟩
theorem new_cells (h : (er ≠ 0 ∧ x = .agg wz24) ∨ (er = 0 ∧ ∃ lv es, x = .agg (wyc p q vo vu id lv false) ∧ Hl W base lv es (nwW p id D).L)) (ho : ∃ a n c, vo = .slice a n c) (hu : ∃ a n c, vu = .slice a n c) :
 ∃ (i0 i1 i2 i3 i4 i5 i6 i7 i8 i11 : Int) (a1 a2 a3 : Option Addr) (n1 c1 n2 c2 n3 c3 : Nat), x = .agg #[.int .u8 i0, .int .i64 i1, .int .i64 i2, .int .i64 i3, .int .i64 i4, .int .i64 i5, .int .i64 i6, .int .i64 i7, .int .i64 i8, .slice a1 n1 c1, .slice a2 n2 c2, .int .i64 i11, .slice a3 n3 c3, .bool false] := by
 rcases h with ⟨_, rfl⟩ | ⟨_, lv, es, rfl, hl⟩
 · exact ⟨_, _, _, _, _, _, _, _, _, _, _, _, _, _, _, _, _, _, _, rfl⟩
 · obtain ⟨a1, n1, c1, rfl⟩ := ho
   obtain ⟨a2, n2, c2, rfl⟩ := hu
   obtain ⟨a3, c3, rfl, _⟩ := own_spellO hl.row
   exact ⟨_, _, _, _, _, _, _, _, _, _, _, _, _, _, _, _, _, _, _, rfl⟩
theorem new_agg (h : (er ≠ 0 ∧ x = .agg wz24) ∨ (er = 0 ∧ ∃ lv es, x = .agg (wyc p q vo vu id lv false) ∧ Hl W base lv es (nwW p id D).L)) (ho : ∃ a n c, vo = .slice a n c) (hu : ∃ a n c, vu = .slice a n c) : ∃ cs, x = .agg cs ∧ cs.size = 14 ∧ cs.all (·.oneCell') = true := by
 obtain ⟨_, _, _, _, _, _, _, _, _, _, _, _, _, _, _, _, _, _, _, rfl⟩ := new_cells h ho hu
 exact ⟨_, rfl, rfl, by simp [Value.oneCell']⟩
theorem both_new (hp : Hd W base g v D) (hd : Dy W base gt u D) (hl : Below base w W) (hs : base <= W.heap.size) (n2 : Hd W2 base g v2 (nwN p q id D)) (m2 : Mv W W2 g v v2)
 (k2 : (nwE p q id D ≠ 0 ∧ r = .pointer none) ∨ (nwE p q id D = 0 ∧ Wf p q id ∧ ∃ kb mb vo' vu', r = .pointer (some ⟨kb, 0, none⟩) ∧ Wp W2 W.heap.size kb mb g vo' vu' p q id (nwW p id D)))
 (n3 : Dy W3 base gt u3 (nwN p q id D)) (m3 : Mv W2 W3 gt u u3)
 (x3 : (nwE p q id D ≠ 0 ∧ x = .agg wz24) ∨ (nwE p q id D = 0 ∧ ∃ lv es, x = .agg (wyc p q vo vu id lv false) ∧ Hl W3 W2.heap.size lv es (nwW p id D).L))
 {cs : Array Value} (hx : x = .agg cs) (hW : Kq (fun j => j ≠ xb) W3 W') (hbx : W'.heap[xb]? = some (.cells cs 45 (0, 0))) (hlow : base <= xb) (hold : xb < W3.heap.size -> ∃ c0, W3.heap[xb]? = some (.cells c0 45 (0, 0))) :
 Both w W' base g gt xb vo vu p q id (nwN p q id D) r (nwE p q id D) := by
 have hT := two_step2 (w := w) hp hd hl hs n2 m2 n3 m3
 have s2 := m2.kq.size
 have s3 := m3.kq.size
 have sW := hW.size
 have hne : ∀ {T : TypeId} {lo s n : Nat} {y : Value} {xs : List Value}, W3.ownsRow lo T s y n xs -> 45 ≠ T -> ∀ j, y.ownBlock = some j -> j ≠ xb := fun ho hT j hj e => by
  subst e
  obtain ⟨c0, h0⟩ := hold (ho.lt j hj).2
  exact own_notO ho h0 hT hj
 have hneb : ∀ {j : Nat} {o : Obj}, W3.heap[j]? = some o -> (∀ c0, o ≠ .cells c0 45 (0, 0)) -> j ≠ xb := fun {j} {o} hj ho e => by
  subst e
  obtain ⟨c0, h0⟩ := hold (Array.getElem?_eq_some_iff.1 hj).1
  rw [hj] at h0
  injection h0 with h0
  exact ho c0 h0
 have hy2 := hd.mv hp m2
 have nP3 := n2.mvy hy2 m3
 obtain ⟨ds, n3'⟩ := n3
 have nP : Hd W' base g v2 (nwN p q id D) := nP3.kept hW (hneb nP3.dsk (fun c0 e => by simp at e)) (fun j hj => hne nP3.row (by decide) j hj)
 have nD : Dr W' base gt u3 (nwN p q id D) ds := n3'.kept hW (hneb n3'.dsk (fun c0 e => by simp at e)) (fun j hj => hne n3'.row (by decide) j hj) (fun e he j hj => hne (n3'.each e he) (by decide) j hj)
 have hlW : Below base w W' := hT.low.trans (hW.below (fun j hj => by omega))
 have hsW : base <= W'.heap.size := Nat.le_trans hT.sz sW
 refine ⟨⟨⟨v2, nP⟩, ⟨u3, ds, nD⟩, hlW, hsW⟩, ⟨cs, hbx, ?_⟩, hlow, fun e => ?_, fun e => ?_⟩
 · rcases x3 with ⟨_, rfl⟩ | ⟨_, lv, es, rfl, _⟩ <;> (injection hx with hx; rw [<- hx]; rfl)
 · rcases k2 with ⟨_, e2⟩ | ⟨e2, _⟩
   · exact e2
   · exact absurd e2 e
 · rcases k2 with ⟨e2, _⟩ | ⟨_, hf, kb, mb, vo', vu', e2, hw⟩
   · exact absurd e e2
   · rcases x3 with ⟨e3, _⟩ | ⟨_, lv, es, e3, hh⟩
     · exact absurd e e3
     · have hw3 := (hw.mvy hy2 m3).mono hs
       obtain ⟨es', c, ho'⟩ := hw3.map.obj
       have hwW : Wp W' base kb mb g vo' vu' p q id (nwW p id D) := hw3.kept hW (hneb hw3.blk (fun c0 e => by simp at e)) (hneb ho' (fun c0 e => by cases e)) (fun T s y n xs hT ho j hj => hne ho (by rcases hT with rfl | rfl | rfl <;> decide) j hj)
       have hhW := (hh.kept hW (fun T s y n xs hT ho j hj => hne ho (by rcases hT with rfl | rfl <;> decide) j hj)).mono (Nat.le_trans hs s2)
       have ecs : cs = wyc p q vo vu id lv false := by
        rw [hx] at e3
        injection e3
       subst ecs
       exact ⟨hf, kb, nwW p id D, e2, nw_wst w hp.o p id, ⟨v2, nP⟩, ⟨u3, ds, nD⟩, ⟨mb, vo', vu', hwW⟩, ⟨lv, es, hbx, hhW, hlow⟩, hlW, hsW⟩
end
theorem onL_by {F : List Int -> List Int} {f wd id : Int} {st : Wk} {D : Dsk} {b : List Int} : By (onL sum8 f wd id F st D b) ∧ (onL sum8 f wd id F st D b).length <= 140737488500000 := by
 unfold onL
 split
 · have := mw_by (m := onM sum8 f id F b)
   exact ⟨this.1, by have := this.2; omega⟩
 · exact ⟨By.nil, by simp⟩
section
variable {w W : World} {g gt kb xb bo : Nat} {vo vu : Value} {p : Pn} {q : Pr} {id : Int} {E : Dsk} {st : Wk} {s : Sq4}
theorem both_on (hwf : Wf p q id) (hst : Wst st.L) (hT : TwoW w W w.heap.size g gt kb xb vo vu p q id E st) (hbx : Bx4 W bo s) (hpm : ∀ V, Below w.heap.size w V -> Pm V (.agg #[.int .i64 q.inp, vo, vu]) q) (hnn : E.n + 100000 < 4611686018427387904) (hu : ∀ V, Below w.heap.size w V -> Rb V s.u s.bs) (hul : s.bs.length <= 140737488351232) :
 Calls Tryz.prog 11 #[.pointer (some ⟨kb, 0, none⟩), s.u] W fun e w2 => ∃ a c, e = .returned (.tuple #[.slice a (onL sum8 p.f p.w id (rpL p q) st E s.bs).length c, .int .i64 (onE sum8 p.f p.w id st E s.bs)]) ∧ w2.cell? ⟨bo, 2, none⟩ = some s.u ∧
  Calls Tryz.prog 12 #[.pointer (some ⟨xb, 0, none⟩), .pointer (some ⟨gt, 0, none⟩), s.u] w2 fun e w3 => ∃ a3 c3, e = .returned (.tuple #[.slice a3 (onL sum8 p.f p.w id (rpL p q) st E s.bs).length c3, .int .i64 (onE sum8 p.f p.w id st E s.bs)]) ∧
   Rb w3 (.slice a (onL sum8 p.f p.w id (rpL p q) st E s.bs).length c) (onL sum8 p.f p.w id (rpL p q) st E s.bs) ∧ Rb w3 (.slice a3 (onL sum8 p.f p.w id (rpL p q) st E s.bs).length c3) (onL sum8 p.f p.w id (rpL p q) st E s.bs) ∧
   Both w w3 w.heap.size g gt xb vo vu p q id (onN sum8 p.f p.w id st E s.bs) (.pointer (some ⟨kb, 0, none⟩)) 0 := by
 obtain ⟨⟨v, hp⟩, ⟨u, hd⟩, ⟨mb, vo', vu', hk⟩, ⟨lv, es, hx⟩, hl, hs⟩ := hT
 refine (gOn hk hp hwf hst hs hnn (hu W hl)).mono fun e w2 ⟨v2, u2, e1, hk2, hp2, ho2, hE⟩ => ?_
 have hx2 := hx.ev hk hp hE
 have hd2 := hd.ev hk hp hE
 have hb2 := ev_blk hbx (by decide) (by decide) (by decide) hk hp hE
 have hl2 : Below w.heap.size w w2 := hl.trans (hE.below hs hk.lowk hk.lowm hp.low (fun j hj => (hp.own_lt j hj).1))
 have hs2 : w.heap.size <= w2.heap.size := Nat.le_trans hs hE.kq.size
 obtain ⟨a2, c2, hu2⟩ := own_form ho2
 rw [hu2] at e1 ho2
 refine ⟨a2, c2, e1, (Bx4.cells (s := s) hb2).2.2, ?_⟩
 refine (dOn24 hx2 hd2 hwf hst hnn (fun V hV => hpm V (hl2.trans hV)) (hu w2 hl2) hul).mono fun e w3 ⟨v3, lv3, es3, u3, e3, hx3, hd3, ho3, hX⟩ => ?_
 obtain ⟨a3, c3, hu3⟩ := own_form ho3
 rw [hu3] at e3 ho3
 have hk3 := hk2.ex hx2 hd2 hX
 have hp3 := hp2.ex hx2 hd2 hX
 have ho23 := ex_row ho2 (by decide) (by decide) (by decide) (by decide) hx2 hd2 hX
 have hl3 : Below w.heap.size w w3 := hl2.trans (hx2.exb hd2 hX)
 have hs3 : w.heap.size <= w3.heap.size := Nat.le_trans hs2 hX.kq.size
 obtain ⟨hby, hle⟩ := onL_by (F := rpL p q) (f := p.f) (wd := p.w) (id := id) (st := st) (D := E) (b := s.bs)
 have hy := (hu w (Below.refl _ _)).by
 exact ⟨a3, c3, e3, rb_of_own ho23 hby (by omega), rb_of_own ho3 hby (by omega), ⟨⟨v2, hp3⟩, ⟨v3, hd3⟩, hl3, hs3⟩, ⟨_, hx3.blk, rfl⟩, hx3.low, fun h => absurd rfl h, fun _ => ⟨hwf, kb, _, rfl, hst.onW w hy, ⟨v2, hp3⟩, ⟨v3, hd3⟩, ⟨mb, vo', vu', hk3⟩, ⟨lv3, es3, hx3⟩, hl3, hs3⟩⟩
theorem both_fuse (hwf : Wf p q id) (hst : Wst st.L) (hT : TwoW w W w.heap.size g gt kb xb vo vu p q id E st) (hbx : Bx4 W bo s) (hn : s.n <= 9223372036854775807) :
 Calls Tryz.prog 21 #[.pointer (some ⟨g, 0, none⟩), .int .i64 s.n] W fun e w2 => e = .returned (.int .i64 (fuE s.n)) ∧ w2.cell? ⟨bo, 1, none⟩ = some (.int .i64 s.n) ∧
  Calls Tryz.prog 22 #[.pointer (some ⟨gt, 0, none⟩), .int .i64 s.n] w2 fun e w3 => e = .returned (.int .i64 (fuE s.n)) ∧ w3.cell? ⟨bo, 1, none⟩ = some (.int .i64 s.n) ∧ Both w w3 w.heap.size g gt xb vo vu p q id (fuN E s.n) (.pointer (some ⟨kb, 0, none⟩)) 0 := by
 obtain ⟨⟨v, hp⟩, ⟨u, hd⟩, ⟨mb, vo', vu', hk⟩, ⟨lv, es, hx⟩, hl, hs⟩ := hT
 refine (gFuse hp s.n hn).mono fun e w2 ⟨e1, hp2, hm⟩ => ?_
 have hx2 := hx.mvp hp hm
 have hd2 := hd.mv hp hm
 have hk2 := hk.mvd hp hm
 have hb2 : Bx4 w2 bo s := hp.apart hm hbx (by decide) (by decide)
 refine ⟨e1, hb2.cells.2.1, ?_⟩
 refine (dFuseY hd2 s.n hn).mono fun e w3 ⟨v3, e3, hd3, hm3⟩ => ?_
 have hb3 : Bx4 w3 bo s := hd2.apart hm3 hb2 (by decide) (by decide)
 have hx3 := hx2.mvd hd2 hm3
 have hk3 := hk2.mvy hd2 hm3
 have hT3 := two_step2 (w := w) hp hd hl hs hp2 hm hd3 hm3
 exact ⟨e3, hb3.cells.2.1, hT3, ⟨_, hx3.blk, rfl⟩, hx3.low, fun h => absurd rfl h, fun _ => ⟨hwf, kb, st, rfl, hst, hT3.p, hT3.d, ⟨mb, vo', vu', hk3⟩, ⟨lv, es, hx3⟩, hT3.low, hT3.sz⟩⟩
theorem both_mend (hT : TwoD w W w.heap.size g gt E) {cs : Array Value} (hb : W.heap[xb]? = some (.cells cs 45 (0, 0))) :
 Calls Tryz.prog 23 #[.pointer (some ⟨g, 0, none⟩)] W fun e w2 => e = .returned (.int .i64 0) ∧
  Calls Tryz.prog 24 #[.pointer (some ⟨gt, 0, none⟩)] w2 fun e w3 => e = .returned (.tuple #[]) ∧ TwoD w w3 w.heap.size g gt (mdN E) ∧ w3.heap[xb]? = some (.cells cs 45 (0, 0)) := by
 obtain ⟨⟨v, hp⟩, ⟨u, hd⟩, hl, hs⟩ := hT
 refine (gMend hp).mono fun e w2 ⟨e1, hp2, hm⟩ => ?_
 have hd2 := hd.mv hp hm
 have hb2 := hp.apart hm hb (by decide) (by decide)
 refine ⟨e1, ?_⟩
 refine (dMendY hd2).mono fun e w3 ⟨e3, hd3, hm3⟩ => ?_
 exact ⟨e3, two_step2 (w := w) hp hd hl hs hp2 hm hd3 hm3, hd2.apart hm3 hb2 (by decide) (by decide)⟩
end
theorem kq_alloc (W : World) (o : Obj) : Kq (fun j => j ≠ W.heap.size) W (W.alloc o) := by
 have hb := alloc_below W o
 refine ⟨hb.os, hb.tape, hb.output, hb.size, fun j hj => ?_⟩
 rcases Nat.lt_or_ge j W.heap.size with h | h
 · exact hb.block j h
 · have e1 : W.heap[j]? = none := Array.getElem?_eq_none_iff.2 h
   have e2 : (W.alloc o).heap[j]? = none := Array.getElem?_eq_none_iff.2 (by simp; omega)
   rw [e1, e2]
theorem workerPlays_any (p : Pn) (q : Pr) (vq v : Value) (ss : List Sq4) (w : World) (hp : Ok8p p) (hq : Pm w vq q) (h : Scr4 w v ss) : Calls Tryz.prog 3 #[plv p, vq, v] w fun e w' => e = .returned (.bool true) ∧ Below w.heap.size w w' := by
 obtain ⟨ao, cap, rfl, hcap⟩ := h.lm.spell
 have hlen := h.len
 have HS := hide h
 have HQ := hide (fun V (hb : Below w.heap.size w V) => hq.below hb)
 obtain ⟨vo, vu, rfl, ho, hu⟩ := hq.form
 obtain ⟨a1, ca, rfl, _⟩ := ho.spell
 obtain ⟨a2, cu, rfl, _⟩ := hu.spell
 have ga := hide (fun W => anch24 W)
 clear h hq ho hu
 obtain ⟨no, HNo⟩ : ∃ no, Hid (q.ops.length = no) := ⟨_, hide rfl⟩
 obtain ⟨nu, HNu⟩ : ∃ nu, Hid (q.outs.length = nu) := ⟨_, hide rfl⟩
 rw [HNo.out, HNu.out] at HQ ⊢
 obtain ⟨W1, hW, hA, hS⟩ := pq_box w p q.inp (.slice a1 no ca) (.slice a2 nu cu) 24 28
 have HW := hide hW
 have HX := hide hS
 have HA := hide hA
 have HQ1 := hide (fun V (hb : Below W1.heap.size W1 V) => HQ.out V (Below.next hA hb))
 obtain ⟨⟨c0, c1, c2, c3, c4, c5, c6, c7⟩, d0, d1, d2⟩ := hS W1 (Below.refl _ _)
 rw [plan_eq]
 have HN := hide (fun W => gNew22 W)
 have HD := hide (fun W => dNew22 W)
 clear hW hS hA HQ
 go_enter Tryz.func3, Tryz.ntmps3
 go_upto_region 2 with fail
 rw [HW.out]
 go_upto_if 26 with fail
 generalize hB : decide (0 < ss.length) = B at *
 go_cut [7] from 27 to 30 (fun v7 wx => ∃ id : Int, v7 = .int .i64 id ∧ wx = W1)
 case first =>
  cases B with
  | true =>
   have h0 : 0 < ss.length := of_decide_eq_true hB
   clear hB
   obtain ⟨b, off, cap', hv, _, _⟩ := HS.out.lm.form h0
   injection hv with hv1 hv2 hv3
   subst hv1 hv3
   obtain ⟨x0, x1, x2⟩ := HS.out.sq HA.out h0
   simp only [Nat.zero_mul, Nat.add_zero] at x0 x1 x2
   have i0 : (0 : Int) < (ss.length : Int) := by omega
   generalize ss[0] = s0 at *
   clear HS
   go_wp2
   go_meet
   exact ⟨_, rfl, rfl⟩
  | false =>
   clear HS hB
   go_wp2
   go_meet
   exact ⟨_, rfl, rfl⟩
 obtain ⟨id, rfl, hwc⟩ := hcut
 rw [hwc]
 clear hwc wc hB
 go_upto_region 5 with (first
  | (go_at_call 7; refine (HN.out _).mono ?_; rintro e w2 ⟨rfl, hn2, hb2⟩; have HN1 := hide hn2; clear hn2)
  | (go_at_call 8; refine (HD.out _).mono ?_; rintro e w3 ⟨rfl, hb3⟩; have HT := hide (two_newD HN1.out hb2 hb3); clear HN1 hb2 hb3))
 obtain ⟨gt, hgt⟩ : ∃ gt, w3.heap.size = gt := ⟨_, rfl⟩
 rw [hgt] at HT ⊢
 clear hgt HN HD c0 c1 c2 c3 c4 c5 c6 c7 d0 d1 d2
 generalize w3.alloc (.cells #[.slice none 0 0, .int .i64 (-1), .bool false, .int .i64 0] 37) = w4 at *
 obtain ⟨vp, hpd⟩ := HT.out.p
 obtain ⟨vd, hdd⟩ := HT.out.d
 have HG := hide (gNew24 hpd HT.out.sz (by decide) p q _ id hp (fun V hb => HQ1.out V (HT.out.low.trans hb)))
 have HDn := hide (fun W2 v2 (m2 : Mv w4 W2 W1.heap.size vp v2) => dNew24 (hdd.mv hpd m2) (Nat.le_trans HT.out.sz m2.kq.size) (by decide) p q _ _ id hp (HQ1.out W2 (HT.out.low.trans (hpd.mvb m2 HT.out.sz))))
 have HXm := hide (fun W2 v2 (m2 : Mv w4 W2 W1.heap.size vp v2) => HX.out W2 (HT.out.low.trans (hpd.mvb m2 HT.out.sz)))
 have hn0 := nwN_n (p := p) (q := q) (id := id) (D := dk0)
 have hn0' : (nwN p q id dk0).n <= 100000 := by have : dk0.n = 0 := rfl; omega
 have HBo := hide (fun W2 v2 r (n2 : Hd W2 W1.heap.size W1.heap.size v2 (nwN p q id dk0)) (m2 : Mv w4 W2 W1.heap.size vp v2) k2 W3 u3 x (n3 : Dy W3 W1.heap.size gt u3 (nwN p q id dk0)) (m3 : Mv W2 W3 gt vd u3) x3 cs hx => both_new (w := W1) (W' := W3.alloc (.cells cs 45)) (vo := .slice a1 no ca) (vu := .slice a2 nu cu) (r := r) (x := x) (cs := cs) hpd hdd HT.out.low HT.out.sz n2 m2 k2 n3 m3 x3 hx (kq_alloc W3 _) (heap_alloc_new W3 _) (Nat.le_trans HT.out.sz (Nat.le_trans m2.kq.size m3.kq.size)) (fun h => absurd h (Nat.lt_irrefl _)))
 obtain ⟨⟨c0, c1, c2, c3, c4, c5, c6, c7⟩, d0, d1, d2⟩ := HX.out w4 HT.out.low
 rw [plan_eq] at HG HDn
 clear hpd hdd HT hn0
 generalize nwE p q id dk0 = er at *
 generalize nwN p q id dk0 = E0 at *
 go_upto_region 7 with (first
  | (go_at_call 9; refine HG.out.mono ?_; rintro e w5 ⟨v5, r5, rfl, hn5, hm5, hk5⟩; clear c0 c1 c2 c3 c4 c5 c6 c7 d0 d1 d2; obtain ⟨⟨c0, c1, c2, c3, c4, c5, c6, c7⟩, d0, d1, d2⟩ := HXm.out _ _ hm5; have HD5 := hide (HDn.out _ _ hm5))
  | (go_at_call 10; refine HD5.out.mono ?_; rintro e w6 ⟨u6, x6, rfl, hn6, hm6, hx6⟩; have HB6 := hide (HBo.out _ _ _ hn5 hm5 hk5 _ _ _ hn6 hm6 hx6); obtain ⟨i0, i1, i2, i3, i4, i5, i6, i7, i8, i11, b1, b2, b3, n1, e1, n2, e2, n3, e3, rfl⟩ := new_cells hx6 ⟨_, _, _, rfl⟩ ⟨_, _, _, rfl⟩; have HB7 := hide (HB6.out _ rfl)))
 obtain ⟨xb, hxb⟩ : ∃ xb, w6.heap.size = xb := ⟨_, rfl⟩
 rw [hxb] at HB7 ⊢
 generalize w6.alloc (.cells #[.int .u8 i0, .int .i64 i1, .int .i64 i2, .int .i64 i3, .int .i64 i4, .int .i64 i5, .int .i64 i6, .int .i64 i7, .int .i64 i8, .slice b1 n1 e1, .slice b2 n2 e2, .int .i64 i11, .slice b3 n3 e3, .bool false] 45) = w7 at *
 have hno := HB7.out.no
 have hok := HB7.out.ok
 clear HB6 HBo HXm HDn HG HD5 hx6 hk5 hn5 hm5 hn6 hm6 hxb c0 c1 c2 c3 c4 c5 c6 c7 d0 d1 d2
 go_cut [57] from 48 to 57 (fun v57 wx => v57 = .bool false ∧ wx = w7)
 case first =>
  clear HB7
  by_cases he : er = 0
  · obtain ⟨_, kb, _, rfl, _⟩ := hok he
    subst he
    clear hno hok
    go_wp2
    go_meet
    exact ⟨rfl, rfl⟩
  · have e2 := hno he
    subst e2
    have q0 : (er == 0) = false := beq_eq_false_iff_ne.2 he
    clear hno hok he
    go_wp2
    go_meet
    exact ⟨rfl, rfl⟩
 obtain ⟨rfl, hwc⟩ := hcut
 rw [hwc]
 clear hwc wc hno hok
 go_wp2
 go_loopw [10, 11, 14] (fun v10 v11 v14 wr => ∃ (k : Nat) (E : Dsk) (er : Int), k <= ss.length ∧ v14 = .int .i64 (k : Int) ∧ v11 = .int .i64 er ∧ E.n <= 300000 * (k + 1) ∧ Hid (Both W1 wr W1.heap.size W1.heap.size gt xb (.slice a1 no ca) (.slice a2 nu cu) p q id E v10 er)) (fun _ _ v14 _ => ss.length - (intOf v14).toNat)
 case atStart => exact ⟨0, _, _, Nat.zero_le _, rfl, rfl, by omega, HB7⟩
 case round =>
  clear HB7
  obtain ⟨k, E, er, hk, rfl, rfl, hEn, HB⟩ := hrel
  by_cases hlt : k < ss.length
  · by_cases he : er = 0
    · subst he
      obtain ⟨hwf, kb, st, rfl, hst, hT⟩ := HB.out.ok rfl
      have hwr := Below.next HA.out HB.out.two.low
      obtain ⟨b, off, cap', hv, _, _⟩ := HS.out.lm.form (by omega)
      injection hv with hv1 hv2 hv3
      subst hv1 hv3
      obtain ⟨y0, y1, y2⟩ := HS.out.sq hwr hlt
      have HOk := hide (HS.out.ok _ (List.getElem_mem hlt))
      have ii0 : (0 : Int) <= (k : Int) := by omega
      have ii1 : (k : Int) < (ss.length : Int) := by omega
      have hEb : E.n + 300000 < 4611686018427387904 := by omega
      have hT0 := hT.below (alloc_below wr (.cells #[.int .u8 ss[k].c, .int .i64 ss[k].n, ss[k].u] 32))
      have hb0 := HB.out.below (alloc_below wr (.cells #[.int .u8 ss[k].c, .int .i64 ss[k].n, ss[k].u] 32))
      have hbx := bx4_new wr ss[k]
      obtain ⟨bo, hbo⟩ : ∃ bo, wr.heap.size = bo := ⟨_, rfl⟩
      have hrb : ∀ V, Below W1.heap.size W1 V -> Rb V ss[k].u ss[k].bs := fun V hV => HOk.out.rb.below (Below.next HA.out hV)
      have hnn := HOk.out.n
      have hcc := HOk.out.c
      have hln := HOk.out.len
      obtain ⟨ua, uc, hue, _⟩ := HOk.out.rb.spell
      rw [hbo] at hbx
      obtain ⟨x0, x1, x2⟩ := hbx.cells
      generalize ss[k] = s at *
      have HBx := hide hbx
      have HT0 := hide hT0
      have HB0 := hide hb0
      have HRb := hide hrb
      have HF := hide hwf
      have HSt := hide hst
      clear HOk hT hT0 hb0 hbx hrb hwr hwf hst HB hv2
      obtain ⟨sc, su, sbs, sn⟩ := s
      dsimp only at *
      subst hue
      go_upto_block 2 with fail
      generalize wr.alloc (.cells #[.int .u8 sc, .int .i64 sn, .slice ua sbs.length uc] 32) = W0 at *
      clear y0 y1 y2 hbo
      go_cut [10, 11, 13, 16, 17, 18, 19, 20, 21, 22, 23] from 74 to 176 (fun v10 v11 v13 v16 v17 v18 v19 v20 v21 v22 v23 wx => ∃ (E' : Dsk) (er' : Int), v11 = .int .i64 er' ∧ E'.n <= E.n + 200000 ∧ Hid (Both W1 wx W1.heap.size W1.heap.size gt xb (.slice a1 no ca) (.slice a2 nu cu) p q id E' v10 er'))
      case first =>
       by_cases h0 : sc = 0
       · subst h0
         have HOn := hide (both_on (w := W1) (s := ⟨0, .slice ua sbs.length uc, sbs, sn⟩) HF.out HSt.out HT0.out HBx.out HQ1.out (by omega) HRb.out hln)
         have hon := onN_n (f := p.f) (wd := p.w) (id := id) (st := st) (D := E) (b := sbs)
         dsimp only at HOn
         clear HT0 HBx HB0 HRb HF HSt
         generalize onN sum8 p.f p.w id st E sbs = E' at *
         generalize onE sum8 p.f p.w id st E sbs = eo at *
         generalize onL sum8 p.f p.w id (rpL p q) st E sbs = zs at *
         go_wp2_with (first
          | (go_at_call 11; refine HOn.out.mono ?_; rintro e w2 ⟨a4, c4, rfl, z2, hC⟩; have HC := hide hC; clear hC)
          | (go_at_call 12; refine HC.out.mono ?_; rintro e w3 ⟨a5, c5, rfl, hr4, hr5, hB3⟩; have HB3 := hide hB3; have HSm := hide (rSame8 _ _ _ _ w3 hr4 hr5); rw [decide_eq_true rfl] at HSm; clear hr4 hr5 hB3)
          | (go_at_call 13; refine HSm.out.mono ?_; rintro e w4 ⟨rfl, hw4⟩; rw [hw4]; clear hw4))
         go_meet
         exact ⟨E', 0, rfl, by omega, HB3⟩
       · by_cases h1 : sc = 1
         · subst h1
           obtain ⟨mb, vo', vu', hk⟩ := HT0.out.wk
           obtain ⟨lv, es, hx⟩ := HT0.out.wx
           have hsl := HSt.out.len
           have hsw := HSt.out.sh sn
           have HS1 := hide (gShare24 hk sn hnn (Nat.le_trans (HSt.out.short sn) (by decide)))
           have HS2 := hide (fun W (hb : Below W0.heap.size W0 W) => dShare24 (hx.below hb) HSt.out sn)
           have HR1 := hide (fun W (hb : Below W0.heap.size W0 W) => gRounds24 (hk.below hb) HSt.out.nd hsl)
           have HR2 := hide (fun W (hb : Below W0.heap.size W0 W) => dRounds24 (hx.below hb) hsl)
           have HDw := hide (fun W (hb : Below W0.heap.size W0 W) => gDown (hk.below hb))
           have HC1 := hide (fun W (hb : Below W0.heap.size W0 W) => (HBx.out.below hb).cells.2.1)
           have HC13 := hide (fun W (hb : Below W0.heap.size W0 W) => (hx.below hb).cells.2.2.2)
           have HEnd := hide (fun W (hb : Below W0.heap.size W0 W) => HB0.out.below hb)
           have hrl : (rndW st.L).length <= 65536 := by rw [rnd_len]; exact hsl
           have HSm := hide (fun W x y l1 l2 (h1 : World.ownsRow W l1 83 1 x (shW st.L sn).length (vals (shW st.L sn))) (h2 : World.ownsRow W l2 83 1 y (shW st.L sn).length (vals (shW st.L sn))) => Same_dec x y _ _ W (row_of_own h1 rfl hsw.1 hsw.2) (row_of_own h2 rfl hsw.1 hsw.2))
           rw [decide_eq_true (rfl : shW st.L sn = shW st.L sn)] at HSm
           have HIn := hide (fun W x y l1 l2 (h1 : World.ownsRow W l1 3 1 x (rndW st.L).length ((rndW st.L).map (Value.int .i64))) (h2 : World.ownsRow W l2 3 1 y (rndW st.L).length ((rndW st.L).map (Value.int .i64))) => dInts x y (rndW st.L) (rndW st.L) W (lm_of_own iw_len (by decide) (by rw [iw_map]; exact h1) (by omega)) (lm_of_own iw_len (by decide) (by rw [iw_map]; exact h2) (by omega)))
           clear hk hx hsl hsw hrl HT0 HBx HB0 HRb HF HSt
           generalize shW st.L sn = xs at *
           generalize (fndW st.L sn).isSome = bo1 at *
           generalize rndW st.L = rs at *
           generalize st.x = dn at *
           go_upto_region 29 with (first
            | (go_at_call 14; refine HS1.out.mono ?_; rintro e w2 ⟨v2, rfl, ho2, hb2⟩; have z1 := HC1.out w2 hb2; have HSc := hide (HS2.out w2 hb2); obtain ⟨a4, c4, rfl⟩ := own_form ho2)
            | (go_at_call 15; refine HSc.out.mono ?_; rintro e w3 ⟨v3, rfl, ho3, hb3⟩; obtain ⟨a5, c5, rfl⟩ := own_form ho3))
           have hb3' := Below.next hb2 hb3
           have hS0 := HC13.out w3.drew hb3'.drew
           have HSa := hide (HSm.out w3.drew _ _ _ _ (own_below (own_below ho2 hb3) (Below.refl _ w3).drew) (own_below ho3 (Below.refl _ w3).drew))
           clear HS1 HS2 HSc HSm HC1 ho2 ho3 z1
           refine wp_region_held_drew (S := (fun V => V.cell? ⟨xb, 13, none⟩ = some (.bool dn))) (by kernel_rfl) (by ((try dsimp only) <;> (first | with_reducible exact hS0 | with_reducible exact hS4 | with_reducible exact hS5 | with_reducible exact hS6 | with_reducible exact hS7 | with_reducible exact hS8))) (fun hHeld => ?_)
           refine tkY 0 ?_
           refine tkY 1 ?_
           refine rd1 2 (fun K hK => ?_)
           (try simp only [ly0, ly1, ly2, ly3, ly4, ly5, ly6, ly7])
           go_simp
           (go_at_call 16; refine HSa.out.mono ?_; rintro e w4 ⟨rfl, n4, hw4⟩; have hb4 : Below W0.heap.size W0 w4 := (by rw [hw4]; exact Below.next hb3'.drew (drewN_below _ n4)); clear hw4; have hS4 := HC13.out w4 hb4; have HR4 := hide (HR1.out w4 hb4))
           first | refine hK.out _ _ ?k39 (fun hHeld => ?_) | (go_wp2_with fail; refine hK.out _ _ ?k39 (fun hHeld => ?_))
           case k39 => ((try dsimp only) <;> (first | with_reducible exact hS0 | with_reducible exact hS4 | with_reducible exact hS5 | with_reducible exact hS6 | with_reducible exact hS7 | with_reducible exact hS8))
           clear hK K
           (try simp only [ly0, ly1, ly2, ly3, ly4, ly5, ly6, ly7])
           refine tkY 3 ?_
           refine tkY 4 ?_
           refine tkY 5 ?_
           refine tkY 6 ?_
           refine tkY 7 ?_
           refine tkY 8 ?_
           refine tkY 9 ?_
           refine tkY 10 ?_
           refine rd1 11 (fun K hK => ?_)
           (try simp only [ly0, ly1, ly2, ly3, ly4, ly5, ly6, ly7])
           go_simp
           (go_at_call 18; refine HR4.out.mono ?_; rintro e w5 ⟨v5, rfl, ho5, hb5⟩; have hb5' := Below.next hb4 hb5; have hS5 := HC13.out w5 hb5'; have HR5 := hide (HR2.out w5 hb5'))
           first | refine hK.out _ _ ?k40 (fun hHeld => ?_) | (go_wp2_with fail; refine hK.out _ _ ?k40 (fun hHeld => ?_))
           case k40 => ((try dsimp only) <;> (first | with_reducible exact hS0 | with_reducible exact hS4 | with_reducible exact hS5 | with_reducible exact hS6 | with_reducible exact hS7 | with_reducible exact hS8))
           clear hK K
           (try simp only [ly0, ly1, ly2, ly3, ly4, ly5, ly6, ly7])
           refine rd1 12 (fun K hK => ?_)
           (try simp only [ly0, ly1, ly2, ly3, ly4, ly5, ly6, ly7])
           go_simp
           (go_at_call 19; refine HR5.out.mono ?_; rintro e w6 ⟨v6, rfl, ho6, hb6⟩; have hb6' := Below.next hb5' hb6; have hS6 := HC13.out w6 hb6'; have HR6 := hide (HIn.out w6 _ _ _ _ (own_below ho5 hb6) ho6))
           first | refine hK.out _ _ ?k41 (fun hHeld => ?_) | (go_wp2_with fail; refine hK.out _ _ ?k41 (fun hHeld => ?_))
           case k41 => ((try dsimp only) <;> (first | with_reducible exact hS0 | with_reducible exact hS4 | with_reducible exact hS5 | with_reducible exact hS6 | with_reducible exact hS7 | with_reducible exact hS8))
           clear hK K
           (try simp only [ly0, ly1, ly2, ly3, ly4, ly5, ly6, ly7])
           refine rd1 13 (fun K hK => ?_)
           (try simp only [ly0, ly1, ly2, ly3, ly4, ly5, ly6, ly7])
           go_simp
           (go_at_call 17; refine HR6.out.mono ?_; rintro e w7 ⟨r7, rfl, hr7, hb7⟩; obtain rfl : r7 = true := hr7.2 trivial; clear hr7; have hb7' := Below.next hb6' hb7; have hS7 := HC13.out w7 hb7'; have HR7 := hide (HDw.out w7 hb7'))
           first | refine hK.out _ _ ?k42 (fun hHeld => ?_) | (go_wp2_with fail; refine hK.out _ _ ?k42 (fun hHeld => ?_))
           case k42 => ((try dsimp only) <;> (first | with_reducible exact hS0 | with_reducible exact hS4 | with_reducible exact hS5 | with_reducible exact hS6 | with_reducible exact hS7 | with_reducible exact hS8))
           clear hK K
           (try simp only [ly0, ly1, ly2, ly3, ly4, ly5, ly6, ly7])
           refine tkY 14 ?_
           refine tkY 15 ?_
           refine tkY 16 ?_
           refine tkY 17 ?_
           refine tkY 19 ?_
           refine tkY 20 ?_
           refine rd1 18 (fun K hK => ?_)
           (try simp only [ly0, ly1, ly2, ly3, ly4, ly5, ly6, ly7])
           go_simp
           (go_at_call 20; refine HR7.out.mono ?_; rintro e w8 ⟨rfl, hw8⟩; rw [hw8]; clear hw8; have hS8 := hS7)
           first | refine hK.out _ _ ?k43 (fun hHeld => ?_) | (go_wp2_with fail; refine hK.out _ _ ?k43 (fun hHeld => ?_))
           case k43 => ((try dsimp only) <;> (first | with_reducible exact hS0 | with_reducible exact hS4 | with_reducible exact hS5 | with_reducible exact hS6 | with_reducible exact hS7 | with_reducible exact hS8))
           clear hK K
           (try simp only [ly0, ly1, ly2, ly3, ly4, ly5, ly6, ly7])
           refine tkY 21 ?_
           refine tkY 22 ?_
           refine wpAnyH_done (by kernel_rfl) ?_ _
           go_wp2
           go_meet
           exact ⟨E, 0, rfl, by omega, HEnd.out w7 hb7'⟩
         · by_cases h2 : sc = 2
           · subst h2
             have hbd : Below W0.heap.size W0 W0.drew := (Below.refl _ W0).drew
             have HFu := hide (both_fuse (w := W1) (W := W0.drew) (s := ⟨2, .slice ua sbs.length uc, sbs, sn⟩) HF.out HSt.out (HT0.out.below hbd) (HBx.out.below hbd) hnn.2)
             have hS0 := (HBx.out.below hbd).cells.2.1
             have hfn : (fuN E sn).n <= E.n := by unfold fuN; split <;> exact Nat.le_refl _
             dsimp only at HFu hS0
             clear HT0 HBx HB0 HRb HF HSt hbd
             generalize fuE sn = ef at *
             generalize fuN E sn = E' at *
             go_upto_region 32 with fail
             refine wp_region_held_drew (S := (fun V => V.cell? ⟨bo, 1, none⟩ = some (.int .i64 sn))) (by kernel_rfl) (by ((try dsimp only) <;> (first | with_reducible exact hS0 | with_reducible exact hS2 | with_reducible exact hS3))) (fun hHeld => ?_)
             refine tkY 0 ?_
             refine tkY 1 ?_
             refine tkY 2 ?_
             refine tkY 4 ?_
             refine tkY 5 ?_
             refine rd1 3 (fun K hK => ?_)
             (try simp only [ly0, ly1, ly2, ly3, ly4, ly5, ly6, ly7])
             go_simp
             (go_at_call 21; refine HFu.out.mono ?_; rintro e w2 ⟨rfl, hS2, hC⟩; have HC := hide hC; clear hC)
             first | refine hK.out _ _ ?k44 (fun hHeld => ?_) | (go_wp2_with fail; refine hK.out _ _ ?k44 (fun hHeld => ?_))
             case k44 => ((try dsimp only) <;> (first | with_reducible exact hS0 | with_reducible exact hS2 | with_reducible exact hS3))
             clear hK K
             (try simp only [ly0, ly1, ly2, ly3, ly4, ly5, ly6, ly7])
             refine rd1 6 (fun K hK => ?_)
             (try simp only [ly0, ly1, ly2, ly3, ly4, ly5, ly6, ly7])
             go_simp
             (go_at_call 22; refine HC.out.mono ?_; rintro e w3 ⟨rfl, hS3, hB3⟩; have HB3 := hide hB3; clear hB3)
             first | refine hK.out _ _ ?k45 (fun hHeld => ?_) | (go_wp2_with fail; refine hK.out _ _ ?k45 (fun hHeld => ?_))
             case k45 => ((try dsimp only) <;> (first | with_reducible exact hS0 | with_reducible exact hS2 | with_reducible exact hS3))
             clear hK K
             (try simp only [ly0, ly1, ly2, ly3, ly4, ly5, ly6, ly7])
             refine tkY 7 ?_
             refine wpAnyH_done (by kernel_rfl) ?_ _
             clear hS0 hS2 hS3
             go_wp2
             go_meet
             exact ⟨E', 0, rfl, by omega, HB3⟩
           · have q0 : (sc == 0) = false := beq_eq_false_iff_ne.2 h0
             have q1 : (sc == 1) = false := beq_eq_false_iff_ne.2 h1
             have q2 : (sc == 2) = false := beq_eq_false_iff_ne.2 h2
             obtain ⟨cs0, hcs0, hcn0⟩ := HB0.out.box
             have HT1 := hide HB0.out.two
             have hxl := HB0.out.low
             clear HT0 HBx HB0 HRb HF HSt h0 h1 h2
             obtain ⟨B3, hB3⟩ : ∃ B3, (sc == 3) = B3 := ⟨_, rfl⟩
             go_upto_if 76 with fail
             clear hB3
             go_cut [78] from 77 to 79 (fun v78 wx => ∃ E2 : Dsk, E2.n <= E.n ∧ Hid (TwoD W1 wx W1.heap.size W1.heap.size gt E2) ∧ Hid (wx.heap[xb]? = some (.cells cs0 45 (0, 0))))
             case first =>
              cases B3 with
              | true =>
               have HMd := hide (both_mend HT1.out hcs0)
               clear HT1
               go_wp2_with (first
                | (go_at_call 23; refine HMd.out.mono ?_; rintro e w2 ⟨rfl, hC⟩; have HC := hide hC; clear hC)
                | (go_at_call 24; refine HC.out.mono ?_; rintro e w3 ⟨rfl, hT3, hx3⟩; have HT3 := hide hT3; have HX3 := hide hx3; clear hT3 hx3))
               go_meet
               exact ⟨mdN E, Nat.le_refl _, HT3, HX3⟩
              | false =>
               have HX3 := hide hcs0
               clear hcs0
               go_wp2
               go_meet
               exact ⟨E, Nat.le_refl _, HT1, HX3⟩
             obtain ⟨E2, hE2, HT2, HX2⟩ := hcut
             clear HT1 hcs0 x0 x1 x2 q0 q1 q2 HS
             obtain ⟨vp2, hpd⟩ := HT2.out.p
             obtain ⟨vd2, hdd⟩ := HT2.out.d
             have hEc : E2.n < 4611686018427387904 := by omega
             have HG := hide (gNew24 hpd HT2.out.sz hEc p q _ id hp (fun V hb => HQ1.out V (HT2.out.low.trans hb)))
             have HDn := hide (fun W2 v2 (m2 : Mv wc W2 W1.heap.size vp2 v2) => dNew24 (hdd.mv hpd m2) (Nat.le_trans HT2.out.sz m2.kq.size) hEc p q _ _ id hp (HQ1.out W2 (HT2.out.low.trans (hpd.mvb m2 HT2.out.sz))))
             have HXm := hide (fun W2 v2 (m2 : Mv wc W2 W1.heap.size vp2 v2) => HX.out W2 (HT2.out.low.trans (hpd.mvb m2 HT2.out.sz)))
             have hn2 := nwN_n (p := p) (q := q) (id := id) (D := E2)
             have HBo := hide (fun W2 v2 r (n2 : Hd W2 W1.heap.size W1.heap.size v2 (nwN p q id E2)) (m2 : Mv wc W2 W1.heap.size vp2 v2) k2 W3 u3 x (n3 : Dy W3 W1.heap.size gt u3 (nwN p q id E2)) (m3 : Mv W2 W3 gt vd2 u3) x3 cs hx => (fun (hx3 : W3.heap[xb]? = some (.cells cs0 45 (0, 0))) => both_new (w := W1) (W' := W3.setRow xb cs) (vo := .slice a1 no ca) (vu := .slice a2 nu cu) (r := r) (x := x) (cs := cs) hpd hdd HT2.out.low HT2.out.sz n2 m2 k2 n3 m3 x3 hx (kq_row W3 xb cs) (setRow_heap W3 _ _ cs _ _ hx3) hxl (fun _ => ⟨_, hx3⟩)))
             have HBx3 := hide (fun W2 v2 (m2 : Mv wc W2 W1.heap.size vp2 v2) => hpd.apart m2 HX2.out (by decide) (by decide))
             have HBx4 := hide (fun W2 v2 (m2 : Mv wc W2 W1.heap.size vp2 v2) W3 u3 (m3 : Mv W2 W3 gt vd2 u3) => (hdd.mv hpd m2).apart m3 (hpd.apart m2 HX2.out (by decide) (by decide)) (by decide) (by decide))
             obtain ⟨⟨c0, c1, c2, c3, c4, c5, c6, c7⟩, d0, d1, d2⟩ := HX.out wc HT2.out.low
             rw [plan_eq] at HG HDn
             clear hpd hdd HT2
             generalize nwE p q id E2 = er at *
             generalize nwN p q id E2 = E3 at *
             go_upto_region 18 with (go_at_call 9; refine HG.out.mono ?_; rintro e w5 ⟨v5, r5, rfl, hn5, hm5, hk5⟩; have HD5 := hide (HDn.out _ _ hm5))
             obtain ⟨⟨p0, p1, p2, p3, p4, p5', p6, p7⟩, z0, z1, z2⟩ := HXm.out _ _ hm5
             have hPl : (loadVar 24 ⟨w.heap.size, 0, none⟩).run Tryz.prog w5 = .ok (.agg #[.int .u8 p.f, .int .i64 p.n, .int .i64 p.k, .int .i64 p.t, .int .i64 p.s, .int .i64 p.e, .int .i64 p.d, .int .i64 p.w]) w5 := (show Plc w5 w.heap.size p from ⟨p0, p1, p2, p3, p4, p5', p6, p7⟩).load
             have hPr : (loadVar 28 ⟨w.heap.size + 1, 0, none⟩).run Tryz.prog w5 = .ok (.agg #[.int .i64 q.inp, .slice a1 no ca, .slice a2 nu cu]) w5 := (show Pqx w5 w.heap.size p q.inp (.slice a1 no ca) (.slice a2 nu cu) from ⟨⟨p0, p1, p2, p3, p4, p5', p6, p7⟩, z0, z1, z2⟩).prog
             refine wp_region_lit ?_
             refine rowLoadR rfl _ _ rfl w.heap.size _ rfl hPl ?_
             refine rowLoadR rfl _ _ rfl (w.heap.size + 1) _ rfl hPr ?_
             refine rowVal rfl (.int .i64 id) (by simp [go_sem, execOp]) ?_
             refine rowCall rfl 10 #[.agg #[.int .u8 p.f, .int .i64 p.n, .int .i64 p.k, .int .i64 p.t, .int .i64 p.s, .int .i64 p.e, .int .i64 p.d, .int .i64 p.w], .agg #[.int .i64 q.inp, .slice a1 no ca, .slice a2 nu cu], .int .i64 id, .pointer (some ⟨gt, 0, none⟩)] (by simp [go_sem, execOp]) HD5.out ?_
             rintro e w6 ⟨u6, x6, rfl, hn6, hm6, hx6⟩
             obtain ⟨cs, hxc, hcn, hone⟩ := new_agg hx6 ⟨_, _, _, rfl⟩ ⟨_, _, _, rfl⟩
             have hbx6 := HBx4.out _ _ hm5 _ _ hm6
             have HB7 := hide (HBo.out _ _ _ hn5 hm5 hk5 _ _ _ hn6 hm6 hx6 cs hxc hbx6)
             rw [hxc]
             refine ⟨_, rfl, ?_⟩
             refine rowVal rfl (.tuple #[.agg cs, .int .i64 er]) (by simp [go_sem, execOp]) ?_
             refine rowVal rfl (.agg cs) (by simp [go_sem, execOp]) ?_
             refine rowVal rfl (.int .i64 er) (by simp [go_sem, execOp]) ?_
             refine rowStore rfl _ _ _ rfl xb _ cs0 cs (by simp [go_sem]) (by simp [go_sem]) hbx6 (by rw [hcn]; exact wy_size) (by rw [hcn, hcn0]) hone ?_
             have hno := HB7.out.no
             have hok := HB7.out.ok
             clear HG HDn HXm HBo HBx3 HBx4 HD5 hk5 hn5 hm5 hn6 hm6 hx6 hbx6 hPl hPr HX2 c0 c1 c2 c3 c4 c5 c6 c7 d0 d1 d2
             generalize w6.setRow xb cs = w7 at *
             go_upto_region 19 with fail
             go_cut [104] from 95 to 104 (fun v104 wx => v104 = .bool false ∧ wx = w7)
             case first =>
              clear HB7
              by_cases he : er = 0
              · obtain ⟨_, kb2, _, rfl, _⟩ := hok he
                subst he
                clear hno hok
                go_wp2
                go_meet
                exact ⟨rfl, rfl⟩
              · have e2 := hno he
                subst e2
                have q0 : (er == 0) = false := beq_eq_false_iff_ne.2 he
                clear hno hok he
                go_wp2
                go_meet
                exact ⟨rfl, rfl⟩
             obtain ⟨rfl, hwc2⟩ := hcut
             rw [hwc2]
             clear hwc2 hno hok
             go_wp2
             go_meet
             exact ⟨E3, er, rfl, by omega, HB7⟩
      case rest =>
       obtain ⟨E', er', rfl, hE', HB2⟩ := hcut
       have HP := hide (fun W (hb : Below wc.heap.size wc W) => HB2.out.below hb)
       have hbd : Below wc.heap.size wc wc.drew := (Below.refl _ wc).drew
       obtain ⟨vd2, ds2, hd2⟩ := HB2.out.two.d
       obtain ⟨vp2, hp2⟩ := HB2.out.two.p
       have hlen2 := hp2.o.ok.len
       have HBl := hide (fun W (hb : Below wc.heap.size wc W) => gBlocks22 (hp2.below hb))
       have HBd := hide (fun W (hb : Below wc.heap.size wc W) => (hd2.below hb).bl)
       have HSm := hide (fun W x y (h1 : Bl W x E'.l) (h2 : Bl W y E'.l) => dSame22 x y E'.l W h1 h2 (by omega))
       have HC := hide (fun W (hb : Below wc.heap.size wc W) => (hd2.below hb).cells.1)
       obtain ⟨au, cu2, rfl, _⟩ := hd2.spell
       have hS0 : wc.drew.cell? ⟨gt, 0, none⟩ = some (.slice au E'.l.length cu2) := HC.out _ hbd
       have HB1 := hide hbd
       clear hd2 hp2 hlen2 HB2 hbd HBx HT0 HB0 HRb HF HSt HS x0 x1 x2
       go_upto_region 34 with fail
       refine wp_region_held_drew (S := (fun V => V.cell? ⟨gt, 0, none⟩ = some (.slice au E'.l.length cu2))) (by kernel_rfl) (by ((try dsimp only) <;> (first | with_reducible exact hS0 | with_reducible exact hS1 | with_reducible exact hS2))) (fun hHeld => ?_)
       refine tkY 0 ?_
       refine tkY 2 ?_
       refine tkY 3 ?_
       refine rd1 1 (fun K hK => ?_)
       (try simp only [ly0, ly1, ly2, ly3, ly4, ly5, ly6, ly7])
       go_simp
       (go_at_call 26; refine (HBl.out _ HB1.out).mono ?_; rintro e w6 ⟨v6, r6, c6, rfl, hT6, hb6⟩; obtain ⟨a6, k6, hv6, _⟩ := own_spellO hT6.row; subst hv6; have hB6 := Below.next HB1.out hb6; have hS1 := HC.out _ hB6; have HB6 := hide hB6; have HS6 := hide (HSm.out _ _ _ hT6.bl (HBd.out _ hB6)); clear hT6 hb6 hB6)
       first | refine hK.out _ _ ?k46 (fun hHeld => ?_) | (go_wp2_with fail; refine hK.out _ _ ?k46 (fun hHeld => ?_))
       case k46 => ((try dsimp only) <;> (first | with_reducible exact hS0 | with_reducible exact hS1 | with_reducible exact hS2))
       clear hK K
       (try simp only [ly0, ly1, ly2, ly3, ly4, ly5, ly6, ly7])
       refine rd1 4 (fun K hK => ?_)
       (try simp only [ly0, ly1, ly2, ly3, ly4, ly5, ly6, ly7])
       go_simp
       (go_at_call 25; refine HS6.out.mono ?_; rintro e w7 ⟨rfl, hb7⟩; have hB7 := Below.next HB6.out hb7; have hS2 := HC.out _ hB7; have HT7 := hide (HP.out _ hB7); clear hb7 hB7)
       first | refine hK.out _ _ ?k47 (fun hHeld => ?_) | (go_wp2_with fail; refine hK.out _ _ ?k47 (fun hHeld => ?_))
       case k47 => ((try dsimp only) <;> (first | with_reducible exact hS0 | with_reducible exact hS1 | with_reducible exact hS2))
       clear hK K
       (try simp only [ly0, ly1, ly2, ly3, ly4, ly5, ly6, ly7])
       refine tkY 5 ?_
       refine wpAnyH_done (by kernel_rfl) ?_ _
       clear hS0 hS1 hS2
       go_wp2
       go_roundw
       case rel => exact ⟨k + 1, E', er', by omega, by go_num, rfl, by omega, HT7⟩
       case measure => simp [intOf]; omega
    · have q0 : (er == 0) = false := beq_eq_false_iff_ne.2 he
      have HP := hide (fun W (hb : Below wr.heap.size wr W) => (HB.out.below hb).two.low)
      have ii1 : (k : Int) < (ss.length : Int) := by omega
      clear HS he
      go_wp2_with (go_at_call 27; refine (ga.out _).mono ?_; rintro e w5 ⟨rfl, hb5⟩; have HT5 := hide (HP.out _ hb5))
      go_ret
      exact ⟨rfl, Below.next HA.out HT5.out⟩
  · obtain rfl : k = ss.length := by omega
    have HP := hide (fun W (hb : Below wr.heap.size wr W) => (HB.out.below hb).two.low)
    clear HS
    go_wp2_with (go_at_call 27; refine (ga.out _).mono ?_; rintro e w5 ⟨rfl, hb5⟩; have HT5 := hide (HP.out _ hb5))
    go_ret
    exact ⟨rfl, Below.next HA.out HT5.out⟩
end Go.Proofs.YtipobchbnjgenaaGreat
