import Derived.Test.YtipobchbnjgenaaGreatBLawZC
import Derived.Deep.DeepAppendWide
set_option linter.unusedVariables false
set_option linter.unusedSimpArgs false
set_option maxRecDepth 100000
set_option maxHeartbeats 4000000
namespace Go.Proofs.YtipobchbnjgenaaGreat
open Go.RowKit Fld Slp Pln
abbrev Mv2 := Mg × Value
def mge (e : Mv2) : List Value := [.int .u8 e.1.k, .int .i64 e.1.r, .int .i64 e.1.v, .int .u8 e.1.f, e.2]
theorem mge_len (e : Mv2) : (mge e).length = 5 := rfl
structure Gv (W : World) (base : Nat) (vg : Value) (ms : List Mv2) : Prop where
 row : W.ownsRow base 74 5 vg ms.length (ms.flatMap mge)
 each : ∀ e ∈ ms, W.ownsRow base 83 1 e.2 e.1.l.length (vals e.1.l)
theorem gv_nil (W : World) (base : Nat) : Gv W base (.slice none 0 0) [] := ⟨World.ownsRow_nil _ _ _ _, fun e he => (by cases he)⟩
theorem Gv.below {W W' : World} {base : Nat} {vg : Value} {ms : List Mv2} (h : Gv W base vg ms) (hb : Below W.heap.size W W') : Gv W' base vg ms := ⟨own_below h.row hb, fun e he => own_below (h.each e he) hb⟩
theorem Gv.mv {W W' : World} {base base2 g : Nat} {v v' vg : Value} {ms : List Mv2} {D : Dsk} (h : Gv W base vg ms) (hd : Hd W base2 g v D) (m : Mv W W' g v v') : Gv W' base vg ms :=
 ⟨hd.apart_row m h.row (by decide) (by decide), fun e he => hd.apart_row m (h.each e he) (by decide) (by decide)⟩
theorem Gv.ev {W W' : World} {base base2 base3 g kb mb : Nat} {v v' vg vo vu : Value} {ms : List Mv2} {D : Dsk} {p : Pn} {q : Pr} {id : Int} {st : Wk} (h : Gv W base vg ms) (hp : Wp W base2 kb mb g vo vu p q id st) (hd : Hd W base3 g v D) (m : Ev W W' kb mb g v v') : Gv W' base vg ms :=
 ⟨ev_row h.row (by decide) (by decide) (by decide) hp hd m, fun e he => ev_row (h.each e he) (by decide) (by decide) (by decide) hp hd m⟩
theorem Gv.at_ {W : World} {base r n cap : Nat} {ms : List Mv2} (h : Gv W base (.slice (some ⟨r, 0, none⟩) n cap) ms) {k : Nat} (hk : k < ms.length) :
 W.cell? ⟨r, k * 5, none⟩ = some (.int .u8 ms[k].1.k) ∧ W.cell? ⟨r, k * 5 + 1, none⟩ = some (.int .i64 ms[k].1.r) ∧ W.cell? ⟨r, k * 5 + 2, none⟩ = some (.int .i64 ms[k].1.v) ∧ W.cell? ⟨r, k * 5 + 3, none⟩ = some (.int .u8 ms[k].1.f) ∧ W.cell? ⟨r, k * 5 + 4, none⟩ = some ms[k].2 := by
 have hx : ms[k]? = some ms[k] := List.getElem?_eq_getElem hk
 have hn : n = ms.length := by
  rcases h.row.2 with ⟨e, _⟩ | ⟨g, c, u, e, _⟩
  · cases e
  · injection e with _ e _
 subst hn
 have h0 := flat_get mge 5 mge_len ms k ms[k] 0 hx (by decide)
 rw [Nat.add_zero] at h0
 exact ⟨own_atO h.row (h0.trans rfl), own_atO h.row ((flat_get mge 5 mge_len ms k ms[k] 1 hx (by decide)).trans rfl), own_atO h.row ((flat_get mge 5 mge_len ms k ms[k] 2 hx (by decide)).trans rfl), own_atO h.row ((flat_get mge 5 mge_len ms k ms[k] 3 hx (by decide)).trans rfl), own_atO h.row ((flat_get mge 5 mge_len ms k ms[k] 4 hx (by decide)).trans rfl)⟩
theorem msg_info : (Tryz.prog.info? 74).map (fun i => (i.zero, i.size, i.bytes)) = some (some (.agg #[.int .u8 0, .int .i64 0, .int .i64 0, .int .u8 0, .slice none 0 0]), 5, 56) := by kernel_rfl
theorem appM {W : World} {base : Nat} {vg : Value} {ms : List Mv2} (h : Gv W base vg ms) (b : Nat) (m : Mg) (s : Value) (hb : W.heap[b]? = some (.cells (mgc m s) 74 (0, 0))) (hs : W.ownsRow base 83 1 s m.l.length (vals m.l)) (hl : ms.length <= 3518437208780) (hz : base <= W.heap.size) :
 ∃ v' W', (Builtin.append_ #[71, 71] 71 #[vg, .slice (some ⟨b, 0, none⟩) 1 1]).run Tryz.prog W = .ok v' W' ∧ Gv W' base v' (ms ++ [(m, s)]) ∧ W.grownBy W' vg.ownBlock := by
 obtain ⟨i0, hi0, hz0, hz1, hz2⟩ := info_parts msg_info
 obtain ⟨as', sc, hss⟩ := own_form hs
 subst hss
 obtain ⟨v', W', hr, ho, hg, _⟩ := run_append_own_wide (P := Tryz.prog) (w := W) base 71 71 74 i0 (.agg #[.int .u8 0, .int .i64 0, .int .i64 0, .int .u8 0, .slice none 0 0]) 5 56 Tryz.underlying71 hi0 hz0 hz1 hz2 rfl (by decide) vg ms.length (ms.flatMap mge) h.row ⟨b, 0, none⟩ 1 1 (mge (m, .slice as' m.l.length sc)) rfl (fun j u hj => by
  rw [add_atO, Nat.zero_add]
  match j, hj with
  | 0, hj => rw [<- hj]; exact cell_at hb rfl
  | 1, hj => rw [<- hj]; exact cell_at hb rfl
  | 2, hj => rw [<- hj]; exact cell_at hb rfl
  | 3, hj => rw [<- hj]; exact cell_at hb rfl
  | 4, hj => rw [<- hj]; exact cell_at hb rfl
  | j + 5, hj => simp [mge] at hj) (by intro x hx; simp [mge] at hx; rcases hx with rfl | rfl | rfl | rfl | rfl <;> rfl) (by unfold maxLen; omega) (by omega) hz
 refine ⟨v', W', hr, ⟨?_, fun e he => ?_⟩, hg⟩
 · rw [List.length_append, List.flatMap_append]; exact ho
 · have keep : ∀ {x : Value} {n : Nat} {ys : List Value}, W.ownsRow base 83 1 x n ys -> W'.ownsRow base 83 1 x n ys := fun hu => (grown_kq hg (S := fun j => j < W.heap.size ∧ vg.ownBlock ≠ some j) (fun j hj => hj.1) (fun k e hk => hk.2 e)).own hu (fun j hj => ⟨(hu.lt j hj).2, own_kindO hu h.row (by decide) j hj⟩)
   rcases List.mem_append.1 he with he | he
   · exact keep (h.each e he)
   · rw [List.mem_singleton.1 he]; exact keep hs
structure Od (w W : World) (g : Nat) (p : Pn) (q : Pr) (D : Dsk) (rs : List (List Int)) (ms : List Mv2) (vg : Value) : Prop where
 hd : ∃ v, Hd W w.heap.size g v D
 low : Below w.heap.size w W
 sz : w.heap.size <= W.heap.size
 gv : Gv W w.heap.size vg ms
 kp : Jkp sum8 D rs
 ok : ∀ e ∈ ms, ∃ v, fndW (hldW sum8 p.f p.w 0 rs) e.1.r = some v ∧ e.1 = ⟨2, e.1.r, 0, p.f, rpL p q v⟩
structure Oc (w W : World) (g : Nat) (p : Pn) (q : Pr) (D : Dsk) (rs : List (List Int)) (ms : List Mv2) (vg r : Value) (er : Int) : Prop where
 od : Od w W g p q D rs ms vg
 no : er ≠ 0 -> r = .pointer none
 yes : er = 0 -> Wf p q 0 ∧ ∃ kb mb vo vu st, r = .pointer (some ⟨kb, 0, none⟩) ∧ Wp W w.heap.size kb mb g vo vu p q 0 st ∧ Wok sum8 p.f p.w 0 D st rs ∧ Wst st.L
section
variable {w W W' : World} {g : Nat} {p : Pn} {q : Pr} {D : Dsk} {rs : List (List Int)} {ms : List Mv2} {vg r : Value} {er : Int}
theorem Od.below (h : Od w W g p q D rs ms vg) (hb : Below W.heap.size W W') : Od w W' g p q D rs ms vg := by
 obtain ⟨v, h1⟩ := h.hd
 exact ⟨⟨v, h1.below hb⟩, h.low.trans (hb.mono h.sz), Nat.le_trans h.sz hb.size, h.gv.below hb, h.kp, h.ok⟩
theorem Oc.below (h : Oc w W g p q D rs ms vg r er) (hb : Below W.heap.size W W') : Oc w W' g p q D rs ms vg r er :=
 ⟨h.od.below hb, h.no, fun e => by
  obtain ⟨hf, kb, mb, vo, vu, st, e1, h2, h3, h4⟩ := h.yes e
  exact ⟨hf, kb, mb, vo, vu, st, e1, h2.below hb, h3, h4⟩⟩
theorem od_start {w w2 w3 : World} {p : Pn} {q : Pr} (h : Hd w3 w2.heap.size w2.heap.size (.slice none 0 0) dk0) (b2 : Below w.heap.size w w2) (b3 : Below w2.heap.size w2 w3) : Od w w3 w2.heap.size p q dk0 [] [] (.slice none 0 0) :=
 ⟨⟨_, h.mono b2.size⟩, Below.next b2 b3, Nat.le_trans b2.size b3.size, gv_nil _ _, jex_new.kp, fun e he => by cases he⟩
theorem od_new (h : Od w W g p q D rs ms vg) (hp : Ok8p p) (vq : Value) (hq : ∀ V, Below w.heap.size w V -> Pm V vq q) (hnn : D.n < 4611686018427387904) (hmk : mkB p q 0 = true) :
 Calls Tryz.prog 9 #[plv p, vq, .int .i64 0, .pointer (some ⟨g, 0, none⟩)] W fun e w2 => ∃ r, e = .returned (.tuple #[r, .int .i64 (nwE p q 0 D)]) ∧ Oc w w2 g p q (nwN p q 0 D) rs ms vg r (nwE p q 0 D) := by
 obtain ⟨v, hd⟩ := h.hd
 have e1 : nwE p q 0 D = opE23 sum8 D := by unfold nwE; rw [if_pos hmk]
 have e2 : nwN p q 0 D = opN23 sum8 D := by unfold nwN; rw [if_pos hmk]
 refine (gNew24 hd h.sz hnn p q vq 0 hp (fun V hV => hq V (h.low.trans hV))).mono fun e w2 ⟨v2, r, he, hd2, hm, hk⟩ => ?_
 refine ⟨r, he, ⟨⟨v2, hd2⟩, h.low.trans (hd.mvb hm h.sz), Nat.le_trans h.sz hm.kq.size, h.gv.mv hd hm, by rw [e2]; exact (h.kp.open_ sum8_bd).1, h.ok⟩, fun ne => ?_, fun e0 => ?_⟩
 · rcases hk with ⟨_, hr⟩ | ⟨h0, _⟩
   · exact hr
   · exact absurd h0 ne
 · rcases hk with ⟨ne, _⟩ | ⟨_, hf, kb, mb, vo, vu, hr, hw⟩
   · exact absurd e0 ne
   · refine ⟨hf, kb, mb, vo, vu, nwW p 0 D, hr, hw.mono h.sz, ?_, nw_wst w hd.o p 0⟩
     rw [e2]
     exact h.kp.wok sum8_bd (by rw [<- e1]; exact e0)
theorem oc_fuse (h : Oc w W g p q D rs ms vg r er) (i : Int) (hi : i <= 9223372036854775807) :
 Calls Tryz.prog 21 #[.pointer (some ⟨g, 0, none⟩), .int .i64 i] W fun e w2 => e = .returned (.int .i64 (fuE i)) ∧ Oc w w2 g p q (fuN D i) rs ms vg r er := by
 obtain ⟨⟨v, hd⟩, hl, hs, hg, hk, ho⟩ := h.od
 have el : (fuN D i).l = D.l := by unfold fuN; split <;> rfl
 refine (gFuse hd i hi).mono fun e w2 ⟨he, hd2, hm⟩ => ?_
 have hok := fuN_ok hd.o.ok i
 refine ⟨he, ⟨⟨v, hd2⟩, hl.trans (hd.mvb hm hs), Nat.le_trans hs hm.kq.size, hg.mv hd hm, hk.of_l el hok, ho⟩, h.no, fun e0 => ?_⟩
 obtain ⟨hf, kb, mb, vo, vu, st, e1, h2, h3, h4⟩ := h.yes e0
 exact ⟨hf, kb, mb, vo, vu, st, e1, h2.mvd hd hm, h3.of_l el hok, h4⟩
theorem od_mend (h : Od w W g p q D rs ms vg) :
 Calls Tryz.prog 23 #[.pointer (some ⟨g, 0, none⟩)] W fun e w2 => e = .returned (.int .i64 0) ∧ Od w w2 g p q (mdN D) rs ms vg := by
 obtain ⟨⟨v, hd⟩, hl, hs, hg, hk, ho⟩ := h
 refine (gMend hd).mono fun e w2 ⟨he, hd2, hm⟩ => ?_
 exact ⟨he, ⟨v, hd2⟩, hl.trans (hd.mvb hm hs), Nat.le_trans hs hm.kq.size, hg.mv hd hm, hk.of_l rfl (mdN_ok hd.o.ok), ho⟩
theorem oc_on (h : Oc w W g p q D rs ms vg r 0) {b : List Int} {u : Value} (hu : Rb W u b) (hnn : D.n + 100000 < 4611686018427387904) {bo : Nat} {s : Sq4} (hbx : Bx4 W bo s) :
 ∃ st : Wk, Calls Tryz.prog 11 #[r, u] W fun e w2 => ∃ a c, e = .returned (.tuple #[.slice a (onL sum8 p.f p.w 0 (rpL p q) st D b).length c, .int .i64 (onE sum8 p.f p.w 0 st D b)]) ∧ Bx4 w2 bo s ∧ Rb w2 (.slice a (onL sum8 p.f p.w 0 (rpL p q) st D b).length c) (onL sum8 p.f p.w 0 (rpL p q) st D b) ∧
  ∃ rs2, Oc w w2 g p q (onN sum8 p.f p.w 0 st D b) rs2 ms vg r 0 ∧ (onE sum8 p.f p.w 0 st D b = 0 -> shB sum8 p.f p.w 0 b = true ∧ onL sum8 p.f p.w 0 (rpL p q) st D b = mwL sum8 (onM sum8 p.f 0 (rpL p q) b) ∧ rpE p q (mrM sum8 b).l = 0 ∧ mgM (onM sum8 p.f 0 (rpL p q) b) = true ∧ fndW (hldW sum8 p.f p.w 0 rs2) (mrM sum8 b).r = some (mrM sum8 b).l) := by
 obtain ⟨hf, kb, mb, vo, vu, st, rfl, hw, hok, hst⟩ := h.yes rfl
 obtain ⟨⟨v, hd⟩, hl, hs, hg, hk, ho⟩ := h.od
 refine ⟨st, (gOn hw hd hf hst hs hnn hu).mono fun e w2 ⟨v2, u2, he, hw2, hd2, ho2, hE⟩ => ?_⟩
 have hl2 : Below w.heap.size w w2 := hl.trans (hE.below hs hw.lowk hw.lowm hd.low (fun j hj => (hd.own_lt j hj).1))
 have hs2 : w.heap.size <= w2.heap.size := Nat.le_trans hs hE.kq.size
 have hb2 : Bx4 w2 bo s := ev_blk hbx (by decide) (by decide) (by decide) hw hd hE
 have hg2 := hg.ev hw hd hE
 have hy := hu.by
 obtain ⟨hby, hle⟩ := onL_by (F := rpL p q) (f := p.f) (wd := p.w) (id := 0) (st := st) (D := D) (b := b)
 obtain ⟨a2, c2, hu2⟩ := own_form ho2
 rw [hu2] at he ho2
 refine ⟨a2, c2, he, hb2, rb_of_own ho2 hby (by omega), ?_⟩
 have key : ∀ rs2, Wok sum8 p.f p.w 0 (onN sum8 p.f p.w 0 st D b) (onW sum8 p.f p.w 0 st D b) rs2 -> (∀ r v, fndW (hldW sum8 p.f p.w 0 rs) r = some v -> fndW (hldW sum8 p.f p.w 0 rs2) r = some v) -> Oc w w2 g p q (onN sum8 p.f p.w 0 st D b) rs2 ms vg (.pointer (some ⟨kb, 0, none⟩)) 0 ∧ (onE sum8 p.f p.w 0 st D b = 0 -> shB sum8 p.f p.w 0 b = true ∧ onL sum8 p.f p.w 0 (rpL p q) st D b = mwL sum8 (onM sum8 p.f 0 (rpL p q) b) ∧ rpE p q (mrM sum8 b).l = 0 ∧ mgM (onM sum8 p.f 0 (rpL p q) b) = true ∧ fndW (hldW sum8 p.f p.w 0 rs2) (mrM sum8 b).r = some (mrM sum8 b).l) := fun rs2 hok2 hmore => by
  refine ⟨⟨⟨⟨v2, hd2⟩, hl2, hs2, hg2, hok2.2.1, fun e he => ?_⟩, fun e => absurd rfl e, fun _ => ⟨hf, kb, mb, vo, vu, _, rfl, hw2, hok2, hst.onW w hy⟩⟩, fun e0 => ?_⟩
  · obtain ⟨x, h1, h2⟩ := ho e he
    exact ⟨x, hmore _ _ h1, h2⟩
  · obtain ⟨z1, z2, z3⟩ := on_zero e0
    obtain ⟨m1, m2, _⟩ := on_may hf.may w hy z1
    refine ⟨z1, by unfold onL; rw [if_pos e0], m1, m2, ?_⟩
    rw [<- hok2.1]; exact z3
 rcases hok.on hy with ⟨_, _, h3⟩ | ⟨_, h3⟩
 · exact ⟨rs ++ [b], key _ h3 (fun r v hv => fnd_more hv b)⟩
 · exact ⟨rs, key _ h3 (fun r v hv => hv)⟩
theorem Oc.app (h : Oc w W g p q D rs ms vg r er) {m : Mg} {s v' : Value} (hgv : Gv W' w.heap.size v' (ms ++ [(m, s)])) (hg : W.grownBy W' vg.ownBlock) (hm : ∃ v, fndW (hldW sum8 p.f p.w 0 rs) m.r = some v ∧ m = ⟨2, m.r, 0, p.f, rpL p q v⟩) : Oc w W' g p q D rs (ms ++ [(m, s)]) v' r er := by
 have k : Kq (fun j => j < W.heap.size ∧ vg.ownBlock ≠ some j) W W' := grown_kq hg (fun j hj => hj.1) (fun k e hk => hk.2 e)
 have hrow := h.od.gv.row
 obtain ⟨v, hd⟩ := h.od.hd
 refine ⟨⟨⟨v, hd.kept k ⟨hd.lt, own_notO hrow hd.dsk (by decide)⟩ (fun j hj => ⟨(hd.own_lt j hj).2, own_kindO hd.row hrow (by decide) j hj⟩)⟩, ?_, Nat.le_trans h.od.sz hg.size, hgv, h.od.kp, fun e he => ?_⟩, h.no, fun e => ?_⟩
 · exact h.od.low.grown hg h.od.sz (fun k hk => (hrow.lt k hk).1)
 · rcases List.mem_append.1 he with he | he
   · exact h.od.ok e he
   · rw [List.mem_singleton.1 he]; exact hm
 · obtain ⟨hf, kb, mb, vo, vu, st, e1, h2, h3, h4⟩ := h.yes e
   obtain ⟨es, c, ho⟩ := h2.map.obj
   exact ⟨hf, kb, mb, vo, vu, st, e1, h2.kept k ⟨h2.lt, own_notO hrow h2.blk (by decide)⟩ ⟨h2.map.lt, fun hj => own_map hrow ho hj⟩ (fun T s v n xs hT hu j hj => ⟨(hu.lt j hj).2, own_kindO hu hrow (by rcases hT with rfl | rfl | rfl <;> decide) j hj⟩), h3, h4⟩
theorem mr_mw {m : Mg} (h : mgM m = true) (h0 : ∀ x ∈ m.l, 0 <= x) : mrE sum8 (mwL sum8 m) = 0 ∧ mrM sum8 (mwL sum8 m) = m := by
 have e : mwL sum8 m = slF sum8 (mgI m) := by unfold mwL; rw [if_pos h]
 rw [e]; exact mr_of_mw sum8_bd h h0
end
theorem mk_of_tm {p : Pn} {q : Pr} (h : tmB p q = true) : mkB p q 0 = true := by
 have h1 : acE p = 0 := (of_decide_eq_true h).1
 have h2 : mayP p = true := by
  cases hm : mayP p with
  | true => rfl
  | false => unfold acE at h1; rw [hm] at h1; cases h1
 have h3 := (may_facts h2).1.1
 rw [tm_mk, h]
 simp; omega
theorem workerOnce_any (p : Pn) (q : Pr) (vq v : Value) (ss : List Sq4) (w : World) (hp : Ok8p p) (hq : Pm w vq q) (h : Scr4 w v ss) : Calls Tryz.prog 5 #[plv p, vq, v] w fun e w' => e = .returned (.bool true) ∧ Below w.heap.size w w' := by
 obtain ⟨ao, cap, rfl, hcap⟩ := h.lm.spell
 have hlen := h.len
 have HS := hide h
 have HQ := hide (fun V (hb : Below w.heap.size w V) => hq.below hb)
 obtain ⟨vo, vu, rfl, ho, hu⟩ := hq.form
 obtain ⟨a1, ca, rfl, _⟩ := ho.spell
 obtain ⟨a2, cu, rfl, _⟩ := hu.spell
 have ga := hide (fun W => anch24 W)
 clear h hq ho hu
 obtain ⟨no, HNo⟩ : ∃ no, Hid (q.ops.length = no) := ⟨_, hide rfl⟩
 obtain ⟨nu, HNu⟩ : ∃ nu, Hid (q.outs.length = nu) := ⟨_, hide rfl⟩
 rw [HNo.out, HNu.out] at HQ ⊢
 obtain ⟨W1, hW, hA, hS⟩ := pq_box w p q.inp (.slice a1 no ca) (.slice a2 nu cu) 24 28
 have HW := hide hW
 have HX := hide hS
 have HA := hide hA
 have HQ1 := hide (fun V (hb : Below W1.heap.size W1 V) => HQ.out V (Below.next hA hb))
 obtain ⟨⟨c0, c1, c2, c3, c4, c5, c6, c7⟩, d0, d1, d2⟩ := hS W1 (Below.refl _ _)
 have HTm := hide (dTeam p q _ W1 hp (HQ1.out W1 (Below.refl _ _)))
 rw [plan_eq] at HTm ⊢
 have HN := hide (fun W => gNew22 W)
 clear hW hS hA HQ
 cases htm : tmB p q with
 | false =>
  rw [htm] at HTm
  clear HS htm HN
  go_enter Tryz.func5, Tryz.ntmps5
  go_upto_region 1 with fail
  rw [HW.out]
  go_wp2_with (first
   | (go_at_call 29; refine HTm.out.mono ?_; rintro e w2 ⟨rfl, hb2⟩)
   | (go_at_call 27; refine (ga.out _).mono ?_; rintro e w5 ⟨rfl, hb5⟩))
  go_ret
  exact ⟨rfl, Below.next (Below.next HA.out hb2) hb5⟩
 | true =>
  have HMk := hide (mk_of_tm htm)
  rw [htm] at HTm
  clear htm
  go_enter Tryz.func5, Tryz.ntmps5
  go_upto_region 1 with fail
  rw [HW.out]
  go_upto_region 4 with (first
   | (go_at_call 29; refine HTm.out.mono ?_; rintro e w2 ⟨rfl, hb2⟩)
   | (go_at_call 7; refine (HN.out _).mono ?_; rintro e w3 ⟨rfl, hn3, hb3⟩))
  obtain ⟨g, hg⟩ : ∃ g, w2.heap.size = g := ⟨_, rfl⟩
  have hO := od_start hn3 hb2 hb3 (p := p) (q := q)
  rw [hg] at hO ⊢
  have HNw := hide (fun W D rs ms vg (h : Od W1 W g p q D rs ms vg) (hn : D.n < 4611686018427387904) => od_new h hp _ HQ1.out hn HMk.out)
  rw [plan_eq] at HNw
  have HOn := hide (HNw.out w3 dk0 [] [] _ hO (by decide))
  have hn0 := nwN_n (p := p) (q := q) (id := 0) (D := dk0)
  have hn0' : (nwN p q 0 dk0).n <= 100000 := by have : dk0.n = 0 := rfl; omega
  have hb23 := Below.next hb2 hb3
  clear c0 c1 c2 c3 c4 c5 c6 c7 d0 d1 d2 hn0 hO hn3 hg hb2 hb3
  obtain ⟨⟨c0, c1, c2, c3, c4, c5, c6, c7⟩, d0, d1, d2⟩ := HX.out w3 hb23
  generalize nwN p q 0 dk0 = D0 at *
  generalize nwE p q 0 dk0 = er0 at *
  go_upto_block 0 with (go_at_call 9; refine HOn.out.mono ?_; rintro e w4 ⟨r4, rfl, hO4⟩; have HO4 := hide hO4)
  clear HOn hO4 hb23 HTm HN c0 c1 c2 c3 c4 c5 c6 c7 d0 d1 d2
  go_wp2
  go_loopw [8, 9, 10, 11] (fun v8 v9 v10 v11 wr => ∃ (k : Nat) (D : Dsk) (rs : List (List Int)) (ms : List Mv2) (er : Int) (ag : Option Addr) (cg : Nat), k <= ss.length ∧ v11 = .int .i64 (k : Int) ∧ v9 = .int .i64 er ∧ v10 = .slice ag ms.length cg ∧ ms.length <= k ∧ D.n <= 300000 * (k + 1) ∧ Hid (Oc W1 wr g p q D rs ms (.slice ag ms.length cg) v8 er)) (fun _ _ _ v11 _ => ss.length - (intOf v11).toNat)
  case atStart => exact ⟨0, _, _, _, _, _, _, Nat.zero_le _, rfl, rfl, rfl, Nat.zero_le _, by omega, HO4⟩
  case round =>
   clear HO4
   obtain ⟨k, D, rs, ms, er, ag, cg, hk, rfl, rfl, rfl, hmk, hDn, HB⟩ := hrel
   by_cases hlt : k < ss.length
   · have hwr := Below.next HA.out HB.out.od.low
     obtain ⟨b, off, cap', hv, _, _⟩ := HS.out.lm.form (by omega)
     injection hv with hv1 hv2 hv3
     subst hv1 hv3
     obtain ⟨y0, y1, y2⟩ := HS.out.sq hwr hlt
     have HOk := hide (HS.out.ok _ (List.getElem_mem hlt))
     have ii0 : (0 : Int) <= (k : Int) := by omega
     have ii1 : (k : Int) < (ss.length : Int) := by omega
     have hEb : D.n + 300000 < 4611686018427387904 := by omega
     have hb0 := HB.out.below (alloc_below wr (.cells #[.int .u8 ss[k].c, .int .i64 ss[k].n, ss[k].u] 32))
     have hbx := bx4_new wr ss[k]
     obtain ⟨bo, hbo⟩ : ∃ bo, wr.heap.size = bo := ⟨_, rfl⟩
     have hrb : ∀ V, Below W1.heap.size W1 V -> Rb V ss[k].u ss[k].bs := fun V hV => HOk.out.rb.below (Below.next HA.out hV)
     have hnn := HOk.out.n
     have hcc := HOk.out.c
     have hln := HOk.out.len
     obtain ⟨ua, uc, hue, _⟩ := HOk.out.rb.spell
     rw [hbo] at hbx
     obtain ⟨x0, x1, x2⟩ := hbx.cells
     have hno := HB.out.no
     have hyes := HB.out.yes
     generalize ss[k] = s at *
     have HBx := hide hbx
     have HB0 := hide hb0
     have HRb := hide hrb
     clear HOk hb0 hbx hrb hwr HB hv2
     obtain ⟨sc, su, sbs, sn⟩ := s
     dsimp only at *
     subst hue
     go_upto_region 9 with fail
     go_cut [51] from 46 to 51 (fun v51 wx => v51 = .bool false ∧ wx = wr)
     case first =>
      by_cases he : er = 0
      · obtain ⟨_, kb, _, _, _, _, rfl, _⟩ := hyes he
        subst he
        clear hno hyes HB0
        go_wp2
        go_meet
        exact ⟨rfl, rfl⟩
      · have e2 := hno he
        subst e2
        have q9 : (er == 0) = false := beq_eq_false_iff_ne.2 he
        clear hno hyes HB0
        go_wp2
        go_meet
        exact ⟨rfl, rfl⟩
     obtain ⟨rfl, hwc⟩ := hcut
     rw [hwc]
     clear hwc wc
     go_upto_block 2 with fail
     generalize wr.alloc (.cells #[.int .u8 sc, .int .i64 sn, .slice ua sbs.length uc] 32) = W0 at *
     clear y0 y1 y2 hbo
     by_cases h0 : sc = 0
     · subst h0
       by_cases he : er = 0
       · subst he
         obtain ⟨_, kb, _, _, _, _, rfl, _⟩ := hyes rfl
         clear hno hyes
         have hrb0 := HRb.out W0 HB0.out.od.low
         obtain ⟨st, hOn⟩ := oc_on HB0.out hrb0 (by omega) HBx.out
         have hdn := onN_n (f := p.f) (wd := p.w) (id := 0) (st := st) (D := D) (b := sbs)
         have hby := hrb0.by
         have HOn := hide hOn
         clear hOn hrb0
         generalize onN sum8 p.f p.w 0 st D sbs = D2 at *
         generalize onE sum8 p.f p.w 0 st D sbs = ge at *
         generalize onL sum8 p.f p.w 0 (rpL p q) st D sbs = zs at *
         by_cases hge : ge = 0
         · subst hge
           go_upto_region 17 with (go_at_call 11; refine HOn.out.mono ?_; rintro e w2 ⟨a2, c2, rfl, hbx2, hrb2, rs2, hO2, hz2⟩; have Hz2 := hide hz2; clear hz2)
           obtain ⟨z1, z2, z3, z4, z5⟩ := Hz2.out trivial
           have hsz2 := hO2.od.sz
           clear Hz2 HOn HB0 HBx x0 x1 x2
           obtain ⟨f1, f2, f3, f4, f5⟩ := shB_facts z1
           have hwd := mr_words w2 hby
           have hmd := mr_mgd w2 hby
           have hsl : (mrM sum8 sbs).l.length <= 64 := (mgM_facts (mw_of_mr hby f1).1).2.2.2.2.2.2
           have hrw := rp_wd p q (xs := (mrM sum8 sbs).l) hwd.2
           obtain ⟨m1, m2⟩ := mr_mw z4 (fun x hx => (hrw.2 x hx).1)
           have hml : (rpL p q (mrM sum8 sbs).l).length <= 64 := (mgM_facts z4).2.2.2.2.2.2
           unfold onM at z2 m1 m2
           have HR1 := hide (dReadM _ _ _ hrb2)
           unfold GivesMsg at HR1
           rw [z2, m1, m2] at HR1
           unfold mgv mgc at HR1
           dsimp only at HR1
           have HR2 := hide (fun W (hb : Below W1.heap.size W1 W) => dReadM _ _ W (HRb.out W hb))
           unfold GivesMsg at HR2
           rw [f1] at HR2
           unfold mgv mgc at HR2
           have HRp := hide (fun W x (hb : Below W1.heap.size W1 W) (hr : Rw W x (mrM sum8 sbs).l) => dReply16 p q _ x _ W hp (HQ1.out W hb) hr)
           unfold Gives at HRp
           rw [plan_eq, z3] at HRp
           have hMd : Mgd ⟨2, (mrM sum8 sbs).r, 0, p.f, rpL p q (mrM sum8 sbs).l⟩ := ⟨⟨(by decide : (0 : Int) <= 2), (by decide : (2 : Int) <= 255)⟩, hmd.r, ⟨(by decide : (-9223372036854775808 : Int) <= 0), (by decide : (0 : Int) <= 9223372036854775807)⟩, by rw [<- f4]; exact hmd.f⟩
           clear z1 z3 z4 f1 f2 f3 f4 f5 m1 m2 hmd
           rw [z2] at hrb2 ⊢
           clear z2
           generalize mwL sum8 ⟨2, (mrM sum8 sbs).r, 0, p.f, rpL p q (mrM sum8 sbs).l⟩ = zs2 at *
           generalize mrM sum8 sbs = sm at *
           go_upto_region 18 with (go_at_call 30; refine HR1.out.mono ?_; rintro e w3 ⟨s3, rfl, ho3, hb3⟩; obtain ⟨a3, k3, rfl⟩ := own_form ho3)
           clear HR1 hrb2
           have hA3 := alloc_below w3 (.cells #[.int .u8 2, .int .i64 sm.r, .int .i64 0, .int .u8 p.f, .slice a3 (rpL p q sm.l).length k3] 74)
           have n3 := heap_alloc_new w3 (.cells #[.int .u8 2, .int .i64 sm.r, .int .i64 0, .int .u8 p.f, .slice a3 (rpL p q sm.l).length k3] 74)
           obtain ⟨w4, hw4⟩ : ∃ w4, w3.alloc (.cells #[.int .u8 2, .int .i64 sm.r, .int .i64 0, .int .u8 p.f, .slice a3 (rpL p q sm.l).length k3] 74) = w4 := ⟨_, rfl⟩
           obtain ⟨mo, hmo⟩ : ∃ mo, w3.heap.size = mo := ⟨_, rfl⟩
           rw [hw4] at hA3 n3 ⊢
           rw [hmo] at n3 ⊢
           have hb4 := Below.next hb3 hA3
           have ho4 := own_below ho3 hA3
           have hlow4 : Below W1.heap.size W1 w4 := hO2.od.low.trans (hb4.mono hO2.od.sz)
           obtain ⟨x0, x1, x2⟩ := (hbx2.below hb4).cells
           have HRs := hide (HR2.out w4 hlow4)
           have HN4 := hide n3
           clear HR2 hA3 n3 hw4 hmo hb3 ho3
           go_upto_region 19 with (go_at_call 30; refine HRs.out.mono ?_; rintro e w5 ⟨s5, rfl, ho5, hb5⟩; obtain ⟨a5, k5, rfl⟩ := own_form ho5)
           clear HRs x0 x1 x2
           have hA5 := alloc_below w5 (.cells #[.int .u8 sm.k, .int .i64 sm.r, .int .i64 sm.v, .int .u8 sm.f, .slice a5 sm.l.length k5] 74)
           have n5 := heap_alloc_new w5 (.cells #[.int .u8 sm.k, .int .i64 sm.r, .int .i64 sm.v, .int .u8 sm.f, .slice a5 sm.l.length k5] 74)
           obtain ⟨w6, hw6⟩ : ∃ w6, w5.alloc (.cells #[.int .u8 sm.k, .int .i64 sm.r, .int .i64 sm.v, .int .u8 sm.f, .slice a5 sm.l.length k5] 74) = w6 := ⟨_, rfl⟩
           obtain ⟨so, hso⟩ : ∃ so, w5.heap.size = so := ⟨_, rfl⟩
           rw [hw6] at hA5 n5 ⊢
           rw [hso] at n5 ⊢
           have hb46 := Below.next hb5 hA5
           have hb6 := Below.next hb4 hb46
           have hlow6 : Below W1.heap.size W1 w6 := hO2.od.low.trans (hb6.mono hO2.od.sz)
           have HRq := hide (HRp.out w6 _ hlow6 (rw_of_own (own_below ho5 hA5) (by omega) hwd.2))
           obtain ⟨⟨c0, c1, c2, c3, c4, c5, c6, c7⟩, d0, d1, d2⟩ := HX.out w6 hlow6
           have y1 := cell_at (i := 1) n5 rfl
           have y4 := cell_at (i := 4) n5 rfl
           have HN5 := hide n5
           have ho6 := own_below ho4 hb46
           have hm6 := (hb46.block _ (Array.getElem?_eq_some_iff.1 HN4.out).1).trans HN4.out
           have HN6 := hide hm6
           clear HRp hA5 n5 hw6 hso hb5 ho5 HN4 hb46 hb4 ho4 hlow4 hm6
           go_upto_region 20 with (go_at_call 31; refine HRq.out.mono ?_; rintro e w7 ⟨v7, rfl, ho7, hb7⟩; obtain ⟨a7, k7, rfl⟩ := own_form ho7)
           clear HRq c0 c1 c2 c3 c4 c5 c6 c7 d0 d1 d2 y1 y4
           have n7 := (hb7.block _ (Array.getElem?_eq_some_iff.1 HN6.out).1).trans HN6.out
           have s7 := (hb7.block _ (Array.getElem?_eq_some_iff.1 HN5.out).1).trans HN5.out
           have x0 := cell_at (i := 0) n7 rfl
           have x1 := cell_at (i := 1) n7 rfl
           have x2 := cell_at (i := 2) n7 rfl
           have x4 := cell_at (i := 4) n7 rfl
           have y1 := cell_at (i := 1) s7 rfl
           have ho67 := own_below ho6 hb7
           have HSm := hide (Same_dec (.slice a3 (rpL p q sm.l).length k3) (.slice a7 (rpL p q sm.l).length k7) _ _ w7 (row_of_own ho67 rfl hrw.1 hrw.2) (row_of_own ho7 rfl hrw.1 hrw.2))
           rw [decide_eq_true (rfl : rpL p q sm.l = rpL p q sm.l)] at HSm
           have hb27 := Below.next hb6 hb7
           have HN7 := hide n7
           have HO7 := hide ho67
           clear HN5 HN6 n7 s7 ho67 hb6 hb7 ho6 ho7
           have rr : (sm.r != sm.r) = false := bne_self_eq_false _
           go_upto_region 22 with (go_at_call 16; refine HSm.out.mono ?_; rintro e w8 ⟨rfl, nq, hw8⟩; have hb78 : Below w7.heap.size w7 w8 := (by rw [hw8]; exact drewN_below w7 nq); clear hw8)
           clear HSm x0 x1 x2 x4 y1 rr
           have hb28 := Below.next hb27 hb78
           have HO8 := hide (own_below HO7.out hb78)
           have HN8 := hide ((hb78.block _ (Array.getElem?_eq_some_iff.1 HN7.out).1).trans HN7.out)
           have HO2 := hide (hO2.below hb28)
           clear HO7 HN7 hb78 hb27 hO2 hlow6 hb28
           obtain ⟨ng, HNg⟩ : ∃ ng, Hid (ms.length = ng) := ⟨_, hide rfl⟩
           have hng : ng <= 3518437208780 := by have := HNg.out; omega
           rw [HNg.out] at HO2 ⊢
           have hsM := hrw
           have HMw := hide (fun W lo x (ho : World.ownsRow W lo 83 1 x (rpL p q sm.l).length (vals (rpL p q sm.l))) => mw_own (m := ⟨2, sm.r, 0, p.f, rpL p q sm.l⟩) hMd hsM.2 (Nat.le_trans hml (by decide)) ho)
           have hZ5 := hide z5
           clear HX HNw HQ1 HRb HW ga hMd hrw hsM z5
           obtain ⟨nl, Hnl⟩ : ∃ nl, Hid ((rpL p q sm.l).length = nl) := ⟨_, hide rfl⟩
           go_wp2
           go_loopw [21] (fun v21 wx => ∃ j : Nat, j <= ng ∧ v21 = .int .i64 (j : Int) ∧ Hid (Below w8.heap.size w8 wx)) (fun v21 _ => ng - (intOf v21).toNat)
           case atStart => exact ⟨0, Nat.zero_le _, rfl, hide (Below.refl _ _)⟩
           case round =>
            obtain ⟨j, hj, rfl, HBw⟩ := hrel
            by_cases hjn : j < ng
            · have hjm : j < ms.length := by rw [HNg.out]; exact hjn
              have jj0 : (0 : Int) <= (j : Int) := by omega
              have jj1 : (j : Int) < (ng : Int) := by omega
              obtain ⟨ag2, cg2, e2, _, hsp⟩ := own_spellO HO2.out.od.gv.row
              injection e2 with e2 e4 e3
              clear e4
              subst e2 e3
              obtain ⟨G, eG, _⟩ := hsp (by omega)
              subst eG
              clear hsp
              obtain ⟨xv, hxv, hme⟩ := HO2.out.od.ok _ (List.getElem_mem hjm)
              have HC := hide (fun V (hb : Below w8.heap.size w8 V) => (HO2.out.od.gv.below hb).at_ hjm)
              have HE := hide (fun V (hb : Below w8.heap.size w8 V) => (HO2.out.od.gv.below hb).each _ (List.getElem_mem hjm))
              generalize ms[j] = ej at *
              obtain ⟨em, es⟩ := ej
              dsimp only at *
              have HKp := hide (fun V (hb : Below w8.heap.size w8 V) => (show (V.cell? ⟨G, j * 5, none⟩ = some (.int .u8 em.k) ∧ V.cell? ⟨G, j * 5 + 1, none⟩ = some (.int .i64 em.r) ∧ V.cell? ⟨G, j * 5 + 2, none⟩ = some (.int .i64 em.v) ∧ V.cell? ⟨G, j * 5 + 3, none⟩ = some (.int .u8 em.f) ∧ V.cell? ⟨G, j * 5 + 4, none⟩ = some es) ∧ (V.cell? ⟨mo, 0, none⟩ = some (.int .u8 2) ∧ V.cell? ⟨mo, 1, none⟩ = some (.int .i64 sm.r) ∧ V.cell? ⟨mo, 2, none⟩ = some (.int .i64 0) ∧ V.cell? ⟨mo, 3, none⟩ = some (.int .u8 p.f) ∧ V.cell? ⟨mo, 4, none⟩ = some (.slice a3 (rpL p q sm.l).length k3)) from
               ⟨HC.out V hb, by
                have n9 := (hb.block _ (Array.getElem?_eq_some_iff.1 HN8.out).1).trans HN8.out
                exact ⟨cell_at (i := 0) n9 rfl, cell_at (i := 1) n9 rfl, cell_at (i := 2) n9 rfl, cell_at (i := 3) n9 rfl, cell_at (i := 4) n9 rfl⟩⟩))
              have hS0 := HKp.out _ HBw.out.drew
              by_cases hr : em.r = sm.r
              · have hme2 : em = ⟨2, sm.r, 0, p.f, rpL p q sm.l⟩ := by
                 rw [hr, hZ5.out] at hxv
                 rw [hme, hr, Option.some.inj hxv]
                subst hme2
                have HSm := hide (fun W (hb : Below w8.heap.size w8 W) => dSameM ⟨2, sm.r, 0, p.f, rpL p q sm.l⟩ ⟨2, sm.r, 0, p.f, rpL p q sm.l⟩ es _ W (HMw.out W _ _ (HE.out W hb)) (HMw.out W _ _ (own_below HO8.out hb)))
                rw [mgS_self] at HSm
                unfold mgv mgc at HSm
                have HSn := hide (HSm.out _ HBw.out.drew)
                clear hxv hme hr HC HE HSm HMw
                go_upto_region 25 with fail
                refine wp_region_held_drew (S := (fun V => (V.cell? ⟨G, j * 5, none⟩ = some (.int .u8 2) ∧ V.cell? ⟨G, j * 5 + 1, none⟩ = some (.int .i64 sm.r) ∧ V.cell? ⟨G, j * 5 + 2, none⟩ = some (.int .i64 0) ∧ V.cell? ⟨G, j * 5 + 3, none⟩ = some (.int .u8 p.f) ∧ V.cell? ⟨G, j * 5 + 4, none⟩ = some es) ∧ (V.cell? ⟨mo, 0, none⟩ = some (.int .u8 2) ∧ V.cell? ⟨mo, 1, none⟩ = some (.int .i64 sm.r) ∧ V.cell? ⟨mo, 2, none⟩ = some (.int .i64 0) ∧ V.cell? ⟨mo, 3, none⟩ = some (.int .u8 p.f) ∧ V.cell? ⟨mo, 4, none⟩ = some (.slice a3 (rpL p q sm.l).length k3)))) (by kernel_rfl) (by ((try dsimp only) <;> (first | with_reducible exact hS0 | with_reducible exact hS1))) (fun hHeld => ?_)
                refine tkY 0 ?_
                refine tkY 1 ?_
                refine tkY 2 ?_
                refine tkY 3 ?_
                refine tkY 4 ?_
                refine tkY 5 ?_
                refine tkY 6 ?_
                refine tkY 7 ?_
                refine tkY 8 ?_
                refine tkY 9 ?_
                refine tkY 10 ?_
                refine tkY 11 ?_
                refine tkY 12 ?_
                refine tkY 13 ?_
                refine rd1 14 (fun K hK => ?_)
                (try simp only [ly0, ly1, ly2, ly3, ly4, ly5, ly6, ly7])
                go_simp
                (go_at_call 32; refine HSn.out.mono ?_; rintro e w10 ⟨rfl, hb10⟩; have hS1 := HKp.out _ (Below.next HBw.out.drew hb10))
                first | refine hK.out _ _ ?k36 (fun hHeld => ?_) | (go_wp2_with fail; refine hK.out _ _ ?k36 (fun hHeld => ?_))
                case k36 => ((try dsimp only) <;> (first | with_reducible exact hS0 | with_reducible exact hS1))
                clear hK K
                (try simp only [ly0, ly1, ly2, ly3, ly4, ly5, ly6, ly7])
                refine tkY 15 ?_
                refine tkY 16 ?_
                refine wpAnyH_done (by kernel_rfl) ?_ _
                clear hS0 hS1
                go_wp2
                go_roundw
                case rel => exact ⟨j + 1, by omega, by go_num, hide (Below.next HBw.out.drew hb10)⟩
                case measure => simp [intOf]; omega
              · have qr : (em.r == sm.r) = false := beq_eq_false_iff_ne.2 hr
                clear hxv hme HC HE HMw
                go_upto_region 25 with fail
                refine wp_region_held_drew (S := (fun V => (V.cell? ⟨G, j * 5, none⟩ = some (.int .u8 em.k) ∧ V.cell? ⟨G, j * 5 + 1, none⟩ = some (.int .i64 em.r) ∧ V.cell? ⟨G, j * 5 + 2, none⟩ = some (.int .i64 em.v) ∧ V.cell? ⟨G, j * 5 + 3, none⟩ = some (.int .u8 em.f) ∧ V.cell? ⟨G, j * 5 + 4, none⟩ = some es) ∧ (V.cell? ⟨mo, 0, none⟩ = some (.int .u8 2) ∧ V.cell? ⟨mo, 1, none⟩ = some (.int .i64 sm.r) ∧ V.cell? ⟨mo, 2, none⟩ = some (.int .i64 0) ∧ V.cell? ⟨mo, 3, none⟩ = some (.int .u8 p.f) ∧ V.cell? ⟨mo, 4, none⟩ = some (.slice a3 (rpL p q sm.l).length k3)))) (by kernel_rfl) (by ((try dsimp only) <;> (with_reducible exact hS0))) (fun hHeld => ?_)
                refine tkY 0 ?_
                refine tkY 1 ?_
                refine tkY 2 ?_
                refine tkY 3 ?_
                refine tkY 4 ?_
                refine tkY 5 ?_
                refine tkY 6 ?_
                refine tkY 7 ?_
                refine tkY 8 ?_
                refine tkU 9 ?_
                refine tkU 10 ?_
                refine tkU 11 ?_
                refine tkU 12 ?_
                refine tkU 13 ?_
                refine tkU 14 ?_
                refine tkU 15 ?_
                refine tkY 16 ?_
                refine wpAnyH_done (by kernel_rfl) ?_ _
                clear hS0
                go_wp2
                go_roundw
                case rel => exact ⟨j + 1, by omega, by go_num, hide HBw.out.drew⟩
                case measure => simp [intOf]; omega
            · have ejn : j = ng := by omega
              subst ejn
              clear HMw
              have hA9 := alloc_below wr (.cells #[.int .u8 2, .int .i64 sm.r, .int .i64 0, .int .u8 p.f, .slice a3 (rpL p q sm.l).length k3] 74)
              have hbl := Below.next HBw.out hA9
              have n9 := (HBw.out.block _ (Array.getElem?_eq_some_iff.1 HN8.out).1).trans HN8.out
              have x0 := cell_at (i := 0) n9 rfl
              have x1 := cell_at (i := 1) n9 rfl
              have x2 := cell_at (i := 2) n9 rfl
              have x3 := cell_at (i := 3) n9 rfl
              have x4 := cell_at (i := 4) n9 rfl
              have HOa := hide (HO2.out.below hbl)
              obtain ⟨v9, W9, hr9, hgv9, hg9⟩ := appM HOa.out.od.gv wr.heap.size ⟨2, sm.r, 0, p.f, rpL p q sm.l⟩ (.slice a3 (rpL p q sm.l).length k3) (heap_alloc_new wr _) (own_mono (own_below HO8.out hbl) hsz2) (by rw [HNg.out]; omega) HOa.out.od.sz
              obtain ⟨a9, k9, e9, _, _⟩ := own_spellO hgv9.row
              subst e9
              have HO9 := hide (HOa.out.app hgv9 hg9 ⟨sm.l, hZ5.out, rfl⟩)
              have hlm : (ms ++ [((⟨2, sm.r, 0, p.f, rpL p q sm.l⟩ : Mg), Value.slice a3 (rpL p q sm.l).length k3)]).length = ms.length + 1 := by simp
              have Hlm := hide hlm
              clear hlm
              clear HOa hgv9 hg9 hA9 hbl n9 HO2
              generalize ms ++ [((⟨2, sm.r, 0, p.f, rpL p q sm.l⟩ : Mg), Value.slice a3 (rpL p q sm.l).length k3)] = ms2 at *
              go_wp2_with (at_builtin; refine app_runO rfl _ _ _ rfl _ _ _ rfl rfl hr9 ?_)
              go_roundw
              case rel => exact ⟨k + 1, D2, rs2, ms2, 0, a9, k9, by omega, by go_num, rfl, rfl, by rw [Hlm.out]; omega, by omega, HO9⟩
              case measure => simp [intOf]; omega
         · have qg : (ge != 0) = true := bne_iff_ne.2 hge
           clear HBx HRb HS HB0 hby
           go_wp2_with (go_at_call 11; refine HOn.out.mono ?_; rintro e w2 ⟨a2, c2, rfl, _, _, rs2, hO2, _⟩; have HO2 := hide hO2; clear hO2)
           go_roundw
           case rel => exact ⟨k + 1, D2, rs2, ms, 0, ag, cg, by omega, by go_num, rfl, rfl, by omega, by omega, HO2⟩
           case measure => simp [intOf]; omega
       · have e2 := hno he
         subst e2
         clear hno hyes HBx HRb HS
         go_wp2
         go_roundw
         case rel => exact ⟨k + 1, D, rs, ms, er, ag, cg, by omega, by go_num, rfl, rfl, by omega, by omega, HB0⟩
         case measure => simp [intOf]; omega
     · clear hno hyes HRb
       by_cases h2 : sc = 2
       · subst h2
         have HFu := hide (oc_fuse HB0.out sn hnn.2)
         have hfn : (fuN D sn).n <= D.n := by unfold fuN; split <;> exact Nat.le_refl _
         clear HBx HB0 HS
         generalize fuN D sn = D2 at *
         generalize fuE sn = ef at *
         go_wp2_with (go_at_call 21; refine HFu.out.mono ?_; rintro e w2 ⟨rfl, hO2⟩; have HO2 := hide hO2; clear hO2)
         go_roundw
         case rel => exact ⟨k + 1, D2, rs, ms, _, ag, cg, by omega, by go_num, rfl, rfl, by omega, by omega, HO2⟩
         case measure => simp [intOf]; omega
       · by_cases h3 : sc = 3
         · subst h3
           have HMd := hide (od_mend HB0.out.od)
           have HNx := hide (fun W2 (h : Od W1 W2 g p q (mdN D) rs ms (.slice ag ms.length cg)) => HNw.out W2 (mdN D) rs ms _ h (show D.n < 4611686018427387904 by omega))
           have hn2 := nwN_n (p := p) (q := q) (id := 0) (D := mdN D)
           have hn2' : (nwN p q 0 (mdN D)).n <= D.n + 100000 := hn2
           clear HBx HB0 HS hn2
           generalize nwN p q 0 (mdN D) = D2 at *
           generalize nwE p q 0 (mdN D) = er2 at *
           go_wp2_with (first
            | (go_at_call 23; refine HMd.out.mono ?_; rintro e w2 ⟨rfl, hO2⟩; have HNy := hide (HNx.out w2 hO2); obtain ⟨⟨c0, c1, c2, c3, c4, c5, c6, c7⟩, d0, d1, d2⟩ := HX.out w2 hO2.low; clear hO2)
            | (go_at_call 9; refine HNy.out.mono ?_; rintro e w4 ⟨r4, rfl, hO4⟩; have HO4 := hide hO4; clear hO4 c0 c1 c2 c3 c4 c5 c6 c7 d0 d1 d2))
           go_roundw
           case rel => exact ⟨k + 1, D2, rs, ms, er2, ag, cg, by omega, by go_num, rfl, rfl, by omega, by omega, HO4⟩
           case measure => simp [intOf]; omega
         · by_cases h4 : sc = 4
           · subst h4
             have HNy := hide (HNw.out W0 D rs ms _ HB0.out.od (by omega))
             have hn2 := nwN_n (p := p) (q := q) (id := 0) (D := D)
             obtain ⟨⟨c0, c1, c2, c3, c4, c5, c6, c7⟩, d0, d1, d2⟩ := HX.out W0 HB0.out.od.low
             clear HBx HB0 HS
             generalize nwN p q 0 D = D2 at *
             generalize nwE p q 0 D = er2 at *
             go_wp2_with (go_at_call 9; refine HNy.out.mono ?_; rintro e w4 ⟨r4, rfl, hO4⟩; have HO4 := hide hO4; clear hO4 c0 c1 c2 c3 c4 c5 c6 c7 d0 d1 d2)
             go_roundw
             case rel => exact ⟨k + 1, D2, rs, ms, er2, ag, cg, by omega, by go_num, rfl, rfl, by omega, by omega, HO4⟩
             case measure => simp [intOf]; omega
           · have q0 : (sc == 0) = false := beq_eq_false_iff_ne.2 h0
             have q2 : (sc == 2) = false := beq_eq_false_iff_ne.2 h2
             have q3 : (sc == 3) = false := beq_eq_false_iff_ne.2 h3
             have q4 : (sc == 4) = false := beq_eq_false_iff_ne.2 h4
             clear HBx HS
             go_wp2
             go_roundw
             case rel => exact ⟨k + 1, D, rs, ms, er, ag, cg, by omega, by go_num, rfl, rfl, by omega, by omega, HB0⟩
             case measure => simp [intOf]; omega
   · have ekn : k = ss.length := by omega
     subst ekn
     have HMd := hide (od_mend HB.out.od)
     have HNx := hide (fun W2 (h : Od W1 W2 g p q (mdN D) rs ms (.slice ag ms.length cg)) => HNw.out W2 (mdN D) rs ms _ h (show D.n < 4611686018427387904 by omega))
     have e0 : nwE p q 0 (mdN D) = 0 := by
      unfold nwE
      rw [if_pos HMk.out]
      exact (((HB.out.od.kp.of_l (E := mdN D) rfl (mdN_ok HB.out.od.kp.ok)).open_ sum8_bd).2 (md_die D)).1
     rw [e0] at HNx
     clear HB HS e0
     generalize nwN p q 0 (mdN D) = D2 at *
     go_upto_region 37 with (first
      | (go_at_call 23; refine HMd.out.mono ?_; rintro e w2 ⟨rfl, hO2⟩; have HNy := hide (HNx.out w2 hO2); obtain ⟨⟨c0, c1, c2, c3, c4, c5, c6, c7⟩, d0, d1, d2⟩ := HX.out w2 hO2.low; clear hO2)
      | (go_at_call 9; refine HNy.out.mono ?_; rintro e w4 ⟨r4, rfl, hO4⟩; have HO4 := hide hO4; clear hO4 c0 c1 c2 c3 c4 c5 c6 c7 d0 d1 d2))
     obtain ⟨hf, kb, mb, vo, vu, st, rfl, hw, hok, hst⟩ := HO4.out.yes rfl
     have HWk := hide hw
     have HSt := hide hst
     have HWo := hide hok
     clear hw hst hok HMd HNx HNy HNw hf
     obtain ⟨ng, HNg⟩ : ∃ ng, Hid (ms.length = ng) := ⟨_, hide rfl⟩
     have hng : ng <= 3518437208780 := by have := HNg.out; omega
     rw [HNg.out] at HO4 ⊢
     go_wp2
     go_loopw [22] (fun v22 wr2 => ∃ j : Nat, j <= ng ∧ v22 = .int .i64 (j : Int) ∧ Hid (Below w4.heap.size w4 wr2)) (fun v22 _ => ng - (intOf v22).toNat)
     case atStart => exact ⟨0, Nat.zero_le _, rfl, hide (Below.refl _ _)⟩
     case round =>
      obtain ⟨j, hj, rfl, HBw⟩ := hrel
      have hlow := HO4.out.od.low.trans (HBw.out.mono HO4.out.od.sz)
      by_cases hjn : j < ng
      · have hjm : j < ms.length := by rw [HNg.out]; exact hjn
        have jj0 : (0 : Int) <= (j : Int) := by omega
        have jj1 : (j : Int) < (ng : Int) := by omega
        have hgv := HO4.out.od.gv
        obtain ⟨ag2, cg2, e2, _, hsp⟩ := own_spellO hgv.row
        injection e2 with e2 e4 e3
        clear e4
        subst e2 e3
        obtain ⟨G, eG, _⟩ := hsp (by omega)
        subst eG
        obtain ⟨_, y1, _, _, _⟩ := (hgv.below HBw.out).at_ hjm
        have HY4 := hide (fun W (hb : Below w4.heap.size w4 W) => ((hgv.below hb).at_ hjm).2.2.2.2)
        have HEa := hide (fun W (hb : Below w4.heap.size w4 W) => (hgv.below hb).each _ (List.getElem_mem hjm))
        obtain ⟨xv, hxv, hme⟩ := HO4.out.od.ok _ (List.getElem_mem hjm)
        rw [<- HWo.out.1] at hxv
        have hmem := fnd_mem hxv
        have hrg := HSt.out.rng _ hmem
        have hsv : shW st.L ms[j].1.r = xv := shW_some hxv
        have hvw := hrg.2.2.1
        have HSh := hide (gShare24 (HWk.out.below HBw.out) ms[j].1.r ⟨by omega, by omega⟩ (Nat.le_trans (HSt.out.short _) (by decide)))
        rw [hxv, hsv] at HSh
        have hrw := rp_wd p q (xs := xv) hvw.2
        have heq : ms[j].1.l = rpL p q xv := by rw [hme]
        rw [heq] at HEa
        have HRp := hide (fun W x lo (hb : Below W1.heap.size W1 W) (ho : World.ownsRow W lo 83 1 x xv.length (vals xv)) => dReply16 p q _ x xv W hp (HQ1.out W hb) (rw_of_own ho hvw.1 hvw.2))
        unfold Gives at HRp
        rw [plan_eq] at HRp
        have HSm := hide (fun W x y l1 l2 (h1 : World.ownsRow W l1 83 1 x (rpL p q xv).length (vals (rpL p q xv))) (h2 : World.ownsRow W l2 83 1 y (rpL p q xv).length (vals (rpL p q xv))) => Same_dec x y _ _ W (row_of_own h1 rfl hrw.1 hrw.2) (row_of_own h2 rfl hrw.1 hrw.2))
        rw [decide_eq_true (rfl : rpL p q xv = rpL p q xv)] at HSm
        have HLow := hide (fun W (hb : Below w4.heap.size w4 W) => HO4.out.od.low.trans (hb.mono HO4.out.od.sz))
        obtain ⟨ax, kx, hsx⟩ := own_form (HEa.out w4 (Below.refl _ _))
        rw [hsx] at HY4 HEa
        clear hgv hxv hme hmem hrg hsv hvw hrw heq hsp hsx
        generalize rpL p q xv = zs at *
        generalize rpE p q xv = ez at *
        generalize ms[j].1.r = mr at *
        go_upto_region 44 with (first
         | (go_at_call 14; refine HSh.out.mono ?_; rintro e w5 ⟨v5, rfl, ho5, hb5⟩; have hb5' := Below.next HBw.out hb5; obtain ⟨⟨c0, c1, c2, c3, c4, c5, c6, c7⟩, d0, d1, d2⟩ := HX.out w5 (HLow.out _ hb5'); have HRq := hide (HRp.out w5 v5 _ (HLow.out _ hb5') ho5); obtain ⟨a5, k5, rfl⟩ := own_form ho5)
         | (go_at_call 31; refine HRq.out.mono ?_; rintro e w6 ⟨v6, rfl, ho6, hb6⟩; have hb6' := Below.next hb5' hb6; have z6 := HY4.out w6 hb6'; have HSn := hide (HSm.out w6 _ _ _ _ ho6 (HEa.out w6 hb6')); obtain ⟨a6, k6, rfl⟩ := own_form ho6))
        clear HSh HRp HRq HSm HEa c0 c1 c2 c3 c4 c5 c6 c7 d0 d1 d2 ho5 ho6 y1
        go_wp2_with (go_at_call 16; refine HSn.out.mono ?_; rintro e w7 ⟨rfl, nq, hw7⟩; have hb7 : Below w4.heap.size w4 w7 := (by rw [hw7]; exact Below.next hb6' (drewN_below w6 nq)); clear hw7)
        go_roundw
        case rel => exact ⟨j + 1, by omega, by go_num, hide hb7⟩
        case measure => simp [intOf]; omega
      · have ejn : j = ng := by omega
        subst ejn
        have HAl := hide hlow
        clear HWk HSt HWo hlow
        go_wp2_with (go_at_call 27; refine (ga.out _).mono ?_; rintro e w5 ⟨rfl, hb5⟩)
        go_ret
        exact ⟨rfl, Below.next HA.out (Below.next HAl.out hb5)⟩
def frB (p : Pn) (xs : List Int) : List Int := mwL sum8 ⟨1, 0, 0, p.f, xs⟩
def frR (p : Pn) (q : Pr) (xs : List Int) : List Int := mwL sum8 ⟨2, 0, 0, p.f, rpL p q xs⟩
theorem mw_short {m : Mg} (h : mgM m = true) : (mwL sum8 m).length <= 538 := by
 have e : mwL sum8 m = slF sum8 (mgI m) := by unfold mwL; rw [if_pos h]
 have := (mgI_len h).2
 rw [e, slF_len]; omega
theorem tm_may {p : Pn} {q : Pr} (h : tmB p q = true) : mayP p = true := by
 have h1 : acE p = 0 := (of_decide_eq_true h).1
 cases hm : mayP p with
 | true => rfl
 | false => unfold acE at h1; rw [hm] at h1; cases h1
structure Frv (p : Pn) (q : Pr) (xs : List Int) : Prop where
 we : mwE ⟨1, 0, 0, p.f, xs⟩ = 0
 ne : nwE p q 0 dk0 = 0
 nn : nwN p q 0 dk0 = dk0
 nw : nwW p 0 dk0 = ⟨[], false⟩
 oe : onE sum8 p.f p.w 0 ⟨[], false⟩ dk0 (frB p xs) = 0
 ow : onW sum8 p.f p.w 0 ⟨[], false⟩ dk0 (frB p xs) = ⟨[(0, xs)], false⟩
 ol : onL sum8 p.f p.w 0 (rpL p q) ⟨[], false⟩ dk0 (frB p xs) = frR p q xs
 ae : ∀ D, onE sum8 p.f p.w 0 ⟨[(0, xs)], false⟩ D (frB p xs) = 0
 al : ∀ D, onL sum8 p.f p.w 0 (rpL p q) ⟨[(0, xs)], false⟩ D (frB p xs) = frR p q xs
 b : (frB p xs).length <= 538 ∧ By (frB p xs)
 r : (frR p q xs).length <= 538 ∧ By (frR p q xs)
 l : xs.length <= 64
 st : Wst [(0, xs)]
theorem frv_of (w : World) {p : Pn} {q : Pr} {xs : List Int} (htm : tmB p q = true) (hl : (xs.length : Int) = p.w) (hi : inF p.f xs = true) (hw : ∀ x ∈ xs, 0 <= x ∧ x <= 18446744073709551615) : Frv p q xs := by
 obtain ⟨n1, n2, n3⟩ := new0
 have hmk := mk_of_tm htm
 have hp := (may_facts (tm_may htm)).2.2.2.2.2.2
 have hl64 : xs.length <= 64 := by omega
 have hi' : Go.Proofs.YtipobchbnjgenaaGreat.Fld.inW p.f xs = true := hi
 have hm : mgM ⟨1, 0, 0, p.f, xs⟩ = true := decide_eq_true ⟨.inl rfl, (by decide : (0 : Int) <= 0), (by decide : (0 : Int) < 65536), (by decide : (0 : Int) <= 0), (by decide : (0 : Int) < 64), hi', hl64⟩
 obtain ⟨a1, a2⟩ := mr_mw (m := ⟨1, 0, 0, p.f, xs⟩) hm (fun x hx => (hw x hx).1)
 have a1 : mrE sum8 (frB p xs) = 0 := a1
 have a2 : mrM sum8 (frB p xs) = ⟨1, 0, 0, p.f, xs⟩ := a2
 have hby : By (frB p xs) := (mw_by (m := ⟨1, 0, 0, p.f, xs⟩)).1
 have hs : shB sum8 p.f p.w 0 (frB p xs) = true := by
  unfold shB; rw [a1, a2]; exact decide_eq_true ⟨rfl, rfl, rfl, rfl, hl⟩
 have hae : apE23 sum8 dk0 (frB p xs) = 0 := by
  have hl := shB_len hby hs
  unfold apE23
  rw [if_neg (by omega)]
  refine ws_free _ _ rfl rfl (ck32_32 (jrB_len sum8 _)) ?_
  rw [jrC_len]
  have := jrN_bd (frB p xs).length
  show 0 + _ <= _
  omega
 have hf1 : fndW (⟨[], false⟩ : Wk).L (mrM sum8 (frB p xs)).r = none := rfl
 obtain ⟨o1, _, o3, o4⟩ := on_new (D := dk0) (id := 0) (st := ⟨[], false⟩) (b := frB p xs) (rpL p q) (f := p.f) (wd := p.w) rfl hs hf1 hae
 obtain ⟨_, m2, _⟩ := on_may hmk w hby hs
 have hM : onM sum8 p.f 0 (rpL p q) (frB p xs) = ⟨2, 0, 0, p.f, rpL p q xs⟩ := by unfold onM; rw [a2]
 rw [hM] at m2
 have hR : mwL sum8 (onM sum8 p.f 0 (rpL p q) (frB p xs)) = frR p q xs := by rw [hM]; rfl
 have hag : ∀ D, onE sum8 p.f p.w 0 ⟨[(0, xs)], false⟩ D (frB p xs) = 0 ∧ onL sum8 p.f p.w 0 (rpL p q) ⟨[(0, xs)], false⟩ D (frB p xs) = frR p q xs := fun D => by
  obtain ⟨g1, _, _, g4⟩ := on_again (D := D) (id := 0) (st := ⟨[(0, xs)], false⟩) (b := frB p xs) (rpL p q) (f := p.f) (wd := p.w) rfl hs (by rw [a2]; rfl)
  exact ⟨g1, g4.trans hR⟩
 refine ⟨if_pos hm, by unfold nwE; rw [if_pos hmk]; exact n1, by unfold nwN; rw [if_pos hmk]; exact n2, by unfold nwW; rw [n3]; rfl, o1, by rw [o3, a2]; rfl, o4.trans hR, fun D => (hag D).1, fun D => (hag D).2, ⟨mw_short hm, hby⟩, ⟨mw_short m2, (mw_by (m := ⟨2, 0, 0, p.f, rpL p q xs⟩)).1⟩, hl64, ?_⟩
 refine ⟨fun x hx => ?_, by simp⟩
 rw [List.mem_singleton.1 hx]
 exact ⟨(by decide : (0 : Int) <= 0), (by decide : (0 : Int) < 65536), ⟨by show xs.length <= _; omega, hw⟩, hl64⟩
theorem pm_cp24 {w W : World} {v vo vu : Value} {p : Pr} {B : Nat} (h : Pm w v p) (ho : W.ownsRow B 85 4 vo p.ops.length (p.ops.flatMap opw)) (hu : W.ownsRow B 3 1 vu p.outs.length (p.outs.flatMap iw)) : Pm W (.agg #[.int .i64 p.inp, vo, vu]) p := by
 obtain ⟨_, _, _, h1, h2⟩ := h.form
 exact ⟨⟨vo, vu, rfl, lm_of_own opw_len (by decide) ho h1.len, lm_of_own iw_len (by decide) hu h2.len⟩, h.inb, h.okb, h.oub⟩
theorem put_step24 {W : World} {base g n cap i : Nat} {os : List O4} {c7 : Array Value} {g7 : Nat} (ho : W.ownsRow base 85 4 (.slice (some ⟨g, 0, none⟩) n cap) n (os.flatMap opw)) (h7 : W.heap[g7]? = some (.cells c7 28 (0, 0))) (hi : i < os.length) (o : O4) :
 (set4 W g (i * 4) o).ownsRow base 85 4 (.slice (some ⟨g, 0, none⟩) n cap) n ((os.set i o).flatMap opw) ∧ (set4 W g (i * 4) o).heap[g7]? = some (.cells c7 28 (0, 0)) ∧ W.grownBy (set4 W g (i * 4) o) (some g) := by
 have hg := set4_grown W g (i * 4) o
 obtain ⟨cs, hcs⟩ := own_blk ho (g := g) rfl
 refine ⟨own_set4 ho hi o, (hg.block _ (Array.getElem?_eq_some_iff.1 h7).1 (fun e => ?_)).trans h7, hg⟩
 have e := Option.some.inj e
 rw [e, hcs] at h7
 cases h7
structure Fs (W1 V : World) (base kb mb g : Nat) (vo vu v : Value) (p : Pn) (q : Pr) (st : Wk) (D : Dsk) : Prop where
 wp : Wp V base kb mb g vo vu p q 0 st
 hd : Hd V base g v D
 low : Below W1.heap.size W1 V
 sz : base <= V.heap.size
 le : W1.heap.size <= base
section
variable {W1 V V' : World} {base kb mb g : Nat} {vo vu v : Value} {p : Pn} {q : Pr} {st : Wk} {D : Dsk}
theorem Fs.below (h : Fs W1 V base kb mb g vo vu v p q st D) (hb : Below V.heap.size V V') : Fs W1 V' base kb mb g vo vu v p q st D :=
 ⟨h.wp.below hb, h.hd.below hb, Below.next h.low hb, Nat.le_trans h.sz hb.size, h.le⟩
theorem Fs.spoil (h : Fs W1 V base kb mb g vo vu v p q st D) {lo n : Nat} {x : Value} {xs : List Value} (ho : V.ownsRow lo 5 1 x n xs) (hl : W1.heap.size <= lo) (hg : V.grownBy V' x.ownBlock) : Fs W1 V' base kb mb g vo vu v p q st D := by
 have k : Kq (fun j => j < V.heap.size ∧ x.ownBlock ≠ some j) V V' := grown_kq hg (fun j hj => hj.1) (fun k e hk => hk.2 e)
 obtain ⟨es, c, hm⟩ := h.wp.map.obj
 refine ⟨h.wp.kept k ⟨h.wp.lt, own_notO ho h.wp.blk (by decide)⟩ ⟨h.wp.map.lt, fun hj => own_map ho hm hj⟩ (fun T s v n xs hT hu j hj => ⟨(hu.lt j hj).2, own_kindO hu ho (by rcases hT with rfl | rfl | rfl <;> decide) j hj⟩), h.hd.kept k ⟨h.hd.lt, own_notO ho h.hd.dsk (by decide)⟩ (fun j hj => ⟨(h.hd.own_lt j hj).2, own_kindO h.hd.row ho (by decide) j hj⟩), ?_, Nat.le_trans h.sz hg.size, h.le⟩
 exact h.low.grown hg h.low.size (fun k hk => Nat.le_trans hl (ho.lt k hk).1)
theorem Fs.steps (h : Fs W1 V base kb mb g vo vu v p q st D) {r : Option Nat} (hg : V.grownBy V' r) (hr : ∀ k, r = some k -> W1.heap.size <= k ∧ k < base) : Fs W1 V' base kb mb g vo vu v p q st D := by
 have k : Kq (fun j => j < V.heap.size ∧ base <= j) V V' := grown_kq hg (fun j hj => hj.1) (fun k e hk => by have := (hr k e).2; omega)
 refine ⟨h.wp.kept k ⟨h.wp.lt, h.wp.lowk⟩ ⟨h.wp.map.lt, h.wp.lowm⟩ (fun T s v n xs hT hu j hj => ⟨(hu.lt j hj).2, (hu.lt j hj).1⟩), h.hd.kept k ⟨h.hd.lt, h.hd.low⟩ (fun j hj => ⟨(h.hd.own_lt j hj).2, (h.hd.own_lt j hj).1⟩), ?_, Nat.le_trans h.sz hg.size, h.le⟩
 exact h.low.grown hg h.low.size (fun k hk => (hr k hk).1)
theorem Fs.ev (h : Fs W1 V base kb mb g vo vu v p q st D) {v' : Value} {st' : Wk} {D' : Dsk} (hw : Wp V' base kb mb g vo vu p q 0 st') (hd : Hd V' base g v' D') (hE : Ev V V' kb mb g v v') : Fs W1 V' base kb mb g vo vu v' p q st' D' :=
 ⟨hw, hd, h.low.trans ((hE.below h.sz h.wp.lowk h.wp.lowm h.hd.low (fun j hj => (h.hd.own_lt j hj).1)).mono h.le), Nat.le_trans h.sz hE.kq.size, h.le⟩
theorem row_beside {lo s n : Nat} {T : TypeId} {x : Value} {xs : List Value} {r : Option Nat} (ho : V.ownsRow lo T s x n xs) (hg : V.grownBy V' r) (hr : ∀ j, x.ownBlock = some j -> r ≠ some j) : V'.ownsRow lo T s x n xs :=
 (grown_kq hg (S := fun j => j < V.heap.size ∧ r ≠ some j) (fun j hj => hj.1) (fun k e hk => hk.2 e)).own ho (fun j hj => ⟨(ho.lt j hj).2, hr j hj⟩)
end
theorem workerFresh_any (p : Pn) (q : Pr) (vq v : Value) (xs : List Int) (w : World) (hp : Ok8p p) (hq : Pm w vq q) (ho : q.ops.length * 32 <= 140737488351232) (hu : q.outs.length * 8 <= 140737488351232) (hr : Rw w v xs) : Calls Tryz.prog 6 #[plv p, vq, v] w fun e w' => e = .returned (.bool true) ∧ Below w.heap.size w w' := by
 have HQ := hide (fun V (hb : Below w.heap.size w V) => hq.below hb)
 have HCp := hide (fun V (hb : Below w.heap.size w V) => dCopy V vq q (hq.below hb) ho hu)
 have HPc := hide (fun V B x y h1 h2 => pm_cp24 (W := V) (B := B) (vo := x) (vu := y) hq h1 h2)
 have HR := hide (fun V (hb : Below w.heap.size w V) => hr.1.below hb)
 obtain ⟨av, cv, rfl, hlen, hws, _⟩ := hr.1
 have HWs := hide hws
 obtain ⟨vo, vu, rfl, hlo, hlu⟩ := hq.form
 obtain ⟨a1, ca, rfl, _⟩ := hlo.spell
 obtain ⟨a2, cu, rfl, _⟩ := hlu.spell
 have ga := hide (fun W => anch24 W)
 clear hq hlo hlu hr hws
 obtain ⟨no, HNo⟩ : ∃ no, Hid (q.ops.length = no) := ⟨_, hide rfl⟩
 obtain ⟨nu, HNu⟩ : ∃ nu, Hid (q.outs.length = nu) := ⟨_, hide rfl⟩
 have hno : no * 32 <= 140737488351232 := by rw [<- HNo.out]; exact ho
 rw [HNo.out, HNu.out] at HQ HCp HPc ⊢
 clear ho hu
 obtain ⟨W1, hW, hA, hS⟩ := pq_box w p q.inp (.slice a1 no ca) (.slice a2 nu cu) 24 28
 have HW := hide hW
 have HX := hide hS
 have HA := hide hA
 obtain ⟨⟨c0, c1, c2, c3, c4, c5, c6, c7⟩, d0, d1, d2⟩ := hS W1 (Below.refl _ _)
 have HTm := hide (dTeam p q _ W1 hp (HQ.out W1 hA))
 have HIn := hide (fun V (hb : Below w.heap.size w V) => rIn_any p.f _ xs V (HR.out V hb))
 rw [plan_eq] at HTm ⊢
 clear hW hS hA
 cases htm : tmB p q with
 | false =>
  rw [htm] at HTm
  clear htm
  go_enter Tryz.func6, Tryz.ntmps6
  go_upto_region 1 with fail
  rw [HW.out]
  go_wp2_with (first
   | (go_at_call 29; refine HTm.out.mono ?_; rintro e w2 ⟨rfl, hb2⟩)
   | (go_at_call 27; refine (ga.out _).mono ?_; rintro e w5 ⟨rfl, hb5⟩))
  go_ret
  exact ⟨rfl, Below.next (Below.next HA.out hb2) hb5⟩
 | true =>
  have HTt := hide htm
  rw [htm] at HTm
  clear htm
  by_cases hl : (xs.length : Int) = p.w
  · have qb : ((xs.length : Int) != p.w) = false := by rw [hl]; exact bne_self_eq_false _
    have HL := hide hl
    clear hl
    cases hi : inF p.f xs with
    | false =>
     rw [hi] at HIn
     clear hi
     go_enter Tryz.func6, Tryz.ntmps6
     go_upto_region 1 with fail
     rw [HW.out]
     go_wp2_with (first
      | (go_at_call 29; refine HTm.out.mono ?_; rintro e w2 ⟨rfl, hb2⟩; have HI2 := hide (HIn.out w2 (Below.next HA.out hb2)); obtain ⟨⟨c0, c1, c2, c3, c4, c5, c6, c7⟩, d0, d1, d2⟩ := HX.out w2 hb2)
      | (go_at_call 33; refine HI2.out.mono ?_; rintro e w3 ⟨rfl, hw3⟩; rw [hw3]; clear hw3)
      | (go_at_call 27; refine (ga.out _).mono ?_; rintro e w5 ⟨rfl, hb5⟩))
     go_ret
     exact ⟨rfl, Below.next (Below.next HA.out hb2) hb5⟩
    | true =>
     have HF := hide (frv_of w HTt.out HL.out hi HWs.out)
     rw [hi] at HIn
     clear hi
     have HCp1 := hide (fun V (hb : Below W1.heap.size W1 V) => HCp.out V (Below.next HA.out hb))
     go_enter Tryz.func6, Tryz.ntmps6
     go_upto_region 1 with fail
     rw [HW.out]
     go_upto_region 3 with (first
      | (go_at_call 29; refine HTm.out.mono ?_; rintro e w2 ⟨rfl, hb2⟩; have HI2 := hide (HIn.out w2 (Below.next HA.out hb2)); obtain ⟨⟨c0, c1, c2, c3, c4, c5, c6, c7⟩, d0, d1, d2⟩ := HX.out w2 hb2)
      | (go_at_call 33; refine HI2.out.mono ?_; rintro e w3 ⟨rfl, hw3⟩; rw [hw3]; clear hw3))
     have HB12 := hide hb2
     have HB2 := hide (Below.next HA.out hb2)
     have HCq := hide (HCp1.out w2 hb2)
     clear HI2 HIn HTm HCp HCp1 qb hb2
     go_upto_region 4 with (go_at_call 34; refine HCq.out.mono ?_; rintro e w3 ⟨v3, u3, rfl, ho3, hu3, hb3⟩; obtain ⟨eo, fo, rfl⟩ := own_slice ho3; obtain ⟨eu, fu, rfl⟩ := own_slice hu3)
     have hA3 := alloc_below w3 (.cells #[.int .i64 q.inp, .slice eo no fo, .slice eu nu fu] 28)
     have n3 := heap_alloc_new w3 (.cells #[.int .i64 q.inp, .slice eo no fo, .slice eu nu fu] 28)
     have HGb : Hid (∀ j, (Value.slice eo no fo).ownBlock = some j -> w2.heap.size <= j ∧ j < w3.heap.size) := fun j hj => ho3.lt j hj
     have ho4 := own_below ho3 hA3
     have hu4 := own_below hu3 hA3
     have hB23 := Below.next hb3 hA3
     clear ho3 hu3 hb3 HCq c0 c1 c2 c3 c4 c5 c6 c7 d0 d1 d2
     obtain ⟨W3, hW3⟩ : ∃ W3, w3.alloc (.cells #[.int .i64 q.inp, .slice eo no fo, .slice eu nu fu] 28) = W3 := ⟨_, rfl⟩
     obtain ⟨g7, hg7⟩ : ∃ g7, w3.heap.size = g7 := ⟨_, rfl⟩
     rw [hW3] at hA3 n3 ho4 hu4 hB23 ⊢
     have hz3 := hA3.size
     rw [hg7] at n3 HGb hz3 ⊢
     have HPm : Hid (∀ V, Below W3.heap.size W3 V -> Pm V (.agg #[.int .i64 q.inp, .slice eo no fo, .slice eu nu fu]) q) := fun V hV => HPc.out V _ _ _ (own_below ho4 hV) (own_below hu4 hV)
     have HKp : Hid (∀ V, Below W3.heap.size W3 V -> Plc V w.heap.size p ∧ V.cell? ⟨g7, 0, none⟩ = some (.int .i64 q.inp) ∧ V.cell? ⟨g7, 1, none⟩ = some (.slice eo no fo) ∧ V.cell? ⟨g7, 2, none⟩ = some (.slice eu nu fu)) := fun V hV => ⟨(HX.out V (Below.next HB12.out (Below.next hB23 hV))).1, cell3 ((hV.block _ (Array.getElem?_eq_some_iff.1 n3).1).trans n3)⟩
     have HX0 := hide (fun (V : World) (hV : Plc V w.heap.size p ∧ V.cell? ⟨g7, 0, none⟩ = some (.int .i64 q.inp) ∧ V.cell? ⟨g7, 1, none⟩ = some (.slice eo no fo) ∧ V.cell? ⟨g7, 2, none⟩ = some (.slice eu nu fu)) => hV.1.load)
     have HX1 := hide (fun (V : World) (hV : Plc V w.heap.size p ∧ V.cell? ⟨g7, 0, none⟩ = some (.int .i64 q.inp) ∧ V.cell? ⟨g7, 1, none⟩ = some (.slice eo no fo) ∧ V.cell? ⟨g7, 2, none⟩ = some (.slice eu nu fu)) => show (loadVar 28 ⟨g7, 0, none⟩).run Tryz.prog V = .ok (.agg #[.int .i64 q.inp, .slice eo no fo, .slice eu nu fu]) V from by
      obtain ⟨_, e0, e1, e2⟩ := hV
      simp [go_sem, e0, e1, e2])
     have H1 : Hid (∀ W, Calls Tryz.prog 7 #[] W fun e w' => ∃ g, e = .returned (.pointer (some ⟨g, 0, none⟩)) ∧ Hd w' g g (.slice none 0 0) dk0 ∧ W.heap.size <= g ∧ Below W.heap.size W w') := fun W => (gNew22 W).mono (fun e w' ⟨h1, h2, h3⟩ => ⟨_, h1, h2, Nat.le_refl _, h3⟩)
     have HNw := hide (fun W g v (hd : Hd W g g v dk0) (hb : g <= W.heap.size) (hq : ∀ V, Below g W V -> Pm V (.agg #[.int .i64 q.inp, .slice eo no fo, .slice eu nu fu]) q) => gNew24 hd hb (by decide) p q _ 0 hp hq)
     rw [HF.out.ne, HF.out.nn, HF.out.nw] at HNw
     rw [plan_eq] at HNw
     have hS0 := HKp.out _ (Below.refl _ W3).drew
     clear hg7 hW3 hA3
     refine wp_region_held_drew (S := (fun V => Plc V w.heap.size p ∧ V.cell? ⟨g7, 0, none⟩ = some (.int .i64 q.inp) ∧ V.cell? ⟨g7, 1, none⟩ = some (.slice eo no fo) ∧ V.cell? ⟨g7, 2, none⟩ = some (.slice eu nu fu))) (by kernel_rfl) (by ((try dsimp only) <;> (first | with_reducible exact hS0 | with_reducible exact hS1 | with_reducible exact hS3))) (fun hHeld => ?_)
     refine tkY 0 ?_ (hy := by (intro w hSw; (try dsimp only at hSw); simp [execOp, Instr.loadAt, Instr.sureAddr, Act.eval, HX0.out _ hSw]; with_reducible rfl))
     refine tkY 1 ?_ (hy := by (intro w hSw; (try dsimp only at hSw); simp [execOp, Instr.loadAt, Instr.sureAddr, Act.eval, HX1.out _ hSw]; with_reducible rfl))
     refine rd1 2 (fun K hK => ?_)
     (try simp only [ly0, ly1, ly2, ly3, ly4, ly5, ly6, ly7])
     go_simp
     (go_at_call 7; refine (H1.out _).mono ?_; rintro e w5 ⟨g, rfl, hd3, hg3, hb3⟩; have hb3' := Below.next (Below.refl W3.heap.size W3).drew hb3; have hS1 := HKp.out _ hb3'; have HN3 := hide (HNw.out _ _ _ hd3 (Nat.le_of_lt hd3.lt) (fun V hV => HPm.out V (hb3'.trans (hV.mono hg3)))))
     first | refine hK.out _ _ ?k37 (fun hHeld => ?_) | (go_wp2_with fail; refine hK.out _ _ ?k37 (fun hHeld => ?_))
     case k37 => ((try dsimp only) <;> (first | with_reducible exact hS0 | with_reducible exact hS1 | with_reducible exact hS3))
     clear hK K
     (try simp only [ly0, ly1, ly2, ly3, ly4, ly5, ly6, ly7])
     refine rd1 3 (fun K hK => ?_)
     (try simp only [ly0, ly1, ly2, ly3, ly4, ly5, ly6, ly7])
     go_simp
     (go_at_call 9; refine HN3.out.mono ?_; rintro e w4 ⟨v4, r4, rfl, hd4, hm4, ⟨hno', _⟩ | ⟨_, hwf, kb, mb, vo4, vu4, rfl, hw4⟩⟩; exact absurd rfl hno'; have hg34 : g <= w5.heap.size := Nat.le_of_lt hd3.lt; have hb4' := hb3'.trans ((hd3.mvb hm4 hg34).mono hg3); have hS3 := HKp.out _ hb4')
     first | refine hK.out _ _ ?k38 (fun hHeld => ?_) | (go_wp2_with fail; refine hK.out _ _ ?k38 (fun hHeld => ?_))
     case k38 => ((try dsimp only) <;> (first | with_reducible exact hS0 | with_reducible exact hS1 | with_reducible exact hS3))
     clear hK K
     (try simp only [ly0, ly1, ly2, ly3, ly4, ly5, ly6, ly7])
     refine tkY 4 ?_
     refine tkY 5 ?_
     refine tkY 6 ?_
     refine tkY 7 ?_
     refine tkY 8 ?_
     refine wpAnyH_done (by kernel_rfl) ?_ _
     have HFs : Hid (Fs w2 w4 g kb mb g vo4 vu4 v4 p q ⟨[], false⟩ dk0) := ⟨hw4.mono hg34, hd4, Below.next hB23 hb4', Nat.le_of_lt hd4.lt, Nat.le_trans hB23.size hg3⟩
     have HRo : Hid (w4.ownsRow w2.heap.size 85 4 (.slice eo no fo) no (q.ops.flatMap opw)) := own_below ho4 hb4'
     have HN7 : Hid (w4.heap[g7]? = some (.cells #[.int .i64 q.inp, .slice eo no fo, .slice eu nu fu] 28 (0, 0))) := (hb4'.block _ (Array.getElem?_eq_some_iff.1 n3).1).trans n3
     have HGc : Hid (∀ j, (Value.slice eo no fo).ownBlock = some j -> w2.heap.size <= j ∧ j < g) := fun j hj => ⟨(HGb.out j hj).1, Nat.lt_of_lt_of_le (HGb.out j hj).2 (Nat.le_trans hz3 hg3)⟩
     have HWf := hide hwf
     clear hS0 hS1 hS3 HNw HN3 HX0 HX1 hd3 hm4 hb3 hb3' hg3 hw4 hb4' HKp H1 HPm ho4 hu4 n3 hB23 hz3 hg34 hd4 hwf HGb HPc
     go_wp2
     go_loopw [10] (fun vi wr => ∃ (i : Nat) (os : List O4), i <= no ∧ os.length = no ∧ vi = .int .i64 i ∧ Hid (wr.ownsRow w2.heap.size 85 4 (.slice eo no fo) no (os.flatMap opw)) ∧ Hid (wr.heap[g7]? = some (.cells #[.int .i64 q.inp, .slice eo no fo, .slice eu nu fu] 28 (0, 0))) ∧ Hid (Fs w2 wr g kb mb g vo4 vu4 v4 p q ⟨[], false⟩ dk0)) (fun vi _ => no - (intOf vi).toNat)
     case atStart => exact ⟨0, q.ops, Nat.zero_le _, HNo.out, rfl, HRo, HN7, HFs⟩
     case round =>
      clear HRo HN7 HFs
      obtain ⟨i, os, hi, hl, rfl, HRo, HN7, HFs⟩ := hrel
      have HLo := hide hl
      clear hl
      obtain ⟨k0, k1, k2⟩ := cell3 HN7.out
      by_cases hlt : i < no
      · obtain ⟨G, fo', hy, _⟩ := HRo.out.form (by omega)
        injection hy with hy1 hy2 hy3
        subst hy1
        clear hy2 hy3
        have HR9 := hide (fun j (hj : j < 4) => row_there HRo.out (show i * 4 + j < no * 4 by omega))
        have HPut := hide (put_step24 HRo.out HN7.out (i := i) (by rw [HLo.out]; omega) ⟨9, 0, 0, 0⟩)
        have HFn := hide (fun V' (hg : wr.grownBy V' (some G)) => HFs.out.steps hg (fun k e => HGc.out k e))
        obtain ⟨⟨m0, r0⟩, z0⟩ := HR9.out 0 (by decide)
        obtain ⟨⟨m1, r1⟩, z1⟩ := HR9.out 1 (by decide)
        obtain ⟨⟨m2, r2⟩, z2⟩ := HR9.out 2 (by decide)
        obtain ⟨⟨m3, r3⟩, z3⟩ := HR9.out 3 (by decide)
        rw [Nat.add_zero] at r0 z0
        unfold set4 at HPut
        have hi0 : (0 : Int) <= (i : Int) := by omega
        have hi1 : (i : Int) < (no : Int) := by omega
        go_wp2_with fail
        go_roundw
        case rel => exact ⟨i + 1, os.set i ⟨9, 0, 0, 0⟩, by omega, by rw [List.length_set]; exact HLo.out, by go_num, HPut.out.1, HPut.out.2.1, HFn.out _ HPut.out.2.2⟩
        case measure => simp [intOf]; omega
      · have ein : i = no := by omega
        subst ein
        have hle := HFs.out.low.size
        have hlow := Below.next HB2.out HFs.out.low
        obtain ⟨⟨c0, c1, c2, c3, c4, c5, c6, c7⟩, d0, d1, d2⟩ := HX.out wr (Below.next HB12.out HFs.out.low)
        have HWr := hide (dWriteM ⟨1, 0, 0, p.f, xs⟩ (.slice av xs.length cv) wr ⟨⟨⟨(by decide : (0 : Int) <= 1), (by decide : (1 : Int) <= 255)⟩, ⟨(by decide : (-9223372036854775808 : Int) <= 0), (by decide : (0 : Int) <= 9223372036854775807)⟩, ⟨(by decide : (-9223372036854775808 : Int) <= 0), (by decide : (0 : Int) <= 9223372036854775807)⟩, hp.1⟩, HR.out wr hlow⟩)
        unfold GivesB at HWr
        rw [HF.out.we, show mwL sum8 ⟨1, 0, 0, p.f, xs⟩ = frB p xs from rfl] at HWr
        unfold mgv mgc at HWr
        dsimp only at HWr
        clear HRo HN7 HLo hlt
        go_upto_region 12 with (go_at_call 35; refine HWr.out.mono ?_; rintro e w5 ⟨v5, rfl, ho5, hb5⟩; obtain ⟨ab, kB, rfl⟩ := own_form ho5)
        clear HWr c0 c1 c2 c3 c4 c5 c6 c7 d0 d1 d2 hlow k0 k1 k2
        have hlb := HF.out.b.1
        have hlr := HF.out.r.1
        have hl64 := HF.out.l
        have H5 := hide (HFs.out.below hb5)
        have HBc := hide (rBytes _ (frB p xs) w5 (rb_of_own ho5 HF.out.b.2 (by omega)) (by omega))
        have HbB : Hid (∀ j, (Value.slice ab (frB p xs).length kB).ownBlock = some j -> j < w5.heap.size) := fun j hj => (ho5.lt j hj).2
        have Hb5 := hide ho5
        have z5 := hide (Nat.le_trans hle hb5.size)
        clear HFs ho5 hb5 hle
        go_upto_region 13 with (go_at_call 36; refine HBc.out.mono ?_; rintro e w6 ⟨v6, rfl, ho6, hb6⟩; obtain ⟨ac, kC, rfl⟩ := own_form ho6)
        have HcB : Hid (∀ j, (Value.slice ac (frB p xs).length kC).ownBlock = some j -> w5.heap.size <= j ∧ j < w6.heap.size) := fun j hj => ho6.lt j hj
        have H6 := hide (H5.out.below hb6)
        have Hb6 := hide (own_below Hb5.out hb6)
        have HOn := hide (gOn H6.out.wp H6.out.hd HWf.out wst_nil H6.out.sz (by decide) (rb_of_own ho6 HF.out.b.2 (by omega)))
        rw [HF.out.oe, HF.out.ow, HF.out.ol] at HOn
        have Hc6 := hide ho6
        have z6 := hide hb6.size
        clear HBc H5 Hb5 ho6 hb6
        go_upto_region 14 with (go_at_call 11; refine HOn.out.mono ?_; rintro e w7 ⟨v7, u7, rfl, hw7, hd7, ho7, hE7⟩; obtain ⟨aa, kA, rfl⟩ := own_form ho7)
        have HaB : Hid (∀ j, (Value.slice aa (frR p q xs).length kA).ownBlock = some j -> w6.heap.size <= j ∧ j < w7.heap.size) := fun j hj => ho7.lt j hj
        have H7 := hide (H6.out.ev hw7 hd7 hE7)
        have Hb7 := hide (ev_row Hb6.out (by decide) (by decide) (by decide) H6.out.wp H6.out.hd hE7)
        have Hc7 := hide (ev_row Hc6.out (by decide) (by decide) (by decide) H6.out.wp H6.out.hd hE7)
        have HBa := hide (rBytes _ (frR p q xs) w7 (rb_of_own ho7 HF.out.r.2 (by omega)) (by omega))
        have Ha7 := hide ho7
        have z7 := hide hE7.kq.size
        have hDn : (onN sum8 p.f p.w 0 ⟨[], false⟩ dk0 (frB p xs)).n + 100000 < 4611686018427387904 := by
         have h1 := onN_n (f := p.f) (wd := p.w) (id := 0) (st := ⟨[], false⟩) (D := dk0) (b := frB p xs)
         have h2 : dk0.n = 0 := rfl
         omega
        have HDn := hide hDn
        clear HOn H6 Hb6 Hc6 hw7 hd7 ho7 hE7 hDn
        generalize onN sum8 p.f p.w 0 ⟨[], false⟩ dk0 (frB p xs) = D7 at *
        go_upto_region 15 with (go_at_call 36; refine HBa.out.mono ?_; rintro e w8 ⟨v8, rfl, ho8, hb8⟩; obtain ⟨ak, kK, rfl⟩ := own_form ho8)
        have H8 := hide (H7.out.below hb8)
        have Hb8 := hide (own_below Hb7.out hb8)
        have Hc8 := hide (own_below Hc7.out hb8)
        have Ha8 := hide (own_below Ha7.out hb8)
        have Hk8 := hide ho8
        have z8 := hide hb8.size
        have z56 : Hid (w5.heap.size <= w8.heap.size) := Nat.le_trans z6.out (Nat.le_trans z7.out z8.out)
        have HSp := hide (Spoil8 _ _ w5.heap.size (frB p xs) 9 w8 (by decide) (by decide) (own_mono Hc8.out (Nat.le_refl _)) (by omega) z56.out)
        clear HBa H7 Hb7 Hc7 Ha7 ho8 hb8
        go_upto_region 16 with (go_at_call 37; refine HSp.out.mono ?_; rintro e w9 ⟨rfl, hg9⟩)
        have H9 := hide (H8.out.spoil Hc8.out z5.out hg9)
        have Hb9 := hide (row_beside Hb8.out hg9 (fun j hj e => by have h1 := HbB.out j hj; have h2 := (HcB.out j e).1; omega))
        have Ha9 := hide (row_beside Ha8.out hg9 (fun j hj e => by have h1 := (HaB.out j hj).1; have h2 := (HcB.out j e).2; omega))
        have Hk9 := hide (row_beside Hk8.out hg9 (fun j hj e => by have h1 := (Hk8.out.lt j hj).1; have h2 := (HcB.out j e).2; have h3 := z7.out; omega))
        have z9 := hide hg9.size
        have z69 : Hid (w6.heap.size <= w9.heap.size) := Nat.le_trans z7.out (Nat.le_trans z8.out z9.out)
        have HSp2 := hide (Spoil8 _ _ w6.heap.size (frR p q xs) 8 w9 (by decide) (by decide) Ha9.out (by omega) z69.out)
        clear HSp H8 Hb8 Hc8 Ha8 Hk8 hg9 z56
        go_upto_region 17 with (go_at_call 37; refine HSp2.out.mono ?_; rintro e w10 ⟨rfl, hg10⟩)
        have H10 := hide (H9.out.spoil Ha9.out (Nat.le_trans z5.out z6.out) hg10)
        have Hb10 := hide (row_beside Hb9.out hg10 (fun j hj e => by have h1 := HbB.out j hj; have h2 := (HaB.out j e).1; have h3 := z6.out; omega))
        have Hk10 := hide (row_beside Hk9.out hg10 (fun j hj e => by have h1 := (Hk9.out.lt j hj).1; have h2 := (HaB.out j e).2; omega))
        have hfn : fndW (⟨[(0, xs)], false⟩ : Wk).L 0 = some xs := rfl
        have HSh := hide (fun W (h : Fs w2 W g kb mb g vo4 vu4 v7 p q ⟨[(0, xs)], false⟩ D7) => gShare24 h.wp 0 (by decide) (by rw [shW_some hfn]; omega))
        rw [hfn, shW_some hfn] at HSh
        dsimp only [Option.isSome_some] at HSh
        have HSa := hide (HSh.out _ H10.out)
        clear HSp2 H9 Hb9 Ha9 Hk9 hg10 hfn z69 z9 z8 HaB HcB
        go_upto_region 18 with (go_at_call 14; refine HSa.out.mono ?_; rintro e w11 ⟨v11, rfl, ho11, hb11⟩; obtain ⟨as', kS, rfl⟩ := own_form ho11)
        have HS1 := hide (Spoil_any _ _ w10.heap.size xs w11 ho11 (by omega) hb11.size)
        clear HSa
        go_upto_region 19 with (go_at_call 38; refine HS1.out.mono ?_; rintro e w12 ⟨rfl, hg12⟩)
        have hb12 : Below w10.heap.size w10 w12 := hb11.grown hg12 hb11.size (fun k hk => (ho11.lt k hk).1)
        have H12 := hide (H10.out.below hb12)
        have Hb12 := hide (own_below Hb10.out hb12)
        have Hk12 := hide (own_below Hk10.out hb12)
        have HSb := hide (HSh.out _ H12.out)
        clear HS1 HSh H10 Hb10 Hk10 ho11 hb11 hg12 hb12
        go_upto_region 20 with (go_at_call 14; refine HSb.out.mono ?_; rintro e w13 ⟨v13, rfl, ho13, hb13⟩; obtain ⟨au, kU, rfl⟩ := own_form ho13)
        have H13 := hide (H12.out.below hb13)
        have Hb13 := hide (own_below Hb12.out hb13)
        have Hk13 := hide (own_below Hk12.out hb13)
        have HOn := hide (gOn H13.out.wp H13.out.hd HWf.out HF.out.st H13.out.sz HDn.out (rb_of_own Hb13.out HF.out.b.2 (by omega)))
        rw [HF.out.ae, HF.out.al] at HOn
        have Hu13 := hide ho13
        clear HSb H12 Hb12 Hk12 ho13 hb13 Hb13
        go_upto_region 21 with (go_at_call 11; refine HOn.out.mono ?_; rintro e w14 ⟨v14, u14, rfl, hw14, hd14, ho14, hE14⟩; obtain ⟨ag, kG, rfl⟩ := own_form ho14)
        have H14 := hide (H13.out.ev hw14 hd14 hE14)
        have Hu14 := hide (ev_row Hu13.out (by decide) (by decide) (by decide) H13.out.wp H13.out.hd hE14)
        have Hk14 := hide (ev_row Hk13.out (by decide) (by decide) (by decide) H13.out.wp H13.out.hd hE14)
        have Hg14 := hide ho14
        have HLw : Hid (Below w.heap.size w w14) := Below.next HB2.out H14.out.low
        have HSm := hide (fun W (hb : Below w14.heap.size w14 W) => Same_dec _ _ _ _ W (row_of_own (own_below Hu14.out hb) rfl (by omega) HWs.out) (HR.out W (Below.next HLw.out hb)))
        rw [decide_eq_true (rfl : xs = xs)] at HSm
        have HSk := hide (fun W (hb : Below w14.heap.size w14 W) => rSame8 _ _ _ _ W (rb_of_own (own_below Hg14.out hb) HF.out.r.2 (by omega)) (rb_of_own (own_below Hk14.out hb) HF.out.r.2 (by omega)))
        rw [decide_eq_true (rfl : frR p q xs = frR p q xs)] at HSk
        clear HOn H13 Hk13 Hu13 hw14 hd14 ho14 hE14 H14 Hu14 Hk14 Hg14 HX HWf HDn HbB z5 z6 z7 hlb hlr hl64
        go_wp2_with (first
         | (go_at_call 27; refine (ga.out _).mono ?_; rintro e w15 ⟨rfl, hb15⟩; have HSn := hide (HSm.out w15 hb15))
         | (go_at_call 16; refine HSn.out.mono ?_; rintro e w16 ⟨rfl, nq, hw16⟩; have hb16 : Below w14.heap.size w14 w16 := (by rw [hw16]; exact Below.next hb15 (drewN_below w15 nq)); clear hw16; have HSo := hide (HSk.out w16 hb16))
         | (go_at_call 13; refine HSo.out.mono ?_; rintro e w17 ⟨rfl, hw17⟩; rw [hw17]; clear hw17))
        go_ret
        exact ⟨rfl, Below.next HLw.out hb16⟩
  · have qb : ((xs.length : Int) != p.w) = true := bne_iff_ne.2 hl
    have HL := hide hl
    clear hl
    go_enter Tryz.func6, Tryz.ntmps6
    go_upto_region 1 with fail
    rw [HW.out]
    go_wp2_with (first
     | (go_at_call 29; refine HTm.out.mono ?_; rintro e w2 ⟨rfl, hb2⟩; obtain ⟨⟨c0, c1, c2, c3, c4, c5, c6, c7⟩, d0, d1, d2⟩ := HX.out w2 hb2)
     | (go_at_call 27; refine (ga.out _).mono ?_; rintro e w5 ⟨rfl, hb5⟩))
    go_ret
    exact ⟨rfl, Below.next (Below.next HA.out hb2) hb5⟩
end Go.Proofs.YtipobchbnjgenaaGreat
