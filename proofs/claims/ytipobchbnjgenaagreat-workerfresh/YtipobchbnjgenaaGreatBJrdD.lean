import Derived.Test.YtipobchbnjgenaaGreatBJrdC
import Derived.Test.YtipobchbnjgenaaGreatBWkrI
set_option linter.unusedVariables false
set_option linter.unusedSimpArgs false
set_option maxRecDepth 100000
set_option maxHeartbeats 4000000
namespace Go.Proofs.YtipobchbnjgenaaGreat
open Go.RowKit Fld
theorem Rl.ahead {w w' : World} {lo g : Nat} {v v' u : Value} {es : List Be} (h : Rl w lo u es) (m : Mv w w' g v v') (hg : g < lo) (hv : ∀ j, v.ownBlock = some j -> j < lo) : Rl w' lo u es := by
 have key : ∀ (T : TypeId) s n x xs, w.ownsRow lo T s x n xs -> ∀ j, x.ownBlock = some j -> Bv w g v.ownBlock j := fun T s n x xs ho j hj => by
  obtain ⟨h1, h2⟩ := ho.lt j hj
  exact ⟨h2, by omega, fun e => by have := hv j e; omega⟩
 exact ⟨m.kq.own h.row (key _ _ _ _ _ h.row), fun e he => m.kq.own (h.each e he) (key _ _ _ _ _ (h.each e he)), h.by_⟩
theorem dJopen {w : World} {base g : Nat} {v : Value} {D : Dsk} (h : Dy w base g v D) (hb : base <= w.heap.size) (hn : D.n < 4611686018427387904) :
 Calls Tryz.prog 46 #[.pointer (some ⟨g, 0, none⟩)] w fun e w' => ∃ v' lv es, e = .returned (.tuple #[lv, .int .i64 (opE23 sum8 D)]) ∧ Dy w' base g v' (opN23 sum8 D) ∧ Mv w w' g v v' ∧ Rl w' w.heap.size lv es ∧ es.map (·.1) = opR23 sum8 D := by
 have HP := hide (fun W (hB : Below w.heap.size w W) => h.below hB)
 have HT := hide (fun W (hB : Below w.heap.size w W) => dTrimY (h.below hB) (Nat.le_trans hb hB.size) hn (jrW (rdD sum8 D) : Int))
 obtain ⟨es0, hd⟩ := h
 have hlen := hd.o.ok.len
 have HR := hide (dRecords v D.l w (bl_bz hd.bl (by omega)))
 unfold GivesRd at HR
 rw [<- rdD_jrA hd.o.ok] at HR
 have hwl : 32 * jrW (rdD sum8 D) <= 32 * D.l.length := by
  rw [rdD_jrA hd.o.ok]
  have := jrA_len (jn32 D.l)
  rw [jn32_len] at this
  have := j32_le D.l
  omega
 have HC := hide (fun W (hB : Below w.heap.size w W) => (hd.below hB).cells.1)
 have x0 := hd.cells.1
 have HG := hide hd.lt
 have HV := hide (fun j hj => (hd.row.lt j hj).2)
 obtain ⟨ao, cap, rfl, _⟩ := hd.spell
 clear hd hb hn
 obtain ⟨n, HN⟩ : ∃ n, Hid (D.l.length = n) := ⟨_, rfl⟩
 rw [HN.out] at hlen hwl HR HC HP HT HV x0 ⊢
 rcases op23 D with ⟨hw, e1, e2, e3⟩ | ⟨hw, e1, e2, e3⟩
 · rw [e1, e2, e3]
   rw [HN.out] at hw
   obtain ⟨m, HM⟩ : ∃ m, Hid (jrW (rdD sum8 D) = m) := ⟨_, rfl⟩
   rw [HM.out] at HR hw hwl
   have q0 : ¬ ((m : Int) < (n : Int)) := by omega
   clear e1 e2 e3 HT hwl hw
   go_enter Tryz.func46, Tryz.ntmps46
   go_wp2_with (go_at_call 78; refine HR.out.mono ?_; rintro e w3 ⟨v3, es, rfl, hl3, he3, hb3⟩; have x3 := HC.out _ hb3; obtain ⟨a3, k3, hv3, _⟩ := own_spellO hl3.row; have HL3 := hide hl3; subst hv3; have HE3 := hide he3; clear hl3 he3)
   go_ret2
   exact ⟨_, _, es, rfl, HP.out _ hb3, Mv.of_below _ _ hb3, HL3.out, HE3.out⟩
 · rw [e1, e2]
   rw [HN.out] at hw
   obtain ⟨m, HM⟩ : ∃ m, Hid (jrW (rdD sum8 D) = m) := ⟨_, rfl⟩
   rw [HM.out] at HR hw hwl HT e3 ⊢
   have q0 : ((m : Int) < (n : Int)) := by omega
   clear e1 e2 hwl hw
   generalize tmN D (m : Int) = E at *
   rcases e3 with ⟨e3, e4⟩ | ⟨e3, e4⟩
   · rw [e4]
     rw [e3] at HT ⊢
     clear e3 e4
     go_enter Tryz.func46, Tryz.ntmps46
     go_wp2_with (first
      | (go_at_call 78; refine HR.out.mono ?_; rintro e w3 ⟨v3, es, rfl, hl3, he3, hb3⟩; have x3 := HC.out _ hb3; obtain ⟨a3, k3, hv3, _⟩ := own_spellO hl3.row; have HL3 := hide hl3; subst hv3; have HE3 := hide he3; have HT3 := hide (HT.out _ hb3); clear hl3 he3)
      | (go_at_call 79; refine HT3.out.mono ?_; rintro e w4 ⟨v4, rfl, hn4, hm4⟩))
     go_ret2
     exact ⟨v4, _, es, rfl, hn4, Mv.after hb3 hm4, HL3.out.ahead hm4 HG.out HV.out, HE3.out⟩
   · rw [e4]
     have q1 : (tmE D (m : Int) != 0) = true := bne_iff_ne.2 e3
     clear e3 e4
     generalize tmE D (m : Int) = er at *
     go_enter Tryz.func46, Tryz.ntmps46
     go_wp2_with (first
      | (go_at_call 78; refine HR.out.mono ?_; rintro e w3 ⟨v3, es, rfl, hl3, he3, hb3⟩; have x3 := HC.out _ hb3; obtain ⟨a3, k3, hv3, _⟩ := own_spellO hl3.row; have HL3 := hide hl3; subst hv3; have HE3 := hide he3; have HT3 := hide (HT.out _ hb3); clear hl3 he3)
      | (go_at_call 79; refine HT3.out.mono ?_; rintro e w4 ⟨v4, rfl, hn4, hm4⟩))
     go_ret2
     exact ⟨v4, _, [], rfl, hn4, Mv.after hb3 hm4, rl_nil _ _, rfl⟩
end Go.Proofs.YtipobchbnjgenaaGreat
namespace Go.Proofs.YtipobchbnjgenaaGreat
open Go.RowKit Fld Slp Pln
def wz24 : Array Value := #[.int .u8 0, .int .i64 0, .int .i64 0, .int .i64 0, .int .i64 0, .int .i64 0, .int .i64 0, .int .i64 0, .int .i64 0, .slice none 0 0, .slice none 0 0, .int .i64 0, .slice none 0 0, .bool false]
theorem list14 {α : Type} : ∀ (cs : Array α), cs.size = 14 -> ∃ c0 c1 c2 c3 c4 c5 c6 c7 c8 c9 c10 c11 c12 c13, cs = #[c0, c1, c2, c3, c4, c5, c6, c7, c8, c9, c10, c11, c12, c13]
 | ⟨[c0, c1, c2, c3, c4, c5, c6, c7, c8, c9, c10, c11, c12, c13]⟩, _ => ⟨c0, c1, c2, c3, c4, c5, c6, c7, c8, c9, c10, c11, c12, c13, rfl⟩
theorem load_wy {w : World} {b : Nat} {cs : Array Value} (h : w.heap[b]? = some (.cells cs 45 (0, 0))) (hl : cs.size = 14) : (loadVar 45 ⟨b, 0, none⟩).run Tryz.prog w = .ok (.agg cs) w := by
 obtain ⟨c0, c1, c2, c3, c4, c5, c6, c7, c8, c9, c10, c11, c12, c13, rfl⟩ := list14 cs hl
 have e0 := cell_at (i := 0) h rfl
 have e1 := cell_at (i := 1) h rfl
 have e2 := cell_at (i := 2) h rfl
 have e3 := cell_at (i := 3) h rfl
 have e4 := cell_at (i := 4) h rfl
 have e5 := cell_at (i := 5) h rfl
 have e6 := cell_at (i := 6) h rfl
 have e7 := cell_at (i := 7) h rfl
 have e8 := cell_at (i := 8) h rfl
 have e9 := cell_at (i := 9) h rfl
 have e10 := cell_at (i := 10) h rfl
 have e11 := cell_at (i := 11) h rfl
 have e12 := cell_at (i := 12) h rfl
 have e13 := cell_at (i := 13) h rfl
 simp [go_sem, e0, e1, e2, e3, e4, e5, e6, e7, e8, e9, e10, e11, e12, e13]
theorem wz_one : wz24.all (·.oneCell') = true := by kernel_rfl
theorem wyc_one (p : Pn) (q : Pr) (a1 a2 a3 : Option Addr) (n1 n2 n3 c1 c2 c3 : Nat) (id : Int) (x : Bool) : (wyc p q (.slice a1 n1 c1) (.slice a2 n2 c2) id (.slice a3 n3 c3) x).all (·.oneCell') = true := by simp [wyc, Value.oneCell']
theorem wy_size : (Tryz.prog.info? 45).map (·.size) = some 14 := by kernel_rfl
theorem kq_row (W : World) (b : Nat) (cs : Array Value) : Kq (fun j => j ≠ b) W (W.setRow b cs) := ⟨rfl, rfl, rfl, by simp [World.setRow], fun j hj => setRow_other W b j cs hj⟩
theorem Mv.row_new {w w' : World} {g b : Nat} {v v' : Value} (h : Mv w w' g v v') (hb : w.heap.size <= b) (cs : Array Value) : Mv w (w'.setRow b cs) g v v' := ⟨h.kq.trans ((kq_row w' b cs).mono (fun j hj => by have := hj.1; omega)), h.new⟩
theorem Dy.row {W : World} {base g b : Nat} {v : Value} {D : Dsk} {c0 : Array Value} (hd : Dy W base g v D) (hb : W.heap[b]? = some (.cells c0 45 (0, 0))) (cs : Array Value) : Dy (W.setRow b cs) base g v D := by
 obtain ⟨ds, hd⟩ := hd
 have key : ∀ {T : TypeId} {s n : Nat} {x : Value} {xs : List Value}, (T = 30 ∨ T = 5) -> W.ownsRow base T s x n xs -> ∀ j, x.ownBlock = some j -> j ≠ b := fun hT ho j hj e => own_notO ho hb (by rcases hT with rfl | rfl <;> decide) (by rw [hj, e])
 refine ⟨ds, hd.kept (kq_row W b cs) (fun e => ?_) (key (.inl rfl) hd.row) (fun e he => key (.inr rfl) (hd.each e he))⟩
 have h1 := hd.dsk
 rw [e, hb] at h1
 simp at h1
theorem Hl.row_ {W : World} {base b : Nat} {lv : Value} {es : List Hde} {L : List (Int × List Int)} {c0 : Array Value} (h : Hl W base lv es L) (hb : W.heap[b]? = some (.cells c0 45 (0, 0))) (cs : Array Value) : Hl (W.setRow b cs) base lv es L :=
 h.kept (kq_row W b cs) (fun T s x n xs hT ho j hj e => own_notO ho hb (by rcases hT with rfl | rfl <;> decide) (by rw [hj, e]))
theorem rowLoadR {P : Program} {w : World} {ops : Array Oper} {rest : List Oper} {o : Oper} {a : Act} {Q : Exit -> Act -> World -> Prop} (hg : o.guard = none) (t : TypeId) (x : Operand) (hop : o.op = .load t x) (g : Nat) (v : Value) (hx : a.eval x = .pointer (some ⟨g, 0, none⟩)) (hr : (loadVar t ⟨g, 0, none⟩).run P w = .ok v w)
 (hK : wpList P ops Q rest (a.put o.dst v) w) : wpList P ops Q (o :: rest) a w :=
 rowVal hg v (by simp [execOp, hop, hx, Instr.loadAt, Instr.sureAddr, hr]) hK
theorem Wy.grown {W W' : World} {base xb : Nat} {lv vo vu : Value} {p : Pn} {q : Pr} {id : Int} {es : List Hde} {st : Wk} (h : Wy W base xb lv vo vu p q id es st) (hg : W.grownBy W' lv.ownBlock) : W'.cell? ⟨xb, 12, none⟩ = some lv ∧ ∀ k, W'.frozen? ⟨xb, k, none⟩ = false := by
 have hx := own_notO h.hl.row h.blk (by decide)
 have hb : W'.heap[xb]? = some (.cells (wyc p q vo vu id lv st.x) 45 (0, 0)) := (hg.block xb h.lt (fun e => hx e.symm)).trans h.blk
 exact ⟨cell_at hb rfl, fun k => Lib.frozen_of_heap hb k⟩
def Plc (V : World) (b : Nat) (p : Pn) : Prop := V.cell? ⟨b, 0, none⟩ = some (.int .u8 p.f) ∧ V.cell? ⟨b, 1, none⟩ = some (.int .i64 p.n) ∧ V.cell? ⟨b, 2, none⟩ = some (.int .i64 p.k) ∧ V.cell? ⟨b, 3, none⟩ = some (.int .i64 p.t) ∧ V.cell? ⟨b, 4, none⟩ = some (.int .i64 p.s) ∧ V.cell? ⟨b, 5, none⟩ = some (.int .i64 p.e) ∧ V.cell? ⟨b, 6, none⟩ = some (.int .i64 p.d) ∧ V.cell? ⟨b, 7, none⟩ = some (.int .i64 p.w)
theorem Plc.load {V : World} {b : Nat} {p : Pn} (h : Plc V b p) : (loadVar 24 ⟨b, 0, none⟩).run Tryz.prog V = .ok (.agg #[.int .u8 p.f, .int .i64 p.n, .int .i64 p.k, .int .i64 p.t, .int .i64 p.s, .int .i64 p.e, .int .i64 p.d, .int .i64 p.w]) V := by
 obtain ⟨c0, c1, c2, c3, c4, c5, c6, c7⟩ := h
 simp [go_sem, c0, c1, c2, c3, c4, c5, c6, c7]
theorem plc_of {V : World} {b : Nat} {p : Pn} (h : V.heap[b]? = some (.cells (plw p) 24 (0, 0))) : Plc V b p :=
 ⟨cell_at h rfl, cell_at h rfl, cell_at h rfl, cell_at h rfl, cell_at h rfl, cell_at h rfl, cell_at h rfl, cell_at h rfl⟩
theorem plc_wy {V : World} {b : Nat} {p : Pn} {q : Pr} {vo vu : Value} {id : Int} {lv : Value} {x : Bool} (h : V.heap[b]? = some (.cells (wyc p q vo vu id lv x) 45 (0, 0))) : Plc V b p :=
 ⟨cell_at h rfl, cell_at h rfl, cell_at h rfl, cell_at h rfl, cell_at h rfl, cell_at h rfl, cell_at h rfl, cell_at h rfl⟩
theorem cell_kept {V V' : World} {a : Addr} {v : Value} (h : V.cell? a = some v) (hb : Below V.heap.size V V') : V'.cell? a = some v := by
 exact (hb.cell (World.block_lt_of_cell? _ _ h)).trans h
theorem Plc.kept {V V' : World} {b : Nat} {p : Pn} (h : Plc V b p) (hb : Below V.heap.size V V') : Plc V' b p :=
 ⟨cell_kept h.1 hb, cell_kept h.2.1 hb, cell_kept h.2.2.1 hb, cell_kept h.2.2.2.1 hb, cell_kept h.2.2.2.2.1 hb, cell_kept h.2.2.2.2.2.1 hb, cell_kept h.2.2.2.2.2.2.1 hb, cell_kept h.2.2.2.2.2.2.2 hb⟩
structure Ml (w W : World) (base xb g : Nat) (v v' rv vo vu : Value) (p : Pn) (q : Pr) (id : Int) (E : Dsk) (rs : List Be) (k : Nat) : Prop where
 wy : ∃ lv es, Wy W w.heap.size xb lv vo vu p q id es ⟨hldW sum8 p.f p.w id ((rs.map (·.1)).take k), false⟩
 rl : Rl W w.heap.size rv rs
 dy : Dy W base g v' E
 mv : Mv w W g v v'
 pl : W.heap[w.heap.size]? = some (.cells (plw p) 24 (0, 0))
 bz : W.heap[w.heap.size + 1 + 1]? = some (.cells wz24 45 (0, 0))
 ne : w.heap.size + 1 + 1 < xb
section
variable {w W W' : World} {base xb g : Nat} {v v' rv vo vu : Value} {p : Pn} {q : Pr} {id : Int} {E : Dsk} {rs : List Be} {k : Nat}
theorem Ml.below (h : Ml w W base xb g v v' rv vo vu p q id E rs k) (hb : Below W.heap.size W W') : Ml w W' base xb g v v' rv vo vu p q id E rs k := by
 obtain ⟨lv, es, hw⟩ := h.wy
 exact ⟨⟨lv, es, hw.below hb⟩, h.rl.below hb, h.dy.below hb, h.mv.next hb, (hb.block _ (Array.getElem?_eq_some_iff.1 h.pl).1).trans h.pl, (hb.block _ (Array.getElem?_eq_some_iff.1 h.bz).1).trans h.bz, h.ne⟩
theorem hld_step (hk : k < rs.length) : hldW sum8 p.f p.w id ((rs.map (·.1)).take (k + 1)) = putW sum8 p.f p.w id (hldW sum8 p.f p.w id ((rs.map (·.1)).take k)) rs[k].1 := by
 have hk2 : k < (rs.map (·.1)).length := by rw [List.length_map]; exact hk
 have e := hld_take (f := p.f) (wd := p.w) (id := id) hk2
 rw [List.getElem_map] at e
 exact e
theorem Ml.same (h : Ml w W base xb g v v' rv vo vu p q id E rs k) (hk : k < rs.length) (hs : putW sum8 p.f p.w id (hldW sum8 p.f p.w id ((rs.map (·.1)).take k)) rs[k].1 = hldW sum8 p.f p.w id ((rs.map (·.1)).take k)) : Ml w W base xb g v v' rv vo vu p q id E rs (k + 1) := by
 obtain ⟨lv, es, hw⟩ := h.wy
 exact ⟨⟨lv, es, by rw [hld_step hk, hs]; exact hw⟩, h.rl, h.dy, h.mv, h.pl, h.bz, h.ne⟩
theorem Ml.app (h : Ml w W base xb g v v' rv vo vu p q id E rs k) (hk : k < rs.length) {lv lv' : Value} {es : List Hde} (hw : Wy W w.heap.size xb lv vo vu p q id es ⟨hldW sum8 p.f p.w id ((rs.map (·.1)).take k), false⟩) {r : Int} {xs : List Int} {s : Value}
 (hs : putW sum8 p.f p.w id (hldW sum8 p.f p.w id ((rs.map (·.1)).take k)) rs[k].1 = hldW sum8 p.f p.w id ((rs.map (·.1)).take k) ++ [(r, xs)]) (ho : W'.ownsRow w.heap.size 109 2 lv' (es.length + 1) (es.flatMap hlc ++ [.int .i64 r, s])) (hg : W.grownBy W' lv.ownBlock) (hat : lv'.ownBlock = lv.ownBlock ∨ lv'.ownBlock = some W.heap.size) (hx : W.ownsRow w.heap.size 83 1 s xs.length (vals xs)) :
 Ml w (W'.setCell ⟨xb, 12, none⟩ lv') base xb g v v' rv vo vu p q id E rs (k + 1) := by
 obtain ⟨h1, h2⟩ := hw.app ho hg hat hx
 have l1 := (Array.getElem?_eq_some_iff.1 h.pl).1
 have l2 := (Array.getElem?_eq_some_iff.1 h.bz).1
 have hne := h.ne
 have ll := hw.hl.row.lt
 refine ⟨⟨lv', _, by rw [hld_step hk, hs]; exact h1⟩, ⟨h2.own h.rl.row (fun j hj => ⟨(h.rl.row.lt j hj).2, fun e => own_notO h.rl.row hw.blk (by decide) (by rw [hj, e]), own_kindO h.rl.row hw.hl.row (by decide) j hj⟩), fun e he => h2.own (h.rl.each e he) (fun j hj => ⟨((h.rl.each e he).lt j hj).2, fun e2 => own_notO (h.rl.each e he) hw.blk (by decide) (by rw [hj, e2]), own_kindO (h.rl.each e he) hw.hl.row (by decide) j hj⟩), h.rl.by_⟩, h.dy.xv hw h2, ⟨h.mv.kq.trans (h2.mono (fun j hj => ⟨by have := hj.1; have := h.mv.kq.size; omega, by have := hj.1; omega, fun e => by have := (ll j e).1; have := hj.1; omega⟩)), h.mv.new⟩, (h2.block _ ⟨l1, by omega, own_notO hw.hl.row h.pl (by decide)⟩).trans h.pl, (h2.block _ ⟨l2, by omega, own_notO hw.hl.row h.bz (by decide)⟩).trans h.bz, hne⟩
end
theorem ml_new {w w5 W7 : World} {base g : Nat} {v v' rv vo vu : Value} {p : Pn} {q : Pr} {id : Int} {E : Dsk} {rs : List Be} (hm : Mv w w5 g v v') (hd : Dy w5 base g v' E) (hr : Rl w5 w.heap.size rv rs) (h0 : w5.heap[w.heap.size]? = some (.cells (plw p) 24 (0, 0))) (h2 : w5.heap[w.heap.size + 1 + 1]? = some (.cells wz24 45 (0, 0)))
 (hW : w5.alloc (.cells #[.int .u8 p.f, .int .i64 p.n, .int .i64 p.k, .int .i64 p.t, .int .i64 p.s, .int .i64 p.e, .int .i64 p.d, .int .i64 p.w, .int .i64 q.inp, vo, vu, .int .i64 id, .slice none 0 0, .bool false] 45) = W7) : Ml w W7 base w5.heap.size g v v' rv vo vu p q id E rs 0 := by
 have hb := alloc_below w5 (.cells #[.int .u8 p.f, .int .i64 p.n, .int .i64 p.k, .int .i64 p.t, .int .i64 p.s, .int .i64 p.e, .int .i64 p.d, .int .i64 p.w, .int .i64 q.inp, vo, vu, .int .i64 id, .slice none 0 0, .bool false] 45)
 have hn := heap_alloc_new w5 (.cells #[.int .u8 p.f, .int .i64 p.n, .int .i64 p.k, .int .i64 p.t, .int .i64 p.s, .int .i64 p.e, .int .i64 p.d, .int .i64 p.w, .int .i64 q.inp, vo, vu, .int .i64 id, .slice none 0 0, .bool false] 45)
 rw [hW] at hb hn
 exact ⟨⟨_, [], hn, hl_nil _ _, hm.kq.size⟩, hr.below hb, hd.below hb, hm.next hb, (hb.block _ (Array.getElem?_eq_some_iff.1 h0).1).trans h0, (hb.block _ (Array.getElem?_eq_some_iff.1 h2).1).trans h2, (Array.getElem?_eq_some_iff.1 h2).1⟩
theorem dNew24 {w : World} {base g : Nat} {v : Value} {D : Dsk} (hd : Dy w base g v D) (hb : base <= w.heap.size) (hnn : D.n < 4611686018427387904) (p : Pn) (q : Pr) (vo vu : Value) (id : Int) (hp : Ok8p p) (hq : Pm w (.agg #[.int .i64 q.inp, vo, vu]) q) :
 Calls Tryz.prog 10 #[plv p, .agg #[.int .i64 q.inp, vo, vu], .int .i64 id, .pointer (some ⟨g, 0, none⟩)] w fun e w' => ∃ v' x, e = .returned (.tuple #[x, .int .i64 (nwE p q id D)]) ∧ Dy w' base g v' (nwN p q id D) ∧ Mv w w' g v v' ∧
  ((nwE p q id D ≠ 0 ∧ x = .agg wz24) ∨ (nwE p q id D = 0 ∧ ∃ lv es, x = .agg (wyc p q vo vu id lv false) ∧ Hl w' w.heap.size lv es (nwW p id D).L)) := by
 obtain ⟨vo1, vu1, e, ho, hu⟩ := hq.form
 injection e with e
 injection e with e
 injection e with _ e
 injection e with e1 e
 injection e with e2 _
 subst e1 e2
 obtain ⟨ao, ca, rfl, _⟩ := ho.spell
 obtain ⟨au, cu, rfl, _⟩ := hu.spell
 have HD := hide hd
 obtain ⟨x0, x1, x2, hA⟩ := alloc3 w (.cells #[.int .u8 p.f, .int .i64 p.n, .int .i64 p.k, .int .i64 p.t, .int .i64 p.s, .int .i64 p.e, .int .i64 p.d, .int .i64 p.w] 24) (.cells #[.int .i64 q.inp, .slice ao q.ops.length ca, .slice au q.outs.length cu] 28) (.cells wz24 45)
 unfold wz24 at x0 x1 x2 hA
 obtain ⟨W3, HW⟩ : ∃ W3, Hid (((w.alloc (.cells #[.int .u8 p.f, .int .i64 p.n, .int .i64 p.k, .int .i64 p.t, .int .i64 p.s, .int .i64 p.e, .int .i64 p.d, .int .i64 p.w] 24)).alloc (.cells #[.int .i64 q.inp, .slice ao q.ops.length ca, .slice au q.outs.length cu] 28)).alloc (.cells #[.int .u8 0, .int .i64 0, .int .i64 0, .int .i64 0, .int .i64 0, .int .i64 0, .int .i64 0, .int .i64 0, .int .i64 0, .slice none 0 0, .slice none 0 0, .int .i64 0, .slice none 0 0, .bool false] 45) = W3) := ⟨_, rfl⟩
 rw [HW.out] at x0 x1 x2 hA
 have HX := hide (fun W (hB : Below W3.heap.size W3 W) => (⟨(hB.block _ (Array.getElem?_eq_some_iff.1 x0).1).trans x0, (hB.block _ (Array.getElem?_eq_some_iff.1 x1).1).trans x1, (hB.block _ (Array.getElem?_eq_some_iff.1 x2).1).trans x2⟩ : W.heap[w.heap.size]? = some _ ∧ W.heap[w.heap.size + 1]? = some _ ∧ W.heap[w.heap.size + 1 + 1]? = some _))
 have HPc := hide (fun (W : World) (h : W.heap[w.heap.size]? = some (.cells #[.int .u8 p.f, .int .i64 p.n, .int .i64 p.k, .int .i64 p.t, .int .i64 p.s, .int .i64 p.e, .int .i64 p.d, .int .i64 p.w] 24 (0, 0))) => (show W.cell? ⟨w.heap.size, 0, none⟩ = some (.int .u8 p.f) ∧ W.cell? ⟨w.heap.size, 1, none⟩ = some (.int .i64 p.n) ∧ W.cell? ⟨w.heap.size, 2, none⟩ = some (.int .i64 p.k) ∧ W.cell? ⟨w.heap.size, 3, none⟩ = some (.int .i64 p.t) ∧ W.cell? ⟨w.heap.size, 4, none⟩ = some (.int .i64 p.s) ∧ W.cell? ⟨w.heap.size, 5, none⟩ = some (.int .i64 p.e) ∧ W.cell? ⟨w.heap.size, 6, none⟩ = some (.int .i64 p.d) ∧ W.cell? ⟨w.heap.size, 7, none⟩ = some (.int .i64 p.w) from ⟨cell_at h rfl, cell_at h rfl, cell_at h rfl, cell_at h rfl, cell_at h rfl, cell_at h rfl, cell_at h rfl, cell_at h rfl⟩))
 have HA := hide hA
 have HT := hide (dTeam p q _ W3 hp (hq.below hA))
 have HO := hide (fun W (hB : Below w.heap.size w W) => dJopen (hd.below hB) (Nat.le_trans hb hB.size) hnn)
 obtain ⟨c0, c1, c2, c3, c4, c5, c6, c7⟩ := HPc.out _ x0
 obtain ⟨d0, d1, d2⟩ := cell3 x1
 have HBb := hide hb
 rw [plan_eq] at *
 clear ho hu hq hA hd hb x0 x1 x2
 unfold nwE nwN
 have htm := @tm_mk p q id
 obtain ⟨tb, Htb⟩ : ∃ tb, Hid (tmB p q = tb) := ⟨_, rfl⟩
 rw [Htb.out] at HT htm
 cases hk : mkB p q id with
 | false =>
  rw [if_neg (by decide), if_neg (by decide)]
  rw [hk] at htm
  clear hk hnn HO
  have hcs : tb = false ∨ (tb = true ∧ id < 0) ∨ (tb = true ∧ ¬ id < 0 ∧ p.n <= id) := by
   cases tb with
   | false => exact .inl rfl
   | true =>
    by_cases h1 : id < 0
    · exact .inr (.inl ⟨rfl, h1⟩)
    · by_cases h2 : p.n <= id
      · exact .inr (.inr ⟨rfl, h1, h2⟩)
      · rw [decide_eq_true (show 0 <= id by omega), decide_eq_true (show id < p.n by omega)] at htm
        cases htm
  clear htm Htb
  rcases hcs with rfl | ⟨rfl, e1⟩ | ⟨rfl, e1, e2⟩
  · go_enter Tryz.func10, Tryz.ntmps10
    go_upto_region 1 with fail
    rw [HW.out]
    go_upto_region 2 with (go_at_call 29; refine HT.out.mono ?_; rintro e w4 ⟨rfl, hb4⟩; obtain ⟨x0, _, x2⟩ := HX.out w4 hb4; clear c0 c1 c2 c3 c4 c5 c6 c7; obtain ⟨c0, c1, c2, c3, c4, c5, c6, c7⟩ := HPc.out _ x0)
    have hB4 := Below.next HA.out hb4
    refine wp_region_lit ?_
    refine rowVal rfl (.agg wz24) (by simp [go_sem, execOp]; kernel_rfl) ?_
    refine rowStore rfl _ _ _ rfl (w.heap.size + 1 + 1) _ _ wz24 rfl rfl x2 wy_size rfl wz_one ?_
    have HL := hide (load_wy (setRow_heap w4 _ _ wz24 _ _ x2) rfl)
    have HDy := hide ((HD.out.below hB4).row x2 wz24)
    have HMv := hide ((Mv.of_below g v hB4).row_new (b := w.heap.size + 1 + 1) (by omega) wz24)
    generalize w4.setRow (w.heap.size + 1 + 1) wz24 = W5 at *
    clear x0 x2 c0 c1 c2 c3 c4 c5 c6 c7
    go_wp2
    refine bodyPost_ret (res_ct rfl rfl rfl HL.out) rfl ?_
    exact ⟨v, _, rfl, HDy.out, HMv.out, .inl ⟨by decide, rfl⟩⟩
  · go_enter Tryz.func10, Tryz.ntmps10
    go_upto_region 1 with fail
    rw [HW.out]
    go_upto_region 2 with (go_at_call 29; refine HT.out.mono ?_; rintro e w4 ⟨rfl, hb4⟩; obtain ⟨x0, _, x2⟩ := HX.out w4 hb4; clear c0 c1 c2 c3 c4 c5 c6 c7; obtain ⟨c0, c1, c2, c3, c4, c5, c6, c7⟩ := HPc.out _ x0)
    have hB4 := Below.next HA.out hb4
    refine wp_region_lit ?_
    refine rowVal rfl (.agg wz24) (by simp [go_sem, execOp]; kernel_rfl) ?_
    refine rowStore rfl _ _ _ rfl (w.heap.size + 1 + 1) _ _ wz24 rfl rfl x2 wy_size rfl wz_one ?_
    have HL := hide (load_wy (setRow_heap w4 _ _ wz24 _ _ x2) rfl)
    have HDy := hide ((HD.out.below hB4).row x2 wz24)
    have HMv := hide ((Mv.of_below g v hB4).row_new (b := w.heap.size + 1 + 1) (by omega) wz24)
    generalize w4.setRow (w.heap.size + 1 + 1) wz24 = W5 at *
    clear x0 x2 c0 c1 c2 c3 c4 c5 c6 c7
    go_wp2
    refine bodyPost_ret (res_ct rfl rfl rfl HL.out) rfl ?_
    exact ⟨v, _, rfl, HDy.out, HMv.out, .inl ⟨by decide, rfl⟩⟩
  · go_enter Tryz.func10, Tryz.ntmps10
    go_upto_region 1 with fail
    rw [HW.out]
    go_upto_region 2 with (go_at_call 29; refine HT.out.mono ?_; rintro e w4 ⟨rfl, hb4⟩; obtain ⟨x0, _, x2⟩ := HX.out w4 hb4; clear c0 c1 c2 c3 c4 c5 c6 c7; obtain ⟨c0, c1, c2, c3, c4, c5, c6, c7⟩ := HPc.out _ x0)
    have hB4 := Below.next HA.out hb4
    refine wp_region_lit ?_
    refine rowVal rfl (.agg wz24) (by simp [go_sem, execOp]; kernel_rfl) ?_
    refine rowStore rfl _ _ _ rfl (w.heap.size + 1 + 1) _ _ wz24 rfl rfl x2 wy_size rfl wz_one ?_
    have HL := hide (load_wy (setRow_heap w4 _ _ wz24 _ _ x2) rfl)
    have HDy := hide ((HD.out.below hB4).row x2 wz24)
    have HMv := hide ((Mv.of_below g v hB4).row_new (b := w.heap.size + 1 + 1) (by omega) wz24)
    generalize w4.setRow (w.heap.size + 1 + 1) wz24 = W5 at *
    clear x0 x2 c0 c1 c2 c3 c4 c5 c6 c7
    go_wp2
    refine bodyPost_ret (res_ct rfl rfl rfl HL.out) rfl ?_
    exact ⟨v, _, rfl, HDy.out, HMv.out, .inl ⟨by decide, rfl⟩⟩
 | true =>
  have hwf := mkB_facts hk
  rw [if_pos rfl, if_pos rfl]
  rw [hk] at htm
  obtain ⟨rfl, e1, e2⟩ : tb = true ∧ ¬ id < 0 ∧ ¬ p.n <= id := by
   have := htm.symm
   rw [Bool.and_eq_true, Bool.and_eq_true] at this
   exact ⟨this.1, by have := of_decide_eq_true this.2.1; omega, by have := of_decide_eq_true this.2.2; omega⟩
  have q1 : decide (id < 0) = false := decide_eq_false e1
  have q2 : decide (p.n <= id) = false := decide_eq_false e2
  clear htm Htb hk hnn hwf e1 e2
  by_cases he : opE23 sum8 D = 0
  · rw [he] at HO ⊢
    generalize opN23 sum8 D = E at *
    go_enter Tryz.func10, Tryz.ntmps10
    go_upto_region 1 with fail
    rw [HW.out]
    go_upto_region 6 with (first
     | (go_at_call 29; refine HT.out.mono ?_; rintro e w4 ⟨rfl, hb4⟩; obtain ⟨x0, x1, x2⟩ := HX.out w4 hb4; clear c0 c1 c2 c3 c4 c5 c6 c7 d0 d1 d2; obtain ⟨c0, c1, c2, c3, c4, c5, c6, c7⟩ := HPc.out _ x0; obtain ⟨d0, d1, d2⟩ := cell3 x1; have hB4 := Below.next HA.out hb4; have HO4 := hide (HO.out _ hB4))
     | (go_at_call 46; refine HO4.out.mono ?_; rintro e w5 ⟨v5, l5, e5, rfl, hn5, hm5, hr5, hq5⟩; obtain ⟨a5, k5, hv5, _⟩ := own_spellO hr5.row; subst hv5; have y0 := (HD.out.below hB4).apart hm5 x0 (by decide) (by decide); have y1 := (HD.out.below hB4).apart hm5 x1 (by decide) (by decide); have y2 := (HD.out.below hB4).apart hm5 x2 (by decide) (by decide); clear c0 c1 c2 c3 c4 c5 c6 c7 d0 d1 d2; obtain ⟨c0, c1, c2, c3, c4, c5, c6, c7⟩ := HPc.out _ y0; obtain ⟨d0, d1, d2⟩ := cell3 y1))
    have HM := hide (fun W7 hW7 => ml_new (w := w) (W7 := W7) (p := p) (q := q) (id := id) (vo := .slice ao q.ops.length ca) (vu := .slice au q.outs.length cu) (Mv.after hB4 hm5) hn5 (hr5.mono hB4.size) y0 y2 hW7)
    go_upto_region 7 with fail
    generalize hW7 : World.alloc w5 _ = W7
    have HM0 := hide (HM.out W7 hW7)
    clear HM hW7 c0 c1 c2 c3 c4 c5 c6 c7 d0 d1 d2 y0 y1 y2 x0 x1 x2 hn5 hm5 hr5 hB4 hb4 HO4 HO HT HX HA HW HD HBb
    generalize w5.heap.size = xb at *
    clear w5
    have HQ5 := hide hq5
    clear hq5
    obtain ⟨n5, Hn5⟩ : ∃ n5, Hid (e5.length = n5) := ⟨_, rfl⟩
    have hN5 : n5 <= 9223372036854775807 := by
     rw [<- Hn5.out]
     rcases HM0.out.rl.row.2 with ⟨_, h0⟩ | ⟨_, _, _, _, _, _, h4, h5, _⟩
     · omega
     · unfold maxLen at h5; omega
    rw [Hn5.out] at HM0 ⊢
    go_wp2
    go_loopw [13] (fun vi wr => ∃ k : Nat, k <= n5 ∧ vi = .int .i64 (k : Int) ∧ Hid (Ml w wr base xb g v v5 (.slice a5 n5 k5) (.slice ao q.ops.length ca) (.slice au q.outs.length cu) p q id E e5 k)) (fun vi _ => n5 - (intOf vi).toNat)
    case atStart => exact ⟨0, Nat.zero_le _, rfl, HM0⟩
    case round =>
     clear HM0
     obtain ⟨k, hk, rfl, HL⟩ := hrel
     by_cases hlt : k < n5
     · have hlt' : k < e5.length := by rw [Hn5.out]; exact hlt
       have ii0 : (0 : Int) <= (k : Int) := by omega
       have ii1 : (k : Int) < (n5 : Int) := by omega
       obtain ⟨ar, cr, ear, _, hsp⟩ := own_spellO HL.out.rl.row
       rw [Hn5.out] at ear hsp
       obtain ⟨r, erk, _⟩ := hsp (by omega)
       injection ear with ear _ ear2
       subst ear2
       subst ear
       subst erk
       have hrow := HL.out.rl.row
       rw [Hn5.out] at hrow
       have y0 : wr.cell? ⟨r, k, none⟩ = some e5[k].2 := own_atO hrow (by rw [List.getElem?_map, List.getElem?_eq_getElem hlt']; rfl)
       have hrb := HL.out.rl.rb hlt'
       obtain ⟨ub, uc, hub, _⟩ := hrb.spell
       have HSA := hide (dShare_one p id _ e5[k].1 wr hrb)
       have HSB := hide (dShare_two p id _ e5[k].1 wr hrb)
       have hy := hrb.by
       rw [hub] at y0 HSA HSB
       rw [plan_eq] at HSA HSB
       obtain ⟨c0, c1, c2, c3, c4, c5, c6, c7⟩ := HPc.out _ HL.out.pl
       have hwst := Wst.hldW (id := id) w p.f p.w ((e5.map (·.1)).take k) (fun x hx => by
        obtain ⟨y, hy, rfl⟩ := List.mem_map.1 (List.mem_of_mem_take hx)
        exact (HL.out.rl.by_ y hy).1)
       have HWst := hide hwst
       clear hrow hrb hub hwst
       generalize e5[k].1.length = nb at *
       go_upto_region 10 with fail
       go_cut [14, 15] from 52 to 61 (fun v14 v15 wx => ∃ bx a8 k8, v14 = .pointer (some ⟨bx, 0, none⟩) ∧ v15 = .bool (shB sum8 p.f p.w id e5[k].1) ∧ Hid (Shx wr wx bx p id e5[k].1 (.slice a8 (shX p id e5[k].1).length k8)))
       case first =>
        have hpc : Plc wr w.heap.size p := plc_of HL.out.pl
        have HX0 : Hid (∀ V : World, Plc V w.heap.size p ∧ V.cell? ⟨r, k, none⟩ = some (.slice ub nb uc) -> (loadVar 24 ⟨w.heap.size, 0, none⟩).run Tryz.prog V = .ok (.agg #[.int .u8 p.f, .int .i64 p.n, .int .i64 p.k, .int .i64 p.t, .int .i64 p.s, .int .i64 p.e, .int .i64 p.d, .int .i64 p.w]) V) := fun V h => h.1.load
        have HKp := hide (fun W (hb : Below wr.heap.size wr W) => (⟨hpc.kept hb, cell_kept y0 hb⟩ : Plc W w.heap.size p ∧ W.cell? ⟨r, k, none⟩ = some (.slice ub nb uc)))
        have hS0 := HKp.out _ (Below.refl _ wr).drew
        have hS3 := fun ob => HKp.out (wr.alloc ob).drew (alloc_below wr ob).drew
        generalize hBB : shB sum8 p.f p.w id e5[k].1 = BB at *
        clear hBB
        refine wp_region_held_drew (S := (fun V => Plc V w.heap.size p ∧ V.cell? ⟨r, k, none⟩ = some (.slice ub nb uc))) (by kernel_rfl) (by ((try dsimp only) <;> (first | with_reducible exact hS0 | with_reducible exact hS1 | with_reducible exact hS2 _ | with_reducible exact hS3 _ | with_reducible exact hS4))) (fun hHeld => ?_)
        refine tkY 0 ?_ (hy := by (intro w hSw; (try dsimp only at hSw); simp [execOp, Instr.loadAt, Instr.sureAddr, Act.eval, HX0.out _ hSw]; with_reducible rfl))
        refine tkY 1 ?_
        refine tkY 2 ?_
        refine tkY 3 ?_
        refine tkY 4 ?_
        refine tkY 5 ?_
        refine wpAnyH_ready (rs := [6, 10]) (by kernel_rfl) (by simp) ?_
        refine AllReadyH.cons (o := _) rfl (fun K hK => ?way12x0) (AllReadyH.cons (o := _) rfl (fun K hK => ?way12x1) AllReadyH.nil)
        case' way12x0 =>
         (try simp only [ly0, ly1, ly2, ly3, ly4, ly5, ly6, ly7])
         go_simp
         (first | (go_at_call 47; with_reducible refine HSA.out.mono ?_; rintro e w8 ⟨a8, k8, rfl, hX8, hb8⟩; have hS1 := HKp.out _ hb8; have hS2 := fun ob => HKp.out _ (Below.next hb8 (alloc_below w8 ob))) | (go_at_call 47; with_reducible refine HSB.out.mono ?_; rintro e w8 ⟨a8, k8, rfl, ⟨z0, z1, zf⟩, hX8, hb8⟩; have hS1 := HKp.out _ hb8; have hS4 := HKp.out _ hX8.bel))
         first | refine hK.out _ _ ?k13 (fun hHeld => ?_) | (go_wp2_with fail; refine hK.out _ _ ?k13 (fun hHeld => ?_))
         case k13 => ((try dsimp only) <;> (first | with_reducible exact hS0 | with_reducible exact hS1 | with_reducible exact hS2 _ | with_reducible exact hS3 _ | with_reducible exact hS4))
         clear hK K
         (try simp only [ly0, ly1, ly2, ly3, ly4, ly5, ly6, ly7])
         refine tkY 7 ?_
         refine tkY 8 ?_
         refine tkY 9 ?_
         refine rd1 10 (fun K hK => ?_)
         (try simp only [ly0, ly1, ly2, ly3, ly4, ly5, ly6, ly7])
         go_simp
         refine hK.out _ _ (by ((try dsimp only) <;> (first | with_reducible exact hS0 | with_reducible exact hS1 | with_reducible exact hS2 _ | with_reducible exact hS3 _ | with_reducible exact hS4))) (fun hHeld => ?_)
         clear hK K
         (try simp only [ly0, ly1, ly2, ly3, ly4, ly5, ly6, ly7])
         refine rd1 11 (fun K hK => ?_)
         (try simp only [ly0, ly1, ly2, ly3, ly4, ly5, ly6, ly7])
         go_simp
         refine hK.out _ _ (by ((try dsimp only) <;> (first | with_reducible exact hS0 | with_reducible exact hS1 | with_reducible exact hS2 _ | with_reducible exact hS3 _ | with_reducible exact hS4))) (fun hHeld => ?_)
         clear hK K
         (try simp only [ly0, ly1, ly2, ly3, ly4, ly5, ly6, ly7])
         refine tkY 12 ?_
         refine wpAnyH_done (by kernel_rfl) ?_ _
        case' way12x1 =>
         (try simp only [ly0, ly1, ly2, ly3, ly4, ly5, ly6, ly7])
         go_simp
         refine hK.out _ _ (by ((try dsimp only) <;> (first | with_reducible exact hS0 | with_reducible exact hS1 | with_reducible exact hS2 _ | with_reducible exact hS3 _ | with_reducible exact hS4))) (fun hHeld => ?_)
         clear hK K
         (try simp only [ly0, ly1, ly2, ly3, ly4, ly5, ly6, ly7])
         refine rd1 6 (fun K hK => ?_)
         (try simp only [ly0, ly1, ly2, ly3, ly4, ly5, ly6, ly7])
         go_simp
         (first | (go_at_call 47; with_reducible refine HSA.out.mono ?_; rintro e w8 ⟨a8, k8, rfl, hX8, hb8⟩; have hS1 := HKp.out _ hb8; have hS2 := fun ob => HKp.out _ (Below.next hb8 (alloc_below w8 ob))) | (go_at_call 47; with_reducible refine HSB.out.mono ?_; rintro e w8 ⟨a8, k8, rfl, ⟨z0, z1, zf⟩, hX8, hb8⟩; have hS1 := HKp.out _ hb8; have hS4 := HKp.out _ hX8.bel))
         first | refine hK.out _ _ ?k14 (fun hHeld => ?_) | (go_wp2_with fail; refine hK.out _ _ ?k14 (fun hHeld => ?_))
         case k14 => ((try dsimp only) <;> (first | with_reducible exact hS0 | with_reducible exact hS1 | with_reducible exact hS2 _ | with_reducible exact hS3 _ | with_reducible exact hS4))
         clear hK K
         (try simp only [ly0, ly1, ly2, ly3, ly4, ly5, ly6, ly7])
         refine tkY 7 ?_
         refine tkY 8 ?_
         refine tkY 9 ?_
         refine rd1 11 (fun K hK => ?_)
         (try simp only [ly0, ly1, ly2, ly3, ly4, ly5, ly6, ly7])
         go_simp
         refine hK.out _ _ (by ((try dsimp only) <;> (first | with_reducible exact hS0 | with_reducible exact hS1 | with_reducible exact hS2 _ | with_reducible exact hS3 _ | with_reducible exact hS4))) (fun hHeld => ?_)
         clear hK K
         (try simp only [ly0, ly1, ly2, ly3, ly4, ly5, ly6, ly7])
         refine tkY 12 ?_
         refine wpAnyH_done (by kernel_rfl) ?_ _
        all_goals
         go_wp2
         go_meet
         exact ⟨_, _, _, rfl, rfl, hX8⟩
       obtain ⟨bx, a8, k8, rfl, rfl, HSx⟩ := hcut
       have HL2 := hide (HL.out.below HSx.out.bel)
       have hsz := HL.out.mv.kq.size
       have hsz2 := HL2.out.mv.kq.size
       clear HL HSA HSB c0 c1 c2 c3 c4 c5 c6 c7 y0
       cases hs : shB sum8 p.f p.w id e5[k].1 with
       | false =>
        have HL3 := hide (HL2.out.same hlt' (put_no hs))
        clear HL2 HSx hs hy HWst
        go_wp2
        go_roundw
        case rel => exact ⟨k + 1, by omega, by go_num, HL3⟩
        case measure => simp [intOf]; omega
       | true =>
        have hbx := HSx.out.box
        have how := own_mono HSx.out.own hsz
        have er : shR p id e5[k].1 = (mrM sum8 e5[k].1).r := by unfold shR; rw [if_pos hs]
        have ex : shX p id e5[k].1 = (mrM sum8 e5[k].1).l := by unfold shX; rw [if_pos hs]
        rw [er, ex] at hbx
        rw [ex] at how
        clear HSx er ex
        obtain ⟨lv, es, hwy⟩ := HL2.out.wy
        obtain ⟨⟨b0, b1⟩, bf, bl⟩ := held_box hbx
        have HBl := hide bl
        have hF : Calls Tryz.prog 48 #[.pointer (some ⟨xb, 0, none⟩), .int .i64 (mrM sum8 e5[k].1).r] wc fun e w' => ∃ v, e = .returned (.tuple #[v, .bool (fndW (hldW sum8 p.f p.w id ((e5.map (fun x : Be => x.1)).take k)) (mrM sum8 e5[k].1).r).isSome]) ∧ w' = wc :=
         (dFind hwy (mrM sum8 e5[k].1).r HWst.out.len).mono (fun e w' ⟨v, h1, _, h3⟩ => ⟨v, h1, h3⟩)
        have HF := hide hF
        clear hF
        clear bl
        cases hf : fndW (hldW sum8 p.f p.w id ((e5.map (·.1)).take k)) (mrM sum8 e5[k].1).r with
        | some xs =>
         have HL3 := hide (HL2.out.same hlt' (by unfold putW; rw [if_neg (fun h => by rw [hf] at h; cases h.2)]))
         rw [hf] at HF
         clear HL2 hs hy HWst hwy hbx how hf HBl
         generalize (mrM sum8 e5[k].1).r = mr at *
         go_wp2_with (go_at_call 48; refine HF.out.mono ?_; rintro e w9 ⟨v9, rfl, hw9⟩; rw [hw9]; clear hw9)
         go_roundw
         case rel => exact ⟨k + 1, by omega, by go_num, HL3⟩
         case measure => simp [intOf]; omega
        | none =>
         have hA8 := alloc_below wc (.cells #[.int .i64 (mrM sum8 e5[k].1).r, .slice a8 (mrM sum8 e5[k].1).l.length k8] 109)
         have hn8 := heap_alloc_new wc (.cells #[.int .i64 (mrM sum8 e5[k].1).r, .slice a8 (mrM sum8 e5[k].1).l.length k8] 109)
         have hlen := hwy.hl.len
         have hl5 := HWst.out.len
         obtain ⟨v9, w9, hr9, ho9, hg9, hat9⟩ := appH (own_below hwy.hl.row hA8) wc.heap.size (mrM sum8 e5[k].1).r (.slice a8 (mrM sum8 e5[k].1).l.length k8) (cell_at hn8 rfl) (cell_at hn8 rfl) rfl (by show es.length <= 100000; rw [hlen]; exact Nat.le_trans hl5 (by decide)) (Nat.le_trans hsz2 hA8.size)
         have HL3 := hide ((HL2.out.below hA8).app hlt' (hwy.below hA8) (by unfold putW; rw [if_pos ⟨hs, hf⟩]) ho9 hg9 hat9 (own_below how hA8))
         obtain ⟨z12, zf12⟩ := (hwy.below hA8).grown hg9
         have xc12 := hwy.cells.2.2.1
         rw [hf] at HF
         obtain ⟨al, cl, hlv, _⟩ := own_spellO hwy.hl.row
         obtain ⟨a9, c9, hv9, _⟩ := own_spellO ho9
         rw [hv9] at hr9 HL3
         rw [hlv] at hr9 z12 xc12
         clear HL2 hs hy HWst hwy hbx how hf hA8 hn8 hlen ho9 hg9 hat9 hlv hv9
         generalize (mrM sum8 e5[k].1).r = mr at *
         generalize (mrM sum8 e5[k].1).l.length = ml at *
         generalize es.length = el at *
         go_wp2_with (first
          | (go_at_call 48; refine HF.out.mono ?_; rintro e w9 ⟨v9, rfl, hw9⟩; rw [hw9]; clear hw9)
          | (at_builtin; refine app_runO rfl _ _ _ rfl _ _ _ rfl rfl hr9 ?_))
         go_roundw
         case rel => exact ⟨k + 1, by omega, by go_num, HL3⟩
         case measure => simp [intOf]; omega
     · obtain rfl : k = n5 := by omega
       obtain ⟨lv, es, hwy⟩ := HL.out.wy
       have hbz := HL.out.bz
       have hne := HL.out.ne
       obtain ⟨al, cl, hlv, _⟩ := own_spellO hwy.hl.row
       subst hlv
       have HLo := hide (load_wy hwy.blk rfl)
       have HL2 := hide (load_wy (setRow_heap wr _ _ (wyc p q (.slice ao q.ops.length ca) (.slice au q.outs.length cu) id (.slice al es.length cl) false) _ _ hbz) rfl)
       have HDy := hide (HL.out.dy.row hbz (wyc p q (.slice ao q.ops.length ca) (.slice au q.outs.length cu) id (.slice al es.length cl) false))
       have HMv := hide (HL.out.mv.row_new (b := w.heap.size + 1 + 1) (by omega) (wyc p q (.slice ao q.ops.length ca) (.slice au q.outs.length cu) id (.slice al es.length cl) false))
       have hhl := hwy.hl.row_ hbz (wyc p q (.slice ao q.ops.length ca) (.slice au q.outs.length cu) id (.slice al es.length cl) false)
       have e0 : (e5.map (·.1)).take k = opR23 sum8 D := by rw [List.take_of_length_le (by rw [List.length_map, Hn5.out]; exact Nat.le_refl _), HQ5.out]
       rw [e0] at hhl
       have HHl := hide hhl
       have HBz := hide hbz
       clear HL hwy hbz hne hhl e0 HQ5
       go_upto_region 15 with fail
       refine wp_region_lit ?_
       refine rowLoadR rfl _ _ rfl xb _ rfl HLo.out ?_
       refine rowStore rfl _ _ _ rfl (w.heap.size + 1 + 1) _ _ (wyc p q (.slice ao q.ops.length ca) (.slice au q.outs.length cu) id (.slice al es.length cl) false) rfl rfl HBz.out wy_size rfl (wyc_one p q _ _ _ _ _ _ _ _ _ id false) ?_
       generalize wr.setRow (w.heap.size + 1 + 1) (wyc p q (.slice ao q.ops.length ca) (.slice au q.outs.length cu) id (.slice al es.length cl) false) = W5 at *
       clear HLo HBz
       go_wp2
       refine bodyPost_ret (res_ct rfl rfl rfl HL2.out) rfl ?_
       exact ⟨v5, _, rfl, HDy.out, HMv.out, _, rfl, _, HHl.out⟩
  · have q0 : (opE23 sum8 D != 0) = true := bne_iff_ne.2 he
    generalize opE23 sum8 D = er at *
    generalize opN23 sum8 D = E at *
    go_enter Tryz.func10, Tryz.ntmps10
    go_upto_region 1 with fail
    rw [HW.out]
    go_upto_region 5 with (first
     | (go_at_call 29; refine HT.out.mono ?_; rintro e w4 ⟨rfl, hb4⟩; obtain ⟨x0, _, x2⟩ := HX.out w4 hb4; clear c0 c1 c2 c3 c4 c5 c6 c7; obtain ⟨c0, c1, c2, c3, c4, c5, c6, c7⟩ := HPc.out _ x0; have hB4 := Below.next HA.out hb4; have HO4 := hide (HO.out _ hB4))
     | (go_at_call 46; refine HO4.out.mono ?_; rintro e w5 ⟨v5, l5, e5, rfl, hn5, hm5, hr5, hq5⟩; obtain ⟨a5, k5, hv5, _⟩ := own_spellO hr5.row; subst hv5; have y2 := (HD.out.below hB4).apart hm5 x2 (by decide) (by decide)))
    refine wp_region_lit ?_
    refine rowVal rfl (.agg wz24) (by simp [go_sem, execOp]; kernel_rfl) ?_
    refine rowVal rfl (.int .i64 er) (by simp [go_sem, execOp]) ?_
    refine rowStore rfl _ _ _ rfl (w.heap.size + 1 + 1) _ _ wz24 rfl rfl y2 wy_size rfl wz_one ?_
    have HL := hide (load_wy (setRow_heap w5 _ _ wz24 _ _ y2) rfl)
    have HDy := hide (hn5.row y2 wz24)
    have HMv := hide ((Mv.after hB4 hm5).row_new (b := w.heap.size + 1 + 1) (by omega) wz24)
    generalize w5.setRow (w.heap.size + 1 + 1) wz24 = W5 at *
    clear x0 x2 c0 c1 c2 c3 c4 c5 c6 c7 hn5 hm5 hr5 y2
    go_wp2
    refine bodyPost_ret (res_ct rfl rfl rfl HL.out) rfl ?_
    exact ⟨v5, _, rfl, HDy.out, HMv.out, .inl ⟨he, rfl⟩⟩
def Xd (w : World) (xb g : Nat) (lo vo : Option Nat) (j : Nat) : Prop := (j < w.heap.size ∧ j ≠ g ∧ vo ≠ some j) ∧ j ≠ xb ∧ lo ≠ some j
structure Ex (w w' : World) (xb g : Nat) (lv v lv' v' : Value) : Prop where
 kq : Kq (Xd w xb g lv.ownBlock v.ownBlock) w w'
 newl : ∀ j, lv'.ownBlock = some j -> lv.ownBlock = some j ∨ w.heap.size <= j
 newv : ∀ j, v'.ownBlock = some j -> v.ownBlock = some j ∨ w.heap.size <= j
theorem Ex.refl (w : World) (xb g : Nat) (lv v : Value) : Ex w w xb g lv v lv v := ⟨Kq.refl _ w, fun j h => .inl h, fun j h => .inl h⟩
theorem Ex.of_mv {w w' : World} {g : Nat} {v v' : Value} (xb : Nat) (lv : Value) (h : Mv w w' g v v') : Ex w w' xb g lv v lv v' := ⟨h.kq.mono (fun j hj => hj.1), fun j h => .inl h, h.new⟩
theorem Ex.of_below {w w' : World} (xb g : Nat) (lv v : Value) (h : Below w.heap.size w w') : Ex w w' xb g lv v lv v := Ex.of_mv xb lv (Mv.of_below g v h)
theorem Ex.of_xv {w w' : World} {xb : Nat} {lv lv' : Value} (g : Nat) (v : Value) (k : Kq (Xv w xb lv.ownBlock) w w') (h : ∀ j, lv'.ownBlock = some j -> lv.ownBlock = some j ∨ w.heap.size <= j) : Ex w w' xb g lv v lv' v := ⟨k.mono (fun j hj => ⟨hj.1.1, hj.2.1, hj.2.2⟩), h, fun j h => .inl h⟩
theorem Ex.trans {a b c : World} {xb g : Nat} {l u m v n x : Value} (h : Ex a b xb g l u m v) (k : Ex b c xb g m v n x) : Ex a c xb g l u n x := by
 have hs := h.kq.size
 refine ⟨h.kq.trans (k.kq.mono (fun j hj => ⟨⟨by have := hj.1.1; omega, hj.1.2.1, fun e => ?_⟩, hj.2.1, fun e => ?_⟩)), fun j hj => ?_, fun j hj => ?_⟩
 · rcases h.newv j e with h1 | h1
   · exact hj.1.2.2 h1
   · have := hj.1.1; omega
 · rcases h.newl j e with h1 | h1
   · exact hj.2.2 h1
   · have := hj.1.1; omega
 · rcases k.newl j hj with h1 | h1
   · exact h.newl j h1
   · exact .inr (by omega)
 · rcases k.newv j hj with h1 | h1
   · exact h.newv j h1
   · exact .inr (by omega)
theorem Ex.next {a b c : World} {xb g : Nat} {l u m v : Value} (h : Ex a b xb g l u m v) (k : Below b.heap.size b c) : Ex a c xb g l u m v := h.trans (Ex.of_below _ _ _ _ k)
theorem Ex.after {a b c : World} {xb g : Nat} {l u m v : Value} (h : Below a.heap.size a b) (k : Ex b c xb g l u m v) : Ex a c xb g l u m v := (Ex.of_below _ _ _ _ h).trans k
theorem Ex.below {w w' : World} {xb g base : Nat} {lv v lv' v' : Value} (h : Ex w w' xb g lv v lv' v') (hw : base <= w.heap.size) (h1 : base <= xb) (h2 : base <= g) (hl : ∀ j, lv.ownBlock = some j -> base <= j) (hv : ∀ j, v.ownBlock = some j -> base <= j) : Below base w w' :=
 h.kq.below (fun j hj => ⟨⟨by omega, by omega, fun e => by have := hv j e; omega⟩, by omega, fun e => by have := hl j e; omega⟩)
section
variable {w : World} {base xb g : Nat} {lv v vo vu : Value} {p : Pn} {q : Pr} {id : Int} {es : List Hde} {st : Wk} {D : Dsk} {b : List Int}
theorem Wy.pq (h : Wy w base xb lv vo vu p q id es st) : Pq24 w xb p q.inp vo vu := by
 have h' := h.blk
 exact ⟨⟨cell_at h' rfl, cell_at h' rfl, cell_at h' rfl, cell_at h' rfl, cell_at h' rfl, cell_at h' rfl, cell_at h' rfl, cell_at h' rfl⟩, cell_at h' rfl, cell_at h' rfl, cell_at h' rfl⟩
theorem Wy.exb (h : Wy w base xb lv vo vu p q id es st) (hd : Dy w base g v D) {w' : World} {lv' v' : Value} (k : Ex w w' xb g lv v lv' v') : Below base w w' := by
 obtain ⟨ds, hd⟩ := hd
 exact k.below (by have := h.low; have := h.lt; omega) h.low hd.low (fun j hj => (h.hl.row.lt j hj).1) (fun j hj => (hd.row.lt j hj).1)
theorem on_shut (F : List Int -> List Int) (f wd : Int) (hx : st.x = true) : onE sum8 f wd id st D b = 240 ∧ onN sum8 f wd id st D b = D ∧ onW sum8 f wd id st D b = st ∧ onL sum8 f wd id F st D b = [] := by
 have e1 : onE sum8 f wd id st D b = 240 := by unfold onE; rw [if_pos hx]
 have hnb : newB sum8 f wd id st b = false := by unfold newB; rw [hx]; rfl
 exact ⟨e1, by unfold onN; rw [hnb]; rfl, by unfold onW; rw [hnb]; rfl, by unfold onL; rw [e1]; rfl⟩
theorem on_none (F : List Int -> List Int) {f wd : Int} (hx : st.x = false) (hs : shB sum8 f wd id b = false) : onE sum8 f wd id st D b = 8 ∧ onN sum8 f wd id st D b = D ∧ onW sum8 f wd id st D b = st ∧ onL sum8 f wd id F st D b = [] := by
 have e1 : onE sum8 f wd id st D b = 8 := by unfold onE; rw [hx, hs]; rfl
 have hnb : newB sum8 f wd id st b = false := by unfold newB; rw [hx, hs]; rfl
 exact ⟨e1, by unfold onN; rw [hnb]; rfl, by unfold onW; rw [hnb]; rfl, by unfold onL; rw [e1]; rfl⟩
theorem on_other (F : List Int -> List Int) {f wd : Int} (hx : st.x = false) (hs : shB sum8 f wd id b = true) {xs : List Int} (hf : fndW st.L (mrM sum8 b).r = some xs) (hn : xs ≠ (mrM sum8 b).l) : onE sum8 f wd id st D b = 6 ∧ onN sum8 f wd id st D b = D ∧ onW sum8 f wd id st D b = st ∧ onL sum8 f wd id F st D b = [] := by
 have e1 : onE sum8 f wd id st D b = 6 := by unfold onE; rw [hx, hs, hf]; simp [hn]
 have hnb : newB sum8 f wd id st b = false := by unfold newB; rw [hx, hs, hf]; rfl
 exact ⟨e1, by unfold onN; rw [hnb]; rfl, by unfold onW; rw [hnb]; rfl, by unfold onL; rw [e1]; rfl⟩
theorem on_again (F : List Int -> List Int) {f wd : Int} (hx : st.x = false) (hs : shB sum8 f wd id b = true) (hf : fndW st.L (mrM sum8 b).r = some (mrM sum8 b).l) : onE sum8 f wd id st D b = 0 ∧ onN sum8 f wd id st D b = D ∧ onW sum8 f wd id st D b = st ∧ onL sum8 f wd id F st D b = mwL sum8 (onM sum8 f id F b) := by
 have e1 : onE sum8 f wd id st D b = 0 := by unfold onE; rw [hx, hs, hf]; simp
 have hnb : newB sum8 f wd id st b = false := by unfold newB; rw [hx, hs, hf]; rfl
 exact ⟨e1, by unfold onN; rw [hnb]; rfl, by unfold onW; rw [hnb]; rfl, by unfold onL; rw [e1]; rfl⟩
theorem on_fail (F : List Int -> List Int) {f wd : Int} (hx : st.x = false) (hs : shB sum8 f wd id b = true) (hf : fndW st.L (mrM sum8 b).r = none) (he : apE23 sum8 D b ≠ 0) : onE sum8 f wd id st D b = apE23 sum8 D b ∧ onN sum8 f wd id st D b = apN23 sum8 D b ∧ onW sum8 f wd id st D b = ⟨st.L, true⟩ ∧ onL sum8 f wd id F st D b = [] := by
 have e1 : onE sum8 f wd id st D b = apE23 sum8 D b := by unfold onE; rw [hx, hs, hf]; simp
 have hnb : newB sum8 f wd id st b = true := by unfold newB; rw [hx, hs, hf]; rfl
 exact ⟨e1, by unfold onN; rw [hnb]; rfl, by unfold onW; rw [hnb, if_pos rfl, if_neg he], by unfold onL; rw [e1, if_neg he]⟩
theorem on_new (F : List Int -> List Int) {f wd : Int} (hx : st.x = false) (hs : shB sum8 f wd id b = true) (hf : fndW st.L (mrM sum8 b).r = none) (he : apE23 sum8 D b = 0) : onE sum8 f wd id st D b = 0 ∧ onN sum8 f wd id st D b = apN23 sum8 D b ∧ onW sum8 f wd id st D b = ⟨st.L ++ [((mrM sum8 b).r, (mrM sum8 b).l)], st.x⟩ ∧ onL sum8 f wd id F st D b = mwL sum8 (onM sum8 f id F b) := by
 have e1 : onE sum8 f wd id st D b = 0 := by unfold onE; rw [hx, hs, hf]; simp [he]
 have hnb : newB sum8 f wd id st b = true := by unfold newB; rw [hx, hs, hf]; rfl
 exact ⟨e1, by unfold onN; rw [hnb]; rfl, by unfold onW; rw [hnb, if_pos rfl, if_pos he, hx]; unfold putW; rw [if_pos ⟨hs, hf⟩], by unfold onL; rw [e1]; rfl⟩
end
theorem ins_at {r : Int} : ∀ {k : Nat} {l : List Int}, k <= l.length -> (∀ j (hj : j < l.length), j < k -> l[j] < r) -> (∀ hk : k < l.length, ¬ l[k] < r) -> insW r l = l.take k ++ r :: l.drop k
 | 0, [], _, _, _ => rfl
 | 0, a :: l, _, _, h2 => by
  have : ¬ a < r := h2 (by simp)
  unfold insW
  rw [if_neg this]; rfl
 | k + 1, [], h, _, _ => by simp at h
 | k + 1, a :: l, h, h1, h2 => by
  have ha : a < r := h1 0 (by simp) (by omega)
  unfold insW
  rw [if_pos ha, ins_at (k := k) (l := l) (by simpa using h) (fun j hj hjk => h1 (j + 1) (by simpa using hj) (by omega)) (fun hk => h2 (by simpa using hk))]
  rfl
theorem ins_cut {r : Int} : ∀ {k : Nat} {l : List Int}, k <= l.length -> (((l ++ [0]).take (k + 1) ++ ((l ++ [0]).drop k).take (l.length - k)).set k r) = l.take k ++ r :: l.drop k
 | 0, [], _ => rfl
 | 0, a :: l, _ => by simp
 | k + 1, [], h => by simp at h
 | k + 1, a :: l, h => by
  have e := ins_cut (r := r) (k := k) (l := l) (by simpa using h)
  simp only [List.cons_append, List.take_succ_cons, List.drop_succ_cons, List.length_cons, List.set_cons_succ]
  rw [show l.length + 1 - (k + 1) = l.length - k by omega, e]
theorem ins_len (r : Int) : ∀ l : List Int, (insW r l).length = l.length + 1
 | [] => rfl
 | a :: l => by
  unfold insW
  split
  · rw [List.length_cons, ins_len r l, List.length_cons]
  · rfl
theorem rnd_snoc (L : List (Int × List Int)) (h : Int × List Int) : rndW (L ++ [h]) = insW h.1 (rndW L) := by unfold rndW; rw [List.foldl_append]; rfl
theorem rnd_len (L : List (Int × List Int)) : (rndW L).length = L.length := by
 have key : ∀ (L : List (Int × List Int)) (l : List Int), (L.foldl (fun l h => insW h.1 l) l).length = l.length + L.length := by
  intro L
  induction L with
  | nil => intro l; rfl
  | cons h L ih => intro l; rw [List.foldl_cons, ih, ins_len, List.length_cons]; omega
 have := key L []
 unfold rndW
 rw [this, List.length_nil, Nat.zero_add]
theorem iw_map (xs : List Int) : xs.flatMap iw = xs.map (Value.int .i64) := by
 induction xs with
 | nil => rfl
 | cons x xs ih => rw [List.flatMap_cons, ih]; rfl
theorem iw_map' (xs : List Int) : xs.map (Value.int .i64) = xs.flatMap iw := (iw_map xs).symm
theorem iw_set (x : Int) : ∀ (us : List Int) (k : Nat), (us.flatMap iw).set k (.int .i64 x) = (us.set k x).flatMap iw := fun us k => by
 rw [iw_map, iw_map, List.map_set]
theorem int_size : (Tryz.prog.info? 3).map (·.size) = some 1 := by kernel_rfl
theorem iw_one : ∀ x : Int, ∀ v ∈ iw x, v.oneCell' = true := by
 intro x v hv
 simp [iw] at hv
 rw [hv]; rfl
theorem fromI {G n cap k : Nat} (hk : k <= n) (hc : k < cap) (V : World) : (Instr.slice 26 (.slice (some ⟨G, 0, none⟩) n cap) (some (.int .i64 (k : Int))) none none).run Tryz.prog V = .ok (.slice (some ⟨G, k, none⟩) (n - k) (cap - k)) V := by
 obtain ⟨i0, hi0, hz0, hz1, hz2⟩ := info_parts int_info
 have h1 : (0 : Int) <= (k : Int) ∧ (k : Int) <= (n : Int) := by omega
 have h2 : ¬ cap <= k := by omega
 have h3 : ¬ cap - k = 0 := by omega
 have h4 : ¬ cap = k := by omega
 by_cases h5 : k = 0
 · subst h5
   simp [Instr.slice, Instr.sliceBounds, Instr.sliceBound, asIntOf, run_underlying Tryz.underlying26, sizeOf, typeInfo, hi0, hz1, h2, h3, h4, Addr.add]
 · simp [Instr.slice, Instr.sliceBounds, Instr.sliceBound, asIntOf, run_underlying Tryz.underlying26, sizeOf, typeInfo, hi0, hz1, h1.1, h1.2, h2, h3, h4, h5, hk, Addr.add]
theorem fromI0 {G n : Nat} (V : World) : (Instr.slice 26 (.slice (some ⟨G, 0, none⟩) n n) (some (.int .i64 (n : Int))) none none).run Tryz.prog V = .ok (.slice (some ⟨G, 0, none⟩) 0 0) V := by
 obtain ⟨i0, hi0, hz0, hz1, hz2⟩ := info_parts int_info
 simp [Instr.slice, Instr.sliceBounds, Instr.sliceBound, asIntOf, run_underlying Tryz.underlying26, sizeOf, typeInfo, hi0, hz1, Addr.add]
theorem atI {x : Value} {lo hi mx : Option Value} {V : World} : (Instr.sliceAt 26 x lo hi mx).run Tryz.prog V = (Instr.slice 26 x lo hi mx).run Tryz.prog V := by
 simp [Instr.sliceAt, run_underlying Tryz.underlying26]
theorem cpyI {W : World} {base G n cap k : Nat} {xs : List Int} (h : W.ownsRow base 3 1 (.slice (some ⟨G, 0, none⟩) n cap) n (xs.flatMap iw)) (hl : xs.length = n) (hk : k < n) (hc : n <= cap) :
 ∃ o, (∀ V : World, (Instr.slice 26 (.slice (some ⟨G, 0, none⟩) n cap) (some (.int .i64 ((k : Int) + 1))) none none).run Tryz.prog V = .ok (.slice (some ⟨G, o, none⟩) (n - (k + 1)) (cap - (k + 1))) V) ∧ (∀ V : World, (Instr.slice 26 (.slice (some ⟨G, 0, none⟩) n cap) (some (.int .i64 (k : Int))) none none).run Tryz.prog V = .ok (.slice (some ⟨G, k, none⟩) (n - k) (cap - k)) V) ∧
  ∃ u W', (Builtin.copy_ #[26, 26] 3 #[.slice (some ⟨G, o, none⟩) (n - (k + 1)) (cap - (k + 1)), .slice (some ⟨G, k, none⟩) (n - k) (cap - k)]).run Tryz.prog W = .ok u W' ∧ W'.ownsRow base 3 1 (.slice (some ⟨G, 0, none⟩) n cap) n ((xs.take (k + 1) ++ (xs.drop k).take (n - (k + 1))).flatMap iw) ∧ W.grownBy W' (some G) := by
 have e1 : ((k : Int) + 1) = ((k + 1 : Nat) : Int) := by omega
 by_cases hx : k + 1 < cap
 · obtain ⟨W', h1, h2, h3⟩ := run_copy_in (f := iw) (sz := 1) iw_len iw_one (P := Tryz.prog) (w := W) 26 3 3 Tryz.underlying26 int_size h hl (k + 1) k (n - (k + 1)) (n - (k + 1)) (cap - (k + 1)) (n - k) (cap - k) (by show _ = min _ _; omega) (by omega) (by omega)
   rw [Nat.mul_one, Nat.mul_one] at h1
   rw [List.drop_of_length_le (l := xs) (i := k + 1 + (n - (k + 1))) (by omega), List.append_nil] at h2
   exact ⟨k + 1, fun V => by rw [e1]; exact fromI (by omega) hx V, fun V => fromI (by omega) (by omega) V, _, W', h1, h2, h3⟩
 · have hn : n = k + 1 := by omega
   have hcp : cap = k + 1 := by omega
   subst hn hcp
   obtain ⟨W', h1, h2, h3⟩ := run_copy_in (f := iw) (sz := 1) iw_len iw_one (P := Tryz.prog) (w := W) 26 3 3 Tryz.underlying26 int_size h hl 0 k 0 0 0 (k + 1 - k) (k + 1 - k) (by show _ = min _ _; omega) (by omega) (by omega)
   rw [Nat.mul_one, Nat.mul_one] at h1
   have e2 : k + 1 - (k + 1) = 0 := Nat.sub_self _
   rw [e2]
   refine ⟨0, fun V => by rw [e1]; exact fromI0 (n := k + 1) V, fun V => fromI (G := G) (n := k + 1) (cap := k + 1) (k := k) (by omega) (by omega) V, goInt (0 : Nat), W', ?_, ?_, h3⟩
   · exact h1
   · rw [List.take_zero, List.append_nil, List.take_of_length_le (by omega)]
     rw [List.take_zero, List.take_zero, List.nil_append, List.nil_append, Nat.zero_add, List.drop_zero] at h2
     exact h2
theorem copy_mute {P : Program} {ops : Array Oper} {o : Oper} {a : Act} {w : World} {K : Act -> World -> Prop} {Q : Exit -> Act -> World -> Prop} {E : Prop} (hgd : o.guard = none) (s x : Operand) (t tn : TypeId)
 (ho : o.op = .call { callee := .builtin .copy, args := #[s, x], argTypes := #[t, tn] }) (vs vx : Value) (hs : a.eval s = vs) (hx : a.eval x = vx)
 (v' : Value) (w' : World) (hr : (Builtin.copy_ #[t, tn] o.type #[vs, vx]).run P w = .ok v' w') (h : K (a.put o.dst v') w') : if Region.wanted o (yielded ops a.tmps) = true then Oper.wp P o a w K Q else E := by
 have hw : Region.wanted o (yielded ops a.tmps) = true := by simp [Region.wanted, hgd]
 rw [if_pos hw]
 unfold Oper.wp execOp
 simp only [ho, resolve, invoke, builtin, Sem.run_bind, Sem.run_pure, Result.andThen_ok, List.map_toArray, List.map_cons, List.map_nil, hs, hx, hr]
 exact h
section
variable {w : World} {base xb : Nat} {lv vo vu : Value} {p : Pn} {q : Pr} {id : Int} {es : List Hde} {st : Wk}
theorem dRounds24 (h : Wy w base xb lv vo vu p q id es st) (hl : st.L.length <= 65536) :
 Calls Tryz.prog 19 #[.pointer (some ⟨xb, 0, none⟩)] w fun e w' => ∃ v, e = .returned v ∧ w'.ownsRow w.heap.size 3 1 v (rndW st.L).length ((rndW st.L).map (Value.int .i64)) ∧ Below w.heap.size w w' := by
 have hlen := h.hl.len
 have HE := hide h.hl.eq
 obtain ⟨ao, cap, hlv, hcap, hsp⟩ := own_spellO h.hl.row
 subst hlv
 obtain ⟨n, Hn⟩ : ∃ n, Hid (es.length = n) := ⟨_, rfl⟩
 have hn : n <= 65536 := by rw [<- Hn.out]; omega
 have HC : Hid (∀ W, Below w.heap.size w W -> W.cell? ⟨xb, 12, none⟩ = some (.slice ao n cap)) := fun W hb => by
  have := (h.below hb).cells.2.2.1
  rw [Hn.out] at this; exact this
 have HCk : Hid (∀ W, Below w.heap.size w W -> ∀ k (hk : k < es.length), ∃ r, ao = some ⟨r, 0, none⟩ ∧ W.cell? ⟨r, k * 2, none⟩ = some (.int .i64 es[k].1.1)) := fun W hb k hk => by
  obtain ⟨r, er, _⟩ := hsp (by omega)
  subst er
  exact ⟨r, rfl, ((h.below hb).hl.at_ hk).1⟩
 have HLen := hide hlen
 clear h hl hlen hsp hcap
 rw [iw_map' (rndW st.L)]
 go_enter Tryz.func19, Tryz.ntmps19
 go_wp2
 go_loopw [3, 4] (fun v3 v4 wr => ∃ (k : Nat) (a : Option Addr) (c : Nat), k <= n ∧ v4 = .int .i64 (k : Int) ∧ v3 = .slice a k c ∧ Hid (wr.ownsRow w.heap.size 3 1 (.slice a k c) k ((rndW (st.L.take k)).flatMap iw)) ∧ Hid (Below w.heap.size w wr)) (fun _ v4 _ => n - (intOf v4).toNat)
 case atStart => exact ⟨0, none, 0, Nat.zero_le _, rfl, rfl, World.ownsRow_nil _ _ _ _, Below.refl _ _⟩
 case round =>
  obtain ⟨k, a, c, hk, rfl, rfl, HO, HB⟩ := hrel
  have x12 := HC.out wr HB.out
  by_cases hlt : k < n
  · have hlt' : k < es.length := by rw [Hn.out]; exact hlt
    have ii0 : (0 : Int) <= (k : Int) := by omega
    have ii1 : (k : Int) < (n : Int) := by omega
    have eL : st.L.take (k + 1) = st.L.take k ++ [es[k].1] := by
     rw [List.take_succ_eq_append_getElem (by rw [<- HLen.out]; exact hlt')]
     congr 2
     simp only [<- HE.out, List.getElem_map]
    have eR : rndW (st.L.take (k + 1)) = insW es[k].1.1 (rndW (st.L.take k)) := by rw [eL, rnd_snoc]
    have hol : (rndW (st.L.take k)).length = k := by rw [rnd_len, List.length_take, <- HLen.out]; omega
    have HCr := hide (fun W hb => HCk.out W hb k hlt')
    generalize rndW (st.L.take k) = old at *
    generalize es[k].1.1 = r at *
    obtain ⟨rr, er, y0⟩ := HCr.out wr HB.out
    subst er
    generalize wr = wo at *
    have ER := hide eR
    have HOl := hide hol
    clear eL eR hol
    go_upto_block 2 with fail
    go_cut [5] from 15 to 35 (fun v5 wx => ∃ j : Nat, j <= k ∧ v5 = .int .i64 (j : Int) ∧ Hid (∀ i (hi : i < old.length), i < j -> old[i] < r) ∧ Hid (∀ hj : j < old.length, ¬ old[j] < r) ∧ Hid (Below wo.heap.size wo wx))
    case first =>
     go_wp2
     go_loopw [5] (fun v5 wx => ∃ j : Nat, j <= k ∧ v5 = .int .i64 (j : Int) ∧ Hid (∀ i (hi : i < old.length), i < j -> old[i] < r) ∧ Hid (Below wo.heap.size wo wx)) (fun v5 _ => k - (intOf v5).toNat)
     case atStart => exact ⟨0, Nat.zero_le _, rfl, fun i hi hj => by omega, Below.refl _ _⟩
     case round =>
      obtain ⟨j, hj, rfl, HN, HBx⟩ := hrel
      obtain ⟨al, cl, eal, _, hspl⟩ := own_spellO HO.out
      injection eal with eal _ ecl
      subst eal ecl
      have HBw := hide (Below.next HB.out HBx.out)
      by_cases hjk : j < k
      · have hj' : j < old.length := by rw [HOl.out]; exact hjk
        obtain ⟨G, eG, _⟩ := hspl (by omega)
        subst eG
        have x3 : wr.cell? ⟨G, j, none⟩ = some (Value.int .i64 old[j]) := own_atO (own_below HO.out HBx.out) (by rw [iw_map, List.getElem?_map, List.getElem?_eq_getElem hj']; rfl)
        have x4 := HC.out _ HBw.out
        obtain ⟨r2, er2, x5⟩ := HCr.out _ HBw.out
        injection er2 with er2
        injection er2 with er2
        subst er2
        obtain ⟨aj, HAj⟩ : ∃ aj, Hid (old[j] = aj) := ⟨_, hide rfl⟩
        rw [HAj.out] at x3
        have hS0 : wr.drew.cell? ⟨xb, 12, none⟩ = some (.slice (some ⟨rr, 0, none⟩) n cap) ∧ wr.drew.cell? ⟨rr, k * 2, none⟩ = some (.int .i64 r) ∧ wr.drew.cell? ⟨G, j, none⟩ = some (.int .i64 aj) := ⟨x4, x5, x3⟩
        have HB2 := hide (Below.next HBx.out (Below.refl wr.heap.size wr).drew)
        have jj0 : (0 : Int) <= (j : Int) := by omega
        have jj1 : (j : Int) < (k : Int) := by omega
        clear x3 x4 x5
        by_cases hlr : aj < r
        · have HN2 : Hid (∀ i (hi : i < old.length), i < j + 1 -> old[i] < r) := fun i hi hi2 => by
           rcases Nat.lt_or_eq_of_le (Nat.le_of_lt_succ hi2) with c1 | c1
           · exact HN.out i hi c1
           · subst c1; rw [HAj.out]; exact hlr
          go_upto_region 6 with fail
          refine wp_region_held_drew (S := (fun V => V.cell? ⟨xb, 12, none⟩ = some (.slice (some ⟨rr, 0, none⟩) n cap) ∧ V.cell? ⟨rr, k * 2, none⟩ = some (.int .i64 r) ∧ V.cell? ⟨G, j, none⟩ = some (.int .i64 aj))) (by kernel_rfl) (by ((try dsimp only) <;> (with_reducible exact hS0))) (fun hHeld => ?_)
          refine tkY 0 ?_
          refine tkY 1 ?_
          refine tkY 2 ?_
          refine tkY 3 ?_
          refine tkY 4 ?_
          refine tkY 5 ?_
          refine tkY 6 ?_
          refine tkY 7 ?_
          refine tkY 8 ?_
          refine tkY 9 ?_
          refine tkY 10 ?_
          refine tkY 11 ?_
          refine tkY 12 ?_
          refine tkY 13 ?_
          refine tkY 14 ?_
          refine tkY 15 ?_
          refine tkY 16 ?_
          refine tkY 17 ?_
          refine tkY 18 ?_
          refine wpAnyH_done (by kernel_rfl) ?_ _
          clear hS0
          go_wp2
          go_roundw
          case rel => exact ⟨j + 1, by omega, by go_num, HN2, HB2⟩
          case measure => simp [intOf]; omega
        · have HN2 : Hid (∀ hj : j < old.length, ¬ old[j] < r) := fun hj => by rw [HAj.out]; exact hlr
          go_upto_region 6 with fail
          refine wp_region_held_drew (S := (fun V => V.cell? ⟨xb, 12, none⟩ = some (.slice (some ⟨rr, 0, none⟩) n cap) ∧ V.cell? ⟨rr, k * 2, none⟩ = some (.int .i64 r) ∧ V.cell? ⟨G, j, none⟩ = some (.int .i64 aj))) (by kernel_rfl) (by ((try dsimp only) <;> (with_reducible exact hS0))) (fun hHeld => ?_)
          refine tkY 0 ?_
          refine tkY 1 ?_
          refine tkY 2 ?_
          refine tkY 3 ?_
          refine tkY 4 ?_
          refine tkY 5 ?_
          refine tkY 6 ?_
          refine tkY 7 ?_
          refine tkY 8 ?_
          refine tkY 9 ?_
          refine tkY 10 ?_
          refine tkY 11 ?_
          refine tkY 12 ?_
          refine tkY 13 ?_
          refine tkY 14 ?_
          refine tkY 15 ?_
          refine tkY 16 ?_
          refine tkY 17 ?_
          refine tkY 18 ?_
          refine wpAnyH_done (by kernel_rfl) ?_ _
          clear hS0
          go_wp2
          go_meet
          exact ⟨j, hj, rfl, HN, HN2, HB2⟩
      · have ejk : j = k := by omega
        subst ejk
        have HN2 : Hid (∀ hj : j < old.length, ¬ old[j] < r) := fun hj => by have := HOl.out; omega
        have hS0 : True := trivial
        have HB2 := hide (Below.next HBx.out (Below.refl wr.heap.size wr).drew)
        have jj1 : ¬ (j : Int) < (j : Int) := by omega
        go_upto_region 6 with fail
        refine wp_region_held_drew (S := (fun V => True)) (by kernel_rfl) (by ((try dsimp only) <;> (exact trivial))) (fun hHeld => ?_)
        refine tkY 0 ?_
        refine tkY 1 ?_
        refine tkY 2 ?_
        refine tkY 3 ?_
        refine tkY 4 ?_
        refine tkU 5 ?_
        refine tkU 6 ?_
        refine tkU 7 ?_
        refine tkU 8 ?_
        refine tkU 9 ?_
        refine tkU 10 ?_
        refine tkU 11 ?_
        refine tkU 12 ?_
        refine tkU 13 ?_
        refine tkU 14 ?_
        refine tkU 15 ?_
        refine tkU 16 ?_
        refine tkU 17 ?_
        refine tkY 18 ?_
        refine wpAnyH_done (by kernel_rfl) ?_ _
        go_wp2
        go_meet
        exact ⟨j, hj, rfl, HN, HN2, HB2⟩
    obtain ⟨j, hj, rfl, HN, HN2, HBx⟩ := hcut
    have eI := ins_at (r := r) (by rw [HOl.out]; exact hj) HN.out HN2.out
    have eC := ins_cut (r := r) (k := j) (l := old) (by rw [HOl.out]; exact hj)
    have hBw := Below.next HB.out HBx.out
    have hA := alloc_below wc (.cells #[.int .i64 0] 3)
    have hn8 := heap_alloc_new wc (.cells #[.int .i64 0] 3)
    have hol := HOl.out
    have hO1 := own_below (own_below HO.out HBx.out) hA
    rw [<- hol] at hO1
    obtain ⟨a1, c1, W1, hr1, hO2, hB2, _, _⟩ := appI1 (wc.alloc (.cells #[.int .i64 0] 3)) w.heap.size _ old ⟨wc.heap.size, 0, none⟩ 0 hO1 (cell_at hn8 rfl) (by omega) (Nat.le_trans hBw.size hA.size)
    rw [List.length_append, List.length_singleton] at hO2
    obtain ⟨a2, c2, e2, hc2, hsp2⟩ := own_spellO hO2
    injection e2 with e2 _ e3
    subst e2 e3
    obtain ⟨G, eG, hG1, hG2⟩ := hsp2 (by omega)
    subst eG
    obtain ⟨o, hs1, hs2, u9, W2, hr2, hO3, hg3⟩ := cpyI (k := j) (own_below hO2 (Below.refl W1.heap.size W1).drew) (by rw [List.length_append]; rfl) (by omega) hc2
    have hBW2 : Below w.heap.size w W2 := ((hBw.trans (hA.mono hBw.size)).trans (hB2.trans (Below.refl _ W1).drew)).trans ((Below.refl w.heap.size W1.drew).grown hg3 (by
     have := hBw.size; have := hA.size; have := hB2.size
     show w.heap.size <= W1.heap.size
     omega) (fun k e => by cases e; exact hG1))
    have hO4 := own_setn (k := j) hO3 (.int .i64 r)
    rw [iw_set, show old.length + 1 - (j + 1) = old.length - j by omega, eC, <- eI, <- ER.out] at hO4
    have hf3 := own_frz hO3 j
    obtain ⟨y, hy⟩ : ∃ y, W2.cell? ⟨G, j, none⟩ = some y := by
     have hlen3 := hO3.1
     cases hg : (((old ++ [0]).take (j + 1) ++ ((old ++ [0]).drop j).take (old.length + 1 - (j + 1))).flatMap iw)[j]? with
     | some y => exact ⟨y, own_atO hO3 hg⟩
     | none =>
      rw [List.getElem?_eq_none_iff] at hg
      omega
    have hB4 := hide (hBW2.setCell (p := ⟨G, j, none⟩) hG1 (.int .i64 r))
    have x12 := HC.out W2 hBW2
    obtain ⟨r2, er2, x5⟩ := HCr.out W2 hBW2
    injection er2 with er2
    injection er2 with er2
    subst er2
    rw [hol] at hr1 hs1 hs2 hr2 hO4
    rw [show k + 1 - (j + 1) = k - j by omega] at hr2
    have HO4 := hide hO4
    have HX3 := hide (fun (V : World) (_ : True) => (show (Instr.sliceAt 26 (.slice (some ⟨G, 0, none⟩) (k + 1) c1) (some (.int .i64 (IntKind.i64.wrap ((j : Int) + 1)))) none none).run Tryz.prog V = .ok (.slice (some ⟨G, o, none⟩) (k + 1 - (j + 1)) (c1 - (j + 1))) V from by
     rw [atI, IntKind.wrap_i64, show ((j : Int) + 1 + 9223372036854775808) % 18446744073709551616 - 9223372036854775808 = (j : Int) + 1 by omega]; exact hs1 V))
    have HX6 := hide (fun (V : World) (_ : True) => (show (Instr.sliceAt 26 (.slice (some ⟨G, 0, none⟩) (k + 1) c1) (some (.int .i64 (j : Int))) none none).run Tryz.prog V = .ok (.slice (some ⟨G, j, none⟩) (k + 1 - j) (c1 - j)) V from by rw [atI]; exact hs2 V))
    have jj0 : (0 : Int) <= (j : Int) := by omega
    have jj1 : (j : Int) < ((k : Int) + 1) := by omega
    clear eI eC hBw hA hn8 hol hO1 hO2 hB2 hc2 hsp2 hG1 hG2 hs1 hs2 hO3 hg3 hBW2 hO4 HO HB HBx HN HN2
    go_upto_region 9 with (at_builtin; refine Lib.wpList_append_run _ rfl _ _ _ _ rfl _ _ rfl rfl _ _ hr1 ?_)
    refine wp_region_held_drew (S := (fun V => True)) (by kernel_rfl) (by ((try dsimp only) <;> (exact trivial))) (fun hHeld => ?_)
    refine tkY 0 ?_
    refine tkY 1 ?_
    refine tkY 2 ?_
    refine tkY 4 ?_
    refine tkY 5 ?_
    refine tkY 3 ?_ (hy := by (intro w hSw; (try dsimp only at hSw); simp [execOp, Instr.loadAt, Instr.sureAddr, Act.eval, HX3.out _ hSw]; with_reducible rfl))
    refine tkY 6 ?_ (hy := by (intro w hSw; (try dsimp only at hSw); simp [execOp, Instr.loadAt, Instr.sureAddr, Act.eval, HX6.out _ hSw]; with_reducible rfl))
    refine rd1 7 (fun K hK => ?_)
    (refine copy_mute (by rfl) _ _ _ _ (by rfl) _ _ (by rfl) (by rfl) _ W2 hr2 ?_)
    refine hK.out _ _ (by ((try dsimp only) <;> (exact trivial))) (fun hHeld => ?_)
    clear hK K
    (try simp only [ly0, ly1, ly2, ly3, ly4, ly5, ly6, ly7])
    refine wpAnyH_done (by kernel_rfl) ?_ _
    clear hr1 hr2 HX3 HX6
    go_wp2
    go_roundw
    case rel => exact ⟨k + 1, _, _, by omega, by go_num, rfl, HO4, hB4⟩
    case measure => simp [intOf]; omega
  · have ekn : k = n := by omega
    subst ekn
    have e0 : st.L.take k = st.L := List.take_of_length_le (by rw [<- HLen.out, Hn.out]; exact Nat.le_refl _)
    rw [e0] at HO
    have HLk : Hid ((rndW st.L).length = k) := by show _ = _; rw [rnd_len, <- HLen.out, Hn.out]
    clear e0
    go_wp2
    go_ret
    refine ⟨_, rfl, ?_, HB.out⟩
    rw [HLk.out]
    exact HO.out
end
end Go.Proofs.YtipobchbnjgenaaGreat
