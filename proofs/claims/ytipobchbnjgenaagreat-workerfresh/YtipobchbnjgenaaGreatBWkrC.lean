import Derived.Test.YtipobchbnjgenaaGreatBWkrB
import Derived.Test.YtipobchbnjgenaaGreatBRplC
import Derived.Test.YtipobchbnjgenaaGreatBCdcG
set_option linter.unusedVariables false
set_option linter.unusedSimpArgs false
set_option maxRecDepth 100000
set_option maxHeartbeats 4000000
namespace Go.Proofs.YtipobchbnjgenaaGreat
open Go.RowKit Go.Maps Fld Slp Pln
theorem gDisk_no (w : World) : Calls Tryz.prog 39 #[.pointer none] w fun e w' => e = .returned (.bool false) ∧ w' = w := by
 have H := hide (fun W => gWrite_nil (.slice none 0 0) W)
 go_enter Tryz.func39, Tryz.ntmps39
 go_wp2_with (go_at_call 71; refine (H.out _).mono ?_; rintro e w1 ⟨rfl, rfl⟩)
 go_ret
 exact ⟨rfl, rfl⟩
theorem gDisk {w : World} {base g : Nat} {v : Value} {D : Dsk} (h : Hd w base g v D) : Calls Tryz.prog 39 #[.pointer (some ⟨g, 0, none⟩)] w fun e w' => e = .returned (.bool true) ∧ w' = w := by
 have H := hide (gWrite_none h)
 clear h
 go_enter Tryz.func39, Tryz.ntmps39
 go_wp2_with (go_at_call 71; refine H.out.mono ?_; rintro e w1 ⟨rfl, rfl⟩)
 go_ret
 exact ⟨rfl, rfl⟩
def mkB (p : Pn) (q : Pr) (id : Int) : Bool := decide (acE p = 0 ∧ ftQ p q = 0 ∧ 0 < q.outs.length ∧ 0 <= id ∧ id < p.n)
theorem mkB_facts {p : Pn} {q : Pr} {id : Int} (h : mkB p q id = true) : acE p = 0 ∧ ftQ p q = 0 ∧ 0 < q.outs.length ∧ 0 <= id ∧ id < p.n := of_decide_eq_true h
theorem gMayBe (p : Pn) (q : Pr) (vq : Value) (id : Int) (w : World) (hp : Ok8p p) (hq : Pm w vq q) : Calls Tryz.prog 40 #[plv p, vq, .int .i64 id] w fun e w' => e = .returned (.bool (mkB p q id)) ∧ Below w.heap.size w w' := by
 obtain ⟨vo, vu, rfl, ho, hu⟩ := hq.form
 obtain ⟨ao, ca, rfl, _⟩ := ho.spell
 obtain ⟨au, cu, rfl, _⟩ := hu.spell
 have HA := hide (gAccept p hp)
 have HF := hide (fun W (hb : Below w.heap.size w W) => gFits p q _ W hp (hq.below hb))
 have ho2 := ho.len
 have hu2 := hu.len
 clear ho hu hq hp
 obtain ⟨W1, hW, hA, hS⟩ := pq_box w p q.inp (.slice ao q.ops.length ca) (.slice au q.outs.length cu) 24 28
 have HW := hide hW
 have HS := hide hS
 clear hW hS
 obtain ⟨⟨c0, c1, c2, c3, c4, c5, c6, c7⟩, d0, d1, d2⟩ := HS.out _ (Below.refl _ _)
 rw [plan_eq] at *
 obtain ⟨B, HB⟩ : ∃ B, Hid (mkB p q id = B) := ⟨_, rfl⟩
 rw [HB.out]
 have hB2 := HB.out
 unfold mkB at hB2
 have HB2 := hide hB2
 clear hB2 HB
 generalize acE p = ea at *
 generalize ftQ p q = ef at *
 generalize q.outs.length = nu at *
 generalize q.ops.length = no at *
 by_cases e1 : ea = 0
 · subst e1
   by_cases e2 : ef = 0
   · subst e2
     have HB3 : Hid (B = decide (0 < nu ∧ 0 <= id ∧ id < p.n)) := by
      show _ = _
      rw [<- HB2.out]; simp
     clear HB2
     by_cases e3 : (0 : Int) < (nu : Int) <;> by_cases e4 : 0 <= id
     all_goals
      go_enter Tryz.func40, Tryz.ntmps40
      go_upto_region 1 with fail
      rw [HW.out]
      go_wp2_with (first
       | (go_at_call 72; refine (HA.out _).mono ?_; rintro e w1 ⟨rfl, hb1⟩; have hB1 := Below.next hA hb1; clear c0 c1 c2 c3 c4 c5 c6 c7 d0 d1 d2; obtain ⟨⟨c0, c1, c2, c3, c4, c5, c6, c7⟩, d0, d1, d2⟩ := HS.out _ hb1)
       | (go_at_call 73; refine (HF.out _ hB1).mono ?_; rintro e w2 ⟨rfl, hb2⟩; have hB2 := Below.next hB1 hb2; clear c0 c1 c2 c3 c4 c5 c6 c7 d0 d1 d2; obtain ⟨⟨c0, c1, c2, c3, c4, c5, c6, c7⟩, d0, d1, d2⟩ := HS.out _ (Below.next hb1 hb2)))
      go_ret
      refine ⟨?_, hB2⟩
      rw [HB3.out]
      refine congrArg (fun x => Ending.returned (.bool x)) ?_
      first
       | exact decide_eq_decide.2 ⟨fun h => ⟨by omega, by omega, h⟩, fun h => h.2.2⟩
       | exact (decide_eq_false (by omega)).symm
   · have hB : B = false := by rw [<- HB2.out]; exact decide_eq_false (fun h => e2 h.2.1)
     subst hB
     have q2 : (ef != 0) = true := bne_iff_ne.2 e2
     clear HB2
     go_enter Tryz.func40, Tryz.ntmps40
     go_upto_region 1 with fail
     rw [HW.out]
     go_wp2_with (first
      | (go_at_call 72; refine (HA.out _).mono ?_; rintro e w1 ⟨rfl, hb1⟩; have hB1 := Below.next hA hb1; clear c0 c1 c2 c3 c4 c5 c6 c7 d0 d1 d2; obtain ⟨⟨c0, c1, c2, c3, c4, c5, c6, c7⟩, d0, d1, d2⟩ := HS.out _ hb1)
      | (go_at_call 73; refine (HF.out _ hB1).mono ?_; rintro e w2 ⟨rfl, hb2⟩; have hB2 := Below.next hB1 hb2))
     go_ret
     exact ⟨rfl, hB2⟩
 · have hB : B = false := by rw [<- HB2.out]; exact decide_eq_false (fun h => e1 h.1)
   subst hB
   have q2 : (ea != 0) = true := bne_iff_ne.2 e1
   clear HB2
   go_enter Tryz.func40, Tryz.ntmps40
   go_upto_region 1 with fail
   rw [HW.out]
   go_wp2_with (go_at_call 72; refine (HA.out _).mono ?_; rintro e w1 ⟨rfl, hb1⟩; have hB1 := Below.next hA hb1; clear c0 c1 c2 c3 c4 c5 c6 c7 d0 d1 d2)
   go_ret
   exact ⟨rfl, hB1⟩
section
variable {w : World} {base kb mb g : Nat} {vo vu : Value} {p : Pn} {q : Pr} {id : Int} {st : Wk}
theorem Wp.cells (h : Wp w base kb mb g vo vu p q id st) : (w.cell? ⟨kb, 0, none⟩ = some (.int .u8 p.f) ∧ w.cell? ⟨kb, 7, none⟩ = some (.int .i64 p.w) ∧ w.cell? ⟨kb, 11, none⟩ = some (.int .i64 id)) ∧ w.cell? ⟨kb, 12, none⟩ = some (.pointer (some ⟨g, 0, none⟩)) ∧ w.cell? ⟨kb, 13, none⟩ = some (.map (some mb)) ∧ w.cell? ⟨kb, 14, none⟩ = some (.bool st.x) := by
 have h' := h.blk
 exact ⟨⟨cell_at h' rfl, cell_at h' rfl, cell_at h' rfl⟩, cell_at h' rfl, cell_at h' rfl, cell_at h' rfl⟩
theorem gMade (h : Wp w base kb mb g vo vu p q id st) : Calls Tryz.prog 49 #[.pointer (some ⟨kb, 0, none⟩)] w fun e w' => e = .returned (.bool true) ∧ w' = w := by
 obtain ⟨_, c, _⟩ := h.cells
 clear h
 go_enter Tryz.func49, Tryz.ntmps49
 go_wp2
 go_ret
 exact ⟨rfl, rfl⟩
end
theorem gMade_no (w : World) : Calls Tryz.prog 49 #[.pointer none] w fun e w' => e = .returned (.bool false) ∧ w' = w := by
 go_enter Tryz.func49, Tryz.ntmps49
 go_wp2
 go_ret
 exact ⟨rfl, rfl⟩
theorem set5_same {w : World} {b : Nat} {m : Mg} {s : Value} (h : Mb w b m s) : Mb (set5m w b m.k m.r m.v m.f s) b m s ∧ Below b w (set5m w b m.k m.r m.v m.f s) := mb_set5 h m s
theorem own_set5 {w : World} {b base l : Nat} {T : TypeId} {v s : Value} {xs : List Value} (ho : w.ownsRow base T 1 v l xs) (hb : b < base) (k r i f : Int) : (set5m w b k r i f s).ownsRow base T 1 v l xs := by
 unfold set5m
 exact rg_own (rg_own (rg_own (rg_own (rg_own ho hb 0 _) hb 1 _) hb 2 _) hb 3 _) hb 4 _
section
variable {w : World} {base kb mb g : Nat} {vo vu : Value} {p : Pn} {q : Pr} {id : Int} {st : Wk}
theorem gShareIn (h : Wp w base kb mb g vo vu p q id st) {u : Value} {b : List Int} (hu : Rb w u b) :
 Calls Tryz.prog 44 #[.pointer (some ⟨kb, 0, none⟩), u] w fun e w' => ∃ s, e = .returned (.tuple #[mgv (mrM sum8 b) s, .bool (shB sum8 p.f p.w id b)]) ∧ w'.ownsRow w.heap.size 83 1 s (mrM sum8 b).l.length (vals (mrM sum8 b).l) ∧ Below w.heap.size w w' := by
 have HR := hide (fun W (hb : Below w.heap.size w W) => gReadM u b W (hu.below hb))
 unfold GivesMsg at HR
 obtain ⟨B, HB⟩ : ∃ B, Hid (shB sum8 p.f p.w id b = B) := ⟨_, rfl⟩
 rw [HB.out]
 have HB2 : Hid (decide (mrE sum8 b = 0 ∧ (mrM sum8 b).k = 1 ∧ (mrM sum8 b).v = id ∧ (mrM sum8 b).f = p.f ∧ ((mrM sum8 b).l.length : Int) = p.w) = B) := HB.out
 have HW := hide (fun W (hb : Below w.heap.size w W) => (h.below hb).cells.1)
 clear HB
 generalize mrM sum8 b = m at *
 generalize mrE sum8 b = er at *
 obtain ⟨au, cu, rfl, _⟩ := hu.spell
 generalize b.length = bl at *
 clear hu h
 obtain ⟨hM0, hA0⟩ := mz_box w
 have HM0 := hide (fun W (hb : Below (w.heap.size + 1) (w.alloc (.cells #[.int .u8 0, .int .i64 0, .int .i64 0, .int .u8 0, .slice none 0 0] 74)) W) => show Mb W w.heap.size mg0 (.slice none 0 0) from (hb.block _ (by omega)).trans hM0)
 obtain ⟨W0, HW0⟩ : ∃ W0, Hid (w.alloc (.cells #[.int .u8 0, .int .i64 0, .int .i64 0, .int .u8 0, .slice none 0 0] 74) = W0) := ⟨_, rfl⟩
 have hz0 : (w.alloc (.cells #[.int .u8 0, .int .i64 0, .int .i64 0, .int .u8 0, .slice none 0 0] 74)).heap.size = w.heap.size + 1 := by simp
 rw [HW0.out] at hA0 HM0 hz0
 have HZ0 := hide hz0
 clear hM0 hz0
 go_enter Tryz.func44, Tryz.ntmps44
 go_upto_region 1 with fail
 rw [HW0.out]
 have hm0 := HM0.out W0 (Below.refl _ _)
 have f0 := hm0.free
 have HX := hide (fun W1 (hb : Below W0.heap.size W0 W1) s (ho : W1.ownsRow W0.heap.size 83 1 s m.l.length (vals m.l)) => by
  have hm1 : Mb W1 w.heap.size mg0 (.slice none 0 0) := HM0.out W1 (by rw [<- HZ0.out]; exact hb)
  obtain ⟨h1, h2⟩ := mb_set5 hm1 m s
  rw [HZ0.out] at ho
  exact (⟨h1, (hA0.trans (hb.mono hA0.size)).trans h2, own_set5 ho (Nat.lt_succ_self _) _ _ _ _⟩ : Mb (set5m W1 w.heap.size m.k m.r m.v m.f s) w.heap.size m s ∧ Below w.heap.size w (set5m W1 w.heap.size m.k m.r m.v m.f s) ∧ (set5m W1 w.heap.size m.k m.r m.v m.f s).ownsRow (w.heap.size + 1) 83 1 s m.l.length (vals m.l)))
 go_upto_region 2 with (go_at_call 77; refine (HR.out _ hA0).mono ?_; rintro e w1 ⟨s, rfl, ho1, hb1⟩; have hX1 := HX.out _ hb1 _ ho1; have hm1 := HM0.out w1 (by rw [<- HZ0.out]; exact hb1); obtain ⟨sa, sc, rfl⟩ := own_form ho1; have f1 := hm1.free; obtain ⟨c0, c1, c2, c3, c4⟩ := hm1.cells; unfold mgv mgc)
 obtain ⟨W5, HW5⟩ : ∃ W5, Hid (set5m w1 w.heap.size m.k m.r m.v m.f (.slice sa m.l.length sc) = W5) := ⟨_, rfl⟩
 rw [HW5.out] at hX1
 unfold set5m at HW5
 rw [HW5.out]
 clear HX HR c0 c1 c2 c3 c4 f1 hm1 ho1 f0 hm0
 have HM5 := hide hX1
 obtain ⟨c0, c1, c2, c3, c4⟩ := hX1.1.cells
 have f5 := hX1.1.free
 have hB5 := hX1.2.1
 obtain ⟨k0, k7, k11⟩ := HW.out _ hB5
 clear hX1 HW5 hb1 hA0 HM0 HZ0 HW0
 have HE := hide (show _ by
  obtain ⟨h1, h2⟩ := set5_same HM5.out.1
  exact (⟨h1, (HM5.out.2.1.trans h2).drew, own_mono (own_set5 HM5.out.2.2 (Nat.lt_succ_self _) m.k m.r m.v m.f) (Nat.le_succ _)⟩ : Mb (set5m W5 w.heap.size m.k m.r m.v m.f (.slice sa m.l.length sc)).drew w.heap.size m (.slice sa m.l.length sc) ∧ Below w.heap.size w (set5m W5 w.heap.size m.k m.r m.v m.f (.slice sa m.l.length sc)).drew ∧ (set5m W5 w.heap.size m.k m.r m.v m.f (.slice sa m.l.length sc)).drew.ownsRow w.heap.size 83 1 (.slice sa m.l.length sc) m.l.length (vals m.l)))
 clear HM5
 have hS0 : (W5.drew.cell? ⟨w.heap.size, 0, none⟩ = some (.int .u8 m.k) ∧ W5.drew.cell? ⟨w.heap.size, 1, none⟩ = some (.int .i64 m.r) ∧ W5.drew.cell? ⟨w.heap.size, 2, none⟩ = some (.int .i64 m.v) ∧ W5.drew.cell? ⟨w.heap.size, 3, none⟩ = some (.int .u8 m.f) ∧ W5.drew.cell? ⟨w.heap.size, 4, none⟩ = some (.slice sa m.l.length sc)) ∧ W5.drew.cell? ⟨kb, 0, none⟩ = some (.int .u8 p.f) ∧ W5.drew.cell? ⟨kb, 7, none⟩ = some (.int .i64 p.w) ∧ W5.drew.cell? ⟨kb, 11, none⟩ = some (.int .i64 id) := ⟨⟨c0, c1, c2, c3, c4⟩, k0, k7, k11⟩
 have hS6 : ((set5m W5 w.heap.size m.k m.r m.v m.f (.slice sa m.l.length sc)).drew.cell? ⟨w.heap.size, 0, none⟩ = some (.int .u8 m.k) ∧ (set5m W5 w.heap.size m.k m.r m.v m.f (.slice sa m.l.length sc)).drew.cell? ⟨w.heap.size, 1, none⟩ = some (.int .i64 m.r) ∧ (set5m W5 w.heap.size m.k m.r m.v m.f (.slice sa m.l.length sc)).drew.cell? ⟨w.heap.size, 2, none⟩ = some (.int .i64 m.v) ∧ (set5m W5 w.heap.size m.k m.r m.v m.f (.slice sa m.l.length sc)).drew.cell? ⟨w.heap.size, 3, none⟩ = some (.int .u8 m.f) ∧ (set5m W5 w.heap.size m.k m.r m.v m.f (.slice sa m.l.length sc)).drew.cell? ⟨w.heap.size, 4, none⟩ = some (.slice sa m.l.length sc)) ∧ (set5m W5 w.heap.size m.k m.r m.v m.f (.slice sa m.l.length sc)).drew.cell? ⟨kb, 0, none⟩ = some (.int .u8 p.f) ∧ (set5m W5 w.heap.size m.k m.r m.v m.f (.slice sa m.l.length sc)).drew.cell? ⟨kb, 7, none⟩ = some (.int .i64 p.w) ∧ (set5m W5 w.heap.size m.k m.r m.v m.f (.slice sa m.l.length sc)).drew.cell? ⟨kb, 11, none⟩ = some (.int .i64 id) := ⟨HE.out.1.cells, HW.out _ HE.out.2.1⟩
 unfold set5m at hS6
 clear HW
 have HX0 : Hid (∀ V : World, (V.cell? ⟨w.heap.size, 0, none⟩ = some (.int .u8 m.k) ∧ V.cell? ⟨w.heap.size, 1, none⟩ = some (.int .i64 m.r) ∧ V.cell? ⟨w.heap.size, 2, none⟩ = some (.int .i64 m.v) ∧ V.cell? ⟨w.heap.size, 3, none⟩ = some (.int .u8 m.f) ∧ V.cell? ⟨w.heap.size, 4, none⟩ = some (.slice sa m.l.length sc)) ∧ V.cell? ⟨kb, 0, none⟩ = some (.int .u8 p.f) ∧ V.cell? ⟨kb, 7, none⟩ = some (.int .i64 p.w) ∧ V.cell? ⟨kb, 11, none⟩ = some (.int .i64 id) -> (loadVar 74 ⟨w.heap.size, 0, none⟩).run Tryz.prog V = .ok (.agg #[.int .u8 m.k, .int .i64 m.r, .int .i64 m.v, .int .u8 m.f, .slice sa m.l.length sc]) V) := fun V h => by
  obtain ⟨⟨d0, d1, d2, d3, d4⟩, _⟩ := h
  simp [go_sem, d0, d1, d2, d3, d4]
 by_cases e0 : er = 0
 case neg =>
  have q0 : (er == 0) = false := beq_eq_false_iff_ne.2 e0
  have hB : B = false := by rw [<- HB2.out]; exact decide_eq_false (fun h => e0 h.1)
  subst hB
  clear HB2 e0
  go_upto_region 3 with fail
  refine wp_region_held_drew (S := (fun V => (V.cell? ⟨w.heap.size, 0, none⟩ = some (.int .u8 m.k) ∧ V.cell? ⟨w.heap.size, 1, none⟩ = some (.int .i64 m.r) ∧ V.cell? ⟨w.heap.size, 2, none⟩ = some (.int .i64 m.v) ∧ V.cell? ⟨w.heap.size, 3, none⟩ = some (.int .u8 m.f) ∧ V.cell? ⟨w.heap.size, 4, none⟩ = some (.slice sa m.l.length sc)) ∧ V.cell? ⟨kb, 0, none⟩ = some (.int .u8 p.f) ∧ V.cell? ⟨kb, 7, none⟩ = some (.int .i64 p.w) ∧ V.cell? ⟨kb, 11, none⟩ = some (.int .i64 id))) (by kernel_rfl) (by ((try dsimp only) <;> (first | with_reducible exact hS0 | with_reducible exact hS6))) (fun hHeld => ?_)
  refine tkY 0 ?_ (hy := by (intro w hSw; (try dsimp only at hSw); simp [execOp, Instr.loadAt, Instr.sureAddr, Act.eval, HX0.out _ hSw]; with_reducible rfl))
  refine tkY 1 ?_
  refine tkY 2 ?_
  refine tkU 3 ?_
  refine tkU 4 ?_
  refine tkU 5 ?_
  refine tkU 6 ?_
  refine tkU 7 ?_
  refine tkU 8 ?_
  refine tkU 9 ?_
  refine tkY 10 ?_
  refine tkY 11 ?_
  refine tkU 12 ?_
  refine tkU 13 ?_
  refine tkU 14 ?_
  refine tkU 15 ?_
  refine tkU 16 ?_
  refine tkU 17 ?_
  refine tkU 18 ?_
  refine tkU 19 ?_
  refine tkY 20 ?_
  refine tkY 21 ?_
  refine tkU 22 ?_
  refine tkU 23 ?_
  refine tkU 24 ?_
  refine tkU 25 ?_
  refine tkU 26 ?_
  refine tkU 27 ?_
  refine tkU 28 ?_
  refine tkU 29 ?_
  refine tkU 30 ?_
  refine tkY 31 ?_
  refine rd1 32 (fun K hK => ?_)
  (try simp only [ly0, ly1, ly2, ly3, ly4, ly5, ly6, ly7])
  go_simp
  refine hK.out _ _ (by ((try dsimp only) <;> (first | with_reducible exact hS0 | with_reducible exact hS6))) (fun hHeld => ?_)
  clear hK K
  (try simp only [ly0, ly1, ly2, ly3, ly4, ly5, ly6, ly7])
  refine tkY 33 ?_
  refine wpAnyH_done (by kernel_rfl) ?_ _
  change Exit.then _ _ _ _ (set5m W5 w.heap.size m.k m.r m.v m.f (.slice sa m.l.length sc)).drew
  obtain ⟨h6, h7, h8⟩ := HE.out
  clear hS6 hS0
  generalize (set5m W5 w.heap.size m.k m.r m.v m.f (.slice sa m.l.length sc)).drew = W6 at *
  clear HE c0 c1 c2 c3 c4 f5 k0 k7 k11
  go_wp2
  refine bodyPost_ret (res_ct rfl rfl rfl (load_msg h6)) rfl ?_
  exact ⟨_, rfl, h8, h7⟩
 subst e0
 by_cases e1 : m.k = 1
 case neg =>
  have q1 : (m.k == 1) = false := beq_eq_false_iff_ne.2 e1
  have hB : B = false := by rw [<- HB2.out]; exact decide_eq_false (fun h => e1 h.2.1)
  subst hB
  clear HB2 e1
  go_upto_region 3 with fail
  refine wp_region_held_drew (S := (fun V => (V.cell? ⟨w.heap.size, 0, none⟩ = some (.int .u8 m.k) ∧ V.cell? ⟨w.heap.size, 1, none⟩ = some (.int .i64 m.r) ∧ V.cell? ⟨w.heap.size, 2, none⟩ = some (.int .i64 m.v) ∧ V.cell? ⟨w.heap.size, 3, none⟩ = some (.int .u8 m.f) ∧ V.cell? ⟨w.heap.size, 4, none⟩ = some (.slice sa m.l.length sc)) ∧ V.cell? ⟨kb, 0, none⟩ = some (.int .u8 p.f) ∧ V.cell? ⟨kb, 7, none⟩ = some (.int .i64 p.w) ∧ V.cell? ⟨kb, 11, none⟩ = some (.int .i64 id))) (by kernel_rfl) (by ((try dsimp only) <;> (first | with_reducible exact hS0 | with_reducible exact hS6))) (fun hHeld => ?_)
  refine tkY 0 ?_ (hy := by (intro w hSw; (try dsimp only at hSw); simp [execOp, Instr.loadAt, Instr.sureAddr, Act.eval, HX0.out _ hSw]; with_reducible rfl))
  refine tkY 1 ?_
  refine tkY 2 ?_
  refine tkU 3 ?_
  refine tkU 4 ?_
  refine tkU 5 ?_
  refine tkU 6 ?_
  refine tkU 7 ?_
  refine tkU 8 ?_
  refine tkU 9 ?_
  refine tkY 10 ?_
  refine tkY 11 ?_
  refine tkU 12 ?_
  refine tkU 13 ?_
  refine tkU 14 ?_
  refine tkU 15 ?_
  refine tkU 16 ?_
  refine tkU 17 ?_
  refine tkU 18 ?_
  refine tkU 19 ?_
  refine tkY 20 ?_
  refine tkY 21 ?_
  refine tkU 22 ?_
  refine tkU 23 ?_
  refine tkU 24 ?_
  refine tkU 25 ?_
  refine tkU 26 ?_
  refine tkU 27 ?_
  refine tkU 28 ?_
  refine tkU 29 ?_
  refine tkU 30 ?_
  refine tkY 31 ?_
  refine rd1 32 (fun K hK => ?_)
  (try simp only [ly0, ly1, ly2, ly3, ly4, ly5, ly6, ly7])
  go_simp
  refine hK.out _ _ (by ((try dsimp only) <;> (first | with_reducible exact hS0 | with_reducible exact hS6))) (fun hHeld => ?_)
  clear hK K
  (try simp only [ly0, ly1, ly2, ly3, ly4, ly5, ly6, ly7])
  refine tkY 33 ?_
  refine wpAnyH_done (by kernel_rfl) ?_ _
  change Exit.then _ _ _ _ (set5m W5 w.heap.size m.k m.r m.v m.f (.slice sa m.l.length sc)).drew
  obtain ⟨h6, h7, h8⟩ := HE.out
  clear hS6 hS0
  generalize (set5m W5 w.heap.size m.k m.r m.v m.f (.slice sa m.l.length sc)).drew = W6 at *
  clear HE c0 c1 c2 c3 c4 f5 k0 k7 k11
  go_wp2
  refine bodyPost_ret (res_ct rfl rfl rfl (load_msg h6)) rfl ?_
  exact ⟨_, rfl, h8, h7⟩
 have q1 : (m.k == 1) = true := beq_iff_eq.2 e1
 have E1 := hide e1
 clear e1
 by_cases e2 : m.v = id
 case neg =>
  have q2 : (m.v == id) = false := beq_eq_false_iff_ne.2 e2
  have hB : B = false := by rw [<- HB2.out]; exact decide_eq_false (fun h => e2 h.2.2.1)
  subst hB
  clear HB2 e2
  go_upto_region 3 with fail
  refine wp_region_held_drew (S := (fun V => (V.cell? ⟨w.heap.size, 0, none⟩ = some (.int .u8 m.k) ∧ V.cell? ⟨w.heap.size, 1, none⟩ = some (.int .i64 m.r) ∧ V.cell? ⟨w.heap.size, 2, none⟩ = some (.int .i64 m.v) ∧ V.cell? ⟨w.heap.size, 3, none⟩ = some (.int .u8 m.f) ∧ V.cell? ⟨w.heap.size, 4, none⟩ = some (.slice sa m.l.length sc)) ∧ V.cell? ⟨kb, 0, none⟩ = some (.int .u8 p.f) ∧ V.cell? ⟨kb, 7, none⟩ = some (.int .i64 p.w) ∧ V.cell? ⟨kb, 11, none⟩ = some (.int .i64 id))) (by kernel_rfl) (by ((try dsimp only) <;> (first | with_reducible exact hS0 | with_reducible exact hS6))) (fun hHeld => ?_)
  refine tkY 0 ?_ (hy := by (intro w hSw; (try dsimp only at hSw); simp [execOp, Instr.loadAt, Instr.sureAddr, Act.eval, HX0.out _ hSw]; with_reducible rfl))
  refine tkY 1 ?_
  refine tkY 2 ?_
  refine tkY 3 ?_
  refine tkY 4 ?_
  refine tkY 5 ?_
  refine tkY 6 ?_
  refine tkY 7 ?_
  refine tkY 8 ?_
  refine tkY 9 ?_
  refine tkY 10 ?_
  refine tkY 11 ?_
  refine tkU 12 ?_
  refine tkU 13 ?_
  refine tkU 14 ?_
  refine tkU 15 ?_
  refine tkU 16 ?_
  refine tkU 17 ?_
  refine tkU 18 ?_
  refine tkU 19 ?_
  refine tkY 20 ?_
  refine tkY 21 ?_
  refine tkU 22 ?_
  refine tkU 23 ?_
  refine tkU 24 ?_
  refine tkU 25 ?_
  refine tkU 26 ?_
  refine tkU 27 ?_
  refine tkU 28 ?_
  refine tkU 29 ?_
  refine tkU 30 ?_
  refine tkY 31 ?_
  refine rd1 32 (fun K hK => ?_)
  (try simp only [ly0, ly1, ly2, ly3, ly4, ly5, ly6, ly7])
  go_simp
  refine hK.out _ _ (by ((try dsimp only) <;> (first | with_reducible exact hS0 | with_reducible exact hS6))) (fun hHeld => ?_)
  clear hK K
  (try simp only [ly0, ly1, ly2, ly3, ly4, ly5, ly6, ly7])
  refine tkY 33 ?_
  refine wpAnyH_done (by kernel_rfl) ?_ _
  change Exit.then _ _ _ _ (set5m W5 w.heap.size m.k m.r m.v m.f (.slice sa m.l.length sc)).drew
  obtain ⟨h6, h7, h8⟩ := HE.out
  clear hS6 hS0
  generalize (set5m W5 w.heap.size m.k m.r m.v m.f (.slice sa m.l.length sc)).drew = W6 at *
  clear HE c0 c1 c2 c3 c4 f5 k0 k7 k11
  go_wp2
  refine bodyPost_ret (res_ct rfl rfl rfl (load_msg h6)) rfl ?_
  exact ⟨_, rfl, h8, h7⟩
 have q2 : (m.v == id) = true := beq_iff_eq.2 e2
 have E2 := hide e2
 clear e2
 by_cases e3 : m.f = p.f
 case neg =>
  have q3 : (m.f == p.f) = false := beq_eq_false_iff_ne.2 e3
  have hB : B = false := by rw [<- HB2.out]; exact decide_eq_false (fun h => e3 h.2.2.2.1)
  subst hB
  clear HB2 e3
  go_upto_region 3 with fail
  refine wp_region_held_drew (S := (fun V => (V.cell? ⟨w.heap.size, 0, none⟩ = some (.int .u8 m.k) ∧ V.cell? ⟨w.heap.size, 1, none⟩ = some (.int .i64 m.r) ∧ V.cell? ⟨w.heap.size, 2, none⟩ = some (.int .i64 m.v) ∧ V.cell? ⟨w.heap.size, 3, none⟩ = some (.int .u8 m.f) ∧ V.cell? ⟨w.heap.size, 4, none⟩ = some (.slice sa m.l.length sc)) ∧ V.cell? ⟨kb, 0, none⟩ = some (.int .u8 p.f) ∧ V.cell? ⟨kb, 7, none⟩ = some (.int .i64 p.w) ∧ V.cell? ⟨kb, 11, none⟩ = some (.int .i64 id))) (by kernel_rfl) (by ((try dsimp only) <;> (first | with_reducible exact hS0 | with_reducible exact hS6))) (fun hHeld => ?_)
  refine tkY 0 ?_ (hy := by (intro w hSw; (try dsimp only at hSw); simp [execOp, Instr.loadAt, Instr.sureAddr, Act.eval, HX0.out _ hSw]; with_reducible rfl))
  refine tkY 1 ?_
  refine tkY 2 ?_
  refine tkY 3 ?_
  refine tkY 4 ?_
  refine tkY 5 ?_
  refine tkY 6 ?_
  refine tkY 7 ?_
  refine tkY 8 ?_
  refine tkY 9 ?_
  refine tkY 10 ?_
  refine tkY 11 ?_
  refine tkY 12 ?_
  refine tkY 13 ?_
  refine tkY 14 ?_
  refine tkY 15 ?_
  refine tkY 16 ?_
  refine tkY 17 ?_
  refine tkY 18 ?_
  refine tkY 19 ?_
  refine tkY 20 ?_
  refine tkY 21 ?_
  refine tkU 22 ?_
  refine tkU 23 ?_
  refine tkU 24 ?_
  refine tkU 25 ?_
  refine tkU 26 ?_
  refine tkU 27 ?_
  refine tkU 28 ?_
  refine tkU 29 ?_
  refine tkU 30 ?_
  refine tkY 31 ?_
  refine rd1 32 (fun K hK => ?_)
  (try simp only [ly0, ly1, ly2, ly3, ly4, ly5, ly6, ly7])
  go_simp
  refine hK.out _ _ (by ((try dsimp only) <;> (first | with_reducible exact hS0 | with_reducible exact hS6))) (fun hHeld => ?_)
  clear hK K
  (try simp only [ly0, ly1, ly2, ly3, ly4, ly5, ly6, ly7])
  refine tkY 33 ?_
  refine wpAnyH_done (by kernel_rfl) ?_ _
  change Exit.then _ _ _ _ (set5m W5 w.heap.size m.k m.r m.v m.f (.slice sa m.l.length sc)).drew
  obtain ⟨h6, h7, h8⟩ := HE.out
  clear hS6 hS0
  generalize (set5m W5 w.heap.size m.k m.r m.v m.f (.slice sa m.l.length sc)).drew = W6 at *
  clear HE c0 c1 c2 c3 c4 f5 k0 k7 k11
  go_wp2
  refine bodyPost_ret (res_ct rfl rfl rfl (load_msg h6)) rfl ?_
  exact ⟨_, rfl, h8, h7⟩
 have q3 : (m.f == p.f) = true := beq_iff_eq.2 e3
 have E3 := hide e3
 clear e3
 have hB : B = ((m.l.length : Int) == p.w) := by rw [<- HB2.out]; simp only [E1.out, E2.out, E3.out, true_and]; rfl
 subst hB
 clear HB2 E1 E2 E3
 go_upto_region 3 with fail
 refine wp_region_held_drew (S := (fun V => (V.cell? ⟨w.heap.size, 0, none⟩ = some (.int .u8 m.k) ∧ V.cell? ⟨w.heap.size, 1, none⟩ = some (.int .i64 m.r) ∧ V.cell? ⟨w.heap.size, 2, none⟩ = some (.int .i64 m.v) ∧ V.cell? ⟨w.heap.size, 3, none⟩ = some (.int .u8 m.f) ∧ V.cell? ⟨w.heap.size, 4, none⟩ = some (.slice sa m.l.length sc)) ∧ V.cell? ⟨kb, 0, none⟩ = some (.int .u8 p.f) ∧ V.cell? ⟨kb, 7, none⟩ = some (.int .i64 p.w) ∧ V.cell? ⟨kb, 11, none⟩ = some (.int .i64 id))) (by kernel_rfl) (by ((try dsimp only) <;> (first | with_reducible exact hS0 | with_reducible exact hS6))) (fun hHeld => ?_)
 refine tkY 0 ?_ (hy := by (intro w hSw; (try dsimp only at hSw); simp [execOp, Instr.loadAt, Instr.sureAddr, Act.eval, HX0.out _ hSw]; with_reducible rfl))
 refine tkY 1 ?_
 refine tkY 2 ?_
 refine tkY 3 ?_
 refine tkY 4 ?_
 refine tkY 5 ?_
 refine tkY 6 ?_
 refine tkY 7 ?_
 refine tkY 8 ?_
 refine tkY 9 ?_
 refine tkY 10 ?_
 refine tkY 11 ?_
 refine tkY 12 ?_
 refine tkY 13 ?_
 refine tkY 14 ?_
 refine tkY 15 ?_
 refine tkY 16 ?_
 refine tkY 17 ?_
 refine tkY 18 ?_
 refine tkY 19 ?_
 refine tkY 20 ?_
 refine tkY 21 ?_
 refine tkY 22 ?_
 refine tkY 23 ?_
 refine tkY 24 ?_
 refine tkY 25 ?_
 refine tkY 26 ?_
 refine tkY 27 ?_
 refine tkY 28 ?_
 refine tkY 29 ?_
 refine tkY 30 ?_
 refine tkY 31 ?_
 refine rd1 32 (fun K hK => ?_)
 (try simp only [ly0, ly1, ly2, ly3, ly4, ly5, ly6, ly7])
 go_simp
 refine hK.out _ _ (by ((try dsimp only) <;> (first | with_reducible exact hS0 | with_reducible exact hS6))) (fun hHeld => ?_)
 clear hK K
 (try simp only [ly0, ly1, ly2, ly3, ly4, ly5, ly6, ly7])
 refine tkY 33 ?_
 refine wpAnyH_done (by kernel_rfl) ?_ _
 change Exit.then _ _ _ _ (set5m W5 w.heap.size m.k m.r m.v m.f (.slice sa m.l.length sc)).drew
 obtain ⟨h6, h7, h8⟩ := HE.out
 clear hS6 hS0
 generalize (set5m W5 w.heap.size m.k m.r m.v m.f (.slice sa m.l.length sc)).drew = W6 at *
 clear HE c0 c1 c2 c3 c4 f5 k0 k7 k11
 go_wp2
 refine bodyPost_ret (res_ct rfl rfl rfl (load_msg h6)) rfl ?_
 exact ⟨_, rfl, h8, h7⟩
end
end Go.Proofs.YtipobchbnjgenaaGreat
