import Derived.Test.YtipobchbnjgenaaGreatBJrdD
set_option linter.unusedVariables false
set_option linter.unusedSimpArgs false
set_option maxRecDepth 100000
set_option maxHeartbeats 4000000
namespace Go.Proofs.YtipobchbnjgenaaGreat
open Go.RowKit Fld Slp Pln
theorem mr_mgd (w : World) {bs : List Int} (hb : By bs) : Mgd (mrM sum8 bs) := by
 have ho := own_newY (W := w) (base := w.heap.size) (n := (mrM sum8 bs).l.length) (T := 83) (cs := vals (mrM sum8 bs).l) (Nat.le_refl _) (vals_length _) (by
  have : (mrM sum8 bs).l.length <= 64 := by
   by_cases h : mrE sum8 bs = 0
   · exact (mgM_facts (mw_of_mr hb h).1).2.2.2.2.2.2
   · rw [mrM_no h]; decide
  omega)
 exact (mrM_own hb ho).wd
theorem dOn24 {w : World} {base xb g : Nat} {lv v vo vu : Value} {p : Pn} {q : Pr} {id : Int} {es : List Hde} {st : Wk} {D : Dsk} (h : Wy w base xb lv vo vu p q id es st) (hd : Dy w base g v D) (hf : Wf p q id) (hst : Wst st.L) (hnn : D.n + 100000 < 4611686018427387904) (hpm : ∀ W, Below base w W -> Pm W (.agg #[.int .i64 q.inp, vo, vu]) q) {u : Value} {b : List Int} (hu : Rb w u b) (hul : b.length <= 140737488351232) :
 Calls Tryz.prog 12 #[.pointer (some ⟨xb, 0, none⟩), .pointer (some ⟨g, 0, none⟩), u] w fun e w' => ∃ v' lv' es' u', e = .returned (.tuple #[u', .int .i64 (onE sum8 p.f p.w id st D b)]) ∧ Wy w' base xb lv' vo vu p q id es' (onW sum8 p.f p.w id st D b) ∧ Dy w' base g v' (onN sum8 p.f p.w id st D b) ∧ w'.ownsRow w.heap.size 5 1 u' (onL sum8 p.f p.w id (rpL p q) st D b).length (valb (onL sum8 p.f p.w id (rpL p q) st D b)) ∧ Ex w w' xb g lv v lv' v' := by
 obtain ⟨k0, k11, _, k13⟩ := h.cells
 have hfr := h.free
 have hlt := h.lt
 have HH := hide h
 have HD := hide hd
 cases hx : st.x with
 | true =>
  obtain ⟨e1, e2, e3, e4⟩ := on_shut (D := D) (b := b) (id := id) (rpL p q) p.f p.w hx
  obtain ⟨ub, uc, rfl, _⟩ := hu.spell
  rw [e1, e2, e3, e4]
  rw [hx] at k13
  clear e1 e2 e3 e4 h hd hu hf hst hpm hx hnn
  go_enter Tryz.func12, Tryz.ntmps12
  go_wp2
  go_ret2
  exact ⟨v, lv, es, _, rfl, HH.out, HD.out, World.ownsRow_nil _ _ _ _, Ex.refl _ _ _ _ _⟩
 | false =>
  rw [hx] at k13
  have hpc : Plc w xb p := plc_wy h.blk
  have hKp : ∀ W, Below w.heap.size w W -> Plc W xb p ∧ W.cell? ⟨xb, 11, none⟩ = some (.int .i64 id) := fun W hb => ⟨hpc.kept hb, cell_kept k11 hb⟩
  have HKp := hide hKp
  have HX3 : Hid (∀ V : World, Plc V xb p ∧ V.cell? ⟨xb, 11, none⟩ = some (.int .i64 id) -> (loadVar 24 ⟨xb, 0, none⟩).run Tryz.prog V = .ok (.agg #[.int .u8 p.f, .int .i64 p.n, .int .i64 p.k, .int .i64 p.t, .int .i64 p.s, .int .i64 p.e, .int .i64 p.d, .int .i64 p.w]) V) := fun V h => h.1.load
  have hy := hu.by
  have HU := hide hu
  obtain ⟨ub, uc, hue, _⟩ := hu.spell
  have hS0 := HKp.out _ (Below.refl _ w).drew
  have hS3 := fun ob => HKp.out (w.alloc ob).drew (alloc_below w ob).drew
  clear hKp hpc
  cases hs : shB sum8 p.f p.w id b with
  | false =>
   obtain ⟨e1, e2, e3, e4⟩ := on_none (D := D) (rpL p q) hx hs
   rw [e1, e2, e3, e4]
   clear e1 e2 e3 e4 h hd hu hf hst hpm hx hnn
   have HS := hide hs
   clear hs
   have HSA := hide (dShare_one p id u b w HU.out)
   have HSB := hide (dShare_two p id u b w HU.out)
   rw [plan_eq] at HSA HSB
   subst hue
   have HUl := hide hul
   obtain ⟨nb, Hnb⟩ : ∃ nb, Hid (b.length = nb) := ⟨_, rfl⟩
   rw [Hnb.out] at HSA HSB ⊢
   clear HU hul
   go_enter Tryz.func12, Tryz.ntmps12
   go_upto_region 3 with fail
   go_cut [8, 9] from 19 to 31 (fun v8 v9 wx => ∃ bx a8 k8, v8 = .pointer (some ⟨bx, 0, none⟩) ∧ v9 = .bool (shB sum8 p.f p.w id b) ∧ Hid (Shx w wx bx p id b (.slice a8 (shX p id b).length k8)))
   case first =>
    generalize shB sum8 p.f p.w id b = BB at *
    refine wp_region_held_drew (S := (fun V => Plc V xb p ∧ V.cell? ⟨xb, 11, none⟩ = some (.int .i64 id))) (by kernel_rfl) (by ((try dsimp only) <;> (first | with_reducible exact hS0 | with_reducible exact hS1 | with_reducible exact hS2 _ | with_reducible exact hS3 _ | with_reducible exact hS4))) (fun hHeld => ?_)
    refine tkY 0 ?_
    refine tkY 1 ?_
    refine tkY 2 ?_
    refine tkY 3 ?_ (hy := by (intro w hSw; (try dsimp only at hSw); simp [execOp, Instr.loadAt, Instr.sureAddr, Act.eval, HX3.out _ hSw]; with_reducible rfl))
    refine tkY 4 ?_
    refine tkY 5 ?_
    refine tkY 6 ?_
    refine tkY 7 ?_
    refine tkY 8 ?_
    refine wpAnyH_ready (rs := [9, 13]) (by kernel_rfl) (by simp) ?_
    refine AllReadyH.cons (o := _) rfl (fun K hK => ?way15x0) (AllReadyH.cons (o := _) rfl (fun K hK => ?way15x1) AllReadyH.nil)
    case' way15x0 =>
     (try simp only [ly0, ly1, ly2, ly3, ly4, ly5, ly6, ly7])
     go_simp
     (first
      | (go_at_call 47; with_reducible refine HSA.out.mono ?_; rintro e w8 ⟨a8, k8, rfl, hX8, hb8⟩; have hS1 := HKp.out _ hb8; have hS2 := fun ob => HKp.out _ (Below.next hb8 (alloc_below w8 ob)))
      | (go_at_call 47; with_reducible refine HSB.out.mono ?_; rintro e w8 ⟨a8, k8, rfl, ⟨z0, z1, zf⟩, hX8, hb8⟩; have hS1 := HKp.out _ hb8; have hS4 := HKp.out _ hX8.bel))
     first | refine hK.out _ _ ?k16 (fun hHeld => ?_) | (go_wp2_with fail; refine hK.out _ _ ?k16 (fun hHeld => ?_))
     case k16 => ((try dsimp only) <;> (first | with_reducible exact hS0 | with_reducible exact hS1 | with_reducible exact hS2 _ | with_reducible exact hS3 _ | with_reducible exact hS4))
     clear hK K
     (try simp only [ly0, ly1, ly2, ly3, ly4, ly5, ly6, ly7])
     refine tkY 10 ?_
     refine tkY 11 ?_
     refine tkY 12 ?_
     refine rd1 13 (fun K hK => ?_)
     (try simp only [ly0, ly1, ly2, ly3, ly4, ly5, ly6, ly7])
     go_simp
     refine hK.out _ _ (by ((try dsimp only) <;> (first | with_reducible exact hS0 | with_reducible exact hS1 | with_reducible exact hS2 _ | with_reducible exact hS3 _ | with_reducible exact hS4))) (fun hHeld => ?_)
     clear hK K
     (try simp only [ly0, ly1, ly2, ly3, ly4, ly5, ly6, ly7])
     refine rd1 14 (fun K hK => ?_)
     (try simp only [ly0, ly1, ly2, ly3, ly4, ly5, ly6, ly7])
     go_simp
     refine hK.out _ _ (by ((try dsimp only) <;> (first | with_reducible exact hS0 | with_reducible exact hS1 | with_reducible exact hS2 _ | with_reducible exact hS3 _ | with_reducible exact hS4))) (fun hHeld => ?_)
     clear hK K
     (try simp only [ly0, ly1, ly2, ly3, ly4, ly5, ly6, ly7])
     refine tkY 15 ?_
     refine wpAnyH_done (by kernel_rfl) ?_ _
    case' way15x1 =>
     (try simp only [ly0, ly1, ly2, ly3, ly4, ly5, ly6, ly7])
     go_simp
     refine hK.out _ _ (by ((try dsimp only) <;> (first | with_reducible exact hS0 | with_reducible exact hS1 | with_reducible exact hS2 _ | with_reducible exact hS3 _ | with_reducible exact hS4))) (fun hHeld => ?_)
     clear hK K
     (try simp only [ly0, ly1, ly2, ly3, ly4, ly5, ly6, ly7])
     refine rd1 9 (fun K hK => ?_)
     (try simp only [ly0, ly1, ly2, ly3, ly4, ly5, ly6, ly7])
     go_simp
     (first
      | (go_at_call 47; with_reducible refine HSA.out.mono ?_; rintro e w8 ⟨a8, k8, rfl, hX8, hb8⟩; have hS1 := HKp.out _ hb8; have hS2 := fun ob => HKp.out _ (Below.next hb8 (alloc_below w8 ob)))
      | (go_at_call 47; with_reducible refine HSB.out.mono ?_; rintro e w8 ⟨a8, k8, rfl, ⟨z0, z1, zf⟩, hX8, hb8⟩; have hS1 := HKp.out _ hb8; have hS4 := HKp.out _ hX8.bel))
     first | refine hK.out _ _ ?k17 (fun hHeld => ?_) | (go_wp2_with fail; refine hK.out _ _ ?k17 (fun hHeld => ?_))
     case k17 => ((try dsimp only) <;> (first | with_reducible exact hS0 | with_reducible exact hS1 | with_reducible exact hS2 _ | with_reducible exact hS3 _ | with_reducible exact hS4))
     clear hK K
     (try simp only [ly0, ly1, ly2, ly3, ly4, ly5, ly6, ly7])
     refine tkY 10 ?_
     refine tkY 11 ?_
     refine tkY 12 ?_
     refine rd1 14 (fun K hK => ?_)
     (try simp only [ly0, ly1, ly2, ly3, ly4, ly5, ly6, ly7])
     go_simp
     refine hK.out _ _ (by ((try dsimp only) <;> (first | with_reducible exact hS0 | with_reducible exact hS1 | with_reducible exact hS2 _ | with_reducible exact hS3 _ | with_reducible exact hS4))) (fun hHeld => ?_)
     clear hK K
     (try simp only [ly0, ly1, ly2, ly3, ly4, ly5, ly6, ly7])
     refine tkY 15 ?_
     refine wpAnyH_done (by kernel_rfl) ?_ _
    all_goals
     go_wp2
     go_meet
     exact ⟨_, _, _, rfl, rfl, hX8⟩
   obtain ⟨bx, a8, k8, rfl, rfl, HSx⟩ := hcut
   have hbel := HSx.out.bel
   clear HSA HSB HKp HX3 hS0 hS3
   rw [HS.out]
   go_wp2
   go_ret2
   exact ⟨v, lv, es, _, rfl, HH.out.below hbel, HD.out.below hbel, World.ownsRow_nil _ _ _ _, Ex.of_below _ _ _ _ hbel⟩
  | true =>
   have HEr : Hid (shR p id b = (mrM sum8 b).r) := by show _ = _; unfold shR; rw [if_pos hs]
   have HEx : Hid (shX p id b = (mrM sum8 b).l) := by show _ = _; unfold shX; rw [if_pos hs]
   have hwd := mr_words w hy
   have hll := hwd.1
   obtain ⟨f1, f2, f3, f4, f5⟩ := shB_facts hs
   have hg := mr_mgd w hy
   have hmd : Mgd ⟨2, (mrM sum8 b).r, id, p.f, rpL p q (mrM sum8 b).l⟩ := ⟨⟨(by decide : (0 : Int) <= 2), (by decide : (2 : Int) <= 255)⟩, hg.r, by rw [<- f3]; exact hg.v, by rw [<- f4]; exact hg.f⟩
   have hmg := (on_may hf.may w hy hs).2.1
   have hmE : mwE ⟨2, (mrM sum8 b).r, id, p.f, rpL p q (mrM sum8 b).l⟩ = 0 := if_pos hmg
   clear f1 f2 f3 f4 f5 hmg hg
   have hsl := hst.len
   cases hfn : fndW st.L (mrM sum8 b).r with
   | some xs =>
    have hxw : Wd xs := by have := hst.sh (mrM sum8 b).r; rw [shW_some hfn] at this; exact this
    have HF := hide (fun W (h : Wy W base xb lv vo vu p q id es st) => dFind h (mrM sum8 b).r hsl)
    rw [hfn, shW_some hfn] at HF
    by_cases hxs : xs = (mrM sum8 b).l
    · subst hxs
      obtain ⟨e1, e2, e3, e4⟩ := on_again (D := D) (rpL p q) hx hs hfn
      rw [e1, e2, e3, e4]
      unfold onM
      clear e1 e2 e3 e4 h hd hu hst hx hnn hfn
      have HS := hide hs
      clear hs
      have HSA := hide (dShare_one p id u b w HU.out)
      have HSB := hide (dShare_two p id u b w HU.out)
      rw [plan_eq] at HSA HSB
      subst hue
      have HUl := hide hul
      obtain ⟨nb, Hnb⟩ : ∃ nb, Hid (b.length = nb) := ⟨_, rfl⟩
      rw [Hnb.out] at HSA HSB ⊢
      clear HU hul
      go_enter Tryz.func12, Tryz.ntmps12
      go_upto_region 3 with fail
      go_cut [8, 9] from 19 to 31 (fun v8 v9 wx => ∃ bx a8 k8, v8 = .pointer (some ⟨bx, 0, none⟩) ∧ v9 = .bool (shB sum8 p.f p.w id b) ∧ Hid (Shx w wx bx p id b (.slice a8 (shX p id b).length k8)))
      case first =>
       generalize shB sum8 p.f p.w id b = BB at *
       refine wp_region_held_drew (S := (fun V => Plc V xb p ∧ V.cell? ⟨xb, 11, none⟩ = some (.int .i64 id))) (by kernel_rfl) (by ((try dsimp only) <;> (first | with_reducible exact hS0 | with_reducible exact hS1 | with_reducible exact hS2 _ | with_reducible exact hS3 _ | with_reducible exact hS4))) (fun hHeld => ?_)
       refine tkY 0 ?_
       refine tkY 1 ?_
       refine tkY 2 ?_
       refine tkY 3 ?_ (hy := by (intro w hSw; (try dsimp only at hSw); simp [execOp, Instr.loadAt, Instr.sureAddr, Act.eval, HX3.out _ hSw]; with_reducible rfl))
       refine tkY 4 ?_
       refine tkY 5 ?_
       refine tkY 6 ?_
       refine tkY 7 ?_
       refine tkY 8 ?_
       refine wpAnyH_ready (rs := [9, 13]) (by kernel_rfl) (by simp) ?_
       refine AllReadyH.cons (o := _) rfl (fun K hK => ?way18x0) (AllReadyH.cons (o := _) rfl (fun K hK => ?way18x1) AllReadyH.nil)
       case' way18x0 =>
        (try simp only [ly0, ly1, ly2, ly3, ly4, ly5, ly6, ly7])
        go_simp
        (first
         | (go_at_call 47; with_reducible refine HSA.out.mono ?_; rintro e w8 ⟨a8, k8, rfl, hX8, hb8⟩; have hS1 := HKp.out _ hb8; have hS2 := fun ob => HKp.out _ (Below.next hb8 (alloc_below w8 ob)))
         | (go_at_call 47; with_reducible refine HSB.out.mono ?_; rintro e w8 ⟨a8, k8, rfl, ⟨z0, z1, zf⟩, hX8, hb8⟩; have hS1 := HKp.out _ hb8; have hS4 := HKp.out _ hX8.bel))
        first | refine hK.out _ _ ?k19 (fun hHeld => ?_) | (go_wp2_with fail; refine hK.out _ _ ?k19 (fun hHeld => ?_))
        case k19 => ((try dsimp only) <;> (first | with_reducible exact hS0 | with_reducible exact hS1 | with_reducible exact hS2 _ | with_reducible exact hS3 _ | with_reducible exact hS4))
        clear hK K
        (try simp only [ly0, ly1, ly2, ly3, ly4, ly5, ly6, ly7])
        refine tkY 10 ?_
        refine tkY 11 ?_
        refine tkY 12 ?_
        refine rd1 13 (fun K hK => ?_)
        (try simp only [ly0, ly1, ly2, ly3, ly4, ly5, ly6, ly7])
        go_simp
        refine hK.out _ _ (by ((try dsimp only) <;> (first | with_reducible exact hS0 | with_reducible exact hS1 | with_reducible exact hS2 _ | with_reducible exact hS3 _ | with_reducible exact hS4))) (fun hHeld => ?_)
        clear hK K
        (try simp only [ly0, ly1, ly2, ly3, ly4, ly5, ly6, ly7])
        refine rd1 14 (fun K hK => ?_)
        (try simp only [ly0, ly1, ly2, ly3, ly4, ly5, ly6, ly7])
        go_simp
        refine hK.out _ _ (by ((try dsimp only) <;> (first | with_reducible exact hS0 | with_reducible exact hS1 | with_reducible exact hS2 _ | with_reducible exact hS3 _ | with_reducible exact hS4))) (fun hHeld => ?_)
        clear hK K
        (try simp only [ly0, ly1, ly2, ly3, ly4, ly5, ly6, ly7])
        refine tkY 15 ?_
        refine wpAnyH_done (by kernel_rfl) ?_ _
       case' way18x1 =>
        (try simp only [ly0, ly1, ly2, ly3, ly4, ly5, ly6, ly7])
        go_simp
        refine hK.out _ _ (by ((try dsimp only) <;> (first | with_reducible exact hS0 | with_reducible exact hS1 | with_reducible exact hS2 _ | with_reducible exact hS3 _ | with_reducible exact hS4))) (fun hHeld => ?_)
        clear hK K
        (try simp only [ly0, ly1, ly2, ly3, ly4, ly5, ly6, ly7])
        refine rd1 9 (fun K hK => ?_)
        (try simp only [ly0, ly1, ly2, ly3, ly4, ly5, ly6, ly7])
        go_simp
        (first
         | (go_at_call 47; with_reducible refine HSA.out.mono ?_; rintro e w8 ⟨a8, k8, rfl, hX8, hb8⟩; have hS1 := HKp.out _ hb8; have hS2 := fun ob => HKp.out _ (Below.next hb8 (alloc_below w8 ob)))
         | (go_at_call 47; with_reducible refine HSB.out.mono ?_; rintro e w8 ⟨a8, k8, rfl, ⟨z0, z1, zf⟩, hX8, hb8⟩; have hS1 := HKp.out _ hb8; have hS4 := HKp.out _ hX8.bel))
        first | refine hK.out _ _ ?k20 (fun hHeld => ?_) | (go_wp2_with fail; refine hK.out _ _ ?k20 (fun hHeld => ?_))
        case k20 => ((try dsimp only) <;> (first | with_reducible exact hS0 | with_reducible exact hS1 | with_reducible exact hS2 _ | with_reducible exact hS3 _ | with_reducible exact hS4))
        clear hK K
        (try simp only [ly0, ly1, ly2, ly3, ly4, ly5, ly6, ly7])
        refine tkY 10 ?_
        refine tkY 11 ?_
        refine tkY 12 ?_
        refine rd1 14 (fun K hK => ?_)
        (try simp only [ly0, ly1, ly2, ly3, ly4, ly5, ly6, ly7])
        go_simp
        refine hK.out _ _ (by ((try dsimp only) <;> (first | with_reducible exact hS0 | with_reducible exact hS1 | with_reducible exact hS2 _ | with_reducible exact hS3 _ | with_reducible exact hS4))) (fun hHeld => ?_)
        clear hK K
        (try simp only [ly0, ly1, ly2, ly3, ly4, ly5, ly6, ly7])
        refine tkY 15 ?_
        refine wpAnyH_done (by kernel_rfl) ?_ _
       all_goals
        go_wp2
        go_meet
        exact ⟨_, _, _, rfl, rfl, hX8⟩
      obtain ⟨bx, a8, k8, rfl, rfl, HSx⟩ := hcut
      have hbel := HSx.out.bel
      clear HSA HSB HKp HX3 hS0 hS3
      rw [HS.out]
      have hbx := HSx.out.box
      have how := HSx.out.own
      have hblow := HSx.out.low
      rw [HEr.out, HEx.out] at hbx
      rw [HEx.out] at how
      clear HSx
      obtain ⟨⟨b0, b1⟩, bf, bl⟩ := held_box hbx
      have HBl := hide bl
      clear bl
      have hwc := HH.out.below hbel
      have hdc := HD.out.below hbel
      have HSm := hide (fun v9 (ho9 : wc.ownsRow base 83 1 v9 (mrM sum8 b).l.length (vals (mrM sum8 b).l)) => Same_dec v9 (.slice a8 (mrM sum8 b).l.length k8) (mrM sum8 b).l (mrM sum8 b).l wc (row_of_own ho9 rfl hll hwd.2) (row_of_own how rfl hll hwd.2))
      rw [decide_eq_true (rfl : (mrM sum8 b).l = (mrM sum8 b).l)] at HSm
      have HFc := hide (HF.out wc hwc)
      clear HF
      go_upto_region 15 with (first
       | (go_at_call 48; refine HFc.out.mono ?_; rintro e w8 ⟨v8, rfl, ho8, hw8⟩; rw [hw8]; clear hw8; have HSm8 := hide (HSm.out v8 ho8); obtain ⟨a7, k7, rfl⟩ := own_form ho8; clear ho8)
       | (go_at_call 16; refine HSm8.out.mono ?_; rintro e w9 ⟨rfl, nq, hw9⟩; have hb9 : Below wc.heap.size wc w9 := (by rw [hw9]; exact drewN_below wc nq); clear hw9))
      have hwt := hwc.below hb9
      have hdt := hdc.below hb9
      have hex := Ex.of_below xb g lv v (Below.next hbel hb9)
      have bxt := (hb9.block _ (Array.getElem?_eq_some_iff.1 hbx).1).trans hbx
      have hot := own_below how hb9
      clear HFc HSm HSm8 b0 b1 bf
      have hHK : ∀ W, Below w9.heap.size w9 W -> (Pq24 W xb p q.inp vo vu ∧ W.cell? ⟨bx, 1, none⟩ = some (.slice a8 (mrM sum8 b).l.length k8)) ∧ (W.cell? ⟨bx, 0, none⟩ = some (.int .i64 (mrM sum8 b).r) ∧ W.cell? ⟨xb, 11, none⟩ = some (.int .i64 id) ∧ W.cell? ⟨xb, 0, none⟩ = some (.int .u8 p.f)) := fun W hb => by
       have h1 := hwt.below hb
       have h2 := (hb.block _ (Array.getElem?_eq_some_iff.1 bxt).1).trans bxt
       obtain ⟨k0, k1, _, _⟩ := h1.cells
       exact ⟨⟨h1.pq, cell_at h2 rfl⟩, cell_at h2 rfl, k1, k0⟩
      have HK := hide hHK
      have hpt := hpm w9 (HH.out.exb HD.out hex)
      have HR := hide (dReply16 p q _ _ (mrM sum8 b).l w9.drew hf.ok (hpt.below (Below.refl w9.heap.size w9).drew) (rw_of_own (own_below hot (Below.refl w9.heap.size w9).drew) hll hwd.2))
      have HRw := hide (rp_wd p q (xs := (mrM sum8 b).l) hwd.2)
      have HWr := hide (fun V s2 (hr : Row V s2 (rpL p q (mrM sum8 b).l)) => dWriteM ⟨2, (mrM sum8 b).r, id, p.f, rpL p q (mrM sum8 b).l⟩ s2 V ⟨hmd, hr⟩)
      unfold Gives at HR
      unfold GivesB at HWr
      rw [hmE] at HWr
      obtain ⟨vo1, vu1, e, ho, hu⟩ := hpt.form
      injection e with e
      injection e with e
      injection e with _ e
      injection e with e1 e
      injection e with e2 _
      subst e1 e2
      obtain ⟨ao, ca, hvo, _⟩ := ho.spell
      obtain ⟨au, cu, hvu, _⟩ := hu.spell
      rw [hvo, hvu] at HR HK
      have HEnd := hide (fun W (hb : Below w9.heap.size w9 W) => (⟨hwt.below hb, hdt.below hb, hex.next hb⟩ : Wy W base xb _ _ _ p q id _ _ ∧ Dy W base g _ _ ∧ Ex w W xb g _ _ _ _))
      have HSz := hide hex.kq.size
      have HX3 := hide (fun (V : World) (hV : Pq24 V xb p q.inp (.slice ao q.ops.length ca) (.slice au q.outs.length cu) ∧ V.cell? ⟨bx, 1, none⟩ = some (.slice a8 (mrM sum8 b).l.length k8)) => load_pln24 hV.1)
      have HX7 := hide (fun (V : World) (hV : Pq24 V xb p q.inp (.slice ao q.ops.length ca) (.slice au q.outs.length cu) ∧ V.cell? ⟨bx, 1, none⟩ = some (.slice a8 (mrM sum8 b).l.length k8)) => load_prg24 hV.1)
      have hS0 := (HK.out w9.drew (Below.refl _ w9).drew).1
      rw [plan_eq] at HR
      unfold mgv mgc at HWr
      dsimp only at HWr
      clear hHK hpt ho hu hvo hvu hwt hdt hex bxt hot hbx how hwc hdc hbel
      generalize (mrM sum8 b).l.length = n7 at *
      generalize rpE p q (mrM sum8 b).l = e7 at *
      go_upto_region 15 with fail
      refine wp_region_held_drew (S := (fun V => Pq24 V xb p q.inp (.slice ao q.ops.length ca) (.slice au q.outs.length cu) ∧ V.cell? ⟨bx, 1, none⟩ = some (.slice a8 n7 k8))) (by kernel_rfl) (by ((try dsimp only) <;> (first | with_reducible exact hS0 | with_reducible exact hS1))) (fun hHeld => ?_)
      refine tkY 0 ?_
      refine tkY 1 ?_
      refine tkY 2 ?_
      refine tkY 3 ?_ (hy := by (intro w hSw; (try dsimp only at hSw); simp [execOp, Instr.loadAt, Instr.sureAddr, Act.eval, HX3.out _ hSw]; with_reducible rfl))
      refine tkY 4 ?_
      refine tkY 5 ?_
      refine tkY 6 ?_
      refine tkY 7 ?_ (hy := by (intro w hSw; (try dsimp only at hSw); simp [execOp, Instr.loadAt, Instr.sureAddr, Act.eval, HX7.out _ hSw]; with_reducible rfl))
      refine tkY 8 ?_
      refine tkY 9 ?_
      refine rd1 10 (fun K hK => ?_)
      (try simp only [ly0, ly1, ly2, ly3, ly4, ly5, ly6, ly7])
      go_simp
      (
       (go_at_call 31; refine HR.out.mono ?_; rintro e w11 ⟨v11, rfl, ho11, hb11⟩; have hb11' := (Below.refl w9.heap.size w9).drew.trans (hb11.mono (Nat.le_refl _)); have hS1 := (HK.out w11 hb11').1; have HY := hide (HWr.out w11.drew v11 (HRw.out.row (own_below ho11 (Below.refl w11.heap.size w11).drew)).1); have hS2 := (HK.out w11.drew (hb11'.drew)).2; obtain ⟨a11, k11, rfl⟩ := own_form ho11))
      first | refine hK.out _ _ ?k21 (fun hHeld => ?_) | (go_wp2_with fail; refine hK.out _ _ ?k21 (fun hHeld => ?_))
      case k21 => ((try dsimp only) <;> (first | with_reducible exact hS0 | with_reducible exact hS1))
      clear hK K
      (try simp only [ly0, ly1, ly2, ly3, ly4, ly5, ly6, ly7])
      refine tkY 11 ?_
      refine tkY 12 ?_
      refine tkY 13 ?_
      refine tkY 14 ?_
      refine tkY 15 ?_
      refine wpAnyH_done (by kernel_rfl) ?_ _
      clear hS0 hS1 HX3 HX7 HR HWr ho11
      generalize (rpL p q (mrM sum8 b).l).length = n8 at *
      go_upto_region 16 with fail
      refine wp_region_held_drew (S := (fun V => V.cell? ⟨bx, 0, none⟩ = some (.int .i64 (mrM sum8 b).r) ∧ V.cell? ⟨xb, 11, none⟩ = some (.int .i64 id) ∧ V.cell? ⟨xb, 0, none⟩ = some (.int .u8 p.f))) (by kernel_rfl) (by ((try dsimp only) <;> (first | with_reducible exact hS2 | with_reducible exact hS3))) (fun hHeld => ?_)
      refine tkY 0 ?_
      refine tkY 1 ?_
      refine tkY 2 ?_
      refine tkY 3 ?_
      refine tkY 4 ?_
      refine tkY 5 ?_
      refine tkY 6 ?_
      refine tkY 7 ?_
      refine tkY 8 ?_
      refine tkY 9 ?_
      refine tkY 10 ?_
      refine tkY 11 ?_
      refine tkY 12 ?_
      refine rd1 13 (fun K hK => ?_)
      (try simp only [ly0, ly1, ly2, ly3, ly4, ly5, ly6, ly7])
      go_simp
      (
       (go_at_call 35; refine HY.out.mono ?_; rintro e w12 ⟨v12, rfl, ho12, hb12⟩; have hb12' := Below.next hb11' ((Below.refl w11.heap.size w11).drew.trans (hb12.mono (Nat.le_refl _))); have hS3 := (HK.out w12 hb12').2))
      first | refine hK.out _ _ ?k22 (fun hHeld => ?_) | (go_wp2_with fail; refine hK.out _ _ ?k22 (fun hHeld => ?_))
      case k22 => ((try dsimp only) <;> (first | with_reducible exact hS2 | with_reducible exact hS3))
      clear hK K
      (try simp only [ly0, ly1, ly2, ly3, ly4, ly5, ly6, ly7])
      refine tkY 14 ?_
      refine tkY 15 ?_
      refine tkY 16 ?_
      refine tkY 17 ?_
      refine wpAnyH_done (by kernel_rfl) ?_ _
      go_wp2
      go_ret2
      obtain ⟨r1, r2, r3⟩ := HEnd.out w12 hb12'
      exact ⟨_, _, _, v12, rfl, r1, r2, own_mono ho12 (Nat.le_trans HSz.out hb11'.size), r3⟩
    · obtain ⟨e1, e2, e3, e4⟩ := on_other (D := D) (rpL p q) hx hs hfn hxs
      rw [e1, e2, e3, e4]
      clear e1 e2 e3 e4 h hd hu hst hx hnn hfn
      have HS := hide hs
      clear hs
      have HSA := hide (dShare_one p id u b w HU.out)
      have HSB := hide (dShare_two p id u b w HU.out)
      rw [plan_eq] at HSA HSB
      subst hue
      have HUl := hide hul
      obtain ⟨nb, Hnb⟩ : ∃ nb, Hid (b.length = nb) := ⟨_, rfl⟩
      rw [Hnb.out] at HSA HSB ⊢
      clear HU hul
      go_enter Tryz.func12, Tryz.ntmps12
      go_upto_region 3 with fail
      go_cut [8, 9] from 19 to 31 (fun v8 v9 wx => ∃ bx a8 k8, v8 = .pointer (some ⟨bx, 0, none⟩) ∧ v9 = .bool (shB sum8 p.f p.w id b) ∧ Hid (Shx w wx bx p id b (.slice a8 (shX p id b).length k8)))
      case first =>
       generalize shB sum8 p.f p.w id b = BB at *
       refine wp_region_held_drew (S := (fun V => Plc V xb p ∧ V.cell? ⟨xb, 11, none⟩ = some (.int .i64 id))) (by kernel_rfl) (by ((try dsimp only) <;> (first | with_reducible exact hS0 | with_reducible exact hS1 | with_reducible exact hS2 _ | with_reducible exact hS3 _ | with_reducible exact hS4))) (fun hHeld => ?_)
       refine tkY 0 ?_
       refine tkY 1 ?_
       refine tkY 2 ?_
       refine tkY 3 ?_ (hy := by (intro w hSw; (try dsimp only at hSw); simp [execOp, Instr.loadAt, Instr.sureAddr, Act.eval, HX3.out _ hSw]; with_reducible rfl))
       refine tkY 4 ?_
       refine tkY 5 ?_
       refine tkY 6 ?_
       refine tkY 7 ?_
       refine tkY 8 ?_
       refine wpAnyH_ready (rs := [9, 13]) (by kernel_rfl) (by simp) ?_
       refine AllReadyH.cons (o := _) rfl (fun K hK => ?way23x0) (AllReadyH.cons (o := _) rfl (fun K hK => ?way23x1) AllReadyH.nil)
       case' way23x0 =>
        (try simp only [ly0, ly1, ly2, ly3, ly4, ly5, ly6, ly7])
        go_simp
        (first
         | (go_at_call 47; with_reducible refine HSA.out.mono ?_; rintro e w8 ⟨a8, k8, rfl, hX8, hb8⟩; have hS1 := HKp.out _ hb8; have hS2 := fun ob => HKp.out _ (Below.next hb8 (alloc_below w8 ob)))
         | (go_at_call 47; with_reducible refine HSB.out.mono ?_; rintro e w8 ⟨a8, k8, rfl, ⟨z0, z1, zf⟩, hX8, hb8⟩; have hS1 := HKp.out _ hb8; have hS4 := HKp.out _ hX8.bel))
        first | refine hK.out _ _ ?k24 (fun hHeld => ?_) | (go_wp2_with fail; refine hK.out _ _ ?k24 (fun hHeld => ?_))
        case k24 => ((try dsimp only) <;> (first | with_reducible exact hS0 | with_reducible exact hS1 | with_reducible exact hS2 _ | with_reducible exact hS3 _ | with_reducible exact hS4))
        clear hK K
        (try simp only [ly0, ly1, ly2, ly3, ly4, ly5, ly6, ly7])
        refine tkY 10 ?_
        refine tkY 11 ?_
        refine tkY 12 ?_
        refine rd1 13 (fun K hK => ?_)
        (try simp only [ly0, ly1, ly2, ly3, ly4, ly5, ly6, ly7])
        go_simp
        refine hK.out _ _ (by ((try dsimp only) <;> (first | with_reducible exact hS0 | with_reducible exact hS1 | with_reducible exact hS2 _ | with_reducible exact hS3 _ | with_reducible exact hS4))) (fun hHeld => ?_)
        clear hK K
        (try simp only [ly0, ly1, ly2, ly3, ly4, ly5, ly6, ly7])
        refine rd1 14 (fun K hK => ?_)
        (try simp only [ly0, ly1, ly2, ly3, ly4, ly5, ly6, ly7])
        go_simp
        refine hK.out _ _ (by ((try dsimp only) <;> (first | with_reducible exact hS0 | with_reducible exact hS1 | with_reducible exact hS2 _ | with_reducible exact hS3 _ | with_reducible exact hS4))) (fun hHeld => ?_)
        clear hK K
        (try simp only [ly0, ly1, ly2, ly3, ly4, ly5, ly6, ly7])
        refine tkY 15 ?_
        refine wpAnyH_done (by kernel_rfl) ?_ _
       case' way23x1 =>
        (try simp only [ly0, ly1, ly2, ly3, ly4, ly5, ly6, ly7])
        go_simp
        refine hK.out _ _ (by ((try dsimp only) <;> (first | with_reducible exact hS0 | with_reducible exact hS1 | with_reducible exact hS2 _ | with_reducible exact hS3 _ | with_reducible exact hS4))) (fun hHeld => ?_)
        clear hK K
        (try simp only [ly0, ly1, ly2, ly3, ly4, ly5, ly6, ly7])
        refine rd1 9 (fun K hK => ?_)
        (try simp only [ly0, ly1, ly2, ly3, ly4, ly5, ly6, ly7])
        go_simp
        (first
         | (go_at_call 47; with_reducible refine HSA.out.mono ?_; rintro e w8 ⟨a8, k8, rfl, hX8, hb8⟩; have hS1 := HKp.out _ hb8; have hS2 := fun ob => HKp.out _ (Below.next hb8 (alloc_below w8 ob)))
         | (go_at_call 47; with_reducible refine HSB.out.mono ?_; rintro e w8 ⟨a8, k8, rfl, ⟨z0, z1, zf⟩, hX8, hb8⟩; have hS1 := HKp.out _ hb8; have hS4 := HKp.out _ hX8.bel))
        first | refine hK.out _ _ ?k25 (fun hHeld => ?_) | (go_wp2_with fail; refine hK.out _ _ ?k25 (fun hHeld => ?_))
        case k25 => ((try dsimp only) <;> (first | with_reducible exact hS0 | with_reducible exact hS1 | with_reducible exact hS2 _ | with_reducible exact hS3 _ | with_reducible exact hS4))
        clear hK K
        (try simp only [ly0, ly1, ly2, ly3, ly4, ly5, ly6, ly7])
        refine tkY 10 ?_
        refine tkY 11 ?_
        refine tkY 12 ?_
        refine rd1 14 (fun K hK => ?_)
        (try simp only [ly0, ly1, ly2, ly3, ly4, ly5, ly6, ly7])
        go_simp
        refine hK.out _ _ (by ((try dsimp only) <;> (first | with_reducible exact hS0 | with_reducible exact hS1 | with_reducible exact hS2 _ | with_reducible exact hS3 _ | with_reducible exact hS4))) (fun hHeld => ?_)
        clear hK K
        (try simp only [ly0, ly1, ly2, ly3, ly4, ly5, ly6, ly7])
        refine tkY 15 ?_
        refine wpAnyH_done (by kernel_rfl) ?_ _
       all_goals
        go_wp2
        go_meet
        exact ⟨_, _, _, rfl, rfl, hX8⟩
      obtain ⟨bx, a8, k8, rfl, rfl, HSx⟩ := hcut
      have hbel := HSx.out.bel
      clear HSA HSB HKp HX3 hS0 hS3
      rw [HS.out]
      have hbx := HSx.out.box
      have how := HSx.out.own
      have hblow := HSx.out.low
      rw [HEr.out, HEx.out] at hbx
      rw [HEx.out] at how
      clear HSx
      obtain ⟨⟨b0, b1⟩, bf, bl⟩ := held_box hbx
      have HBl := hide bl
      clear bl
      have hwc := HH.out.below hbel
      have hdc := HD.out.below hbel
      have HSm := hide (fun v9 (ho9 : wc.ownsRow base 83 1 v9 xs.length (vals xs)) => Same_dec v9 (.slice a8 (mrM sum8 b).l.length k8) xs (mrM sum8 b).l wc (row_of_own ho9 rfl hxw.1 hxw.2) (row_of_own how rfl hll hwd.2))
      rw [decide_eq_false hxs] at HSm
      have HFc := hide (HF.out wc hwc)
      clear HF
      go_wp2_with (first
       | (go_at_call 48; refine HFc.out.mono ?_; rintro e w8 ⟨v8, rfl, ho8, hw8⟩; rw [hw8]; clear hw8; have HSm8 := hide (HSm.out v8 ho8); obtain ⟨a7, k7, rfl⟩ := own_form ho8; clear ho8)
       | (go_at_call 16; refine HSm8.out.mono ?_; rintro e w9 ⟨rfl, nq, hw9⟩; have hb9 : Below wc.heap.size wc w9 := (by rw [hw9]; exact drewN_below wc nq); clear hw9))
      go_ret2
      exact ⟨v, lv, es, _, rfl, hwc.below hb9, hdc.below hb9, World.ownsRow_nil _ _ _ _, Ex.of_below _ _ _ _ (Below.next hbel hb9)⟩
   | none =>
    have HF := hide (fun W (h : Wy W base xb lv vo vu p q id es st) => dFind h (mrM sum8 b).r hsl)
    rw [hfn, shW_none hfn] at HF
    have HBy := hide (fun W (hb : Below w.heap.size w W) => rBytes u b W (hu.below hb) hul)
    have HAp := hide (fun W v' (hd : Dy W base g v D) (hb : base <= W.heap.size) (hr : Rb W v' b) => dAppend hd hb hnn hr hul)
    have hbw : base <= w.heap.size := by have := h.low; omega
    by_cases hae : apE23 sum8 D b = 0
    · obtain ⟨e1, e2, e3, e4⟩ := on_new (D := D) (rpL p q) hx hs hfn hae
      rw [e1, e2, e3, e4]
      rw [hae] at HAp
      unfold onM
      clear e1 e2 e3 e4 h hd hu hst hnn hfn hae
      have HX := hide hx
      clear hx
      have HS := hide hs
      clear hs
      have HSA := hide (dShare_one p id u b w HU.out)
      have HSB := hide (dShare_two p id u b w HU.out)
      rw [plan_eq] at HSA HSB
      subst hue
      have HUl := hide hul
      obtain ⟨nb, Hnb⟩ : ∃ nb, Hid (b.length = nb) := ⟨_, rfl⟩
      rw [Hnb.out] at HSA HSB ⊢
      clear HU hul
      go_enter Tryz.func12, Tryz.ntmps12
      go_upto_region 3 with fail
      go_cut [8, 9] from 19 to 31 (fun v8 v9 wx => ∃ bx a8 k8, v8 = .pointer (some ⟨bx, 0, none⟩) ∧ v9 = .bool (shB sum8 p.f p.w id b) ∧ Hid (Shx w wx bx p id b (.slice a8 (shX p id b).length k8)))
      case first =>
       generalize shB sum8 p.f p.w id b = BB at *
       refine wp_region_held_drew (S := (fun V => Plc V xb p ∧ V.cell? ⟨xb, 11, none⟩ = some (.int .i64 id))) (by kernel_rfl) (by ((try dsimp only) <;> (first | with_reducible exact hS0 | with_reducible exact hS1 | with_reducible exact hS2 _ | with_reducible exact hS3 _ | with_reducible exact hS4))) (fun hHeld => ?_)
       refine tkY 0 ?_
       refine tkY 1 ?_
       refine tkY 2 ?_
       refine tkY 3 ?_ (hy := by (intro w hSw; (try dsimp only at hSw); simp [execOp, Instr.loadAt, Instr.sureAddr, Act.eval, HX3.out _ hSw]; with_reducible rfl))
       refine tkY 4 ?_
       refine tkY 5 ?_
       refine tkY 6 ?_
       refine tkY 7 ?_
       refine tkY 8 ?_
       refine wpAnyH_ready (rs := [9, 13]) (by kernel_rfl) (by simp) ?_
       refine AllReadyH.cons (o := _) rfl (fun K hK => ?way26x0) (AllReadyH.cons (o := _) rfl (fun K hK => ?way26x1) AllReadyH.nil)
       case' way26x0 =>
        (try simp only [ly0, ly1, ly2, ly3, ly4, ly5, ly6, ly7])
        go_simp
        (first
         | (go_at_call 47; with_reducible refine HSA.out.mono ?_; rintro e w8 ⟨a8, k8, rfl, hX8, hb8⟩; have hS1 := HKp.out _ hb8; have hS2 := fun ob => HKp.out _ (Below.next hb8 (alloc_below w8 ob)))
         | (go_at_call 47; with_reducible refine HSB.out.mono ?_; rintro e w8 ⟨a8, k8, rfl, ⟨z0, z1, zf⟩, hX8, hb8⟩; have hS1 := HKp.out _ hb8; have hS4 := HKp.out _ hX8.bel))
        first | refine hK.out _ _ ?k27 (fun hHeld => ?_) | (go_wp2_with fail; refine hK.out _ _ ?k27 (fun hHeld => ?_))
        case k27 => ((try dsimp only) <;> (first | with_reducible exact hS0 | with_reducible exact hS1 | with_reducible exact hS2 _ | with_reducible exact hS3 _ | with_reducible exact hS4))
        clear hK K
        (try simp only [ly0, ly1, ly2, ly3, ly4, ly5, ly6, ly7])
        refine tkY 10 ?_
        refine tkY 11 ?_
        refine tkY 12 ?_
        refine rd1 13 (fun K hK => ?_)
        (try simp only [ly0, ly1, ly2, ly3, ly4, ly5, ly6, ly7])
        go_simp
        refine hK.out _ _ (by ((try dsimp only) <;> (first | with_reducible exact hS0 | with_reducible exact hS1 | with_reducible exact hS2 _ | with_reducible exact hS3 _ | with_reducible exact hS4))) (fun hHeld => ?_)
        clear hK K
        (try simp only [ly0, ly1, ly2, ly3, ly4, ly5, ly6, ly7])
        refine rd1 14 (fun K hK => ?_)
        (try simp only [ly0, ly1, ly2, ly3, ly4, ly5, ly6, ly7])
        go_simp
        refine hK.out _ _ (by ((try dsimp only) <;> (first | with_reducible exact hS0 | with_reducible exact hS1 | with_reducible exact hS2 _ | with_reducible exact hS3 _ | with_reducible exact hS4))) (fun hHeld => ?_)
        clear hK K
        (try simp only [ly0, ly1, ly2, ly3, ly4, ly5, ly6, ly7])
        refine tkY 15 ?_
        refine wpAnyH_done (by kernel_rfl) ?_ _
       case' way26x1 =>
        (try simp only [ly0, ly1, ly2, ly3, ly4, ly5, ly6, ly7])
        go_simp
        refine hK.out _ _ (by ((try dsimp only) <;> (first | with_reducible exact hS0 | with_reducible exact hS1 | with_reducible exact hS2 _ | with_reducible exact hS3 _ | with_reducible exact hS4))) (fun hHeld => ?_)
        clear hK K
        (try simp only [ly0, ly1, ly2, ly3, ly4, ly5, ly6, ly7])
        refine rd1 9 (fun K hK => ?_)
        (try simp only [ly0, ly1, ly2, ly3, ly4, ly5, ly6, ly7])
        go_simp
        (first
         | (go_at_call 47; with_reducible refine HSA.out.mono ?_; rintro e w8 ⟨a8, k8, rfl, hX8, hb8⟩; have hS1 := HKp.out _ hb8; have hS2 := fun ob => HKp.out _ (Below.next hb8 (alloc_below w8 ob)))
         | (go_at_call 47; with_reducible refine HSB.out.mono ?_; rintro e w8 ⟨a8, k8, rfl, ⟨z0, z1, zf⟩, hX8, hb8⟩; have hS1 := HKp.out _ hb8; have hS4 := HKp.out _ hX8.bel))
        first | refine hK.out _ _ ?k28 (fun hHeld => ?_) | (go_wp2_with fail; refine hK.out _ _ ?k28 (fun hHeld => ?_))
        case k28 => ((try dsimp only) <;> (first | with_reducible exact hS0 | with_reducible exact hS1 | with_reducible exact hS2 _ | with_reducible exact hS3 _ | with_reducible exact hS4))
        clear hK K
        (try simp only [ly0, ly1, ly2, ly3, ly4, ly5, ly6, ly7])
        refine tkY 10 ?_
        refine tkY 11 ?_
        refine tkY 12 ?_
        refine rd1 14 (fun K hK => ?_)
        (try simp only [ly0, ly1, ly2, ly3, ly4, ly5, ly6, ly7])
        go_simp
        refine hK.out _ _ (by ((try dsimp only) <;> (first | with_reducible exact hS0 | with_reducible exact hS1 | with_reducible exact hS2 _ | with_reducible exact hS3 _ | with_reducible exact hS4))) (fun hHeld => ?_)
        clear hK K
        (try simp only [ly0, ly1, ly2, ly3, ly4, ly5, ly6, ly7])
        refine tkY 15 ?_
        refine wpAnyH_done (by kernel_rfl) ?_ _
       all_goals
        go_wp2
        go_meet
        exact ⟨_, _, _, rfl, rfl, hX8⟩
      obtain ⟨bx, a8, k8, rfl, rfl, HSx⟩ := hcut
      have hbel := HSx.out.bel
      clear HSA HSB HKp HX3 hS0 hS3
      rw [HS.out]
      have hbx := HSx.out.box
      have how := HSx.out.own
      have hblow := HSx.out.low
      rw [HEr.out, HEx.out] at hbx
      rw [HEx.out] at how
      clear HSx
      obtain ⟨⟨b0, b1⟩, bf, bl⟩ := held_box hbx
      have HBl := hide bl
      clear bl
      have hwc := HH.out.below hbel
      have hdc := HD.out.below hbel
      have hzc := hbel.size
      have HFc := hide (HF.out wc hwc)
      have HByc := hide (HBy.out wc hbel)
      have HApc := hide (fun w9 v9 (hb : Below wc.heap.size wc w9) (ho : w9.ownsRow wc.heap.size 5 1 v9 b.length (valb b)) => HAp.out w9 v9 (hdc.below hb) (Nat.le_trans hbw (Nat.le_trans hzc hb.size)) (rb_of_own ho hy (by have := HUl.out; omega)))
      rw [Hnb.out] at HByc HApc
      have HMv := hide (fun w8 (hb : Below wc.heap.size wc w8) w9 v' (m : Mv w8 w9 g v v') => (⟨(hwc.below hb).mvd (hdc.below hb) m, (hdc.below hb).apart m ((hb.block _ (Array.getElem?_eq_some_iff.1 hbx).1).trans hbx) (by decide) (by decide), (hdc.below hb).apart_row m (own_below how hb) (by decide) (by decide)⟩ : Wy w9 base xb lv vo vu p q id es st ∧ w9.heap[bx]? = some _ ∧ w9.ownsRow w.heap.size 83 1 (.slice a8 (mrM sum8 b).l.length k8) (mrM sum8 b).l.length (vals (mrM sum8 b).l)))
      clear HF HBy HAp
      go_upto_region 14 with (first
       | (go_at_call 48; refine HFc.out.mono ?_; rintro e w8 ⟨v8, rfl, _, hw8⟩; rw [hw8]; clear hw8)
       | (go_at_call 36; refine HByc.out.mono ?_; rintro e w8 ⟨v8, rfl, ho8, hb8⟩; have HAp8 := hide (HApc.out w8 v8 hb8 ho8); have HMv8 := hide (HMv.out w8 hb8); have hzd := hb8.size; obtain ⟨a7, k7, rfl⟩ := own_form ho8; clear ho8)
       | (go_at_call 52; refine HAp8.out.mono ?_; rintro e w9 ⟨v9, rfl, hd9, hm9⟩))
      obtain ⟨hw9, hx9, ho9⟩ := HMv8.out w9 v9 hm9
      have hex9 := Ex.after (Below.next hbel hb8) (Ex.of_mv xb lv hm9)
      have hzz := hex9.kq.size
      have hdw : Below w9.heap.size w9 w9.drew := (Below.refl _ w9).drew
      have hwd9 := hw9.below hdw
      have hA8 := (alloc_below w9 (.cells #[.int .i64 (mrM sum8 b).r, .slice a8 (mrM sum8 b).l.length k8] 109)).drew
      have hn8 : (w9.alloc (.cells #[.int .i64 (mrM sum8 b).r, .slice a8 (mrM sum8 b).l.length k8] 109)).drew.heap[w9.heap.size]? = some (.cells #[.int .i64 (mrM sum8 b).r, .slice a8 (mrM sum8 b).l.length k8] 109 (0, 0)) := heap_alloc_new w9 (.cells #[.int .i64 (mrM sum8 b).r, .slice a8 (mrM sum8 b).l.length k8] 109)
      have hlen := hw9.hl.len
      obtain ⟨lv9, w12, hr9, ho12, hg9, hat9⟩ := appH (W := (w9.alloc (.cells #[.int .i64 (mrM sum8 b).r, .slice a8 (mrM sum8 b).l.length k8] 109)).drew) (own_below hw9.hl.row hA8) w9.heap.size (mrM sum8 b).r (.slice a8 (mrM sum8 b).l.length k8) (cell_at hn8 rfl) (cell_at hn8 rfl) rfl (by omega) (by have := hA8.size; omega)
      have hbx9 := (hA8.block _ (Array.getElem?_eq_some_iff.1 hx9).1).trans hx9
      have hsh9 := own_below ho9 hA8
      have hwA := hw9.below hA8
      have hnl : lv.ownBlock ≠ some bx := fun e => by have := (HH.out.hl.row.lt bx e).2; omega
      obtain ⟨z12, zf12⟩ := hwA.grown hg9
      obtain ⟨⟨g0, g1⟩, gf, _⟩ := held_box hx9
      obtain ⟨⟨j0, j1⟩, _, _⟩ := held_box hbx9
      obtain ⟨⟨i0, i1⟩, _, _⟩ := held_box ((hg9.block bx (Array.getElem?_eq_some_iff.1 hbx9).1 (fun e => hnl e.symm)).trans hbx9)
      obtain ⟨hwt, hkt⟩ := hwA.app ho12 hg9 hat9 (own_mono hsh9 hbw)
      have hdt := (hd9.below hA8).xv hwA hkt
      have hex := (hex9.next hA8).trans (Ex.of_xv (lv' := lv9) g v9 hkt (fun j hj => by
       rcases hat9 with h1 | h1
       · exact .inl (by rw [<- h1]; exact hj)
       · rw [h1] at hj
         injection hj with hj
         exact .inr (Nat.le_of_eq hj)))
      have bxt := (hkt.block bx ⟨(Array.getElem?_eq_some_iff.1 hbx9).1, by omega, hnl⟩).trans hbx9
      have hot := hkt.own hsh9 (fun j hj => ⟨(hsh9.lt j hj).2, fun e => own_notO hsh9 hwA.blk (by decide) (by rw [hj, e]), own_kindO hsh9 hwA.hl.row (by decide) j hj⟩)
      have y12 := hw9.cells.2.2.1
      have yd12 := hwd9.cells.2.2.1
      have ya12 := hwA.cells.2.2.1
      obtain ⟨al, cl, hlv, _⟩ := own_spellO hw9.hl.row
      obtain ⟨a9, c9, hv9, _⟩ := own_spellO ho12
      rw [hv9] at hr9 hwt hdt hex bxt hot hkt
      rw [hlv] at hr9 z12 y12 yd12 ya12
      rw [hlen] at *
      have hS0 : w9.drew.cell? ⟨xb, 12, none⟩ = some (.slice al st.L.length cl) ∧ w9.drew.cell? ⟨bx, 0, none⟩ = some (.int .i64 (mrM sum8 b).r) ∧ w9.drew.cell? ⟨bx, 1, none⟩ = some (.slice a8 (mrM sum8 b).l.length k8) := ⟨yd12, g0, g1⟩
      have hS1 : (w9.alloc (.cells #[.int .i64 (mrM sum8 b).r, .slice a8 (mrM sum8 b).l.length k8] 109)).drew.cell? ⟨xb, 12, none⟩ = some (.slice al st.L.length cl) ∧ (w9.alloc (.cells #[.int .i64 (mrM sum8 b).r, .slice a8 (mrM sum8 b).l.length k8] 109)).drew.cell? ⟨bx, 0, none⟩ = some (.int .i64 (mrM sum8 b).r) ∧ (w9.alloc (.cells #[.int .i64 (mrM sum8 b).r, .slice a8 (mrM sum8 b).l.length k8] 109)).drew.cell? ⟨bx, 1, none⟩ = some (.slice a8 (mrM sum8 b).l.length k8) := ⟨ya12, j0, j1⟩
      have hS2 : w12.cell? ⟨xb, 12, none⟩ = some (.slice al st.L.length cl) ∧ w12.cell? ⟨bx, 0, none⟩ = some (.int .i64 (mrM sum8 b).r) ∧ w12.cell? ⟨bx, 1, none⟩ = some (.slice a8 (mrM sum8 b).l.length k8) := ⟨z12, i0, i1⟩
      have HX5 : Hid (∀ V : World, V.cell? ⟨xb, 12, none⟩ = some (.slice al st.L.length cl) ∧ V.cell? ⟨bx, 0, none⟩ = some (.int .i64 (mrM sum8 b).r) ∧ V.cell? ⟨bx, 1, none⟩ = some (.slice a8 (mrM sum8 b).l.length k8) -> (loadVar 109 ⟨bx, 0, none⟩).run Tryz.prog V = .ok (.agg #[.int .i64 (mrM sum8 b).r, .slice a8 (mrM sum8 b).l.length k8]) V) := fun V h => by
       obtain ⟨_, x0, x1⟩ := h
       simp [go_sem, x0, x1]
      clear HFc HByc HApc HMv HAp8 HMv8 b0 b1 bf hwc hdc hbx hm9 hw9 hx9 ho9 hd9 hex9 hdw hwd9 hA8 hn8 hlen ho12 hg9 hat9 hbx9 hsh9 hwA g0 g1 gf j0 j1 i0 i1 hkt y12 yd12 ya12 hlv hv9 HBl
      refine wp_region_mute (S := (fun V => V.cell? ⟨xb, 12, none⟩ = some (.slice al st.L.length cl) ∧ V.cell? ⟨bx, 0, none⟩ = some (.int .i64 (mrM sum8 b).r) ∧ V.cell? ⟨bx, 1, none⟩ = some (.slice a8 (mrM sum8 b).l.length k8))) (by kernel_rfl) (by kernel_rfl) rfl (by ((try dsimp only) <;> (first | with_reducible exact hS0 | with_reducible exact hS1 | with_reducible exact hS2))) (fun hHeld => ?_)
      simp only [muteL, mute]
      refine tkY 0 ?_
      refine tkY 1 ?_
      refine tkY 2 ?_
      refine tkY 3 ?_
      refine tkY 4 ?_
      refine tkY 5 ?_ (hy := by (intro w hSw; (try dsimp only at hSw); simp [execOp, Instr.loadAt, Instr.sureAddr, Act.eval, HX5.out _ hSw]; with_reducible rfl))
      refine rd1 6 (fun K hK => ?_)
      (try simp only [ly0, ly1, ly2, ly3, ly4, ly5, ly6, ly7])
      go_simp
      refine hK.out _ _ (by ((try dsimp only) <;> (first | with_reducible exact hS0 | with_reducible exact hS1 | with_reducible exact hS2))) (fun hHeld => ?_)
      clear hK K
      (try simp only [ly0, ly1, ly2, ly3, ly4, ly5, ly6, ly7])
      refine rd1 7 (fun K hK => ?_)
      (
       (refine app_mute (by rfl) _ _ _ _ (by rfl) _ _ (by rfl) (by rfl) _ w12 hr9 ?_))
      refine hK.out _ _ (by ((try dsimp only) <;> (first | with_reducible exact hS0 | with_reducible exact hS1 | with_reducible exact hS2))) (fun hHeld => ?_)
      clear hK K
      (try simp only [ly0, ly1, ly2, ly3, ly4, ly5, ly6, ly7])
      refine tkY 8 ?_
      refine tkY 9 ?_
      refine tkY 10 ?_
      refine wpAnyH_done (by kernel_rfl) ?_ _
      simp only [muteQ]
      go_upto_region 15 with fail
      generalize w12.setCell ⟨xb, 12, none⟩ (.slice a9 (st.L.length + 1) c9) = w13 at *
      clear hS0 hS1 hS2 HX5 hr9
      have hHK : ∀ W, Below w13.heap.size w13 W -> (Pq24 W xb p q.inp vo vu ∧ W.cell? ⟨bx, 1, none⟩ = some (.slice a8 (mrM sum8 b).l.length k8)) ∧ (W.cell? ⟨bx, 0, none⟩ = some (.int .i64 (mrM sum8 b).r) ∧ W.cell? ⟨xb, 11, none⟩ = some (.int .i64 id) ∧ W.cell? ⟨xb, 0, none⟩ = some (.int .u8 p.f)) := fun W hb => by
       have h1 := hwt.below hb
       have h2 := (hb.block _ (Array.getElem?_eq_some_iff.1 bxt).1).trans bxt
       obtain ⟨k0, k1, _, _⟩ := h1.cells
       exact ⟨⟨h1.pq, cell_at h2 rfl⟩, cell_at h2 rfl, k1, k0⟩
      have HK := hide hHK
      have hpt := hpm w13 (HH.out.exb HD.out hex)
      have HR := hide (dReply16 p q _ _ (mrM sum8 b).l w13.drew hf.ok (hpt.below (Below.refl w13.heap.size w13).drew) (rw_of_own (own_below hot (Below.refl w13.heap.size w13).drew) hll hwd.2))
      have HRw := hide (rp_wd p q (xs := (mrM sum8 b).l) hwd.2)
      have HWr := hide (fun V s2 (hr : Row V s2 (rpL p q (mrM sum8 b).l)) => dWriteM ⟨2, (mrM sum8 b).r, id, p.f, rpL p q (mrM sum8 b).l⟩ s2 V ⟨hmd, hr⟩)
      unfold Gives at HR
      unfold GivesB at HWr
      rw [hmE] at HWr
      obtain ⟨vo1, vu1, e, ho, hu⟩ := hpt.form
      injection e with e
      injection e with e
      injection e with _ e
      injection e with e1 e
      injection e with e2 _
      subst e1 e2
      obtain ⟨ao, ca, hvo, _⟩ := ho.spell
      obtain ⟨au, cu, hvu, _⟩ := hu.spell
      rw [hvo, hvu] at HR HK
      have HEnd := hide (fun W (hb : Below w13.heap.size w13 W) => (⟨hwt.below hb, hdt.below hb, hex.next hb⟩ : Wy W base xb _ _ _ p q id _ _ ∧ Dy W base g _ _ ∧ Ex w W xb g _ _ _ _))
      have HSz := hide hex.kq.size
      have HX3 := hide (fun (V : World) (hV : Pq24 V xb p q.inp (.slice ao q.ops.length ca) (.slice au q.outs.length cu) ∧ V.cell? ⟨bx, 1, none⟩ = some (.slice a8 (mrM sum8 b).l.length k8)) => load_pln24 hV.1)
      have HX7 := hide (fun (V : World) (hV : Pq24 V xb p q.inp (.slice ao q.ops.length ca) (.slice au q.outs.length cu) ∧ V.cell? ⟨bx, 1, none⟩ = some (.slice a8 (mrM sum8 b).l.length k8)) => load_prg24 hV.1)
      have hS0 := (HK.out w13.drew (Below.refl _ w13).drew).1
      rw [plan_eq] at HR
      unfold mgv mgc at HWr
      dsimp only at HWr
      clear hHK hpt ho hu hvo hvu hwt hdt hex bxt hot how hbel
      generalize (mrM sum8 b).l.length = n7 at *
      generalize rpE p q (mrM sum8 b).l = e7 at *
      refine wp_region_held_drew (S := (fun V => Pq24 V xb p q.inp (.slice ao q.ops.length ca) (.slice au q.outs.length cu) ∧ V.cell? ⟨bx, 1, none⟩ = some (.slice a8 n7 k8))) (by kernel_rfl) (by ((try dsimp only) <;> (first | with_reducible exact hS0 | with_reducible exact hS1))) (fun hHeld => ?_)
      refine tkY 0 ?_
      refine tkY 1 ?_
      refine tkY 2 ?_
      refine tkY 3 ?_ (hy := by (intro w hSw; (try dsimp only at hSw); simp [execOp, Instr.loadAt, Instr.sureAddr, Act.eval, HX3.out _ hSw]; with_reducible rfl))
      refine tkY 4 ?_
      refine tkY 5 ?_
      refine tkY 6 ?_
      refine tkY 7 ?_ (hy := by (intro w hSw; (try dsimp only at hSw); simp [execOp, Instr.loadAt, Instr.sureAddr, Act.eval, HX7.out _ hSw]; with_reducible rfl))
      refine tkY 8 ?_
      refine tkY 9 ?_
      refine rd1 10 (fun K hK => ?_)
      (try simp only [ly0, ly1, ly2, ly3, ly4, ly5, ly6, ly7])
      go_simp
      (
       (go_at_call 31; refine HR.out.mono ?_; rintro e w11 ⟨v11, rfl, ho11, hb11⟩; have hb11' := (Below.refl w13.heap.size w13).drew.trans (hb11.mono (Nat.le_refl _)); have hS1 := (HK.out w11 hb11').1; have HY := hide (HWr.out w11.drew v11 (HRw.out.row (own_below ho11 (Below.refl w11.heap.size w11).drew)).1); have hS2 := (HK.out w11.drew (hb11'.drew)).2; obtain ⟨a11, k11, rfl⟩ := own_form ho11))
      first | refine hK.out _ _ ?k29 (fun hHeld => ?_) | (go_wp2_with fail; refine hK.out _ _ ?k29 (fun hHeld => ?_))
      case k29 => ((try dsimp only) <;> (first | with_reducible exact hS0 | with_reducible exact hS1))
      clear hK K
      (try simp only [ly0, ly1, ly2, ly3, ly4, ly5, ly6, ly7])
      refine tkY 11 ?_
      refine tkY 12 ?_
      refine tkY 13 ?_
      refine tkY 14 ?_
      refine tkY 15 ?_
      refine wpAnyH_done (by kernel_rfl) ?_ _
      clear hS0 hS1 HX3 HX7 HR HWr ho11
      generalize (rpL p q (mrM sum8 b).l).length = n8 at *
      go_upto_region 16 with fail
      refine wp_region_held_drew (S := (fun V => V.cell? ⟨bx, 0, none⟩ = some (.int .i64 (mrM sum8 b).r) ∧ V.cell? ⟨xb, 11, none⟩ = some (.int .i64 id) ∧ V.cell? ⟨xb, 0, none⟩ = some (.int .u8 p.f))) (by kernel_rfl) (by ((try dsimp only) <;> (first | with_reducible exact hS2 | with_reducible exact hS3))) (fun hHeld => ?_)
      refine tkY 0 ?_
      refine tkY 1 ?_
      refine tkY 2 ?_
      refine tkY 3 ?_
      refine tkY 4 ?_
      refine tkY 5 ?_
      refine tkY 6 ?_
      refine tkY 7 ?_
      refine tkY 8 ?_
      refine tkY 9 ?_
      refine tkY 10 ?_
      refine tkY 11 ?_
      refine tkY 12 ?_
      refine rd1 13 (fun K hK => ?_)
      (try simp only [ly0, ly1, ly2, ly3, ly4, ly5, ly6, ly7])
      go_simp
      (
       (go_at_call 35; refine HY.out.mono ?_; rintro e w12 ⟨v12, rfl, ho12, hb12⟩; have hb12' := Below.next hb11' ((Below.refl w11.heap.size w11).drew.trans (hb12.mono (Nat.le_refl _))); have hS3 := (HK.out w12 hb12').2))
      first | refine hK.out _ _ ?k30 (fun hHeld => ?_) | (go_wp2_with fail; refine hK.out _ _ ?k30 (fun hHeld => ?_))
      case k30 => ((try dsimp only) <;> (first | with_reducible exact hS2 | with_reducible exact hS3))
      clear hK K
      (try simp only [ly0, ly1, ly2, ly3, ly4, ly5, ly6, ly7])
      refine tkY 14 ?_
      refine tkY 15 ?_
      refine tkY 16 ?_
      refine tkY 17 ?_
      refine wpAnyH_done (by kernel_rfl) ?_ _
      go_wp2
      go_ret2
      obtain ⟨r1, r2, r3⟩ := HEnd.out w12 hb12'
      exact ⟨_, _, _, v12, rfl, r1, r2, own_mono ho12 (Nat.le_trans HSz.out hb11'.size), r3⟩
    · obtain ⟨e1, e2, e3, e4⟩ := on_fail (D := D) (rpL p q) hx hs hfn hae
      rw [e1, e2, e3, e4]
      have q0 : (apE23 sum8 D b != 0) = true := bne_iff_ne.2 hae
      generalize apE23 sum8 D b = ae at *
      clear e1 e2 e3 e4 h hd hu hst hnn hfn hae
      have HX := hide hx
      clear hx
      have HS := hide hs
      clear hs
      have HSA := hide (dShare_one p id u b w HU.out)
      have HSB := hide (dShare_two p id u b w HU.out)
      rw [plan_eq] at HSA HSB
      subst hue
      have HUl := hide hul
      obtain ⟨nb, Hnb⟩ : ∃ nb, Hid (b.length = nb) := ⟨_, rfl⟩
      rw [Hnb.out] at HSA HSB ⊢
      clear HU hul
      go_enter Tryz.func12, Tryz.ntmps12
      go_upto_region 3 with fail
      go_cut [8, 9] from 19 to 31 (fun v8 v9 wx => ∃ bx a8 k8, v8 = .pointer (some ⟨bx, 0, none⟩) ∧ v9 = .bool (shB sum8 p.f p.w id b) ∧ Hid (Shx w wx bx p id b (.slice a8 (shX p id b).length k8)))
      case first =>
       generalize shB sum8 p.f p.w id b = BB at *
       refine wp_region_held_drew (S := (fun V => Plc V xb p ∧ V.cell? ⟨xb, 11, none⟩ = some (.int .i64 id))) (by kernel_rfl) (by ((try dsimp only) <;> (first | with_reducible exact hS0 | with_reducible exact hS1 | with_reducible exact hS2 _ | with_reducible exact hS3 _ | with_reducible exact hS4))) (fun hHeld => ?_)
       refine tkY 0 ?_
       refine tkY 1 ?_
       refine tkY 2 ?_
       refine tkY 3 ?_ (hy := by (intro w hSw; (try dsimp only at hSw); simp [execOp, Instr.loadAt, Instr.sureAddr, Act.eval, HX3.out _ hSw]; with_reducible rfl))
       refine tkY 4 ?_
       refine tkY 5 ?_
       refine tkY 6 ?_
       refine tkY 7 ?_
       refine tkY 8 ?_
       refine wpAnyH_ready (rs := [9, 13]) (by kernel_rfl) (by simp) ?_
       refine AllReadyH.cons (o := _) rfl (fun K hK => ?way31x0) (AllReadyH.cons (o := _) rfl (fun K hK => ?way31x1) AllReadyH.nil)
       case' way31x0 =>
        (try simp only [ly0, ly1, ly2, ly3, ly4, ly5, ly6, ly7])
        go_simp
        (first
         | (go_at_call 47; with_reducible refine HSA.out.mono ?_; rintro e w8 ⟨a8, k8, rfl, hX8, hb8⟩; have hS1 := HKp.out _ hb8; have hS2 := fun ob => HKp.out _ (Below.next hb8 (alloc_below w8 ob)))
         | (go_at_call 47; with_reducible refine HSB.out.mono ?_; rintro e w8 ⟨a8, k8, rfl, ⟨z0, z1, zf⟩, hX8, hb8⟩; have hS1 := HKp.out _ hb8; have hS4 := HKp.out _ hX8.bel))
        first | refine hK.out _ _ ?k32 (fun hHeld => ?_) | (go_wp2_with fail; refine hK.out _ _ ?k32 (fun hHeld => ?_))
        case k32 => ((try dsimp only) <;> (first | with_reducible exact hS0 | with_reducible exact hS1 | with_reducible exact hS2 _ | with_reducible exact hS3 _ | with_reducible exact hS4))
        clear hK K
        (try simp only [ly0, ly1, ly2, ly3, ly4, ly5, ly6, ly7])
        refine tkY 10 ?_
        refine tkY 11 ?_
        refine tkY 12 ?_
        refine rd1 13 (fun K hK => ?_)
        (try simp only [ly0, ly1, ly2, ly3, ly4, ly5, ly6, ly7])
        go_simp
        refine hK.out _ _ (by ((try dsimp only) <;> (first | with_reducible exact hS0 | with_reducible exact hS1 | with_reducible exact hS2 _ | with_reducible exact hS3 _ | with_reducible exact hS4))) (fun hHeld => ?_)
        clear hK K
        (try simp only [ly0, ly1, ly2, ly3, ly4, ly5, ly6, ly7])
        refine rd1 14 (fun K hK => ?_)
        (try simp only [ly0, ly1, ly2, ly3, ly4, ly5, ly6, ly7])
        go_simp
        refine hK.out _ _ (by ((try dsimp only) <;> (first | with_reducible exact hS0 | with_reducible exact hS1 | with_reducible exact hS2 _ | with_reducible exact hS3 _ | with_reducible exact hS4))) (fun hHeld => ?_)
        clear hK K
        (try simp only [ly0, ly1, ly2, ly3, ly4, ly5, ly6, ly7])
        refine tkY 15 ?_
        refine wpAnyH_done (by kernel_rfl) ?_ _
       case' way31x1 =>
        (try simp only [ly0, ly1, ly2, ly3, ly4, ly5, ly6, ly7])
        go_simp
        refine hK.out _ _ (by ((try dsimp only) <;> (first | with_reducible exact hS0 | with_reducible exact hS1 | with_reducible exact hS2 _ | with_reducible exact hS3 _ | with_reducible exact hS4))) (fun hHeld => ?_)
        clear hK K
        (try simp only [ly0, ly1, ly2, ly3, ly4, ly5, ly6, ly7])
        refine rd1 9 (fun K hK => ?_)
        (try simp only [ly0, ly1, ly2, ly3, ly4, ly5, ly6, ly7])
        go_simp
        (first
         | (go_at_call 47; with_reducible refine HSA.out.mono ?_; rintro e w8 ⟨a8, k8, rfl, hX8, hb8⟩; have hS1 := HKp.out _ hb8; have hS2 := fun ob => HKp.out _ (Below.next hb8 (alloc_below w8 ob)))
         | (go_at_call 47; with_reducible refine HSB.out.mono ?_; rintro e w8 ⟨a8, k8, rfl, ⟨z0, z1, zf⟩, hX8, hb8⟩; have hS1 := HKp.out _ hb8; have hS4 := HKp.out _ hX8.bel))
        first | refine hK.out _ _ ?k33 (fun hHeld => ?_) | (go_wp2_with fail; refine hK.out _ _ ?k33 (fun hHeld => ?_))
        case k33 => ((try dsimp only) <;> (first | with_reducible exact hS0 | with_reducible exact hS1 | with_reducible exact hS2 _ | with_reducible exact hS3 _ | with_reducible exact hS4))
        clear hK K
        (try simp only [ly0, ly1, ly2, ly3, ly4, ly5, ly6, ly7])
        refine tkY 10 ?_
        refine tkY 11 ?_
        refine tkY 12 ?_
        refine rd1 14 (fun K hK => ?_)
        (try simp only [ly0, ly1, ly2, ly3, ly4, ly5, ly6, ly7])
        go_simp
        refine hK.out _ _ (by ((try dsimp only) <;> (first | with_reducible exact hS0 | with_reducible exact hS1 | with_reducible exact hS2 _ | with_reducible exact hS3 _ | with_reducible exact hS4))) (fun hHeld => ?_)
        clear hK K
        (try simp only [ly0, ly1, ly2, ly3, ly4, ly5, ly6, ly7])
        refine tkY 15 ?_
        refine wpAnyH_done (by kernel_rfl) ?_ _
       all_goals
        go_wp2
        go_meet
        exact ⟨_, _, _, rfl, rfl, hX8⟩
      obtain ⟨bx, a8, k8, rfl, rfl, HSx⟩ := hcut
      have hbel := HSx.out.bel
      clear HSA HSB HKp HX3 hS0 hS3
      rw [HS.out]
      have hbx := HSx.out.box
      have how := HSx.out.own
      have hblow := HSx.out.low
      rw [HEr.out, HEx.out] at hbx
      rw [HEx.out] at how
      clear HSx
      obtain ⟨⟨b0, b1⟩, bf, bl⟩ := held_box hbx
      have HBl := hide bl
      clear bl
      have hwc := HH.out.below hbel
      have hdc := HD.out.below hbel
      have hzc := hbel.size
      have HFc := hide (HF.out wc hwc)
      have HByc := hide (HBy.out wc hbel)
      have HApc := hide (fun w9 v9 (hb : Below wc.heap.size wc w9) (ho : w9.ownsRow wc.heap.size 5 1 v9 b.length (valb b)) => HAp.out w9 v9 (hdc.below hb) (Nat.le_trans hbw (Nat.le_trans hzc hb.size)) (rb_of_own ho hy (by have := HUl.out; omega)))
      rw [Hnb.out] at HByc HApc
      have HMv := hide (fun w9 (hb : Below wc.heap.size wc w9) w10 v' (m : Mv w9 w10 g v v') => (hwc.below hb).mvd (hdc.below hb) m)
      clear HF HBy HAp
      go_upto_region 12 with (first
       | (go_at_call 48; refine HFc.out.mono ?_; rintro e w8 ⟨v8, rfl, _, hw8⟩; rw [hw8]; clear hw8)
       | (go_at_call 36; refine HByc.out.mono ?_; rintro e w9 ⟨v9, rfl, ho9, hb9⟩; have HAp9 := hide (HApc.out w9 v9 hb9 ho9); have HMv9 := hide (HMv.out w9 hb9); obtain ⟨a9, k9, rfl⟩ := own_form ho9; clear ho9)
       | (go_at_call 52; refine HAp9.out.mono ?_; rintro e w10 ⟨v10, rfl, hd10, hm10⟩))
      have hw10 := HMv9.out w10 v10 hm10
      obtain ⟨_, _, _, d13⟩ := hw10.cells
      have hf10 := hw10.free
      obtain ⟨hw11, hk11⟩ := hw10.down
      have hd11 := hd10.xv hw10 hk11
      have hex := (Ex.after (Below.next hbel hb9) (Ex.of_mv xb lv hm10)).trans (Ex.of_xv g v10 hk11 (fun j hj => .inl hj))
      clear HFc HByc HApc HMv HAp9 HMv9 b0 b1 bf hwc hdc hm10 hd10 hw10 hk11
      go_wp2
      go_ret2
      exact ⟨v10, lv, es, _, rfl, hw11, hd11, World.ownsRow_nil _ _ _ _, hex⟩
section
variable {W W' : World} {base base2 base3 kb mb xb g gt : Nat} {v v' u u' lv lv' vo vu vo' vu' : Value} {p p' : Pn} {q q' : Pr} {id id' : Int} {es : List Hde} {st st' : Wk} {D E : Dsk}
theorem Wy.kept {S : Nat -> Prop} (h : Wy W base xb lv vo vu p q id es st) (k : Kq S W W') (h1 : S xb) (hr : ∀ T s x n xs, (T = 83 ∨ T = 109) -> W.ownsRow base T s x n xs -> ∀ j, x.ownBlock = some j -> S j) : Wy W' base xb lv vo vu p q id es st :=
 ⟨(k.block xb h1).trans h.blk, h.hl.kept k hr, h.low⟩
theorem Wy.mvp (h : Wy W base xb lv vo vu p q id es st) (hd : Hd W base2 g v D) (m : Mv W W' g v v') : Wy W' base xb lv vo vu p q id es st := by
 refine h.kept m.kq ⟨h.lt, fun e => ?_, own_notO hd.row h.blk (by decide)⟩ (fun T s x n xs hT ho j hj => ⟨(ho.lt j hj).2, fun e => ?_, own_kindO ho hd.row (by rcases hT with rfl | rfl <;> decide) j hj⟩)
 · have h1 := hd.dsk
   rw [<- e, h.blk] at h1
   simp at h1
 · subst e
   exact own_notO ho hd.dsk (by rcases hT with rfl | rfl <;> decide) hj
theorem Wy.ev (h : Wy W base xb lv vo vu p q id es st) (hp : Wp W base2 kb mb g vo' vu' p' q' id' st') (hd : Hd W base3 g v D) (m : Ev W W' kb mb g v v') : Wy W' base xb lv vo vu p q id es st := by
 obtain ⟨es', c, ho'⟩ := hp.map.obj
 refine h.kept m.kq ⟨⟨h.lt, fun e => ?_, own_notO hd.row h.blk (by decide)⟩, fun e => ?_, fun e => ?_⟩ (fun T s x n xs hT ho j hj => ⟨⟨(ho.lt j hj).2, fun e => ?_, own_kindO ho hd.row (by rcases hT with rfl | rfl <;> decide) j hj⟩, fun e => ?_, fun e => ?_⟩)
 · have h1 := hd.dsk
   rw [<- e, h.blk] at h1
   simp at h1
 · have h1 := hp.blk
   rw [<- e, h.blk] at h1
   simp at h1
 · rw [<- e, h.blk] at ho'
   cases ho'
 · subst e
   exact own_notO ho hd.dsk (by rcases hT with rfl | rfl <;> decide) hj
 · subst e
   exact own_notO ho hp.blk (by rcases hT with rfl | rfl <;> decide) hj
 · subst e
   exact own_map ho ho' hj
theorem Dy.ev (h : Dy W base gt u E) (hp : Wp W base2 kb mb g vo' vu' p' q' id' st') (hd : Hd W base3 g v D) (m : Ev W W' kb mb g v v') : Dy W' base gt u E := by
 obtain ⟨ds, h⟩ := h
 obtain ⟨es', c, ho'⟩ := hp.map.obj
 have key : ∀ {T : TypeId} {s n : Nat} {x : Value} {xs : List Value}, (T = 30 ∨ T = 5) -> W.ownsRow base T s x n xs -> ∀ j, x.ownBlock = some j -> Wv W kb mb g v.ownBlock j := fun {T} {s} {n} {x} {xs} hT ho j hj => by
  refine ⟨⟨(ho.lt j hj).2, fun e => ?_, own_kindO ho hd.row (by rcases hT with rfl | rfl <;> decide) j hj⟩, fun e => ?_, fun e => ?_⟩
  · subst e
    exact own_notO ho hd.dsk (by rcases hT with rfl | rfl <;> decide) hj
  · subst e
    exact own_notO ho hp.blk (by rcases hT with rfl | rfl <;> decide) hj
  · subst e
    exact own_map ho ho' hj
 refine ⟨ds, h.kept m.kq ⟨⟨h.lt, fun e => ?_, own_notO hd.row h.dsk (by decide)⟩, fun e => ?_, fun e => ?_⟩ (key (.inl rfl) h.row) (fun e he => key (.inr rfl) (h.each e he))⟩
 · have h1 := hd.dsk
   rw [<- e, h.dsk] at h1
   simp at h1
 · have h1 := hp.blk
   rw [<- e, h.dsk] at h1
   simp at h1
 · rw [<- e, h.dsk] at ho'
   cases ho'
theorem Wp.mvy (h : Wp W base kb mb g vo vu p q id st) (hd : Dy W base2 gt u E) (m : Mv W W' gt u u') : Wp W' base kb mb g vo vu p q id st := by
 obtain ⟨ds, hd⟩ := hd
 obtain ⟨es', c, ho'⟩ := h.map.obj
 refine h.kept m.kq ⟨h.lt, fun e => ?_, own_notO hd.row h.blk (by decide)⟩ ⟨h.map.lt, fun e => ?_, own_map hd.row ho'⟩ (fun T s x n xs hT ho j hj => ⟨(ho.lt j hj).2, fun e => ?_, own_kindO ho hd.row (by rcases hT with rfl | rfl | rfl <;> decide) j hj⟩)
 · have h1 := hd.dsk
   rw [<- e, h.blk] at h1
   simp at h1
 · have h1 := hd.dsk
   rw [<- e, ho'] at h1
   cases h1
 · subst e
   exact own_notO ho hd.dsk (by rcases hT with rfl | rfl | rfl <;> decide) hj
theorem Wp.ex (h : Wp W base kb mb g vo vu p q id st) (hy : Wy W base2 xb lv vo' vu' p' q' id' es st') (hd : Dy W base3 gt u E) (m : Ex W W' xb gt lv u lv' u') : Wp W' base kb mb g vo vu p q id st := by
 obtain ⟨ds, hd⟩ := hd
 obtain ⟨es', c, ho'⟩ := h.map.obj
 refine h.kept m.kq ⟨⟨h.lt, fun e => ?_, own_notO hd.row h.blk (by decide)⟩, fun e => ?_, own_notO hy.hl.row h.blk (by decide)⟩ ⟨⟨h.map.lt, fun e => ?_, own_map hd.row ho'⟩, fun e => ?_, own_map hy.hl.row ho'⟩ (fun T s x n xs hT ho j hj => ⟨⟨(ho.lt j hj).2, fun e => ?_, own_kindO ho hd.row (by rcases hT with rfl | rfl | rfl <;> decide) j hj⟩, fun e => ?_, own_kindO ho hy.hl.row (by rcases hT with rfl | rfl | rfl <;> decide) j hj⟩)
 · have h1 := hd.dsk
   rw [<- e, h.blk] at h1
   simp at h1
 · have h1 := hy.blk
   rw [<- e, h.blk] at h1
   simp at h1
 · have h1 := hd.dsk
   rw [<- e, ho'] at h1
   cases h1
 · have h1 := hy.blk
   rw [<- e, ho'] at h1
   cases h1
 · subst e
   exact own_notO ho hd.dsk (by rcases hT with rfl | rfl | rfl <;> decide) hj
 · subst e
   exact own_notO ho hy.blk (by rcases hT with rfl | rfl | rfl <;> decide) hj
theorem Hd.ex (h : Hd W base g v D) (hy : Wy W base2 xb lv vo' vu' p' q' id' es st') (hd : Dy W base3 gt u E) (m : Ex W W' xb gt lv u lv' u') : Hd W' base g v D := by
 obtain ⟨ds, hd⟩ := hd
 refine h.kept m.kq ⟨⟨h.lt, fun e => ?_, own_notO hd.row h.dsk (by decide)⟩, fun e => ?_, own_notO hy.hl.row h.dsk (by decide)⟩ (fun j hj => ⟨⟨(h.own_lt j hj).2, fun e => ?_, own_kindO h.row hd.row (by decide) j hj⟩, fun e => ?_, own_kindO h.row hy.hl.row (by decide) j hj⟩)
 · have h1 := hd.dsk
   rw [<- e, h.dsk] at h1
   simp at h1
 · have h1 := hy.blk
   rw [<- e, h.dsk] at h1
   simp at h1
 · subst e
   exact own_notO h.row hd.dsk (by decide) hj
 · subst e
   exact own_notO h.row hy.blk (by decide) hj
theorem ev_row {lo s n : Nat} {T : TypeId} {x : Value} {xs : List Value} (ho : W.ownsRow lo T s x n xs) (h1 : 102 ≠ T) (h2 : 93 ≠ T) (h3 : T ≠ 123) (hp : Wp W base2 kb mb g vo' vu' p' q' id' st') (hd : Hd W base3 g v D) (m : Ev W W' kb mb g v v') : W'.ownsRow lo T s x n xs := by
 obtain ⟨es', c, ho'⟩ := hp.map.obj
 refine m.kq.own ho (fun j hj => ⟨⟨(ho.lt j hj).2, fun e => ?_, own_kindO ho hd.row h3 j hj⟩, fun e => ?_, fun e => ?_⟩)
 · subst e
   exact own_notO ho hd.dsk h2 hj
 · subst e
   exact own_notO ho hp.blk h1 hj
 · subst e
   exact own_map ho ho' hj
theorem ex_row {lo s n : Nat} {T : TypeId} {x : Value} {xs : List Value} (ho : W.ownsRow lo T s x n xs) (h1 : 45 ≠ T) (h2 : 37 ≠ T) (h3 : T ≠ 30) (h4 : T ≠ 109) (hy : Wy W base2 xb lv vo' vu' p' q' id' es st') (hd : Dy W base3 gt u E) (m : Ex W W' xb gt lv u lv' u') : W'.ownsRow lo T s x n xs := by
 obtain ⟨ds, hd⟩ := hd
 refine m.kq.own ho (fun j hj => ⟨⟨(ho.lt j hj).2, fun e => ?_, own_kindO ho hd.row h3 j hj⟩, fun e => ?_, own_kindO ho hy.hl.row h4 j hj⟩)
 · subst e
   exact own_notO ho hd.dsk h2 hj
 · subst e
   exact own_notO ho hy.blk h1 hj
theorem ev_blk {b : Nat} {cs : Array Value} {T : TypeId} (hb : W.heap[b]? = some (.cells cs T (0, 0))) (h1 : T ≠ 102) (h2 : T ≠ 93) (h3 : T ≠ 123) (hp : Wp W base2 kb mb g vo' vu' p' q' id' st') (hd : Hd W base3 g v D) (m : Ev W W' kb mb g v v') : W'.heap[b]? = some (.cells cs T (0, 0)) := by
 obtain ⟨es', c, ho'⟩ := hp.map.obj
 refine (m.kq.block b ⟨⟨(Array.getElem?_eq_some_iff.1 hb).1, fun e => ?_, own_notO hd.row hb h3⟩, fun e => ?_, fun e => ?_⟩).trans hb
 · subst e
   rw [hd.dsk] at hb
   injection hb with hb
   injection hb with _ hb
   exact h2 hb.symm
 · subst e
   rw [hp.blk] at hb
   injection hb with hb
   injection hb with _ hb
   exact h1 hb.symm
 · subst e
   rw [ho'] at hb
   cases hb
end
structure TwoW (w W : World) (base g gt kb xb : Nat) (vo vu : Value) (p : Pn) (q : Pr) (id : Int) (D : Dsk) (st : Wk) : Prop where
 pd : ∃ v, Hd W base g v D
 ds : ∃ u, Dy W base gt u D
 wk : ∃ mb vo' vu', Wp W base kb mb g vo' vu' p q id st
 wx : ∃ lv es, Wy W base xb lv vo vu p q id es st
 low : Below base w W
 sz : base <= W.heap.size
theorem TwoW.below {w W W' : World} {base g gt kb xb : Nat} {vo vu : Value} {p : Pn} {q : Pr} {id : Int} {D : Dsk} {st : Wk} (h : TwoW w W base g gt kb xb vo vu p q id D st) (hb : Below W.heap.size W W') : TwoW w W' base g gt kb xb vo vu p q id D st := by
 obtain ⟨⟨v, h1⟩, ⟨u, h2⟩, ⟨mb, vo', vu', h3⟩, ⟨lv, es, h4⟩, h5, h6⟩ := h
 exact ⟨⟨v, h1.below hb⟩, ⟨u, h2.below hb⟩, ⟨mb, vo', vu', h3.below hb⟩, ⟨lv, es, h4.below hb⟩, h5.trans (hb.mono h6), Nat.le_trans h6 hb.size⟩
def p5 : Pn := { f := 1, n := 5, k := 2, t := 1, s := 0, e := 0, w := 1, d := 2 }
def q5 : Pr := ⟨1, [⟨3, 0, 0, 0⟩], [1]⟩
def m3 (x : Int) : List Int := mwL sum8 ⟨1, 3, 0, 1, [x]⟩
def m4 : Mg := ⟨2, 3, 0, 1, [121]⟩
theorem m3_read {x : Int} (h0 : 0 <= x) (h1 : x < 2013265921) : mrE sum8 (m3 x) = 0 ∧ mrM sum8 (m3 x) = ⟨1, 3, 0, 1, [x]⟩ ∧ mwE ⟨1, 3, 0, 1, [x]⟩ = 0 := by
 have hm : mgM ⟨1, 3, 0, 1, [x]⟩ = true := by simp [mgM, inW, h1]
 have e : m3 x = slF sum8 (mgI ⟨1, 3, 0, 1, [x]⟩) := by unfold m3 mwL; rw [if_pos hm]
 obtain ⟨r1, r2⟩ := mr_of_mw sum8_bd hm (by intro y hy; simp at hy; omega)
 exact ⟨by rw [e]; exact r1, by rw [e]; exact r2, if_pos hm⟩
theorem m4_read : mrE sum8 (mwL sum8 m4) = 0 ∧ mrM sum8 (mwL sum8 m4) = m4 := by
 have hm : mgM m4 = true := by decide
 have e : mwL sum8 m4 = slF sum8 (mgI m4) := by unfold mwL; rw [if_pos hm]
 obtain ⟨r1, r2⟩ := mr_of_mw sum8_bd hm (by decide)
 exact ⟨by rw [e]; exact r1, by rw [e]; exact r2⟩
theorem ws_free : ∀ (bs : List (List Int)) (D : Dsk), D.f = -1 -> D.x = false -> (∀ b ∈ bs, b.length = 32) -> D.l.length + bs.length <= 65536 -> wsE D bs = 0
 | [], _, _, _, _, _ => rfl
 | b :: bs, D, hf, hx, h32, hl => by
  have hd : dieD D = false := by simp [dieD, hf, hx]
  have hb := h32 b List.mem_cons_self
  rw [List.length_cons] at hl
  have e : wrE22 D b = 0 := by
   unfold wrE22
   rw [if_pos hb, hd, if_neg (by decide), if_neg (by omega)]
  have en : wrN22 D b = didD D (D.l ++ [b]) := by unfold wrN22; rw [if_pos e]
  rw [wsE_cons, if_pos e, en]
  refine ws_free bs _ ?_ hx (fun b hb => h32 b (List.mem_cons_of_mem _ hb)) ?_
  · show (if 0 < D.f then D.f - 1 else D.f) = -1
    rw [if_neg (by omega), hf]
  · show (D.l ++ [b]).length + bs.length <= 65536
    rw [List.length_append, List.length_singleton]; omega
theorem new0 : opE23 sum8 dk0 = 0 ∧ opN23 sum8 dk0 = dk0 ∧ opR23 sum8 dk0 = [] := by
 have hr := (jex_new (S := sum8)).kp.read sum8_bd
 have hn : ¬ jrW (rdD sum8 dk0) < dk0.l.length := by simp [dk0]
 have e : opE23 sum8 dk0 = 0 := by unfold opE23; rw [if_neg hn]
 exact ⟨e, by unfold opN23; rw [if_neg hn], by unfold opR23; rw [if_pos e]; exact hr⟩
theorem onN_n {f wd id : Int} {st : Wk} {D : Dsk} {b : List Int} : (onN sum8 f wd id st D b).n <= D.n + 100000 := by
 unfold onN
 split
 · unfold apN23
   split
   · omega
   · have h1 := wsN_n (jrC sum8 b) D
     rw [jrC_len] at h1
     have := jrN_bd b.length
     omega
 · omega
theorem nwN_n {p : Pn} {q : Pr} {id : Int} {D : Dsk} : (nwN p q id D).n <= D.n + 100000 := by
 unfold nwN
 split
 · unfold opN23
   split
   · have := tmN_n D (jrW (rdD sum8 D) : Int); omega
   · omega
 · omega
theorem mk5 : mkB p5 q5 0 = true := by decide
theorem rp5 : rpL p5 q5 [11] = [121] := by decide
theorem ok5 : Ok8p p5 := by
 constructor
 · decide
 · simp [I64, p5]
theorem an_vals24 : nwE p5 q5 0 dk0 = 0 ∧ nwN p5 q5 0 dk0 = dk0 ∧ nwW p5 0 dk0 = ⟨[], false⟩ ∧ onE sum8 1 1 0 ⟨[], false⟩ dk0 (m3 11) = 0 ∧ onW sum8 1 1 0 ⟨[], false⟩ dk0 (m3 11) = ⟨[(3, [11])], false⟩ ∧ onL sum8 1 1 0 (rpL p5 q5) ⟨[], false⟩ dk0 (m3 11) = mwL sum8 m4 ∧ ∀ D, onE sum8 1 1 0 ⟨[(3, [11])], false⟩ D (m3 12) = 6 := by
 obtain ⟨n1, n2, n3⟩ := new0
 obtain ⟨a1, a2, _⟩ := m3_read (x := 11) (by decide) (by decide)
 obtain ⟨b1, b2, _⟩ := m3_read (x := 12) (by decide) (by decide)
 have hs1 : shB sum8 1 1 0 (m3 11) = true := by unfold shB; rw [a1, a2]; decide
 have hs2 : shB sum8 1 1 0 (m3 12) = true := by unfold shB; rw [b1, b2]; decide
 have hae : apE23 sum8 dk0 (m3 11) = 0 := by
  have hl := shB_len (by
   have := (mw_by (m := ⟨1, 3, 0, 1, [11]⟩)).1
   exact this) hs1
  unfold apE23
  rw [if_neg (by omega)]
  refine ws_free _ _ rfl rfl (ck32_32 (jrB_len sum8 _)) ?_
  rw [jrC_len]
  have := jrN_bd (m3 11).length
  show 0 + _ <= _
  omega
 have hf1 : fndW (⟨[], false⟩ : Wk).L (mrM sum8 (m3 11)).r = none := rfl
 obtain ⟨o1, _, o3, o4⟩ := on_new (D := dk0) (id := 0) (st := ⟨[], false⟩) (b := m3 11) (rpL p5 q5) (f := 1) (wd := 1) rfl hs1 hf1 hae
 refine ⟨by unfold nwE; rw [if_pos mk5]; exact n1, by unfold nwN; rw [if_pos mk5]; exact n2, by unfold nwW; rw [n3]; rfl, o1, by rw [o3, a2]; rfl, by rw [o4]; unfold onM; rw [a2]; show mwL sum8 ⟨2, 3, 0, 1, rpL p5 q5 [11]⟩ = _; rw [rp5]; rfl, fun D => ?_⟩
 refine (on_other (D := D) (id := 0) (st := ⟨[(3, [11])], false⟩) (b := m3 12) (rpL p5 q5) (f := 1) (wd := 1) rfl hs2 (xs := [11]) ?_ ?_).1
 · rw [b2]; rfl
 · rw [b2]; decide
theorem load_plc {V : World} {b : Nat} {p : Pn} (h : V.heap[b]? = some (.cells #[.int .u8 p.f, .int .i64 p.n, .int .i64 p.k, .int .i64 p.t, .int .i64 p.s, .int .i64 p.e, .int .i64 p.d, .int .i64 p.w] 24 (0, 0))) : (loadVar 24 ⟨b, 0, none⟩).run Tryz.prog V = .ok (plv p) V := by
 have := (plc_of (p := p) h).load
 rw [plan_eq]; exact this
theorem load_prc {V : World} {b : Nat} {n : Int} {vo vu : Value} (h : V.heap[b]? = some (.cells #[.int .i64 n, vo, vu] 28 (0, 0))) : (loadVar 28 ⟨b, 0, none⟩).run Tryz.prog V = .ok (.agg #[.int .i64 n, vo, vu]) V := by
 have c0 := cell_at (i := 0) h rfl
 have c1 := cell_at (i := 1) h rfl
 have c2 := cell_at (i := 2) h rfl
 simp [go_sem, c0, c1, c2]
theorem gFive (w : World) : Calls Tryz.prog 28 #[] w fun e w' => ∃ vo vu, e = .returned (.tuple #[plv p5, .agg #[.int .i64 1, vo, vu]]) ∧ Pm w' (.agg #[.int .i64 1, vo, vu]) q5 ∧ Below w.heap.size w w' := by
 go_enter Tryz.func28, Tryz.ntmps28
 go_wp2
 have b1 := alloc_below w (.cells #[.int .u8 1, .int .i64 5, .int .i64 2, .int .i64 1, .int .i64 0, .int .i64 0, .int .i64 2, .int .i64 1] 24)
 have n1 := heap_alloc_new w (.cells #[.int .u8 1, .int .i64 5, .int .i64 2, .int .i64 1, .int .i64 0, .int .i64 0, .int .i64 2, .int .i64 1] 24)
 have z1 : (w.alloc (.cells #[.int .u8 1, .int .i64 5, .int .i64 2, .int .i64 1, .int .i64 0, .int .i64 0, .int .i64 2, .int .i64 1] 24)).heap.size = w.heap.size + 1 := by simp
 generalize w.alloc (.cells #[.int .u8 1, .int .i64 5, .int .i64 2, .int .i64 1, .int .i64 0, .int .i64 0, .int .i64 2, .int .i64 1] 24) = w1 at *
 have b2 := alloc_below w1 (.cells #[.int .i64 1, .slice (some ⟨w.heap.size + 1 + 1, 0, none⟩) 1 1, .slice (some ⟨w.heap.size + 1 + 1 + 1, 0, none⟩) 1 1] 28)
 have n2 := heap_alloc_new w1 (.cells #[.int .i64 1, .slice (some ⟨w.heap.size + 1 + 1, 0, none⟩) 1 1, .slice (some ⟨w.heap.size + 1 + 1 + 1, 0, none⟩) 1 1] 28)
 have z2 : (w1.alloc (.cells #[.int .i64 1, .slice (some ⟨w.heap.size + 1 + 1, 0, none⟩) 1 1, .slice (some ⟨w.heap.size + 1 + 1 + 1, 0, none⟩) 1 1] 28)).heap.size = w1.heap.size + 1 := by simp
 generalize w1.alloc (.cells #[.int .i64 1, .slice (some ⟨w.heap.size + 1 + 1, 0, none⟩) 1 1, .slice (some ⟨w.heap.size + 1 + 1 + 1, 0, none⟩) 1 1] 28) = w2 at *
 have b3 := alloc_below w2 (.cells #[.int .u8 3, .int .i64 0, .int .i64 0, .int .u64 0] 85)
 have n3 := heap_alloc_new w2 (.cells #[.int .u8 3, .int .i64 0, .int .i64 0, .int .u64 0] 85)
 have z3 : (w2.alloc (.cells #[.int .u8 3, .int .i64 0, .int .i64 0, .int .u64 0] 85)).heap.size = w2.heap.size + 1 := by simp
 generalize w2.alloc (.cells #[.int .u8 3, .int .i64 0, .int .i64 0, .int .u64 0] 85) = w3 at *
 have b4 := alloc_below w3 (.cells #[.int .i64 1] 3)
 have lu := lm_one w3 1 3
 generalize w3.alloc (.cells #[.int .i64 1] 3) = w4 at *
 have e2 : w1.heap.size = w.heap.size + 1 := z1
 have e3 : w2.heap.size = w.heap.size + 1 + 1 := by rw [z2, z1]
 have e4 : w3.heap.size = w.heap.size + 1 + 1 + 1 := by rw [z3, e3]
 rw [e2] at n2
 rw [e3] at n3
 rw [e4] at lu
 have b34 := Below.next b3 b4
 have b24 := Below.next b2 b34
 have k1 := (b24.block _ (Array.getElem?_eq_some_iff.1 n1).1).trans n1
 have k2 := (b34.block _ (Array.getElem?_eq_some_iff.1 n2).1).trans n2
 have k3 := (b4.block _ (Array.getElem?_eq_some_iff.1 n3).1).trans n3
 refine bodyPost_ret (res_cell2 rfl rfl rfl (load_plc (p := p5) k1) (load_prc k2)) rfl ?_
 refine ⟨_, _, rfl, ⟨⟨_, _, rfl, ?_, lu⟩, by decide, ?_, ?_⟩, Below.next b1 b24⟩
 · refine ⟨_, _, rfl, ⟨by decide, by decide, fun h => by cases h⟩, fun _ => ⟨_, _, rfl, (Array.getElem?_eq_some_iff.1 k3).1, fun i x hx j u hu => ?_⟩⟩
   have hi : i = 0 := by have := (List.getElem?_eq_some_iff.1 hx).1; simp [q5] at this; omega
   subst hi
   have hx : (⟨3, 0, 0, 0⟩ : O4) = x := by simpa [q5] using hx
   subst hx
   have hc := Lib.cell_of_heap k3 (0 + (0 * 4 + j))
   rw [hc]
   have hj : j < 4 := by have := (List.getElem?_eq_some_iff.1 hu).1; rw [opw_len] at this; exact this
   rcases (by omega : j = 0 ∨ j = 1 ∨ j = 2 ∨ j = 3) with rfl | rfl | rfl | rfl <;> exact hu
 · intro o ho
   have : o = ⟨3, 0, 0, 0⟩ := by simpa [q5] using ho
   subst this
   exact ⟨by decide, by decide, by decide, by decide⟩
 · intro x hx
   have : x = 1 := by simpa [q5] using hx
   omega
theorem gMsg (x : Int) (hx : 0 <= x ∧ x <= 18446744073709551615) (w : World) : Calls Tryz.prog 59 #[.int .i64 3, .int .i64 0, .int .u64 x] w fun e w' => ∃ v, e = .returned v ∧ w'.ownsRow w.heap.size 5 1 v (m3 x).length (valb (m3 x)) ∧ Below w.heap.size w w' := by
 have hr := row_one w x hx 83
 have hA := alloc_below w (.cells #[.int .u64 x] 83)
 have hmw : Mw (w.alloc (.cells #[.int .u64 x] 83)) ⟨1, 3, 0, 1, [x]⟩ (.slice (some ⟨w.heap.size, 0, none⟩) 1 1) := ⟨⟨⟨(by decide : (0 : Int) <= 1), (by decide : (1 : Int) <= 255)⟩, ⟨(by decide : (-9223372036854775808 : Int) <= 3), (by decide : (3 : Int) <= 9223372036854775807)⟩, ⟨(by decide : (-9223372036854775808 : Int) <= 0), (by decide : (0 : Int) <= 9223372036854775807)⟩, ⟨(by decide : (0 : Int) <= 1), (by decide : (1 : Int) <= 255)⟩⟩, hr⟩
 have HW := hide (dWriteM ⟨1, 3, 0, 1, [x]⟩ _ _ hmw)
 unfold GivesB at HW
 have E1 : Hid (mwL sum8 ⟨1, 3, 0, 1, [x]⟩ = m3 x) := rfl
 rw [E1.out] at HW
 generalize m3 x = zs at *
 generalize mwE ⟨1, 3, 0, 1, [x]⟩ = er at *
 unfold mgv mgc at HW
 dsimp only at HW
 clear hr hmw E1
 generalize hW : w.alloc (.cells #[.int .u64 x] 83) = W1 at *
 have HW1 := hide hW
 clear hW
 go_enter Tryz.func59, Tryz.ntmps59
 go_wp2_with (go_at_call 35; rw [HW1.out]; refine HW.out.mono ?_; rintro e w2 ⟨v2, rfl, ho2, hb2⟩)
 go_ret
 exact ⟨_, rfl, own_mono ho2 hA.size, Below.next hA hb2⟩
def Pqx (V : World) (b : Nat) (p : Pn) (n : Int) (vo vu : Value) : Prop := Plc V b p ∧ V.cell? ⟨b + 1, 0, none⟩ = some (.int .i64 n) ∧ V.cell? ⟨b + 1, 1, none⟩ = some vo ∧ V.cell? ⟨b + 1, 2, none⟩ = some vu
theorem Pqx.prog {V : World} {b : Nat} {p : Pn} {n : Int} {vo vu : Value} (h : Pqx V b p n vo vu) : (loadVar 28 ⟨b + 1, 0, none⟩).run Tryz.prog V = .ok (.agg #[.int .i64 n, vo, vu]) V := by
 obtain ⟨_, c0, c1, c2⟩ := h
 simp [go_sem, c0, c1, c2]
theorem anch24 : Ans 27 #[] (.bool true) := by
 intro w
 obtain ⟨q0, q1, q2, q3, q4, q5', q6⟩ := an_vals24
 obtain ⟨r1, r2⟩ := m4_read
 have H0 := hide (gFive w)
 have H1 : Hid (∀ W, Calls Tryz.prog 7 #[] W fun e w' => ∃ g, e = .returned (.pointer (some ⟨g, 0, none⟩)) ∧ Hd w' g g (.slice none 0 0) dk0 ∧ W.heap.size <= g ∧ Below W.heap.size W w') := fun W => (gNew22 W).mono (fun e w' ⟨h1, h2, h3⟩ => ⟨_, h1, h2, Nat.le_refl _, h3⟩)
 have HM := hide (fun x (h : 0 <= x ∧ x <= 18446744073709551615) W => gMsg x h W)
 have HRb := hide (fun W lo v n x (ho : World.ownsRow W lo 5 1 v n (valb (m3 x))) => rb_of_own ho (mw_by (m := ⟨1, 3, 0, 1, [x]⟩)).1 (mw_by (m := ⟨1, 3, 0, 1, [x]⟩)).2)
 have HRa := hide (fun W lo v n (ho : World.ownsRow W lo 5 1 v n (valb (mwL sum8 m4))) => rb_of_own ho (mw_by (m := m4)).1 (mw_by (m := m4)).2)
 have HRd := hide (fun W u (h : Rb W u (mwL sum8 m4)) => dReadM u _ W h)
 unfold GivesMsg at HRd
 rw [r1, r2] at HRd
 have HNw := hide (fun W g v (hd : Hd W g g v dk0) (hb : g <= W.heap.size) vq (hq : ∀ V, Below g W V -> Pm V vq q5) => gNew24 hd hb (by decide) p5 q5 vq 0 ok5 hq)
 rw [q0, q1, q2] at HNw
 have HO1 := hide (fun W base kb mb g vo vu v (h : Wp W base kb mb g vo vu p5 q5 0 ⟨[], false⟩) (hd : Hd W base g v dk0) (hf : Wf p5 q5 0) (hb : base <= W.heap.size) u (hu : Rb W u (m3 11)) => gOn h hd hf ⟨fun x hx => (by cases hx), List.nodup_nil⟩ hb (by decide) hu)
 have E1 : p5.f = 1 := rfl
 have E2 : p5.w = 1 := rfl
 rw [E1, E2, q3, q4, q5'] at HO1
 have HO2 := hide (fun W base kb mb g vo vu v D (h : Wp W base kb mb g vo vu p5 q5 0 ⟨[(3, [11])], false⟩) (hd : Hd W base g v D) (hf : Wf p5 q5 0) (hb : base <= W.heap.size) (hn : D.n + 100000 < 4611686018427387904) u (hu : Rb W u (m3 12)) => gOn h hd hf ⟨fun x hx => (by
  rw [List.mem_singleton.1 hx]
  exact ⟨by decide, by decide, ⟨by decide, fun y hy => by simp at hy; omega⟩, by decide⟩), by simp⟩ hb hn hu)
 rw [E1, E2] at HO2
 simp only [q6] at HO2
 have hn2 : (onN sum8 1 1 0 ⟨[], false⟩ dk0 (m3 11)).n + 100000 < 4611686018427387904 := by
  have h1 := onN_n (f := 1) (wd := 1) (id := 0) (st := ⟨[], false⟩) (D := dk0) (b := m3 11)
  have h2 : dk0.n = 0 := rfl
  omega
 have HNn := hide hn2
 have HSm := hide (fun W s t (h1 : Mw W m4 s) (h2 : Mw W m4 t) => dSameM m4 m4 s t W h1 h2)
 rw [mgS_self] at HSm
 have HMw := hide (fun W lo x (ho : World.ownsRow W lo 83 1 x 1 (vals [121])) => mw_own (m := m4) ⟨by decide, by decide, by decide, by decide⟩ (by decide) (by decide) ho)
 have HR1 := hide (fun W => row_one W 121 (by decide) 83)
 clear q0 q1 q2 q3 q4 q5' q6 r1 r2 E1 E2 hn2
 generalize onN sum8 1 1 0 ⟨[], false⟩ dk0 (m3 11) = D1 at *
 generalize mwL sum8 m4 = zs at *
 unfold mgv mgc m4 at *
 dsimp only at *
 simp only [List.length_cons, List.length_nil, Nat.reduceAdd] at HRd HSm
 go_enter Tryz.func27, Tryz.ntmps27
 go_upto_region 2 with (go_at_call 28; refine H0.out.mono ?_; rintro e w1 ⟨vo, vu, rfl, hpm, hb1⟩; obtain ⟨vo1, vu1, e1, hlo, hlu⟩ := hpm.form; injection e1 with e1; injection e1 with e1; injection e1 with _ e1; injection e1 with e2 e1; injection e1 with e3 _; subst e2 e3; obtain ⟨ao, ca, hvo, _⟩ := hlo.spell; obtain ⟨au, cu, hvu, _⟩ := hlu.spell; subst hvo hvu; rw [plan_eq])
 generalize hol : q5.ops.length = no at *
 generalize hul : q5.outs.length = nu at *
 obtain ⟨W2, hW2, hA2, hS2⟩ := pq_box w1 p5 1 (.slice ao no ca) (.slice au nu cu) 24 28
 rw [hW2]
 have hKp : ∀ W, Below W2.heap.size W2 W -> Pqx W w1.heap.size p5 1 (.slice ao no ca) (.slice au nu cu) := fun W hb => hS2 W hb
 have HKp := hide hKp
 have HX0 := hide (fun (V : World) (hV : Pqx V w1.heap.size p5 1 (.slice ao no ca) (.slice au nu cu)) => hV.1.load)
 have HX1 := hide (fun (V : World) (hV : Pqx V w1.heap.size p5 1 (.slice ao no ca) (.slice au nu cu)) => hV.prog)
 have hS0 := HKp.out _ (Below.refl _ W2).drew
 clear hKp hS2 hlo hlu H0 hW2
 rw [plan_eq] at HNw
 refine wp_region_held_drew (S := (fun V => Pqx V w1.heap.size p5 1 (.slice ao no ca) (.slice au nu cu))) (by kernel_rfl) (by ((try dsimp only) <;> (first | with_reducible exact hS0 | with_reducible exact hS1 | with_reducible exact hS3))) (fun hHeld => ?_)
 refine tkY 0 ?_ (hy := by (intro w hSw; (try dsimp only at hSw); simp [execOp, Instr.loadAt, Instr.sureAddr, Act.eval, HX0.out _ hSw]; with_reducible rfl))
 refine tkY 1 ?_ (hy := by (intro w hSw; (try dsimp only at hSw); simp [execOp, Instr.loadAt, Instr.sureAddr, Act.eval, HX1.out _ hSw]; with_reducible rfl))
 refine rd1 2 (fun K hK => ?_)
 (try simp only [ly0, ly1, ly2, ly3, ly4, ly5, ly6, ly7])
 go_simp
 (go_at_call 7; refine (H1.out _).mono ?_; rintro e w3 ⟨g, rfl, hd3, hg3, hb3⟩; have hb3' := Below.next (Below.refl W2.heap.size W2).drew hb3; have hS1 := HKp.out _ hb3'; have HN3 := hide (HNw.out _ _ _ hd3 (Nat.le_of_lt hd3.lt) _ (fun V hV => hpm.below (Below.next hA2 (hb3'.trans (hV.mono hg3))))))
 first | refine hK.out _ _ ?k34 (fun hHeld => ?_) | (go_wp2_with fail; refine hK.out _ _ ?k34 (fun hHeld => ?_))
 case k34 => ((try dsimp only) <;> (first | with_reducible exact hS0 | with_reducible exact hS1 | with_reducible exact hS3))
 clear hK K
 (try simp only [ly0, ly1, ly2, ly3, ly4, ly5, ly6, ly7])
 refine rd1 3 (fun K hK => ?_)
 (try simp only [ly0, ly1, ly2, ly3, ly4, ly5, ly6, ly7])
 go_simp
 (go_at_call 9; refine HN3.out.mono ?_; rintro e w4 ⟨v4, r4, rfl, hd4, hm4, ⟨hno, _⟩ | ⟨_, hwf, kb, mb, vo4, vu4, rfl, hw4⟩⟩; exact absurd rfl hno; have hg34 : g <= w3.heap.size := Nat.le_of_lt hd3.lt; have hb4' := hb3'.trans ((hd3.mvb hm4 hg34).mono hg3); have hS3 := HKp.out _ hb4')
 first | refine hK.out _ _ ?k35 (fun hHeld => ?_) | (go_wp2_with fail; refine hK.out _ _ ?k35 (fun hHeld => ?_))
 case k35 => ((try dsimp only) <;> (first | with_reducible exact hS0 | with_reducible exact hS1 | with_reducible exact hS3))
 clear hK K
 (try simp only [ly0, ly1, ly2, ly3, ly4, ly5, ly6, ly7])
 refine tkY 4 ?_
 refine tkY 5 ?_
 refine tkY 6 ?_
 refine tkY 7 ?_
 refine tkY 8 ?_
 refine wpAnyH_done (by kernel_rfl) ?_ _
 clear hS0 hS1 hS3
 have hw4' := hw4.mono hg34
 have hg4 := hd4.lt
 have hB4 := Below.next hA2 hb4'
 have HG4 := hide (Nat.le_of_lt hg4)
 have HMr := hide (fun W x (h : Row W x [121]) => (⟨⟨⟨(by decide : (0 : Int) <= 2), (by decide : (2 : Int) <= 255)⟩, ⟨(by decide : (-9223372036854775808 : Int) <= 3), (by decide : (3 : Int) <= 9223372036854775807)⟩, ⟨(by decide : (-9223372036854775808 : Int) <= 0), (by decide : (0 : Int) <= 9223372036854775807)⟩, ⟨(by decide : (0 : Int) <= 1), (by decide : (1 : Int) <= 255)⟩⟩, h⟩ : Mw W ⟨2, 3, 0, 1, [121]⟩ x))
 have hwg : w1.heap.size <= g := Nat.le_trans hA2.size hg3
 clear HNw HN3 HX0 HX1 hd3 hm4 hb3 hb3' hg3 hw4 hb4' hpm HKp H1 hA2
 go_upto_region 6 with (first
  | (go_at_call 59; refine (HM.out 11 (by decide) _).mono ?_; rintro e w5 ⟨v5, rfl, ho5, hb5⟩; have hrb5 := HRb.out _ _ _ _ _ ho5; have HO := hide (HO1.out w5 g kb mb g _ _ _ (hw4'.below hb5) (hd4.below hb5) hwf (Nat.le_trans HG4.out hb5.size) _ hrb5); obtain ⟨a5, k5, rfl⟩ := own_form ho5; clear hrb5)
  | (go_at_call 11; refine HO.out.mono ?_; rintro e w6 ⟨v6, u6, rfl, hw6, hd6, ho6, hE6⟩; obtain ⟨a6, k6, rfl⟩ := own_form ho6))
 have hB6 := (Below.next hB4 hb5)
 have hlow6 : g <= w5.heap.size := Nat.le_trans HG4.out hb5.size
 clear HO1 HO ho5
 go_upto_region 7 with (first
  | (go_at_call 59; refine (HM.out 12 (by decide) _).mono ?_; rintro e w7 ⟨v7, rfl, ho7, hb7⟩; have hrb7 := HRb.out _ _ _ _ _ ho7; have HO := hide (HO2.out w7 g kb mb g _ _ _ D1 (hw6.below hb7) (hd6.below hb7) hwf (Nat.le_trans (Nat.le_of_lt hd6.lt) hb7.size) HNn.out _ hrb7); obtain ⟨a7, k7, rfl⟩ := own_form ho7; clear hrb7)
  | (go_at_call 11; refine HO.out.mono ?_; rintro e w8 ⟨v8, u8, rfl, hw8, hd8, ho8, hE8⟩; have ho68 := ev_row (own_below ho6 hb7) (by decide) (by decide) (by decide) (hw6.below hb7) (hd6.below hb7) hE8; obtain ⟨a8, k8, rfl⟩ := own_form ho8))
 have hB7 := hB6.trans (((hE6.below hlow6 hw6.lowk hw6.lowm hd6.low (fun j hj => (hd4.own_lt j hj).1)).mono hwg))
 have hB8 := Below.next hB7 hb7
 have hlow8 : g <= w7.heap.size := Nat.le_trans (Nat.le_of_lt hd6.lt) hb7.size
 have hB9 := hB8.trans (((hE8.below hlow8 hw8.lowk hw8.lowm hd8.low (fun j hj => (hd6.own_lt j hj).1)).mono hwg))
 have HR8 := hide (HRd.out _ _ (HRa.out _ _ _ _ ho68))
 have hB10 := Below.next hb1 hB9
 clear HO HO2 HM HRb HRd HRa ho6 ho7 ho8 hw4' hw6 hw8 hd4 hd6 hd8 hE6 hE8 hb5 hb7 hB4 hB6 hB7 hB8 hB9 hwf HG4 ho68
 go_upto_region 8 with (go_at_call 30; refine HR8.out.mono ?_; rintro e w9 ⟨s9, rfl, ho9, hb9⟩; obtain ⟨a9, k9, rfl⟩ := own_form ho9)
 have hM9 := alloc_below w9 (.cells #[.int .u8 2, .int .i64 3, .int .i64 0, .int .u8 1, .slice a9 1 k9] 74)
 have n9 := heap_alloc_new w9 (.cells #[.int .u8 2, .int .i64 3, .int .i64 0, .int .u8 1, .slice a9 1 k9] 74)
 have ho10 := own_below ho9 hM9
 have hb10 := Below.next hb9 hM9
 obtain ⟨w10, hw10⟩ : ∃ w10, w9.alloc (.cells #[.int .u8 2, .int .i64 3, .int .i64 0, .int .u8 1, .slice a9 1 k9] 74) = w10 := ⟨_, rfl⟩
 rw [hw10] at n9 ho10 hb10 ⊢
 have c0 := cell_at (i := 0) n9 rfl
 have c1 := cell_at (i := 1) n9 rfl
 have c2 := cell_at (i := 2) n9 rfl
 have c3 := cell_at (i := 3) n9 rfl
 have c4 := cell_at (i := 4) n9 rfl
 have hA := alloc_below w10 (.cells #[.int .u64 121] 83)
 have HS10 := hide (HSm.out _ _ _ (HMw.out _ _ _ (own_below ho10 hA)) (HMr.out _ _ (HR1.out w10)))
 clear HSm HMw HMr HR1 ho9 ho10 n9 hM9 hw10 HR8
 go_wp2_with (go_at_call 32; refine HS10.out.mono ?_; rintro e w11 ⟨rfl, hb11⟩)
 go_ret
 exact ⟨rfl, Below.next (Below.next (Below.next hB10 hb10) hA) hb11⟩
theorem workerNil_any (v : Value) (bs : List Int) (n : Int) (w : World) (hv : Rb w v bs) : Calls Tryz.prog 4 #[v, .int .i64 n] w fun e w' => e = .returned (.bool true) ∧ Below w.heap.size w w' := by
 obtain ⟨a, c, rfl, _⟩ := hv.spell
 have HO := hide (fun u W => gOn_no u W)
 have HS := hide (fun r W => gShare_no r W)
 have HF := hide (fun W => gFive W)
 have HN := hide (fun W (vo vu : Value) (ho : ∃ a l c, vo = .slice a l c) (hu : ∃ a l c, vu = .slice a l c) => gNew_no24 _ _ 0 W _ _ _ _ _ _ _ _ 1 vo vu (plan_eq (p := p5)) rfl ho hu)
 have HR := hide (fun W => gRounds_no W)
 have HD := hide (fun W => gDown_no W)
 have ga := hide (fun W => anch24 W)
 clear hv
 generalize bs.length = nb at *
 go_enter Tryz.func4, Tryz.ntmps4
 go_upto_region 5 with (first
  | (go_at_call 11; refine (HO.out _ _).mono ?_; rintro e w1 ⟨rfl, hw1⟩; rw [hw1]; clear hw1)
  | (go_at_call 14; refine (HS.out _ _).mono ?_; rintro e w2 ⟨rfl, hw2⟩; rw [hw2]; clear hw2)
  | (go_at_call 28; refine (HF.out _).mono ?_; rintro e w3 ⟨vo, vu, rfl, hpm, hb3⟩; obtain ⟨vo1, vu1, e1, hlo, hlu⟩ := hpm.form; injection e1 with e1; injection e1 with e1; injection e1 with _ e1; injection e1 with e2 e1; injection e1 with e3 _; subst e2 e3; obtain ⟨ao, ca, hvo, _⟩ := hlo.spell; obtain ⟨au, cu, hvu, _⟩ := hlu.spell; subst hvo hvu; rw [plan_eq]))
 obtain ⟨W2, hW2, hA2, hS2⟩ := pq_box w3 p5 1 (.slice ao q5.ops.length ca) (.slice au q5.outs.length cu) 24 28
 rw [hW2]
 obtain ⟨⟨c0, c1, c2, c3, c4, c5, c6, c7⟩, d0, d1, d2⟩ := hS2 W2 (Below.refl _ _)
 have HN2 := hide (HN.out W2 (.slice ao q5.ops.length ca) (.slice au q5.outs.length cu) ⟨_, _, _, rfl⟩ ⟨_, _, _, rfl⟩)
 clear HN hW2 hS2 hlo hlu hpm
 rw [plan_eq] at HN2
 go_wp2_with (first
  | (go_at_call 9; refine HN2.out.mono ?_; rintro e w4 ⟨rfl, hb4⟩)
  | (go_at_call 27; refine (ga.out _).mono ?_; rintro e w5 ⟨rfl, hb5⟩)
  | (go_at_call 18; refine (HR.out _).mono ?_; rintro e w6 ⟨rfl, hw6⟩; rw [hw6]; clear hw6)
  | (go_at_call 20; refine (HD.out _).mono ?_; rintro e w7 ⟨rfl, hw7⟩; rw [hw7]; clear hw7))
 go_ret
 exact ⟨rfl, Below.next (Below.next (Below.next hb3 hA2) hb4) hb5⟩
end Go.Proofs.YtipobchbnjgenaaGreat
