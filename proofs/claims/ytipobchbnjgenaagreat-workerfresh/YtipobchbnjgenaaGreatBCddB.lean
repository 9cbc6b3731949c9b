import Derived.Test.YtipobchbnjgenaaGreatBCdcD
import Derived.Test.YtipobchbnjgenaaGreatBQMute
import Derived.Deep.CutRange
set_option linter.unusedVariables false
set_option linter.unusedSimpArgs false
set_option maxRecDepth 100000
set_option maxHeartbeats 4000000
namespace Go.Proofs.YtipobchbnjgenaaGreat
open Go.RowKit Fld
theorem appB (W : World) (base lo n m : Nat) (u vb : Value) (A B : List Int) (hO : W.ownsRow base 5 1 u n (valb A)) (hB : W.ownsRow lo 5 1 vb m (valb B)) (hyb : By B) (hm : 0 < m) (hl : n + m <= 100000) (hb : base <= W.heap.size) :
 ∃ v' W', (Builtin.append_ #[30, 30] 30 #[u, vb]).run Tryz.prog W = .ok v' W' ∧ (∃ a c, v' = .slice a (n + m) c) ∧ W'.ownsRow base 5 1 v' (n + m) (valb (A ++ B)) ∧ Below base W W' := by
 obtain ⟨i0, hi0, hz0, hz1, hz2⟩ := info_parts b8_info
 have hlen : B.length = m := by have := hB.1; rw [valb_length] at this; omega
 obtain ⟨g, cap, rfl, _, hbt⟩ := bt_of_own hB hyb (by omega) hm
 obtain ⟨v', W', hr, ho, hg, _, hbk⟩ := run_append_own_at (P := Tryz.prog) (w := W) base 30 30 5 i0 (.int .u8 0) 1 1 Tryz.underlying30 hi0 hz0 hz1 hz2 rfl (by decide) u n (valb A) hO ⟨g, 0, none⟩ m cap (valb B) hbt.size hbt.rb.news (valb_one B) (by unfold maxLen; omega) (by omega) hb
 refine ⟨v', W', hr, own_form ho, ?_, (Below.refl base W).grown hg hb (fun k hk => own_base hO k hk)⟩
 rw [<- valb_app]; exact ho
theorem app_ex {P : Program} {ops : Array Oper} {o : Oper} {a : Act} {w : World} {K : Act -> World -> Prop} {Q : Exit -> Act -> World -> Prop} {E : Prop} (hgd : o.guard = none) (s x : Operand) (t tn : TypeId)
 (ho : o.op = .call { callee := .builtin .append, args := #[s, x], argTypes := #[t, tn] }) (vs vx : Value) (hs : a.eval s = vs) (hx : a.eval x = vx) (R : Value -> World -> Prop)
 (hr : ∃ v' w', (Builtin.append_ #[t, tn] o.type #[vs, vx]).run P w = .ok v' w' ∧ R v' w') (h : ∀ v' w', R v' w' -> K (a.put o.dst v') w') : if Region.wanted o (yielded ops a.tmps) = true then Oper.wp P o a w K Q else E := by
 obtain ⟨v', w', h1, h2⟩ := hr
 exact app_mute hgd s x t tn ho vs vx hs hx v' w' h1 (h v' w' h2)
theorem own_one20 (w : World) (k : Int) : (w.alloc (.cells #[.int .u8 k] 5)).ownsRow w.heap.size 5 1 (.slice (some ⟨w.heap.size, 0, none⟩) 1 1) 1 (valb [k]) :=
 ⟨rfl, .inr ⟨w.heap.size, 1, #[.int .u8 k], rfl, Nat.le_refl _, heap_alloc_new w _, Nat.le_refl _, by unfold maxLen; omega, by simp, rfl⟩⟩
theorem dWriteM (m : Mg) (s : Value) (w : World) (h : Mw w m s) : GivesB 35 #[mgv m s] w (mwE m) (mwL sum8 m) := by
 unfold GivesB
 obtain ⟨hM, hB⟩ := mb_box (w := w) m s
 have HM := hide (dMayM m s _ (h.below hB))
 have HC := hide (fun W (hb : Below (w.alloc (.cells #[.int .u8 m.k, .int .i64 m.r, .int .i64 m.v, .int .u8 m.f, s] 74)).heap.size (w.alloc (.cells #[.int .u8 m.k, .int .i64 m.r, .int .i64 m.v, .int .u8 m.f, s] 74)) W) => (hM.below hb).cells)
 obtain ⟨c0, c1, c2, c3, c4⟩ := hM.cells
 have hrow := h.row
 obtain ⟨⟨wk, wr, wv, wf⟩, _⟩ := h
 cases hm : mgM m with
 | false =>
  have e1 : mwE m = 2 := by unfold mwE; rw [hm]; rfl
  have e2 : mwL sum8 m = [] := by unfold mwL; rw [hm]; rfl
  rw [e1, e2]
  rw [hm] at HM
  clear e1 e2 hm HC
  unfold mgv mgc at HM ⊢
  go_enter Tryz.func35, Tryz.ntmps35
  go_wp2_with (go_at_call 67; refine HM.out.mono ?_; rintro e w1 ⟨rfl, hb1⟩)
  go_ret2
  exact ⟨_, rfl, World.ownsRow_nil _ _ _ _, hB.trans (hb1.mono hB.size)⟩
 | true =>
  have e1 : mwE m = 0 := by unfold mwE; rw [hm]; rfl
  have e2 : mwL sum8 m = slF sum8 (mgI m) := by unfold mwL; rw [hm]; rfl
  obtain ⟨g1, g2, g3, g4, g5, g6, g7⟩ := mgM_facts hm
  have hl := mgI_len hm
  have hlen : (mgI m).length = 1 + 4 + 4 + (5 + m.l.length * wF m.f) := by
   unfold mgI
   rw [List.length_cons, List.length_append, List.length_append, wd8_len, wd8_len, lsF_len]; omega
  have HY := hide (mgI_by hm)
  have HI : Hid ([m.k] ++ wd8 m.r 4 ++ wd8 m.v 4 ++ lsF m.f m.l = mgI m) := by show _ = _; unfold mgI; simp
  have q1 : slE (mgI m) = 0 ∧ slL sum8 (mgI m) = slF sum8 (mgI m) := by
   rcases slE_or (mgI m) with ⟨h1, _⟩ | ⟨_, h2, h3⟩
   · omega
   · exact ⟨h2, h3⟩
  have HS := hide (fun W v (hr : Rb W v (mgI m)) => rSeal v (mgI m) W hr)
  unfold GivesB at HS
  rw [q1.1, q1.2] at HS
  have HL := hide (fun W (hb : Below w.heap.size w W) => rList m.f s m.l W wf (hrow.below hb))
  unfold GivesB at HL
  rw [(lsE_yes g6 (by omega)).1, (lsE_yes g6 (by omega)).2, lsF_len] at HL
  have HR := hide (fun W => rWide 4 m.r W ⟨by omega, by omega⟩ (by decide))
  have HV := hide (fun W => rWide 4 m.v W ⟨by omega, by omega⟩ (by decide))
  have y1 := hide (wd8_by m.r 4)
  have y2 := hide (wd8_by m.v 4)
  have y3 := hide (lsF_by (inW_field g6) m.l)
  have wr0 : IntKind.u64.wrap m.r = m.r := by rw [show IntKind.u64.wrap m.r = m.r % 18446744073709551616 by simp [IntKind.wrap, IntKind.bits, IntKind.signed]]; omega
  have wv0 : IntKind.u64.wrap m.v = m.v := by rw [show IntKind.u64.wrap m.v = m.v % 18446744073709551616 by simp [IntKind.wrap, IntKind.bits, IntKind.signed]]; omega
  rw [e1, e2]
  rw [hm] at HM
  have hN0 : 0 < 5 + m.l.length * wF m.f := by omega
  have hN1 : 5 + m.l.length * wF m.f <= 600 := by omega
  generalize 5 + m.l.length * wF m.f = N at *
  have HX := hide hlen
  obtain ⟨ao, cap, rfl, _⟩ := hrow
  unfold mgv mgc at HM ⊢
  clear e1 e2 hm g1 g6 g7 hl q1 hlen
  generalize slF sum8 (mgI m) = zs at *
  generalize mgI m = is at *
  generalize lsF m.f m.l = L3 at *
  generalize wd8 m.r 4 = L1 at *
  generalize wd8 m.v 4 = L2 at *
  generalize m.l.length = n at *
  generalize m.k = k at *
  generalize m.r = r at *
  generalize m.v = v at *
  generalize m.f = f at *
  go_enter Tryz.func35, Tryz.ntmps35
  go_upto_region 3 with (go_at_call 67; refine HM.out.mono ?_; rintro e w1 ⟨rfl, hb1⟩; have hB1 := hB.trans (hb1.mono hB.size))
  have HC1 := hide (fun W (hb : Below w1.heap.size w1 W) => HC.out W (Below.next hb1 hb))
  clear HM HC c0 c1 c2 c3 c4 hM
  have HA := hide (fun W lo u vb (hO : World.ownsRow W w1.heap.size 5 1 u 1 (valb [k])) (hB : W.ownsRow lo 5 1 vb 4 (valb L1)) (hb : w1.heap.size <= W.heap.size) => appB W w1.heap.size lo 1 4 u vb [k] L1 hO hB y1.out (by decide) (by decide) hb)
  go_cut [4] from 10 to 17 (fun v4 wx => ∃ a c, v4 = .slice a 5 c ∧ Hid (wx.ownsRow w1.heap.size 5 1 (.slice a 5 c) 5 (valb ([k] ++ L1))) ∧ Below w1.heap.size w1 wx)
  case first =>
   have hS0 := HC1.out _ (Below.refl _ w1).drew
   have hq1 := hide (alloc_below w1 (.cells #[.int .u8 k] 5)).drew
   have hq0 := hide (Below.refl w1.heap.size w1).drew
   go_region_held3 (fun W' => W'.cell? ⟨w.heap.size, 0, none⟩ = some (.int .u8 k) ∧ W'.cell? ⟨w.heap.size, 1, none⟩ = some (.int .i64 r) ∧ W'.cell? ⟨w.heap.size, 2, none⟩ = some (.int .i64 v) ∧ W'.cell? ⟨w.heap.size, 3, none⟩ = some (.int .u8 f) ∧ W'.cell? ⟨w.heap.size, 4, none⟩ = some (.slice ao n cap)) (first | with_reducible exact hS3 | with_reducible exact hS2 | with_reducible exact hS1 | with_reducible exact hS0 | exact HC1.out _ hq1.out) (first
    | (go_at_call 68; refine (HR.out _).mono ?_; rintro e w3 ⟨u3, rfl, ho3, hb3⟩; (first | (have hB3 := hq1.out.trans (hb3.mono hq1.out.size); have hO1 := own_below (World.ownsRow.drew (own_one20 w1 k)) hb3) | (have hB3 := hq0.out.trans (hb3.mono hq0.out.size); have hB4 := hB3.alloc hB3.size (.cells #[.int .u8 k] 5); have hS2 := HC1.out _ hB4; have hO2 := own_mono (own_one20 w3 k) hB3.size; have ho4 := ho3.alloc (.cells #[.int .u8 k] 5))); have hS1 := HC1.out _ hB3; obtain ⟨a3, c3, hu3⟩ := own_form ho3; subst hu3)
    | ((first | refine app_ex (by rfl) _ _ _ _ (by rfl) _ _ (by rfl) (by rfl) _ (HA.out _ _ _ _ hO1 ho3 hB3.size) (fun v9 w9 h9 => ?_) | refine app_ex (by rfl) _ _ _ _ (by rfl) _ _ (by rfl) (by rfl) _ (HA.out _ _ _ _ hO2 ho4 hB4.size) (fun v9 w9 h9 => ?_)); obtain ⟨⟨a9, c9, hv9⟩, hO9, hb9⟩ := h9; subst hv9; (first | have hB9 := hB3.trans hb9 | have hB9 := hB4.trans hb9); have hS3 := HC1.out _ hB9))
   all_goals
    go_wp2_with fail
    go_meet
    exact ⟨_, _, rfl, hO9, hB9⟩
  case rest =>
   obtain ⟨a4, c4, rfl, HO4, hB4⟩ := hcut
   obtain ⟨_, _, d2, _, _⟩ := HC1.out _ hB4
   have HA2 := hide (fun W lo u vb (hO : World.ownsRow W w1.heap.size 5 1 u 5 (valb ([k] ++ L1))) (hB : W.ownsRow lo 5 1 vb 4 (valb L2)) (hb : w1.heap.size <= W.heap.size) => appB W w1.heap.size lo 5 4 u vb ([k] ++ L1) L2 hO hB y2.out (by decide) (by decide) hb)
   have HA3 := hide (fun W lo u vb (hO : World.ownsRow W w1.heap.size 5 1 u 9 (valb ([k] ++ L1 ++ L2))) (hB : W.ownsRow lo 5 1 vb N (valb L3)) (hb : w1.heap.size <= W.heap.size) => appB W w1.heap.size lo 9 N u vb ([k] ++ L1 ++ L2) L3 hO hB y3.out hN0 (by omega) hb)
   rw [HI.out] at HA3
   go_wp2_with (first
    | (go_at_call 68; refine (HV.out _).mono ?_; rintro e w5 ⟨u5, rfl, ho5, hb5⟩; have hB5 := hB4.trans (hb5.mono hB4.size); have hO5 := own_below HO4.out hb5; obtain ⟨v6, w6, hr6, ⟨a6, c6, hv6⟩, hO6, hb6⟩ := HA2.out _ _ _ _ hO5 ho5 hB5.size; subst hv6; have hB6 := hB5.trans hb6; obtain ⟨d60, d61, d62, d63, d64⟩ := HC1.out _ hB6; obtain ⟨a5, c5, hu5⟩ := own_form ho5; subst hu5)
    | (at_builtin; refine Lib.wpList_append_run _ rfl _ _ _ _ rfl _ _ rfl rfl _ _ hr8 ?_)
    | (at_builtin; refine Lib.wpList_append_run _ rfl _ _ _ _ rfl _ _ rfl rfl _ _ hr6 ?_)
    | (go_at_call 69; refine (HL.out _ (hB1.trans (hB6.mono hB1.size))).mono ?_; rintro e w7 ⟨v7, rfl, ho7, hb7⟩; have hB7 := hB6.trans (hb7.mono hB6.size); have hO7 := own_below hO6 hb7; obtain ⟨v8, w8, hr8, ⟨a8, c8, hv8⟩, hO8, hb8⟩ := HA3.out _ _ _ _ hO7 ho7 hB7.size; subst hv8; have hB8 := hB7.trans hb8; have hr8' := rb_of_own hO8 HY.out (by rw [HX.out]; omega); obtain ⟨a7, c7, hv7⟩ := own_form ho7; subst hv7)
    | (go_at_call 70; refine (HS.out _ _ hr8').mono ?_; rintro e w9 ⟨v9, rfl, ho9, hb9⟩))
   go_ret2
   have hB8' := hB1.trans (hB8.mono hB1.size)
   exact ⟨_, rfl, own_mono ho9 hB8'.size, Below.next hB8' hb9⟩
end Go.Proofs.YtipobchbnjgenaaGreat
