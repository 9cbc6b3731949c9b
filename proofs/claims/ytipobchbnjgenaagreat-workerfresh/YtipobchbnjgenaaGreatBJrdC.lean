import Derived.Test.YtipobchbnjgenaaGreatBJrdA
import Derived.Test.YtipobchbnjgenaaGreatBJrnG
set_option linter.unusedVariables false
set_option linter.unusedSimpArgs false
set_option maxRecDepth 100000
set_option maxHeartbeats 4000000
namespace Go.Proofs.YtipobchbnjgenaaGreat
open Go.RowKit Fld
theorem cutfb {w : World} {ao : Option Addr} {n cap : Nat} {xs : List Int} (h : Rb w (.slice ao n cap) xs) {k : Nat} (hk : k < xs.length) :
 ∃ a2 c2, (∀ W : World, (Instr.slice 30 (.slice ao n cap) (some (.int .i64 (k : Int))) none none).run Tryz.prog W = .ok (.slice a2 (n - k) c2) W) ∧ Rb w (.slice a2 (n - k) c2) (xs.drop k) := by
 obtain ⟨i0, hi0, hz0, hz1, hz2⟩ := info_parts b8_info
 have hn : xs.length = n := by obtain ⟨_, _, e, _⟩ := h; cases e; rfl
 obtain ⟨b, off, cap', e, hc, hb⟩ := h.form (by omega)
 cases e
 have h0 : ¬ cap = k := by omega
 refine ⟨some ⟨b, off + k, none⟩, cap - k, fun W => ?_, ?_⟩
 · simp [Instr.slice, Instr.sliceBounds, Instr.sliceBound, asIntOf, run_underlying Tryz.underlying30, sizeOf, typeInfo, hi0, hz1, show k <= xs.length by omega, show ¬ xs.length < k by omega, h0, Addr.add]
 · have := h.cut (o := k) (n := xs.length - k) (c := cap - k) (by omega) (by omega)
   rw [List.take_of_length_le (by rw [List.length_drop]; omega)] at this
   exact this
theorem jrH_doc {zs : List Int} (h : usE sum8 zs = 0) : (zs.length < 32 * jrN (usN zs) ∧ jrH sum8 zs = false) ∨ (32 * jrN (usN zs) <= zs.length ∧ jrH sum8 zs = decide (jrB sum8 (usL sum8 zs) = zs.take (32 * jrN (usN zs)))) := by
 have hl := usL_len h
 unfold jrH
 rw [h, decide_eq_true rfl, Bool.true_and]
 by_cases hc : zs.length < 32 * jrN (usN zs)
 · refine .inl ⟨hc, decide_eq_false (fun e => ?_)⟩
   have := congrArg List.length e
   rw [jrB_len, hl, List.length_take] at this
   omega
 · exact .inr ⟨by omega, rfl⟩
structure Ddg (w : World) (av : Value) (zs0 : List Int) (v6 : Value) (es : List Be) (at_ : Nat) (W : World) : Prop where
 rl : Rl W w.heap.size v6 es
 jn : W.ownsRow w.heap.size 5 1 av zs0.length (valb zs0)
 low : Below w.heap.size w W
 all : jrA zs0 = es.map (·.1) ++ jrA (zs0.drop at_)
 cnt : 32 * jrW (es.map (·.1)) = at_
 le : at_ <= zs0.length
theorem Ddg.below {w W W' : World} {av v6 : Value} {zs0 : List Int} {es : List Be} {at_ : Nat} (h : Ddg w av zs0 v6 es at_ W) (hb : Below W.heap.size W W') : Ddg w av zs0 v6 es at_ W' :=
 ⟨h.rl.below hb, own_below h.jn hb, Below.next h.low hb, h.all, h.cnt, h.le⟩
theorem Ddg.done {w W : World} {av v6 : Value} {zs0 : List Int} {es : List Be} {at_ : Nat} (h : Ddg w av zs0 v6 es at_ W) (hz : jrA (zs0.drop at_) = []) : jrA zs0 = es.map (·.1) ∧ (at_ : Int) / 32 = ((jrW (jrA zs0) : Nat) : Int) := by
 have e := h.all
 rw [hz, List.append_nil] at e
 refine ⟨e, ?_⟩
 rw [e]
 have := h.cnt
 omega
theorem Ddg.many {w W : World} {av v6 : Value} {zs0 : List Int} {es : List Be} {at_ : Nat} (h : Ddg w av zs0 v6 es at_ W) : 32 * es.length <= at_ := by
 have := jrW_ge (es.map (·.1))
 have := h.cnt
 rw [List.length_map] at *
 omega
theorem Ddg.next {w w5 w6 : World} {av rv : Value} {a2 au : Option Addr} {c2 cu J at_ n : Nat} {zs0 us : List Int} {es : List Be} (hn : es.length = n) (h : Ddg w av zs0 (.slice a2 n c2) es at_ w5) (hl : Rl w6 w.heap.size (.slice au (n + 1) cu) (es ++ [(us, rv)])) (hk : Kq (fun j => j < w5.heap.size ∧ (Value.slice a2 n c2).ownBlock ≠ some j) w5 w6) (hb : Below w.heap.size w5 w6)
 (hall : jrA (zs0.drop at_) = us :: jrA (zs0.drop (at_ + 32 * J))) (hw : jrN us.length = J) (hJ : at_ + 32 * J <= zs0.length) : Ddg w av zs0 (.slice au (n + 1) cu) (es ++ [(us, rv)]) (at_ + 32 * J) w6 := by
 have key : ∀ j, av.ownBlock = some j -> j < w5.heap.size ∧ (Value.slice a2 n c2).ownBlock ≠ some j := fun j hj => ⟨(h.jn.lt j hj).2, own_kindO h.jn h.rl.row (by decide) j hj⟩
 refine ⟨hl, hk.own h.jn key, h.low.trans hb, ?_, ?_, hJ⟩
 · rw [List.map_append, h.all, hall]; simp
 · rw [List.map_append]
   show 32 * jrW (es.map (·.1) ++ [us]) = at_ + 32 * J
   rw [jrW_app]
   simp only [jrW, hw]
   have := h.cnt
   omega
theorem dRecords (v : Value) (bs : List (List Int)) (w : World) (h : Bz w v bs) : GivesRd 78 #[v] w (jn32 bs) := by
 unfold GivesRd
 have hl := h.len
 have HZ := hide h
 have HJ1 := hide (j32_le bs)
 have HJ2 := hide (fun k (h : k < j32 bs) => j32_lt h)
 have HJ3 := hide (fun (h : j32 bs < bs.length) => j32_at h)
 have HT := hide (fun k (hk : k < bs.length) => take_flat bs hk)
 have HJn : Hid ((bs.take (j32 bs)).flatten = jn32 bs) := rfl
 have HLn := hide (jn32_len bs)
 have HY := hide (jn32_by h.by)
 obtain ⟨ao, c, rfl, hc⟩ := h.spell
 clear h hc
 obtain ⟨N, HN⟩ : ∃ N, Hid (bs.length = N) := ⟨_, rfl⟩
 obtain ⟨J, HJ⟩ : ∃ J, Hid (j32 bs = J) := ⟨_, rfl⟩
 obtain ⟨zs0, HZs⟩ : ∃ zs0, Hid (jn32 bs = zs0) := ⟨_, rfl⟩
 rw [HN.out] at hl HZ HJ1 HJ3 HT ⊢
 rw [HJ.out] at HJ1 HJ2 HJ3 HJn HLn
 rw [HZs.out] at HJn HLn HY ⊢
 go_enter Tryz.func78, Tryz.ntmps78
 go_wp2_with fail
 go_loopw [4, 5] (fun v4 v5 wr => ∃ (k : Nat) (a : Option Addr) (c : Nat), k <= J ∧ v4 = .slice a (32 * k) c ∧ v5 = .int .i64 (k : Int) ∧ Hid (wr.ownsRow w.heap.size 5 1 (.slice a (32 * k) c) (32 * k) (valb (bs.take k).flatten)) ∧ Below w.heap.size w wr) (fun _ v5 _ => J - (intOf v5).toNat)
 case atStart => exact ⟨0, none, 0, Nat.zero_le _, rfl, rfl, hide (by simpa [valb] using World.ownsRow_nil w w.heap.size 5 1), Below.refl _ _⟩
 case round =>
  obtain ⟨k, a, ca, hk, rfl, rfl, HR, hB⟩ := hrel
  have hJN := HJ1.out
  by_cases hlt : k < J
  · obtain ⟨b, off, u, rfl, hb, c1, hr⟩ := HZ.out.at_ (k := k) (by rw [HN.out]; omega)
    have h3 := HJ2.out k hlt
    have c2 := (hB.cell (p := ⟨b, off + k, none⟩) hb).trans c1
    have hrw := hr.below hB
    obtain ⟨a3, c3, rfl, _⟩ := hr.spell
    rw [h3] at c2 hrw
    obtain ⟨v8, w8, hr8, ho8, hg8⟩ := app_big (m := 32) (c := c3) (a := a3) HR.out hrw (by omega) (by have := hB.size; omega)
    rw [<- HT.out k (by omega), show 32 * k + 32 = 32 * (k + 1) by omega] at ho8
    obtain ⟨a8, c8, hv8⟩ := own_form ho8
    subst hv8
    have HO8 := hide ho8
    have HB8 := hide (hB.grown hg8 (by have := hB.size; omega) (own_base HR.out))
    have k0 : (0 : Int) <= (k : Int) := Int.natCast_nonneg _
    have k1 : (k : Int) < (N : Int) := by omega
    clear h3 hr hrw c1 ho8 hg8 HT HR hB
    generalize 32 * k = m at *
    go_wp2_with (at_builtin; refine app_runO rfl _ _ _ rfl _ _ _ rfl rfl hr8 ?_)
    clear hr8
    go_roundw
    case rel => exact ⟨k + 1, a8, c8, by omega, rfl, by go_num, HO8, HB8.out⟩
    case measure => simp [intOf]; omega
  · obtain rfl : k = J := by omega
    have hr := HR.out
    rw [HJn.out, <- HLn.out] at hr
    have HR2 := hide hr
    have HB2 := hide hB
    rw [<- HLn.out]
    have hzl : zs0.length <= 187649984468288 := by have := HLn.out; omega
    clear hr HR hB hlt hk HT HJ2 HJn
    rcases Nat.lt_or_ge k N with hkN | hkN
    · obtain ⟨b, off, u, rfl, hb, c1, hr⟩ := HZ.out.at_ (k := k) (by rw [HN.out]; omega)
      have h3 := HJ3.out hkN
      have c2 := (HB2.out.cell (p := ⟨b, off + k, none⟩) hb).trans c1
      obtain ⟨a3, c3, rfl, _⟩ := hr.spell
      have k0 : (0 : Int) <= (k : Int) := Int.natCast_nonneg _
      have k1 : (k : Int) < (N : Int) := by omega
      have q3 : (((bs.getD k []).length : Int) == 32) = false := beq_eq_false_iff_ne.2 (by omega)
      clear c1 hr h3
      generalize (bs.getD k []).length = bl at *
      go_wp2_with fail
      generalize hMl : zs0.length = M at *
      have HMl := hide hMl
      clear hMl
      go_loopw [6, 7] (fun v6 v7 wq => ∃ (es : List Be) (ak : Nat) (a6 : Option Addr) (c6 : Nat), v6 = .slice a6 es.length c6 ∧ v7 = .int .i64 (ak : Int) ∧ Hid (Ddg w (.slice a M ca) zs0 (.slice a6 es.length c6) es ak wq)) (fun _ v7 _ => M - (intOf v7).toNat)
      case atStart => exact ⟨[], 0, none, 0, rfl, rfl, ⟨rl_nil _ _, by rw [HMl.out]; exact HR2.out, HB2.out, by simp, by simp [jrW], Nat.zero_le _⟩⟩
      case round =>
       obtain ⟨es, ak, a6, c6, rfl, rfl, HR⟩ := hrel
       have hmany := HR.out.many
       have hcnt := HR.out.cnt
       have hle := HR.out.le
       rw [HMl.out] at hle
       have hmod : ak % 32 = 0 := by omega
       have hrb := rb_of_ownG HR.out.jn HY.out (by rw [HMl.out]; omega)
       have k0 : (0 : Int) <= (ak : Int) := Int.natCast_nonneg _
       by_cases hlt : ak < M
       · have k1 : (ak : Int) < (M : Int) := by omega
         obtain ⟨a3, c3, hs3, hr3⟩ := cutfb hrb (k := ak) (by rw [HMl.out]; exact hlt)
         have hzl2 : (zs0.drop ak).length = M - ak := by rw [List.length_drop, HMl.out]
         have hstep := jrA_step (zs0.drop ak)
         have HU := hide (rUnseal _ _ wr hr3)
         unfold GivesU at HU
         have HRb := hide (fun W (hb : Below wr.heap.size wr W) => HR.out.below hb)
         by_cases he : usE sum8 (zs0.drop ak) = 0
         · obtain ⟨_, hn2, hn3, _⟩ := usE_zero he
           have hul := usL_len he
           rw [he, (us_yes he).2, hul] at HU
           have HYu : Hid (By (usL sum8 (zs0.drop ak))) := by
            show By _
            rw [(us_yes he).1]; exact ((HY.out.drop _).drop _).take _
           have HBk := hide (fun W x (hx : Rb W x (usL sum8 (zs0.drop ak))) => dBlocks23 x _ W hx (by rw [hul]; omega))
           rw [hul] at HBk
           have HUl := hide hul
           have hJb := jrN_bd (usN (zs0.drop ak))
           rcases jrH_doc he with ⟨hc1, hj⟩ | ⟨hc1, hj⟩
           · rw [hj, if_neg (by decide)] at hstep
             have HZ0 := hide hstep
             rw [hzl2] at hc1
             clear hstep hj he hn3 hul hr3 hrb hcnt hmod HY
             generalize usL sum8 (zs0.drop ak) = us at *
             generalize usN (zs0.drop ak) = un at *
             obtain ⟨L, HL⟩ : ∃ L, Hid (32 * jrN un = L) := ⟨_, rfl⟩
             rw [HL.out] at HBk hc1 hJb
             have q5 : (M : Int) - (ak : Int) < (L : Int) := by omega
             go_wp2_with (first
              | (go_at_call 62; refine HU.out.mono ?_; rintro e w5 ⟨v5, rfl, ho5, hb5⟩; have hr5 := rb_of_own ho5 HYu.out (by rw [HUl.out]; omega); obtain ⟨a5, c5, hv5⟩ := own_form ho5; subst hv5; clear ho5)
              | (go_at_call 84; refine (HBk.out _ _ hr5).mono ?_; rintro e w7 ⟨v7, rfl, ho7, hb7⟩; obtain ⟨a7, c7, hv7⟩ := own_form ho7; subst hv7; clear ho7))
             have HR5 := hide (HRb.out _ (Below.next hb5 hb7))
             go_ret2
             have hR9 := HR5.out
             have hd9 := hR9.done HZ0.out
             first | exact ⟨_, es, by rw [<- hd9.2]; rfl, hR9.rl, hd9.1.symm, hR9.low⟩ | exact ⟨_, by rw [<- hd9.2]; rfl, es, hR9.rl, hd9.1.symm, hR9.low⟩ | exact ⟨by rw [<- hd9.2]; rfl, es, hR9.rl, hd9.1.symm, hR9.low⟩ | exact ⟨hd9.2, es, hR9.rl, hd9.1.symm, hR9.low⟩
           · have hcut := cut2b hrb (k := ak) (m := ak + 32 * jrN (usN (zs0.drop ak))) (by omega) (by rw [HMl.out]; omega)
             rw [show ak + 32 * jrN (usN (zs0.drop ak)) - ak = 32 * jrN (usN (zs0.drop ak)) by omega] at hcut
             obtain ⟨a9, c9, hs9, hr9⟩ := hcut
             have HSm := hide (fun W x (hx : Rb W x (jrB sum8 (usL sum8 (zs0.drop ak)))) (hb : Below wr.heap.size wr W) => rSame8 x _ _ _ W hx (hr9.below hb))
             rw [<- hj] at HSm
             have HYj : Hid (By (jrB sum8 (usL sum8 (zs0.drop ak)))) := jrB_by sum8 HYu.out
             have HLj : Hid ((jrB sum8 (usL sum8 (zs0.drop ak))).length <= 140737488500000) := by show _ <= _; rw [jrB_len, hul]; omega
             rw [hzl2] at hc1
             have HC1 := hide hc1
             have HDr : Hid ((zs0.drop ak).drop (32 * jrN (usN (zs0.drop ak))) = zs0.drop (ak + 32 * jrN (usN (zs0.drop ak)))) := by show _ = _; rw [List.drop_drop]
             rw [HDr.out] at hstep
             have hwr2 := HR.out.low.size
             have HPush := hide (fun W (hb : Below wr.heap.size wr W) rv base2 (hbs : w.heap.size <= base2) (hr : W.ownsRow base2 5 1 rv (usL sum8 (zs0.drop ak)).length (valb (usL sum8 (zs0.drop ak)))) => (HR.out.below hb).rl.push (Nat.le_trans hwr2 hb.size) (own_mono hr hbs) ⟨HYu.out, by rw [hul]; exact hn2⟩ (by omega))
             rw [hul] at HPush
             have HWr := hide hwr2
             clear hj he hn3 hr9 hr3 hrb hul hwr2 HDr
             obtain ⟨us, HUs⟩ : ∃ us, Hid (usL sum8 (zs0.drop ak) = us) := ⟨_, rfl⟩
             obtain ⟨un, HUn⟩ : ∃ un, Hid (usN (zs0.drop ak) = un) := ⟨_, rfl⟩
             rw [HUs.out] at HU HBk HUl HYu HSm HYj HLj HPush hstep
             rw [HUn.out] at HU HBk HUl hs9 hc1 HC1 hJb hstep hn2 HPush HSm
             obtain ⟨Jn, HJn2⟩ : ∃ Jn, Hid (jrN un = Jn) := ⟨_, rfl⟩
             rw [HJn2.out] at HBk hs9 hstep hJb hc1 HC1 HSm
             have HNu : Hid (jrN us.length = Jn) := by show _ = _; rw [HUl.out]; exact HJn2.out
             obtain ⟨L, HL⟩ : ∃ L, Hid (32 * Jn = L) := ⟨_, rfl⟩
             rw [HL.out] at HBk hc1 hJb hs9 HSm
             have q5 : ¬ (M : Int) - (ak : Int) < (L : Int) := by omega
             have q6 : (((ak + L : Nat)) : Int) = (ak : Int) + (L : Int) := by omega
             rw [q6] at hs9
             have q7 : (ak : Int) + (L : Int) <= 187649984468288 := by omega
             have q8 : 0 <= (L : Int) := Int.natCast_nonneg _
             have HYu5 := HYu
             have HJp : Hid (1 <= Jn) := hJb.2.2
             clear q6 hcnt hmod HY HYu hJb
             cases hB : jrH sum8 (zs0.drop ak) with
             | false =>
              rw [hB] at HSm
              rw [hB, if_neg (by decide)] at hstep
              have HZ0 := hide hstep
              clear hstep hB HPush
              go_wp2_with (first
               | (go_at_call 62; refine HU.out.mono ?_; rintro e w5 ⟨v5, rfl, ho5, hb5⟩; have hr5 := rb_of_own ho5 HYu5.out (by rw [HUl.out]; omega); obtain ⟨a5, c5, hv5⟩ := own_form ho5; subst hv5; clear ho5)
               | (go_at_call 84; refine (HBk.out _ _ hr5).mono ?_; rintro e w7 ⟨v7, rfl, ho7, hb7⟩; have hr7 := rb_of_own ho7 HYj.out HLj.out; obtain ⟨a7, c7, hv7⟩ := own_form ho7; subst hv7; have hb57 := Below.next hb5 hb7; have HS7 := hide (HSm.out _ _ hr7 hb57); clear ho7 hr7)
               | (go_at_call 13; refine HS7.out.mono ?_; rintro e w8 ⟨rfl, hw8⟩; rw [hw8]; clear hw8))
              have HR5 := hide (HRb.out _ hb57)
              go_ret2
              have hR9 := HR5.out
              have hd9 := hR9.done HZ0.out
              first | exact ⟨_, es, by rw [<- hd9.2]; rfl, hR9.rl, hd9.1.symm, hR9.low⟩ | exact ⟨_, by rw [<- hd9.2]; rfl, es, hR9.rl, hd9.1.symm, hR9.low⟩ | exact ⟨by rw [<- hd9.2]; rfl, es, hR9.rl, hd9.1.symm, hR9.low⟩ | exact ⟨hd9.2, es, hR9.rl, hd9.1.symm, hR9.low⟩
             | true =>
              rw [hB] at HSm
              rw [hB, if_pos rfl] at hstep
              have HSt := hide hstep
              clear hstep hB
              obtain ⟨en, HEn⟩ : ∃ en, Hid (es.length = en) := ⟨_, rfl⟩
              rw [HEn.out] at HPush HRb hmany ⊢
              go_wp2_with (first
               | (go_at_call 62; refine HU.out.mono ?_; rintro e w5 ⟨v5, rfl, ho5, hb5⟩; have hr5 := rb_of_own ho5 HYu5.out (by rw [HUl.out]; omega); obtain ⟨a5, c5, hv5⟩ := own_form ho5; subst hv5; have HO5 := hide ho5; clear ho5)
               | (go_at_call 84; refine (HBk.out _ _ hr5).mono ?_; rintro e w7 ⟨v7, rfl, ho7, hb7⟩; have hr7 := rb_of_own ho7 HYj.out HLj.out; obtain ⟨a7, c7, hv7⟩ := own_form ho7; subst hv7; have hb57 := Below.next hb5 hb7; have HS7 := hide (HSm.out _ _ hr7 hb57); obtain ⟨au, cu, w9, hr9, hl9, hk9, hb9⟩ := HPush.out _ hb57 _ _ HWr.out (own_below HO5.out hb7); have HR5 := hide (HRb.out _ hb57); have HL9 := hide hl9; have HK9 := hide hk9; have HB9 := hide hb9; clear ho7 hr7 hl9 hk9 hb9)
               | (go_at_call 13; refine HS7.out.mono ?_; rintro e w8 ⟨rfl, hw8⟩; rw [hw8]; clear hw8)
               | (at_builtin; refine app_runO rfl _ _ _ rfl _ _ _ rfl rfl hr9 ?_))
              have HL2 := HL.out
              subst HL2
              have HR8 := hide (Ddg.next HEn.out HR5.out HL9.out HK9.out HB9.out HSt.out HNu.out (by rw [HMl.out]; have := HC1.out; omega))
              have HLe1 : Hid ((es ++ [(us, Value.slice a5 un c5)]).length = en + 1) := by show _ = _; rw [List.length_append, HEn.out]; rfl
              clear hr9 HPush HRb
              go_roundw
              case rel => exact ⟨es ++ [(us, .slice a5 un c5)], ak + 32 * Jn, au, cu, by rw [HLe1.out], by congr 1, by rw [HLe1.out]; exact HR8.out⟩
              case measure => simp [intOf]; have := HC1.out; have := HJp.out; omega
         · have hj : jrH sum8 (zs0.drop ak) = false := by
            rcases jrH_case (HY.out.drop ak) (by rw [hzl2]; have := HLn.out; have := HMl.out; omega) with ⟨_, hj⟩ | ⟨h, _⟩
            · exact hj
            · exact absurd h he
           rw [hj, if_neg (by decide)] at hstep
           have HZ0 := hide hstep
           have q4 : (usE sum8 (zs0.drop ak) != 0) = true := bne_iff_ne.2 he
           rw [(us_no rfl he).1, (us_no rfl he).2] at HU
           clear hstep hj he hr3 hrb hcnt hmod HY
           generalize usE sum8 (zs0.drop ak) = er at *
           go_wp2_with (go_at_call 62; refine HU.out.mono ?_; rintro e w5 ⟨v5, rfl, ho5, hb5⟩; obtain ⟨a5, c5, hv5⟩ := own_form ho5; subst hv5)
           have HR5 := hide (HRb.out _ hb5)
           go_ret2
           have hR9 := HR5.out
           have hd9 := hR9.done HZ0.out
           first | exact ⟨_, es, by rw [<- hd9.2]; rfl, hR9.rl, hd9.1.symm, hR9.low⟩ | exact ⟨_, by rw [<- hd9.2]; rfl, es, hR9.rl, hd9.1.symm, hR9.low⟩ | exact ⟨by rw [<- hd9.2]; rfl, es, hR9.rl, hd9.1.symm, hR9.low⟩ | exact ⟨hd9.2, es, hR9.rl, hd9.1.symm, hR9.low⟩
       · have HZ0 : Hid (jrA (zs0.drop ak) = []) := by
          show _ = _
          rw [List.drop_of_length_le (by rw [HMl.out]; omega)]; rfl
         have k1 : ¬ (ak : Int) < (M : Int) := by omega
         have HR5 := HR
         clear hrb hcnt hmod HY
         go_wp2_with fail
         go_ret2
         have hR9 := HR5.out
         have hd9 := hR9.done HZ0.out
         first | exact ⟨_, es, by rw [<- hd9.2]; rfl, hR9.rl, hd9.1.symm, hR9.low⟩ | exact ⟨_, by rw [<- hd9.2]; rfl, es, hR9.rl, hd9.1.symm, hR9.low⟩ | exact ⟨by rw [<- hd9.2]; rfl, es, hR9.rl, hd9.1.symm, hR9.low⟩ | exact ⟨hd9.2, es, hR9.rl, hd9.1.symm, hR9.low⟩
    · have hNk : N = k := by omega
      subst hNk
      go_wp2_with fail
      generalize hMl : zs0.length = M at *
      have HMl := hide hMl
      clear hMl
      go_loopw [6, 7] (fun v6 v7 wq => ∃ (es : List Be) (ak : Nat) (a6 : Option Addr) (c6 : Nat), v6 = .slice a6 es.length c6 ∧ v7 = .int .i64 (ak : Int) ∧ Hid (Ddg w (.slice a M ca) zs0 (.slice a6 es.length c6) es ak wq)) (fun _ v7 _ => M - (intOf v7).toNat)
      case atStart => exact ⟨[], 0, none, 0, rfl, rfl, ⟨rl_nil _ _, by rw [HMl.out]; exact HR2.out, HB2.out, by simp, by simp [jrW], Nat.zero_le _⟩⟩
      case round =>
       obtain ⟨es, ak, a6, c6, rfl, rfl, HR⟩ := hrel
       have hmany := HR.out.many
       have hcnt := HR.out.cnt
       have hle := HR.out.le
       rw [HMl.out] at hle
       have hmod : ak % 32 = 0 := by omega
       have hrb := rb_of_ownG HR.out.jn HY.out (by rw [HMl.out]; omega)
       have k0 : (0 : Int) <= (ak : Int) := Int.natCast_nonneg _
       by_cases hlt : ak < M
       · have k1 : (ak : Int) < (M : Int) := by omega
         obtain ⟨a3, c3, hs3, hr3⟩ := cutfb hrb (k := ak) (by rw [HMl.out]; exact hlt)
         have hzl2 : (zs0.drop ak).length = M - ak := by rw [List.length_drop, HMl.out]
         have hstep := jrA_step (zs0.drop ak)
         have HU := hide (rUnseal _ _ wr hr3)
         unfold GivesU at HU
         have HRb := hide (fun W (hb : Below wr.heap.size wr W) => HR.out.below hb)
         by_cases he : usE sum8 (zs0.drop ak) = 0
         · obtain ⟨_, hn2, hn3, _⟩ := usE_zero he
           have hul := usL_len he
           rw [he, (us_yes he).2, hul] at HU
           have HYu : Hid (By (usL sum8 (zs0.drop ak))) := by
            show By _
            rw [(us_yes he).1]; exact ((HY.out.drop _).drop _).take _
           have HBk := hide (fun W x (hx : Rb W x (usL sum8 (zs0.drop ak))) => dBlocks23 x _ W hx (by rw [hul]; omega))
           rw [hul] at HBk
           have HUl := hide hul
           have hJb := jrN_bd (usN (zs0.drop ak))
           rcases jrH_doc he with ⟨hc1, hj⟩ | ⟨hc1, hj⟩
           · rw [hj, if_neg (by decide)] at hstep
             have HZ0 := hide hstep
             rw [hzl2] at hc1
             clear hstep hj he hn3 hul hr3 hrb hcnt hmod HY
             generalize usL sum8 (zs0.drop ak) = us at *
             generalize usN (zs0.drop ak) = un at *
             obtain ⟨L, HL⟩ : ∃ L, Hid (32 * jrN un = L) := ⟨_, rfl⟩
             rw [HL.out] at HBk hc1 hJb
             have q5 : (M : Int) - (ak : Int) < (L : Int) := by omega
             go_wp2_with (first
              | (go_at_call 62; refine HU.out.mono ?_; rintro e w5 ⟨v5, rfl, ho5, hb5⟩; have hr5 := rb_of_own ho5 HYu.out (by rw [HUl.out]; omega); obtain ⟨a5, c5, hv5⟩ := own_form ho5; subst hv5; clear ho5)
              | (go_at_call 84; refine (HBk.out _ _ hr5).mono ?_; rintro e w7 ⟨v7, rfl, ho7, hb7⟩; obtain ⟨a7, c7, hv7⟩ := own_form ho7; subst hv7; clear ho7))
             have HR5 := hide (HRb.out _ (Below.next hb5 hb7))
             go_ret2
             have hR9 := HR5.out
             have hd9 := hR9.done HZ0.out
             first | exact ⟨_, es, by rw [<- hd9.2]; rfl, hR9.rl, hd9.1.symm, hR9.low⟩ | exact ⟨_, by rw [<- hd9.2]; rfl, es, hR9.rl, hd9.1.symm, hR9.low⟩ | exact ⟨by rw [<- hd9.2]; rfl, es, hR9.rl, hd9.1.symm, hR9.low⟩ | exact ⟨hd9.2, es, hR9.rl, hd9.1.symm, hR9.low⟩
           · have hcut := cut2b hrb (k := ak) (m := ak + 32 * jrN (usN (zs0.drop ak))) (by omega) (by rw [HMl.out]; omega)
             rw [show ak + 32 * jrN (usN (zs0.drop ak)) - ak = 32 * jrN (usN (zs0.drop ak)) by omega] at hcut
             obtain ⟨a9, c9, hs9, hr9⟩ := hcut
             have HSm := hide (fun W x (hx : Rb W x (jrB sum8 (usL sum8 (zs0.drop ak)))) (hb : Below wr.heap.size wr W) => rSame8 x _ _ _ W hx (hr9.below hb))
             rw [<- hj] at HSm
             have HYj : Hid (By (jrB sum8 (usL sum8 (zs0.drop ak)))) := jrB_by sum8 HYu.out
             have HLj : Hid ((jrB sum8 (usL sum8 (zs0.drop ak))).length <= 140737488500000) := by show _ <= _; rw [jrB_len, hul]; omega
             rw [hzl2] at hc1
             have HC1 := hide hc1
             have HDr : Hid ((zs0.drop ak).drop (32 * jrN (usN (zs0.drop ak))) = zs0.drop (ak + 32 * jrN (usN (zs0.drop ak)))) := by show _ = _; rw [List.drop_drop]
             rw [HDr.out] at hstep
             have hwr2 := HR.out.low.size
             have HPush := hide (fun W (hb : Below wr.heap.size wr W) rv base2 (hbs : w.heap.size <= base2) (hr : W.ownsRow base2 5 1 rv (usL sum8 (zs0.drop ak)).length (valb (usL sum8 (zs0.drop ak)))) => (HR.out.below hb).rl.push (Nat.le_trans hwr2 hb.size) (own_mono hr hbs) ⟨HYu.out, by rw [hul]; exact hn2⟩ (by omega))
             rw [hul] at HPush
             have HWr := hide hwr2
             clear hj he hn3 hr9 hr3 hrb hul hwr2 HDr
             obtain ⟨us, HUs⟩ : ∃ us, Hid (usL sum8 (zs0.drop ak) = us) := ⟨_, rfl⟩
             obtain ⟨un, HUn⟩ : ∃ un, Hid (usN (zs0.drop ak) = un) := ⟨_, rfl⟩
             rw [HUs.out] at HU HBk HUl HYu HSm HYj HLj HPush hstep
             rw [HUn.out] at HU HBk HUl hs9 hc1 HC1 hJb hstep hn2 HPush HSm
             obtain ⟨Jn, HJn2⟩ : ∃ Jn, Hid (jrN un = Jn) := ⟨_, rfl⟩
             rw [HJn2.out] at HBk hs9 hstep hJb hc1 HC1 HSm
             have HNu : Hid (jrN us.length = Jn) := by show _ = _; rw [HUl.out]; exact HJn2.out
             obtain ⟨L, HL⟩ : ∃ L, Hid (32 * Jn = L) := ⟨_, rfl⟩
             rw [HL.out] at HBk hc1 hJb hs9 HSm
             have q5 : ¬ (M : Int) - (ak : Int) < (L : Int) := by omega
             have q6 : (((ak + L : Nat)) : Int) = (ak : Int) + (L : Int) := by omega
             rw [q6] at hs9
             have q7 : (ak : Int) + (L : Int) <= 187649984468288 := by omega
             have q8 : 0 <= (L : Int) := Int.natCast_nonneg _
             have HYu5 := HYu
             have HJp : Hid (1 <= Jn) := hJb.2.2
             clear q6 hcnt hmod HY HYu hJb
             cases hB : jrH sum8 (zs0.drop ak) with
             | false =>
              rw [hB] at HSm
              rw [hB, if_neg (by decide)] at hstep
              have HZ0 := hide hstep
              clear hstep hB HPush
              go_wp2_with (first
               | (go_at_call 62; refine HU.out.mono ?_; rintro e w5 ⟨v5, rfl, ho5, hb5⟩; have hr5 := rb_of_own ho5 HYu5.out (by rw [HUl.out]; omega); obtain ⟨a5, c5, hv5⟩ := own_form ho5; subst hv5; clear ho5)
               | (go_at_call 84; refine (HBk.out _ _ hr5).mono ?_; rintro e w7 ⟨v7, rfl, ho7, hb7⟩; have hr7 := rb_of_own ho7 HYj.out HLj.out; obtain ⟨a7, c7, hv7⟩ := own_form ho7; subst hv7; have hb57 := Below.next hb5 hb7; have HS7 := hide (HSm.out _ _ hr7 hb57); clear ho7 hr7)
               | (go_at_call 13; refine HS7.out.mono ?_; rintro e w8 ⟨rfl, hw8⟩; rw [hw8]; clear hw8))
              have HR5 := hide (HRb.out _ hb57)
              go_ret2
              have hR9 := HR5.out
              have hd9 := hR9.done HZ0.out
              first | exact ⟨_, es, by rw [<- hd9.2]; rfl, hR9.rl, hd9.1.symm, hR9.low⟩ | exact ⟨_, by rw [<- hd9.2]; rfl, es, hR9.rl, hd9.1.symm, hR9.low⟩ | exact ⟨by rw [<- hd9.2]; rfl, es, hR9.rl, hd9.1.symm, hR9.low⟩ | exact ⟨hd9.2, es, hR9.rl, hd9.1.symm, hR9.low⟩
             | true =>
              rw [hB] at HSm
              rw [hB, if_pos rfl] at hstep
              have HSt := hide hstep
              clear hstep hB
              obtain ⟨en, HEn⟩ : ∃ en, Hid (es.length = en) := ⟨_, rfl⟩
              rw [HEn.out] at HPush HRb hmany ⊢
              go_wp2_with (first
               | (go_at_call 62; refine HU.out.mono ?_; rintro e w5 ⟨v5, rfl, ho5, hb5⟩; have hr5 := rb_of_own ho5 HYu5.out (by rw [HUl.out]; omega); obtain ⟨a5, c5, hv5⟩ := own_form ho5; subst hv5; have HO5 := hide ho5; clear ho5)
               | (go_at_call 84; refine (HBk.out _ _ hr5).mono ?_; rintro e w7 ⟨v7, rfl, ho7, hb7⟩; have hr7 := rb_of_own ho7 HYj.out HLj.out; obtain ⟨a7, c7, hv7⟩ := own_form ho7; subst hv7; have hb57 := Below.next hb5 hb7; have HS7 := hide (HSm.out _ _ hr7 hb57); obtain ⟨au, cu, w9, hr9, hl9, hk9, hb9⟩ := HPush.out _ hb57 _ _ HWr.out (own_below HO5.out hb7); have HR5 := hide (HRb.out _ hb57); have HL9 := hide hl9; have HK9 := hide hk9; have HB9 := hide hb9; clear ho7 hr7 hl9 hk9 hb9)
               | (go_at_call 13; refine HS7.out.mono ?_; rintro e w8 ⟨rfl, hw8⟩; rw [hw8]; clear hw8)
               | (at_builtin; refine app_runO rfl _ _ _ rfl _ _ _ rfl rfl hr9 ?_))
              have HL2 := HL.out
              subst HL2
              have HR8 := hide (Ddg.next HEn.out HR5.out HL9.out HK9.out HB9.out HSt.out HNu.out (by rw [HMl.out]; have := HC1.out; omega))
              have HLe1 : Hid ((es ++ [(us, Value.slice a5 un c5)]).length = en + 1) := by show _ = _; rw [List.length_append, HEn.out]; rfl
              clear hr9 HPush HRb
              go_roundw
              case rel => exact ⟨es ++ [(us, .slice a5 un c5)], ak + 32 * Jn, au, cu, by rw [HLe1.out], by congr 1, by rw [HLe1.out]; exact HR8.out⟩
              case measure => simp [intOf]; have := HC1.out; have := HJp.out; omega
         · have hj : jrH sum8 (zs0.drop ak) = false := by
            rcases jrH_case (HY.out.drop ak) (by rw [hzl2]; have := HLn.out; have := HMl.out; omega) with ⟨_, hj⟩ | ⟨h, _⟩
            · exact hj
            · exact absurd h he
           rw [hj, if_neg (by decide)] at hstep
           have HZ0 := hide hstep
           have q4 : (usE sum8 (zs0.drop ak) != 0) = true := bne_iff_ne.2 he
           rw [(us_no rfl he).1, (us_no rfl he).2] at HU
           clear hstep hj he hr3 hrb hcnt hmod HY
           generalize usE sum8 (zs0.drop ak) = er at *
           go_wp2_with (go_at_call 62; refine HU.out.mono ?_; rintro e w5 ⟨v5, rfl, ho5, hb5⟩; obtain ⟨a5, c5, hv5⟩ := own_form ho5; subst hv5)
           have HR5 := hide (HRb.out _ hb5)
           go_ret2
           have hR9 := HR5.out
           have hd9 := hR9.done HZ0.out
           first | exact ⟨_, es, by rw [<- hd9.2]; rfl, hR9.rl, hd9.1.symm, hR9.low⟩ | exact ⟨_, by rw [<- hd9.2]; rfl, es, hR9.rl, hd9.1.symm, hR9.low⟩ | exact ⟨by rw [<- hd9.2]; rfl, es, hR9.rl, hd9.1.symm, hR9.low⟩ | exact ⟨hd9.2, es, hR9.rl, hd9.1.symm, hR9.low⟩
       · have HZ0 : Hid (jrA (zs0.drop ak) = []) := by
          show _ = _
          rw [List.drop_of_length_le (by rw [HMl.out]; omega)]; rfl
         have k1 : ¬ (ak : Int) < (M : Int) := by omega
         have HR5 := HR
         clear hrb hcnt hmod HY
         go_wp2_with fail
         go_ret2
         have hR9 := HR5.out
         have hd9 := hR9.done HZ0.out
         first | exact ⟨_, es, by rw [<- hd9.2]; rfl, hR9.rl, hd9.1.symm, hR9.low⟩ | exact ⟨_, by rw [<- hd9.2]; rfl, es, hR9.rl, hd9.1.symm, hR9.low⟩ | exact ⟨by rw [<- hd9.2]; rfl, es, hR9.rl, hd9.1.symm, hR9.low⟩ | exact ⟨hd9.2, es, hR9.rl, hd9.1.symm, hR9.low⟩
end Go.Proofs.YtipobchbnjgenaaGreat
