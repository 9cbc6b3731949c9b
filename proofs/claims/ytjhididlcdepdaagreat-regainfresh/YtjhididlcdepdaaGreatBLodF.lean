import Derived.Test.YtjhididlcdepdaaGreatBLodE
import Derived.Test.YtjhididlcdepdaaGreatBLocK
set_option linter.unusedVariables false
set_option linter.unusedSimpArgs false
set_option maxRecDepth 100000
set_option maxHeartbeats 4000000
namespace Go.Proofs.YtjhididlcdepdaaGreat
open Go.RowKit Fld
theorem res_tmp4 {P : Program} {fn : Func} {tmps : Array Value} {w : World} {a b c d : Nat} (hr : fn.results = #[.tmp a, .tmp b, .tmp c, .tmp d]) : (results fn tmps).run P w = .ok (.tuple #[tmps.getD a undef, tmps.getD b undef, tmps.getD c undef, tmps.getD d undef]) w := by
 simp [results, hr]
theorem ddec_arg (f : Int) (v1 v2 : Value) (xs ys : List Int) (d w : Int) (W : World) (h1 : Rw W v1 xs) (h2 : Rw W v2 ys) (h : d < -1 ∨ w < 0) :
 Calls Tryz.prog 33 #[.int .u8 f, v1, v2, .int .i64 d, .int .i64 w] W fun e w' => e = .returned (.tuple #[.slice none 0 0, .slice none 0 0, .bool false, .int .i64 2]) ∧ Below W.heap.size W w' := by
 have hly := h2.len
 have HB := hide (dBad f v1 v2 xs ys ys.length W h1 h2 hly)
 obtain ⟨ao, cap, rfl, _⟩ := h1.spell
 obtain ⟨ay, cay, rfl, _⟩ := h2.spell
 clear h1 h2
 generalize bad f xs ys ys.length = e0 at *
 generalize ys.length = ny at *
 by_cases hd : d < -1
 · go_enter Tryz.func33, Tryz.ntmps33
   go_wp2_with (go_at_call 66; refine HB.out.mono ?_; rintro e w1 ⟨rfl, hw⟩)
   refine bodyPost_ret (res_tmp4 rfl) rfl ?_
   exact ⟨rfl, hw⟩
 · have hw0 : w < 0 := h.resolve_left hd
   go_enter Tryz.func33, Tryz.ntmps33
   go_wp2_with (go_at_call 66; refine HB.out.mono ?_; rintro e w1 ⟨rfl, hw⟩)
   refine bodyPost_ret (res_tmp4 rfl) rfl ?_
   exact ⟨rfl, hw⟩
theorem ddec_bad (f : Int) (v1 v2 : Value) (xs ys : List Int) (d w : Int) (W : World) (h1 : Rw W v1 xs) (h2 : Rw W v2 ys) (h : ¬ (d < -1 ∨ w < 0)) (hb : bad f xs ys ys.length ≠ 0) :
 Calls Tryz.prog 33 #[.int .u8 f, v1, v2, .int .i64 d, .int .i64 w] W fun e w' => e = .returned (.tuple #[.slice none 0 0, .slice none 0 0, .bool false, .int .i64 (bad f xs ys ys.length)]) ∧ Below W.heap.size W w' := by
 have hly := h2.len
 have hd : ¬ d < -1 := fun e => h (.inl e)
 have hw0 : ¬ w < 0 := fun e => h (.inr e)
 have HB := hide (dBad f v1 v2 xs ys ys.length W h1 h2 hly)
 obtain ⟨ao, cap, rfl, _⟩ := h1.spell
 obtain ⟨ay, cay, rfl, _⟩ := h2.spell
 have hne : (bad f xs ys ys.length != 0) = true := bne_iff_ne.2 hb
 clear h1 h2 h hb
 generalize bad f xs ys ys.length = e0 at *
 generalize ys.length = ny at *
 go_enter Tryz.func33, Tryz.ntmps33
 go_wp2_with (go_at_call 66; refine HB.out.mono ?_; rintro e w1 ⟨rfl, hw⟩)
 refine bodyPost_ret (res_tmp4 rfl) rfl ?_
 exact ⟨rfl, hw⟩
theorem ddec_short (f : Int) (v1 v2 : Value) (xs ys : List Int) (d w : Int) (W : World) (h1 : Rw W v1 xs) (h2 : Rw W v2 ys) (hd0 : -1 <= d ∧ d <= 9223372036854775807) (hw0 : 0 <= w ∧ w <= 9223372036854775807) (hb : bad f xs ys ys.length = 0) (hl : xs.length <= 512) (hs : (xs.length : Int) < d + 2 * w + 1) :
 Calls Tryz.prog 33 #[.int .u8 f, v1, v2, .int .i64 d, .int .i64 w] W fun e w' => e = .returned (.tuple #[.slice none 0 0, .slice none 0 0, .bool false, .int .i64 7]) ∧ Below W.heap.size W w' := by
 have hly := h2.len
 have hd : ¬ d < -1 := by omega
 have hw1 : ¬ w < 0 := by omega
 have HB := hide (dBad f v1 v2 xs ys ys.length W h1 h2 hly)
 rw [hb] at HB
 obtain ⟨ao, cap, rfl, _⟩ := h1.spell
 obtain ⟨ay, cay, rfl, _⟩ := h2.spell
 clear h1 h2 hb
 generalize ys.length = ny at *
 generalize xs.length = nx at *
 by_cases h5 : 512 < d
 · go_enter Tryz.func33, Tryz.ntmps33
   go_wp2_with (go_at_call 66; refine HB.out.mono ?_; rintro e w1 ⟨rfl, hw⟩)
   refine bodyPost_ret (res_tmp4 rfl) rfl ?_
   exact ⟨rfl, hw⟩
 · by_cases h6 : 512 < w
   · go_enter Tryz.func33, Tryz.ntmps33
     go_wp2_with (go_at_call 66; refine HB.out.mono ?_; rintro e w1 ⟨rfl, hw⟩)
     refine bodyPost_ret (res_tmp4 rfl) rfl ?_
     exact ⟨rfl, hw⟩
   · go_enter Tryz.func33, Tryz.ntmps33
     go_wp2_with (go_at_call 66; refine HB.out.mono ?_; rintro e w1 ⟨rfl, hw⟩)
     refine bodyPost_ret (res_tmp4 rfl) rfl ?_
     exact ⟨rfl, hw⟩
theorem ddec_main (f p : Int) (wd : Bool) (v1 v2 : Value) (xs ys : List Int) (d w : Int) (W : World) (h1 : Rw W v1 xs) (h2 : Rw W v2 ys) (hf : Fi f p wd) (hx : Els p xs) (hy : Els p ys) (hxy : xs.length = ys.length) (hl : xs.length <= 512) (hn : xs.Nodup) (hd0 : -1 <= d) (hw0 : 0 <= w) (hb : bad f xs ys ys.length = 0) (hs : d + 2 * w + 1 <= xs.length) (S : List Int -> List Int -> Bool -> Prop) (hS1 : ∀ P, Dec p (d + 1).toNat w.toNat xs ys P -> S P (ofI p P xs ys) true) (hS2 : (∀ R, ¬ Dec p (d + 1).toNat w.toNat xs ys R) -> S [] [] false) :
 GivesD 33 #[.int .u8 f, v1, v2, .int .i64 d, .int .i64 w] W S 0 := by
 unfold GivesD
 have HS1 := hide hS1
 have HS2 := hide hS2
 clear hS1 hS2
 have hly := h2.len
 have hd : ¬ d < -1 := by omega
 have hw1 : ¬ w < 0 := by omega
 have HB := hide (dBad f v1 v2 xs ys ys.length W h1 h2 hly)
 rw [hb] at HB
 obtain ⟨D, HD⟩ : ∃ D, Hid ((d + 1).toNat = D) := ⟨_, rfl⟩
 obtain ⟨wn, HW⟩ : ∃ wn, Hid (w.toNat = wn) := ⟨_, rfl⟩
 rw [HD.out, HW.out] at HS1 HS2
 have hD : d + 1 = (D : Int) := by have := HD.out; omega
 have hwn : w = (wn : Int) := by have := HW.out; omega
 have HWe := hide (fun W' (k : Nat) (hk : k <= wn) (hb : Below W.heap.size W W') => dWelch f p wd v1 v2 xs ys d D k W' hf (h1.below hb) (h2.below hb) hx hy hxy hl hn hD (by omega))
 have HOf := hide (fun W' vq Q (tq : Tm p Q) (lq : Q.length <= 512) (hr : Rw W' vq Q) (hb : Below W.heap.size W W') => dOff f p wd vq v1 v2 Q xs ys W' hf hr (h1.below hb) (h2.below hb) tq.1 (by omega) hx hxy hl)
 have HTw := hide (fun Q (tq : Tm p Q) (lq : Q.length <= 512) => Tm.wd tq hf.top (by omega))
 have HLo := hide (fun Q => offp_len p Q xs ys)
 have hsn : D + 2 * wn <= xs.length := by omega
 obtain ⟨ao, cap, rfl, _⟩ := h1.spell
 obtain ⟨ay, cay, rfl, _⟩ := h2.spell
 obtain ⟨n, Hn⟩ : ∃ n, Hid (xs.length = n) := ⟨_, rfl⟩
 have Hn2 : Hid (ys.length = n) := by show _ = _; rw [<- hxy]; exact Hn.out
 rw [Hn.out] at HWe HOf HB HLo hl hsn hs ⊢
 rw [Hn2.out] at HWe HOf HB ⊢
 have Hwn := hide hwn
 have HDd := hide hD
 subst hwn
 have hd5 : ¬ 512 < d := by omega
 have hw5 : ¬ 512 < (wn : Int) := by omega
 have hs2 : ¬ (n : Int) < d + 2 * (wn : Int) + 1 := by omega
 clear h1 h2 hb hx hy hxy hn hf hly HW Hwn HD
 go_enter Tryz.func33, Tryz.ntmps33
 go_wp2_with (go_at_call 66; refine HB.out.mono ?_; rintro e w1 ⟨rfl, hB1⟩)
 clear HB
 go_loopw [15] (fun v15 wr => ∃ z : Int, v15 = .int .i64 z ∧ -1 <= z ∧ z <= (wn : Int) ∧ Hid (z < (wn : Int) -> ∀ R, ¬ Dec p D wn xs ys R) ∧ Below W.heap.size W wr) (fun v15 _ => (intOf v15 + 1).toNat)
 case atStart => exact ⟨wn, rfl, by omega, Int.le_refl _, (fun h => absurd h (Int.lt_irrefl _)), hB1⟩
 case round =>
  clear hB1
  obtain ⟨z, rfl, hz0, hz1, HN, hB⟩ := hrel
  by_cases hz : 0 <= z
  · obtain ⟨k, rfl⟩ : ∃ k : Nat, z = (k : Int) := ⟨z.toNat, by omega⟩
    have HWk := hide (HWe.out wr k (by omega) hB)
    go_wp2_with fail
    refine HWk.out.mono ?_
    rintro e w2 ⟨vq, Q, ok, rfl, hO, tq, lq, hP, hb2⟩
    have hB2 := Below.next hB hb2
    have HO := hide hO
    have RQ := hide ((HTw.out Q tq lq).row hO)
    obtain ⟨aq, cq, rfl⟩ := own_form hO
    have HNk : Hid ((k : Int) = (wn : Int) -> ∀ R, Dec p D wn xs ys R -> ok = true ∧ Q = R) := fun e R hR => hP R ((show k = wn by omega) ▸ hR)
    have hkw : Hid (¬ (k : Int) = (wn : Int) -> ∀ R, ¬ Dec p D wn xs ys R) := fun e => HN.out (by omega)
    clear hO hP HWk HWe HN
    cases ok with
    | false =>
     have HN3 : Hid ((k : Int) - 1 < (wn : Int) -> ∀ R, ¬ Dec p D wn xs ys R) := fun _ R hR => by
      by_cases e : (k : Int) = (wn : Int)
      · exact absurd (HNk.out e R hR).1 (by decide)
      · exact hkw.out e R hR
     clear HNk hkw HO RQ
     go_wp2
     go_roundw
     case rel => exact ⟨(k : Int) - 1, by go_num, by omega, by omega, HN3, hB2⟩
     case measure => simp [intOf] <;> omega
    | true =>
     have HOk := hide (HOf.out w2 _ Q tq lq RQ.out hB2)
     have hlo := HLo.out Q
     obtain ⟨m, Hm⟩ : ∃ m, Hid ((offp p Q xs ys).length = m) := ⟨_, rfl⟩
     rw [Hm.out] at HOk hlo
     have HT := hide tq
     obtain ⟨lQ, HlQ⟩ : ∃ lQ, Hid (Q.length = lQ) := ⟨_, rfl⟩
     rw [HlQ.out] at HOk HO lq ⊢
     clear RQ HOf HTw
     by_cases hm : m <= wn
     · by_cases hq : lQ <= D
       · have hDc : Dec p D wn xs ys Q := ⟨HT.out, by rw [HlQ.out]; exact hq, by rw [Hm.out]; exact hm⟩
         have HDc := hide hDc
         have hm1 : (m : Int) <= (wn : Int) := by omega
         have hq1 : (lQ : Int) - 1 <= d := by have := HDd.out; omega
         clear hDc HNk hkw
         go_wp2_with (go_at_call 68; refine HOk.out.mono ?_; rintro e w3 ⟨v3, rfl, hO3, hb3⟩; obtain ⟨a3, c3, rfl⟩ := own_form hO3; have HO3 := hide hO3; clear hO3; have hB3 := Below.next hB2 hb3)
         refine bodyPost_ret (res_tmp4 rfl) rfl ?_
         refine ⟨.slice aq lQ cq, .slice a3 m c3, Q, ofI p Q xs ys, true, rfl, HS1.out Q HDc.out, ?_, ?_, hB3⟩
         · rw [HlQ.out]; exact own_mono (own_below HO.out hb3) hB.size
         · rw [ofI_len, Hm.out]
           have := own_mono HO3.out hB2.size
           unfold ofI
           rw [iw_nms]; exact this
       · have HN3 : Hid ((k : Int) - 1 < (wn : Int) -> ∀ R, ¬ Dec p D wn xs ys R) := fun _ R hR => by
          by_cases e : (k : Int) = (wn : Int)
          · have h9 := (HNk.out e R hR).2
            subst h9
            have := hR.2.1
            rw [HlQ.out] at this
            exact hq this
          · exact hkw.out e R hR
         have hm1 : (m : Int) <= (wn : Int) := by omega
         have hq1 : ¬ (lQ : Int) - 1 <= d := by have := HDd.out; omega
         clear HNk hkw
         go_wp2_with (go_at_call 68; refine HOk.out.mono ?_; rintro e w3 ⟨v3, rfl, hO3, hb3⟩; obtain ⟨a3, c3, rfl⟩ := own_form hO3; clear hO3; have hB3 := Below.next hB2 hb3)
         go_roundw
         case rel => exact ⟨(k : Int) - 1, by go_num, by omega, by omega, HN3, hB3⟩
         case measure => simp [intOf] <;> omega
     · have HN3 : Hid ((k : Int) - 1 < (wn : Int) -> ∀ R, ¬ Dec p D wn xs ys R) := fun _ R hR => by
        by_cases e : (k : Int) = (wn : Int)
        · have h9 := (HNk.out e R hR).2
          subst h9
          have := hR.2.2
          rw [Hm.out] at this
          exact hm this
        · exact hkw.out e R hR
       have hm1 : ¬ (m : Int) <= (wn : Int) := by omega
       clear HNk hkw
       go_wp2_with (go_at_call 68; refine HOk.out.mono ?_; rintro e w3 ⟨v3, rfl, hO3, hb3⟩; obtain ⟨a3, c3, rfl⟩ := own_form hO3; clear hO3; have hB3 := Below.next hB2 hb3)
       go_roundw
       case rel => exact ⟨(k : Int) - 1, by go_num, by omega, by omega, HN3, hB3⟩
       case measure => simp [intOf] <;> omega
  · obtain rfl : z = -1 := by omega
    have HN2 := hide (HN.out (by omega))
    clear HN HWe HOf
    go_wp2
    refine bodyPost_ret (res_tmp4 rfl) rfl ?_
    first
     | exact ⟨.slice none 0 0, .slice none 0 0, [], [], false, rfl, HS2.out HN2.out, World.ownsRow_nil _ _ _ _, World.ownsRow_nil _ _ _ _, hB⟩
     | exact ⟨.slice none 0 0, .slice none 0 0, [], [], .inl ⟨rfl, HS2.out HN2.out, World.ownsRow_nil _ _ _ _, World.ownsRow_nil _ _ _ _, hB⟩⟩
theorem dDecode (f : Int) (v1 v2 : Value) (xs ys : List Int) (d w : Int) (W : World) (h1 : Rw W v1 xs) (h2 : Rw W v2 ys) (hd : -9223372036854775808 <= d ∧ d <= 9223372036854775807) (hw : -9223372036854775808 <= w ∧ w <= 9223372036854775807) :
 GivesD 33 #[.int .u8 f, v1, v2, .int .i64 d, .int .i64 w] W (Dcd f xs ys d w) (dcE f xs ys d w) := by
 by_cases h0 : d < -1 ∨ w < 0
 · have e := dcE_arg (f := f) (xs := xs) (ys := ys) h0
   rw [e]
   exact GivesD.none (Dcd.no e (by decide)) (ddec_arg f v1 v2 xs ys d w W h1 h2 h0)
 · by_cases hb : bad f xs ys ys.length = 0
   · obtain ⟨p, wd, hf, i1, i2, l1, l2, hn⟩ := bad_zero hb
     by_cases hs : (xs.length : Int) < d + 2 * w + 1
     · have e := dcE_short h0 hb hs
       rw [e]
       exact GivesD.none (Dcd.no e (by decide)) (ddec_short f v1 v2 xs ys d w W h1 h2 ⟨by omega, hd.2⟩ ⟨by omega, hw.2⟩ hb l2 hs)
     · have e := dcE_ok h0 hb hs
       rw [e]
       have := ddec_main f p wd v1 v2 xs ys d w W h1 h2 hf (els_of i1 h1.words) (els_of i2 h2.words) l1 l2 hn (by omega) (by omega) hb (by omega) (fun P at' ok => (ok = true ∧ Dec p (d + 1).toNat w.toNat xs ys P ∧ at' = ofI p P xs ys) ∨ (ok = false ∧ P = [] ∧ at' = [] ∧ ∀ R, ¬ Dec p (d + 1).toNat w.toNat xs ys R)) (fun P hP => .inl ⟨rfl, hP, rfl⟩) (fun hR => .inr ⟨rfl, rfl, rfl, hR⟩)
       unfold GivesD at this ⊢
       refine this.mono ?_
       rintro e' w' ⟨vp, va, P, a, ok, he, hS, hO⟩
       exact ⟨vp, va, P, a, ok, he, ⟨fun c => absurd e c, fun _ => by rw [pOf_eq hf]; exact hS⟩, hO⟩
   · have e := dcE_bad h0 hb
     rw [e]
     exact GivesD.none (Dcd.no e hb) (ddec_bad f v1 v2 xs ys d w W h1 h2 h0 hb)
end Go.Proofs.YtjhididlcdepdaaGreat
