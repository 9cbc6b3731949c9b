import Derived.Test.YtnapbdoalfbgnaaBLawLC
import Derived.Test.YtnapbdoalfbgnaaBLawLD
import Derived.Test.YtnapbdoalfbgnaaBunTC
import Derived.Deep.RegionWith
set_option linter.unusedVariables false
set_option linter.unusedSimpArgs false
set_option maxRecDepth 100000
set_option maxHeartbeats 4000000
namespace Go.Proofs.Ytnapbdoalfbgnaa
open Go.RowKit Fld
theorem hit_told {f p : Int} {wd : Bool} {xs P Y : List Int} {k : Int} (hf : Fi f p wd) (ex : Els p xs) (hn : xs.Nodup) (l5 : xs.length ≤ 512) (hP : Tm p P) (hk : 0 ≤ k) (hs : (P.length : Int) + 2 * k ≤ xs.length) (hY : Els p Y) (hl : Y.length = xs.length) (ho : (offp p P xs Y).length ≤ k.toNat) : dcE f xs Y ((P.length : Int) - 1) k = 0 ∧ ∀ Q a j, Dcd f xs Y ((P.length : Int) - 1) k Q a j → Q = P ∧ a = ofI p P xs Y ∧ j = true := by
 have hb : bad f xs Y Y.length = 0 := by
  rw [bad_end (by rw [inF_yes hf]; exact allIn_of ex) (by rw [inF_yes hf]; exact allIn_of hY) hl.symm (by omega), if_pos hn]
 have hz : dcE f xs Y ((P.length : Int) - 1) k = 0 := dcE_ok (by omega) hb (by omega)
 refine ⟨hz, fun Q a j h => ?_⟩
 have hD : Dec p (((P.length : Int) - 1) + 1).toNat k.toNat xs Y P := ⟨hP, by omega, ho⟩
 have h0 : Dcd f xs Y ((P.length : Int) - 1) k P (ofI p P xs Y) true := ⟨fun c => absurd hz c, fun _ => .inl ⟨rfl, by rw [pOf_eq hf]; exact hD, by rw [pOf_eq hf]⟩⟩
 exact h.only (els_words ex hf.top) (els_words hY hf.top) h0
theorem offp_mk (p : Int) (P xs : List Int) : offp p P xs (mk xs.length (fun j => vl p (co xs j) P)) = [] := by
 unfold offp
 rw [List.filter_eq_nil_iff]
 intro i hi
 rw [co_mk, if_pos (List.mem_range.1 hi)]; simp
theorem mk_snoc (n : Nat) (c : Nat → Int) : mk n c ++ [c n] = mk (n + 1) c := by simp [mk, List.range_succ]
theorem tmod_el {p y : Int} (hp : 0 < p) (h : 0 ≤ y) : ∃ z, El p z ∧ y.tmod p = z :=
 ⟨_, ⟨Int.emod_nonneg y (by omega), Int.emod_lt_of_pos y hp⟩, Int.tmod_eq_emod_of_nonneg h⟩
theorem els_put {p : Int} {Y : List Int} (h : Els p Y) {z : Int} (hz : El p z) (k : Nat) : Els p (Y.set k z) := fun x hx => by
 rcases List.mem_or_eq_of_mem_set hx with c | c
 · exact h x c
 · rw [c]; exact hz
theorem own_some {W : World} {base n c : Nat} {T : TypeId} {ao : Option Addr} {xs : List Value} (h : W.ownsRow base T 1 (.slice ao n c) n xs) (hn : 0 < n) : ∃ g, ao = some ⟨g, 0, none⟩ ∧ base ≤ g := by
 rcases h.2 with ⟨e, h0⟩ | ⟨g, cap, cur, e, hb, _⟩
 · omega
 · injection e with e1 _ _
   exact ⟨g, e1, hb⟩
theorem locHits_yes (f : Int) (v1 v2 vt : Value) (xs ys : List Int) (os : List (Int × Int)) (d k : Int) (w : World) (h1 : Rw w v1 xs) (h2 : Rw w v2 ys) (ht : Lm pw2 2 w vt os) (hos : ∀ o ∈ os, Ok2 o) (hd : -9223372036854775808 ≤ d ∧ d ≤ 9223372036854775807) (hk : -9223372036854775808 ≤ k ∧ k ≤ 9223372036854775807) (hy : hitB f xs (tr ys) k) :
 Calls Try.prog 4 #[.int .u8 f, .agg #[v1, v2, .int .i64 d, .int .i64 k], vt] w fun e w' => e = .returned (.bool true) ∧ Below w.heap.size w w' := by
 have HT := hide (fun W (hb : Below w.heap.size w W) => rTrim_any v2 ys W (h2.below hb))
 obtain ⟨q1, q2, q3, q4, q5⟩ := hy
 have hwP : ∀ x ∈ tr ys, 0 ≤ x ∧ x ≤ 18446744073709551615 := fun x hx => by
  have h9 := h2.words
  obtain ⟨i, hi, rfl⟩ := List.mem_iff_getElem.1 hx
  rw [← co_at hi, co_tr]
  by_cases e : i < ys.length
  · rw [co_at e]; exact h9 _ (List.getElem_mem e)
  · rw [co_out _ _ (by omega)]; decide
 obtain ⟨p, wd, hf, i1, _, l4, _⟩ := er_zero q1
 obtain ⟨p', wd', hf', i2, _, _, l5, hn⟩ := bad_zero q2
 have hpp : p' = p := by rw [← pOf_eq hf', pOf_eq hf]
 rw [hpp] at i2
 have ex := els_of i2 h1.words
 have eP : Els p (tr ys) := els_of i1 hwP
 have hP : Tm p (tr ys) := ⟨eP, tr_tr ys⟩
 have HWd := hide (fun W b v n (hO : World.ownsRow W b 40 1 v n (vals (tr ys))) => rw_of_own hO (Nat.le_trans (tr_len ys) h2.len) hwP)
 have HB3 := hide (fun W v (hr : Rw W v (tr ys)) => rBad_any f v _ (tr ys) [] W hr (rw0 W))
 rw [q1] at HB3
 have HB7 := hide (fun W (hb : Below w.heap.size w W) => dBad f v1 _ xs [] xs.length W (h1.below hb) (rw0 W) h1.len)
 rw [q2] at HB7
 have HX := hide (fun W (hb : Below w.heap.size w W) => h1.below hb)
 have HTn := hide (fun W (hb : Below w.heap.size w W) => ht.below hb)
 have HTo := hide (fun Y hY hl ho => hit_told (Y := Y) hf ex hn l5 hP q3 q5 hY hl ho)
 have HEv := hide (fun W v i (hr : Rw W v (tr ys)) => dEv f p (co xs i) wd v (tr ys) W hf hr eP l4 (ex.co hf.pos i))
 have HOf := hide (fun W vP vx vy Y r1 r2 r3 hl => dOff f p wd vP vx vy (tr ys) xs Y W hf r1 r2 r3 eP l4 ex hl l5)
 have HDe := hide (fun W v1 vy Y r1 r2 hd2 => gDecode f v1 vy xs Y (((tr ys).length : Int) - 1) k W r1 r2 hd2 hk)
 unfold GivesD at HDe
 have HP := hide (fun W => rP_yes f p wd W hf)
 have HO0 := hide (offp_mk p (tr ys) xs)
 have HSe := hide (fun Y j z => offp_set p (tr ys) xs Y j z)
 have HEm : Hid (∀ n, Els p (mk n (fun j => vl p (co xs j) (tr ys)))) := fun n => Els.mk n (fun m _ => vl_el hf.pos _ _)
 have hp0 := hf.pos
 have hp1 := hf.top
 obtain ⟨b0, B0'⟩ := pts_box w v1 v2 d k
 have K0 := hide b0
 have B0 := hide B0'
 have htl := ht.len
 obtain ⟨a1, c1, rfl, _⟩ := h1.spell
 obtain ⟨a2, c2, rfl, _⟩ := h2.spell
 obtain ⟨at', ct, rfl, _⟩ := ht.spell
 obtain ⟨k0, k1, k2, k3⟩ := cell_four b0
 clear h1 h2 ht b0 B0' hf hf' i1 i2 ex eP hP q1 q2 hwP hn
 generalize tr ys = P at *
 obtain ⟨lp, Hlp⟩ : ∃ n, Hid (P.length = n) := ⟨_, rfl⟩
 obtain ⟨n, Hn⟩ : ∃ n, Hid (xs.length = n) := ⟨_, rfl⟩
 obtain ⟨nt, Hnt⟩ : ∃ n, Hid (os.length = n) := ⟨_, rfl⟩
 rw [Hlp.out] at HT HTo HDe q5 l4
 rw [Hn.out] at HB7 HX HTo q5 l5 HO0 K0 B0 k0 k1 k2 k3 ⊢
 rw [Hnt.out] at HTn htl ⊢
 generalize ys.length = ny at *
 go_enter Try.func4, Try.ntmps4
 go_wp2_with fail
 refine (HT.out _ B0.out).mono ?_
 rintro e w1 ⟨v3, rfl, hO3, hb1⟩
 have hB1 := Below.next B0.out hb1
 have K1 := hide (kept K0.out hb1)
 obtain ⟨m0, m1, m2, m3⟩ := cell_four K1.out
 have R3 := hide (HWd.out _ _ _ _ hO3)
 obtain ⟨a3, c3, rfl⟩ := own_form hO3
 clear k0 k1 k2 k3 hO3 HT HWd
 go_wp2_with (first
  | (go_at_call 13; refine (HB3.out _ _ R3.out).mono ?_; rintro e w2 ⟨rfl, hw⟩; rw [hw]; clear hw)
  | (go_at_call 14; refine (HB7.out _ hB1).mono ?_; rintro e w3 ⟨rfl, hb3⟩; have hB3 := Below.next hB1 hb3; have K3 := hide (kept K1.out hb3); obtain ⟨p0, p1, p2, p3⟩ := cell_four K3.out; have RP := hide (R3.out.below hb3); have RX := hide (HX.out _ hB3); have RT := hide (HTn.out _ hB3)))
 clear HB3 HB7 HX HTn R3 K1 K0 m0 m1 m2 m3 p0 p1 p2 p3
 go_loopw [13, 14] (fun va vi wr => ∃ (i : Nat) (a : Option Addr) (c : Nat), i ≤ n ∧ vi = .int .i64 i ∧ va = .slice a i c ∧ Hid (wr.ownsRow w3.heap.size 40 1 (.slice a i c) i (vals (mk i (fun j => vl p (co xs j) P)))) ∧ Below w3.heap.size w3 wr) (fun _ vi _ => n - (intOf vi).toNat)
 case atStart => exact ⟨0, none, 0, Nat.zero_le _, rfl, rfl, World.ownsRow_nil _ _ _ _, Below.refl _ _⟩
 case round =>
  obtain ⟨i, a, c, hi, rfl, rfl, HO, hB⟩ := hrel
  obtain ⟨m0, m1, m2, m3⟩ := cell_four (kept K3.out hB)
  by_cases hin : i < n
  · obtain ⟨b, off, rfl, hcx⟩ := RX.out.cellAt (by rw [Hn.out]; omega)
    have c1 := hcx wr hB i (by rw [Hn.out]; exact hin)
    have HEk := hide (HEv.out wr _ i (RP.out.below hB))
    have HMk := hide (mk_snoc i (fun j => vl p (co xs j) P))
    have hi0 : (0 : Int) ≤ (i : Int) := Int.natCast_nonneg _
    have hi1 : (i : Int) < (n : Int) := by omega
    clear hcx HEv HOf HDe HTo HSe HEm HO0
    obtain ⟨x, Hx⟩ : ∃ x, Hid (vl p (co xs i) P = x) := ⟨_, rfl⟩
    obtain ⟨F, HF⟩ : ∃ F, Hid ((fun j => vl p (co xs j) P) = F) := ⟨_, rfl⟩
    rw [Hx.out] at HEk
    rw [HF.out] at HO HMk
    rw [Hx.out] at HMk
    obtain ⟨t, Ht⟩ : ∃ t, Hid (co xs i = t) := ⟨_, rfl⟩
    rw [Ht.out] at HEk c1
    go_wp2_with (first
     | (at_builtin; refine Lib.wpList_append_run _ rfl _ _ _ _ rfl _ _ rfl rfl _ _ hr5 ?_)
     | (go_at_call 15; refine HEk.out.mono ?_; rintro e w4 ⟨rfl, hb4⟩; have hB4 := Below.next hB hb4; obtain ⟨au, cu, W5, hr5, ho5, hb5⟩ := appV w4 w3.heap.size (.slice a i c) (mk i F) x (by rw [mk_len]; exact own_below HO.out hb4) (by rw [mk_len]; omega) hB4.size; rw [mk_len] at hr5 ho5; rw [HMk.out] at ho5; have HO5 := hide ho5; clear ho5; have hB5 := hB4.trans hb5))
    go_roundw
    case rel => exact ⟨i + 1, au, cu, by omega, by go_num, rfl, by rw [HF.out]; exact HO5.out, hB5⟩
    case measure => simp [intOf]; omega
  · obtain rfl : n = i := by omega
    clear HEv
    have HE0 := hide (HEm.out n)
    have HO1 : Hid ((offp p P xs (mk n (fun j => vl p (co xs j) P))).length = 0) := by show _ = _; rw [HO0.out]; rfl
    have HL0 : Hid ((mk n (fun j => vl p (co xs j) P)).length = n) := mk_len _ _
    clear HEm HO0
    obtain ⟨Y0, HY0⟩ : ∃ Y0, Hid (mk n (fun j => vl p (co xs j) P) = Y0) := ⟨_, rfl⟩
    rw [HY0.out] at HO HE0 HO1 HL0
    go_wp2_with fail
    go_loopw [17] (fun vj wk => ∃ (j : Nat) (Y : List Int), vj = .int .i64 j ∧ (j : Int) ≤ k ∧ Y.length = n ∧ Hid (Els p Y) ∧ Hid ((offp p P xs Y).length ≤ j) ∧ Hid (wk.ownsRow w3.heap.size 40 1 (.slice a n c) n (vals Y)) ∧ Below w3.heap.size w3 wk) (fun vj _ => (k - intOf vj).toNat)
    case atStart => exact ⟨0, Y0, rfl, q3, HL0.out, HE0, Nat.le_of_eq HO1.out, HO, hB⟩
    case round =>
     clear HO hB m0 m1 m2 m3 HE0 HO1 HL0 HY0
     obtain ⟨j, Y, rfl, hjk, hYl, HYe, HYo, HO, hB⟩ := hrel
     obtain ⟨m0, m1, m2, m3⟩ := cell_four (kept K3.out hB)
     by_cases hjt : j < nt
     · by_cases hjk2 : (j : Int) < k
       · have hn0 : 0 < n := by omega
         obtain ⟨g, rfl, hg⟩ := own_some HO.out hn0
         obtain ⟨bt, ot, ct', e9, _, _⟩ := RT.out.form (by rw [Hnt.out]; omega)
         injection e9 with e91 e92 e93
         subst e91
         clear e92 e93
         obtain ⟨o, ho⟩ : ∃ o, os[j]? = some o := ⟨_, List.getElem?_eq_getElem (by rw [Hnt.out]; exact hjt)⟩
         have hok := hos o (List.mem_of_getElem? ho)
         have hT := RT.out.below hB
         have t1 := (hT.at_ (i := j) (j := 0) ho rfl).2
         have t2 := (hT.at_ (i := j) (j := 1) ho rfl).2
         have t3 : wr.cell? ⟨bt, ot + j * 2, none⟩ = _ := t1
         have t4 : wr.cell? ⟨bt, ot + j * 2 + 1, none⟩ = _ := t2
         obtain ⟨⟨ok1, ok2⟩, ok3, ok4⟩ := hok
         generalize o.1 = x at *
         generalize o.2 = y at *
         obtain ⟨q, hq, hxq⟩ := tmod_at (x := x) ok1 hn0
         obtain ⟨z, hz, hyz⟩ := tmod_el (y := y) hp0 ok3
         have hnz : ¬ (n : Int) = 0 := by omega
         have hpz : ¬ p = 0 := by omega
         have HO2 : Hid ((offp p P xs (Y.set q z)).length ≤ j + 1) := by
          have := HSe.out Y q z
          have h9 := HYo.out
          show _ ≤ _
          omega
         have HE2 := hide (els_put HYe.out hz q)
         have hYl2 : (Y.set q z).length = n := by rw [List.length_set]; exact hYl
         have HOk := hide (fun nq => own_here (k := q) (z := z) (own_below HO.out (below_drewN (Below.refl _ _) nq)))
         have hj0 : (0 : Int) ≤ (j : Int) := Int.natCast_nonneg _
         have hj1 : (j : Int) < (nt : Int) := by omega
         have hq0 : (0 : Int) ≤ (q : Int) := Int.natCast_nonneg _
         have hq1 : (q : Int) < (n : Int) := by omega
         obtain ⟨hz0, hz1⟩ := hz
         have ccY := own_cell HO.out hYl hq
         have ccF := free_own HO.out q
         clear HO HYo HYe HSe hT ho HTo HOf HDe
         generalize Y.set q z = Y2 at *
         go_upto_region 15 with fail
         refine wp_region_last (by kernel_rfl) (by kernel_rfl) (by kernel_rfl) ?_
         simp only [List.dropLast]
         repeat (go_big_quiet_step (first
          | (go_at_call 16; exact Calls.quiet_of_same (HP.out _))))
         refine wpQuiet_nil ?_
         intro _ hw'
         obtain ⟨nq, hw''⟩ := hw'
         subst hw''
         simp only [lastL]
         go_wp2
         have R1 := hide (HOk.out nq)
         have R2 := (below_drewN hB nq).setCell (p := ⟨g, q, none⟩) hg (.int .u64 z)
         go_roundw
         case rel => exact ⟨j + 1, Y2, by go_num, by omega, hYl2, HE2, HO2, R1, R2⟩
         case measure => simp [intOf]; omega
       · have HDo := HTo.out Y HYe.out hYl (by have := HYo.out; omega)
         have HD2 := hide HDo.2
         have RY := hide (rw_of_own HO.out (by omega) (els_words HYe.out hp1))
         have HDe2 := hide (HDe.out _ _ _ Y (RX.out.below hB) RY.out (by omega))
         rw [HDo.1] at HDe2
         have HOf2 := hide (fun W hb => HOf.out W _ _ _ Y ((RP.out.below hB).below hb) ((RX.out.below hB).below hb) (RY.out.below hb) (by rw [hYl, Hn.out]))
         have HLo := hide (offp_len p P xs Y)
         have HSe2 := hide (fun W hb => (RP.out.below hB).below (w' := W) hb)
         clear HDo HTo HDe HOf HYe HYo HO HSe HP
         go_wp2_with fail
         refine HDe2.out.mono ?_
         rintro e w6 ⟨vp, va, Q, aq, ok, rfl, hS, o1, o2, hb6⟩
         obtain ⟨rfl, rfl, rfl⟩ := HD2.out _ _ _ hS
         have hB6 := Below.next hB hb6
         obtain ⟨n0, n1, n2, n3⟩ := cell_four (kept K3.out hB6)
         obtain ⟨ap, cp, rfl⟩ := own_form o1
         obtain ⟨aa, ca, rfl⟩ := own_form o2
         have R5 := hide (rw_of_own o1 (by have := Hlp.out; omega) (RP.out.words))
         have L5 := hide (lm_own o2 (by rw [ofI_len]; have := HLo.out; have := Hn.out; omega))
         clear hS o1 o2 m0 m1 m2 m3 HDe2
         obtain ⟨la, Hla⟩ : ∃ n, Hid ((ofI p Q xs Y).length = n) := ⟨_, rfl⟩
         rw [Hlp.out] at R5 ⊢
         rw [Hla.out] at L5 ⊢
         have Hlo9 : Hid ((offp p Q xs Y).length = la) := by show _ = _; rw [← Hla.out, ofI_len]
         have hla : la ≤ 512 := by have := Hla.out; rw [ofI_len] at this; have := HLo.out; have := Hn.out; omega
         go_wp2_with (first
          | (go_at_call 11; refine (anch17 _).mono ?_; rintro e w7 ⟨rfl, hb7⟩; have hB7 := Below.next hB6 hb7; have hb67 := Below.next hb6 hb7; obtain ⟨r0, r1, r2, r3⟩ := cell_four (kept K3.out hB7))
          | (go_at_call 9; refine (Same_yes _ _ Q _ (HSe2.out _ hb67).1 (R5.out.below hb7).1).mono ?_; rintro e w8 ⟨rfl, hb8⟩; have hB8 := Below.next hB7 hb8; have hb68 := Below.next hb67 hb8; have hb78 := Below.next hb7 hb8; obtain ⟨s0, s1, s2, s3⟩ := cell_four (kept K3.out hB8))
          | (go_at_call 17; refine (HOf2.out _ hb68).mono ?_; rintro e w9 ⟨v9, rfl, hO9, hb9⟩; have hB9 := Below.next hB8 hb9; have hb79 := Below.next hb78 hb9; rw [← iw_nms, Hlo9.out] at hO9; have L9 := hide (lm_own (xs := ofI p Q xs Y) hO9 (by rw [ofI_len]; have := HLo.out; have := Hn.out; omega)); obtain ⟨a9, c9, rfl⟩ := own_form hO9; clear hO9)
          | (go_at_call 10; refine (dInts _ _ _ _ _ (L5.out.below hb79) L9.out).mono ?_; rintro e w10 ⟨r10, rfl, hr10, hb10⟩; obtain rfl : r10 = true := hr10.2 rfl; clear hr10; have hB10 := Below.next hB9 hb10))
         go_ret
         exact ⟨rfl, Below.next hB3 hB10⟩
     · have HDo := HTo.out Y HYe.out hYl (by have := HYo.out; omega)
       have HD2 := hide HDo.2
       have RY := hide (rw_of_own HO.out (by omega) (els_words HYe.out hp1))
       have HDe2 := hide (HDe.out _ _ _ Y (RX.out.below hB) RY.out (by omega))
       rw [HDo.1] at HDe2
       have HOf2 := hide (fun W hb => HOf.out W _ _ _ Y ((RP.out.below hB).below hb) ((RX.out.below hB).below hb) (RY.out.below hb) (by rw [hYl, Hn.out]))
       have HLo := hide (offp_len p P xs Y)
       have HSe2 := hide (fun W hb => (RP.out.below hB).below (w' := W) hb)
       clear HDo HTo HDe HOf HYe HYo HO HSe HP
       go_wp2_with fail
       refine HDe2.out.mono ?_
       rintro e w6 ⟨vp, va, Q, aq, ok, rfl, hS, o1, o2, hb6⟩
       obtain ⟨rfl, rfl, rfl⟩ := HD2.out _ _ _ hS
       have hB6 := Below.next hB hb6
       obtain ⟨n0, n1, n2, n3⟩ := cell_four (kept K3.out hB6)
       obtain ⟨ap, cp, rfl⟩ := own_form o1
       obtain ⟨aa, ca, rfl⟩ := own_form o2
       have R5 := hide (rw_of_own o1 (by have := Hlp.out; omega) (RP.out.words))
       have L5 := hide (lm_own o2 (by rw [ofI_len]; have := HLo.out; have := Hn.out; omega))
       clear hS o1 o2 m0 m1 m2 m3 HDe2
       obtain ⟨la, Hla⟩ : ∃ n, Hid ((ofI p Q xs Y).length = n) := ⟨_, rfl⟩
       rw [Hlp.out] at R5 ⊢
       rw [Hla.out] at L5 ⊢
       have Hlo9 : Hid ((offp p Q xs Y).length = la) := by show _ = _; rw [← Hla.out, ofI_len]
       have hla : la ≤ 512 := by have := Hla.out; rw [ofI_len] at this; have := HLo.out; have := Hn.out; omega
       go_wp2_with (first
        | (go_at_call 11; refine (anch17 _).mono ?_; rintro e w7 ⟨rfl, hb7⟩; have hB7 := Below.next hB6 hb7; have hb67 := Below.next hb6 hb7; obtain ⟨r0, r1, r2, r3⟩ := cell_four (kept K3.out hB7))
        | (go_at_call 9; refine (Same_yes _ _ Q _ (HSe2.out _ hb67).1 (R5.out.below hb7).1).mono ?_; rintro e w8 ⟨rfl, hb8⟩; have hB8 := Below.next hB7 hb8; have hb68 := Below.next hb67 hb8; have hb78 := Below.next hb7 hb8; obtain ⟨s0, s1, s2, s3⟩ := cell_four (kept K3.out hB8))
        | (go_at_call 17; refine (HOf2.out _ hb68).mono ?_; rintro e w9 ⟨v9, rfl, hO9, hb9⟩; have hB9 := Below.next hB8 hb9; have hb79 := Below.next hb78 hb9; rw [← iw_nms, Hlo9.out] at hO9; have L9 := hide (lm_own (xs := ofI p Q xs Y) hO9 (by rw [ofI_len]; have := HLo.out; have := Hn.out; omega)); obtain ⟨a9, c9, rfl⟩ := own_form hO9; clear hO9)
        | (go_at_call 10; refine (dInts _ _ _ _ _ (L5.out.below hb79) L9.out).mono ?_; rintro e w10 ⟨r10, rfl, hr10, hb10⟩; obtain rfl : r10 = true := hr10.2 rfl; clear hr10; have hB10 := Below.next hB9 hb10))
       go_ret
       exact ⟨rfl, Below.next hB3 hB10⟩
theorem locHits_any (f : Int) (v1 v2 vt : Value) (xs ys : List Int) (os : List (Int × Int)) (d k : Int) (w : World) (h1 : Rw w v1 xs) (h2 : Rw w v2 ys) (ht : Lm pw2 2 w vt os) (hos : ∀ o ∈ os, Ok2 o) (hd : -9223372036854775808 ≤ d ∧ d ≤ 9223372036854775807) (hk : -9223372036854775808 ≤ k ∧ k ≤ 9223372036854775807) :
 Calls Try.prog 4 #[.int .u8 f, .agg #[v1, v2, .int .i64 d, .int .i64 k], vt] w fun e w' => e = .returned (.bool true) ∧ Below w.heap.size w w' := by
 by_cases c : hitB f xs (tr ys) k
 · exact locHits_yes f v1 v2 vt xs ys os d k w h1 h2 ht hos hd hk c
 · exact locHits_no f v1 v2 vt xs ys d k w h1 h2 hd hk c
end Go.Proofs.Ytnapbdoalfbgnaa
