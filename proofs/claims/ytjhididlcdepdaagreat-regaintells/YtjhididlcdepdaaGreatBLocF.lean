import Derived.Test.YtjhididlcdepdaaGreatBunIB
import Derived.Test.YtjhididlcdepdaaGreatBEucC
set_option linter.unusedVariables false
set_option linter.unusedSimpArgs false
set_option maxRecDepth 100000
set_option maxHeartbeats 4000000
namespace Go.Proofs.YtjhididlcdepdaaGreat
open Go.RowKit Fld
theorem Rw.off_ {W : World} {v : Value} {xs : List Int} {g : Nat} {cs : Array Value} {T : TypeId} (h : Rw W v xs) (hb : W.heap[g]? = some (.cells cs T (0, 0))) (hn : ∀ (i : Nat) (x : Int), cs[i]? ≠ some (Value.int .u64 x)) (j : Nat) (u : Value) : Rw (W.setCell ⟨g, j, none⟩ u) v xs := by
 obtain ⟨⟨ao, cap, h1, h2, h3, h4⟩, h5⟩ := h
 refine ⟨⟨ao, cap, h1, h2, h3, fun hne => ?_⟩, h5⟩
 obtain ⟨b, off, h6, h7, h8⟩ := h4 hne
 have hbk : b ≠ g := by
  intro e
  subst e
  have h9 := h8 0 (List.length_pos_iff.2 hne)
  rw [cell_of_row W b (off + 0) _ _ _ hb] at h9
  exact hn _ _ h9
 refine ⟨b, off, h6, by simp [World.setCell]; exact h7, fun i hi => ?_⟩
 rw [<- h8 i hi]
 exact World.cell?_of_block (Below.heap_setCell _ _ _ b (fun e => hbk e))
theorem two_sl (a b : Option Addr) (n m c d : Nat) : ∀ (i : Nat) (x : Int), (#[Value.slice a n c, Value.slice b m d] : Array Value)[i]? ≠ some (Value.int .u64 x) := fun i x => by
 rcases i with _ | _ | i <;> simp
theorem cell_two {W : World} {g : Nat} {u v : Value} {T : TypeId} (h : W.heap[g]? = some (.cells #[u, v] T (0, 0))) : W.cell? ⟨g, 0, none⟩ = some u ∧ W.cell? ⟨g, 1, none⟩ = some v ∧ W.frozen? ⟨g, 0, none⟩ = false ∧ W.frozen? ⟨g, 1, none⟩ = false := by
 refine ⟨?_, ?_, ?_, ?_⟩ <;> simp [World.cell?, World.frozen?, h]
theorem gEnough (n : Nat) (d w : Int) (W : World) (hn : n <= 1000000) (hd : -1 <= d ∧ d <= 9223372036854775807) (hw : 0 <= w ∧ w <= 9223372036854775807) :
 Calls Tryz.prog 87 #[.int .i64 n, .int .i64 d, .int .i64 w] W fun e w' => e = .returned (.bool (!decide ((n : Int) < d + 2 * w + 1))) ∧ w' = W := by
 by_cases h1 : (n : Int) - 1 - d < 0
 · have h2 : (!decide ((n : Int) < d + 2 * w + 1)) = false := by rw [decide_eq_true (by omega)]; rfl
   rw [h2]
   clear h2
   have h3 : ¬ 0 <= (n : Int) - 1 - d := by omega
   go_enter Tryz.func87, Tryz.ntmps87
   go_wp2
   go_ret
   exact ⟨rfl, rfl⟩
 · have h3 : 0 <= (n : Int) - 1 - d := by omega
   have h4 : (!decide ((n : Int) < d + 2 * w + 1)) = decide (w <= ((n : Int) - 1 - d) / 2) := by
    by_cases c : (n : Int) < d + 2 * w + 1
    · rw [decide_eq_true c, decide_eq_false (by omega)]; rfl
    · rw [decide_eq_false c, decide_eq_true (by omega)]; rfl
   have h5 : ((n : Int) - 1 - d).tdiv 2 = ((n : Int) - 1 - d) / 2 := Int.tdiv_eq_ediv_of_nonneg h3
   rw [h4]
   clear h4
   have h6 : 0 <= ((n : Int) - 1 - d) / 2 ∧ ((n : Int) - 1 - d) / 2 <= 1000000 := by omega
   generalize ((n : Int) - 1 - d) / 2 = q at *
   go_enter Tryz.func87, Tryz.ntmps87
   go_wp2
   go_ret
   exact ⟨rfl, rfl⟩
theorem gSearch (f p : Int) (wd : Bool) (v1 v2 : Value) (xs T : List Int) (d w : Int) (W : World) (h : Fi f p wd) (h1 : Rw W v1 xs) (h2 : Rw W v2 T) (hx : Els p xs) (hl : xs.length <= 512) (hT : Els p T) (lT : T.length <= 512) (hd : -1 <= d) (hw : 0 <= w) (hs : d + w + 1 <= 512) :
 Calls Tryz.prog 88 #[.int .u8 f, v1, v2, .int .i64 d, .int .i64 w] W fun e w' => ∃ c0 c2 A B, e = .returned (.agg #[c0, c2]) ∧ Rw w' c0 B.x ∧ Rw w' c2 B.v ∧ Fnd p (d + w + 1).toNat (zl p xs) T A B ∧ Below W.heap.size W w' := by
 have hz := zl_facts h.md xs
 have hk : chk f [xs] = 0 := chk_els h (fun l hl' => by rw [List.mem_singleton.1 hl']; exact ⟨hx, by omega⟩)
 have HZ := hide (fun W' (hb : Below W.heap.size W W') => tZero_any f v1 xs W' (h1.below hb))
 unfold Gives zeroL at HZ
 rw [hk, pOf_eq h] at HZ
 simp only [if_true] at HZ
 have hst : stE f (zl p xs) T (d + w + 1) = 0 := by
  unfold stE
  rw [if_neg (by omega)]
  exact chE_yes h hz.1.1 hT (by omega) (by omega)
 have HP := hide (fun W' vz (hb : Below W.heap.size W W') (hr : Rw W' vz (zl p xs)) => ePartial_any f vz v2 (zl p xs) T (d + w + 1) W' hr (h2.below hb))
 rw [hst] at HP
 have HF : Hid (∀ B, PtE f (zl p xs) T (d + w + 1) B -> ∃ A, Fnd p (d + w + 1).toNat (zl p xs) T A B) := fun B hB => by
  have := hB.2 hst
  rw [pOf_eq h] at this
  exact this
 have HW : Hid (Wd (zl p xs)) := Tm.wd hz.1 h.top (by omega)
 have e0 := heap_alloc_new W (.cells #[.slice none 0 0, .slice none 0 0] 134)
 have b0 := alloc_below W (.cells #[.slice none 0 0, .slice none 0 0] 134)
 have E0 := hide e0
 have B0 := hide b0
 clear hz hk hst h1 h2 hx hT h e0 b0 hl lT
 go_enter Tryz.func88, Tryz.ntmps88
 go_wp2_with (first
  | (go_at_call 113; refine (HZ.out _ B0.out).mono ?_; rintro e w1 ⟨vz, rfl, hO, hb1⟩; have HR := hide (HW.out.row hO); clear hO; have hB1 := Below.next B0.out hb1; have E1 := hide ((hb1.block _ (Array.getElem?_eq_some_iff.1 E0.out).1).trans E0.out))
  | (go_at_call 119; refine (HP.out _ _ hB1 HR.out).mono ?_; rintro e w2 ⟨c0, c1, c2, B, rfl, RB, hpt, hb2⟩; have hB2 := Below.next hB1 hb2; obtain ⟨x0, y0, rfl, _⟩ := RB.1.spell; obtain ⟨x2, y2, rfl, _⟩ := RB.2.2.spell; have E2 := hide ((hb2.block _ (Array.getElem?_eq_some_iff.1 E1.out).1).trans E1.out); obtain ⟨k0, k1, k2, k3⟩ := cell_two E2.out; have R0 := hide RB.1; have R2 := hide RB.2.2; have HPt := hide hpt; clear RB hpt))
 have F1 := set_blk E2.out 0 (.slice x0 B.x.length y0)
 have F2 := set_blk F1 1 (.slice x2 B.v.length y2)
 have G0 := hide ((R0.out.off_ E2.out (two_sl _ _ _ _ _ _) 0 (.slice x0 B.x.length y0)).off_ F1 (two_sl _ _ _ _ _ _) 1 (.slice x2 B.v.length y2))
 have G2 := hide ((R2.out.off_ E2.out (two_sl _ _ _ _ _ _) 0 (.slice x0 B.x.length y0)).off_ F1 (two_sl _ _ _ _ _ _) 1 (.slice x2 B.v.length y2))
 have HB : Hid (Below W.heap.size W ((w2.setCell ⟨W.heap.size, 0, none⟩ (.slice x0 B.x.length y0)).setCell ⟨W.heap.size, 1, none⟩ (.slice x2 B.v.length y2))) := (hB2.setCell (p := ⟨W.heap.size, 0, none⟩) (Nat.le_refl _) _).setCell (p := ⟨W.heap.size, 1, none⟩) (Nat.le_refl _) _
 generalize ((w2.setCell ⟨W.heap.size, 0, none⟩ (.slice x0 B.x.length y0)).setCell ⟨W.heap.size, 1, none⟩ (.slice x2 B.v.length y2)) = wF at *
 obtain ⟨g0, g1, _, _⟩ := cell_two (u := .slice x0 B.x.length y0) (v := .slice x2 B.v.length y2) F2
 obtain ⟨A, hA⟩ := HF.out B HPt.out
 refine bodyPost_ret (v := .agg #[.slice x0 B.x.length y0, .slice x2 B.v.length y2]) ?_ rfl ⟨_, _, A, B, rfl, G0.out, G2.out, hA, HB.out⟩
 simp [results, Tryz.results88, go_sem, g0, g1]
def okB (R P V : List Int) (d w : Int) : Bool := R.isEmpty && decide ((P.length : Int) - 1 <= d) && decide ((V.length : Int) - 1 <= w)
theorem okB_yes {P V : List Int} {d w : Int} (h1 : (P.length : Int) - 1 <= d) (h2 : (V.length : Int) - 1 <= w) : okB [] P V d w = true := by
 unfold okB; rw [decide_eq_true h1, decide_eq_true h2]; rfl
theorem okB_no {R P V : List Int} {d w : Int} (h : R ≠ [] ∨ ¬ (P.length : Int) - 1 <= d ∨ ¬ (V.length : Int) - 1 <= w) : okB R P V d w = false := by
 unfold okB
 rcases h with h | h | h
 · cases R with
   | nil => exact absurd rfl h
   | cons a R => rfl
 · rw [decide_eq_false h]; simp
 · rw [decide_eq_false h]; simp
theorem gDeg (v : Value) (xs : List Int) (n : Nat) (W : World) (hr : Rw W v xs) (ht : tr xs = xs) (hn : xs.length = n) : Calls Tryz.prog 120 #[v] W fun e w' => e = .returned (.int .i64 ((n : Int) - 1)) ∧ Below W.heap.size W w' := by
 have := Degree_any v xs W hr
 rwa [ht, hn] at this
theorem gPolynomial (f p : Int) (wd : Bool) (c0 c2 : Value) (X V : List Int) (d w : Int) (W : World) (h : Fi f p wd) (h1 : Rw W c0 X) (h2 : Rw W c2 V) (tX : Tm p X) (tV : Tm p V) (hV : V ≠ []) (l1 : X.length <= 4096) (l2 : V.length <= 4096) :
 Calls Tryz.prog 89 #[.agg #[c0, c2], .int .u8 f, .int .i64 d, .int .i64 w] W fun e w' => ∃ v P R, e = .returned (.tuple #[v, .bool (okB R P V d w)]) ∧ Dv p X V P R ∧ w'.ownsRow W.heap.size 64 1 v (if okB R P V d w = true then P else []).length (vals (if okB R P V d w = true then P else [])) ∧ Below W.heap.size W w' := by
 have hE : divE f X V = 0 := by rw [div_ok h tX.1 tV l1 l2, if_neg hV]
 have HD := hide (fun W' (hb : Below W.heap.size W W') => pDivMod_any f c0 c2 X V W' (h1.below hb) (h2.below hb))
 unfold Parts at HD
 rw [hE] at HD
 have HS := hide (fun A B (hs : DvE f X V A B) => DvE.dv h hE hs)
 have HWd := hide (fun A B (hv : Dv p X V A B) => dv_wd h.md h.top tV.1 hv l1 l2)
 have HL := hide (fun A B (hv : Dv p X V A B) => Dv.len h.md tV.1 hv)
 obtain ⟨x0, y0, rfl, _⟩ := h1.spell
 obtain ⟨x2, y2, rfl, _⟩ := h2.spell
 have HGV := hide (fun W' (hb : Below W.heap.size W W') => gDeg (.slice x2 V.length y2) V V.length W' (h2.below hb) tV.2 rfl)
 have E0 := hide (heap_alloc_new W (.cells #[.slice x0 X.length y0, .slice x2 V.length y2] 134))
 have B0 := hide (alloc_below W (.cells #[.slice x0 X.length y0, .slice x2 V.length y2] 134))
 obtain ⟨lv, HLV⟩ : ∃ lv, Hid (V.length = lv) := ⟨_, rfl⟩
 have hlv : lv <= 4096 := by rw [<- HLV.out]; exact l2
 rw [HLV.out] at HD HGV E0 B0
 have k0 := (cell_two E0.out).1
 have k1 := (cell_two E0.out).2.1
 clear h1 h2 hE h tX tV hV l2
 go_enter Tryz.func89, Tryz.ntmps89
 rw [HLV.out]
 go_wp2_with fail
 refine (HD.out _ B0.out).mono ?_
 rintro e w1 ⟨vq, vr, A, B, b, rfl, hS, hOq, hOr, _, hWb, hb1⟩
 have HV := hide (HS.out A B hS)
 obtain ⟨WA, WB⟩ := HWd.out A B HV.out
 have RA := hide (WA.row hOq)
 have RB := hide (WB.row hOr)
 obtain ⟨aq, cq, rfl, _⟩ := RA.out.spell
 obtain ⟨ar, cr, rfl, _⟩ := RB.out.spell
 have hB1 := Below.next B0.out hb1
 have E1 := hide ((hb1.block _ (Array.getElem?_eq_some_iff.1 E0.out).1).trans E0.out)
 have HO := hide (own_mono (base' := W.heap.size) hOq (by have := B0.out.size; omega))
 have lA : A.length <= 17592186043904 := WA.1
 have lB : B.length <= 17592186043904 := WB.1
 have HDP := hide (fun W' (hb : Below w1.heap.size w1 W') => gDeg _ A A.length W' (RA.out.below hb) HV.out.rg.1.2 rfl)
 have HDR := hide (fun W' (hb : Below w1.heap.size w1 W') => gDeg _ B B.length W' (RB.out.below hb) HV.out.rg.2.1.2 rfl)
 clear hS hOq hOr HD HS HWd k0 k1 WA WB HL
 by_cases hR : B = []
 · subst hR
   clear RB
   have HDR : Hid (∀ W', Below w1.heap.size w1 W' -> Calls Tryz.prog 120 #[.slice ar 0 cr] W' fun e w' => e = .returned (.int .i64 (-1)) ∧ Below W'.heap.size W' w') := fun W' hb => HDR.out W' hb
   rw [List.length_nil]
   by_cases hP : (A.length : Int) - 1 <= d
   · by_cases hL : (lv : Int) - 1 <= w
     · have HK : Hid (okB [] A V d w = true) := okB_yes hP (by rw [HLV.out]; exact hL)
       obtain ⟨la, HA⟩ : ∃ la, Hid (A.length = la) := ⟨_, rfl⟩
       rw [HA.out] at HDP hP lA ⊢
       have hP2 : ¬ d < (la : Int) - 1 := by omega
       have hL2 : ¬ w < (lv : Int) - 1 := by omega
       clear hP hL
       go_wp2_with (first
        | (go_at_call 120; refine (HGV.out _ hB3).mono ?_; rintro e w4 ⟨rfl, hb4⟩; have hB4 := Below.next hB3 hb4; have hb14 := Below.next hb13 hb4)
        | (go_at_call 120; refine (HDP.out _ hb12).mono ?_; rintro e w3 ⟨rfl, hb3⟩; have hB3 := Below.next hB2 hb3; have hb13 := Below.next hb12 hb3; obtain ⟨k0, k1, _, _⟩ := cell_two ((hb13.block _ (Array.getElem?_eq_some_iff.1 E1.out).1).trans E1.out))
        | (go_at_call 120; refine (HDR.out _ (Below.refl _ _)).mono ?_; rintro e w2 ⟨rfl, hb12⟩; have hB2 := Below.next hB1 hb12))
       go_ret2
       refine ⟨.slice aq la cq, A, [], by rw [HK.out]; first | done | rfl, HV.out, ?_, hB4⟩
       rw [HK.out, if_pos rfl]
       have := own_below HO.out hb14
       rwa [HA.out] at this ⊢
     · have HK : Hid (okB [] A V d w = false) := okB_no (.inr (.inr (by rw [HLV.out]; exact hL)))
       obtain ⟨la, HA⟩ : ∃ la, Hid (A.length = la) := ⟨_, rfl⟩
       rw [HA.out] at HDP hP lA ⊢
       have hP2 : ¬ d < (la : Int) - 1 := by omega
       have hL2 : w < (lv : Int) - 1 := by omega
       clear hP hL
       go_wp2_with (first
        | (go_at_call 120; refine (HGV.out _ hB3).mono ?_; rintro e w4 ⟨rfl, hb4⟩; have hB4 := Below.next hB3 hb4; have hb14 := Below.next hb13 hb4)
        | (go_at_call 120; refine (HDP.out _ hb12).mono ?_; rintro e w3 ⟨rfl, hb3⟩; have hB3 := Below.next hB2 hb3; have hb13 := Below.next hb12 hb3; obtain ⟨k0, k1, _, _⟩ := cell_two ((hb13.block _ (Array.getElem?_eq_some_iff.1 E1.out).1).trans E1.out))
        | (go_at_call 120; refine (HDR.out _ (Below.refl _ _)).mono ?_; rintro e w2 ⟨rfl, hb12⟩; have hB2 := Below.next hB1 hb12))
       go_ret2
       exact ⟨.slice none 0 0, A, [], by rw [HK.out]; first | done | rfl, HV.out, by rw [HK.out]; exact World.ownsRow_nil _ _ _ _, hB4⟩
   · have HK : Hid (okB [] A V d w = false) := okB_no (.inr (.inl hP))
     obtain ⟨la, HA⟩ : ∃ la, Hid (A.length = la) := ⟨_, rfl⟩
     rw [HA.out] at HDP hP lA ⊢
     have hP2 : d < (la : Int) - 1 := by omega
     clear hP
     go_wp2_with (first
      | (go_at_call 120; refine (HDP.out _ hb12).mono ?_; rintro e w3 ⟨rfl, hb3⟩; have hB3 := Below.next hB2 hb3)
      | (go_at_call 120; refine (HDR.out _ (Below.refl _ _)).mono ?_; rintro e w2 ⟨rfl, hb12⟩; have hB2 := Below.next hB1 hb12))
     go_ret2
     exact ⟨.slice none 0 0, A, [], by rw [HK.out]; first | done | rfl, HV.out, by rw [HK.out]; exact World.ownsRow_nil _ _ _ _, hB3⟩
 · have HK : Hid (okB B A V d w = false) := okB_no (.inl hR)
   have hl := List.length_pos_iff.2 hR
   obtain ⟨lb, HB⟩ : ∃ lb, Hid (B.length = lb) := ⟨_, rfl⟩
   rw [HB.out] at HDR hl lB ⊢
   have hP2 : (0 : Int) <= (lb : Int) - 1 := by omega
   clear hR
   go_wp2_with (go_at_call 120; refine (HDR.out _ (Below.refl _ _)).mono ?_; rintro e w2 ⟨rfl, hb12⟩; have hB2 := Below.next hB1 hb12)
   go_ret2
   exact ⟨.slice none 0 0, A, B, by rw [HK.out]; first | done | rfl, HV.out, by rw [HK.out]; exact World.ownsRow_nil _ _ _ _, hB2⟩
end Go.Proofs.YtjhididlcdepdaaGreat
