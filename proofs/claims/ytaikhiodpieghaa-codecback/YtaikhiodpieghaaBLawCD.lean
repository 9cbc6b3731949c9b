import Derived.Test.YtaikhiodpieghaaBLawCA
set_option linter.unusedVariables false
set_option linter.unusedSimpArgs false
set_option maxRecDepth 100000
set_option maxHeartbeats 4000000
namespace Go.Proofs.Ytaikhiodpieghaa
open Go.RowKit Fld
theorem xor20 {x t : Int} (x0 : 0 <= x) (x1 : x <= 255) (t0 : 0 <= t) (t1 : t <= 255) : 0 <= bits .xor .u8 x t ∧ bits .xor .u8 x t <= 255 ∧ (bits .xor .u8 x t = x ↔ t = 0) := by
 rw [u8_xor x t x0 (by omega) t0 (by omega)]
 obtain ⟨X, rfl⟩ := Int.eq_ofNat_of_zero_le x0
 obtain ⟨T, rfl⟩ := Int.eq_ofNat_of_zero_le t0
 have hlt : X ^^^ T < 2 ^ 8 := Nat.xor_lt_two_pow (by omega) (by omega)
 rw [Int.toNat_natCast, Int.toNat_natCast]
 refine ⟨by omega, by omega, fun he => ?_, fun he => ?_⟩
 · have he2 : X ^^^ T = X := by omega
   have h3 : X ^^^ (X ^^^ T) = X ^^^ X := by rw [he2]
   rw [<- Nat.xor_assoc, Nat.xor_self, Nat.zero_xor] at h3
   omega
 · have : T = 0 := by omega
   subst this
   rw [Nat.xor_zero]
theorem valb_set20 (ys : List Int) (k : Nat) (x : Int) : (valb ys).set k (.int .u8 x) = valb (ys.set k x) := by simp [valb, List.map_set]
theorem by_set20 {bs : List Int} (h : By bs) (k : Nat) {x : Int} (x0 : 0 <= x) (x1 : x <= 255) : By (bs.set k x) := fun y hy => by
 rcases List.mem_or_eq_of_mem_set hy with h1 | rfl
 · exact h y h1
 · exact ⟨x0, x1⟩
theorem by_at20 {bs : List Int} (h : By bs) {k : Nat} (hk : k < bs.length) : 0 <= bs.getD k 0 ∧ bs.getD k 0 <= 255 := by
 have : bs.getD k 0 = bs[k] := by rw [List.getD_eq_getElem?_getD, List.getElem?_eq_getElem hk]; rfl
 rw [this]; exact h _ (List.getElem_mem hk)
theorem set_ne20 {bs : List Int} {k : Nat} (hk : k < bs.length) {x : Int} : bs.set k x = bs ↔ x = bs.getD k 0 := by
 have e : bs.getD k 0 = bs[k] := by rw [List.getD_eq_getElem?_getD, List.getElem?_eq_getElem hk]; rfl
 constructor
 · intro h
   have h1 : (bs.set k x)[k]? = some x := List.getElem?_set_self hk
   rw [h, List.getElem?_eq_getElem hk] at h1
   rw [e]; exact (Option.some.inj h1).symm
 · intro h
   rw [h, e]; exact List.set_getElem_self hk
theorem own_turn {W : World} {base g N c k : Nat} {zs : List Int} {y : Int} (ho : W.ownsRow base 5 1 (.slice (some ⟨g, 0, none⟩) N c) N (valb zs)) (hl : zs.length = N) (hk : k < N) :
 (W.setCell ⟨g, k, none⟩ (.int .u8 y)).ownsRow base 5 1 (.slice (some ⟨g, 0, none⟩) N c) N (valb (zs.set k y)) ∧ W.cell? ⟨g, k, none⟩ = some (.int .u8 (zs.getD k 0)) ∧ W.frozen? ⟨g, k, none⟩ = false := by
 have h1 := (ho.stored k (.int .u8 y)).1
 rw [valb_set20] at h1
 exact ⟨h1, by rw [ho.cellAt k (by omega), valb_at zs k (by omega)], ho.frozenAt k⟩
theorem back20 {m : Mg} (hm : mgM m = true) (h0 : ∀ x ∈ m.l, 0 <= x) {k : Nat} {t : Int} (t0 : 0 <= t) (t1 : t <= 255) (hk : k < (slF sum8 (mgI m)).length) :
 (t = 0 ∧ mrE sum8 ((slF sum8 (mgI m)).set k (bits .xor .u8 ((slF sum8 (mgI m)).getD k 0) t)) = 0 ∧ mgS m (mrM sum8 ((slF sum8 (mgI m)).set k (bits .xor .u8 ((slF sum8 (mgI m)).getD k 0) t))) = true) ∨
 (t ≠ 0 ∧ mrE sum8 ((slF sum8 (mgI m)).set k (bits .xor .u8 ((slF sum8 (mgI m)).getD k 0) t)) ≠ 0) ∨
 (t ≠ 0 ∧ mrE sum8 ((slF sum8 (mgI m)).set k (bits .xor .u8 ((slF sum8 (mgI m)).getD k 0) t)) = 0 ∧ mgS m (mrM sum8 ((slF sum8 (mgI m)).set k (bits .xor .u8 ((slF sum8 (mgI m)).getD k 0) t))) = false) := by
 have hb := slF_by sum8 (mgI_by hm)
 obtain ⟨x0, x1⟩ := by_at20 hb hk
 obtain ⟨y0, y1, y2⟩ := xor20 x0 x1 t0 t1
 by_cases ht : t = 0
 · left
   have e := (set_ne20 hk).2 (y2.2 ht)
   rw [e]
   obtain ⟨r1, r2⟩ := mr_of_mw sum8_bd hm h0
   exact ⟨ht, r1, by rw [r2]; exact mgS_self m⟩
 · right
   have hne : (slF sum8 (mgI m)).set k (bits .xor .u8 ((slF sum8 (mgI m)).getD k 0) t) ≠ slF sum8 (mgI m) := fun h => ht (y2.1 ((set_ne20 hk).1 h))
   have h := mg_turned (S := sum8) (m := m) (by_set20 hb k y0 y1) hne
   rw [Bool.and_eq_false_iff] at h
   by_cases he : mrE sum8 ((slF sum8 (mgI m)).set k (bits .xor .u8 ((slF sum8 (mgI m)).getD k 0) t)) = 0
   · right
     refine ⟨ht, he, ?_⟩
     rcases h with h | h
     · exact absurd he (of_decide_eq_false h)
     · exact h
   · left; exact ⟨ht, he⟩
theorem cback_no (m : Mg) (s : Value) (a t : Int) (w : World) (hm : Mw w m s) (ha : 0 <= a ∧ a <= 65535) (ht : 0 <= t ∧ t <= 255) (hno : mgM m = false) :
 Calls Try.prog 5 #[mgv m s, .int .u16 a, .int .u8 t] w fun e w' => e = .returned (.bool true) ∧ Below w.heap.size w w' := by
 obtain ⟨hM, hB⟩ := mb_box (w := w) m s
 have HW := hide (gWrite m s _ (hm.below hB))
 unfold GivesB at HW
 have e1 : mwE m = 2 := by unfold mwE; rw [hno]; rfl
 have HM := hide (fun W hb => dMayM m s W ((hm.below hB).below (w' := W) hb))
 rw [hno] at HM
 rw [e1] at HW
 have HC := hide (fun W hb => (hM.below (w' := W) hb).cells)
 have ga := hide (fun W => anch20 W)
 obtain ⟨c0, c1, c2, c3, c4⟩ := hM.cells
 obtain ⟨a0, a1⟩ := ha
 obtain ⟨t0, t1⟩ := ht
 clear hm hM e1 hno
 unfold mgv mgc at HW HM ⊢
 generalize mwL sum8 m = zs at *
 go_enter Try.func5, Try.ntmps5
 go_wp2_with (first
  | (go_at_call 7; refine HW.out.mono ?_; rintro e w1 ⟨v1, rfl, ho1, hb1⟩; obtain ⟨x0, x1, x2, x3, x4⟩ := HC.out _ hb1)
  | (go_at_call 11; refine (HM.out _ hb1).mono ?_; rintro e w2 ⟨rfl, hb2⟩; have hB2 := Below.next (Below.next hB hb1) hb2)
  | (go_at_call 14; refine (ga.out _).mono ?_; rintro e w3 ⟨rfl, hb3⟩))
 go_ret
 exact ⟨rfl, Below.next hB2 hb3⟩
theorem cback_yes (m : Mg) (s : Value) (a t : Int) (w : World) (hm : Mw w m s) (ha : 0 <= a ∧ a <= 65535) (ht : 0 <= t ∧ t <= 255) (hyes : mgM m = true) :
 Calls Try.prog 5 #[mgv m s, .int .u16 a, .int .u8 t] w fun e w' => e = .returned (.bool true) ∧ Below w.heap.size w w' := by
 obtain ⟨hM, hB⟩ := mb_box (w := w) m s
 have h0 : ∀ x ∈ m.l, 0 <= x := fun x hx => by obtain ⟨_, _, _, _, hwd, _⟩ := hm.row; exact (hwd x hx).1
 have HW := hide (gWrite m s _ (hm.below hB))
 unfold GivesB at HW
 have e1 : mwE m = 0 := by unfold mwE; rw [hyes]; rfl
 have e2 : mwL sum8 m = slF sum8 (mgI m) := by unfold mwL; rw [hyes]; rfl
 rw [e1, e2] at HW
 have HM := hide (fun W hb => dMayM m s W ((hm.below hB).below (w' := W) hb))
 rw [hyes] at HM
 have HC := hide (fun W hb => (hM.below (w' := W) hb).cells)
 have ga := hide (fun W => anch20 W)
 obtain ⟨r1, r2⟩ := mr_of_mw sum8_bd hyes h0
 have hbz := slF_by sum8 (mgI_by hyes)
 have hlz := slF_len sum8 (mgI m)
 have hli := mgI_len hyes
 obtain ⟨N, HLz⟩ : ∃ N, Hid ((slF sum8 (mgI m)).length = N) := ⟨_, rfl⟩
 have hN0 : 26 <= N ∧ N <= 538 := by have := HLz.out; omega
 have HN0 := hide (show 0 < N by omega)
 obtain ⟨a0, a1⟩ := ha
 obtain ⟨t0, t1⟩ := ht
 obtain ⟨k, hk⟩ : ∃ k : Nat, a.tmod (N : Int) = (k : Int) := ⟨(a.tmod (N : Int)).toNat, by rw [Int.tmod_eq_emod_of_nonneg a0, Int.toNat_of_nonneg (Int.emod_nonneg _ (by omega))]⟩
 have hkN : k < N := by
  rw [Int.tmod_eq_emod_of_nonneg a0] at hk
  have := Int.emod_lt_of_pos a (show (0 : Int) < (N : Int) by omega)
  omega
 have hcase := back20 hyes h0 (k := k) t0 t1 (by rw [HLz.out]; exact hkN)
 obtain ⟨z0, z1⟩ := by_at20 hbz (k := k) (by rw [HLz.out]; exact hkN)
 obtain ⟨q0, q1, _⟩ := xor20 z0 z1 t0 t1
 have hbt := by_set20 hbz k q0 q1
 have HRz := hide (fun W base u (ho : World.ownsRow W base 5 1 u N (valb (slF sum8 (mgI m)))) => rb_of_own ho hbz (by rw [HLz.out]; omega))
 have HRt := hide (fun W base u (ho : World.ownsRow W base 5 1 u N (valb ((slF sum8 (mgI m)).set k (bits .xor .u8 ((slF sum8 (mgI m)).getD k 0) t)))) => rb_of_own ho hbt (by rw [List.length_set, HLz.out]; omega))
 have HR1 := hide (fun W u (hr : Rb W u (slF sum8 (mgI m))) => gReadM u _ W hr)
 have HR2 := hide (fun W u (hr : Rb W u ((slF sum8 (mgI m)).set k (bits .xor .u8 ((slF sum8 (mgI m)).getD k 0) t))) => gReadM u _ W hr)
 unfold GivesMsg at HR1 HR2
 rw [r1, r2] at HR1
 have HO1 := hide (fun W base x (ho : World.ownsRow W base 48 1 x m.l.length (vals m.l)) => mw_own hm.wd (by obtain ⟨_, _, _, _, hwd, _⟩ := hm.row; exact hwd) (by have := (mgM_facts hyes).2.2.2.2.2.2; omega) ho)
 have HO2 := hide (fun W base x (ho : World.ownsRow W base 48 1 x (mrM sum8 ((slF sum8 (mgI m)).set k (bits .xor .u8 ((slF sum8 (mgI m)).getD k 0) t))).l.length (vals (mrM sum8 ((slF sum8 (mgI m)).set k (bits .xor .u8 ((slF sum8 (mgI m)).getD k 0) t))).l)) => mrM_own hbt ho)
 rw [HLz.out] at HW
 have hwW := hide (fun W hb => (hm.below hB).below (w' := W) hb)
 have HS1 := hide (fun W x hb (h2 : Mw W m x) => dSameM m m s x W (hwW.out W hb) h2)
 rw [mgS_self] at HS1
 have HS2 := hide (fun W x hb (h2 : Mw W (mrM sum8 ((slF sum8 (mgI m)).set k (bits .xor .u8 ((slF sum8 (mgI m)).getD k 0) t))) x) => dSameM m _ s x W (hwW.out W hb) h2)
 obtain ⟨c0, c1, c2, c3, c4⟩ := hM.cells
 have k0 : (0 : Int) <= (k : Int) := by omega
 have kN : (k : Int) < (N : Int) := by omega
 have hN1 : ¬ (N : Int) = 0 := by omega
 have hN2 : ¬ N = 0 := by omega
 obtain ⟨y, HY⟩ : ∃ y, Hid (bits .xor .u8 ((slF sum8 (mgI m)).getD k 0) t = y) := ⟨_, rfl⟩
 obtain ⟨x, HX⟩ : ∃ x, Hid ((slF sum8 (mgI m)).getD k 0 = x) := ⟨_, rfl⟩
 rw [HY.out] at HRt HR2 HO2 HS2 hcase
 have hY : bits .xor .u8 x t = y := by rw [<- HX.out]; exact HY.out
 clear hm hM hwW e1 e2 hyes r1 r2 hbz hlz hli hbt q0 q1 h0 HY
 generalize hM2 : mrM sum8 ((slF sum8 (mgI m)).set k y) = M2 at *
 generalize hE2 : mrE sum8 ((slF sum8 (mgI m)).set k y) = E2 at *
 generalize mgS m M2 = S2 at *
 clear hM2 hE2
 generalize slF sum8 (mgI m) = zs at *
 unfold mgv mgc at HW HM HR1 HR2 HS1 HS2 ⊢
 generalize m.l.length = n at *
 generalize M2.l.length = n2 at *
 rcases hcase with ⟨rfl, rfl, rfl⟩ | ⟨ht, he⟩ | ⟨ht, rfl, rfl⟩
 · have ht0 : (0 : Int) = 0 := rfl
   go_enter Try.func5, Try.ntmps5
   go_upto_region 9 with (first
    | (go_at_call 7; refine HW.out.mono ?_; rintro e w1 ⟨v1, rfl, ho1, hb1⟩; obtain ⟨x0, x1, x2, x3, x4⟩ := HC.out _ hb1; obtain ⟨g, k1, hv1, hg0, _⟩ := ho1.form HN0.out; subst hv1; have hgt : g < w1.heap.size := own_top ho1 g rfl)
    | (go_at_call 11; refine (HM.out _ hb1).mono ?_; rintro e w2 ⟨rfl, hb2⟩; have hB2 := Below.next hb1 hb2; have ho2 := own_below ho1 hb2; have hr2 := HRz.out _ _ _ ho2)
    | (go_at_call 15; refine (HR2.out _ _ hr6).mono ?_; rintro e w7 ⟨v7, rfl, ho7, hb7⟩; have hB7 := Below.next hB6 hb7; have hn7 := hn6.below hb7; obtain ⟨x0, x1, x2, x3, x4⟩ := HC.out _ hB7; obtain ⟨y0, y1, y2, y3, y4⟩ := hn7.cells; have fz7 := hn7.free; obtain ⟨a7, k7, hv7⟩ := own_form ho7; subst hv7)
    | (go_at_call 15; refine (HR1.out _ _ hr2).mono ?_; rintro e w3 ⟨v3, rfl, ho3, hb3⟩; have hB3 := Below.next hB2 hb3; obtain ⟨a3, k3, hv3⟩ := own_form ho3; subst hv3; have hA4 := alloc_below w3 (.cells #[.int .u8 m.k, .int .i64 m.r, .int .i64 m.v, .int .u8 m.f, .slice a3 n k3] 26); have hn4 := mb_new w3 m (.slice a3 n k3); have hB4 := Below.next hB3 hA4; have ho4 := own_below (own_below ho2 hb3) hA4; have hw4 := HO1.out _ _ _ (own_below ho3 hA4); obtain ⟨x0, x1, x2, x3, x4⟩ := HC.out _ hB4; obtain ⟨y0, y1, y2, y3, y4⟩ := hn4.cells)
    | (go_at_call 13; refine (HS2.out _ _ hB9 hw9).mono ?_; rintro e w10 ⟨rfl, hb10⟩; have hB10 := Below.next hB9 hb10)
    | (go_at_call 13; refine (HS1.out _ _ hB4 hw4).mono ?_; rintro e w5 ⟨rfl, hb5⟩; have hB5 := Below.next hB4 hb5; have ho5 := own_below ho4 hb5; obtain ⟨ho6, cg, fg⟩ := own_turn (y := y) ho5 HLz.out hkN; rw [HX.out] at cg; have hB6 := hB5.setCell (p := ⟨g, k, none⟩) hg0 (.int .u8 y); have hr6 := HRt.out _ _ _ ho6; have hgn : w3.heap.size ≠ g := (by have h1 := hb2.size; have h2 := hb3.size; omega); have hn6 : Mb (w5.setCell ⟨g, k, none⟩ (.int .u8 y)) w3.heap.size m (.slice a3 n k3) := (Below.heap_setCell w5 ⟨g, k, none⟩ (.int .u8 y) w3.heap.size hgn).trans (hn4.below hb5))
    | (go_at_call 14; refine (ga.out _).mono ?_; rintro e w9 ⟨rfl, hb9⟩; have hB9 := Below.next hB8 hb9; obtain ⟨x0, x1, x2, x3, x4⟩ := HC.out _ hB9; obtain ⟨y0, y1, y2, y3, y4⟩ := (hn8.below hb9).cells; have hw9 := HO2.out _ _ _ (own_below ho8 hb9)))
   obtain ⟨hn8, hA8⟩ := mb_set5 hn7 M2 (.slice a7 n2 k7)
   have hq : w3.heap.size < w5.heap.size := Nat.lt_of_lt_of_le hn4.lt hb5.size
   have ho8 := rg_own (rg_own (rg_own (rg_own (rg_own ho7 (show w3.heap.size < (w5.setCell ⟨g, k, none⟩ (.int .u8 y)).heap.size by simpa using hq) 0 (.int .u8 M2.k)) (by simpa using hq) 1 (.int .i64 M2.r)) (by simpa using hq) 2 (.int .i64 M2.v)) (by simpa using hq) 3 (.int .u8 M2.f)) (by simpa using hq) 4 (.slice a7 n2 k7)
   have hB8 := hB7.trans (hA8.mono hB3.size)
   unfold set5m at hn8 hB8
   clear x0 x1 x2 x3 x4 y0 y1 y2 y3 y4 hA8
   go_wp2_with (first
    | (go_at_call 7; refine HW.out.mono ?_; rintro e w1 ⟨v1, rfl, ho1, hb1⟩; obtain ⟨x0, x1, x2, x3, x4⟩ := HC.out _ hb1; obtain ⟨g, k1, hv1, hg0, _⟩ := ho1.form HN0.out; subst hv1; have hgt : g < w1.heap.size := own_top ho1 g rfl)
    | (go_at_call 11; refine (HM.out _ hb1).mono ?_; rintro e w2 ⟨rfl, hb2⟩; have hB2 := Below.next hb1 hb2; have ho2 := own_below ho1 hb2; have hr2 := HRz.out _ _ _ ho2)
    | (go_at_call 15; refine (HR2.out _ _ hr6).mono ?_; rintro e w7 ⟨v7, rfl, ho7, hb7⟩; have hB7 := Below.next hB6 hb7; have hn7 := hn6.below hb7; obtain ⟨x0, x1, x2, x3, x4⟩ := HC.out _ hB7; obtain ⟨y0, y1, y2, y3, y4⟩ := hn7.cells; have fz7 := hn7.free; obtain ⟨a7, k7, hv7⟩ := own_form ho7; subst hv7)
    | (go_at_call 15; refine (HR1.out _ _ hr2).mono ?_; rintro e w3 ⟨v3, rfl, ho3, hb3⟩; have hB3 := Below.next hB2 hb3; obtain ⟨a3, k3, hv3⟩ := own_form ho3; subst hv3; have hA4 := alloc_below w3 (.cells #[.int .u8 m.k, .int .i64 m.r, .int .i64 m.v, .int .u8 m.f, .slice a3 n k3] 26); have hn4 := mb_new w3 m (.slice a3 n k3); have hB4 := Below.next hB3 hA4; have ho4 := own_below (own_below ho2 hb3) hA4; have hw4 := HO1.out _ _ _ (own_below ho3 hA4); obtain ⟨x0, x1, x2, x3, x4⟩ := HC.out _ hB4; obtain ⟨y0, y1, y2, y3, y4⟩ := hn4.cells)
    | (go_at_call 13; refine (HS2.out _ _ hB9 hw9).mono ?_; rintro e w10 ⟨rfl, hb10⟩; have hB10 := Below.next hB9 hb10)
    | (go_at_call 13; refine (HS1.out _ _ hB4 hw4).mono ?_; rintro e w5 ⟨rfl, hb5⟩; have hB5 := Below.next hB4 hb5; have ho5 := own_below ho4 hb5; obtain ⟨ho6, cg, fg⟩ := own_turn (y := y) ho5 HLz.out hkN; rw [HX.out] at cg; have hB6 := hB5.setCell (p := ⟨g, k, none⟩) hg0 (.int .u8 y); have hr6 := HRt.out _ _ _ ho6; have hgn : w3.heap.size ≠ g := (by have h1 := hb2.size; have h2 := hb3.size; omega); have hn6 : Mb (w5.setCell ⟨g, k, none⟩ (.int .u8 y)) w3.heap.size m (.slice a3 n k3) := (Below.heap_setCell w5 ⟨g, k, none⟩ (.int .u8 y) w3.heap.size hgn).trans (hn4.below hb5))
    | (go_at_call 14; refine (ga.out _).mono ?_; rintro e w9 ⟨rfl, hb9⟩; have hB9 := Below.next hB8 hb9; obtain ⟨x0, x1, x2, x3, x4⟩ := HC.out _ hB9; obtain ⟨y0, y1, y2, y3, y4⟩ := (hn8.below hb9).cells; have hw9 := HO2.out _ _ _ (own_below ho8 hb9)))
   go_ret
   exact ⟨by simp, hB.trans (hB10.mono hB.size)⟩
 · have ht' : (t == 0) = false := beq_eq_false_iff_ne.2 ht
   have he' : (E2 == 0) = false := beq_eq_false_iff_ne.2 he
   clear ht he
   go_enter Try.func5, Try.ntmps5
   go_upto_region 9 with (first
    | (go_at_call 7; refine HW.out.mono ?_; rintro e w1 ⟨v1, rfl, ho1, hb1⟩; obtain ⟨x0, x1, x2, x3, x4⟩ := HC.out _ hb1; obtain ⟨g, k1, hv1, hg0, _⟩ := ho1.form HN0.out; subst hv1; have hgt : g < w1.heap.size := own_top ho1 g rfl)
    | (go_at_call 11; refine (HM.out _ hb1).mono ?_; rintro e w2 ⟨rfl, hb2⟩; have hB2 := Below.next hb1 hb2; have ho2 := own_below ho1 hb2; have hr2 := HRz.out _ _ _ ho2)
    | (go_at_call 15; refine (HR2.out _ _ hr6).mono ?_; rintro e w7 ⟨v7, rfl, ho7, hb7⟩; have hB7 := Below.next hB6 hb7; have hn7 := hn6.below hb7; obtain ⟨x0, x1, x2, x3, x4⟩ := HC.out _ hB7; obtain ⟨y0, y1, y2, y3, y4⟩ := hn7.cells; have fz7 := hn7.free; obtain ⟨a7, k7, hv7⟩ := own_form ho7; subst hv7)
    | (go_at_call 15; refine (HR1.out _ _ hr2).mono ?_; rintro e w3 ⟨v3, rfl, ho3, hb3⟩; have hB3 := Below.next hB2 hb3; obtain ⟨a3, k3, hv3⟩ := own_form ho3; subst hv3; have hA4 := alloc_below w3 (.cells #[.int .u8 m.k, .int .i64 m.r, .int .i64 m.v, .int .u8 m.f, .slice a3 n k3] 26); have hn4 := mb_new w3 m (.slice a3 n k3); have hB4 := Below.next hB3 hA4; have ho4 := own_below (own_below ho2 hb3) hA4; have hw4 := HO1.out _ _ _ (own_below ho3 hA4); obtain ⟨x0, x1, x2, x3, x4⟩ := HC.out _ hB4; obtain ⟨y0, y1, y2, y3, y4⟩ := hn4.cells)
    | (go_at_call 13; refine (HS2.out _ _ hB9 hw9).mono ?_; rintro e w10 ⟨rfl, hb10⟩; have hB10 := Below.next hB9 hb10)
    | (go_at_call 13; refine (HS1.out _ _ hB4 hw4).mono ?_; rintro e w5 ⟨rfl, hb5⟩; have hB5 := Below.next hB4 hb5; have ho5 := own_below ho4 hb5; obtain ⟨ho6, cg, fg⟩ := own_turn (y := y) ho5 HLz.out hkN; rw [HX.out] at cg; have hB6 := hB5.setCell (p := ⟨g, k, none⟩) hg0 (.int .u8 y); have hr6 := HRt.out _ _ _ ho6; have hgn : w3.heap.size ≠ g := (by have h1 := hb2.size; have h2 := hb3.size; omega); have hn6 : Mb (w5.setCell ⟨g, k, none⟩ (.int .u8 y)) w3.heap.size m (.slice a3 n k3) := (Below.heap_setCell w5 ⟨g, k, none⟩ (.int .u8 y) w3.heap.size hgn).trans (hn4.below hb5))
    | (go_at_call 14; refine (ga.out _).mono ?_; rintro e w9 ⟨rfl, hb9⟩; have hB9 := Below.next hB8 hb9; obtain ⟨x0, x1, x2, x3, x4⟩ := HC.out _ hB9; obtain ⟨y0, y1, y2, y3, y4⟩ := (hn8.below hb9).cells; have hw9 := HO2.out _ _ _ (own_below ho8 hb9)))
   obtain ⟨hn8, hA8⟩ := mb_set5 hn7 M2 (.slice a7 n2 k7)
   have hq : w3.heap.size < w5.heap.size := Nat.lt_of_lt_of_le hn4.lt hb5.size
   have ho8 := rg_own (rg_own (rg_own (rg_own (rg_own ho7 (show w3.heap.size < (w5.setCell ⟨g, k, none⟩ (.int .u8 y)).heap.size by simpa using hq) 0 (.int .u8 M2.k)) (by simpa using hq) 1 (.int .i64 M2.r)) (by simpa using hq) 2 (.int .i64 M2.v)) (by simpa using hq) 3 (.int .u8 M2.f)) (by simpa using hq) 4 (.slice a7 n2 k7)
   have hB8 := hB7.trans (hA8.mono hB3.size)
   unfold set5m at hn8 hB8
   clear x0 x1 x2 x3 x4 y0 y1 y2 y3 y4 hA8
   go_wp2_with (first
    | (go_at_call 7; refine HW.out.mono ?_; rintro e w1 ⟨v1, rfl, ho1, hb1⟩; obtain ⟨x0, x1, x2, x3, x4⟩ := HC.out _ hb1; obtain ⟨g, k1, hv1, hg0, _⟩ := ho1.form HN0.out; subst hv1; have hgt : g < w1.heap.size := own_top ho1 g rfl)
    | (go_at_call 11; refine (HM.out _ hb1).mono ?_; rintro e w2 ⟨rfl, hb2⟩; have hB2 := Below.next hb1 hb2; have ho2 := own_below ho1 hb2; have hr2 := HRz.out _ _ _ ho2)
    | (go_at_call 15; refine (HR2.out _ _ hr6).mono ?_; rintro e w7 ⟨v7, rfl, ho7, hb7⟩; have hB7 := Below.next hB6 hb7; have hn7 := hn6.below hb7; obtain ⟨x0, x1, x2, x3, x4⟩ := HC.out _ hB7; obtain ⟨y0, y1, y2, y3, y4⟩ := hn7.cells; have fz7 := hn7.free; obtain ⟨a7, k7, hv7⟩ := own_form ho7; subst hv7)
    | (go_at_call 15; refine (HR1.out _ _ hr2).mono ?_; rintro e w3 ⟨v3, rfl, ho3, hb3⟩; have hB3 := Below.next hB2 hb3; obtain ⟨a3, k3, hv3⟩ := own_form ho3; subst hv3; have hA4 := alloc_below w3 (.cells #[.int .u8 m.k, .int .i64 m.r, .int .i64 m.v, .int .u8 m.f, .slice a3 n k3] 26); have hn4 := mb_new w3 m (.slice a3 n k3); have hB4 := Below.next hB3 hA4; have ho4 := own_below (own_below ho2 hb3) hA4; have hw4 := HO1.out _ _ _ (own_below ho3 hA4); obtain ⟨x0, x1, x2, x3, x4⟩ := HC.out _ hB4; obtain ⟨y0, y1, y2, y3, y4⟩ := hn4.cells)
    | (go_at_call 13; refine (HS2.out _ _ hB9 hw9).mono ?_; rintro e w10 ⟨rfl, hb10⟩; have hB10 := Below.next hB9 hb10)
    | (go_at_call 13; refine (HS1.out _ _ hB4 hw4).mono ?_; rintro e w5 ⟨rfl, hb5⟩; have hB5 := Below.next hB4 hb5; have ho5 := own_below ho4 hb5; obtain ⟨ho6, cg, fg⟩ := own_turn (y := y) ho5 HLz.out hkN; rw [HX.out] at cg; have hB6 := hB5.setCell (p := ⟨g, k, none⟩) hg0 (.int .u8 y); have hr6 := HRt.out _ _ _ ho6; have hgn : w3.heap.size ≠ g := (by have h1 := hb2.size; have h2 := hb3.size; omega); have hn6 : Mb (w5.setCell ⟨g, k, none⟩ (.int .u8 y)) w3.heap.size m (.slice a3 n k3) := (Below.heap_setCell w5 ⟨g, k, none⟩ (.int .u8 y) w3.heap.size hgn).trans (hn4.below hb5))
    | (go_at_call 14; refine (ga.out _).mono ?_; rintro e w9 ⟨rfl, hb9⟩; have hB9 := Below.next hB8 hb9; obtain ⟨x0, x1, x2, x3, x4⟩ := HC.out _ hB9; obtain ⟨y0, y1, y2, y3, y4⟩ := (hn8.below hb9).cells; have hw9 := HO2.out _ _ _ (own_below ho8 hb9)))
   go_ret
   exact ⟨by simp, hB.trans (hB9.mono hB.size)⟩
 · have ht' : (t == 0) = false := beq_eq_false_iff_ne.2 ht
   clear ht
   go_enter Try.func5, Try.ntmps5
   go_upto_region 9 with (first
    | (go_at_call 7; refine HW.out.mono ?_; rintro e w1 ⟨v1, rfl, ho1, hb1⟩; obtain ⟨x0, x1, x2, x3, x4⟩ := HC.out _ hb1; obtain ⟨g, k1, hv1, hg0, _⟩ := ho1.form HN0.out; subst hv1; have hgt : g < w1.heap.size := own_top ho1 g rfl)
    | (go_at_call 11; refine (HM.out _ hb1).mono ?_; rintro e w2 ⟨rfl, hb2⟩; have hB2 := Below.next hb1 hb2; have ho2 := own_below ho1 hb2; have hr2 := HRz.out _ _ _ ho2)
    | (go_at_call 15; refine (HR2.out _ _ hr6).mono ?_; rintro e w7 ⟨v7, rfl, ho7, hb7⟩; have hB7 := Below.next hB6 hb7; have hn7 := hn6.below hb7; obtain ⟨x0, x1, x2, x3, x4⟩ := HC.out _ hB7; obtain ⟨y0, y1, y2, y3, y4⟩ := hn7.cells; have fz7 := hn7.free; obtain ⟨a7, k7, hv7⟩ := own_form ho7; subst hv7)
    | (go_at_call 15; refine (HR1.out _ _ hr2).mono ?_; rintro e w3 ⟨v3, rfl, ho3, hb3⟩; have hB3 := Below.next hB2 hb3; obtain ⟨a3, k3, hv3⟩ := own_form ho3; subst hv3; have hA4 := alloc_below w3 (.cells #[.int .u8 m.k, .int .i64 m.r, .int .i64 m.v, .int .u8 m.f, .slice a3 n k3] 26); have hn4 := mb_new w3 m (.slice a3 n k3); have hB4 := Below.next hB3 hA4; have ho4 := own_below (own_below ho2 hb3) hA4; have hw4 := HO1.out _ _ _ (own_below ho3 hA4); obtain ⟨x0, x1, x2, x3, x4⟩ := HC.out _ hB4; obtain ⟨y0, y1, y2, y3, y4⟩ := hn4.cells)
    | (go_at_call 13; refine (HS2.out _ _ hB9 hw9).mono ?_; rintro e w10 ⟨rfl, hb10⟩; have hB10 := Below.next hB9 hb10)
    | (go_at_call 13; refine (HS1.out _ _ hB4 hw4).mono ?_; rintro e w5 ⟨rfl, hb5⟩; have hB5 := Below.next hB4 hb5; have ho5 := own_below ho4 hb5; obtain ⟨ho6, cg, fg⟩ := own_turn (y := y) ho5 HLz.out hkN; rw [HX.out] at cg; have hB6 := hB5.setCell (p := ⟨g, k, none⟩) hg0 (.int .u8 y); have hr6 := HRt.out _ _ _ ho6; have hgn : w3.heap.size ≠ g := (by have h1 := hb2.size; have h2 := hb3.size; omega); have hn6 : Mb (w5.setCell ⟨g, k, none⟩ (.int .u8 y)) w3.heap.size m (.slice a3 n k3) := (Below.heap_setCell w5 ⟨g, k, none⟩ (.int .u8 y) w3.heap.size hgn).trans (hn4.below hb5))
    | (go_at_call 14; refine (ga.out _).mono ?_; rintro e w9 ⟨rfl, hb9⟩; have hB9 := Below.next hB8 hb9; obtain ⟨x0, x1, x2, x3, x4⟩ := HC.out _ hB9; obtain ⟨y0, y1, y2, y3, y4⟩ := (hn8.below hb9).cells; have hw9 := HO2.out _ _ _ (own_below ho8 hb9)))
   obtain ⟨hn8, hA8⟩ := mb_set5 hn7 M2 (.slice a7 n2 k7)
   have hq : w3.heap.size < w5.heap.size := Nat.lt_of_lt_of_le hn4.lt hb5.size
   have ho8 := rg_own (rg_own (rg_own (rg_own (rg_own ho7 (show w3.heap.size < (w5.setCell ⟨g, k, none⟩ (.int .u8 y)).heap.size by simpa using hq) 0 (.int .u8 M2.k)) (by simpa using hq) 1 (.int .i64 M2.r)) (by simpa using hq) 2 (.int .i64 M2.v)) (by simpa using hq) 3 (.int .u8 M2.f)) (by simpa using hq) 4 (.slice a7 n2 k7)
   have hB8 := hB7.trans (hA8.mono hB3.size)
   unfold set5m at hn8 hB8
   clear x0 x1 x2 x3 x4 y0 y1 y2 y3 y4 hA8
   go_wp2_with (first
    | (go_at_call 7; refine HW.out.mono ?_; rintro e w1 ⟨v1, rfl, ho1, hb1⟩; obtain ⟨x0, x1, x2, x3, x4⟩ := HC.out _ hb1; obtain ⟨g, k1, hv1, hg0, _⟩ := ho1.form HN0.out; subst hv1; have hgt : g < w1.heap.size := own_top ho1 g rfl)
    | (go_at_call 11; refine (HM.out _ hb1).mono ?_; rintro e w2 ⟨rfl, hb2⟩; have hB2 := Below.next hb1 hb2; have ho2 := own_below ho1 hb2; have hr2 := HRz.out _ _ _ ho2)
    | (go_at_call 15; refine (HR2.out _ _ hr6).mono ?_; rintro e w7 ⟨v7, rfl, ho7, hb7⟩; have hB7 := Below.next hB6 hb7; have hn7 := hn6.below hb7; obtain ⟨x0, x1, x2, x3, x4⟩ := HC.out _ hB7; obtain ⟨y0, y1, y2, y3, y4⟩ := hn7.cells; have fz7 := hn7.free; obtain ⟨a7, k7, hv7⟩ := own_form ho7; subst hv7)
    | (go_at_call 15; refine (HR1.out _ _ hr2).mono ?_; rintro e w3 ⟨v3, rfl, ho3, hb3⟩; have hB3 := Below.next hB2 hb3; obtain ⟨a3, k3, hv3⟩ := own_form ho3; subst hv3; have hA4 := alloc_below w3 (.cells #[.int .u8 m.k, .int .i64 m.r, .int .i64 m.v, .int .u8 m.f, .slice a3 n k3] 26); have hn4 := mb_new w3 m (.slice a3 n k3); have hB4 := Below.next hB3 hA4; have ho4 := own_below (own_below ho2 hb3) hA4; have hw4 := HO1.out _ _ _ (own_below ho3 hA4); obtain ⟨x0, x1, x2, x3, x4⟩ := HC.out _ hB4; obtain ⟨y0, y1, y2, y3, y4⟩ := hn4.cells)
    | (go_at_call 13; refine (HS2.out _ _ hB9 hw9).mono ?_; rintro e w10 ⟨rfl, hb10⟩; have hB10 := Below.next hB9 hb10)
    | (go_at_call 13; refine (HS1.out _ _ hB4 hw4).mono ?_; rintro e w5 ⟨rfl, hb5⟩; have hB5 := Below.next hB4 hb5; have ho5 := own_below ho4 hb5; obtain ⟨ho6, cg, fg⟩ := own_turn (y := y) ho5 HLz.out hkN; rw [HX.out] at cg; have hB6 := hB5.setCell (p := ⟨g, k, none⟩) hg0 (.int .u8 y); have hr6 := HRt.out _ _ _ ho6; have hgn : w3.heap.size ≠ g := (by have h1 := hb2.size; have h2 := hb3.size; omega); have hn6 : Mb (w5.setCell ⟨g, k, none⟩ (.int .u8 y)) w3.heap.size m (.slice a3 n k3) := (Below.heap_setCell w5 ⟨g, k, none⟩ (.int .u8 y) w3.heap.size hgn).trans (hn4.below hb5))
    | (go_at_call 14; refine (ga.out _).mono ?_; rintro e w9 ⟨rfl, hb9⟩; have hB9 := Below.next hB8 hb9; obtain ⟨x0, x1, x2, x3, x4⟩ := HC.out _ hB9; obtain ⟨y0, y1, y2, y3, y4⟩ := (hn8.below hb9).cells; have hw9 := HO2.out _ _ _ (own_below ho8 hb9)))
   go_ret
   exact ⟨by simp, hB.trans (hB10.mono hB.size)⟩
theorem cback_any (m : Mg) (s : Value) (a t : Int) (w : World) (hm : Mw w m s) (ha : 0 <= a ∧ a <= 65535) (ht : 0 <= t ∧ t <= 255) :
 Calls Try.prog 5 #[mgv m s, .int .u16 a, .int .u8 t] w fun e w' => e = .returned (.bool true) ∧ Below w.heap.size w w' := by
 cases h : mgM m with
 | true => exact cback_yes m s a t w hm ha ht h
 | false => exact cback_no m s a t w hm ha ht h
end Go.Proofs.Ytaikhiodpieghaa
