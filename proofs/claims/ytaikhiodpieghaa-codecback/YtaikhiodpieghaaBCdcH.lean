import Derived.Test.YtaikhiodpieghaaBCdcG
import Derived.Test.YtaikhiodpieghaaBLawWA
set_option linter.unusedVariables false
set_option linter.unusedSimpArgs false
set_option maxRecDepth 100000
set_option maxHeartbeats 4000000
namespace Go.Proofs.Ytaikhiodpieghaa
open Go.RowKit Fld
theorem rg_own {W : World} {base n r : Nat} {T : TypeId} {v : Value} {xs : List Value} (ho : W.ownsRow base T 1 v n xs) (hr : r < base) (k : Nat) (x : Value) : (W.setCell ⟨r, k, none⟩ x).ownsRow base T 1 v n xs :=
 (set_kq W r k x).own ho (fun b hb => ⟨own_top ho b hb, by have := own_base ho b hb; omega⟩)
theorem rg_own2 {W W' : World} {base n g : Nat} {T : TypeId} {v : Value} {xs : List Value} (ho : W.ownsRow base T 1 v n xs) (hg : g < base) (hk : Kq (Bu W g) W W') : W'.ownsRow base T 1 v n xs :=
 hk.own ho (fun b hb => ⟨own_top ho b hb, by have := own_base ho b hb; omega⟩)
def RdOut (bs : List Int) (w : World) (e : Ending) (w' : World) : Prop :=
 Below w.heap.size w w' ∧ ((mrE sum8 bs = 0 ∧ ∃ s, e = .returned (mgv (mrM sum8 bs) s) ∧ w'.ownsRow w.heap.size 48 1 s (mrM sum8 bs).l.length (vals (mrM sum8 bs).l)) ∨ (mrE sum8 bs ≠ 0 ∧ e = .panicked (pan20 (mrE sum8 bs))))
theorem gRead_a (u : Value) (bs : List Int) (w : World) (h : Rb w u bs) (hu : usE sum8 bs ≠ 0) : Calls Try.prog 26 #[u] w (RdOut bs w) := by
 obtain ⟨hM0, hB0⟩ := mz_box w
 have HU := hide (wUnseal u bs _ (h.below hB0))
 unfold GivesU at HU
 have hyb := h.by
 obtain ⟨ao, cap, rfl, _⟩ := h.spell
 clear h
 have he := mr_unseal hu
 have hb : (usE sum8 bs == 0) = false := by simpa using hu
 unfold RdOut
 rw [he]
 clear he
 generalize usL sum8 bs = is at *
 generalize usSo sum8 bs = so at *
 generalize usE sum8 bs = ee at *
 go_enter Try.func26, Try.ntmps26
 go_wp2_with (first
  | (go_at_call 39; refine HU.out.mono ?_; rintro e w1 ⟨v1, rfl, ho1, hb1⟩; obtain ⟨a1, c1, hv1⟩ := own_form ho1; subst hv1; have hB1 := hB0.trans (hb1.mono hB0.size))
  | (go_at_call_of 40 (Value.bool false); refine (gWant_no _ _).mono ?_; rintro e w2 ⟨rfl, hw2⟩; rw [hw2]; clear hw2 w2))
 exact ⟨rfl, hB1, .inr ⟨hu, rfl⟩⟩
theorem gRead_b (u : Value) (bs : List Int) (w : World) (h : Rb w u bs) (hu : usE sum8 bs = 0) (hn : 12 + usN bs ≠ bs.length) : Calls Try.prog 26 #[u] w (RdOut bs w) := by
 obtain ⟨hM0, hB0⟩ := mz_box w
 have HU := hide (wUnseal u bs _ (h.below hB0))
 unfold GivesU at HU
 have hyb := h.by
 obtain ⟨ao, cap, rfl, _⟩ := h.spell
 clear h
 have he := mr_bad hu (.inl hn)
 rw [hu, (us_yes hu).2] at HU
 have HE : Hid (RdOut bs w = fun e w' => Below w.heap.size w w' ∧ e = .panicked (pan20 8)) := by
  show _ = _
  funext e w'
  unfold RdOut
  rw [he]
  simp
 rw [HE.out]
 have hne : (((12 + usN bs : Nat) : Int) == (bs.length : Int)) = false := beq_eq_false_iff_ne.2 (by omega)
 clear he hu hn HE
 generalize usL sum8 bs = is at *
 generalize 12 + usN bs = so at *
 go_enter Try.func26, Try.ntmps26
 go_wp2_with (first
  | (go_at_call 39; refine HU.out.mono ?_; rintro e w1 ⟨v1, rfl, ho1, hb1⟩; obtain ⟨a1, c1, hv1⟩ := own_form ho1; subst hv1; have hB1 := hB0.trans (hb1.mono hB0.size))
  | (go_at_call_of 40 (Value.bool true); refine (gWant_ok _ _).mono ?_; rintro e w2 ⟨rfl, hw2⟩; rw [hw2]; clear hw2 w2)
  | (go_at_call_of 40 (Value.bool false); refine (gWant_no _ _).mono ?_; rintro e w2 ⟨rfl, hw2⟩; rw [hw2]; clear hw2 w2))
 exact ⟨rfl, hB1, rfl⟩
theorem gRead_c (u : Value) (bs : List Int) (w : World) (h : Rb w u bs) (is : List Int) (hu : usE sum8 bs = 0) (hn : 12 + usN bs = bs.length) (his : usL sum8 bs = is) (h0 : is = []) (hk : miK is = false) : Calls Try.prog 26 #[u] w (RdOut bs w) := by
 obtain ⟨hM0, hB0⟩ := mz_box w
 have HU := hide (wUnseal u bs _ (h.below hB0))
 unfold GivesU at HU
 have hyb := h.by
 obtain ⟨ao, cap, rfl, _⟩ := h.spell
 clear h
 have he := mr_bad hu (.inr (by rw [his]; exact hk))
 rw [hu, (us_yes hu).2] at HU
 have HE : Hid (RdOut bs w = fun e w' => Below w.heap.size w w' ∧ e = .panicked (pan20 8)) := by
  show _ = _
  funext e w'
  unfold RdOut
  rw [he]
  simp
 rw [HE.out]
 have hYo := usL_ok hyb
 rw [his] at HU hYo
 rw [hn] at HU
 have HY := hide hYo.1
 have HYl := hide (show is.length <= 140737488500000 by have := hYo.2; omega)
 have HN := hide gUnreadOf
 subst h0
 have HK := hide gKind_no
 unfold unF at HK HN
 clear he hu hn HE hYo HY HYl his hk
 go_enter Try.func26, Try.ntmps26
 go_wp2_with (first
  | (go_at_call 39; refine HU.out.mono ?_; rintro e w1 ⟨v1, rfl, ho1, hb1⟩; have hub : Ub w1 0 v1 [] := ⟨rb_of_own ho1 By.nil (by simp), fun h => absurd rfl h⟩; have hpl : 0 < w1.heap.size := (by have h1 := hM0.lt; have h2 := hb1.size; omega); obtain ⟨a1, c1, hv1⟩ := own_form ho1; subst hv1)
  | (go_at_call_of 40 (Value.bool true); refine (gWant_ok _ _).mono ?_; rintro e w2 ⟨rfl, hw2⟩; rw [hw2]; clear hw2 w2)
  | (go_at_call 41; refine (HN.out _ 0 [] _ hub hpl).mono ?_; rintro e w3 ⟨g, rfl, hu3, hg3, hb3⟩; have hp3 := Nat.lt_of_lt_of_le hpl hb3.size)
  | (go_at_call 42; refine (HK.out _ _ _ hu3 hp3).mono ?_; rintro e w4 ⟨rfl, hk4⟩))
 exact ⟨rfl, hB0.trans (hb1.mono hB0.size) |>.trans ((hb3.mono (Nat.le_trans hB0.size hb1.size))) |>.trans (hk4.below (fun j hj => ⟨by have h1 := hB0.size; have h2 := hb1.size; have h3 := hb3.size; omega, by have h1 := hB0.size; have h2 := hb1.size; omega⟩)), rfl⟩
theorem gRead_d (u : Value) (bs : List Int) (w : World) (h : Rb w u bs) (is : List Int) (hu : usE sum8 bs = 0) (hn : 12 + usN bs = bs.length) (his : usL sum8 bs = is) (h0 : 0 < is.length) (h1 : rcE (is.drop 1) ≠ 0) (hk : miK is = false) : Calls Try.prog 26 #[u] w (RdOut bs w) := by
 obtain ⟨hM0, hB0⟩ := mz_box w
 have HU := hide (wUnseal u bs _ (h.below hB0))
 unfold GivesU at HU
 have hyb := h.by
 obtain ⟨ao, cap, rfl, _⟩ := h.spell
 clear h
 have he := mr_bad hu (.inr (by rw [his]; exact hk))
 rw [hu, (us_yes hu).2] at HU
 have HE : Hid (RdOut bs w = fun e w' => Below w.heap.size w w' ∧ e = .panicked (pan20 8)) := by
  show _ = _
  funext e w'
  unfold RdOut
  rw [he]
  simp
 rw [HE.out]
 have hYo := usL_ok hyb
 rw [his] at HU hYo
 rw [hn] at HU
 have HY := hide hYo.1
 have HYl := hide (show is.length <= 140737488500000 by have := hYo.2; omega)
 have HN := hide gUnreadOf
 have HK := hide (fun p g W (hu : Un W p g is) (hp : p < W.heap.size) => gKind_yes p g is W hu hp h0)
 have HC1 := hide (fun p g W (hu : Un W p g (is.drop 1)) (hp : p < W.heap.size) => gCount_no p g _ W hu hp h1)
 unfold unF at HK HN HC1
 clear he hu hn HE hYo his hk h1
 generalize is.getD 0 0 = k at *
 go_enter Try.func26, Try.ntmps26
 go_wp2_with (first
  | (go_at_call 39; refine HU.out.mono ?_; rintro e w1 ⟨v1, rfl, ho1, hb1⟩; obtain ⟨p, c1, hv1, hp0, _⟩ := ho1.form h0; have hpl : p < w1.heap.size := own_top ho1 p (by rw [hv1]; rfl); have hub : Ub w1 p v1 is := ⟨rb_of_own ho1 HY.out HYl.out, fun _ => ⟨_, _, _, hv1⟩⟩; subst hv1)
  | (go_at_call_of 40 (Value.bool true); refine (gWant_ok _ _).mono ?_; rintro e w2 ⟨rfl, hw2⟩; rw [hw2]; clear hw2 w2)
  | (go_at_call 41; refine (HN.out _ p is _ hub hpl).mono ?_; rintro e w3 ⟨g, rfl, hu3, hg3, hb3⟩; have hR3 := rg_new (w := w) hM0 hB0 (Nat.le_refl _) hp0 hpl hb1 hu3 hg3 hb3)
  | (go_at_call 42; refine (HK.out _ _ _ hR3.un hR3.pl).mono ?_; rintro e w4 ⟨rfl, hu4, hk4⟩; have hR4 := hR3.step hu4 hk4; obtain ⟨c40, _⟩ := hR4.mb.cells; have f40 := hR4.mb.free 0; have hR5 := hR4.put (n := ⟨k, 0, 0, 0, []⟩) (t := .slice none 0 0) 0 (.int .u8 k) rfl)
  | (go_at_call 43; refine (HC1.out _ _ _ hR5.un hR5.pl).mono ?_; rintro e w6 ⟨rfl, hk6⟩; have hBe := hR5.left hk6))
 exact ⟨rfl, hBe, rfl⟩
theorem gRead_e (u : Value) (bs : List Int) (w : World) (h : Rb w u bs) (is : List Int) (hu : usE sum8 bs = 0) (hn : 12 + usN bs = bs.length) (his : usL sum8 bs = is) (h0 : 0 < is.length) (h1 : rcE (is.drop 1) = 0) (h5 : rcE (is.drop 5) ≠ 0) (hk : miK is = false) : Calls Try.prog 26 #[u] w (RdOut bs w) := by
 obtain ⟨hM0, hB0⟩ := mz_box w
 have HU := hide (wUnseal u bs _ (h.below hB0))
 unfold GivesU at HU
 have hyb := h.by
 obtain ⟨ao, cap, rfl, _⟩ := h.spell
 clear h
 have he := mr_bad hu (.inr (by rw [his]; exact hk))
 rw [hu, (us_yes hu).2] at HU
 have HE : Hid (RdOut bs w = fun e w' => Below w.heap.size w w' ∧ e = .panicked (pan20 8)) := by
  show _ = _
  funext e w'
  unfold RdOut
  rw [he]
  simp
 rw [HE.out]
 have hYo := usL_ok hyb
 rw [his] at HU hYo
 rw [hn] at HU
 have HY := hide hYo.1
 have HYl := hide (show is.length <= 140737488500000 by have := hYo.2; omega)
 have HN := hide gUnreadOf
 have HK := hide (fun p g W (hu : Un W p g is) (hp : p < W.heap.size) => gKind_yes p g is W hu hp h0)
 have HC1 := hide (fun p g W (hu : Un W p g (is.drop 1)) (hp : p < W.heap.size) => gCount_yes p g _ W hu hp h1)
 have D5 : Hid ((is.drop 1).drop 4 = is.drop 5) := by show _ = _; rw [List.drop_drop]
 rw [D5.out] at HC1
 have HC2 := hide (fun p g W (hu : Un W p g (is.drop 5)) (hp : p < W.heap.size) => gCount_no p g _ W hu hp h5)
 unfold unF at HK HN HC1 HC2
 clear he hu hn HE hYo his hk h1 h5 D5
 generalize is.getD 0 0 = k at *
 generalize tk8 ((is.drop 1).take 4) = r at *
 go_enter Try.func26, Try.ntmps26
 go_wp2_with (first
  | (go_at_call 39; refine HU.out.mono ?_; rintro e w1 ⟨v1, rfl, ho1, hb1⟩; obtain ⟨p, c1, hv1, hp0, _⟩ := ho1.form h0; have hpl : p < w1.heap.size := own_top ho1 p (by rw [hv1]; rfl); have hub : Ub w1 p v1 is := ⟨rb_of_own ho1 HY.out HYl.out, fun _ => ⟨_, _, _, hv1⟩⟩; subst hv1)
  | (go_at_call_of 40 (Value.bool true); refine (gWant_ok _ _).mono ?_; rintro e w2 ⟨rfl, hw2⟩; rw [hw2]; clear hw2 w2)
  | (go_at_call 41; refine (HN.out _ p is _ hub hpl).mono ?_; rintro e w3 ⟨g, rfl, hu3, hg3, hb3⟩; have hR3 := rg_new (w := w) hM0 hB0 (Nat.le_refl _) hp0 hpl hb1 hu3 hg3 hb3)
  | (go_at_call 42; refine (HK.out _ _ _ hR3.un hR3.pl).mono ?_; rintro e w4 ⟨rfl, hu4, hk4⟩; have hR4 := hR3.step hu4 hk4; obtain ⟨c40, _⟩ := hR4.mb.cells; have f40 := hR4.mb.free 0; have hR5 := hR4.put (n := ⟨k, 0, 0, 0, []⟩) (t := .slice none 0 0) 0 (.int .u8 k) rfl)
  | (go_at_call 43; refine (HC2.out _ _ _ hR7.un hR7.pl).mono ?_; rintro e w8 ⟨rfl, hk8⟩; have hBe := hR7.left hk8)
  | (go_at_call 43; refine (HC1.out _ _ _ hR5.un hR5.pl).mono ?_; rintro e w6 ⟨rfl, hu6, hk6⟩; have hR6 := hR5.step hu6 hk6; obtain ⟨_, c61, _⟩ := hR6.mb.cells; have f61 := hR6.mb.free 1; have hR7 := hR6.put (n := ⟨k, r, 0, 0, []⟩) (t := .slice none 0 0) 1 (.int .i64 r) rfl))
 exact ⟨rfl, hBe, rfl⟩
theorem gRead_f (u : Value) (bs : List Int) (w : World) (h : Rb w u bs) (is : List Int) (hu : usE sum8 bs = 0) (hn : 12 + usN bs = bs.length) (his : usL sum8 bs = is) (h0 : 0 < is.length) (h1 : rcE (is.drop 1) = 0) (h5 : rcE (is.drop 5) = 0) (h9 : rlE (is.drop 9) ≠ 0) (hk : miK is = false) : Calls Try.prog 26 #[u] w (RdOut bs w) := by
 obtain ⟨hM0, hB0⟩ := mz_box w
 have HU := hide (wUnseal u bs _ (h.below hB0))
 unfold GivesU at HU
 have hyb := h.by
 obtain ⟨ao, cap, rfl, _⟩ := h.spell
 clear h
 have he := mr_bad hu (.inr (by rw [his]; exact hk))
 rw [hu, (us_yes hu).2] at HU
 have HE : Hid (RdOut bs w = fun e w' => Below w.heap.size w w' ∧ e = .panicked (pan20 8)) := by
  show _ = _
  funext e w'
  unfold RdOut
  rw [he]
  simp
 rw [HE.out]
 have hYo := usL_ok hyb
 rw [his] at HU hYo
 rw [hn] at HU
 have HY := hide hYo.1
 have HYl := hide (show is.length <= 140737488500000 by have := hYo.2; omega)
 have HN := hide gUnreadOf
 have HK := hide (fun p g W (hu : Un W p g is) (hp : p < W.heap.size) => gKind_yes p g is W hu hp h0)
 have HC1 := hide (fun p g W (hu : Un W p g (is.drop 1)) (hp : p < W.heap.size) => gCount_yes p g _ W hu hp h1)
 have D5 : Hid ((is.drop 1).drop 4 = is.drop 5) := by show _ = _; rw [List.drop_drop]
 rw [D5.out] at HC1
 have HC2 := hide (fun p g W (hu : Un W p g (is.drop 5)) (hp : p < W.heap.size) => gCount_yes p g _ W hu hp h5)
 have D9 : Hid ((is.drop 5).drop 4 = is.drop 9) := by show _ = _; rw [List.drop_drop]
 rw [D9.out] at HC2
 have HL := hide (fun p g W (hu : Un W p g (is.drop 9)) (hp : p < W.heap.size) => gList_no p g _ W hu hp h9)
 unfold unF at HK HN HC1 HC2 HL
 clear he hu hn HE hYo his hk h1 h5 h9 D5 D9
 generalize is.getD 0 0 = k at *
 generalize tk8 ((is.drop 1).take 4) = r at *
 generalize tk8 ((is.drop 5).take 4) = v at *
 go_enter Try.func26, Try.ntmps26
 go_wp2_with (first
  | (go_at_call 39; refine HU.out.mono ?_; rintro e w1 ⟨v1, rfl, ho1, hb1⟩; obtain ⟨p, c1, hv1, hp0, _⟩ := ho1.form h0; have hpl : p < w1.heap.size := own_top ho1 p (by rw [hv1]; rfl); have hub : Ub w1 p v1 is := ⟨rb_of_own ho1 HY.out HYl.out, fun _ => ⟨_, _, _, hv1⟩⟩; subst hv1)
  | (go_at_call_of 40 (Value.bool true); refine (gWant_ok _ _).mono ?_; rintro e w2 ⟨rfl, hw2⟩; rw [hw2]; clear hw2 w2)
  | (go_at_call 41; refine (HN.out _ p is _ hub hpl).mono ?_; rintro e w3 ⟨g, rfl, hu3, hg3, hb3⟩; have hR3 := rg_new (w := w) hM0 hB0 (Nat.le_refl _) hp0 hpl hb1 hu3 hg3 hb3)
  | (go_at_call 42; refine (HK.out _ _ _ hR3.un hR3.pl).mono ?_; rintro e w4 ⟨rfl, hu4, hk4⟩; have hR4 := hR3.step hu4 hk4; obtain ⟨c40, _⟩ := hR4.mb.cells; have f40 := hR4.mb.free 0; have hR5 := hR4.put (n := ⟨k, 0, 0, 0, []⟩) (t := .slice none 0 0) 0 (.int .u8 k) rfl)
  | (go_at_call 44; refine (HL.out _ _ _ hR9.un hR9.pl).mono ?_; rintro e w10 ⟨rfl, hk10⟩; have hBe := hR9.left hk10)
  | (go_at_call 43; refine (HC2.out _ _ _ hR7.un hR7.pl).mono ?_; rintro e w8 ⟨rfl, hu8, hk8⟩; have hR8 := hR7.step hu8 hk8; obtain ⟨_, _, c82, _⟩ := hR8.mb.cells; have f82 := hR8.mb.free 2; have hR9 := hR8.put (n := ⟨k, r, v, 0, []⟩) (t := .slice none 0 0) 2 (.int .i64 v) rfl)
  | (go_at_call 43; refine (HC1.out _ _ _ hR5.un hR5.pl).mono ?_; rintro e w6 ⟨rfl, hu6, hk6⟩; have hR6 := hR5.step hu6 hk6; obtain ⟨_, c61, _⟩ := hR6.mb.cells; have f61 := hR6.mb.free 1; have hR7 := hR6.put (n := ⟨k, r, 0, 0, []⟩) (t := .slice none 0 0) 1 (.int .i64 r) rfl))
 exact ⟨rfl, hBe, rfl⟩
theorem mi_row {is : List Int} (hb : By is) (h9 : rlE (is.drop 9) = 0) {W : World} {base : Nat} {x : Value} (ho : W.ownsRow base 48 1 x (rlX (is.drop 9)).length (vals (rlX (is.drop 9)))) : Row W x (rlX (is.drop 9)) := by
 have e := (rl_yes h9).2.1
 have := rlLo_row (hb.drop 9) (w := W) (base := base) (v := x)
 rw [e] at this
 exact this ho
theorem mi_wd {is : List Int} (hb : By is) : Mgd (miM is) := by
 have byte : ∀ (bs : List Int), By bs -> 0 <= bs.getD 0 0 ∧ bs.getD 0 0 <= 255 := fun bs h => by
  cases bs with
  | nil => exact ⟨by decide, by decide⟩
  | cons b bs => exact h b List.mem_cons_self
 have four : ∀ (bs : List Int), By bs -> 0 <= tk8 (bs.take 4) ∧ tk8 (bs.take 4) <= 72057594037927935 := fun bs h => tk8_small h (by decide)
 have h1 := four _ (hb.drop 1)
 have h5 := four _ (hb.drop 5)
 exact ⟨byte _ hb, ⟨by show _ <= tk8 _; omega, by show tk8 _ <= _; omega⟩, ⟨by show _ <= tk8 _; omega, by show tk8 _ <= _; omega⟩, byte _ (hb.drop 9)⟩
theorem gRead_g (u : Value) (bs : List Int) (w : World) (h : Rb w u bs) (is : List Int) (hu : usE sum8 bs = 0) (hn : 12 + usN bs = bs.length) (his : usL sum8 bs = is) (h0 : 0 < is.length) (h1 : rcE (is.drop 1) = 0) (h5 : rcE (is.drop 5) = 0) (h9 : rlE (is.drop 9) = 0) (hr : 0 < ((is.drop 9).drop (5 + rlN (is.drop 9) * wF (rlF (is.drop 9)))).length) (hk : miK is = false) : Calls Try.prog 26 #[u] w (RdOut bs w) := by
 obtain ⟨hM0, hB0⟩ := mz_box w
 have HU := hide (wUnseal u bs _ (h.below hB0))
 unfold GivesU at HU
 have hyb := h.by
 obtain ⟨ao, cap, rfl, _⟩ := h.spell
 clear h
 have he := mr_bad hu (.inr (by rw [his]; exact hk))
 rw [hu, (us_yes hu).2] at HU
 have HE : Hid (RdOut bs w = fun e w' => Below w.heap.size w w' ∧ e = .panicked (pan20 8)) := by
  show _ = _
  funext e w'
  unfold RdOut
  rw [he]
  simp
 rw [HE.out]
 have hYo := usL_ok hyb
 rw [his] at HU hYo
 rw [hn] at HU
 have HY := hide hYo.1
 have HYl := hide (show is.length <= 140737488500000 by have := hYo.2; omega)
 have HN := hide gUnreadOf
 have HK := hide (fun p g W (hu : Un W p g is) (hp : p < W.heap.size) => gKind_yes p g is W hu hp h0)
 have HC1 := hide (fun p g W (hu : Un W p g (is.drop 1)) (hp : p < W.heap.size) => gCount_yes p g _ W hu hp h1)
 have D5 : Hid ((is.drop 1).drop 4 = is.drop 5) := by show _ = _; rw [List.drop_drop]
 rw [D5.out] at HC1
 have HC2 := hide (fun p g W (hu : Un W p g (is.drop 5)) (hp : p < W.heap.size) => gCount_yes p g _ W hu hp h5)
 have D9 : Hid ((is.drop 5).drop 4 = is.drop 9) := by show _ = _; rw [List.drop_drop]
 rw [D9.out] at HC2
 have HL := hide (fun p g W (hu : Un W p g (is.drop 9)) (hp : p < W.heap.size) => gList_yes p g _ W hu hp h9)
 have HF := hide (fun p g W (hu : Un W p g ((is.drop 9).drop (5 + rlN (is.drop 9) * wF (rlF (is.drop 9))))) (hp : p < W.heap.size) => gLeft 0 p g _ W hu hp (Nat.zero_le _))
 rw [List.drop_zero] at HF
 have HRw : Hid (∀ (W : World) base x, W.ownsRow base 48 1 x (rlX (is.drop 9)).length (vals (rlX (is.drop 9))) -> Mw W (miM is) x) := fun W base x ho => ⟨mi_wd hYo.1, mi_row hYo.1 h9 ho⟩
 have HM := hide (fun W x (hm : Mw W (miM is) x) => gMayM (miM is) x W hm)
 unfold unF at HK HN HC1 HC2 HL
 have HMe : Hid (miM is = ⟨is.getD 0 0, tk8 ((is.drop 1).take 4), tk8 ((is.drop 5).take 4), rlF (is.drop 9), rlX (is.drop 9)⟩) := rfl
 rw [HMe.out] at HRw HM
 unfold mgv mgc at HM
 generalize (is.drop 9).drop (5 + rlN (is.drop 9) * wF (rlF (is.drop 9))) = rest at *
 have hrl : ((rest.length : Int) == 0) = false := beq_eq_false_iff_ne.2 (by omega)
 clear he hu hn HE hYo his hk h1 h5 h9 D5 D9 hr HM HMe
 generalize is.getD 0 0 = k at *
 generalize tk8 ((is.drop 1).take 4) = r at *
 generalize tk8 ((is.drop 5).take 4) = v at *
 generalize rlF (is.drop 9) = f at *
 generalize rlX (is.drop 9) = xs at *
 go_enter Try.func26, Try.ntmps26
 go_wp2_with (first
  | (go_at_call 39; refine HU.out.mono ?_; rintro e w1 ⟨v1, rfl, ho1, hb1⟩; obtain ⟨p, c1, hv1, hp0, _⟩ := ho1.form h0; have hpl : p < w1.heap.size := own_top ho1 p (by rw [hv1]; rfl); have hub : Ub w1 p v1 is := ⟨rb_of_own ho1 HY.out HYl.out, fun _ => ⟨_, _, _, hv1⟩⟩; subst hv1)
  | (go_at_call_of 40 (Value.bool true); refine (gWant_ok _ _).mono ?_; rintro e w2 ⟨rfl, hw2⟩; rw [hw2]; clear hw2 w2)
  | (go_at_call 41; refine (HN.out _ p is _ hub hpl).mono ?_; rintro e w3 ⟨g, rfl, hu3, hg3, hb3⟩; have hR3 := rg_new (w := w) hM0 hB0 (Nat.le_refl _) hp0 hpl hb1 hu3 hg3 hb3)
  | (go_at_call 42; refine (HK.out _ _ _ hR3.un hR3.pl).mono ?_; rintro e w4 ⟨rfl, hu4, hk4⟩; have hR4 := hR3.step hu4 hk4; obtain ⟨c40, _⟩ := hR4.mb.cells; have f40 := hR4.mb.free 0; have hR5 := hR4.put (n := ⟨k, 0, 0, 0, []⟩) (t := .slice none 0 0) 0 (.int .u8 k) rfl)
  | (go_at_call 54; refine (HF.out _ _ _ hR11.un hR11.pl).mono ?_; rintro e w12 ⟨v12, rfl, hv12, hu12, hk12⟩; have hR12 := hR11.step hu12 hk12; have ho12 := rg_own2 ho11 hR9.un.lt hk12; have hW12 := HRw.out _ _ _ ho12; obtain ⟨d0, d1, d2, d3, d4⟩ := hR12.mb.cells; obtain ⟨a12, c12, hv12', _⟩ := hv12.1.spell; subst hv12')
  | (go_at_call 44; refine (HL.out _ _ _ hR9.un hR9.pl).mono ?_; rintro e w10 ⟨v10, rfl, ho10, hu10, hk10⟩; have hR10 := hR9.step hu10 hk10; obtain ⟨_, _, _, c103, c104⟩ := hR10.mb.cells; have f103 := hR10.mb.free 3; have f104 := hR10.mb.free 4; have hR11 := (hR10.put (n := ⟨k, r, v, f, []⟩) (t := .slice none 0 0) 3 (.int .u8 f) rfl).put (n := ⟨k, r, v, f, xs⟩) (t := v10) 4 v10 rfl; have ho11 := rg_own (rg_own ho10 hR9.mb.lt 3 (.int .u8 f)) hR9.mb.lt 4 v10; obtain ⟨a10, c10, hv10⟩ := own_form ho10; subst hv10)
  | (go_at_call 43; refine (HC2.out _ _ _ hR7.un hR7.pl).mono ?_; rintro e w8 ⟨rfl, hu8, hk8⟩; have hR8 := hR7.step hu8 hk8; obtain ⟨_, _, c82, _⟩ := hR8.mb.cells; have f82 := hR8.mb.free 2; have hR9 := hR8.put (n := ⟨k, r, v, 0, []⟩) (t := .slice none 0 0) 2 (.int .i64 v) rfl)
  | (go_at_call 43; refine (HC1.out _ _ _ hR5.un hR5.pl).mono ?_; rintro e w6 ⟨rfl, hu6, hk6⟩; have hR6 := hR5.step hu6 hk6; obtain ⟨_, c61, _⟩ := hR6.mb.cells; have f61 := hR6.mb.free 1; have hR7 := hR6.put (n := ⟨k, r, 0, 0, []⟩) (t := .slice none 0 0) 1 (.int .i64 r) rfl)
  | (go_at_call_of 40 (Value.bool false); refine (gWant_no _ _).mono ?_; rintro e w2 ⟨rfl, hw2⟩; rw [hw2]; clear hw2 w2))
 exact ⟨rfl, hR12.bel, rfl⟩
theorem gRead_h (u : Value) (bs : List Int) (w : World) (h : Rb w u bs) (is : List Int) (hu : usE sum8 bs = 0) (hn : 12 + usN bs = bs.length) (his : usL sum8 bs = is) (h0 : 0 < is.length) (h1 : rcE (is.drop 1) = 0) (h5 : rcE (is.drop 5) = 0) (h9 : rlE (is.drop 9) = 0) (hr : (is.drop 9).drop (5 + rlN (is.drop 9) * wF (rlF (is.drop 9))) = []) (hm : mgM (miM is) = false) (hk : miK is = false) : Calls Try.prog 26 #[u] w (RdOut bs w) := by
 obtain ⟨hM0, hB0⟩ := mz_box w
 have HU := hide (wUnseal u bs _ (h.below hB0))
 unfold GivesU at HU
 have hyb := h.by
 obtain ⟨ao, cap, rfl, _⟩ := h.spell
 clear h
 have he := mr_bad hu (.inr (by rw [his]; exact hk))
 rw [hu, (us_yes hu).2] at HU
 have HE : Hid (RdOut bs w = fun e w' => Below w.heap.size w w' ∧ e = .panicked (pan20 8)) := by
  show _ = _
  funext e w'
  unfold RdOut
  rw [he]
  simp
 rw [HE.out]
 have hYo := usL_ok hyb
 rw [his] at HU hYo
 rw [hn] at HU
 have HY := hide hYo.1
 have HYl := hide (show is.length <= 140737488500000 by have := hYo.2; omega)
 have HN := hide gUnreadOf
 have HK := hide (fun p g W (hu : Un W p g is) (hp : p < W.heap.size) => gKind_yes p g is W hu hp h0)
 have HC1 := hide (fun p g W (hu : Un W p g (is.drop 1)) (hp : p < W.heap.size) => gCount_yes p g _ W hu hp h1)
 have D5 : Hid ((is.drop 1).drop 4 = is.drop 5) := by show _ = _; rw [List.drop_drop]
 rw [D5.out] at HC1
 have HC2 := hide (fun p g W (hu : Un W p g (is.drop 5)) (hp : p < W.heap.size) => gCount_yes p g _ W hu hp h5)
 have D9 : Hid ((is.drop 5).drop 4 = is.drop 9) := by show _ = _; rw [List.drop_drop]
 rw [D9.out] at HC2
 have HL := hide (fun p g W (hu : Un W p g (is.drop 9)) (hp : p < W.heap.size) => gList_yes p g _ W hu hp h9)
 have HF := hide (fun p g W (hu : Un W p g ((is.drop 9).drop (5 + rlN (is.drop 9) * wF (rlF (is.drop 9))))) (hp : p < W.heap.size) => gLeft 0 p g _ W hu hp (Nat.zero_le _))
 rw [List.drop_zero] at HF
 have HRw : Hid (∀ (W : World) base x, W.ownsRow base 48 1 x (rlX (is.drop 9)).length (vals (rlX (is.drop 9))) -> Mw W (miM is) x) := fun W base x ho => ⟨mi_wd hYo.1, mi_row hYo.1 h9 ho⟩
 have HM := hide (fun W x (hm : Mw W (miM is) x) => gMayM (miM is) x W hm)
 unfold unF at HK HN HC1 HC2 HL
 have HMe : Hid (miM is = ⟨is.getD 0 0, tk8 ((is.drop 1).take 4), tk8 ((is.drop 5).take 4), rlF (is.drop 9), rlX (is.drop 9)⟩) := rfl
 rw [hm] at HM
 rw [HMe.out] at HRw HM
 unfold mgv mgc at HM
 rw [hr] at HL HF
 clear he hu hn HE hYo his hk h1 h5 h9 D5 D9 hr hm HMe
 generalize is.getD 0 0 = k at *
 generalize tk8 ((is.drop 1).take 4) = r at *
 generalize tk8 ((is.drop 5).take 4) = v at *
 generalize rlF (is.drop 9) = f at *
 generalize rlX (is.drop 9) = xs at *
 go_enter Try.func26, Try.ntmps26
 go_wp2_with (first
  | (go_at_call 39; refine HU.out.mono ?_; rintro e w1 ⟨v1, rfl, ho1, hb1⟩; obtain ⟨p, c1, hv1, hp0, _⟩ := ho1.form h0; have hpl : p < w1.heap.size := own_top ho1 p (by rw [hv1]; rfl); have hub : Ub w1 p v1 is := ⟨rb_of_own ho1 HY.out HYl.out, fun _ => ⟨_, _, _, hv1⟩⟩; subst hv1)
  | (go_at_call_of 40 (Value.bool true); refine (gWant_ok _ _).mono ?_; rintro e w2 ⟨rfl, hw2⟩; rw [hw2]; clear hw2 w2)
  | (go_at_call 41; refine (HN.out _ p is _ hub hpl).mono ?_; rintro e w3 ⟨g, rfl, hu3, hg3, hb3⟩; have hR3 := rg_new (w := w) hM0 hB0 (Nat.le_refl _) hp0 hpl hb1 hu3 hg3 hb3)
  | (go_at_call 42; refine (HK.out _ _ _ hR3.un hR3.pl).mono ?_; rintro e w4 ⟨rfl, hu4, hk4⟩; have hR4 := hR3.step hu4 hk4; obtain ⟨c40, _⟩ := hR4.mb.cells; have f40 := hR4.mb.free 0; have hR5 := hR4.put (n := ⟨k, 0, 0, 0, []⟩) (t := .slice none 0 0) 0 (.int .u8 k) rfl)
  | (go_at_call 10; refine (HM.out _ _ hW12).mono ?_; rintro e w13 ⟨rfl, hb13⟩; have hR13 := hR12.step (hR12.un.below hR12.pl hb13) (kq_below hb13); have ho13 := own_below ho12 hb13; obtain ⟨e0, e1, e2, e3, e4⟩ := hR13.mb.cells; have g0 := hR13.mb.free 0; have g1 := hR13.mb.free 1; have g2 := hR13.mb.free 2; have g3 := hR13.mb.free 3; have g4 := hR13.mb.free 4)
  | (go_at_call 54; refine (HF.out _ _ _ hR11.un hR11.pl).mono ?_; rintro e w12 ⟨v12, rfl, hv12, hu12, hk12⟩; have hR12 := hR11.step hu12 hk12; have ho12 := rg_own2 ho11 hR9.un.lt hk12; have hW12 := HRw.out _ _ _ ho12; obtain ⟨d0, d1, d2, d3, d4⟩ := hR12.mb.cells; obtain ⟨a12, c12, hv12', _⟩ := hv12.1.spell; subst hv12')
  | (go_at_call 44; refine (HL.out _ _ _ hR9.un hR9.pl).mono ?_; rintro e w10 ⟨v10, rfl, ho10, hu10, hk10⟩; have hR10 := hR9.step hu10 hk10; obtain ⟨_, _, _, c103, c104⟩ := hR10.mb.cells; have f103 := hR10.mb.free 3; have f104 := hR10.mb.free 4; have hR11 := (hR10.put (n := ⟨k, r, v, f, []⟩) (t := .slice none 0 0) 3 (.int .u8 f) rfl).put (n := ⟨k, r, v, f, xs⟩) (t := v10) 4 v10 rfl; have ho11 := rg_own (rg_own ho10 hR9.mb.lt 3 (.int .u8 f)) hR9.mb.lt 4 v10; obtain ⟨a10, c10, hv10⟩ := own_form ho10; subst hv10)
  | (go_at_call 43; refine (HC2.out _ _ _ hR7.un hR7.pl).mono ?_; rintro e w8 ⟨rfl, hu8, hk8⟩; have hR8 := hR7.step hu8 hk8; obtain ⟨_, _, c82, _⟩ := hR8.mb.cells; have f82 := hR8.mb.free 2; have hR9 := hR8.put (n := ⟨k, r, v, 0, []⟩) (t := .slice none 0 0) 2 (.int .i64 v) rfl)
  | (go_at_call 43; refine (HC1.out _ _ _ hR5.un hR5.pl).mono ?_; rintro e w6 ⟨rfl, hu6, hk6⟩; have hR6 := hR5.step hu6 hk6; obtain ⟨_, c61, _⟩ := hR6.mb.cells; have f61 := hR6.mb.free 1; have hR7 := hR6.put (n := ⟨k, r, 0, 0, []⟩) (t := .slice none 0 0) 1 (.int .i64 r) rfl)
  | (go_at_call_of 40 (Value.bool false); refine (gWant_no _ _).mono ?_; rintro e w2 ⟨rfl, hw2⟩; rw [hw2]; clear hw2 w2))
 exact ⟨rfl, hR13.bel, rfl⟩
theorem gRead_i (u : Value) (bs : List Int) (w : World) (h : Rb w u bs) (is : List Int) (hu : usE sum8 bs = 0) (hn : 12 + usN bs = bs.length) (his : usL sum8 bs = is) (h0 : 0 < is.length) (h1 : rcE (is.drop 1) = 0) (h5 : rcE (is.drop 5) = 0) (h9 : rlE (is.drop 9) = 0) (hr : (is.drop 9).drop (5 + rlN (is.drop 9) * wF (rlF (is.drop 9))) = []) (hm : mgM (miM is) = true) (hk : miK is = true) : Calls Try.prog 26 #[u] w (RdOut bs w) := by
 obtain ⟨hM0, hB0⟩ := mz_box w
 have HU := hide (wUnseal u bs _ (h.below hB0))
 unfold GivesU at HU
 have hyb := h.by
 obtain ⟨ao, cap, rfl, _⟩ := h.spell
 clear h
 obtain ⟨he, hmm⟩ := mr_good hu hn (by rw [his]; exact hk)
 rw [his] at hmm
 rw [hu, (us_yes hu).2] at HU
 have HE : Hid (RdOut bs w = fun e w' => Below w.heap.size w w' ∧ ∃ s, e = .returned (mgv (miM is) s) ∧ w'.ownsRow w.heap.size 48 1 s (miM is).l.length (vals (miM is).l)) := by
  show _ = _
  funext e w'
  unfold RdOut
  rw [he, hmm]
  simp
 rw [HE.out]
 have hYo := usL_ok hyb
 rw [his] at HU hYo
 rw [hn] at HU
 have HY := hide hYo.1
 have HYl := hide (show is.length <= 140737488500000 by have := hYo.2; omega)
 have HN := hide gUnreadOf
 have HK := hide (fun p g W (hu : Un W p g is) (hp : p < W.heap.size) => gKind_yes p g is W hu hp h0)
 have HC1 := hide (fun p g W (hu : Un W p g (is.drop 1)) (hp : p < W.heap.size) => gCount_yes p g _ W hu hp h1)
 have D5 : Hid ((is.drop 1).drop 4 = is.drop 5) := by show _ = _; rw [List.drop_drop]
 rw [D5.out] at HC1
 have HC2 := hide (fun p g W (hu : Un W p g (is.drop 5)) (hp : p < W.heap.size) => gCount_yes p g _ W hu hp h5)
 have D9 : Hid ((is.drop 5).drop 4 = is.drop 9) := by show _ = _; rw [List.drop_drop]
 rw [D9.out] at HC2
 have HL := hide (fun p g W (hu : Un W p g (is.drop 9)) (hp : p < W.heap.size) => gList_yes p g _ W hu hp h9)
 have HF := hide (fun p g W (hu : Un W p g ((is.drop 9).drop (5 + rlN (is.drop 9) * wF (rlF (is.drop 9))))) (hp : p < W.heap.size) => gLeft 0 p g _ W hu hp (Nat.zero_le _))
 rw [List.drop_zero] at HF
 have HRw : Hid (∀ (W : World) base x, W.ownsRow base 48 1 x (rlX (is.drop 9)).length (vals (rlX (is.drop 9))) -> Mw W (miM is) x) := fun W base x ho => ⟨mi_wd hYo.1, mi_row hYo.1 h9 ho⟩
 have HM := hide (fun W x (hm : Mw W (miM is) x) => gMayM (miM is) x W hm)
 unfold unF at HK HN HC1 HC2 HL
 have HMe : Hid (miM is = ⟨is.getD 0 0, tk8 ((is.drop 1).take 4), tk8 ((is.drop 5).take 4), rlF (is.drop 9), rlX (is.drop 9)⟩) := rfl
 rw [hm] at HM
 rw [HMe.out] at HRw HM ⊢
 unfold mgv mgc at HM
 rw [hr] at HL HF
 clear he hmm hu hn HE hYo his hk h1 h5 h9 D5 D9 hr hm HMe
 generalize is.getD 0 0 = k at *
 generalize tk8 ((is.drop 1).take 4) = r at *
 generalize tk8 ((is.drop 5).take 4) = v at *
 generalize rlF (is.drop 9) = f at *
 generalize rlX (is.drop 9) = xs at *
 go_enter Try.func26, Try.ntmps26
 go_wp2_with (first
  | (go_at_call 39; refine HU.out.mono ?_; rintro e w1 ⟨v1, rfl, ho1, hb1⟩; obtain ⟨p, c1, hv1, hp0, _⟩ := ho1.form h0; have hpl : p < w1.heap.size := own_top ho1 p (by rw [hv1]; rfl); have hub : Ub w1 p v1 is := ⟨rb_of_own ho1 HY.out HYl.out, fun _ => ⟨_, _, _, hv1⟩⟩; subst hv1)
  | (go_at_call_of 40 (Value.bool true); refine (gWant_ok _ _).mono ?_; rintro e w2 ⟨rfl, hw2⟩; rw [hw2]; clear hw2 w2)
  | (go_at_call 41; refine (HN.out _ p is _ hub hpl).mono ?_; rintro e w3 ⟨g, rfl, hu3, hg3, hb3⟩; have hR3 := rg_new (w := w) hM0 hB0 (Nat.le_refl _) hp0 hpl hb1 hu3 hg3 hb3)
  | (go_at_call 42; refine (HK.out _ _ _ hR3.un hR3.pl).mono ?_; rintro e w4 ⟨rfl, hu4, hk4⟩; have hR4 := hR3.step hu4 hk4; obtain ⟨c40, _⟩ := hR4.mb.cells; have f40 := hR4.mb.free 0; have hR5 := hR4.put (n := ⟨k, 0, 0, 0, []⟩) (t := .slice none 0 0) 0 (.int .u8 k) rfl)
  | (go_at_call 10; refine (HM.out _ _ hW12).mono ?_; rintro e w13 ⟨rfl, hb13⟩; have hR13 := hR12.step (hR12.un.below hR12.pl hb13) (kq_below hb13); have ho13 := own_below ho12 hb13; obtain ⟨e0, e1, e2, e3, e4⟩ := hR13.mb.cells; have g0 := hR13.mb.free 0; have g1 := hR13.mb.free 1; have g2 := hR13.mb.free 2; have g3 := hR13.mb.free 3; have g4 := hR13.mb.free 4)
  | (go_at_call 54; refine (HF.out _ _ _ hR11.un hR11.pl).mono ?_; rintro e w12 ⟨v12, rfl, hv12, hu12, hk12⟩; have hR12 := hR11.step hu12 hk12; have ho12 := rg_own2 ho11 hR9.un.lt hk12; have hW12 := HRw.out _ _ _ ho12; obtain ⟨d0, d1, d2, d3, d4⟩ := hR12.mb.cells; obtain ⟨a12, c12, hv12', _⟩ := hv12.1.spell; subst hv12')
  | (go_at_call 44; refine (HL.out _ _ _ hR9.un hR9.pl).mono ?_; rintro e w10 ⟨v10, rfl, ho10, hu10, hk10⟩; have hR10 := hR9.step hu10 hk10; obtain ⟨_, _, _, c103, c104⟩ := hR10.mb.cells; have f103 := hR10.mb.free 3; have f104 := hR10.mb.free 4; have hR11 := (hR10.put (n := ⟨k, r, v, f, []⟩) (t := .slice none 0 0) 3 (.int .u8 f) rfl).put (n := ⟨k, r, v, f, xs⟩) (t := v10) 4 v10 rfl; have ho11 := rg_own (rg_own ho10 hR9.mb.lt 3 (.int .u8 f)) hR9.mb.lt 4 v10; obtain ⟨a10, c10, hv10⟩ := own_form ho10; subst hv10)
  | (go_at_call 43; refine (HC2.out _ _ _ hR7.un hR7.pl).mono ?_; rintro e w8 ⟨rfl, hu8, hk8⟩; have hR8 := hR7.step hu8 hk8; obtain ⟨_, _, c82, _⟩ := hR8.mb.cells; have f82 := hR8.mb.free 2; have hR9 := hR8.put (n := ⟨k, r, v, 0, []⟩) (t := .slice none 0 0) 2 (.int .i64 v) rfl)
  | (go_at_call 43; refine (HC1.out _ _ _ hR5.un hR5.pl).mono ?_; rintro e w6 ⟨rfl, hu6, hk6⟩; have hR6 := hR5.step hu6 hk6; obtain ⟨_, c61, _⟩ := hR6.mb.cells; have f61 := hR6.mb.free 1; have hR7 := hR6.put (n := ⟨k, r, 0, 0, []⟩) (t := .slice none 0 0) 1 (.int .i64 r) rfl))
 have hR14 := ((((hR13.put (n := ⟨k, r, v, f, xs⟩) (t := .slice a10 xs.length c10) 0 (.int .u8 k) rfl).put (n := ⟨k, r, v, f, xs⟩) (t := .slice a10 xs.length c10) 1 (.int .i64 r) rfl).put (n := ⟨k, r, v, f, xs⟩) (t := .slice a10 xs.length c10) 2 (.int .i64 v) rfl).put (n := ⟨k, r, v, f, xs⟩) (t := .slice a10 xs.length c10) 3 (.int .u8 f) rfl).put (n := ⟨k, r, v, f, xs⟩) (t := .slice a10 xs.length c10) 4 (.slice a10 xs.length c10) rfl
 have hq := hR9.mb.lt
 have ho14 := rg_own (rg_own (rg_own (rg_own (rg_own ho13 hq 0 (.int .u8 k)) hq 1 (.int .i64 r)) hq 2 (.int .i64 v)) hq 3 (.int .u8 f)) hq 4 (.slice a10 xs.length c10)
 refine bodyPost_ret (resCell1 rfl rfl (load_msg hR14.mb)) rfl ?_
 exact ⟨hR14.bel, _, rfl, own_mono ho14 hR9.bel.size⟩
theorem gRead20 (u : Value) (bs : List Int) (w : World) (h : Rb w u bs) : Calls Try.prog 26 #[u] w (RdOut bs w) := by
 by_cases hu : usE sum8 bs = 0
 · by_cases hn : 12 + usN bs = bs.length
   · have hYo := usL_ok h.by
     rcases mi_cases hYo.1 with ⟨h0, hk⟩ | ⟨h0, h1, hk⟩ | ⟨h0, h1, h5, hk⟩ | ⟨h0, h1, h5, h9, hk⟩ | ⟨h0, h1, h5, h9, hr, hk⟩ | ⟨h0, h1, h5, h9, hr, hk⟩
     · exact gRead_c u bs w h _ hu hn rfl h0 hk
     · exact gRead_d u bs w h _ hu hn rfl h0 h1 hk
     · exact gRead_e u bs w h _ hu hn rfl h0 h1 h5 hk
     · exact gRead_f u bs w h _ hu hn rfl h0 h1 h5 h9 hk
     · exact gRead_g u bs w h _ hu hn rfl h0 h1 h5 h9 hr hk
     · cases hm : mgM (miM (usL sum8 bs)) with
       | false => exact gRead_h u bs w h _ hu hn rfl h0 h1 h5 h9 hr hm (by rw [hk, hm])
       | true => exact gRead_i u bs w h _ hu hn rfl h0 h1 h5 h9 hr hm (by rw [hk, hm])
   · exact gRead_b u bs w h hu hn
 · exact gRead_a u bs w h hu
end Go.Proofs.Ytaikhiodpieghaa
