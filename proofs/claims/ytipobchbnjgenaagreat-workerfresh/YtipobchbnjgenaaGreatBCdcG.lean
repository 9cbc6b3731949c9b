import Derived.Test.YtipobchbnjgenaaGreatBCdcE
import Derived.Test.YtipobchbnjgenaaGreatBCdcD
set_option linter.unusedVariables false
set_option linter.unusedSimpArgs false
set_option maxRecDepth 100000
set_option maxHeartbeats 4000000
namespace Go.Proofs.YtipobchbnjgenaaGreat
open Go.RowKit Fld
theorem Mb.set {w : World} {g : Nat} {m n : Mg} {s t : Value} (h : Mb w g m s) (k : Nat) (v : Value) (hq : mgc n t = (mgc m s).setIfInBounds k v) : Mb (w.setCell ⟨g, k, none⟩ v) g n t := by
 unfold Mb
 rw [set_blk h, hq]
structure Rg (w W : World) (r p g : Nat) (m : Mg) (s : Value) (bs : List Int) : Prop where
 un : Un W p g bs
 mb : Mb W r m s
 pl : p < W.heap.size
 np : p ≠ r
 ng : g ≠ r
 bel : Below w.heap.size w W
 gB : w.heap.size <= g
 rB : w.heap.size <= r
theorem Rg.step {w W W' : World} {r p g : Nat} {m : Mg} {s : Value} {bs cs : List Int} (h : Rg w W r p g m s bs) (u : Un W' p g cs) (k : Kq (Bu W g) W W') : Rg w W' r p g m s cs :=
 ⟨u, (k.block r ⟨h.mb.lt, h.ng.symm⟩).trans h.mb, Nat.lt_of_lt_of_le h.pl k.size, h.np, h.ng, h.bel.trans (k.below (fun j hj => ⟨Nat.lt_of_lt_of_le hj h.bel.size, by have := h.gB; omega⟩)), h.gB, h.rB⟩
theorem Rg.left {w W W' : World} {r p g : Nat} {m : Mg} {s : Value} {bs : List Int} (h : Rg w W r p g m s bs) (k : Kq (Bu W g) W W') : Below w.heap.size w W' :=
 h.bel.trans (k.below (fun j hj => ⟨Nat.lt_of_lt_of_le hj h.bel.size, by have := h.gB; omega⟩))
theorem Rg.put {w W : World} {r p g : Nat} {m n : Mg} {s t : Value} {bs : List Int} (h : Rg w W r p g m s bs) (k : Nat) (v : Value) (hq : mgc n t = (mgc m s).setIfInBounds k v) : Rg w (W.setCell ⟨r, k, none⟩ v) r p g n t bs :=
 ⟨h.un.kept (set_kq W r k v) ⟨h.un.lt, h.ng⟩ ⟨h.pl, h.np⟩, h.mb.set k v hq, Nat.lt_of_lt_of_le h.pl (set_kq W r k v).size, h.np, h.ng, h.bel.setCell (p := ⟨r, k, none⟩) h.rB v, h.gB, h.rB⟩
theorem mz_box (w : World) : Mb (w.alloc (.cells #[.int .u8 0, .int .i64 0, .int .i64 0, .int .u8 0, .slice none 0 0] 74)) w.heap.size mg0 (.slice none 0 0) ∧ Below w.heap.size w (w.alloc (.cells #[.int .u8 0, .int .i64 0, .int .i64 0, .int .u8 0, .slice none 0 0] 74)) := ⟨heap_alloc_new w _, alloc_below _ _⟩
theorem rg_new {w W0 W1 W2 : World} {r g : Nat} {is : List Int} (hM : Mb W0 r mg0 (.slice none 0 0)) (hB : Below w.heap.size w W0) (hr : w.heap.size <= r) {p : Nat} (hp : W0.heap.size <= p) (hp1 : p < W1.heap.size) (hb1 : Below W0.heap.size W0 W1) (hu : Un W2 p g is) (hg : W1.heap.size <= g) (hb2 : Below W1.heap.size W1 W2) : Rg w W2 r p g mg0 (.slice none 0 0) is := by
 have h1 := hM.lt
 have h2 := hb1.size
 have h3 := hB.size
 exact ⟨hu, (hM.below hb1).below hb2, Nat.lt_of_lt_of_le hp1 hb2.size, by omega, by omega, (hB.trans (hb1.mono h3)).trans (hb2.mono (Nat.le_trans h3 h2)), by omega, hr⟩
theorem mi_cases {is : List Int} (hb : By is) : (is = [] ∧ miK is = false) ∨ (0 < is.length ∧ rcE (is.drop 1) ≠ 0 ∧ miK is = false) ∨ (0 < is.length ∧ rcE (is.drop 1) = 0 ∧ rcE (is.drop 5) ≠ 0 ∧ miK is = false) ∨ (0 < is.length ∧ rcE (is.drop 1) = 0 ∧ rcE (is.drop 5) = 0 ∧ rlE (is.drop 9) ≠ 0 ∧ miK is = false) ∨
 (0 < is.length ∧ rcE (is.drop 1) = 0 ∧ rcE (is.drop 5) = 0 ∧ rlE (is.drop 9) = 0 ∧ 0 < ((is.drop 9).drop (5 + rlN (is.drop 9) * wF (rlF (is.drop 9)))).length ∧ miK is = false) ∨
 (0 < is.length ∧ rcE (is.drop 1) = 0 ∧ rcE (is.drop 5) = 0 ∧ rlE (is.drop 9) = 0 ∧ (is.drop 9).drop (5 + rlN (is.drop 9) * wF (rlF (is.drop 9))) = [] ∧ miK is = mgM (miM is)) := by
 have hi := miK_iff hb
 have no : ¬ (0 < is.length ∧ rcE (is.drop 1) = 0 ∧ rcE (is.drop 5) = 0 ∧ rlE (is.drop 9) = 0 ∧ (is.drop 9).length = 5 + rlN (is.drop 9) * wF (rlF (is.drop 9)) ∧ mgM (miM is) = true) -> miK is = false := fun h => by
  cases hm : miK is with
  | false => rfl
  | true => exact absurd (hi.1 hm) h
 by_cases h0 : 0 < is.length
 · by_cases h1 : rcE (is.drop 1) = 0
   · by_cases h2 : rcE (is.drop 5) = 0
     · by_cases h3 : rlE (is.drop 9) = 0
       · have h4 := (rlE_zero h3).2.2.2.2.1
         by_cases h5 : (is.drop 9).length = 5 + rlN (is.drop 9) * wF (rlF (is.drop 9))
         · refine .inr (.inr (.inr (.inr (.inr ⟨h0, h1, h2, h3, by rw [<- h5]; exact List.drop_length, ?_⟩))))
           cases hm : mgM (miM is) with
           | true => exact hi.2 ⟨h0, h1, h2, h3, h5, hm⟩
           | false => exact no (fun h => by rw [hm] at h; exact absurd h.2.2.2.2.2 (by decide))
         · exact .inr (.inr (.inr (.inr (.inl ⟨h0, h1, h2, h3, by rw [List.length_drop]; omega, no (fun h => h5 h.2.2.2.2.1)⟩))))
       · exact .inr (.inr (.inr (.inl ⟨h0, h1, h2, h3, no (fun h => h3 h.2.2.2.1)⟩)))
     · exact .inr (.inr (.inl ⟨h0, h1, h2, no (fun h => h2 h.2.2.1)⟩))
   · exact .inr (.inl ⟨h0, h1, no (fun h => h1 h.2.1)⟩)
 · exact .inl ⟨List.length_eq_zero_iff.1 (by omega), no (fun h => h0 h.1)⟩
theorem mr_bad {S : List Int -> Int} {bs : List Int} (h : usE S bs = 0) (hk : 12 + usN bs ≠ bs.length ∨ miK (usL S bs) = false) : mrE S bs = 8 := by
 unfold mrE
 rw [if_neg (by omega), if_neg]
 rintro ⟨h1, h2⟩
 rcases hk with hk | hk
 · exact hk h1
 · rw [hk] at h2; cases h2
theorem mr_good {S : List Int -> Int} {bs : List Int} (h : usE S bs = 0) (hn : 12 + usN bs = bs.length) (hk : miK (usL S bs) = true) : mrE S bs = 0 ∧ mrM S bs = miM (usL S bs) := by
 have e : mrE S bs = 0 := by unfold mrE; rw [if_neg (by omega), if_pos ⟨hn, hk⟩]
 exact ⟨e, by unfold mrM; rw [if_pos e]⟩
theorem mr_unseal {S : List Int -> Int} {bs : List Int} (h : usE S bs ≠ 0) : mrE S bs = usE S bs := by unfold mrE; rw [if_pos h]
def set5m (w : World) (b : Nat) (k r v f : Int) (s : Value) : World := ((((w.setCell ⟨b, 0, none⟩ (.int .u8 k)).setCell ⟨b, 1, none⟩ (.int .i64 r)).setCell ⟨b, 2, none⟩ (.int .i64 v)).setCell ⟨b, 3, none⟩ (.int .u8 f)).setCell ⟨b, 4, none⟩ s
theorem mb_set5 {w : World} {b : Nat} {m : Mg} {s : Value} (h : Mb w b m s) (n : Mg) (t : Value) : Mb (set5m w b n.k n.r n.v n.f t) b n t ∧ Below b w (set5m w b n.k n.r n.v n.f t) := by
 unfold set5m
 refine ⟨((((h.set (n := { m with k := n.k }) (t := s) 0 (.int .u8 n.k) rfl).set (n := { m with k := n.k, r := n.r }) (t := s) 1 (.int .i64 n.r) rfl).set (n := { m with k := n.k, r := n.r, v := n.v }) (t := s) 2 (.int .i64 n.v) rfl).set (n := { m with k := n.k, r := n.r, v := n.v, f := n.f }) (t := s) 3 (.int .u8 n.f) rfl).set (n := n) (t := t) 4 t rfl, ?_⟩
 exact ((((((Below.refl b w).setCell (p := ⟨b, 0, none⟩) (Nat.le_refl _) _).setCell (p := ⟨b, 1, none⟩) (Nat.le_refl _) _).setCell (p := ⟨b, 2, none⟩) (Nat.le_refl _) _).setCell (p := ⟨b, 3, none⟩) (Nat.le_refl _) _).setCell (p := ⟨b, 4, none⟩) (Nat.le_refl _) _)
theorem rg_own {W : World} {base n r : Nat} {T : TypeId} {v : Value} {xs : List Value} (ho : W.ownsRow base T 1 v n xs) (hr : r < base) (k : Nat) (x : Value) : (W.setCell ⟨r, k, none⟩ x).ownsRow base T 1 v n xs :=
 (set_kq W r k x).own ho (fun b hb => ⟨own_top ho b hb, by have := own_base ho b hb; omega⟩)
theorem rg_own2 {W W' : World} {base n g : Nat} {T : TypeId} {v : Value} {xs : List Value} (ho : W.ownsRow base T 1 v n xs) (hg : g < base) (hk : Kq (Bu W g) W W') : W'.ownsRow base T 1 v n xs :=
 hk.own ho (fun b hb => ⟨own_top ho b hb, by have := own_base ho b hb; omega⟩)
def RdOut (bs : List Int) (w : World) (e : Ending) (w' : World) : Prop :=
 Below w.heap.size w w' ∧ ((mrE sum8 bs = 0 ∧ ∃ s, e = .returned (mgv (mrM sum8 bs) s) ∧ w'.ownsRow w.heap.size 83 1 s (mrM sum8 bs).l.length (vals (mrM sum8 bs).l)) ∨ (mrE sum8 bs ≠ 0 ∧ e = .panicked (pan20 (mrE sum8 bs))))
theorem gRead_a (u : Value) (bs : List Int) (w : World) (h : Rb w u bs) (hu : usE sum8 bs ≠ 0) : Calls Tryz.prog 102 #[u] w (RdOut bs w) := by
 obtain ⟨hM0, hB0⟩ := mz_box w
 have HU := hide (wUnseal u bs _ (h.below hB0))
 unfold GivesU at HU
 have hyb := h.by
 obtain ⟨ao, cap, rfl, _⟩ := h.spell
 clear h
 have he := mr_unseal hu
 have hb : (usE sum8 bs == 0) = false := by simpa using hu
 unfold RdOut
 rw [he]
 clear he
 generalize usL sum8 bs = is at *
 generalize usSo sum8 bs = so at *
 generalize usE sum8 bs = ee at *
 go_enter Tryz.func102, Tryz.ntmps102
 go_wp2_with (first
  | (go_at_call 126; refine HU.out.mono ?_; rintro e w1 ⟨v1, rfl, ho1, hb1⟩; obtain ⟨a1, c1, hv1⟩ := own_form ho1; subst hv1; have hB1 := hB0.trans (hb1.mono hB0.size))
  | (go_at_call_of 129 (Value.bool false); refine (gWant_no _ _).mono ?_; rintro e w2 ⟨rfl, hw2⟩; rw [hw2]; clear hw2 w2))
 exact ⟨rfl, hB1, .inr ⟨hu, rfl⟩⟩
theorem gRead_b (u : Value) (bs : List Int) (w : World) (h : Rb w u bs) (hu : usE sum8 bs = 0) (hn : 12 + usN bs ≠ bs.length) : Calls Tryz.prog 102 #[u] w (RdOut bs w) := by
 obtain ⟨hM0, hB0⟩ := mz_box w
 have HU := hide (wUnseal u bs _ (h.below hB0))
 unfold GivesU at HU
 have hyb := h.by
 obtain ⟨ao, cap, rfl, _⟩ := h.spell
 clear h
 have he := mr_bad hu (.inl hn)
 rw [hu, (us_yes hu).2] at HU
 have HE : Hid (RdOut bs w = fun e w' => Below w.heap.size w w' ∧ e = .panicked (pan20 8)) := by
  show _ = _
  funext e w'
  unfold RdOut
  rw [he]
  simp
 rw [HE.out]
 have hne : (((12 + usN bs : Nat) : Int) == (bs.length : Int)) = false := beq_eq_false_iff_ne.2 (by omega)
 clear he hu hn HE
 generalize usL sum8 bs = is at *
 generalize 12 + usN bs = so at *
 go_enter Tryz.func102, Tryz.ntmps102
 go_wp2_with (first
  | (go_at_call 126; refine HU.out.mono ?_; rintro e w1 ⟨v1, rfl, ho1, hb1⟩; obtain ⟨a1, c1, hv1⟩ := own_form ho1; subst hv1; have hB1 := hB0.trans (hb1.mono hB0.size))
  | (go_at_call_of 129 (Value.bool true); refine (gWant_ok _ _).mono ?_; rintro e w2 ⟨rfl, hw2⟩; rw [hw2]; clear hw2 w2)
  | (go_at_call_of 129 (Value.bool false); refine (gWant_no _ _).mono ?_; rintro e w2 ⟨rfl, hw2⟩; rw [hw2]; clear hw2 w2))
 exact ⟨rfl, hB1, rfl⟩
theorem gRead_c (u : Value) (bs : List Int) (w : World) (h : Rb w u bs) (is : List Int) (hu : usE sum8 bs = 0) (hn : 12 + usN bs = bs.length) (his : usL sum8 bs = is) (h0 : is = []) (hk : miK is = false) : Calls Tryz.prog 102 #[u] w (RdOut bs w) := by
 obtain ⟨hM0, hB0⟩ := mz_box w
 have HU := hide (wUnseal u bs _ (h.below hB0))
 unfold GivesU at HU
 have hyb := h.by
 obtain ⟨ao, cap, rfl, _⟩ := h.spell
 clear h
 have he := mr_bad hu (.inr (by rw [his]; exact hk))
 rw [hu, (us_yes hu).2] at HU
 have HE : Hid (RdOut bs w = fun e w' => Below w.heap.size w w' ∧ e = .panicked (pan20 8)) := by
  show _ = _
  funext e w'
  unfold RdOut
  rw [he]
  simp
 rw [HE.out]
 have hYo := usL_ok hyb
 rw [his] at HU hYo
 rw [hn] at HU
 have HY := hide hYo.1
 have HYl := hide (show is.length <= 140737488500000 by have := hYo.2; omega)
 have HN := hide gUnreadOf
 subst h0
 have HK := hide gKind_no
 unfold unF at HK HN
 clear he hu hn HE hYo HY HYl his hk
 go_enter Tryz.func102, Tryz.ntmps102
 go_wp2_with (first
  | (go_at_call 126; refine HU.out.mono ?_; rintro e w1 ⟨v1, rfl, ho1, hb1⟩; have hub : Ub w1 0 v1 [] := ⟨rb_of_own ho1 By.nil (by simp), fun h => absurd rfl h⟩; have hpl : 0 < w1.heap.size := (by have h1 := hM0.lt; have h2 := hb1.size; omega); obtain ⟨a1, c1, hv1⟩ := own_form ho1; subst hv1)
  | (go_at_call_of 129 (Value.bool true); refine (gWant_ok _ _).mono ?_; rintro e w2 ⟨rfl, hw2⟩; rw [hw2]; clear hw2 w2)
  | (go_at_call 130; refine (HN.out _ 0 [] _ hub hpl).mono ?_; rintro e w3 ⟨g, rfl, hu3, hg3, hb3⟩; have hp3 := Nat.lt_of_lt_of_le hpl hb3.size)
  | (go_at_call 131; refine (HK.out _ _ _ hu3 hp3).mono ?_; rintro e w4 ⟨rfl, hk4⟩))
 exact ⟨rfl, hB0.trans (hb1.mono hB0.size) |>.trans ((hb3.mono (Nat.le_trans hB0.size hb1.size))) |>.trans (hk4.below (fun j hj => ⟨by have h1 := hB0.size; have h2 := hb1.size; have h3 := hb3.size; omega, by have h1 := hB0.size; have h2 := hb1.size; omega⟩)), rfl⟩
theorem gRead_d (u : Value) (bs : List Int) (w : World) (h : Rb w u bs) (is : List Int) (hu : usE sum8 bs = 0) (hn : 12 + usN bs = bs.length) (his : usL sum8 bs = is) (h0 : 0 < is.length) (h1 : rcE (is.drop 1) ≠ 0) (hk : miK is = false) : Calls Tryz.prog 102 #[u] w (RdOut bs w) := by
 obtain ⟨hM0, hB0⟩ := mz_box w
 have HU := hide (wUnseal u bs _ (h.below hB0))
 unfold GivesU at HU
 have hyb := h.by
 obtain ⟨ao, cap, rfl, _⟩ := h.spell
 clear h
 have he := mr_bad hu (.inr (by rw [his]; exact hk))
 rw [hu, (us_yes hu).2] at HU
 have HE : Hid (RdOut bs w = fun e w' => Below w.heap.size w w' ∧ e = .panicked (pan20 8)) := by
  show _ = _
  funext e w'
  unfold RdOut
  rw [he]
  simp
 rw [HE.out]
 have hYo := usL_ok hyb
 rw [his] at HU hYo
 rw [hn] at HU
 have HY := hide hYo.1
 have HYl := hide (show is.length <= 140737488500000 by have := hYo.2; omega)
 have HN := hide gUnreadOf
 have HK := hide (fun p g W (hu : Un W p g is) (hp : p < W.heap.size) => gKind_yes p g is W hu hp h0)
 have HC1 := hide (fun p g W (hu : Un W p g (is.drop 1)) (hp : p < W.heap.size) => gCount_no p g _ W hu hp h1)
 unfold unF at HK HN HC1
 clear he hu hn HE hYo his hk h1
 generalize is.getD 0 0 = k at *
 go_enter Tryz.func102, Tryz.ntmps102
 go_wp2_with (first
  | (go_at_call 126; refine HU.out.mono ?_; rintro e w1 ⟨v1, rfl, ho1, hb1⟩; obtain ⟨p, c1, hv1, hp0, _⟩ := ho1.form h0; have hpl : p < w1.heap.size := own_top ho1 p (by rw [hv1]; rfl); have hub : Ub w1 p v1 is := ⟨rb_of_own ho1 HY.out HYl.out, fun _ => ⟨_, _, _, hv1⟩⟩; subst hv1)
  | (go_at_call_of 129 (Value.bool true); refine (gWant_ok _ _).mono ?_; rintro e w2 ⟨rfl, hw2⟩; rw [hw2]; clear hw2 w2)
  | (go_at_call 130; refine (HN.out _ p is _ hub hpl).mono ?_; rintro e w3 ⟨g, rfl, hu3, hg3, hb3⟩; have hR3 := rg_new (w := w) hM0 hB0 (Nat.le_refl _) hp0 hpl hb1 hu3 hg3 hb3)
  | (go_at_call 131; refine (HK.out _ _ _ hR3.un hR3.pl).mono ?_; rintro e w4 ⟨rfl, hu4, hk4⟩; have hR4 := hR3.step hu4 hk4; obtain ⟨c40, _⟩ := hR4.mb.cells; have f40 := hR4.mb.free 0; have hR5 := hR4.put (n := ⟨k, 0, 0, 0, []⟩) (t := .slice none 0 0) 0 (.int .u8 k) rfl)
  | (go_at_call 132; refine (HC1.out _ _ _ hR5.un hR5.pl).mono ?_; rintro e w6 ⟨rfl, hk6⟩; have hBe := hR5.left hk6))
 exact ⟨rfl, hBe, rfl⟩
theorem gRead_e (u : Value) (bs : List Int) (w : World) (h : Rb w u bs) (is : List Int) (hu : usE sum8 bs = 0) (hn : 12 + usN bs = bs.length) (his : usL sum8 bs = is) (h0 : 0 < is.length) (h1 : rcE (is.drop 1) = 0) (h5 : rcE (is.drop 5) ≠ 0) (hk : miK is = false) : Calls Tryz.prog 102 #[u] w (RdOut bs w) := by
 obtain ⟨hM0, hB0⟩ := mz_box w
 have HU := hide (wUnseal u bs _ (h.below hB0))
 unfold GivesU at HU
 have hyb := h.by
 obtain ⟨ao, cap, rfl, _⟩ := h.spell
 clear h
 have he := mr_bad hu (.inr (by rw [his]; exact hk))
 rw [hu, (us_yes hu).2] at HU
 have HE : Hid (RdOut bs w = fun e w' => Below w.heap.size w w' ∧ e = .panicked (pan20 8)) := by
  show _ = _
  funext e w'
  unfold RdOut
  rw [he]
  simp
 rw [HE.out]
 have hYo := usL_ok hyb
 rw [his] at HU hYo
 rw [hn] at HU
 have HY := hide hYo.1
 have HYl := hide (show is.length <= 140737488500000 by have := hYo.2; omega)
 have HN := hide gUnreadOf
 have HK := hide (fun p g W (hu : Un W p g is) (hp : p < W.heap.size) => gKind_yes p g is W hu hp h0)
 have HC1 := hide (fun p g W (hu : Un W p g (is.drop 1)) (hp : p < W.heap.size) => gCount_yes p g _ W hu hp h1)
 have D5 : Hid ((is.drop 1).drop 4 = is.drop 5) := by show _ = _; rw [List.drop_drop]
 rw [D5.out] at HC1
 have HC2 := hide (fun p g W (hu : Un W p g (is.drop 5)) (hp : p < W.heap.size) => gCount_no p g _ W hu hp h5)
 unfold unF at HK HN HC1 HC2
 clear he hu hn HE hYo his hk h1 h5 D5
 generalize is.getD 0 0 = k at *
 generalize tk8 ((is.drop 1).take 4) = r at *
 go_enter Tryz.func102, Tryz.ntmps102
 go_wp2_with (first
  | (go_at_call 126; refine HU.out.mono ?_; rintro e w1 ⟨v1, rfl, ho1, hb1⟩; obtain ⟨p, c1, hv1, hp0, _⟩ := ho1.form h0; have hpl : p < w1.heap.size := own_top ho1 p (by rw [hv1]; rfl); have hub : Ub w1 p v1 is := ⟨rb_of_own ho1 HY.out HYl.out, fun _ => ⟨_, _, _, hv1⟩⟩; subst hv1)
  | (go_at_call_of 129 (Value.bool true); refine (gWant_ok _ _).mono ?_; rintro e w2 ⟨rfl, hw2⟩; rw [hw2]; clear hw2 w2)
  | (go_at_call 130; refine (HN.out _ p is _ hub hpl).mono ?_; rintro e w3 ⟨g, rfl, hu3, hg3, hb3⟩; have hR3 := rg_new (w := w) hM0 hB0 (Nat.le_refl _) hp0 hpl hb1 hu3 hg3 hb3)
  | (go_at_call 131; refine (HK.out _ _ _ hR3.un hR3.pl).mono ?_; rintro e w4 ⟨rfl, hu4, hk4⟩; have hR4 := hR3.step hu4 hk4; obtain ⟨c40, _⟩ := hR4.mb.cells; have f40 := hR4.mb.free 0; have hR5 := hR4.put (n := ⟨k, 0, 0, 0, []⟩) (t := .slice none 0 0) 0 (.int .u8 k) rfl)
  | (go_at_call 132; refine (HC2.out _ _ _ hR7.un hR7.pl).mono ?_; rintro e w8 ⟨rfl, hk8⟩; have hBe := hR7.left hk8)
  | (go_at_call 132; refine (HC1.out _ _ _ hR5.un hR5.pl).mono ?_; rintro e w6 ⟨rfl, hu6, hk6⟩; have hR6 := hR5.step hu6 hk6; obtain ⟨_, c61, _⟩ := hR6.mb.cells; have f61 := hR6.mb.free 1; have hR7 := hR6.put (n := ⟨k, r, 0, 0, []⟩) (t := .slice none 0 0) 1 (.int .i64 r) rfl))
 exact ⟨rfl, hBe, rfl⟩
theorem gRead_f (u : Value) (bs : List Int) (w : World) (h : Rb w u bs) (is : List Int) (hu : usE sum8 bs = 0) (hn : 12 + usN bs = bs.length) (his : usL sum8 bs = is) (h0 : 0 < is.length) (h1 : rcE (is.drop 1) = 0) (h5 : rcE (is.drop 5) = 0) (h9 : rlE (is.drop 9) ≠ 0) (hk : miK is = false) : Calls Tryz.prog 102 #[u] w (RdOut bs w) := by
 obtain ⟨hM0, hB0⟩ := mz_box w
 have HU := hide (wUnseal u bs _ (h.below hB0))
 unfold GivesU at HU
 have hyb := h.by
 obtain ⟨ao, cap, rfl, _⟩ := h.spell
 clear h
 have he := mr_bad hu (.inr (by rw [his]; exact hk))
 rw [hu, (us_yes hu).2] at HU
 have HE : Hid (RdOut bs w = fun e w' => Below w.heap.size w w' ∧ e = .panicked (pan20 8)) := by
  show _ = _
  funext e w'
  unfold RdOut
  rw [he]
  simp
 rw [HE.out]
 have hYo := usL_ok hyb
 rw [his] at HU hYo
 rw [hn] at HU
 have HY := hide hYo.1
 have HYl := hide (show is.length <= 140737488500000 by have := hYo.2; omega)
 have HN := hide gUnreadOf
 have HK := hide (fun p g W (hu : Un W p g is) (hp : p < W.heap.size) => gKind_yes p g is W hu hp h0)
 have HC1 := hide (fun p g W (hu : Un W p g (is.drop 1)) (hp : p < W.heap.size) => gCount_yes p g _ W hu hp h1)
 have D5 : Hid ((is.drop 1).drop 4 = is.drop 5) := by show _ = _; rw [List.drop_drop]
 rw [D5.out] at HC1
 have HC2 := hide (fun p g W (hu : Un W p g (is.drop 5)) (hp : p < W.heap.size) => gCount_yes p g _ W hu hp h5)
 have D9 : Hid ((is.drop 5).drop 4 = is.drop 9) := by show _ = _; rw [List.drop_drop]
 rw [D9.out] at HC2
 have HL := hide (fun p g W (hu : Un W p g (is.drop 9)) (hp : p < W.heap.size) => gList_no p g _ W hu hp h9)
 unfold unF at HK HN HC1 HC2 HL
 clear he hu hn HE hYo his hk h1 h5 h9 D5 D9
 generalize is.getD 0 0 = k at *
 generalize tk8 ((is.drop 1).take 4) = r at *
 generalize tk8 ((is.drop 5).take 4) = v at *
 go_enter Tryz.func102, Tryz.ntmps102
 go_wp2_with (first
  | (go_at_call 126; refine HU.out.mono ?_; rintro e w1 ⟨v1, rfl, ho1, hb1⟩; obtain ⟨p, c1, hv1, hp0, _⟩ := ho1.form h0; have hpl : p < w1.heap.size := own_top ho1 p (by rw [hv1]; rfl); have hub : Ub w1 p v1 is := ⟨rb_of_own ho1 HY.out HYl.out, fun _ => ⟨_, _, _, hv1⟩⟩; subst hv1)
  | (go_at_call_of 129 (Value.bool true); refine (gWant_ok _ _).mono ?_; rintro e w2 ⟨rfl, hw2⟩; rw [hw2]; clear hw2 w2)
  | (go_at_call 130; refine (HN.out _ p is _ hub hpl).mono ?_; rintro e w3 ⟨g, rfl, hu3, hg3, hb3⟩; have hR3 := rg_new (w := w) hM0 hB0 (Nat.le_refl _) hp0 hpl hb1 hu3 hg3 hb3)
  | (go_at_call 131; refine (HK.out _ _ _ hR3.un hR3.pl).mono ?_; rintro e w4 ⟨rfl, hu4, hk4⟩; have hR4 := hR3.step hu4 hk4; obtain ⟨c40, _⟩ := hR4.mb.cells; have f40 := hR4.mb.free 0; have hR5 := hR4.put (n := ⟨k, 0, 0, 0, []⟩) (t := .slice none 0 0) 0 (.int .u8 k) rfl)
  | (go_at_call 133; refine (HL.out _ _ _ hR9.un hR9.pl).mono ?_; rintro e w10 ⟨rfl, hk10⟩; have hBe := hR9.left hk10)
  | (go_at_call 132; refine (HC2.out _ _ _ hR7.un hR7.pl).mono ?_; rintro e w8 ⟨rfl, hu8, hk8⟩; have hR8 := hR7.step hu8 hk8; obtain ⟨_, _, c82, _⟩ := hR8.mb.cells; have f82 := hR8.mb.free 2; have hR9 := hR8.put (n := ⟨k, r, v, 0, []⟩) (t := .slice none 0 0) 2 (.int .i64 v) rfl)
  | (go_at_call 132; refine (HC1.out _ _ _ hR5.un hR5.pl).mono ?_; rintro e w6 ⟨rfl, hu6, hk6⟩; have hR6 := hR5.step hu6 hk6; obtain ⟨_, c61, _⟩ := hR6.mb.cells; have f61 := hR6.mb.free 1; have hR7 := hR6.put (n := ⟨k, r, 0, 0, []⟩) (t := .slice none 0 0) 1 (.int .i64 r) rfl))
 exact ⟨rfl, hBe, rfl⟩
theorem mi_row {is : List Int} (hb : By is) (h9 : rlE (is.drop 9) = 0) {W : World} {base : Nat} {x : Value} (ho : W.ownsRow base 83 1 x (rlX (is.drop 9)).length (vals (rlX (is.drop 9)))) : Row W x (rlX (is.drop 9)) := by
 have e := (rl_yes h9).2.1
 have := rlLo_row (hb.drop 9) (w := W) (base := base) (v := x)
 rw [e] at this
 exact this ho
theorem mi_wd {is : List Int} (hb : By is) : Mgd (miM is) := by
 have byte : ∀ (bs : List Int), By bs -> 0 <= bs.getD 0 0 ∧ bs.getD 0 0 <= 255 := fun bs h => by
  cases bs with
  | nil => exact ⟨by decide, by decide⟩
  | cons b bs => exact h b List.mem_cons_self
 have four : ∀ (bs : List Int), By bs -> 0 <= tk8 (bs.take 4) ∧ tk8 (bs.take 4) <= 72057594037927935 := fun bs h => tk8_small h (by decide)
 have h1 := four _ (hb.drop 1)
 have h5 := four _ (hb.drop 5)
 exact ⟨byte _ hb, ⟨by show _ <= tk8 _; omega, by show tk8 _ <= _; omega⟩, ⟨by show _ <= tk8 _; omega, by show tk8 _ <= _; omega⟩, byte _ (hb.drop 9)⟩
theorem gRead_g (u : Value) (bs : List Int) (w : World) (h : Rb w u bs) (is : List Int) (hu : usE sum8 bs = 0) (hn : 12 + usN bs = bs.length) (his : usL sum8 bs = is) (h0 : 0 < is.length) (h1 : rcE (is.drop 1) = 0) (h5 : rcE (is.drop 5) = 0) (h9 : rlE (is.drop 9) = 0) (hr : 0 < ((is.drop 9).drop (5 + rlN (is.drop 9) * wF (rlF (is.drop 9)))).length) (hk : miK is = false) : Calls Tryz.prog 102 #[u] w (RdOut bs w) := by
 obtain ⟨hM0, hB0⟩ := mz_box w
 have HU := hide (wUnseal u bs _ (h.below hB0))
 unfold GivesU at HU
 have hyb := h.by
 obtain ⟨ao, cap, rfl, _⟩ := h.spell
 clear h
 have he := mr_bad hu (.inr (by rw [his]; exact hk))
 rw [hu, (us_yes hu).2] at HU
 have HE : Hid (RdOut bs w = fun e w' => Below w.heap.size w w' ∧ e = .panicked (pan20 8)) := by
  show _ = _
  funext e w'
  unfold RdOut
  rw [he]
  simp
 rw [HE.out]
 have hYo := usL_ok hyb
 rw [his] at HU hYo
 rw [hn] at HU
 have HY := hide hYo.1
 have HYl := hide (show is.length <= 140737488500000 by have := hYo.2; omega)
 have HN := hide gUnreadOf
 have HK := hide (fun p g W (hu : Un W p g is) (hp : p < W.heap.size) => gKind_yes p g is W hu hp h0)
 have HC1 := hide (fun p g W (hu : Un W p g (is.drop 1)) (hp : p < W.heap.size) => gCount_yes p g _ W hu hp h1)
 have D5 : Hid ((is.drop 1).drop 4 = is.drop 5) := by show _ = _; rw [List.drop_drop]
 rw [D5.out] at HC1
 have HC2 := hide (fun p g W (hu : Un W p g (is.drop 5)) (hp : p < W.heap.size) => gCount_yes p g _ W hu hp h5)
 have D9 : Hid ((is.drop 5).drop 4 = is.drop 9) := by show _ = _; rw [List.drop_drop]
 rw [D9.out] at HC2
 have HL := hide (fun p g W (hu : Un W p g (is.drop 9)) (hp : p < W.heap.size) => gList_yes p g _ W hu hp h9)
 have HF := hide (fun p g W (hu : Un W p g ((is.drop 9).drop (5 + rlN (is.drop 9) * wF (rlF (is.drop 9))))) (hp : p < W.heap.size) => gLeft 0 p g _ W hu hp (Nat.zero_le _))
 rw [List.drop_zero] at HF
 have HRw : Hid (∀ (W : World) base x, W.ownsRow base 83 1 x (rlX (is.drop 9)).length (vals (rlX (is.drop 9))) -> Mw W (miM is) x) := fun W base x ho => ⟨mi_wd hYo.1, mi_row hYo.1 h9 ho⟩
 have HM := hide (fun W x (hm : Mw W (miM is) x) => gMayM (miM is) x W hm)
 unfold unF at HK HN HC1 HC2 HL
 have HMe : Hid (miM is = ⟨is.getD 0 0, tk8 ((is.drop 1).take 4), tk8 ((is.drop 5).take 4), rlF (is.drop 9), rlX (is.drop 9)⟩) := rfl
 rw [HMe.out] at HRw HM
 unfold mgv mgc at HM
 generalize (is.drop 9).drop (5 + rlN (is.drop 9) * wF (rlF (is.drop 9))) = rest at *
 have hrl : ((rest.length : Int) == 0) = false := beq_eq_false_iff_ne.2 (by omega)
 clear he hu hn HE hYo his hk h1 h5 h9 D5 D9 hr HM HMe
 generalize is.getD 0 0 = k at *
 generalize tk8 ((is.drop 1).take 4) = r at *
 generalize tk8 ((is.drop 5).take 4) = v at *
 generalize rlF (is.drop 9) = f at *
 generalize rlX (is.drop 9) = xs at *
 go_enter Tryz.func102, Tryz.ntmps102
 go_wp2_with (first
  | (go_at_call 126; refine HU.out.mono ?_; rintro e w1 ⟨v1, rfl, ho1, hb1⟩; obtain ⟨p, c1, hv1, hp0, _⟩ := ho1.form h0; have hpl : p < w1.heap.size := own_top ho1 p (by rw [hv1]; rfl); have hub : Ub w1 p v1 is := ⟨rb_of_own ho1 HY.out HYl.out, fun _ => ⟨_, _, _, hv1⟩⟩; subst hv1)
  | (go_at_call_of 129 (Value.bool true); refine (gWant_ok _ _).mono ?_; rintro e w2 ⟨rfl, hw2⟩; rw [hw2]; clear hw2 w2)
  | (go_at_call 130; refine (HN.out _ p is _ hub hpl).mono ?_; rintro e w3 ⟨g, rfl, hu3, hg3, hb3⟩; have hR3 := rg_new (w := w) hM0 hB0 (Nat.le_refl _) hp0 hpl hb1 hu3 hg3 hb3)
  | (go_at_call 131; refine (HK.out _ _ _ hR3.un hR3.pl).mono ?_; rintro e w4 ⟨rfl, hu4, hk4⟩; have hR4 := hR3.step hu4 hk4; obtain ⟨c40, _⟩ := hR4.mb.cells; have f40 := hR4.mb.free 0; have hR5 := hR4.put (n := ⟨k, 0, 0, 0, []⟩) (t := .slice none 0 0) 0 (.int .u8 k) rfl)
  | (go_at_call 168; refine (HF.out _ _ _ hR11.un hR11.pl).mono ?_; rintro e w12 ⟨v12, rfl, hv12, hu12, hk12⟩; have hR12 := hR11.step hu12 hk12; have ho12 := rg_own2 ho11 hR9.un.lt hk12; have hW12 := HRw.out _ _ _ ho12; obtain ⟨d0, d1, d2, d3, d4⟩ := hR12.mb.cells; obtain ⟨a12, c12, hv12', _⟩ := hv12.1.spell; subst hv12')
  | (go_at_call 133; refine (HL.out _ _ _ hR9.un hR9.pl).mono ?_; rintro e w10 ⟨v10, rfl, ho10, hu10, hk10⟩; have hR10 := hR9.step hu10 hk10; obtain ⟨_, _, _, c103, c104⟩ := hR10.mb.cells; have f103 := hR10.mb.free 3; have f104 := hR10.mb.free 4; have hR11 := (hR10.put (n := ⟨k, r, v, f, []⟩) (t := .slice none 0 0) 3 (.int .u8 f) rfl).put (n := ⟨k, r, v, f, xs⟩) (t := v10) 4 v10 rfl; have ho11 := rg_own (rg_own ho10 hR9.mb.lt 3 (.int .u8 f)) hR9.mb.lt 4 v10; obtain ⟨a10, c10, hv10⟩ := own_form ho10; subst hv10)
  | (go_at_call 132; refine (HC2.out _ _ _ hR7.un hR7.pl).mono ?_; rintro e w8 ⟨rfl, hu8, hk8⟩; have hR8 := hR7.step hu8 hk8; obtain ⟨_, _, c82, _⟩ := hR8.mb.cells; have f82 := hR8.mb.free 2; have hR9 := hR8.put (n := ⟨k, r, v, 0, []⟩) (t := .slice none 0 0) 2 (.int .i64 v) rfl)
  | (go_at_call 132; refine (HC1.out _ _ _ hR5.un hR5.pl).mono ?_; rintro e w6 ⟨rfl, hu6, hk6⟩; have hR6 := hR5.step hu6 hk6; obtain ⟨_, c61, _⟩ := hR6.mb.cells; have f61 := hR6.mb.free 1; have hR7 := hR6.put (n := ⟨k, r, 0, 0, []⟩) (t := .slice none 0 0) 1 (.int .i64 r) rfl)
  | (go_at_call_of 129 (Value.bool false); refine (gWant_no _ _).mono ?_; rintro e w2 ⟨rfl, hw2⟩; rw [hw2]; clear hw2 w2))
 exact ⟨rfl, hR12.bel, rfl⟩
theorem gRead_h (u : Value) (bs : List Int) (w : World) (h : Rb w u bs) (is : List Int) (hu : usE sum8 bs = 0) (hn : 12 + usN bs = bs.length) (his : usL sum8 bs = is) (h0 : 0 < is.length) (h1 : rcE (is.drop 1) = 0) (h5 : rcE (is.drop 5) = 0) (h9 : rlE (is.drop 9) = 0) (hr : (is.drop 9).drop (5 + rlN (is.drop 9) * wF (rlF (is.drop 9))) = []) (hm : mgM (miM is) = false) (hk : miK is = false) : Calls Tryz.prog 102 #[u] w (RdOut bs w) := by
 obtain ⟨hM0, hB0⟩ := mz_box w
 have HU := hide (wUnseal u bs _ (h.below hB0))
 unfold GivesU at HU
 have hyb := h.by
 obtain ⟨ao, cap, rfl, _⟩ := h.spell
 clear h
 have he := mr_bad hu (.inr (by rw [his]; exact hk))
 rw [hu, (us_yes hu).2] at HU
 have HE : Hid (RdOut bs w = fun e w' => Below w.heap.size w w' ∧ e = .panicked (pan20 8)) := by
  show _ = _
  funext e w'
  unfold RdOut
  rw [he]
  simp
 rw [HE.out]
 have hYo := usL_ok hyb
 rw [his] at HU hYo
 rw [hn] at HU
 have HY := hide hYo.1
 have HYl := hide (show is.length <= 140737488500000 by have := hYo.2; omega)
 have HN := hide gUnreadOf
 have HK := hide (fun p g W (hu : Un W p g is) (hp : p < W.heap.size) => gKind_yes p g is W hu hp h0)
 have HC1 := hide (fun p g W (hu : Un W p g (is.drop 1)) (hp : p < W.heap.size) => gCount_yes p g _ W hu hp h1)
 have D5 : Hid ((is.drop 1).drop 4 = is.drop 5) := by show _ = _; rw [List.drop_drop]
 rw [D5.out] at HC1
 have HC2 := hide (fun p g W (hu : Un W p g (is.drop 5)) (hp : p < W.heap.size) => gCount_yes p g _ W hu hp h5)
 have D9 : Hid ((is.drop 5).drop 4 = is.drop 9) := by show _ = _; rw [List.drop_drop]
 rw [D9.out] at HC2
 have HL := hide (fun p g W (hu : Un W p g (is.drop 9)) (hp : p < W.heap.size) => gList_yes p g _ W hu hp h9)
 have HF := hide (fun p g W (hu : Un W p g ((is.drop 9).drop (5 + rlN (is.drop 9) * wF (rlF (is.drop 9))))) (hp : p < W.heap.size) => gLeft 0 p g _ W hu hp (Nat.zero_le _))
 rw [List.drop_zero] at HF
 have HRw : Hid (∀ (W : World) base x, W.ownsRow base 83 1 x (rlX (is.drop 9)).length (vals (rlX (is.drop 9))) -> Mw W (miM is) x) := fun W base x ho => ⟨mi_wd hYo.1, mi_row hYo.1 h9 ho⟩
 have HM := hide (fun W x (hm : Mw W (miM is) x) => gMayM (miM is) x W hm)
 unfold unF at HK HN HC1 HC2 HL
 have HMe : Hid (miM is = ⟨is.getD 0 0, tk8 ((is.drop 1).take 4), tk8 ((is.drop 5).take 4), rlF (is.drop 9), rlX (is.drop 9)⟩) := rfl
 rw [hm] at HM
 rw [HMe.out] at HRw HM
 unfold mgv mgc at HM
 rw [hr] at HL HF
 clear he hu hn HE hYo his hk h1 h5 h9 D5 D9 hr hm HMe
 generalize is.getD 0 0 = k at *
 generalize tk8 ((is.drop 1).take 4) = r at *
 generalize tk8 ((is.drop 5).take 4) = v at *
 generalize rlF (is.drop 9) = f at *
 generalize rlX (is.drop 9) = xs at *
 go_enter Tryz.func102, Tryz.ntmps102
 go_wp2_with (first
  | (go_at_call 126; refine HU.out.mono ?_; rintro e w1 ⟨v1, rfl, ho1, hb1⟩; obtain ⟨p, c1, hv1, hp0, _⟩ := ho1.form h0; have hpl : p < w1.heap.size := own_top ho1 p (by rw [hv1]; rfl); have hub : Ub w1 p v1 is := ⟨rb_of_own ho1 HY.out HYl.out, fun _ => ⟨_, _, _, hv1⟩⟩; subst hv1)
  | (go_at_call_of 129 (Value.bool true); refine (gWant_ok _ _).mono ?_; rintro e w2 ⟨rfl, hw2⟩; rw [hw2]; clear hw2 w2)
  | (go_at_call 130; refine (HN.out _ p is _ hub hpl).mono ?_; rintro e w3 ⟨g, rfl, hu3, hg3, hb3⟩; have hR3 := rg_new (w := w) hM0 hB0 (Nat.le_refl _) hp0 hpl hb1 hu3 hg3 hb3)
  | (go_at_call 131; refine (HK.out _ _ _ hR3.un hR3.pl).mono ?_; rintro e w4 ⟨rfl, hu4, hk4⟩; have hR4 := hR3.step hu4 hk4; obtain ⟨c40, _⟩ := hR4.mb.cells; have f40 := hR4.mb.free 0; have hR5 := hR4.put (n := ⟨k, 0, 0, 0, []⟩) (t := .slice none 0 0) 0 (.int .u8 k) rfl)
  | (go_at_call 134; refine (HM.out _ _ hW12).mono ?_; rintro e w13 ⟨rfl, hb13⟩; have hR13 := hR12.step (hR12.un.below hR12.pl hb13) (kq_below hb13); have ho13 := own_below ho12 hb13; obtain ⟨e0, e1, e2, e3, e4⟩ := hR13.mb.cells; have g0 := hR13.mb.free 0; have g1 := hR13.mb.free 1; have g2 := hR13.mb.free 2; have g3 := hR13.mb.free 3; have g4 := hR13.mb.free 4)
  | (go_at_call 168; refine (HF.out _ _ _ hR11.un hR11.pl).mono ?_; rintro e w12 ⟨v12, rfl, hv12, hu12, hk12⟩; have hR12 := hR11.step hu12 hk12; have ho12 := rg_own2 ho11 hR9.un.lt hk12; have hW12 := HRw.out _ _ _ ho12; obtain ⟨d0, d1, d2, d3, d4⟩ := hR12.mb.cells; obtain ⟨a12, c12, hv12', _⟩ := hv12.1.spell; subst hv12')
  | (go_at_call 133; refine (HL.out _ _ _ hR9.un hR9.pl).mono ?_; rintro e w10 ⟨v10, rfl, ho10, hu10, hk10⟩; have hR10 := hR9.step hu10 hk10; obtain ⟨_, _, _, c103, c104⟩ := hR10.mb.cells; have f103 := hR10.mb.free 3; have f104 := hR10.mb.free 4; have hR11 := (hR10.put (n := ⟨k, r, v, f, []⟩) (t := .slice none 0 0) 3 (.int .u8 f) rfl).put (n := ⟨k, r, v, f, xs⟩) (t := v10) 4 v10 rfl; have ho11 := rg_own (rg_own ho10 hR9.mb.lt 3 (.int .u8 f)) hR9.mb.lt 4 v10; obtain ⟨a10, c10, hv10⟩ := own_form ho10; subst hv10)
  | (go_at_call 132; refine (HC2.out _ _ _ hR7.un hR7.pl).mono ?_; rintro e w8 ⟨rfl, hu8, hk8⟩; have hR8 := hR7.step hu8 hk8; obtain ⟨_, _, c82, _⟩ := hR8.mb.cells; have f82 := hR8.mb.free 2; have hR9 := hR8.put (n := ⟨k, r, v, 0, []⟩) (t := .slice none 0 0) 2 (.int .i64 v) rfl)
  | (go_at_call 132; refine (HC1.out _ _ _ hR5.un hR5.pl).mono ?_; rintro e w6 ⟨rfl, hu6, hk6⟩; have hR6 := hR5.step hu6 hk6; obtain ⟨_, c61, _⟩ := hR6.mb.cells; have f61 := hR6.mb.free 1; have hR7 := hR6.put (n := ⟨k, r, 0, 0, []⟩) (t := .slice none 0 0) 1 (.int .i64 r) rfl)
  | (go_at_call_of 129 (Value.bool false); refine (gWant_no _ _).mono ?_; rintro e w2 ⟨rfl, hw2⟩; rw [hw2]; clear hw2 w2))
 exact ⟨rfl, hR13.bel, rfl⟩
theorem gRead_i (u : Value) (bs : List Int) (w : World) (h : Rb w u bs) (is : List Int) (hu : usE sum8 bs = 0) (hn : 12 + usN bs = bs.length) (his : usL sum8 bs = is) (h0 : 0 < is.length) (h1 : rcE (is.drop 1) = 0) (h5 : rcE (is.drop 5) = 0) (h9 : rlE (is.drop 9) = 0) (hr : (is.drop 9).drop (5 + rlN (is.drop 9) * wF (rlF (is.drop 9))) = []) (hm : mgM (miM is) = true) (hk : miK is = true) : Calls Tryz.prog 102 #[u] w (RdOut bs w) := by
 obtain ⟨hM0, hB0⟩ := mz_box w
 have HU := hide (wUnseal u bs _ (h.below hB0))
 unfold GivesU at HU
 have hyb := h.by
 obtain ⟨ao, cap, rfl, _⟩ := h.spell
 clear h
 obtain ⟨he, hmm⟩ := mr_good hu hn (by rw [his]; exact hk)
 rw [his] at hmm
 rw [hu, (us_yes hu).2] at HU
 have HE : Hid (RdOut bs w = fun e w' => Below w.heap.size w w' ∧ ∃ s, e = .returned (mgv (miM is) s) ∧ w'.ownsRow w.heap.size 83 1 s (miM is).l.length (vals (miM is).l)) := by
  show _ = _
  funext e w'
  unfold RdOut
  rw [he, hmm]
  simp
 rw [HE.out]
 have hYo := usL_ok hyb
 rw [his] at HU hYo
 rw [hn] at HU
 have HY := hide hYo.1
 have HYl := hide (show is.length <= 140737488500000 by have := hYo.2; omega)
 have HN := hide gUnreadOf
 have HK := hide (fun p g W (hu : Un W p g is) (hp : p < W.heap.size) => gKind_yes p g is W hu hp h0)
 have HC1 := hide (fun p g W (hu : Un W p g (is.drop 1)) (hp : p < W.heap.size) => gCount_yes p g _ W hu hp h1)
 have D5 : Hid ((is.drop 1).drop 4 = is.drop 5) := by show _ = _; rw [List.drop_drop]
 rw [D5.out] at HC1
 have HC2 := hide (fun p g W (hu : Un W p g (is.drop 5)) (hp : p < W.heap.size) => gCount_yes p g _ W hu hp h5)
 have D9 : Hid ((is.drop 5).drop 4 = is.drop 9) := by show _ = _; rw [List.drop_drop]
 rw [D9.out] at HC2
 have HL := hide (fun p g W (hu : Un W p g (is.drop 9)) (hp : p < W.heap.size) => gList_yes p g _ W hu hp h9)
 have HF := hide (fun p g W (hu : Un W p g ((is.drop 9).drop (5 + rlN (is.drop 9) * wF (rlF (is.drop 9))))) (hp : p < W.heap.size) => gLeft 0 p g _ W hu hp (Nat.zero_le _))
 rw [List.drop_zero] at HF
 have HRw : Hid (∀ (W : World) base x, W.ownsRow base 83 1 x (rlX (is.drop 9)).length (vals (rlX (is.drop 9))) -> Mw W (miM is) x) := fun W base x ho => ⟨mi_wd hYo.1, mi_row hYo.1 h9 ho⟩
 have HM := hide (fun W x (hm : Mw W (miM is) x) => gMayM (miM is) x W hm)
 unfold unF at HK HN HC1 HC2 HL
 have HMe : Hid (miM is = ⟨is.getD 0 0, tk8 ((is.drop 1).take 4), tk8 ((is.drop 5).take 4), rlF (is.drop 9), rlX (is.drop 9)⟩) := rfl
 rw [hm] at HM
 rw [HMe.out] at HRw HM ⊢
 unfold mgv mgc at HM
 rw [hr] at HL HF
 clear he hmm hu hn HE hYo his hk h1 h5 h9 D5 D9 hr hm HMe
 generalize is.getD 0 0 = k at *
 generalize tk8 ((is.drop 1).take 4) = r at *
 generalize tk8 ((is.drop 5).take 4) = v at *
 generalize rlF (is.drop 9) = f at *
 generalize rlX (is.drop 9) = xs at *
 go_enter Tryz.func102, Tryz.ntmps102
 go_wp2_with (first
  | (go_at_call 126; refine HU.out.mono ?_; rintro e w1 ⟨v1, rfl, ho1, hb1⟩; obtain ⟨p, c1, hv1, hp0, _⟩ := ho1.form h0; have hpl : p < w1.heap.size := own_top ho1 p (by rw [hv1]; rfl); have hub : Ub w1 p v1 is := ⟨rb_of_own ho1 HY.out HYl.out, fun _ => ⟨_, _, _, hv1⟩⟩; subst hv1)
  | (go_at_call_of 129 (Value.bool true); refine (gWant_ok _ _).mono ?_; rintro e w2 ⟨rfl, hw2⟩; rw [hw2]; clear hw2 w2)
  | (go_at_call 130; refine (HN.out _ p is _ hub hpl).mono ?_; rintro e w3 ⟨g, rfl, hu3, hg3, hb3⟩; have hR3 := rg_new (w := w) hM0 hB0 (Nat.le_refl _) hp0 hpl hb1 hu3 hg3 hb3)
  | (go_at_call 131; refine (HK.out _ _ _ hR3.un hR3.pl).mono ?_; rintro e w4 ⟨rfl, hu4, hk4⟩; have hR4 := hR3.step hu4 hk4; obtain ⟨c40, _⟩ := hR4.mb.cells; have f40 := hR4.mb.free 0; have hR5 := hR4.put (n := ⟨k, 0, 0, 0, []⟩) (t := .slice none 0 0) 0 (.int .u8 k) rfl)
  | (go_at_call 134; refine (HM.out _ _ hW12).mono ?_; rintro e w13 ⟨rfl, hb13⟩; have hR13 := hR12.step (hR12.un.below hR12.pl hb13) (kq_below hb13); have ho13 := own_below ho12 hb13; obtain ⟨e0, e1, e2, e3, e4⟩ := hR13.mb.cells; have g0 := hR13.mb.free 0; have g1 := hR13.mb.free 1; have g2 := hR13.mb.free 2; have g3 := hR13.mb.free 3; have g4 := hR13.mb.free 4)
  | (go_at_call 168; refine (HF.out _ _ _ hR11.un hR11.pl).mono ?_; rintro e w12 ⟨v12, rfl, hv12, hu12, hk12⟩; have hR12 := hR11.step hu12 hk12; have ho12 := rg_own2 ho11 hR9.un.lt hk12; have hW12 := HRw.out _ _ _ ho12; obtain ⟨d0, d1, d2, d3, d4⟩ := hR12.mb.cells; obtain ⟨a12, c12, hv12', _⟩ := hv12.1.spell; subst hv12')
  | (go_at_call 133; refine (HL.out _ _ _ hR9.un hR9.pl).mono ?_; rintro e w10 ⟨v10, rfl, ho10, hu10, hk10⟩; have hR10 := hR9.step hu10 hk10; obtain ⟨_, _, _, c103, c104⟩ := hR10.mb.cells; have f103 := hR10.mb.free 3; have f104 := hR10.mb.free 4; have hR11 := (hR10.put (n := ⟨k, r, v, f, []⟩) (t := .slice none 0 0) 3 (.int .u8 f) rfl).put (n := ⟨k, r, v, f, xs⟩) (t := v10) 4 v10 rfl; have ho11 := rg_own (rg_own ho10 hR9.mb.lt 3 (.int .u8 f)) hR9.mb.lt 4 v10; obtain ⟨a10, c10, hv10⟩ := own_form ho10; subst hv10)
  | (go_at_call 132; refine (HC2.out _ _ _ hR7.un hR7.pl).mono ?_; rintro e w8 ⟨rfl, hu8, hk8⟩; have hR8 := hR7.step hu8 hk8; obtain ⟨_, _, c82, _⟩ := hR8.mb.cells; have f82 := hR8.mb.free 2; have hR9 := hR8.put (n := ⟨k, r, v, 0, []⟩) (t := .slice none 0 0) 2 (.int .i64 v) rfl)
  | (go_at_call 132; refine (HC1.out _ _ _ hR5.un hR5.pl).mono ?_; rintro e w6 ⟨rfl, hu6, hk6⟩; have hR6 := hR5.step hu6 hk6; obtain ⟨_, c61, _⟩ := hR6.mb.cells; have f61 := hR6.mb.free 1; have hR7 := hR6.put (n := ⟨k, r, 0, 0, []⟩) (t := .slice none 0 0) 1 (.int .i64 r) rfl))
 have hR14 := ((((hR13.put (n := ⟨k, r, v, f, xs⟩) (t := .slice a10 xs.length c10) 0 (.int .u8 k) rfl).put (n := ⟨k, r, v, f, xs⟩) (t := .slice a10 xs.length c10) 1 (.int .i64 r) rfl).put (n := ⟨k, r, v, f, xs⟩) (t := .slice a10 xs.length c10) 2 (.int .i64 v) rfl).put (n := ⟨k, r, v, f, xs⟩) (t := .slice a10 xs.length c10) 3 (.int .u8 f) rfl).put (n := ⟨k, r, v, f, xs⟩) (t := .slice a10 xs.length c10) 4 (.slice a10 xs.length c10) rfl
 have hq := hR9.mb.lt
 have ho14 := rg_own (rg_own (rg_own (rg_own (rg_own ho13 hq 0 (.int .u8 k)) hq 1 (.int .i64 r)) hq 2 (.int .i64 v)) hq 3 (.int .u8 f)) hq 4 (.slice a10 xs.length c10)
 refine bodyPost_ret (resCell1 rfl rfl (load_msg hR14.mb)) rfl ?_
 exact ⟨hR14.bel, _, rfl, own_mono ho14 hR9.bel.size⟩
theorem gRead20 (u : Value) (bs : List Int) (w : World) (h : Rb w u bs) : Calls Tryz.prog 102 #[u] w (RdOut bs w) := by
 by_cases hu : usE sum8 bs = 0
 · by_cases hn : 12 + usN bs = bs.length
   · have hYo := usL_ok h.by
     rcases mi_cases hYo.1 with ⟨h0, hk⟩ | ⟨h0, h1, hk⟩ | ⟨h0, h1, h5, hk⟩ | ⟨h0, h1, h5, h9, hk⟩ | ⟨h0, h1, h5, h9, hr, hk⟩ | ⟨h0, h1, h5, h9, hr, hk⟩
     · exact gRead_c u bs w h _ hu hn rfl h0 hk
     · exact gRead_d u bs w h _ hu hn rfl h0 h1 hk
     · exact gRead_e u bs w h _ hu hn rfl h0 h1 h5 hk
     · exact gRead_f u bs w h _ hu hn rfl h0 h1 h5 h9 hk
     · exact gRead_g u bs w h _ hu hn rfl h0 h1 h5 h9 hr hk
     · cases hm : mgM (miM (usL sum8 bs)) with
       | false => exact gRead_h u bs w h _ hu hn rfl h0 h1 h5 h9 hr hm (by rw [hk, hm])
       | true => exact gRead_i u bs w h _ hu hn rfl h0 h1 h5 h9 hr hm (by rw [hk, hm])
   · exact gRead_b u bs w h hu hn
 · exact gRead_a u bs w h hu
structure Rm (w : World) (b : Nat) (m : Mg) (s : Value) (er : Int) : Prop where
 p : Mb w b m s
 e : w.heap[b + 1]? = some (.cells #[.int .i64 er] 40 (0, 0))
theorem Rm.below {w w' : World} {b : Nat} {m : Mg} {s : Value} {er : Int} (h : Rm w b m s er) (hb : Below w.heap.size w w') : Rm w' b m s er :=
 ⟨h.p.below hb, (hb.block _ (Array.getElem?_eq_some_iff.1 h.e).1).trans h.e⟩
theorem rm_new (w : World) : Rm ((w.alloc (.cells #[.int .u8 0, .int .i64 0, .int .i64 0, .int .u8 0, .slice none 0 0] 74)).alloc (.cells #[.int .i64 0] 40)) w.heap.size mg0 (.slice none 0 0) 0 ∧ Below w.heap.size w ((w.alloc (.cells #[.int .u8 0, .int .i64 0, .int .i64 0, .int .u8 0, .slice none 0 0] 74)).alloc (.cells #[.int .i64 0] 40)) := by
 obtain ⟨n1, b1⟩ := mz_box w
 have z1 : (w.alloc (.cells #[.int .u8 0, .int .i64 0, .int .i64 0, .int .u8 0, .slice none 0 0] 74)).heap.size = w.heap.size + 1 := by simp
 generalize w.alloc (.cells #[.int .u8 0, .int .i64 0, .int .i64 0, .int .u8 0, .slice none 0 0] 74) = w1 at *
 have b2 := alloc_below w1 (.cells #[.int .i64 0] 40)
 have n2 := heap_alloc_new w1 (.cells #[.int .i64 0] 40)
 rw [z1] at n2
 exact ⟨⟨n1.below b2, n2⟩, Below.next b1 b2⟩
def set6 (w : World) (b : Nat) (k r v f : Int) (s : Value) (er : Int) : World := (((((w.setCell ⟨b, 0, none⟩ (.int .u8 k)).setCell ⟨b, 1, none⟩ (.int .i64 r)).setCell ⟨b, 2, none⟩ (.int .i64 v)).setCell ⟨b, 3, none⟩ (.int .u8 f)).setCell ⟨b, 4, none⟩ s).setCell ⟨b + 1, 0, none⟩ (.int .i64 er)
theorem rm_set {w : World} {b : Nat} {m : Mg} {s : Value} {er0 : Int} (h : Rm w b m s er0) (n : Mg) (t : Value) (er : Int) : Rm (set6 w b n.k n.r n.v n.f t er) b n t er ∧ Below b w (set6 w b n.k n.r n.v n.f t er) ∧ ∀ {base l : Nat} {T : TypeId} {v : Value} {xs : List Value}, w.ownsRow base T 1 v l xs -> b + 1 < base -> (set6 w b n.k n.r n.v n.f t er).ownsRow base T 1 v l xs := by
 unfold set6
 refine ⟨⟨?_, ?_⟩, ?_, ?_⟩
 · have h5 := ((((h.p.set (n := { m with k := n.k }) (t := s) 0 (.int .u8 n.k) rfl).set (n := { m with k := n.k, r := n.r }) (t := s) 1 (.int .i64 n.r) rfl).set (n := { m with k := n.k, r := n.r, v := n.v }) (t := s) 2 (.int .i64 n.v) rfl).set (n := { m with k := n.k, r := n.r, v := n.v, f := n.f }) (t := s) 3 (.int .u8 n.f) rfl).set (n := n) (t := t) 4 t rfl
   exact (Below.heap_setCell _ _ _ _ (show b ≠ b + 1 by omega)).trans h5
 · have hne : b + 1 ≠ b := by omega
   have h5 := (Below.heap_setCell ((((w.setCell ⟨b, 0, none⟩ (.int .u8 n.k)).setCell ⟨b, 1, none⟩ (.int .i64 n.r)).setCell ⟨b, 2, none⟩ (.int .i64 n.v)).setCell ⟨b, 3, none⟩ (.int .u8 n.f)) ⟨b, 4, none⟩ t (b + 1) hne).trans ((Below.heap_setCell _ _ _ _ hne).trans ((Below.heap_setCell _ _ _ _ hne).trans ((Below.heap_setCell _ _ _ _ hne).trans ((Below.heap_setCell _ _ _ _ hne).trans h.e))))
   exact set_blk h5 0 (.int .i64 er)
 · exact (((((((Below.refl b w).setCell (p := ⟨b, 0, none⟩) (Nat.le_refl _) _).setCell (p := ⟨b, 1, none⟩) (Nat.le_refl _) _).setCell (p := ⟨b, 2, none⟩) (Nat.le_refl _) _).setCell (p := ⟨b, 3, none⟩) (Nat.le_refl _) _).setCell (p := ⟨b, 4, none⟩) (Nat.le_refl _) _).setCell (p := ⟨b + 1, 0, none⟩) (show b <= b + 1 by omega) _)
 · intro base l T v xs ho hb
   have h0 : b < base := by omega
   exact rg_own (rg_own (rg_own (rg_own (rg_own (rg_own ho h0 0 _) h0 1 _) h0 2 _) h0 3 _) h0 4 _) hb 0 _
theorem rm_zero {w : World} {b : Nat} {m : Mg} {s : Value} {er0 : Int} (h : Rm w b m s er0) (er : Int) :
 Rm (set6 w b 0 0 0 0 (.slice none 0 0) er).drew b mg0 (.slice none 0 0) er ∧ Below b w (set6 w b 0 0 0 0 (.slice none 0 0) er).drew := by
 obtain ⟨hR, hB, _⟩ := rm_set h mg0 (.slice none 0 0) er
 have e : set6 w b mg0.k mg0.r mg0.v mg0.f (.slice none 0 0) er = set6 w b 0 0 0 0 (.slice none 0 0) er := rfl
 rw [e] at hR hB
 generalize set6 w b 0 0 0 0 (.slice none 0 0) er = X at *
 exact ⟨⟨hR.p, hR.e⟩, hB.drew⟩
theorem as_nomsg (v : Value) (w : World) : (Instr.typeAssert (.iface 165 v) 20 165 true).run Tryz.prog w = .ok (.tuple #[v, .bool true]) w := by kernel_rfl
theorem mCatch (n : Int) (b : Nat) (m : Mg) (s : Value) (er : Int) (w : World) (h : Rm w b m s er) :
 CallsD Tryz.prog 101 #[.pointer (some ⟨b, 0, none⟩), .pointer (some ⟨b + 1, 0, none⟩)] (.panicking (pan20 n)) w fun e u' w' =>
  e = .returned (.tuple #[]) ∧ u' = .panicking [{ v := nomsg n, recovered := true }] ∧ Rm w' b mg0 (.slice none 0 0) n ∧ Below b w w' := by
 have hz := (Array.getElem?_eq_some_iff.1 h.e).1
 unfold pan20
 refine callsD_of_wpS Tryz.func101 rfl fun c₀ cs hu => ?_
 apply wpS_seq
 apply wpS_region
 simp [wpOpsS, go_sem, recoverD, hu, Tryz.ntmps101, Exit.thenS]
 refine wpS_of_wp ?_
 unfold nomsg
 simp only [List.size_toArray, List.length_cons, List.length_nil, Nat.reduceAdd, Nat.reduceSub, Array.replicate_succ, Array.replicate_zero, List.push_toArray, List.append_toArray, List.nil_append, List.cons_append, List.setIfInBounds_toArray, List.set_cons_zero, List.set_cons_succ]
 have ha := as_nomsg
 have hal := alloc_below w (.cells #[.int .i64 0] 165)
 go_wp2
 clear ha hal
 have hA := alloc_below w (.cells #[.int .i64 n] 165)
 have h1 := h.below hA
 have h4 := heap_alloc_new w (.cells #[.int .i64 n] 165)
 have HB := hide (hA.mono (show b <= w.heap.size by omega))
 clear hA h
 generalize w.alloc (.cells #[.int .i64 n] 165) = W at *
 obtain ⟨c0, c1, c2, c3, c4⟩ := h1.p.cells
 have ce : W.cell? ⟨b + 1, 0, none⟩ = some (.int .i64 er) := by rw [Lib.cell_of_heap h1.e]; rfl
 have cq : W.cell? ⟨w.heap.size, 0, none⟩ = some (.int .i64 n) := by rw [Lib.cell_of_heap h4]; rfl
 have f0 := h1.p.free
 have f1 := fun k => Lib.frozen_of_heap h1.e k
 have n1 : ¬ w.heap.size = b := by omega
 have n2 : ¬ w.heap.size = b + 1 := by omega
 have n3 : ¬ b = w.heap.size := by omega
 have n4 : ¬ b + 1 = w.heap.size := by omega
 have HK := hide h1
 clear h1 h4 hz
 generalize w.heap.size = q at *
 go_region
 obtain ⟨hR, hB2⟩ := rm_zero HK.out n
 clear HK c0 c1 c2 c3 c4 ce cq f0 f1 n1 n2 n3 n4
 have hB3 := HB.out.trans hB2
 clear hB2 HB
 change Exit.inBlock 0 _ _ _ (set6 W b 0 0 0 0 (.slice none 0 0) n).drew
 generalize (set6 W b 0 0 0 0 (.slice none 0 0) n).drew = W3 at *
 exact ⟨rfl, _, rfl, _, results_none rfl _ _ _, rfl, rfl, hR, hB3⟩
theorem mIdle (b : Nat) (w : World) :
 CallsD Tryz.prog 101 #[.pointer (some ⟨b, 0, none⟩), .pointer (some ⟨b + 1, 0, none⟩)] .returning w fun e u' w' =>
  e = .returned (.tuple #[]) ∧ u' = .returning ∧ w' = w := by
 refine callsD_of_wpS Tryz.func101 rfl fun c₀ cs hu => ?_
 apply wpS_seq
 apply wpS_region
 simp [wpOpsS, go_sem, recoverD, hu, Tryz.ntmps101, Exit.thenS]
 refine wpS_of_wp ?_
 simp only [List.size_toArray, List.length_cons, List.length_nil, Nat.reduceAdd, Nat.reduceSub, Array.replicate_succ, Array.replicate_zero, List.push_toArray, List.append_toArray, List.nil_append, List.cons_append, List.setIfInBounds_toArray, List.set_cons_zero, List.set_cons_succ]
 go_wp2
 exact ⟨rfl, .returning, by cases c₀; simp_all, _, results_none rfl _ _ _, rfl, rfl, rfl⟩
theorem res_cell2 {P : Program} {fn : Func} {tmps : Array Value} {w : World} {a b : Nat} {t u : TypeId} {ad bd : Addr} {v1 v2 : Value} (hr : fn.results = #[.cell a t, .cell b u]) (ha : tmps.getD a undef = .pointer (some ad)) (hb : tmps.getD b undef = .pointer (some bd)) (h1 : (loadVar t ad).run P w = .ok v1 w) (h2 : (loadVar u bd).run P w = .ok v2 w) :
 (results fn tmps).run P w = .ok (.tuple #[v1, v2]) w := by
 have ha2 : tmps[a]?.getD undef = .pointer (some ad) := by rw [<- ha]; simp
 have hb2 : tmps[b]?.getD undef = .pointer (some bd) := by rw [<- hb]; simp
 simp [results, hr, ha2, hb2, asAddr, h1, h2]
theorem load_errno20 {w : World} {b : Nat} {k : Value} {T : TypeId} {fz : Nat × Nat} (h : w.heap[b]? = some (.cells #[k] T fz)) : (loadVar 40 ⟨b, 0, none⟩).run Tryz.prog w = .ok k w := by
 have e0 : w.cell? ⟨b, 0, none⟩ = some k := by rw [Lib.cell_of_heap h]; rfl
 simp [go_sem, e0]
def GivesMsg (N : Nat) (args : Array Value) (w : World) (m : Mg) (er : Int) : Prop :=
 Calls Tryz.prog N args w fun e w' => ∃ s, e = .returned (.tuple #[mgv m s, .int .i64 er]) ∧ w'.ownsRow w.heap.size 83 1 s m.l.length (vals m.l) ∧ Below w.heap.size w w'
theorem mrM_no {S : List Int -> Int} {bs : List Int} (h : mrE S bs ≠ 0) : mrM S bs = mg0 := by unfold mrM; rw [if_neg h]
theorem gReadM (v : Value) (bs : List Int) (w : World) (h : Rb w v bs) : GivesMsg 77 #[v] w (mrM sum8 bs) (mrE sum8 bs) := by
 unfold GivesMsg
 have HR := hide (fun W (hb : Below w.heap.size w W) => gRead20 v bs W (h.below hb))
 have hmf : ∀ (fn : Fn) (first cap : Array Value) (w : World), (Instr.makeFunc fn first cap).run Tryz.prog w = .ok (.func fn first cap) w := fun _ _ _ _ => rfl
 have hno := @mrM_no sum8 bs
 unfold RdOut at HR
 generalize mrM sum8 bs = m at *
 generalize mrE sum8 bs = er at *
 obtain ⟨ao, cap, rfl, _⟩ := h.spell
 clear h
 go_enter_defers Tryz.func77, Tryz.ntmps77
 go_wp2_with fail
 obtain ⟨hR, hB⟩ := rm_new w
 generalize (w.alloc (.cells #[.int .u8 0, .int .i64 0, .int .i64 0, .int .u8 0, .slice none 0 0] 74)).alloc (.cells #[.int .i64 0] 40) = W at *
 refine (HR.out W hB).mono ?_
 clear HR
 rintro e w' ⟨hb, ⟨he, s, rfl, ho⟩ | ⟨he, rfl⟩⟩
 · have hR' := hR.below hb
   have hz := (Array.getElem?_eq_some_iff.1 hR.e).1
   have hB' := Below.next hB hb
   subst he
   clear hno
   obtain ⟨a2, k2, rfl⟩ := own_form ho
   obtain ⟨c0, c1, c2, c3, c4⟩ := hR'.p.cells
   have ce : w'.cell? ⟨w.heap.size + 1, 0, none⟩ = some (.int .i64 0) := by rw [Lib.cell_of_heap hR'.e]; rfl
   have f0 := hR'.p.free
   have f1 := fun k => Lib.frozen_of_heap hR'.e k
   have HRs := hide hR'
   have HO := hide ho
   clear hR' hR ho hb hB
   unfold mgv mgc
   go_wp2
   obtain ⟨hR5, hB5, hO5⟩ := rm_set HRs.out m (.slice a2 m.l.length k2) 0
   have ho5 := hO5 HO.out hz
   change bodyPostD _ _ _ _ _ (set6 w' w.heap.size m.k m.r m.v m.f (.slice a2 m.l.length k2) 0)
   generalize set6 w' w.heap.size m.k m.r m.v m.f (.slice a2 m.l.length k2) 0 = W5 at *
   refine leaves_cons (f := 101) (args := #[.pointer (some ⟨w.heap.size, 0, none⟩), .pointer (some ⟨w.heap.size + 1, 0, none⟩)]) (by simp) (by simp [go_sem]) ?_
   refine (mIdle w.heap.size W5).mono ?_
   rintro e u' w'' ⟨rfl, rfl, rfl⟩
   refine ⟨_, res_cell2 rfl rfl rfl (load_msg hR5.p) (load_errno20 hR5.e), _, rfl, own_mono ho5 (by omega), hB'.trans hB5⟩
 · obtain rfl := hno he
   refine leaves_cons (f := 101) (args := #[.pointer (some ⟨w.heap.size, 0, none⟩), .pointer (some ⟨w.heap.size + 1, 0, none⟩)]) (by simp) (by simp [go_sem]) ?_
   refine (mCatch _ w.heap.size _ _ _ w' (hR.below hb)).mono ?_
   rintro e u' w'' ⟨rfl, rfl, hR2, hB2⟩
   refine ⟨_, res_cell2 rfl rfl rfl (load_msg hR2.p) (load_errno20 hR2.e), _, rfl, World.ownsRow_nil _ _ _ _, (Below.next hB hb).trans hB2⟩
end Go.Proofs.YtipobchbnjgenaaGreat
