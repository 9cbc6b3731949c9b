import Derived.Test.YtipobchbnjgenaaGreatBByG
import Derived.Test.YtipobchbnjgenaaGreatBWirG
set_option linter.unusedVariables false
set_option linter.unusedSimpArgs false
set_option maxRecDepth 100000
set_option maxHeartbeats 4000000
namespace Go.Proofs.YtipobchbnjgenaaGreat
open Go.RowKit Fld
theorem mg_no {m : Mg} (h : ¬ ((m.k = 1 ∨ m.k = 2) ∧ 0 <= m.r ∧ m.r < 65536 ∧ 0 <= m.v ∧ m.v < 64 ∧ inW m.f m.l = true ∧ m.l.length <= 64)) : mgM m = false ∧ mwI m = [] := by
 have e : mgM m = false := decide_eq_false h
 exact ⟨e, by unfold mwI; rw [if_neg (by rw [e]; decide)]⟩
theorem mg_cases (m : Mg) :
 (m.k ≠ 1 ∧ m.k ≠ 2 ∧ mgM m = false ∧ mwI m = []) ∨
 ((m.k = 1 ∨ m.k = 2) ∧ ¬ (0 <= m.r ∧ m.r < 65536) ∧ mgM m = false ∧ mwI m = []) ∨
 ((m.k = 1 ∨ m.k = 2) ∧ (0 <= m.r ∧ m.r < 65536) ∧ ¬ (0 <= m.v ∧ m.v < 64) ∧ mgM m = false ∧ mwI m = []) ∨
 ((m.k = 1 ∨ m.k = 2) ∧ (0 <= m.r ∧ m.r < 65536) ∧ (0 <= m.v ∧ m.v < 64) ∧ 64 < m.l.length ∧ mgM m = false ∧ mwI m = []) ∨
 ((m.k = 1 ∨ m.k = 2) ∧ (0 <= m.r ∧ m.r < 65536) ∧ (0 <= m.v ∧ m.v < 64) ∧ m.l.length <= 64 ∧ inW m.f m.l = false ∧ mgM m = false ∧ mwI m = []) ∨
 ((m.k = 1 ∨ m.k = 2) ∧ (0 <= m.r ∧ m.r < 65536) ∧ (0 <= m.v ∧ m.v < 64) ∧ m.l.length <= 64 ∧ inW m.f m.l = true ∧ mgM m = true ∧ mwI m = mgI m) := by
 by_cases h1 : m.k = 1 ∨ m.k = 2
 · by_cases h2 : 0 <= m.r ∧ m.r < 65536
   · by_cases h3 : 0 <= m.v ∧ m.v < 64
     · by_cases h4 : m.l.length <= 64
       · cases h5 : inW m.f m.l with
         | true =>
          have e : mgM m = true := decide_eq_true ⟨h1, h2.1, h2.2, h3.1, h3.2, h5, h4⟩
          exact .inr (.inr (.inr (.inr (.inr ⟨h1, h2, h3, h4, rfl, e, by unfold mwI; rw [if_pos e]⟩))))
         | false => exact .inr (.inr (.inr (.inr (.inl ⟨h1, h2, h3, h4, rfl, mg_no (fun h => by rw [h5] at h; exact absurd h.2.2.2.2.2.1 (by decide))⟩))))
       · exact .inr (.inr (.inr (.inl ⟨h1, h2, h3, by omega, mg_no (fun h => h4 h.2.2.2.2.2.2)⟩)))
     · exact .inr (.inr (.inl ⟨h1, h2, h3, mg_no (fun h => h3 ⟨h.2.2.2.1, h.2.2.2.2.1⟩)⟩))
   · exact .inr (.inl ⟨h1, h2, mg_no (fun h => h2 ⟨h.2.1, h.2.2.1⟩)⟩)
 · exact .inl ⟨by omega, by omega, mg_no (fun h => h1 h.1)⟩
theorem ct_in {n : Int} (h : 0 <= n ∧ n <= 2147483647) : ctE n = 0 ∧ ctL n = wd8 n 4 := by
 rcases ctE_or n with ⟨_, _, a, b⟩ | ⟨a, _⟩
 · exact ⟨a, b⟩
 · exact absurd h a
theorem one_rb (w : World) (k : Int) (T : TypeId) (h : By [k]) : Rb (w.alloc (.cells #[.int .u8 k] T)) (.slice (some ⟨w.heap.size, 0, none⟩) 1 1) [k] :=
 ⟨_, 1, rfl, ⟨by simp, by simp, fun h => by cases h⟩, h, fun _ => ⟨w.heap.size, 0, rfl, by simp, fun i hi => by
  have : i = 0 := by simpa using hi
  subst this
  simp [go_sem]⟩⟩
theorem four_lists (w : World) (k : Int) (T U : TypeId) (s1 s2 s3 s4 : Value) (h : By [k]) :
 Bt ((w.alloc (.cells #[.int .u8 k] T)).alloc (.cells #[s1, s2, s3, s4] U)) ⟨w.heap.size, 0, none⟩ 1 1 [k] ∧ Below w.heap.size w ((w.alloc (.cells #[.int .u8 k] T)).alloc (.cells #[s1, s2, s3, s4] U)) ∧
 ((w.alloc (.cells #[.int .u8 k] T)).alloc (.cells #[s1, s2, s3, s4] U)).cell? ⟨w.heap.size + 1, 0, none⟩ = some s1 ∧ ((w.alloc (.cells #[.int .u8 k] T)).alloc (.cells #[s1, s2, s3, s4] U)).cell? ⟨w.heap.size + 1, 1, none⟩ = some s2 ∧
 ((w.alloc (.cells #[.int .u8 k] T)).alloc (.cells #[s1, s2, s3, s4] U)).cell? ⟨w.heap.size + 1, 2, none⟩ = some s3 ∧ ((w.alloc (.cells #[.int .u8 k] T)).alloc (.cells #[s1, s2, s3, s4] U)).cell? ⟨w.heap.size + 1, 3, none⟩ = some s4 := by
 refine ⟨⟨(one_rb w k T h).below (alloc_below _ _), rfl⟩, Below.next (alloc_below _ _) (alloc_below _ _), ?_, ?_, ?_, ?_⟩ <;> simp [go_sem]
theorem gInner20 (m : Mg) (s : Value) (w : World) (h : Mw w m s) :
 Calls Tryz.prog 109 #[mgv m s] w fun e w' => ∃ v', e = .returned (.tuple #[v', .bool (mgM m)]) ∧ w'.ownsRow w.heap.size 5 1 v' (mwI m).length (valb (mwI m)) ∧ Below w.heap.size w w' := by
 obtain ⟨⟨wk, wr, wv, wf⟩, hrow⟩ := h
 have hcase := mg_cases m
 have HL := hide (fun W (hb : Below w.heap.size w W) => wList m.f s m.l W wf (hrow.below hb))
 have HR := hide (fun W => wCount m.r W wr)
 have HV := hide (fun W => wCount m.v W wv)
 have hBx := (mb_box (w := w) m s).2
 have HC := hide (fun W (hb : Below (w.alloc (.cells #[.int .u8 m.k, .int .i64 m.r, .int .i64 m.v, .int .u8 m.f, s] 74)).heap.size (w.alloc (.cells #[.int .u8 m.k, .int .i64 m.r, .int .i64 m.v, .int .u8 m.f, s] 74)) W) => ((mb_box (w := w) m s).1.below hb).cells)
 unfold GivesB at HL HR HV
 have HB1 := hide (fun W => gBelow m.r 65536 W)
 have HB2 := hide (fun W => gBelow m.v 64 W)
 have hIl : mgM m = true -> (mgI m).length = 9 + (5 + m.l.length * wF m.f) ∧ (mgI m).length <= 526 := fun hm => by
  refine ⟨?_, (mgI_len hm).2⟩
  unfold mgI
  rw [List.length_cons, List.length_append, List.length_append, wd8_len, wd8_len, lsF_len]; omega
 obtain ⟨ao, cap, rfl, _⟩ := hrow
 unfold mgv mgc
 generalize hM : mgM m = M at *
 generalize hI : mwI m = is at *
 rcases hcase with ⟨h1, h2, rfl, rfl⟩ | ⟨h1, h2, rfl, rfl⟩ | ⟨h1, h2, h3, rfl, rfl⟩ | ⟨h1, h2, h3, h4, rfl, rfl⟩ | ⟨h1, h2, h3, h4, h5, rfl, rfl⟩ | ⟨h1, h2, h3, h4, h5, rfl, rfl⟩
 · clear HL HR HV HB1 HB2 hIl hM hI HC
   generalize m.l.length = n at *
   generalize m.k = k at *
   generalize m.r = r at *
   generalize m.v = v at *
   generalize m.f = f at *
   go_enter Tryz.func109, Tryz.ntmps109
   go_wp2
   go_ret2
   exact ⟨_, rfl, World.ownsRow_nil _ _ _ _, hBx⟩
 · rw [decide_eq_false h2] at HB1
   clear HL HR HV HB2 hIl hM hI HC h2
   generalize m.l.length = n at *
   generalize m.k = k at *
   generalize m.r = r at *
   generalize m.v = v at *
   generalize m.f = f at *
   rcases h1 with rfl | rfl
   all_goals
    go_enter Tryz.func109, Tryz.ntmps109
    go_wp2_with (go_at_call 142; refine (HB1.out _).mono ?_; rintro e w1 ⟨rfl, hw1⟩; rw [hw1]; clear hw1 w1)
    go_ret2
    exact ⟨_, rfl, World.ownsRow_nil _ _ _ _, hBx⟩
 · rw [decide_eq_true h2] at HB1
   rw [decide_eq_false h3] at HB2
   clear HL HR HV hIl hM hI HC h2 h3
   generalize m.l.length = n at *
   generalize m.k = k at *
   generalize m.r = r at *
   generalize m.v = v at *
   generalize m.f = f at *
   rcases h1 with rfl | rfl
   all_goals
    go_enter Tryz.func109, Tryz.ntmps109
    go_wp2_with (first
     | (go_at_call_of 142 (Value.int .i64 r); refine (HB1.out _).mono ?_; rintro e w1 ⟨rfl, hw1⟩; rw [hw1]; clear hw1 w1)
     | (go_at_call_of 142 (Value.int .i64 v); refine (HB2.out _).mono ?_; rintro e w1 ⟨rfl, hw1⟩; rw [hw1]; clear hw1 w1))
    go_ret2
    exact ⟨_, rfl, World.ownsRow_nil _ _ _ _, hBx⟩
 · rw [decide_eq_true h2] at HB1
   rw [decide_eq_true h3] at HB2
   have h5 : (64 : Int) < (m.l.length : Int) := by omega
   clear HL HR HV hIl hM hI HC h2 h3 h4
   generalize m.l.length = n at *
   generalize m.k = k at *
   generalize m.r = r at *
   generalize m.v = v at *
   generalize m.f = f at *
   rcases h1 with rfl | rfl
   all_goals
    go_enter Tryz.func109, Tryz.ntmps109
    go_wp2_with (first
     | (go_at_call_of 142 (Value.int .i64 r); refine (HB1.out _).mono ?_; rintro e w1 ⟨rfl, hw1⟩; rw [hw1]; clear hw1 w1)
     | (go_at_call_of 142 (Value.int .i64 v); refine (HB2.out _).mono ?_; rintro e w1 ⟨rfl, hw1⟩; rw [hw1]; clear hw1 w1))
    go_ret2
    exact ⟨_, rfl, World.ownsRow_nil _ _ _ _, hBx⟩
 · rw [decide_eq_true h2] at HB1
   rw [decide_eq_true h3] at HB2
   have h6 : (m.l.length : Int) <= 64 := by omega
   rw [(lsE_no h5).1, (lsE_no h5).2] at HL
   clear HR HV hIl hM hI HC h2 h3 h4 h5
   generalize m.l.length = n at *
   generalize m.k = k at *
   generalize m.r = r at *
   generalize m.v = v at *
   generalize m.f = f at *
   rcases h1 with rfl | rfl
   all_goals
    go_enter Tryz.func109, Tryz.ntmps109
    go_wp2_with (first
     | (go_at_call_of 142 (Value.int .i64 r); refine (HB1.out _).mono ?_; rintro e w1 ⟨rfl, hw1⟩; rw [hw1]; clear hw1 w1)
     | (go_at_call_of 142 (Value.int .i64 v); refine (HB2.out _).mono ?_; rintro e w1 ⟨rfl, hw1⟩; rw [hw1]; clear hw1 w1)
     | (go_at_call 143; refine (HL.out _ hBx).mono ?_; rintro e w2 ⟨v2, rfl, ho2, hb2⟩; have hB2 := Below.next hBx hb2))
    go_ret2
    exact ⟨_, rfl, World.ownsRow_nil _ _ _ _, hB2⟩
 · rw [decide_eq_true h2] at HB1
   rw [decide_eq_true h3] at HB2
   have h6 : (m.l.length : Int) <= 64 := by omega
   obtain ⟨g1, g2⟩ := lsE_yes h5 (by omega)
   obtain ⟨l1, l2⟩ := hIl rfl
   rw [g1, g2, lsF_len] at HL
   have er : ctE m.r = 0 ∧ ctL m.r = wd8 m.r 4 := ct_in (by omega)
   have ev : ctE m.v = 0 ∧ ctL m.v = wd8 m.v 4 := ct_in (by omega)
   rw [er.1, er.2, wd8_len] at HR
   rw [ev.1, ev.2, wd8_len] at HV
   have HI : Hid (mgI m = [m.k] ++ wd8 m.r 4 ++ wd8 m.v 4 ++ lsF m.f m.l) := by show _ = _; unfold mgI; simp
   have y1 := hide (wd8_by m.r 4)
   have y2 := hide (wd8_by m.v 4)
   have y3 := hide (lsF_by (inW_field h5) m.l)
   have y4 : Hid (By [m.k]) := By.cons (by omega) (by omega) By.nil
   have z3 := hide (lsF_len m.f m.l)
   have z1 := hide (wd8_len m.r 4)
   have z2 := hide (wd8_len m.v 4)
   rw [l1, HI.out]
   have l3 : 9 + (5 + m.l.length * wF m.f) <= 526 := by omega
   have hN0 : 0 < 5 + m.l.length * wF m.f := by omega
   generalize 5 + m.l.length * wF m.f = N at *
   clear hM hI h2 h3 h4 h5 er ev g1 g2 HI l1 l2 hIl
   generalize lsF m.f m.l = L3 at *
   generalize wd8 m.r 4 = L1 at *
   generalize wd8 m.v 4 = L2 at *
   generalize m.l.length = n at *
   generalize m.k = k at *
   generalize m.r = r at *
   generalize m.v = v at *
   generalize m.f = f at *
   rcases h1 with rfl | rfl
   all_goals
    go_enter Tryz.func109, Tryz.ntmps109
    go_wp2_with (first
     | (go_at_call_of 142 (Value.int .i64 r); refine (HB1.out _).mono ?_; rintro e w1 ⟨rfl, hw1⟩; rw [hw1]; clear hw1 w1)
     | (go_at_call_of 142 (Value.int .i64 v); refine (HB2.out _).mono ?_; rintro e w1 ⟨rfl, hw1⟩; rw [hw1]; clear hw1 w1)
     | (go_at_call 143; refine (HL.out _ hBx).mono ?_; rintro e w2 ⟨v2, rfl, ho2, hb2⟩; have hB2 := Below.next hBx hb2; obtain ⟨_, c21, c22, _⟩ := HC.out _ hb2; obtain ⟨g2, k2, hv2, hg2, ht2⟩ := bt_of_own ho2 y3.out (by rw [z3.out]; omega) hN0; subst hv2)
     | (go_at_call_of 144 (Value.int .i64 r); refine (HR.out _).mono ?_; rintro e w3 ⟨v3, rfl, ho3, hb3⟩; have hb3' := Below.next hb2 hb3; have hB3 := Below.next hB2 hb3; obtain ⟨_, _, c32, _⟩ := HC.out _ hb3'; obtain ⟨g3, k3, hv3, hg3, ht3⟩ := bt_of_own ho3 y1.out (by rw [z1.out]; decide) (by decide); subst hv3)
     | (go_at_call_of 144 (Value.int .i64 v); refine (HV.out _).mono ?_; rintro e w4 ⟨v4, rfl, ho4, hb4⟩; have hb4' := Below.next hb3' hb4; have hB4 := Below.next hB3 hb4; obtain ⟨c40, _⟩ := HC.out _ hb4'; obtain ⟨g4, k4, hv4, hg4, ht4⟩ := bt_of_own ho4 y2.out (by rw [z2.out]; decide) (by decide); subst hv4; have ht3 := ht3.below hb4; have ht2 := (ht2.below hb3).below hb4)
     | (go_at_call 125; have F := four_lists w4 _ 5 30 (.slice (some ⟨w4.heap.size, 0, none⟩) 1 1) (.slice (some ⟨g3, 0, none⟩) 4 k3) (.slice (some ⟨g4, 0, none⟩) 4 k4) (.slice (some ⟨g2, 0, none⟩) N k2) y4.out; refine (Cat_B _ _ _ _ 1 4 4 N 1 k3 k4 k2 _ L1 L2 L3 _ (w4.heap.size + 1) F.1 (ht3.below F.2.1) (ht4.below F.2.1) (ht2.below F.2.1) (by decide) (by omega) F.2.2.1 F.2.2.2.1 F.2.2.2.2.1 F.2.2.2.2.2).mono ?_; rintro e w5 ⟨v5, rfl, ho5, hb5⟩; have hB5 := hB4.trans ((F.2.1.mono hB4.size).trans (hb5.mono (Nat.le_trans hB4.size F.2.1.size))); have ho5 := own_mono ho5 (Nat.le_trans hB4.size F.2.1.size)))
    go_ret2
    exact ⟨_, rfl, by rw [show 9 + N = 1 + 4 + 4 + N by omega]; exact ho5, hB5⟩
end Go.Proofs.YtipobchbnjgenaaGreat
