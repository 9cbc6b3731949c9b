import Derived.Test.YthialdipnhggnaaBWirF
set_option linter.unusedVariables false
set_option linter.unusedSimpArgs false
set_option maxRecDepth 100000
set_option maxHeartbeats 4000000
namespace Go.Proofs.Ythialdipnhggnaa
open Go.RowKit Fld
def usSo (S : List Int -> Int) (bs : List Int) : Nat := if usE S bs = 0 then 12 + usN bs else 0
theorem us_no {S : List Int -> Int} {bs : List Int} {e : Int} (h : usE S bs = e) (he : e ≠ 0) : usL S bs = [] ∧ usSo S bs = 0 := by
 have : usE S bs ≠ 0 := by rw [h]; exact he
 exact ⟨by unfold usL; rw [if_neg this], by unfold usSo; rw [if_neg this]⟩
theorem us_yes {S : List Int -> Int} {bs : List Int} (h : usE S bs = 0) : usL S bs = (bs.drop 4).take (usN bs) ∧ usSo S bs = 12 + usN bs :=
 ⟨by unfold usL; rw [if_pos h], by unfold usSo; rw [if_pos h]⟩
theorem us_cases (S : List Int -> Int) (bs : List Int) : (rcE bs ≠ 0 ∧ usE S bs = rcE bs) ∨ (rcE bs = 0 ∧ 1048576 < usN bs ∧ usE S bs = 4) ∨
 (rcE bs = 0 ∧ usN bs <= 1048576 ∧ bs.length < 12 + usN bs ∧ usE S bs = 7) ∨
 (rcE bs = 0 ∧ usN bs <= 1048576 ∧ 12 + usN bs <= bs.length ∧ tk8 ((bs.drop (4 + usN bs)).take 8) ≠ S (bs.take (4 + usN bs)) ∧ usE S bs = 80) ∨
 (rcE bs = 0 ∧ usN bs <= 1048576 ∧ 12 + usN bs <= bs.length ∧ tk8 ((bs.drop (4 + usN bs)).take 8) = S (bs.take (4 + usN bs)) ∧ usE S bs = 0) := by
 unfold usE
 by_cases h1 : rcE bs ≠ 0
 · left; exact ⟨h1, by rw [if_pos h1]⟩
 right
 by_cases h2 : 1048576 < usN bs
 · left; exact ⟨by omega, h2, by rw [if_neg h1, if_pos h2]⟩
 right
 by_cases h3 : bs.length < 12 + usN bs
 · left; exact ⟨by omega, by omega, h3, by rw [if_neg h1, if_neg h2, if_pos h3]⟩
 right
 by_cases h4 : tk8 ((bs.drop (4 + usN bs)).take 8) = S (bs.take (4 + usN bs))
 · right; exact ⟨by omega, by omega, by omega, h4, by rw [if_neg h1, if_neg h2, if_neg h3, if_pos h4]⟩
 · left; exact ⟨by omega, by omega, by omega, h4, by rw [if_neg h1, if_neg h2, if_neg h3, if_neg h4]⟩
theorem rcN_usN {bs : List Int} (hy : By bs) (h : rcE bs = 0) : rcN bs = ((usN bs : Nat) : Int) := by
 unfold rcN usN
 rw [if_pos h, Int.toNat_of_nonneg (tk8_bd (hy.take 4)).1]
theorem rcN_no' {bs : List Int} (h : rcE bs ≠ 0) : rcN bs = 0 := by unfold rcN; rw [if_neg h]
def GivesU (N : Nat) (args : Array Value) (w : World) (bs : List Int) : Prop :=
 Calls Try.prog N args w fun r w' => ∃ v', r = .returned (.tuple #[v', .int .i64 (usSo sum8 bs), .int .i64 (usE sum8 bs)]) ∧ w'.ownsRow w.heap.size 5 1 v' (usL sum8 bs).length (valb (usL sum8 bs)) ∧ Below w.heap.size w w'
theorem wUnseal (v : Value) (bs : List Int) (w : World) (h : Rb w v bs) : GivesU 46 #[v] w bs := by
 unfold GivesU
 have H1 := hide (wReader v bs w w h (Below.refl _ _))
 have HC := hide (fun g W (hr : Rdr w W g bs) => wNextCount g bs w W hr)
 unfold rdF at HC
 have hy := h.by
 rcases us_cases sum8 bs with ⟨hc, he⟩ | ⟨hc, hn, he⟩ | ⟨hc, hn, hl, he⟩ | ⟨hc, hn, hl, hs, he⟩ | ⟨hc, hn, hl, hs, he⟩
 · obtain ⟨e1, e2⟩ := us_no he hc
   rw [he, e1, e2]
   rw [rcN_no' hc] at HC
   have hcc : rcE bs = 7 ∨ rcE bs = 8 := by have := rcE_or bs; omega
   obtain ⟨ao, cap, rfl, _⟩ := h.spell
   clear he e1 e2 hy hc h
   rcases hcc with hcc | hcc
   all_goals
    rw [hcc] at HC ⊢
    clear hcc
    go_enter Try.func46, Try.ntmps46
    go_wp2_with (first
     | (go_at_call 59; refine H1.out.mono ?_; rintro e w1 ⟨g, rfl, hr1, hg1, hb1⟩)
     | (go_at_call 58; refine (HC.out _ _ hr1).mono ?_; rintro e w4 ⟨rfl, hr4, hk4⟩))
    go_ret3
    exact ⟨_, rfl, World.ownsRow_nil _ _ _ _, hb1.trans (hk4.below (fun j hj => ⟨Nat.lt_of_lt_of_le hj hb1.size, by omega⟩))⟩
 · obtain ⟨e1, e2⟩ := us_no he (by decide)
   rw [he, e1, e2]
   rw [rcN_usN hy hc, hc] at HC
   obtain ⟨ao, cap, rfl, _⟩ := h.spell
   have hn2 : (1048576 : Int) < ((usN bs : Nat) : Int) := by omega
   clear he e1 e2 hy hc h hn
   generalize ((usN bs : Nat) : Int) = n at *
   go_enter Try.func46, Try.ntmps46
   go_wp2_with (first
    | (go_at_call 59; refine H1.out.mono ?_; rintro e w1 ⟨g, rfl, hr1, hg1, hb1⟩)
    | (go_at_call 58; refine (HC.out _ _ hr1).mono ?_; rintro e w4 ⟨rfl, hr4, hk4⟩))
   go_ret3
   exact ⟨_, rfl, World.ownsRow_nil _ _ _ _, hb1.trans (hk4.below (fun j hj => ⟨Nat.lt_of_lt_of_le hj hb1.size, by omega⟩))⟩
 · obtain ⟨e1, e2⟩ := us_no he (by decide)
   rw [he, e1, e2]
   rw [rcN_usN hy hc, hc] at HC
   obtain ⟨ao, cap, rfl, _⟩ := h.spell
   clear he e1 e2 hy hc h
   generalize usN bs = n at *
   go_enter Try.func46, Try.ntmps46
   go_wp2_with (first
    | (go_at_call 59; refine H1.out.mono ?_; rintro e w1 ⟨g, rfl, hr1, hg1, hb1⟩)
    | (go_at_call 58; refine (HC.out _ _ hr1).mono ?_; rintro e w4 ⟨rfl, hr4, hk4⟩))
   go_ret3
   exact ⟨_, rfl, World.ownsRow_nil _ _ _ _, hb1.trans (hk4.below (fun j hj => ⟨Nat.lt_of_lt_of_le hj hb1.size, by omega⟩))⟩
 · obtain ⟨e1, e2⟩ := us_no he (by decide)
   rw [he, e1, e2]
   rw [rcN_usN hy hc, hc] at HC
   obtain ⟨b, off, cap, rfl, hcp, _⟩ := h.form (by omega)
   have HR := hide h
   clear he e1 e2 hy hc h
   generalize usN bs = n at *
   have hcn : (4 : Int) + (n : Int) <= (cap : Int) := by omega
   have hne : ¬ bs.length = 4 + n := by omega
   have Hcut : Hid (Rb w (.slice (some ⟨b, off + (4 + n), none⟩) (bs.length - (4 + n)) (bs.length - (4 + n))) (bs.drop (4 + n))) := by
    have := HR.out.cut (o := 4 + n) (n := bs.length - (4 + n)) (c := bs.length - (4 + n)) (by omega) (Nat.le_refl _)
    rw [List.take_of_length_le (by rw [List.length_drop]; exact Nat.le_refl _)] at this
    exact this
   have Htk : Hid (Rb w (.slice (some ⟨b, off, none⟩) (4 + n) (4 + n)) (bs.take (4 + n))) := by
    have := (HR.out.take (k := 4 + n) (by omega)).tight
    rw [List.length_take, Nat.min_eq_left (by omega)] at this
    exact this
   have hdl : 8 <= (bs.drop (4 + n)).length := by rw [List.length_drop]; omega
   go_enter Try.func46, Try.ntmps46
   go_wp2_with (first
    | (go_at_call 59; refine (wReader _ _ w w4 Hcut.out hB4).mono ?_; rintro e w5 ⟨g5, rfl, hr5, hg5, hb5⟩)
    | (go_at_call 59; refine H1.out.mono ?_; rintro e w1 ⟨g, rfl, hr1, hg1, hb1⟩)
    | (go_at_call 58; refine (HC.out _ _ hr1).mono ?_; rintro e w4 ⟨rfl, hr4, hk4⟩; have hB4 := hb1.trans (hk4.below (fun j hj => ⟨Nat.lt_of_lt_of_le hj hb1.size, by omega⟩)))
    | (go_at_call 65; refine (wNext_long 8 g5 _ w w5 hr5 hdl (by decide) (by decide)).mono ?_; rintro e w6 ⟨rfl, hr6, hk6⟩; have hB5 := Below.next hB4 hb5; have hB6 := hB5.trans (hk6.below (fun j hj => ⟨Nat.lt_of_lt_of_le hj hB5.size, by have := hB4.size; omega⟩)))
    | (go_at_call 53; refine (wSum _ _ w6 (Htk.out.below hB6)).mono ?_; rintro e w7 ⟨rfl, hw7⟩; subst hw7))
   go_ret3
   exact ⟨_, rfl, World.ownsRow_nil _ _ _ _, hB6⟩
 · obtain ⟨e1, e2⟩ := us_yes he
   rw [he, e1, e2]
   rw [rcN_usN hy hc, hc] at HC
   obtain ⟨b, off, cap, rfl, hcp, _⟩ := h.form (by omega)
   have HR := hide h
   clear he e1 e2 hy hc h
   generalize usN bs = n at *
   have hcn : (4 : Int) + (n : Int) <= (cap : Int) := by omega
   have hne : ¬ bs.length = 4 + n := by omega
   have Hcut : Hid (Rb w (.slice (some ⟨b, off + (4 + n), none⟩) (bs.length - (4 + n)) (bs.length - (4 + n))) (bs.drop (4 + n))) := by
    have := HR.out.cut (o := 4 + n) (n := bs.length - (4 + n)) (c := bs.length - (4 + n)) (by omega) (Nat.le_refl _)
    rw [List.take_of_length_le (by rw [List.length_drop]; exact Nat.le_refl _)] at this
    exact this
   have Htk : Hid (Rb w (.slice (some ⟨b, off, none⟩) (4 + n) (4 + n)) (bs.take (4 + n))) := by
    have := (HR.out.take (k := 4 + n) (by omega)).tight
    rw [List.length_take, Nat.min_eq_left (by omega)] at this
    exact this
   have hdl : 8 <= (bs.drop (4 + n)).length := by rw [List.length_drop]; omega
   have HLL : Hid (((bs.drop 4).take n).length = n) := by show _ = _; rw [List.length_take, List.length_drop]; omega
   have hll : ((bs.drop 4).take n).length <= 140737488351232 := by rw [HLL.out]; omega
   rcases Nat.eq_zero_or_pos n with hn0 | hn0
   · subst hn0
     go_enter Try.func46, Try.ntmps46
     go_wp2_with (first
      | (go_at_call 59; refine (wReader _ _ w w4 Hcut.out hB4).mono ?_; rintro e w5 ⟨g5, rfl, hr5, hg5, hb5⟩)
      | (go_at_call 59; refine H1.out.mono ?_; rintro e w1 ⟨g, rfl, hr1, hg1, hb1⟩)
      | (go_at_call 58; refine (HC.out _ _ hr1).mono ?_; rintro e w4 ⟨rfl, hr4, hk4⟩; have hB4 := hb1.trans (hk4.below (fun j hj => ⟨Nat.lt_of_lt_of_le hj hb1.size, by omega⟩)))
      | (go_at_call 65; refine (wNext_long 8 g5 _ w w5 hr5 hdl (by decide) (by decide)).mono ?_; rintro e w6 ⟨rfl, hr6, hk6⟩; have hB5 := Below.next hB4 hb5; have hB6 := hB5.trans (hk6.below (fun j hj => ⟨Nat.lt_of_lt_of_le hj hB5.size, by have := hB4.size; omega⟩)))
      | (go_at_call 53; refine (wSum _ _ w6 (Htk.out.below hB6)).mono ?_; rintro e w7 ⟨rfl, hw7⟩; subst hw7)
      | (go_at_call 60; refine (wClone _ _ _ _ _ (rb_empty _ _ _) (by simp)).mono ?_; rintro e w8 ⟨v8, rfl, ho8, hb8⟩))
     go_ret3
     exact ⟨_, rfl, own_mono ho8 hB6.size, Below.next hB6 hb8⟩
   · have hn1 : ¬ n = 0 := by omega
     have HSz : Hid (((12 + n : Nat) : Int) = 4 + (n : Int) + 8) := by show _ = _; omega
     rw [HSz.out]
     have Hin := hide (HR.out.cut (o := 4) (n := n) (c := n) (by omega) (Nat.le_refl _))
     go_enter Try.func46, Try.ntmps46
     go_wp2_with (first
      | (go_at_call 59; refine (wReader _ _ w w4 Hcut.out hB4).mono ?_; rintro e w5 ⟨g5, rfl, hr5, hg5, hb5⟩)
      | (go_at_call 59; refine H1.out.mono ?_; rintro e w1 ⟨g, rfl, hr1, hg1, hb1⟩)
      | (go_at_call 58; refine (HC.out _ _ hr1).mono ?_; rintro e w4 ⟨rfl, hr4, hk4⟩; have hB4 := hb1.trans (hk4.below (fun j hj => ⟨Nat.lt_of_lt_of_le hj hb1.size, by omega⟩)))
      | (go_at_call 65; refine (wNext_long 8 g5 _ w w5 hr5 hdl (by decide) (by decide)).mono ?_; rintro e w6 ⟨rfl, hr6, hk6⟩; have hB5 := Below.next hB4 hb5; have hB6 := hB5.trans (hk6.below (fun j hj => ⟨Nat.lt_of_lt_of_le hj hB5.size, by have := hB4.size; omega⟩)))
      | (go_at_call 53; refine (wSum _ _ w6 (Htk.out.below hB6)).mono ?_; rintro e w7 ⟨rfl, hw7⟩; subst hw7)
      | (go_at_call 60; refine (wClone _ _ _ _ _ (Hin.out.below hB6) hll).mono ?_; rintro e w8 ⟨v8, rfl, ho8, hb8⟩))
     go_ret3
     exact ⟨_, rfl, own_mono ho8 hB6.size, Below.next hB6 hb8⟩
theorem rBytes (v : Value) (bs : List Int) (w : World) (h : Rb w v bs) (hl : bs.length <= 140737488351232) :
 Calls Try.prog 40 #[v] w fun e w' => ∃ v', e = .returned v' ∧ w'.ownsRow w.heap.size 5 1 v' bs.length (valb bs) ∧ Below w.heap.size w w' := by
 obtain ⟨i0, hi0, hz0, hz1, hz2⟩ := info_parts u8_info
 have hown : (w.alloc (.cells #[] 5)).ownsRow w.heap.size 5 1 (.slice (some ⟨w.heap.size, 0, none⟩) 0 0) 0 (valb []) := own_empty w 5
 have hB := alloc_below w (.cells #[] 5)
 obtain ⟨ao, cap, rfl, _⟩ := h.spell
 cases ao with
 | none =>
  obtain ⟨hn0, hc0, hb0⟩ := h.none_
  subst hb0 hc0
  clear h hn0 hl
  go_enter Try.func40, Try.ntmps40
  go_wp2
  go_ret
  exact ⟨_, rfl, hown, hB⟩
 | some ad =>
  have HN := hide (h.news_alloc (.cells #[] 5))
  have HL : Hid ((valb bs).length = bs.length * 1) := by show _ = _; rw [valb_length, Nat.mul_one]
  have HV1 := hide (valb_one bs)
  clear h
  go_enter Try.func40, Try.ntmps40
  go_wp2_with (at_builtin; refine wpList_append_own _ rfl _ _ _ rfl w.heap.size 5 i0 _ 1 1 Try.underlying23 hi0 hz0 hz1 hz2 rfl (by omega) _ 0 (valb []) rfl hown ad bs.length cap (valb bs) rfl HL.out HN.out HV1.out (by unfold maxLen; omega) (by omega) (by simp) ?_; intro v' w1 hown1 hgrow _)
  go_ret
  exact ⟨_, rfl, by simpa [valb] using hown1, hB.grown hgrow (by simp) (fun k hk => by cases hk; exact Nat.le_refl _)⟩
theorem rUnseal (v : Value) (bs : List Int) (w : World) (h : Rb w v bs) : GivesU 30 #[v] w bs := by
 unfold GivesU
 have HC := hide (rReadCount v bs w h)
 have hy := h.by
 have hlen := h.len
 rcases us_cases sum8 bs with ⟨hc, he⟩ | ⟨hc, hn, he⟩ | ⟨hc, hn, hl, he⟩ | ⟨hc, hn, hl, hs, he⟩ | ⟨hc, hn, hl, hs, he⟩
 · obtain ⟨e1, e2⟩ := us_no he hc
   rw [he, e1, e2]
   rw [rcN_no' hc] at HC
   have hcc : rcE bs = 7 ∨ rcE bs = 8 := by have := rcE_or bs; omega
   obtain ⟨ao, cap, rfl, _⟩ := h.spell
   clear he e1 e2 hy hc h
   generalize rcS bs = sz at *
   rcases hcc with hcc | hcc
   all_goals
    rw [hcc] at HC ⊢
    clear hcc
    go_enter Try.func30, Try.ntmps30
    go_wp2_with (go_at_call 48; refine HC.out.mono ?_; rintro e w1 ⟨rfl, hw1⟩; subst hw1)
    go_quiet (fail)
    go_wp2
    go_ret3
    exact ⟨_, rfl, World.ownsRow_nil _ _ _ _, below_drewN (Below.refl _ _) nq⟩
 · obtain ⟨e1, e2⟩ := us_no he (by decide)
   rw [he, e1, e2]
   rw [rcN_usN hy hc, hc] at HC
   obtain ⟨ao, cap, rfl, _⟩ := h.spell
   have hn2 : (1048576 : Int) < ((usN bs : Nat) : Int) := by omega
   clear he e1 e2 hy hc h hn
   generalize ((usN bs : Nat) : Int) = n at *
   generalize rcS bs = sz at *
   go_enter Try.func30, Try.ntmps30
   go_wp2_with (go_at_call 48; refine HC.out.mono ?_; rintro e w1 ⟨rfl, hw1⟩; subst hw1)
   go_quiet (fail)
   go_wp2
   go_ret3
   exact ⟨_, rfl, World.ownsRow_nil _ _ _ _, below_drewN (Below.refl _ _) nq⟩
 · obtain ⟨e1, e2⟩ := us_no he (by decide)
   rw [he, e1, e2]
   rw [rcN_usN hy hc, hc] at HC
   obtain ⟨ao, cap, rfl, _⟩ := h.spell
   clear he e1 e2 hy hc h
   generalize usN bs = n at *
   generalize rcS bs = sz at *
   go_enter Try.func30, Try.ntmps30
   go_wp2_with (go_at_call 48; refine HC.out.mono ?_; rintro e w1 ⟨rfl, hw1⟩; subst hw1)
   go_quiet (fail)
   go_wp2
   go_ret3
   exact ⟨_, rfl, World.ownsRow_nil _ _ _ _, below_drewN (Below.refl _ _) nq⟩
 all_goals
  rw [rcN_usN hy hc, hc] at HC
  obtain ⟨b, off, cap, rfl, hcp, _⟩ := h.form (by omega)
  have HR := hide h
  have HT : Hid (∀ q, Calls Try.prog 49 #[.slice (some ⟨b, off + (4 + usN bs), none⟩) (12 + usN bs - (4 + usN bs)) (cap - (4 + usN bs))] (w.drewN q) fun e w' => e = .returned (.int .u64 (tk8 ((bs.drop (4 + usN bs)).take 8))) ∧ w' = w.drewN q) := fun q => by
   rw [show 12 + usN bs - (4 + usN bs) = 8 by omega]
   exact rTaken _ _ (w.drewN q) ((h.cut (o := 4 + usN bs) (n := 8) (c := cap - (4 + usN bs)) (by omega) (by omega)).below (below_drewN (Below.refl _ w) q)) (by rw [List.length_take]; omega)
  have HS := hide (fun q => rSum _ _ (w.drewN q) ((h.take (k := 4 + usN bs) (by omega)).below (below_drewN (Below.refl _ w) q)))
  have hll : ((bs.drop 4).take (usN bs)).length <= 140737488351232 := by rw [List.length_take]; omega
  have HB := hide (fun W (hb : Below w.heap.size w W) => rBytes _ _ W ((h.cut (o := 4) (n := usN bs) (c := cap - 4) (by omega) (by omega)).below hb) hll)
  have HLL : Hid (((bs.drop 4).take (usN bs)).length = usN bs) := by show _ = _; rw [List.length_take, List.length_drop]; omega
 · obtain ⟨e1, e2⟩ := us_no he (by decide)
   rw [he, e1, e2]
   clear he e1 e2 hy hc h HB HLL hll
   generalize usN bs = n at *
   generalize rcS bs = sz at *
   have hne : ¬ cap = 4 + n := by omega
   generalize tk8 ((bs.drop (4 + n)).take 8) = t at *
   generalize sum8 (bs.take (4 + n)) = s at *
   go_enter Try.func30, Try.ntmps30
   go_wp2_with (go_at_call 48; refine HC.out.mono ?_; rintro e w1 ⟨rfl, hw1⟩; subst hw1)
   go_quiet (first
    | (go_at_call 49; exact Calls.quiet_of_same (HT.out _))
    | (go_at_call 50; exact Calls.quiet_of_same (HS.out _)))
   go_wp2
   go_ret3
   exact ⟨_, rfl, World.ownsRow_nil _ _ _ _, below_drewN (Below.refl _ _) nq⟩
 · obtain ⟨e1, e2⟩ := us_yes he
   rw [he, e1, e2, HLL.out]
   rw [HLL.out] at HB
   rw [hs] at HT
   clear he e1 e2 hy hc h hll hs
   generalize usN bs = n at *
   generalize rcS bs = sz at *
   have hne : ¬ cap = 4 + n := by omega
   generalize sum8 (bs.take (4 + n)) = s at *
   have HSz : Hid (((12 + n : Nat) : Int) = 12 + (n : Int)) := by show _ = _; omega
   rw [HSz.out]
   have hne4 : ¬ cap = 4 := by omega
   go_enter Try.func30, Try.ntmps30
   go_wp2_with (go_at_call 48; refine HC.out.mono ?_; rintro e w1 ⟨rfl, hw1⟩; subst hw1)
   go_quiet (first
    | (go_at_call 49; exact Calls.quiet_of_same (HT.out _))
    | (go_at_call 50; exact Calls.quiet_of_same (HS.out _)))
   have hbq := below_drewN (Below.refl w1.heap.size w1) nq
   go_wp2_with (go_at_call 40; refine (HB.out _ hbq).mono ?_; rintro e w8 ⟨v8, rfl, ho8, hb8⟩)
   go_ret3
   exact ⟨_, rfl, own_mono ho8 hbq.size, Below.next hbq hb8⟩
end Go.Proofs.Ythialdipnhggnaa
