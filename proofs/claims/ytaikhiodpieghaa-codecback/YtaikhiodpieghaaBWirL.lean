import Derived.Test.YtaikhiodpieghaaBWirK
set_option linter.unusedVariables false
set_option linter.unusedSimpArgs false
set_option maxRecDepth 100000
set_option maxHeartbeats 4000000
namespace Go.Proofs.Ytaikhiodpieghaa
open Go.RowKit Fld
def usSo (S : List Int -> Int) (bs : List Int) : Nat := if usE S bs = 0 then 12 + usN bs else 0
theorem us_no {S : List Int -> Int} {bs : List Int} {e : Int} (h : usE S bs = e) (he : e ≠ 0) : usL S bs = [] ∧ usSo S bs = 0 := by
 have : usE S bs ≠ 0 := by rw [h]; exact he
 exact ⟨by unfold usL; rw [if_neg this], by unfold usSo; rw [if_neg this]⟩
theorem us_yes {S : List Int -> Int} {bs : List Int} (h : usE S bs = 0) : usL S bs = (bs.drop 4).take (usN bs) ∧ usSo S bs = 12 + usN bs :=
 ⟨by unfold usL; rw [if_pos h], by unfold usSo; rw [if_pos h]⟩
theorem us_cases (S : List Int -> Int) (bs : List Int) : (rcE bs ≠ 0 ∧ usE S bs = rcE bs) ∨ (rcE bs = 0 ∧ 1048576 < usN bs ∧ usE S bs = 4) ∨
 (rcE bs = 0 ∧ usN bs <= 1048576 ∧ bs.length < 12 + usN bs ∧ usE S bs = 7) ∨
 (rcE bs = 0 ∧ usN bs <= 1048576 ∧ 12 + usN bs <= bs.length ∧ tk8 ((bs.drop (4 + usN bs)).take 8) ≠ S (bs.take (4 + usN bs)) ∧ usE S bs = 80) ∨
 (rcE bs = 0 ∧ usN bs <= 1048576 ∧ 12 + usN bs <= bs.length ∧ tk8 ((bs.drop (4 + usN bs)).take 8) = S (bs.take (4 + usN bs)) ∧ usE S bs = 0) := by
 unfold usE
 by_cases h1 : rcE bs ≠ 0
 · left; exact ⟨h1, by rw [if_pos h1]⟩
 right
 by_cases h2 : 1048576 < usN bs
 · left; exact ⟨by omega, h2, by rw [if_neg h1, if_pos h2]⟩
 right
 by_cases h3 : bs.length < 12 + usN bs
 · left; exact ⟨by omega, by omega, h3, by rw [if_neg h1, if_neg h2, if_pos h3]⟩
 right
 by_cases h4 : tk8 ((bs.drop (4 + usN bs)).take 8) = S (bs.take (4 + usN bs))
 · right; exact ⟨by omega, by omega, by omega, h4, by rw [if_neg h1, if_neg h2, if_neg h3, if_pos h4]⟩
 · left; exact ⟨by omega, by omega, by omega, h4, by rw [if_neg h1, if_neg h2, if_neg h3, if_neg h4]⟩
theorem rcN_usN {bs : List Int} (hy : By bs) (h : rcE bs = 0) : rcN bs = ((usN bs : Nat) : Int) := by
 unfold rcN usN
 rw [if_pos h, Int.toNat_of_nonneg (tk8_bd (hy.take 4)).1]
theorem rcN_no' {bs : List Int} (h : rcE bs ≠ 0) : rcN bs = 0 := by unfold rcN; rw [if_neg h]
def GivesU (N : Nat) (args : Array Value) (w : World) (bs : List Int) : Prop :=
 Calls Try.prog N args w fun r w' => ∃ v', r = .returned (.tuple #[v', .int .i64 (usSo sum8 bs), .int .i64 (usE sum8 bs)]) ∧ w'.ownsRow w.heap.size 5 1 v' (usL sum8 bs).length (valb (usL sum8 bs)) ∧ Below w.heap.size w w'
theorem wUnseal (v : Value) (bs : List Int) (w : World) (h : Rb w v bs) : GivesU 39 #[v] w bs := by
 unfold GivesU
 have H1 := hide (wReader v bs w w h (Below.refl _ _))
 have HC := hide (fun g W (hr : Rdr w W g bs) => wNextCount g bs w W hr)
 unfold rdF at HC
 have hy := h.by
 rcases us_cases sum8 bs with ⟨hc, he⟩ | ⟨hc, hn, he⟩ | ⟨hc, hn, hl, he⟩ | ⟨hc, hn, hl, hs, he⟩ | ⟨hc, hn, hl, hs, he⟩
 · obtain ⟨e1, e2⟩ := us_no he hc
   rw [he, e1, e2]
   rw [rcN_no' hc] at HC
   have hcc : rcE bs = 7 ∨ rcE bs = 8 := by have := rcE_or bs; omega
   obtain ⟨ao, cap, rfl, _⟩ := h.spell
   clear he e1 e2 hy hc h
   rcases hcc with hcc | hcc
   all_goals
    rw [hcc] at HC ⊢
    clear hcc
    go_enter Try.func39, Try.ntmps39
    go_wp2_with (first
     | (go_at_call 52; refine H1.out.mono ?_; rintro e w1 ⟨g, rfl, hr1, hg1, hb1⟩)
     | (go_at_call 51; refine (HC.out _ _ hr1).mono ?_; rintro e w4 ⟨rfl, hr4, hk4⟩))
    go_ret3
    exact ⟨_, rfl, World.ownsRow_nil _ _ _ _, hb1.trans (hk4.below (fun j hj => ⟨Nat.lt_of_lt_of_le hj hb1.size, by omega⟩))⟩
 · obtain ⟨e1, e2⟩ := us_no he (by decide)
   rw [he, e1, e2]
   rw [rcN_usN hy hc, hc] at HC
   obtain ⟨ao, cap, rfl, _⟩ := h.spell
   have hn2 : (1048576 : Int) < ((usN bs : Nat) : Int) := by omega
   clear he e1 e2 hy hc h hn
   generalize ((usN bs : Nat) : Int) = n at *
   go_enter Try.func39, Try.ntmps39
   go_wp2_with (first
    | (go_at_call 52; refine H1.out.mono ?_; rintro e w1 ⟨g, rfl, hr1, hg1, hb1⟩)
    | (go_at_call 51; refine (HC.out _ _ hr1).mono ?_; rintro e w4 ⟨rfl, hr4, hk4⟩))
   go_ret3
   exact ⟨_, rfl, World.ownsRow_nil _ _ _ _, hb1.trans (hk4.below (fun j hj => ⟨Nat.lt_of_lt_of_le hj hb1.size, by omega⟩))⟩
 · obtain ⟨e1, e2⟩ := us_no he (by decide)
   rw [he, e1, e2]
   rw [rcN_usN hy hc, hc] at HC
   obtain ⟨ao, cap, rfl, _⟩ := h.spell
   clear he e1 e2 hy hc h
   generalize usN bs = n at *
   go_enter Try.func39, Try.ntmps39
   go_wp2_with (first
    | (go_at_call 52; refine H1.out.mono ?_; rintro e w1 ⟨g, rfl, hr1, hg1, hb1⟩)
    | (go_at_call 51; refine (HC.out _ _ hr1).mono ?_; rintro e w4 ⟨rfl, hr4, hk4⟩))
   go_ret3
   exact ⟨_, rfl, World.ownsRow_nil _ _ _ _, hb1.trans (hk4.below (fun j hj => ⟨Nat.lt_of_lt_of_le hj hb1.size, by omega⟩))⟩
 · obtain ⟨e1, e2⟩ := us_no he (by decide)
   rw [he, e1, e2]
   rw [rcN_usN hy hc, hc] at HC
   obtain ⟨b, off, cap, rfl, hcp, _⟩ := h.form (by omega)
   have HR := hide h
   clear he e1 e2 hy hc h
   generalize usN bs = n at *
   have hcn : (4 : Int) + (n : Int) <= (cap : Int) := by omega
   have hne : ¬ bs.length = 4 + n := by omega
   have Hcut : Hid (Rb w (.slice (some ⟨b, off + (4 + n), none⟩) (bs.length - (4 + n)) (bs.length - (4 + n))) (bs.drop (4 + n))) := by
    have := HR.out.cut (o := 4 + n) (n := bs.length - (4 + n)) (c := bs.length - (4 + n)) (by omega) (Nat.le_refl _)
    rw [List.take_of_length_le (by rw [List.length_drop]; exact Nat.le_refl _)] at this
    exact this
   have Htk : Hid (Rb w (.slice (some ⟨b, off, none⟩) (4 + n) (4 + n)) (bs.take (4 + n))) := by
    have := (HR.out.take (k := 4 + n) (by omega)).tight
    rw [List.length_take, Nat.min_eq_left (by omega)] at this
    exact this
   have hdl : 8 <= (bs.drop (4 + n)).length := by rw [List.length_drop]; omega
   go_enter Try.func39, Try.ntmps39
   go_wp2_with (first
    | (go_at_call 52; refine (wReader _ _ w w4 Hcut.out hB4).mono ?_; rintro e w5 ⟨g5, rfl, hr5, hg5, hb5⟩)
    | (go_at_call 52; refine H1.out.mono ?_; rintro e w1 ⟨g, rfl, hr1, hg1, hb1⟩)
    | (go_at_call 51; refine (HC.out _ _ hr1).mono ?_; rintro e w4 ⟨rfl, hr4, hk4⟩; have hB4 := hb1.trans (hk4.below (fun j hj => ⟨Nat.lt_of_lt_of_le hj hb1.size, by omega⟩)))
    | (go_at_call 58; refine (wNext_long 8 g5 _ w w5 hr5 hdl (by decide) (by decide)).mono ?_; rintro e w6 ⟨rfl, hr6, hk6⟩; have hB5 := Below.next hB4 hb5; have hB6 := hB5.trans (hk6.below (fun j hj => ⟨Nat.lt_of_lt_of_le hj hB5.size, by have := hB4.size; omega⟩)))
    | (go_at_call 35; refine (wSum _ _ w6 (Htk.out.below hB6)).mono ?_; rintro e w7 ⟨rfl, hw7⟩; subst hw7))
   go_ret3
   exact ⟨_, rfl, World.ownsRow_nil _ _ _ _, hB6⟩
 · obtain ⟨e1, e2⟩ := us_yes he
   rw [he, e1, e2]
   rw [rcN_usN hy hc, hc] at HC
   obtain ⟨b, off, cap, rfl, hcp, _⟩ := h.form (by omega)
   have HR := hide h
   clear he e1 e2 hy hc h
   generalize usN bs = n at *
   have hcn : (4 : Int) + (n : Int) <= (cap : Int) := by omega
   have hne : ¬ bs.length = 4 + n := by omega
   have Hcut : Hid (Rb w (.slice (some ⟨b, off + (4 + n), none⟩) (bs.length - (4 + n)) (bs.length - (4 + n))) (bs.drop (4 + n))) := by
    have := HR.out.cut (o := 4 + n) (n := bs.length - (4 + n)) (c := bs.length - (4 + n)) (by omega) (Nat.le_refl _)
    rw [List.take_of_length_le (by rw [List.length_drop]; exact Nat.le_refl _)] at this
    exact this
   have Htk : Hid (Rb w (.slice (some ⟨b, off, none⟩) (4 + n) (4 + n)) (bs.take (4 + n))) := by
    have := (HR.out.take (k := 4 + n) (by omega)).tight
    rw [List.length_take, Nat.min_eq_left (by omega)] at this
    exact this
   have hdl : 8 <= (bs.drop (4 + n)).length := by rw [List.length_drop]; omega
   have HLL : Hid (((bs.drop 4).take n).length = n) := by show _ = _; rw [List.length_take, List.length_drop]; omega
   have hll : ((bs.drop 4).take n).length <= 140737488351232 := by rw [HLL.out]; omega
   rcases Nat.eq_zero_or_pos n with hn0 | hn0
   · subst hn0
     go_enter Try.func39, Try.ntmps39
     go_wp2_with (first
      | (go_at_call 52; refine (wReader _ _ w w4 Hcut.out hB4).mono ?_; rintro e w5 ⟨g5, rfl, hr5, hg5, hb5⟩)
      | (go_at_call 52; refine H1.out.mono ?_; rintro e w1 ⟨g, rfl, hr1, hg1, hb1⟩)
      | (go_at_call 51; refine (HC.out _ _ hr1).mono ?_; rintro e w4 ⟨rfl, hr4, hk4⟩; have hB4 := hb1.trans (hk4.below (fun j hj => ⟨Nat.lt_of_lt_of_le hj hb1.size, by omega⟩)))
      | (go_at_call 58; refine (wNext_long 8 g5 _ w w5 hr5 hdl (by decide) (by decide)).mono ?_; rintro e w6 ⟨rfl, hr6, hk6⟩; have hB5 := Below.next hB4 hb5; have hB6 := hB5.trans (hk6.below (fun j hj => ⟨Nat.lt_of_lt_of_le hj hB5.size, by have := hB4.size; omega⟩)))
      | (go_at_call 35; refine (wSum _ _ w6 (Htk.out.below hB6)).mono ?_; rintro e w7 ⟨rfl, hw7⟩; subst hw7)
      | (go_at_call 53; refine (wClone _ _ _ _ _ (rb_empty _ _ _) (by simp)).mono ?_; rintro e w8 ⟨v8, rfl, ho8, hb8⟩))
     go_ret3
     exact ⟨_, rfl, own_mono ho8 hB6.size, Below.next hB6 hb8⟩
   · have hn1 : ¬ n = 0 := by omega
     have HSz : Hid (((12 + n : Nat) : Int) = 4 + (n : Int) + 8) := by show _ = _; omega
     rw [HSz.out]
     have Hin := hide (HR.out.cut (o := 4) (n := n) (c := n) (by omega) (Nat.le_refl _))
     go_enter Try.func39, Try.ntmps39
     go_wp2_with (first
      | (go_at_call 52; refine (wReader _ _ w w4 Hcut.out hB4).mono ?_; rintro e w5 ⟨g5, rfl, hr5, hg5, hb5⟩)
      | (go_at_call 52; refine H1.out.mono ?_; rintro e w1 ⟨g, rfl, hr1, hg1, hb1⟩)
      | (go_at_call 51; refine (HC.out _ _ hr1).mono ?_; rintro e w4 ⟨rfl, hr4, hk4⟩; have hB4 := hb1.trans (hk4.below (fun j hj => ⟨Nat.lt_of_lt_of_le hj hb1.size, by omega⟩)))
      | (go_at_call 58; refine (wNext_long 8 g5 _ w w5 hr5 hdl (by decide) (by decide)).mono ?_; rintro e w6 ⟨rfl, hr6, hk6⟩; have hB5 := Below.next hB4 hb5; have hB6 := hB5.trans (hk6.below (fun j hj => ⟨Nat.lt_of_lt_of_le hj hB5.size, by have := hB4.size; omega⟩)))
      | (go_at_call 35; refine (wSum _ _ w6 (Htk.out.below hB6)).mono ?_; rintro e w7 ⟨rfl, hw7⟩; subst hw7)
      | (go_at_call 53; refine (wClone _ _ _ _ _ (Hin.out.below hB6) hll).mono ?_; rintro e w8 ⟨v8, rfl, ho8, hb8⟩))
     go_ret3
     exact ⟨_, rfl, own_mono ho8 hB6.size, Below.next hB6 hb8⟩
end Go.Proofs.Ytaikhiodpieghaa
