import Derived.Test.YtaikhiodpieghaaBWirH
set_option linter.unusedVariables false
set_option linter.unusedSimpArgs false
set_option maxRecDepth 100000
set_option maxHeartbeats 4000000
namespace Go.Proofs.Ytaikhiodpieghaa
open Go.RowKit Fld
theorem results_tmp4 {fn : Func} {t u v x : Tmp} (h : fn.results = #[.tmp t, .tmp u, .tmp v, .tmp x]) (tmps : Array Value) (P : Program) (w : World) :
 (results fn tmps).run P w = .ok (.tuple #[tmps.getD t undef, tmps.getD u undef, tmps.getD v undef, tmps.getD x undef]) w := by
 simp [results, h]
def rlFo (bs : List Int) : Int := if rlE bs = 0 then rlF bs else 0
def rlLo (bs : List Int) : List Int := if rlE bs = 0 then rlX bs else []
def rlSo (bs : List Int) : Nat := if rlE bs = 0 then 5 + rlN bs * wF (rlF bs) else 0
theorem rl_no {bs : List Int} {e : Int} (h : rlE bs = e) (he : e ≠ 0) : rlFo bs = 0 ∧ rlLo bs = [] ∧ rlSo bs = 0 := by
 have : rlE bs ≠ 0 := by rw [h]; exact he
 exact ⟨by unfold rlFo; rw [if_neg this], by unfold rlLo; rw [if_neg this], by unfold rlSo; rw [if_neg this]⟩
theorem rl_yes {bs : List Int} (h : rlE bs = 0) : rlFo bs = rlF bs ∧ rlLo bs = rlX bs ∧ rlSo bs = 5 + rlN bs * wF (rlF bs) :=
 ⟨by unfold rlFo; rw [if_pos h], by unfold rlLo; rw [if_pos h], by unfold rlSo; rw [if_pos h]⟩
theorem rl_cases (bs : List Int) : (bs.length = 0 ∧ rlE bs = 7) ∨ (0 < bs.length ∧ ¬ (rlF bs = 1 ∨ rlF bs = 2) ∧ rlE bs = 8) ∨
 (0 < bs.length ∧ (rlF bs = 1 ∨ rlF bs = 2) ∧ rcE (bs.drop 1) ≠ 0 ∧ rlE bs = rcE (bs.drop 1)) ∨
 (0 < bs.length ∧ (rlF bs = 1 ∨ rlF bs = 2) ∧ rcE (bs.drop 1) = 0 ∧ 4096 < rlN bs ∧ rlE bs = 4) ∨
 (5 <= bs.length ∧ (rlF bs = 1 ∨ rlF bs = 2) ∧ rcE (bs.drop 1) = 0 ∧ rlN bs <= 4096 ∧ rlE bs = neE (rlF bs) (rlN bs) (bs.drop 5)) := by
 unfold rlE
 by_cases h1 : bs.length = 0
 · left; exact ⟨h1, by rw [if_pos h1]⟩
 right
 by_cases h2 : rlF bs ≠ 1 ∧ rlF bs ≠ 2
 · left; exact ⟨by omega, by omega, by rw [if_neg h1, if_pos h2]⟩
 right
 by_cases h3 : rcE (bs.drop 1) ≠ 0
 · left; exact ⟨by omega, by omega, h3, by rw [if_neg h1, if_neg h2, if_pos h3]⟩
 right
 by_cases h4 : 4096 < rlN bs
 · left; exact ⟨by omega, by omega, by omega, h4, by rw [if_neg h1, if_neg h2, if_neg h3, if_pos h4]⟩
 right
 have h5 := (rcE_zero (bs := bs.drop 1) (by omega)).1
 rw [List.length_drop] at h5
 refine ⟨by omega, by omega, by omega, by omega, ?_⟩
 rw [if_neg h1, if_neg h2, if_neg h3, if_neg h4]
 unfold neE
 rw [List.length_drop]
 by_cases h6 : bs.length < 5 + rlN bs * wF (rlF bs)
 · rw [if_pos h6, if_pos (show bs.length - 5 < rlN bs * wF (rlF bs) by omega)]
 · rw [if_neg h6, if_neg (show ¬ bs.length - 5 < rlN bs * wF (rlF bs) by omega)]; rfl
theorem rlF_tk {bs : List Int} (h : 0 < bs.length) : tk8 (bs.take 1) = rlF bs := by
 cases bs with
 | nil => simp at h
 | cons b bs => show (0 : Int) * 256 + b = b; omega
theorem rcN_rlN {bs : List Int} (hy : By bs) (h : rcE (bs.drop 1) = 0) : rcN (bs.drop 1) = ((rlN bs : Nat) : Int) := by
 unfold rcN rlN
 rw [if_pos h, Int.toNat_of_nonneg (tk8_bd ((hy.drop 1).take 4)).1]
theorem rcN_no {bs : List Int} (h : rcE bs ≠ 0) : rcN bs = 0 := by unfold rcN; rw [if_neg h]
theorem inF_nilW (f : Int) : inF f [] = decide (f = 1 ∨ f = 2) := by
 unfold inF
 by_cases h1 : f = 1
 · rw [if_pos h1, h1]; rfl
 · by_cases h2 : f = 2
   · rw [if_neg h1, if_pos h2, h2]; rfl
   · rw [if_neg h1, if_neg h2, decide_eq_false (by omega)]
theorem neL_rlX {bs : List Int} (h : neE (rlF bs) (rlN bs) (bs.drop 5) = 0) : neL (rlF bs) (rlN bs) (bs.drop 5) = rlX bs := by
 unfold neL; rw [if_pos h]; rfl
def GivesR8 (N : Nat) (args : Array Value) (w : World) (bs : List Int) : Prop :=
 Calls Try.prog N args w fun r w' => ∃ v', r = .returned (.tuple #[.int .u8 (rlFo bs), v', .int .i64 (rlSo bs), .int .i64 (rlE bs)]) ∧ w'.ownsRow w.heap.size 48 1 v' (rlLo bs).length (vals (rlLo bs)) ∧ Below w.heap.size w w'
theorem wReadList (v : Value) (bs : List Int) (w : World) (h : Rb w v bs) : GivesR8 56 #[v] w bs := by
 unfold GivesR8
 have H1 := hide (wReader v bs w w h (Below.refl _ _))
 have hy := h.by
 obtain ⟨ao, cap, rfl, _⟩ := h.spell
 clear h
 rcases rl_cases bs with ⟨h0, he⟩ | ⟨h0, hf, he⟩ | ⟨h0, hf, hc, he⟩ | ⟨h0, hf, hc, hn, he⟩ | ⟨h0, hf, hc, hn, he⟩
 · obtain ⟨e1, e2, e3⟩ := rl_no he (by decide)
   rw [he, e1, e2, e3]
   have HN := hide (fun g W (hr : Rdr w W g bs) => wNext_short 1 g bs w W hr (by omega) (by decide))
   clear he e1 e2 e3 hy h0
   go_enter Try.func56, Try.ntmps56
   go_wp2_with (first
    | (go_at_call 52; refine H1.out.mono ?_; rintro e w1 ⟨g, rfl, hr1, hg1, hb1⟩)
    | (go_at_call 58; refine (HN.out _ _ hr1).mono ?_; rintro e w2 ⟨rfl, hw2⟩; subst hw2))
   (try simp only [Exit.inBlock, Exit.then]); refine bodyPost_ret (results_tmp4 rfl _ _ _) rfl ?_
   exact ⟨_, rfl, World.ownsRow_nil _ _ _ _, hb1⟩
 · obtain ⟨e1, e2, e3⟩ := rl_no he (by decide)
   rw [he, e1, e2, e3]
   have HN := hide (fun g W (hr : Rdr w W g bs) => wNext_long 1 g bs w W hr (by omega) (by decide) (by decide))
   have HI := hide (fun W => In_any (rlF bs) (.slice none 0 0) [] W ⟨none, 0, rfl, by simp, by simp, fun h => absurd rfl h⟩)
   rw [inF_nilW, decide_eq_false hf] at HI
   rw [rlF_tk h0] at HN
   have hb : 0 <= rlF bs ∧ rlF bs <= 255 := by
    have := tk8_bd (hy.take 1)
    rw [rlF_tk h0, List.length_take, Nat.min_eq_left (by omega)] at this
    omega
   obtain ⟨b0, b1⟩ := hb
   clear he e1 e2 e3 hf hy
   generalize rlF bs = f at *
   go_enter Try.func56, Try.ntmps56
   go_wp2_with (first
    | (go_at_call 52; refine H1.out.mono ?_; rintro e w1 ⟨g, rfl, hr1, hg1, hb1⟩)
    | (go_at_call 58; refine (HN.out _ _ hr1).mono ?_; rintro e w2 ⟨rfl, hr2, hk2⟩)
    | (go_at_call 47; refine (HI.out _).mono ?_; rintro e w3 ⟨rfl, hb3⟩))
   (try simp only [Exit.inBlock, Exit.then]); refine bodyPost_ret (results_tmp4 rfl _ _ _) rfl ?_
   have hB2 := hb1.trans (hk2.below (fun j hj => ⟨Nat.lt_of_lt_of_le hj hb1.size, by omega⟩))
   exact ⟨_, rfl, World.ownsRow_nil _ _ _ _, Below.next hB2 hb3⟩
 all_goals
  have HI := hide (fun W => In_any (rlF bs) (.slice none 0 0) [] W ⟨none, 0, rfl, by simp, by simp, fun h => absurd rfl h⟩)
  rw [inF_nilW, decide_eq_true hf] at HI
  have hb : 0 <= rlF bs ∧ rlF bs <= 255 := by omega
  obtain ⟨b0, b1⟩ := hb
  have HN := hide (fun g W (hr : Rdr w W g bs) => wNext_long 1 g bs w W hr (by omega) (by decide) (by decide))
  rw [rlF_tk (by omega)] at HN
  have HC := hide (fun g W (hr : Rdr w W g (bs.drop 1)) => wNextCount g (bs.drop 1) w W hr)
  unfold rdF at HC
 · obtain ⟨e1, e2, e3⟩ := rl_no he hc
   rw [he, e1, e2, e3]
   rw [rcN_no hc] at HC
   have hcc : rcE (bs.drop 1) = 7 ∨ rcE (bs.drop 1) = 8 := by have := rcE_or (bs.drop 1); omega
   clear he e1 e2 e3 hf hy h0 hc
   generalize rlF bs = f at *
   rcases hcc with hcc | hcc
   all_goals
    rw [hcc] at HC ⊢
    clear hcc
    go_enter Try.func56, Try.ntmps56
    go_wp2_with (first
     | (go_at_call 52; refine H1.out.mono ?_; rintro e w1 ⟨g, rfl, hr1, hg1, hb1⟩)
     | (go_at_call 58; refine (HN.out _ _ hr1).mono ?_; rintro e w2 ⟨rfl, hr2, hk2⟩)
     | (go_at_call 47; refine (HI.out _).mono ?_; rintro e w3 ⟨rfl, hb3⟩)
     | (go_at_call 51; refine (HC.out _ _ (hr2.below hb3)).mono ?_; rintro e w4 ⟨rfl, hr4, hk4⟩))
    (try simp only [Exit.inBlock, Exit.then]); refine bodyPost_ret (results_tmp4 rfl _ _ _) rfl ?_
    have hB2 := hb1.trans (hk2.below (fun j hj => ⟨Nat.lt_of_lt_of_le hj hb1.size, by omega⟩))
    have hB3 := Below.next hB2 hb3
    exact ⟨_, rfl, World.ownsRow_nil _ _ _ _, hB3.trans (hk4.below (fun j hj => ⟨Nat.lt_of_lt_of_le hj hB3.size, by omega⟩))⟩
 · obtain ⟨e1, e2, e3⟩ := rl_no he (by decide)
   rw [he, e1, e2, e3]
   rw [rcN_rlN hy hc, hc] at HC
   have hn2 : (4096 : Int) < ((rlN bs : Nat) : Int) := by omega
   clear he e1 e2 e3 hf hy h0 hc hn
   generalize rlF bs = f at *
   generalize ((rlN bs : Nat) : Int) = n at *
   go_enter Try.func56, Try.ntmps56
   go_wp2_with (first
    | (go_at_call 52; refine H1.out.mono ?_; rintro e w1 ⟨g, rfl, hr1, hg1, hb1⟩)
    | (go_at_call 58; refine (HN.out _ _ hr1).mono ?_; rintro e w2 ⟨rfl, hr2, hk2⟩)
    | (go_at_call 47; refine (HI.out _).mono ?_; rintro e w3 ⟨rfl, hb3⟩)
    | (go_at_call 51; refine (HC.out _ _ (hr2.below hb3)).mono ?_; rintro e w4 ⟨rfl, hr4, hk4⟩))
   (try simp only [Exit.inBlock, Exit.then]); refine bodyPost_ret (results_tmp4 rfl _ _ _) rfl ?_
   have hB2 := hb1.trans (hk2.below (fun j hj => ⟨Nat.lt_of_lt_of_le hj hb1.size, by omega⟩))
   have hB3 := Below.next hB2 hb3
   exact ⟨_, rfl, World.ownsRow_nil _ _ _ _, hB3.trans (hk4.below (fun j hj => ⟨Nat.lt_of_lt_of_le hj hB3.size, by omega⟩))⟩
 · have HE := hide (fun g W (hr : Rdr w W g (bs.drop 5)) => wNextElements (rlF bs) (rlN bs) g (bs.drop 5) w W hf hn hr)
   have HLS := hide (fun W => wListSize (rlF bs) (rlN bs) W hf hn)
   unfold rdF at HE
   rw [rcN_rlN hy hc, hc] at HC
   have HD : Hid ((bs.drop 1).drop 4 = bs.drop 5) := by show _ = _; rw [List.drop_drop]
   rw [HD.out] at HC
   have hnE := neE_or (rlF bs) (rlN bs) (bs.drop 5)
   rcases hnE with hE | hE
   · obtain ⟨e1, e2, e3⟩ := rl_yes (he.trans hE)
     rw [he, hE, e1, e2, e3]
     rw [hE, neL_rlX hE] at HE
     have hn2 : ((rlN bs : Nat) : Int) <= 4096 := by omega
     have hn3 : (0 : Int) <= ((rlN bs : Nat) : Int) := by omega
     clear he e1 e2 e3 hf hy h0 hc hn hE HD
     generalize 5 + rlN bs * wF (rlF bs) = sz at *
     generalize rlX bs = ll at *
     generalize rlF bs = f at *
     generalize ((rlN bs : Nat) : Int) = n at *
     go_enter Try.func56, Try.ntmps56
     go_wp2_with (first
      | (go_at_call 52; refine H1.out.mono ?_; rintro e w1 ⟨g, rfl, hr1, hg1, hb1⟩)
      | (go_at_call 58; refine (HN.out _ _ hr1).mono ?_; rintro e w2 ⟨rfl, hr2, hk2⟩)
      | (go_at_call 47; refine (HI.out _).mono ?_; rintro e w3 ⟨rfl, hb3⟩)
      | (go_at_call 51; refine (HC.out _ _ (hr2.below hb3)).mono ?_; rintro e w4 ⟨rfl, hr4, hk4⟩)
      | (go_at_call 59; refine (HE.out _ _ (hr4 (by first | trivial | rfl))).mono ?_; rintro e w5 ⟨v5, rfl, ho5, hk5⟩)
      | (go_at_call 48; refine (HLS.out _).mono ?_; rintro e w6 ⟨rfl, hw6⟩; subst hw6))
     (try simp only [Exit.inBlock, Exit.then]); refine bodyPost_ret (results_tmp4 rfl _ _ _) rfl ?_
     have hB2 := hb1.trans (hk2.below (fun j hj => ⟨Nat.lt_of_lt_of_le hj hb1.size, by omega⟩))
     have hB3 := Below.next hB2 hb3
     have hB4 := hB3.trans (hk4.below (fun j hj => ⟨Nat.lt_of_lt_of_le hj hB3.size, by omega⟩))
     exact ⟨_, rfl, own_mono ho5 hB4.size, hB4.trans (hk5.below (fun j hj => ⟨Nat.lt_of_lt_of_le hj hB4.size, by omega⟩))⟩
   · obtain ⟨e1, e2, e3⟩ := rl_no he (by omega)
     rw [he, e1, e2, e3]
     have hn2 : ((rlN bs : Nat) : Int) <= 4096 := by omega
     have hn3 : (0 : Int) <= ((rlN bs : Nat) : Int) := by omega
     clear he e1 e2 e3 hf hy h0 hc hn HD
     rcases hE with hE | hE
     all_goals
      rw [hE] at HE ⊢
      clear hE HLS
      generalize neL (rlF bs) (rlN bs) (bs.drop 5) = ll at *
      generalize rlF bs = f at *
      generalize ((rlN bs : Nat) : Int) = n at *
      go_enter Try.func56, Try.ntmps56
      go_wp2_with (first
       | (go_at_call 52; refine H1.out.mono ?_; rintro e w1 ⟨g, rfl, hr1, hg1, hb1⟩)
       | (go_at_call 58; refine (HN.out _ _ hr1).mono ?_; rintro e w2 ⟨rfl, hr2, hk2⟩)
       | (go_at_call 47; refine (HI.out _).mono ?_; rintro e w3 ⟨rfl, hb3⟩)
       | (go_at_call 51; refine (HC.out _ _ (hr2.below hb3)).mono ?_; rintro e w4 ⟨rfl, hr4, hk4⟩)
       | (go_at_call 59; refine (HE.out _ _ (hr4 (by first | trivial | rfl))).mono ?_; rintro e w5 ⟨v5, rfl, ho5, hk5⟩))
      (try simp only [Exit.inBlock, Exit.then]); refine bodyPost_ret (results_tmp4 rfl _ _ _) rfl ?_
      have hB2 := hb1.trans (hk2.below (fun j hj => ⟨Nat.lt_of_lt_of_le hj hb1.size, by omega⟩))
      have hB3 := Below.next hB2 hb3
      have hB4 := hB3.trans (hk4.below (fun j hj => ⟨Nat.lt_of_lt_of_le hj hB3.size, by omega⟩))
      exact ⟨_, rfl, World.ownsRow_nil _ _ _ _, hB4.trans (hk5.below (fun j hj => ⟨Nat.lt_of_lt_of_le hj hB4.size, by omega⟩))⟩
end Go.Proofs.Ytaikhiodpieghaa
