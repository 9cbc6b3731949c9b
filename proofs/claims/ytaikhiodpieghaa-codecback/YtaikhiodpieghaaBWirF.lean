import Derived.Test.YtaikhiodpieghaaBWirE
set_option linter.unusedVariables false
set_option linter.unusedSimpArgs false
set_option maxRecDepth 100000
set_option maxHeartbeats 4000000
namespace Go.Proofs.Ytaikhiodpieghaa
open Go.RowKit Fld
def rdF (g : Nat) : Value := .func (.func 58) #[] #[.pointer (some ⟨g, 0, none⟩)]
theorem wNextCount (g : Nat) (bs : List Int) (w0 w : World) (hR : Rdr w0 w g bs) :
 Calls Try.prog 51 #[rdF g] w fun e w' => e = .returned (.tuple #[.int .i64 (rcN bs), .int .i64 (rcE bs)]) ∧ (rcE bs = 0 -> Rdr w0 w' g (bs.drop 4)) ∧ Kq (fun j => j < w.heap.size ∧ j ≠ g) w w' := by
 unfold rdF
 by_cases h4 : bs.length < 4
 · have H := hide (wNext_short 4 g bs w0 w hR h4 (by decide))
   have e1 : rcE bs = 7 := by unfold rcE; rw [if_pos h4]
   have e2 : rcN bs = 0 := by unfold rcN; rw [if_neg (by rw [e1]; decide)]
   rw [e1, e2]
   clear hR e1 e2
   go_enter Try.func51, Try.ntmps51
   go_wp2_with (go_at_call 58; refine H.out.mono ?_; rintro e w1 ⟨rfl, hw1⟩; subst hw1)
   go_ret2
   exact ⟨rfl, (fun h => by cases h), Kq.refl _ _⟩
 · have H := hide (wNext_long 4 g bs w0 w hR (by omega) (by decide) (by decide))
   have hy : By bs := by obtain ⟨_, ⟨v, _, hv⟩, _, _⟩ := hR; exact hv.by
   have hb := tk8_bd (hy.take 4)
   rw [List.length_take, Nat.min_eq_left (by omega), show (256 : Int) ^ 4 = 4294967296 by decide] at hb
   obtain ⟨b0, b1⟩ := hb
   clear hR hy
   by_cases hm : 2147483647 < tk8 (bs.take 4)
   · have e1 : rcE bs = 8 := by unfold rcE; rw [if_neg h4, if_pos hm]
     have e2 : rcN bs = 0 := by unfold rcN; rw [if_neg (by rw [e1]; decide)]
     rw [e1, e2]
     clear e1 e2
     generalize tk8 (bs.take 4) = n at *
     go_enter Try.func51, Try.ntmps51
     go_wp2_with (go_at_call 58; refine H.out.mono ?_; rintro e w1 ⟨rfl, hr1, hk1⟩)
     go_ret2
     exact ⟨rfl, (fun h => by cases h), hk1⟩
   · have e1 : rcE bs = 0 := by unfold rcE; rw [if_neg h4, if_neg hm]
     have e2 : rcN bs = tk8 (bs.take 4) := by unfold rcN; rw [if_pos e1]
     rw [e1, e2]
     clear e1 e2
     generalize tk8 (bs.take 4) = n at *
     go_enter Try.func51, Try.ntmps51
     go_wp2_with (go_at_call 58; refine H.out.mono ?_; rintro e w1 ⟨rfl, hr1, hk1⟩)
     go_ret2
     exact ⟨rfl, (fun _ => hr1), hk1⟩
theorem wReadCount (v : Value) (bs : List Int) (w : World) (h : Rb w v bs) :
 Calls Try.prog 55 #[v] w fun e w' => e = .returned (.tuple #[.int .i64 (rcN bs), .int .i64 (rcS bs), .int .i64 (rcE bs)]) ∧ Below w.heap.size w w' := by
 have H1 := hide (wReader v bs w w h (Below.refl _ _))
 have H2 := hide (fun g W (hr : Rdr w W g bs) => wNextCount g bs w W hr)
 unfold rdF at H2
 obtain ⟨ao, cap, rfl, _⟩ := h.spell
 clear h
 rcases rcE_or bs with he | he | he
 · have e2 : rcS bs = 4 := by unfold rcS; rw [if_pos he]
   rw [he, e2]
   rw [he] at H2
   clear he e2
   generalize rcN bs = n at *
   go_enter Try.func55, Try.ntmps55
   go_wp2_with (first
    | (go_at_call 52; refine H1.out.mono ?_; rintro e w1 ⟨g, rfl, hr1, hg1, hb1⟩)
    | (go_at_call 51; refine (H2.out _ _ hr1).mono ?_; rintro e w2 ⟨rfl, hr2, hk2⟩))
   go_ret3
   exact ⟨rfl, hb1.trans (hk2.below (fun j hj => ⟨Nat.lt_of_lt_of_le hj hb1.size, by omega⟩))⟩
 all_goals
  have e2 : rcS bs = 0 := by unfold rcS; rw [if_neg (by rw [he]; decide)]
  have e3 : rcN bs = 0 := by unfold rcN; rw [if_neg (by rw [he]; decide)]
  rw [he, e2, e3]
  rw [he, e3] at H2
  clear he e2 e3
  go_enter Try.func55, Try.ntmps55
  go_wp2_with (first
   | (go_at_call 52; refine H1.out.mono ?_; rintro e w1 ⟨g, rfl, hr1, hg1, hb1⟩)
   | (go_at_call 51; refine (H2.out _ _ hr1).mono ?_; rintro e w2 ⟨rfl, hr2, hk2⟩))
  go_ret3
  exact ⟨rfl, hb1.trans (hk2.below (fun j hj => ⟨Nat.lt_of_lt_of_le hj hb1.size, by omega⟩))⟩
def GivesB (N : Nat) (args : Array Value) (w : World) (e : Int) (bs : List Int) : Prop :=
 Calls Try.prog N args w fun r w' => ∃ v', r = .returned (.tuple #[v', .int .i64 e]) ∧ w'.ownsRow w.heap.size 5 1 v' bs.length (valb bs) ∧ Below w.heap.size w w'
theorem ctE_or (n : Int) : (0 <= n ∧ n <= 2147483647 ∧ ctE n = 0 ∧ ctL n = wd8 n 4) ∨ (¬ (0 <= n ∧ n <= 2147483647) ∧ ctE n = 2 ∧ ctL n = []) := by
 by_cases h : 0 <= n ∧ n <= 2147483647
 · have e : ctE n = 0 := by unfold ctE; rw [if_pos h]
   exact .inl ⟨h.1, h.2, e, by unfold ctL; rw [if_pos e]⟩
 · have e : ctE n = 2 := by unfold ctE; rw [if_neg h]
   exact .inr ⟨h, e, by unfold ctL; rw [if_neg (by rw [e]; decide)]⟩
theorem wCount (n : Int) (w : World) (hn : -9223372036854775808 <= n ∧ n <= 9223372036854775807) : GivesB 32 #[.int .i64 n] w (ctE n) (ctL n) := by
 unfold GivesB
 rcases ctE_or n with ⟨h0, h1, e1, e2⟩ | ⟨h0, e1, e2⟩
 · have H := hide (wPut (.slice none 0 0) 0 4 [] n w w ⟨h0, by omega⟩ (by decide) (by decide) (World.ownsRow_nil _ _ _ _) (Below.refl _ _))
   rw [e1, e2, wd8_len]
   rw [List.nil_append] at H
   clear e1 e2
   generalize wd8 n 4 = bs at *
   go_enter Try.func32, Try.ntmps32
   go_wp2_with (go_at_call 34; refine H.out.mono ?_; rintro e w1 ⟨v1, rfl, ho1, hb1⟩)
   go_ret2
   exact ⟨_, rfl, ho1, hb1⟩
 · rw [e1, e2]
   clear e1 e2
   obtain ⟨n0, n1⟩ := hn
   have hcase : n < 0 ∨ (0 <= n ∧ 2147483647 < n) := by omega
   clear h0
   rcases hcase with h | ⟨h, h'⟩
   · go_enter Try.func32, Try.ntmps32
     go_wp2
     go_ret2
     exact ⟨_, rfl, World.ownsRow_nil _ _ _ _, Below.refl _ _⟩
   · go_enter Try.func32, Try.ntmps32
     go_wp2
     go_ret2
     exact ⟨_, rfl, World.ownsRow_nil _ _ _ _, Below.refl _ _⟩
theorem Rb.take {w : World} {ao : Option Addr} {n cap : Nat} {bs : List Int} (h : Rb w (.slice ao n cap) bs) {k : Nat} (hk : k <= bs.length) : Rb w (.slice ao k cap) (bs.take k) := by
 obtain ⟨ao', cap', h1, h2, h3, h4⟩ := h
 cases h1
 have hl : (bs.take k).length = k := by rw [List.length_take]; omega
 refine ⟨ao, cap, by rw [hl], ⟨by omega, by have := h2.2.1; omega, h2.2.2⟩, h3.take k, fun hne => ?_⟩
 have hk0 : 0 < k := by apply Nat.pos_of_ne_zero; intro h0; rw [h0] at hne; simp at hne
 obtain ⟨b, off, rfl, hb, hc⟩ := h4 (by intro h; rw [h] at hk; simp at hk; omega)
 refine ⟨b, off, rfl, hb, fun i hi => ?_⟩
 rw [hl] at hi
 rw [getD_take hi]; exact hc i (by omega)
theorem rReadCount (v : Value) (bs : List Int) (w : World) (h : Rb w v bs) :
 Calls Try.prog 45 #[v] w fun e w' => e = .returned (.tuple #[.int .i64 (rcN bs), .int .i64 (rcS bs), .int .i64 (rcE bs)]) ∧ w' = w := by
 by_cases h4 : bs.length < 4
 · have e1 : rcE bs = 7 := by unfold rcE; rw [if_pos h4]
   have e2 : rcN bs = 0 := by unfold rcN; rw [if_neg (by rw [e1]; decide)]
   have e3 : rcS bs = 0 := by unfold rcS; rw [if_neg (by rw [e1]; decide)]
   rw [e1, e2, e3]
   obtain ⟨ao, cap, rfl, _⟩ := h.spell
   clear h e1 e2 e3
   go_enter Try.func45, Try.ntmps45
   go_wp2
   go_ret3
   exact ⟨rfl, rfl⟩
 · obtain ⟨b, off, cap, rfl, hcp, _⟩ := h.form (by omega)
   have hb := tk8_bd (h.by.take 4)
   have H := hide (rTaken _ _ w (h.take (k := 4) (by omega)) (by rw [List.length_take]; omega))
   rw [List.length_take, Nat.min_eq_left (by omega), show (256 : Int) ^ 4 = 4294967296 by decide] at hb
   obtain ⟨b0, b1⟩ := hb
   have hc4 : (4 : Int) <= (cap : Int) := by omega
   clear h
   by_cases hm : 2147483647 < tk8 (bs.take 4)
   · have e1 : rcE bs = 8 := by unfold rcE; rw [if_neg h4, if_pos hm]
     have e2 : rcN bs = 0 := by unfold rcN; rw [if_neg (by rw [e1]; decide)]
     have e3 : rcS bs = 0 := by unfold rcS; rw [if_neg (by rw [e1]; decide)]
     rw [e1, e2, e3]
     clear e1 e2 e3
     generalize tk8 (bs.take 4) = n at *
     go_enter Try.func45, Try.ntmps45
     go_wp2_with (go_at_call 29; refine H.out.mono ?_; rintro e w1 ⟨rfl, hw1⟩; subst hw1)
     go_ret3
     exact ⟨rfl, rfl⟩
   · have e1 : rcE bs = 0 := by unfold rcE; rw [if_neg h4, if_neg hm]
     have e2 : rcN bs = tk8 (bs.take 4) := by unfold rcN; rw [if_pos e1]
     have e3 : rcS bs = 4 := by unfold rcS; rw [if_pos e1]
     rw [e1, e2, e3]
     clear e1 e2 e3
     generalize tk8 (bs.take 4) = n at *
     go_enter Try.func45, Try.ntmps45
     go_wp2_with (go_at_call 29; refine H.out.mono ?_; rintro e w1 ⟨rfl, hw1⟩; subst hw1)
     go_ret3
     exact ⟨rfl, rfl⟩
end Go.Proofs.Ytaikhiodpieghaa
