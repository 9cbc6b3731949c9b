import Derived.Test.YtaikhiodpieghaaBCdcE
set_option linter.unusedVariables false
set_option linter.unusedSimpArgs false
set_option maxRecDepth 100000
set_option maxHeartbeats 4000000
namespace Go.Proofs.Ytaikhiodpieghaa
open Go.RowKit Fld
theorem gKind_yes (p g : Nat) (bs : List Int) (w : World) (hU : Un w p g bs) (hp : p < w.heap.size) (h0 : 0 < bs.length) :
 Calls Try.prog 42 #[unF g] w fun e w' => e = .returned (.int .u8 (bs.getD 0 0)) ∧ Un w' p g (bs.drop 1) ∧ Kq (Bu w g) w w' := by
 have HL := hide (fun W (hu : Un W p g bs) (hq : p < W.heap.size) => gLeft 0 p g bs W hu hq (Nat.zero_le _))
 have HL1 := hide (fun W (hu : Un W p g bs) (hq : p < W.heap.size) => gLeft 1 p g bs W hu hq (by omega))
 have HU := hide hU
 have HP := hide hp
 have hi : (0 : Int) < (bs.length : Int) := by omega
 have HB := hide h0
 have hne := hU.ne
 obtain ⟨x, HX⟩ : ∃ x, Hid (bs.getD 0 0 = x) := ⟨_, rfl⟩
 rw [HX.out]
 clear hU hp
 rw [List.drop_zero] at HL
 unfold unF at *
 go_enter Try.func42, Try.ntmps42
 go_wp2_with (first
  | (go_at_call_of 54 (Value.int .i64 0); refine (HL.out _ HU.out HP.out).mono ?_; rintro e w1 ⟨v1, rfl, hv1, hu1, hk1⟩; obtain ⟨b1, o1, cap1, e1, _, _⟩ := hv1.1.form h0; subst e1; have HV1 := hide hv1)
  | (go_at_call 40; refine (gWant_ok _ _).mono ?_; rintro e w2 ⟨rfl, hw2⟩; rw [hw2]; clear hw2 w2)
  | (go_at_call_of 54 (Value.int .i64 1); refine (HL1.out _ hu1 (Nat.lt_of_lt_of_le HP.out hk1.size)).mono ?_; rintro e w3 ⟨v3, rfl, hv3, hu3, hk3⟩; have hv1' := HV1.out.kept hk3 ⟨Nat.lt_of_lt_of_le HP.out hk1.size, hne⟩; obtain ⟨_, c0, _⟩ := hv1'.1.at_ (k := 0) HB.out; rw [Nat.add_zero, HX.out] at c0))
 go_ret
 exact ⟨rfl, hu3, kq_next hk1 hk3⟩
theorem gKind_no (p g : Nat) (w : World) (hU : Un w p g []) (hp : p < w.heap.size) :
 Calls Try.prog 42 #[unF g] w fun e w' => e = .panicked (pan20 8) ∧ Kq (Bu w g) w w' := by
 have HL := hide (gLeft 0 p g [] w hU hp (Nat.zero_le _))
 clear hU hp
 unfold unF at *
 go_enter Try.func42, Try.ntmps42
 go_wp2_with (first
  | (go_at_call 54; refine HL.out.mono ?_; rintro e w1 ⟨v1, rfl, hv1, hu1, hk1⟩; obtain ⟨a1, c1, e1, _⟩ := hv1.1.spell; subst e1)
  | (go_at_call 40; refine (gWant_no _ _).mono ?_; rintro e w2 ⟨rfl, hw2⟩; rw [hw2]; clear hw2 w2))
 exact ⟨rfl, rfl, hk1⟩
theorem gCount_yes (p g : Nat) (bs : List Int) (w : World) (hU : Un w p g bs) (hp : p < w.heap.size) (he : rcE bs = 0) :
 Calls Try.prog 43 #[unF g] w fun e w' => e = .returned (.int .i64 (tk8 (bs.take 4))) ∧ Un w' p g (bs.drop 4) ∧ Kq (Bu w g) w w' := by
 have HL := hide (gLeft 0 p g bs w hU hp (Nat.zero_le _))
 have HL4 := hide (fun W (hu : Un W p g bs) (hq : p < W.heap.size) => gLeft 4 p g bs W hu hq (rcE_zero he).1)
 have HC := hide (fun W v (hr : Rb W v bs) => wReadCount v bs W hr)
 have HP := hide hp
 have e2 : rcN bs = tk8 (bs.take 4) := by unfold rcN; rw [if_pos he]
 have e3 : rcS bs = 4 := by unfold rcS; rw [if_pos he]
 rw [he, e2, e3] at HC
 clear hU hp he e2 e3
 rw [List.drop_zero] at HL
 unfold unF at *
 generalize tk8 (bs.take 4) = n at *
 go_enter Try.func43, Try.ntmps43
 go_wp2_with (first
  | (go_at_call_of 54 (Value.int .i64 0); refine HL.out.mono ?_; rintro e w1 ⟨v1, rfl, hv1, hu1, hk1⟩; obtain ⟨a1, c1, e1, _⟩ := hv1.1.spell; subst e1)
  | (go_at_call 55; refine (HC.out _ _ hv1.1).mono ?_; rintro e w2 ⟨rfl, hb2⟩; have hp1 := Nat.lt_of_lt_of_le HP.out hk1.size; have hu2 := hu1.below hp1 hb2; have hk2 := kq_next hk1 (kq_below hb2))
  | (go_at_call 40; refine (gWant_ok _ _).mono ?_; rintro e w3 ⟨rfl, hw3⟩; rw [hw3]; clear hw3 w3)
  | (go_at_call_of 54 (Value.int .i64 4); refine (HL4.out _ hu2 (Nat.lt_of_lt_of_le HP.out hk2.size)).mono ?_; rintro e w4 ⟨v4, rfl, hv4, hu4, hk4⟩))
 go_ret
 exact ⟨rfl, hu4, kq_next hk2 hk4⟩
theorem gCount_no (p g : Nat) (bs : List Int) (w : World) (hU : Un w p g bs) (hp : p < w.heap.size) (he : rcE bs ≠ 0) :
 Calls Try.prog 43 #[unF g] w fun e w' => e = .panicked (pan20 8) ∧ Kq (Bu w g) w w' := by
 have HL := hide (gLeft 0 p g bs w hU hp (Nat.zero_le _))
 have HC := hide (fun W v (hr : Rb W v bs) => wReadCount v bs W hr)
 have hb : (rcE bs == 0) = false := by simpa using he
 clear hU hp he
 rw [List.drop_zero] at HL
 unfold unF at *
 generalize rcE bs = ee at *
 generalize rcN bs = n at *
 generalize rcS bs = ss at *
 go_enter Try.func43, Try.ntmps43
 go_wp2_with (first
  | (go_at_call 54; refine HL.out.mono ?_; rintro e w1 ⟨v1, rfl, hv1, hu1, hk1⟩; obtain ⟨a1, c1, e1, _⟩ := hv1.1.spell; subst e1)
  | (go_at_call 55; refine (HC.out _ _ hv1.1).mono ?_; rintro e w2 ⟨rfl, hb2⟩; have hk2 := kq_next hk1 (kq_below hb2))
  | (go_at_call 40; refine (gWant_no _ _).mono ?_; rintro e w3 ⟨rfl, hw3⟩; rw [hw3]; clear hw3 w3))
 exact ⟨rfl, rfl, hk2⟩
theorem gList_yes (p g : Nat) (bs : List Int) (w : World) (hU : Un w p g bs) (hp : p < w.heap.size) (he : rlE bs = 0) :
 Calls Try.prog 44 #[unF g] w fun e w' => ∃ v', e = .returned (.tuple #[.int .u8 (rlF bs), v']) ∧ w'.ownsRow w.heap.size 48 1 v' (rlX bs).length (vals (rlX bs)) ∧ Un w' p g (bs.drop (5 + rlN bs * wF (rlF bs))) ∧ Kq (Bu w g) w w' := by
 have HL := hide (gLeft 0 p g bs w hU hp (Nat.zero_le _))
 have HL4 := hide (fun W (hu : Un W p g bs) (hq : p < W.heap.size) => gLeft (5 + rlN bs * wF (rlF bs)) p g bs W hu hq (rlE_zero he).2.2.2.2.1)
 have HC := hide (fun W v (hr : Rb W v bs) => wReadList v bs W hr)
 unfold GivesR8 at HC
 have HP := hide hp
 have hlt := hU.lt
 have HG := hide hlt
 obtain ⟨e1, e2, e3⟩ := rl_yes he
 rw [he, e1, e2, e3] at HC
 clear hU hp he e1 e2 e3 hlt
 rw [List.drop_zero] at HL
 unfold unF at *
 generalize 5 + rlN bs * wF (rlF bs) = sz at *
 generalize rlF bs = f at *
 generalize rlX bs = xs at *
 go_enter Try.func44, Try.ntmps44
 go_wp2_with (first
  | (go_at_call_of 54 (Value.int .i64 0); refine HL.out.mono ?_; rintro e w1 ⟨v1, rfl, hv1, hu1, hk1⟩; obtain ⟨a1, c1, e1, _⟩ := hv1.1.spell; subst e1)
  | (go_at_call 56; refine (HC.out _ _ hv1.1).mono ?_; rintro e w2 ⟨v2, rfl, ho2, hb2⟩; have hp1 := Nat.lt_of_lt_of_le HP.out hk1.size; have hu2 := hu1.below hp1 hb2; have hk2 := kq_next hk1 (kq_below hb2))
  | (go_at_call 40; refine (gWant_ok _ _).mono ?_; rintro e w3 ⟨rfl, hw3⟩; rw [hw3]; clear hw3 w3)
  | (go_at_call 54; refine (HL4.out _ hu2 (Nat.lt_of_lt_of_le HP.out hk2.size)).mono ?_; rintro e w4 ⟨v4, rfl, hv4, hu4, hk4⟩; have ho4 := hk4.own ho2 (fun b hb => ⟨own_top ho2 b hb, fun e => by have h1 := own_base ho2 b hb; have h2 := HG.out; have h3 := hk1.size; omega⟩)))
 go_ret2
 exact ⟨_, rfl, own_mono ho4 hk1.size, hu4, kq_next hk2 hk4⟩
theorem gList_no (p g : Nat) (bs : List Int) (w : World) (hU : Un w p g bs) (hp : p < w.heap.size) (he : rlE bs ≠ 0) :
 Calls Try.prog 44 #[unF g] w fun e w' => e = .panicked (pan20 8) ∧ Kq (Bu w g) w w' := by
 have HL := hide (gLeft 0 p g bs w hU hp (Nat.zero_le _))
 have HC := hide (fun W v (hr : Rb W v bs) => wReadList v bs W hr)
 unfold GivesR8 at HC
 have hb : (rlE bs == 0) = false := by simpa using he
 clear hU hp he
 rw [List.drop_zero] at HL
 unfold unF at *
 generalize rlE bs = ee at *
 generalize rlFo bs = f at *
 generalize rlLo bs = xs at *
 generalize rlSo bs = ss at *
 go_enter Try.func44, Try.ntmps44
 go_wp2_with (first
  | (go_at_call 54; refine HL.out.mono ?_; rintro e w1 ⟨v1, rfl, hv1, hu1, hk1⟩; obtain ⟨a1, c1, e1, _⟩ := hv1.1.spell; subst e1)
  | (go_at_call 56; refine (HC.out _ _ hv1.1).mono ?_; rintro e w2 ⟨v2, rfl, ho2, hb2⟩; have hk2 := kq_next hk1 (kq_below hb2))
  | (go_at_call 40; refine (gWant_no _ _).mono ?_; rintro e w3 ⟨rfl, hw3⟩; rw [hw3]; clear hw3 w3))
 exact ⟨rfl, rfl, hk2⟩
end Go.Proofs.Ytaikhiodpieghaa
