/-
  Layer 9: a step that is none: the program's call.
-/
import Derived.Test.YtjkialmhajbcfaaDoorBunV
namespace Go.Proofs.YtjkialmhajbcfaaDoor
open Go.RowKit Fld Slp
set_option linter.unusedVariables false
set_option linter.unusedSimpArgs false

theorem valP_nil (n own : Nat) : valP n own [] = none := rfl
theorem stR_none {n own : Nat} {rs : List Tx} (h : stR n own rs = none) :
    ¬ rs.headD [] = [61] ∨ (rs.headD [] = [61] ∧ rs.tail.tail = [] ∧ nmb (rs.tail.headD []) 18446744073709551615 = none) ∨ (∃ x s y z q, rs = [61] :: x :: s :: y :: z :: q) ∨
      (∃ x s r, rs = [61] :: x :: s :: r ∧ r.tail = [] ∧ (valP n own x = none ∨ (∃ a, valP n own x = some a ∧ (valP n own (r.headD []) = none ∨ ∃ b, valP n own (r.headD []) = some b ∧ sgP s = none)))) := by
  by_cases h0 : rs.headD [] = [61]
  · right
    match rs, h, h0 with
    | [], _, h0 => cases h0
    | [a], _, h0 => exact .inl ⟨h0, rfl, rfl⟩
    | [a, b], h, h0 =>
      left
      refine ⟨h0, rfl, ?_⟩
      have ha : a = [61] := h0
      have h' : (if a = [61] then (match nmb b 18446744073709551615 with | some c => some (⟨4, 0, 0, (c : Int)⟩ : O4) | none => none) else none) = none := h
      rw [if_pos ha] at h'
      show nmb b _ = none
      cases hn : nmb b 18446744073709551615 with
      | none => rfl
      | some c => rw [hn] at h'; cases h'
    | [a, b, c], _, h0 =>
      right; right
      have ha : a = [61] := h0
      refine ⟨b, c, [], by rw [ha], rfl, ?_⟩
      cases hv : valP n own b with
      | none => exact .inl rfl
      | some v => exact .inr ⟨v, rfl, .inl rfl⟩
    | [a, b, c, d], h, h0 =>
      right; right
      have ha : a = [61] := h0
      refine ⟨b, c, [d], by rw [ha], rfl, ?_⟩
      have h' : (if a = [61] then (match valP n own b, sgP c, valP n own d with | some x, some k, some y => some (⟨k, x, y, 0⟩ : O4) | _, _, _ => none) else none) = none := h
      rw [if_pos ha] at h'
      cases hv : valP n own b with
      | none => exact .inl rfl
      | some v =>
        refine .inr ⟨v, rfl, ?_⟩
        show valP n own d = none ∨ _
        cases hw : valP n own d with
        | none => exact .inl rfl
        | some u =>
          refine .inr ⟨u, hw, ?_⟩
          cases hs : sgP c with
          | none => rfl
          | some k => rw [hv, hw, hs] at h'; cases h'
    | a :: b :: c :: d :: e :: q, _, h0 =>
      right; left
      have ha : a = [61] := h0
      exact ⟨b, c, d, e, q, by rw [ha]⟩
  · exact .inl h0

set_option maxRecDepth 100000 in
set_option maxHeartbeats 1000000 in
theorem sStep_no (w : World) (rb lb mb n : Nat) (line : Int) (vo : Value) (ops : List O4) (vu : Value) (outs : List Int) (whole : Bool) (rs : List Tx) (hR : RdS w rb line (n : Int) vo ops vu outs whole) (hw : Wds w lb mb rs) (h1 : rb < lb) (h2 : rb < mb) (hn : n ≤ 64) (ho : ops.length ≤ 256) (hs : stR n (n + ops.length) rs = none) (hT : ∀ W, Fr rb w W → Tb9 W) :
    Calls Tryd.prog 67 #[.pointer (some ⟨rb, 0, none⟩), nx lb mb] w fun e w' => e = .panicked (pan line) ∧ Fr rb w w' := by
  have hA := alloc_below w (.cells #[.int .u8 0, .int .i64 0, .int .i64 0, .int .u64 0] 47)
  have hlt := hR.lt
  have hw0 := hw.below hA
  have R0 := hR.below hA
  have F0 := Below.fr hA (Nat.le_of_lt hlt)
  have HT := hide hT
  clear hT hw hA
  rcases stR_none hs with hx | ⟨hx, hy, hz⟩ | ⟨x, s, y, z, q, hx⟩ | ⟨x, s, r, hx, hr, hv⟩
  · have HW := hide (sWantWord_no _ rb lb mb line _ vo ops vu outs whole rs [61] R0 hw0 hx)
    unfold tx at HW
    unfold nx at *
    clear hs hx
    go_enter Tryd.func67, Tryd.ntmps67
    go_wp2_with (first
      | (go_at_call 61; refine HW.out.mono ?_; rintro e W1 ⟨rfl, hk1⟩; have F1 := F0.trans (Kw.fr hk1 hw0 (Nat.le_of_lt h1) (Nat.le_of_lt h2) (Nat.le_of_lt R0.lt))))
    exact ⟨rfl, rfl, F1⟩
  · have HW := hide (sWantWord_ok _ rb lb mb rs [61] hw0 hx)
    unfold tx at HW
    unfold nx at *
    obtain ⟨d, HD⟩ : ∃ d, Hid (rs.tail.headD [] = d) := ⟨_, rfl⟩
    rw [HD.out] at hz
    have HY := hide hy
    clear hs hx hy
    go_enter Tryd.func67, Tryd.ntmps67
    go_wp2_with (first
      | (go_at_call 61; refine HW.out.mono ?_; rintro e W1 ⟨rfl, hw1, hk1⟩; have R1 := R0.kw hw0 hk1; have F1 := F0.trans (Kw.fr hk1 hw0 (Nat.le_of_lt h1) (Nat.le_of_lt h2) (Nat.le_of_lt R0.lt)); have HN := sNext W1 lb mb _ hw1; unfold NextOk at HN; rw [HD.out, HY.out] at HN)
      | (go_at_call 64; refine HN2.mono ?_; clear HN2; rintro e W3 ⟨rfl, hw3, hk3⟩; have R3 := R2.kw hw2 hk3; have F3 := F2.trans (Kw.fr hk3 hw2 (Nat.le_of_lt h1) (Nat.le_of_lt h2) (Nat.le_of_lt R2.lt)))
      | (go_at_call 64; refine HN.mono ?_; clear HN; rintro e W2 ⟨rfl, hw2, hk2⟩; have R2 := R1.kw hw1 hk2; have F2 := F1.trans (Kw.fr hk2 hw1 (Nat.le_of_lt h1) (Nat.le_of_lt h2) (Nat.le_of_lt R1.lt)); have hsh := hw1.short; rw [HD.out] at hsh; have HN2 := sNext W2 lb mb _ hw2; unfold NextOk at HN2)
      | (go_at_call 74; refine (sNumber_no rb d line _ hz hsh R3.c0 (HT.out _ F3)).mono ?_; rintro e W4 ⟨rfl, hb4⟩; have F4 := F3.trans (Below.fr hb4 (Nat.le_of_lt R3.lt))))
    exact ⟨rfl, rfl, F4⟩
  · subst hx
    have HW := hide (sWantWord_ok _ rb lb mb _ [61] hw0 rfl)
    unfold tx at HW
    unfold nx at *
    clear hs
    go_enter Tryd.func67, Tryd.ntmps67
    go_wp2_with (first
      | (go_at_call 61; refine HW.out.mono ?_; rintro e W1 ⟨rfl, hw1, hk1⟩; have R1 := R0.kw hw0 hk1; have F1 := F0.trans (Kw.fr hk1 hw0 (Nat.le_of_lt h1) (Nat.le_of_lt h2) (Nat.le_of_lt R0.lt)); have HN := sNext W1 lb mb _ hw1; unfold NextOk at HN)
      | (go_at_call 64; refine HN3.mono ?_; clear HN3; rintro e W4 ⟨rfl, hw4, hk4⟩; have R4 := R3.kw hw3 hk4; have F4 := F3.trans (Kw.fr hk4 hw3 (Nat.le_of_lt h1) (Nat.le_of_lt h2) (Nat.le_of_lt R3.lt)))
      | (go_at_call 64; refine HN2.mono ?_; clear HN2; rintro e W3 ⟨rfl, hw3, hk3⟩; have R3 := R2.kw hw2 hk3; have F3 := F2.trans (Kw.fr hk3 hw2 (Nat.le_of_lt h1) (Nat.le_of_lt h2) (Nat.le_of_lt R2.lt)); have HN3 := sNext W3 lb mb _ hw3; unfold NextOk at HN3)
      | (go_at_call 64; refine HN.mono ?_; clear HN; rintro e W2 ⟨rfl, hw2, hk2⟩; have R2 := R1.kw hw1 hk2; have F2 := F1.trans (Kw.fr hk2 hw1 (Nat.le_of_lt h1) (Nat.le_of_lt h2) (Nat.le_of_lt R1.lt)); have HN2 := sNext W2 lb mb _ hw2; unfold NextOk at HN2)
      | (go_at_call 63; refine (sWantEnd_no _ rb lb mb line _ vo ops vu outs whole z q R4 hw4).mono ?_; rintro e W5 ⟨rfl, hk5⟩; have F5 := F4.trans (Kw.fr hk5 hw4 (Nat.le_of_lt h1) (Nat.le_of_lt h2) (Nat.le_of_lt R4.lt))))
    exact ⟨rfl, rfl, F5⟩
  · subst hx
    have HW := hide (sWantWord_ok _ rb lb mb _ [61] hw0 rfl)
    have HK := hide (fun W => sKindOf s W)
    unfold tx at HW
    unfold nx at *
    obtain ⟨y, HY⟩ : ∃ y, Hid (r.headD [] = y) := ⟨_, rfl⟩
    have HRr := hide hr
    rw [HY.out] at hv
    clear hs hr
    rcases hv with hv | ⟨a, hv, hu | ⟨b, hu, hk⟩⟩
    · go_enter Tryd.func67, Tryd.ntmps67
      go_wp2_with (first
        | (go_at_call 61; refine HW.out.mono ?_; rintro e W1 ⟨rfl, hw1, hk1⟩; have R1 := R0.kw hw0 hk1; have F1 := F0.trans (Kw.fr hk1 hw0 (Nat.le_of_lt h1) (Nat.le_of_lt h2) (Nat.le_of_lt R0.lt)); have HN := sNext W1 lb mb _ hw1; unfold NextOk at HN)
        | (go_at_call 64; refine HN3.mono ?_; clear HN3; rintro e W4 ⟨rfl, hw4, hk4⟩; rw [HRr.out] at hw4; have R4 := R3.kw hw3 hk4; have F4 := F3.trans (Kw.fr hk4 hw3 (Nat.le_of_lt h1) (Nat.le_of_lt h2) (Nat.le_of_lt R3.lt)))
        | (go_at_call 64; refine HN2.mono ?_; clear HN2; rintro e W3 ⟨rfl, hw3, hk3⟩; have hw3 : Wds W3 lb mb r := hw3; have R3 := R2.kw hw2 hk3; have F3 := F2.trans (Kw.fr hk3 hw2 (Nat.le_of_lt h1) (Nat.le_of_lt h2) (Nat.le_of_lt R2.lt)); have HN3 := sNext W3 lb mb r hw3; unfold NextOk at HN3; rw [HY.out] at HN3)
        | (go_at_call 64; refine HN.mono ?_; clear HN; rintro e W2 ⟨rfl, hw2, hk2⟩; have R2 := R1.kw hw1 hk2; have F2 := F1.trans (Kw.fr hk2 hw1 (Nat.le_of_lt h1) (Nat.le_of_lt h2) (Nat.le_of_lt R1.lt)); have hsx := hw1.short; have HN2 := sNext W2 lb mb _ hw2; unfold NextOk at HN2)
        | (go_at_call 63; refine (sWantEnd_ok _ rb lb mb hw4).mono ?_; rintro e W5 ⟨rfl, hk5⟩; have R5 := R4.kw hw4 hk5; have F5 := F4.trans (Kw.fr hk5 hw4 (Nat.le_of_lt h1) (Nat.le_of_lt h2) (Nat.le_of_lt R4.lt)))
        | (go_at_call 77; refine (HK.out _).mono ?_; rintro e W6 ⟨rfl, hW6⟩; rw [hW6])
        | (go_at_call 76; refine (sValue_no W5 rb n line vo ops vu outs whole x R5 hn ho hv hsx (HT.out _ F5)).mono ?_; rintro e W7 ⟨rfl, hb7⟩; have F7 := F5.trans (Below.fr hb7 (Nat.le_of_lt R5.lt))))
      exact ⟨rfl, rfl, F7⟩
    · go_enter Tryd.func67, Tryd.ntmps67
      go_wp2_with (first
        | (go_at_call 61; refine HW.out.mono ?_; rintro e W1 ⟨rfl, hw1, hk1⟩; have R1 := R0.kw hw0 hk1; have F1 := F0.trans (Kw.fr hk1 hw0 (Nat.le_of_lt h1) (Nat.le_of_lt h2) (Nat.le_of_lt R0.lt)); have HN := sNext W1 lb mb _ hw1; unfold NextOk at HN)
        | (go_at_call 64; refine HN3.mono ?_; clear HN3; rintro e W4 ⟨rfl, hw4, hk4⟩; rw [HRr.out] at hw4; have R4 := R3.kw hw3 hk4; have F4 := F3.trans (Kw.fr hk4 hw3 (Nat.le_of_lt h1) (Nat.le_of_lt h2) (Nat.le_of_lt R3.lt)))
        | (go_at_call 64; refine HN2.mono ?_; clear HN2; rintro e W3 ⟨rfl, hw3, hk3⟩; have hw3 : Wds W3 lb mb r := hw3; have R3 := R2.kw hw2 hk3; have F3 := F2.trans (Kw.fr hk3 hw2 (Nat.le_of_lt h1) (Nat.le_of_lt h2) (Nat.le_of_lt R2.lt)); have hsy := hw3.short; rw [HY.out] at hsy; have HN3 := sNext W3 lb mb r hw3; unfold NextOk at HN3; rw [HY.out] at HN3)
        | (go_at_call 64; refine HN.mono ?_; clear HN; rintro e W2 ⟨rfl, hw2, hk2⟩; have R2 := R1.kw hw1 hk2; have F2 := F1.trans (Kw.fr hk2 hw1 (Nat.le_of_lt h1) (Nat.le_of_lt h2) (Nat.le_of_lt R1.lt)); have hsx := hw1.short; have HN2 := sNext W2 lb mb _ hw2; unfold NextOk at HN2)
        | (go_at_call 63; refine (sWantEnd_ok _ rb lb mb hw4).mono ?_; rintro e W5 ⟨rfl, hk5⟩; have R5 := R4.kw hw4 hk5; have F5 := F4.trans (Kw.fr hk5 hw4 (Nat.le_of_lt h1) (Nat.le_of_lt h2) (Nat.le_of_lt R4.lt)); have HV1 := sValue_ok W5 rb n line vo ops vu outs whole x a R5 hn ho hv hsx)
        | (go_at_call 77; refine (HK.out _).mono ?_; rintro e W6 ⟨rfl, hW6⟩; rw [hW6])
        | (go_at_call 76; refine HV2.mono ?_; clear HV2; rintro e W8 ⟨rfl, hb8⟩; have F8 := F7.trans (Below.fr hb8 (Nat.le_of_lt R7.lt)))
        | (go_at_call 76; refine HV1.mono ?_; clear HV1; rintro e W7 ⟨rfl, hb7⟩; have R7 := R5.below hb7; have F7 := F5.trans (Below.fr hb7 (Nat.le_of_lt R5.lt)); have HV2 := sValue_no W7 rb n line vo ops vu outs whole y R7 hn ho hu hsy (HT.out _ F7)))
      exact ⟨rfl, rfl, F8⟩
    · rw [hk] at HK
      go_enter Tryd.func67, Tryd.ntmps67
      go_wp2_with (first
        | (go_at_call 61; refine HW.out.mono ?_; rintro e W1 ⟨rfl, hw1, hk1⟩; have R1 := R0.kw hw0 hk1; have F1 := F0.trans (Kw.fr hk1 hw0 (Nat.le_of_lt h1) (Nat.le_of_lt h2) (Nat.le_of_lt R0.lt)); have HN := sNext W1 lb mb _ hw1; unfold NextOk at HN)
        | (go_at_call 64; refine HN3.mono ?_; clear HN3; rintro e W4 ⟨rfl, hw4, hk4⟩; rw [HRr.out] at hw4; have R4 := R3.kw hw3 hk4; have F4 := F3.trans (Kw.fr hk4 hw3 (Nat.le_of_lt h1) (Nat.le_of_lt h2) (Nat.le_of_lt R3.lt)))
        | (go_at_call 64; refine HN2.mono ?_; clear HN2; rintro e W3 ⟨rfl, hw3, hk3⟩; have hw3 : Wds W3 lb mb r := hw3; have R3 := R2.kw hw2 hk3; have F3 := F2.trans (Kw.fr hk3 hw2 (Nat.le_of_lt h1) (Nat.le_of_lt h2) (Nat.le_of_lt R2.lt)); have hsy := hw3.short; rw [HY.out] at hsy; have HN3 := sNext W3 lb mb r hw3; unfold NextOk at HN3; rw [HY.out] at HN3)
        | (go_at_call 64; refine HN.mono ?_; clear HN; rintro e W2 ⟨rfl, hw2, hk2⟩; have R2 := R1.kw hw1 hk2; have F2 := F1.trans (Kw.fr hk2 hw1 (Nat.le_of_lt h1) (Nat.le_of_lt h2) (Nat.le_of_lt R1.lt)); have hsx := hw1.short; have HN2 := sNext W2 lb mb _ hw2; unfold NextOk at HN2)
        | (go_at_call 63; refine (sWantEnd_ok _ rb lb mb hw4).mono ?_; rintro e W5 ⟨rfl, hk5⟩; have R5 := R4.kw hw4 hk5; have F5 := F4.trans (Kw.fr hk5 hw4 (Nat.le_of_lt h1) (Nat.le_of_lt h2) (Nat.le_of_lt R4.lt)); have HV1 := sValue_ok W5 rb n line vo ops vu outs whole x a R5 hn ho hv hsx)
        | (go_at_call 77; refine (HK.out _).mono ?_; rintro e W6 ⟨rfl, hW6⟩; rw [hW6])
        | (go_at_call 76; refine HV2.mono ?_; clear HV2; rintro e W8 ⟨rfl, hb8⟩; have R8 := R7.below hb8; have F8 := F7.trans (Below.fr hb8 (Nat.le_of_lt R7.lt)); have hA9 := alloc_below W8 (.cells #[.int .u8 0, .int .i64 a, .int .i64 b, .int .u64 0] 47); have R9 := R8.below hA9; have F9 := F8.trans (Below.fr hA9 (Nat.le_of_lt R8.lt)))
        | (go_at_call 76; refine HV1.mono ?_; clear HV1; rintro e W7 ⟨rfl, hb7⟩; have R7 := R5.below hb7; have F7 := F5.trans (Below.fr hb7 (Nat.le_of_lt R5.lt)); have HV2 := sValue_ok W7 rb n line vo ops vu outs whole y b R7 hn ho hu hsy)
        | (go_at_call 50; refine (sWant_no rb line _ R9.c0).mono ?_; rintro e W10 ⟨rfl, hW10⟩; rw [hW10]))
      exact ⟨rfl, rfl, F9⟩

end Go.Proofs.YtjkialmhajbcfaaDoor
