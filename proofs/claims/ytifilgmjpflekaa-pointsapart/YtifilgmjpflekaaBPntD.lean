/-
  Layer 13: the program's Worker.
-/
import Derived.Test.YtifilgmjpflekaaBPntC
namespace Go.Proofs.Ytifilgmjpflekaa
open Go.RowKit Fld Pln
set_option linter.unusedVariables false
set_option linter.unusedSimpArgs false

theorem wk_no {p : Pn} {x : Int} (h : mayP p = false ∨ inF p.f [x] = false) : wkE p x = 2 ∧ wkB p x = false ∧ wkI p x = 0 := by
  have e : wkE p x = 2 := by
    unfold wkE
    rcases h with h | h
    · rw [h]; rfl
    · rw [h]; split <;> rfl
  have e2 : wkB p x = false := by unfold wkB; rw [e]; simp
  exact ⟨e, e2, by unfold wkI; rw [e2]; rfl⟩
theorem wk_far {p : Pn} {x : Int} (h : mayP p = true) (h2 : inF p.f [x] = true) (h3 : x < p.k + p.t ∨ p.n ≤ x - (p.k + p.t)) : wkE p x = 0 ∧ wkB p x = false ∧ wkI p x = 0 := by
  have e : wkE p x = 0 := by unfold wkE; rw [h, h2]; rfl
  have e2 : wkB p x = false := by unfold wkB; rw [e]; apply decide_eq_false; omega
  exact ⟨e, e2, by unfold wkI; rw [e2]; rfl⟩
theorem wk_here {p : Pn} {x : Int} (h : mayP p = true) (h2 : inF p.f [x] = true) (h3 : p.k + p.t ≤ x) (h4 : x - (p.k + p.t) < p.n) : wkE p x = 0 ∧ wkB p x = true ∧ wkI p x = x - (p.k + p.t) := by
  have e : wkE p x = 0 := by unfold wkE; rw [h, h2]; rfl
  have e2 : wkB p x = true := by unfold wkB; rw [e]; exact decide_eq_true ⟨rfl, h3, h4⟩
  exact ⟨e, e2, by unfold wkI; rw [e2]; rfl⟩

set_option maxRecDepth 100000 in
set_option maxHeartbeats 400000 in
theorem gWorker (p : Pn) (x : Int) (w : World) (h : Ok8p p) (hx : 0 ≤ x ∧ x ≤ 18446744073709551615) : Calls Try.prog 11 #[plv p, .int .u64 x] w fun e w' => e = .returned (.tuple #[.int .i64 (wkI p x), .bool (wkB p x), .int .i64 (wkE p x)]) ∧ Below w.heap.size w w' := by
  have HM := hide (gMay p h)
  have HI := hide (fun W => gIsElement p.f x W hx)
  obtain ⟨pb, hA⟩ := pb_box (w := w) p
  cases hm : mayP p with
  | false =>
    obtain ⟨e1, e2, e3⟩ := wk_no (x := x) (.inl hm)
    rw [e1, e2, e3]
    rw [hm] at HM
    clear hm h HI e1 e2 e3
    unfold plv plw at *
    go_enter Try.func11, Try.ntmps11
    go_wp2_with (go_at_call 23; refine (HM.out _).mono ?_; rintro e w1 ⟨rfl, hb1⟩)
    go_ret3
    exact ⟨rfl, Below.next hA hb1⟩
  | true =>
    rw [hm] at HM
    obtain ⟨⟨n0, n1⟩, ⟨k0, k1⟩, ⟨t0, t1⟩, _⟩ := may_facts hm
    cases hi : inF p.f [x] with
    | false =>
      obtain ⟨e1, e2, e3⟩ := wk_no (x := x) (.inr hi)
      rw [e1, e2, e3]
      rw [hi] at HI
      clear hm h e1 e2 e3 hi
      unfold plv plw at *
      go_enter Try.func11, Try.ntmps11
      go_wp2_with (first
        | (go_at_call 23; refine (HM.out _).mono ?_; rintro e w1 ⟨rfl, hb1⟩; obtain ⟨c0, c1, c2, c3, c4, c5, c6, c7⟩ := (pb.below hb1).cells; have hA1 := Below.next hA hb1)
        | (go_at_call 30; refine (HI.out _).mono ?_; rintro e w2 ⟨rfl, hb2⟩))
      go_ret3
      exact ⟨rfl, Below.next hA1 hb2⟩
    | true =>
      rw [hi] at HI
      by_cases h3 : x < p.k + p.t
      · obtain ⟨e1, e2, e3⟩ := wk_far hm hi (.inl h3)
        rw [e1, e2, e3]
        clear hm h e1 e2 e3 hi
        unfold plv plw at *
        go_enter Try.func11, Try.ntmps11
        go_wp2_with (first
          | (go_at_call 23; refine (HM.out _).mono ?_; rintro e w1 ⟨rfl, hb1⟩; obtain ⟨c0, c1, c2, c3, c4, c5, c6, c7⟩ := (pb.below hb1).cells; have hA1 := Below.next hA hb1)
          | (go_at_call 30; refine (HI.out _).mono ?_; rintro e w2 ⟨rfl, hb2⟩; clear c0 c1 c2 c3 c4 c5 c6 c7; obtain ⟨c0, c1, c2, c3, c4, c5, c6, c7⟩ := (pb.below (Below.next hb1 hb2)).cells))
        go_ret3
        exact ⟨rfl, Below.next hA1 hb2⟩
      · by_cases h4 : p.n ≤ x - (p.k + p.t)
        · obtain ⟨e1, e2, e3⟩ := wk_far hm hi (.inr h4)
          rw [e1, e2, e3]
          clear hm h e1 e2 e3 hi
          unfold plv plw at *
          go_enter Try.func11, Try.ntmps11
          go_wp2_with (first
            | (go_at_call 23; refine (HM.out _).mono ?_; rintro e w1 ⟨rfl, hb1⟩; obtain ⟨c0, c1, c2, c3, c4, c5, c6, c7⟩ := (pb.below hb1).cells; have hA1 := Below.next hA hb1)
            | (go_at_call 30; refine (HI.out _).mono ?_; rintro e w2 ⟨rfl, hb2⟩; clear c0 c1 c2 c3 c4 c5 c6 c7; obtain ⟨c0, c1, c2, c3, c4, c5, c6, c7⟩ := (pb.below (Below.next hb1 hb2)).cells))
          go_ret3
          exact ⟨rfl, Below.next hA1 hb2⟩
        · obtain ⟨e1, e2, e3⟩ := wk_here hm hi (by omega) (by omega)
          rw [e1, e2, e3]
          clear hm h e1 e2 e3 hi
          unfold plv plw at *
          go_enter Try.func11, Try.ntmps11
          go_wp2_with (first
            | (go_at_call 23; refine (HM.out _).mono ?_; rintro e w1 ⟨rfl, hb1⟩; obtain ⟨c0, c1, c2, c3, c4, c5, c6, c7⟩ := (pb.below hb1).cells; have hA1 := Below.next hA hb1)
            | (go_at_call 30; refine (HI.out _).mono ?_; rintro e w2 ⟨rfl, hb2⟩; clear c0 c1 c2 c3 c4 c5 c6 c7; obtain ⟨c0, c1, c2, c3, c4, c5, c6, c7⟩ := (pb.below (Below.next hb1 hb2)).cells))
          go_ret3
          exact ⟨rfl, Below.next hA1 hb2⟩

end Go.Proofs.Ytifilgmjpflekaa
