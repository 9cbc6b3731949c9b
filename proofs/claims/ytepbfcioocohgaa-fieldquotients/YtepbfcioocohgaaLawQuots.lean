/-
  FieldQuotients' walk.
-/
import Derived.Test.YtepbfcioocohgaaRefC
import Derived.Test.YtepbfcioocohgaaAnch
namespace Go.Proofs.Ytepbfcioocohgaa
open Go.RowKit Fld
set_option linter.unusedVariables false

set_option maxRecDepth 100000 in
set_option maxHeartbeats 1000000 in
theorem quots_walk (f a b : Int) (w : World) (P x e u i : Int)
    (h : P ≠ 0 ∨ (P = 0 ∧ e = 2 ∧ i = 2 ∧ x = 0 ∧ u = 0))
    (rP : Ans 10 #[.int .u8 f] (.int .u64 P))
    (h1 : Ans 21 #[.int .u8 f, .int .u64 a] (.tuple #[.int .u64 x, .int .i64 e]))
    (r1 : Ans 22 #[.int .u8 f, .int .u64 1, .int .u64 a] (.tuple #[.int .u64 x, .int .i64 e]))
    (h2 : Ans 23 #[.int .u8 f, .int .u64 a, .int .u64 b] (.tuple #[.int .u64 u, .int .i64 i]))
    (r2 : Ans 22 #[.int .u8 f, .int .u64 a, .int .u64 b] (.tuple #[.int .u64 u, .int .i64 i])) :
    Calls Try.prog 4 #[.int .u8 f, .int .u64 a, .int .u64 b] w fun e w' => e = .returned (.bool true) ∧ Below w.heap.size w w' := by
  have hB := Below.refl w.heap.size w
  have hA := anchored_any
  rcases h with hne | ⟨rfl, rfl, rfl, rfl, rfl⟩
  · have hq : (P == 0) = false := beq_eq_false_iff_ne.2 hne
    clear hne
    go_enter Try.func4, Try.ntmps4
    go_wp2_with fail
    refine (h1 _).mono ?_; rintro e w1 ⟨rfl, hb⟩; have hB := Below.next hB hb
    go_wp2_with fail
    refine (r1 _).mono ?_; rintro e w1 ⟨rfl, hb⟩; have hB := Below.next hB hb
    go_wp2_with fail
    refine (h2 _).mono ?_; rintro e w1 ⟨rfl, hb⟩; have hB := Below.next hB hb
    go_wp2_with fail
    refine (r2 _).mono ?_; rintro e w1 ⟨rfl, hb⟩; have hB := Below.next hB hb
    go_wp2_with fail
    refine (rP _).mono ?_; rintro e w1 ⟨rfl, hb⟩; have hB := Below.next hB hb
    go_wp2
    go_ret
    exact ⟨rfl, hB⟩
  · go_enter Try.func4, Try.ntmps4
    go_wp2_with fail
    refine (h1 _).mono ?_; rintro e w1 ⟨rfl, hb⟩; have hB := Below.next hB hb
    go_wp2_with fail
    refine (r1 _).mono ?_; rintro e w1 ⟨rfl, hb⟩; have hB := Below.next hB hb
    go_wp2_with fail
    refine (h2 _).mono ?_; rintro e w1 ⟨rfl, hb⟩; have hB := Below.next hB hb
    go_wp2_with fail
    refine (r2 _).mono ?_; rintro e w1 ⟨rfl, hb⟩; have hB := Below.next hB hb
    go_wp2_with fail
    refine (rP _).mono ?_; rintro e w1 ⟨rfl, hb⟩; have hB := Below.next hB hb
    go_wp2_with fail
    refine (hA _).mono ?_; rintro e w1 ⟨rfl, hb⟩; have hB := Below.next hB hb
    go_wp2
    go_ret
    exact ⟨rfl, hB⟩

/-- Both quotients are one pair, whatever the field and the numbers. -/
theorem quot_pair (f a b : Int) (ha : 0 ≤ a ∧ a ≤ 18446744073709551615) (hb : 0 ≤ b ∧ b ≤ 18446744073709551615) :
    ∃ x e, ((f ≠ 1 ∧ f ≠ 2) → e = 2 ∧ x = 0) ∧ Ans 23 #[.int .u8 f, .int .u64 a, .int .u64 b] (.tuple #[.int .u64 x, .int .i64 e]) ∧
      Ans 22 #[.int .u8 f, .int .u64 a, .int .u64 b] (.tuple #[.int .u64 x, .int .i64 e]) := by
  rcases Fi_or f with ⟨p, wd, hf⟩ | ⟨n1, n2⟩
  · have hno : ¬ (f ≠ 1 ∧ f ≠ 2) := by rcases hf with ⟨h, _⟩ | ⟨h, _⟩ <;> omega
    by_cases h1 : a < p
    · have ea : El p a := ⟨ha.1, h1⟩
      by_cases h2 : b < p
      · have eb : El p b := ⟨hb.1, h2⟩
        by_cases h0 : b = 0
        · subst h0
          exact ⟨0, 5, fun h => absurd h hno, fun W => Div_zero f p a wd W hf ea, fun W => rDiv_zero f p a wd W hf ea⟩
        · have hb0 : 0 < b := by omega
          exact ⟨_, 0, fun h => absurd h hno, fun W => Div_yes f p a b wd W hf ea eb hb0, fun W => rDiv_yes f p a b wd W hf ea eb hb0⟩
      · have bad : Bad f [a, b] := Bad.of_snd hf h2
        exact ⟨0, 2, fun _ => ⟨rfl, rfl⟩, fun W => Div_no f a b W bad ha hb, fun W => rDiv_no f a b W bad ha hb⟩
    · have bad : Bad f [a, b] := Bad.of_fst hf h1 [b]
      exact ⟨0, 2, fun _ => ⟨rfl, rfl⟩, fun W => Div_no f a b W bad ha hb, fun W => rDiv_no f a b W bad ha hb⟩
  · exact ⟨0, 2, fun _ => ⟨rfl, rfl⟩, fun W => Div_no f a b W (.inl ⟨n1, n2⟩) ha hb, fun W => rDiv_no f a b W (.inl ⟨n1, n2⟩) ha hb⟩

theorem quots_any (f a b : Int) (w : World) (ha : 0 ≤ a ∧ a ≤ 18446744073709551615) (hb : 0 ≤ b ∧ b ≤ 18446744073709551615) :
    Calls Try.prog 4 #[.int .u8 f, .int .u64 a, .int .u64 b] w fun e w' => e = .returned (.bool true) ∧ Below w.heap.size w w' := by
  obtain ⟨x, e, n1, h1, r1⟩ := quot_pair f 1 a ⟨by decide, by decide⟩ ha
  obtain ⟨u, i, n2, h2, r2⟩ := quot_pair f a b ha hb
  have hI : Ans 21 #[.int .u8 f, .int .u64 a] (.tuple #[.int .u64 x, .int .i64 e]) := fun W => Inv_of f a x e W (h1 W)
  rcases Fi_or f with ⟨p, wd, hf⟩ | ⟨m1, m2⟩
  · have hp := hf.pos
    exact quots_walk f a b w p x e u i (.inl (by omega)) (Ans.of_same fun W => rP_yes f p wd W hf) hI r1 h2 r2
  · obtain ⟨e1, e2⟩ := n1 ⟨m1, m2⟩
    obtain ⟨e3, e4⟩ := n2 ⟨m1, m2⟩
    exact quots_walk f a b w 0 x e u i (.inr ⟨rfl, e1, e3, e2, e4⟩) (Ans.of_same fun W => rP_no f W m1 m2) hI r1 h2 r2

end Go.Proofs.Ytepbfcioocohgaa
