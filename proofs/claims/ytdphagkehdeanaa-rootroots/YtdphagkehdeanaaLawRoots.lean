/-
  RootRoots' walk: one walk for every case, over what the callees answer.
-/
import Derived.Test.YtdphagkehdeanaaRootS
namespace Go.Proofs.Ytdphagkehdeanaa
open Go.RowKit Fld
set_option linter.unusedVariables false

set_option maxRecDepth 100000 in
set_option maxHeartbeats 1000000 in
theorem roots_walk (f l a : Int) (w : World) (n m e x h u j : Int) (ok : Bool)
    (hc : (m = -1 ∧ e = 2 ∧ n = 0) ∨ (0 ≤ m ∧ e = 0 ∧ n = m))
    (h1 : Ans 7 #[.int .u8 f] (.tuple #[.int .i64 n, .int .i64 e]))
    (r1 : Ans 8 #[.int .u8 f] (.int .i64 m))
    (h2 : Ans 9 #[.int .u8 f, .int .i64 l] (.tuple #[.int .u64 x, .int .i64 h]))
    (r2 : Ans 10 #[.int .u8 f, .int .i64 l] (.tuple #[.int .u64 x, .int .i64 h]))
    (h3 : Ans 11 #[.int .u8 f, .int .u64 a] (.tuple #[.int .i64 u, .bool ok, .int .i64 j]))
    (r3 : Ans 12 #[.int .u8 f, .int .u64 a] (.tuple #[.int .i64 u, .bool ok, .int .i64 j])) :
    Calls Try.prog 3 #[.int .u8 f, .int .i64 l, .int .u64 a] w fun e w' => e = .returned (.bool true) ∧ Below w.heap.size w w' := by
  have h4 := anchored2_any
  have hB := Below.refl w.heap.size w
  rcases hc with ⟨rfl, rfl, rfl⟩ | ⟨hm, rfl, rfl⟩
  all_goals
    go_enter Try.func3, Try.ntmps3
    go_wp2_with (first
      | (go_at_call 7; refine (h1 _).mono ?_; rintro e w1 ⟨rfl, hb⟩; have hB := Below.next hB hb)
      | (go_at_call 8; refine (r1 _).mono ?_; rintro e w1 ⟨rfl, hb⟩; have hB := Below.next hB hb)
      | (go_at_call 9; refine (h2 _).mono ?_; rintro e w1 ⟨rfl, hb⟩; have hB := Below.next hB hb)
      | (go_at_call 10; refine (r2 _).mono ?_; rintro e w1 ⟨rfl, hb⟩; have hB := Below.next hB hb)
      | (go_at_call 11; refine (h3 _).mono ?_; rintro e w1 ⟨rfl, hb⟩; have hB := Below.next hB hb)
      | (go_at_call 12; refine (r3 _).mono ?_; rintro e w1 ⟨rfl, hb⟩; have hB := Below.next hB hb)
      | (go_at_call 13; refine (h4 _).mono ?_; rintro e w1 ⟨rfl, hb⟩; have hB := Below.next hB hb)
      | fail)
    go_ret
    exact ⟨rfl, hB⟩

theorem least_or (P : Nat → Prop) (n : Nat) : (∃ k, k ≤ n ∧ P k ∧ ∀ i, i < k → ¬ P i) ∨ ∀ i, i ≤ n → ¬ P i := by
  induction n with
  | zero =>
    by_cases h : P 0
    · exact .inl ⟨0, Nat.le_refl _, h, fun i hi => by omega⟩
    · exact .inr fun i hi => by obtain rfl : i = 0 := by omega
                                exact h
  | succ n ih =>
    rcases ih with ⟨k, hk, h1, h2⟩ | h
    · exact .inl ⟨k, by omega, h1, h2⟩
    · by_cases hp : P (n + 1)
      · exact .inl ⟨n + 1, Nat.le_refl _, hp, fun i hi => h i (by omega)⟩
      · exact .inr fun i hi => by
          by_cases he : i = n + 1
          · rw [he]; exact hp
          · exact h i (by omega)

/-- Root and the document's Root answer alike. -/
theorem Root_both (f l : Int) : ∃ x h : Int, Ans 9 #[.int .u8 f, .int .i64 l] (.tuple #[.int .u64 x, .int .i64 h]) ∧ Ans 10 #[.int .u8 f, .int .i64 l] (.tuple #[.int .u64 x, .int .i64 h]) := by
  rcases Lb_or f with ⟨p, wd, L, g, h⟩ | ⟨h1, h2⟩
  · by_cases hl : l < 0 ∨ (L : Int) < l
    · exact ⟨0, 2, fun W => Root_out f p wd L g l W h hl, Ans.of_same fun W => rRoot_out f p wd L g l W h hl⟩
    · obtain ⟨k, rfl⟩ := Int.eq_ofNat_of_zero_le (show 0 ≤ l by omega)
      exact ⟨_, 0, fun W => Root_yes f p wd L g k W h (by omega), Ans.of_same fun W => rRoot_yes f p wd L g k W h (by omega)⟩
  · exact ⟨0, 2, fun W => Root_nof f l W h1 h2, Ans.of_same fun W => rRoot_nof f l W h1 h2⟩

/-- Log and the document's Log answer alike. -/
theorem Log_both (f a : Int) (ha : 0 ≤ a ∧ a ≤ 18446744073709551615) : ∃ (u : Int) (ok : Bool) (j : Int),
    Ans 11 #[.int .u8 f, .int .u64 a] (.tuple #[.int .i64 u, .bool ok, .int .i64 j]) ∧ Ans 12 #[.int .u8 f, .int .u64 a] (.tuple #[.int .i64 u, .bool ok, .int .i64 j]) := by
  rcases Lb_or f with ⟨p, wd, L, g, h⟩ | ⟨h1, h2⟩
  · by_cases hp : a < p
    · by_cases h0 : a = 0
      · subst h0
        exact ⟨0, false, 5, fun W => Log_zero f p wd L g W h, fun W => rLog_zero f p wd W h.fi⟩
      · have hE : El p a := ⟨ha.1, hp⟩
        rcases least_or (fun k => sq p a k = 1) L with ⟨k, hk, hk1, hk2⟩ | hn
        · exact ⟨k, true, 0, fun W => Log_of f p wd L g a k true W h hE h0 (fun W => logOf_yes f p wd L g a k W h.fi h.le.2 hE hk hk1 hk2), fun W => rLog_yes f p wd L g a k W h hE h0 hk hk1 hk2⟩
        · exact ⟨0, false, 0, fun W => Log_of f p wd L g a 0 false W h hE h0 (fun W => logOf_no f p wd L g a W h.fi h.le.2 hE hn), fun W => rLog_none f p wd L g a W h hE h0 hn⟩
    · exact ⟨0, false, 2, fun W => Log_out f p wd L g a W h ha hp, fun W => rLog_no f a W ha (Bad.of_fst h.fi hp [])⟩
  · exact ⟨0, false, 2, fun W => Log_nof f a W h1 h2, fun W => rLog_no f a W ha (.inl ⟨h1, h2⟩)⟩

theorem roots_any (f l a : Int) (w : World) (ha : 0 ≤ a ∧ a ≤ 18446744073709551615) :
    Calls Try.prog 3 #[.int .u8 f, .int .i64 l, .int .u64 a] w fun e w' => e = .returned (.bool true) ∧ Below w.heap.size w w' := by
  obtain ⟨x, h, h2, r2⟩ := Root_both f l
  obtain ⟨u, ok, j, h3, r3⟩ := Log_both f a ha
  rcases Lb_or f with ⟨p, wd, L, g, hb⟩ | ⟨k1, k2⟩
  · exact roots_walk f l a w L L 0 x h u j ok (.inr ⟨Int.natCast_nonneg _, rfl, rfl⟩) (fun W => Two_yes f p wd L g W hb) (Ans.of_same fun W => rTwo_yes f p wd L g W hb) h2 r2 h3 r3
  · exact roots_walk f l a w 0 (-1) 2 x h u j ok (.inl ⟨rfl, rfl, rfl⟩) (fun W => Two_no f W k1 k2) (Ans.of_same fun W => rTwo_no f W k1 k2) h2 r2 h3 r3

end Go.Proofs.Ytdphagkehdeanaa
