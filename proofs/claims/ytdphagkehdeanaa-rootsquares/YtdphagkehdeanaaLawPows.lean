/-
  RootPowers' walk: one walk for every case, over what the callees answer.
-/
import Derived.Test.YtdphagkehdeanaaRootP
import Derived.Test.YtdphagkehdeanaaRootE
import Derived.Test.YtdphagkehdeanaaSame
namespace Go.Proofs.Ytdphagkehdeanaa
open Go.RowKit Fld
set_option linter.unusedVariables false

/-- A call that answers a list and an error, and writes nothing old. -/
def AnsL (k : FuncId) (args : Array Value) (xs : List Int) (e0 : Int) : Prop :=
  ∀ W, Calls Try.prog k args W fun e w' => ∃ v, e = .returned (.tuple #[v, .int .i64 e0]) ∧ Row w' v xs ∧ Below W.heap.size W w'
theorem AnsL.none {k : FuncId} {args : Array Value} {e0 : Int} (h : Ans k args (.tuple #[.slice none 0 0, .int .i64 e0])) : AnsL k args [] e0 := fun W =>
  (h W).mono fun e w' ⟨he, hb⟩ => ⟨_, he, row0 w', hb⟩

/-- Three ints in a block right behind w0. -/
def Box3 (w0 : World) (a b c : Int) (w : World) : Prop :=
  w.cell? ⟨w0.heap.size, 0, none⟩ = some (.int .i64 a) ∧ w.cell? ⟨w0.heap.size, 1, none⟩ = some (.int .i64 b) ∧ w.cell? ⟨w0.heap.size, 2, none⟩ = some (.int .i64 c) ∧ w0.heap.size < w.heap.size ∧ Below w0.heap.size w0 w
theorem Box3.below {w0 w w1 : World} {a b c : Int} (h : Box3 w0 a b c w) (hb : Below w.heap.size w w1) : Box3 w0 a b c w1 :=
  ⟨(hb.cell (p := ⟨w0.heap.size, 0, none⟩) h.2.2.2.1).trans h.1, (hb.cell (p := ⟨w0.heap.size, 1, none⟩) h.2.2.2.1).trans h.2.1, (hb.cell (p := ⟨w0.heap.size, 2, none⟩) h.2.2.2.1).trans h.2.2.1, Nat.lt_of_lt_of_le h.2.2.2.1 hb.size, h.2.2.2.2.trans (hb.mono h.2.2.2.2.size)⟩
theorem Box3.first (w : World) (a b c : Int) (T : TypeId) : Box3 w a b c (w.alloc (.cells #[.int .i64 a, .int .i64 b, .int .i64 c] T)) :=
  ⟨by simp [go_sem], by simp [go_sem], by simp [go_sem], by simp, (Below.refl _ _).alloc (Nat.le_refl _) _⟩

set_option maxRecDepth 100000 in
set_option maxHeartbeats 1000000 in
theorem pows_walk (f a n c d : Int) (w : World) (e0 m h : Int) (xs : List Int)
    (h1 : AnsL 14 #[.int .u8 f, .int .u64 a, .int .i64 n] xs e0)
    (r1 : AnsL 15 #[.int .u8 f, .int .u64 a, .int .i64 n] xs e0)
    (h2 : Ans 16 #[.int .i64 c, .int .i64 d] (.tuple #[.int .i64 m, .int .i64 h]))
    (r2 : Ans 17 #[.int .i64 c, .int .i64 d] (.tuple #[.int .i64 m, .int .i64 h])) :
    Calls Try.prog 4 #[.int .u8 f, .int .u64 a, .agg #[.int .i64 n, .int .i64 c, .int .i64 d]] w fun e w' => e = .returned (.bool true) ∧ Below w.heap.size w w' := by
  have h1 := hide h1
  have r1 := hide r1
  have h2 := hide h2
  have r2 := hide r2
  go_enter Try.func4, Try.ntmps4
  go_wp2_with (first
    | (go_at_call 14; refine (h1.out _).mono ?_; rintro e w1 ⟨v1, rfl, hr1, hb⟩; have hB := (Box3.first w n c d 38).below hb; clear hb; have c0 := hB.1; have c1 := hB.2.1; have c2 := hB.2.2.1; have R1 := hide hr1; clear hr1)
    | (go_at_call 15; refine (r1.out _).mono ?_; rintro e w2 ⟨v2, rfl, hr2, hb⟩; have hB := hB.below hb; have R1 := hide (R1.out.below hb); have R2 := hide hr2; clear hb hr2 c0 c1 c2; have c0 := hB.1; have c1 := hB.2.1; have c2 := hB.2.2.1)
    | (go_at_call 16; refine (h2.out _).mono ?_; rintro e w3 ⟨rfl, hb⟩; have hB := hB.below hb; have R1 := hide (R1.out.below hb); have R2 := hide (R2.out.below hb); clear hb c0 c1 c2; have c0 := hB.1; have c1 := hB.2.1; have c2 := hB.2.2.1)
    | (go_at_call 17; refine (r2.out _).mono ?_; rintro e w4 ⟨rfl, hb⟩; have hB := hB.below hb; have R1 := hide (R1.out.below hb); have R2 := hide (R2.out.below hb); clear hb c0 c1 c2; have c0 := hB.1; have c1 := hB.2.1; have c2 := hB.2.2.1)
    | (go_at_call 18; refine (Same_yes v1 v2 xs _ R1.out R2.out).mono ?_; rintro e w5 ⟨rfl, hb⟩; have hB := hB.below hb))
  go_ret
  exact ⟨rfl, hB.2.2.2.2⟩

theorem NoFlip_or (c d : Int) : (∃ n L : Nat, c = n ∧ d = L ∧ L ≤ 32 ∧ n < 2 ^ L) ∨ NoFlip c d := by
  by_cases h1 : d < 0
  · exact .inr (.inl h1)
  by_cases h2 : 32 < d
  · exact .inr (.inr (.inl h2))
  by_cases h3 : c < 0
  · exact .inr (.inr (.inr (.inl h3)))
  obtain ⟨L, rfl⟩ := Int.eq_ofNat_of_zero_le (show 0 ≤ d by omega)
  obtain ⟨n, rfl⟩ := Int.eq_ofNat_of_zero_le (show 0 ≤ c by omega)
  by_cases h4 : n < 2 ^ L
  · exact .inl ⟨n, L, rfl, rfl, by omega, h4⟩
  · exact .inr (.inr (.inr (.inr ⟨L, rfl, by omega, n, rfl, by omega⟩)))

theorem Flip_both (c d : Int) : ∃ m h : Int, Ans 16 #[.int .i64 c, .int .i64 d] (.tuple #[.int .i64 m, .int .i64 h]) ∧ Ans 17 #[.int .i64 c, .int .i64 d] (.tuple #[.int .i64 m, .int .i64 h]) := by
  rcases NoFlip_or c d with ⟨n, L, rfl, rfl, hL, hn⟩ | h
  · exact ⟨_, 0, Ans.of_same fun W => Flip_yes n L W hL hn, Ans.of_same fun W => rFlip_yes n L W hL hn⟩
  · exact ⟨0, 2, Ans.of_same fun W => Flip_no c d W h, Ans.of_same fun W => rFlip_no c d W h⟩

theorem Powers_both (f a n : Int) (ha : 0 ≤ a ∧ a ≤ 18446744073709551615) : ∃ (xs : List Int) (e0 : Int),
    AnsL 14 #[.int .u8 f, .int .u64 a, .int .i64 n] xs e0 ∧ AnsL 15 #[.int .u8 f, .int .u64 a, .int .i64 n] xs e0 := by
  rcases Fi_or f with ⟨p, wd, h⟩ | ⟨h1, h2⟩
  · by_cases hp : a < p
    · have hE : El p a := ⟨ha.1, hp⟩
      by_cases h0 : n < 0
      · exact ⟨[], 2, .none fun W => Powers_out f p wd a n 2 W h hE (.inl ⟨h0, rfl⟩), .none fun W => rPowers_out f p wd a n 2 W h hE (.inl ⟨h0, rfl⟩)⟩
      by_cases h3 : 4096 < n
      · exact ⟨[], 4, .none fun W => Powers_out f p wd a n 4 W h hE (.inr ⟨h3, rfl⟩), .none fun W => rPowers_out f p wd a n 4 W h hE (.inr ⟨h3, rfl⟩)⟩
      obtain ⟨k, rfl⟩ := Int.eq_ofNat_of_zero_le (show 0 ≤ n by omega)
      exact ⟨_, 0, fun W => Powers_yes f p wd a k W h hE (by omega), fun W => rPowers_yes f p wd a k W h hE (by omega)⟩
    · exact ⟨[], 2, .none fun W => Powers_no f a n W ha (Bad.of_fst h hp []), .none fun W => rPowers_no f a n W ha (Bad.of_fst h hp [])⟩
  · exact ⟨[], 2, .none fun W => Powers_no f a n W ha (.inl ⟨h1, h2⟩), .none fun W => rPowers_no f a n W ha (.inl ⟨h1, h2⟩)⟩

theorem pows_any (f a n c d : Int) (w : World) (ha : 0 ≤ a ∧ a ≤ 18446744073709551615) :
    Calls Try.prog 4 #[.int .u8 f, .int .u64 a, .agg #[.int .i64 n, .int .i64 c, .int .i64 d]] w fun e w' => e = .returned (.bool true) ∧ Below w.heap.size w w' := by
  obtain ⟨xs, e0, h1, r1⟩ := Powers_both f a n ha
  obtain ⟨m, h, h2, r2⟩ := Flip_both c d
  exact pows_walk f a n c d w e0 m h xs h1 r1 h2 r2

end Go.Proofs.Ytdphagkehdeanaa
