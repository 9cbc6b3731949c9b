/-
  FieldSums' walk: one walk for every case, over what the callees answer.
-/
import Derived.Test.YtepbfcioocohgaaRefC
import Derived.Test.YtepbfcioocohgaaAnch
namespace Go.Proofs.Ytepbfcioocohgaa
open Go.RowKit Fld
set_option linter.unusedVariables false

set_option maxRecDepth 100000 in
set_option maxHeartbeats 1000000 in
theorem sums_walk (f a b : Int) (w : World) (P e x1 e1 x2 e2 x3 e3 x4 e4 : Int) (b1 b2 : Bool)
    (h : (e = 0 ∧ P ≠ 0) ∨ (e = 2 ∧ P = 0))
    (hP : Ans 9 #[.int .u8 f] (.tuple #[.int .u64 P, .int .i64 e]))
    (rP : Ans 10 #[.int .u8 f] (.int .u64 P))
    (h1 : Ans 11 #[.int .u8 f, .int .u64 a, .int .u64 b] (.tuple #[.int .u64 x1, .int .i64 e1]))
    (r1 : Ans 12 #[.int .u8 f, .int .u64 a, .int .u64 b] (.tuple #[.int .u64 x1, .int .i64 e1]))
    (h2 : Ans 13 #[.int .u8 f, .int .u64 a, .int .u64 b] (.tuple #[.int .u64 x2, .int .i64 e2]))
    (r2 : Ans 14 #[.int .u8 f, .int .u64 a, .int .u64 b] (.tuple #[.int .u64 x2, .int .i64 e2]))
    (h3 : Ans 15 #[.int .u8 f, .int .u64 a, .int .u64 b] (.tuple #[.int .u64 x3, .int .i64 e3]))
    (r3 : Ans 16 #[.int .u8 f, .int .u64 a, .int .u64 b] (.tuple #[.int .u64 x3, .int .i64 e3]))
    (h4 : Ans 17 #[.int .u8 f, .int .u64 a, .int .u64 b] (.tuple #[.int .u64 x4, .int .i64 e4]))
    (r4 : Ans 18 #[.int .u8 f, .int .u64 a, .int .u64 b] (.tuple #[.int .u64 x4, .int .i64 e4]))
    (i2 : ∀ W v, Row W v [a, b] → Calls Try.prog 19 #[.int .u8 f, v] W fun e w' => e = .returned (.bool b1) ∧ Below W.heap.size W w')
    (j2 : ∀ W v, Row W v [a, b] → Calls Try.prog 20 #[.int .u8 f, v] W fun e w' => e = .returned (.bool b1) ∧ w' = W)
    (i0 : Ans 19 #[.int .u8 f, .slice none 0 0] (.bool b2))
    (j0 : Ans 20 #[.int .u8 f, .slice none 0 0] (.bool b2))
    (row : ∀ W : World, Row (W.alloc (.cells #[.int .u64 a, .int .u64 b] 22)) (.slice (some ⟨W.heap.size, 0, none⟩) 2 2) [a, b]) :
    Calls Try.prog 3 #[.int .u8 f, .int .u64 a, .int .u64 b] w fun e w' => e = .returned (.bool true) ∧ Below w.heap.size w w' := by
  have i2 := hide i2
  have j2 := hide j2
  have row := hide row
  have hB := Below.refl w.heap.size w
  have hq : (P != 0) = (e == 0) := by rcases h with ⟨rfl, hne⟩ | ⟨rfl, rfl⟩ <;> simp_all
  have he : e = 0 ∨ e = 2 := by rcases h with ⟨rfl, hne⟩ | ⟨rfl, rfl⟩ <;> simp
  clear h
  rcases he with rfl | rfl
  all_goals
    simp only [Int.reduceBEq] at hq
    go_enter Try.func3, Try.ntmps3
    go_wp2_with (first
      | (go_at_call 9; refine (hP _).mono ?_; rintro e w1 ⟨rfl, hb⟩; have hB := Below.next hB hb)
      | (go_at_call 10; refine (rP _).mono ?_; rintro e w1 ⟨rfl, hb⟩; have hB := Below.next hB hb)
      | (go_at_call 11; refine (h1 _).mono ?_; rintro e w1 ⟨rfl, hb⟩; have hB := Below.next hB hb)
      | (go_at_call 12; refine (r1 _).mono ?_; rintro e w1 ⟨rfl, hb⟩; have hB := Below.next hB hb)
      | (go_at_call 13; refine (h2 _).mono ?_; rintro e w1 ⟨rfl, hb⟩; have hB := Below.next hB hb)
      | (go_at_call 14; refine (r2 _).mono ?_; rintro e w1 ⟨rfl, hb⟩; have hB := Below.next hB hb)
      | (go_at_call 15; refine (h3 _).mono ?_; rintro e w1 ⟨rfl, hb⟩; have hB := Below.next hB hb)
      | (go_at_call 16; refine (r3 _).mono ?_; rintro e w1 ⟨rfl, hb⟩; have hB := Below.next hB hb)
      | (go_at_call 17; refine (h4 _).mono ?_; rintro e w1 ⟨rfl, hb⟩; have hB := Below.next hB hb)
      | (go_at_call 18; refine (r4 _).mono ?_; rintro e w1 ⟨rfl, hb⟩; have hB := Below.next hB hb)
      | fail)
    refine (i2.out _ _ (row.out _)).mono ?_
    rintro e w1 ⟨rfl, hb⟩
    have hB := Below.next hB (below_one hb)
    go_wp2_with fail
    refine (j2.out _ _ (row.out _)).mono ?_
    rintro e w1 ⟨rfl, hw⟩
    subst hw
    have hB := hB.alloc hB.size (.cells #[.int .u64 a, .int .u64 b] 22)
    go_wp2_with fail
    refine (i0 _).mono ?_
    rintro e w1 ⟨rfl, hb⟩
    have hB := Below.next hB hb
    go_wp2_with fail
    refine (j0 _).mono ?_
    rintro e w1 ⟨rfl, hb⟩
    have hB := Below.next hB hb
    go_wp2
    go_ret
    exact ⟨rfl, hB⟩

/-- Whatever the numbers: FieldSums answers true. -/
theorem sums_any (f a b : Int) (w : World) (ha : 0 ≤ a ∧ a ≤ 18446744073709551615) (hb : 0 ≤ b ∧ b ≤ 18446744073709551615) :
    Calls Try.prog 3 #[.int .u8 f, .int .u64 a, .int .u64 b] w fun e w' => e = .returned (.bool true) ∧ Below w.heap.size w w' := by
  have row := fun W => row2 W a b ha hb 22
  rcases Fi_or f with ⟨p, wd, hf⟩ | ⟨n1, n2⟩
  · have hp := hf.pos
    by_cases h1 : a < p
    · have ea : El p a := ⟨ha.1, h1⟩
      by_cases h2 : b < p
      · have eb : El p b := ⟨hb.1, h2⟩
        exact sums_walk f a b w p 0 _ 0 _ 0 _ 0 _ 0 true true (.inl ⟨rfl, by omega⟩) (fun W => Prime_yes f p wd W hf) (Ans.of_same fun W => rP_yes f p wd W hf)
          (fun W => Add_yes f p a b wd W hf ea eb) (fun W => rAdd_yes f p a b wd W hf ea eb) (fun W => Sub_yes f p a b wd W hf ea eb) (fun W => rSub_yes f p a b wd W hf ea eb)
          (fun W => Mul_yes f p a b wd W hf ea eb) (fun W => rMul_yes f p a b wd W hf ea eb) (fun W => Pow_yes f p a b wd W hf ea hb) (fun W => rPow_yes f p a b wd W hf ea hb)
          (fun W v hr => In_yes f p wd v _ W hf hr (allIn2 ea eb)) (fun W v hr => rIn_yes f p wd v _ W hf hr (allIn2 ea eb))
          (fun W => In_yes f p wd _ [] W hf (row0 W) rfl) (Ans.of_same fun W => rIn_yes f p wd _ [] W hf (row0 W) rfl) row
      · have bad : Bad f [a, b] := Bad.of_snd hf h2
        exact sums_walk f a b w p 0 0 2 0 2 0 2 _ 0 false true (.inl ⟨rfl, by omega⟩) (fun W => Prime_yes f p wd W hf) (Ans.of_same fun W => rP_yes f p wd W hf)
          (fun W => Add_no f a b W bad ha hb) (fun W => rAdd_no f a b W bad ha hb) (fun W => Sub_no f a b W bad ha hb) (fun W => rSub_no f a b W bad ha hb)
          (fun W => Mul_no f a b W bad ha hb) (fun W => rMul_no f a b W bad ha hb) (fun W => Pow_yes f p a b wd W hf ea hb) (fun W => rPow_yes f p a b wd W hf ea hb)
          (fun W v hr => In_no f v _ W bad hr) (fun W v hr => rIn_no f v _ W bad hr)
          (fun W => In_yes f p wd _ [] W hf (row0 W) rfl) (Ans.of_same fun W => rIn_yes f p wd _ [] W hf (row0 W) rfl) row
    · have bad : Bad f [a, b] := Bad.of_fst hf h1 [b]
      have bad1 : Bad f [a] := Bad.of_fst hf h1 []
      exact sums_walk f a b w p 0 0 2 0 2 0 2 0 2 false true (.inl ⟨rfl, by omega⟩) (fun W => Prime_yes f p wd W hf) (Ans.of_same fun W => rP_yes f p wd W hf)
        (fun W => Add_no f a b W bad ha hb) (fun W => rAdd_no f a b W bad ha hb) (fun W => Sub_no f a b W bad ha hb) (fun W => rSub_no f a b W bad ha hb)
        (fun W => Mul_no f a b W bad ha hb) (fun W => rMul_no f a b W bad ha hb) (fun W => Pow_no f a b W bad1 ha) (fun W => rPow_no f a b W bad1 ha hb)
        (fun W v hr => In_no f v _ W bad hr) (fun W v hr => rIn_no f v _ W bad hr)
        (fun W => In_yes f p wd _ [] W hf (row0 W) rfl) (Ans.of_same fun W => rIn_yes f p wd _ [] W hf (row0 W) rfl) row
  · have bad : ∀ l, Bad f l := fun l => .inl ⟨n1, n2⟩
    exact sums_walk f a b w 0 2 0 2 0 2 0 2 0 2 false false (.inr ⟨rfl, rfl⟩) (fun W => Prime_no f W n1 n2) (Ans.of_same fun W => rP_no f W n1 n2)
      (fun W => Add_no f a b W (bad _) ha hb) (fun W => rAdd_no f a b W (bad _) ha hb) (fun W => Sub_no f a b W (bad _) ha hb) (fun W => rSub_no f a b W (bad _) ha hb)
      (fun W => Mul_no f a b W (bad _) ha hb) (fun W => rMul_no f a b W (bad _) ha hb) (fun W => Pow_no f a b W (bad _) ha) (fun W => rPow_no f a b W (bad _) ha hb)
      (fun W v hr => In_no f v _ W (bad _) hr) (fun W v hr => rIn_no f v _ W (bad _) hr)
      (fun W => In_no f _ [] W (bad _) (row0 W)) (Ans.of_same fun W => rIn_no f _ [] W (bad _) (row0 W)) row

end Go.Proofs.Ytepbfcioocohgaa
