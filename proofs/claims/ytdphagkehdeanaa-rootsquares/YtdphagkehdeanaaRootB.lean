/-
  Roots: Log, or its error.
-/
import Derived.Test.YtdphagkehdeanaaRootA
namespace Go.Proofs.Ytdphagkehdeanaa
open Go.RowKit Fld
set_option linter.unusedVariables false

/-- A list of one word, one block behind. -/
theorem row1b (w : World) (o : Obj) (a : Int) (ha : 0 ≤ a ∧ a ≤ 18446744073709551615) (T : TypeId) :
    Row ((w.alloc o).alloc (.cells #[.int .u64 a] T)) (.slice (some ⟨w.heap.size + 1, 0, none⟩) 1 1) [a] := by
  have := row1 (w.alloc o) a ha T
  simpa using this

set_option maxHeartbeats 200000 in
theorem Log_nof (f a : Int) (w : World) (h1 : f ≠ 1) (h2 : f ≠ 2) :
    Calls Try.prog 11 #[.int .u8 f, .int .u64 a] w fun e w' => e = .returned (.tuple #[.int .i64 0, .bool false, .int .i64 2]) ∧ Below w.heap.size w w' := by
  have hx := hide (fun W => unityOf_no f W h1 h2)
  clear h1 h2
  go_enter Try.func11, Try.ntmps11
  go_wp2_with (go_at_call 22; refine (hx.out _).mono ?_; rintro e w1 ⟨rfl, hb⟩)
  exact bodyPost_ret (v := .tuple #[.int .i64 0, .bool false, .int .i64 2]) (by simp [results, Try.results11, go_sem]) rfl ⟨rfl, hb.alloc hb.size _⟩

set_option maxHeartbeats 200000 in
theorem Log_out (f p : Int) (wd : Bool) (L : Nat) (g a : Int) (w : World) (h : Lb f p wd L g) (ha : 0 ≤ a ∧ a ≤ 18446744073709551615) (hn : ¬ a < p) :
    Calls Try.prog 11 #[.int .u8 f, .int .u64 a] w fun e w' => e = .returned (.tuple #[.int .i64 0, .bool false, .int .i64 2]) ∧ Below w.heap.size w w' := by
  have hx := hide (fun W => unityOf_yes f p wd L g W h)
  have hi := hide (fun W v hr => In_no f v [a] W (Bad.of_fst h.fi hn []) hr)
  have hrow := hide (fun W o T => row1b W o a ha T)
  clear h ha hn
  go_enter Try.func11, Try.ntmps11
  go_wp2_with (first
    | (go_at_call 22; refine (hx.out _).mono ?_; rintro e w1 ⟨rfl, hb⟩)
    | (go_at_call 25; refine (hi.out _ _ (hrow.out _ _ _)).mono ?_; rintro e w2 ⟨rfl, hb2⟩))
  have := hb.size
  exact bodyPost_ret (v := .tuple #[.int .i64 0, .bool false, .int .i64 2]) (by simp [results, Try.results11, go_sem]) rfl ⟨rfl, (hb.alloc hb.size _).trans ((below_one hb2).mono (by simp; omega))⟩

set_option maxHeartbeats 200000 in
theorem Log_zero (f p : Int) (wd : Bool) (L : Nat) (g : Int) (w : World) (h : Lb f p wd L g) :
    Calls Try.prog 11 #[.int .u8 f, .int .u64 0] w fun e w' => e = .returned (.tuple #[.int .i64 0, .bool false, .int .i64 5]) ∧ Below w.heap.size w w' := by
  have h0 : El p 0 := ⟨by decide, h.fi.pos⟩
  have hx := hide (fun W => unityOf_yes f p wd L g W h)
  have hi := hide (fun W v hr => In_yes f p wd v [0] W h.fi hr (allIn1 h0))
  have hrow := hide (fun W o T => row1b W o 0 (by decide) T)
  clear h h0
  go_enter Try.func11, Try.ntmps11
  go_wp2_with (first
    | (go_at_call 22; refine (hx.out _).mono ?_; rintro e w1 ⟨rfl, hb⟩)
    | (go_at_call 25; refine (hi.out _ _ (hrow.out _ _ _)).mono ?_; rintro e w2 ⟨rfl, hb2⟩))
  have := hb.size
  exact bodyPost_ret (v := .tuple #[.int .i64 0, .bool false, .int .i64 5]) (by simp [results, Try.results11, go_sem]) rfl ⟨rfl, (hb.alloc hb.size _).trans ((below_one hb2).mono (by simp; omega))⟩

set_option maxHeartbeats 200000 in
theorem Log_of (f p : Int) (wd : Bool) (L : Nat) (g a k : Int) (ok : Bool) (w : World) (h : Lb f p wd L g) (ha : El p a) (h0 : a ≠ 0)
    (hl : ∀ W, Calls Try.prog 26 #[.agg #[.int .i64 L, .int .u64 g], .int .u8 f, .int .u64 a] W fun e w' => e = .returned (.tuple #[.int .i64 k, .bool ok]) ∧ Below W.heap.size W w') :
    Calls Try.prog 11 #[.int .u8 f, .int .u64 a] w fun e w' => e = .returned (.tuple #[.int .i64 k, .bool ok, .int .i64 0]) ∧ Below w.heap.size w w' := by
  have hx := hide (fun W => unityOf_yes f p wd L g W h)
  have hi := hide (fun W v hr => In_yes f p wd v [a] W h.fi hr (allIn1 ha))
  have hrow := hide (fun W o T => row1b W o a (elWord ha h.fi.top) T)
  have hl := hide hl
  have hz : (a == 0) = false := beq_eq_false_iff_ne.2 h0
  clear h h0 ha
  go_enter Try.func11, Try.ntmps11
  go_wp2_with (first
    | (go_at_call 22; refine (hx.out _).mono ?_; rintro e w1 ⟨rfl, hb⟩)
    | (go_at_call 25; refine (hi.out _ _ (hrow.out _ _ _)).mono ?_; rintro e w2 ⟨rfl, hb2⟩; have hB := (Box2.first w1 L g 56).below (below_one hb2); obtain ⟨c0, c1, c2, _⟩ := id hB)
    | (go_at_call 26; refine (hl.out _).mono ?_; rintro e w3 ⟨rfl, hb3⟩))
  have := hb.size
  exact bodyPost_ret (v := .tuple #[.int .i64 k, .bool ok, .int .i64 0]) (by simp [results, Try.results11, go_sem]) rfl ⟨rfl, hb.trans ((hB.below hb3).2.2.2.mono hb.size)⟩

end Go.Proofs.Ytdphagkehdeanaa
