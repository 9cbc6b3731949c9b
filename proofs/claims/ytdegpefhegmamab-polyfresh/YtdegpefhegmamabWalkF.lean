/-
  The field's calls on numbers: Prime, In, Add, Sub, Mul, Pow, Div and Inv, or their errors.
-/
import Derived.Test.YtdegpefhegmamabWalkE
namespace Go.Proofs.Ytdegpefhegmamab
open Go.RowKit Fld
set_option linter.unusedVariables false

/-- No field, or one that has not all of a list. -/
def Bad (f : Int) (xs : List Int) : Prop := (f ≠ 1 ∧ f ≠ 2) ∨ ∃ p wd, Fi f p wd ∧ allIn p xs = false

theorem check_no (f : Int) (v : Value) (xs : List Int) (w : World) (h : Bad f xs) (hr : Row w v xs) :
    Calls Try.prog 33 #[.int .u8 f, v] w fun e w' => e = .returned (.tuple #[.agg #[.int .u64 0, .bool false], .bool false]) ∧ Below w.heap.size w w' := by
  rcases h with ⟨h1, h2⟩ | ⟨p, wd, hf, hi⟩
  · exact check_nof f v w h1 h2
  · exact check_out f p wd v xs w hf hr hi

theorem row2 (w : World) (a b : Int) (ha : 0 ≤ a ∧ a ≤ 18446744073709551615) (hb : 0 ≤ b ∧ b ≤ 18446744073709551615) (T : TypeId) :
    Row (w.alloc (.cells #[.int .u64 a, .int .u64 b] T)) (.slice (some ⟨w.heap.size, 0, none⟩) 2 2) [a, b] :=
  ⟨_, _, rfl, by simp, by simp [ha, hb], fun _ => ⟨_, _, rfl, by simp, fun i hi => by
    have : i = 0 ∨ i = 1 := by simp at hi; omega
    rcases this with rfl | rfl <;> simp [go_sem]⟩⟩
theorem row1 (w : World) (a : Int) (ha : 0 ≤ a ∧ a ≤ 18446744073709551615) (T : TypeId) :
    Row (w.alloc (.cells #[.int .u64 a] T)) (.slice (some ⟨w.heap.size, 0, none⟩) 1 1) [a] :=
  ⟨_, _, rfl, by simp, by simp [ha], fun _ => ⟨_, _, rfl, by simp, fun i hi => by
    have : i = 0 := by simp at hi; omega
    subst this; simp [go_sem]⟩⟩
theorem row0 (w : World) : Row w (.slice none 0 0) [] := ⟨_, _, rfl, by simp, by simp, fun h => absurd rfl h⟩

theorem elWord {p a : Int} (h : El p a) (hp : p ≤ 18446744073709551615) : 0 ≤ a ∧ a ≤ 18446744073709551615 := ⟨h.1, by have := h.2; omega⟩
theorem allIn2 {p a b : Int} (ha : El p a) (hb : El p b) : allIn p [a, b] = true := by simp [allIn, ha.2, hb.2]
theorem allIn1 {p a : Int} (ha : El p a) : allIn p [a] = true := by simp [allIn, ha.2]
theorem Fi.top {f p : Int} {wd : Bool} (h : Fi f p wd) : p ≤ 18446744073709551615 := by have := h.md.bounds; omega
theorem Fi.pos {f p : Int} {wd : Bool} (h : Fi f p wd) : 0 < p := by have := h.md.bounds; omega

set_option maxHeartbeats 200000 in
theorem Prime_yes (f p : Int) (wd : Bool) (w : World) (h : Fi f p wd) :
    Calls Try.prog 34 #[.int .u8 f] w fun e w' => e = .returned (.tuple #[.int .u64 p, .int .i64 0]) ∧ Below w.heap.size w w' := by
  have hx := fun W => modulusOf_yes f p wd W h
  clear h
  go_enter Try.func34, Try.ntmps34
  go_wp2_with (go_at_call 39; refine (hx _).mono ?_; rintro e w1 ⟨rfl, hb⟩)
  go_ret2
  exact ⟨rfl, hb.alloc hb.size _⟩
set_option maxHeartbeats 200000 in
theorem Prime_no (f : Int) (w : World) (h1 : f ≠ 1) (h2 : f ≠ 2) :
    Calls Try.prog 34 #[.int .u8 f] w fun e w' => e = .returned (.tuple #[.int .u64 0, .int .i64 2]) ∧ Below w.heap.size w w' := by
  have hx := fun W => modulusOf_no f W h1 h2
  clear h1 h2
  go_enter Try.func34, Try.ntmps34
  go_wp2_with (go_at_call 39; refine (hx _).mono ?_; rintro e w1 ⟨rfl, hb⟩)
  go_ret2
  exact ⟨rfl, hb.alloc hb.size _⟩

set_option maxHeartbeats 200000 in
theorem In_yes (f p : Int) (wd : Bool) (v : Value) (xs : List Int) (w : World) (h : Fi f p wd) (hr : Row w v xs) (hi : allIn p xs = true) :
    Calls Try.prog 26 #[.int .u8 f, v] w fun e w' => e = .returned (.bool true) ∧ Below w.heap.size w w' := by
  have hx := hide (check_yes f p wd v xs w h hr hi)
  clear h hr hi
  go_enter Try.func26, Try.ntmps26
  go_wp2_with (go_at_call 33; refine hx.out.mono ?_; rintro e w1 ⟨rfl, hb⟩)
  go_ret
  exact ⟨rfl, hb.alloc hb.size _⟩
set_option maxHeartbeats 200000 in
theorem In_no (f : Int) (v : Value) (xs : List Int) (w : World) (h : Bad f xs) (hr : Row w v xs) :
    Calls Try.prog 26 #[.int .u8 f, v] w fun e w' => e = .returned (.bool false) ∧ Below w.heap.size w w' := by
  have hx := hide (check_no f v xs w h hr)
  clear h hr
  go_enter Try.func26, Try.ntmps26
  go_wp2_with (go_at_call 33; refine hx.out.mono ?_; rintro e w1 ⟨rfl, hb⟩)
  go_ret
  exact ⟨rfl, hb.alloc hb.size _⟩

set_option maxHeartbeats 200000 in
theorem Add_yes (f p a b : Int) (wd : Bool) (w : World) (h : Fi f p wd) (ha : El p a) (hb : El p b) :
    Calls Try.prog 32 #[.int .u8 f, .int .u64 a, .int .u64 b] w fun e w' => e = .returned (.tuple #[.int .u64 (add p a b), .int .i64 0]) ∧ Below w.heap.size w w' := by
  have hx := fun W v hr => check_yes f p wd v [a, b] W h hr (allIn2 ha hb)
  have hy := fun W => add_any p a b wd W h.top ha.1 hb.1 (elWord ha h.top).2 (elWord hb h.top).2 (by have := ha.2; have := hb.2; omega)
  have hrow := fun T => row2 w a b (elWord ha h.top) (elWord hb h.top) T
  clear h ha hb
  go_enter Try.func32, Try.ntmps32
  go_wp2_with (first
    | (go_at_call 33; refine (hx _ _ (hrow _)).mono ?_; rintro e w1 ⟨rfl, hb⟩)
    | (go_at_call 38; refine (hy _).mono ?_; rintro e w2 ⟨rfl, hb2⟩))
  go_ret2
  have hz := hb.size
  exact ⟨rfl, ((below_one hb).alloc (by simp at hz; omega) _).trans (hb2.mono (by simp at hz ⊢; omega))⟩

set_option maxHeartbeats 200000 in
theorem Add_no (f a b : Int) (w : World) (h : Bad f [a, b]) (ha : 0 ≤ a ∧ a ≤ 18446744073709551615) (hb : 0 ≤ b ∧ b ≤ 18446744073709551615) :
    Calls Try.prog 32 #[.int .u8 f, .int .u64 a, .int .u64 b] w fun e w' => e = .returned (.tuple #[.int .u64 0, .int .i64 2]) ∧ Below w.heap.size w w' := by
  have hx := fun W v hr => check_no f v [a, b] W h hr
  have hrow := fun T => row2 w a b ha hb T
  clear h ha hb
  go_enter Try.func32, Try.ntmps32
  go_wp2_with (go_at_call 33; refine (hx _ _ (hrow _)).mono ?_; rintro e w1 ⟨rfl, hb⟩)
  go_ret2
  have hz := hb.size
  exact ⟨rfl, (below_one hb).alloc (by simp at hz; omega) _⟩

set_option maxHeartbeats 200000 in
theorem Sub_yes (f p a b : Int) (wd : Bool) (w : World) (h : Fi f p wd) (ha : El p a) (hb : El p b) :
    Calls Try.prog 30 #[.int .u8 f, .int .u64 a, .int .u64 b] w fun e w' => e = .returned (.tuple #[.int .u64 (sub p a b), .int .i64 0]) ∧ Below w.heap.size w w' := by
  have hx := fun W v hr => check_yes f p wd v [a, b] W h hr (allIn2 ha hb)
  have hy := fun W => sub_any p a b wd W h.top ha hb
  have hrow := fun T => row2 w a b (elWord ha h.top) (elWord hb h.top) T
  clear h ha hb
  go_enter Try.func30, Try.ntmps30
  go_wp2_with (first
    | (go_at_call 33; refine (hx _ _ (hrow _)).mono ?_; rintro e w1 ⟨rfl, hb⟩)
    | (go_at_call 37; refine (hy _).mono ?_; rintro e w2 ⟨rfl, hb2⟩))
  go_ret2
  have hz := hb.size
  exact ⟨rfl, ((below_one hb).alloc (by simp at hz; omega) _).trans (hb2.mono (by simp at hz ⊢; omega))⟩

set_option maxHeartbeats 200000 in
theorem Sub_no (f a b : Int) (w : World) (h : Bad f [a, b]) (ha : 0 ≤ a ∧ a ≤ 18446744073709551615) (hb : 0 ≤ b ∧ b ≤ 18446744073709551615) :
    Calls Try.prog 30 #[.int .u8 f, .int .u64 a, .int .u64 b] w fun e w' => e = .returned (.tuple #[.int .u64 0, .int .i64 2]) ∧ Below w.heap.size w w' := by
  have hx := fun W v hr => check_no f v [a, b] W h hr
  have hrow := fun T => row2 w a b ha hb T
  clear h ha hb
  go_enter Try.func30, Try.ntmps30
  go_wp2_with (go_at_call 33; refine (hx _ _ (hrow _)).mono ?_; rintro e w1 ⟨rfl, hb⟩)
  go_ret2
  have hz := hb.size
  exact ⟨rfl, (below_one hb).alloc (by simp at hz; omega) _⟩

set_option maxHeartbeats 200000 in
theorem Mul_yes (f p a b : Int) (wd : Bool) (w : World) (h : Fi f p wd) (ha : El p a) (hb : El p b) :
    Calls Try.prog 29 #[.int .u8 f, .int .u64 a, .int .u64 b] w fun e w' => e = .returned (.tuple #[.int .u64 (mul p a b), .int .i64 0]) ∧ Below w.heap.size w w' := by
  have hx := fun W v hr => check_yes f p wd v [a, b] W h hr (allIn2 ha hb)
  have hy := fun W => mul_any p a b wd W h.md ha hb
  have hrow := fun T => row2 w a b (elWord ha h.top) (elWord hb h.top) T
  clear h ha hb
  go_enter Try.func29, Try.ntmps29
  go_wp2_with (first
    | (go_at_call 33; refine (hx _ _ (hrow _)).mono ?_; rintro e w1 ⟨rfl, hb⟩)
    | (go_at_call 36; refine (hy _).mono ?_; rintro e w2 ⟨rfl, hb2⟩))
  go_ret2
  have hz := hb.size
  exact ⟨rfl, ((below_one hb).alloc (by simp at hz; omega) _).trans (hb2.mono (by simp at hz ⊢; omega))⟩

set_option maxHeartbeats 200000 in
theorem Mul_no (f a b : Int) (w : World) (h : Bad f [a, b]) (ha : 0 ≤ a ∧ a ≤ 18446744073709551615) (hb : 0 ≤ b ∧ b ≤ 18446744073709551615) :
    Calls Try.prog 29 #[.int .u8 f, .int .u64 a, .int .u64 b] w fun e w' => e = .returned (.tuple #[.int .u64 0, .int .i64 2]) ∧ Below w.heap.size w w' := by
  have hx := fun W v hr => check_no f v [a, b] W h hr
  have hrow := fun T => row2 w a b ha hb T
  clear h ha hb
  go_enter Try.func29, Try.ntmps29
  go_wp2_with (go_at_call 33; refine (hx _ _ (hrow _)).mono ?_; rintro e w1 ⟨rfl, hb⟩)
  go_ret2
  have hz := hb.size
  exact ⟨rfl, (below_one hb).alloc (by simp at hz; omega) _⟩

end Go.Proofs.Ytdegpefhegmamab
