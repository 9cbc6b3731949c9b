/-
  FieldLists' walk.
-/
import Derived.Test.YtepbfcioocohgaaRefE
import Derived.Test.YtepbfcioocohgaaOpen
import Derived.Test.YtepbfcioocohgaaAnch
import Derived.Test.YtepbfcioocohgaaLawRing
namespace Go.Proofs.Ytepbfcioocohgaa
open Go.RowKit Fld
set_option linter.unusedVariables false

/-- Both Batches answer a list that reads as one, and one error. -/
def BatchPair (f : Int) (v : Value) (xs : List Int) : Prop := ∃ (zs : List Int) (e : Int), ∀ w, Row w v xs →
  (Calls Try.prog 25 #[.int .u8 f, v] w fun x w' => ∃ v', x = .returned (.tuple #[v', .int .i64 e]) ∧ Row w' v' zs ∧ Below w.heap.size w w') ∧
  (Calls Try.prog 26 #[.int .u8 f, v] w fun x w' => ∃ v', x = .returned (.tuple #[v', .int .i64 e]) ∧ Row w' v' zs ∧ Below w.heap.size w w')

theorem inv_words {p : Int} (hp : 0 < p) (hp1 : p ≤ 18446744073709551615) (xs : List Int) : ∀ x ∈ xs.map (inv p), 0 ≤ x ∧ x ≤ 18446744073709551615 := by
  intro x hx
  obtain ⟨y, _, rfl⟩ := List.mem_map.1 hx
  have := inv_el (p := p) (a := y) hp
  exact elWord this hp1

theorem batch_pair (f : Int) (v : Value) (xs : List Int) : BatchPair f v xs := by
  by_cases hb : Bad f xs
  · refine ⟨[], 2, fun w hr => ⟨(Batch_no f v xs w hb hr).mono ?_, (rBatch_no f v xs w hb hr).mono ?_⟩⟩
    · rintro e w' ⟨rfl, h⟩; exact ⟨_, rfl, row0 w', h⟩
    · rintro e w' ⟨rfl, h⟩; exact ⟨_, rfl, row0 w', h⟩
  · rcases Fi_or f with ⟨p, wd, hf⟩ | ⟨n1, n2⟩
    · have hi : allIn p xs = true := by
        cases h : allIn p xs
        · exact absurd (.inr ⟨p, wd, hf, h⟩) hb
        · rfl
      by_cases hz : ∃ i, i < xs.length ∧ xs.getD i 0 = 0
      · refine ⟨[], 5, fun w hr => ⟨(Batch_in f p wd v xs w hf hr hi).mono ?_, (rBatch_in f p wd v xs w hf hr hi).mono ?_⟩⟩
        · rintro e w' (⟨_, rfl, h⟩ | ⟨hn, _⟩)
          · exact ⟨_, rfl, row0 w', h⟩
          · obtain ⟨i, hl, h0⟩ := hz; exact absurd h0 (hn i hl)
        · rintro e w' (⟨_, rfl, h⟩ | ⟨hn, _⟩)
          · exact ⟨_, rfl, row0 w', h⟩
          · obtain ⟨i, hl, h0⟩ := hz; exact absurd h0 (hn i hl)
      · refine ⟨xs.map (inv p), 0, fun w hr => ?_⟩
        have hlen : xs.length ≤ 17592186043904 := by obtain ⟨_, _, _, h, _⟩ := hr; exact h
        refine ⟨(Batch_in f p wd v xs w hf hr hi).mono ?_, (rBatch_in f p wd v xs w hf hr hi).mono ?_⟩
        · rintro e w' (⟨h0, _⟩ | ⟨_, v', rfl, hown, h⟩)
          · exact absurd h0 hz
          · exact ⟨v', rfl, row_of_own hown (by simp) (by simpa using hlen) (inv_words hf.pos hf.top xs), h⟩
        · rintro e w' (⟨h0, _⟩ | ⟨_, v', rfl, hown, h⟩)
          · exact absurd h0 hz
          · exact ⟨v', rfl, row_of_own hown (by simp) (by simpa using hlen) (inv_words hf.pos hf.top xs), h⟩
    · exact absurd (.inl ⟨n1, n2⟩) hb

/-- Both Dots answer one number, and one error. -/
theorem dot_pair (f : Int) (v1 v2 : Value) (xs ys : List Int) : ∃ (s e : Int), ∀ w, Row w v1 xs → Row w v2 ys →
    (Calls Try.prog 27 #[.int .u8 f, v1, v2] w fun x w' => x = .returned (.tuple #[.int .u64 s, .int .i64 e]) ∧ Below w.heap.size w w') ∧
    (Calls Try.prog 28 #[.int .u8 f, v1, v2] w fun x w' => x = .returned (.tuple #[.int .u64 s, .int .i64 e]) ∧ Below w.heap.size w w') := by
  by_cases hb : Bad f xs ∨ ∃ p wd, Fi f p wd ∧ allIn p xs = true ∧ allIn p ys = false
  · exact ⟨0, 2, fun w h1 h2 => ⟨Dot_no f v1 v2 xs ys w hb h1 h2, rDot_no f v1 v2 xs ys w hb h1 h2⟩⟩
  · rcases Fi_or f with ⟨p, wd, hf⟩ | ⟨n1, n2⟩
    · have hi : allIn p xs = true := by
        cases h : allIn p xs
        · exact absurd (.inl (.inr ⟨p, wd, hf, h⟩)) hb
        · rfl
      have hj : allIn p ys = true := by
        cases h : allIn p ys
        · exact absurd (.inr ⟨p, wd, hf, hi, h⟩) hb
        · rfl
      by_cases hl : xs.length = ys.length
      · exact ⟨_, 0, fun w h1 h2 => ⟨Dot_yes f p wd v1 v2 xs ys w hf hi hj hl h1 h2, rDot_yes f p wd v1 v2 xs ys w hf hi hj hl h1 h2⟩⟩
      · exact ⟨0, 3, fun w h1 h2 => ⟨Dot_shape f p wd v1 v2 xs ys w hf hi hj hl h1 h2, rDot_shape f p wd v1 v2 xs ys w hf hi hj hl h1 h2⟩⟩
    · exact absurd (.inl (.inl ⟨n1, n2⟩)) hb

set_option maxRecDepth 100000 in
set_option maxHeartbeats 400000 in
theorem lists_any (f : Int) (v1 v2 : Value) (xs ys : List Int) (w : World) (h1 : Row w v1 xs) (h2 : Row w v2 ys) :
    Calls Try.prog 5 #[.int .u8 f, v1, v2] w fun e w' => e = .returned (.bool true) ∧ Below w.heap.size w w' := by
  obtain ⟨zs, e1, hb⟩ := batch_pair f v1 xs
  obtain ⟨s, e2, hd⟩ := dot_pair f v1 v2 xs ys
  have B1 := hide (fun W hW => (hb W (h1.below hW)).1)
  have B2 := hide (fun W hW => (hb W (h1.below hW)).2)
  have D1 := hide (fun W hW => (hd W (h1.below hW) (h2.below hW)).1)
  have D2 := hide (fun W hW => (hd W (h1.below hW) (h2.below hW)).2)
  clear hb hd h1 h2
  go_enter Try.func5, Try.ntmps5
  go_wp2_with fail
  refine (B1.out _ (Below.refl _ _)).mono ?_
  rintro e w1 ⟨x1, rfl, r1, hb⟩
  have hB := hb
  have r1 := hide r1
  go_wp2_with fail
  refine (B2.out _ hB).mono ?_
  rintro e w2 ⟨x2, rfl, r2, hb⟩
  have r1 := hide (r1.out.below hb)
  have r2 := hide r2
  have hB := Below.next hB hb
  go_wp2_with fail
  refine (D1.out _ hB).mono ?_
  rintro e w3 ⟨rfl, hb⟩
  have r1 := hide (r1.out.below hb)
  have r2 := hide (r2.out.below hb)
  have hB := Below.next hB hb
  go_wp2_with fail
  refine (D2.out _ hB).mono ?_
  rintro e w4 ⟨rfl, hb⟩
  have r1 := hide (r1.out.below hb)
  have r2 := hide (r2.out.below hb)
  have hB := Below.next hB hb
  go_wp2_with fail
  refine (Same_yes _ _ zs _ r1.out r2.out).mono ?_
  rintro e w5 ⟨rfl, hb⟩
  have hB := Below.next hB hb
  go_wp2
  go_ret
  exact ⟨rfl, hB⟩

end Go.Proofs.Ytepbfcioocohgaa
