/-
  The field's own checks: which field it is, and whether all of a list are elements.
-/
import Derived.Test.YtdegpefhegmamabWalkC
namespace Go.Proofs.Ytdegpefhegmamab
open Go.RowKit Fld
set_option linter.unusedVariables false

/-- Which field has which prime. -/
def Fi (f p : Int) (wd : Bool) : Prop := (f = 1 ∧ p = 2013265921 ∧ wd = false) ∨ (f = 2 ∧ p = 18446744069414584321 ∧ wd = true)
theorem Fi.md {f p : Int} {wd : Bool} (h : Fi f p wd) : Md p wd := by
  rcases h with ⟨_, h, k⟩ | ⟨_, h, k⟩
  · exact .inl ⟨h, k⟩
  · exact .inr ⟨h, k⟩

/-- A list in memory. -/
def Row (w : World) (v : Value) (xs : List Int) : Prop :=
  ∃ ao cap, v = .slice ao xs.length cap ∧ xs.length ≤ 17592186043904 ∧ (∀ x ∈ xs, 0 ≤ x ∧ x ≤ 18446744073709551615) ∧
    (xs ≠ [] → ∃ b off, ao = some ⟨b, off, none⟩ ∧ b < w.heap.size ∧ ∀ i, i < xs.length → w.cell? ⟨b, off + i, none⟩ = some (.int .u64 (xs.getD i 0)))

theorem Row.below {w w' : World} {v : Value} {xs : List Int} (h : Row w v xs) (hb : Below w.heap.size w w') : Row w' v xs := by
  obtain ⟨ao, cap, rfl, h1, h2, h3⟩ := h
  refine ⟨ao, cap, rfl, h1, h2, fun hne => ?_⟩
  obtain ⟨b, off, rfl, hlt, hc⟩ := h3 hne
  exact ⟨b, off, rfl, Nat.lt_of_lt_of_le hlt hb.size, fun i hi => by rw [hb.cell (p := ⟨b, off + i, none⟩) hlt]; exact hc i hi⟩

theorem getD_at {xs : List Int} {i : Nat} (h : i < xs.length) : xs.getD i 0 = xs[i] := by
  simp [List.getD_eq_getElem?_getD, h]

def allIn (p : Int) (xs : List Int) : Bool := xs.all fun x => decide (x < p)

theorem allIn_true {p : Int} {xs : List Int} (h : ∀ i, i < xs.length → xs.getD i 0 < p) : allIn p xs = true := by
  unfold allIn; rw [List.all_eq_true]
  intro x hx
  obtain ⟨i, hi, rfl⟩ := List.getElem_of_mem hx
  have := h i hi
  rw [getD_at hi] at this
  simpa using this
theorem allIn_false {p : Int} {xs : List Int} (i : Nat) (hi : i < xs.length) (h : ¬ xs.getD i 0 < p) : allIn p xs = false := by
  unfold allIn
  rw [List.all_eq_false]
  rw [getD_at hi] at h
  exact ⟨xs[i], List.getElem_mem hi, by simpa using h⟩

theorem all_snoc {p x : Int} {xs : List Int} {k : Nat} (h : ∀ i, i < k → xs.getD i 0 < p) (hx : xs.getD k 0 = x) (hlt : x < p) : ∀ i, i < k + 1 → xs.getD i 0 < p := by
  intro i hi
  by_cases he : i = k
  · rw [he, hx]; exact hlt
  · exact h i (by omega)

set_option maxHeartbeats 200000 in
theorem modulusOf_yes (f p : Int) (wd : Bool) (w : World) (h : Fi f p wd) :
    Calls Try.prog 39 #[.int .u8 f] w fun e w' => e = .returned (.tuple #[.agg #[.int .u64 p, .bool wd], .bool true]) ∧ Below w.heap.size w w' := by
  rcases h with ⟨rfl, rfl, rfl⟩ | ⟨rfl, rfl, rfl⟩
  · go_enter Try.func39, Try.ntmps39
    go_wp2
    exact bodyPost_ret (v := .tuple #[.agg #[.int .u64 2013265921, .bool false], .bool true]) (by simp [results, Try.results39, go_sem]) rfl ⟨rfl, (Below.refl _ _).alloc (Nat.le_refl _) _⟩
  · go_enter Try.func39, Try.ntmps39
    go_wp2
    exact bodyPost_ret (v := .tuple #[.agg #[.int .u64 18446744069414584321, .bool true], .bool true]) (by simp [results, Try.results39, go_sem]) rfl ⟨rfl, (Below.refl _ _).alloc (Nat.le_refl _) _⟩

set_option maxHeartbeats 200000 in
theorem modulusOf_no (f : Int) (w : World) (h1 : f ≠ 1) (h2 : f ≠ 2) :
    Calls Try.prog 39 #[.int .u8 f] w fun e w' => e = .returned (.tuple #[.agg #[.int .u64 0, .bool false], .bool false]) ∧ Below w.heap.size w w' := by
  have e1 : (f == 1) = false := beq_eq_false_iff_ne.2 h1
  have e2 : (f == 2) = false := beq_eq_false_iff_ne.2 h2
  clear h1 h2
  go_enter Try.func39, Try.ntmps39
  go_wp2
  exact bodyPost_ret (v := .tuple #[.agg #[.int .u64 0, .bool false], .bool false]) (by simp [results, Try.results39, go_sem]) rfl ⟨rfl, (Below.refl _ _).alloc (Nat.le_refl _) _⟩

set_option maxHeartbeats 200000 in
theorem has_any (p : Int) (wd : Bool) (v : Value) (xs : List Int) (w : World) (hp : p ≤ 18446744073709551615) (hr : Row w v xs) :
    Calls Try.prog 40 #[.agg #[.int .u64 p, .bool wd], v] w fun e w' => e = .returned (.bool (allIn p xs)) ∧ Below w.heap.size w w' := by
  obtain ⟨ao, cap, rfl, hlen, hw, hc⟩ := hr
  go_enter Try.func40, Try.ntmps40
  go_wp2
  go_loop [9] (fun vi => ∃ k : Nat, k ≤ xs.length ∧ vi = .int .i64 k ∧ ∀ i, i < k → xs.getD i 0 < p) (fun vi => xs.length - (intOf vi).toNat)
  case atStart => exact ⟨0, Nat.zero_le _, rfl, fun i hi => by omega⟩
  case round =>
    obtain ⟨k, hk, rfl, hall⟩ := hrel
    by_cases hlt : k < xs.length
    · obtain ⟨b, off, rfl, hbl, hcell⟩ := hc (by intro h; rw [h] at hlt; simp at hlt)
      have hck : (w.alloc (.cells #[.int .u64 p, .bool wd] 56)).cell? ⟨b, off + k, none⟩ = some (.int .u64 (xs.getD k 0)) := by
        rw [World.cell?_alloc_lt (h := hbl)]; exact hcell k hlt
      have HA := hide hall
      clear hall hcell hc
      by_cases hin : xs.getD k 0 < p
      · generalize hx : xs.getD k 0 = x at *
        have HX := hide hx
        clear hx
        go_wp2
        go_round
        case rel => exact ⟨k + 1, by omega, by go_num, all_snoc HA.out HX.out hin⟩
        case measure => simp [intOf]; omega
      · have HF := hide (allIn_false k hlt hin)
        generalize xs.getD k 0 = x at *
        go_wp2
        go_ret
        rw [HF.out]
        exact ⟨rfl, (Below.refl _ _).alloc (Nat.le_refl _) _⟩
    · have HF := hide (allIn_true (p := p) (xs := xs) (fun i hi => hall i (by omega)))
      clear hall hc
      go_wp2
      go_ret
      rw [HF.out]
      exact ⟨rfl, (Below.refl _ _).alloc (Nat.le_refl _) _⟩

end Go.Proofs.Ytdegpefhegmamab
