/-
  Layer 9: a text read line by line: how far, as a function; the program's lines.
-/
import Derived.Test.YtjkialmhajbcfaaDoorBSlwR
namespace Go.Proofs.YtjkialmhajbcfaaDoor
open Go.RowKit Fld Slp
set_option linter.unusedVariables false
set_option linter.unusedSimpArgs false

/-- How far a text was read. -/
structure St where
  n : Nat
  ops : List O4
  outs : List Int
  whole : Bool
def st0 : St := ⟨0, [], [], false⟩
structure St.Ok (s : St) : Prop where
  n : s.n ≤ 64
  ops : s.ops.length ≤ 256
  outs : s.whole = false → s.outs = []
def lnStep (k : Nat) (st : St) (l : Tx) : Option St :=
  if l.getLast? = some 10 ∧ st.whole = false then
    (if k = 0 then (hdR (pcs 32 l.dropLast)).map (fun n => ⟨n, st.ops, st.outs, st.whole⟩) else (soR st.n st.ops (pcs 32 l.dropLast)).map (fun r => ⟨st.n, r.1, r.2.1, r.2.2⟩))
  else none
def runL (ls : List Tx) : Nat → Option St
  | 0 => some st0
  | k + 1 => (runL ls k).bind (fun st => lnStep k st (ls.getD k []))
theorem hdR_le {rs : List Tx} {n : Nat} (h : hdR rs = some n) : n ≤ 64 := by
  unfold hdR at h
  split at h
  · split at h
    · exact (nmb_some h).2
    · cases h
  · cases h
theorem soR_ok {n : Nat} {ops ops' : List O4} {rs : List Tx} {vs : List Int} {t : Bool} (ho : ops.length ≤ 256) (h : soR n ops rs = some (ops', vs, t)) : ops'.length ≤ 256 ∧ (t = false → vs = []) := by
  unfold soR at h
  split at h
  · obtain ⟨v, hv, e⟩ := Option.map_eq_some_iff.1 h
    cases e
    exact ⟨ho, fun h => by cases h⟩
  · split at h
    · rename_i h2
      obtain ⟨o, hv, e⟩ := Option.map_eq_some_iff.1 h
      cases e
      refine ⟨by simp; omega, fun _ => rfl⟩
    · cases h
theorem lnStep_ok {k : Nat} {st st' : St} {l : Tx} (hs : st.Ok) (h : lnStep k st l = some st') : st'.Ok := by
  unfold lnStep at h
  split at h
  · rename_i h1
    split at h
    · obtain ⟨n, hn, rfl⟩ := Option.map_eq_some_iff.1 h
      exact ⟨hdR_le hn, hs.ops, hs.outs⟩
    · obtain ⟨⟨o, v, t⟩, hn, rfl⟩ := Option.map_eq_some_iff.1 h
      obtain ⟨e1, e2⟩ := soR_ok hs.ops hn
      exact ⟨hs.n, e1, e2⟩
  · cases h
theorem runL_ok {ls : List Tx} : ∀ {k : Nat} {st : St}, runL ls k = some st → st.Ok
  | 0, st, h => by cases h; exact ⟨by decide, by decide, fun _ => rfl⟩
  | k + 1, st, h => by
    obtain ⟨st', h1, h2⟩ := Option.bind_eq_some_iff.1 h
    exact lnStep_ok (runL_ok h1) h2

theorem lSuffix (x a : Tx) (w : World) (hx : x = a ++ [10]) (hl : x.length ≤ 9223372036854775807) : Calls Tryd.prog 49 #[tx x, .string ⟨#[10]⟩] w fun e w' => e = .returned (.tuple #[tx a, .bool true]) ∧ w' = w := by
  refine (Tryd.strings_CutSuffix ⟨x.toArray⟩ ⟨#[10]⟩ w (by rw [tx_size]; exact hl)).mono ?_
  rintro e w' ⟨rfl, rfl⟩
  have h1 : Lib.hasSuffix x [10] = true := by unfold Lib.hasSuffix; rw [List.isSuffixOf_iff_suffix, hx]; exact List.suffix_append _ _
  have h2 : Lib.trimSuffix x [10] = a := by
    unfold Lib.trimSuffix; rw [h1]
    show x.take (x.length - 1) = a
    rw [hx]; simp
  refine ⟨?_, rfl⟩
  show Ending.returned (Value.tuple #[.string ⟨(Lib.trimSuffix x [10]).toArray⟩, .bool (Lib.hasSuffix x [10])]) = _
  rw [h1, h2]; rfl
theorem lSuffix_no (a : Tx) (w : World) (h : ¬ a.getLast? = some 10) (hl : a.length ≤ 9223372036854775807) : Calls Tryd.prog 49 #[tx a, .string ⟨#[10]⟩] w fun e w' => e = .returned (.tuple #[tx a, .bool false]) ∧ w' = w := by
  refine (Tryd.strings_CutSuffix ⟨a.toArray⟩ ⟨#[10]⟩ w (by rw [tx_size]; exact hl)).mono ?_
  rintro e w' ⟨rfl, rfl⟩
  have h1 : Lib.hasSuffix a [10] = false := by
    cases hc : Lib.hasSuffix a [10] with
    | false => rfl
    | true =>
      exfalso
      apply h
      unfold Lib.hasSuffix at hc
      rw [List.isSuffixOf_iff_suffix] at hc
      obtain ⟨t, ht⟩ := hc
      rw [← ht]; simp
  have h2 : Lib.trimSuffix a [10] = a := by unfold Lib.trimSuffix; rw [h1]; rfl
  refine ⟨?_, rfl⟩
  show Ending.returned (Value.tuple #[.string ⟨(Lib.trimSuffix a [10]).toArray⟩, .bool (Lib.hasSuffix a [10])]) = _
  rw [h1, h2]; rfl

set_option maxHeartbeats 400000 in
theorem sLines (s : Tx) (w : World) : Calls Tryd.prog 48 #[tx s] w fun e w' => e = .returned (.func (.func 58) #[] #[.pointer (some ⟨w.heap.size, 0, none⟩)]) ∧ w' = w.alloc (.cells #[tx s] 9) := by
  unfold tx
  go_enter Tryd.func48, Tryd.ntmps48
  go_wp2
  go_ret
  exact ⟨rfl, rfl⟩

end Go.Proofs.YtjkialmhajbcfaaDoor
