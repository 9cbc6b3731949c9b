/-
  Layer 9, plain: one program behind another one; after, and ahead of, what hands all on it is the same.
-/
import Derived.Test.YtjkialmhajbcfaaDoorBSlpC
namespace Go.Proofs.YtjkialmhajbcfaaDoor.Slp
set_option linter.unusedVariables false

/-- The values of p's numbers behind q. -/
def aftAt (q : Pr) (i : Nat) : List Int := q.outs ++ (List.range i).map (fun j => q.inp + ((q.ops.length + j : Nat) : Int))
def shO (at_ : List Int) (o : O4) : O4 := if o.k = 4 then o else ⟨o.k, at_.getD o.a.toNat 0, at_.getD o.b.toNat 0, o.c⟩
def aftE (p q : Pr) : Int := if mayB p = true ∧ mayB q = true ∧ (q.outs.length : Int) = p.inp then (if 256 < p.ops.length + q.ops.length then 4 else 0) else 2
def aftF (p q : Pr) : Pr := ⟨q.inp, q.ops ++ p.ops.map (shO (aftAt q p.ops.length)), p.outs.map (fun v => (aftAt q p.ops.length).getD v.toNat 0)⟩
def aftP (p q : Pr) : Pr := if aftE p q = 0 then aftF p q else pz
theorem aftAt_len (q : Pr) (i : Nat) : (aftAt q i).length = q.outs.length + i := by unfold aftAt; simp
theorem aftAt_succ (q : Pr) (i : Nat) : aftAt q (i + 1) = aftAt q i ++ [q.inp + ((q.ops.length + i : Nat) : Int)] := by
  unfold aftAt
  rw [List.range_succ, List.map_append, List.append_assoc]; rfl
theorem aftAt_get (q : Pr) {i n k : Nat} (hi : i ≤ n) (hk : k < q.outs.length + i) : (aftAt q n).getD k 0 = (aftAt q i).getD k 0 := by
  induction n with
  | zero => rw [show i = 0 by omega]
  | succ n ih =>
    by_cases h : i = n + 1
    · rw [h]
    · rw [← ih (by omega), aftAt_succ, List.getD_eq_getElem?_getD, List.getElem?_append_left (by rw [aftAt_len]; omega), ← List.getD_eq_getElem?_getD]
/-- A step with the list that is there when it is its turn. -/
theorem shO_at (q : Pr) {i n : Nat} {o : O4} (hi : i ≤ n) (hm : opM o ((q.outs.length : Int) + i) = true) : shO (aftAt q n) o = shO (aftAt q i) o := by
  unfold shO
  by_cases h : o.k = 4
  · rw [if_pos h, if_pos h]
  · rw [if_neg h, if_neg h]
    unfold opM at hm
    by_cases h1 : o.k = 1 ∨ o.k = 2 ∨ o.k = 3
    · rw [if_pos h1, decide_eq_true_iff] at hm
      rw [aftAt_get q hi (by omega), aftAt_get q hi (by omega)]
    · rw [if_neg h1, if_neg h] at hm; cases hm
theorem opsM_get (inp : Int) : ∀ (os : List O4) (i j : Nat) (hj : j < os.length), opsM inp i os = true → opM os[j] (inp + ((i + j : Nat) : Int)) = true
  | [], i, j, hj, _ => by simp at hj
  | o :: os, i, j, hj, h => by
    have h' : (opM o (inp + i) && opsM inp (i + 1) os) = true := h
    rw [Bool.and_eq_true] at h'
    cases j with
    | zero => exact h'.1
    | succ j =>
      have := opsM_get inp os (i + 1) j (by simpa using hj) h'.2
      rw [show i + (j + 1) = i + 1 + j by omega]; exact this
/-- What hands n values on. -/
def hand (n : Nat) : Pr := ⟨n, [], (List.range n).map (fun j : Nat => (j : Int))⟩
theorem hand_may {n : Nat} (h : n ≤ 64) : mayB (hand n) = true := by
  rw [mayB_iff]
  refine ⟨⟨by show (0 : Int) ≤ n; omega, by show (n : Int) ≤ 64; omega, by simp [hand], by simp [hand]; omega⟩, rfl, ?_⟩
  show ((List.range n).map (fun j : Nat => (j : Int))).all _ = true
  rw [List.all_eq_true]
  intro v hv
  obtain ⟨j, hj, rfl⟩ := List.mem_map.1 hv
  have := List.mem_range.1 hj
  refine decide_eq_true ⟨by omega, ?_⟩
  show (j : Int) < (n : Int) + ((([] : List O4).length : Nat) : Int)
  simp; omega
theorem hand_at (n i k : Nat) (hk : k < n + i) : (aftAt (hand n) i).getD k 0 = (k : Int) := by
  unfold aftAt hand
  rw [List.getD_eq_getElem?_getD]
  by_cases h : k < n
  · rw [List.getElem?_append_left (by simpa using h)]
    simp [h]
  · rw [List.getElem?_append_right (by simp; omega)]
    have h2 : k - n < i := by omega
    simp [h2]
    omega
theorem map_same {α : Type} (f : α → α) (l : List α) (h : ∀ i (hi : i < l.length), f l[i] = l[i]) : l.map f = l := by
  apply List.ext_getElem
  · simp
  · intro i h1 h2
    rw [List.getElem_map]; exact h i (by simpa using h1)
/-- Behind what hands all on. -/
theorem after_hand {p : Pr} (h : mayB p = true) : aftE p (hand p.inp.toNat) = 0 ∧ aftF p (hand p.inp.toNat) = p := by
  obtain ⟨⟨h0, h1, h2, h3⟩, h4, h5⟩ := mayB_iff.1 h
  obtain ⟨n, hn⟩ := Int.eq_ofNat_of_zero_le h0
  obtain ⟨inp, ops, outs⟩ := p
  have hn' : inp = (n : Int) := hn
  subst hn'
  have h64 : n ≤ 64 := by have : (n : Int) ≤ 64 := h1; omega
  show aftE ⟨n, ops, outs⟩ (hand (n : Int).toNat) = 0 ∧ aftF ⟨n, ops, outs⟩ (hand (n : Int).toNat) = _
  rw [Int.toNat_natCast]
  constructor
  · unfold aftE
    rw [if_pos ⟨h, hand_may h64, by show (((List.range n).map (fun j : Nat => (j : Int))).length : Int) = (n : Int); simp⟩]
    have : ¬ 256 < ops.length + ([] : List O4).length := by have : ops.length ≤ 256 := h2; simp; omega
    exact if_neg this
  · unfold aftF
    have e1 : ops.map (shO (aftAt (hand n) ops.length)) = ops := map_same _ _ (fun i hi => by
      have hm := opsM_get n ops 0 i hi h4
      unfold shO
      by_cases h6 : (ops[i]).k = 4
      · rw [if_pos h6]
      · rw [if_neg h6]
        unfold opM at hm
        by_cases h7 : (ops[i]).k = 1 ∨ (ops[i]).k = 2 ∨ (ops[i]).k = 3
        · rw [if_pos h7, decide_eq_true_iff] at hm
          obtain ⟨a0, a1, b0, b1, _⟩ := hm
          rw [hand_at n ops.length _ (by omega), hand_at n ops.length _ (by omega), Int.toNat_of_nonneg a0, Int.toNat_of_nonneg b0]
        · rw [if_neg h7, if_neg h6] at hm; cases hm)
    have e2 : outs.map (fun v => (aftAt (hand n) ops.length).getD v.toNat 0) = outs := map_same _ _ (fun i hi => by
      have hv := of_decide_eq_true (List.all_eq_true.1 h5 outs[i] (List.getElem_mem hi))
      have hv2 : outs[i] < (n : Int) + ops.length := hv.2
      show (aftAt (hand n) ops.length).getD (outs[i]).toNat 0 = outs[i]
      rw [hand_at n ops.length _ (by omega), Int.toNat_of_nonneg hv.1])
    show (⟨(n : Int), [] ++ ops.map (shO (aftAt (hand n) ops.length)), outs.map (fun v => (aftAt (hand n) ops.length).getD v.toNat 0)⟩ : Pr) = _
    rw [e1, e2, List.nil_append]
/-- Ahead of what hands all on. -/
theorem hand_after {p : Pr} (h : mayB p = true) : aftE (hand p.outs.length) p = 0 ∧ aftF (hand p.outs.length) p = p := by
  obtain ⟨⟨h0, h1, h2, h3⟩, h4, h5⟩ := mayB_iff.1 h
  constructor
  · unfold aftE
    rw [if_pos ⟨hand_may h3, h, rfl⟩]
    have : ¬ 256 < ([] : List O4).length + p.ops.length := by simp; omega
    exact if_neg this
  · unfold aftF
    obtain ⟨inp, ops, outs⟩ := p
    have e : ((List.range outs.length).map (fun j : Nat => (j : Int))).map (fun v => (aftAt ⟨inp, ops, outs⟩ 0).getD v.toNat 0) = outs := by
      apply List.ext_getElem
      · simp
      · intro i h6 h7
        simp [aftAt, List.getD_eq_getElem?_getD, h7]
    show (⟨inp, ops ++ [], ((List.range outs.length).map (fun j : Nat => (j : Int))).map (fun v => (aftAt ⟨inp, ops, outs⟩ 0).getD v.toNat 0)⟩ : Pr) = _
    rw [e, List.append_nil]

end Go.Proofs.YtjkialmhajbcfaaDoor.Slp
