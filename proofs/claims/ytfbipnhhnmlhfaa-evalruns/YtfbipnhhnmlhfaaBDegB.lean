/-
  Layer 10, plain: what Outs hang on; a program without the steps that nothing hangs on.
-/
import Derived.Test.YtfbipnhhnmlhfaaBDegA
namespace Go.Proofs.Ytfbipnhhnmlhfaa.Slp
set_option linter.unusedVariables false

/-- Marks from the last step on. -/
def wtS (inp : Nat) (w : List Bool) (i : Nat) (o : O4) : List Bool := if w.getD (inp + i) false = true ∧ ¬ o.k = 4 then (w.set o.a.toNat true).set o.b.toNat true else w
def wtD (inp : Nat) (ops : List O4) : Nat → List Bool → List Bool
  | 0, w => w
  | i + 1, w => wtD inp ops i (wtS inp w i (ops.getD i ⟨0, 0, 0, 0⟩))
def wt0 (p : Pr) : List Bool := p.outs.foldl (fun w v => w.set v.toNat true) (List.replicate (p.inp.toNat + p.ops.length) false)
def wtd (p : Pr) : List Bool := wtD p.inp.toNat p.ops p.ops.length (wt0 p)
theorem set_get (w : List Bool) (k v : Nat) (hk : k < w.length) : (w.set k true).getD v false = if v = k then true else w.getD v false := by
  rw [List.getD_eq_getElem?_getD, List.getElem?_set]
  by_cases h : v = k
  · subst h; simp [hk]
  · rw [if_neg (fun e => h e.symm), if_neg h, ← List.getD_eq_getElem?_getD]
theorem wtS_len (inp : Nat) (w : List Bool) (i : Nat) (o : O4) : (wtS inp w i o).length = w.length := by unfold wtS; split <;> simp
theorem wtD_len (inp : Nat) (ops : List O4) : ∀ (i : Nat) (w : List Bool), (wtD inp ops i w).length = w.length
  | 0, w => rfl
  | i + 1, w => by
    show (wtD inp ops i (wtS inp w i _)).length = _
    rw [wtD_len inp ops i, wtS_len]
theorem wtS_mono (inp : Nat) (w : List Bool) (i : Nat) (o : O4) (v : Nat) (h : w.getD v false = true) : (wtS inp w i o).getD v false = true := by
  unfold wtS
  split
  · have key : ∀ (w : List Bool) (k : Nat), w.getD v false = true → (w.set k true).getD v false = true := fun w k h => by
      by_cases hk : k < w.length
      · rw [set_get w k v hk]; split
        · rfl
        · exact h
      · rw [List.set_eq_of_length_le (by omega)]; exact h
    exact key _ _ (key _ _ h)
  · exact h
theorem wtD_mono (inp : Nat) (ops : List O4) : ∀ (i : Nat) (w : List Bool) (v : Nat), w.getD v false = true → (wtD inp ops i w).getD v false = true
  | 0, w, v, h => h
  | i + 1, w, v, h => wtD_mono inp ops i _ v (wtS_mono inp w i _ v h)
/-- A mark at a step's own value, or behind it, is set by no earlier step. -/
theorem wtD_high (inp : Nat) (ops : List O4) (hm : ∀ i (h : i < ops.length), ¬ ops[i].k = 4 → ops[i].a.toNat < inp + i ∧ ops[i].b.toNat < inp + i) : ∀ (i : Nat) (w : List Bool) (v : Nat), i ≤ ops.length → inp + ops.length ≤ w.length → inp + i ≤ v + 1 → (wtD inp ops i w).getD v false = true → w.getD v false = true ∨ v + 1 < inp + i
  | 0, w, v, _, _, _, h => .inl h
  | i + 1, w, v, hi, hw, hv, h => by
    have e : ops.getD i ⟨0, 0, 0, 0⟩ = ops[i] := by rw [List.getD_eq_getElem?_getD, List.getElem?_eq_getElem (by omega)]; rfl
    rcases wtD_high inp ops hm i (wtS inp w i (ops.getD i ⟨0, 0, 0, 0⟩)) v (by omega) (by rw [wtS_len]; exact hw) (by omega) h with h1 | h1
    · rw [e] at h1
      unfold wtS at h1
      split at h1
      · rename_i hc
        have := hm i (by omega) hc.2
        rw [set_get _ _ _ (by simp; omega), set_get _ _ _ (by omega), if_neg (by omega), if_neg (by omega)] at h1
        exact .inl h1
      · exact .inl h1
    · exact .inr (by omega)

theorem wtD_split (inp : Nat) (ops : List O4) : ∀ (n i : Nat) (w : List Bool), i ≤ n → ∃ w', wtD inp ops n w = wtD inp ops i w' ∧ w'.length = w.length
  | 0, i, w, h => ⟨w, by rw [show i = 0 by omega], rfl⟩
  | n + 1, i, w, h => by
    by_cases e : i = n + 1
    · exact ⟨w, by rw [e], rfl⟩
    · obtain ⟨w', h1, h2⟩ := wtD_split inp ops n i (wtS inp w n (ops.getD n ⟨0, 0, 0, 0⟩)) (by omega)
      exact ⟨w', h1, by rw [h2, wtS_len]⟩
theorem wt0_len (p : Pr) : (wt0 p).length = p.inp.toNat + p.ops.length := by
  have key : ∀ (os : List Int) (w : List Bool), (os.foldl (fun w v => w.set v.toNat true) w).length = w.length := by
    intro os
    induction os with
    | nil => intro w; rfl
    | cons v os ih => intro w; rw [List.foldl_cons, ih]; simp
  unfold wt0; rw [key]; simp
theorem wtd_len (p : Pr) : (wtd p).length = p.inp.toNat + p.ops.length := by unfold wtd; rw [wtD_len, wt0_len]
/-- What may be of the operands, of the outs. -/
theorem may_args {p : Pr} (hm : mayB p = true) : ∀ i (h : i < p.ops.length), ¬ p.ops[i].k = 4 → (0 ≤ p.ops[i].a ∧ 0 ≤ p.ops[i].b) ∧ p.ops[i].a.toNat < p.inp.toNat + i ∧ p.ops[i].b.toNat < p.inp.toNat + i := fun i h hk => by
  obtain ⟨⟨i0, i1, l1, l3⟩, mo, mu⟩ := mayB_iff.1 hm
  have := opsM_get p.inp p.ops 0 i h mo
  rw [Nat.zero_add] at this
  unfold opM at this
  split at this
  · have := of_decide_eq_true this
    omega
  · first | (cases this; done) | (rw [if_neg hk] at this; cases this)
theorem may_out {p : Pr} (hm : mayB p = true) : ∀ v ∈ p.outs, 0 ≤ v ∧ v.toNat < p.inp.toNat + p.ops.length := fun v hv => by
  obtain ⟨⟨i0, i1, l1, l3⟩, mo, mu⟩ := mayB_iff.1 hm
  have := of_decide_eq_true (List.all_eq_true.1 mu v hv)
  omega
theorem wt_fold (N : Nat) : ∀ (os : List Int) (w : List Bool), w.length = N → (∀ v ∈ os, v.toNat < N) → ∀ u, (os.foldl (fun w v => w.set v.toNat true) w).getD u false = true ↔ (w.getD u false = true ∨ ∃ v ∈ os, v.toNat = u)
  | [], w, hw, _, u => by simp
  | v :: os, w, hw, ho, u => by
    rw [List.foldl_cons, wt_fold N os (w.set v.toNat true) (by simpa using hw) (fun x hx => ho x (List.mem_cons_of_mem _ hx)) u, set_get w _ _ (by rw [hw]; exact ho v (by simp))]
    constructor
    · rintro (h | ⟨x, hx, e⟩)
      · split at h
        · rename_i e; exact .inr ⟨v, by simp, e.symm⟩
        · exact .inl h
      · exact .inr ⟨x, List.mem_cons_of_mem _ hx, e⟩
    · rintro (h | ⟨x, hx, e⟩)
      · left; split
        · rfl
        · exact h
      · rcases List.mem_cons.1 hx with rfl | hx
        · left; rw [if_pos e.symm]
        · exact .inr ⟨x, hx, e⟩
theorem wt0_iff {p : Pr} (hm : mayB p = true) (u : Nat) : (wt0 p).getD u false = true ↔ ∃ v ∈ p.outs, v.toNat = u := by
  unfold wt0
  rw [wt_fold (p.inp.toNat + p.ops.length) p.outs _ (by simp) (fun v hv => (may_out hm v hv).2)]
  constructor
  · rintro (h | h)
    · rw [List.getD_eq_getElem?_getD, List.getElem?_replicate] at h
      split at h <;> cases h
    · exact h
  · exact .inr
/-- Outs are wanted. -/
theorem wt_out {p : Pr} (hm : mayB p = true) {v : Int} (hv : v ∈ p.outs) : (wtd p).getD v.toNat false = true := wtD_mono _ _ _ _ _ ((wt0_iff hm _).2 ⟨v, hv, rfl⟩)
/-- What a wanted step is made of is wanted. -/
theorem wt_arg {p : Pr} (hm : mayB p = true) {i : Nat} (hi : i < p.ops.length) (hw : (wtd p).getD (p.inp.toNat + i) false = true) (hk : ¬ p.ops[i].k = 4) : (wtd p).getD p.ops[i].a.toNat false = true ∧ (wtd p).getD p.ops[i].b.toNat false = true := by
  obtain ⟨w', e1, e2⟩ := wtD_split p.inp.toNat p.ops p.ops.length (i + 1) (wt0 p) (by omega)
  have hl : w'.length = p.inp.toNat + p.ops.length := by rw [e2, wt0_len]
  have ha := (may_args hm i hi hk).2
  unfold wtd at hw ⊢
  rw [e1] at hw ⊢
  have e : p.ops.getD i ⟨0, 0, 0, 0⟩ = p.ops[i] := by rw [List.getD_eq_getElem?_getD, List.getElem?_eq_getElem hi]; rfl
  rcases wtD_high p.inp.toNat p.ops (fun j h h4 => (may_args hm j h h4).2) (i + 1) w' (p.inp.toNat + i) (by omega) (by omega) (by omega) hw with h1 | h1
  · have hs : wtS p.inp.toNat w' i (p.ops.getD i ⟨0, 0, 0, 0⟩) = (w'.set p.ops[i].a.toNat true).set p.ops[i].b.toNat true := by rw [e]; unfold wtS; rw [if_pos ⟨h1, hk⟩]
    show (wtD p.inp.toNat p.ops i (wtS p.inp.toNat w' i _)).getD _ false = true ∧ (wtD p.inp.toNat p.ops i (wtS p.inp.toNat w' i _)).getD _ false = true
    rw [hs]
    constructor
    · refine wtD_mono _ _ _ _ _ ?_
      rw [set_get _ _ _ (by simp; omega)]
      split
      · rfl
      · rw [set_get _ _ _ (by omega), if_pos rfl]
    · refine wtD_mono _ _ _ _ _ ?_
      rw [set_get _ _ _ (by simp; omega), if_pos rfl]
  · omega
/-- And nothing else. -/
theorem wt_least {p : Pr} (hm : mayB p = true) (P : Nat → Prop) (h0 : ∀ v ∈ p.outs, P v.toNat) (h1 : ∀ i (h : i < p.ops.length), P (p.inp.toNat + i) → ¬ p.ops[i].k = 4 → P p.ops[i].a.toNat ∧ P p.ops[i].b.toNat) : ∀ u, (wtd p).getD u false = true → P u := by
  have key : ∀ (i : Nat) (w : List Bool), i ≤ p.ops.length → w.length = p.inp.toNat + p.ops.length → (∀ u, w.getD u false = true → P u) → ∀ u, (wtD p.inp.toNat p.ops i w).getD u false = true → P u := by
    intro i
    induction i with
    | zero => intro w _ _ h; exact h
    | succ i ih =>
      intro w hi hl h
      refine ih _ (by omega) (by rw [wtS_len]; exact hl) (fun u hu => ?_)
      have e : p.ops.getD i ⟨0, 0, 0, 0⟩ = p.ops[i] := by rw [List.getD_eq_getElem?_getD, List.getElem?_eq_getElem (by omega)]; rfl
      rw [e] at hu
      unfold wtS at hu
      split at hu
      · rename_i hc
        have ha := (may_args hm i (by omega) hc.2).2
        have hp := h1 i (by omega) (h _ hc.1) hc.2
        rw [set_get _ _ _ (by simp; omega), set_get _ _ _ (by omega)] at hu
        split at hu
        · rename_i e2; rw [e2]; exact hp.2
        · split at hu
          · rename_i e2; rw [e2]; exact hp.1
          · exact h u hu
      · exact h u hu
  refine key p.ops.length (wt0 p) (Nat.le_refl _) (wt0_len p) (fun u hu => ?_)
  obtain ⟨v, hv, rfl⟩ := (wt0_iff hm u).1 hu
  exact h0 v hv

end Go.Proofs.Ytfbipnhhnmlhfaa.Slp
