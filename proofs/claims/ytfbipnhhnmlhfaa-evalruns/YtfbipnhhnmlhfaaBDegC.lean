/-
  Layer 10, plain: a program without the steps that nothing hangs on: what stays.
-/
import Derived.Test.YtfbipnhhnmlhfaaBDegB
namespace Go.Proofs.Ytfbipnhhnmlhfaa.Slp
set_option linter.unusedVariables false

/-- When so many steps were looked at: where each value has gone, and the steps that stay. -/
def trS (p : Pr) : Nat → List Int × List O4
  | 0 => ((List.range p.inp.toNat).map (fun j : Nat => (j : Int)), [])
  | i + 1 =>
    let s := trS p i
    if (wtd p).getD (p.inp.toNat + i) false = true then (s.1 ++ [p.inp + (s.2.length : Int)], s.2 ++ [shO s.1 (p.ops.getD i ⟨0, 0, 0, 0⟩)]) else (s.1 ++ [p.inp + (i : Int)], s.2)
def trP (p : Pr) : Pr := ⟨p.inp, (trS p p.ops.length).2, p.outs.map (fun v => (trS p p.ops.length).1.getD v.toNat 0)⟩
theorem trS_yes {p : Pr} {i : Nat} (h : (wtd p).getD (p.inp.toNat + i) false = true) : trS p (i + 1) = ((trS p i).1 ++ [p.inp + ((trS p i).2.length : Int)], (trS p i).2 ++ [shO (trS p i).1 (p.ops.getD i ⟨0, 0, 0, 0⟩)]) := by
  show (if _ then _ else _) = _
  rw [if_pos h]
theorem trS_no {p : Pr} {i : Nat} (h : ¬ (wtd p).getD (p.inp.toNat + i) false = true) : trS p (i + 1) = ((trS p i).1 ++ [p.inp + (i : Int)], (trS p i).2) := by
  show (if _ then _ else _) = _
  rw [if_neg h]
theorem trS_len (p : Pr) : ∀ i, (trS p i).1.length = p.inp.toNat + i ∧ (trS p i).2.length ≤ i
  | 0 => ⟨by simp [trS], Nat.le_refl _⟩
  | i + 1 => by
    have ih := trS_len p i
    by_cases h : (wtd p).getD (p.inp.toNat + i) false = true
    · rw [trS_yes h]; simp; omega
    · rw [trS_no h]; simp; omega
theorem trS_at (p : Pr) {i n v : Nat} (hi : i ≤ n) (hv : v < p.inp.toNat + i) : (trS p n).1.getD v 0 = (trS p i).1.getD v 0 := by
  induction n with
  | zero => rw [show i = 0 by omega]
  | succ n ih =>
    by_cases e : i = n + 1
    · rw [e]
    · rw [← ih (by omega)]
      have hl := (trS_len p n).1
      by_cases h : (wtd p).getD (p.inp.toNat + n) false = true
      · rw [trS_yes h]; exact getD_app _ _ _ (by omega)
      · rw [trS_no h]; exact getD_app _ _ _ (by omega)
theorem trS_low (p : Pr) {i v : Nat} (hv : v < p.inp.toNat) : (trS p i).1.getD v 0 = (v : Int) := by
  rw [trS_at p (Nat.zero_le i) (by omega)]
  show ((List.range p.inp.toNat).map (fun j : Nat => (j : Int))).getD v 0 = _
  rw [List.getD_eq_getElem?_getD]; simp [hv]
theorem trS_step {p : Pr} {i n : Nat} (hi : i < n) (h : (wtd p).getD (p.inp.toNat + i) false = true) : (trS p n).1.getD (p.inp.toNat + i) 0 = p.inp + ((trS p i).2.length : Int) := by
  rw [trS_at p (i := i + 1) hi (by omega), trS_yes h, ← (trS_len p i).1, getD_last]
/-- The steps that stay go up. -/
theorem trS_pre (p : Pr) {i n : Nat} (hi : i ≤ n) : ∃ os, (trS p n).2 = (trS p i).2 ++ os := by
  induction n with
  | zero => exact ⟨[], by rw [show i = 0 by omega]; simp⟩
  | succ n ih =>
    by_cases e : i = n + 1
    · exact ⟨[], by rw [e]; simp⟩
    · obtain ⟨os, h1⟩ := ih (by omega)
      by_cases h : (wtd p).getD (p.inp.toNat + n) false = true
      · exact ⟨os ++ [shO (trS p n).1 (p.ops.getD n ⟨0, 0, 0, 0⟩)], by rw [trS_yes h]; show (trS p n).2 ++ _ = _; rw [h1]; simp⟩
      · exact ⟨os, by rw [trS_no h]; exact h1⟩
theorem trS_get {p : Pr} {i n : Nat} (hi : i < n) (hp : i < p.ops.length) (h : (wtd p).getD (p.inp.toNat + i) false = true) : ∃ hl : (trS p i).2.length < (trS p n).2.length, (trS p n).2[(trS p i).2.length] = shO (trS p i).1 p.ops[i] := by
  obtain ⟨os, e⟩ := trS_pre p (i := i + 1) (n := n) hi
  rw [trS_yes h] at e
  have e2 : (trS p n).2 = (trS p i).2 ++ (shO (trS p i).1 p.ops[i] :: os) := by
    rw [e]
    have : p.ops.getD i ⟨0, 0, 0, 0⟩ = p.ops[i] := by rw [List.getD_eq_getElem?_getD, List.getElem?_eq_getElem hp]; rfl
    rw [this]; simp
  refine ⟨by rw [e2]; simp, ?_⟩
  simp only [e2]
  rw [List.getElem_append_right (Nat.le_refl _)]
  simp
/-- Each step that stays was one that is wanted. -/
theorem trS_from (p : Pr) : ∀ (n j : Nat), j < (trS p n).2.length → ∃ i, i < n ∧ (wtd p).getD (p.inp.toNat + i) false = true ∧ (trS p i).2.length = j
  | 0, j, h => by simp [trS] at h
  | n + 1, j, h => by
    by_cases hw : (wtd p).getD (p.inp.toNat + n) false = true
    · rw [trS_yes hw] at h
      by_cases e : j = (trS p n).2.length
      · exact ⟨n, by omega, hw, e.symm⟩
      · have h2 : j < (trS p n).2.length := by simp at h; omega
        obtain ⟨i, h3, h4, h5⟩ := trS_from p n j h2
        exact ⟨i, by omega, h4, h5⟩
    · rw [trS_no hw] at h
      obtain ⟨i, h3, h4, h5⟩ := trS_from p n j h
      exact ⟨i, by omega, h4, h5⟩
/-- Where a wanted value has gone lies below what stands ahead of a step. -/
theorem trS_in {p : Pr} (h0 : 0 ≤ p.inp) {i n v : Nat} (hi : i ≤ n) (hv : v < p.inp.toNat + i) (hw : (wtd p).getD v false = true) : 0 ≤ (trS p n).1.getD v 0 ∧ (trS p n).1.getD v 0 < p.inp + ((trS p i).2.length : Int) := by
  by_cases h1 : v < p.inp.toNat
  · rw [trS_low p h1]; omega
  · obtain ⟨j, rfl⟩ : ∃ j, v = p.inp.toNat + j := ⟨v - p.inp.toNat, by omega⟩
    rw [trS_step (by omega) hw]
    obtain ⟨os, e⟩ := trS_pre p (i := j + 1) (n := i) (by omega)
    rw [trS_yes hw] at e
    have := congrArg List.length e
    simp at this
    omega
theorem tr_may {p : Pr} (hm : mayB p = true) : mayB (trP p) = true := by
  obtain ⟨⟨i0, i1, l1, l3⟩, mo, mu⟩ := mayB_iff.1 hm
  have hlen := (trS_len p p.ops.length).2
  refine mayB_iff.2 ⟨⟨i0, i1, by show (trS p p.ops.length).2.length ≤ 256; omega, by show (p.outs.map _).length ≤ 64; simp; omega⟩, ?_, ?_⟩
  · have key : ∀ (os : List O4) (j : Nat), (∀ k (h : k < os.length), opM os[k] (p.inp + ((j + k : Nat) : Int)) = true) → opsM p.inp j os = true := by
      intro os
      induction os with
      | nil => intro j _; rfl
      | cons o os ih =>
        intro j h
        show (opM o (p.inp + j) && opsM p.inp (j + 1) os) = true
        rw [Bool.and_eq_true]
        refine ⟨h 0 (by simp), ih (j + 1) (fun k hk => ?_)⟩
        have := h (k + 1) (by simpa using hk)
        rw [show j + 1 + k = j + (k + 1) by omega]; exact this
    refine key _ 0 (fun k hk => ?_)
    obtain ⟨i, h1, h2, h3⟩ := trS_from p p.ops.length k hk
    obtain ⟨hl, e⟩ := trS_get h1 h1 h2
    subst h3
    have e' : (trP p).ops[(trS p i).2.length]'hk = shO (trS p i).1 p.ops[i] := e
    rw [e', Nat.zero_add]
    show opM _ (p.inp + ((trS p i).2.length : Int)) = true
    have hop := opsM_get p.inp p.ops 0 i h1 mo
    rw [Nat.zero_add] at hop
    unfold shO
    by_cases h4 : p.ops[i].k = 4
    · rw [if_pos h4]
      unfold opM at hop ⊢
      rw [if_neg (by omega), if_pos h4] at hop ⊢
      exact hop
    · rw [if_neg h4]
      have ha := may_args hm i h1 h4
      have hb := wt_arg hm h1 h2 h4
      have q1 := trS_in (p := p) i0 (i := i) (n := i) (Nat.le_refl _) ha.2.1 hb.1
      have q2 := trS_in (p := p) i0 (i := i) (n := i) (Nat.le_refl _) ha.2.2 hb.2
      unfold opM at hop ⊢
      by_cases hk : p.ops[i].k = 1 ∨ p.ops[i].k = 2 ∨ p.ops[i].k = 3
      · rw [if_pos hk, decide_eq_true_iff] at hop ⊢
        exact ⟨q1.1, q1.2, q2.1, q2.2, hop.2.2.2.2⟩
      · rw [if_neg hk, if_neg h4] at hop; cases hop
  · show (p.outs.map _).all _ = true
    rw [List.all_eq_true]
    intro x hx
    obtain ⟨v, hv, rfl⟩ := List.mem_map.1 hx
    have h1 := may_out hm v hv
    have := trS_in (p := p) i0 (i := p.ops.length) (n := p.ops.length) (Nat.le_refl _) h1.2 (wt_out hm hv)
    exact decide_eq_true ⟨this.1, this.2⟩

/-- A wanted value is wanted where it has gone. -/
theorem tr_wt {p : Pr} (hm : mayB p = true) : ∀ v, (wtd p).getD v false = true → v < p.inp.toNat + p.ops.length → (wtd (trP p)).getD ((trS p p.ops.length).1.getD v 0).toNat false = true := by
  have hq := tr_may hm
  have hin : (trP p).inp.toNat = p.inp.toNat := rfl
  obtain ⟨⟨i0, i1, l1, l3⟩, mo, mu⟩ := mayB_iff.1 hm
  have key := wt_least hm (fun v => (wtd p).getD v false = true ∧ (wtd (trP p)).getD ((trS p p.ops.length).1.getD v 0).toNat false = true) (fun v hv => ⟨wt_out hm hv, wt_out hq (List.mem_map.2 ⟨v, hv, rfl⟩)⟩) (fun i h ⟨h1, h2⟩ hk => by
    have ha := may_args hm i h hk
    have hw := wt_arg hm h h1 hk
    obtain ⟨hl, e⟩ := trS_get h h h1
    have e1 : ((trS p p.ops.length).1.getD (p.inp.toNat + i) 0).toNat = p.inp.toNat + (trS p i).2.length := by rw [trS_step h h1]; omega
    rw [e1] at h2
    have e' : (trP p).ops[(trS p i).2.length]'hl = shO (trS p i).1 p.ops[i] := e
    have e2 : (trP p).ops[(trS p i).2.length]'hl = ⟨p.ops[i].k, (trS p i).1.getD p.ops[i].a.toNat 0, (trS p i).1.getD p.ops[i].b.toNat 0, p.ops[i].c⟩ := by rw [e']; unfold shO; rw [if_neg hk]
    have h3 := wt_arg hq (i := (trS p i).2.length) hl (by rw [hin]; exact h2) (by rw [e2]; exact hk)
    rw [e2] at h3
    rw [trS_at p (i := i) (Nat.le_of_lt h) ha.2.1, trS_at p (i := i) (Nat.le_of_lt h) ha.2.2]
    exact ⟨⟨hw.1, h3.1⟩, ⟨hw.2, h3.2⟩⟩)
  exact fun v hv _ => (key v hv).2
theorem wt_lt {p : Pr} {v : Nat} (h : (wtd p).getD v false = true) : v < p.inp.toNat + p.ops.length := by
  rw [← wtd_len]
  apply Nat.lt_of_not_le
  intro hn
  rw [List.getD_eq_getElem?_getD, List.getElem?_eq_none hn] at h
  cases h
/-- All its steps are wanted. -/
theorem tr_all {p : Pr} (hm : mayB p = true) {j : Nat} (hj : j < (trP p).ops.length) : (wtd (trP p)).getD ((trP p).inp.toNat + j) false = true := by
  obtain ⟨⟨i0, i1, l1, l3⟩, mo, mu⟩ := mayB_iff.1 hm
  obtain ⟨i, h1, h2, h3⟩ := trS_from p p.ops.length j hj
  have := tr_wt hm _ h2 (by omega)
  rw [trS_step h1 h2, h3, show (p.inp + (j : Int)).toNat = p.inp.toNat + j by omega] at this
  exact this
/-- Its inputs are wanted as they were. -/
theorem tr_inp {p : Pr} (hm : mayB p = true) {j : Nat} (hj : j < p.inp.toNat) : (wtd (trP p)).getD j false = (wtd p).getD j false := by
  have hq := tr_may hm
  obtain ⟨⟨i0, i1, l1, l3⟩, mo, mu⟩ := mayB_iff.1 hm
  cases h : (wtd p).getD j false with
  | true =>
    have := tr_wt hm j h (by omega)
    rw [trS_low p hj, Int.toNat_natCast] at this
    exact this
  | false =>
    cases h2 : (wtd (trP p)).getD j false with
    | false => rfl
    | true =>
      exfalso
      have key := wt_least hq (fun u => ∃ v, (wtd p).getD v false = true ∧ ((trS p p.ops.length).1.getD v 0).toNat = u) (fun v hv => by
        obtain ⟨x, hx, rfl⟩ := List.mem_map.1 hv
        exact ⟨x.toNat, wt_out hm hx, rfl⟩) (fun k hk hu h4 => by
        obtain ⟨i, h1, h2, h3⟩ := trS_from p p.ops.length k hk
        subst h3
        obtain ⟨hl, e⟩ := trS_get h1 h1 h2
        have e' : (trP p).ops[(trS p i).2.length]'hk = shO (trS p i).1 p.ops[i] := e
        rw [e'] at h4 ⊢
        have h4' : ¬ p.ops[i].k = 4 := fun x => h4 (by unfold shO; rw [if_pos x]; exact x)
        unfold shO
        rw [if_neg h4']
        have ha := may_args hm i h1 h4'
        have hw := wt_arg hm h1 h2 h4'
        refine ⟨⟨_, hw.1, ?_⟩, ⟨_, hw.2, ?_⟩⟩
        · rw [trS_at p (i := i) (Nat.le_of_lt h1) ha.2.1]
        · rw [trS_at p (i := i) (Nat.le_of_lt h1) ha.2.2])
      obtain ⟨v, h3, h4⟩ := key j h2
      by_cases h5 : v < p.inp.toNat
      · rw [trS_low p h5, Int.toNat_natCast] at h4
        rw [h4, h] at h3; cases h3
      · obtain ⟨i, rfl⟩ : ∃ i, v = p.inp.toNat + i := ⟨v - p.inp.toNat, by omega⟩
        have := wt_lt h3
        rw [trS_step (by omega) h3] at h4
        omega
/-- Once more nothing at all. -/
theorem tr_once {p : Pr} (hm : mayB p = true) (ha : ∀ j, j < p.ops.length → (wtd p).getD (p.inp.toNat + j) false = true) : trP p = p := by
  obtain ⟨⟨i0, i1, l1, l3⟩, mo, mu⟩ := mayB_iff.1 hm
  have key : ∀ i, i ≤ p.ops.length → (trS p i).2 = p.ops.take i ∧ ∀ v, v < p.inp.toNat + i → (trS p i).1.getD v 0 = (v : Int) := by
    intro i
    induction i with
    | zero => intro _; exact ⟨by simp [trS], fun v hv => trS_low p hv⟩
    | succ i ih =>
      intro hi
      obtain ⟨h1, h2⟩ := ih (by omega)
      have hw := ha i (by omega)
      have hl := (trS_len p i).1
      rw [trS_yes hw]
      have e : p.ops.getD i ⟨0, 0, 0, 0⟩ = p.ops[i] := by rw [List.getD_eq_getElem?_getD, List.getElem?_eq_getElem (by omega)]; rfl
      refine ⟨?_, fun v hv => ?_⟩
      · show (trS p i).2 ++ _ = _
        rw [h1, e, List.take_succ_eq_append_getElem (by omega)]
        congr 2
        unfold shO
        by_cases h4 : p.ops[i].k = 4
        · rw [if_pos h4]
        · rw [if_neg h4]
          have hb := may_args hm i (by omega) h4
          rw [h2 _ hb.2.1, h2 _ hb.2.2, Int.toNat_of_nonneg hb.1.1, Int.toNat_of_nonneg hb.1.2]
      · show ((trS p i).1 ++ _).getD v 0 = _
        by_cases h5 : v < p.inp.toNat + i
        · rw [getD_app _ _ _ (by omega)]; exact h2 v h5
        · have : v = (trS p i).1.length := by omega
          rw [this, getD_last, h1, hl, List.length_take]
          omega
  obtain ⟨h1, h2⟩ := key p.ops.length (Nat.le_refl _)
  have e1 : (trS p p.ops.length).2 = p.ops := by rw [h1, List.take_length]
  have e2 : p.outs.map (fun v => (trS p p.ops.length).1.getD v.toNat 0) = p.outs := map_same _ _ (fun i hi => by
    have hb := may_out hm p.outs[i] (List.getElem_mem hi)
    show (trS p p.ops.length).1.getD p.outs[i].toNat 0 = p.outs[i]
    rw [h2 _ hb.2, Int.toNat_of_nonneg hb.1])
  unfold trP
  rw [e1, e2]
theorem tr_twice {p : Pr} (hm : mayB p = true) : trP (trP p) = trP p := tr_once (tr_may hm) (fun j hj => tr_all hm hj)
/-- Degrees stay. -/
theorem tr_deg {p : Pr} (hm : mayB p = true) : ∀ v, (wtd p).getD v false = true → (dgs (trP p)).getD ((trS p p.ops.length).1.getD v 0).toNat 0 = (dgs p).getD v 0 := by
  obtain ⟨⟨i0, i1, l1, l3⟩, mo, mu⟩ := mayB_iff.1 hm
  intro v
  induction v using Nat.strongRecOn with
  | _ v ih =>
    intro hw
    have hlt := wt_lt hw
    by_cases h1 : v < p.inp.toNat
    · rw [trS_low p h1, Int.toNat_natCast]
      have h5 : v < (List.replicate p.inp.toNat 1).length := by simpa using h1
      show (dgL id (List.replicate p.inp.toNat 1) (trP p).ops).getD v 0 = (dgL id (List.replicate p.inp.toNat 1) p.ops).getD v 0
      rw [dgL_get id _ _ h5, dgL_get id _ _ h5]
    · obtain ⟨i, rfl⟩ : ∃ i, v = p.inp.toNat + i := ⟨v - p.inp.toNat, by omega⟩
      have hi : i < p.ops.length := by omega
      obtain ⟨hl, e⟩ := trS_get hi hi hw
      have e' : (trP p).ops[(trS p i).2.length]'hl = shO (trS p i).1 p.ops[i] := e
      rw [trS_step hi hw, show (p.inp + ((trS p i).2.length : Int)).toNat = p.inp.toNat + (trS p i).2.length by omega]
      have a1 := dgL_at id p.ops (List.replicate p.inp.toNat 1) hi
      have a2 := dgL_at id (trP p).ops (List.replicate p.inp.toNat 1) hl
      rw [List.length_replicate] at a1 a2
      show (dgL id (List.replicate p.inp.toNat 1) (trP p).ops).getD _ 0 = (dgL id (List.replicate p.inp.toNat 1) p.ops).getD _ 0
      rw [a1, a2, e']
      show dgS _ _ = dgS _ _
      unfold shO
      by_cases h4 : p.ops[i].k = 4
      · rw [if_pos h4]
        have k1 : ¬ (p.ops[i].k = 1 ∨ p.ops[i].k = 2) := by omega
        have k2 : ¬ p.ops[i].k = 3 := by omega
        unfold dgS
        rw [if_neg k1, if_neg k2, if_neg k1, if_neg k2]
      · rw [if_neg h4]
        have ha := may_args hm i hi h4
        have hb := wt_arg hm hi hw h4
        have arg : ∀ u, u < p.inp.toNat + i → (wtd p).getD u false = true → (dgL id (List.replicate p.inp.toNat 1) ((trP p).ops.take (trS p i).2.length)).getD ((trS p i).1.getD u 0).toNat 0 = (dgL id (List.replicate p.inp.toNat 1) (p.ops.take i)).getD u 0 := fun u hu hwu => by
          have hin := trS_in (p := p) i0 (i := i) (n := i) (Nat.le_refl _) hu hwu
          rw [dgL_arg id p.ops _ (by omega) (by simpa using hu), dgL_arg id (trP p).ops _ (Nat.le_of_lt hl) (by rw [List.length_replicate]; omega)]
          have := ih u hu hwu
          rw [trS_at p (i := i) (Nat.le_of_lt hi) hu] at this
          exact this
        unfold dgS
        dsimp only
        rw [arg _ ha.2.1 hb.1, arg _ ha.2.2 hb.2]
theorem tr_out {p : Pr} (hm : mayB p = true) : dgO (trP p) = dgO p := by
  unfold dgO
  congr 1
  show (p.outs.map _).map _ = _
  rw [List.map_map]
  exact List.map_congr_left (fun v hv => tr_deg hm v.toNat (wt_out hm hv))

end Go.Proofs.Ytfbipnhhnmlhfaa.Slp
