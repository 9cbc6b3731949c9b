/-
  Layer 11, plain: a program's values, whatever is reckoned with; put behind another one; without what nothing hangs on.
-/
import Derived.Test.YtfbipnhhnmlhfaaBDegC
namespace Go.Proofs.Ytfbipnhhnmlhfaa.Slp
set_option linter.unusedVariables false

/-- What a program reckons with. -/
structure Rg (α : Type) where
  z : α
  ad : α → α → α
  su : α → α → α
  mu : α → α → α
  cs : Int → α
def rnS {α : Type} (R : Rg α) (l : List α) (o : O4) : α := if o.k = 1 then R.ad (l.getD o.a.toNat R.z) (l.getD o.b.toNat R.z) else if o.k = 2 then R.su (l.getD o.a.toNat R.z) (l.getD o.b.toNat R.z) else if o.k = 3 then R.mu (l.getD o.a.toNat R.z) (l.getD o.b.toNat R.z) else R.cs o.c
def rnL {α : Type} (R : Rg α) (l : List α) : List O4 → List α
  | [] => l
  | o :: os => rnL R (l ++ [rnS R l o]) os
def rns {α : Type} (R : Rg α) (p : Pr) (xs : List α) : List α := rnL R xs p.ops
def rnO {α : Type} (R : Rg α) (p : Pr) (xs : List α) : List α := p.outs.map (fun v => (rns R p xs).getD v.toNat R.z)
theorem rnL_len {α : Type} (R : Rg α) : ∀ (os : List O4) (l : List α), (rnL R l os).length = l.length + os.length
  | [], l => rfl
  | o :: os, l => by
    show (rnL R (l ++ [rnS R l o]) os).length = _
    rw [rnL_len R os]; simp; omega
theorem rnL_app {α : Type} (R : Rg α) : ∀ (os os' : List O4) (l : List α), rnL R l (os ++ os') = rnL R (rnL R l os) os'
  | [], os', l => rfl
  | o :: os, os', l => by
    show rnL R (l ++ [rnS R l o]) (os ++ os') = rnL R (rnL R (l ++ [rnS R l o]) os) os'
    exact rnL_app R os os' _
theorem rnL_get {α : Type} (R : Rg α) : ∀ (os : List O4) (l : List α) {v : Nat}, v < l.length → (rnL R l os).getD v R.z = l.getD v R.z
  | [], l, v, h => rfl
  | o :: os, l, v, h => by
    show (rnL R (l ++ [rnS R l o]) os).getD v R.z = _
    rw [rnL_get R os _ (by simp; omega), getD_app _ _ _ h]
theorem rnL_next {α : Type} (R : Rg α) (os : List O4) (l : List α) {i : Nat} (h : i < os.length) : rnL R l (os.take (i + 1)) = rnL R l (os.take i) ++ [rnS R (rnL R l (os.take i)) os[i]] := by
  rw [List.take_succ_eq_append_getElem h, rnL_app]; rfl
theorem rnL_at {α : Type} (R : Rg α) (os : List O4) (l : List α) {i : Nat} (h : i < os.length) : (rnL R l os).getD (l.length + i) R.z = rnS R (rnL R l (os.take i)) os[i] := by
  have e : os = os.take (i + 1) ++ os.drop (i + 1) := (List.take_append_drop _ _).symm
  have hl : (rnL R l (os.take i)).length = l.length + i := by rw [rnL_len, List.length_take, Nat.min_eq_left (by omega)]
  conv => lhs; rw [e, rnL_app]
  rw [rnL_get R _ _ (by rw [rnL_len, List.length_take]; omega), rnL_next R os l h, ← hl, getD_last]
theorem rnL_arg {α : Type} (R : Rg α) (os : List O4) (l : List α) {i v : Nat} (h : i ≤ os.length) (hv : v < l.length + i) : (rnL R l (os.take i)).getD v R.z = (rnL R l os).getD v R.z := by
  conv => rhs; rw [← List.take_append_drop i os, rnL_app]
  exact (rnL_get R _ _ (by rw [rnL_len, List.length_take]; omega)).symm
/-- Steps alike, by operands alike. -/
theorem rnS_sh {α : Type} (R : Rg α) (L l : List α) (at_ : List Int) (o : O4) (h : ¬ o.k = 4 → L.getD (at_.getD o.a.toNat 0).toNat R.z = l.getD o.a.toNat R.z ∧ L.getD (at_.getD o.b.toNat 0).toNat R.z = l.getD o.b.toNat R.z) : rnS R L (shO at_ o) = rnS R l o := by
  unfold shO
  by_cases h4 : o.k = 4
  · rw [if_pos h4]
    have k1 : ¬ o.k = 1 := by omega
    have k2 : ¬ o.k = 2 := by omega
    have k3 : ¬ o.k = 3 := by omega
    unfold rnS
    rw [if_neg k1, if_neg k2, if_neg k3, if_neg k1, if_neg k2, if_neg k3]
  · rw [if_neg h4]
    have := h h4
    unfold rnS
    dsimp only
    rw [this.1, this.2]

/-- Each value of a program that is put behind another one. -/
theorem aft_vals {α : Type} (R : Rg α) {p q : Pr} (hm : mayB p = true) (hq : mayB q = true) (hl : (q.outs.length : Int) = p.inp) (xs : List α) (hx : xs.length = q.inp.toNat) :
    ∀ v : Nat, v < p.inp.toNat + p.ops.length → (rns R (aftF p q) xs).getD ((aftAt q p.ops.length).getD v 0).toNat R.z = (rns R p (rnO R q xs)).getD v R.z := by
  obtain ⟨⟨i0, i1, l1, l3⟩, mo, mu⟩ := mayB_iff.1 hm
  obtain ⟨⟨j0, j1, l2, l4⟩, qo, qu⟩ := mayB_iff.1 hq
  have hin : p.inp.toNat = q.outs.length := by omega
  have hs : rns R (aftF p q) xs = rnL R (rns R q xs) (p.ops.map (shO (aftAt q p.ops.length))) := by
    show rnL R xs (q.ops ++ _) = _
    rw [rnL_app]; rfl
  have hql : (rns R q xs).length = q.inp.toNat + q.ops.length := by unfold rns; rw [rnL_len, hx]
  have hol : (rnO R q xs).length = q.outs.length := by unfold rnO; simp
  have low : ∀ a, (h : a < q.outs.length) → (aftAt q p.ops.length).getD a 0 = q.outs[a] := fun a h => by
    unfold aftAt
    rw [List.getD_eq_getElem?_getD, List.getElem?_append_left h, List.getElem?_eq_getElem h]; rfl
  have high : ∀ j, j < p.ops.length → ((aftAt q p.ops.length).getD (q.outs.length + j) 0).toNat = (rns R q xs).length + j := fun j h => by
    unfold aftAt
    rw [List.getD_eq_getElem?_getD, List.getElem?_append_right (by omega), Nat.add_sub_cancel_left]
    simp [h]
    omega
  intro v
  induction v using Nat.strongRecOn with
  | _ v ih =>
    intro hv
    by_cases h1 : v < q.outs.length
    · have e2 := of_decide_eq_true (List.all_eq_true.1 qu q.outs[v] (List.getElem_mem h1))
      have e3 : (rns R p (rnO R q xs)).getD v R.z = (rns R q xs).getD q.outs[v].toNat R.z := by
        show (rnL R (rnO R q xs) p.ops).getD v R.z = _
        rw [rnL_get R _ _ (by rw [hol]; exact h1)]
        unfold rnO
        rw [List.getD_eq_getElem?_getD, List.getElem?_map, List.getElem?_eq_getElem h1]; rfl
      rw [low v h1, e3, hs, rnL_get R _ _ (by rw [hql]; omega)]
    · obtain ⟨i, rfl⟩ : ∃ i, v = q.outs.length + i := ⟨v - q.outs.length, by omega⟩
      have hi : i < p.ops.length := by omega
      have e2 : (rns R p (rnO R q xs)).getD (q.outs.length + i) R.z = rnS R (rnL R (rnO R q xs) (p.ops.take i)) p.ops[i] := by
        have := rnL_at R p.ops (rnO R q xs) hi
        rw [hol] at this
        exact this
      rw [high i hi, hs, rnL_at R _ _ (by simpa using hi), e2, List.getElem_map]
      refine rnS_sh R _ _ _ _ (fun h4 => ?_)
      have hb := may_args hm i hi h4
      have harg : ∀ a : Nat, a < q.outs.length + i → (rnL R (rns R q xs) ((p.ops.map (shO (aftAt q p.ops.length))).take i)).getD ((aftAt q p.ops.length).getD a 0).toNat R.z = (rnL R (rnO R q xs) (p.ops.take i)).getD a R.z := fun a ha => by
        have hlt : ((aftAt q p.ops.length).getD a 0).toNat < (rns R q xs).length + i := by
          by_cases h2 : a < q.outs.length
          · have e4 := of_decide_eq_true (List.all_eq_true.1 qu q.outs[a] (List.getElem_mem h2))
            rw [low a h2, hql]; omega
          · obtain ⟨j, rfl⟩ : ∃ j, a = q.outs.length + j := ⟨a - q.outs.length, by omega⟩
            rw [high j (by omega)]; omega
        rw [rnL_arg R p.ops _ (by omega) (by rw [hol]; exact ha), rnL_arg R _ _ (by simpa using Nat.le_of_lt hi) hlt, ← hs]
        exact ih a (by omega) (by omega)
      exact ⟨harg _ (by omega), harg _ (by omega)⟩
/-- What comes out of a program that is put behind another one. -/
theorem aft_run {α : Type} (R : Rg α) {p q : Pr} (hm : mayB p = true) (hq : mayB q = true) (hl : (q.outs.length : Int) = p.inp) (xs : List α) (hx : xs.length = q.inp.toNat) : rnO R (aftF p q) xs = rnO R p (rnO R q xs) := by
  show (p.outs.map _).map _ = _
  rw [List.map_map]
  exact List.map_congr_left (fun v hv => aft_vals R hm hq hl xs hx v.toNat (may_out hm v hv).2)

/-- Values that are wanted stay. -/
theorem tr_vals {α : Type} (R : Rg α) {p : Pr} (hm : mayB p = true) (xs : List α) (hx : xs.length = p.inp.toNat) : ∀ v, (wtd p).getD v false = true → (rns R (trP p) xs).getD ((trS p p.ops.length).1.getD v 0).toNat R.z = (rns R p xs).getD v R.z := by
  obtain ⟨⟨i0, i1, l1, l3⟩, mo, mu⟩ := mayB_iff.1 hm
  intro v
  induction v using Nat.strongRecOn with
  | _ v ih =>
    intro hw
    have hlt := wt_lt hw
    by_cases h1 : v < p.inp.toNat
    · rw [trS_low p h1, Int.toNat_natCast]
      show (rnL R xs (trP p).ops).getD v R.z = (rnL R xs p.ops).getD v R.z
      rw [rnL_get R _ _ (by omega), rnL_get R _ _ (by omega)]
    · obtain ⟨i, rfl⟩ : ∃ i, v = p.inp.toNat + i := ⟨v - p.inp.toNat, by omega⟩
      have hi : i < p.ops.length := by omega
      obtain ⟨hl, e⟩ := trS_get hi hi hw
      have e' : (trP p).ops[(trS p i).2.length]'hl = shO (trS p i).1 p.ops[i] := e
      rw [trS_step hi hw, show (p.inp + ((trS p i).2.length : Int)).toNat = p.inp.toNat + (trS p i).2.length by omega]
      have a1 := rnL_at R p.ops xs hi
      have a2 := rnL_at R (trP p).ops xs hl
      rw [hx] at a1 a2
      show (rnL R xs (trP p).ops).getD _ R.z = (rnL R xs p.ops).getD _ R.z
      rw [a1, a2, e']
      refine rnS_sh R _ _ _ _ (fun h4 => ?_)
      have ha := may_args hm i hi h4
      have hb := wt_arg hm hi hw h4
      have arg : ∀ u, u < p.inp.toNat + i → (wtd p).getD u false = true → (rnL R xs ((trP p).ops.take (trS p i).2.length)).getD ((trS p i).1.getD u 0).toNat R.z = (rnL R xs (p.ops.take i)).getD u R.z := fun u hu hwu => by
        have hin := trS_in (p := p) i0 (i := i) (n := i) (Nat.le_refl _) hu hwu
        rw [rnL_arg R p.ops _ (by omega) (by omega), rnL_arg R (trP p).ops _ (Nat.le_of_lt hl) (by omega)]
        have := ih u hu hwu
        rw [trS_at p (i := i) (Nat.le_of_lt hi) hu] at this
        exact this
      exact ⟨arg _ ha.2.1 hb.1, arg _ ha.2.2 hb.2⟩
theorem tr_run {α : Type} (R : Rg α) {p : Pr} (hm : mayB p = true) (xs : List α) (hx : xs.length = p.inp.toNat) : rnO R (trP p) xs = rnO R p xs := by
  show (p.outs.map _).map _ = _
  rw [List.map_map]
  exact List.map_congr_left (fun v hv => tr_vals R hm xs hx v.toNat (wt_out hm hv))

/-- What all values keep. -/
theorem rn_all {α : Type} (R : Rg α) (P : α → Prop) (hz : P R.z) (ha : ∀ x y, P x → P y → P (R.ad x y)) (hs : ∀ x y, P x → P y → P (R.su x y)) (hu : ∀ x y, P x → P y → P (R.mu x y)) (hc : ∀ c, P (R.cs c)) : ∀ (os : List O4) (l : List α), (∀ x ∈ l, P x) → ∀ x ∈ rnL R l os, P x
  | [], l, h => h
  | o :: os, l, h => by
    refine rn_all R P hz ha hs hu hc os _ (fun x hx => ?_)
    rcases List.mem_append.1 hx with h1 | h1
    · exact h x h1
    · rw [List.mem_singleton.1 h1]
      have g : ∀ v, P (l.getD v R.z) := fun v => by
        rw [List.getD_eq_getElem?_getD]
        cases e : l[v]? with
        | none => exact hz
        | some y => exact h y (List.mem_of_getElem? e)
      unfold rnS
      split
      · exact ha _ _ (g _) (g _)
      · split
        · exact hs _ _ (g _) (g _)
        · split
          · exact hu _ _ (g _) (g _)
          · exact hc _
/-- Reckoned with in one way, seen in another one. -/
theorem rn_map {α β : Type} (R : Rg α) (Q : Rg β) (P : α → Prop) (f : α → β) (hz : P R.z) (ha : ∀ x y, P x → P y → P (R.ad x y) ∧ f (R.ad x y) = Q.ad (f x) (f y)) (hs : ∀ x y, P x → P y → P (R.su x y) ∧ f (R.su x y) = Q.su (f x) (f y)) (hu : ∀ x y, P x → P y → P (R.mu x y) ∧ f (R.mu x y) = Q.mu (f x) (f y)) (hc : ∀ c, P (R.cs c) ∧ f (R.cs c) = Q.cs c) (fz : f R.z = Q.z) : ∀ (os : List O4) (l : List α), (∀ x ∈ l, P x) → (rnL R l os).map f = rnL Q (l.map f) os
  | [], l, h => rfl
  | o :: os, l, h => by
    have g : ∀ v, P (l.getD v R.z) := fun v => by
      rw [List.getD_eq_getElem?_getD]
      cases e : l[v]? with
      | none => exact hz
      | some y => exact h y (List.mem_of_getElem? e)
    have gf : ∀ v, (l.map f).getD v Q.z = f (l.getD v R.z) := fun v => by
      rw [List.getD_eq_getElem?_getD, List.getD_eq_getElem?_getD, List.getElem?_map]
      cases l[v]? with
      | none => exact fz.symm
      | some y => rfl
    have e : P (rnS R l o) ∧ f (rnS R l o) = rnS Q (l.map f) o := by
      unfold rnS
      rw [gf, gf]
      split
      · exact ha _ _ (g _) (g _)
      · split
        · exact hs _ _ (g _) (g _)
        · split
          · exact hu _ _ (g _) (g _)
          · exact hc _
    show (rnL R (l ++ [rnS R l o]) os).map f = rnL Q (l.map f ++ [rnS Q (l.map f) o]) os
    rw [rn_map R Q P f hz ha hs hu hc fz os _ (fun x hx => by
      rcases List.mem_append.1 hx with h1 | h1
      · exact h x h1
      · rw [List.mem_singleton.1 h1]; exact e.1), List.map_append, List.map_singleton, e.2]
theorem rn_out {α β : Type} (R : Rg α) (Q : Rg β) (P : α → Prop) (f : α → β) (hz : P R.z) (ha : ∀ x y, P x → P y → P (R.ad x y) ∧ f (R.ad x y) = Q.ad (f x) (f y)) (hs : ∀ x y, P x → P y → P (R.su x y) ∧ f (R.su x y) = Q.su (f x) (f y)) (hu : ∀ x y, P x → P y → P (R.mu x y) ∧ f (R.mu x y) = Q.mu (f x) (f y)) (hc : ∀ c, P (R.cs c) ∧ f (R.cs c) = Q.cs c) (fz : f R.z = Q.z) (p : Pr) (xs : List α) (hx : ∀ x ∈ xs, P x) : (rnO R p xs).map f = rnO Q p (xs.map f) := by
  have h := rn_map R Q P f hz ha hs hu hc fz p.ops xs hx
  unfold rnO rns
  rw [List.map_map, ← h]
  refine List.map_congr_left (fun v _ => ?_)
  show f ((rnL R xs p.ops).getD v.toNat R.z) = ((rnL R xs p.ops).map f).getD v.toNat Q.z
  rw [List.getD_eq_getElem?_getD, List.getD_eq_getElem?_getD, List.getElem?_map]
  cases (rnL R xs p.ops)[v.toNat]? with
  | none => exact fz
  | some y => rfl

/-- How great values may be, by their degrees. -/
theorem rn_deg {α : Type} (R : Rg α) (P : α → Prop) (f : α → Nat) (D : Nat) (hz : P R.z) (fz : f R.z = 0) (ha : ∀ x y, P x → P y → P (R.ad x y) ∧ f (R.ad x y) ≤ max (f x) (f y)) (hs : ∀ x y, P x → P y → P (R.su x y) ∧ f (R.su x y) ≤ max (f x) (f y)) (hu : ∀ x y, P x → P y → P (R.mu x y) ∧ f (R.mu x y) ≤ f x + f y) (hc : ∀ c, P (R.cs c) ∧ f (R.cs c) = 0) : ∀ (os : List O4) (l : List α) (d : List Nat), (∀ o ∈ os, o.k = 1 ∨ o.k = 2 ∨ o.k = 3 ∨ o.k = 4) → l.length = d.length → (∀ v, P (l.getD v R.z)) → (∀ v, f (l.getD v R.z) ≤ d.getD v 0 * D) → ∀ v, P ((rnL R l os).getD v R.z) ∧ f ((rnL R l os).getD v R.z) ≤ (dgL id d os).getD v 0 * D
  | [], l, d, _, _, h1, h2, v => ⟨h1 v, h2 v⟩
  | o :: os, l, d, hk, hl, h1, h2, v => by
    have e : P (rnS R l o) ∧ f (rnS R l o) ≤ dgS d o * D := by
      have a1 := h2 o.a.toNat
      have a2 := h2 o.b.toNat
      have m1 : d.getD o.a.toNat 0 * D ≤ max (d.getD o.a.toNat 0) (d.getD o.b.toNat 0) * D := Nat.mul_le_mul_right _ (Nat.le_max_left _ _)
      have m2 : d.getD o.b.toNat 0 * D ≤ max (d.getD o.a.toNat 0) (d.getD o.b.toNat 0) * D := Nat.mul_le_mul_right _ (Nat.le_max_right _ _)
      unfold rnS dgS
      rcases hk o (by simp) with h | h | h | h
      · rw [if_pos h, if_pos (.inl h)]
        have := ha _ _ (h1 o.a.toNat) (h1 o.b.toNat)
        exact ⟨this.1, Nat.le_trans this.2 (Nat.max_le.2 ⟨Nat.le_trans a1 m1, Nat.le_trans a2 m2⟩)⟩
      · have k1 : ¬ o.k = 1 := by omega
        rw [if_neg k1, if_pos h, if_pos (.inr h)]
        have := hs _ _ (h1 o.a.toNat) (h1 o.b.toNat)
        exact ⟨this.1, Nat.le_trans this.2 (Nat.max_le.2 ⟨Nat.le_trans a1 m1, Nat.le_trans a2 m2⟩)⟩
      · have k1 : ¬ o.k = 1 := by omega
        have k2 : ¬ o.k = 2 := by omega
        have k3 : ¬ (o.k = 1 ∨ o.k = 2) := by omega
        rw [if_neg k1, if_neg k2, if_pos h, if_neg k3, if_pos h, Nat.add_mul]
        have := hu _ _ (h1 o.a.toNat) (h1 o.b.toNat)
        exact ⟨this.1, Nat.le_trans this.2 (Nat.add_le_add a1 a2)⟩
      · have k1 : ¬ o.k = 1 := by omega
        have k2 : ¬ o.k = 2 := by omega
        have k3 : ¬ o.k = 3 := by omega
        have k4 : ¬ (o.k = 1 ∨ o.k = 2) := by omega
        rw [if_neg k1, if_neg k2, if_neg k3, if_neg k4, if_neg k3, (hc o.c).2]
        exact ⟨(hc o.c).1, Nat.zero_le _⟩
    have at_ : ∀ u, (l ++ [rnS R l o]).getD u R.z = (if u < l.length then l.getD u R.z else if u = l.length then rnS R l o else R.z) ∧ (d ++ [dgS d o]).getD u 0 = (if u < l.length then d.getD u 0 else if u = l.length then dgS d o else 0) := fun u => by
      by_cases c1 : u < l.length
      · rw [if_pos c1, if_pos c1, getD_app _ _ _ c1, getD_app _ _ _ (by omega)]; exact ⟨rfl, rfl⟩
      · rw [if_neg c1, if_neg c1]
        by_cases c2 : u = l.length
        · rw [if_pos c2, if_pos c2]
          refine ⟨by rw [c2, getD_last], by rw [c2, hl, getD_last]⟩
        · rw [if_neg c2, if_neg c2, List.getD_eq_getElem?_getD, List.getElem?_eq_none (by simp; omega), List.getD_eq_getElem?_getD, List.getElem?_eq_none (by simp; omega)]; exact ⟨rfl, rfl⟩
    refine rn_deg R P f D hz fz ha hs hu hc os (l ++ [rnS R l o]) (d ++ [dgS d o]) (fun x hx => hk x (by simp [hx])) (by simp [hl]) (fun u => ?_) (fun u => ?_) v
    · rw [(at_ u).1]
      by_cases c1 : u < l.length
      · rw [if_pos c1]; exact h1 u
      · rw [if_neg c1]
        by_cases c2 : u = l.length
        · rw [if_pos c2]; exact e.1
        · rw [if_neg c2]; exact hz
    · rw [(at_ u).1, (at_ u).2]
      by_cases c1 : u < l.length
      · rw [if_pos c1, if_pos c1]; exact h2 u
      · rw [if_neg c1, if_neg c1]
        by_cases c2 : u = l.length
        · rw [if_pos c2, if_pos c2]; exact e.2
        · rw [if_neg c2, if_neg c2, fz]; exact Nat.zero_le _

end Go.Proofs.Ytfbipnhhnmlhfaa.Slp
