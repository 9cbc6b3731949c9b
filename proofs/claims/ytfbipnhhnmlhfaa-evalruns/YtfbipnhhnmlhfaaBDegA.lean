/-
  Layer 10, plain: degrees of values; capped; of a program put behind another one.
-/
import Derived.Test.YtfbipnhhnmlhfaaBunS
namespace Go.Proofs.Ytfbipnhhnmlhfaa.Slp
set_option linter.unusedVariables false

/-- A step's degree, by the degrees ahead of it. -/
def dgS (l : List Nat) (o : O4) : Nat := if o.k = 1 ∨ o.k = 2 then max (l.getD o.a.toNat 0) (l.getD o.b.toNat 0) else if o.k = 3 then l.getD o.a.toNat 0 + l.getD o.b.toNat 0 else 0
def dgL (f : Nat → Nat) (l : List Nat) : List O4 → List Nat
  | [] => l
  | o :: os => dgL f (l ++ [f (dgS l o)]) os
def cap9 (d : Nat) : Nat := min d 1025
def dgs (p : Pr) : List Nat := dgL id (List.replicate p.inp.toNat 1) p.ops
def cps (p : Pr) : List Nat := dgL cap9 (List.replicate p.inp.toNat 1) p.ops
theorem dgL_len (f : Nat → Nat) : ∀ (os : List O4) (l : List Nat), (dgL f l os).length = l.length + os.length
  | [], l => rfl
  | o :: os, l => by
    show (dgL f (l ++ [f (dgS l o)]) os).length = _
    rw [dgL_len f os]; simp; omega
theorem dgL_app (f : Nat → Nat) : ∀ (os os' : List O4) (l : List Nat), dgL f l (os ++ os') = dgL f (dgL f l os) os'
  | [], os', l => rfl
  | o :: os, os', l => by
    show dgL f (l ++ [f (dgS l o)]) (os ++ os') = dgL f (dgL f (l ++ [f (dgS l o)]) os) os'
    exact dgL_app f os os' _
theorem getD_app {α : Type} (l l' : List α) (d : α) {v : Nat} (h : v < l.length) : (l ++ l').getD v d = l.getD v d := by
  rw [List.getD_eq_getElem?_getD, List.getElem?_append_left h, ← List.getD_eq_getElem?_getD]
theorem getD_last {α : Type} (l : List α) (x d : α) : (l ++ [x]).getD l.length d = x := by
  rw [List.getD_eq_getElem?_getD, List.getElem?_append_right (Nat.le_refl _)]; simp
theorem dgL_get (f : Nat → Nat) : ∀ (os : List O4) (l : List Nat) {v : Nat}, v < l.length → (dgL f l os).getD v 0 = l.getD v 0
  | [], l, v, h => rfl
  | o :: os, l, v, h => by
    show (dgL f (l ++ [f (dgS l o)]) os).getD v 0 = _
    rw [dgL_get f os _ (by simp; omega), getD_app _ _ _ h]
/-- When so many steps are done. -/
theorem dgL_next (f : Nat → Nat) (os : List O4) (l : List Nat) {i : Nat} (h : i < os.length) : dgL f l (os.take (i + 1)) = dgL f l (os.take i) ++ [f (dgS (dgL f l (os.take i)) os[i])] := by
  rw [List.take_succ_eq_append_getElem h, dgL_app]; rfl
theorem dgL_at (f : Nat → Nat) (os : List O4) (l : List Nat) {i : Nat} (h : i < os.length) : (dgL f l os).getD (l.length + i) 0 = f (dgS (dgL f l (os.take i)) os[i]) := by
  have e : os = os.take (i + 1) ++ os.drop (i + 1) := (List.take_append_drop _ _).symm
  have hl : (dgL f l (os.take i)).length = l.length + i := by rw [dgL_len, List.length_take, Nat.min_eq_left (by omega)]
  conv => lhs; rw [e, dgL_app]
  rw [dgL_get f _ _ (by rw [dgL_len, List.length_take]; omega), dgL_next f os l h, ← hl, getD_last]
/-- An operand's degree is there when it is its turn. -/
theorem dgL_arg (f : Nat → Nat) (os : List O4) (l : List Nat) {i v : Nat} (h : i ≤ os.length) (hv : v < l.length + i) : (dgL f l (os.take i)).getD v 0 = (dgL f l os).getD v 0 := by
  conv => rhs; rw [← List.take_append_drop i os, dgL_app]
  exact (dgL_get f _ _ (by rw [dgL_len, List.length_take]; omega)).symm
theorem cap_step {l l' : List Nat} (h : ∀ v, l'.getD v 0 = cap9 (l.getD v 0)) (o : O4) : cap9 (dgS l' o) = cap9 (dgS l o) := by
  unfold dgS
  rw [h, h]
  unfold cap9
  split
  · omega
  · split
    · omega
    · rfl
theorem cap_all : ∀ (os : List O4) (l l' : List Nat), l'.length = l.length → (∀ v, l'.getD v 0 = cap9 (l.getD v 0)) → ∀ v, (dgL cap9 l' os).getD v 0 = cap9 ((dgL id l os).getD v 0)
  | [], l, l', hl, h, v => h v
  | o :: os, l, l', hl, h, v => by
    show (dgL cap9 (l' ++ [cap9 (dgS l' o)]) os).getD v 0 = cap9 ((dgL id (l ++ [dgS l o]) os).getD v 0)
    refine cap_all os _ _ (by simp [hl]) (fun u => ?_) v
    by_cases h1 : u < l.length
    · rw [getD_app _ _ _ h1, getD_app _ _ _ (by omega)]; exact h u
    · by_cases h2 : u = l.length
      · subst h2
        rw [getD_last, ← hl, getD_last]
        exact cap_step h o
      · rw [List.getD_eq_getElem?_getD, List.getElem?_eq_none (by simp; omega), List.getD_eq_getElem?_getD, List.getElem?_eq_none (by simp; omega)]; rfl
theorem cps_cap (p : Pr) (v : Nat) : (cps p).getD v 0 = cap9 ((dgs p).getD v 0) := by
  refine cap_all p.ops _ _ rfl (fun v => ?_) v
  by_cases h : v < p.inp.toNat
  · rw [List.getD_eq_getElem?_getD, List.getElem?_replicate, if_pos h]; rfl
  · rw [List.getD_eq_getElem?_getD, List.getElem?_replicate, if_neg h]; rfl
/-- The greatest one of some. -/
def mxl (l : List Nat) : Nat := l.foldl max 0
theorem mxl_snoc (l : List Nat) (x : Nat) : mxl (l ++ [x]) = max (mxl l) x := by unfold mxl; rw [List.foldl_append]; rfl
theorem mxl_le {l : List Nat} {b : Nat} : mxl l ≤ b ↔ ∀ x ∈ l, x ≤ b := by
  have key : ∀ (l : List Nat) (a : Nat), l.foldl max a ≤ b ↔ a ≤ b ∧ ∀ x ∈ l, x ≤ b := by
    intro l
    induction l with
    | nil => intro a; simp
    | cons y l ih =>
      intro a
      rw [List.foldl_cons, ih]
      simp only [List.mem_cons, forall_eq_or_imp]
      exact ⟨fun ⟨h1, h2⟩ => ⟨by omega, by omega, h2⟩, fun ⟨h1, h2, h3⟩ => ⟨by omega, h3⟩⟩
  rw [mxl, key]; simp
theorem mxl_cap (g : Int → Nat) : ∀ l : List Int, mxl (l.map (fun v => cap9 (g v))) = cap9 (mxl (l.map g)) := by
  intro l
  have key : ∀ (l : List Int) (a : Nat), (l.map (fun v => cap9 (g v))).foldl max (cap9 a) = cap9 ((l.map g).foldl max a) := by
    intro l
    induction l with
    | nil => intro a; rfl
    | cons y l ih =>
      intro a
      rw [List.map_cons, List.foldl_cons, List.map_cons, List.foldl_cons, ← ih]
      congr 1
      unfold cap9; omega
  exact key l 0
def dgO (p : Pr) : Nat := mxl (p.outs.map (fun v => (dgs p).getD v.toNat 0))
def cpO (p : Pr) : Nat := mxl (p.outs.map (fun v => (cps p).getD v.toNat 0))
theorem cpO_cap (p : Pr) : cpO p = cap9 (dgO p) := by
  unfold cpO dgO
  rw [← mxl_cap]
  congr 1
  exact List.map_congr_left (fun v _ => cps_cap p v.toNat)

/-- Of a program put behind another one: each value's degree at most times B, where the other one's outs have at most B. -/
theorem aft_deg {p q : Pr} (hm : mayB p = true) (hq : mayB q = true) (hl : (q.outs.length : Int) = p.inp) {B : Nat} (hB : 1 ≤ B) (ho : ∀ v ∈ q.outs, (dgs q).getD v.toNat 0 ≤ B) :
    ∀ v : Nat, v < p.inp.toNat + p.ops.length → (dgs (aftF p q)).getD ((aftAt q p.ops.length).getD v 0).toNat 0 ≤ (dgs p).getD v 0 * B := by
  obtain ⟨⟨i0, i1, l1, l3⟩, mo, mu⟩ := mayB_iff.1 hm
  obtain ⟨⟨j0, j1, l2, l4⟩, qo, qu⟩ := mayB_iff.1 hq
  have hin : p.inp.toNat = q.outs.length := by omega
  have hs : dgs (aftF p q) = dgL id (dgs q) (p.ops.map (shO (aftAt q p.ops.length))) := by
    show dgL id (List.replicate q.inp.toNat 1) (q.ops ++ _) = _
    rw [dgL_app]; rfl
  have hql : (dgs q).length = q.inp.toNat + q.ops.length := by unfold dgs; rw [dgL_len]; simp
  intro v
  induction v using Nat.strongRecOn with
  | _ v ih =>
    intro hv
    by_cases h1 : v < q.outs.length
    · have e1 : (aftAt q p.ops.length).getD v 0 = q.outs[v] := by
        unfold aftAt
        rw [List.getD_eq_getElem?_getD, List.getElem?_append_left h1, List.getElem?_eq_getElem h1]; rfl
      have e2 := of_decide_eq_true (List.all_eq_true.1 qu q.outs[v] (List.getElem_mem h1))
      have e3 : (dgs p).getD v 0 = 1 := by
        unfold dgs
        rw [dgL_get id _ _ (by simp; omega), List.getD_eq_getElem?_getD, List.getElem?_replicate, if_pos (by omega)]; rfl
      rw [e1, e3, hs, dgL_get id _ _ (by rw [hql]; omega), Nat.one_mul]
      exact ho _ (List.getElem_mem h1)
    · obtain ⟨i, rfl⟩ : ∃ i, v = q.outs.length + i := ⟨v - q.outs.length, by omega⟩
      have hi : i < p.ops.length := by omega
      have e1 : ((aftAt q p.ops.length).getD (q.outs.length + i) 0).toNat = (dgs q).length + i := by
        unfold aftAt
        rw [List.getD_eq_getElem?_getD, List.getElem?_append_right (by omega), Nat.add_sub_cancel_left]
        simp [hi]
        omega
      have hmi := opsM_get p.inp p.ops 0 i hi mo
      rw [Nat.zero_add] at hmi
      rw [e1, hs, dgL_at id _ _ (by simpa using hi)]
      have e2 : (dgs p).getD (q.outs.length + i) 0 = dgS (dgL id (List.replicate p.inp.toNat 1) (p.ops.take i)) p.ops[i] := by
        have := dgL_at id p.ops (List.replicate p.inp.toNat 1) hi
        rw [List.length_replicate] at this
        unfold dgs
        rw [← hin, this]; rfl
      rw [e2]
      show dgS _ ((p.ops.map (shO (aftAt q p.ops.length)))[i]'(by simpa using hi)) ≤ _
      rw [List.getElem_map]
      generalize hL : dgL id (dgs q) ((p.ops.map (shO (aftAt q p.ops.length))).take i) = L
      have harg : ∀ a : Nat, a < q.outs.length + i → L.getD ((aftAt q p.ops.length).getD a 0).toNat 0 ≤ (dgL id (List.replicate p.inp.toNat 1) (p.ops.take i)).getD a 0 * B := fun a ha => by
        rw [dgL_arg id p.ops _ (by omega) (by simp; omega), ← hL]
        have hlt : ((aftAt q p.ops.length).getD a 0).toNat < (dgs q).length + i := by
          by_cases h2 : a < q.outs.length
          · have e3 : (aftAt q p.ops.length).getD a 0 = q.outs[a] := by
              unfold aftAt
              rw [List.getD_eq_getElem?_getD, List.getElem?_append_left h2, List.getElem?_eq_getElem h2]; rfl
            have e4 := of_decide_eq_true (List.all_eq_true.1 qu q.outs[a] (List.getElem_mem h2))
            rw [e3, hql]; omega
          · obtain ⟨j, rfl⟩ : ∃ j, a = q.outs.length + j := ⟨a - q.outs.length, by omega⟩
            unfold aftAt
            rw [List.getD_eq_getElem?_getD, List.getElem?_append_right (by omega), Nat.add_sub_cancel_left]
            simp [show j < p.ops.length by omega]
            omega
        rw [dgL_arg id _ _ (by simpa using Nat.le_of_lt hi) hlt, ← hs]
        exact ih a (by omega) (by omega)
      unfold opM at hmi
      unfold shO
      by_cases hk : p.ops[i].k = 1 ∨ p.ops[i].k = 2 ∨ p.ops[i].k = 3
      · rw [if_pos hk, decide_eq_true_iff] at hmi
        rw [if_neg (by omega)]
        have ha := harg p.ops[i].a.toNat (by omega)
        have hb := harg p.ops[i].b.toNat (by omega)
        unfold dgS
        dsimp only
        by_cases hk2 : p.ops[i].k = 1 ∨ p.ops[i].k = 2
        · rw [if_pos hk2, if_pos hk2]
          exact Nat.max_le.2 ⟨Nat.le_trans ha (Nat.mul_le_mul_right _ (Nat.le_max_left _ _)), Nat.le_trans hb (Nat.mul_le_mul_right _ (Nat.le_max_right _ _))⟩
        · rw [if_neg hk2, if_neg hk2, if_pos (by omega), if_pos (by omega), Nat.add_mul]
          omega
      · rw [if_neg hk] at hmi
        by_cases h4 : p.ops[i].k = 4
        · rw [if_pos h4]
          unfold dgS
          rw [if_neg (by omega), if_neg (by omega)]
          exact Nat.zero_le _
        · rw [if_neg h4] at hmi; cases hmi
theorem aft_out {p q : Pr} (hm : mayB p = true) (hq : mayB q = true) (hl : (q.outs.length : Int) = p.inp) : dgO (aftF p q) ≤ max (dgO p) 1 * max (dgO q) 1 := by
  obtain ⟨⟨i0, i1, l1, l3⟩, mo, mu⟩ := mayB_iff.1 hm
  have key := aft_deg hm hq hl (B := max (dgO q) 1) (by omega) (fun v hv => Nat.le_trans (mxl_le.1 (Nat.le_refl (dgO q)) _ (List.mem_map.2 ⟨v, hv, rfl⟩)) (Nat.le_max_left _ _))
  refine mxl_le.2 (fun x hx => ?_)
  obtain ⟨u, hu, rfl⟩ := List.mem_map.1 hx
  obtain ⟨v, hv, rfl⟩ := List.mem_map.1 hu
  have e := of_decide_eq_true (List.all_eq_true.1 mu v hv)
  refine Nat.le_trans (key v.toNat (by omega)) (Nat.mul_le_mul_right _ (Nat.le_trans (mxl_le.1 (Nat.le_refl (dgO p)) _ (List.mem_map.2 ⟨v, hv, rfl⟩)) (Nat.le_max_left _ _)))

end Go.Proofs.Ytfbipnhhnmlhfaa.Slp
