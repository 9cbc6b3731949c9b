/-
  Layer 9, plain: decimal numbers as bytes; a text cut at a byte, and put together again.
-/
import Derived.Lib.ItoaNum
namespace Go.Proofs.YtjkialmhajbcfaaDoor.Slp
set_option linter.unusedVariables false

abbrev Tx := List UInt8
/-- A number's decimal form. -/
def dec (u : Nat) : Tx := Lib.decDigits u
def dgt (d : UInt8) : Prop := 48 ≤ d.toNat ∧ d.toNat ≤ 57
/-- The number of some digits. -/
def num (l : Tx) : Nat := l.foldl (fun n d => 10 * n + (d.toNat - 48)) 0
theorem dec_small {u : Nat} (h : u < 10) : dec u = [UInt8.ofNat (48 + u)] := Lib.decDigits_one h
theorem dec_big {u : Nat} (h : ¬ u < 10) : dec u = dec (u / 10) ++ [UInt8.ofNat (48 + u % 10)] := by
  show Lib.decDigits u = Lib.decDigits (u / 10) ++ _
  rw [Lib.decDigits, dif_neg h]
theorem ofNat_dgt {d : Nat} (h : d < 10) : (UInt8.ofNat (48 + d)).toNat = 48 + d := by
  rw [UInt8.toNat_ofNat']; exact Nat.mod_eq_of_lt (by omega)
theorem head_app {m : Tx} (h : m ≠ []) (l : Tx) : (m ++ l).head? = m.head? := by
  cases m with
  | nil => exact absurd rfl h
  | cons x m => rfl
theorem num_snoc (l : Tx) (d : UInt8) : num (l ++ [d]) = 10 * num l + (d.toNat - 48) := by unfold num; rw [List.foldl_append]; rfl
theorem dec_facts (u : Nat) : num (dec u) = u ∧ (∀ d ∈ dec u, dgt d) ∧ dec u ≠ [] ∧ ((dec u).head? = some 48 → u = 0) := by
  induction u using Nat.strongRecOn with
  | _ u ih =>
    by_cases h : u < 10
    · rw [dec_small h]
      have e := ofNat_dgt h
      refine ⟨?_, fun d hd => ?_, by simp, fun hh => ?_⟩
      · show 10 * 0 + ((UInt8.ofNat (48 + u)).toNat - 48) = u
        rw [e]; omega
      · rw [List.mem_singleton.1 hd]; unfold dgt; omega
      · simp only [List.head?_cons, Option.some.injEq] at hh
        have := congrArg UInt8.toNat hh
        rw [e] at this
        have h48 : (48 : UInt8).toNat = 48 := rfl
        omega
    · obtain ⟨h1, h2, h3, h4⟩ := ih (u / 10) (by omega)
      have e := ofNat_dgt (show u % 10 < 10 by omega)
      rw [dec_big h]
      refine ⟨?_, fun d hd => ?_, by simp, fun hh => ?_⟩
      · rw [num_snoc, h1, e]; omega
      · rcases List.mem_append.1 hd with hd | hd
        · exact h2 d hd
        · rw [List.mem_singleton.1 hd]; unfold dgt; omega
      · rw [head_app h3] at hh
        have := h4 hh
        omega
theorem num_dec (u : Nat) : num (dec u) = u := (dec_facts u).1
theorem dec_inj {u v : Nat} (h : dec u = dec v) : u = v := by rw [← num_dec u, h, num_dec]
theorem dec_dgt (u : Nat) : ∀ d ∈ dec u, dgt d := (dec_facts u).2.1
theorem dec_ne (u : Nat) : dec u ≠ [] := (dec_facts u).2.2.1
theorem dec_len {u : Nat} (h : (dec u).head? = some 48) : (dec u).length = 1 := by
  rw [(dec_facts u).2.2.2 h, dec_small (by decide)]; rfl
theorem num_cons_pos {d : UInt8} {l : Tx} (hd : dgt d) (h : d ≠ 48) : 1 ≤ num (d :: l) := by
  have key : ∀ (l : Tx) (n : Nat), n ≤ l.foldl (fun n d => 10 * n + (d.toNat - 48)) n := by
    intro l
    induction l with
    | nil => intro n; exact Nat.le_refl _
    | cons x l ih => intro n; exact Nat.le_trans (by omega) (ih (10 * n + (x.toNat - 48)))
  have h1 : d.toNat ≠ 48 := fun e => h (UInt8.toNat_inj.1 (by rw [e]; rfl))
  have h2 := hd.1
  exact Nat.le_trans (by omega) (key l (10 * 0 + (d.toNat - 48)))
/-- Digits, with no 0 ahead of others, are a number's form. -/
theorem dec_num {l : Tx} (h0 : l ≠ []) (hd : ∀ d ∈ l, dgt d) (hh : l.head? = some 48 → l.length = 1) : dec (num l) = l := by
  have key : ∀ (n : Nat) (l : Tx), l.length = n → l ≠ [] → (∀ d ∈ l, dgt d) → (l.head? = some 48 → l.length = 1) → dec (num l) = l := by
    intro n
    induction n with
    | zero => intro l hl h0; exact absurd (List.length_eq_zero_iff.1 hl) h0
    | succ n ih =>
      intro l hl h0 hd hh
      obtain ⟨m, d, rfl⟩ : ∃ m d, l = m ++ [d] := ⟨l.dropLast, l.getLast h0, (List.dropLast_concat_getLast h0).symm⟩
      have hdd := hd d (by simp)
      have hml : m.length = n := by rw [List.length_append] at hl; simpa using hl
      rw [num_snoc]
      by_cases hm : m = []
      · subst hm
        have : 10 * num [] + (d.toNat - 48) < 10 := by show 10 * 0 + _ < 10; have := hdd.2; omega
        rw [dec_small this]
        have e : UInt8.ofNat (48 + (10 * num [] + (d.toNat - 48))) = d := by
          apply UInt8.toNat_inj.1
          rw [ofNat_dgt this]
          show 48 + (10 * 0 + (d.toNat - 48)) = _
          have := hdd.1; omega
        rw [e]; rfl
      · have hmd : ∀ x ∈ m, dgt x := fun x hx => hd x (List.mem_append_left _ hx)
        have hne : m.head? ≠ some 48 := fun h => by
          have := hh (by rw [head_app hm]; exact h)
          rw [List.length_append] at this
          have h2 := List.length_pos_iff.2 hm
          have h3 : ([d] : Tx).length = 1 := rfl
          omega
        have h1 : 1 ≤ num m := by
          cases m with
          | nil => exact absurd rfl hm
          | cons x m => exact num_cons_pos (hmd x (by simp)) (fun e => hne (by rw [e]; rfl))
        have h9 : d.toNat - 48 < 10 := by have := hdd.2; omega
        rw [dec_big (by omega)]
        have e1 : (10 * num m + (d.toNat - 48)) / 10 = num m := by omega
        have e2 : (10 * num m + (d.toNat - 48)) % 10 = d.toNat - 48 := by omega
        rw [e1, e2, ih m hml hm hmd (fun h => absurd h hne)]
        congr 2
        apply UInt8.toNat_inj.1
        rw [ofNat_dgt h9]
        have := hdd.1; omega
  exact key _ l rfl h0 hd hh
theorem num_take (l : Tx) (k : Nat) : num (l.take k) ≤ num l := by
  have key : ∀ (l : Tx) (n : Nat), n ≤ l.foldl (fun n d => 10 * n + (d.toNat - 48)) n := by
    intro l
    induction l with
    | nil => intro n; exact Nat.le_refl _
    | cons x l ih => intro n; exact Nat.le_trans (by omega) (ih (10 * n + (x.toNat - 48)))
  have : num l = (l.drop k).foldl (fun n d => 10 * n + (d.toNat - 48)) (num (l.take k)) := by
    conv => lhs; rw [← List.take_append_drop k l]
    unfold num; rw [List.foldl_append]
  rw [this]; exact key _ _
/-- A number that is read, up to most. -/
def nmb (s : Tx) (most : Nat) : Option Nat := if s ≠ [] ∧ (∀ d ∈ s, 48 ≤ d.toNat ∧ d.toNat ≤ 57) ∧ (s.head? = some 48 → s.length = 1) ∧ num s ≤ most then some (num s) else none
theorem nmb_dec {n most : Nat} (h : n ≤ most) : nmb (dec n) most = some n := by
  unfold nmb
  rw [if_pos ⟨dec_ne n, dec_dgt n, dec_len, by rw [num_dec]; exact h⟩, num_dec]
theorem nmb_some {s : Tx} {most n : Nat} (h : nmb s most = some n) : s = dec n ∧ n ≤ most := by
  unfold nmb at h
  by_cases hc : s ≠ [] ∧ (∀ d ∈ s, 48 ≤ d.toNat ∧ d.toNat ≤ 57) ∧ (s.head? = some 48 → s.length = 1) ∧ num s ≤ most
  · rw [if_pos hc] at h
    obtain ⟨h1, h2, h3, h4⟩ := hc
    have : num s = n := by simpa using h
    subst this
    exact ⟨(dec_num h1 h2 h3).symm, h4⟩
  · rw [if_neg hc] at h; cases h
theorem dec_not {u : Nat} {c : UInt8} (h : c.toNat < 48 ∨ 57 < c.toNat) : c ∉ dec u := fun hc => by
  have := dec_dgt u c hc
  unfold dgt at this
  omega

/-- A text cut at a byte: what is whole, and what is under way. -/
def cutS (c : UInt8) (st : List Tx × Tx) (x : UInt8) : List Tx × Tx := if x = c then (st.1 ++ [st.2], []) else (st.1, st.2 ++ [x])
def pst (c : UInt8) (l : Tx) : List Tx × Tx := l.foldl (cutS c) ([], [])
def pcs (c : UInt8) (l : Tx) : List Tx := (pst c l).1 ++ [(pst c l).2]
/-- Words with a byte between each two. -/
def jnt (c : UInt8) : List Tx → Tx
  | [] => []
  | [w] => w
  | w :: v :: ws => w ++ c :: jnt c (v :: ws)
theorem pst_snoc (c : UInt8) (l : Tx) (x : UInt8) : pst c (l ++ [x]) = cutS c (pst c l) x := by unfold pst; rw [List.foldl_append]; rfl
theorem jnt_snoc (c : UInt8) (ws : List Tx) (w u : Tx) : jnt c (ws ++ [w ++ u]) = jnt c (ws ++ [w]) ++ u := by
  induction ws with
  | nil => rfl
  | cons v ws ih =>
    cases ws with
    | nil => show v ++ c :: (w ++ u) = (v ++ c :: w) ++ u; simp
    | cons v2 ws => show v ++ c :: jnt c (v2 :: ws ++ [w ++ u]) = (v ++ c :: jnt c (v2 :: ws ++ [w])) ++ u; rw [ih]; simp
theorem jnt_new (c : UInt8) (ws : List Tx) (w : Tx) (h : ws ≠ []) : jnt c (ws ++ [w]) = jnt c ws ++ c :: w := by
  induction ws with
  | nil => exact absurd rfl h
  | cons v ws ih =>
    cases ws with
    | nil => rfl
    | cons v2 ws => show v ++ c :: jnt c (v2 :: ws ++ [w]) = (v ++ c :: jnt c (v2 :: ws)) ++ c :: w; rw [ih (by simp)]; simp
theorem rev_ind {P : Tx → Prop} (h0 : P []) (h1 : ∀ l x, P l → P (l ++ [x])) : ∀ l, P l := by
  intro l
  have : P l.reverse.reverse := by
    induction l.reverse with
    | nil => exact h0
    | cons x m ih => rw [List.reverse_cons]; exact h1 _ _ ih
  rwa [List.reverse_reverse] at this
/-- Cut and put together again. -/
theorem jnt_pcs (c : UInt8) : ∀ l, jnt c (pcs c l) = l := by
  apply rev_ind
  · rfl
  · intro l x ih
    unfold pcs at *
    rw [pst_snoc]
    unfold cutS
    by_cases h : x = c
    · rw [if_pos h]
      show jnt c (((pst c l).1 ++ [(pst c l).2]) ++ [[]]) = _
      rw [jnt_new _ _ _ (by simp), ih, h]
    · rw [if_neg h]
      show jnt c ((pst c l).1 ++ [(pst c l).2 ++ [x]]) = _
      rw [jnt_snoc, ih]
theorem cut_hit (c : UInt8) (d : List Tx) (u : Tx) : cutS c (d, u) c = (d ++ [u], []) := if_pos rfl
theorem cut_miss {c x : UInt8} (h : ¬ x = c) (d : List Tx) (u : Tx) : cutS c (d, u) x = (d, u ++ [x]) := if_neg h
theorem fold_free (c : UInt8) (w : Tx) (h : c ∉ w) : ∀ d u, w.foldl (cutS c) (d, u) = (d, u ++ w) := by
  induction w with
  | nil => intro d u; simp
  | cons x w ih =>
    intro d u
    have hx : ¬ x = c := fun e => h (by rw [e]; exact List.mem_cons_self)
    rw [List.foldl_cons, cut_miss hx, ih (fun hc => h (List.mem_cons_of_mem _ hc))]
    simp
theorem fold_shift (c : UInt8) (l : Tx) : ∀ d u, l.foldl (cutS c) (d, u) = (d ++ (l.foldl (cutS c) ([], u)).1, (l.foldl (cutS c) ([], u)).2) := by
  induction l with
  | nil => intro d u; simp
  | cons x l ih =>
    intro d u
    rw [List.foldl_cons, List.foldl_cons]
    by_cases h : x = c
    · subst h
      rw [cut_hit, cut_hit, ih (d ++ [u]) [], ih ([] ++ [u]) []]
      simp
    · rw [cut_miss h, cut_miss h, ih d (u ++ [x])]
/-- A word without the byte, the byte, and more. -/
theorem pcs_word (c : UInt8) (w l : Tx) (h : c ∉ w) : pcs c (w ++ c :: l) = w :: pcs c l := by
  unfold pcs pst
  rw [List.foldl_append, fold_free c w h]
  show ((l.foldl (cutS c) (cutS c ([], [] ++ w) c)).1 ++ [(l.foldl (cutS c) (cutS c ([], [] ++ w) c)).2]) = _
  have e : cutS c ([], [] ++ w) c = ([w], []) := by unfold cutS; rw [if_pos rfl]; rfl
  rw [e, fold_shift c l [w] []]
  rfl
theorem pcs_free (c : UInt8) (w : Tx) (h : c ∉ w) : pcs c w = [w] := by
  unfold pcs pst
  rw [fold_free c w h]; rfl
/-- Put together and cut again. -/
theorem pcs_jnt (c : UInt8) : ∀ ws : List Tx, ws ≠ [] → (∀ w ∈ ws, c ∉ w) → pcs c (jnt c ws) = ws
  | [], h, _ => absurd rfl h
  | [w], _, h => pcs_free c w (h w (by simp))
  | w :: v :: ws, _, h => by
    show pcs c (w ++ c :: jnt c (v :: ws)) = _
    rw [pcs_word c w _ (h w (by simp)), pcs_jnt c (v :: ws) (by simp) (fun x hx => h x (List.mem_cons_of_mem _ hx))]
theorem pst_not (c : UInt8) : ∀ l, c ∉ (pst c l).2 ∧ ∀ w ∈ (pst c l).1, c ∉ w := by
  apply rev_ind
  · exact ⟨by simp [pst], by simp [pst]⟩
  · intro l x ⟨h1, h2⟩
    rw [pst_snoc]
    unfold cutS
    by_cases h : x = c
    · rw [if_pos h]
      refine ⟨by simp, fun w hw => ?_⟩
      rcases List.mem_append.1 hw with hw | hw
      · exact h2 w hw
      · rw [List.mem_singleton.1 hw]; exact h1
    · rw [if_neg h]
      refine ⟨fun hc => ?_, h2⟩
      rcases List.mem_append.1 hc with hc | hc
      · exact h1 hc
      · exact h (List.mem_singleton.1 hc).symm
theorem pcs_not {c : UInt8} {l w : Tx} (h : w ∈ pcs c l) : c ∉ w := by
  rcases List.mem_append.1 h with h | h
  · exact (pst_not c l).2 w h
  · rw [List.mem_singleton.1 h]; exact (pst_not c l).1

end Go.Proofs.YtjkialmhajbcfaaDoor.Slp
