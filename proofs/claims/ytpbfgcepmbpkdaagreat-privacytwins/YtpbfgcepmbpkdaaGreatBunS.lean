/- Texts laid together: SlpA, SlpB, SlpC, SlpD. -/
import Derived.Lib.ItoaNum
namespace Go.Proofs.YtpbfgcepmbpkdaaGreat.Slp
set_option linter.unusedVariables false

abbrev Tx := List UInt8
/-- A number's decimal form. -/
def dec (u : Nat) : Tx := Lib.decDigits u
def dgt (d : UInt8) : Prop := 48 ≤ d.toNat ∧ d.toNat ≤ 57
/-- The number of some digits. -/
def num (l : Tx) : Nat := l.foldl (fun n d => 10 * n + (d.toNat - 48)) 0
theorem dec_small {u : Nat} (h : u < 10) : dec u = [UInt8.ofNat (48 + u)] := Lib.decDigits_one h
theorem dec_big {u : Nat} (h : ¬ u < 10) : dec u = dec (u / 10) ++ [UInt8.ofNat (48 + u % 10)] := by
  show Lib.decDigits u = Lib.decDigits (u / 10) ++ _
  rw [Lib.decDigits, dif_neg h]
theorem ofNat_dgt {d : Nat} (h : d < 10) : (UInt8.ofNat (48 + d)).toNat = 48 + d := by
  rw [UInt8.toNat_ofNat']; exact Nat.mod_eq_of_lt (by omega)
theorem head_app {m : Tx} (h : m ≠ []) (l : Tx) : (m ++ l).head? = m.head? := by
  cases m with
  | nil => exact absurd rfl h
  | cons x m => rfl
theorem num_snoc (l : Tx) (d : UInt8) : num (l ++ [d]) = 10 * num l + (d.toNat - 48) := by unfold num; rw [List.foldl_append]; rfl
theorem dec_facts (u : Nat) : num (dec u) = u ∧ (∀ d ∈ dec u, dgt d) ∧ dec u ≠ [] ∧ ((dec u).head? = some 48 → u = 0) := by
  induction u using Nat.strongRecOn with
  | _ u ih =>
    by_cases h : u < 10
    · rw [dec_small h]
      have e := ofNat_dgt h
      refine ⟨?_, fun d hd => ?_, by simp, fun hh => ?_⟩
      · show 10 * 0 + ((UInt8.ofNat (48 + u)).toNat - 48) = u
        rw [e]; omega
      · rw [List.mem_singleton.1 hd]; unfold dgt; omega
      · simp only [List.head?_cons, Option.some.injEq] at hh
        have := congrArg UInt8.toNat hh
        rw [e] at this
        have h48 : (48 : UInt8).toNat = 48 := rfl
        omega
    · obtain ⟨h1, h2, h3, h4⟩ := ih (u / 10) (by omega)
      have e := ofNat_dgt (show u % 10 < 10 by omega)
      rw [dec_big h]
      refine ⟨?_, fun d hd => ?_, by simp, fun hh => ?_⟩
      · rw [num_snoc, h1, e]; omega
      · rcases List.mem_append.1 hd with hd | hd
        · exact h2 d hd
        · rw [List.mem_singleton.1 hd]; unfold dgt; omega
      · rw [head_app h3] at hh
        have := h4 hh
        omega
theorem num_dec (u : Nat) : num (dec u) = u := (dec_facts u).1
theorem dec_inj {u v : Nat} (h : dec u = dec v) : u = v := by rw [← num_dec u, h, num_dec]
theorem dec_dgt (u : Nat) : ∀ d ∈ dec u, dgt d := (dec_facts u).2.1
theorem dec_ne (u : Nat) : dec u ≠ [] := (dec_facts u).2.2.1
theorem dec_len {u : Nat} (h : (dec u).head? = some 48) : (dec u).length = 1 := by
  rw [(dec_facts u).2.2.2 h, dec_small (by decide)]; rfl
theorem num_cons_pos {d : UInt8} {l : Tx} (hd : dgt d) (h : d ≠ 48) : 1 ≤ num (d :: l) := by
  have key : ∀ (l : Tx) (n : Nat), n ≤ l.foldl (fun n d => 10 * n + (d.toNat - 48)) n := by
    intro l
    induction l with
    | nil => intro n; exact Nat.le_refl _
    | cons x l ih => intro n; exact Nat.le_trans (by omega) (ih (10 * n + (x.toNat - 48)))
  have h1 : d.toNat ≠ 48 := fun e => h (UInt8.toNat_inj.1 (by rw [e]; rfl))
  have h2 := hd.1
  exact Nat.le_trans (by omega) (key l (10 * 0 + (d.toNat - 48)))
/-- Digits, with no 0 ahead of others, are a number's form. -/
theorem dec_num {l : Tx} (h0 : l ≠ []) (hd : ∀ d ∈ l, dgt d) (hh : l.head? = some 48 → l.length = 1) : dec (num l) = l := by
  have key : ∀ (n : Nat) (l : Tx), l.length = n → l ≠ [] → (∀ d ∈ l, dgt d) → (l.head? = some 48 → l.length = 1) → dec (num l) = l := by
    intro n
    induction n with
    | zero => intro l hl h0; exact absurd (List.length_eq_zero_iff.1 hl) h0
    | succ n ih =>
      intro l hl h0 hd hh
      obtain ⟨m, d, rfl⟩ : ∃ m d, l = m ++ [d] := ⟨l.dropLast, l.getLast h0, (List.dropLast_concat_getLast h0).symm⟩
      have hdd := hd d (by simp)
      have hml : m.length = n := by rw [List.length_append] at hl; simpa using hl
      rw [num_snoc]
      by_cases hm : m = []
      · subst hm
        have : 10 * num [] + (d.toNat - 48) < 10 := by show 10 * 0 + _ < 10; have := hdd.2; omega
        rw [dec_small this]
        have e : UInt8.ofNat (48 + (10 * num [] + (d.toNat - 48))) = d := by
          apply UInt8.toNat_inj.1
          rw [ofNat_dgt this]
          show 48 + (10 * 0 + (d.toNat - 48)) = _
          have := hdd.1; omega
        rw [e]; rfl
      · have hmd : ∀ x ∈ m, dgt x := fun x hx => hd x (List.mem_append_left _ hx)
        have hne : m.head? ≠ some 48 := fun h => by
          have := hh (by rw [head_app hm]; exact h)
          rw [List.length_append] at this
          have h2 := List.length_pos_iff.2 hm
          have h3 : ([d] : Tx).length = 1 := rfl
          omega
        have h1 : 1 ≤ num m := by
          cases m with
          | nil => exact absurd rfl hm
          | cons x m => exact num_cons_pos (hmd x (by simp)) (fun e => hne (by rw [e]; rfl))
        have h9 : d.toNat - 48 < 10 := by have := hdd.2; omega
        rw [dec_big (by omega)]
        have e1 : (10 * num m + (d.toNat - 48)) / 10 = num m := by omega
        have e2 : (10 * num m + (d.toNat - 48)) % 10 = d.toNat - 48 := by omega
        rw [e1, e2, ih m hml hm hmd (fun h => absurd h hne)]
        congr 2
        apply UInt8.toNat_inj.1
        rw [ofNat_dgt h9]
        have := hdd.1; omega
  exact key _ l rfl h0 hd hh
theorem num_take (l : Tx) (k : Nat) : num (l.take k) ≤ num l := by
  have key : ∀ (l : Tx) (n : Nat), n ≤ l.foldl (fun n d => 10 * n + (d.toNat - 48)) n := by
    intro l
    induction l with
    | nil => intro n; exact Nat.le_refl _
    | cons x l ih => intro n; exact Nat.le_trans (by omega) (ih (10 * n + (x.toNat - 48)))
  have : num l = (l.drop k).foldl (fun n d => 10 * n + (d.toNat - 48)) (num (l.take k)) := by
    conv => lhs; rw [← List.take_append_drop k l]
    unfold num; rw [List.foldl_append]
  rw [this]; exact key _ _
/-- A number that is read, up to most. -/
def nmb (s : Tx) (most : Nat) : Option Nat := if s ≠ [] ∧ (∀ d ∈ s, 48 ≤ d.toNat ∧ d.toNat ≤ 57) ∧ (s.head? = some 48 → s.length = 1) ∧ num s ≤ most then some (num s) else none
theorem nmb_dec {n most : Nat} (h : n ≤ most) : nmb (dec n) most = some n := by
  unfold nmb
  rw [if_pos ⟨dec_ne n, dec_dgt n, dec_len, by rw [num_dec]; exact h⟩, num_dec]
theorem nmb_some {s : Tx} {most n : Nat} (h : nmb s most = some n) : s = dec n ∧ n ≤ most := by
  unfold nmb at h
  by_cases hc : s ≠ [] ∧ (∀ d ∈ s, 48 ≤ d.toNat ∧ d.toNat ≤ 57) ∧ (s.head? = some 48 → s.length = 1) ∧ num s ≤ most
  · rw [if_pos hc] at h
    obtain ⟨h1, h2, h3, h4⟩ := hc
    have : num s = n := by simpa using h
    subst this
    exact ⟨(dec_num h1 h2 h3).symm, h4⟩
  · rw [if_neg hc] at h; cases h
theorem dec_not {u : Nat} {c : UInt8} (h : c.toNat < 48 ∨ 57 < c.toNat) : c ∉ dec u := fun hc => by
  have := dec_dgt u c hc
  unfold dgt at this
  omega

/-- A text cut at a byte: what is whole, and what is under way. -/
def cutS (c : UInt8) (st : List Tx × Tx) (x : UInt8) : List Tx × Tx := if x = c then (st.1 ++ [st.2], []) else (st.1, st.2 ++ [x])
def pst (c : UInt8) (l : Tx) : List Tx × Tx := l.foldl (cutS c) ([], [])
def pcs (c : UInt8) (l : Tx) : List Tx := (pst c l).1 ++ [(pst c l).2]
/-- Words with a byte between each two. -/
def jnt (c : UInt8) : List Tx → Tx
  | [] => []
  | [w] => w
  | w :: v :: ws => w ++ c :: jnt c (v :: ws)
theorem pst_snoc (c : UInt8) (l : Tx) (x : UInt8) : pst c (l ++ [x]) = cutS c (pst c l) x := by unfold pst; rw [List.foldl_append]; rfl
theorem jnt_snoc (c : UInt8) (ws : List Tx) (w u : Tx) : jnt c (ws ++ [w ++ u]) = jnt c (ws ++ [w]) ++ u := by
  induction ws with
  | nil => rfl
  | cons v ws ih =>
    cases ws with
    | nil => show v ++ c :: (w ++ u) = (v ++ c :: w) ++ u; simp
    | cons v2 ws => show v ++ c :: jnt c (v2 :: ws ++ [w ++ u]) = (v ++ c :: jnt c (v2 :: ws ++ [w])) ++ u; rw [ih]; simp
theorem jnt_new (c : UInt8) (ws : List Tx) (w : Tx) (h : ws ≠ []) : jnt c (ws ++ [w]) = jnt c ws ++ c :: w := by
  induction ws with
  | nil => exact absurd rfl h
  | cons v ws ih =>
    cases ws with
    | nil => rfl
    | cons v2 ws => show v ++ c :: jnt c (v2 :: ws ++ [w]) = (v ++ c :: jnt c (v2 :: ws)) ++ c :: w; rw [ih (by simp)]; simp
theorem rev_ind {P : Tx → Prop} (h0 : P []) (h1 : ∀ l x, P l → P (l ++ [x])) : ∀ l, P l := by
  intro l
  have : P l.reverse.reverse := by
    induction l.reverse with
    | nil => exact h0
    | cons x m ih => rw [List.reverse_cons]; exact h1 _ _ ih
  rwa [List.reverse_reverse] at this
/-- Cut and put together again. -/
theorem jnt_pcs (c : UInt8) : ∀ l, jnt c (pcs c l) = l := by
  apply rev_ind
  · rfl
  · intro l x ih
    unfold pcs at *
    rw [pst_snoc]
    unfold cutS
    by_cases h : x = c
    · rw [if_pos h]
      show jnt c (((pst c l).1 ++ [(pst c l).2]) ++ [[]]) = _
      rw [jnt_new _ _ _ (by simp), ih, h]
    · rw [if_neg h]
      show jnt c ((pst c l).1 ++ [(pst c l).2 ++ [x]]) = _
      rw [jnt_snoc, ih]
theorem cut_hit (c : UInt8) (d : List Tx) (u : Tx) : cutS c (d, u) c = (d ++ [u], []) := if_pos rfl
theorem cut_miss {c x : UInt8} (h : ¬ x = c) (d : List Tx) (u : Tx) : cutS c (d, u) x = (d, u ++ [x]) := if_neg h
theorem fold_free (c : UInt8) (w : Tx) (h : c ∉ w) : ∀ d u, w.foldl (cutS c) (d, u) = (d, u ++ w) := by
  induction w with
  | nil => intro d u; simp
  | cons x w ih =>
    intro d u
    have hx : ¬ x = c := fun e => h (by rw [e]; exact List.mem_cons_self)
    rw [List.foldl_cons, cut_miss hx, ih (fun hc => h (List.mem_cons_of_mem _ hc))]
    simp
theorem fold_shift (c : UInt8) (l : Tx) : ∀ d u, l.foldl (cutS c) (d, u) = (d ++ (l.foldl (cutS c) ([], u)).1, (l.foldl (cutS c) ([], u)).2) := by
  induction l with
  | nil => intro d u; simp
  | cons x l ih =>
    intro d u
    rw [List.foldl_cons, List.foldl_cons]
    by_cases h : x = c
    · subst h
      rw [cut_hit, cut_hit, ih (d ++ [u]) [], ih ([] ++ [u]) []]
      simp
    · rw [cut_miss h, cut_miss h, ih d (u ++ [x])]
/-- A word without the byte, the byte, and more. -/
theorem pcs_word (c : UInt8) (w l : Tx) (h : c ∉ w) : pcs c (w ++ c :: l) = w :: pcs c l := by
  unfold pcs pst
  rw [List.foldl_append, fold_free c w h]
  show ((l.foldl (cutS c) (cutS c ([], [] ++ w) c)).1 ++ [(l.foldl (cutS c) (cutS c ([], [] ++ w) c)).2]) = _
  have e : cutS c ([], [] ++ w) c = ([w], []) := by unfold cutS; rw [if_pos rfl]; rfl
  rw [e, fold_shift c l [w] []]
  rfl
theorem pcs_free (c : UInt8) (w : Tx) (h : c ∉ w) : pcs c w = [w] := by
  unfold pcs pst
  rw [fold_free c w h]; rfl
/-- Put together and cut again. -/
theorem pcs_jnt (c : UInt8) : ∀ ws : List Tx, ws ≠ [] → (∀ w ∈ ws, c ∉ w) → pcs c (jnt c ws) = ws
  | [], h, _ => absurd rfl h
  | [w], _, h => pcs_free c w (h w (by simp))
  | w :: v :: ws, _, h => by
    show pcs c (w ++ c :: jnt c (v :: ws)) = _
    rw [pcs_word c w _ (h w (by simp)), pcs_jnt c (v :: ws) (by simp) (fun x hx => h x (List.mem_cons_of_mem _ hx))]
theorem pst_not (c : UInt8) : ∀ l, c ∉ (pst c l).2 ∧ ∀ w ∈ (pst c l).1, c ∉ w := by
  apply rev_ind
  · exact ⟨by simp [pst], by simp [pst]⟩
  · intro l x ⟨h1, h2⟩
    rw [pst_snoc]
    unfold cutS
    by_cases h : x = c
    · rw [if_pos h]
      refine ⟨by simp, fun w hw => ?_⟩
      rcases List.mem_append.1 hw with hw | hw
      · exact h2 w hw
      · rw [List.mem_singleton.1 hw]; exact h1
    · rw [if_neg h]
      refine ⟨fun hc => ?_, h2⟩
      rcases List.mem_append.1 hc with hc | hc
      · exact h1 hc
      · exact h (List.mem_singleton.1 hc).symm
theorem pcs_not {c : UInt8} {l w : Tx} (h : w ∈ pcs c l) : c ∉ w := by
  rcases List.mem_append.1 h with h | h
  · exact (pst_not c l).2 w h
  · rw [List.mem_singleton.1 h]; exact (pst_not c l).1

end Go.Proofs.YtpbfgcepmbpkdaaGreat.Slp

namespace Go.Proofs.YtpbfgcepmbpkdaaGreat.Slp
set_option linter.unusedVariables false

/-- A step, and a program. -/
structure O4 where
  k : Int
  a : Int
  b : Int
  c : Int
structure Pr where
  inp : Int
  ops : List O4
  outs : List Int
/-- May a step be, whose own value has that number? -/
def opM (o : O4) (own : Int) : Bool :=
  if o.k = 1 ∨ o.k = 2 ∨ o.k = 3 then decide (0 ≤ o.a ∧ o.a < own ∧ 0 ≤ o.b ∧ o.b < own ∧ o.c = 0) else if o.k = 4 then decide (o.a = 0 ∧ o.b = 0) else false
def opsM (inp : Int) : Nat → List O4 → Bool
  | _, [] => true
  | i, o :: os => opM o (inp + i) && opsM inp (i + 1) os
def outM (inp : Int) (n : Nat) (outs : List Int) : Bool := outs.all (fun v => decide (0 ≤ v ∧ v < inp + n))
def mayB (p : Pr) : Bool := decide (0 ≤ p.inp ∧ p.inp ≤ 64 ∧ p.ops.length ≤ 256 ∧ p.outs.length ≤ 64) && (opsM p.inp 0 p.ops && outM p.inp p.ops.length p.outs)
/-- The constants are words. -/
def Cw (p : Pr) : Prop := ∀ o ∈ p.ops, 0 ≤ o.c ∧ o.c ≤ 18446744073709551615
theorem opsM_snoc (inp : Int) (os : List O4) (o : O4) : ∀ i, opsM inp i (os ++ [o]) = (opsM inp i os && opM o (inp + (i + os.length : Nat))) := by
  induction os with
  | nil => intro i; simp [opsM]
  | cons x os ih =>
    intro i
    show (opM x (inp + i) && opsM inp (i + 1) (os ++ [o])) = ((opM x (inp + i) && opsM inp (i + 1) os) && _)
    rw [ih (i + 1), Bool.and_assoc]
    have : i + 1 + os.length = i + (x :: os).length := by rw [List.length_cons]; omega
    rw [this]
theorem mayB_iff {p : Pr} : mayB p = true ↔ (0 ≤ p.inp ∧ p.inp ≤ 64 ∧ p.ops.length ≤ 256 ∧ p.outs.length ≤ 64) ∧ opsM p.inp 0 p.ops = true ∧ outM p.inp p.ops.length p.outs = true := by
  unfold mayB
  rw [Bool.and_eq_true, Bool.and_eq_true, decide_eq_true_iff]

/-- A value, as it is written. -/
def valT (inp v : Int) : Tx := if v < inp then 120 :: dec v.toNat else 116 :: dec (v - inp).toNat
def sgn (k : Int) : UInt8 := if k = 1 then 43 else if k = 2 then 45 else 42
def stpT (inp : Int) (i : Nat) (o : O4) : Tx := (116 :: dec i) ++ ([32, 61, 32] ++ (if o.k = 4 then dec o.c.toNat else valT inp o.a ++ ([32, sgn o.k, 32] ++ valT inp o.b)))
def outT (inp : Int) (outs : List Int) : Tx := [111, 117, 116, 115] ++ (outs.map (fun v => 32 :: valT inp v)).flatten
def hdT (inp : Int) : Tx := [105, 110, 112, 117, 116, 115, 32] ++ dec inp.toNat
def stps (inp : Int) : Nat → List O4 → List Tx
  | _, [] => []
  | i, o :: os => stpT inp i o :: stps inp (i + 1) os
def lns (p : Pr) : List Tx := hdT p.inp :: (stps p.inp 0 p.ops ++ [outT p.inp p.outs])
def ends (ls : List Tx) : Tx := (ls.map (· ++ [10])).flatten
def txt (p : Pr) : Tx := ends (lns p)

/-- A value that is read, below own. -/
def valP (n own : Nat) : Tx → Option Int
  | [] => none
  | x :: d => if x = 120 then (match nmb d 18446744073709551615 with | some v => if v < n ∧ v < own then some (v : Int) else none | none => none)
    else if x = 116 then (match nmb d 18446744073709551615 with | some v => if n + v < own then some ((n + v : Nat) : Int) else none | none => none) else none
theorem valP_x (n own : Nat) (d : Tx) : valP n own (120 :: d) = (match nmb d 18446744073709551615 with | some v => if v < n ∧ v < own then some (v : Int) else none | none => none) := by
  unfold valP; simp only [if_pos]
theorem valP_t (n own : Nat) (d : Tx) : valP n own (116 :: d) = (match nmb d 18446744073709551615 with | some v => if n + v < own then some ((n + v : Nat) : Int) else none | none => none) := by
  unfold valP; simp only [if_neg (show ¬ (116 : UInt8) = 120 by decide), if_pos]
theorem valP_val {n own : Nat} {v : Int} (h0 : 0 ≤ v) (h1 : v < own) (hw : own ≤ 9223372036854775807) : valP n own (valT n v) = some v := by
  unfold valT
  by_cases h : v < (n : Int)
  · rw [if_pos h]
    rw [valP_x, nmb_dec (by omega)]
    refine (if_pos ⟨by omega, by omega⟩).trans ?_
    rw [Int.toNat_of_nonneg h0]
  · rw [if_neg h]
    rw [valP_t, nmb_dec (by omega)]
    refine (if_pos (by omega)).trans ?_
    congr 1; omega
theorem valP_some {n own : Nat} {w : Tx} {v : Int} (h : valP n own w = some v) : 0 ≤ v ∧ v < own ∧ w = valT n v := by
  cases w with
  | nil => cases h
  | cons x d =>
    have h' : (if x = 120 then (match nmb d 18446744073709551615 with | some v => if v < n ∧ v < own then some (v : Int) else none | none => none)
      else if x = 116 then (match nmb d 18446744073709551615 with | some v => if n + v < own then some ((n + v : Nat) : Int) else none | none => none) else none) = some v := h
    by_cases hx : x = 120
    · rw [if_pos hx] at h'
      cases hn : nmb d 18446744073709551615 with
      | none => rw [hn] at h'; cases h'
      | some u =>
        rw [hn] at h'
        have h2 : (if u < n ∧ u < own then some (u : Int) else none) = some v := h'
        by_cases hu : u < n ∧ u < own
        · rw [if_pos hu] at h2
          have e : (u : Int) = v := by simpa using h2
          subst e
          refine ⟨by omega, by omega, ?_⟩
          unfold valT
          rw [if_pos (by omega), hx, (nmb_some hn).1, Int.toNat_natCast]
        · rw [if_neg hu] at h2; cases h2
    · rw [if_neg hx] at h'
      by_cases hx2 : x = 116
      · rw [if_pos hx2] at h'
        cases hn : nmb d 18446744073709551615 with
        | none => rw [hn] at h'; cases h'
        | some u =>
          rw [hn] at h'
          have h2 : (if n + u < own then some ((n + u : Nat) : Int) else none) = some v := h'
          by_cases hu : n + u < own
          · rw [if_pos hu] at h2
            have e : ((n + u : Nat) : Int) = v := by simpa using h2
            subst e
            refine ⟨by omega, by omega, ?_⟩
            unfold valT
            rw [if_neg (by omega), hx2, (nmb_some hn).1]
            congr 2; omega
          · rw [if_neg hu] at h2; cases h2
      · rw [if_neg hx2] at h'; cases h'
theorem valT_not {inp v : Int} {c : UInt8} (h : c.toNat < 48) : c ∉ valT inp v := by
  have h1 : ¬ c = 120 := fun e => by rw [e] at h; exact absurd h (by decide)
  have h2 : ¬ c = 116 := fun e => by rw [e] at h; exact absurd h (by decide)
  unfold valT
  split
  · intro hc
    rcases List.mem_cons.1 hc with hc | hc
    · exact h1 hc
    · exact dec_not (.inl h) hc
  · intro hc
    rcases List.mem_cons.1 hc with hc | hc
    · exact h2 hc
    · exact dec_not (.inl h) hc
theorem valT_ne (inp v : Int) : valT inp v ≠ [] := by unfold valT; split <;> simp
theorem valT_inj {n : Nat} {v u : Int} (hv : 0 ≤ v) (hu : 0 ≤ u) (hw : v ≤ 4611686018427387903) (hx : u ≤ 4611686018427387903) (h : valT n v = valT n u) : v = u := by
  have h1 := valP_val (n := n) (own := 4611686018427387904) hv (by omega) (by decide)
  have h2 := valP_val (n := n) (own := 4611686018427387904) hu (by omega) (by decide)
  rw [h, h2] at h1
  simpa using h1.symm

/-- What a sign means. -/
def sgP (w : Tx) : Option Int := if w = [43] then some 1 else if w = [45] then some 2 else if w = [42] then some 3 else none
theorem sgP_sgn {k : Int} (h : k = 1 ∨ k = 2 ∨ k = 3) : sgP [sgn k] = some k := by
  rcases h with rfl | rfl | rfl <;> rfl
theorem sgP_some {w : Tx} {k : Int} (h : sgP w = some k) : (k = 1 ∨ k = 2 ∨ k = 3) ∧ w = [sgn k] := by
  unfold sgP at h
  by_cases h1 : w = [43]
  · rw [if_pos h1] at h
    have : (1 : Int) = k := by simpa using h
    subst this; exact ⟨.inl rfl, h1⟩
  · rw [if_neg h1] at h
    by_cases h2 : w = [45]
    · rw [if_pos h2] at h
      have : (2 : Int) = k := by simpa using h
      subst this; exact ⟨.inr (.inl rfl), h2⟩
    · rw [if_neg h2] at h
      by_cases h3 : w = [42]
      · rw [if_pos h3] at h
        have : (3 : Int) = k := by simpa using h
        subst this; exact ⟨.inr (.inr rfl), h3⟩
      · rw [if_neg h3] at h; cases h

/-- The first line. -/
def hdP (l : Tx) : Option Nat :=
  match pcs 32 l with
  | [w0, w1] => if w0 = [105, 110, 112, 117, 116, 115] then nmb w1 64 else none
  | _ => none
theorem hdT_jnt (n : Nat) : hdT n = jnt 32 [[105, 110, 112, 117, 116, 115], dec n] := by
  unfold hdT; rw [Int.toNat_natCast]; rfl
theorem hdP_hdT {n : Nat} (h : n ≤ 64) : hdP (hdT n) = some n := by
  unfold hdP
  rw [hdT_jnt, pcs_jnt 32 _ (by simp) (fun w hw => by
    have : w = [105, 110, 112, 117, 116, 115] ∨ w = dec n := by simpa using hw
    rcases this with rfl | rfl
    · decide
    · exact dec_not (.inl (by decide)))]
  refine (if_pos rfl).trans (nmb_dec h)
theorem hdP_some {l : Tx} {n : Nat} (h : hdP l = some n) : n ≤ 64 ∧ l = hdT n := by
  unfold hdP at h
  have hj := jnt_pcs 32 l
  split at h
  · rename_i w0 w1 he
    by_cases h0 : w0 = [105, 110, 112, 117, 116, 115]
    · rw [if_pos h0] at h
      obtain ⟨e1, e2⟩ := nmb_some h
      rw [he, h0, e1] at hj
      exact ⟨e2, by rw [← hj, hdT_jnt]⟩
    · rw [if_neg h0] at h; cases h
  · cases h

/-- A step's line. -/
def stP (n i : Nat) (l : Tx) : Option O4 :=
  match pcs 32 l with
  | [t, e, w] => if t = 116 :: dec i ∧ e = [61] then (match nmb w 18446744073709551615 with | some c => some ⟨4, 0, 0, (c : Int)⟩ | none => none) else none
  | [t, e, x, g, y] => if t = 116 :: dec i ∧ e = [61] then (match valP n (n + i) x, sgP g, valP n (n + i) y with | some a, some k, some b => some ⟨k, a, b, 0⟩ | _, _, _ => none) else none
  | _ => none
theorem stpT_four (inp : Int) (i : Nat) {o : O4} (h : o.k = 4) : stpT inp i o = jnt 32 [116 :: dec i, [61], dec o.c.toNat] := by
  unfold stpT; rw [if_pos h]; rfl
theorem stpT_two (inp : Int) (i : Nat) {o : O4} (h : ¬ o.k = 4) : stpT inp i o = jnt 32 [116 :: dec i, [61], valT inp o.a, [sgn o.k], valT inp o.b] := by
  unfold stpT; rw [if_neg h]; rfl
theorem t_not {i : Nat} : (32 : UInt8) ∉ (116 :: dec i) := fun hc => by
  rcases List.mem_cons.1 hc with hc | hc
  · exact absurd hc (by decide)
  · exact dec_not (.inl (by decide)) hc
theorem sgn_not (k : Int) : (32 : UInt8) ∉ [sgn k] := by
  unfold sgn; split
  · decide
  · split <;> decide
theorem stP_stpT {n i : Nat} {o : O4} (hm : opM o ((n : Int) + i) = true) (hc : 0 ≤ o.c ∧ o.c ≤ 18446744073709551615) (hw : n + i ≤ 9223372036854775807) : stP n i (stpT n i o) = some o := by
  unfold opM at hm
  by_cases h1 : o.k = 1 ∨ o.k = 2 ∨ o.k = 3
  · rw [if_pos h1, decide_eq_true_iff] at hm
    obtain ⟨a0, a1, b0, b1, c0⟩ := hm
    have hk : ¬ o.k = 4 := by omega
    unfold stP
    rw [stpT_two _ _ hk, pcs_jnt 32 _ (by simp) (fun w hw => by
      have : w = 116 :: dec i ∨ w = [61] ∨ w = valT n o.a ∨ w = [sgn o.k] ∨ w = valT n o.b := by simpa using hw
      rcases this with rfl | rfl | rfl | rfl | rfl
      · exact t_not
      · decide
      · exact valT_not (by decide)
      · exact sgn_not _
      · exact valT_not (by decide))]
    show (if _ then (match valP n (n + i) (valT n o.a), sgP [sgn o.k], valP n (n + i) (valT n o.b) with | some a, some k, some b => some (⟨k, a, b, 0⟩ : O4) | _, _, _ => none) else none) = _
    rw [if_pos ⟨rfl, rfl⟩, valP_val a0 (by omega) hw, valP_val b0 (by omega) hw, sgP_sgn h1]
    show some (⟨o.k, o.a, o.b, 0⟩ : O4) = some o
    rw [← c0]
  · rw [if_neg h1] at hm
    by_cases h4 : o.k = 4
    · rw [if_pos h4, decide_eq_true_iff] at hm
      unfold stP
      rw [stpT_four _ _ h4, pcs_jnt 32 _ (by simp) (fun w hw => by
        have : w = 116 :: dec i ∨ w = [61] ∨ w = dec o.c.toNat := by simpa using hw
        rcases this with rfl | rfl | rfl
        · exact t_not
        · decide
        · exact dec_not (.inl (by decide)))]
      show (if _ then (match nmb (dec o.c.toNat) 18446744073709551615 with | some c => some (⟨4, 0, 0, (c : Int)⟩ : O4) | none => none) else none) = _
      rw [if_pos ⟨rfl, rfl⟩, nmb_dec (by omega)]
      show some (⟨4, 0, 0, ((o.c.toNat : Nat) : Int)⟩ : O4) = some o
      rw [Int.toNat_of_nonneg hc.1]
      cases o; simp_all
    · rw [if_neg h4] at hm; cases hm
theorem stP_some {n i : Nat} {l : Tx} {o : O4} (h : stP n i l = some o) : opM o ((n : Int) + i) = true ∧ (0 ≤ o.c ∧ o.c ≤ 18446744073709551615) ∧ l = stpT n i o := by
  unfold stP at h
  have hj := jnt_pcs 32 l
  split at h
  · rename_i t e w he
    by_cases h0 : t = 116 :: dec i ∧ e = [61]
    · rw [if_pos h0] at h
      cases hn : nmb w 18446744073709551615 with
      | none => rw [hn] at h; cases h
      | some c =>
        rw [hn] at h
        have e0 : (⟨4, 0, 0, (c : Int)⟩ : O4) = o := by simpa using h
        obtain ⟨e1, e2⟩ := nmb_some hn
        subst e0
        refine ⟨by unfold opM; rw [if_neg (by simp), if_pos rfl]; simp, ⟨by simp, by show (c : Int) ≤ _; omega⟩, ?_⟩
        rw [stpT_four _ _ rfl, ← hj, he, h0.1, h0.2, e1]
        show _ = jnt 32 [116 :: dec i, [61], dec ((c : Int)).toNat]
        rw [Int.toNat_natCast]
    · rw [if_neg h0] at h; cases h
  · rename_i t e x g y he
    by_cases h0 : t = 116 :: dec i ∧ e = [61]
    · rw [if_pos h0] at h
      cases hx : valP n (n + i) x with
      | none => rw [hx] at h; cases h
      | some a =>
        cases hg : sgP g with
        | none => rw [hx, hg] at h; cases h
        | some k =>
          cases hy : valP n (n + i) y with
          | none => rw [hx, hg, hy] at h; cases h
          | some b =>
            rw [hx, hg, hy] at h
            have e0 : (⟨k, a, b, 0⟩ : O4) = o := by simpa using h
            obtain ⟨a0, a1, a2⟩ := valP_some hx
            obtain ⟨b0, b1, b2⟩ := valP_some hy
            obtain ⟨k0, k1⟩ := sgP_some hg
            subst e0
            refine ⟨?_, ⟨by simp, by simp⟩, ?_⟩
            · unfold opM
              rw [if_pos k0]
              exact decide_eq_true ⟨a0, by show a < _; omega, b0, by show b < _; omega, rfl⟩
            · rw [stpT_two _ _ (by show ¬ k = 4; omega), ← hj, he, h0.1, h0.2, a2, k1, b2]
    · rw [if_neg h0] at h; cases h
  · cases h

end Go.Proofs.YtpbfgcepmbpkdaaGreat.Slp

namespace Go.Proofs.YtpbfgcepmbpkdaaGreat.Slp
set_option linter.unusedVariables false

def ouW : Tx := [111, 117, 116, 115]
/-- Values that are read. -/
def valsP (n own : Nat) : List Tx → Option (List Int)
  | [] => some []
  | w :: ws => match valP n own w, valsP n own ws with | some v, some vs => some (v :: vs) | _, _ => none
theorem valsP_vals {n own : Nat} (hw : own ≤ 9223372036854775807) : ∀ vs : List Int, (∀ v ∈ vs, 0 ≤ v ∧ v < own) → valsP n own (vs.map (valT n)) = some vs
  | [], _ => rfl
  | v :: vs, h => by
    have h1 := h v (by simp)
    show (match valP n own (valT n v), valsP n own (vs.map (valT n)) with | some v, some vs => some (v :: vs) | _, _ => none) = _
    rw [valP_val h1.1 h1.2 hw, valsP_vals hw vs (fun x hx => h x (List.mem_cons_of_mem _ hx))]
theorem valsP_some {n own : Nat} : ∀ {ws : List Tx} {vs : List Int}, valsP n own ws = some vs → (∀ v ∈ vs, 0 ≤ v ∧ v < own) ∧ ws = vs.map (valT n) ∧ ws.length = vs.length
  | [], vs, h => by
    have : ([] : List Int) = vs := by simpa [valsP] using h
    subst this; exact ⟨(fun v hv => by cases hv), rfl, rfl⟩
  | w :: ws, vs, h => by
    have h' : (match valP n own w, valsP n own ws with | some v, some vs => some (v :: vs) | _, _ => none) = some vs := h
    cases h1 : valP n own w with
    | none => rw [h1] at h'; cases h'
    | some v =>
      cases h2 : valsP n own ws with
      | none => rw [h1, h2] at h'; cases h'
      | some us =>
        rw [h1, h2] at h'
        have e : v :: us = vs := by simpa using h'
        subst e
        obtain ⟨a1, a2, a3⟩ := valP_some h1
        obtain ⟨b1, b2, b3⟩ := valsP_some h2
        refine ⟨fun x hx => ?_, ?_, by simp [b3]⟩
        · rcases List.mem_cons.1 hx with rfl | hx
          · exact ⟨a1, a2⟩
          · exact b1 x hx
        · rw [List.map_cons, ← a3, ← b2]
theorem jnt_flat (c : UInt8) (w : Tx) (ws : List Tx) : jnt c (w :: ws) = w ++ (ws.map (fun v => c :: v)).flatten := by
  induction ws generalizing w with
  | nil => simp [jnt]
  | cons v ws ih =>
    show w ++ c :: jnt c (v :: ws) = _
    rw [ih v]; simp
theorem outT_jnt (inp : Int) (outs : List Int) : outT inp outs = jnt 32 (ouW :: outs.map (valT inp)) := by
  rw [jnt_flat]
  unfold outT ouW
  rw [List.map_map]; rfl
/-- The last line. -/
def ouP (n own : Nat) (l : Tx) : Option (List Int) :=
  match pcs 32 l with
  | w0 :: ws => if w0 = ouW ∧ ws.length ≤ 64 then valsP n own ws else none
  | [] => none
theorem out_pcs (n : Nat) (outs : List Int) : pcs 32 (outT n outs) = ouW :: outs.map (valT n) := by
  rw [outT_jnt, pcs_jnt 32 _ (by simp) (fun w hw => by
    rcases List.mem_cons.1 hw with rfl | hw
    · unfold ouW; decide
    · obtain ⟨v, _, rfl⟩ := List.mem_map.1 hw
      exact valT_not (by decide))]
theorem ouP_outT {n own : Nat} {outs : List Int} (hw : own ≤ 9223372036854775807) (hl : outs.length ≤ 64) (h : ∀ v ∈ outs, 0 ≤ v ∧ v < own) : ouP n own (outT n outs) = some outs := by
  unfold ouP
  rw [out_pcs]
  refine (if_pos ⟨rfl, by simpa using hl⟩).trans ?_
  exact valsP_vals hw outs h
theorem ouP_some {n own : Nat} {l : Tx} {outs : List Int} (h : ouP n own l = some outs) : outs.length ≤ 64 ∧ (∀ v ∈ outs, 0 ≤ v ∧ v < own) ∧ l = outT n outs := by
  unfold ouP at h
  have hj := jnt_pcs 32 l
  split at h
  · rename_i w0 ws he
    by_cases h0 : w0 = ouW ∧ ws.length ≤ 64
    · rw [if_pos h0] at h
      obtain ⟨e1, e2, e3⟩ := valsP_some h
      refine ⟨by omega, e1, ?_⟩
      rw [outT_jnt, ← hj, he, h0.1, e2]
    · rw [if_neg h0] at h; cases h
  · cases h

def pz : Pr := ⟨0, [], []⟩
def isOut (l : Tx) : Bool := (pcs 32 l).head? == some ouW
/-- The lines behind the first one; i: how many were read; the number of a line that is none, or 0. -/
def rdGo (n : Nat) (rest : Tx) : Nat → List O4 → List Tx → Pr × Nat
  | i, ops, [] => (pz, i + 1)
  | i, ops, l :: ls =>
    if isOut l = true then (match ouP n (n + ops.length) l with | some outs => if ls = [] ∧ rest = [] then (⟨n, ops, outs⟩, 0) else (pz, i + 2) | none => (pz, i + 1))
    else (match stP n ops.length l with | some o => if ops.length < 256 then rdGo n rest (i + 1) (ops ++ [o]) ls else (pz, i + 1) | none => (pz, i + 1))
def rdT (ls : List Tx) (rest : Tx) : Pr × Nat :=
  match ls with
  | [] => (pz, 1)
  | l :: ls => match hdP l with | some n => rdGo n rest 1 [] ls | none => (pz, 1)
def rdS (s : Tx) : Pr × Nat := rdT (pst 10 s).1 (pst 10 s).2

theorem isOut_out (n : Nat) (outs : List Int) : isOut (outT n outs) = true := by
  unfold isOut; rw [out_pcs]; simp
theorem pcs_step (n i : Nat) (o : O4) : (pcs 32 (stpT n i o)).head? = some (116 :: dec i) := by
  by_cases h : o.k = 4
  · rw [stpT_four _ _ h, pcs_jnt 32 _ (by simp) (fun w hw => by
      have : w = 116 :: dec i ∨ w = [61] ∨ w = dec o.c.toNat := by simpa using hw
      rcases this with rfl | rfl | rfl
      · exact t_not
      · decide
      · exact dec_not (.inl (by decide)))]
    rfl
  · rw [stpT_two _ _ h, pcs_jnt 32 _ (by simp) (fun w hw => by
      have : w = 116 :: dec i ∨ w = [61] ∨ w = valT n o.a ∨ w = [sgn o.k] ∨ w = valT n o.b := by simpa using hw
      rcases this with rfl | rfl | rfl | rfl | rfl
      · exact t_not
      · decide
      · exact valT_not (by decide)
      · exact sgn_not _
      · exact valT_not (by decide))]
    rfl
theorem isOut_step (n i : Nat) (o : O4) : isOut (stpT n i o) = false := by
  unfold isOut
  rw [pcs_step, beq_eq_false_iff_ne]
  intro h
  have : (116 : UInt8) :: dec i = ouW := by simpa using h
  unfold ouW at this
  injection this with h1 _
  exact absurd h1 (by decide)
theorem rdGo_text {n : Nat} (hn : n ≤ 64) {outs : List Int} (hl : outs.length ≤ 64) : ∀ (os : List O4) (i : Nat) (ops : List O4), opsM n ops.length os = true → (∀ o ∈ os, 0 ≤ o.c ∧ o.c ≤ 18446744073709551615) → ops.length + os.length ≤ 256 →
    (∀ v ∈ outs, 0 ≤ v ∧ v < ((n + (ops.length + os.length) : Nat) : Int)) → rdGo n [] i ops (stps n ops.length os ++ [outT n outs]) = (⟨n, ops ++ os, outs⟩, 0)
  | [], i, ops, _, _, hle, ho => by
    show rdGo n [] i ops [outT n outs] = _
    unfold rdGo
    rw [if_pos (isOut_out n outs), ouP_outT (by simp at hle; omega) hl (fun v hv => by simpa using ho v hv)]
    refine (if_pos ⟨rfl, rfl⟩).trans ?_
    rw [List.append_nil]
  | o :: os, i, ops, hm, hc, hle, ho => by
    have hm' : (opM o ((n : Int) + ops.length) && opsM n (ops.length + 1) os) = true := hm
    rw [Bool.and_eq_true] at hm'
    rw [List.length_cons] at hle ho
    show rdGo n [] i ops (stpT n ops.length o :: (stps n (ops.length + 1) os ++ [outT n outs])) = _
    rw [rdGo, if_neg (by rw [isOut_step]; simp), stP_stpT hm'.1 (hc o (by simp)) (by omega)]
    refine (if_pos (by omega)).trans ?_
    have hlen : (ops ++ [o]).length = ops.length + 1 := by simp
    have := rdGo_text hn hl os (i + 1) (ops ++ [o]) (by rw [hlen]; exact hm'.2) (fun x hx => hc x (List.mem_cons_of_mem _ hx)) (by rw [hlen]; omega) (fun v hv => by
      have := ho v hv
      rw [hlen, show ops.length + 1 + os.length = ops.length + (os.length + 1) by omega]; exact this)
    rw [hlen] at this
    rw [this, List.append_assoc]; rfl
theorem ends_cons (l : Tx) (ls : List Tx) : ends (l :: ls) = l ++ 10 :: ends ls := by unfold ends; simp
theorem fold_ends : ∀ (ls : List Tx) (d : List Tx), (∀ l ∈ ls, (10 : UInt8) ∉ l) → (ends ls).foldl (cutS 10) (d, []) = (d ++ ls, [])
  | [], d, _ => by simp [ends]
  | l :: ls, d, h => by
    rw [ends_cons, List.foldl_append, fold_free 10 l (h l (by simp)), List.foldl_cons, cut_hit, fold_ends ls _ (fun x hx => h x (List.mem_cons_of_mem _ hx))]
    simp
theorem ends_app (ls ms : List Tx) : ends (ls ++ ms) = ends ls ++ ends ms := by unfold ends; rw [List.map_append, List.flatten_append]
/-- A text is its lines and what stands behind the last byte 10. -/
theorem pst_ends : ∀ s : Tx, s = ends (pst 10 s).1 ++ (pst 10 s).2 := by
  apply rev_ind
  · rfl
  · intro l x ih
    rw [pst_snoc]
    unfold cutS
    by_cases h : x = 10
    · rw [if_pos h]
      show l ++ [x] = ends ((pst 10 l).1 ++ [(pst 10 l).2]) ++ []
      rw [ends_app, List.append_nil, ends_cons, h]
      show l ++ [10] = ends (pst 10 l).1 ++ ((pst 10 l).2 ++ [10])
      rw [← List.append_assoc, ← ih]
    · rw [if_neg h]
      show l ++ [x] = ends (pst 10 l).1 ++ ((pst 10 l).2 ++ [x])
      rw [← List.append_assoc, ← ih]
theorem ten_val (inp v : Int) : (10 : UInt8) ∉ valT inp v := valT_not (by decide)
theorem ten_dec (u : Nat) : (10 : UInt8) ∉ dec u := dec_not (.inl (by decide))
theorem ten_head (inp : Int) : (10 : UInt8) ∉ hdT inp := fun h => by
  unfold hdT at h
  rcases List.mem_append.1 h with h | h
  · exact absurd h (by decide)
  · exact ten_dec _ h
theorem ten_out (inp : Int) (outs : List Int) : (10 : UInt8) ∉ outT inp outs := fun h => by
  unfold outT at h
  rcases List.mem_append.1 h with h | h
  · exact absurd h (by decide)
  · obtain ⟨w, hw, hx⟩ := List.mem_flatten.1 h
    obtain ⟨v, _, rfl⟩ := List.mem_map.1 hw
    rcases List.mem_cons.1 hx with hx | hx
    · exact absurd hx (by decide)
    · exact ten_val _ _ hx
theorem ten_step (inp : Int) (i : Nat) (o : O4) : (10 : UInt8) ∉ stpT inp i o := fun h => by
  have hs : ∀ k, (10 : UInt8) ∉ [32, sgn k, 32] := fun k => by
    unfold sgn; split
    · decide
    · split <;> decide
  unfold stpT at h
  rcases List.mem_append.1 h with h | h
  · rcases List.mem_cons.1 h with h | h
    · exact absurd h (by decide)
    · exact ten_dec _ h
  · rcases List.mem_append.1 h with h | h
    · exact absurd h (by decide)
    · split at h
      · exact ten_dec _ h
      · rcases List.mem_append.1 h with h | h
        · exact ten_val _ _ h
        · rcases List.mem_append.1 h with h | h
          · exact hs _ h
          · exact ten_val _ _ h
theorem ten_steps (inp : Int) : ∀ (os : List O4) (i : Nat), ∀ l ∈ stps inp i os, (10 : UInt8) ∉ l
  | [], _, l, h => by cases h
  | o :: os, i, l, h => by
    rcases List.mem_cons.1 h with rfl | h
    · exact ten_step _ _ _
    · exact ten_steps inp os (i + 1) l h
theorem ten_lns (p : Pr) : ∀ l ∈ lns p, (10 : UInt8) ∉ l := fun l h => by
  rcases List.mem_cons.1 h with rfl | h
  · exact ten_head _
  · rcases List.mem_append.1 h with h | h
    · exact ten_steps _ _ _ l h
    · rw [List.mem_singleton.1 h]; exact ten_out _ _
/-- What is written is read. -/
theorem read_text {p : Pr} (h : mayB p = true) (hc : Cw p) : rdS (txt p) = (p, 0) := by
  obtain ⟨⟨h0, h1, h2, h3⟩, h4, h5⟩ := mayB_iff.1 h
  obtain ⟨n, hn⟩ := Int.eq_ofNat_of_zero_le h0
  obtain ⟨inp, ops, outs⟩ := p
  have hn' : inp = (n : Int) := hn
  subst hn'
  have e : pst 10 (txt ⟨(n : Int), ops, outs⟩) = (lns ⟨(n : Int), ops, outs⟩, []) := by
    have := fold_ends (lns ⟨(n : Int), ops, outs⟩) [] (ten_lns _)
    rw [List.nil_append] at this
    exact this
  unfold rdS
  rw [e]
  show (match hdP (hdT n) with | some m => rdGo m [] 1 [] (stps n 0 ops ++ [outT n outs]) | none => (pz, 1)) = _
  rw [hdP_hdT (by have : (n : Int) ≤ 64 := h1; omega)]
  have ho : ∀ v ∈ outs, 0 ≤ v ∧ v < ((n + (([] : List O4).length + ops.length) : Nat) : Int) := fun v hv => by
    have := of_decide_eq_true (List.all_eq_true.1 h5 v hv)
    have h6 : v < (n : Int) + ops.length := this.2
    refine ⟨this.1, ?_⟩
    rw [List.length_nil]; omega
  exact rdGo_text (by have : (n : Int) ≤ 64 := h1; omega) h3 ops 1 [] h4 hc (by rw [List.length_nil]; have : ops.length ≤ 256 := h2; omega) ho
theorem stps_snoc (inp : Int) (os : List O4) (o : O4) : ∀ i, stps inp i (os ++ [o]) = stps inp i os ++ [stpT inp (i + os.length) o] := by
  induction os with
  | nil => intro i; rfl
  | cons x os ih =>
    intro i
    show stpT inp i x :: stps inp (i + 1) (os ++ [o]) = stpT inp i x :: (stps inp (i + 1) os ++ _)
    rw [ih (i + 1), show i + 1 + os.length = i + (x :: os).length by rw [List.length_cons]; omega]
theorem rdGo_some {n : Nat} (hn : n ≤ 64) (rest : Tx) : ∀ (ls : List Tx) (i : Nat) (ops : List O4), opsM n 0 ops = true → (∀ o ∈ ops, 0 ≤ o.c ∧ o.c ≤ 18446744073709551615) → ops.length ≤ 256 → (rdGo n rest i ops ls).2 = 0 →
    mayB (rdGo n rest i ops ls).1 = true ∧ Cw (rdGo n rest i ops ls).1 ∧ rest = [] ∧ lns (rdGo n rest i ops ls).1 = hdT n :: (stps n 0 ops ++ ls)
  | [], i, ops, _, _, _, h => by cases h
  | l :: ls, i, ops, hm, hc, hle, h => by
    rw [rdGo] at h ⊢
    by_cases ho : isOut l = true
    · rw [if_pos ho] at h ⊢
      cases hp : ouP n (n + ops.length) l with
      | none => rw [hp] at h; cases h
      | some outs =>
        rw [hp] at h
        have h' : ((if ls = [] ∧ rest = [] then ((⟨n, ops, outs⟩ : Pr), 0) else (pz, i + 2)) : Pr × Nat).2 = 0 := h
        show mayB ((if ls = [] ∧ rest = [] then ((⟨n, ops, outs⟩ : Pr), 0) else (pz, i + 2)) : Pr × Nat).1 = true ∧ Cw ((if ls = [] ∧ rest = [] then ((⟨n, ops, outs⟩ : Pr), 0) else (pz, i + 2)) : Pr × Nat).1 ∧ rest = [] ∧ lns ((if ls = [] ∧ rest = [] then ((⟨n, ops, outs⟩ : Pr), 0) else (pz, i + 2)) : Pr × Nat).1 = _
        by_cases hr : ls = [] ∧ rest = []
        · rw [if_pos hr]
          obtain ⟨o1, o2, o3⟩ := ouP_some hp
          refine ⟨mayB_iff.2 ⟨⟨by show (0 : Int) ≤ (n : Int); omega, by show (n : Int) ≤ 64; omega, hle, o1⟩, hm, ?_⟩, hc, hr.2, ?_⟩
          · show outs.all _ = true
            rw [List.all_eq_true]
            intro v hv
            have := o2 v hv
            exact decide_eq_true ⟨this.1, by show v < (n : Int) + ops.length; omega⟩
          · show hdT n :: (stps n 0 ops ++ [outT n outs]) = _
            rw [hr.1, o3]
        · rw [if_neg hr] at h'; cases h'
    · rw [if_neg ho] at h ⊢
      cases hp : stP n ops.length l with
      | none => rw [hp] at h; cases h
      | some o =>
        rw [hp] at h
        by_cases hl : ops.length < 256
        · have h' : (rdGo n rest (i + 1) (ops ++ [o]) ls).2 = 0 := by
            have : ((if ops.length < 256 then rdGo n rest (i + 1) (ops ++ [o]) ls else (pz, i + 1)) : Pr × Nat).2 = 0 := h
            rwa [if_pos hl] at this
          show mayB ((if ops.length < 256 then rdGo n rest (i + 1) (ops ++ [o]) ls else (pz, i + 1)) : Pr × Nat).1 = true ∧ Cw ((if ops.length < 256 then rdGo n rest (i + 1) (ops ++ [o]) ls else (pz, i + 1)) : Pr × Nat).1 ∧ rest = [] ∧ lns ((if ops.length < 256 then rdGo n rest (i + 1) (ops ++ [o]) ls else (pz, i + 1)) : Pr × Nat).1 = _
          rw [if_pos hl]
          obtain ⟨s1, s2, s3⟩ := stP_some hp
          have := rdGo_some hn rest ls (i + 1) (ops ++ [o]) (by rw [opsM_snoc, hm, Nat.zero_add, s1]; rfl) (fun x hx => by
            rcases List.mem_append.1 hx with hx | hx
            · exact hc x hx
            · rw [List.mem_singleton.1 hx]; exact s2) (by simp; omega) h'
          refine ⟨this.1, this.2.1, this.2.2.1, ?_⟩
          rw [this.2.2.2, stps_snoc, Nat.zero_add, ← s3, List.append_assoc]; rfl
        · have : ((if ops.length < 256 then rdGo n rest (i + 1) (ops ++ [o]) ls else (pz, i + 1)) : Pr × Nat).2 = 0 := h
          rw [if_neg hl] at this; cases this
/-- What is read is written so. -/
theorem text_read {s : Tx} (h : (rdS s).2 = 0) : mayB (rdS s).1 = true ∧ Cw (rdS s).1 ∧ txt (rdS s).1 = s := by
  have hs := pst_ends s
  unfold rdS at *
  generalize (pst 10 s).1 = ls at *
  generalize (pst 10 s).2 = rest at *
  cases ls with
  | nil => cases h
  | cons l ls =>
    have h' : (match hdP l with | some n => rdGo n rest 1 [] ls | none => (pz, 1)).2 = 0 := h
    show mayB (match hdP l with | some n => rdGo n rest 1 [] ls | none => (pz, 1)).1 = true ∧ Cw (match hdP l with | some n => rdGo n rest 1 [] ls | none => (pz, 1)).1 ∧ txt (match hdP l with | some n => rdGo n rest 1 [] ls | none => (pz, 1)).1 = s
    cases hp : hdP l with
    | none => rw [hp] at h'; cases h'
    | some n =>
      rw [hp] at h'
      obtain ⟨n1, n2⟩ := hdP_some hp
      have := rdGo_some n1 rest ls 1 [] rfl (fun o ho => by cases ho) (by simp) h'
      refine ⟨this.1, this.2.1, ?_⟩
      show ends (lns (rdGo n rest 1 [] ls).1) = s
      rw [this.2.2.2, ← n2, hs, this.2.2.1, List.append_nil]; rfl

end Go.Proofs.YtpbfgcepmbpkdaaGreat.Slp

namespace Go.Proofs.YtpbfgcepmbpkdaaGreat.Slp
set_option linter.unusedVariables false

/-- The values of p's numbers behind q. -/
def aftAt (q : Pr) (i : Nat) : List Int := q.outs ++ (List.range i).map (fun j => q.inp + ((q.ops.length + j : Nat) : Int))
def shO (at_ : List Int) (o : O4) : O4 := if o.k = 4 then o else ⟨o.k, at_.getD o.a.toNat 0, at_.getD o.b.toNat 0, o.c⟩
def aftE (p q : Pr) : Int := if mayB p = true ∧ mayB q = true ∧ (q.outs.length : Int) = p.inp then (if 256 < p.ops.length + q.ops.length then 4 else 0) else 2
def aftF (p q : Pr) : Pr := ⟨q.inp, q.ops ++ p.ops.map (shO (aftAt q p.ops.length)), p.outs.map (fun v => (aftAt q p.ops.length).getD v.toNat 0)⟩
def aftP (p q : Pr) : Pr := if aftE p q = 0 then aftF p q else pz
theorem aftAt_len (q : Pr) (i : Nat) : (aftAt q i).length = q.outs.length + i := by unfold aftAt; simp
theorem aftAt_succ (q : Pr) (i : Nat) : aftAt q (i + 1) = aftAt q i ++ [q.inp + ((q.ops.length + i : Nat) : Int)] := by
  unfold aftAt
  rw [List.range_succ, List.map_append, List.append_assoc]; rfl
theorem aftAt_get (q : Pr) {i n k : Nat} (hi : i ≤ n) (hk : k < q.outs.length + i) : (aftAt q n).getD k 0 = (aftAt q i).getD k 0 := by
  induction n with
  | zero => rw [show i = 0 by omega]
  | succ n ih =>
    by_cases h : i = n + 1
    · rw [h]
    · rw [← ih (by omega), aftAt_succ, List.getD_eq_getElem?_getD, List.getElem?_append_left (by rw [aftAt_len]; omega), ← List.getD_eq_getElem?_getD]
/-- A step with the list that is there when it is its turn. -/
theorem shO_at (q : Pr) {i n : Nat} {o : O4} (hi : i ≤ n) (hm : opM o ((q.outs.length : Int) + i) = true) : shO (aftAt q n) o = shO (aftAt q i) o := by
  unfold shO
  by_cases h : o.k = 4
  · rw [if_pos h, if_pos h]
  · rw [if_neg h, if_neg h]
    unfold opM at hm
    by_cases h1 : o.k = 1 ∨ o.k = 2 ∨ o.k = 3
    · rw [if_pos h1, decide_eq_true_iff] at hm
      rw [aftAt_get q hi (by omega), aftAt_get q hi (by omega)]
    · rw [if_neg h1, if_neg h] at hm; cases hm
theorem opsM_get (inp : Int) : ∀ (os : List O4) (i j : Nat) (hj : j < os.length), opsM inp i os = true → opM os[j] (inp + ((i + j : Nat) : Int)) = true
  | [], i, j, hj, _ => by simp at hj
  | o :: os, i, j, hj, h => by
    have h' : (opM o (inp + i) && opsM inp (i + 1) os) = true := h
    rw [Bool.and_eq_true] at h'
    cases j with
    | zero => exact h'.1
    | succ j =>
      have := opsM_get inp os (i + 1) j (by simpa using hj) h'.2
      rw [show i + (j + 1) = i + 1 + j by omega]; exact this
/-- What hands n values on. -/
def hand (n : Nat) : Pr := ⟨n, [], (List.range n).map (fun j : Nat => (j : Int))⟩
theorem hand_may {n : Nat} (h : n ≤ 64) : mayB (hand n) = true := by
  rw [mayB_iff]
  refine ⟨⟨by show (0 : Int) ≤ n; omega, by show (n : Int) ≤ 64; omega, by simp [hand], by simp [hand]; omega⟩, rfl, ?_⟩
  show ((List.range n).map (fun j : Nat => (j : Int))).all _ = true
  rw [List.all_eq_true]
  intro v hv
  obtain ⟨j, hj, rfl⟩ := List.mem_map.1 hv
  have := List.mem_range.1 hj
  refine decide_eq_true ⟨by omega, ?_⟩
  show (j : Int) < (n : Int) + ((([] : List O4).length : Nat) : Int)
  simp; omega
theorem hand_at (n i k : Nat) (hk : k < n + i) : (aftAt (hand n) i).getD k 0 = (k : Int) := by
  unfold aftAt hand
  rw [List.getD_eq_getElem?_getD]
  by_cases h : k < n
  · rw [List.getElem?_append_left (by simpa using h)]
    simp [h]
  · rw [List.getElem?_append_right (by simp; omega)]
    have h2 : k - n < i := by omega
    simp [h2]
    omega
theorem map_same {α : Type} (f : α → α) (l : List α) (h : ∀ i (hi : i < l.length), f l[i] = l[i]) : l.map f = l := by
  apply List.ext_getElem
  · simp
  · intro i h1 h2
    rw [List.getElem_map]; exact h i (by simpa using h1)
/-- Behind what hands all on. -/
theorem after_hand {p : Pr} (h : mayB p = true) : aftE p (hand p.inp.toNat) = 0 ∧ aftF p (hand p.inp.toNat) = p := by
  obtain ⟨⟨h0, h1, h2, h3⟩, h4, h5⟩ := mayB_iff.1 h
  obtain ⟨n, hn⟩ := Int.eq_ofNat_of_zero_le h0
  obtain ⟨inp, ops, outs⟩ := p
  have hn' : inp = (n : Int) := hn
  subst hn'
  have h64 : n ≤ 64 := by have : (n : Int) ≤ 64 := h1; omega
  show aftE ⟨n, ops, outs⟩ (hand (n : Int).toNat) = 0 ∧ aftF ⟨n, ops, outs⟩ (hand (n : Int).toNat) = _
  rw [Int.toNat_natCast]
  constructor
  · unfold aftE
    rw [if_pos ⟨h, hand_may h64, by show (((List.range n).map (fun j : Nat => (j : Int))).length : Int) = (n : Int); simp⟩]
    have : ¬ 256 < ops.length + ([] : List O4).length := by have : ops.length ≤ 256 := h2; simp; omega
    exact if_neg this
  · unfold aftF
    have e1 : ops.map (shO (aftAt (hand n) ops.length)) = ops := map_same _ _ (fun i hi => by
      have hm := opsM_get n ops 0 i hi h4
      unfold shO
      by_cases h6 : (ops[i]).k = 4
      · rw [if_pos h6]
      · rw [if_neg h6]
        unfold opM at hm
        by_cases h7 : (ops[i]).k = 1 ∨ (ops[i]).k = 2 ∨ (ops[i]).k = 3
        · rw [if_pos h7, decide_eq_true_iff] at hm
          obtain ⟨a0, a1, b0, b1, _⟩ := hm
          rw [hand_at n ops.length _ (by omega), hand_at n ops.length _ (by omega), Int.toNat_of_nonneg a0, Int.toNat_of_nonneg b0]
        · rw [if_neg h7, if_neg h6] at hm; cases hm)
    have e2 : outs.map (fun v => (aftAt (hand n) ops.length).getD v.toNat 0) = outs := map_same _ _ (fun i hi => by
      have hv := of_decide_eq_true (List.all_eq_true.1 h5 outs[i] (List.getElem_mem hi))
      have hv2 : outs[i] < (n : Int) + ops.length := hv.2
      show (aftAt (hand n) ops.length).getD (outs[i]).toNat 0 = outs[i]
      rw [hand_at n ops.length _ (by omega), Int.toNat_of_nonneg hv.1])
    show (⟨(n : Int), [] ++ ops.map (shO (aftAt (hand n) ops.length)), outs.map (fun v => (aftAt (hand n) ops.length).getD v.toNat 0)⟩ : Pr) = _
    rw [e1, e2, List.nil_append]
/-- Ahead of what hands all on. -/
theorem hand_after {p : Pr} (h : mayB p = true) : aftE (hand p.outs.length) p = 0 ∧ aftF (hand p.outs.length) p = p := by
  obtain ⟨⟨h0, h1, h2, h3⟩, h4, h5⟩ := mayB_iff.1 h
  constructor
  · unfold aftE
    rw [if_pos ⟨hand_may h3, h, rfl⟩]
    have : ¬ 256 < ([] : List O4).length + p.ops.length := by simp; omega
    exact if_neg this
  · unfold aftF
    obtain ⟨inp, ops, outs⟩ := p
    have e : ((List.range outs.length).map (fun j : Nat => (j : Int))).map (fun v => (aftAt ⟨inp, ops, outs⟩ 0).getD v.toNat 0) = outs := by
      apply List.ext_getElem
      · simp
      · intro i h6 h7
        simp [aftAt, List.getD_eq_getElem?_getD, h7]
    show (⟨inp, ops ++ [], ((List.range outs.length).map (fun j : Nat => (j : Int))).map (fun v => (aftAt ⟨inp, ops, outs⟩ 0).getD v.toNat 0)⟩ : Pr) = _
    rw [e, List.append_nil]

end Go.Proofs.YtpbfgcepmbpkdaaGreat.Slp

