/-
  Layer 9, plain: programs, whether they may be, their text; lines read; what is written is read, what is read is written so.
-/
import Derived.Test.YtjkialmhajbcfaaDoorBSlpA
namespace Go.Proofs.YtjkialmhajbcfaaDoor.Slp
set_option linter.unusedVariables false

/-- A step, and a program. -/
structure O4 where
  k : Int
  a : Int
  b : Int
  c : Int
structure Pr where
  inp : Int
  ops : List O4
  outs : List Int
/-- May a step be, whose own value has that number? -/
def opM (o : O4) (own : Int) : Bool :=
  if o.k = 1 ∨ o.k = 2 ∨ o.k = 3 then decide (0 ≤ o.a ∧ o.a < own ∧ 0 ≤ o.b ∧ o.b < own ∧ o.c = 0) else if o.k = 4 then decide (o.a = 0 ∧ o.b = 0) else false
def opsM (inp : Int) : Nat → List O4 → Bool
  | _, [] => true
  | i, o :: os => opM o (inp + i) && opsM inp (i + 1) os
def outM (inp : Int) (n : Nat) (outs : List Int) : Bool := outs.all (fun v => decide (0 ≤ v ∧ v < inp + n))
def mayB (p : Pr) : Bool := decide (0 ≤ p.inp ∧ p.inp ≤ 64 ∧ p.ops.length ≤ 256 ∧ p.outs.length ≤ 64) && (opsM p.inp 0 p.ops && outM p.inp p.ops.length p.outs)
/-- The constants are words. -/
def Cw (p : Pr) : Prop := ∀ o ∈ p.ops, 0 ≤ o.c ∧ o.c ≤ 18446744073709551615
theorem opsM_snoc (inp : Int) (os : List O4) (o : O4) : ∀ i, opsM inp i (os ++ [o]) = (opsM inp i os && opM o (inp + (i + os.length : Nat))) := by
  induction os with
  | nil => intro i; simp [opsM]
  | cons x os ih =>
    intro i
    show (opM x (inp + i) && opsM inp (i + 1) (os ++ [o])) = ((opM x (inp + i) && opsM inp (i + 1) os) && _)
    rw [ih (i + 1), Bool.and_assoc]
    have : i + 1 + os.length = i + (x :: os).length := by rw [List.length_cons]; omega
    rw [this]
theorem mayB_iff {p : Pr} : mayB p = true ↔ (0 ≤ p.inp ∧ p.inp ≤ 64 ∧ p.ops.length ≤ 256 ∧ p.outs.length ≤ 64) ∧ opsM p.inp 0 p.ops = true ∧ outM p.inp p.ops.length p.outs = true := by
  unfold mayB
  rw [Bool.and_eq_true, Bool.and_eq_true, decide_eq_true_iff]

/-- A value, as it is written. -/
def valT (inp v : Int) : Tx := if v < inp then 120 :: dec v.toNat else 116 :: dec (v - inp).toNat
def sgn (k : Int) : UInt8 := if k = 1 then 43 else if k = 2 then 45 else 42
def stpT (inp : Int) (i : Nat) (o : O4) : Tx := (116 :: dec i) ++ ([32, 61, 32] ++ (if o.k = 4 then dec o.c.toNat else valT inp o.a ++ ([32, sgn o.k, 32] ++ valT inp o.b)))
def outT (inp : Int) (outs : List Int) : Tx := [111, 117, 116, 115] ++ (outs.map (fun v => 32 :: valT inp v)).flatten
def hdT (inp : Int) : Tx := [105, 110, 112, 117, 116, 115, 32] ++ dec inp.toNat
def stps (inp : Int) : Nat → List O4 → List Tx
  | _, [] => []
  | i, o :: os => stpT inp i o :: stps inp (i + 1) os
def lns (p : Pr) : List Tx := hdT p.inp :: (stps p.inp 0 p.ops ++ [outT p.inp p.outs])
def ends (ls : List Tx) : Tx := (ls.map (· ++ [10])).flatten
def txt (p : Pr) : Tx := ends (lns p)

/-- A value that is read, below own. -/
def valP (n own : Nat) : Tx → Option Int
  | [] => none
  | x :: d => if x = 120 then (match nmb d 18446744073709551615 with | some v => if v < n ∧ v < own then some (v : Int) else none | none => none)
    else if x = 116 then (match nmb d 18446744073709551615 with | some v => if n + v < own then some ((n + v : Nat) : Int) else none | none => none) else none
theorem valP_x (n own : Nat) (d : Tx) : valP n own (120 :: d) = (match nmb d 18446744073709551615 with | some v => if v < n ∧ v < own then some (v : Int) else none | none => none) := by
  unfold valP; simp only [if_pos]
theorem valP_t (n own : Nat) (d : Tx) : valP n own (116 :: d) = (match nmb d 18446744073709551615 with | some v => if n + v < own then some ((n + v : Nat) : Int) else none | none => none) := by
  unfold valP; simp only [if_neg (show ¬ (116 : UInt8) = 120 by decide), if_pos]
theorem valP_val {n own : Nat} {v : Int} (h0 : 0 ≤ v) (h1 : v < own) (hw : own ≤ 9223372036854775807) : valP n own (valT n v) = some v := by
  unfold valT
  by_cases h : v < (n : Int)
  · rw [if_pos h]
    rw [valP_x, nmb_dec (by omega)]
    refine (if_pos ⟨by omega, by omega⟩).trans ?_
    rw [Int.toNat_of_nonneg h0]
  · rw [if_neg h]
    rw [valP_t, nmb_dec (by omega)]
    refine (if_pos (by omega)).trans ?_
    congr 1; omega
theorem valP_some {n own : Nat} {w : Tx} {v : Int} (h : valP n own w = some v) : 0 ≤ v ∧ v < own ∧ w = valT n v := by
  cases w with
  | nil => cases h
  | cons x d =>
    have h' : (if x = 120 then (match nmb d 18446744073709551615 with | some v => if v < n ∧ v < own then some (v : Int) else none | none => none)
      else if x = 116 then (match nmb d 18446744073709551615 with | some v => if n + v < own then some ((n + v : Nat) : Int) else none | none => none) else none) = some v := h
    by_cases hx : x = 120
    · rw [if_pos hx] at h'
      cases hn : nmb d 18446744073709551615 with
      | none => rw [hn] at h'; cases h'
      | some u =>
        rw [hn] at h'
        have h2 : (if u < n ∧ u < own then some (u : Int) else none) = some v := h'
        by_cases hu : u < n ∧ u < own
        · rw [if_pos hu] at h2
          have e : (u : Int) = v := by simpa using h2
          subst e
          refine ⟨by omega, by omega, ?_⟩
          unfold valT
          rw [if_pos (by omega), hx, (nmb_some hn).1, Int.toNat_natCast]
        · rw [if_neg hu] at h2; cases h2
    · rw [if_neg hx] at h'
      by_cases hx2 : x = 116
      · rw [if_pos hx2] at h'
        cases hn : nmb d 18446744073709551615 with
        | none => rw [hn] at h'; cases h'
        | some u =>
          rw [hn] at h'
          have h2 : (if n + u < own then some ((n + u : Nat) : Int) else none) = some v := h'
          by_cases hu : n + u < own
          · rw [if_pos hu] at h2
            have e : ((n + u : Nat) : Int) = v := by simpa using h2
            subst e
            refine ⟨by omega, by omega, ?_⟩
            unfold valT
            rw [if_neg (by omega), hx2, (nmb_some hn).1]
            congr 2; omega
          · rw [if_neg hu] at h2; cases h2
      · rw [if_neg hx2] at h'; cases h'
theorem valT_not {inp v : Int} {c : UInt8} (h : c.toNat < 48) : c ∉ valT inp v := by
  have h1 : ¬ c = 120 := fun e => by rw [e] at h; exact absurd h (by decide)
  have h2 : ¬ c = 116 := fun e => by rw [e] at h; exact absurd h (by decide)
  unfold valT
  split
  · intro hc
    rcases List.mem_cons.1 hc with hc | hc
    · exact h1 hc
    · exact dec_not (.inl h) hc
  · intro hc
    rcases List.mem_cons.1 hc with hc | hc
    · exact h2 hc
    · exact dec_not (.inl h) hc
theorem valT_ne (inp v : Int) : valT inp v ≠ [] := by unfold valT; split <;> simp
theorem valT_inj {n : Nat} {v u : Int} (hv : 0 ≤ v) (hu : 0 ≤ u) (hw : v ≤ 4611686018427387903) (hx : u ≤ 4611686018427387903) (h : valT n v = valT n u) : v = u := by
  have h1 := valP_val (n := n) (own := 4611686018427387904) hv (by omega) (by decide)
  have h2 := valP_val (n := n) (own := 4611686018427387904) hu (by omega) (by decide)
  rw [h, h2] at h1
  simpa using h1.symm

/-- What a sign means. -/
def sgP (w : Tx) : Option Int := if w = [43] then some 1 else if w = [45] then some 2 else if w = [42] then some 3 else none
theorem sgP_sgn {k : Int} (h : k = 1 ∨ k = 2 ∨ k = 3) : sgP [sgn k] = some k := by
  rcases h with rfl | rfl | rfl <;> rfl
theorem sgP_some {w : Tx} {k : Int} (h : sgP w = some k) : (k = 1 ∨ k = 2 ∨ k = 3) ∧ w = [sgn k] := by
  unfold sgP at h
  by_cases h1 : w = [43]
  · rw [if_pos h1] at h
    have : (1 : Int) = k := by simpa using h
    subst this; exact ⟨.inl rfl, h1⟩
  · rw [if_neg h1] at h
    by_cases h2 : w = [45]
    · rw [if_pos h2] at h
      have : (2 : Int) = k := by simpa using h
      subst this; exact ⟨.inr (.inl rfl), h2⟩
    · rw [if_neg h2] at h
      by_cases h3 : w = [42]
      · rw [if_pos h3] at h
        have : (3 : Int) = k := by simpa using h
        subst this; exact ⟨.inr (.inr rfl), h3⟩
      · rw [if_neg h3] at h; cases h

/-- The first line. -/
def hdP (l : Tx) : Option Nat :=
  match pcs 32 l with
  | [w0, w1] => if w0 = [105, 110, 112, 117, 116, 115] then nmb w1 64 else none
  | _ => none
theorem hdT_jnt (n : Nat) : hdT n = jnt 32 [[105, 110, 112, 117, 116, 115], dec n] := by
  unfold hdT; rw [Int.toNat_natCast]; rfl
theorem hdP_hdT {n : Nat} (h : n ≤ 64) : hdP (hdT n) = some n := by
  unfold hdP
  rw [hdT_jnt, pcs_jnt 32 _ (by simp) (fun w hw => by
    have : w = [105, 110, 112, 117, 116, 115] ∨ w = dec n := by simpa using hw
    rcases this with rfl | rfl
    · decide
    · exact dec_not (.inl (by decide)))]
  refine (if_pos rfl).trans (nmb_dec h)
theorem hdP_some {l : Tx} {n : Nat} (h : hdP l = some n) : n ≤ 64 ∧ l = hdT n := by
  unfold hdP at h
  have hj := jnt_pcs 32 l
  split at h
  · rename_i w0 w1 he
    by_cases h0 : w0 = [105, 110, 112, 117, 116, 115]
    · rw [if_pos h0] at h
      obtain ⟨e1, e2⟩ := nmb_some h
      rw [he, h0, e1] at hj
      exact ⟨e2, by rw [← hj, hdT_jnt]⟩
    · rw [if_neg h0] at h; cases h
  · cases h

/-- A step's line. -/
def stP (n i : Nat) (l : Tx) : Option O4 :=
  match pcs 32 l with
  | [t, e, w] => if t = 116 :: dec i ∧ e = [61] then (match nmb w 18446744073709551615 with | some c => some ⟨4, 0, 0, (c : Int)⟩ | none => none) else none
  | [t, e, x, g, y] => if t = 116 :: dec i ∧ e = [61] then (match valP n (n + i) x, sgP g, valP n (n + i) y with | some a, some k, some b => some ⟨k, a, b, 0⟩ | _, _, _ => none) else none
  | _ => none
theorem stpT_four (inp : Int) (i : Nat) {o : O4} (h : o.k = 4) : stpT inp i o = jnt 32 [116 :: dec i, [61], dec o.c.toNat] := by
  unfold stpT; rw [if_pos h]; rfl
theorem stpT_two (inp : Int) (i : Nat) {o : O4} (h : ¬ o.k = 4) : stpT inp i o = jnt 32 [116 :: dec i, [61], valT inp o.a, [sgn o.k], valT inp o.b] := by
  unfold stpT; rw [if_neg h]; rfl
theorem t_not {i : Nat} : (32 : UInt8) ∉ (116 :: dec i) := fun hc => by
  rcases List.mem_cons.1 hc with hc | hc
  · exact absurd hc (by decide)
  · exact dec_not (.inl (by decide)) hc
theorem sgn_not (k : Int) : (32 : UInt8) ∉ [sgn k] := by
  unfold sgn; split
  · decide
  · split <;> decide
theorem stP_stpT {n i : Nat} {o : O4} (hm : opM o ((n : Int) + i) = true) (hc : 0 ≤ o.c ∧ o.c ≤ 18446744073709551615) (hw : n + i ≤ 9223372036854775807) : stP n i (stpT n i o) = some o := by
  unfold opM at hm
  by_cases h1 : o.k = 1 ∨ o.k = 2 ∨ o.k = 3
  · rw [if_pos h1, decide_eq_true_iff] at hm
    obtain ⟨a0, a1, b0, b1, c0⟩ := hm
    have hk : ¬ o.k = 4 := by omega
    unfold stP
    rw [stpT_two _ _ hk, pcs_jnt 32 _ (by simp) (fun w hw => by
      have : w = 116 :: dec i ∨ w = [61] ∨ w = valT n o.a ∨ w = [sgn o.k] ∨ w = valT n o.b := by simpa using hw
      rcases this with rfl | rfl | rfl | rfl | rfl
      · exact t_not
      · decide
      · exact valT_not (by decide)
      · exact sgn_not _
      · exact valT_not (by decide))]
    show (if _ then (match valP n (n + i) (valT n o.a), sgP [sgn o.k], valP n (n + i) (valT n o.b) with | some a, some k, some b => some (⟨k, a, b, 0⟩ : O4) | _, _, _ => none) else none) = _
    rw [if_pos ⟨rfl, rfl⟩, valP_val a0 (by omega) hw, valP_val b0 (by omega) hw, sgP_sgn h1]
    show some (⟨o.k, o.a, o.b, 0⟩ : O4) = some o
    rw [← c0]
  · rw [if_neg h1] at hm
    by_cases h4 : o.k = 4
    · rw [if_pos h4, decide_eq_true_iff] at hm
      unfold stP
      rw [stpT_four _ _ h4, pcs_jnt 32 _ (by simp) (fun w hw => by
        have : w = 116 :: dec i ∨ w = [61] ∨ w = dec o.c.toNat := by simpa using hw
        rcases this with rfl | rfl | rfl
        · exact t_not
        · decide
        · exact dec_not (.inl (by decide)))]
      show (if _ then (match nmb (dec o.c.toNat) 18446744073709551615 with | some c => some (⟨4, 0, 0, (c : Int)⟩ : O4) | none => none) else none) = _
      rw [if_pos ⟨rfl, rfl⟩, nmb_dec (by omega)]
      show some (⟨4, 0, 0, ((o.c.toNat : Nat) : Int)⟩ : O4) = some o
      rw [Int.toNat_of_nonneg hc.1]
      cases o; simp_all
    · rw [if_neg h4] at hm; cases hm
theorem stP_some {n i : Nat} {l : Tx} {o : O4} (h : stP n i l = some o) : opM o ((n : Int) + i) = true ∧ (0 ≤ o.c ∧ o.c ≤ 18446744073709551615) ∧ l = stpT n i o := by
  unfold stP at h
  have hj := jnt_pcs 32 l
  split at h
  · rename_i t e w he
    by_cases h0 : t = 116 :: dec i ∧ e = [61]
    · rw [if_pos h0] at h
      cases hn : nmb w 18446744073709551615 with
      | none => rw [hn] at h; cases h
      | some c =>
        rw [hn] at h
        have e0 : (⟨4, 0, 0, (c : Int)⟩ : O4) = o := by simpa using h
        obtain ⟨e1, e2⟩ := nmb_some hn
        subst e0
        refine ⟨by unfold opM; rw [if_neg (by simp), if_pos rfl]; simp, ⟨by simp, by show (c : Int) ≤ _; omega⟩, ?_⟩
        rw [stpT_four _ _ rfl, ← hj, he, h0.1, h0.2, e1]
        show _ = jnt 32 [116 :: dec i, [61], dec ((c : Int)).toNat]
        rw [Int.toNat_natCast]
    · rw [if_neg h0] at h; cases h
  · rename_i t e x g y he
    by_cases h0 : t = 116 :: dec i ∧ e = [61]
    · rw [if_pos h0] at h
      cases hx : valP n (n + i) x with
      | none => rw [hx] at h; cases h
      | some a =>
        cases hg : sgP g with
        | none => rw [hx, hg] at h; cases h
        | some k =>
          cases hy : valP n (n + i) y with
          | none => rw [hx, hg, hy] at h; cases h
          | some b =>
            rw [hx, hg, hy] at h
            have e0 : (⟨k, a, b, 0⟩ : O4) = o := by simpa using h
            obtain ⟨a0, a1, a2⟩ := valP_some hx
            obtain ⟨b0, b1, b2⟩ := valP_some hy
            obtain ⟨k0, k1⟩ := sgP_some hg
            subst e0
            refine ⟨?_, ⟨by simp, by simp⟩, ?_⟩
            · unfold opM
              rw [if_pos k0]
              exact decide_eq_true ⟨a0, by show a < _; omega, b0, by show b < _; omega, rfl⟩
            · rw [stpT_two _ _ (by show ¬ k = 4; omega), ← hj, he, h0.1, h0.2, a2, k1, b2]
    · rw [if_neg h0] at h; cases h
  · cases h

end Go.Proofs.YtjkialmhajbcfaaDoor.Slp
