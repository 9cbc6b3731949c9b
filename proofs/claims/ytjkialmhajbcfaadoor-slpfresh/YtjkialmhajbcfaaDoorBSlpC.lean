/-
  Layer 9, plain: a whole text read; what is written is read, what is read is written so; one program behind another one.
-/
import Derived.Test.YtjkialmhajbcfaaDoorBSlpB
namespace Go.Proofs.YtjkialmhajbcfaaDoor.Slp
set_option linter.unusedVariables false

def ouW : Tx := [111, 117, 116, 115]
/-- Values that are read. -/
def valsP (n own : Nat) : List Tx → Option (List Int)
  | [] => some []
  | w :: ws => match valP n own w, valsP n own ws with | some v, some vs => some (v :: vs) | _, _ => none
theorem valsP_vals {n own : Nat} (hw : own ≤ 9223372036854775807) : ∀ vs : List Int, (∀ v ∈ vs, 0 ≤ v ∧ v < own) → valsP n own (vs.map (valT n)) = some vs
  | [], _ => rfl
  | v :: vs, h => by
    have h1 := h v (by simp)
    show (match valP n own (valT n v), valsP n own (vs.map (valT n)) with | some v, some vs => some (v :: vs) | _, _ => none) = _
    rw [valP_val h1.1 h1.2 hw, valsP_vals hw vs (fun x hx => h x (List.mem_cons_of_mem _ hx))]
theorem valsP_some {n own : Nat} : ∀ {ws : List Tx} {vs : List Int}, valsP n own ws = some vs → (∀ v ∈ vs, 0 ≤ v ∧ v < own) ∧ ws = vs.map (valT n) ∧ ws.length = vs.length
  | [], vs, h => by
    have : ([] : List Int) = vs := by simpa [valsP] using h
    subst this; exact ⟨(fun v hv => by cases hv), rfl, rfl⟩
  | w :: ws, vs, h => by
    have h' : (match valP n own w, valsP n own ws with | some v, some vs => some (v :: vs) | _, _ => none) = some vs := h
    cases h1 : valP n own w with
    | none => rw [h1] at h'; cases h'
    | some v =>
      cases h2 : valsP n own ws with
      | none => rw [h1, h2] at h'; cases h'
      | some us =>
        rw [h1, h2] at h'
        have e : v :: us = vs := by simpa using h'
        subst e
        obtain ⟨a1, a2, a3⟩ := valP_some h1
        obtain ⟨b1, b2, b3⟩ := valsP_some h2
        refine ⟨fun x hx => ?_, ?_, by simp [b3]⟩
        · rcases List.mem_cons.1 hx with rfl | hx
          · exact ⟨a1, a2⟩
          · exact b1 x hx
        · rw [List.map_cons, ← a3, ← b2]
theorem jnt_flat (c : UInt8) (w : Tx) (ws : List Tx) : jnt c (w :: ws) = w ++ (ws.map (fun v => c :: v)).flatten := by
  induction ws generalizing w with
  | nil => simp [jnt]
  | cons v ws ih =>
    show w ++ c :: jnt c (v :: ws) = _
    rw [ih v]; simp
theorem outT_jnt (inp : Int) (outs : List Int) : outT inp outs = jnt 32 (ouW :: outs.map (valT inp)) := by
  rw [jnt_flat]
  unfold outT ouW
  rw [List.map_map]; rfl
/-- The last line. -/
def ouP (n own : Nat) (l : Tx) : Option (List Int) :=
  match pcs 32 l with
  | w0 :: ws => if w0 = ouW ∧ ws.length ≤ 64 then valsP n own ws else none
  | [] => none
theorem out_pcs (n : Nat) (outs : List Int) : pcs 32 (outT n outs) = ouW :: outs.map (valT n) := by
  rw [outT_jnt, pcs_jnt 32 _ (by simp) (fun w hw => by
    rcases List.mem_cons.1 hw with rfl | hw
    · unfold ouW; decide
    · obtain ⟨v, _, rfl⟩ := List.mem_map.1 hw
      exact valT_not (by decide))]
theorem ouP_outT {n own : Nat} {outs : List Int} (hw : own ≤ 9223372036854775807) (hl : outs.length ≤ 64) (h : ∀ v ∈ outs, 0 ≤ v ∧ v < own) : ouP n own (outT n outs) = some outs := by
  unfold ouP
  rw [out_pcs]
  refine (if_pos ⟨rfl, by simpa using hl⟩).trans ?_
  exact valsP_vals hw outs h
theorem ouP_some {n own : Nat} {l : Tx} {outs : List Int} (h : ouP n own l = some outs) : outs.length ≤ 64 ∧ (∀ v ∈ outs, 0 ≤ v ∧ v < own) ∧ l = outT n outs := by
  unfold ouP at h
  have hj := jnt_pcs 32 l
  split at h
  · rename_i w0 ws he
    by_cases h0 : w0 = ouW ∧ ws.length ≤ 64
    · rw [if_pos h0] at h
      obtain ⟨e1, e2, e3⟩ := valsP_some h
      refine ⟨by omega, e1, ?_⟩
      rw [outT_jnt, ← hj, he, h0.1, e2]
    · rw [if_neg h0] at h; cases h
  · cases h

def pz : Pr := ⟨0, [], []⟩
def isOut (l : Tx) : Bool := (pcs 32 l).head? == some ouW
/-- The lines behind the first one; i: how many were read; the number of a line that is none, or 0. -/
def rdGo (n : Nat) (rest : Tx) : Nat → List O4 → List Tx → Pr × Nat
  | i, ops, [] => (pz, i + 1)
  | i, ops, l :: ls =>
    if isOut l = true then (match ouP n (n + ops.length) l with | some outs => if ls = [] ∧ rest = [] then (⟨n, ops, outs⟩, 0) else (pz, i + 2) | none => (pz, i + 1))
    else (match stP n ops.length l with | some o => if ops.length < 256 then rdGo n rest (i + 1) (ops ++ [o]) ls else (pz, i + 1) | none => (pz, i + 1))
def rdT (ls : List Tx) (rest : Tx) : Pr × Nat :=
  match ls with
  | [] => (pz, 1)
  | l :: ls => match hdP l with | some n => rdGo n rest 1 [] ls | none => (pz, 1)
def rdS (s : Tx) : Pr × Nat := rdT (pst 10 s).1 (pst 10 s).2

theorem isOut_out (n : Nat) (outs : List Int) : isOut (outT n outs) = true := by
  unfold isOut; rw [out_pcs]; simp
theorem pcs_step (n i : Nat) (o : O4) : (pcs 32 (stpT n i o)).head? = some (116 :: dec i) := by
  by_cases h : o.k = 4
  · rw [stpT_four _ _ h, pcs_jnt 32 _ (by simp) (fun w hw => by
      have : w = 116 :: dec i ∨ w = [61] ∨ w = dec o.c.toNat := by simpa using hw
      rcases this with rfl | rfl | rfl
      · exact t_not
      · decide
      · exact dec_not (.inl (by decide)))]
    rfl
  · rw [stpT_two _ _ h, pcs_jnt 32 _ (by simp) (fun w hw => by
      have : w = 116 :: dec i ∨ w = [61] ∨ w = valT n o.a ∨ w = [sgn o.k] ∨ w = valT n o.b := by simpa using hw
      rcases this with rfl | rfl | rfl | rfl | rfl
      · exact t_not
      · decide
      · exact valT_not (by decide)
      · exact sgn_not _
      · exact valT_not (by decide))]
    rfl
theorem isOut_step (n i : Nat) (o : O4) : isOut (stpT n i o) = false := by
  unfold isOut
  rw [pcs_step, beq_eq_false_iff_ne]
  intro h
  have : (116 : UInt8) :: dec i = ouW := by simpa using h
  unfold ouW at this
  injection this with h1 _
  exact absurd h1 (by decide)
theorem rdGo_text {n : Nat} (hn : n ≤ 64) {outs : List Int} (hl : outs.length ≤ 64) : ∀ (os : List O4) (i : Nat) (ops : List O4), opsM n ops.length os = true → (∀ o ∈ os, 0 ≤ o.c ∧ o.c ≤ 18446744073709551615) → ops.length + os.length ≤ 256 →
    (∀ v ∈ outs, 0 ≤ v ∧ v < ((n + (ops.length + os.length) : Nat) : Int)) → rdGo n [] i ops (stps n ops.length os ++ [outT n outs]) = (⟨n, ops ++ os, outs⟩, 0)
  | [], i, ops, _, _, hle, ho => by
    show rdGo n [] i ops [outT n outs] = _
    unfold rdGo
    rw [if_pos (isOut_out n outs), ouP_outT (by simp at hle; omega) hl (fun v hv => by simpa using ho v hv)]
    refine (if_pos ⟨rfl, rfl⟩).trans ?_
    rw [List.append_nil]
  | o :: os, i, ops, hm, hc, hle, ho => by
    have hm' : (opM o ((n : Int) + ops.length) && opsM n (ops.length + 1) os) = true := hm
    rw [Bool.and_eq_true] at hm'
    rw [List.length_cons] at hle ho
    show rdGo n [] i ops (stpT n ops.length o :: (stps n (ops.length + 1) os ++ [outT n outs])) = _
    rw [rdGo, if_neg (by rw [isOut_step]; simp), stP_stpT hm'.1 (hc o (by simp)) (by omega)]
    refine (if_pos (by omega)).trans ?_
    have hlen : (ops ++ [o]).length = ops.length + 1 := by simp
    have := rdGo_text hn hl os (i + 1) (ops ++ [o]) (by rw [hlen]; exact hm'.2) (fun x hx => hc x (List.mem_cons_of_mem _ hx)) (by rw [hlen]; omega) (fun v hv => by
      have := ho v hv
      rw [hlen, show ops.length + 1 + os.length = ops.length + (os.length + 1) by omega]; exact this)
    rw [hlen] at this
    rw [this, List.append_assoc]; rfl
theorem ends_cons (l : Tx) (ls : List Tx) : ends (l :: ls) = l ++ 10 :: ends ls := by unfold ends; simp
theorem fold_ends : ∀ (ls : List Tx) (d : List Tx), (∀ l ∈ ls, (10 : UInt8) ∉ l) → (ends ls).foldl (cutS 10) (d, []) = (d ++ ls, [])
  | [], d, _ => by simp [ends]
  | l :: ls, d, h => by
    rw [ends_cons, List.foldl_append, fold_free 10 l (h l (by simp)), List.foldl_cons, cut_hit, fold_ends ls _ (fun x hx => h x (List.mem_cons_of_mem _ hx))]
    simp
theorem ends_app (ls ms : List Tx) : ends (ls ++ ms) = ends ls ++ ends ms := by unfold ends; rw [List.map_append, List.flatten_append]
/-- A text is its lines and what stands behind the last byte 10. -/
theorem pst_ends : ∀ s : Tx, s = ends (pst 10 s).1 ++ (pst 10 s).2 := by
  apply rev_ind
  · rfl
  · intro l x ih
    rw [pst_snoc]
    unfold cutS
    by_cases h : x = 10
    · rw [if_pos h]
      show l ++ [x] = ends ((pst 10 l).1 ++ [(pst 10 l).2]) ++ []
      rw [ends_app, List.append_nil, ends_cons, h]
      show l ++ [10] = ends (pst 10 l).1 ++ ((pst 10 l).2 ++ [10])
      rw [← List.append_assoc, ← ih]
    · rw [if_neg h]
      show l ++ [x] = ends (pst 10 l).1 ++ ((pst 10 l).2 ++ [x])
      rw [← List.append_assoc, ← ih]
theorem ten_val (inp v : Int) : (10 : UInt8) ∉ valT inp v := valT_not (by decide)
theorem ten_dec (u : Nat) : (10 : UInt8) ∉ dec u := dec_not (.inl (by decide))
theorem ten_head (inp : Int) : (10 : UInt8) ∉ hdT inp := fun h => by
  unfold hdT at h
  rcases List.mem_append.1 h with h | h
  · exact absurd h (by decide)
  · exact ten_dec _ h
theorem ten_out (inp : Int) (outs : List Int) : (10 : UInt8) ∉ outT inp outs := fun h => by
  unfold outT at h
  rcases List.mem_append.1 h with h | h
  · exact absurd h (by decide)
  · obtain ⟨w, hw, hx⟩ := List.mem_flatten.1 h
    obtain ⟨v, _, rfl⟩ := List.mem_map.1 hw
    rcases List.mem_cons.1 hx with hx | hx
    · exact absurd hx (by decide)
    · exact ten_val _ _ hx
theorem ten_step (inp : Int) (i : Nat) (o : O4) : (10 : UInt8) ∉ stpT inp i o := fun h => by
  have hs : ∀ k, (10 : UInt8) ∉ [32, sgn k, 32] := fun k => by
    unfold sgn; split
    · decide
    · split <;> decide
  unfold stpT at h
  rcases List.mem_append.1 h with h | h
  · rcases List.mem_cons.1 h with h | h
    · exact absurd h (by decide)
    · exact ten_dec _ h
  · rcases List.mem_append.1 h with h | h
    · exact absurd h (by decide)
    · split at h
      · exact ten_dec _ h
      · rcases List.mem_append.1 h with h | h
        · exact ten_val _ _ h
        · rcases List.mem_append.1 h with h | h
          · exact hs _ h
          · exact ten_val _ _ h
theorem ten_steps (inp : Int) : ∀ (os : List O4) (i : Nat), ∀ l ∈ stps inp i os, (10 : UInt8) ∉ l
  | [], _, l, h => by cases h
  | o :: os, i, l, h => by
    rcases List.mem_cons.1 h with rfl | h
    · exact ten_step _ _ _
    · exact ten_steps inp os (i + 1) l h
theorem ten_lns (p : Pr) : ∀ l ∈ lns p, (10 : UInt8) ∉ l := fun l h => by
  rcases List.mem_cons.1 h with rfl | h
  · exact ten_head _
  · rcases List.mem_append.1 h with h | h
    · exact ten_steps _ _ _ l h
    · rw [List.mem_singleton.1 h]; exact ten_out _ _
/-- What is written is read. -/
theorem read_text {p : Pr} (h : mayB p = true) (hc : Cw p) : rdS (txt p) = (p, 0) := by
  obtain ⟨⟨h0, h1, h2, h3⟩, h4, h5⟩ := mayB_iff.1 h
  obtain ⟨n, hn⟩ := Int.eq_ofNat_of_zero_le h0
  obtain ⟨inp, ops, outs⟩ := p
  have hn' : inp = (n : Int) := hn
  subst hn'
  have e : pst 10 (txt ⟨(n : Int), ops, outs⟩) = (lns ⟨(n : Int), ops, outs⟩, []) := by
    have := fold_ends (lns ⟨(n : Int), ops, outs⟩) [] (ten_lns _)
    rw [List.nil_append] at this
    exact this
  unfold rdS
  rw [e]
  show (match hdP (hdT n) with | some m => rdGo m [] 1 [] (stps n 0 ops ++ [outT n outs]) | none => (pz, 1)) = _
  rw [hdP_hdT (by have : (n : Int) ≤ 64 := h1; omega)]
  have ho : ∀ v ∈ outs, 0 ≤ v ∧ v < ((n + (([] : List O4).length + ops.length) : Nat) : Int) := fun v hv => by
    have := of_decide_eq_true (List.all_eq_true.1 h5 v hv)
    have h6 : v < (n : Int) + ops.length := this.2
    refine ⟨this.1, ?_⟩
    rw [List.length_nil]; omega
  exact rdGo_text (by have : (n : Int) ≤ 64 := h1; omega) h3 ops 1 [] h4 hc (by rw [List.length_nil]; have : ops.length ≤ 256 := h2; omega) ho
theorem stps_snoc (inp : Int) (os : List O4) (o : O4) : ∀ i, stps inp i (os ++ [o]) = stps inp i os ++ [stpT inp (i + os.length) o] := by
  induction os with
  | nil => intro i; rfl
  | cons x os ih =>
    intro i
    show stpT inp i x :: stps inp (i + 1) (os ++ [o]) = stpT inp i x :: (stps inp (i + 1) os ++ _)
    rw [ih (i + 1), show i + 1 + os.length = i + (x :: os).length by rw [List.length_cons]; omega]
theorem rdGo_some {n : Nat} (hn : n ≤ 64) (rest : Tx) : ∀ (ls : List Tx) (i : Nat) (ops : List O4), opsM n 0 ops = true → (∀ o ∈ ops, 0 ≤ o.c ∧ o.c ≤ 18446744073709551615) → ops.length ≤ 256 → (rdGo n rest i ops ls).2 = 0 →
    mayB (rdGo n rest i ops ls).1 = true ∧ Cw (rdGo n rest i ops ls).1 ∧ rest = [] ∧ lns (rdGo n rest i ops ls).1 = hdT n :: (stps n 0 ops ++ ls)
  | [], i, ops, _, _, _, h => by cases h
  | l :: ls, i, ops, hm, hc, hle, h => by
    rw [rdGo] at h ⊢
    by_cases ho : isOut l = true
    · rw [if_pos ho] at h ⊢
      cases hp : ouP n (n + ops.length) l with
      | none => rw [hp] at h; cases h
      | some outs =>
        rw [hp] at h
        have h' : ((if ls = [] ∧ rest = [] then ((⟨n, ops, outs⟩ : Pr), 0) else (pz, i + 2)) : Pr × Nat).2 = 0 := h
        show mayB ((if ls = [] ∧ rest = [] then ((⟨n, ops, outs⟩ : Pr), 0) else (pz, i + 2)) : Pr × Nat).1 = true ∧ Cw ((if ls = [] ∧ rest = [] then ((⟨n, ops, outs⟩ : Pr), 0) else (pz, i + 2)) : Pr × Nat).1 ∧ rest = [] ∧ lns ((if ls = [] ∧ rest = [] then ((⟨n, ops, outs⟩ : Pr), 0) else (pz, i + 2)) : Pr × Nat).1 = _
        by_cases hr : ls = [] ∧ rest = []
        · rw [if_pos hr]
          obtain ⟨o1, o2, o3⟩ := ouP_some hp
          refine ⟨mayB_iff.2 ⟨⟨by show (0 : Int) ≤ (n : Int); omega, by show (n : Int) ≤ 64; omega, hle, o1⟩, hm, ?_⟩, hc, hr.2, ?_⟩
          · show outs.all _ = true
            rw [List.all_eq_true]
            intro v hv
            have := o2 v hv
            exact decide_eq_true ⟨this.1, by show v < (n : Int) + ops.length; omega⟩
          · show hdT n :: (stps n 0 ops ++ [outT n outs]) = _
            rw [hr.1, o3]
        · rw [if_neg hr] at h'; cases h'
    · rw [if_neg ho] at h ⊢
      cases hp : stP n ops.length l with
      | none => rw [hp] at h; cases h
      | some o =>
        rw [hp] at h
        by_cases hl : ops.length < 256
        · have h' : (rdGo n rest (i + 1) (ops ++ [o]) ls).2 = 0 := by
            have : ((if ops.length < 256 then rdGo n rest (i + 1) (ops ++ [o]) ls else (pz, i + 1)) : Pr × Nat).2 = 0 := h
            rwa [if_pos hl] at this
          show mayB ((if ops.length < 256 then rdGo n rest (i + 1) (ops ++ [o]) ls else (pz, i + 1)) : Pr × Nat).1 = true ∧ Cw ((if ops.length < 256 then rdGo n rest (i + 1) (ops ++ [o]) ls else (pz, i + 1)) : Pr × Nat).1 ∧ rest = [] ∧ lns ((if ops.length < 256 then rdGo n rest (i + 1) (ops ++ [o]) ls else (pz, i + 1)) : Pr × Nat).1 = _
          rw [if_pos hl]
          obtain ⟨s1, s2, s3⟩ := stP_some hp
          have := rdGo_some hn rest ls (i + 1) (ops ++ [o]) (by rw [opsM_snoc, hm, Nat.zero_add, s1]; rfl) (fun x hx => by
            rcases List.mem_append.1 hx with hx | hx
            · exact hc x hx
            · rw [List.mem_singleton.1 hx]; exact s2) (by simp; omega) h'
          refine ⟨this.1, this.2.1, this.2.2.1, ?_⟩
          rw [this.2.2.2, stps_snoc, Nat.zero_add, ← s3, List.append_assoc]; rfl
        · have : ((if ops.length < 256 then rdGo n rest (i + 1) (ops ++ [o]) ls else (pz, i + 1)) : Pr × Nat).2 = 0 := h
          rw [if_neg hl] at this; cases this
/-- What is read is written so. -/
theorem text_read {s : Tx} (h : (rdS s).2 = 0) : mayB (rdS s).1 = true ∧ Cw (rdS s).1 ∧ txt (rdS s).1 = s := by
  have hs := pst_ends s
  unfold rdS at *
  generalize (pst 10 s).1 = ls at *
  generalize (pst 10 s).2 = rest at *
  cases ls with
  | nil => cases h
  | cons l ls =>
    have h' : (match hdP l with | some n => rdGo n rest 1 [] ls | none => (pz, 1)).2 = 0 := h
    show mayB (match hdP l with | some n => rdGo n rest 1 [] ls | none => (pz, 1)).1 = true ∧ Cw (match hdP l with | some n => rdGo n rest 1 [] ls | none => (pz, 1)).1 ∧ txt (match hdP l with | some n => rdGo n rest 1 [] ls | none => (pz, 1)).1 = s
    cases hp : hdP l with
    | none => rw [hp] at h'; cases h'
    | some n =>
      rw [hp] at h'
      obtain ⟨n1, n2⟩ := hdP_some hp
      have := rdGo_some n1 rest ls 1 [] rfl (fun o ho => by cases ho) (by simp) h'
      refine ⟨this.1, this.2.1, ?_⟩
      show ends (lns (rdGo n rest 1 [] ls).1) = s
      rw [this.2.2.2, ← n2, hs, this.2.2.1, List.append_nil]; rfl

end Go.Proofs.YtjkialmhajbcfaaDoor.Slp
